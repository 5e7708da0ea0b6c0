/- Chapter 5's model: DepthOf: the height ahead of the statement; nothing that was there is written. -/
import Derived.Test.YtdbgjcfcjehmbaaBlkE
namespace Go.Proofs.Ytdbgjcfcjehmbaa.blk
open Go Go.ChangeShapes Go.WideShapes Go.ChangeAt Go.RowKit Go.Proofs.Ytdbgjcfcjehmbaa.row Go.Proofs.Ytdbgjcfcjehmbaa.val Go.Proofs.Ytdbgjcfcjehmbaa.expr Go.Proofs.Ytdbgjcfcjehmbaa.stm

theorem depthIs_not {L : List Go.Proofs.Ytdbgjcfcjehmbaa.stm.St} {i x : Int} (h : DepthIs L i x) (hn : ¬ IsBlk L ∨ i < 0 ∨ (L.length : Int) ≤ i) : x = -1 := by
  rcases h with ⟨j, rfl, hl, hb, rfl⟩ | ⟨rfl, _⟩
  · rcases hn with hn | hn | hn
    · exact absurd hb hn
    · omega
    · omega
  · rfl
theorem depthIs_yes {L : List Go.Proofs.Ytdbgjcfcjehmbaa.stm.St} {j : Nat} {x : Int} (h : DepthIs L j x) (hb : IsBlk L) (hl : j < L.length) : x = hAt L j := h.unique (.inl ⟨j, rfl, hl, hb, rfl⟩)
set_option maxHeartbeats 4000000 in
set_option maxRecDepth 100000 in
theorem spec_depthof (a : Option Addr) (n cap : Nat) (L : List Go.Proofs.Ytdbgjcfcjehmbaa.stm.St) (hn : (n : Int) ≤ 1048576) (w : World) (h : StRow w a n L) (i : Int) (X : Int) (hX : DepthIs L i X) :
    Calls Try.prog 18 #[.slice a n cap, .int .i64 i] w (BelI w X) := by
  have HL := Lib.hid h
  have hlen : L.length = n := h.1
  by_cases hb : IsBlk L
  · have HB := Lib.hid hb
    have HBT := Lib.hid (show true = true ↔ IsBlk L from ⟨fun _ => hb, fun _ => rfl⟩)
    rcases (show (i < 0 ∨ (n : Int) ≤ i) ∨ (0 ≤ i ∧ i < n) by omega) with hi | ⟨h0, h1⟩
    · obtain rfl := depthIs_not hX (.inr (by rw [hlen]; exact hi))
      have HIN := Lib.hid (show (decide (0 ≤ i) && decide (i ≤ (n : Int) - 1)) = false by simp; omega)
      clear h hX hb hi hlen
      go_enter Try.func18, Try.ntmps18
      go_wp2_with (first
        | (go_at_call 14; refine (spec_blockok a n cap L hn _ HL.out true HBT.out).mono ?_; rintro e w2 ⟨rfl, hb2⟩)
        | (go_at_call 29; (with_reducible refine (in_any _ 0 _ _ HIN.out _).mono ?_); rintro e w3 ⟨rfl, rfl⟩))
      go_ret
      exact ⟨rfl, hb2⟩
    · obtain ⟨j, rfl⟩ : ∃ j : Nat, i = j := ⟨i.toNat, by omega⟩
      have HXJ := Lib.hid (depthIs_yes hX hb (show j < L.length by omega))
      have HIN := Lib.hid (show (decide ((0 : Int) ≤ j) && decide ((j : Int) ≤ (n : Int) - 1)) = true by simp; omega)
      have HJ := Lib.hid (show j ≤ L.length by omega)
      have hjn : j < n := by omega
      have hn24 : n ≤ 24 := by have := hb.2.2; omega
      clear h hX hb hlen
      go_enter Try.func18, Try.ntmps18
      go_wp2_with (first
        | (go_at_call 14; refine (spec_blockok a n cap L hn _ HL.out true HBT.out).mono ?_; rintro e w2 ⟨rfl, hb2⟩)
        | (go_at_call 29; (with_reducible refine (in_any _ 0 _ _ HIN.out _).mono ?_); rintro e w3 ⟨rfl, rfl⟩))
      go_loopw [5, 6] (fun m' k' wr => ∃ (k : Nat) (m : Int), k ≤ j ∧ k' = .int .i64 k ∧ m' = .int .i64 m ∧ -100 ≤ m ∧ m ≤ 3 ∧ Hid (IsMin L j k m) ∧ Below w.heap.size w wr) (fun _ k' _ => j - (intOf k').toNat)
      case atStart => exact ⟨0, 0, Nat.zero_le _, rfl, rfl, by omega, by omega, isMin_start HB.out j, hb2⟩
      case round =>
        obtain ⟨k, m, hk, rfl, rfl, hm0, hm3, hM, hbel⟩ := hrel
        by_cases hlt : k < j
        · obtain ⟨b, off, s, rfl, hlb, hs, hrg⟩ := (HL.out.below hbel).2 k (by omega)
          have HS := Lib.hid (And.intro hrg (And.intro hs hbel))
          have hI : (k : Int) < j := by omega
          have hI2 : (k : Int) < n := by omega
          have hbj := blk_bounds HB.out j
          clear hrg hs hbel
          cases ho : opn s
          · have HO := Lib.hid ho
            have HM2 := Lib.hid (isMin_shut hM.out hlt (fun h => by rw [openAt_opn HS.out.2.1 hlt h] at ho; cases ho))
            clear ho
            go_wp2_with (first
              | (refine wpList_load_mid rfl 31 _ rfl b (off + k * 6) rfl (stC s) _ HS.out.1 Try.underlying31 rfl (by kernel_rfl) ?_)
              | (go_at_call 32; refine (spec_opens s false HO.out _).mono ?_; rintro e w4 ⟨rfl, hb4⟩; refine Hid.out ?_))
            have HB4 := Lib.hid (below_then HS.out.2.2 hb4)
            clear hb4
            refine Lib.hid ?_
            go_wp2
            go_roundw
            case rel => exact ⟨k + 1, m, by omega, by go_num, rfl, hm0, hm3, HM2, HB4.out⟩
            case measure => simp [intOf]; omega
          · obtain ⟨e, he⟩ := end_exists HB.out HS.out.2.1 ho
            have HO := Lib.hid ho
            have HE := Lib.hid he
            have hoe := openAt_end (i := j) he
            by_cases hje : j ≤ e
            · have HM2 := Lib.hid (isMin_open hM.out hlt HJ.out (hoe.1 hje))
              have hm4 : m + 1 ≤ 3 := by have := (HM2.out.1 j (by omega) (Nat.le_refl _)); omega
              have hjI : (j : Int) ≤ e := by omega
              clear ho he hoe hje
              go_wp2_with (first
                | (refine wpList_load_mid rfl 31 _ rfl b (off + k * 6) rfl (stC s) _ HS.out.1 Try.underlying31 rfl (by kernel_rfl) ?_)
                | (go_at_call 32; refine (spec_opens s true HO.out _).mono ?_; rintro e4 w4 ⟨rfl, hb4⟩; refine Hid.out ?_))
              have HB4 := Lib.hid (below_then HS.out.2.2 hb4)
              clear hb4
              refine Lib.hid ?_
              go_wp2_with (go_at_call 33; refine (spec_end _ n cap L _ (HL.out.below HB4.out) HB.out k e HE.out _ rfl).mono ?_; rintro e5 w5 ⟨rfl, hb5⟩; refine Hid.out ?_)
              have HB5 := Lib.hid (below_then HB4.out hb5)
              clear hb5
              refine Lib.hid ?_
              go_wp2
              go_roundw
              case rel => exact ⟨k + 1, m + 1, by omega, by go_num, rfl, by omega, hm4, HM2, HB5.out⟩
              case measure => simp [intOf]; omega
            · have HM2 := Lib.hid (isMin_shut hM.out hlt (fun h => hje (hoe.2 h)))
              have hjI : (e : Int) < j := by omega
              clear ho he hoe hje
              go_wp2_with (first
                | (refine wpList_load_mid rfl 31 _ rfl b (off + k * 6) rfl (stC s) _ HS.out.1 Try.underlying31 rfl (by kernel_rfl) ?_)
                | (go_at_call 32; refine (spec_opens s true HO.out _).mono ?_; rintro e4 w4 ⟨rfl, hb4⟩; refine Hid.out ?_))
              have HB4 := Lib.hid (below_then HS.out.2.2 hb4)
              clear hb4
              refine Lib.hid ?_
              go_wp2_with (go_at_call 33; refine (spec_end _ n cap L _ (HL.out.below HB4.out) HB.out k e HE.out _ rfl).mono ?_; rintro e5 w5 ⟨rfl, hb5⟩; refine Hid.out ?_)
              have HB5 := Lib.hid (below_then HB4.out hb5)
              clear hb5
              refine Lib.hid ?_
              go_wp2
              go_roundw
              case rel => exact ⟨k + 1, m, by omega, by go_num, rfl, hm0, hm3, HM2, HB5.out⟩
              case measure => simp [intOf]; omega
        · obtain rfl : k = j := by omega
          have hI : ¬ (k : Int) < k := by omega
          have HR := Lib.hid (show X = m by rw [HXJ.out]; exact (isMin_end hM.out).symm)
          have HBB := Lib.hid hbel
          clear hbel
          go_wp2
          go_ret
          exact ⟨by rw [HR.out]; rfl, HBB.out⟩
  · obtain rfl := depthIs_not hX (.inl hb)
    have HBF := Lib.hid (show false = true ↔ IsBlk L from ⟨fun h => (by cases h), fun h => absurd h hb⟩)
    clear h hX hb hlen
    go_enter Try.func18, Try.ntmps18
    go_wp2_with (go_at_call 14; refine (spec_blockok a n cap L hn _ HL.out false HBF.out).mono ?_; rintro e w2 ⟨rfl, hb2⟩)
    go_ret
    exact ⟨rfl, hb2⟩
end Go.Proofs.Ytdbgjcfcjehmbaa.blk
