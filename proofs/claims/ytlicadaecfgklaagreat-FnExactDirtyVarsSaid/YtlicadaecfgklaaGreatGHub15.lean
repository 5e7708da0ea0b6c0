/- Several texts in one: BlkE. -/
import Derived.Test.YtlicadaecfgklaaGreatGHub14

/- Chapter 5's model: what opens, the matching end, EndOf, DepthOf: what the plain relations say; nothing that was there is written. -/
namespace Go.Proofs.YtlicadaecfgklaaGreat.blk
open Go Go.ChangeShapes Go.WideShapes Go.ChangeAt Go.RowKit Go.Proofs.YtlicadaecfgklaaGreat.row Go.Proofs.YtlicadaecfgklaaGreat.val Go.Proofs.YtlicadaecfgklaaGreat.expr Go.Proofs.YtlicadaecfgklaaGreat.stm

theorem spec_opens (s : Go.Proofs.YtlicadaecfgklaaGreat.stm.St) (r : Bool) (hr : opn s = r) (w : World) : Calls Tryz.prog 82 #[stV s] w (BelB w r) := by
  subst hr
  by_cases h4 : s.k = 4
  · have HE := Lib.hid (show opn s = true by unfold opn; rw [h4]; rfl)
    have hq : (s.k == 4) = true := by rw [h4]; rfl
    clear h4
    go_enter Tryz.func82, Tryz.ntmps82
    go_wp2
    go_ret
    exact ⟨by rw [HE.out]; rfl, below_new w _⟩
  · have hq : (s.k == 4) = false := by rw [beq_eq_false_iff_ne]; exact h4
    by_cases h5 : s.k = 5
    · have HE := Lib.hid (show opn s = true by unfold opn; rw [h5]; rfl)
      have hq5 : (s.k == 5) = true := by rw [h5]; rfl
      clear h4 h5
      go_enter Tryz.func82, Tryz.ntmps82
      go_wp2
      go_ret
      exact ⟨by rw [HE.out]; rfl, below_new w _⟩
    · have hq5 : (s.k == 5) = false := by rw [beq_eq_false_iff_ne]; exact h5
      have HE := Lib.hid (show opn s = false by unfold opn; rw [hq, hq5]; rfl)
      clear h4 h5
      go_enter Tryz.func82, Tryz.ntmps82
      go_wp2
      go_ret
      exact ⟨by rw [HE.out]; rfl, below_new w _⟩
set_option maxHeartbeats 4000000 in
set_option maxRecDepth 100000 in
theorem spec_end (a : Option Addr) (n cap : Nat) (L : List Go.Proofs.YtlicadaecfgklaaGreat.stm.St) (w : World) (h : StRow w a n L) (hb : IsBlk L) (i e : Nat) (he : IsEnd L i e) (X : Int) (hX : X = e) :
    Calls Tryz.prog 61 #[.slice a n cap, .int .i64 i] w (BelI w X) := by
  have HL := Lib.hid h
  have HB := Lib.hid hb
  have HE := Lib.hid he
  have hie := he.1
  have hel : e < n := by have := he.2.1; rw [h.1] at this; exact this
  have hn24 : n ≤ 24 := by have := hb.2.2; rw [h.1] at this; exact this
  have HX := Lib.hid hX
  clear h hb he hX
  go_enter Tryz.func61, Tryz.ntmps61
  go_wp2
  go_loopw [5, 6] (fun o k' wr => ∃ (k : Nat) (x : Int), i ≤ k ∧ k ≤ e ∧ k' = .int .i64 k ∧ o = .int .i64 x ∧ -3 ≤ x ∧ x ≤ 3 ∧ Hid (x = hAt L k - hAt L i) ∧ Below w.heap.size w wr) (fun _ k' _ => e + 1 - (intOf k').toNat)
  case atStart => exact ⟨i, 0, Nat.le_refl _, by omega, rfl, rfl, by omega, by omega, show (0 : Int) = hAt L i - hAt L i by omega, Below.refl _ _⟩
  case round =>
    obtain ⟨k, x, hik, hke, rfl, rfl, hx0, hx3, hH, hbel⟩ := hrel
    obtain ⟨b, off, s, rfl, hlb, hs, hrg⟩ := (HL.out.below hbel).2 k (by omega)
    have HS := Lib.hid (And.intro hrg (And.intro hs hbel))
    have hI : (k : Int) < n := by omega
    have hnx := hAt_succ hs
    have hbd := blk_bounds HB.out (k + 1)
    have hbi := blk_bounds HB.out i
    obtain ⟨d, hd⟩ : ∃ d, dlt s = d := ⟨_, rfl⟩
    rw [hd] at hnx
    have hHo := hH.out
    have hend : k = e → s.k = 6 ∧ x + d = 0 := fun hk => by
      subst hk
      obtain ⟨t, ht, h6⟩ := HE.out.kind
      rw [hs] at ht; cases ht
      exact ⟨h6, by have := HE.out.2.2.1; omega⟩
    have hmid : k < e → 0 < x + d := fun hk => by have := HE.out.2.2.2 (k + 1) (by omega) (by omega); omega
    have HH := Lib.hid (show x + d = hAt L (k + 1) - hAt L i by omega)
    have hxd : -3 ≤ x + d ∧ x + d ≤ 3 := by omega
    clear hrg hs hbel hnx hbd hbi hHo
    rcases (show (opn s = true ∧ s.k ≠ 6 ∧ d = 1) ∨ (opn s = false ∧ s.k = 6 ∧ d = -1) ∨ (opn s = false ∧ s.k ≠ 6 ∧ d = 0) by rw [← hd]; exact dlt_cases s) with ⟨ho, h6, rfl⟩ | ⟨ho, h6, rfl⟩ | ⟨ho, h6, rfl⟩
    · have hlt : k < e := by
        rcases Nat.lt_or_ge k e with h | h
        · exact h
        · exact absurd (hend (by omega)).1 h6
      have hq6 : (s.k == 6) = false := by rw [beq_eq_false_iff_ne]; exact h6
      have HO := Lib.hid ho
      clear ho h6 hd hend hmid
      go_wp2_with (first
        | (refine wpList_load_mid rfl 68 _ rfl b (off + k * 6) rfl (stC s) _ HS.out.1 Tryz.underlying68 rfl (by kernel_rfl) ?_)
        | (go_at_call 82; refine (spec_opens s true HO.out _).mono ?_; rintro e w2 ⟨rfl, hb2⟩; refine Hid.out ?_))
      have hc2 := (hb2.cell (p := ⟨b, off + k * 6, none⟩) hlb).trans (range6 HS.out.1).1
      have HB2 := Lib.hid (below_then HS.out.2.2 hb2)
      clear hb2
      refine Lib.hid ?_
      go_wp2
      go_roundw
      case rel => exact ⟨k + 1, x + 1, by omega, by omega, by go_num, rfl, by omega, by omega, HH, HB2.out⟩
      case measure => simp [intOf]; omega
    · have hq6 : (s.k == 6) = true := by rw [h6]; rfl
      have HO := Lib.hid ho
      by_cases hk : k = e
      · have hz := (hend hk).2
        have hxe : x = 1 := by omega
        have HXK := Lib.hid (show X = (k : Int) by rw [HX.out, hk])
        subst hxe
        clear ho h6 hd hend hmid hz hk
        go_wp2_with (first
          | (refine wpList_load_mid rfl 68 _ rfl b (off + k * 6) rfl (stC s) _ HS.out.1 Tryz.underlying68 rfl (by kernel_rfl) ?_)
          | (go_at_call 82; refine (spec_opens s false HO.out _).mono ?_; rintro e w2 ⟨rfl, hb2⟩; refine Hid.out ?_))
        have hc2 := (hb2.cell (p := ⟨b, off + k * 6, none⟩) hlb).trans (range6 HS.out.1).1
        have HB2 := Lib.hid (below_then HS.out.2.2 hb2)
        clear hb2
        refine Lib.hid ?_
        go_wp2
        go_ret
        exact ⟨by rw [HXK.out]; rfl, HB2.out⟩
      · have hm := hmid (by omega)
        have hz : (x - 1 == 0) = false := by rw [beq_eq_false_iff_ne]; omega
        clear ho h6 hd hend hmid
        go_wp2_with (first
          | (refine wpList_load_mid rfl 68 _ rfl b (off + k * 6) rfl (stC s) _ HS.out.1 Tryz.underlying68 rfl (by kernel_rfl) ?_)
          | (go_at_call 82; refine (spec_opens s false HO.out _).mono ?_; rintro e w2 ⟨rfl, hb2⟩; refine Hid.out ?_))
        have hc2 := (hb2.cell (p := ⟨b, off + k * 6, none⟩) hlb).trans (range6 HS.out.1).1
        have HB2 := Lib.hid (below_then HS.out.2.2 hb2)
        clear hb2
        refine Lib.hid ?_
        go_wp2
        go_roundw
        case rel => exact ⟨k + 1, x - 1, by omega, by omega, by go_num, rfl, by omega, by omega, HH, HB2.out⟩
        case measure => simp [intOf]; omega
    · have hlt : k < e := by
        rcases Nat.lt_or_ge k e with h | h
        · exact h
        · exact absurd (hend (by omega)).1 h6
      have hq6 : (s.k == 6) = false := by rw [beq_eq_false_iff_ne]; exact h6
      have HO := Lib.hid ho
      have HH2 := Lib.hid (show x = hAt L (k + 1) - hAt L i by have := HH.out; omega)
      clear ho h6 hd hend hmid
      go_wp2_with (first
        | (refine wpList_load_mid rfl 68 _ rfl b (off + k * 6) rfl (stC s) _ HS.out.1 Tryz.underlying68 rfl (by kernel_rfl) ?_)
        | (go_at_call 82; refine (spec_opens s false HO.out _).mono ?_; rintro e w2 ⟨rfl, hb2⟩; refine Hid.out ?_))
      have hc2 := (hb2.cell (p := ⟨b, off + k * 6, none⟩) hlb).trans (range6 HS.out.1).1
      have HB2 := Lib.hid (below_then HS.out.2.2 hb2)
      clear hb2
      refine Lib.hid ?_
      go_wp2
      go_roundw
      case rel => exact ⟨k + 1, x, by omega, by omega, by go_num, rfl, by omega, by omega, HH2, HB2.out⟩
      case measure => simp [intOf]; omega
theorem endIs_not {L : List Go.Proofs.YtlicadaecfgklaaGreat.stm.St} {i x : Int} (h : EndIs L i x) (hn : ¬ IsBlk L ∨ i < 0 ∨ (L.length : Int) ≤ i) : x = -1 := by
  rcases h with ⟨j, e, rfl, hb, he, rfl⟩ | ⟨rfl, _⟩
  · rcases hn with hn | hn | hn
    · exact absurd hb hn
    · omega
    · have := he.1; have := he.2.1; omega
  · rfl
theorem endIs_flat {L : List Go.Proofs.YtlicadaecfgklaaGreat.stm.St} {j : Nat} {x : Int} {s : Go.Proofs.YtlicadaecfgklaaGreat.stm.St} (h : EndIs L j x) (hs : L[j]? = some s) (ho : opn s = false) : x = -1 := by
  rcases h with ⟨j', e, hj, hb, he, rfl⟩ | ⟨rfl, _⟩
  · obtain rfl : j = j' := by omega
    obtain ⟨t, ht, hot⟩ := he.opens
    rw [hs] at ht; cases ht; rw [ho] at hot; cases hot
  · rfl
theorem endIs_yes {L : List Go.Proofs.YtlicadaecfgklaaGreat.stm.St} {j e : Nat} {x : Int} (h : EndIs L j x) (hb : IsBlk L) (he : IsEnd L j e) : x = e := h.unique (.inl ⟨j, e, rfl, hb, he, rfl⟩)
end Go.Proofs.YtlicadaecfgklaaGreat.blk
