/- Chapter 5's program: DepthOf: the height ahead of the statement; nothing that was there is written. -/
import Derived.Test.YtdbgjcfcjehmbaaBlkG
import Derived.Test.YtdbgjcfcjehmbaaBlkD
import Derived.Test.YtdbgjcfcjehmbaaBlkC
namespace Go.Proofs.Ytdbgjcfcjehmbaa.blk
open Go Go.ChangeShapes Go.WideShapes Go.ChangeAt Go.RowKit Go.Proofs.Ytdbgjcfcjehmbaa.row Go.Proofs.Ytdbgjcfcjehmbaa.val Go.Proofs.Ytdbgjcfcjehmbaa.expr Go.Proofs.Ytdbgjcfcjehmbaa.stm

set_option maxHeartbeats 4000000 in
set_option maxRecDepth 100000 in
theorem impl_depthof (a : Option Addr) (n cap : Nat) (L : List Go.Proofs.Ytdbgjcfcjehmbaa.stm.St) (hn : (n : Int) ≤ 1048576) (hcap : n ≤ cap) (w : World) (h : StRow w a n L) (i : Int) (X : Int) (hX : DepthIs L i X) :
    Calls Try.prog 11 #[.slice a n cap, .int .i64 i] w (BelI w X) := by
  have HL := Lib.hid h
  have hlen : L.length = n := h.1
  by_cases hin : IsBlk L ∧ 0 ≤ i ∧ i < n
  · obtain ⟨hb, h0, h1⟩ := hin
    have HB := Lib.hid hb
    obtain ⟨j, rfl⟩ : ∃ j : Nat, i = j := ⟨i.toNat, by omega⟩
    have HBT := Lib.hid (show true = true ↔ (IsBlk L ∧ 0 ≤ (j : Int) ∧ (j : Int) < n) from ⟨fun _ => ⟨hb, h0, h1⟩, fun _ => rfl⟩)
    have HXJ := Lib.hid (depthIs_yes hX hb (show j < L.length by omega))
    have hn24 : n ≤ 24 := by have := hb.2.2; omega
    obtain ⟨b, off, s0, ha, hlb, hs, hrg⟩ := h.2 j (by omega)
    have hjn : j < n := by omega
    have hjc : (j : Int) ≤ cap := by omega
    subst ha
    clear h hX hb hlen hs hrg hlb
    by_cases hj0 : j = 0
    · subst hj0
      have HX0 := Lib.hid (show X = 0 by rw [HXJ.out]; exact hAt_zero L)
      have HBZ := Lib.hid (show true = true ↔ (IsBlk L ∧ 0 ≤ (0 : Int) ∧ (0 : Int) < n) from HBT.out)
      show Calls Try.prog 11 #[.slice (some ⟨b, off, none⟩) n cap, .int .i64 0] w (BelI w X)
      clear HBT HXJ h0 h1 hjn hjc
      go_enter Try.func11, Try.ntmps11
      go_wp2_with (go_at_call 25; (with_reducible refine (impl_blockhas _ n cap L hn _ HL.out 0 true HBZ.out).mono ?_); rintro e w2 ⟨rfl, hb2⟩; refine Hid.out ?_)
      have HB2 := Lib.hid hb2
      clear hb2
      refine Lib.hid ?_
      go_wp2
      go_loopw [5, 17] (fun m' k' wr => m' = .int .i64 0 ∧ k' = .int .i64 0 ∧ Below w.heap.size w wr) (fun _ _ _ => 0)
      case atStart => exact ⟨rfl, rfl, HB2.out⟩
      case round =>
        obtain ⟨rfl, rfl, hbel⟩ := hrel
        have HBB := Lib.hid hbel
        clear hbel
        go_wp2
        go_ret
        exact ⟨by rw [HX0.out]; rfl, HBB.out⟩
    · have hj1 : ¬ (j : Int) = 0 := by omega
      go_enter Try.func11, Try.ntmps11
      go_wp2_with (go_at_call 25; (with_reducible refine (impl_blockhas _ n cap L hn _ HL.out _ true HBT.out).mono ?_); rintro e w2 ⟨rfl, hb2⟩; refine Hid.out ?_)
      have HB2 := Lib.hid hb2
      clear hb2
      refine Lib.hid ?_
      go_wp2
      go_loopw [5, 17] (fun m' k' wr => ∃ (k : Nat) (m : Int), k ≤ j ∧ k' = .int .i64 k ∧ m' = .int .i64 m ∧ 0 ≤ m ∧ m ≤ 3 ∧ Hid (m = hAt L k) ∧ Below w.heap.size w wr) (fun _ k' _ => j - (intOf k').toNat)
      case atStart => exact ⟨0, 0, Nat.zero_le _, rfl, rfl, by omega, by omega, (hAt_zero L).symm, HB2.out⟩
      case round =>
        obtain ⟨k, m, hk, rfl, rfl, hm0, hm3, hM, hbel⟩ := hrel
        by_cases hlt : k < j
        · obtain ⟨b', off', s, hbb, hlb, hs, hrg⟩ := (HL.out.below hbel).2 k (by omega)
          simp only [Option.some.injEq, Addr.mk.injEq, and_true] at hbb
          obtain ⟨rfl, rfl⟩ := hbb
          have HS := Lib.hid (And.intro hrg (And.intro hs hbel))
          have HX := Lib.hid (And.intro (Box.new wr #[.int .i64 0, .int .i64 0, .int .i64 0, .int .i64 0, .int .i64 0, .int .i64 0] 31) (hbel.alloc hbel.size (.cells #[.int .i64 0, .int .i64 0, .int .i64 0, .int .i64 0, .int .i64 0, .int .i64 0] 31)))
          have hsz := hbel.size
          have hI : (k : Int) < j := by omega
          have hnx := hAt_succ hs
          have hbd := blk_bounds HB.out (k + 1)
          obtain ⟨d, hd⟩ : ∃ d, dlt s = d := ⟨_, rfl⟩
          have hdr := dlt_range s
          rw [hd] at hnx hdr
          rw [← hM.out] at hnx
          rw [hnx] at hbd
          have hd0 := hdr.1
          have hd1 := hdr.2
          have hmd0 := hbd.1
          have hmd3 := hbd.2
          have HD := Lib.hid hd
          have HN := Lib.hid hnx.symm
          clear hrg hs hbel hnx hdr hd hbd
          go_wp2_with (first
            | (refine wpList_load_mid rfl 31 _ rfl b (off + k * 6) rfl (stC s) _ HS.out.1 Try.underlying31 rfl (by kernel_rfl) ?_)
            | ((refine wpList_store_box rfl 31 _ _ rfl wr.heap.size _ _ HX.out.1 #[.int .i64 s.k, .int .i64 s.v, .int .i64 s.n, .int .i64 s.o, .int .i64 s.a, .int .i64 s.b] rfl rfl rfl (by kernel_rfl) (by simp [Value.oneCell']) ?_); intro w3 hx3 hg3; refine Hid.out ?_))
          have H3 := Lib.hid (And.intro hx3 (HX.out.2.grown hg3 HX.out.2.size (fun j hj => by cases hj; exact hsz)))
          clear hx3 hg3
          refine Lib.hid ?_
          go_wp2_with (first
            | (refine wpList_load_row rfl 31 _ rfl wr.heap.size rfl _ _ _ _ H3.out.1 Try.underlying31 rfl (by kernel_rfl) ?_)
            | (go_at_call 23; (with_reducible refine (impl_delta s d HD.out _).mono ?_); rintro e w4 ⟨rfl, hb4⟩; refine Hid.out ?_))
          have HB4 := Lib.hid (below_then H3.out.2 hb4)
          clear hb4
          refine Lib.hid ?_
          go_wp2
          go_roundw
          case rel => exact ⟨k + 1, m + d, by omega, by go_num, rfl, hmd0, hmd3, HN, HB4.out⟩
          case measure => simp [intOf]; omega
        · obtain rfl : k = j := by omega
          have hI : ¬ (k : Int) < k := by omega
          have HR := Lib.hid (show X = m by rw [HXJ.out]; exact hM.out.symm)
          have HBB := Lib.hid hbel
          clear hbel
          go_wp2
          go_ret
          exact ⟨by rw [HR.out]; rfl, HBB.out⟩
  · have hn2 : ¬ IsBlk L ∨ i < 0 ∨ (L.length : Int) ≤ i := by
      rw [hlen]
      rcases Classical.em (IsBlk L) with hb | hb
      · right
        rcases (show i < 0 ∨ (n : Int) ≤ i ∨ (0 ≤ i ∧ i < n) by omega) with h | h | h
        · exact .inl h
        · exact .inr h
        · exact absurd ⟨hb, h⟩ hin
      · exact .inl hb
    obtain rfl := depthIs_not hX hn2
    have HBF := Lib.hid (show false = true ↔ (IsBlk L ∧ 0 ≤ i ∧ i < n) from ⟨fun h => (by cases h), fun h => absurd h hin⟩)
    clear h hX hin hlen hn2
    go_enter Try.func11, Try.ntmps11
    go_wp2_with (go_at_call 25; (with_reducible refine (impl_blockhas _ n cap L hn _ HL.out i false HBF.out).mono ?_); rintro e w2 ⟨rfl, hb2⟩)
    go_ret
    exact ⟨rfl, hb2⟩
end Go.Proofs.Ytdbgjcfcjehmbaa.blk
