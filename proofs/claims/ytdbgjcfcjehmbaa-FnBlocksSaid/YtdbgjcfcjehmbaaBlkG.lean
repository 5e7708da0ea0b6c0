/- Chapter 5's program: the matching end, whether a block has a place, EndOf: what the plain relations say; nothing that was there is written. -/
import Derived.Test.YtdbgjcfcjehmbaaBlkF
namespace Go.Proofs.Ytdbgjcfcjehmbaa.blk
open Go Go.ChangeShapes Go.WideShapes Go.ChangeAt Go.RowKit Go.Proofs.Ytdbgjcfcjehmbaa.row Go.Proofs.Ytdbgjcfcjehmbaa.val Go.Proofs.Ytdbgjcfcjehmbaa.expr Go.Proofs.Ytdbgjcfcjehmbaa.stm

set_option maxHeartbeats 4000000 in
set_option maxRecDepth 100000 in
theorem impl_end (a : Option Addr) (n cap : Nat) (L : List Go.Proofs.Ytdbgjcfcjehmbaa.stm.St) (w : World) (h : StRow w a n L) (hb : IsBlk L) (i e : Nat) (he : IsEnd L i e) (X : Int) (hX : X = e) :
    Calls Try.prog 27 #[.slice a n cap, .int .i64 i] w (BelI w X) := by
  have HL := Lib.hid h
  have HB := Lib.hid hb
  have HE := Lib.hid he
  have hie := he.1
  have hel : e < n := by have := he.2.1; rw [h.1] at this; exact this
  have hn24 : n ≤ 24 := by have := hb.2.2; rw [h.1] at this; exact this
  have h1 : (1 : Int) = hAt L (i + 1) - hAt L i := by
    obtain ⟨s, hs, ho⟩ := he.opens
    rw [hAt_succ hs, dlt_opn ho]; omega
  have H1 := Lib.hid h1
  have HX := Lib.hid hX
  clear h hb he hX h1
  go_enter Try.func27, Try.ntmps27
  go_wp2
  go_loopw [5, 6] (fun k' o wr => ∃ (k : Nat) (x : Int), i ≤ k ∧ k ≤ e ∧ k' = .int .i64 k ∧ o = .int .i64 x ∧ 0 ≤ x ∧ x ≤ 3 ∧ Hid (x = hAt L (k + 1) - hAt L i) ∧ Below w.heap.size w wr) (fun k' _ _ => e + 1 - (intOf k').toNat)
  case atStart => exact ⟨i, 1, Nat.le_refl _, by omega, rfl, rfl, by omega, by omega, H1.out, Below.refl _ _⟩
  case round =>
    obtain ⟨k, x, hik, hke, rfl, rfl, hx0, hx3, hH, hbel⟩ := hrel
    by_cases hlt : k < e
    · obtain ⟨b, off, s, rfl, hlb, hs, hrg⟩ := (HL.out.below hbel).2 (k + 1) (by omega)
      have HS := Lib.hid (And.intro hrg (And.intro hs hbel))
      have hxp : 0 < x := by have := HE.out.2.2.2 (k + 1) (by omega) (by omega); have := hH.out; omega
      have hI : ((k : Int) + 1) < n := by omega
      have hnx := hAt_succ hs
      have hbd := blk_bounds HB.out (k + 1 + 1)
      have hbi := blk_bounds HB.out i
      have hmid : hAt L i ≤ hAt L (k + 1 + 1) := by
        rcases Nat.lt_or_ge (k + 1) e with hk | hk
        · have := HE.out.2.2.2 (k + 1 + 1) (by omega) (by omega); omega
        · obtain rfl : e = k + 1 := by omega
          have := HE.out.2.2.1; omega
      obtain ⟨d, hd⟩ : ∃ d, dlt s = d := ⟨_, rfl⟩
      have HD := Lib.hid hd
      rw [hd] at hnx
      have hHo := hH.out
      have HH := Lib.hid (show x + d = hAt L (k + 1 + 1) - hAt L i by omega)
      have hxd0 : 0 ≤ x + d := by omega
      have hxd3 : x + d ≤ 3 := by omega
      have hdr := dlt_range s
      rw [hd] at hdr
      have hd0 := hdr.1
      have hd1 := hdr.2
      have hc : ((k + 1 : Nat) : Int) = (k : Int) + 1 := by omega
      clear hrg hs hbel hnx hbd hbi hHo hd hmid hdr
      go_wp2_with (first
        | (refine wpList_load_mid rfl 31 _ rfl b (off + (k + 1) * 6) rfl (stC s) _ HS.out.1 Try.underlying31 rfl (by kernel_rfl) ?_)
        | (go_at_call 23; refine (impl_delta s d HD.out _).mono ?_; rintro e2 w2 ⟨rfl, hb2⟩; refine Hid.out ?_))
      have HB2 := Lib.hid (below_then HS.out.2.2 hb2)
      clear hb2
      refine Lib.hid ?_
      go_wp2
      go_roundw
      case rel => exact ⟨k + 1, x + d, by omega, by omega, by go_num, rfl, hxd0, hxd3, HH, HB2.out⟩
      case measure => simp [intOf]; omega
    · obtain rfl : k = e := by omega
      have hz : x = 0 := by have := hH.out; have := HE.out.2.2.1; omega
      have HBB := Lib.hid hbel
      clear hbel
      subst hz
      go_wp2
      go_ret
      exact ⟨by rw [HX.out]; rfl, HBB.out⟩
set_option maxHeartbeats 4000000 in
theorem impl_blockhas (a : Option Addr) (n cap : Nat) (L : List Go.Proofs.Ytdbgjcfcjehmbaa.stm.St) (hn : (n : Int) ≤ 1048576) (w : World) (h : StRow w a n L) (i : Int) (r : Bool) (hr : r = true ↔ (IsBlk L ∧ 0 ≤ i ∧ i < n)) :
    Calls Try.prog 25 #[.slice a n cap, .int .i64 i] w (BelB w r) := by
  have HL := Lib.hid h
  by_cases hb : IsBlk L
  · have HBT := Lib.hid (show true = true ↔ IsBlk L from ⟨fun _ => hb, fun _ => rfl⟩)
    rcases (show i < 0 ∨ (0 ≤ i ∧ (n : Int) ≤ i) ∨ (0 ≤ i ∧ i < n) by omega) with hi | ⟨h0, hi⟩ | ⟨h0, hi⟩
    · have hrf : r = false := by rw [← Bool.not_eq_true]; intro e; have := hr.1 e; omega
      have hi2 : ¬ 0 ≤ i := by omega
      clear h hr hb
      subst hrf
      go_enter Try.func25, Try.ntmps25
      go_wp2_with (go_at_call 10; (with_reducible refine (impl_blockok a n cap L hn _ HL.out true HBT.out).mono ?_); rintro e w2 ⟨rfl, hb2⟩)
      go_ret
      exact ⟨rfl, hb2⟩
    · have hrf : r = false := by rw [← Bool.not_eq_true]; intro e; have := hr.1 e; omega
      have hi2 : ¬ i < n := by omega
      have HDD := Lib.hid (show decide (i < (n : Int)) = false by simp; omega)
      clear h hr hb
      subst hrf
      go_enter Try.func25, Try.ntmps25
      go_wp2_with (go_at_call 10; (with_reducible refine (impl_blockok a n cap L hn _ HL.out true HBT.out).mono ?_); rintro e w2 ⟨rfl, hb2⟩)
      go_ret
      exact ⟨by rw [HDD.out]; rfl, hb2⟩
    · have hrt : r = true := hr.2 ⟨hb, h0, hi⟩
      clear h hr hb
      subst hrt
      go_enter Try.func25, Try.ntmps25
      go_wp2_with (go_at_call 10; (with_reducible refine (impl_blockok a n cap L hn _ HL.out true HBT.out).mono ?_); rintro e w2 ⟨rfl, hb2⟩)
      go_ret
      exact ⟨rfl, hb2⟩
  · have hrf : r = false := by rw [← Bool.not_eq_true]; intro e; exact hb (hr.1 e).1
    have HBF := Lib.hid (show false = true ↔ IsBlk L from ⟨fun h => (by cases h), fun h => absurd h hb⟩)
    clear h hr hb
    subst hrf
    go_enter Try.func25, Try.ntmps25
    go_wp2_with (go_at_call 10; (with_reducible refine (impl_blockok a n cap L hn _ HL.out false HBF.out).mono ?_); rintro e w2 ⟨rfl, hb2⟩)
    go_ret
    exact ⟨rfl, hb2⟩
set_option maxHeartbeats 4000000 in
set_option maxRecDepth 100000 in
theorem impl_endof (a : Option Addr) (n cap : Nat) (L : List Go.Proofs.Ytdbgjcfcjehmbaa.stm.St) (hn : (n : Int) ≤ 1048576) (w : World) (h : StRow w a n L) (i : Int) (X : Int) (hX : EndIs L i X) :
    Calls Try.prog 12 #[.slice a n cap, .int .i64 i] w (BelI w X) := by
  have HL := Lib.hid h
  have hlen : L.length = n := h.1
  by_cases hin : IsBlk L ∧ 0 ≤ i ∧ i < n
  · obtain ⟨hb, h0, h1⟩ := hin
    have HB := Lib.hid hb
    obtain ⟨j, rfl⟩ : ∃ j : Nat, i = j := ⟨i.toNat, by omega⟩
    have HBT := Lib.hid (show true = true ↔ (IsBlk L ∧ 0 ≤ (j : Int) ∧ (j : Int) < n) from ⟨fun _ => ⟨hb, h0, h1⟩, fun _ => rfl⟩)
    obtain ⟨b, off, s, ha, hlb, hs, hrg⟩ := h.2 j (by omega)
    have HS := Lib.hid (And.intro hrg (And.intro hlb hs))
    subst ha
    cases ho : opn s
    · obtain rfl := endIs_flat hX hs ho
      have HO := Lib.hid ho
      clear h hX hb hlen ho hrg hs hlb
      go_enter Try.func12, Try.ntmps12
      go_wp2_with (go_at_call 25; (with_reducible refine (impl_blockhas _ n cap L hn _ HL.out j true HBT.out).mono ?_); rintro e w2 ⟨rfl, hb2⟩; refine Hid.out ?_)
      have hR2 := held6o hb2 HS.out.2.1 (range6 HS.out.1)
      have r0 : w2.cell? ⟨b, off + j * 6, none⟩ = some (.int .i64 s.k) := hR2.1
      have r1 : w2.cell? ⟨b, off + j * 6 + 1, none⟩ = some (.int .i64 s.v) := hR2.2.1
      have r2 : w2.cell? ⟨b, off + j * 6 + 2, none⟩ = some (.int .i64 s.n) := hR2.2.2.1
      have r3 : w2.cell? ⟨b, off + j * 6 + 3, none⟩ = some (.int .i64 s.o) := hR2.2.2.2.1
      have r4 : w2.cell? ⟨b, off + j * 6 + 4, none⟩ = some (.int .i64 s.a) := hR2.2.2.2.2.1
      have r5 : w2.cell? ⟨b, off + j * 6 + 5, none⟩ = some (.int .i64 s.b) := hR2.2.2.2.2.2
      have HB2 := Lib.hid hb2
      clear hR2 hb2
      refine Lib.hid ?_
      go_wp2_with (go_at_call 26; (with_reducible refine (impl_hasbody s false HO.out _).mono ?_); rintro e w4 ⟨rfl, hb4⟩)
      go_ret
      exact ⟨rfl, below_then HB2.out hb4⟩
    · obtain ⟨e, he⟩ := end_exists hb hs ho
      have hXe := endIs_yes hX hb he
      have HO := Lib.hid ho
      have HXE := Lib.hid hXe
      have HE := Lib.hid he
      clear h hX hb hlen ho hrg hs hlb he hXe
      go_enter Try.func12, Try.ntmps12
      go_wp2_with (go_at_call 25; (with_reducible refine (impl_blockhas _ n cap L hn _ HL.out j true HBT.out).mono ?_); rintro e w2 ⟨rfl, hb2⟩; refine Hid.out ?_)
      have hR2 := held6o hb2 HS.out.2.1 (range6 HS.out.1)
      have r0 : w2.cell? ⟨b, off + j * 6, none⟩ = some (.int .i64 s.k) := hR2.1
      have r1 : w2.cell? ⟨b, off + j * 6 + 1, none⟩ = some (.int .i64 s.v) := hR2.2.1
      have r2 : w2.cell? ⟨b, off + j * 6 + 2, none⟩ = some (.int .i64 s.n) := hR2.2.2.1
      have r3 : w2.cell? ⟨b, off + j * 6 + 3, none⟩ = some (.int .i64 s.o) := hR2.2.2.2.1
      have r4 : w2.cell? ⟨b, off + j * 6 + 4, none⟩ = some (.int .i64 s.a) := hR2.2.2.2.2.1
      have r5 : w2.cell? ⟨b, off + j * 6 + 5, none⟩ = some (.int .i64 s.b) := hR2.2.2.2.2.2
      have HB2 := Lib.hid hb2
      clear hR2 hb2
      refine Lib.hid ?_
      go_wp2_with (go_at_call 26; (with_reducible refine (impl_hasbody s true HO.out _).mono ?_); rintro e w4 ⟨rfl, hb4⟩; refine Hid.out ?_)
      have HB4 := Lib.hid (below_then HB2.out hb4)
      clear hb4
      refine Lib.hid ?_
      go_wp2_with (go_at_call 27; (with_reducible refine (impl_end _ n cap L _ (HL.out.below HB4.out) HB.out j _ HE.out X HXE.out).mono ?_); rintro e w5 ⟨rfl, hb5⟩)
      go_ret
      exact ⟨rfl, below_then HB4.out hb5⟩
  · have hn2 : ¬ IsBlk L ∨ i < 0 ∨ (L.length : Int) ≤ i := by
      rw [hlen]
      rcases Classical.em (IsBlk L) with hb | hb
      · right
        rcases (show i < 0 ∨ (n : Int) ≤ i ∨ (0 ≤ i ∧ i < n) by omega) with h | h | h
        · exact .inl h
        · exact .inr h
        · exact absurd ⟨hb, h⟩ hin
      · exact .inl hb
    obtain rfl := endIs_not hX hn2
    have HBF := Lib.hid (show false = true ↔ (IsBlk L ∧ 0 ≤ i ∧ i < n) from ⟨fun h => (by cases h), fun h => absurd h hin⟩)
    clear h hX hin hlen hn2
    go_enter Try.func12, Try.ntmps12
    go_wp2_with (go_at_call 25; (with_reducible refine (impl_blockhas _ n cap L hn _ HL.out i false HBF.out).mono ?_); rintro e w2 ⟨rfl, hb2⟩)
    go_ret
    exact ⟨rfl, hb2⟩
end Go.Proofs.Ytdbgjcfcjehmbaa.blk
