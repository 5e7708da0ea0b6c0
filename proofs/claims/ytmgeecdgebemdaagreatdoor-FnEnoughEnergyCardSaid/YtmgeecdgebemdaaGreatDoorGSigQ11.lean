/- Several texts in one: QBlkG QBlkD QBlkC QBlkH QBlkL. -/
import Derived.Test.YtmgeecdgebemdaaGreatDoorGSigQ10
import Derived.Test.YtmgeecdgebemdaaGreatDoorGSigQ7
import Derived.Test.YtmgeecdgebemdaaGreatDoorGSigQ2
import Derived.Test.YtmgeecdgebemdaaGreatDoorGSigQ3
import Derived.IntWalk

/- Chapter 5's program: the matching end, whether a block has a place, EndOf: what the plain relations say; nothing that was there is written. -/
namespace Go.Proofs.YtmgeecdgebemdaaGreatDoor.blk
open Go Go.ChangeShapes Go.WideShapes Go.ChangeAt Go.RowKit Go.Proofs.YtmgeecdgebemdaaGreatDoor.row Go.Proofs.YtmgeecdgebemdaaGreatDoor.val Go.Proofs.YtmgeecdgebemdaaGreatDoor.expr Go.Proofs.YtmgeecdgebemdaaGreatDoor.stm
set_option maxHeartbeats 4000000 in
set_option maxRecDepth 100000 in
theorem impl_end (a : Option Addr) (n cap : Nat) (L : List Go.Proofs.YtmgeecdgebemdaaGreatDoor.stm.St) (w : World) (h : StRow w a n L) (hb : IsBlk L) (i e : Nat) (he : IsEnd L i e) (X : Int) (hX : X = e) :
    Calls Tryz.prog 189 #[.slice a n cap, .int .i64 i] w (BelI w X) := by
  have HL := Lib.hid h
  have HB := Lib.hid hb
  have HE := Lib.hid he
  have hie := he.1
  have hel : e < n := by have := he.2.1; rw [h.1] at this; exact this
  have hn24 : n ≤ 24 := by have := hb.2.2; rw [h.1] at this; exact this
  have h1 : (1 : Int) = hAt L (i + 1) - hAt L i := by
    obtain ⟨s, hs, ho⟩ := he.opens
    rw [hAt_succ hs, dlt_opn ho]; omega
  have H1 := Lib.hid h1
  have HX := Lib.hid hX
  clear h hb he hX h1
  go_enter Tryz.func189, Tryz.ntmps189
  go_wp2
  go_loopw [5, 6] (fun k' o wr => ∃ (k : Nat) (x : Int), i ≤ k ∧ k ≤ e ∧ k' = .int .i64 k ∧ o = .int .i64 x ∧ 0 ≤ x ∧ x ≤ 3 ∧ Hid (x = hAt L (k + 1) - hAt L i) ∧ Below w.heap.size w wr) (fun k' _ _ => e + 1 - (intOf k').toNat)
  case atStart => exact ⟨i, 1, Nat.le_refl _, by omega, rfl, rfl, by omega, by omega, H1.out, Below.refl _ _⟩
  case round =>
    obtain ⟨k, x, hik, hke, rfl, rfl, hx0, hx3, hH, hbel⟩ := hrel
    by_cases hlt : k < e
    · obtain ⟨b, off, s, rfl, hlb, hs, hrg⟩ := (HL.out.below hbel).2 (k + 1) (by omega)
      have HS := Lib.hid (And.intro hrg (And.intro hs hbel))
      have hxp : 0 < x := by have := HE.out.2.2.2 (k + 1) (by omega) (by omega); have := hH.out; omega
      have hI : ((k : Int) + 1) < n := by omega
      have hnx := hAt_succ hs
      have hbd := blk_bounds HB.out (k + 1 + 1)
      have hbi := blk_bounds HB.out i
      have hmid : hAt L i ≤ hAt L (k + 1 + 1) := by
        rcases Nat.lt_or_ge (k + 1) e with hk | hk
        · have := HE.out.2.2.2 (k + 1 + 1) (by omega) (by omega); omega
        · obtain rfl : e = k + 1 := by omega
          have := HE.out.2.2.1; omega
      obtain ⟨d, hd⟩ : ∃ d, dlt s = d := ⟨_, rfl⟩
      have HD := Lib.hid hd
      rw [hd] at hnx
      have hHo := hH.out
      have HH := Lib.hid (show x + d = hAt L (k + 1 + 1) - hAt L i by omega)
      have hxd0 : 0 ≤ x + d := by omega
      have hxd3 : x + d ≤ 3 := by omega
      have hdr := dlt_range s
      rw [hd] at hdr
      have hd0 := hdr.1
      have hd1 := hdr.2
      have hc : ((k + 1 : Nat) : Int) = (k : Int) + 1 := by omega
      clear hrg hs hbel hnx hbd hbi hHo hd hmid hdr
      go_wp2_with (first
        | (refine wpList_load_mid rfl 112 _ rfl b (off + (k + 1) * 6) rfl (stC s) _ HS.out.1 Tryz.underlying112 rfl (by kernel_rfl) ?_)
        | (go_at_call 200; refine (impl_delta s d HD.out _).mono ?_; rintro e2 w2 ⟨rfl, hb2⟩; refine Hid.out ?_))
      have HB2 := Lib.hid (below_then HS.out.2.2 hb2)
      clear hb2
      refine Lib.hid ?_
      go_wp2
      go_roundw
      case rel => exact ⟨k + 1, x + d, by omega, by omega, by go_num, rfl, hxd0, hxd3, HH, HB2.out⟩
      case measure => simp [intOf]; omega
    · obtain rfl : k = e := by omega
      have hz : x = 0 := by have := hH.out; have := HE.out.2.2.1; omega
      have HBB := Lib.hid hbel
      clear hbel
      subst hz
      go_wp2
      go_ret
      exact ⟨by rw [HX.out]; rfl, HBB.out⟩
end Go.Proofs.YtmgeecdgebemdaaGreatDoor.blk

/- Chapter 5's model: DepthOf: the height ahead of the statement; nothing that was there is written. -/
namespace Go.Proofs.YtmgeecdgebemdaaGreatDoor.blk
open Go Go.ChangeShapes Go.WideShapes Go.ChangeAt Go.RowKit Go.Proofs.YtmgeecdgebemdaaGreatDoor.row Go.Proofs.YtmgeecdgebemdaaGreatDoor.val Go.Proofs.YtmgeecdgebemdaaGreatDoor.expr Go.Proofs.YtmgeecdgebemdaaGreatDoor.stm
end Go.Proofs.YtmgeecdgebemdaaGreatDoor.blk

/- Parts of a block: a stretch at one height is a valid block of its own; what runs in the part runs in the whole. Plain mathematics. -/
namespace Go.Proofs.YtmgeecdgebemdaaGreatDoor.blk
open Go Go.ChangeShapes Go.WideShapes Go.ChangeAt Go.RowKit Go.Proofs.YtmgeecdgebemdaaGreatDoor.row Go.Proofs.YtmgeecdgebemdaaGreatDoor.stm
/-- The part of 'm' statements from 'c' on. -/
def part (L : List Go.Proofs.YtmgeecdgebemdaaGreatDoor.stm.St) (c m : Nat) : List Go.Proofs.YtmgeecdgebemdaaGreatDoor.stm.St := (L.drop c).take m
theorem part_len {L : List Go.Proofs.YtmgeecdgebemdaaGreatDoor.stm.St} {c m : Nat} (h : c + m ≤ L.length) : (part L c m).length = m := by
  unfold part; rw [List.length_take, List.length_drop]; omega
theorem part_at {L : List Go.Proofs.YtmgeecdgebemdaaGreatDoor.stm.St} {c m j : Nat} (h : j < m) : (part L c m)[j]? = L[c + j]? := by
  unfold part; rw [List.getElem?_take, if_pos h, List.getElem?_drop]
theorem part_ht {L : List Go.Proofs.YtmgeecdgebemdaaGreatDoor.stm.St} {c m : Nat} (h : c + m ≤ L.length) : ∀ t, t ≤ m → hAt (part L c m) t = hAt L (c + t) - hAt L c := by
  intro t
  induction t with
  | zero => intro _; rw [hAt_zero, Nat.add_zero]; omega
  | succ t ih =>
    intro ht
    obtain ⟨s, hs⟩ := at_lt (show c + t < L.length by omega)
    have h1 := hAt_succ hs
    have h2 := hAt_succ (show (part L c m)[t]? = some s by rw [part_at (by omega)]; exact hs)
    rw [h2, ih (by omega), show c + (t + 1) = c + t + 1 by omega, h1]; omega
theorem part_end {L : List Go.Proofs.YtmgeecdgebemdaaGreatDoor.stm.St} {c m i e : Nat} (h : c + m ≤ L.length) (hE : IsEnd (part L c m) i e) : IsEnd L (c + i) (c + e) := by
  obtain ⟨h1, h2, h3, h4⟩ := hE
  rw [part_len h] at h2
  have k1 := part_ht h (e + 1) (by omega)
  have k2 := part_ht h i (by omega)
  refine ⟨by omega, by omega, by rw [show c + e + 1 = c + (e + 1) by omega]; omega, fun j hj hje => ?_⟩
  obtain ⟨t, rfl⟩ : ∃ t, j = c + t := ⟨j - c, by omega⟩
  have := h4 t (by omega) (by omega)
  have := part_ht h t (by omega)
  omega
theorem part_blk {L : List Go.Proofs.YtmgeecdgebemdaaGreatDoor.stm.St} {c m : Nat} (hb : IsBlk L) (hF : Flat L c (c + m)) : IsBlk (part L c m) := by
  obtain ⟨_, h2, h3, h4⟩ := hF
  have hl := part_len h2
  refine ⟨fun j s hj hs => ?_, ?_, by rw [hl]; have := hb.2.2; omega⟩
  · rw [hl] at hj
    have hs' : L[c + j]? = some s := by rw [← part_at hj]; exact hs
    have k1 := part_ht h2 (j + 1) (by omega)
    have k2 := h4 (c + (j + 1)) (by omega) (by omega)
    have k3 := (blk_bounds hb (c + (j + 1))).2
    have k4 := (blk_bounds hb c).1
    exact ⟨blk_stOk hb hs', by omega, by omega⟩
  · rw [hl, part_ht h2 m (Nat.le_refl _)]; omega
/-- The body of a statement that opens, at the head of a block. -/
theorem body_blk {L : List Go.Proofs.YtmgeecdgebemdaaGreatDoor.stm.St} (hb : IsBlk L) {e : Nat} (he : IsEnd L 0 e) : IsBlk (part L 1 (e - 1)) := by
  have := flat_body he
  have h0 := he.1
  rw [show e = 1 + (e - 1) by omega] at this
  exact part_blk hb this
/-- What stands behind a place at height 0. -/
theorem rest_blk {L : List Go.Proofs.YtmgeecdgebemdaaGreatDoor.stm.St} (hb : IsBlk L) {c : Nat} (hc : c ≤ L.length) (h0 : hAt L c = 0) : IsBlk (part L c (L.length - c)) := by
  refine part_blk hb ⟨by omega, by omega, ?_, fun t _ _ => by rw [h0]; exact (blk_bounds hb t).1⟩
  rw [show c + (L.length - c) = L.length by omega, hb.2.1, h0]
/-- A part of a slice. -/
theorem StRow.cut {w : World} {a A : Option Addr} {n : Nat} {L : List Go.Proofs.YtmgeecdgebemdaaGreatDoor.stm.St} (h : StRow w a n L) (c m : Nat) (hcm : c + m ≤ n) (hA : ∀ b off, a = some ⟨b, off, none⟩ → 0 < m → A = some ⟨b, off + c * 6, none⟩) : StRow w A m (part L c m) :=
  ⟨part_len (by rw [h.1]; exact hcm), fun k hk => by
    obtain ⟨b, off, s, ha, hlt, hs, hr⟩ := h.2 (c + k) (by omega)
    refine ⟨b, off + c * 6, s, hA b off ha (by omega), hlt, by rw [part_at hk]; exact hs, ?_⟩
    rw [show off + c * 6 + k * 6 = off + (c + k) * 6 by omega]; exact hr⟩
theorem own_le {w : World} {base n cap : Nat} {a : Option Addr} {t : TypeId} {z : Nat} {xs : List Value} (h : w.ownsRow base t z (.slice a n cap) n xs) : n ≤ cap := by
  rcases h.2 with ⟨hv, h0⟩ | ⟨g, c, cur, hv, _, _, hle, _⟩
  · omega
  · simp only [Value.slice.injEq] at hv; omega
end Go.Proofs.YtmgeecdgebemdaaGreatDoor.blk

/- Chapter 5's program: DepthOf: the height ahead of the statement; nothing that was there is written. -/
namespace Go.Proofs.YtmgeecdgebemdaaGreatDoor.blk
open Go Go.ChangeShapes Go.WideShapes Go.ChangeAt Go.RowKit Go.Proofs.YtmgeecdgebemdaaGreatDoor.row Go.Proofs.YtmgeecdgebemdaaGreatDoor.val Go.Proofs.YtmgeecdgebemdaaGreatDoor.expr Go.Proofs.YtmgeecdgebemdaaGreatDoor.stm
end Go.Proofs.YtmgeecdgebemdaaGreatDoor.blk

/- Chapter 5's model: LongestRun: how many statements run; nothing that was there is written. -/
namespace Go.Proofs.YtmgeecdgebemdaaGreatDoor.blk
open Go Go.ChangeShapes Go.WideShapes Go.ChangeAt Go.RowKit Go.Proofs.YtmgeecdgebemdaaGreatDoor.row Go.Proofs.YtmgeecdgebemdaaGreatDoor.val Go.Proofs.YtmgeecdgebemdaaGreatDoor.expr Go.Proofs.YtmgeecdgebemdaaGreatDoor.stm
end Go.Proofs.YtmgeecdgebemdaaGreatDoor.blk
