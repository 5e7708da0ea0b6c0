/- The contracts of the drawn texts: some string of a bounded length; the cursor stays one. -/
import Derived.Test.YtmdpdfdiknfopaaDoorCur
import Derived.Test.YtmdpdfdiknfopaaDoorBytes
import Derived.Deep.AppendLies
import Derived.Laws.OwnMore
namespace Go.Proofs.YtmdpdfdiknfopaaDoor.cur
open Go.ChangeShapes Go.WideShapes Go.ChangeAt Go.RowKit Go.Proofs.YtmdpdfdiknfopaaDoor.byt

/-- Some string of at most 'n' bytes. -/
def LongOut (n : Int) (w : World) (e : Ending) (w' : World) : Prop := ∃ t : ByteArray, e = .returned (.string t) ∧ (t.size : Int) ≤ n ∧ Below w.heap.size w w'

def TextOut (n : Int) (cb : Nat) (a : Option Addr) (len cap : Nat) (w : World) (e : Ending) (w' : World) : Prop :=
  ∃ t : ByteArray, e = .returned (.string t) ∧ (t.size : Int) ≤ n ∧ Cur cb a len cap w' ∧ w.grownBy w' (some cb)

theorem byteCells_set (l : List UInt8) (k : Nat) (x : Int) (h0 : 0 ≤ x) (h1 : x ≤ 255) : ∃ l' : List UInt8, l'.length = l.length ∧ (Lib.byteCells l).set k (.int .u8 x) = Lib.byteCells l' := by
  refine ⟨l.set k (UInt8.ofNat x.toNat), by simp, ?_⟩
  have e : ((UInt8.ofNat x.toNat).toNat : Int) = x := by simp; omega
  simp only [Lib.byteCells, List.map_set, e]

theorem byteCells_zero (n : Nat) : ∃ l : List UInt8, l.length = n ∧ List.replicate n (Value.int .u8 0) = Lib.byteCells l :=
  ⟨List.replicate n 0, by simp, by simp [Lib.byteCells]⟩

set_option maxHeartbeats 1000000 in
theorem long_any (n x : Int) (hn0 : 0 ≤ n) (hn1 : n ≤ 1048576) (hx0 : 0 ≤ x) (hx1 : x ≤ 255) (w : World) :
    Calls Tryd.prog 23 #[.int .i64 n, .int .u8 x] w (LongOut n w) := by
  obtain ⟨i0, hi, hz0, hz1, hz2⟩ := info_parts infoByte
  obtain ⟨m, rfl⟩ := Int.eq_ofNat_of_zero_le hn0
  go_enter Tryd.func23, Tryd.ntmps23
  go_wp2_with (refine wpList_make_full _ rfl _ _ _ rfl w.heap.size 5 i0 (.int .u8 0) 1 Tryd.underlying22 hi hz0 hz1 .i64 .i64 _ _ m rfl rfl (by omega) (by omega) (by rw [hz2]; omega) (by unfold maxLen; omega) (Nat.le_refl _) ?_; intro w1 hown1 hgrow1; refine Hid.out ?_)
  have hb1 : Below w.heap.size w w1 := (Below.refl _ _).grown hgrow1 (Nat.le_refl _) (by rintro k ⟨⟩)
  obtain ⟨l0, hl0, he0⟩ := byteCells_zero m
  rw [show (madeCells (Value.int .u8 0).cells (m * 1)).toList = Lib.byteCells l0 by rw [← he0, Nat.mul_one]; exact toList_madeCells_one _ _] at hown1
  have HL0 := Lib.hid hl0
  clear hgrow1 he0 hl0
  refine Lib.hid ?_
  go_wp2_with fail
  go_loopw [6] (fun i wr => ∃ (k : Nat) (l : List UInt8), k ≤ m ∧ i = .int .i64 k ∧ Hid (l.length = m) ∧ wr.ownsRow w.heap.size 5 1 (.slice (some ⟨w.heap.size, 0, none⟩) m m) m (Lib.byteCells l) ∧ Below w.heap.size w wr) (fun i _ => m - (intOf i).toNat)
  case atStart => exact ⟨0, l0, Nat.zero_le _, rfl, HL0, hown1, hb1⟩
  case round =>
    obtain ⟨k, l, hk, rfl, hl, hown, hbel⟩ := hrel
    by_cases hlt : k < m
    · have hcell : wr.cell? ⟨w.heap.size, k, none⟩ = some (.int .u8 ((l[k]'(by rw [hl.out]; exact hlt)).toNat : Int)) := by
        rw [hown.cellAt k (by omega)]; simp [Lib.byteCells, hl.out, hlt]
      have hfz := hown.frozenAt k
      obtain ⟨l1, hl1, he1⟩ := byteCells_set l k x hx0 hx1
      obtain ⟨hown2, hgrow2⟩ := hown.stored k (.int .u8 x)
      rw [he1] at hown2
      have HO := Lib.hid hown2
      have HG := Lib.hid (hbel.setCell (p := ⟨w.heap.size, k, none⟩) (Nat.le_refl _) (.int .u8 x))
      have HL1 : Hid (l1.length = m) := hl1.trans hl.out
      clear hown hown2 hgrow2 he1 hl1 hbel
      go_wp2
      go_roundw
      case rel => exact ⟨k + 1, l1, by omega, by go_num, HL1, HO.out, HG.out⟩
      case measure => simp [intOf]; omega
    · have hcv := conv_own hown
      go_wp2
      go_ret
      exact ⟨_, rfl, by have := hl.out; simp [ByteArray.size]; omega, hbel⟩

set_option maxHeartbeats 1000000 in
theorem text_from (w0 : World) (cb : Nat) (a : Option Addr) (len cap : Nat) (n : Int) (hn0 : 0 ≤ n) (hn1 : n ≤ 5000) (w : World) (hc : Cur cb a len cap w) (hg : w0.grownBy w (some cb)) :
    Calls Tryd.prog 25 #[.pointer (some ⟨cb, 0, none⟩), .int .i64 n] w (TextOut n cb a len cap w0) := by
  obtain ⟨i0, hi, hz0, hz1, hz2⟩ := info_parts infoByte
  obtain ⟨m, rfl⟩ := Int.eq_ofNat_of_zero_le hn0
  have hlt0 := hc.lt
  have hsz := hg.size
  go_enter Tryd.func25, Tryd.ntmps25
  go_wp2
  go_loopw [5, 6] (fun v i wr => ∃ (k : Nat) (l : List UInt8), k ≤ m ∧ i = .int .i64 k ∧ l.length = k ∧ wr.ownsRow w.heap.size 5 1 v k (Lib.byteCells l) ∧ Cur cb a len cap wr ∧ w0.grownBy wr (some cb) ∧ w.heap.size ≤ wr.heap.size) (fun _ i _ => m - (intOf i).toNat)
  case atStart => exact ⟨0, [], Nat.zero_le _, rfl, rfl, World.ownsRow_made w #[] 0 (Nat.le_refl _) (by decide) rfl, hc.alloc _, grownBy_trans hg (World.grownBy_alloc _ _ _), by simp⟩
  case round =>
    obtain ⟨k, l, hk, rfl, hl, hown, hcu, hgr, hsw⟩ := hrel
    have HL := Lib.hid hl
    clear hl
    by_cases hlt : k < m
    · have hblk : ∀ j, u5.ownBlock = some j → w.heap.size ≤ j := fun j hj => (hown.lt j hj).1
      have HBLK := Lib.hid hblk
      clear hblk
      go_wp2_with (go_at_call 32; refine (byte_any cb a len cap _ hcu).mono ?_; rintro e w1 ⟨x, rfl, hx0, hx1, hc1, hg1⟩; refine Hid.out ?_)
      have hown1 := hown.kept hg1 (by
        cases hv : u5.ownBlock with
        | none => exact .inl rfl
        | some j => right; have := HBLK.out j hv; intro e; injection e; omega)
      have hsz1 := hg1.size
      obtain ⟨c, hce⟩ : ∃ c : UInt8, (c.toNat : Int) = x := ⟨UInt8.ofNat x.toNat, by simp; omega⟩
      have HX := Lib.hid hce
      have HG1 := Lib.hid (grownBy_trans hgr hg1)
      clear hce hgr hg1 hown
      refine Lib.hid ?_
      go_wp2_with (at_builtin; refine wpList_append_own _ rfl _ _ 22 rfl w.heap.size 5 i0 (.int .u8 0) 1 1 Tryd.underlying22 hi hz0 hz1 hz2 rfl (by decide) _ _ _ rfl (hown1.alloc _) ⟨w1.heap.size, 0, none⟩ 1 1 [.int .u8 x] rfl rfl (World.news_of_block (cs := #[.int .u8 x]) (t := 5) (fr := (0, 0)) (heap_alloc_new w1 _)) (by simp [Value.oneCell']) (by unfold maxLen; omega) (by omega) (by simp; omega) ?_; intro v2 w2 hown2 hgrow2 _; refine Hid.out ?_)
      have hc2 : Cur cb a len cap w2 := (hc1.alloc _).keep hgrow2 (fun j hj => by have := HBLK.out j hj; omega)
      have hg2 := grownBy_own (grownBy_trans HG1.out (World.grownBy_alloc w1 _ _)) hgrow2 (fun j hj => by have := HBLK.out j hj; omega)
      have hs2 : w.heap.size ≤ w2.heap.size := by have := hgrow2.size; simp at this; omega
      have e2 : Lib.byteCells l ++ [Value.int .u8 x] = Lib.byteCells (l ++ [c]) := by rw [byteCells_app]; simp [Lib.byteCells, HX.out]
      rw [e2] at hown2
      have HO := Lib.hid hown2
      clear hown2 hgrow2 e2 hown1
      refine Lib.hid ?_
      go_wp2
      go_roundw
      case rel => exact ⟨k + 1, _, by omega, by go_num, by have := HL.out; simp; omega, HO.out, hc2, hg2, hs2⟩
      case measure => simp [intOf]; omega
    · have hcv := conv_own hown
      go_wp2
      go_ret
      exact ⟨_, rfl, by have := HL.out; simp [ByteArray.size]; omega, hcu, hgr⟩
end Go.Proofs.YtmdpdfdiknfopaaDoor.cur
