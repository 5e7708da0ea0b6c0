/- Several texts in one: Places Vars. -/
import Derived.Test.YtodlbbojjnkneaaGHub44
import Derived.Deep.AppendLies
import Derived.Laws.OwnMore
import Derived.WalkSpells
import Derived.Deep.Onto
import Derived.StillTailTactics
import Derived.OwnWalk
import Derived.Test.YtodlbbojjnkneaaGHub0
import Derived.Test.YtodlbbojjnkneaaGHub1

/- What the draws of numbers return: any int, and a new row of twelve numbers from 0 to 9999; nothing that was there is written, but the cursor. -/
namespace Go.Proofs.Ytodlbbojjnkneaa.cur
open Go.ChangeShapes Go.WideShapes Go.ChangeAt Go.RowKit


theorem infoInt : (Try.prog.info? 3).map (fun i => (i.zero, i.size, i.bytes)) = some (some (.int .i64 0), 1, 8) := by kernel_rfl

def ints (L : List Int) : List Value := L.map (Value.int .i64)
/-- Twelve places in a new row. -/
def PlacesOut (w : World) (e : Ending) (w' : World) : Prop :=
  ∃ (v : Value) (L : List Int), e = .returned v ∧ L.length = 12 ∧ Hid (∀ x ∈ L, 0 ≤ x ∧ x < 10000) ∧ w'.ownsRow w.heap.size 3 1 v 12 (ints L) ∧ Below w.heap.size w w'

theorem own_atI {w : World} {base : Nat} {v : Value} {n : Nat} {L : List Int} (h : w.ownsRow base 3 1 v n (ints L)) {k : Nat} (hk : k < n) :
    ∃ (g cap : Nat), v = .slice (some ⟨g, 0, none⟩) n cap ∧ base ≤ g ∧ g < w.heap.size ∧ ∃ x : Int, L[k]? = some x ∧ w.cell? ⟨g, k, none⟩ = some (.int .i64 x) := by
  have hl : L.length = n := by have := h.1; simp [ints] at this; omega
  obtain ⟨g, c, hv, hb, hg⟩ := h.form (by omega)
  subst hv
  have hk' : k < L.length := by omega
  refine ⟨g, c, rfl, hb, hg, L[k], by simp [hk'], ?_⟩
  rw [h.cellAt k (by omega)]; simp [ints, hk']

set_option maxHeartbeats 1000000 in
set_option maxRecDepth 100000 in
theorem places_any (a : Option Addr) (len cap : Nat) (w : World) (hlm : (len : Int) ≤ 1048576) (hb : ∀ i : Nat, i < len → ∃ (b off : Nat) (v : Int), a = some ⟨b, off, none⟩ ∧ w.cell? ⟨b, off + i, none⟩ = some (.int .u8 v)) :
    Calls Try.prog 12 #[.slice a len cap] w (PlacesOut w) := by
  obtain ⟨i0, hi, hz0, hz1, hz2⟩ := info_parts (infoInt)
  have HB := Lib.hid hb
  clear hb
  go_enter Try.func12, Try.ntmps12
  go_wp2_with (go_at_call 20; refine (new_any a len cap _ hlm HB.out).mono ?_; rintro e w1 ⟨rfl, hc1, hb1⟩; refine Hid.out ?_)
  have hg0 := grownBy_refl w1 (some w.heap.size)
  have hs1 : w.heap.size < w1.heap.size := hc1.lt
  refine Lib.hid ?_
  go_wp2
  go_loopw [4, 5] (fun v i wr => ∃ (k : Nat) (L : List Int), k ≤ 12 ∧ i = .int .i64 k ∧ L.length = k ∧ Hid (∀ x ∈ L, 0 ≤ x ∧ x < 10000) ∧ wr.ownsRow w1.heap.size 3 1 v k (ints L) ∧ Cur w.heap.size a len cap wr ∧ w1.grownBy wr (some w.heap.size) ∧ w1.heap.size ≤ wr.heap.size) (fun _ i _ => 12 - (intOf i).toNat)
  case atStart => exact ⟨0, [], Nat.zero_le _, rfl, rfl, Lib.hid (by simp), World.ownsRow_made w1 #[] 0 (Nat.le_refl _) (by decide) rfl, hc1.alloc _, grownBy_trans hg0 (World.grownBy_alloc _ _ _), by simp⟩
  case round =>
    obtain ⟨k, L, hk, rfl, hl, HIN, hown, hcu, hgr, hsw⟩ := hrel
    have HL := Lib.hid hl
    clear hl
    by_cases hlt : k < 12
    · have hblk : ∀ j, u4.ownBlock = some j → w1.heap.size ≤ j := fun j hj => (hown.lt j hj).1
      have HBLK := Lib.hid hblk
      clear hblk
      go_wp2_with (go_at_call 27; refine (below_any w.heap.size a len cap _ (by omega) _ hcu).mono ?_; rintro e w2 ⟨x, rfl, hx0, hx1, hc2, hg2⟩; refine Hid.out ?_)
      have hown1 := hown.kept hg2 (by
        cases hv : u4.ownBlock with
        | none => exact .inl rfl
        | some j => right; have := HBLK.out j hv; intro e; injection e; omega)
      have HX := Lib.hid (show 0 ≤ x ∧ x < 10000 from ⟨hx0, hx1⟩)
      have HG2 := Lib.hid (grownBy_trans hgr hg2)
      have hsz2 := hg2.size
      clear hgr hg2 hown
      refine Lib.hid ?_
      go_wp2_with (at_builtin; refine wpList_append_own _ rfl _ _ 33 rfl w1.heap.size 3 i0 (.int .i64 0) 1 8 Try.underlying33 hi hz0 hz1 hz2 rfl (by decide) _ _ _ rfl (hown1.alloc _) ⟨w2.heap.size, 0, none⟩ 1 1 [.int .i64 x] rfl rfl (World.news_of_block (cs := #[.int .i64 x]) (t := 3) (fr := (0, 0)) (heap_alloc_new w2 _)) (by simp [Value.oneCell']) (by unfold maxLen; omega) (by omega) (by simp; omega) ?_; intro v3 w3 hown3 hgrow3 _; refine Hid.out ?_)
      have hc3 : Cur w.heap.size a len cap w3 := (hc2.alloc _).keep hgrow3 (fun j hj => by have := HBLK.out j hj; omega)
      have hg3 := grownBy_own (grownBy_trans HG2.out (World.grownBy_alloc w2 _ _)) hgrow3 (fun j hj => by have := HBLK.out j hj; omega)
      have hs3 : w1.heap.size ≤ w3.heap.size := by have := hgrow3.size; simp at this; omega
      have e3 : ints L ++ [Value.int .i64 x] = ints (L ++ [x]) := by simp [ints]
      rw [e3] at hown3
      have HO := Lib.hid hown3
      have HIN2 : Hid (∀ y ∈ L ++ [x], 0 ≤ y ∧ y < 10000) := by
        intro y hy
        rcases List.mem_append.1 hy with h | h
        · exact HIN.out y h
        · rw [List.mem_singleton.1 h]; exact HX.out
      clear hown3 hgrow3 e3 hown1
      refine Lib.hid ?_
      go_wp2
      go_roundw
      case rel => exact ⟨k + 1, _, by omega, by go_num, by have := HL.out; simp; omega, HIN2, HO.out, hc3, hg3, hs3⟩
      case measure => simp [intOf]; omega
    · go_wp2
      go_ret
      have hk12 : k = 12 := by omega
      subst hk12
      exact ⟨_, L, rfl, HL.out, HIN, hown.mono (by omega), hb1.grown hgr (by omega) (fun j hj => by cases hj; exact Nat.le_refl _)⟩
end Go.Proofs.Ytodlbbojjnkneaa.cur

/- What the draw of valid variables returns: a new row of eight values; nothing that was there is written, but the cursor. -/
namespace Go.Proofs.Ytodlbbojjnkneaa.cur
open Go.ChangeShapes Go.WideShapes Go.ChangeAt Go.RowKit Go.Proofs.Ytodlbbojjnkneaa.row Go.Proofs.Ytodlbbojjnkneaa.val

/-- A drawn number with a property; the cursor stays one; of the blocks that were there its own alone is touched. -/
def PickOut (P : Int → Prop) (cb : Nat) (a : Option Addr) (len cap : Nat) (w : World) (e : Ending) (w' : World) : Prop :=
  ∃ x : Int, e = .returned (.int .i64 x) ∧ P x ∧ Cur cb a len cap w' ∧ w.grownBy w' (some cb)
def NumsP (P : Int → Prop) (lb n : Nat) (w : World) : Prop := ∀ i : Nat, i < n → ∃ v : Int, w.cell? ⟨lb, i, none⟩ = some (.int .i64 v) ∧ P v
theorem numsP_alloc (P : Int → Prop) (w : World) (L : List Int) (t : TypeId) (hw : ∀ v ∈ L, P v) : NumsP P w.heap.size L.length (w.alloc (.cells (L.map (Value.int .i64)).toArray t)) := by
  intro i hi
  refine ⟨L[i], ?_, hw _ (List.getElem_mem hi)⟩
  have h : (w.alloc (.cells (L.map (Value.int .i64)).toArray t)).heap[w.heap.size]? = some (.cells (L.map (Value.int .i64)).toArray t (0, 0)) := Array.getElem?_push_size
  rw [cell_of_row _ _ i _ _ _ h]
  simp [hi]
set_option maxRecDepth 100000 in
theorem pickP_from (P : Int → Prop) (w0 : World) (cb : Nat) (a : Option Addr) (len cap : Nat) (lb n : Nat) (hn : 0 < n) (hnm : (n : Int) ≤ 1048576) (w : World) (hc : Cur cb a len cap w) (hg : w0.grownBy w (some cb)) (hL : NumsP P lb n w) (hne : lb ≠ cb) :
    Calls Try.prog 55 #[.pointer (some ⟨cb, 0, none⟩), .slice (some ⟨lb, 0, none⟩) n n] w (PickOut P cb a len cap w0) := by
  have HL : Hid (∀ w' : World, w.grownBy w' (some cb) → NumsP P lb n w') := fun w' hg i hi => by
    obtain ⟨v, hv, hw⟩ := hL i hi
    exact ⟨v, hg.cell hv (by simpa using hne), hw⟩
  clear hL
  go_enter Try.func55, Try.ntmps55
  go_wp2_with (go_at_call 27; refine (below_any cb a len cap n (by omega) _ hc).mono ?_; rintro e w1 ⟨x, rfl, hx0, hx1, hc1, hg1⟩; obtain ⟨v, hv, hwf⟩ := HL.out w1 hg1 x.toNat (by omega))
  go_ret
  exact ⟨v, rfl, hwf, hc1, grownBy_trans hg hg1⟩

/-- Eight values in a new row; the cursor stays one. -/
def VarsOut (cb : Nat) (a : Option Addr) (len cap : Nat) (w : World) (e : Ending) (w' : World) : Prop :=
  ∃ (ad : Option Addr) (c : Nat) (L : List Int), e = .returned (.slice ad 8 c) ∧ Hid (L.length = 8) ∧ Hid (∀ x ∈ L, isVal x = true) ∧ w'.ownsRow w.heap.size 3 1 (.slice ad 8 c) 8 (ivs L) ∧ Cur cb a len cap w' ∧ w.grownBy w' (some cb)
theorem six_vals (z : Int) (h0 : 0 ≤ z) (h1 : z < 2000) : ∀ v ∈ [0, 1, 2, 5, z - 1000, 1000000], isVal v = true := by
  intro v hv
  simp only [List.mem_cons, List.not_mem_nil, or_false] at hv
  rw [isVal_iff]
  omega

end Go.Proofs.Ytodlbbojjnkneaa.cur
