/- Several texts in one: Places ExeG. -/
import Derived.Test.YtndpadnjjbbkkaaGHub38
import Derived.Deep.AppendLies
import Derived.Laws.OwnMore
import Derived.WalkSpells
import Derived.Deep.Onto
import Derived.StillTailTactics
import Derived.OwnWalk

/- What the draws of numbers return: any int, and a new row of twelve numbers from 0 to 9999; nothing that was there is written, but the cursor. -/
namespace Go.Proofs.Ytndpadnjjbbkkaa.cur
open Go.ChangeShapes Go.WideShapes Go.ChangeAt Go.RowKit


theorem infoInt : (Try.prog.info? 3).map (fun i => (i.zero, i.size, i.bytes)) = some (some (.int .i64 0), 1, 8) := by kernel_rfl

def ints (L : List Int) : List Value := L.map (Value.int .i64)
/-- Twelve places in a new row. -/
def PlacesOut (w : World) (e : Ending) (w' : World) : Prop :=
  ∃ (v : Value) (L : List Int), e = .returned v ∧ L.length = 12 ∧ Hid (∀ x ∈ L, 0 ≤ x ∧ x < 10000) ∧ w'.ownsRow w.heap.size 3 1 v 12 (ints L) ∧ Below w.heap.size w w'

theorem own_atI {w : World} {base : Nat} {v : Value} {n : Nat} {L : List Int} (h : w.ownsRow base 3 1 v n (ints L)) {k : Nat} (hk : k < n) :
    ∃ (g cap : Nat), v = .slice (some ⟨g, 0, none⟩) n cap ∧ base ≤ g ∧ g < w.heap.size ∧ ∃ x : Int, L[k]? = some x ∧ w.cell? ⟨g, k, none⟩ = some (.int .i64 x) := by
  have hl : L.length = n := by have := h.1; simp [ints] at this; omega
  obtain ⟨g, c, hv, hb, hg⟩ := h.form (by omega)
  subst hv
  have hk' : k < L.length := by omega
  refine ⟨g, c, rfl, hb, hg, L[k], by simp [hk'], ?_⟩
  rw [h.cellAt k (by omega)]; simp [ints, hk']

set_option maxHeartbeats 1000000 in
set_option maxRecDepth 100000 in
theorem places_any (a : Option Addr) (len cap : Nat) (w : World) (hlm : (len : Int) ≤ 1048576) (hb : ∀ i : Nat, i < len → ∃ (b off : Nat) (v : Int), a = some ⟨b, off, none⟩ ∧ w.cell? ⟨b, off + i, none⟩ = some (.int .u8 v)) :
    Calls Try.prog 17 #[.slice a len cap] w (PlacesOut w) := by
  obtain ⟨i0, hi, hz0, hz1, hz2⟩ := info_parts (infoInt)
  have HB := Lib.hid hb
  clear hb
  go_enter Try.func17, Try.ntmps17
  go_wp2_with (go_at_call 34; refine (new_any a len cap _ hlm HB.out).mono ?_; rintro e w1 ⟨rfl, hc1, hb1⟩; refine Hid.out ?_)
  have hg0 := grownBy_refl w1 (some w.heap.size)
  have hs1 : w.heap.size < w1.heap.size := hc1.lt
  refine Lib.hid ?_
  go_wp2
  go_loopw [4, 5] (fun v i wr => ∃ (k : Nat) (L : List Int), k ≤ 12 ∧ i = .int .i64 k ∧ L.length = k ∧ Hid (∀ x ∈ L, 0 ≤ x ∧ x < 10000) ∧ wr.ownsRow w1.heap.size 3 1 v k (ints L) ∧ Cur w.heap.size a len cap wr ∧ w1.grownBy wr (some w.heap.size) ∧ w1.heap.size ≤ wr.heap.size) (fun _ i _ => 12 - (intOf i).toNat)
  case atStart => exact ⟨0, [], Nat.zero_le _, rfl, rfl, Lib.hid (by simp), World.ownsRow_made w1 #[] 0 (Nat.le_refl _) (by decide) rfl, hc1.alloc _, grownBy_trans hg0 (World.grownBy_alloc _ _ _), by simp⟩
  case round =>
    obtain ⟨k, L, hk, rfl, hl, HIN, hown, hcu, hgr, hsw⟩ := hrel
    have HL := Lib.hid hl
    clear hl
    by_cases hlt : k < 12
    · have hblk : ∀ j, u4.ownBlock = some j → w1.heap.size ≤ j := fun j hj => (hown.lt j hj).1
      have HBLK := Lib.hid hblk
      clear hblk
      go_wp2_with (go_at_call 37; refine (below_any w.heap.size a len cap _ (by omega) _ hcu).mono ?_; rintro e w2 ⟨x, rfl, hx0, hx1, hc2, hg2⟩; refine Hid.out ?_)
      have hown1 := hown.kept hg2 (by
        cases hv : u4.ownBlock with
        | none => exact .inl rfl
        | some j => right; have := HBLK.out j hv; intro e; injection e; omega)
      have HX := Lib.hid (show 0 ≤ x ∧ x < 10000 from ⟨hx0, hx1⟩)
      have HG2 := Lib.hid (grownBy_trans hgr hg2)
      have hsz2 := hg2.size
      clear hgr hg2 hown
      refine Lib.hid ?_
      go_wp2_with (at_builtin; refine wpList_append_own _ rfl _ _ 22 rfl w1.heap.size 3 i0 (.int .i64 0) 1 8 Try.underlying22 hi hz0 hz1 hz2 rfl (by decide) _ _ _ rfl (hown1.alloc _) ⟨w2.heap.size, 0, none⟩ 1 1 [.int .i64 x] rfl rfl (World.news_of_block (cs := #[.int .i64 x]) (t := 3) (fr := (0, 0)) (heap_alloc_new w2 _)) (by simp [Value.oneCell']) (by unfold maxLen; omega) (by omega) (by simp; omega) ?_; intro v3 w3 hown3 hgrow3 _; refine Hid.out ?_)
      have hc3 : Cur w.heap.size a len cap w3 := (hc2.alloc _).keep hgrow3 (fun j hj => by have := HBLK.out j hj; omega)
      have hg3 := grownBy_own (grownBy_trans HG2.out (World.grownBy_alloc w2 _ _)) hgrow3 (fun j hj => by have := HBLK.out j hj; omega)
      have hs3 : w1.heap.size ≤ w3.heap.size := by have := hgrow3.size; simp at this; omega
      have e3 : ints L ++ [Value.int .i64 x] = ints (L ++ [x]) := by simp [ints]
      rw [e3] at hown3
      have HO := Lib.hid hown3
      have HIN2 : Hid (∀ y ∈ L ++ [x], 0 ≤ y ∧ y < 10000) := by
        intro y hy
        rcases List.mem_append.1 hy with h | h
        · exact HIN.out y h
        · rw [List.mem_singleton.1 h]; exact HX.out
      clear hown3 hgrow3 e3 hown1
      refine Lib.hid ?_
      go_wp2
      go_roundw
      case rel => exact ⟨k + 1, _, by omega, by go_num, by have := HL.out; simp; omega, HIN2, HO.out, hc3, hg3, hs3⟩
      case measure => simp [intOf]; omega
    · go_wp2
      go_ret
      have hk12 : k = 12 := by omega
      subst hk12
      exact ⟨_, L, rfl, HL.out, HIN, hown.mono (by omega), hb1.grown hgr (by omega) (fun j hj => by cases hj; exact Nat.le_refl _)⟩
end Go.Proofs.Ytndpadnjjbbkkaa.cur

/- The draw of readings: one to nine numbers from -200 to 599, in new memory; nothing that was there is written. -/
namespace Go.Proofs.Ytndpadnjjbbkkaa.cur
open Go Go.ChangeShapes Go.WideShapes Go.ChangeAt Go.RowKit

def RdgIn (L : List Int) : Prop := ∀ x ∈ L, -200 ≤ x ∧ x < 600
/-- Drawn readings in new memory; the cursor stays one. -/
def RdgBody (cb : Nat) (a : Option Addr) (len cap : Nat) (w : World) (e : Ending) (w' : World) : Prop :=
  ∃ (v : Value) (L : List Int), e = .returned v ∧ 1 ≤ L.length ∧ L.length ≤ 9 ∧ Hid (RdgIn L) ∧ w'.ownsRow w.heap.size 3 1 v L.length (ints L) ∧ Cur cb a len cap w' ∧ w.grownBy w' (some cb)
def RdgOut (w : World) (e : Ending) (w' : World) : Prop :=
  ∃ (v : Value) (L : List Int), e = .returned v ∧ 1 ≤ L.length ∧ L.length ≤ 9 ∧ Hid (RdgIn L) ∧ w'.ownsRow w.heap.size 3 1 v L.length (ints L) ∧ Below w.heap.size w w'
set_option maxHeartbeats 2000000 in
set_option maxRecDepth 100000 in
theorem readings_from (cb : Nat) (a : Option Addr) (len cap : Nat) (w : World) (hc : Cur cb a len cap w) :
    Calls Try.prog 36 #[.pointer (some ⟨cb, 0, none⟩)] w (RdgBody cb a len cap w) := by
  obtain ⟨i0, hi, hz0, hz1, hz2⟩ := info_parts (infoInt)
  have hg0 := grownBy_refl w (some cb)
  have hs1 : cb < w.heap.size := hc.lt
  go_enter Try.func36, Try.ntmps36
  go_wp2
  go_loopw [3, 4] (fun v i wr => ∃ (k : Nat) (L : List Int), k ≤ 9 ∧ i = .int .i64 k ∧ L.length = k ∧ Hid (RdgIn L) ∧ wr.ownsRow w.heap.size 3 1 v k (ints L) ∧ Cur cb a len cap wr ∧ w.grownBy wr (some cb) ∧ w.heap.size ≤ wr.heap.size) (fun _ i _ => 9 - (intOf i).toNat)
  case atStart => exact ⟨0, [], Nat.zero_le _, rfl, rfl, Lib.hid (by unfold RdgIn; simp), World.ownsRow_made w #[] 0 (Nat.le_refl _) (by decide) rfl, hc.alloc _, grownBy_trans hg0 (World.grownBy_alloc _ _ _), by simp⟩
  case round =>
    obtain ⟨k, L, hk, rfl, hl, HIN, hown0, hcu0, hgr0, hsw0⟩ := hrel
    have HL := Lib.hid hl
    clear hl
    have HBLK := Lib.hid (show ∀ j, u3.ownBlock = some j → w.heap.size ≤ j from fun j hj => (hown0.lt j hj).1)
    go_wp2_with (go_at_call 37; (with_reducible refine (below_any cb a len cap 9 (by omega) _ hcu0).mono ?_); rintro e wz ⟨z, rfl, hz0', hz1', hcu, hgz⟩; refine Hid.out ?_)
    have hown := hown0.kept hgz (by
      cases hv : u3.ownBlock with
      | none => exact .inl rfl
      | some j => right; have := HBLK.out j hv; intro e; injection e; omega)
    have hgr := grownBy_trans hgr0 hgz
    have hsw : w.heap.size ≤ wz.heap.size := Nat.le_trans hsw0 hgz.size
    clear hown0 hcu0 hgr0 hsw0 hgz
    by_cases hlt : (k : Int) < 1 + z
    · refine Lib.hid ?_
      go_wp2_with (go_at_call 37; (with_reducible refine (below_any cb a len cap 800 (by omega) _ hcu).mono ?_); rintro e w2 ⟨x, rfl, hx0, hx1, hc2, hg2⟩; refine Hid.out ?_)
      have hown1 := hown.kept hg2 (by
        cases hv : u3.ownBlock with
        | none => exact .inl rfl
        | some j => right; have := HBLK.out j hv; intro e; injection e; omega)
      have HX := Lib.hid (show -200 ≤ x - 200 ∧ x - 200 < 600 by omega)
      have HG2 := Lib.hid (grownBy_trans hgr hg2)
      have hsz2 := hg2.size
      clear hgr hg2 hown
      refine Lib.hid ?_
      go_wp2_with (at_builtin; refine wpList_append_own _ rfl _ _ 22 rfl w.heap.size 3 i0 (.int .i64 0) 1 8 Try.underlying22 hi hz0 hz1 hz2 rfl (by decide) _ _ _ rfl (hown1.alloc _) ⟨w2.heap.size, 0, none⟩ 1 1 [.int .i64 (x - 200)] rfl rfl (World.news_of_block (cs := #[.int .i64 (x - 200)]) (t := 3) (fr := (0, 0)) (heap_alloc_new w2 _)) (by simp [Value.oneCell']) (by unfold maxLen; omega) (by omega) (by simp; omega) ?_; intro v3 w3 hown3 hgrow3 _; refine Hid.out ?_)
      have hc3 : Cur cb a len cap w3 := (hc2.alloc _).keep hgrow3 (fun j hj => by have := HBLK.out j hj; omega)
      have hg3 := grownBy_own (grownBy_trans HG2.out (World.grownBy_alloc w2 _ _)) hgrow3 (fun j hj => by have := HBLK.out j hj; omega)
      have hs3 : w.heap.size ≤ w3.heap.size := by have := hgrow3.size; simp at this; omega
      have e3 : ints L ++ [Value.int .i64 (x - 200)] = ints (L ++ [x - 200]) := by simp [ints]
      rw [e3] at hown3
      have HO := Lib.hid hown3
      have HIN2 : Hid (RdgIn (L ++ [x - 200])) := by
        intro y hy
        rcases List.mem_append.1 hy with h | h
        · exact HIN.out y h
        · rw [List.mem_singleton.1 h]; exact HX.out
      clear hown3 hgrow3 e3 hown1
      refine Lib.hid ?_
      go_wp2
      go_roundw
      case rel => exact ⟨k + 1, _, by omega, by go_num, by have := HL.out; simp; omega, HIN2, HO.out, hc3, hg3, hs3⟩
      case measure => simp [intOf]; omega
    · refine Lib.hid ?_
      go_wp2
      go_ret
      exact ⟨_, L, rfl, by have := HL.out; omega, by have := HL.out; omega, HIN, by rw [HL.out]; exact hown, hcu, hgr⟩
theorem readings_any (a : Option Addr) (len cap : Nat) (w : World) (hlm : (len : Int) ≤ 1048576) (hb : ∀ i : Nat, i < len → ∃ (b off : Nat) (v : Int), a = some ⟨b, off, none⟩ ∧ w.cell? ⟨b, off + i, none⟩ = some (.int .u8 v)) :
    Calls Try.prog 16 #[.slice a len cap] w (RdgOut w) := by
  have HB := Lib.hid hb
  clear hb
  go_enter Try.func16, Try.ntmps16
  go_wp2_with (go_at_call 34; refine (new_any a len cap _ hlm HB.out).mono ?_; rintro e w1 ⟨rfl, hc1, hb1⟩; refine Hid.out ?_)
  have H1 := Lib.hid (And.intro hc1 hb1)
  clear hc1 hb1
  refine Lib.hid ?_
  go_wp2_with (go_at_call 36; refine (readings_from w.heap.size a len cap _ H1.out.1).mono ?_; rintro e w2 ⟨v, L, rfl, h1, h2, h3, h4, h5, h6⟩)
  go_ret
  exact ⟨v, L, rfl, h1, h2, h3, h4.mono H1.out.2.size, H1.out.2.grown h6 H1.out.2.size (fun j hj => by cases hj; exact Nat.le_refl _)⟩
end Go.Proofs.Ytndpadnjjbbkkaa.cur
