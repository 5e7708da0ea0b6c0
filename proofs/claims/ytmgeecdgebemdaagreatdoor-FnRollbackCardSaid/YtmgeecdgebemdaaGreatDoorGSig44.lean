/- Several texts in one: ExeG. -/
import Derived.Test.YtmgeecdgebemdaaGreatDoorGSig40

/- The draw of readings: one to nine numbers from -200 to 599, in new memory; nothing that was there is written. -/
namespace Go.Proofs.YtmgeecdgebemdaaGreatDoor.cur
open Go Go.ChangeShapes Go.WideShapes Go.ChangeAt Go.RowKit

def RdgIn (L : List Int) : Prop := ∀ x ∈ L, -200 ≤ x ∧ x < 600
/-- Drawn readings in new memory; the cursor stays one. -/
def RdgBody (cb : Nat) (a : Option Addr) (len cap : Nat) (w : World) (e : Ending) (w' : World) : Prop :=
  ∃ (v : Value) (L : List Int), e = .returned v ∧ 1 ≤ L.length ∧ L.length ≤ 9 ∧ Hid (RdgIn L) ∧ w'.ownsRow w.heap.size 3 1 v L.length (ints L) ∧ Cur cb a len cap w' ∧ w.grownBy w' (some cb)
def RdgOut (w : World) (e : Ending) (w' : World) : Prop :=
  ∃ (v : Value) (L : List Int), e = .returned v ∧ 1 ≤ L.length ∧ L.length ≤ 9 ∧ Hid (RdgIn L) ∧ w'.ownsRow w.heap.size 3 1 v L.length (ints L) ∧ Below w.heap.size w w'
set_option maxHeartbeats 2000000 in
set_option maxRecDepth 100000 in
theorem readings_from (cb : Nat) (a : Option Addr) (len cap : Nat) (w : World) (hc : Cur cb a len cap w) :
    Calls Tryz.prog 54 #[.pointer (some ⟨cb, 0, none⟩)] w (RdgBody cb a len cap w) := by
  obtain ⟨i0, hi, hz0, hz1, hz2⟩ := info_parts (infoInt)
  have hg0 := grownBy_refl w (some cb)
  have hs1 : cb < w.heap.size := hc.lt
  go_enter Tryz.func54, Tryz.ntmps54
  go_wp2
  go_loopw [3, 4] (fun v i wr => ∃ (k : Nat) (L : List Int), k ≤ 9 ∧ i = .int .i64 k ∧ L.length = k ∧ Hid (RdgIn L) ∧ wr.ownsRow w.heap.size 3 1 v k (ints L) ∧ Cur cb a len cap wr ∧ w.grownBy wr (some cb) ∧ w.heap.size ≤ wr.heap.size) (fun _ i _ => 9 - (intOf i).toNat)
  case atStart => exact ⟨0, [], Nat.zero_le _, rfl, rfl, Lib.hid (by unfold RdgIn; simp), World.ownsRow_made w #[] 0 (Nat.le_refl _) (by decide) rfl, hc.alloc _, grownBy_trans hg0 (World.grownBy_alloc _ _ _), by simp⟩
  case round =>
    obtain ⟨k, L, hk, rfl, hl, HIN, hown0, hcu0, hgr0, hsw0⟩ := hrel
    have HL := Lib.hid hl
    clear hl
    have HBLK := Lib.hid (show ∀ j, u3.ownBlock = some j → w.heap.size ≤ j from fun j hj => (hown0.lt j hj).1)
    go_wp2_with (go_at_call 55; (with_reducible refine (below_any cb a len cap 9 (by omega) _ hcu0).mono ?_); rintro e wz ⟨z, rfl, hz0', hz1', hcu, hgz⟩; refine Hid.out ?_)
    have hown := hown0.kept hgz (by
      cases hv : u3.ownBlock with
      | none => exact .inl rfl
      | some j => right; have := HBLK.out j hv; intro e; injection e; omega)
    have hgr := grownBy_trans hgr0 hgz
    have hsw : w.heap.size ≤ wz.heap.size := Nat.le_trans hsw0 hgz.size
    clear hown0 hcu0 hgr0 hsw0 hgz
    by_cases hlt : (k : Int) < 1 + z
    · refine Lib.hid ?_
      go_wp2_with (go_at_call 55; (with_reducible refine (below_any cb a len cap 800 (by omega) _ hcu).mono ?_); rintro e w2 ⟨x, rfl, hx0, hx1, hc2, hg2⟩; refine Hid.out ?_)
      have hown1 := hown.kept hg2 (by
        cases hv : u3.ownBlock with
        | none => exact .inl rfl
        | some j => right; have := HBLK.out j hv; intro e; injection e; omega)
      have HX := Lib.hid (show -200 ≤ x - 200 ∧ x - 200 < 600 by omega)
      have HG2 := Lib.hid (grownBy_trans hgr hg2)
      have hsz2 := hg2.size
      clear hgr hg2 hown
      refine Lib.hid ?_
      go_wp2_with (at_builtin; refine wpList_append_own _ rfl _ _ 27 rfl w.heap.size 3 i0 (.int .i64 0) 1 8 Tryz.underlying27 hi hz0 hz1 hz2 rfl (by decide) _ _ _ rfl (hown1.alloc _) ⟨w2.heap.size, 0, none⟩ 1 1 [.int .i64 (x - 200)] rfl rfl (World.news_of_block (cs := #[.int .i64 (x - 200)]) (t := 3) (fr := (0, 0)) (heap_alloc_new w2 _)) (by simp [Value.oneCell']) (by unfold maxLen; omega) (by omega) (by simp; omega) ?_; intro v3 w3 hown3 hgrow3 _; refine Hid.out ?_)
      have hc3 : Cur cb a len cap w3 := (hc2.alloc _).keep hgrow3 (fun j hj => by have := HBLK.out j hj; omega)
      have hg3 := grownBy_own (grownBy_trans HG2.out (World.grownBy_alloc w2 _ _)) hgrow3 (fun j hj => by have := HBLK.out j hj; omega)
      have hs3 : w.heap.size ≤ w3.heap.size := by have := hgrow3.size; simp at this; omega
      have e3 : ints L ++ [Value.int .i64 (x - 200)] = ints (L ++ [x - 200]) := by simp [ints]
      rw [e3] at hown3
      have HO := Lib.hid hown3
      have HIN2 : Hid (RdgIn (L ++ [x - 200])) := by
        intro y hy
        rcases List.mem_append.1 hy with h | h
        · exact HIN.out y h
        · rw [List.mem_singleton.1 h]; exact HX.out
      clear hown3 hgrow3 e3 hown1
      refine Lib.hid ?_
      go_wp2
      go_roundw
      case rel => exact ⟨k + 1, _, by omega, by go_num, by have := HL.out; simp; omega, HIN2, HO.out, hc3, hg3, hs3⟩
      case measure => simp [intOf]; omega
    · refine Lib.hid ?_
      go_wp2
      go_ret
      exact ⟨_, L, rfl, by have := HL.out; omega, by have := HL.out; omega, HIN, by rw [HL.out]; exact hown, hcu, hgr⟩
theorem readings_any (a : Option Addr) (len cap : Nat) (w : World) (hlm : (len : Int) ≤ 1048576) (hb : ∀ i : Nat, i < len → ∃ (b off : Nat) (v : Int), a = some ⟨b, off, none⟩ ∧ w.cell? ⟨b, off + i, none⟩ = some (.int .u8 v)) :
    Calls Tryz.prog 12 #[.slice a len cap] w (RdgOut w) := by
  have HB := Lib.hid hb
  clear hb
  go_enter Tryz.func12, Tryz.ntmps12
  go_wp2_with (go_at_call 50; refine (new_any a len cap _ hlm HB.out).mono ?_; rintro e w1 ⟨rfl, hc1, hb1⟩; refine Hid.out ?_)
  have H1 := Lib.hid (And.intro hc1 hb1)
  clear hc1 hb1
  refine Lib.hid ?_
  go_wp2_with (go_at_call 54; refine (readings_from w.heap.size a len cap _ H1.out.1).mono ?_; rintro e w2 ⟨v, L, rfl, h1, h2, h3, h4, h5, h6⟩)
  go_ret
  exact ⟨v, L, rfl, h1, h2, h3, h4.mono H1.out.2.size, H1.out.2.grown h6 H1.out.2.size (fun j hj => by cases hj; exact Nat.le_refl _)⟩
end Go.Proofs.YtmgeecdgebemdaaGreatDoor.cur
