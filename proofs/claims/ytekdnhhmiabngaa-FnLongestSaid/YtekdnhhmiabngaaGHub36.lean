/- Several texts in one: Vars. -/
import Derived.Test.YtekdnhhmiabngaaGHub34
import Derived.Test.YtekdnhhmiabngaaGHub0
import Derived.Test.YtekdnhhmiabngaaGHub1

/- What the draw of valid variables returns: a new row of eight values; nothing that was there is written, but the cursor. -/
namespace Go.Proofs.Ytekdnhhmiabngaa.cur
open Go.ChangeShapes Go.WideShapes Go.ChangeAt Go.RowKit Go.Proofs.Ytekdnhhmiabngaa.row Go.Proofs.Ytekdnhhmiabngaa.val

/-- A drawn number with a property; the cursor stays one; of the blocks that were there its own alone is touched. -/
def PickOut (P : Int → Prop) (cb : Nat) (a : Option Addr) (len cap : Nat) (w : World) (e : Ending) (w' : World) : Prop :=
  ∃ x : Int, e = .returned (.int .i64 x) ∧ P x ∧ Cur cb a len cap w' ∧ w.grownBy w' (some cb)
def NumsP (P : Int → Prop) (lb n : Nat) (w : World) : Prop := ∀ i : Nat, i < n → ∃ v : Int, w.cell? ⟨lb, i, none⟩ = some (.int .i64 v) ∧ P v
theorem numsP_alloc (P : Int → Prop) (w : World) (L : List Int) (t : TypeId) (hw : ∀ v ∈ L, P v) : NumsP P w.heap.size L.length (w.alloc (.cells (L.map (Value.int .i64)).toArray t)) := by
  intro i hi
  refine ⟨L[i], ?_, hw _ (List.getElem_mem hi)⟩
  have h : (w.alloc (.cells (L.map (Value.int .i64)).toArray t)).heap[w.heap.size]? = some (.cells (L.map (Value.int .i64)).toArray t (0, 0)) := Array.getElem?_push_size
  rw [cell_of_row _ _ i _ _ _ h]
  simp [hi]
set_option maxRecDepth 100000 in
theorem pickP_from (P : Int → Prop) (w0 : World) (cb : Nat) (a : Option Addr) (len cap : Nat) (lb n : Nat) (hn : 0 < n) (hnm : (n : Int) ≤ 1048576) (w : World) (hc : Cur cb a len cap w) (hg : w0.grownBy w (some cb)) (hL : NumsP P lb n w) (hne : lb ≠ cb) :
    Calls Try.prog 43 #[.pointer (some ⟨cb, 0, none⟩), .slice (some ⟨lb, 0, none⟩) n n] w (PickOut P cb a len cap w0) := by
  have HL : Hid (∀ w' : World, w.grownBy w' (some cb) → NumsP P lb n w') := fun w' hg i hi => by
    obtain ⟨v, hv, hw⟩ := hL i hi
    exact ⟨v, hg.cell hv (by simpa using hne), hw⟩
  clear hL
  go_enter Try.func43, Try.ntmps43
  go_wp2_with (go_at_call 31; refine (below_any cb a len cap n (by omega) _ hc).mono ?_; rintro e w1 ⟨x, rfl, hx0, hx1, hc1, hg1⟩; obtain ⟨v, hv, hwf⟩ := HL.out w1 hg1 x.toNat (by omega))
  go_ret
  exact ⟨v, rfl, hwf, hc1, grownBy_trans hg hg1⟩

/-- Eight values in a new row; the cursor stays one. -/
def VarsOut (cb : Nat) (a : Option Addr) (len cap : Nat) (w : World) (e : Ending) (w' : World) : Prop :=
  ∃ (ad : Option Addr) (c : Nat) (L : List Int), e = .returned (.slice ad 8 c) ∧ Hid (L.length = 8) ∧ Hid (∀ x ∈ L, isVal x = true) ∧ w'.ownsRow w.heap.size 3 1 (.slice ad 8 c) 8 (ivs L) ∧ Cur cb a len cap w' ∧ w.grownBy w' (some cb)
theorem six_vals (z : Int) (h0 : 0 ≤ z) (h1 : z < 2000) : ∀ v ∈ [0, 1, 2, 5, z - 1000, 1000000], isVal v = true := by
  intro v hv
  simp only [List.mem_cons, List.not_mem_nil, or_false] at hv
  rw [isVal_iff]
  omega

set_option maxHeartbeats 1000000 in
set_option maxRecDepth 100000 in
theorem l03vars_any (cb : Nat) (a : Option Addr) (len cap : Nat) (w : World) (hc : Cur cb a len cap w) :
    Calls Try.prog 22 #[.pointer (some ⟨cb, 0, none⟩)] w (VarsOut cb a len cap w) := by
  obtain ⟨i0, hi, hz0, hz1, hz2⟩ := info_parts (row.infoInt)
  have hcl := hc.lt
  go_enter Try.func22, Try.ntmps22
  go_wp2
  go_loopw [3, 4] (fun v i wr => ∃ (k : Nat) (L : List Int), k ≤ 8 ∧ i = .int .i64 k ∧ Hid (L.length = k) ∧ Hid (∀ x ∈ L, isVal x = true) ∧ wr.ownsRow w.heap.size 3 1 v k (ivs L) ∧ Cur cb a len cap wr ∧ w.grownBy wr (some cb) ∧ w.heap.size ≤ wr.heap.size) (fun _ i _ => 8 - (intOf i).toNat)
  case atStart => exact ⟨0, [], Nat.zero_le _, rfl, rfl, Lib.hid (by simp), World.ownsRow_made w #[] 0 (Nat.le_refl _) (by decide) rfl, hc.alloc _, World.grownBy_alloc _ _ _, by simp⟩
  case round =>
    obtain ⟨k, L, hk, rfl, HL, HV, hown, hcu, hgr, hsw⟩ := hrel
    by_cases hlt : k < 8
    · have HBLK : Hid (∀ j, u3.ownBlock = some j → w.heap.size ≤ j) := fun j hj => (hown.lt j hj).1
      have HO := Lib.hid hown
      have HG := Lib.hid hgr
      clear hown hgr
      go_wp2_with (go_at_call 31; refine (below_any cb a len cap _ (by omega) _ hcu).mono ?_; rintro e w2 ⟨z, rfl, hz0', hz1', hc2, hg2⟩; refine Hid.out ?_)
      have hown2 := HO.out.kept hg2 (by
        cases hv : u3.ownBlock with
        | none => exact .inl rfl
        | some j => right; have := HBLK.out j hv; intro e; injection e; omega)
      have hsz2 := hg2.size
      have HG2 := Lib.hid (grownBy_trans HG.out hg2)
      have HO2 := Lib.hid hown2
      have HN := Lib.hid (numsP_alloc (fun x => isVal x = true) w2 [0, 1, 2, 5, z - 1000, 1000000] 3 (six_vals z hz0' hz1'))
      have hsm : w2.heap.size ≠ cb := by omega
      clear hown2 hg2 HO HG hcu
      refine Lib.hid ?_
      go_wp2_with (go_at_call 43; refine (pickP_from (fun x => isVal x = true) (w2.alloc (.cells #[.int .i64 0, .int .i64 1, .int .i64 2, .int .i64 5, .int .i64 (z - 1000), .int .i64 1000000] 3)) cb a len cap w2.heap.size 6 (by omega) (by omega) _ (hc2.alloc _) (grownBy_refl _ _) HN.out hsm).mono ?_; rintro e w3 ⟨x, rfl, hxv, hc3, hg3⟩; refine Hid.out ?_)
      have hg23 : w2.grownBy w3 (some cb) := grownBy_trans (World.grownBy_alloc w2 _ _) hg3
      have hown3 := HO2.out.kept hg23 (by
        cases hv : u3.ownBlock with
        | none => exact .inl rfl
        | some j => right; have := HBLK.out j hv; intro e; injection e; omega)
      have hsz3 := hg23.size
      have HG3 := Lib.hid (grownBy_trans HG2.out hg23)
      have HO3 := Lib.hid hown3
      have HXV := Lib.hid hxv
      clear hown3 hg3 hg23 hxv HO2 HG2 hc2 HN hsm
      refine Lib.hid ?_
      go_wp2_with (at_builtin; refine wpList_append_own _ rfl _ _ 28 rfl w.heap.size 3 i0 (.int .i64 0) 1 8 Try.underlying28 hi hz0 hz1 hz2 rfl (by decide) _ _ _ rfl (HO3.out.alloc _) ⟨w3.heap.size, 0, none⟩ 1 1 [.int .i64 x] rfl rfl (World.news_of_block (cs := #[.int .i64 x]) (t := 3) (fr := (0, 0)) (heap_alloc_new w3 _)) (by simp [Value.oneCell']) (by unfold maxLen; omega) (by omega) (by simp; omega) ?_; intro v4 w4 hown4 hgrow4 _; refine Hid.out ?_)
      have hc4 : Cur cb a len cap w4 := (hc3.alloc _).keep hgrow4 (fun j hj => by have := HBLK.out j hj; omega)
      have hg4 := grownBy_own (grownBy_trans HG3.out (World.grownBy_alloc w3 _ _)) hgrow4 (fun j hj => by have := HBLK.out j hj; omega)
      have hs4 : w.heap.size ≤ w4.heap.size := by have := hgrow4.size; simp at this; omega
      rw [ivs_snoc] at hown4
      have HO4 := Lib.hid hown4
      have HL4 : Hid ((L ++ [x]).length = k + 1) := by show _ = _; have := HL.out; simp; omega
      have HV4 : Hid (∀ y ∈ L ++ [x], isVal y = true) := by
        intro y hy
        rcases List.mem_append.1 hy with h | h
        · exact HV.out y h
        · rw [List.mem_singleton.1 h]; exact HXV.out
      clear hown4 hgrow4 HO3 hc3
      refine Lib.hid ?_
      go_wp2
      go_roundw
      case rel => exact ⟨k + 1, L ++ [x], by omega, by go_num, HL4, HV4, HO4.out, hc4, hg4, hs4⟩
      case measure => simp [intOf]; omega
    · have hk8 : k = 8 := by omega
      subst hk8
      obtain ⟨g, c, rfl, _, _⟩ := hown.form (by omega)
      have HH := Lib.hid (And.intro hown hgr)
      clear hown hgr
      go_wp2
      go_ret
      exact ⟨_, _, L, rfl, HL, HV, HH.out.1, hcu, HH.out.2⟩
/-- Eight values in a new row. -/
def NewVars (w : World) (e : Ending) (w' : World) : Prop :=
  ∃ (ad : Option Addr) (c : Nat) (L : List Int), e = .returned (.slice ad 8 c) ∧ Hid (L.length = 8) ∧ Hid (∀ x ∈ L, isVal x = true) ∧ w'.ownsRow w.heap.size 3 1 (.slice ad 8 c) 8 (ivs L) ∧ Below w.heap.size w w'
set_option maxRecDepth 100000 in
theorem vars_any (a : Option Addr) (len cap : Nat) (w : World) (hlm : (len : Int) ≤ 1048576) (hb : ∀ i : Nat, i < len → ∃ (b off : Nat) (v : Int), a = some ⟨b, off, none⟩ ∧ w.cell? ⟨b, off + i, none⟩ = some (.int .u8 v)) :
    Calls Try.prog 9 #[.slice a len cap] w (NewVars w) := by
  have HB := Lib.hid hb
  clear hb
  go_enter Try.func9, Try.ntmps9
  go_wp2_with (first
    | (go_at_call 21; refine (new_any a len cap _ hlm HB.out).mono ?_; rintro e w1 ⟨rfl, hc1, hb1⟩)
    | (go_at_call 22; refine (l03vars_any w.heap.size a len cap _ hc1).mono ?_; rintro e w2 ⟨ad, c, L, rfl, hL, hV, ho, hc2, hg2⟩))
  go_ret
  exact ⟨ad, c, L, rfl, hL, hV, ho.mono hb1.size, hb1.grown hg2 hb1.size (fun j hj => by cases hj; exact Nat.le_refl _)⟩
end Go.Proofs.Ytekdnhhmiabngaa.cur
