/- Several texts in one: QVars QDrawB. -/
import Derived.Test.YtmgeecdgebemdaaGreatDoorGSigQ45
import Derived.Test.YtmgeecdgebemdaaGreatDoorGSigQ0
import Derived.Test.YtmgeecdgebemdaaGreatDoorGSigQ1
import Derived.Laws.Rows

/- What the draw of valid variables returns: a new row of eight values; nothing that was there is written, but the cursor. -/
namespace Go.Proofs.YtmgeecdgebemdaaGreatDoor.cur
open Go.ChangeShapes Go.WideShapes Go.ChangeAt Go.RowKit Go.Proofs.YtmgeecdgebemdaaGreatDoor.row Go.Proofs.YtmgeecdgebemdaaGreatDoor.val
/-- A drawn number with a property; the cursor stays one; of the blocks that were there its own alone is touched. -/
def PickOut (P : Int → Prop) (cb : Nat) (a : Option Addr) (len cap : Nat) (w : World) (e : Ending) (w' : World) : Prop :=
  ∃ x : Int, e = .returned (.int .i64 x) ∧ P x ∧ Cur cb a len cap w' ∧ w.grownBy w' (some cb)
def NumsP (P : Int → Prop) (lb n : Nat) (w : World) : Prop := ∀ i : Nat, i < n → ∃ v : Int, w.cell? ⟨lb, i, none⟩ = some (.int .i64 v) ∧ P v
theorem numsP_alloc (P : Int → Prop) (w : World) (L : List Int) (t : TypeId) (hw : ∀ v ∈ L, P v) : NumsP P w.heap.size L.length (w.alloc (.cells (L.map (Value.int .i64)).toArray t)) := by
  intro i hi
  refine ⟨L[i], ?_, hw _ (List.getElem_mem hi)⟩
  have h : (w.alloc (.cells (L.map (Value.int .i64)).toArray t)).heap[w.heap.size]? = some (.cells (L.map (Value.int .i64)).toArray t (0, 0)) := Array.getElem?_push_size
  rw [cell_of_row _ _ i _ _ _ h]
  simp [hi]
set_option maxRecDepth 100000 in
theorem pickP_from (P : Int → Prop) (w0 : World) (cb : Nat) (a : Option Addr) (len cap : Nat) (lb n : Nat) (hn : 0 < n) (hnm : (n : Int) ≤ 1048576) (w : World) (hc : Cur cb a len cap w) (hg : w0.grownBy w (some cb)) (hL : NumsP P lb n w) (hne : lb ≠ cb) :
    Calls Tryz.prog 162 #[.pointer (some ⟨cb, 0, none⟩), .slice (some ⟨lb, 0, none⟩) n n] w (PickOut P cb a len cap w0) := by
  have HL : Hid (∀ w' : World, w.grownBy w' (some cb) → NumsP P lb n w') := fun w' hg i hi => by
    obtain ⟨v, hv, hw⟩ := hL i hi
    exact ⟨v, hg.cell hv (by simpa using hne), hw⟩
  clear hL
  go_enter Tryz.func162, Tryz.ntmps162
  go_wp2_with (go_at_call 55; refine (below_any cb a len cap n (by omega) _ hc).mono ?_; rintro e w1 ⟨x, rfl, hx0, hx1, hc1, hg1⟩; obtain ⟨v, hv, hwf⟩ := HL.out w1 hg1 x.toNat (by omega))
  go_ret
  exact ⟨v, rfl, hwf, hc1, grownBy_trans hg hg1⟩

/-- Eight values in a new row; the cursor stays one. -/
def VarsOut (cb : Nat) (a : Option Addr) (len cap : Nat) (w : World) (e : Ending) (w' : World) : Prop :=
  ∃ (ad : Option Addr) (c : Nat) (L : List Int), e = .returned (.slice ad 8 c) ∧ Hid (L.length = 8) ∧ Hid (∀ x ∈ L, isVal x = true) ∧ w'.ownsRow w.heap.size 3 1 (.slice ad 8 c) 8 (ivs L) ∧ Cur cb a len cap w' ∧ w.grownBy w' (some cb)
theorem six_vals (z : Int) (h0 : 0 ≤ z) (h1 : z < 2000) : ∀ v ∈ [0, 1, 2, 5, z - 1000, 1000000], isVal v = true := by
  intro v hv
  simp only [List.mem_cons, List.not_mem_nil, or_false] at hv
  rw [isVal_iff]
  omega

set_option maxHeartbeats 1000000 in
set_option maxRecDepth 100000 in
theorem l03vars_any (cb : Nat) (a : Option Addr) (len cap : Nat) (w : World) (hc : Cur cb a len cap w) :
    Calls Tryz.prog 114 #[.pointer (some ⟨cb, 0, none⟩)] w (VarsOut cb a len cap w) := by
  obtain ⟨i0, hi, hz0, hz1, hz2⟩ := info_parts (row.infoInt)
  have hcl := hc.lt
  go_enter Tryz.func114, Tryz.ntmps114
  go_wp2
  go_loopw [3, 4] (fun v i wr => ∃ (k : Nat) (L : List Int), k ≤ 8 ∧ i = .int .i64 k ∧ Hid (L.length = k) ∧ Hid (∀ x ∈ L, isVal x = true) ∧ wr.ownsRow w.heap.size 3 1 v k (ivs L) ∧ Cur cb a len cap wr ∧ w.grownBy wr (some cb) ∧ w.heap.size ≤ wr.heap.size) (fun _ i _ => 8 - (intOf i).toNat)
  case atStart => exact ⟨0, [], Nat.zero_le _, rfl, rfl, Lib.hid (by simp), World.ownsRow_made w #[] 0 (Nat.le_refl _) (by decide) rfl, hc.alloc _, World.grownBy_alloc _ _ _, by simp⟩
  case round =>
    obtain ⟨k, L, hk, rfl, HL, HV, hown, hcu, hgr, hsw⟩ := hrel
    by_cases hlt : k < 8
    · have HBLK : Hid (∀ j, u3.ownBlock = some j → w.heap.size ≤ j) := fun j hj => (hown.lt j hj).1
      have HO := Lib.hid hown
      have HG := Lib.hid hgr
      clear hown hgr
      go_wp2_with (go_at_call 55; refine (below_any cb a len cap _ (by omega) _ hcu).mono ?_; rintro e w2 ⟨z, rfl, hz0', hz1', hc2, hg2⟩; refine Hid.out ?_)
      have hown2 := HO.out.kept hg2 (by
        cases hv : u3.ownBlock with
        | none => exact .inl rfl
        | some j => right; have := HBLK.out j hv; intro e; injection e; omega)
      have hsz2 := hg2.size
      have HG2 := Lib.hid (grownBy_trans HG.out hg2)
      have HO2 := Lib.hid hown2
      have HN := Lib.hid (numsP_alloc (fun x => isVal x = true) w2 [0, 1, 2, 5, z - 1000, 1000000] 3 (six_vals z hz0' hz1'))
      have hsm : w2.heap.size ≠ cb := by omega
      clear hown2 hg2 HO HG hcu
      refine Lib.hid ?_
      go_wp2_with (go_at_call 162; refine (pickP_from (fun x => isVal x = true) (w2.alloc (.cells #[.int .i64 0, .int .i64 1, .int .i64 2, .int .i64 5, .int .i64 (z - 1000), .int .i64 1000000] 3)) cb a len cap w2.heap.size 6 (by omega) (by omega) _ (hc2.alloc _) (grownBy_refl _ _) HN.out hsm).mono ?_; rintro e w3 ⟨x, rfl, hxv, hc3, hg3⟩; refine Hid.out ?_)
      have hg23 : w2.grownBy w3 (some cb) := grownBy_trans (World.grownBy_alloc w2 _ _) hg3
      have hown3 := HO2.out.kept hg23 (by
        cases hv : u3.ownBlock with
        | none => exact .inl rfl
        | some j => right; have := HBLK.out j hv; intro e; injection e; omega)
      have hsz3 := hg23.size
      have HG3 := Lib.hid (grownBy_trans HG2.out hg23)
      have HO3 := Lib.hid hown3
      have HXV := Lib.hid hxv
      clear hown3 hg3 hg23 hxv HO2 HG2 hc2 HN hsm
      refine Lib.hid ?_
      go_wp2_with (at_builtin; refine wpList_append_own _ rfl _ _ 27 rfl w.heap.size 3 i0 (.int .i64 0) 1 8 Tryz.underlying27 hi hz0 hz1 hz2 rfl (by decide) _ _ _ rfl (HO3.out.alloc _) ⟨w3.heap.size, 0, none⟩ 1 1 [.int .i64 x] rfl rfl (World.news_of_block (cs := #[.int .i64 x]) (t := 3) (fr := (0, 0)) (heap_alloc_new w3 _)) (by simp [Value.oneCell']) (by unfold maxLen; omega) (by omega) (by simp; omega) ?_; intro v4 w4 hown4 hgrow4 _; refine Hid.out ?_)
      have hc4 : Cur cb a len cap w4 := (hc3.alloc _).keep hgrow4 (fun j hj => by have := HBLK.out j hj; omega)
      have hg4 := grownBy_own (grownBy_trans HG3.out (World.grownBy_alloc w3 _ _)) hgrow4 (fun j hj => by have := HBLK.out j hj; omega)
      have hs4 : w.heap.size ≤ w4.heap.size := by have := hgrow4.size; simp at this; omega
      rw [ivs_snoc] at hown4
      have HO4 := Lib.hid hown4
      have HL4 : Hid ((L ++ [x]).length = k + 1) := by show _ = _; have := HL.out; simp; omega
      have HV4 : Hid (∀ y ∈ L ++ [x], isVal y = true) := by
        intro y hy
        rcases List.mem_append.1 hy with h | h
        · exact HV.out y h
        · rw [List.mem_singleton.1 h]; exact HXV.out
      clear hown4 hgrow4 HO3 hc3
      refine Lib.hid ?_
      go_wp2
      go_roundw
      case rel => exact ⟨k + 1, L ++ [x], by omega, by go_num, HL4, HV4, HO4.out, hc4, hg4, hs4⟩
      case measure => simp [intOf]; omega
    · have hk8 : k = 8 := by omega
      subst hk8
      obtain ⟨g, c, rfl, _, _⟩ := hown.form (by omega)
      have HH := Lib.hid (And.intro hown hgr)
      clear hown hgr
      go_wp2
      go_ret
      exact ⟨_, _, L, rfl, HL, HV, HH.out.1, hcu, HH.out.2⟩
end Go.Proofs.YtmgeecdgebemdaaGreatDoor.cur

/- What the draws of expressions and statements return: valid ones; nothing that was there is written, but the cursor. -/
namespace Go.Proofs.YtmgeecdgebemdaaGreatDoor.cur
open Go.ChangeShapes Go.WideShapes Go.ChangeAt Go.RowKit Go.Proofs.YtmgeecdgebemdaaGreatDoor.row Go.Proofs.YtmgeecdgebemdaaGreatDoor.val Go.Proofs.YtmgeecdgebemdaaGreatDoor.expr Go.Proofs.YtmgeecdgebemdaaGreatDoor.stm
theorem opnds_ok : ∀ v ∈ [(0 : Int), 1, 2, 3, 10, 999], opndOk v = true := by decide
set_option maxRecDepth 100000 in
theorem operand_from (w0 : World) (cb : Nat) (a : Option Addr) (len cap : Nat) (w : World) (hc : Cur cb a len cap w) (hg : w0.grownBy w (some cb)) :
    Calls Tryz.prog 161 #[.pointer (some ⟨cb, 0, none⟩)] w (PickOut (fun x => opndOk x = true) cb a len cap w0) := by
  have hlt := hc.lt
  go_enter Tryz.func161, Tryz.ntmps161
  go_wp2_with (go_at_call 203; refine (once_from w0 cb a len cap _ (by omega) _ hc hg).mono ?_; rintro e w1 ⟨z, rfl, hc1, hg1⟩; refine Hid.out ?_)
  clear hc hg
  cases z
  · have hlt1 := hc1.lt
    refine Lib.hid ?_
    go_wp2_with (go_at_call 162; refine (pickP_from (fun x => opndOk x = true) w0 cb a len cap w1.heap.size 6 (by omega) (by omega) _ (hc1.alloc _) (grownBy_trans hg1 (World.grownBy_alloc _ _ _)) (numsP_alloc _ w1 [0, 1, 2, 3, 10, 999] _ opnds_ok) (by omega)).mono ?_; rintro e w2 ⟨x, rfl, hx, hc2, hg2⟩)
    go_ret
    exact ⟨x, rfl, hx, hc2, hg2⟩
  · refine Lib.hid ?_
    go_wp2_with (go_at_call 55; refine (below_from w0 cb a len cap _ (by omega) _ hc1 hg1).mono ?_; rintro e w2 ⟨x, rfl, hx0, hx1, hc2, hg2⟩)
    go_ret
    exact ⟨_, rfl, (opndOk_iff _).2 (by omega), hc2, hg2⟩
/-- A valid expression. -/
def ExprOut (cb : Nat) (a : Option Addr) (len cap : Nat) (w : World) (e : Ending) (w' : World) : Prop :=
  ∃ o x y : Int, e = .returned (ev o x y) ∧ exprOk o x y = true ∧ Cur cb a len cap w' ∧ w.grownBy w' (some cb)
theorem exprOk_mk {o x y : Int} (h0 : 1 ≤ o) (h1 : o ≤ 7) (hx : opndOk x = true) (hy : opndOk y = true) : exprOk o x y = true := by simp [exprOk, opOk, h0, h1, hx, hy]
set_option maxHeartbeats 1000000 in
set_option maxRecDepth 100000 in
theorem expr_from (w0 : World) (cb : Nat) (a : Option Addr) (len cap : Nat) (w : World) (hc : Cur cb a len cap w) (hg : w0.grownBy w (some cb)) :
    Calls Tryz.prog 112 #[.pointer (some ⟨cb, 0, none⟩)] w (ExprOut cb a len cap w0) := by
  have hlt := hc.lt
  have hw0 := hg.size
  have hbx := Box.new w #[.int .i64 0, .int .i64 0, .int .i64 0] 94
  go_enter Tryz.func112, Tryz.ntmps112
  go_wp2_with (go_at_call 55; refine (below_any cb a len cap _ (by omega) _ (hc.alloc _)).mono ?_; rintro e w1 ⟨o, rfl, ho0, ho1, hc1, hg1⟩; refine Hid.out ?_)
  have G := Lib.hid (grownBy_trans hg (World.grownBy_alloc w (.cells #[.int .i64 0, .int .i64 0, .int .i64 0] 94) (some cb)))
  have H1 := Lib.hid (And.intro (hbx.grown hg1 (by intro e; have := Option.some.inj e; omega)) hg1)
  clear hbx hg hg1 hc
  refine Lib.hid ?_
  go_wp2_with (go_at_call 161; refine (operand_from _ cb a len cap _ hc1 H1.out.2).mono ?_; rintro e w2 ⟨x, rfl, hx, hc2, hg2⟩; refine Hid.out ?_)
  have H2 := Lib.hid (And.intro (Box.grown (w := w.alloc (.cells #[.int .i64 0, .int .i64 0, .int .i64 0] 94)) (Box.new w _ _) hg2 (by intro e; have := Option.some.inj e; omega)) hg2)
  clear hg2 H1 hc1
  refine Lib.hid ?_
  go_wp2_with (go_at_call 161; refine (operand_from _ cb a len cap _ hc2 H2.out.2).mono ?_; rintro e w3 ⟨y, rfl, hy, hc3, hg3⟩; refine Hid.out ?_)
  have hb3 := Box.grown (w := w.alloc (.cells #[.int .i64 0, .int .i64 0, .int .i64 0] 94)) (Box.new w _ _) hg3 (by intro e; have := Option.some.inj e; omega)
  have H3 := Lib.hid (And.intro hb3 hg3)
  have f0 := hb3.frozen 0
  have f1 := hb3.frozen 1
  have f2 := hb3.frozen 2
  have c0 : w3.cell? ⟨w.heap.size, 0, none⟩ = some (.int .i64 0) := hb3.cell 0
  have c1 : w3.cell? ⟨w.heap.size, 1, none⟩ = some (.int .i64 0) := hb3.cell 1
  have c2 : w3.cell? ⟨w.heap.size, 2, none⟩ = some (.int .i64 0) := hb3.cell 2
  have hlt3 := hb3.lt
  clear hg3 hb3 H2 hc2
  refine Lib.hid ?_
  go_wp2
  have hset := grown_trans (grown_trans (grown_setCell w3 w.heap.size 0 (.int .i64 (1 + o))) (grown_setCell _ w.heap.size 1 (.int .i64 x))) (grown_setCell _ w.heap.size 2 (.int .i64 y))
  refine bodyPost_ret (v := ev (1 + o) x y) (results_cell_row rfl _ _ w.heap.size _ #[.int .i64 (1 + o), .int .i64 x, .int .i64 y] _ _ rfl (((H3.out.1.set 0 _).set 1 _).set 2 _) Tryz.underlying94 rfl (by kernel_rfl)) rfl
    ⟨1 + o, x, y, rfl, exprOk_mk (by omega) (by omega) hx hy, hc3.keep hset (fun j hj => by cases hj; omega), grownBy_own (grownBy_trans G.out H3.out.2) hset (fun j hj => by cases hj; omega)⟩
/-- A valid statement that opens nothing. -/
def StmtOut (cb : Nat) (a : Option Addr) (len cap : Nat) (w : World) (e : Ending) (w' : World) : Prop :=
  ∃ s : St, e = .returned (stV s) ∧ stOk s = true ∧ 1 ≤ s.k ∧ s.k ≤ 3 ∧ Cur cb a len cap w' ∧ w.grownBy w' (some cb)
theorem stmt_end {w0 w3 : World} {cb g len cap : Nat} {a : Option Addr} {t : TypeId} (hb : Box g #[.int .i64 0, .int .i64 0, .int .i64 0, .int .i64 0, .int .i64 0, .int .i64 0] t w3) (hc : Cur cb a len cap w3) (hg : w0.grownBy w3 (some cb)) (hlt : cb < g) (hw0 : w0.heap.size ≤ g) (s : St) :
    Box g #[.int .i64 s.k, .int .i64 s.v, .int .i64 s.n, .int .i64 s.o, .int .i64 s.a, .int .i64 s.b] t ((((((w3.setCell ⟨g, 0, none⟩ (.int .i64 s.k)).setCell ⟨g, 1, none⟩ (.int .i64 s.v)).setCell ⟨g, 2, none⟩ (.int .i64 s.n)).setCell ⟨g, 3, none⟩ (.int .i64 s.o)).setCell ⟨g, 4, none⟩ (.int .i64 s.a)).setCell ⟨g, 5, none⟩ (.int .i64 s.b)) ∧ Cur cb a len cap ((((((w3.setCell ⟨g, 0, none⟩ (.int .i64 s.k)).setCell ⟨g, 1, none⟩ (.int .i64 s.v)).setCell ⟨g, 2, none⟩ (.int .i64 s.n)).setCell ⟨g, 3, none⟩ (.int .i64 s.o)).setCell ⟨g, 4, none⟩ (.int .i64 s.a)).setCell ⟨g, 5, none⟩ (.int .i64 s.b)) ∧ w0.grownBy ((((((w3.setCell ⟨g, 0, none⟩ (.int .i64 s.k)).setCell ⟨g, 1, none⟩ (.int .i64 s.v)).setCell ⟨g, 2, none⟩ (.int .i64 s.n)).setCell ⟨g, 3, none⟩ (.int .i64 s.o)).setCell ⟨g, 4, none⟩ (.int .i64 s.a)).setCell ⟨g, 5, none⟩ (.int .i64 s.b)) (some cb) := by
  have hset := grown_trans (grown_trans (grown_trans (grown_trans (grown_trans (grown_setCell w3 g 0 (.int .i64 s.k)) (grown_setCell _ g 1 (.int .i64 s.v))) (grown_setCell _ g 2 (.int .i64 s.n))) (grown_setCell _ g 3 (.int .i64 s.o))) (grown_setCell _ g 4 (.int .i64 s.a))) (grown_setCell _ g 5 (.int .i64 s.b))
  exact ⟨((((((hb.set 0 _).set 1 _).set 2 _).set 3 _).set 4 _).set 5 _), hc.keep hset (fun j hj => by cases hj; omega), grownBy_own hg hset (fun j hj => by cases hj; omega)⟩
set_option maxHeartbeats 2000000 in
set_option maxRecDepth 100000 in
theorem stmt_from (w0 : World) (cb : Nat) (a : Option Addr) (len cap : Nat) (w : World) (hc : Cur cb a len cap w) (hg : w0.grownBy w (some cb)) :
    Calls Tryz.prog 204 #[.pointer (some ⟨cb, 0, none⟩)] w (StmtOut cb a len cap w0) := by
  have hlt := hc.lt
  have hw0 := hg.size
  have G := Lib.hid (grownBy_trans hg (World.grownBy_alloc w (.cells #[.int .i64 0, .int .i64 0, .int .i64 0, .int .i64 0, .int .i64 0, .int .i64 0] 112) (some cb)))
  go_enter Tryz.func204, Tryz.ntmps204
  go_wp2_with (go_at_call 55; refine (below_any cb a len cap _ (by omega) _ (hc.alloc _)).mono ?_; rintro e w1 ⟨z, rfl, hz0, hz1, hc1, hg1⟩; refine Hid.out ?_)
  have HG1 := Lib.hid hg1
  clear hc hg hg1
  rcases (show z = 0 ∨ z = 1 ∨ z = 2 ∨ 3 ≤ z by omega) with rfl | rfl | rfl | h3
  · refine Lib.hid ?_
    go_wp2_with (go_at_call 55; (with_reducible refine (below_from _ cb a len cap 5 (by omega) _ hc1 HG1.out).mono ?_); rintro e w2 ⟨v, rfl, hv0, hv1, hc2, hg2⟩; refine Hid.out ?_)
    have HG2 := Lib.hid hg2
    clear hg2 hc1
    refine Lib.hid ?_
    go_wp2_with (go_at_call 55; (with_reducible refine (below_from _ cb a len cap 4 (by omega) _ hc2 HG2.out).mono ?_); rintro e w3 ⟨n, rfl, hn0, hn1, hc3, hg3⟩; refine Hid.out ?_)
    have hb3 := Box.grown (w := (w.alloc (.cells #[.int .i64 0, .int .i64 0, .int .i64 0, .int .i64 0, .int .i64 0, .int .i64 0] 112))) (Box.new w _ _) hg3 (by intro e; have := Option.some.inj e; omega)
    have H3 := Lib.hid (And.intro hb3 hg3)
    have f0 := hb3.frozen 0
    have c0 : w3.cell? ⟨w.heap.size, 0, none⟩ = some (.int .i64 0) := hb3.cell 0
    have f1 := hb3.frozen 1
    have c1 : w3.cell? ⟨w.heap.size, 1, none⟩ = some (.int .i64 0) := hb3.cell 1
    have f2 := hb3.frozen 2
    have c2 : w3.cell? ⟨w.heap.size, 2, none⟩ = some (.int .i64 0) := hb3.cell 2
    have f3 := hb3.frozen 3
    have c3 : w3.cell? ⟨w.heap.size, 3, none⟩ = some (.int .i64 0) := hb3.cell 3
    have f4 := hb3.frozen 4
    have c4 : w3.cell? ⟨w.heap.size, 4, none⟩ = some (.int .i64 0) := hb3.cell 4
    have f5 := hb3.frozen 5
    have c5 : w3.cell? ⟨w.heap.size, 5, none⟩ = some (.int .i64 0) := hb3.cell 5
    have hlt3 := hb3.lt
    clear hg3 hb3
    refine Lib.hid ?_
    go_wp2
    obtain ⟨e1, e2, e3⟩ := stmt_end H3.out.1 hc3 (grownBy_trans G.out H3.out.2) hlt hw0 ⟨2, v, n, 0, 0, 0⟩
    exact bodyPost_ret (v := stV ⟨2, v, n, 0, 0, 0⟩) (results_cell_row rfl _ _ w.heap.size _ _ _ _ rfl e1 Tryz.underlying112 rfl (by kernel_rfl)) rfl ⟨⟨2, v, n, 0, 0, 0⟩, rfl, stOk_sense hv0 (by omega) hn0 (by omega), by simp, by simp, e2, e3⟩
  · refine Lib.hid ?_
    go_wp2_with (go_at_call 55; (with_reducible refine (below_from _ cb a len cap 5 (by omega) _ hc1 HG1.out).mono ?_); rintro e w2 ⟨v, rfl, hv0, hv1, hc2, hg2⟩; refine Hid.out ?_)
    have HG2 := Lib.hid hg2
    clear hg2 hc1
    refine Lib.hid ?_
    go_wp2_with (go_at_call 55; (with_reducible refine (below_from _ cb a len cap 4 (by omega) _ hc2 HG2.out).mono ?_); rintro e w3 ⟨n, rfl, hn0, hn1, hc3, hg3⟩; refine Hid.out ?_)
    have hb3 := Box.grown (w := (w.alloc (.cells #[.int .i64 0, .int .i64 0, .int .i64 0, .int .i64 0, .int .i64 0, .int .i64 0] 112))) (Box.new w _ _) hg3 (by intro e; have := Option.some.inj e; omega)
    have H3 := Lib.hid (And.intro hb3 hg3)
    have f0 := hb3.frozen 0
    have c0 : w3.cell? ⟨w.heap.size, 0, none⟩ = some (.int .i64 0) := hb3.cell 0
    have f1 := hb3.frozen 1
    have c1 : w3.cell? ⟨w.heap.size, 1, none⟩ = some (.int .i64 0) := hb3.cell 1
    have f2 := hb3.frozen 2
    have c2 : w3.cell? ⟨w.heap.size, 2, none⟩ = some (.int .i64 0) := hb3.cell 2
    have f3 := hb3.frozen 3
    have c3 : w3.cell? ⟨w.heap.size, 3, none⟩ = some (.int .i64 0) := hb3.cell 3
    have f4 := hb3.frozen 4
    have c4 : w3.cell? ⟨w.heap.size, 4, none⟩ = some (.int .i64 0) := hb3.cell 4
    have f5 := hb3.frozen 5
    have c5 : w3.cell? ⟨w.heap.size, 5, none⟩ = some (.int .i64 0) := hb3.cell 5
    have hlt3 := hb3.lt
    clear hg3 hb3
    refine Lib.hid ?_
    go_wp2
    obtain ⟨e1, e2, e3⟩ := stmt_end H3.out.1 hc3 (grownBy_trans G.out H3.out.2) hlt hw0 ⟨2, v, n, 0, 0, 0⟩
    exact bodyPost_ret (v := stV ⟨2, v, n, 0, 0, 0⟩) (results_cell_row rfl _ _ w.heap.size _ _ _ _ rfl e1 Tryz.underlying112 rfl (by kernel_rfl)) rfl ⟨⟨2, v, n, 0, 0, 0⟩, rfl, stOk_sense hv0 (by omega) hn0 (by omega), by simp, by simp, e2, e3⟩
  · refine Lib.hid ?_
    go_wp2_with (go_at_call 112; refine (expr_from _ cb a len cap _ hc1 HG1.out).mono ?_; rintro e w3 ⟨o, x, y, rfl, hok, hc3, hg3⟩; refine Hid.out ?_)
    have hb3 := Box.grown (w := (w.alloc (.cells #[.int .i64 0, .int .i64 0, .int .i64 0, .int .i64 0, .int .i64 0, .int .i64 0] 112))) (Box.new w _ _) hg3 (by intro e; have := Option.some.inj e; omega)
    have H3 := Lib.hid (And.intro hb3 hg3)
    have f0 := hb3.frozen 0
    have c0 : w3.cell? ⟨w.heap.size, 0, none⟩ = some (.int .i64 0) := hb3.cell 0
    have f1 := hb3.frozen 1
    have c1 : w3.cell? ⟨w.heap.size, 1, none⟩ = some (.int .i64 0) := hb3.cell 1
    have f2 := hb3.frozen 2
    have c2 : w3.cell? ⟨w.heap.size, 2, none⟩ = some (.int .i64 0) := hb3.cell 2
    have f3 := hb3.frozen 3
    have c3 : w3.cell? ⟨w.heap.size, 3, none⟩ = some (.int .i64 0) := hb3.cell 3
    have f4 := hb3.frozen 4
    have c4 : w3.cell? ⟨w.heap.size, 4, none⟩ = some (.int .i64 0) := hb3.cell 4
    have f5 := hb3.frozen 5
    have c5 : w3.cell? ⟨w.heap.size, 5, none⟩ = some (.int .i64 0) := hb3.cell 5
    have hlt3 := hb3.lt
    clear hg3 hb3
    refine Lib.hid ?_
    go_wp2
    obtain ⟨e1, e2, e3⟩ := stmt_end H3.out.1 hc3 (grownBy_trans G.out H3.out.2) hlt hw0 ⟨3, 0, 0, o, x, y⟩
    exact bodyPost_ret (v := stV ⟨3, 0, 0, o, x, y⟩) (results_cell_row rfl _ _ w.heap.size _ _ _ _ rfl e1 Tryz.underlying112 rfl (by kernel_rfl)) rfl ⟨⟨3, 0, 0, o, x, y⟩, rfl, stOk_send hok, by simp, by simp, e2, e3⟩
  · have t0 : (z == 0) = false := by simp; omega
    have t1 : (z == 1) = false := by simp; omega
    have t2 : (z == 2) = false := by simp; omega
    refine Lib.hid ?_
    go_wp2_with (go_at_call 55; (with_reducible refine (below_from _ cb a len cap 5 (by omega) _ hc1 HG1.out).mono ?_); rintro e w2 ⟨v, rfl, hv0, hv1, hc2, hg2⟩; refine Hid.out ?_)
    have HG2 := Lib.hid hg2
    clear hg2 hc1 t0 t1 t2
    refine Lib.hid ?_
    go_wp2_with (go_at_call 112; refine (expr_from _ cb a len cap _ hc2 HG2.out).mono ?_; rintro e w3 ⟨o, x, y, rfl, hok, hc3, hg3⟩; refine Hid.out ?_)
    have hb3 := Box.grown (w := (w.alloc (.cells #[.int .i64 0, .int .i64 0, .int .i64 0, .int .i64 0, .int .i64 0, .int .i64 0] 112))) (Box.new w _ _) hg3 (by intro e; have := Option.some.inj e; omega)
    have H3 := Lib.hid (And.intro hb3 hg3)
    have f0 := hb3.frozen 0
    have c0 : w3.cell? ⟨w.heap.size, 0, none⟩ = some (.int .i64 0) := hb3.cell 0
    have f1 := hb3.frozen 1
    have c1 : w3.cell? ⟨w.heap.size, 1, none⟩ = some (.int .i64 0) := hb3.cell 1
    have f2 := hb3.frozen 2
    have c2 : w3.cell? ⟨w.heap.size, 2, none⟩ = some (.int .i64 0) := hb3.cell 2
    have f3 := hb3.frozen 3
    have c3 : w3.cell? ⟨w.heap.size, 3, none⟩ = some (.int .i64 0) := hb3.cell 3
    have f4 := hb3.frozen 4
    have c4 : w3.cell? ⟨w.heap.size, 4, none⟩ = some (.int .i64 0) := hb3.cell 4
    have f5 := hb3.frozen 5
    have c5 : w3.cell? ⟨w.heap.size, 5, none⟩ = some (.int .i64 0) := hb3.cell 5
    have hlt3 := hb3.lt
    clear hg3 hb3
    refine Lib.hid ?_
    go_wp2
    obtain ⟨e1, e2, e3⟩ := stmt_end H3.out.1 hc3 (grownBy_trans G.out H3.out.2) hlt hw0 ⟨1, v, 0, o, x, y⟩
    exact bodyPost_ret (v := stV ⟨1, v, 0, o, x, y⟩) (results_cell_row rfl _ _ w.heap.size _ _ _ _ rfl e1 Tryz.underlying112 rfl (by kernel_rfl)) rfl ⟨⟨1, v, 0, o, x, y⟩, rfl, stOk_set hv0 (by omega) hok, by simp, by simp, e2, e3⟩
end Go.Proofs.YtmgeecdgebemdaaGreatDoor.cur
