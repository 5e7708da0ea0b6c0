/- Several texts in one: DrawB DrawC. -/
import Derived.Test.YtmgeecdgebemdaaGreatDoorGSig1
import Derived.Test.YtmgeecdgebemdaaGreatDoorGSig40
import Derived.Laws.Rows

/- What the draws of expressions and statements return: valid ones; nothing that was there is written, but the cursor. -/
namespace Go.Proofs.YtmgeecdgebemdaaGreatDoor.cur
open Go.ChangeShapes Go.WideShapes Go.ChangeAt Go.RowKit Go.Proofs.YtmgeecdgebemdaaGreatDoor.row Go.Proofs.YtmgeecdgebemdaaGreatDoor.val Go.Proofs.YtmgeecdgebemdaaGreatDoor.expr Go.Proofs.YtmgeecdgebemdaaGreatDoor.stm

theorem opnds_ok : ∀ v ∈ [(0 : Int), 1, 2, 3, 10, 999], opndOk v = true := by decide
set_option maxRecDepth 100000 in
theorem operand_from (w0 : World) (cb : Nat) (a : Option Addr) (len cap : Nat) (w : World) (hc : Cur cb a len cap w) (hg : w0.grownBy w (some cb)) :
    Calls Tryz.prog 161 #[.pointer (some ⟨cb, 0, none⟩)] w (PickOut (fun x => opndOk x = true) cb a len cap w0) := by
  have hlt := hc.lt
  go_enter Tryz.func161, Tryz.ntmps161
  go_wp2_with (go_at_call 203; refine (once_from w0 cb a len cap _ (by omega) _ hc hg).mono ?_; rintro e w1 ⟨z, rfl, hc1, hg1⟩; refine Hid.out ?_)
  clear hc hg
  cases z
  · have hlt1 := hc1.lt
    refine Lib.hid ?_
    go_wp2_with (go_at_call 162; refine (pickP_from (fun x => opndOk x = true) w0 cb a len cap w1.heap.size 6 (by omega) (by omega) _ (hc1.alloc _) (grownBy_trans hg1 (World.grownBy_alloc _ _ _)) (numsP_alloc _ w1 [0, 1, 2, 3, 10, 999] _ opnds_ok) (by omega)).mono ?_; rintro e w2 ⟨x, rfl, hx, hc2, hg2⟩)
    go_ret
    exact ⟨x, rfl, hx, hc2, hg2⟩
  · refine Lib.hid ?_
    go_wp2_with (go_at_call 55; refine (below_from w0 cb a len cap _ (by omega) _ hc1 hg1).mono ?_; rintro e w2 ⟨x, rfl, hx0, hx1, hc2, hg2⟩)
    go_ret
    exact ⟨_, rfl, (opndOk_iff _).2 (by omega), hc2, hg2⟩
/-- A valid expression. -/
def ExprOut (cb : Nat) (a : Option Addr) (len cap : Nat) (w : World) (e : Ending) (w' : World) : Prop :=
  ∃ o x y : Int, e = .returned (ev o x y) ∧ exprOk o x y = true ∧ Cur cb a len cap w' ∧ w.grownBy w' (some cb)
theorem exprOk_mk {o x y : Int} (h0 : 1 ≤ o) (h1 : o ≤ 7) (hx : opndOk x = true) (hy : opndOk y = true) : exprOk o x y = true := by simp [exprOk, opOk, h0, h1, hx, hy]
set_option maxHeartbeats 1000000 in
set_option maxRecDepth 100000 in
theorem expr_from (w0 : World) (cb : Nat) (a : Option Addr) (len cap : Nat) (w : World) (hc : Cur cb a len cap w) (hg : w0.grownBy w (some cb)) :
    Calls Tryz.prog 112 #[.pointer (some ⟨cb, 0, none⟩)] w (ExprOut cb a len cap w0) := by
  have hlt := hc.lt
  have hw0 := hg.size
  have hbx := Box.new w #[.int .i64 0, .int .i64 0, .int .i64 0] 94
  go_enter Tryz.func112, Tryz.ntmps112
  go_wp2_with (go_at_call 55; refine (below_any cb a len cap _ (by omega) _ (hc.alloc _)).mono ?_; rintro e w1 ⟨o, rfl, ho0, ho1, hc1, hg1⟩; refine Hid.out ?_)
  have G := Lib.hid (grownBy_trans hg (World.grownBy_alloc w (.cells #[.int .i64 0, .int .i64 0, .int .i64 0] 94) (some cb)))
  have H1 := Lib.hid (And.intro (hbx.grown hg1 (by intro e; have := Option.some.inj e; omega)) hg1)
  clear hbx hg hg1 hc
  refine Lib.hid ?_
  go_wp2_with (go_at_call 161; refine (operand_from _ cb a len cap _ hc1 H1.out.2).mono ?_; rintro e w2 ⟨x, rfl, hx, hc2, hg2⟩; refine Hid.out ?_)
  have H2 := Lib.hid (And.intro (Box.grown (w := w.alloc (.cells #[.int .i64 0, .int .i64 0, .int .i64 0] 94)) (Box.new w _ _) hg2 (by intro e; have := Option.some.inj e; omega)) hg2)
  clear hg2 H1 hc1
  refine Lib.hid ?_
  go_wp2_with (go_at_call 161; refine (operand_from _ cb a len cap _ hc2 H2.out.2).mono ?_; rintro e w3 ⟨y, rfl, hy, hc3, hg3⟩; refine Hid.out ?_)
  have hb3 := Box.grown (w := w.alloc (.cells #[.int .i64 0, .int .i64 0, .int .i64 0] 94)) (Box.new w _ _) hg3 (by intro e; have := Option.some.inj e; omega)
  have H3 := Lib.hid (And.intro hb3 hg3)
  have f0 := hb3.frozen 0
  have f1 := hb3.frozen 1
  have f2 := hb3.frozen 2
  have c0 : w3.cell? ⟨w.heap.size, 0, none⟩ = some (.int .i64 0) := hb3.cell 0
  have c1 : w3.cell? ⟨w.heap.size, 1, none⟩ = some (.int .i64 0) := hb3.cell 1
  have c2 : w3.cell? ⟨w.heap.size, 2, none⟩ = some (.int .i64 0) := hb3.cell 2
  have hlt3 := hb3.lt
  clear hg3 hb3 H2 hc2
  refine Lib.hid ?_
  go_wp2
  have hset := grown_trans (grown_trans (grown_setCell w3 w.heap.size 0 (.int .i64 (1 + o))) (grown_setCell _ w.heap.size 1 (.int .i64 x))) (grown_setCell _ w.heap.size 2 (.int .i64 y))
  refine bodyPost_ret (v := ev (1 + o) x y) (results_cell_row rfl _ _ w.heap.size _ #[.int .i64 (1 + o), .int .i64 x, .int .i64 y] _ _ rfl (((H3.out.1.set 0 _).set 1 _).set 2 _) Tryz.underlying94 rfl (by kernel_rfl)) rfl
    ⟨1 + o, x, y, rfl, exprOk_mk (by omega) (by omega) hx hy, hc3.keep hset (fun j hj => by cases hj; omega), grownBy_own (grownBy_trans G.out H3.out.2) hset (fun j hj => by cases hj; omega)⟩
/-- A valid statement that opens nothing. -/
def StmtOut (cb : Nat) (a : Option Addr) (len cap : Nat) (w : World) (e : Ending) (w' : World) : Prop :=
  ∃ s : St, e = .returned (stV s) ∧ stOk s = true ∧ 1 ≤ s.k ∧ s.k ≤ 3 ∧ Cur cb a len cap w' ∧ w.grownBy w' (some cb)
theorem stmt_end {w0 w3 : World} {cb g len cap : Nat} {a : Option Addr} {t : TypeId} (hb : Box g #[.int .i64 0, .int .i64 0, .int .i64 0, .int .i64 0, .int .i64 0, .int .i64 0] t w3) (hc : Cur cb a len cap w3) (hg : w0.grownBy w3 (some cb)) (hlt : cb < g) (hw0 : w0.heap.size ≤ g) (s : St) :
    Box g #[.int .i64 s.k, .int .i64 s.v, .int .i64 s.n, .int .i64 s.o, .int .i64 s.a, .int .i64 s.b] t ((((((w3.setCell ⟨g, 0, none⟩ (.int .i64 s.k)).setCell ⟨g, 1, none⟩ (.int .i64 s.v)).setCell ⟨g, 2, none⟩ (.int .i64 s.n)).setCell ⟨g, 3, none⟩ (.int .i64 s.o)).setCell ⟨g, 4, none⟩ (.int .i64 s.a)).setCell ⟨g, 5, none⟩ (.int .i64 s.b)) ∧ Cur cb a len cap ((((((w3.setCell ⟨g, 0, none⟩ (.int .i64 s.k)).setCell ⟨g, 1, none⟩ (.int .i64 s.v)).setCell ⟨g, 2, none⟩ (.int .i64 s.n)).setCell ⟨g, 3, none⟩ (.int .i64 s.o)).setCell ⟨g, 4, none⟩ (.int .i64 s.a)).setCell ⟨g, 5, none⟩ (.int .i64 s.b)) ∧ w0.grownBy ((((((w3.setCell ⟨g, 0, none⟩ (.int .i64 s.k)).setCell ⟨g, 1, none⟩ (.int .i64 s.v)).setCell ⟨g, 2, none⟩ (.int .i64 s.n)).setCell ⟨g, 3, none⟩ (.int .i64 s.o)).setCell ⟨g, 4, none⟩ (.int .i64 s.a)).setCell ⟨g, 5, none⟩ (.int .i64 s.b)) (some cb) := by
  have hset := grown_trans (grown_trans (grown_trans (grown_trans (grown_trans (grown_setCell w3 g 0 (.int .i64 s.k)) (grown_setCell _ g 1 (.int .i64 s.v))) (grown_setCell _ g 2 (.int .i64 s.n))) (grown_setCell _ g 3 (.int .i64 s.o))) (grown_setCell _ g 4 (.int .i64 s.a))) (grown_setCell _ g 5 (.int .i64 s.b))
  exact ⟨((((((hb.set 0 _).set 1 _).set 2 _).set 3 _).set 4 _).set 5 _), hc.keep hset (fun j hj => by cases hj; omega), grownBy_own hg hset (fun j hj => by cases hj; omega)⟩
set_option maxHeartbeats 2000000 in
set_option maxRecDepth 100000 in
theorem stmt_from (w0 : World) (cb : Nat) (a : Option Addr) (len cap : Nat) (w : World) (hc : Cur cb a len cap w) (hg : w0.grownBy w (some cb)) :
    Calls Tryz.prog 204 #[.pointer (some ⟨cb, 0, none⟩)] w (StmtOut cb a len cap w0) := by
  have hlt := hc.lt
  have hw0 := hg.size
  have G := Lib.hid (grownBy_trans hg (World.grownBy_alloc w (.cells #[.int .i64 0, .int .i64 0, .int .i64 0, .int .i64 0, .int .i64 0, .int .i64 0] 112) (some cb)))
  go_enter Tryz.func204, Tryz.ntmps204
  go_wp2_with (go_at_call 55; refine (below_any cb a len cap _ (by omega) _ (hc.alloc _)).mono ?_; rintro e w1 ⟨z, rfl, hz0, hz1, hc1, hg1⟩; refine Hid.out ?_)
  have HG1 := Lib.hid hg1
  clear hc hg hg1
  rcases (show z = 0 ∨ z = 1 ∨ z = 2 ∨ 3 ≤ z by omega) with rfl | rfl | rfl | h3
  · refine Lib.hid ?_
    go_wp2_with (go_at_call 55; (with_reducible refine (below_from _ cb a len cap 5 (by omega) _ hc1 HG1.out).mono ?_); rintro e w2 ⟨v, rfl, hv0, hv1, hc2, hg2⟩; refine Hid.out ?_)
    have HG2 := Lib.hid hg2
    clear hg2 hc1
    refine Lib.hid ?_
    go_wp2_with (go_at_call 55; (with_reducible refine (below_from _ cb a len cap 4 (by omega) _ hc2 HG2.out).mono ?_); rintro e w3 ⟨n, rfl, hn0, hn1, hc3, hg3⟩; refine Hid.out ?_)
    have hb3 := Box.grown (w := (w.alloc (.cells #[.int .i64 0, .int .i64 0, .int .i64 0, .int .i64 0, .int .i64 0, .int .i64 0] 112))) (Box.new w _ _) hg3 (by intro e; have := Option.some.inj e; omega)
    have H3 := Lib.hid (And.intro hb3 hg3)
    have f0 := hb3.frozen 0
    have c0 : w3.cell? ⟨w.heap.size, 0, none⟩ = some (.int .i64 0) := hb3.cell 0
    have f1 := hb3.frozen 1
    have c1 : w3.cell? ⟨w.heap.size, 1, none⟩ = some (.int .i64 0) := hb3.cell 1
    have f2 := hb3.frozen 2
    have c2 : w3.cell? ⟨w.heap.size, 2, none⟩ = some (.int .i64 0) := hb3.cell 2
    have f3 := hb3.frozen 3
    have c3 : w3.cell? ⟨w.heap.size, 3, none⟩ = some (.int .i64 0) := hb3.cell 3
    have f4 := hb3.frozen 4
    have c4 : w3.cell? ⟨w.heap.size, 4, none⟩ = some (.int .i64 0) := hb3.cell 4
    have f5 := hb3.frozen 5
    have c5 : w3.cell? ⟨w.heap.size, 5, none⟩ = some (.int .i64 0) := hb3.cell 5
    have hlt3 := hb3.lt
    clear hg3 hb3
    refine Lib.hid ?_
    go_wp2
    obtain ⟨e1, e2, e3⟩ := stmt_end H3.out.1 hc3 (grownBy_trans G.out H3.out.2) hlt hw0 ⟨2, v, n, 0, 0, 0⟩
    exact bodyPost_ret (v := stV ⟨2, v, n, 0, 0, 0⟩) (results_cell_row rfl _ _ w.heap.size _ _ _ _ rfl e1 Tryz.underlying112 rfl (by kernel_rfl)) rfl ⟨⟨2, v, n, 0, 0, 0⟩, rfl, stOk_sense hv0 (by omega) hn0 (by omega), by simp, by simp, e2, e3⟩
  · refine Lib.hid ?_
    go_wp2_with (go_at_call 55; (with_reducible refine (below_from _ cb a len cap 5 (by omega) _ hc1 HG1.out).mono ?_); rintro e w2 ⟨v, rfl, hv0, hv1, hc2, hg2⟩; refine Hid.out ?_)
    have HG2 := Lib.hid hg2
    clear hg2 hc1
    refine Lib.hid ?_
    go_wp2_with (go_at_call 55; (with_reducible refine (below_from _ cb a len cap 4 (by omega) _ hc2 HG2.out).mono ?_); rintro e w3 ⟨n, rfl, hn0, hn1, hc3, hg3⟩; refine Hid.out ?_)
    have hb3 := Box.grown (w := (w.alloc (.cells #[.int .i64 0, .int .i64 0, .int .i64 0, .int .i64 0, .int .i64 0, .int .i64 0] 112))) (Box.new w _ _) hg3 (by intro e; have := Option.some.inj e; omega)
    have H3 := Lib.hid (And.intro hb3 hg3)
    have f0 := hb3.frozen 0
    have c0 : w3.cell? ⟨w.heap.size, 0, none⟩ = some (.int .i64 0) := hb3.cell 0
    have f1 := hb3.frozen 1
    have c1 : w3.cell? ⟨w.heap.size, 1, none⟩ = some (.int .i64 0) := hb3.cell 1
    have f2 := hb3.frozen 2
    have c2 : w3.cell? ⟨w.heap.size, 2, none⟩ = some (.int .i64 0) := hb3.cell 2
    have f3 := hb3.frozen 3
    have c3 : w3.cell? ⟨w.heap.size, 3, none⟩ = some (.int .i64 0) := hb3.cell 3
    have f4 := hb3.frozen 4
    have c4 : w3.cell? ⟨w.heap.size, 4, none⟩ = some (.int .i64 0) := hb3.cell 4
    have f5 := hb3.frozen 5
    have c5 : w3.cell? ⟨w.heap.size, 5, none⟩ = some (.int .i64 0) := hb3.cell 5
    have hlt3 := hb3.lt
    clear hg3 hb3
    refine Lib.hid ?_
    go_wp2
    obtain ⟨e1, e2, e3⟩ := stmt_end H3.out.1 hc3 (grownBy_trans G.out H3.out.2) hlt hw0 ⟨2, v, n, 0, 0, 0⟩
    exact bodyPost_ret (v := stV ⟨2, v, n, 0, 0, 0⟩) (results_cell_row rfl _ _ w.heap.size _ _ _ _ rfl e1 Tryz.underlying112 rfl (by kernel_rfl)) rfl ⟨⟨2, v, n, 0, 0, 0⟩, rfl, stOk_sense hv0 (by omega) hn0 (by omega), by simp, by simp, e2, e3⟩
  · refine Lib.hid ?_
    go_wp2_with (go_at_call 112; refine (expr_from _ cb a len cap _ hc1 HG1.out).mono ?_; rintro e w3 ⟨o, x, y, rfl, hok, hc3, hg3⟩; refine Hid.out ?_)
    have hb3 := Box.grown (w := (w.alloc (.cells #[.int .i64 0, .int .i64 0, .int .i64 0, .int .i64 0, .int .i64 0, .int .i64 0] 112))) (Box.new w _ _) hg3 (by intro e; have := Option.some.inj e; omega)
    have H3 := Lib.hid (And.intro hb3 hg3)
    have f0 := hb3.frozen 0
    have c0 : w3.cell? ⟨w.heap.size, 0, none⟩ = some (.int .i64 0) := hb3.cell 0
    have f1 := hb3.frozen 1
    have c1 : w3.cell? ⟨w.heap.size, 1, none⟩ = some (.int .i64 0) := hb3.cell 1
    have f2 := hb3.frozen 2
    have c2 : w3.cell? ⟨w.heap.size, 2, none⟩ = some (.int .i64 0) := hb3.cell 2
    have f3 := hb3.frozen 3
    have c3 : w3.cell? ⟨w.heap.size, 3, none⟩ = some (.int .i64 0) := hb3.cell 3
    have f4 := hb3.frozen 4
    have c4 : w3.cell? ⟨w.heap.size, 4, none⟩ = some (.int .i64 0) := hb3.cell 4
    have f5 := hb3.frozen 5
    have c5 : w3.cell? ⟨w.heap.size, 5, none⟩ = some (.int .i64 0) := hb3.cell 5
    have hlt3 := hb3.lt
    clear hg3 hb3
    refine Lib.hid ?_
    go_wp2
    obtain ⟨e1, e2, e3⟩ := stmt_end H3.out.1 hc3 (grownBy_trans G.out H3.out.2) hlt hw0 ⟨3, 0, 0, o, x, y⟩
    exact bodyPost_ret (v := stV ⟨3, 0, 0, o, x, y⟩) (results_cell_row rfl _ _ w.heap.size _ _ _ _ rfl e1 Tryz.underlying112 rfl (by kernel_rfl)) rfl ⟨⟨3, 0, 0, o, x, y⟩, rfl, stOk_send hok, by simp, by simp, e2, e3⟩
  · have t0 : (z == 0) = false := by simp; omega
    have t1 : (z == 1) = false := by simp; omega
    have t2 : (z == 2) = false := by simp; omega
    refine Lib.hid ?_
    go_wp2_with (go_at_call 55; (with_reducible refine (below_from _ cb a len cap 5 (by omega) _ hc1 HG1.out).mono ?_); rintro e w2 ⟨v, rfl, hv0, hv1, hc2, hg2⟩; refine Hid.out ?_)
    have HG2 := Lib.hid hg2
    clear hg2 hc1 t0 t1 t2
    refine Lib.hid ?_
    go_wp2_with (go_at_call 112; refine (expr_from _ cb a len cap _ hc2 HG2.out).mono ?_; rintro e w3 ⟨o, x, y, rfl, hok, hc3, hg3⟩; refine Hid.out ?_)
    have hb3 := Box.grown (w := (w.alloc (.cells #[.int .i64 0, .int .i64 0, .int .i64 0, .int .i64 0, .int .i64 0, .int .i64 0] 112))) (Box.new w _ _) hg3 (by intro e; have := Option.some.inj e; omega)
    have H3 := Lib.hid (And.intro hb3 hg3)
    have f0 := hb3.frozen 0
    have c0 : w3.cell? ⟨w.heap.size, 0, none⟩ = some (.int .i64 0) := hb3.cell 0
    have f1 := hb3.frozen 1
    have c1 : w3.cell? ⟨w.heap.size, 1, none⟩ = some (.int .i64 0) := hb3.cell 1
    have f2 := hb3.frozen 2
    have c2 : w3.cell? ⟨w.heap.size, 2, none⟩ = some (.int .i64 0) := hb3.cell 2
    have f3 := hb3.frozen 3
    have c3 : w3.cell? ⟨w.heap.size, 3, none⟩ = some (.int .i64 0) := hb3.cell 3
    have f4 := hb3.frozen 4
    have c4 : w3.cell? ⟨w.heap.size, 4, none⟩ = some (.int .i64 0) := hb3.cell 4
    have f5 := hb3.frozen 5
    have c5 : w3.cell? ⟨w.heap.size, 5, none⟩ = some (.int .i64 0) := hb3.cell 5
    have hlt3 := hb3.lt
    clear hg3 hb3
    refine Lib.hid ?_
    go_wp2
    obtain ⟨e1, e2, e3⟩ := stmt_end H3.out.1 hc3 (grownBy_trans G.out H3.out.2) hlt hw0 ⟨1, v, 0, o, x, y⟩
    exact bodyPost_ret (v := stV ⟨1, v, 0, o, x, y⟩) (results_cell_row rfl _ _ w.heap.size _ _ _ _ rfl e1 Tryz.underlying112 rfl (by kernel_rfl)) rfl ⟨⟨1, v, 0, o, x, y⟩, rfl, stOk_set hv0 (by omega) hok, by simp, by simp, e2, e3⟩
end Go.Proofs.YtmgeecdgebemdaaGreatDoor.cur

/- What the draws of blocks and tasks return: a valid block of at most so many levels, in new memory; nothing that was there is written, but the cursor. -/
namespace Go.Proofs.YtmgeecdgebemdaaGreatDoor.cur
open Go.ChangeShapes Go.WideShapes Go.ChangeAt Go.RowKit Go.Proofs.YtmgeecdgebemdaaGreatDoor.row Go.Proofs.YtmgeecdgebemdaaGreatDoor.val Go.Proofs.YtmgeecdgebemdaaGreatDoor.expr Go.Proofs.YtmgeecdgebemdaaGreatDoor.stm

abbrev zeroSt : Value := .agg #[.int .i64 0, .int .i64 0, .int .i64 0, .int .i64 0, .int .i64 0, .int .i64 0]
theorem infoStmt : (Tryz.prog.info? 112).map (fun i => (i.zero, i.size, i.bytes)) = some (some zeroSt, 6, 48) := by kernel_rfl

/-- A row of statements of the call's own, the cursor beside it. -/
def BS (cb : Nat) (a : Option Addr) (len cap : Nat) (w wr : World) (g m c : Nat) (L : List St) : Prop :=
  wr.ownsRow w.heap.size 112 6 (.slice (some ⟨g, 0, none⟩) m c) m (stsC L) ∧ Cur cb a len cap wr ∧ w.grownBy wr (some cb)
section
variable {cb : Nat} {a : Option Addr} {len cap : Nat} {w wr wr' : World} {g m c : Nat} {L : List St}
theorem BS.length_ (h : BS cb a len cap w wr g m c L) : L.length = m := by have := h.1.1; rw [stsC_len] at this; omega
theorem BS.lo (h : BS cb a len cap w wr g m c L) : w.heap.size ≤ g ∧ g < wr.heap.size := h.1.lt g rfl
theorem BS.size (h : BS cb a len cap w wr g m c L) : w.heap.size ≤ wr.heap.size := h.2.2.size
theorem BS.draw (h : BS cb a len cap w wr g m c L) (hcb : cb < w.heap.size) (hc : Cur cb a len cap wr') (hg : wr.grownBy wr' (some cb)) : BS cb a len cap w wr' g m c L :=
  ⟨h.1.kept hg (Or.inr (by simp only [Value.ownBlock]; intro e; have := h.lo; have := Option.some.inj e; omega)), hc, grownBy_trans h.2.2 hg⟩
theorem BS.alloc (h : BS cb a len cap w wr g m c L) (o : Obj) : BS cb a len cap w (wr.alloc o) g m c L :=
  ⟨h.1.alloc o, h.2.1.alloc o, grownBy_trans h.2.2 (World.grownBy_alloc _ _ _)⟩
theorem BS.other (h : BS cb a len cap w wr g m c L) {b : Nat} (hg : wr.grownBy wr' (some b)) (hcb : cb < w.heap.size) (hb : w.heap.size ≤ b) (hne : b ≠ g) : BS cb a len cap w wr' g m c L :=
  ⟨h.1.kept hg (Or.inr (by simp only [Value.ownBlock]; intro e; exact hne (Option.some.inj e).symm)), h.2.1.keep hg (fun j hj => by cases hj; omega), grownBy_own h.2.2 hg (fun j hj => by cases hj; omega)⟩
theorem BS.app {v : Value} {k : Nat} {w1 w2 : World} {M : List St} (h : BS cb a len cap w w1 g m c L) (hcb : cb < w.heap.size) (hk : 0 < m + k)
    (hown : w2.ownsRow w.heap.size 112 6 v (m + k) (stsC L ++ stsC M)) (hgrow : w1.grownBy w2 (Value.slice (some ⟨g, 0, none⟩) m c).ownBlock) :
    ∃ g2 c2, v = .slice (some ⟨g2, 0, none⟩) (m + k) c2 ∧ BS cb a len cap w w2 g2 (m + k) c2 (L ++ M) := by
  obtain ⟨g2, c2, rfl, _, _⟩ := hown.form hk
  have hlo := h.lo
  exact ⟨g2, c2, rfl, by rw [stsC_app]; exact hown, h.2.1.keep hgrow (fun j hj => by simp only [Value.ownBlock] at hj; cases hj; omega), grownBy_own h.2.2 hgrow (fun j hj => by simp only [Value.ownBlock] at hj; cases hj; omega)⟩
end

/-- How long a block of 'n' items with 'j' levels can get. -/
def bnd (j n : Nat) : Nat := if j = 0 then n else if j = 1 then 4 * n else 15 + n
theorem bnd_one {j k m : Nat} (h : m ≤ bnd j k) : m + 1 ≤ bnd j (k + 1) := by
  unfold bnd at *; split at h <;> simp_all <;> (try split at h) <;> simp_all <;> omega
theorem bnd_nest {j k m m2 n2 : Nat} (h : m ≤ bnd (j + 1) k) (hj : j + 1 ≤ 2) (h6 : m < 6) (hn : n2 ≤ 2) (h2 : m2 ≤ bnd j n2) : m + 1 + m2 + 1 ≤ bnd (j + 1) (k + 1) := by
  rcases (show j = 0 ∨ j = 1 by omega) with rfl | rfl <;> simp [bnd] at * <;> omega
theorem bnd_le {j n : Nat} (hn : n ≤ 5) : bnd j n ≤ 20 := by unfold bnd; split <;> (try split) <;> omega

/-- A valid block in new memory; the cursor stays one. -/
def BlkOut (j : Nat) (n : Nat) (cb : Nat) (a : Option Addr) (len cap : Nat) (w : World) (e : Ending) (w' : World) : Prop :=
  ∃ (g m c : Nat) (L : List St), e = .returned (.slice (some ⟨g, 0, none⟩) m c) ∧ Hid (Blk j L) ∧ m ≤ bnd j n ∧ BS cb a len cap w w' g m c L

theorem zero_start {cb : Nat} {a : Option Addr} {len cap : Nat} {w : World} (hc : Cur cb a len cap w) : BS cb a len cap w (w.alloc (.cells #[] 112)) w.heap.size 0 0 [] :=
  ⟨World.ownsRow_made w #[] 0 (Nat.le_refl _) (by decide) rfl, hc.alloc _, World.grownBy_alloc _ _ _⟩

theorem stsC_one_cell (L : List St) : ∀ u ∈ stsC L, u.oneCell' = true := by
  intro u hu
  obtain ⟨s, _, hs⟩ := List.mem_flatMap.1 hu
  simp [stC] at hs
  rcases hs with rfl | rfl | rfl | rfl | rfl | rfl <;> rfl
set_option maxHeartbeats 4000000 in
set_option maxRecDepth 100000 in
theorem block_zero (cb : Nat) (a : Option Addr) (len cap : Nat) (n : Nat) (w : World) (hn : n ≤ 5) (hc : Cur cb a len cap w) :
    Calls Tryz.prog 160 #[.pointer (some ⟨cb, 0, none⟩), .int .i64 n, .int .i64 2] w (BlkOut 0 n cb a len cap w) := by
  obtain ⟨i0, hi, hz0, hz1, hz2⟩ := info_parts infoStmt
  have hcb := hc.lt
  go_enter Tryz.func160, Tryz.ntmps160
  go_wp2
  go_loopw [7, 8, 9] (fun v i _ wr => ∃ (k g m c : Nat) (L : List St), k ≤ n ∧ i = .int .i64 k ∧ v = .slice (some ⟨g, 0, none⟩) m c ∧ Hid (Blk 0 L) ∧ m ≤ bnd 0 k ∧ BS cb a len cap w wr g m c L) (fun _ i _ _ => n - (intOf i).toNat)
  case atStart => exact ⟨0, w.heap.size, 0, 0, [], Nat.zero_le _, rfl, rfl, .nil _, Nat.zero_le _, zero_start hc⟩
  case round =>
    obtain ⟨k, g, m, c, L, hk, rfl, rfl, HB, hm, hbs⟩ := hrel
    have hmb := Nat.le_trans hm (bnd_le (j := 0) (n := k) (by omega))
    by_cases hlt : k < n
    · have hI : (k : Int) < n := by omega
      have H1 := Lib.hid hbs
      have hcu := hbs.2.1
      clear hbs
      go_wp2_with (go_at_call 204; refine (stmt_from _ cb a len cap _ hcu (grownBy_refl _ _)).mono ?_; rintro e w2 ⟨s, rfl, hsok, hs1, hs3, hc2, hg2⟩; refine Hid.out ?_)
      have HS := Lib.hid (H1.out.draw hcb hc2 hg2)
      have HSO := Lib.hid (And.intro hsok (And.intro hs1 hs3))
      clear hsok hs1 hs3 hg2 hcu
      refine Lib.hid ?_
      go_wp2_with (at_builtin; refine wpList_append_own _ rfl _ _ 92 rfl w.heap.size 112 i0 zeroSt 6 48 Tryz.underlying92 hi hz0 hz1 hz2 rfl (by decide) _ _ _ rfl (HS.out.1.alloc _) ⟨w2.heap.size, 0, none⟩ 1 1 [.int .i64 s.k, .int .i64 s.v, .int .i64 s.n, .int .i64 s.o, .int .i64 s.a, .int .i64 s.b] rfl rfl (World.news_of_block (cs := #[.int .i64 s.k, .int .i64 s.v, .int .i64 s.n, .int .i64 s.o, .int .i64 s.a, .int .i64 s.b]) (t := 112) (fr := (0, 0)) (heap_alloc_new w2 _)) (by simp [Value.oneCell']) (by unfold maxLen; omega) (by omega) (by have := HS.out.size; simp; omega) ?_; intro v3 w3 hown3 hgrow3 _; refine Hid.out ?_)
      obtain ⟨g3, c3, rfl, hbs3⟩ := BS.app (k := 1) (M := [s]) (HS.out.alloc (.cells #[.int .i64 s.k, .int .i64 s.v, .int .i64 s.n, .int .i64 s.o, .int .i64 s.a, .int .i64 s.b] 112)) hcb (by omega) (by rw [stsC_one]; exact hown3) hgrow3
      have H3 := Lib.hid hbs3
      have HB3 : Hid (Blk 0 (L ++ [s])) := HB.out.snoc HSO.out.1 HSO.out.2.1 HSO.out.2.2
      have hm3 := bnd_one hm
      clear hown3 hgrow3 hbs3
      refine Lib.hid ?_
      go_wp2
      go_roundw
      case rel => exact ⟨k + 1, g3, m + 1, c3, L ++ [s], by omega, by go_num, rfl, HB3, hm3, H3.out⟩
      case measure => simp [intOf]; omega
    · have hkn : k = n := by omega
      subst hkn
      have H1 := Lib.hid hbs
      clear hbs
      go_wp2
      go_ret
      exact ⟨g, m, c, L, rfl, HB, hm, H1.out⟩

end Go.Proofs.YtmgeecdgebemdaaGreatDoor.cur
