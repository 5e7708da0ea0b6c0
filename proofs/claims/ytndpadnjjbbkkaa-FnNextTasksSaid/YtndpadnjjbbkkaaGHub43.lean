/- Several texts in one: DrawB. -/
import Derived.Test.YtndpadnjjbbkkaaGHub2
import Derived.Test.YtndpadnjjbbkkaaGHub42
import Derived.Laws.Rows

/- What the draws of expressions and statements return: valid ones; nothing that was there is written, but the cursor. -/
namespace Go.Proofs.Ytndpadnjjbbkkaa.cur
open Go.ChangeShapes Go.WideShapes Go.ChangeAt Go.RowKit Go.Proofs.Ytndpadnjjbbkkaa.row Go.Proofs.Ytndpadnjjbbkkaa.val Go.Proofs.Ytndpadnjjbbkkaa.expr Go.Proofs.Ytndpadnjjbbkkaa.stm

theorem opnds_ok : ∀ v ∈ [(0 : Int), 1, 2, 3, 10, 999], opndOk v = true := by decide
set_option maxRecDepth 100000 in
theorem operand_from (w0 : World) (cb : Nat) (a : Option Addr) (len cap : Nat) (w : World) (hc : Cur cb a len cap w) (hg : w0.grownBy w (some cb)) :
    Calls Try.prog 90 #[.pointer (some ⟨cb, 0, none⟩)] w (PickOut (fun x => opndOk x = true) cb a len cap w0) := by
  have hlt := hc.lt
  go_enter Try.func90, Try.ntmps90
  go_wp2_with (go_at_call 124; refine (once_from w0 cb a len cap _ (by omega) _ hc hg).mono ?_; rintro e w1 ⟨z, rfl, hc1, hg1⟩; refine Hid.out ?_)
  clear hc hg
  cases z
  · have hlt1 := hc1.lt
    refine Lib.hid ?_
    go_wp2_with (go_at_call 64; refine (pickP_from (fun x => opndOk x = true) w0 cb a len cap w1.heap.size 6 (by omega) (by omega) _ (hc1.alloc _) (grownBy_trans hg1 (World.grownBy_alloc _ _ _)) (numsP_alloc _ w1 [0, 1, 2, 3, 10, 999] _ opnds_ok) (by omega)).mono ?_; rintro e w2 ⟨x, rfl, hx, hc2, hg2⟩)
    go_ret
    exact ⟨x, rfl, hx, hc2, hg2⟩
  · refine Lib.hid ?_
    go_wp2_with (go_at_call 37; refine (below_from w0 cb a len cap _ (by omega) _ hc1 hg1).mono ?_; rintro e w2 ⟨x, rfl, hx0, hx1, hc2, hg2⟩)
    go_ret
    exact ⟨_, rfl, (opndOk_iff _).2 (by omega), hc2, hg2⟩
/-- A valid expression. -/
def ExprOut (cb : Nat) (a : Option Addr) (len cap : Nat) (w : World) (e : Ending) (w' : World) : Prop :=
  ∃ o x y : Int, e = .returned (ev o x y) ∧ exprOk o x y = true ∧ Cur cb a len cap w' ∧ w.grownBy w' (some cb)
theorem exprOk_mk {o x y : Int} (h0 : 1 ≤ o) (h1 : o ≤ 7) (hx : opndOk x = true) (hy : opndOk y = true) : exprOk o x y = true := by simp [exprOk, opOk, h0, h1, hx, hy]
set_option maxHeartbeats 1000000 in
set_option maxRecDepth 100000 in
theorem expr_from (w0 : World) (cb : Nat) (a : Option Addr) (len cap : Nat) (w : World) (hc : Cur cb a len cap w) (hg : w0.grownBy w (some cb)) :
    Calls Try.prog 63 #[.pointer (some ⟨cb, 0, none⟩)] w (ExprOut cb a len cap w0) := by
  have hlt := hc.lt
  have hw0 := hg.size
  have hbx := Box.new w #[.int .i64 0, .int .i64 0, .int .i64 0] 42
  go_enter Try.func63, Try.ntmps63
  go_wp2_with (go_at_call 37; refine (below_any cb a len cap _ (by omega) _ (hc.alloc _)).mono ?_; rintro e w1 ⟨o, rfl, ho0, ho1, hc1, hg1⟩; refine Hid.out ?_)
  have G := Lib.hid (grownBy_trans hg (World.grownBy_alloc w (.cells #[.int .i64 0, .int .i64 0, .int .i64 0] 42) (some cb)))
  have H1 := Lib.hid (And.intro (hbx.grown hg1 (by intro e; have := Option.some.inj e; omega)) hg1)
  clear hbx hg hg1 hc
  refine Lib.hid ?_
  go_wp2_with (go_at_call 90; refine (operand_from _ cb a len cap _ hc1 H1.out.2).mono ?_; rintro e w2 ⟨x, rfl, hx, hc2, hg2⟩; refine Hid.out ?_)
  have H2 := Lib.hid (And.intro (Box.grown (w := w.alloc (.cells #[.int .i64 0, .int .i64 0, .int .i64 0] 42)) (Box.new w _ _) hg2 (by intro e; have := Option.some.inj e; omega)) hg2)
  clear hg2 H1 hc1
  refine Lib.hid ?_
  go_wp2_with (go_at_call 90; refine (operand_from _ cb a len cap _ hc2 H2.out.2).mono ?_; rintro e w3 ⟨y, rfl, hy, hc3, hg3⟩; refine Hid.out ?_)
  have hb3 := Box.grown (w := w.alloc (.cells #[.int .i64 0, .int .i64 0, .int .i64 0] 42)) (Box.new w _ _) hg3 (by intro e; have := Option.some.inj e; omega)
  have H3 := Lib.hid (And.intro hb3 hg3)
  have f0 := hb3.frozen 0
  have f1 := hb3.frozen 1
  have f2 := hb3.frozen 2
  have c0 : w3.cell? ⟨w.heap.size, 0, none⟩ = some (.int .i64 0) := hb3.cell 0
  have c1 : w3.cell? ⟨w.heap.size, 1, none⟩ = some (.int .i64 0) := hb3.cell 1
  have c2 : w3.cell? ⟨w.heap.size, 2, none⟩ = some (.int .i64 0) := hb3.cell 2
  have hlt3 := hb3.lt
  clear hg3 hb3 H2 hc2
  refine Lib.hid ?_
  go_wp2
  have hset := grown_trans (grown_trans (grown_setCell w3 w.heap.size 0 (.int .i64 (1 + o))) (grown_setCell _ w.heap.size 1 (.int .i64 x))) (grown_setCell _ w.heap.size 2 (.int .i64 y))
  refine bodyPost_ret (v := ev (1 + o) x y) (results_cell_row rfl _ _ w.heap.size _ #[.int .i64 (1 + o), .int .i64 x, .int .i64 y] _ _ rfl (((H3.out.1.set 0 _).set 1 _).set 2 _) Try.underlying42 rfl (by kernel_rfl)) rfl
    ⟨1 + o, x, y, rfl, exprOk_mk (by omega) (by omega) hx hy, hc3.keep hset (fun j hj => by cases hj; omega), grownBy_own (grownBy_trans G.out H3.out.2) hset (fun j hj => by cases hj; omega)⟩
/-- A valid statement that opens nothing. -/
def StmtOut (cb : Nat) (a : Option Addr) (len cap : Nat) (w : World) (e : Ending) (w' : World) : Prop :=
  ∃ s : St, e = .returned (stV s) ∧ stOk s = true ∧ 1 ≤ s.k ∧ s.k ≤ 3 ∧ Cur cb a len cap w' ∧ w.grownBy w' (some cb)
theorem stmt_end {w0 w3 : World} {cb g len cap : Nat} {a : Option Addr} {t : TypeId} (hb : Box g #[.int .i64 0, .int .i64 0, .int .i64 0, .int .i64 0, .int .i64 0, .int .i64 0] t w3) (hc : Cur cb a len cap w3) (hg : w0.grownBy w3 (some cb)) (hlt : cb < g) (hw0 : w0.heap.size ≤ g) (s : St) :
    Box g #[.int .i64 s.k, .int .i64 s.v, .int .i64 s.n, .int .i64 s.o, .int .i64 s.a, .int .i64 s.b] t ((((((w3.setCell ⟨g, 0, none⟩ (.int .i64 s.k)).setCell ⟨g, 1, none⟩ (.int .i64 s.v)).setCell ⟨g, 2, none⟩ (.int .i64 s.n)).setCell ⟨g, 3, none⟩ (.int .i64 s.o)).setCell ⟨g, 4, none⟩ (.int .i64 s.a)).setCell ⟨g, 5, none⟩ (.int .i64 s.b)) ∧ Cur cb a len cap ((((((w3.setCell ⟨g, 0, none⟩ (.int .i64 s.k)).setCell ⟨g, 1, none⟩ (.int .i64 s.v)).setCell ⟨g, 2, none⟩ (.int .i64 s.n)).setCell ⟨g, 3, none⟩ (.int .i64 s.o)).setCell ⟨g, 4, none⟩ (.int .i64 s.a)).setCell ⟨g, 5, none⟩ (.int .i64 s.b)) ∧ w0.grownBy ((((((w3.setCell ⟨g, 0, none⟩ (.int .i64 s.k)).setCell ⟨g, 1, none⟩ (.int .i64 s.v)).setCell ⟨g, 2, none⟩ (.int .i64 s.n)).setCell ⟨g, 3, none⟩ (.int .i64 s.o)).setCell ⟨g, 4, none⟩ (.int .i64 s.a)).setCell ⟨g, 5, none⟩ (.int .i64 s.b)) (some cb) := by
  have hset := grown_trans (grown_trans (grown_trans (grown_trans (grown_trans (grown_setCell w3 g 0 (.int .i64 s.k)) (grown_setCell _ g 1 (.int .i64 s.v))) (grown_setCell _ g 2 (.int .i64 s.n))) (grown_setCell _ g 3 (.int .i64 s.o))) (grown_setCell _ g 4 (.int .i64 s.a))) (grown_setCell _ g 5 (.int .i64 s.b))
  exact ⟨((((((hb.set 0 _).set 1 _).set 2 _).set 3 _).set 4 _).set 5 _), hc.keep hset (fun j hj => by cases hj; omega), grownBy_own hg hset (fun j hj => by cases hj; omega)⟩
set_option maxHeartbeats 2000000 in
set_option maxRecDepth 100000 in
theorem stmt_from (w0 : World) (cb : Nat) (a : Option Addr) (len cap : Nat) (w : World) (hc : Cur cb a len cap w) (hg : w0.grownBy w (some cb)) :
    Calls Try.prog 125 #[.pointer (some ⟨cb, 0, none⟩)] w (StmtOut cb a len cap w0) := by
  have hlt := hc.lt
  have hw0 := hg.size
  have G := Lib.hid (grownBy_trans hg (World.grownBy_alloc w (.cells #[.int .i64 0, .int .i64 0, .int .i64 0, .int .i64 0, .int .i64 0, .int .i64 0] 87) (some cb)))
  go_enter Try.func125, Try.ntmps125
  go_wp2_with (go_at_call 37; refine (below_any cb a len cap _ (by omega) _ (hc.alloc _)).mono ?_; rintro e w1 ⟨z, rfl, hz0, hz1, hc1, hg1⟩; refine Hid.out ?_)
  have HG1 := Lib.hid hg1
  clear hc hg hg1
  rcases (show z = 0 ∨ z = 1 ∨ z = 2 ∨ 3 ≤ z by omega) with rfl | rfl | rfl | h3
  · refine Lib.hid ?_
    go_wp2_with (go_at_call 37; (with_reducible refine (below_from _ cb a len cap 5 (by omega) _ hc1 HG1.out).mono ?_); rintro e w2 ⟨v, rfl, hv0, hv1, hc2, hg2⟩; refine Hid.out ?_)
    have HG2 := Lib.hid hg2
    clear hg2 hc1
    refine Lib.hid ?_
    go_wp2_with (go_at_call 37; (with_reducible refine (below_from _ cb a len cap 4 (by omega) _ hc2 HG2.out).mono ?_); rintro e w3 ⟨n, rfl, hn0, hn1, hc3, hg3⟩; refine Hid.out ?_)
    have hb3 := Box.grown (w := (w.alloc (.cells #[.int .i64 0, .int .i64 0, .int .i64 0, .int .i64 0, .int .i64 0, .int .i64 0] 87))) (Box.new w _ _) hg3 (by intro e; have := Option.some.inj e; omega)
    have H3 := Lib.hid (And.intro hb3 hg3)
    have f0 := hb3.frozen 0
    have c0 : w3.cell? ⟨w.heap.size, 0, none⟩ = some (.int .i64 0) := hb3.cell 0
    have f1 := hb3.frozen 1
    have c1 : w3.cell? ⟨w.heap.size, 1, none⟩ = some (.int .i64 0) := hb3.cell 1
    have f2 := hb3.frozen 2
    have c2 : w3.cell? ⟨w.heap.size, 2, none⟩ = some (.int .i64 0) := hb3.cell 2
    have f3 := hb3.frozen 3
    have c3 : w3.cell? ⟨w.heap.size, 3, none⟩ = some (.int .i64 0) := hb3.cell 3
    have f4 := hb3.frozen 4
    have c4 : w3.cell? ⟨w.heap.size, 4, none⟩ = some (.int .i64 0) := hb3.cell 4
    have f5 := hb3.frozen 5
    have c5 : w3.cell? ⟨w.heap.size, 5, none⟩ = some (.int .i64 0) := hb3.cell 5
    have hlt3 := hb3.lt
    clear hg3 hb3
    refine Lib.hid ?_
    go_wp2
    obtain ⟨e1, e2, e3⟩ := stmt_end H3.out.1 hc3 (grownBy_trans G.out H3.out.2) hlt hw0 ⟨2, v, n, 0, 0, 0⟩
    exact bodyPost_ret (v := stV ⟨2, v, n, 0, 0, 0⟩) (results_cell_row rfl _ _ w.heap.size _ _ _ _ rfl e1 Try.underlying87 rfl (by kernel_rfl)) rfl ⟨⟨2, v, n, 0, 0, 0⟩, rfl, stOk_sense hv0 (by omega) hn0 (by omega), by simp, by simp, e2, e3⟩
  · refine Lib.hid ?_
    go_wp2_with (go_at_call 37; (with_reducible refine (below_from _ cb a len cap 5 (by omega) _ hc1 HG1.out).mono ?_); rintro e w2 ⟨v, rfl, hv0, hv1, hc2, hg2⟩; refine Hid.out ?_)
    have HG2 := Lib.hid hg2
    clear hg2 hc1
    refine Lib.hid ?_
    go_wp2_with (go_at_call 37; (with_reducible refine (below_from _ cb a len cap 4 (by omega) _ hc2 HG2.out).mono ?_); rintro e w3 ⟨n, rfl, hn0, hn1, hc3, hg3⟩; refine Hid.out ?_)
    have hb3 := Box.grown (w := (w.alloc (.cells #[.int .i64 0, .int .i64 0, .int .i64 0, .int .i64 0, .int .i64 0, .int .i64 0] 87))) (Box.new w _ _) hg3 (by intro e; have := Option.some.inj e; omega)
    have H3 := Lib.hid (And.intro hb3 hg3)
    have f0 := hb3.frozen 0
    have c0 : w3.cell? ⟨w.heap.size, 0, none⟩ = some (.int .i64 0) := hb3.cell 0
    have f1 := hb3.frozen 1
    have c1 : w3.cell? ⟨w.heap.size, 1, none⟩ = some (.int .i64 0) := hb3.cell 1
    have f2 := hb3.frozen 2
    have c2 : w3.cell? ⟨w.heap.size, 2, none⟩ = some (.int .i64 0) := hb3.cell 2
    have f3 := hb3.frozen 3
    have c3 : w3.cell? ⟨w.heap.size, 3, none⟩ = some (.int .i64 0) := hb3.cell 3
    have f4 := hb3.frozen 4
    have c4 : w3.cell? ⟨w.heap.size, 4, none⟩ = some (.int .i64 0) := hb3.cell 4
    have f5 := hb3.frozen 5
    have c5 : w3.cell? ⟨w.heap.size, 5, none⟩ = some (.int .i64 0) := hb3.cell 5
    have hlt3 := hb3.lt
    clear hg3 hb3
    refine Lib.hid ?_
    go_wp2
    obtain ⟨e1, e2, e3⟩ := stmt_end H3.out.1 hc3 (grownBy_trans G.out H3.out.2) hlt hw0 ⟨2, v, n, 0, 0, 0⟩
    exact bodyPost_ret (v := stV ⟨2, v, n, 0, 0, 0⟩) (results_cell_row rfl _ _ w.heap.size _ _ _ _ rfl e1 Try.underlying87 rfl (by kernel_rfl)) rfl ⟨⟨2, v, n, 0, 0, 0⟩, rfl, stOk_sense hv0 (by omega) hn0 (by omega), by simp, by simp, e2, e3⟩
  · refine Lib.hid ?_
    go_wp2_with (go_at_call 63; refine (expr_from _ cb a len cap _ hc1 HG1.out).mono ?_; rintro e w3 ⟨o, x, y, rfl, hok, hc3, hg3⟩; refine Hid.out ?_)
    have hb3 := Box.grown (w := (w.alloc (.cells #[.int .i64 0, .int .i64 0, .int .i64 0, .int .i64 0, .int .i64 0, .int .i64 0] 87))) (Box.new w _ _) hg3 (by intro e; have := Option.some.inj e; omega)
    have H3 := Lib.hid (And.intro hb3 hg3)
    have f0 := hb3.frozen 0
    have c0 : w3.cell? ⟨w.heap.size, 0, none⟩ = some (.int .i64 0) := hb3.cell 0
    have f1 := hb3.frozen 1
    have c1 : w3.cell? ⟨w.heap.size, 1, none⟩ = some (.int .i64 0) := hb3.cell 1
    have f2 := hb3.frozen 2
    have c2 : w3.cell? ⟨w.heap.size, 2, none⟩ = some (.int .i64 0) := hb3.cell 2
    have f3 := hb3.frozen 3
    have c3 : w3.cell? ⟨w.heap.size, 3, none⟩ = some (.int .i64 0) := hb3.cell 3
    have f4 := hb3.frozen 4
    have c4 : w3.cell? ⟨w.heap.size, 4, none⟩ = some (.int .i64 0) := hb3.cell 4
    have f5 := hb3.frozen 5
    have c5 : w3.cell? ⟨w.heap.size, 5, none⟩ = some (.int .i64 0) := hb3.cell 5
    have hlt3 := hb3.lt
    clear hg3 hb3
    refine Lib.hid ?_
    go_wp2
    obtain ⟨e1, e2, e3⟩ := stmt_end H3.out.1 hc3 (grownBy_trans G.out H3.out.2) hlt hw0 ⟨3, 0, 0, o, x, y⟩
    exact bodyPost_ret (v := stV ⟨3, 0, 0, o, x, y⟩) (results_cell_row rfl _ _ w.heap.size _ _ _ _ rfl e1 Try.underlying87 rfl (by kernel_rfl)) rfl ⟨⟨3, 0, 0, o, x, y⟩, rfl, stOk_send hok, by simp, by simp, e2, e3⟩
  · have t0 : (z == 0) = false := by simp; omega
    have t1 : (z == 1) = false := by simp; omega
    have t2 : (z == 2) = false := by simp; omega
    refine Lib.hid ?_
    go_wp2_with (go_at_call 37; (with_reducible refine (below_from _ cb a len cap 5 (by omega) _ hc1 HG1.out).mono ?_); rintro e w2 ⟨v, rfl, hv0, hv1, hc2, hg2⟩; refine Hid.out ?_)
    have HG2 := Lib.hid hg2
    clear hg2 hc1 t0 t1 t2
    refine Lib.hid ?_
    go_wp2_with (go_at_call 63; refine (expr_from _ cb a len cap _ hc2 HG2.out).mono ?_; rintro e w3 ⟨o, x, y, rfl, hok, hc3, hg3⟩; refine Hid.out ?_)
    have hb3 := Box.grown (w := (w.alloc (.cells #[.int .i64 0, .int .i64 0, .int .i64 0, .int .i64 0, .int .i64 0, .int .i64 0] 87))) (Box.new w _ _) hg3 (by intro e; have := Option.some.inj e; omega)
    have H3 := Lib.hid (And.intro hb3 hg3)
    have f0 := hb3.frozen 0
    have c0 : w3.cell? ⟨w.heap.size, 0, none⟩ = some (.int .i64 0) := hb3.cell 0
    have f1 := hb3.frozen 1
    have c1 : w3.cell? ⟨w.heap.size, 1, none⟩ = some (.int .i64 0) := hb3.cell 1
    have f2 := hb3.frozen 2
    have c2 : w3.cell? ⟨w.heap.size, 2, none⟩ = some (.int .i64 0) := hb3.cell 2
    have f3 := hb3.frozen 3
    have c3 : w3.cell? ⟨w.heap.size, 3, none⟩ = some (.int .i64 0) := hb3.cell 3
    have f4 := hb3.frozen 4
    have c4 : w3.cell? ⟨w.heap.size, 4, none⟩ = some (.int .i64 0) := hb3.cell 4
    have f5 := hb3.frozen 5
    have c5 : w3.cell? ⟨w.heap.size, 5, none⟩ = some (.int .i64 0) := hb3.cell 5
    have hlt3 := hb3.lt
    clear hg3 hb3
    refine Lib.hid ?_
    go_wp2
    obtain ⟨e1, e2, e3⟩ := stmt_end H3.out.1 hc3 (grownBy_trans G.out H3.out.2) hlt hw0 ⟨1, v, 0, o, x, y⟩
    exact bodyPost_ret (v := stV ⟨1, v, 0, o, x, y⟩) (results_cell_row rfl _ _ w.heap.size _ _ _ _ rfl e1 Try.underlying87 rfl (by kernel_rfl)) rfl ⟨⟨1, v, 0, o, x, y⟩, rfl, stOk_set hv0 (by omega) hok, by simp, by simp, e2, e3⟩
end Go.Proofs.Ytndpadnjjbbkkaa.cur
