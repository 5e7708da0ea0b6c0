/- Several texts in one: CstB Open. -/
import Derived.Test.YtodlbbojjnkneaaGHub2
import Derived.Test.YtodlbbojjnkneaaGHub4
import Derived.Test.YtodlbbojjnkneaaGHub41
import Derived.Test.YtodlbbojjnkneaaRows
import Derived.WalkKit
import Derived.ProofKit
import Derived.OpenShut
import Derived.Lib.SmallJoins

/- Costs: WriteCount, of the program and of the model; no condition on the task but its size. -/
namespace Go.Proofs.Ytodlbbojjnkneaa.cst
open Go Go.ChangeShapes Go.WideShapes Go.ChangeAt Go.RowKit Go.Proofs.Ytodlbbojjnkneaa.row Go.Proofs.Ytodlbbojjnkneaa.val Go.Proofs.Ytodlbbojjnkneaa.stm Go.Proofs.Ytodlbbojjnkneaa.blk Go.Proofs.Ytodlbbojjnkneaa.expr Go.Proofs.Ytodlbbojjnkneaa.prg Go.Proofs.Ytodlbbojjnkneaa.sets

/-- WriteCount is X: nothing where the task or the variable is not valid, else four where the variable is logged, else one. -/
def WrIs (t : Tk) (q X : Int) : Prop := ∃ r, (r = true ↔ (IsBlk t.b ∧ exprOk t.o t.x t.y = true)) ∧ ((r = false ∧ X = 0) ∨ (r = true ∧ varOk q = false ∧ X = 0) ∨ (r = true ∧ varOk q = true ∧ X = if decide (q ∈ lst (logF t) 8) = true then 4 else 1))
theorem wr_ex (t : Tk) (q : Int) : ∃ X, WrIs t q X := by
  obtain ⟨r, hr⟩ := tsk_dec t
  cases h1 : r
  · exact ⟨0, r, hr, .inl ⟨h1, rfl⟩⟩
  · cases h2 : varOk q
    · exact ⟨0, r, hr, .inr (.inl ⟨h1, h2, rfl⟩)⟩
    · exact ⟨_, r, hr, .inr (.inr ⟨h1, h2, rfl⟩)⟩
set_option maxHeartbeats 8000000 in
set_option maxRecDepth 100000 in
theorem impl_writecount (ab : Option Addr) (nb cb : Nat) (t : Tk) (hn : (nb : Int) ≤ 1048576) (hcap : nb ≤ cb) (w : World) (h : StRow w ab nb t.b) (q X : Int) (hX : WrIs t q X) :
    Calls Try.prog 9 #[tkV ab nb cb t, .int .i64 q] w (BelI w X) := by
  obtain ⟨W, hW⟩ : ∃ W, w.alloc (.cells #[.slice ab nb cb, .int .i64 t.o, .int .i64 t.x, .int .i64 t.y] 28) = W := ⟨_, rfl⟩
  have hbx : Box w.heap.size #[.slice ab nb cb, .int .i64 t.o, .int .i64 t.x, .int .i64 t.y] 28 W := by rw [← hW]; exact Box.new _ _ _
  have hBW : Below w.heap.size w W := by rw [← hW]; exact below_new _ _
  have H := Lib.hid (And.intro hbx (And.intro hBW (h.below hBW)))
  clear h hbx hBW
  obtain ⟨r, hr, ⟨rfl, rfl⟩ | ⟨rfl, hq, rfl⟩ | ⟨rfl, hq, hx⟩⟩ := hX
  · have HR := Lib.hid hr
    clear hr
    go_enter Try.func9, Try.ntmps9
    go_wp2_with (first
      | (refine wpList_load_row rfl 28 _ rfl w.heap.size rfl _ _ _ _ H.out.1 Try.underlying28 rfl (by kernel_rfl) ?_)
      | (go_at_call 23; (with_reducible refine (impl_taskok ab nb cb t hn _ H.out.2.2 false HR.out).mono ?_); rintro e w2 ⟨rfl, hb2⟩; refine Hid.out ?_))
    have HB := Lib.hid (below_then H.out.2.1 hb2)
    clear hb2
    refine Lib.hid ?_
    go_wp2
    go_ret
    exact ⟨rfl, HB.out⟩
  · have HR := Lib.hid hr
    have HQ := Lib.hid (show varOk q = false from hq)
    clear hr hq
    go_enter Try.func9, Try.ntmps9
    go_wp2_with (first
      | (refine wpList_load_row rfl 28 _ rfl w.heap.size rfl _ _ _ _ H.out.1 Try.underlying28 rfl (by kernel_rfl) ?_)
      | (go_at_call 23; (with_reducible refine (impl_taskok ab nb cb t hn _ H.out.2.2 true HR.out).mono ?_); rintro e w2 ⟨rfl, hb2⟩; refine Hid.out ?_))
    have H2 := Lib.hid (And.intro (H.out.1.below hb2) (And.intro (below_then H.out.2.1 hb2) (H.out.2.2.below hb2)))
    clear hb2 hW
    refine Lib.hid ?_
    go_wp2_with (go_at_call 24; (with_reducible refine (varnum q false HQ.out _).mono ?_); rintro e w3 ⟨rfl, rfl⟩)
    go_ret
    exact ⟨rfl, H2.out.2.1⟩
  · cases hl : decide (q ∈ lst (logF t) 8)
    · have HN := Lib.hid hl
      rw [hl] at hx
      have hx2 : X = 1 := by rw [hx]; rfl
      subst hx2
      clear hx hl
      have HR := Lib.hid hr
      have HQ := Lib.hid (show varOk q = true from hq)
      clear hr hq
      go_enter Try.func9, Try.ntmps9
      go_wp2_with (first
        | (refine wpList_load_row rfl 28 _ rfl w.heap.size rfl _ _ _ _ H.out.1 Try.underlying28 rfl (by kernel_rfl) ?_)
        | (go_at_call 23; (with_reducible refine (impl_taskok ab nb cb t hn _ H.out.2.2 true HR.out).mono ?_); rintro e w2 ⟨rfl, hb2⟩; refine Hid.out ?_))
      have H2 := Lib.hid (And.intro (H.out.1.below hb2) (And.intro (below_then H.out.2.1 hb2) (H.out.2.2.below hb2)))
      clear hb2 hW
      refine Lib.hid ?_
      go_wp2_with (first
        | (go_at_call 24; (with_reducible refine (varnum q true HQ.out _).mono ?_); rintro e w3 ⟨rfl, rfl⟩)
        | (refine wpList_load_row rfl 28 _ rfl w.heap.size rfl _ _ _ _ H2.out.1 Try.underlying28 rfl (by kernel_rfl) ?_)
        | (go_at_call 10; (with_reducible refine (impl_needslog ab nb cb t hn hcap _ H2.out.2.2 q false HN.out).mono ?_); rintro e w4 ⟨rfl, hb4⟩; refine Hid.out ?_))
      have HB := Lib.hid (below_then H2.out.2.1 hb4)
      clear hb4
      refine Lib.hid ?_
      go_wp2
      go_ret
      exact ⟨rfl, HB.out⟩
    · have HN := Lib.hid hl
      rw [hl] at hx
      have hx2 : X = 4 := by rw [hx]; rfl
      subst hx2
      clear hx hl
      have HR := Lib.hid hr
      have HQ := Lib.hid (show varOk q = true from hq)
      clear hr hq
      go_enter Try.func9, Try.ntmps9
      go_wp2_with (first
        | (refine wpList_load_row rfl 28 _ rfl w.heap.size rfl _ _ _ _ H.out.1 Try.underlying28 rfl (by kernel_rfl) ?_)
        | (go_at_call 23; (with_reducible refine (impl_taskok ab nb cb t hn _ H.out.2.2 true HR.out).mono ?_); rintro e w2 ⟨rfl, hb2⟩; refine Hid.out ?_))
      have H2 := Lib.hid (And.intro (H.out.1.below hb2) (And.intro (below_then H.out.2.1 hb2) (H.out.2.2.below hb2)))
      clear hb2 hW
      refine Lib.hid ?_
      go_wp2_with (first
        | (go_at_call 24; (with_reducible refine (varnum q true HQ.out _).mono ?_); rintro e w3 ⟨rfl, rfl⟩)
        | (refine wpList_load_row rfl 28 _ rfl w.heap.size rfl _ _ _ _ H2.out.1 Try.underlying28 rfl (by kernel_rfl) ?_)
        | (go_at_call 10; (with_reducible refine (impl_needslog ab nb cb t hn hcap _ H2.out.2.2 q true HN.out).mono ?_); rintro e w4 ⟨rfl, hb4⟩; refine Hid.out ?_))
      have HB := Lib.hid (below_then H2.out.2.1 hb4)
      clear hb4
      refine Lib.hid ?_
      go_wp2
      go_ret
      exact ⟨rfl, HB.out⟩
set_option maxHeartbeats 8000000 in
set_option maxRecDepth 100000 in
theorem spec_writecount (ab : Option Addr) (nb cb : Nat) (t : Tk) (hn : (nb : Int) ≤ 1048576) (w : World) (h : StRow w ab nb t.b) (q X : Int) (hX : WrIs t q X) :
    Calls Try.prog 15 #[tkV ab nb cb t, .int .i64 q] w (BelI w X) := by
  obtain ⟨W, hW⟩ : ∃ W, w.alloc (.cells #[.slice ab nb cb, .int .i64 t.o, .int .i64 t.x, .int .i64 t.y] 28) = W := ⟨_, rfl⟩
  have hbx : Box w.heap.size #[.slice ab nb cb, .int .i64 t.o, .int .i64 t.x, .int .i64 t.y] 28 W := by rw [← hW]; exact Box.new _ _ _
  have hBW : Below w.heap.size w W := by rw [← hW]; exact below_new _ _
  have H := Lib.hid (And.intro hbx (And.intro hBW (h.below hBW)))
  clear h hbx hBW
  obtain ⟨r, hr, ⟨rfl, rfl⟩ | ⟨rfl, hq, rfl⟩ | ⟨rfl, hq, hx⟩⟩ := hX
  · have HR := Lib.hid hr
    clear hr
    go_enter Try.func15, Try.ntmps15
    go_wp2_with (first
      | (refine wpList_load_row rfl 28 _ rfl w.heap.size rfl _ _ _ _ H.out.1 Try.underlying28 rfl (by kernel_rfl) ?_)
      | (go_at_call 30; (with_reducible refine (spec_l08ok ab nb cb t hn _ H.out.2.2 false HR.out).mono ?_); rintro e w2 ⟨rfl, hb2⟩; refine Hid.out ?_))
    have HB := Lib.hid (below_then H.out.2.1 hb2)
    clear hb2
    refine Lib.hid ?_
    go_wp2
    go_ret
    exact ⟨rfl, HB.out⟩
  · have HR := Lib.hid hr
    have HQ := Lib.hid (show (decide (0 ≤ q) && decide (q ≤ 7)) = false from hq)
    clear hr hq
    go_enter Try.func15, Try.ntmps15
    go_wp2_with (first
      | (refine wpList_load_row rfl 28 _ rfl w.heap.size rfl _ _ _ _ H.out.1 Try.underlying28 rfl (by kernel_rfl) ?_)
      | (go_at_call 30; (with_reducible refine (spec_l08ok ab nb cb t hn _ H.out.2.2 true HR.out).mono ?_); rintro e w2 ⟨rfl, hb2⟩; refine Hid.out ?_))
    have H2 := Lib.hid (And.intro (H.out.1.below hb2) (And.intro (below_then H.out.2.1 hb2) (H.out.2.2.below hb2)))
    clear hb2 hW
    refine Lib.hid ?_
    go_wp2_with (go_at_call 31; (with_reducible refine (in_any q 0 7 false HQ.out _).mono ?_); rintro e w3 ⟨rfl, rfl⟩)
    go_ret
    exact ⟨rfl, H2.out.2.1⟩
  · cases hl : decide (q ∈ lst (logF t) 8)
    · have HN := Lib.hid hl
      rw [hl] at hx
      have hx2 : X = 1 := by rw [hx]; rfl
      subst hx2
      clear hx hl
      have HR := Lib.hid hr
      have HQ := Lib.hid (show (decide (0 ≤ q) && decide (q ≤ 7)) = true from hq)
      clear hr hq
      go_enter Try.func15, Try.ntmps15
      go_wp2_with (first
        | (refine wpList_load_row rfl 28 _ rfl w.heap.size rfl _ _ _ _ H.out.1 Try.underlying28 rfl (by kernel_rfl) ?_)
        | (go_at_call 30; (with_reducible refine (spec_l08ok ab nb cb t hn _ H.out.2.2 true HR.out).mono ?_); rintro e w2 ⟨rfl, hb2⟩; refine Hid.out ?_))
      have H2 := Lib.hid (And.intro (H.out.1.below hb2) (And.intro (below_then H.out.2.1 hb2) (H.out.2.2.below hb2)))
      clear hb2 hW
      refine Lib.hid ?_
      go_wp2_with (first
        | (go_at_call 31; (with_reducible refine (in_any q 0 7 true HQ.out _).mono ?_); rintro e w3 ⟨rfl, rfl⟩)
        | (refine wpList_load_row rfl 28 _ rfl w.heap.size rfl _ _ _ _ H2.out.1 Try.underlying28 rfl (by kernel_rfl) ?_)
        | (go_at_call 32; (with_reducible refine (spec_needslog ab nb cb t hn _ H2.out.2.2 q false HN.out).mono ?_); rintro e w4 ⟨rfl, hb4⟩; refine Hid.out ?_))
      have HB := Lib.hid (below_then H2.out.2.1 hb4)
      clear hb4
      refine Lib.hid ?_
      go_wp2
      go_ret
      exact ⟨rfl, HB.out⟩
    · have HN := Lib.hid hl
      rw [hl] at hx
      have hx2 : X = 4 := by rw [hx]; rfl
      subst hx2
      clear hx hl
      have HR := Lib.hid hr
      have HQ := Lib.hid (show (decide (0 ≤ q) && decide (q ≤ 7)) = true from hq)
      clear hr hq
      go_enter Try.func15, Try.ntmps15
      go_wp2_with (first
        | (refine wpList_load_row rfl 28 _ rfl w.heap.size rfl _ _ _ _ H.out.1 Try.underlying28 rfl (by kernel_rfl) ?_)
        | (go_at_call 30; (with_reducible refine (spec_l08ok ab nb cb t hn _ H.out.2.2 true HR.out).mono ?_); rintro e w2 ⟨rfl, hb2⟩; refine Hid.out ?_))
      have H2 := Lib.hid (And.intro (H.out.1.below hb2) (And.intro (below_then H.out.2.1 hb2) (H.out.2.2.below hb2)))
      clear hb2 hW
      refine Lib.hid ?_
      go_wp2_with (first
        | (go_at_call 31; (with_reducible refine (in_any q 0 7 true HQ.out _).mono ?_); rintro e w3 ⟨rfl, rfl⟩)
        | (refine wpList_load_row rfl 28 _ rfl w.heap.size rfl _ _ _ _ H2.out.1 Try.underlying28 rfl (by kernel_rfl) ?_)
        | (go_at_call 32; (with_reducible refine (spec_needslog ab nb cb t hn _ H2.out.2.2 q true HN.out).mono ?_); rintro e w4 ⟨rfl, hb4⟩; refine Hid.out ?_))
      have HB := Lib.hid (below_then H2.out.2.1 hb4)
      clear hb4
      refine Lib.hid ?_
      go_wp2
      go_ret
      exact ⟨rfl, HB.out⟩
end Go.Proofs.Ytodlbbojjnkneaa.cst

/- What a law's argument is made of, by its type: a struct of numbers is its fields. -/
namespace Go.Proofs.Ytodlbbojjnkneaa.opn
open Go.ChangeShapes Go.WideShapes Go.ChangeAt Go.RowKit Go.Joins Go.Deep

/-- An expression that came in: three numbers. -/
def IsExpr (_ : World) (v : Value) : Prop := ∃ o a b : Int, v = .agg #[.int .i64 o, .int .i64 a, .int .i64 b] ∧ (Lit.int .i64 o).wf = true ∧ (Lit.int .i64 a).wf = true ∧ (Lit.int .i64 b).wf = true
set_option maxRecDepth 100000 in
theorem open_Expr {H : Type} {enc : TypeId × Value → H} {w w' : World} {base : Nat} {spare : Nat → Bool} {held : Bool} {r : Reach} {b0 : Nat} {v : Value} {d : DataW H} {p : List MemPlace}
    (hv : Value.okWide Try.prog w r b0 37 v) (h : DataW.Trod enc Try.prog w base spare held 37 v d p) : IsExpr w' v := by
  obtain ⟨v0, v1, v2, y0, y1, y2, n, rfl, _, _, h0, h1, h2⟩ := open_agg3 Try.underlying37 (by kernel_rfl) (by kernel_rfl) hv h
  obtain ⟨o, e0, _, w0⟩ := DataW.trod_int Try.underlying3 h0
  obtain ⟨a, e1, _, w1⟩ := DataW.trod_int Try.underlying3 h1
  obtain ⟨b, e2, _, w2⟩ := DataW.trod_int Try.underlying3 h2
  simp at e0 e1 e2
  subst e0 e1 e2
  exact ⟨o, a, b, rfl, w0, w1, w2⟩
/-- A statement that came in: six numbers. -/
def IsStmt (_ : World) (v : Value) : Prop := ∃ k x n o a b : Int, v = .agg #[.int .i64 k, .int .i64 x, .int .i64 n, .int .i64 o, .int .i64 a, .int .i64 b] ∧
  (Lit.int .i64 k).wf = true ∧ (Lit.int .i64 x).wf = true ∧ (Lit.int .i64 n).wf = true ∧ (Lit.int .i64 o).wf = true ∧ (Lit.int .i64 a).wf = true ∧ (Lit.int .i64 b).wf = true
set_option maxRecDepth 100000 in
theorem open_Stmt {H : Type} {enc : TypeId × Value → H} {w w' : World} {base : Nat} {spare : Nat → Bool} {held : Bool} {r : Reach} {b0 : Nat} {v : Value} {d : DataW H} {p : List MemPlace}
    (hv : Value.okWide Try.prog w r b0 72 v) (h : DataW.Trod enc Try.prog w base spare held 72 v d p) : IsStmt w' v := by
  obtain ⟨⟨cs⟩, rfl, hsz⟩ := okWide_struct Try.underlying72 hv
  obtain ⟨fuel, hf⟩ := h
  have hC : Try.prog.cellsOf 72 = 6 := by kernel_rfl
  have hI : Try.prog.cellsOf 3 = 1 := by kernel_rfl
  have hE : Try.prog.cellsOf 37 = 3 := by kernel_rfl
  rw [hC] at hsz
  match cs, hsz, hf with
  | [c0, c1, c2, c3, c4, c5], _, hf =>
    obtain ⟨y0, y1, y2, y3, m, _, _, h0, h1, h2, h3⟩ := trod_struct4 Try.underlying72 hf
    simp [Value.cells, hI, hE] at h0 h1 h2 h3
    obtain ⟨z0, z1, z2, m2, _, _, h4, h5, h6⟩ := trod_struct3 Try.underlying37 h3
    simp [hI] at h4 h5 h6
    obtain ⟨k, e0, _, w0⟩ := DataW.trod_int Try.underlying3 h0
    obtain ⟨x, e1, _, w1⟩ := DataW.trod_int Try.underlying3 h1
    obtain ⟨n, e2, _, w2⟩ := DataW.trod_int Try.underlying3 h2
    obtain ⟨o, e3, _, w3⟩ := DataW.trod_int Try.underlying3 h4
    obtain ⟨a, e4, _, w4⟩ := DataW.trod_int Try.underlying3 h5
    obtain ⟨b, e5, _, w5⟩ := DataW.trod_int Try.underlying3 h6
    simp at e0 e1 e2 e3 e4 e5
    subst e0 e1 e2 e3 e4 e5
    exact ⟨k, x, n, o, a, b, rfl, w0, w1, w2, w3, w4, w5⟩
end Go.Proofs.Ytodlbbojjnkneaa.opn
