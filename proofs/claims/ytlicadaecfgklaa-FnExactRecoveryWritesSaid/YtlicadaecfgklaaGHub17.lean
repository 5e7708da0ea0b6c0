/- Several texts in one: StmC EqS. -/
import Derived.Test.YtlicadaecfgklaaGHub12
import Derived.Test.YtlicadaecfgklaaGHub5

/- A statement is copied field by field, into the program's own type. -/
namespace Go.Proofs.Ytlicadaecfgklaa.stm
open Go.ChangeShapes Go.WideShapes Go.ChangeAt Go.RowKit Go.Proofs.Ytlicadaecfgklaa.row Go.Proofs.Ytlicadaecfgklaa.val Go.Proofs.Ytlicadaecfgklaa.expr

set_option maxHeartbeats 1000000 in
theorem toStmt_any (s : St) (w : World) : Calls Try.prog 70 #[stV s] w (BelS w s) := by
  obtain ⟨k, v, n, o, a, b⟩ := s
  go_enter Try.func70, Try.ntmps70
  go_wp2_with (go_at_call 64; refine (toExpr_any _ _ _ _).mono ?_; rintro e w1 ⟨rfl, hb1⟩; refine Hid.out ?_)
  have e1 : ∀ x : Obj, (w.alloc x).heap.size = w.heap.size + 1 := fun x => by simp
  have e2 : ∀ x y : Obj, ((w.alloc x).alloc y).heap.size = w.heap.size + 2 := fun x y => by simp
  have hr := Box.new (w.alloc (.cells #[.int .i64 k, .int .i64 v, .int .i64 n, .int .i64 o, .int .i64 a, .int .i64 b] 90)) #[.int .i64 0, .int .i64 0, .int .i64 0, .int .i64 0, .int .i64 0, .int .i64 0] 82
  rw [e1] at hr
  have hr := (hr.alloc (.cells #[.int .i64 k, .int .i64 v, .int .i64 n, .int .i64 0, .int .i64 0, .int .i64 0] 82)).below hb1
  have hx := Box.new ((w.alloc (.cells #[.int .i64 k, .int .i64 v, .int .i64 n, .int .i64 o, .int .i64 a, .int .i64 b] 90)).alloc (.cells #[.int .i64 0, .int .i64 0, .int .i64 0, .int .i64 0, .int .i64 0, .int .i64 0] 82)) #[.int .i64 k, .int .i64 v, .int .i64 n, .int .i64 0, .int .i64 0, .int .i64 0] 82
  rw [e2] at hx
  have hx := hx.below hb1
  have HB := Lib.hid (show Below w.heap.size w w1 from Below.trans ((((Below.refl _ _).alloc (Nat.le_refl _) _).alloc (by simp) _).alloc (by simp; omega) _) (hb1.mono (by simp; omega)))
  have H := Lib.hid (And.intro hr hx)
  clear hb1 hr hx
  refine Lib.hid ?_
  go_wp2_with ((refine wpList_store_part rfl 72 _ _ rfl (w.heap.size + 2) 3 _ _ H.out.2 #[.int .i64 o, .int .i64 a, .int .i64 b] rfl rfl (by simp) (by kernel_rfl) (by simp [Value.oneCell']) ?_); intro w2 hx2 hg2; refine Hid.out ?_)
  have hr2 := H.out.1.grown hg2 (by simp)
  have H2 := Lib.hid (show Box (w.heap.size + 2) #[.int .i64 k, .int .i64 v, .int .i64 n, .int .i64 o, .int .i64 a, .int .i64 b] 82 w2 from hx2)
  have HB2 := Lib.hid (HB.out.grown hg2 HB.out.size (fun j hj => by cases hj; omega))
  have HR2 := Lib.hid hr2
  clear hx2 hg2 hr2
  refine Lib.hid ?_
  go_wp2_with (first
    | (refine wpList_load_row rfl 82 _ rfl (w.heap.size + 2) rfl _ _ _ _ H2.out Try.underlying82 rfl (by kernel_rfl) ?_)
    | ((refine wpList_store_box rfl 82 _ _ rfl (w.heap.size + 1) _ _ HR2.out #[.int .i64 k, .int .i64 v, .int .i64 n, .int .i64 o, .int .i64 a, .int .i64 b] rfl rfl rfl (by kernel_rfl) (by simp [Value.oneCell']) ?_); intro w3 hx3 hg3; refine Hid.out ?_))
  have HB3 := Lib.hid (HB2.out.grown hg3 HB2.out.size (fun j hj => by cases hj; omega))
  have H3 := Lib.hid hx3
  clear hx3 hg3
  refine Lib.hid ?_
  go_wp2
  exact bodyPost_ret (v := stV ⟨k, v, n, o, a, b⟩) (results_cell_row rfl _ _ (w.heap.size + 1) _ _ _ _ rfl H3.out Try.underlying82 rfl (by kernel_rfl)) rfl ⟨rfl, HB3.out⟩
end Go.Proofs.Ytlicadaecfgklaa.stm

/- The law's own comparison of two statements, at two that are the same. -/
namespace Go.Proofs.Ytlicadaecfgklaa.stm
open Go.ChangeShapes Go.WideShapes Go.ChangeAt Go.RowKit Go.Proofs.Ytlicadaecfgklaa.row Go.Proofs.Ytlicadaecfgklaa.val Go.Proofs.Ytlicadaecfgklaa.expr

theorem eqexpr_same (o a b : Int) (w : World) : Calls Try.prog 68 #[ev o a b, ev o a b] w (BelB w true) := by
  go_enter Try.func68, Try.ntmps68
  go_wp2
  go_ret
  exact ⟨rfl, ((Below.refl _ w).alloc (Nat.le_refl _) _).alloc (by simp) _⟩
theorem eqstmt_same (s : St) (w : World) : Calls Try.prog 74 #[stV s, stV s] w (BelB w true) := by
  obtain ⟨k, v, n, o, a, b⟩ := s
  go_enter Try.func74, Try.ntmps74
  go_wp2_with (go_at_call 68; refine (eqexpr_same o a b _).mono ?_; rintro e w1 ⟨rfl, hb1⟩)
  go_ret
  exact ⟨rfl, Below.trans (((Below.refl _ w).alloc (Nat.le_refl _) _).alloc (by simp) _) (hb1.mono (by simp; omega))⟩
end Go.Proofs.Ytlicadaecfgklaa.stm
