/- A statement is copied field by field, into the program's own type. -/
import Derived.Test.YtodlbbojjnkneaaDoorStmP
import Derived.Test.YtodlbbojjnkneaaDoorBox
namespace Go.Proofs.YtodlbbojjnkneaaDoor.stm
open Go.ChangeShapes Go.WideShapes Go.ChangeAt Go.RowKit Go.Proofs.YtodlbbojjnkneaaDoor.row Go.Proofs.YtodlbbojjnkneaaDoor.val Go.Proofs.YtodlbbojjnkneaaDoor.expr

set_option maxHeartbeats 1000000 in
theorem toStmt_any (s : St) (w : World) : Calls Tryd.prog 5 #[stV s] w (BelS w s) := by
  obtain ⟨k, v, n, o, a, b⟩ := s
  go_enter Tryd.func5, Tryd.ntmps5
  go_wp2_with (go_at_call 9; refine (toExpr_any _ _ _ _).mono ?_; rintro e w1 ⟨rfl, hb1⟩; refine Hid.out ?_)
  have e1 : ∀ x : Obj, (w.alloc x).heap.size = w.heap.size + 1 := fun x => by simp
  have e2 : ∀ x y : Obj, ((w.alloc x).alloc y).heap.size = w.heap.size + 2 := fun x y => by simp
  have hr := Box.new (w.alloc (.cells #[.int .i64 k, .int .i64 v, .int .i64 n, .int .i64 o, .int .i64 a, .int .i64 b] 25)) #[.int .i64 0, .int .i64 0, .int .i64 0, .int .i64 0, .int .i64 0, .int .i64 0] 29
  rw [e1] at hr
  have hr := (hr.alloc (.cells #[.int .i64 k, .int .i64 v, .int .i64 n, .int .i64 0, .int .i64 0, .int .i64 0] 29)).below hb1
  have hx := Box.new ((w.alloc (.cells #[.int .i64 k, .int .i64 v, .int .i64 n, .int .i64 o, .int .i64 a, .int .i64 b] 25)).alloc (.cells #[.int .i64 0, .int .i64 0, .int .i64 0, .int .i64 0, .int .i64 0, .int .i64 0] 29)) #[.int .i64 k, .int .i64 v, .int .i64 n, .int .i64 0, .int .i64 0, .int .i64 0] 29
  rw [e2] at hx
  have hx := hx.below hb1
  have HB := Lib.hid (show Below w.heap.size w w1 from Below.trans ((((Below.refl _ _).alloc (Nat.le_refl _) _).alloc (by simp) _).alloc (by simp; omega) _) (hb1.mono (by simp; omega)))
  have H := Lib.hid (And.intro hr hx)
  clear hb1 hr hx
  refine Lib.hid ?_
  go_wp2_with ((refine wpList_store_part rfl 27 _ _ rfl (w.heap.size + 2) 3 _ _ H.out.2 #[.int .i64 o, .int .i64 a, .int .i64 b] rfl rfl (by simp) (by kernel_rfl) (by simp [Value.oneCell']) ?_); intro w2 hx2 hg2; refine Hid.out ?_)
  have hr2 := H.out.1.grown hg2 (by simp)
  have H2 := Lib.hid (show Box (w.heap.size + 2) #[.int .i64 k, .int .i64 v, .int .i64 n, .int .i64 o, .int .i64 a, .int .i64 b] 29 w2 from hx2)
  have HB2 := Lib.hid (HB.out.grown hg2 HB.out.size (fun j hj => by cases hj; omega))
  have HR2 := Lib.hid hr2
  clear hx2 hg2 hr2
  refine Lib.hid ?_
  go_wp2_with (first
    | (refine wpList_load_row rfl 29 _ rfl (w.heap.size + 2) rfl _ _ _ _ H2.out Tryd.underlying29 rfl (by kernel_rfl) ?_)
    | ((refine wpList_store_box rfl 29 _ _ rfl (w.heap.size + 1) _ _ HR2.out #[.int .i64 k, .int .i64 v, .int .i64 n, .int .i64 o, .int .i64 a, .int .i64 b] rfl rfl rfl (by kernel_rfl) (by simp [Value.oneCell']) ?_); intro w3 hx3 hg3; refine Hid.out ?_))
  have HB3 := Lib.hid (HB2.out.grown hg3 HB2.out.size (fun j hj => by cases hj; omega))
  have H3 := Lib.hid hx3
  clear hx3 hg3
  refine Lib.hid ?_
  go_wp2
  exact bodyPost_ret (v := stV ⟨k, v, n, o, a, b⟩) (results_cell_row rfl _ _ (w.heap.size + 1) _ _ _ _ rfl H3.out Tryd.underlying29 rfl (by kernel_rfl)) rfl ⟨rfl, HB3.out⟩
end Go.Proofs.YtodlbbojjnkneaaDoor.stm
