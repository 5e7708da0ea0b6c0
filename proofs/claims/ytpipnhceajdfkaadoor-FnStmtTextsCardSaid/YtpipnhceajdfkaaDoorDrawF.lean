/- The model's DrawStmt: a valid statement, whatever bytes are drawn from. -/
import Derived.Test.YtpipnhceajdfkaaDoorDrawB
import Derived.Test.YtpipnhceajdfkaaDoorBox
namespace Go.Proofs.YtpipnhceajdfkaaDoor.cur
open Go.ChangeShapes Go.WideShapes Go.ChangeAt Go.RowKit Go.Proofs.YtpipnhceajdfkaaDoor.row Go.Proofs.YtpipnhceajdfkaaDoor.val Go.Proofs.YtpipnhceajdfkaaDoor.expr Go.Proofs.YtpipnhceajdfkaaDoor.stm

/-- A valid statement; nothing that was there is written. -/
def DrawnS (w : World) (e : Ending) (w' : World) : Prop := ∃ s : St, e = .returned (stV s) ∧ Hid (stOk s = true) ∧ Below w.heap.size w w'
set_option maxHeartbeats 2000000 in
set_option maxRecDepth 100000 in
theorem drawstmt_any (a : Option Addr) (len cap : Nat) (w : World) (hlm : (len : Int) ≤ 1048576) (hb : ∀ i : Nat, i < len → ∃ (b off : Nat) (v : Int), a = some ⟨b, off, none⟩ ∧ w.cell? ⟨b, off + i, none⟩ = some (.int .u8 v)) :
    Calls Tryd.prog 8 #[.slice a len cap] w (DrawnS w) := by
  have HB : Hid (∀ w' : World, Below w.heap.size w w' → ∀ i : Nat, i < len → ∃ (b off : Nat) (v : Int), a = some ⟨b, off, none⟩ ∧ w'.cell? ⟨b, off + i, none⟩ = some (.int .u8 v)) := fun w' hbl i hi => by
    obtain ⟨b, off, v, ha, hv⟩ := hb i hi
    exact ⟨b, off, v, ha, (hbl.cell (World.block_lt_of_cell? w _ hv)).trans hv⟩
  clear hb
  obtain ⟨W, hW⟩ : ∃ W, W = w.alloc (.cells #[.int .i64 0, .int .i64 0, .int .i64 0, .int .i64 0, .int .i64 0, .int .i64 0] 27) := ⟨_, rfl⟩
  have hbox : Box w.heap.size #[.int .i64 0, .int .i64 0, .int .i64 0, .int .i64 0, .int .i64 0, .int .i64 0] 27 W := by rw [hW]; exact Box.new _ _ _
  have hbelow : Below w.heap.size w W := by rw [hW]; exact below_new _ _
  have hWs : W.heap.size = w.heap.size + 1 := by rw [hW]; simp
  have H0 := Lib.hid (And.intro hbox (And.intro hbelow (And.intro (HB.out W hbelow) hWs)))
  have HW := Lib.hid hW
  clear hbox hbelow hWs hW
  go_enter Tryd.func8, Tryd.ntmps8
  go_wp2_with (go_at_call 21; rw [← HW.out]; refine (new_any a len cap _ hlm H0.out.2.2.1).mono ?_; rintro e w1 ⟨rfl, hc1, hb1⟩; refine Hid.out ?_)
  have H1 := Lib.hid (And.intro (H0.out.1.below hb1) (below_then H0.out.2.1 hb1))
  have hcb := hc1.lt
  refine Lib.hid ?_
  go_wp2_with (go_at_call 22; refine (below_any _ a len cap 5 (by omega) _ hc1).mono ?_; rintro e w2 ⟨z, rfl, hz0, hz1, hc2, hg2⟩; refine Hid.out ?_)
  have hcbs := hb1.size
  have H2 := Lib.hid (And.intro (H1.out.1.grown hg2 (by intro e; have := Option.some.inj e; have := H0.out.2.2.2; omega)) (H1.out.2.grown hg2 H1.out.2.size (fun j hj => by cases hj; have := H0.out.2.2.2; omega)))
  clear hg2 hb1 hc1
  rcases (show z = 0 ∨ z = 1 ∨ 2 ≤ z by omega) with rfl | rfl | hz2
  · refine Lib.hid ?_
    go_wp2_with (go_at_call 22; refine (below_any _ a len cap 5 (by omega) _ hc2).mono ?_; rintro e w3 ⟨v, rfl, hv0, hv1, hc3, hg3⟩; refine Hid.out ?_)
    have H3 := Lib.hid (And.intro (H2.out.1.grown hg3 (by intro e; have := Option.some.inj e; have := H0.out.2.2.2; omega)) (H2.out.2.grown hg3 H2.out.2.size (fun j hj => by cases hj; have := H0.out.2.2.2; omega)))
    clear hg3 hc2 hc3
    refine Lib.hid ?_
    go_wp2_with ((refine wpList_store_box rfl 27 _ _ rfl w.heap.size _ _ H3.out.1 #[.int .i64 5, .int .i64 0, .int .i64 (1 + v), .int .i64 0, .int .i64 0, .int .i64 0] rfl rfl rfl (by kernel_rfl) (by simp [Value.oneCell']) ?_); intro w4 hx4 hg4; refine Hid.out ?_)
    have H4 := Lib.hid (And.intro hx4 (H3.out.2.grown hg4 H3.out.2.size (fun j hj => by cases hj; exact Nat.le_refl _)))
    clear hx4 hg4
    refine Lib.hid ?_
    go_wp2
    exact bodyPost_ret (v := stV ⟨5, 0, 1 + v, 0, 0, 0⟩) (results_cell_row rfl _ _ w.heap.size _ _ _ _ rfl H4.out.1 Tryd.underlying27 rfl (by kernel_rfl)) rfl ⟨_, rfl, stOk_loop (by omega) (by omega), H4.out.2⟩
  · refine Lib.hid ?_
    go_wp2_with (go_at_call 23; refine (expr_from _ _ a len cap _ hc2 (grownBy_refl _ _)).mono ?_; rintro e w3 ⟨o, x, y, rfl, hok, hc3, hg3⟩; refine Hid.out ?_)
    have H3 := Lib.hid (And.intro (H2.out.1.grown hg3 (by intro e; have := Option.some.inj e; have := H0.out.2.2.2; omega)) (H2.out.2.grown hg3 H2.out.2.size (fun j hj => by cases hj; have := H0.out.2.2.2; omega)))
    have HOK := Lib.hid hok
    clear hg3 hc2 hc3 hok
    refine Lib.hid ?_
    go_wp2_with ((refine wpList_store_box rfl 27 _ _ rfl w.heap.size _ _ H3.out.1 #[.int .i64 4, .int .i64 0, .int .i64 0, .int .i64 o, .int .i64 x, .int .i64 y] rfl rfl rfl (by kernel_rfl) (by simp [Value.oneCell']) ?_); intro w4 hx4 hg4; refine Hid.out ?_)
    have H4 := Lib.hid (And.intro hx4 (H3.out.2.grown hg4 H3.out.2.size (fun j hj => by cases hj; exact Nat.le_refl _)))
    clear hx4 hg4
    refine Lib.hid ?_
    go_wp2
    exact bodyPost_ret (v := stV ⟨4, 0, 0, o, x, y⟩) (results_cell_row rfl _ _ w.heap.size _ _ _ _ rfl H4.out.1 Tryd.underlying27 rfl (by kernel_rfl)) rfl ⟨_, rfl, stOk_if HOK.out, H4.out.2⟩
  · have hz3 : (z == 0) = false := by rw [beq_eq_false_iff_ne]; omega
    have hz4 : (z == 1) = false := by rw [beq_eq_false_iff_ne]; omega
    refine Lib.hid ?_
    go_wp2_with (go_at_call 24; refine (stmt_from _ _ a len cap _ hc2 (grownBy_refl _ _)).mono ?_; rintro e w3 ⟨s, rfl, hok, hk1, hk3, hc3, hg3⟩; refine Hid.out ?_)
    have H3 := Lib.hid (And.intro (H2.out.1.grown hg3 (by intro e; have := Option.some.inj e; have := H0.out.2.2.2; omega)) (H2.out.2.grown hg3 H2.out.2.size (fun j hj => by cases hj; have := H0.out.2.2.2; omega)))
    have HOK := Lib.hid hok
    clear hg3 hc2 hc3 hok hk1 hk3
    refine Lib.hid ?_
    go_wp2_with ((refine wpList_store_box rfl 27 _ _ rfl w.heap.size _ _ H3.out.1 #[.int .i64 s.k, .int .i64 s.v, .int .i64 s.n, .int .i64 s.o, .int .i64 s.a, .int .i64 s.b] rfl rfl rfl (by kernel_rfl) (by simp [Value.oneCell']) ?_); intro w4 hx4 hg4; refine Hid.out ?_)
    have H4 := Lib.hid (And.intro hx4 (H3.out.2.grown hg4 H3.out.2.size (fun j hj => by cases hj; exact Nat.le_refl _)))
    clear hx4 hg4
    refine Lib.hid ?_
    go_wp2
    exact bodyPost_ret (v := stV s) (results_cell_row rfl _ _ w.heap.size _ _ _ _ rfl H4.out.1 Tryd.underlying27 rfl (by kernel_rfl)) rfl ⟨_, rfl, HOK, H4.out.2⟩
end Go.Proofs.YtpipnhceajdfkaaDoor.cur
