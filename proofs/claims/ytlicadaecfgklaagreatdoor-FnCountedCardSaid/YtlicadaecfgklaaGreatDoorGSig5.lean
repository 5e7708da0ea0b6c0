/- Several texts in one: StmW BlkS PrgW. -/
import Derived.Test.YtlicadaecfgklaaGreatDoorGSig1
import Derived.Test.YtlicadaecfgklaaGreatDoorGSig3
import Derived.Test.YtlicadaecfgklaaGreatDoorGSig4
import Derived.Test.YtlicadaecfgklaaGreatDoorGSig2
import Derived.Deep.RegionHeld3
import Derived.IntWalk

/- Chapter 4's StmtOk of the model: what the plain function says, for every statement; nothing that was there is written. -/
namespace Go.Proofs.YtlicadaecfgklaaGreatDoor.stm
open Go.ChangeShapes Go.WideShapes Go.ChangeAt Go.RowKit Go.Proofs.YtlicadaecfgklaaGreatDoor.row Go.Proofs.YtlicadaecfgklaaGreatDoor.val Go.Proofs.YtlicadaecfgklaaGreatDoor.expr

set_option maxHeartbeats 1000000 in
theorem spec_stmtok1n (v n o a b : Int) (hqb : eqSt ⟨1, v, n, o, a, b⟩ ⟨1, v, 0, o, a, b⟩ = false) (w : World) : Calls Tryz.prog 155 #[stV ⟨1, v, n, o, a, b⟩] w (BelB w false) := by
  have hp : Hid (plain ⟨1, v, n, o, a, b⟩ = ⟨1, v, 0, o, a, b⟩) := rfl
  have hq := run_eqSt ⟨1, v, n, o, a, b⟩ ⟨1, v, 0, o, a, b⟩
  go_enter Tryz.func155, Tryz.ntmps155
  go_wp2
  go_region_held3 (fun w' => w'.cell? ⟨w.heap.size, 0, none⟩ = some (.int .i64 1) ∧ w'.cell? ⟨w.heap.size, 1, none⟩ = some (.int .i64 v) ∧ w'.cell? ⟨w.heap.size, 2, none⟩ = some (.int .i64 n) ∧ w'.cell? ⟨w.heap.size, 3, none⟩ = some (.int .i64 o) ∧ w'.cell? ⟨w.heap.size, 4, none⟩ = some (.int .i64 a) ∧ w'.cell? ⟨w.heap.size, 5, none⟩ = some (.int .i64 b))
    (first | go_keep | (exact held6 (by assumption) (by simp) (by assumption)))
    (first | (go_at_call 194; refine (spec_plain ⟨1, v, n, o, a, b⟩ _).mono ?_; rw [hp.out]; rintro e w1 ⟨rfl, hb1⟩))
  have HB := Lib.hid (below_then (below_new w _) (drew_below hb1))
  clear hb1
  go_wp2
  go_ret
  exact ⟨rfl, HB.out⟩
set_option maxHeartbeats 2000000 in
theorem spec_stmtok1y (v o a b : Int) (w : World) : Calls Tryz.prog 155 #[stV ⟨1, v, 0, o, a, b⟩] w (BelB w (stOk ⟨1, v, 0, o, a, b⟩)) := by
  cases hv : varOk v <;> cases he : exprOk o a b
  all_goals
    have HE := Lib.hid (stOk1 v o a b)
    rw [hv, he] at HE
    have HV := Lib.hid (show (decide (0 ≤ v) && decide (v ≤ 7)) = _ from hv)
    clear hv
    have hp : Hid (plain ⟨1, v, 0, o, a, b⟩ = ⟨1, v, 0, o, a, b⟩) := rfl
    have hqb : eqSt ⟨1, v, 0, o, a, b⟩ ⟨1, v, 0, o, a, b⟩ = true := by simp [eqSt]
    have hq := run_eqSt ⟨1, v, 0, o, a, b⟩ ⟨1, v, 0, o, a, b⟩
    go_enter Tryz.func155, Tryz.ntmps155
    go_wp2
    go_region_held3 (fun w' => w'.cell? ⟨w.heap.size, 0, none⟩ = some (.int .i64 1) ∧ w'.cell? ⟨w.heap.size, 1, none⟩ = some (.int .i64 v) ∧ w'.cell? ⟨w.heap.size, 2, none⟩ = some (.int .i64 0) ∧ w'.cell? ⟨w.heap.size, 3, none⟩ = some (.int .i64 o) ∧ w'.cell? ⟨w.heap.size, 4, none⟩ = some (.int .i64 a) ∧ w'.cell? ⟨w.heap.size, 5, none⟩ = some (.int .i64 b))
      (first | go_keep | (exact held6 (by assumption) (by simp) (by assumption)))
      (first | (go_at_call 194; refine (spec_plain ⟨1, v, 0, o, a, b⟩ _).mono ?_; rw [hp.out]; rintro e w1 ⟨rfl, hb1⟩))
    have HB := Lib.hid (below_then (below_new w _) (drew_below hb1))
    clear hb1
    go_wp2_with (first
      | (go_at_call 70; (with_reducible refine (in_any v 0 7 _ HV.out _).mono ?_); rintro e w2 ⟨rfl, rfl⟩)
      | (go_at_call 116; refine (spec_exprok _ _ _ _ he _).mono ?_; rintro e w3 ⟨rfl, hb3⟩))
    go_ret
    first
      | exact ⟨by rw [HE.out]; rfl, HB.out⟩
      | exact ⟨by rw [HE.out]; rfl, below_then HB.out hb3⟩
set_option maxHeartbeats 1000000 in
theorem spec_stmtok2n (v n o a b : Int) (hqb : eqSt ⟨2, v, n, o, a, b⟩ ⟨2, v, n, 0, 0, 0⟩ = false) (w : World) : Calls Tryz.prog 155 #[stV ⟨2, v, n, o, a, b⟩] w (BelB w false) := by
  have hp : Hid (plain ⟨2, v, n, o, a, b⟩ = ⟨2, v, n, 0, 0, 0⟩) := rfl
  have hq := run_eqSt ⟨2, v, n, o, a, b⟩ ⟨2, v, n, 0, 0, 0⟩
  go_enter Tryz.func155, Tryz.ntmps155
  go_wp2
  go_region_held3 (fun w' => w'.cell? ⟨w.heap.size, 0, none⟩ = some (.int .i64 2) ∧ w'.cell? ⟨w.heap.size, 1, none⟩ = some (.int .i64 v) ∧ w'.cell? ⟨w.heap.size, 2, none⟩ = some (.int .i64 n) ∧ w'.cell? ⟨w.heap.size, 3, none⟩ = some (.int .i64 o) ∧ w'.cell? ⟨w.heap.size, 4, none⟩ = some (.int .i64 a) ∧ w'.cell? ⟨w.heap.size, 5, none⟩ = some (.int .i64 b))
    (first | go_keep | (exact held6 (by assumption) (by simp) (by assumption)))
    (first | (go_at_call 194; refine (spec_plain ⟨2, v, n, o, a, b⟩ _).mono ?_; rw [hp.out]; rintro e w1 ⟨rfl, hb1⟩))
  have HB := Lib.hid (below_then (below_new w _) (drew_below hb1))
  clear hb1
  go_wp2
  go_ret
  exact ⟨rfl, HB.out⟩
set_option maxHeartbeats 2000000 in
theorem spec_stmtok2y (v n : Int) (w : World) : Calls Tryz.prog 155 #[stV ⟨2, v, n, 0, 0, 0⟩] w (BelB w (stOk ⟨2, v, n, 0, 0, 0⟩)) := by
  cases hv : varOk v <;> cases he : (decide (0 ≤ n) && decide (n ≤ 3))
  all_goals
    have HE := Lib.hid (stOk2 v n)
    rw [hv, he] at HE
    have HV := Lib.hid (show (decide (0 ≤ v) && decide (v ≤ 7)) = _ from hv)
    clear hv
    have hp : Hid (plain ⟨2, v, n, 0, 0, 0⟩ = ⟨2, v, n, 0, 0, 0⟩) := rfl
    have hqb : eqSt ⟨2, v, n, 0, 0, 0⟩ ⟨2, v, n, 0, 0, 0⟩ = true := by simp [eqSt]
    have hq := run_eqSt ⟨2, v, n, 0, 0, 0⟩ ⟨2, v, n, 0, 0, 0⟩
    go_enter Tryz.func155, Tryz.ntmps155
    go_wp2
    go_region_held3 (fun w' => w'.cell? ⟨w.heap.size, 0, none⟩ = some (.int .i64 2) ∧ w'.cell? ⟨w.heap.size, 1, none⟩ = some (.int .i64 v) ∧ w'.cell? ⟨w.heap.size, 2, none⟩ = some (.int .i64 n) ∧ w'.cell? ⟨w.heap.size, 3, none⟩ = some (.int .i64 0) ∧ w'.cell? ⟨w.heap.size, 4, none⟩ = some (.int .i64 0) ∧ w'.cell? ⟨w.heap.size, 5, none⟩ = some (.int .i64 0))
      (first | go_keep | (exact held6 (by assumption) (by simp) (by assumption)))
      (first | (go_at_call 194; refine (spec_plain ⟨2, v, n, 0, 0, 0⟩ _).mono ?_; rw [hp.out]; rintro e w1 ⟨rfl, hb1⟩))
    have HB := Lib.hid (below_then (below_new w _) (drew_below hb1))
    clear hb1
    go_wp2_with (first
      | (go_at_call 70; (with_reducible refine (in_any v 0 7 _ HV.out _).mono ?_); rintro e w2 ⟨rfl, rfl⟩)
      | (go_at_call 70; (with_reducible refine (in_any n 0 3 _ he _).mono ?_); rintro e w2 ⟨rfl, rfl⟩))
    go_ret
    first
      | exact ⟨by rw [HE.out]; rfl, HB.out⟩
      | exact ⟨by rw [HE.out]; rfl, below_then HB.out hb3⟩
set_option maxHeartbeats 1000000 in
theorem spec_stmtok3n (v n o a b : Int) (hqb : eqSt ⟨3, v, n, o, a, b⟩ ⟨3, 0, 0, o, a, b⟩ = false) (w : World) : Calls Tryz.prog 155 #[stV ⟨3, v, n, o, a, b⟩] w (BelB w false) := by
  have hp : Hid (plain ⟨3, v, n, o, a, b⟩ = ⟨3, 0, 0, o, a, b⟩) := rfl
  have hq := run_eqSt ⟨3, v, n, o, a, b⟩ ⟨3, 0, 0, o, a, b⟩
  go_enter Tryz.func155, Tryz.ntmps155
  go_wp2
  go_region_held3 (fun w' => w'.cell? ⟨w.heap.size, 0, none⟩ = some (.int .i64 3) ∧ w'.cell? ⟨w.heap.size, 1, none⟩ = some (.int .i64 v) ∧ w'.cell? ⟨w.heap.size, 2, none⟩ = some (.int .i64 n) ∧ w'.cell? ⟨w.heap.size, 3, none⟩ = some (.int .i64 o) ∧ w'.cell? ⟨w.heap.size, 4, none⟩ = some (.int .i64 a) ∧ w'.cell? ⟨w.heap.size, 5, none⟩ = some (.int .i64 b))
    (first | go_keep | (exact held6 (by assumption) (by simp) (by assumption)))
    (first | (go_at_call 194; refine (spec_plain ⟨3, v, n, o, a, b⟩ _).mono ?_; rw [hp.out]; rintro e w1 ⟨rfl, hb1⟩))
  have HB := Lib.hid (below_then (below_new w _) (drew_below hb1))
  clear hb1
  go_wp2
  go_ret
  exact ⟨rfl, HB.out⟩
set_option maxHeartbeats 2000000 in
theorem spec_stmtok3y (o a b : Int) (w : World) : Calls Tryz.prog 155 #[stV ⟨3, 0, 0, o, a, b⟩] w (BelB w (stOk ⟨3, 0, 0, o, a, b⟩)) := by
  cases he : exprOk o a b
  all_goals
    have HE := Lib.hid (stOk3 o a b)
    rw [he] at HE
    have hp : Hid (plain ⟨3, 0, 0, o, a, b⟩ = ⟨3, 0, 0, o, a, b⟩) := rfl
    have hqb : eqSt ⟨3, 0, 0, o, a, b⟩ ⟨3, 0, 0, o, a, b⟩ = true := by simp [eqSt]
    have hq := run_eqSt ⟨3, 0, 0, o, a, b⟩ ⟨3, 0, 0, o, a, b⟩
    go_enter Tryz.func155, Tryz.ntmps155
    go_wp2
    go_region_held3 (fun w' => w'.cell? ⟨w.heap.size, 0, none⟩ = some (.int .i64 3) ∧ w'.cell? ⟨w.heap.size, 1, none⟩ = some (.int .i64 0) ∧ w'.cell? ⟨w.heap.size, 2, none⟩ = some (.int .i64 0) ∧ w'.cell? ⟨w.heap.size, 3, none⟩ = some (.int .i64 o) ∧ w'.cell? ⟨w.heap.size, 4, none⟩ = some (.int .i64 a) ∧ w'.cell? ⟨w.heap.size, 5, none⟩ = some (.int .i64 b))
      (first | go_keep | (exact held6 (by assumption) (by simp) (by assumption)))
      (first | (go_at_call 194; refine (spec_plain ⟨3, 0, 0, o, a, b⟩ _).mono ?_; rw [hp.out]; rintro e w1 ⟨rfl, hb1⟩))
    have HB := Lib.hid (below_then (below_new w _) (drew_below hb1))
    clear hb1
    go_wp2_with (first
      | (go_at_call 116; refine (spec_exprok _ _ _ _ he _).mono ?_; rintro e w3 ⟨rfl, hb3⟩))
    go_ret
    first
      | exact ⟨by rw [HE.out]; rfl, HB.out⟩
      | exact ⟨by rw [HE.out]; rfl, below_then HB.out hb3⟩
set_option maxHeartbeats 1000000 in
theorem spec_stmtok4n (v n o a b : Int) (hqb : eqSt ⟨4, v, n, o, a, b⟩ ⟨4, 0, 0, o, a, b⟩ = false) (w : World) : Calls Tryz.prog 155 #[stV ⟨4, v, n, o, a, b⟩] w (BelB w false) := by
  have hp : Hid (plain ⟨4, v, n, o, a, b⟩ = ⟨4, 0, 0, o, a, b⟩) := rfl
  have hq := run_eqSt ⟨4, v, n, o, a, b⟩ ⟨4, 0, 0, o, a, b⟩
  go_enter Tryz.func155, Tryz.ntmps155
  go_wp2
  go_region_held3 (fun w' => w'.cell? ⟨w.heap.size, 0, none⟩ = some (.int .i64 4) ∧ w'.cell? ⟨w.heap.size, 1, none⟩ = some (.int .i64 v) ∧ w'.cell? ⟨w.heap.size, 2, none⟩ = some (.int .i64 n) ∧ w'.cell? ⟨w.heap.size, 3, none⟩ = some (.int .i64 o) ∧ w'.cell? ⟨w.heap.size, 4, none⟩ = some (.int .i64 a) ∧ w'.cell? ⟨w.heap.size, 5, none⟩ = some (.int .i64 b))
    (first | go_keep | (exact held6 (by assumption) (by simp) (by assumption)))
    (first | (go_at_call 194; refine (spec_plain ⟨4, v, n, o, a, b⟩ _).mono ?_; rw [hp.out]; rintro e w1 ⟨rfl, hb1⟩))
  have HB := Lib.hid (below_then (below_new w _) (drew_below hb1))
  clear hb1
  go_wp2
  go_ret
  exact ⟨rfl, HB.out⟩
set_option maxHeartbeats 2000000 in
theorem spec_stmtok4y (o a b : Int) (w : World) : Calls Tryz.prog 155 #[stV ⟨4, 0, 0, o, a, b⟩] w (BelB w (stOk ⟨4, 0, 0, o, a, b⟩)) := by
  cases he : exprOk o a b
  all_goals
    have HE := Lib.hid (stOk4 o a b)
    rw [he] at HE
    have hp : Hid (plain ⟨4, 0, 0, o, a, b⟩ = ⟨4, 0, 0, o, a, b⟩) := rfl
    have hqb : eqSt ⟨4, 0, 0, o, a, b⟩ ⟨4, 0, 0, o, a, b⟩ = true := by simp [eqSt]
    have hq := run_eqSt ⟨4, 0, 0, o, a, b⟩ ⟨4, 0, 0, o, a, b⟩
    go_enter Tryz.func155, Tryz.ntmps155
    go_wp2
    go_region_held3 (fun w' => w'.cell? ⟨w.heap.size, 0, none⟩ = some (.int .i64 4) ∧ w'.cell? ⟨w.heap.size, 1, none⟩ = some (.int .i64 0) ∧ w'.cell? ⟨w.heap.size, 2, none⟩ = some (.int .i64 0) ∧ w'.cell? ⟨w.heap.size, 3, none⟩ = some (.int .i64 o) ∧ w'.cell? ⟨w.heap.size, 4, none⟩ = some (.int .i64 a) ∧ w'.cell? ⟨w.heap.size, 5, none⟩ = some (.int .i64 b))
      (first | go_keep | (exact held6 (by assumption) (by simp) (by assumption)))
      (first | (go_at_call 194; refine (spec_plain ⟨4, 0, 0, o, a, b⟩ _).mono ?_; rw [hp.out]; rintro e w1 ⟨rfl, hb1⟩))
    have HB := Lib.hid (below_then (below_new w _) (drew_below hb1))
    clear hb1
    go_wp2_with (first
      | (go_at_call 116; refine (spec_exprok _ _ _ _ he _).mono ?_; rintro e w3 ⟨rfl, hb3⟩))
    go_ret
    first
      | exact ⟨by rw [HE.out]; rfl, HB.out⟩
      | exact ⟨by rw [HE.out]; rfl, below_then HB.out hb3⟩
set_option maxHeartbeats 1000000 in
theorem spec_stmtok5n (v n o a b : Int) (hqb : eqSt ⟨5, v, n, o, a, b⟩ ⟨5, 0, n, 0, 0, 0⟩ = false) (w : World) : Calls Tryz.prog 155 #[stV ⟨5, v, n, o, a, b⟩] w (BelB w false) := by
  have hp : Hid (plain ⟨5, v, n, o, a, b⟩ = ⟨5, 0, n, 0, 0, 0⟩) := rfl
  have hq := run_eqSt ⟨5, v, n, o, a, b⟩ ⟨5, 0, n, 0, 0, 0⟩
  go_enter Tryz.func155, Tryz.ntmps155
  go_wp2
  go_region_held3 (fun w' => w'.cell? ⟨w.heap.size, 0, none⟩ = some (.int .i64 5) ∧ w'.cell? ⟨w.heap.size, 1, none⟩ = some (.int .i64 v) ∧ w'.cell? ⟨w.heap.size, 2, none⟩ = some (.int .i64 n) ∧ w'.cell? ⟨w.heap.size, 3, none⟩ = some (.int .i64 o) ∧ w'.cell? ⟨w.heap.size, 4, none⟩ = some (.int .i64 a) ∧ w'.cell? ⟨w.heap.size, 5, none⟩ = some (.int .i64 b))
    (first | go_keep | (exact held6 (by assumption) (by simp) (by assumption)))
    (first | (go_at_call 194; refine (spec_plain ⟨5, v, n, o, a, b⟩ _).mono ?_; rw [hp.out]; rintro e w1 ⟨rfl, hb1⟩))
  have HB := Lib.hid (below_then (below_new w _) (drew_below hb1))
  clear hb1
  go_wp2
  go_ret
  exact ⟨rfl, HB.out⟩
set_option maxHeartbeats 2000000 in
theorem spec_stmtok5y (n : Int) (w : World) : Calls Tryz.prog 155 #[stV ⟨5, 0, n, 0, 0, 0⟩] w (BelB w (stOk ⟨5, 0, n, 0, 0, 0⟩)) := by
  cases he : (decide (1 ≤ n) && decide (n ≤ 5))
  all_goals
    have HE := Lib.hid (stOk5 n)
    rw [he] at HE
    have hp : Hid (plain ⟨5, 0, n, 0, 0, 0⟩ = ⟨5, 0, n, 0, 0, 0⟩) := rfl
    have hqb : eqSt ⟨5, 0, n, 0, 0, 0⟩ ⟨5, 0, n, 0, 0, 0⟩ = true := by simp [eqSt]
    have hq := run_eqSt ⟨5, 0, n, 0, 0, 0⟩ ⟨5, 0, n, 0, 0, 0⟩
    go_enter Tryz.func155, Tryz.ntmps155
    go_wp2
    go_region_held3 (fun w' => w'.cell? ⟨w.heap.size, 0, none⟩ = some (.int .i64 5) ∧ w'.cell? ⟨w.heap.size, 1, none⟩ = some (.int .i64 0) ∧ w'.cell? ⟨w.heap.size, 2, none⟩ = some (.int .i64 n) ∧ w'.cell? ⟨w.heap.size, 3, none⟩ = some (.int .i64 0) ∧ w'.cell? ⟨w.heap.size, 4, none⟩ = some (.int .i64 0) ∧ w'.cell? ⟨w.heap.size, 5, none⟩ = some (.int .i64 0))
      (first | go_keep | (exact held6 (by assumption) (by simp) (by assumption)))
      (first | (go_at_call 194; refine (spec_plain ⟨5, 0, n, 0, 0, 0⟩ _).mono ?_; rw [hp.out]; rintro e w1 ⟨rfl, hb1⟩))
    have HB := Lib.hid (below_then (below_new w _) (drew_below hb1))
    clear hb1
    go_wp2_with (first
      | (go_at_call 70; (with_reducible refine (in_any n 1 5 _ he _).mono ?_); rintro e w2 ⟨rfl, rfl⟩))
    go_ret
    first
      | exact ⟨by rw [HE.out]; rfl, HB.out⟩
      | exact ⟨by rw [HE.out]; rfl, below_then HB.out hb3⟩
set_option maxHeartbeats 1000000 in
theorem spec_stmtok6n (v n o a b : Int) (hqb : eqSt ⟨6, v, n, o, a, b⟩ ⟨6, 0, 0, 0, 0, 0⟩ = false) (w : World) : Calls Tryz.prog 155 #[stV ⟨6, v, n, o, a, b⟩] w (BelB w false) := by
  have hp : Hid (plain ⟨6, v, n, o, a, b⟩ = ⟨6, 0, 0, 0, 0, 0⟩) := rfl
  have hq := run_eqSt ⟨6, v, n, o, a, b⟩ ⟨6, 0, 0, 0, 0, 0⟩
  go_enter Tryz.func155, Tryz.ntmps155
  go_wp2
  go_region_held3 (fun w' => w'.cell? ⟨w.heap.size, 0, none⟩ = some (.int .i64 6) ∧ w'.cell? ⟨w.heap.size, 1, none⟩ = some (.int .i64 v) ∧ w'.cell? ⟨w.heap.size, 2, none⟩ = some (.int .i64 n) ∧ w'.cell? ⟨w.heap.size, 3, none⟩ = some (.int .i64 o) ∧ w'.cell? ⟨w.heap.size, 4, none⟩ = some (.int .i64 a) ∧ w'.cell? ⟨w.heap.size, 5, none⟩ = some (.int .i64 b))
    (first | go_keep | (exact held6 (by assumption) (by simp) (by assumption)))
    (first | (go_at_call 194; refine (spec_plain ⟨6, v, n, o, a, b⟩ _).mono ?_; rw [hp.out]; rintro e w1 ⟨rfl, hb1⟩))
  have HB := Lib.hid (below_then (below_new w _) (drew_below hb1))
  clear hb1
  go_wp2
  go_ret
  exact ⟨rfl, HB.out⟩
set_option maxHeartbeats 2000000 in
theorem spec_stmtok6y (w : World) : Calls Tryz.prog 155 #[stV ⟨6, 0, 0, 0, 0, 0⟩] w (BelB w (stOk ⟨6, 0, 0, 0, 0, 0⟩)) := by
  have HE := Lib.hid stOk6
  have hp : Hid (plain ⟨6, 0, 0, 0, 0, 0⟩ = ⟨6, 0, 0, 0, 0, 0⟩) := rfl
  have hqb : eqSt ⟨6, 0, 0, 0, 0, 0⟩ ⟨6, 0, 0, 0, 0, 0⟩ = true := by simp [eqSt]
  have hq := run_eqSt ⟨6, 0, 0, 0, 0, 0⟩ ⟨6, 0, 0, 0, 0, 0⟩
  go_enter Tryz.func155, Tryz.ntmps155
  go_wp2
  go_region_held3 (fun w' => w'.cell? ⟨w.heap.size, 0, none⟩ = some (.int .i64 6) ∧ w'.cell? ⟨w.heap.size, 1, none⟩ = some (.int .i64 0) ∧ w'.cell? ⟨w.heap.size, 2, none⟩ = some (.int .i64 0) ∧ w'.cell? ⟨w.heap.size, 3, none⟩ = some (.int .i64 0) ∧ w'.cell? ⟨w.heap.size, 4, none⟩ = some (.int .i64 0) ∧ w'.cell? ⟨w.heap.size, 5, none⟩ = some (.int .i64 0))
    (first | go_keep | (exact held6 (by assumption) (by simp) (by assumption)))
    (first | (go_at_call 194; refine (spec_plain ⟨6, 0, 0, 0, 0, 0⟩ _).mono ?_; rw [hp.out]; rintro e w1 ⟨rfl, hb1⟩))
  have HB := Lib.hid (below_then (below_new w _) (drew_below hb1))
  clear hb1
  go_wp2
  go_ret
  first
    | exact ⟨by rw [HE.out]; rfl, HB.out⟩
    | exact ⟨by rw [HE.out]; rfl, below_then HB.out hb3⟩
set_option maxHeartbeats 2000000 in
theorem spec_stmtok7 (k v n o a b : Int) (h1 : (k == 1) = false) (h2 : (k == 2) = false) (h3 : (k == 3) = false) (h4 : (k == 4) = false) (h5 : (k == 5) = false) (h6 : (k == 6) = false) (w : World) : Calls Tryz.prog 155 #[stV ⟨k, v, n, o, a, b⟩] w (BelB w false) := by
  have hp := Lib.hid (plain_other (v := v) (n := n) (o := o) (a := a) (b := b) h1 h2 h3 h4 h5)
  have hq := run_eqSt ⟨k, v, n, o, a, b⟩ ⟨k, 0, 0, 0, 0, 0⟩
  cases hqb : eqSt ⟨k, v, n, o, a, b⟩ ⟨k, 0, 0, 0, 0, 0⟩
  all_goals
    go_enter Tryz.func155, Tryz.ntmps155
    go_wp2
    go_region_held3 (fun w' => w'.cell? ⟨w.heap.size, 0, none⟩ = some (.int .i64 k) ∧ w'.cell? ⟨w.heap.size, 1, none⟩ = some (.int .i64 v) ∧ w'.cell? ⟨w.heap.size, 2, none⟩ = some (.int .i64 n) ∧ w'.cell? ⟨w.heap.size, 3, none⟩ = some (.int .i64 o) ∧ w'.cell? ⟨w.heap.size, 4, none⟩ = some (.int .i64 a) ∧ w'.cell? ⟨w.heap.size, 5, none⟩ = some (.int .i64 b))
      (first | go_keep | (exact held6 (by assumption) (by simp) (by assumption)))
      (first | (go_at_call 194; refine (spec_plain ⟨k, v, n, o, a, b⟩ _).mono ?_; rw [hp.out]; rintro e w1 ⟨rfl, hb1⟩))
    have HB := Lib.hid (below_then (below_new w _) (drew_below hb1))
    clear hb1
    go_wp2
    go_ret
    exact ⟨rfl, HB.out⟩
theorem spec_stmtok (s : St) (r : Bool) (hr : stOk s = r) (w : World) : Calls Tryz.prog 155 #[stV s] w (BelB w r) := by
  subst hr
  obtain ⟨k, v, n, o, a, b⟩ := s
  rcases kinds k with rfl | rfl | rfl | rfl | rfl | rfl | ⟨h1, h2, h3, h4, h5, h6⟩
  · cases hqb : eqSt ⟨1, v, n, o, a, b⟩ ⟨1, v, 0, o, a, b⟩
    · rw [not_plain rfl hqb]; exact spec_stmtok1n v n o a b hqb w
    · obtain rfl : n = 0 := by simpa [eqSt] using hqb
      exact spec_stmtok1y v o a b w
  · cases hqb : eqSt ⟨2, v, n, o, a, b⟩ ⟨2, v, n, 0, 0, 0⟩
    · rw [not_plain rfl hqb]; exact spec_stmtok2n v n o a b hqb w
    · obtain ⟨rfl, rfl, rfl⟩ : o = 0 ∧ a = 0 ∧ b = 0 := by simpa [eqSt] using hqb
      exact spec_stmtok2y v n w
  · cases hqb : eqSt ⟨3, v, n, o, a, b⟩ ⟨3, 0, 0, o, a, b⟩
    · rw [not_plain rfl hqb]; exact spec_stmtok3n v n o a b hqb w
    · obtain ⟨rfl, rfl⟩ : v = 0 ∧ n = 0 := by simpa [eqSt] using hqb
      exact spec_stmtok3y o a b w
  · cases hqb : eqSt ⟨4, v, n, o, a, b⟩ ⟨4, 0, 0, o, a, b⟩
    · rw [not_plain rfl hqb]; exact spec_stmtok4n v n o a b hqb w
    · obtain ⟨rfl, rfl⟩ : v = 0 ∧ n = 0 := by simpa [eqSt] using hqb
      exact spec_stmtok4y o a b w
  · cases hqb : eqSt ⟨5, v, n, o, a, b⟩ ⟨5, 0, n, 0, 0, 0⟩
    · rw [not_plain rfl hqb]; exact spec_stmtok5n v n o a b hqb w
    · obtain ⟨rfl, rfl, rfl, rfl⟩ : v = 0 ∧ o = 0 ∧ a = 0 ∧ b = 0 := by simpa [eqSt] using hqb
      exact spec_stmtok5y n w
  · cases hqb : eqSt ⟨6, v, n, o, a, b⟩ ⟨6, 0, 0, 0, 0, 0⟩
    · rw [not_plain rfl hqb]; exact spec_stmtok6n v n o a b hqb w
    · obtain ⟨rfl, rfl, rfl, rfl, rfl⟩ : v = 0 ∧ n = 0 ∧ o = 0 ∧ a = 0 ∧ b = 0 := by simpa [eqSt] using hqb
      exact spec_stmtok6y  w
  · rw [stOk_other h1 h2 h3 h4 h5 h6]; exact spec_stmtok7 k v n o a b h1 h2 h3 h4 h5 h6 w
end Go.Proofs.YtlicadaecfgklaaGreatDoor.stm

/- Chapter 5's model: BlockOk, the matching end, EndOf, DepthOf, LongestRun: what the plain relations say, for every list of statements; nothing that was there is written. -/
namespace Go.Proofs.YtlicadaecfgklaaGreatDoor.blk
open Go Go.ChangeShapes Go.WideShapes Go.ChangeAt Go.RowKit Go.Proofs.YtlicadaecfgklaaGreatDoor.row Go.Proofs.YtlicadaecfgklaaGreatDoor.val Go.Proofs.YtlicadaecfgklaaGreatDoor.expr Go.Proofs.YtlicadaecfgklaaGreatDoor.stm

theorem stm_below {w w1 w2 : World} (h : Below w.heap.size w w1) (h2 : Below w1.heap.size w1 w2) : Below w.heap.size w w2 := below_then h h2
set_option maxHeartbeats 4000000 in
set_option maxRecDepth 100000 in
theorem spec_blockok (a : Option Addr) (n cap : Nat) (L : List Go.Proofs.YtlicadaecfgklaaGreatDoor.stm.St) (hn : (n : Int) ≤ 1048576) (w : World) (h : StRow w a n L) (r : Bool) (hr : r = true ↔ IsBlk L) :
    Calls Tryz.prog 115 #[.slice a n cap] w (BelB w r) := by
  have HL := Lib.hid h
  have HR := Lib.hid hr
  clear h hr
  go_enter Tryz.func115, Tryz.ntmps115
  go_wp2
  go_loopw [3, 4] (fun o i wr => ∃ (k : Nat) (x : Int), k ≤ n ∧ i = .int .i64 k ∧ o = .int .i64 x ∧ 0 ≤ x ∧ x ≤ 3 ∧ Hid (x = hAt L k) ∧ Hid (OkTo L k) ∧ Below w.heap.size w wr) (fun _ i _ => n - (intOf i).toNat)
  case atStart => exact ⟨0, 0, Nat.zero_le _, rfl, rfl, by omega, by omega, rfl, okTo_zero L, Below.refl _ _⟩
  case round =>
    obtain ⟨k, x, hk, rfl, rfl, hx0, hx3, hH, hO, hbel⟩ := hrel
    by_cases hlt : k < n
    · obtain ⟨b, off, s, rfl, hlb, hs, hrg⟩ := (HL.out.below hbel).2 k hlt
      have HS := Lib.hid (And.intro hrg (And.intro hs hbel))
      have hI : (k : Int) < n := by omega
      clear hrg hs hbel
      cases hst : stOk s
      · have hrf : r = false := by
          rw [← Bool.not_eq_true]; intro e; exact not_blk_at HS.out.2.1 (.inl hst) (HR.out.1 e)
        have HST := Lib.hid hst
        clear hst
        subst hrf
        go_wp2_with (first
          | (refine wpList_load_mid rfl 89 _ rfl b (off + k * 6) rfl (stC s) _ HS.out.1 Tryz.underlying89 rfl (by kernel_rfl) ?_)
          | (go_at_call 155; refine (spec_stmtok s false HST.out _).mono ?_; rintro e w2 ⟨rfl, hb2⟩))
        go_ret
        exact ⟨rfl, below_then HS.out.2.2 hb2⟩
      · have HST := Lib.hid hst
        clear hst
        go_wp2_with (first
          | (refine wpList_load_mid rfl 89 _ rfl b (off + k * 6) rfl (stC s) _ HS.out.1 Tryz.underlying89 rfl (by kernel_rfl) ?_)
          | (go_at_call 155; refine (spec_stmtok s true HST.out _).mono ?_; rintro e w2 ⟨rfl, hb2⟩; refine Hid.out ?_))
        have hc2 := (hb2.cell (p := ⟨b, off + k * 6, none⟩) hlb).trans (range6 HS.out.1).1
        have HB2 := Lib.hid (below_then HS.out.2.2 hb2)
        have hnx := hAt_succ HS.out.2.1
        obtain ⟨d, hd⟩ : ∃ d, dlt s = d := ⟨_, rfl⟩
        rw [hd, ← hH.out] at hnx
        clear hb2
        rcases (show (s.k = 4 ∧ d = 1) ∨ (s.k = 5 ∧ d = 1) ∨ (s.k = 6 ∧ d = -1) ∨ (s.k ≠ 4 ∧ s.k ≠ 5 ∧ s.k ≠ 6 ∧ d = 0) by
          rw [← hd]; unfold dlt; split
          · omega
          · split <;> omega) with ⟨hk4, rfl⟩ | ⟨hk4, rfl⟩ | ⟨hk4, rfl⟩ | ⟨hk4, hk5, hk6, rfl⟩
        · have hq : (s.k == 4) = true := by rw [hk4]; rfl
          have hq5 : (s.k == 5) = false := by rw [hk4]; rfl
          clear hd hk4
          by_cases hx : x + 1 ≤ 3
          · skip
            have HIN := Lib.hid (show (decide (0 ≤ (x + 1)) && decide ((x + 1) ≤ 3)) = true by simp; omega)
            have HO2 := Lib.hid (okTo_succ hO.out HS.out.2.1 HST.out (by omega) (by omega))
            have HX2 := Lib.hid (show (x + 1) = hAt L (k + 1) by omega)
            refine Lib.hid ?_
            go_wp2_with (go_at_call 70; (with_reducible refine (in_any _ 0 3 _ HIN.out _).mono ?_); rintro e w3 ⟨rfl, rfl⟩)
            go_roundw
            case rel => exact ⟨k + 1, (x + 1), by omega, by go_num, rfl, by omega, by omega, HX2, HO2, HB2.out⟩
            case measure => simp [intOf]; omega
          · skip
            have HIN := Lib.hid (show (decide (0 ≤ (x + 1)) && decide ((x + 1) ≤ 3)) = false by simp; omega)
            have hrf : r = false := by
              rw [← Bool.not_eq_true]; intro e; exact not_blk_at HS.out.2.1 (.inr (by omega)) (HR.out.1 e)
            subst hrf
            refine Lib.hid ?_
            go_wp2_with (go_at_call 70; (with_reducible refine (in_any _ 0 3 _ HIN.out _).mono ?_); rintro e w3 ⟨rfl, rfl⟩)
            go_ret
            exact ⟨rfl, HB2.out⟩
        · have hq : (s.k == 4) = false := by rw [hk4]; rfl
          have hq5 : (s.k == 5) = true := by rw [hk4]; rfl
          clear hd hk4
          by_cases hx : x + 1 ≤ 3
          · skip
            have HIN := Lib.hid (show (decide (0 ≤ (x + 1)) && decide ((x + 1) ≤ 3)) = true by simp; omega)
            have HO2 := Lib.hid (okTo_succ hO.out HS.out.2.1 HST.out (by omega) (by omega))
            have HX2 := Lib.hid (show (x + 1) = hAt L (k + 1) by omega)
            refine Lib.hid ?_
            go_wp2_with (go_at_call 70; (with_reducible refine (in_any _ 0 3 _ HIN.out _).mono ?_); rintro e w3 ⟨rfl, rfl⟩)
            go_roundw
            case rel => exact ⟨k + 1, (x + 1), by omega, by go_num, rfl, by omega, by omega, HX2, HO2, HB2.out⟩
            case measure => simp [intOf]; omega
          · skip
            have HIN := Lib.hid (show (decide (0 ≤ (x + 1)) && decide ((x + 1) ≤ 3)) = false by simp; omega)
            have hrf : r = false := by
              rw [← Bool.not_eq_true]; intro e; exact not_blk_at HS.out.2.1 (.inr (by omega)) (HR.out.1 e)
            subst hrf
            refine Lib.hid ?_
            go_wp2_with (go_at_call 70; (with_reducible refine (in_any _ 0 3 _ HIN.out _).mono ?_); rintro e w3 ⟨rfl, rfl⟩)
            go_ret
            exact ⟨rfl, HB2.out⟩
        · have hq : (s.k == 4) = false := by rw [hk4]; rfl
          have hq5 : (s.k == 5) = false := by rw [hk4]; rfl
          have hq6 : (s.k == 6) = true := by rw [hk4]; rfl
          clear hd hk4
          by_cases hx : 0 ≤ x - 1
          · skip
            have HIN := Lib.hid (show (decide (0 ≤ (x - 1)) && decide ((x - 1) ≤ 3)) = true by simp; omega)
            have HO2 := Lib.hid (okTo_succ hO.out HS.out.2.1 HST.out (by omega) (by omega))
            have HX2 := Lib.hid (show (x - 1) = hAt L (k + 1) by omega)
            refine Lib.hid ?_
            go_wp2_with (go_at_call 70; (with_reducible refine (in_any _ 0 3 _ HIN.out _).mono ?_); rintro e w3 ⟨rfl, rfl⟩)
            go_roundw
            case rel => exact ⟨k + 1, (x - 1), by omega, by go_num, rfl, by omega, by omega, HX2, HO2, HB2.out⟩
            case measure => simp [intOf]; omega
          · skip
            have HIN := Lib.hid (show (decide (0 ≤ (x - 1)) && decide ((x - 1) ≤ 3)) = false by simp; omega)
            have hrf : r = false := by
              rw [← Bool.not_eq_true]; intro e; exact not_blk_at HS.out.2.1 (.inr (by omega)) (HR.out.1 e)
            subst hrf
            refine Lib.hid ?_
            go_wp2_with (go_at_call 70; (with_reducible refine (in_any _ 0 3 _ HIN.out _).mono ?_); rintro e w3 ⟨rfl, rfl⟩)
            go_ret
            exact ⟨rfl, HB2.out⟩
        · have hq : (s.k == 4) = false := by rw [beq_eq_false_iff_ne]; exact hk4
          have hq5 : (s.k == 5) = false := by rw [beq_eq_false_iff_ne]; exact hk5
          have hq6 : (s.k == 6) = false := by rw [beq_eq_false_iff_ne]; exact hk6
          clear hd hk4 hk5 hk6
          have HIN := Lib.hid (show (decide (0 ≤ x) && decide (x ≤ 3)) = true by simp; omega)
          have HO2 := Lib.hid (okTo_succ hO.out HS.out.2.1 HST.out (by omega) (by omega))
          have HX2 := Lib.hid (show x = hAt L (k + 1) by omega)
          refine Lib.hid ?_
          go_wp2_with (go_at_call 70; (with_reducible refine (in_any _ 0 3 _ HIN.out _).mono ?_); rintro e w3 ⟨rfl, rfl⟩)
          go_roundw
          case rel => exact ⟨k + 1, x, by omega, by go_num, rfl, by omega, by omega, HX2, HO2, HB2.out⟩
          case measure => simp [intOf]; omega
    · obtain rfl : k = n := by omega
      have hI : ¬ (k : Int) < k := by omega
      have hlen := HL.out.1
      have hOK := hO.out
      have hHX := hH.out
      rcases (show x ≠ 0 ∨ (x = 0 ∧ 24 < k) ∨ (x = 0 ∧ k ≤ 24) by omega) with hx | ⟨hx, h24⟩ | ⟨hx, h24⟩
      · have hrf : r = false := by
          rw [← Bool.not_eq_true]; intro e; have := (HR.out.1 e).2.1; rw [hlen] at this; omega
        have hxb : (x == 0) = false := by rw [beq_eq_false_iff_ne]; exact hx
        have HB := Lib.hid hbel
        clear hOK hHX hbel
        subst hrf
        go_wp2
        go_ret
        exact ⟨rfl, HB.out⟩
      · have hrf : r = false := by
          rw [← Bool.not_eq_true]; intro e; have := (HR.out.1 e).2.2; omega
        have hxb : (x == 0) = true := by rw [hx]; rfl
        have h24I : (24 : Int) < k := by omega
        have HB := Lib.hid hbel
        clear hOK hHX hbel hx
        subst hrf
        go_wp2
        go_ret
        exact ⟨by simp; try omega, HB.out⟩
      · have hrt : r = true := HR.out.2 ⟨by rw [hlen]; exact hOK, by rw [hlen]; omega, by omega⟩
        have hxb : (x == 0) = true := by rw [hx]; rfl
        have h24I : (k : Int) ≤ 24 := by omega
        have HB := Lib.hid hbel
        clear hOK hHX hbel hx
        subst hrt
        go_wp2
        go_ret
        exact ⟨by simp; try omega, HB.out⟩
end Go.Proofs.YtlicadaecfgklaaGreatDoor.blk

/- Chapter 6's model: ProgramOk, NextTask: what the plain relations say; nothing that was there is written. -/
namespace Go.Proofs.YtlicadaecfgklaaGreatDoor.prg
open Go Go.ChangeShapes Go.WideShapes Go.ChangeAt Go.RowKit Go.Proofs.YtlicadaecfgklaaGreatDoor.row Go.Proofs.YtlicadaecfgklaaGreatDoor.val Go.Proofs.YtlicadaecfgklaaGreatDoor.expr Go.Proofs.YtlicadaecfgklaaGreatDoor.stm Go.Proofs.YtlicadaecfgklaaGreatDoor.blk

/-- Each task ahead of 'k' is valid. -/
def OkTasks (P : List Tk) (k : Nat) : Prop := ∀ j t, j < k → P[j]? = some t → IsBlk t.b ∧ exprOk t.o t.x t.y = true
theorem OkTasks.zero (P : List Tk) : OkTasks P 0 := fun j t h => by omega
theorem OkTasks.next {P : List Tk} {k : Nat} {t : Tk} (h : OkTasks P k) (ht : P[k]? = some t) (hb : IsBlk t.b) (he : exprOk t.o t.x t.y = true) : OkTasks P (k + 1) := fun j t' hj ht' => by
  by_cases e : j = k
  · subst e; rw [ht] at ht'; cases ht'; exact ⟨hb, he⟩
  · exact h j t' (by omega) ht'
theorem isPrg_iff {P : List Tk} : IsPrg P ↔ (1 ≤ P.length ∧ P.length ≤ 6) ∧ OkTasks P P.length := by
  refine ⟨fun h => ⟨⟨h.1, h.2.1⟩, fun j t _ ht => h.2.2 t (mem_at ht)⟩, fun h => ⟨h.1.1, h.1.2, fun t ht => ?_⟩⟩
  obtain ⟨j, hj⟩ := List.mem_iff_getElem?.1 ht
  exact h.2 j t (List.getElem?_eq_some_iff.1 hj).1 hj
theorem not_prg {P : List Tk} {k : Nat} {t : Tk} (ht : P[k]? = some t) (h : ¬ IsBlk t.b ∨ exprOk t.o t.x t.y = false) : ¬ IsPrg P := fun hp => by
  have := hp.2.2 t (mem_at ht)
  rcases h with h | h
  · exact h this.1
  · rw [h] at this; exact absurd this.2 (by decide)
theorem prg_dec (P : List Tk) : ∃ r : Bool, r = true ↔ IsPrg P := by
  rcases Classical.em (IsPrg P) with h | h
  · exact ⟨true, fun _ => h, fun _ => rfl⟩
  · exact ⟨false, fun e => (by cases e), fun e => absurd e h⟩
/-- The program's argument: its block, and what lies behind. -/
abbrev PrgW (w W : World) (a : Option Addr) (n cap : Nat) (P : List Tk) : Prop :=
  W.cell? ⟨w.heap.size, 0, none⟩ = some (.slice a n cap) ∧ TkRow W a n P ∧ Below w.heap.size w W ∧ W.heap.size = w.heap.size + 1
theorem prgW_new (w : World) (a : Option Addr) (n cap : Nat) (P : List Tk) (t : TypeId) (h : TkRow w a n P) : PrgW w (w.alloc (.cells #[.slice a n cap] t)) a n cap P :=
  ⟨(Box.new w #[.slice a n cap] t).cell 0, h.below (below_new w _), below_new w _, by simp⟩
set_option maxHeartbeats 4000000 in
set_option maxRecDepth 100000 in
theorem spec_programok (a : Option Addr) (n cap : Nat) (P : List Tk) (hz : Sizes P) (w : World) (h : TkRow w a n P) (r : Bool) (hr : r = true ↔ IsPrg P) :
    Calls Tryz.prog 68 #[.agg #[.slice a n cap]] w (BelB w r) := by
  obtain ⟨W, hW⟩ : ∃ W, W = w.alloc (.cells #[.slice a n cap] 26) := ⟨_, rfl⟩
  have HP := Lib.hid (show PrgW w W a n cap P from by rw [hW]; exact prgW_new w a n cap P _ h)
  have HW := Lib.hid hW.symm
  have HR := Lib.hid hr
  have HZ := Lib.hid hz
  have hlen := h.1
  have hn : (n : Int) ≤ 1048576 := by have := hz.1; omega
  have HLN := Lib.hid hlen
  have hwl : w.heap.size < W.heap.size := by rw [hW]; simp
  clear h hr hz hW hlen
  go_enter Tryz.func68, Tryz.ntmps68
  go_wp2
  rw [HW.out]
  go_loopw [3] (fun i wr => ∃ k : Nat, k ≤ n ∧ i = .int .i64 k ∧ Hid (OkTasks P k) ∧ Below W.heap.size W wr) (fun i _ => n - (intOf i).toNat)
  case atStart => exact ⟨0, Nat.zero_le _, rfl, OkTasks.zero P, Below.refl _ _⟩
  case round =>
    obtain ⟨k, hk, rfl, hO, hbel⟩ := hrel
    have c0 : wr.cell? ⟨w.heap.size, 0, none⟩ = some (.slice a n cap) := (hbel.cell (p := ⟨w.heap.size, 0, none⟩) hwl).trans HP.out.1
    by_cases hlt : k < n
    · obtain ⟨g, off, t, rfl, hlb, ht, ab, nb, cb, hrg, hbc, hrow⟩ := (HP.out.2.1.below hbel).2 k hlt
      have hI : (k : Int) < n := by omega
      have hnb : (nb : Int) ≤ 1048576 := by have := HZ.out.2 t (mem_at ht); rw [hrow.1] at this; omega
      have q0 := (range4 hrg).1
      have HT := Lib.hid (And.intro ht (And.intro hrow (And.intro hbel hrg)))
      have hwl2 := Nat.lt_of_lt_of_le hwl hbel.size
      clear ht hrow hrg
      obtain ⟨rb, hrb⟩ := blk_dec t.b
      have HRB := Lib.hid hrb
      clear hbel
      cases rb
      · have hrf : r = false := by
          rw [← Bool.not_eq_true]; intro e; exact not_prg HT.out.1 (.inl (fun hb => by have := hrb.2 hb; cases this)) (HR.out.1 e)
        clear hrb
        subst hrf
        go_wp2_with (go_at_call 115; (with_reducible refine (spec_blockok ab nb cb t.b hnb _ HT.out.2.1 false HRB.out).mono ?_); rintro e w2 ⟨rfl, hb2⟩)
        go_ret
        exact ⟨rfl, HP.out.2.2.1.trans ((below_then HT.out.2.2.1 hb2).mono (Nat.le_of_lt hwl))⟩
      · have HBK := Lib.hid (hrb.1 rfl)
        clear hrb
        go_wp2_with (go_at_call 115; (with_reducible refine (spec_blockok ab nb cb t.b hnb _ HT.out.2.1 true HRB.out).mono ?_); rintro e w2 ⟨rfl, hb2⟩; refine Hid.out ?_)
        have d0 : w2.cell? ⟨w.heap.size, 0, none⟩ = some (.slice (some ⟨g, off, none⟩) n cap) := (hb2.cell (p := ⟨w.heap.size, 0, none⟩) hwl2).trans c0
        have d := held4o hb2 hlb (range4 HT.out.2.2.2)
        have d1 := d.2.1
        have d2 := d.2.2.1
        have d3 := d.2.2.2
        have HB2 := Lib.hid (below_then HT.out.2.2.1 hb2)
        clear hb2 d
        cases he : exprOk t.o t.x t.y
        · have hrf : r = false := by
            rw [← Bool.not_eq_true]; intro e; exact not_prg HT.out.1 (.inr he) (HR.out.1 e)
          have HE := Lib.hid he
          clear he
          subst hrf
          refine Lib.hid ?_
          go_wp2_with (go_at_call 116; (with_reducible refine (spec_exprok t.o t.x t.y false HE.out _).mono ?_); rintro e w3 ⟨rfl, hb3⟩)
          go_ret
          exact ⟨rfl, HP.out.2.2.1.trans ((below_then HB2.out hb3).mono (Nat.le_of_lt hwl))⟩
        · have HE := Lib.hid he
          clear he
          refine Lib.hid ?_
          go_wp2_with (go_at_call 116; (with_reducible refine (spec_exprok t.o t.x t.y true HE.out _).mono ?_); rintro e w3 ⟨rfl, hb3⟩; refine Hid.out ?_)
          have HB3 := Lib.hid (below_then HB2.out hb3)
          clear hb3
          refine Lib.hid ?_
          go_wp2
          go_roundw
          case rel => exact ⟨k + 1, by omega, by go_num, hO.out.next HT.out.1 HBK.out HE.out, HB3.out⟩
          case measure => simp [intOf]; omega
    · obtain rfl : k = n := by omega
      have hI : ¬ (k : Int) < k := by omega
      have HBB := Lib.hid hbel
      have hlk := HLN.out
      have HIN := Lib.hid (show (decide ((1 : Int) ≤ k) && decide ((k : Int) ≤ 6)) = r by
        have h1 := isPrg_iff (P := P)
        rw [hlk] at h1
        have h2 := HR.out
        cases r
        · simp only [Bool.and_eq_false_iff, decide_eq_false_iff_not]
          rcases (show ¬ (1 : Int) ≤ k ∨ ¬ (k : Int) ≤ 6 ∨ (1 ≤ k ∧ k ≤ 6) by omega) with h | h | h
          · exact .inl h
          · exact .inr h
          · have := h2.2 (h1.2 ⟨h, hO.out⟩); cases this
        · have := (h1.1 (h2.1 rfl)).1
          simp; omega)
      clear hbel hlk
      go_wp2_with (go_at_call 70; (with_reducible refine (in_any _ 1 6 _ HIN.out _).mono ?_); rintro e w3 ⟨rfl, rfl⟩)
      go_ret
      exact ⟨rfl, HP.out.2.2.1.trans (HBB.out.mono (Nat.le_of_lt hwl))⟩
/-- The remainder from 0 on. -/
def nx (v : Int) (n : Nat) : Int := if v.tmod n < 0 then v.tmod n + n else v.tmod n
theorem tmod_bds {v : Int} {n : Nat} (hn : 0 < n) : -(n : Int) < v.tmod n ∧ v.tmod n < n := ⟨Int.lt_tmod_of_pos v (by omega), Int.tmod_lt_of_pos v (by omega)⟩
theorem nx_range {v : Int} {n : Nat} (hn : 0 < n) : 0 ≤ nx v n ∧ nx v n < n := by
  have := tmod_bds (v := v) hn
  unfold nx; split <;> omega
theorem nx_emod {v : Int} {n : Nat} (hn : 0 < n) : nx v n = v % (n : Int) := by
  have h1 := nx_range (v := v) hn
  have h2 : nx v n = (nx v n) % (n : Int) := (Int.emod_eq_of_lt h1.1 h1.2).symm
  rw [h2]
  have h3 : v = (n : Int) * v.tdiv n + v.tmod n := (Int.mul_tdiv_add_tmod v n).symm
  unfold nx
  split
  · rw [Int.add_emod_right]; conv => rhs; rw [h3]
    rw [Int.add_comm, Int.add_mul_emod_self_left]
  · conv => rhs; rw [h3]
    rw [Int.add_comm, Int.add_mul_emod_self_left]
/-- What NextTask must give. -/
def NextIs (P : List Tk) (V : List Int) (i x : Int) : Prop :=
  (∃ (j : Nat) (t : Tk), i = j ∧ P[j]? = some t ∧ IsPrg P ∧ varsOk V = true ∧ x = nx (evalV V t.o t.x t.y) P.length) ∨ (x = -1 ∧ (¬ IsPrg P ∨ varsOk V = false ∨ i < 0 ∨ (P.length : Int) ≤ i))
theorem nextIs_ex (P : List Tk) (V : List Int) (i : Int) : ∃ x, NextIs P V i x := by
  rcases Classical.em (IsPrg P) with hp | hp
  · cases hv : varsOk V
    · exact ⟨-1, .inr ⟨rfl, .inr (.inl hv)⟩⟩
    · rcases (show i < 0 ∨ (P.length : Int) ≤ i ∨ (0 ≤ i ∧ i < P.length) by omega) with h | h | h
      · exact ⟨-1, .inr ⟨rfl, .inr (.inr (.inl h))⟩⟩
      · exact ⟨-1, .inr ⟨rfl, .inr (.inr (.inr h))⟩⟩
      · obtain ⟨j, rfl⟩ : ∃ j : Nat, i = j := ⟨i.toNat, by omega⟩
        obtain ⟨t, ht⟩ := prg_at (show j < P.length by omega)
        exact ⟨_, .inl ⟨j, t, rfl, ht, hp, hv, rfl⟩⟩
  · exact ⟨-1, .inr ⟨rfl, .inl hp⟩⟩
theorem NextIs.not {P : List Tk} {V : List Int} {i x : Int} (h : NextIs P V i x) (hn : ¬ IsPrg P ∨ varsOk V = false ∨ i < 0 ∨ (P.length : Int) ≤ i) : x = -1 := by
  rcases h with ⟨j, t, rfl, ht, hp, hv, rfl⟩ | ⟨rfl, _⟩
  · have := (List.getElem?_eq_some_iff.1 ht).1
    rcases hn with h | h | h | h
    · exact absurd hp h
    · rw [h] at hv; cases hv
    · omega
    · omega
  · rfl
theorem NextIs.yes {P : List Tk} {V : List Int} {j : Nat} {x : Int} {t : Tk} (h : NextIs P V j x) (hp : IsPrg P) (hv : varsOk V = true) (ht : P[j]? = some t) : x = nx (evalV V t.o t.x t.y) P.length := by
  have := (List.getElem?_eq_some_iff.1 ht).1
  rcases h with ⟨j', t', hj, ht', _, _, rfl⟩ | ⟨_, h⟩
  · obtain rfl : j = j' := by omega
    rw [ht] at ht'; cases ht'; rfl
  · rcases h with h | h | h | h
    · exact absurd hp h
    · rw [h] at hv; cases hv
    · omega
    · omega
theorem ev_small (V : List Int) (o a b : Int) : -1000000 ≤ evalV V o a b ∧ evalV V o a b ≤ 1000000 := by
  have := evalV_val V o a b
  unfold isVal at this
  simp at this
  exact this
set_option maxHeartbeats 4000000 in
set_option maxRecDepth 100000 in
theorem spec_next (a : Option Addr) (n cap : Nat) (P : List Tk) (hz : Sizes P) (w : World) (h : TkRow w a n P) (ad : Option Addr) (nv cv : Nat) (V : List Int) (hV : Row w ad nv V) (hv : varsOk V = true) (j : Nat) (t : Tk) (ht : P[j]? = some t) (he : exprOk t.o t.x t.y = true) (X : Int) (hX : X = nx (evalV V t.o t.x t.y) n) :
    Calls Tryz.prog 119 #[.agg #[.slice a n cap], .slice ad nv cv, .int .i64 j] w (BelI w X) := by
  obtain ⟨W, hW⟩ : ∃ W, W = w.alloc (.cells #[.slice a n cap] 26) := ⟨_, rfl⟩
  have hpw : PrgW w W a n cap P := by rw [hW]; exact prgW_new w a n cap P _ h
  have hjn : j < n := by have := (List.getElem?_eq_some_iff.1 ht).1; have := h.1; omega
  have hn : (n : Int) ≤ 1048576 := by have := hz.1; have := h.1; omega
  obtain ⟨g, off, t', ha, hlb, ht', ab, nb, cb, hrg, hbc, hrow⟩ := hpw.2.1.2 j hjn
  obtain rfl : t' = t := by rw [ht] at ht'; exact (Option.some.inj ht').symm
  subst ha
  obtain ⟨v, hvv⟩ : ∃ v, evalV V t'.o t'.x t'.y = v := ⟨_, rfl⟩
  have hsm := ev_small V t'.o t'.x t'.y
  rw [hvv] at hsm hX
  have HV := Lib.hid (show evalOf t'.o (Go.Proofs.YtlicadaecfgklaaGreatDoor.expr.valOf V t'.x) (Go.Proofs.YtlicadaecfgklaaGreatDoor.expr.valOf V t'.y) = v by rw [← evalV_ok hv he]; exact hvv)
  have HVR := Lib.hid (And.intro (hV.below hpw.2.2.1) hv)
  have HEX := Lib.hid ((exprOk_iff _ _ _).1 he)
  have hwl : w.heap.size < W.heap.size := by rw [hW]; simp
  have hbx : Box w.heap.size #[.slice (some ⟨g, off, none⟩) n cap] 26 W := by rw [hW]; exact Box.new _ _ _
  have c0 : W.drew.cell? ⟨w.heap.size, 0, none⟩ = some (.slice (some ⟨g, off, none⟩) n cap) := hpw.1
  have c0' : W.cell? ⟨w.heap.size, 0, none⟩ = some (.slice (some ⟨g, off, none⟩) n cap) := hpw.1
  have q := range4 hrg
  have q1 : W.drew.cell? ⟨g, off + j * 4 + 1, none⟩ = some (.int .i64 t'.o) := q.2.1
  have q2 : W.drew.cell? ⟨g, off + j * 4 + 2, none⟩ = some (.int .i64 t'.x) := q.2.2.1
  have q3 : W.drew.cell? ⟨g, off + j * 4 + 3, none⟩ = some (.int .i64 t'.y) := q.2.2.2
  have HX := Lib.hid hX
  have HW := Lib.hid hW.symm
  have HBW := Lib.hid hpw.2.2.1
  have hI : (j : Int) < n := by omega
  have hnz : (n == 0) = false := by rw [beq_eq_false_iff_ne]; omega
  have hnz2 : ¬ n = 0 := by omega
  have hnz3 : ((n : Int) == 0) = false := by rw [beq_eq_false_iff_ne]; omega
  have hwt : IntKind.i64.wrap (v.tmod n) = v.tmod n := IntWalk.i64_in _ (by have := tmod_bds (v := v) (show 0 < n by omega); omega)
  have htm := tmod_bds (v := v) (show 0 < n by omega)
  have htm0 := htm.1
  have htm1 := htm.2
  have hv0 := hsm.1
  have hv1 := hsm.2
  clear hpw h hV hv ht ht' he hvv hsm q hrg hrow hX hW htm hbx hbc
  go_enter Tryz.func119, Tryz.ntmps119
  go_wp2
  rw [HW.out]
  go_region_held3 (fun w' => w'.cell? ⟨w.heap.size, 0, none⟩ = some (.slice (some ⟨g, off, none⟩) n cap) ∧ w'.cell? ⟨g, off + j * 4 + 1, none⟩ = some (.int .i64 t'.o) ∧ w'.cell? ⟨g, off + j * 4 + 2, none⟩ = some (.int .i64 t'.x) ∧ w'.cell? ⟨g, off + j * 4 + 3, none⟩ = some (.int .i64 t'.y))
    (first | (exact ⟨c0, q1, q2, q3⟩) | (exact ⟨(drew_below hb2).cell (p := ⟨w.heap.size, 0, none⟩) hwl |>.trans c0, (drew_below hb2).cell (p := ⟨g, off + j * 4 + 1, none⟩) hlb |>.trans q1, (drew_below hb2).cell (p := ⟨g, off + j * 4 + 2, none⟩) hlb |>.trans q2, (drew_below hb2).cell (p := ⟨g, off + j * 4 + 3, none⟩) hlb |>.trans q3⟩))
    (first
      | (go_at_call 157; refine (spec_eval _ ad nv cv V (HVR.out.1.below (Below.drew (Below.refl _ W))) HVR.out.2 t'.o t'.x t'.y HEX.out.1 HEX.out.2.1 HEX.out.2.2).mono ?_; rw [HV.out]; rintro e w2 ⟨rfl, hb2⟩))
  have HB2 := Lib.hid (HBW.out.trans ((drew_below hb2).mono HBW.out.size))
  have d0 : w2.cell? ⟨w.heap.size, 0, none⟩ = some (.slice (some ⟨g, off, none⟩) n cap) := ((drew_below hb2).cell (p := ⟨w.heap.size, 0, none⟩) hwl).trans c0'
  clear hb2 c0 q1 q2 q3 c0'
  by_cases hneg : v.tmod n < 0
  · have HN := Lib.hid (show X = v.tmod n + n by rw [HX.out]; unfold nx; rw [if_pos hneg])
    refine Lib.hid ?_
    go_wp2
    go_ret
    exact ⟨by rw [HN.out]; rfl, HB2.out⟩
  · have HN := Lib.hid (show X = v.tmod n by rw [HX.out]; unfold nx; rw [if_neg hneg])
    refine Lib.hid ?_
    go_wp2
    go_ret
    exact ⟨by rw [HN.out]; rfl, HB2.out⟩
end Go.Proofs.YtlicadaecfgklaaGreatDoor.prg
