/- Several texts in one: VExeB VStmW VBlkS. -/
import Derived.Test.YtmgeecdgebemdaaGreatDoorGSigV6
import Derived.Test.YtmgeecdgebemdaaGreatDoorGSigV1
import Derived.Test.YtmgeecdgebemdaaGreatDoorGSigV2
import Derived.Test.YtmgeecdgebemdaaGreatDoorGSigV3

/- Executions from two states that agree on what is read: they send and sense the same, and agree on what is certainly written. Plain mathematics. -/
namespace Go.Proofs.YtmgeecdgebemdaaGreatDoor.exe
open Go Go.Proofs.YtmgeecdgebemdaaGreatDoor.stm Go.Proofs.YtmgeecdgebemdaaGreatDoor.blk Go.Proofs.YtmgeecdgebemdaaGreatDoor.expr Go.Proofs.YtmgeecdgebemdaaGreatDoor.sets Go.Proofs.YtmgeecdgebemdaaGreatDoor.val
/-! The tree and the places of the block. -/
theorem wrAt_iff {L : List Sm} {a v : Nat} {s : Sm} (hs : L[a]? = some s) : WrAt L a v ↔ wr s ∧ s.v = v :=
  ⟨fun ⟨t, ht, h⟩ => by rw [hs] at ht; cases ht; exact h, fun h => ⟨s, hs, h⟩⟩
end Go.Proofs.YtmgeecdgebemdaaGreatDoor.exe

/- Chapter 4's StmtOk of the model: what the plain function says, for every statement; nothing that was there is written. -/
namespace Go.Proofs.YtmgeecdgebemdaaGreatDoor.stm
open Go.ChangeShapes Go.WideShapes Go.ChangeAt Go.RowKit Go.Proofs.YtmgeecdgebemdaaGreatDoor.row Go.Proofs.YtmgeecdgebemdaaGreatDoor.val Go.Proofs.YtmgeecdgebemdaaGreatDoor.expr
set_option maxHeartbeats 1000000 in
theorem spec_stmtok1n (v n o a b : Int) (hqb : eqSt ⟨1, v, n, o, a, b⟩ ⟨1, v, 0, o, a, b⟩ = false) (w : World) : Calls Tryz.prog 197 #[stV ⟨1, v, n, o, a, b⟩] w (BelB w false) := by
  have hp : Hid (plain ⟨1, v, n, o, a, b⟩ = ⟨1, v, 0, o, a, b⟩) := rfl
  have hq := run_eqSt ⟨1, v, n, o, a, b⟩ ⟨1, v, 0, o, a, b⟩
  go_enter Tryz.func197, Tryz.ntmps197
  go_wp2
  go_region_held3 (fun w' => w'.cell? ⟨w.heap.size, 0, none⟩ = some (.int .i64 1) ∧ w'.cell? ⟨w.heap.size, 1, none⟩ = some (.int .i64 v) ∧ w'.cell? ⟨w.heap.size, 2, none⟩ = some (.int .i64 n) ∧ w'.cell? ⟨w.heap.size, 3, none⟩ = some (.int .i64 o) ∧ w'.cell? ⟨w.heap.size, 4, none⟩ = some (.int .i64 a) ∧ w'.cell? ⟨w.heap.size, 5, none⟩ = some (.int .i64 b))
    (first | go_keep | (exact held6 (by assumption) (by simp) (by assumption)))
    (first | (go_at_call 233; refine (spec_plain ⟨1, v, n, o, a, b⟩ _).mono ?_; rw [hp.out]; rintro e w1 ⟨rfl, hb1⟩))
  have HB := Lib.hid (below_then (below_new w _) (drew_below hb1))
  clear hb1
  go_wp2
  go_ret
  exact ⟨rfl, HB.out⟩
set_option maxHeartbeats 2000000 in
theorem spec_stmtok1y (v o a b : Int) (w : World) : Calls Tryz.prog 197 #[stV ⟨1, v, 0, o, a, b⟩] w (BelB w (stOk ⟨1, v, 0, o, a, b⟩)) := by
  cases hv : varOk v <;> cases he : exprOk o a b
  all_goals
    have HE := Lib.hid (stOk1 v o a b)
    rw [hv, he] at HE
    have HV := Lib.hid (show (decide (0 ≤ v) && decide (v ≤ 7)) = _ from hv)
    clear hv
    have hp : Hid (plain ⟨1, v, 0, o, a, b⟩ = ⟨1, v, 0, o, a, b⟩) := rfl
    have hqb : eqSt ⟨1, v, 0, o, a, b⟩ ⟨1, v, 0, o, a, b⟩ = true := by simp [eqSt]
    have hq := run_eqSt ⟨1, v, 0, o, a, b⟩ ⟨1, v, 0, o, a, b⟩
    go_enter Tryz.func197, Tryz.ntmps197
    go_wp2
    go_region_held3 (fun w' => w'.cell? ⟨w.heap.size, 0, none⟩ = some (.int .i64 1) ∧ w'.cell? ⟨w.heap.size, 1, none⟩ = some (.int .i64 v) ∧ w'.cell? ⟨w.heap.size, 2, none⟩ = some (.int .i64 0) ∧ w'.cell? ⟨w.heap.size, 3, none⟩ = some (.int .i64 o) ∧ w'.cell? ⟨w.heap.size, 4, none⟩ = some (.int .i64 a) ∧ w'.cell? ⟨w.heap.size, 5, none⟩ = some (.int .i64 b))
      (first | go_keep | (exact held6 (by assumption) (by simp) (by assumption)))
      (first | (go_at_call 233; refine (spec_plain ⟨1, v, 0, o, a, b⟩ _).mono ?_; rw [hp.out]; rintro e w1 ⟨rfl, hb1⟩))
    have HB := Lib.hid (below_then (below_new w _) (drew_below hb1))
    clear hb1
    go_wp2_with (first
      | (go_at_call 63; (with_reducible refine (in_any v 0 7 _ HV.out _).mono ?_); rintro e w2 ⟨rfl, rfl⟩)
      | (go_at_call 151; refine (spec_exprok _ _ _ _ he _).mono ?_; rintro e w3 ⟨rfl, hb3⟩))
    go_ret
    first
      | exact ⟨by rw [HE.out]; rfl, HB.out⟩
      | exact ⟨by rw [HE.out]; rfl, below_then HB.out hb3⟩
set_option maxHeartbeats 1000000 in
theorem spec_stmtok2n (v n o a b : Int) (hqb : eqSt ⟨2, v, n, o, a, b⟩ ⟨2, v, n, 0, 0, 0⟩ = false) (w : World) : Calls Tryz.prog 197 #[stV ⟨2, v, n, o, a, b⟩] w (BelB w false) := by
  have hp : Hid (plain ⟨2, v, n, o, a, b⟩ = ⟨2, v, n, 0, 0, 0⟩) := rfl
  have hq := run_eqSt ⟨2, v, n, o, a, b⟩ ⟨2, v, n, 0, 0, 0⟩
  go_enter Tryz.func197, Tryz.ntmps197
  go_wp2
  go_region_held3 (fun w' => w'.cell? ⟨w.heap.size, 0, none⟩ = some (.int .i64 2) ∧ w'.cell? ⟨w.heap.size, 1, none⟩ = some (.int .i64 v) ∧ w'.cell? ⟨w.heap.size, 2, none⟩ = some (.int .i64 n) ∧ w'.cell? ⟨w.heap.size, 3, none⟩ = some (.int .i64 o) ∧ w'.cell? ⟨w.heap.size, 4, none⟩ = some (.int .i64 a) ∧ w'.cell? ⟨w.heap.size, 5, none⟩ = some (.int .i64 b))
    (first | go_keep | (exact held6 (by assumption) (by simp) (by assumption)))
    (first | (go_at_call 233; refine (spec_plain ⟨2, v, n, o, a, b⟩ _).mono ?_; rw [hp.out]; rintro e w1 ⟨rfl, hb1⟩))
  have HB := Lib.hid (below_then (below_new w _) (drew_below hb1))
  clear hb1
  go_wp2
  go_ret
  exact ⟨rfl, HB.out⟩
set_option maxHeartbeats 2000000 in
theorem spec_stmtok2y (v n : Int) (w : World) : Calls Tryz.prog 197 #[stV ⟨2, v, n, 0, 0, 0⟩] w (BelB w (stOk ⟨2, v, n, 0, 0, 0⟩)) := by
  cases hv : varOk v <;> cases he : (decide (0 ≤ n) && decide (n ≤ 3))
  all_goals
    have HE := Lib.hid (stOk2 v n)
    rw [hv, he] at HE
    have HV := Lib.hid (show (decide (0 ≤ v) && decide (v ≤ 7)) = _ from hv)
    clear hv
    have hp : Hid (plain ⟨2, v, n, 0, 0, 0⟩ = ⟨2, v, n, 0, 0, 0⟩) := rfl
    have hqb : eqSt ⟨2, v, n, 0, 0, 0⟩ ⟨2, v, n, 0, 0, 0⟩ = true := by simp [eqSt]
    have hq := run_eqSt ⟨2, v, n, 0, 0, 0⟩ ⟨2, v, n, 0, 0, 0⟩
    go_enter Tryz.func197, Tryz.ntmps197
    go_wp2
    go_region_held3 (fun w' => w'.cell? ⟨w.heap.size, 0, none⟩ = some (.int .i64 2) ∧ w'.cell? ⟨w.heap.size, 1, none⟩ = some (.int .i64 v) ∧ w'.cell? ⟨w.heap.size, 2, none⟩ = some (.int .i64 n) ∧ w'.cell? ⟨w.heap.size, 3, none⟩ = some (.int .i64 0) ∧ w'.cell? ⟨w.heap.size, 4, none⟩ = some (.int .i64 0) ∧ w'.cell? ⟨w.heap.size, 5, none⟩ = some (.int .i64 0))
      (first | go_keep | (exact held6 (by assumption) (by simp) (by assumption)))
      (first | (go_at_call 233; refine (spec_plain ⟨2, v, n, 0, 0, 0⟩ _).mono ?_; rw [hp.out]; rintro e w1 ⟨rfl, hb1⟩))
    have HB := Lib.hid (below_then (below_new w _) (drew_below hb1))
    clear hb1
    go_wp2_with (first
      | (go_at_call 63; (with_reducible refine (in_any v 0 7 _ HV.out _).mono ?_); rintro e w2 ⟨rfl, rfl⟩)
      | (go_at_call 63; (with_reducible refine (in_any n 0 3 _ he _).mono ?_); rintro e w2 ⟨rfl, rfl⟩))
    go_ret
    first
      | exact ⟨by rw [HE.out]; rfl, HB.out⟩
      | exact ⟨by rw [HE.out]; rfl, below_then HB.out hb3⟩
set_option maxHeartbeats 1000000 in
theorem spec_stmtok3n (v n o a b : Int) (hqb : eqSt ⟨3, v, n, o, a, b⟩ ⟨3, 0, 0, o, a, b⟩ = false) (w : World) : Calls Tryz.prog 197 #[stV ⟨3, v, n, o, a, b⟩] w (BelB w false) := by
  have hp : Hid (plain ⟨3, v, n, o, a, b⟩ = ⟨3, 0, 0, o, a, b⟩) := rfl
  have hq := run_eqSt ⟨3, v, n, o, a, b⟩ ⟨3, 0, 0, o, a, b⟩
  go_enter Tryz.func197, Tryz.ntmps197
  go_wp2
  go_region_held3 (fun w' => w'.cell? ⟨w.heap.size, 0, none⟩ = some (.int .i64 3) ∧ w'.cell? ⟨w.heap.size, 1, none⟩ = some (.int .i64 v) ∧ w'.cell? ⟨w.heap.size, 2, none⟩ = some (.int .i64 n) ∧ w'.cell? ⟨w.heap.size, 3, none⟩ = some (.int .i64 o) ∧ w'.cell? ⟨w.heap.size, 4, none⟩ = some (.int .i64 a) ∧ w'.cell? ⟨w.heap.size, 5, none⟩ = some (.int .i64 b))
    (first | go_keep | (exact held6 (by assumption) (by simp) (by assumption)))
    (first | (go_at_call 233; refine (spec_plain ⟨3, v, n, o, a, b⟩ _).mono ?_; rw [hp.out]; rintro e w1 ⟨rfl, hb1⟩))
  have HB := Lib.hid (below_then (below_new w _) (drew_below hb1))
  clear hb1
  go_wp2
  go_ret
  exact ⟨rfl, HB.out⟩
set_option maxHeartbeats 2000000 in
theorem spec_stmtok3y (o a b : Int) (w : World) : Calls Tryz.prog 197 #[stV ⟨3, 0, 0, o, a, b⟩] w (BelB w (stOk ⟨3, 0, 0, o, a, b⟩)) := by
  cases he : exprOk o a b
  all_goals
    have HE := Lib.hid (stOk3 o a b)
    rw [he] at HE
    have hp : Hid (plain ⟨3, 0, 0, o, a, b⟩ = ⟨3, 0, 0, o, a, b⟩) := rfl
    have hqb : eqSt ⟨3, 0, 0, o, a, b⟩ ⟨3, 0, 0, o, a, b⟩ = true := by simp [eqSt]
    have hq := run_eqSt ⟨3, 0, 0, o, a, b⟩ ⟨3, 0, 0, o, a, b⟩
    go_enter Tryz.func197, Tryz.ntmps197
    go_wp2
    go_region_held3 (fun w' => w'.cell? ⟨w.heap.size, 0, none⟩ = some (.int .i64 3) ∧ w'.cell? ⟨w.heap.size, 1, none⟩ = some (.int .i64 0) ∧ w'.cell? ⟨w.heap.size, 2, none⟩ = some (.int .i64 0) ∧ w'.cell? ⟨w.heap.size, 3, none⟩ = some (.int .i64 o) ∧ w'.cell? ⟨w.heap.size, 4, none⟩ = some (.int .i64 a) ∧ w'.cell? ⟨w.heap.size, 5, none⟩ = some (.int .i64 b))
      (first | go_keep | (exact held6 (by assumption) (by simp) (by assumption)))
      (first | (go_at_call 233; refine (spec_plain ⟨3, 0, 0, o, a, b⟩ _).mono ?_; rw [hp.out]; rintro e w1 ⟨rfl, hb1⟩))
    have HB := Lib.hid (below_then (below_new w _) (drew_below hb1))
    clear hb1
    go_wp2_with (first
      | (go_at_call 151; refine (spec_exprok _ _ _ _ he _).mono ?_; rintro e w3 ⟨rfl, hb3⟩))
    go_ret
    first
      | exact ⟨by rw [HE.out]; rfl, HB.out⟩
      | exact ⟨by rw [HE.out]; rfl, below_then HB.out hb3⟩
set_option maxHeartbeats 1000000 in
theorem spec_stmtok4n (v n o a b : Int) (hqb : eqSt ⟨4, v, n, o, a, b⟩ ⟨4, 0, 0, o, a, b⟩ = false) (w : World) : Calls Tryz.prog 197 #[stV ⟨4, v, n, o, a, b⟩] w (BelB w false) := by
  have hp : Hid (plain ⟨4, v, n, o, a, b⟩ = ⟨4, 0, 0, o, a, b⟩) := rfl
  have hq := run_eqSt ⟨4, v, n, o, a, b⟩ ⟨4, 0, 0, o, a, b⟩
  go_enter Tryz.func197, Tryz.ntmps197
  go_wp2
  go_region_held3 (fun w' => w'.cell? ⟨w.heap.size, 0, none⟩ = some (.int .i64 4) ∧ w'.cell? ⟨w.heap.size, 1, none⟩ = some (.int .i64 v) ∧ w'.cell? ⟨w.heap.size, 2, none⟩ = some (.int .i64 n) ∧ w'.cell? ⟨w.heap.size, 3, none⟩ = some (.int .i64 o) ∧ w'.cell? ⟨w.heap.size, 4, none⟩ = some (.int .i64 a) ∧ w'.cell? ⟨w.heap.size, 5, none⟩ = some (.int .i64 b))
    (first | go_keep | (exact held6 (by assumption) (by simp) (by assumption)))
    (first | (go_at_call 233; refine (spec_plain ⟨4, v, n, o, a, b⟩ _).mono ?_; rw [hp.out]; rintro e w1 ⟨rfl, hb1⟩))
  have HB := Lib.hid (below_then (below_new w _) (drew_below hb1))
  clear hb1
  go_wp2
  go_ret
  exact ⟨rfl, HB.out⟩
set_option maxHeartbeats 2000000 in
theorem spec_stmtok4y (o a b : Int) (w : World) : Calls Tryz.prog 197 #[stV ⟨4, 0, 0, o, a, b⟩] w (BelB w (stOk ⟨4, 0, 0, o, a, b⟩)) := by
  cases he : exprOk o a b
  all_goals
    have HE := Lib.hid (stOk4 o a b)
    rw [he] at HE
    have hp : Hid (plain ⟨4, 0, 0, o, a, b⟩ = ⟨4, 0, 0, o, a, b⟩) := rfl
    have hqb : eqSt ⟨4, 0, 0, o, a, b⟩ ⟨4, 0, 0, o, a, b⟩ = true := by simp [eqSt]
    have hq := run_eqSt ⟨4, 0, 0, o, a, b⟩ ⟨4, 0, 0, o, a, b⟩
    go_enter Tryz.func197, Tryz.ntmps197
    go_wp2
    go_region_held3 (fun w' => w'.cell? ⟨w.heap.size, 0, none⟩ = some (.int .i64 4) ∧ w'.cell? ⟨w.heap.size, 1, none⟩ = some (.int .i64 0) ∧ w'.cell? ⟨w.heap.size, 2, none⟩ = some (.int .i64 0) ∧ w'.cell? ⟨w.heap.size, 3, none⟩ = some (.int .i64 o) ∧ w'.cell? ⟨w.heap.size, 4, none⟩ = some (.int .i64 a) ∧ w'.cell? ⟨w.heap.size, 5, none⟩ = some (.int .i64 b))
      (first | go_keep | (exact held6 (by assumption) (by simp) (by assumption)))
      (first | (go_at_call 233; refine (spec_plain ⟨4, 0, 0, o, a, b⟩ _).mono ?_; rw [hp.out]; rintro e w1 ⟨rfl, hb1⟩))
    have HB := Lib.hid (below_then (below_new w _) (drew_below hb1))
    clear hb1
    go_wp2_with (first
      | (go_at_call 151; refine (spec_exprok _ _ _ _ he _).mono ?_; rintro e w3 ⟨rfl, hb3⟩))
    go_ret
    first
      | exact ⟨by rw [HE.out]; rfl, HB.out⟩
      | exact ⟨by rw [HE.out]; rfl, below_then HB.out hb3⟩
set_option maxHeartbeats 1000000 in
theorem spec_stmtok5n (v n o a b : Int) (hqb : eqSt ⟨5, v, n, o, a, b⟩ ⟨5, 0, n, 0, 0, 0⟩ = false) (w : World) : Calls Tryz.prog 197 #[stV ⟨5, v, n, o, a, b⟩] w (BelB w false) := by
  have hp : Hid (plain ⟨5, v, n, o, a, b⟩ = ⟨5, 0, n, 0, 0, 0⟩) := rfl
  have hq := run_eqSt ⟨5, v, n, o, a, b⟩ ⟨5, 0, n, 0, 0, 0⟩
  go_enter Tryz.func197, Tryz.ntmps197
  go_wp2
  go_region_held3 (fun w' => w'.cell? ⟨w.heap.size, 0, none⟩ = some (.int .i64 5) ∧ w'.cell? ⟨w.heap.size, 1, none⟩ = some (.int .i64 v) ∧ w'.cell? ⟨w.heap.size, 2, none⟩ = some (.int .i64 n) ∧ w'.cell? ⟨w.heap.size, 3, none⟩ = some (.int .i64 o) ∧ w'.cell? ⟨w.heap.size, 4, none⟩ = some (.int .i64 a) ∧ w'.cell? ⟨w.heap.size, 5, none⟩ = some (.int .i64 b))
    (first | go_keep | (exact held6 (by assumption) (by simp) (by assumption)))
    (first | (go_at_call 233; refine (spec_plain ⟨5, v, n, o, a, b⟩ _).mono ?_; rw [hp.out]; rintro e w1 ⟨rfl, hb1⟩))
  have HB := Lib.hid (below_then (below_new w _) (drew_below hb1))
  clear hb1
  go_wp2
  go_ret
  exact ⟨rfl, HB.out⟩
set_option maxHeartbeats 2000000 in
theorem spec_stmtok5y (n : Int) (w : World) : Calls Tryz.prog 197 #[stV ⟨5, 0, n, 0, 0, 0⟩] w (BelB w (stOk ⟨5, 0, n, 0, 0, 0⟩)) := by
  cases he : (decide (1 ≤ n) && decide (n ≤ 5))
  all_goals
    have HE := Lib.hid (stOk5 n)
    rw [he] at HE
    have hp : Hid (plain ⟨5, 0, n, 0, 0, 0⟩ = ⟨5, 0, n, 0, 0, 0⟩) := rfl
    have hqb : eqSt ⟨5, 0, n, 0, 0, 0⟩ ⟨5, 0, n, 0, 0, 0⟩ = true := by simp [eqSt]
    have hq := run_eqSt ⟨5, 0, n, 0, 0, 0⟩ ⟨5, 0, n, 0, 0, 0⟩
    go_enter Tryz.func197, Tryz.ntmps197
    go_wp2
    go_region_held3 (fun w' => w'.cell? ⟨w.heap.size, 0, none⟩ = some (.int .i64 5) ∧ w'.cell? ⟨w.heap.size, 1, none⟩ = some (.int .i64 0) ∧ w'.cell? ⟨w.heap.size, 2, none⟩ = some (.int .i64 n) ∧ w'.cell? ⟨w.heap.size, 3, none⟩ = some (.int .i64 0) ∧ w'.cell? ⟨w.heap.size, 4, none⟩ = some (.int .i64 0) ∧ w'.cell? ⟨w.heap.size, 5, none⟩ = some (.int .i64 0))
      (first | go_keep | (exact held6 (by assumption) (by simp) (by assumption)))
      (first | (go_at_call 233; refine (spec_plain ⟨5, 0, n, 0, 0, 0⟩ _).mono ?_; rw [hp.out]; rintro e w1 ⟨rfl, hb1⟩))
    have HB := Lib.hid (below_then (below_new w _) (drew_below hb1))
    clear hb1
    go_wp2_with (first
      | (go_at_call 63; (with_reducible refine (in_any n 1 5 _ he _).mono ?_); rintro e w2 ⟨rfl, rfl⟩))
    go_ret
    first
      | exact ⟨by rw [HE.out]; rfl, HB.out⟩
      | exact ⟨by rw [HE.out]; rfl, below_then HB.out hb3⟩
set_option maxHeartbeats 1000000 in
theorem spec_stmtok6n (v n o a b : Int) (hqb : eqSt ⟨6, v, n, o, a, b⟩ ⟨6, 0, 0, 0, 0, 0⟩ = false) (w : World) : Calls Tryz.prog 197 #[stV ⟨6, v, n, o, a, b⟩] w (BelB w false) := by
  have hp : Hid (plain ⟨6, v, n, o, a, b⟩ = ⟨6, 0, 0, 0, 0, 0⟩) := rfl
  have hq := run_eqSt ⟨6, v, n, o, a, b⟩ ⟨6, 0, 0, 0, 0, 0⟩
  go_enter Tryz.func197, Tryz.ntmps197
  go_wp2
  go_region_held3 (fun w' => w'.cell? ⟨w.heap.size, 0, none⟩ = some (.int .i64 6) ∧ w'.cell? ⟨w.heap.size, 1, none⟩ = some (.int .i64 v) ∧ w'.cell? ⟨w.heap.size, 2, none⟩ = some (.int .i64 n) ∧ w'.cell? ⟨w.heap.size, 3, none⟩ = some (.int .i64 o) ∧ w'.cell? ⟨w.heap.size, 4, none⟩ = some (.int .i64 a) ∧ w'.cell? ⟨w.heap.size, 5, none⟩ = some (.int .i64 b))
    (first | go_keep | (exact held6 (by assumption) (by simp) (by assumption)))
    (first | (go_at_call 233; refine (spec_plain ⟨6, v, n, o, a, b⟩ _).mono ?_; rw [hp.out]; rintro e w1 ⟨rfl, hb1⟩))
  have HB := Lib.hid (below_then (below_new w _) (drew_below hb1))
  clear hb1
  go_wp2
  go_ret
  exact ⟨rfl, HB.out⟩
set_option maxHeartbeats 2000000 in
theorem spec_stmtok6y (w : World) : Calls Tryz.prog 197 #[stV ⟨6, 0, 0, 0, 0, 0⟩] w (BelB w (stOk ⟨6, 0, 0, 0, 0, 0⟩)) := by
  have HE := Lib.hid stOk6
  have hp : Hid (plain ⟨6, 0, 0, 0, 0, 0⟩ = ⟨6, 0, 0, 0, 0, 0⟩) := rfl
  have hqb : eqSt ⟨6, 0, 0, 0, 0, 0⟩ ⟨6, 0, 0, 0, 0, 0⟩ = true := by simp [eqSt]
  have hq := run_eqSt ⟨6, 0, 0, 0, 0, 0⟩ ⟨6, 0, 0, 0, 0, 0⟩
  go_enter Tryz.func197, Tryz.ntmps197
  go_wp2
  go_region_held3 (fun w' => w'.cell? ⟨w.heap.size, 0, none⟩ = some (.int .i64 6) ∧ w'.cell? ⟨w.heap.size, 1, none⟩ = some (.int .i64 0) ∧ w'.cell? ⟨w.heap.size, 2, none⟩ = some (.int .i64 0) ∧ w'.cell? ⟨w.heap.size, 3, none⟩ = some (.int .i64 0) ∧ w'.cell? ⟨w.heap.size, 4, none⟩ = some (.int .i64 0) ∧ w'.cell? ⟨w.heap.size, 5, none⟩ = some (.int .i64 0))
    (first | go_keep | (exact held6 (by assumption) (by simp) (by assumption)))
    (first | (go_at_call 233; refine (spec_plain ⟨6, 0, 0, 0, 0, 0⟩ _).mono ?_; rw [hp.out]; rintro e w1 ⟨rfl, hb1⟩))
  have HB := Lib.hid (below_then (below_new w _) (drew_below hb1))
  clear hb1
  go_wp2
  go_ret
  first
    | exact ⟨by rw [HE.out]; rfl, HB.out⟩
    | exact ⟨by rw [HE.out]; rfl, below_then HB.out hb3⟩
set_option maxHeartbeats 2000000 in
theorem spec_stmtok7 (k v n o a b : Int) (h1 : (k == 1) = false) (h2 : (k == 2) = false) (h3 : (k == 3) = false) (h4 : (k == 4) = false) (h5 : (k == 5) = false) (h6 : (k == 6) = false) (w : World) : Calls Tryz.prog 197 #[stV ⟨k, v, n, o, a, b⟩] w (BelB w false) := by
  have hp := Lib.hid (plain_other (v := v) (n := n) (o := o) (a := a) (b := b) h1 h2 h3 h4 h5)
  have hq := run_eqSt ⟨k, v, n, o, a, b⟩ ⟨k, 0, 0, 0, 0, 0⟩
  cases hqb : eqSt ⟨k, v, n, o, a, b⟩ ⟨k, 0, 0, 0, 0, 0⟩
  all_goals
    go_enter Tryz.func197, Tryz.ntmps197
    go_wp2
    go_region_held3 (fun w' => w'.cell? ⟨w.heap.size, 0, none⟩ = some (.int .i64 k) ∧ w'.cell? ⟨w.heap.size, 1, none⟩ = some (.int .i64 v) ∧ w'.cell? ⟨w.heap.size, 2, none⟩ = some (.int .i64 n) ∧ w'.cell? ⟨w.heap.size, 3, none⟩ = some (.int .i64 o) ∧ w'.cell? ⟨w.heap.size, 4, none⟩ = some (.int .i64 a) ∧ w'.cell? ⟨w.heap.size, 5, none⟩ = some (.int .i64 b))
      (first | go_keep | (exact held6 (by assumption) (by simp) (by assumption)))
      (first | (go_at_call 233; refine (spec_plain ⟨k, v, n, o, a, b⟩ _).mono ?_; rw [hp.out]; rintro e w1 ⟨rfl, hb1⟩))
    have HB := Lib.hid (below_then (below_new w _) (drew_below hb1))
    clear hb1
    go_wp2
    go_ret
    exact ⟨rfl, HB.out⟩
theorem spec_stmtok (s : St) (r : Bool) (hr : stOk s = r) (w : World) : Calls Tryz.prog 197 #[stV s] w (BelB w r) := by
  subst hr
  obtain ⟨k, v, n, o, a, b⟩ := s
  rcases kinds k with rfl | rfl | rfl | rfl | rfl | rfl | ⟨h1, h2, h3, h4, h5, h6⟩
  · cases hqb : eqSt ⟨1, v, n, o, a, b⟩ ⟨1, v, 0, o, a, b⟩
    · rw [not_plain rfl hqb]; exact spec_stmtok1n v n o a b hqb w
    · obtain rfl : n = 0 := by simpa [eqSt] using hqb
      exact spec_stmtok1y v o a b w
  · cases hqb : eqSt ⟨2, v, n, o, a, b⟩ ⟨2, v, n, 0, 0, 0⟩
    · rw [not_plain rfl hqb]; exact spec_stmtok2n v n o a b hqb w
    · obtain ⟨rfl, rfl, rfl⟩ : o = 0 ∧ a = 0 ∧ b = 0 := by simpa [eqSt] using hqb
      exact spec_stmtok2y v n w
  · cases hqb : eqSt ⟨3, v, n, o, a, b⟩ ⟨3, 0, 0, o, a, b⟩
    · rw [not_plain rfl hqb]; exact spec_stmtok3n v n o a b hqb w
    · obtain ⟨rfl, rfl⟩ : v = 0 ∧ n = 0 := by simpa [eqSt] using hqb
      exact spec_stmtok3y o a b w
  · cases hqb : eqSt ⟨4, v, n, o, a, b⟩ ⟨4, 0, 0, o, a, b⟩
    · rw [not_plain rfl hqb]; exact spec_stmtok4n v n o a b hqb w
    · obtain ⟨rfl, rfl⟩ : v = 0 ∧ n = 0 := by simpa [eqSt] using hqb
      exact spec_stmtok4y o a b w
  · cases hqb : eqSt ⟨5, v, n, o, a, b⟩ ⟨5, 0, n, 0, 0, 0⟩
    · rw [not_plain rfl hqb]; exact spec_stmtok5n v n o a b hqb w
    · obtain ⟨rfl, rfl, rfl, rfl⟩ : v = 0 ∧ o = 0 ∧ a = 0 ∧ b = 0 := by simpa [eqSt] using hqb
      exact spec_stmtok5y n w
  · cases hqb : eqSt ⟨6, v, n, o, a, b⟩ ⟨6, 0, 0, 0, 0, 0⟩
    · rw [not_plain rfl hqb]; exact spec_stmtok6n v n o a b hqb w
    · obtain ⟨rfl, rfl, rfl, rfl, rfl⟩ : v = 0 ∧ n = 0 ∧ o = 0 ∧ a = 0 ∧ b = 0 := by simpa [eqSt] using hqb
      exact spec_stmtok6y  w
  · rw [stOk_other h1 h2 h3 h4 h5 h6]; exact spec_stmtok7 k v n o a b h1 h2 h3 h4 h5 h6 w
end Go.Proofs.YtmgeecdgebemdaaGreatDoor.stm

/- Chapter 5's model: BlockOk, the matching end, EndOf, DepthOf, LongestRun: what the plain relations say, for every list of statements; nothing that was there is written. -/
namespace Go.Proofs.YtmgeecdgebemdaaGreatDoor.blk
open Go Go.ChangeShapes Go.WideShapes Go.ChangeAt Go.RowKit Go.Proofs.YtmgeecdgebemdaaGreatDoor.row Go.Proofs.YtmgeecdgebemdaaGreatDoor.val Go.Proofs.YtmgeecdgebemdaaGreatDoor.expr Go.Proofs.YtmgeecdgebemdaaGreatDoor.stm
set_option maxHeartbeats 4000000 in
set_option maxRecDepth 100000 in
theorem spec_blockok (a : Option Addr) (n cap : Nat) (L : List Go.Proofs.YtmgeecdgebemdaaGreatDoor.stm.St) (hn : (n : Int) ≤ 1048576) (w : World) (h : StRow w a n L) (r : Bool) (hr : r = true ↔ IsBlk L) :
    Calls Tryz.prog 150 #[.slice a n cap] w (BelB w r) := by
  have HL := Lib.hid h
  have HR := Lib.hid hr
  clear h hr
  go_enter Tryz.func150, Tryz.ntmps150
  go_wp2
  go_loopw [3, 4] (fun o i wr => ∃ (k : Nat) (x : Int), k ≤ n ∧ i = .int .i64 k ∧ o = .int .i64 x ∧ 0 ≤ x ∧ x ≤ 3 ∧ Hid (x = hAt L k) ∧ Hid (OkTo L k) ∧ Below w.heap.size w wr) (fun _ i _ => n - (intOf i).toNat)
  case atStart => exact ⟨0, 0, Nat.zero_le _, rfl, rfl, by omega, by omega, rfl, okTo_zero L, Below.refl _ _⟩
  case round =>
    obtain ⟨k, x, hk, rfl, rfl, hx0, hx3, hH, hO, hbel⟩ := hrel
    by_cases hlt : k < n
    · obtain ⟨b, off, s, rfl, hlb, hs, hrg⟩ := (HL.out.below hbel).2 k hlt
      have HS := Lib.hid (And.intro hrg (And.intro hs hbel))
      have hI : (k : Int) < n := by omega
      clear hrg hs hbel
      cases hst : stOk s
      · have hrf : r = false := by
          rw [← Bool.not_eq_true]; intro e; exact not_blk_at HS.out.2.1 (.inl hst) (HR.out.1 e)
        have HST := Lib.hid hst
        clear hst
        subst hrf
        go_wp2_with (first
          | (refine wpList_load_mid rfl 112 _ rfl b (off + k * 6) rfl (stC s) _ HS.out.1 Tryz.underlying112 rfl (by kernel_rfl) ?_)
          | (go_at_call 197; refine (spec_stmtok s false HST.out _).mono ?_; rintro e w2 ⟨rfl, hb2⟩))
        go_ret
        exact ⟨rfl, below_then HS.out.2.2 hb2⟩
      · have HST := Lib.hid hst
        clear hst
        go_wp2_with (first
          | (refine wpList_load_mid rfl 112 _ rfl b (off + k * 6) rfl (stC s) _ HS.out.1 Tryz.underlying112 rfl (by kernel_rfl) ?_)
          | (go_at_call 197; refine (spec_stmtok s true HST.out _).mono ?_; rintro e w2 ⟨rfl, hb2⟩; refine Hid.out ?_))
        have hc2 := (hb2.cell (p := ⟨b, off + k * 6, none⟩) hlb).trans (range6 HS.out.1).1
        have HB2 := Lib.hid (below_then HS.out.2.2 hb2)
        have hnx := hAt_succ HS.out.2.1
        obtain ⟨d, hd⟩ : ∃ d, dlt s = d := ⟨_, rfl⟩
        rw [hd, ← hH.out] at hnx
        clear hb2
        rcases (show (s.k = 4 ∧ d = 1) ∨ (s.k = 5 ∧ d = 1) ∨ (s.k = 6 ∧ d = -1) ∨ (s.k ≠ 4 ∧ s.k ≠ 5 ∧ s.k ≠ 6 ∧ d = 0) by
          rw [← hd]; unfold dlt; split
          · omega
          · split <;> omega) with ⟨hk4, rfl⟩ | ⟨hk4, rfl⟩ | ⟨hk4, rfl⟩ | ⟨hk4, hk5, hk6, rfl⟩
        · have hq : (s.k == 4) = true := by rw [hk4]; rfl
          have hq5 : (s.k == 5) = false := by rw [hk4]; rfl
          clear hd hk4
          by_cases hx : x + 1 ≤ 3
          · skip
            have HIN := Lib.hid (show (decide (0 ≤ (x + 1)) && decide ((x + 1) ≤ 3)) = true by simp; omega)
            have HO2 := Lib.hid (okTo_succ hO.out HS.out.2.1 HST.out (by omega) (by omega))
            have HX2 := Lib.hid (show (x + 1) = hAt L (k + 1) by omega)
            refine Lib.hid ?_
            go_wp2_with (go_at_call 63; (with_reducible refine (in_any _ 0 3 _ HIN.out _).mono ?_); rintro e w3 ⟨rfl, rfl⟩)
            go_roundw
            case rel => exact ⟨k + 1, (x + 1), by omega, by go_num, rfl, by omega, by omega, HX2, HO2, HB2.out⟩
            case measure => simp [intOf]; omega
          · skip
            have HIN := Lib.hid (show (decide (0 ≤ (x + 1)) && decide ((x + 1) ≤ 3)) = false by simp; omega)
            have hrf : r = false := by
              rw [← Bool.not_eq_true]; intro e; exact not_blk_at HS.out.2.1 (.inr (by omega)) (HR.out.1 e)
            subst hrf
            refine Lib.hid ?_
            go_wp2_with (go_at_call 63; (with_reducible refine (in_any _ 0 3 _ HIN.out _).mono ?_); rintro e w3 ⟨rfl, rfl⟩)
            go_ret
            exact ⟨rfl, HB2.out⟩
        · have hq : (s.k == 4) = false := by rw [hk4]; rfl
          have hq5 : (s.k == 5) = true := by rw [hk4]; rfl
          clear hd hk4
          by_cases hx : x + 1 ≤ 3
          · skip
            have HIN := Lib.hid (show (decide (0 ≤ (x + 1)) && decide ((x + 1) ≤ 3)) = true by simp; omega)
            have HO2 := Lib.hid (okTo_succ hO.out HS.out.2.1 HST.out (by omega) (by omega))
            have HX2 := Lib.hid (show (x + 1) = hAt L (k + 1) by omega)
            refine Lib.hid ?_
            go_wp2_with (go_at_call 63; (with_reducible refine (in_any _ 0 3 _ HIN.out _).mono ?_); rintro e w3 ⟨rfl, rfl⟩)
            go_roundw
            case rel => exact ⟨k + 1, (x + 1), by omega, by go_num, rfl, by omega, by omega, HX2, HO2, HB2.out⟩
            case measure => simp [intOf]; omega
          · skip
            have HIN := Lib.hid (show (decide (0 ≤ (x + 1)) && decide ((x + 1) ≤ 3)) = false by simp; omega)
            have hrf : r = false := by
              rw [← Bool.not_eq_true]; intro e; exact not_blk_at HS.out.2.1 (.inr (by omega)) (HR.out.1 e)
            subst hrf
            refine Lib.hid ?_
            go_wp2_with (go_at_call 63; (with_reducible refine (in_any _ 0 3 _ HIN.out _).mono ?_); rintro e w3 ⟨rfl, rfl⟩)
            go_ret
            exact ⟨rfl, HB2.out⟩
        · have hq : (s.k == 4) = false := by rw [hk4]; rfl
          have hq5 : (s.k == 5) = false := by rw [hk4]; rfl
          have hq6 : (s.k == 6) = true := by rw [hk4]; rfl
          clear hd hk4
          by_cases hx : 0 ≤ x - 1
          · skip
            have HIN := Lib.hid (show (decide (0 ≤ (x - 1)) && decide ((x - 1) ≤ 3)) = true by simp; omega)
            have HO2 := Lib.hid (okTo_succ hO.out HS.out.2.1 HST.out (by omega) (by omega))
            have HX2 := Lib.hid (show (x - 1) = hAt L (k + 1) by omega)
            refine Lib.hid ?_
            go_wp2_with (go_at_call 63; (with_reducible refine (in_any _ 0 3 _ HIN.out _).mono ?_); rintro e w3 ⟨rfl, rfl⟩)
            go_roundw
            case rel => exact ⟨k + 1, (x - 1), by omega, by go_num, rfl, by omega, by omega, HX2, HO2, HB2.out⟩
            case measure => simp [intOf]; omega
          · skip
            have HIN := Lib.hid (show (decide (0 ≤ (x - 1)) && decide ((x - 1) ≤ 3)) = false by simp; omega)
            have hrf : r = false := by
              rw [← Bool.not_eq_true]; intro e; exact not_blk_at HS.out.2.1 (.inr (by omega)) (HR.out.1 e)
            subst hrf
            refine Lib.hid ?_
            go_wp2_with (go_at_call 63; (with_reducible refine (in_any _ 0 3 _ HIN.out _).mono ?_); rintro e w3 ⟨rfl, rfl⟩)
            go_ret
            exact ⟨rfl, HB2.out⟩
        · have hq : (s.k == 4) = false := by rw [beq_eq_false_iff_ne]; exact hk4
          have hq5 : (s.k == 5) = false := by rw [beq_eq_false_iff_ne]; exact hk5
          have hq6 : (s.k == 6) = false := by rw [beq_eq_false_iff_ne]; exact hk6
          clear hd hk4 hk5 hk6
          have HIN := Lib.hid (show (decide (0 ≤ x) && decide (x ≤ 3)) = true by simp; omega)
          have HO2 := Lib.hid (okTo_succ hO.out HS.out.2.1 HST.out (by omega) (by omega))
          have HX2 := Lib.hid (show x = hAt L (k + 1) by omega)
          refine Lib.hid ?_
          go_wp2_with (go_at_call 63; (with_reducible refine (in_any _ 0 3 _ HIN.out _).mono ?_); rintro e w3 ⟨rfl, rfl⟩)
          go_roundw
          case rel => exact ⟨k + 1, x, by omega, by go_num, rfl, by omega, by omega, HX2, HO2, HB2.out⟩
          case measure => simp [intOf]; omega
    · obtain rfl : k = n := by omega
      have hI : ¬ (k : Int) < k := by omega
      have hlen := HL.out.1
      have hOK := hO.out
      have hHX := hH.out
      rcases (show x ≠ 0 ∨ (x = 0 ∧ 24 < k) ∨ (x = 0 ∧ k ≤ 24) by omega) with hx | ⟨hx, h24⟩ | ⟨hx, h24⟩
      · have hrf : r = false := by
          rw [← Bool.not_eq_true]; intro e; have := (HR.out.1 e).2.1; rw [hlen] at this; omega
        have hxb : (x == 0) = false := by rw [beq_eq_false_iff_ne]; exact hx
        have HB := Lib.hid hbel
        clear hOK hHX hbel
        subst hrf
        go_wp2
        go_ret
        exact ⟨rfl, HB.out⟩
      · have hrf : r = false := by
          rw [← Bool.not_eq_true]; intro e; have := (HR.out.1 e).2.2; omega
        have hxb : (x == 0) = true := by rw [hx]; rfl
        have h24I : (24 : Int) < k := by omega
        have HB := Lib.hid hbel
        clear hOK hHX hbel hx
        subst hrf
        go_wp2
        go_ret
        exact ⟨by simp; try omega, HB.out⟩
      · have hrt : r = true := HR.out.2 ⟨by rw [hlen]; exact hOK, by rw [hlen]; omega, by omega⟩
        have hxb : (x == 0) = true := by rw [hx]; rfl
        have h24I : (k : Int) ≤ 24 := by omega
        have HB := Lib.hid hbel
        clear hOK hHX hbel hx
        subst hrt
        go_wp2
        go_ret
        exact ⟨by simp; try omega, HB.out⟩
end Go.Proofs.YtmgeecdgebemdaaGreatDoor.blk
