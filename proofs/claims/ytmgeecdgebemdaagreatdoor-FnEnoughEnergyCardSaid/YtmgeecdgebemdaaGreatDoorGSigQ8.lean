/- Several texts in one: QStmI. -/
import Derived.Test.YtmgeecdgebemdaaGreatDoorGSigQ1
import Derived.Deep.RegionWith

/- Chapter 4's StmtOk of the program, and the functions that it is made of: the statement as a value of its own type, its fields' check, and the way back; nothing that was there is written. -/
namespace Go.Proofs.YtmgeecdgebemdaaGreatDoor.stm
open Go.ChangeShapes Go.WideShapes Go.ChangeAt Go.RowKit Go.Proofs.YtmgeecdgebemdaaGreatDoor.row Go.Proofs.YtmgeecdgebemdaaGreatDoor.val Go.Proofs.YtmgeecdgebemdaaGreatDoor.expr
/-- A statement of the kind 1 as a value of its own type. -/
abbrev if1 (v o a b : Int) : Value := .iface 241 (.agg #[.int .i64 v, .int .i64 o, .int .i64 a, .int .i64 b])
/-- A statement of the kind 2 as a value of its own type. -/
abbrev if2 (v n : Int) : Value := .iface 243 (.agg #[.int .i64 v, .int .i64 n])
/-- A statement of the kind 3 as a value of its own type. -/
abbrev if3 (o a b : Int) : Value := .iface 245 (.agg #[.int .i64 o, .int .i64 a, .int .i64 b])
/-- A statement of the kind 4 as a value of its own type. -/
abbrev if4 (o a b : Int) : Value := .iface 247 (.agg #[.int .i64 o, .int .i64 a, .int .i64 b])
/-- A statement of the kind 5 as a value of its own type. -/
abbrev if5 (n : Int) : Value := .iface 249 (.agg #[.int .i64 n])
/-- A statement of the kind 6 as a value of its own type. -/
abbrev if6 : Value := .iface 250 (.agg #[])
set_option maxHeartbeats 400000 in
theorem stmt_m1 (v o a b : Int) (w : World) : Calls Tryz.prog 282 #[.agg #[.int .i64 v, .int .i64 o, .int .i64 a, .int .i64 b]] w (BelS w ⟨1, v, 0, o, a, b⟩) := by
  go_enter Tryz.func282, Tryz.ntmps282
  go_wp2
  refine bodyPost_ret (v := stV ⟨1, v, 0, o, a, b⟩) (by simp [results, Tryz.results282, go_sem]) rfl ⟨rfl, ?_⟩
  all_goals repeat (first | exact Below.refl _ _ | refine Below.alloc ?_ (by simp; try omega) _ | refine Below.setCell ?_ (by simp) _)
set_option maxHeartbeats 400000 in
theorem stmt_m2 (v n : Int) (w : World) : Calls Tryz.prog 283 #[.agg #[.int .i64 v, .int .i64 n]] w (BelS w ⟨2, v, n, 0, 0, 0⟩) := by
  go_enter Tryz.func283, Tryz.ntmps283
  go_wp2
  refine bodyPost_ret (v := stV ⟨2, v, n, 0, 0, 0⟩) (by simp [results, Tryz.results283, go_sem]) rfl ⟨rfl, ?_⟩
  all_goals repeat (first | exact Below.refl _ _ | refine Below.alloc ?_ (by simp; try omega) _ | refine Below.setCell ?_ (by simp) _)
set_option maxHeartbeats 400000 in
theorem stmt_m3 (o a b : Int) (w : World) : Calls Tryz.prog 284 #[.agg #[.int .i64 o, .int .i64 a, .int .i64 b]] w (BelS w ⟨3, 0, 0, o, a, b⟩) := by
  go_enter Tryz.func284, Tryz.ntmps284
  go_wp2
  refine bodyPost_ret (v := stV ⟨3, 0, 0, o, a, b⟩) (by simp [results, Tryz.results284, go_sem]) rfl ⟨rfl, ?_⟩
  all_goals repeat (first | exact Below.refl _ _ | refine Below.alloc ?_ (by simp; try omega) _ | refine Below.setCell ?_ (by simp) _)
set_option maxHeartbeats 400000 in
theorem stmt_m4 (o a b : Int) (w : World) : Calls Tryz.prog 285 #[.agg #[.int .i64 o, .int .i64 a, .int .i64 b]] w (BelS w ⟨4, 0, 0, o, a, b⟩) := by
  go_enter Tryz.func285, Tryz.ntmps285
  go_wp2
  refine bodyPost_ret (v := stV ⟨4, 0, 0, o, a, b⟩) (by simp [results, Tryz.results285, go_sem]) rfl ⟨rfl, ?_⟩
  all_goals repeat (first | exact Below.refl _ _ | refine Below.alloc ?_ (by simp; try omega) _ | refine Below.setCell ?_ (by simp) _)
set_option maxHeartbeats 400000 in
theorem stmt_m5 (n : Int) (w : World) : Calls Tryz.prog 286 #[.agg #[.int .i64 n]] w (BelS w ⟨5, 0, n, 0, 0, 0⟩) := by
  go_enter Tryz.func286, Tryz.ntmps286
  go_wp2
  refine bodyPost_ret (v := stV ⟨5, 0, n, 0, 0, 0⟩) (by simp [results, Tryz.results286, go_sem]) rfl ⟨rfl, ?_⟩
  all_goals repeat (first | exact Below.refl _ _ | refine Below.alloc ?_ (by simp; try omega) _ | refine Below.setCell ?_ (by simp) _)
set_option maxHeartbeats 400000 in
theorem stmt_m6 (w : World) : Calls Tryz.prog 287 #[.agg #[]] w (BelS w ⟨6, 0, 0, 0, 0, 0⟩) := by
  go_enter Tryz.func287, Tryz.ntmps287
  go_wp2
  refine bodyPost_ret (v := stV ⟨6, 0, 0, 0, 0, 0⟩) (by simp [results, Tryz.results287, go_sem]) rfl ⟨rfl, ?_⟩
  all_goals repeat (first | exact Below.refl _ _ | refine Below.alloc ?_ (by simp; try omega) _ | refine Below.setCell ?_ (by simp) _)
/-- The call returns this pair of an interface value and a bool; nothing that was there is written. -/
def BelP (w : World) (v : Value) (b : Bool) (e : Ending) (w' : World) : Prop := e = .returned (.tuple #[v, .bool b]) ∧ Below w.heap.size w w'
set_option maxHeartbeats 400000 in
theorem of1 (v n o a b : Int) (w : World) : Calls Tryz.prog 222 #[stV ⟨1, v, n, o, a, b⟩] w (BelP w (if1 v o a b) true) := by
  go_enter Tryz.func222, Tryz.ntmps222
  go_wp2
  go_ret2
  exact ⟨rfl, (Below.refl _ _).alloc (Nat.le_refl _) _⟩
set_option maxHeartbeats 400000 in
theorem of2 (v n o a b : Int) (w : World) : Calls Tryz.prog 222 #[stV ⟨2, v, n, o, a, b⟩] w (BelP w (if2 v n) true) := by
  go_enter Tryz.func222, Tryz.ntmps222
  go_wp2
  go_ret2
  exact ⟨rfl, (Below.refl _ _).alloc (Nat.le_refl _) _⟩
set_option maxHeartbeats 400000 in
theorem of3 (v n o a b : Int) (w : World) : Calls Tryz.prog 222 #[stV ⟨3, v, n, o, a, b⟩] w (BelP w (if3 o a b) true) := by
  go_enter Tryz.func222, Tryz.ntmps222
  go_wp2
  go_ret2
  exact ⟨rfl, (Below.refl _ _).alloc (Nat.le_refl _) _⟩
set_option maxHeartbeats 400000 in
theorem of4 (v n o a b : Int) (w : World) : Calls Tryz.prog 222 #[stV ⟨4, v, n, o, a, b⟩] w (BelP w (if4 o a b) true) := by
  go_enter Tryz.func222, Tryz.ntmps222
  go_wp2
  go_ret2
  exact ⟨rfl, (Below.refl _ _).alloc (Nat.le_refl _) _⟩
set_option maxHeartbeats 400000 in
theorem of5 (v n o a b : Int) (w : World) : Calls Tryz.prog 222 #[stV ⟨5, v, n, o, a, b⟩] w (BelP w (if5 n) true) := by
  go_enter Tryz.func222, Tryz.ntmps222
  go_wp2
  go_ret2
  exact ⟨rfl, (Below.refl _ _).alloc (Nat.le_refl _) _⟩
set_option maxHeartbeats 400000 in
theorem of6 (v n o a b : Int) (w : World) : Calls Tryz.prog 222 #[stV ⟨6, v, n, o, a, b⟩] w (BelP w (if6 ) true) := by
  go_enter Tryz.func222, Tryz.ntmps222
  go_wp2
  go_ret2
  exact ⟨rfl, (Below.refl _ _).alloc (Nat.le_refl _) _⟩
set_option maxHeartbeats 400000 in
theorem of7 (k v n o a b : Int) (h1 : (k == 1) = false) (h2 : (k == 2) = false) (h3 : (k == 3) = false) (h4 : (k == 4) = false) (h5 : (k == 5) = false) (h6 : (k == 6) = false) (w : World) : Calls Tryz.prog 222 #[stV ⟨k, v, n, o, a, b⟩] w (BelP w .nilIface false) := by
  go_enter Tryz.func222, Tryz.ntmps222
  go_wp2
  go_ret2
  exact ⟨rfl, (Below.refl _ _).alloc (Nat.le_refl _) _⟩

section fields_
theorem as1_yes (v : Value) (w : World) : (Instr.typeAssert (.iface 241 v) 207 241 true).run Tryz.prog w = .ok (.tuple #[v, .bool true]) w := by kernel_rfl
theorem as2_yes (v : Value) (w : World) : (Instr.typeAssert (.iface 243 v) 207 243 true).run Tryz.prog w = .ok (.tuple #[v, .bool true]) w := by kernel_rfl
theorem as2_no1 (v : Value) (w : World) : (Instr.typeAssert (.iface 243 v) 207 241 true).run Tryz.prog w = .ok (.tuple #[.agg #[.int .i64 0, .int .i64 0, .int .i64 0, .int .i64 0], .bool false]) w := by kernel_rfl
theorem as3_yes (v : Value) (w : World) : (Instr.typeAssert (.iface 245 v) 207 245 true).run Tryz.prog w = .ok (.tuple #[v, .bool true]) w := by kernel_rfl
theorem as3_no1 (v : Value) (w : World) : (Instr.typeAssert (.iface 245 v) 207 241 true).run Tryz.prog w = .ok (.tuple #[.agg #[.int .i64 0, .int .i64 0, .int .i64 0, .int .i64 0], .bool false]) w := by kernel_rfl
theorem as3_no2 (v : Value) (w : World) : (Instr.typeAssert (.iface 245 v) 207 243 true).run Tryz.prog w = .ok (.tuple #[.agg #[.int .i64 0, .int .i64 0], .bool false]) w := by kernel_rfl
theorem as4_yes (v : Value) (w : World) : (Instr.typeAssert (.iface 247 v) 207 247 true).run Tryz.prog w = .ok (.tuple #[v, .bool true]) w := by kernel_rfl
theorem as4_no1 (v : Value) (w : World) : (Instr.typeAssert (.iface 247 v) 207 241 true).run Tryz.prog w = .ok (.tuple #[.agg #[.int .i64 0, .int .i64 0, .int .i64 0, .int .i64 0], .bool false]) w := by kernel_rfl
theorem as4_no2 (v : Value) (w : World) : (Instr.typeAssert (.iface 247 v) 207 243 true).run Tryz.prog w = .ok (.tuple #[.agg #[.int .i64 0, .int .i64 0], .bool false]) w := by kernel_rfl
theorem as4_no3 (v : Value) (w : World) : (Instr.typeAssert (.iface 247 v) 207 245 true).run Tryz.prog w = .ok (.tuple #[.agg #[.int .i64 0, .int .i64 0, .int .i64 0], .bool false]) w := by kernel_rfl
theorem as5_yes (v : Value) (w : World) : (Instr.typeAssert (.iface 249 v) 207 249 true).run Tryz.prog w = .ok (.tuple #[v, .bool true]) w := by kernel_rfl
theorem as5_no1 (v : Value) (w : World) : (Instr.typeAssert (.iface 249 v) 207 241 true).run Tryz.prog w = .ok (.tuple #[.agg #[.int .i64 0, .int .i64 0, .int .i64 0, .int .i64 0], .bool false]) w := by kernel_rfl
theorem as5_no2 (v : Value) (w : World) : (Instr.typeAssert (.iface 249 v) 207 243 true).run Tryz.prog w = .ok (.tuple #[.agg #[.int .i64 0, .int .i64 0], .bool false]) w := by kernel_rfl
theorem as5_no3 (v : Value) (w : World) : (Instr.typeAssert (.iface 249 v) 207 245 true).run Tryz.prog w = .ok (.tuple #[.agg #[.int .i64 0, .int .i64 0, .int .i64 0], .bool false]) w := by kernel_rfl
theorem as5_no4 (v : Value) (w : World) : (Instr.typeAssert (.iface 249 v) 207 247 true).run Tryz.prog w = .ok (.tuple #[.agg #[.int .i64 0, .int .i64 0, .int .i64 0], .bool false]) w := by kernel_rfl
theorem as6_yes (v : Value) (w : World) : (Instr.typeAssert (.iface 250 v) 207 250 true).run Tryz.prog w = .ok (.tuple #[v, .bool true]) w := by kernel_rfl
theorem as6_no1 (v : Value) (w : World) : (Instr.typeAssert (.iface 250 v) 207 241 true).run Tryz.prog w = .ok (.tuple #[.agg #[.int .i64 0, .int .i64 0, .int .i64 0, .int .i64 0], .bool false]) w := by kernel_rfl
theorem as6_no2 (v : Value) (w : World) : (Instr.typeAssert (.iface 250 v) 207 243 true).run Tryz.prog w = .ok (.tuple #[.agg #[.int .i64 0, .int .i64 0], .bool false]) w := by kernel_rfl
theorem as6_no3 (v : Value) (w : World) : (Instr.typeAssert (.iface 250 v) 207 245 true).run Tryz.prog w = .ok (.tuple #[.agg #[.int .i64 0, .int .i64 0, .int .i64 0], .bool false]) w := by kernel_rfl
theorem as6_no4 (v : Value) (w : World) : (Instr.typeAssert (.iface 250 v) 207 247 true).run Tryz.prog w = .ok (.tuple #[.agg #[.int .i64 0, .int .i64 0, .int .i64 0], .bool false]) w := by kernel_rfl
theorem as6_no5 (v : Value) (w : World) : (Instr.typeAssert (.iface 250 v) 207 249 true).run Tryz.prog w = .ok (.tuple #[.agg #[.int .i64 0], .bool false]) w := by kernel_rfl
theorem varnum (v : Int) (r : Bool) (hr : varOk v = r) (w : World) : Calls Tryz.prog 117 #[.int .i64 v] w (RetB w r) := by
  subst hr
  rcases (show v < 0 ∨ 7 < v ∨ (0 ≤ v ∧ v ≤ 7) by omega) with h | h | ⟨h, h2⟩
  · have HE := Lib.hid (show varOk v = false by simp [varOk]; omega)
    go_enter Tryz.func117, Tryz.ntmps117
    go_wp2
    go_ret
    exact ⟨by rw [HE.out]; rfl, rfl⟩
  · have HE := Lib.hid (show varOk v = false by simp [varOk]; omega)
    have h' : decide (v < 8) = false := by simp; omega
    go_enter Tryz.func117, Tryz.ntmps117
    go_wp2
    go_ret
    exact ⟨by rw [HE.out]; simp, rfl⟩
  · have HE := Lib.hid (show varOk v = true by simp [varOk]; omega)
    have h3 : v < 8 := by omega
    go_enter Tryz.func117, Tryz.ntmps117
    go_wp2
    go_ret
    exact ⟨by rw [HE.out]; rfl, rfl⟩
theorem sensnum (v : Int) (r : Bool) (hr : (decide (0 ≤ v) && decide (v ≤ 3)) = r) (w : World) : Calls Tryz.prog 183 #[.int .i64 v] w (RetB w r) := by
  subst hr
  rcases (show v < 0 ∨ 3 < v ∨ (0 ≤ v ∧ v ≤ 3) by omega) with h | h | ⟨h, h2⟩
  · have HE := Lib.hid (show (decide (0 ≤ v) && decide (v ≤ 3)) = false by simp; omega)
    go_enter Tryz.func183, Tryz.ntmps183
    go_wp2
    go_ret
    exact ⟨by rw [HE.out]; rfl, rfl⟩
  · have HE := Lib.hid (show (decide (0 ≤ v) && decide (v ≤ 3)) = false by simp; omega)
    have h' : decide (v < 4) = false := by simp; omega
    go_enter Tryz.func183, Tryz.ntmps183
    go_wp2
    go_ret
    exact ⟨by rw [HE.out]; simp, rfl⟩
  · have HE := Lib.hid (show (decide (0 ≤ v) && decide (v ≤ 3)) = true by simp; omega)
    have h3 : v < 4 := by omega
    go_enter Tryz.func183, Tryz.ntmps183
    go_wp2
    go_ret
    exact ⟨by rw [HE.out]; rfl, rfl⟩
set_option maxHeartbeats 1000000 in
theorem fields1 (v o a b : Int) (r : Bool) (hr : (varOk v && exprOk o a b) = r) (w : World) : Calls Tryz.prog 223 #[if1 v o a b] w (BelB w r) := by
  subst hr
  have t1 := as1_yes (.agg #[.int .i64 v, .int .i64 o, .int .i64 a, .int .i64 b])
  cases hv : varOk v <;> cases he : exprOk o a b
  all_goals
    have HV := Lib.hid hv
    clear hv
    go_enter Tryz.func223, Tryz.ntmps223
    go_wp2_with (first
      | (go_at_call 117; refine (varnum _ _ HV.out _).mono ?_; rintro e w2 ⟨rfl, rfl⟩)
      | (go_at_call 180; refine (impl_exprok _ _ _ _ he _).mono ?_; rintro e w3 ⟨rfl, hb3⟩))
    go_ret
    first
      | exact ⟨rfl, ((Below.refl _ _).alloc (Nat.le_refl _) _)⟩
      | exact ⟨rfl, below_then ((Below.refl _ _).alloc (Nat.le_refl _) _) hb3⟩
      | exact ⟨by simp; try omega, ((Below.refl _ _).alloc (Nat.le_refl _) _)⟩
set_option maxHeartbeats 1000000 in
theorem fields2 (v n : Int) (r : Bool) (hr : (varOk v && (decide (0 ≤ n) && decide (n ≤ 3))) = r) (w : World) : Calls Tryz.prog 223 #[if2 v n] w (BelB w r) := by
  subst hr
  have t2 := as2_yes (.agg #[.int .i64 v, .int .i64 n])
  have t1 := as2_no1 (.agg #[.int .i64 v, .int .i64 n])
  cases hv : varOk v <;> cases he : (decide (0 ≤ n) && decide (n ≤ 3))
  all_goals
    have HV := Lib.hid hv
    clear hv
    go_enter Tryz.func223, Tryz.ntmps223
    go_wp2_with (first
      | (go_at_call 117; refine (varnum _ _ HV.out _).mono ?_; rintro e w2 ⟨rfl, rfl⟩)
      | (go_at_call 183; refine (sensnum _ _ he _).mono ?_; rintro e w2 ⟨rfl, rfl⟩))
    go_ret
    first
      | exact ⟨rfl, ((Below.refl _ _).alloc (Nat.le_refl _) _)⟩
      | exact ⟨rfl, below_then ((Below.refl _ _).alloc (Nat.le_refl _) _) hb3⟩
      | exact ⟨by simp; try omega, ((Below.refl _ _).alloc (Nat.le_refl _) _)⟩
set_option maxHeartbeats 1000000 in
theorem fields3 (o a b : Int) (r : Bool) (hr : (exprOk o a b) = r) (w : World) : Calls Tryz.prog 223 #[if3 o a b] w (BelB w r) := by
  subst hr
  have t3 := as3_yes (.agg #[.int .i64 o, .int .i64 a, .int .i64 b])
  have t1 := as3_no1 (.agg #[.int .i64 o, .int .i64 a, .int .i64 b])
  have t2 := as3_no2 (.agg #[.int .i64 o, .int .i64 a, .int .i64 b])
  cases he : exprOk o a b
  all_goals
    go_enter Tryz.func223, Tryz.ntmps223
    go_wp2_with (first
      | (go_at_call 180; refine (impl_exprok _ _ _ _ he _).mono ?_; rintro e w3 ⟨rfl, hb3⟩))
    go_ret
    first
      | exact ⟨rfl, ((Below.refl _ _).alloc (Nat.le_refl _) _)⟩
      | exact ⟨rfl, below_then ((Below.refl _ _).alloc (Nat.le_refl _) _) hb3⟩
      | exact ⟨by simp; try omega, ((Below.refl _ _).alloc (Nat.le_refl _) _)⟩
set_option maxHeartbeats 1000000 in
theorem fields4 (o a b : Int) (r : Bool) (hr : (exprOk o a b) = r) (w : World) : Calls Tryz.prog 223 #[if4 o a b] w (BelB w r) := by
  subst hr
  have t4 := as4_yes (.agg #[.int .i64 o, .int .i64 a, .int .i64 b])
  have t1 := as4_no1 (.agg #[.int .i64 o, .int .i64 a, .int .i64 b])
  have t2 := as4_no2 (.agg #[.int .i64 o, .int .i64 a, .int .i64 b])
  have t3 := as4_no3 (.agg #[.int .i64 o, .int .i64 a, .int .i64 b])
  cases he : exprOk o a b
  all_goals
    go_enter Tryz.func223, Tryz.ntmps223
    go_wp2_with (first
      | (go_at_call 180; refine (impl_exprok _ _ _ _ he _).mono ?_; rintro e w3 ⟨rfl, hb3⟩))
    go_ret
    first
      | exact ⟨rfl, ((Below.refl _ _).alloc (Nat.le_refl _) _)⟩
      | exact ⟨rfl, below_then ((Below.refl _ _).alloc (Nat.le_refl _) _) hb3⟩
      | exact ⟨by simp; try omega, ((Below.refl _ _).alloc (Nat.le_refl _) _)⟩
set_option maxHeartbeats 1000000 in
theorem fields5 (n : Int) (r : Bool) (hr : (decide (1 ≤ n) && decide (n ≤ 5)) = r) (w : World) : Calls Tryz.prog 223 #[if5 n] w (BelB w r) := by
  subst hr
  have t5 := as5_yes (.agg #[.int .i64 n])
  have t1 := as5_no1 (.agg #[.int .i64 n])
  have t2 := as5_no2 (.agg #[.int .i64 n])
  have t3 := as5_no3 (.agg #[.int .i64 n])
  have t4 := as5_no4 (.agg #[.int .i64 n])
  rcases (show n < 1 ∨ 5 < n ∨ (1 ≤ n ∧ n ≤ 5) by omega) with h | h | ⟨h, h2⟩
  all_goals
    first | have hd : decide (n ≤ 5) = false := by simp; omega | skip
    go_enter Tryz.func223, Tryz.ntmps223
    go_wp2
    go_ret
    first
      | exact ⟨rfl, ((Below.refl _ _).alloc (Nat.le_refl _) _)⟩
      | exact ⟨rfl, below_then ((Below.refl _ _).alloc (Nat.le_refl _) _) hb3⟩
      | exact ⟨by simp; try omega, ((Below.refl _ _).alloc (Nat.le_refl _) _)⟩
set_option maxHeartbeats 1000000 in
theorem fields6 (r : Bool) (hr : (true) = r) (w : World) : Calls Tryz.prog 223 #[if6 ] w (BelB w r) := by
  subst hr
  have t6 := as6_yes (.agg #[])
  have t1 := as6_no1 (.agg #[])
  have t2 := as6_no2 (.agg #[])
  have t3 := as6_no3 (.agg #[])
  have t4 := as6_no4 (.agg #[])
  have t5 := as6_no5 (.agg #[])
  go_enter Tryz.func223, Tryz.ntmps223
  go_wp2
  go_ret
  first
    | exact ⟨rfl, ((Below.refl _ _).alloc (Nat.le_refl _) _)⟩
    | exact ⟨rfl, below_then ((Below.refl _ _).alloc (Nat.le_refl _) _) hb3⟩
    | exact ⟨by simp; try omega, ((Below.refl _ _).alloc (Nat.le_refl _) _)⟩
end fields_
end Go.Proofs.YtmgeecdgebemdaaGreatDoor.stm
