/- Several texts in one: VStmV VStmU. -/
import Derived.Test.YtmgeecdgebemdaaGreatDoorGSigV11
import Derived.Deep.QuietTactic
import Derived.BigQuiet

/- Chapter 4's StmtOk of the program: what the plain function says, for every statement; nothing that was there is written. -/
namespace Go.Proofs.YtmgeecdgebemdaaGreatDoor.stm
open Go.ChangeShapes Go.WideShapes Go.ChangeAt Go.RowKit Go.Proofs.YtmgeecdgebemdaaGreatDoor.row Go.Proofs.YtmgeecdgebemdaaGreatDoor.val Go.Proofs.YtmgeecdgebemdaaGreatDoor.expr
theorem meth1 (v o a b : Int) (d : Nat) (w : World) : (method (d + 1) 241 (.agg #[.int .i64 v, .int .i64 o, .int .i64 a, .int .i64 b]) "loop.example/g00983/impl.stmt").run Tryz.prog w = .ok (282, .agg #[.int .i64 v, .int .i64 o, .int .i64 a, .int .i64 b]) w := by kernel_rfl
theorem meth2 (v n : Int) (d : Nat) (w : World) : (method (d + 1) 243 (.agg #[.int .i64 v, .int .i64 n]) "loop.example/g00983/impl.stmt").run Tryz.prog w = .ok (283, .agg #[.int .i64 v, .int .i64 n]) w := by kernel_rfl
theorem meth3 (o a b : Int) (d : Nat) (w : World) : (method (d + 1) 245 (.agg #[.int .i64 o, .int .i64 a, .int .i64 b]) "loop.example/g00983/impl.stmt").run Tryz.prog w = .ok (284, .agg #[.int .i64 o, .int .i64 a, .int .i64 b]) w := by kernel_rfl
theorem meth4 (o a b : Int) (d : Nat) (w : World) : (method (d + 1) 247 (.agg #[.int .i64 o, .int .i64 a, .int .i64 b]) "loop.example/g00983/impl.stmt").run Tryz.prog w = .ok (285, .agg #[.int .i64 o, .int .i64 a, .int .i64 b]) w := by kernel_rfl
theorem meth5 (n : Int) (d : Nat) (w : World) : (method (d + 1) 249 (.agg #[.int .i64 n]) "loop.example/g00983/impl.stmt").run Tryz.prog w = .ok (286, .agg #[.int .i64 n]) w := by kernel_rfl
theorem meth6 (d : Nat) (w : World) : (method (d + 1) 250 (.agg #[]) "loop.example/g00983/impl.stmt").run Tryz.prog w = .ok (287, .agg #[]) w := by kernel_rfl
def pickV (r : Bool) (x : Value) : Value := if r = true then x else .nilIface
/-- The value with true, or none with false; nothing that was there is written. -/
def BelO (w : World) (x : Value) (r : Bool) (e : Ending) (w' : World) : Prop := BelP w (pickV r x) r e w'
set_option maxHeartbeats 1000000 in
theorem valid7 (k v n o a b : Int) (h1 : (k == 1) = false) (h2 : (k == 2) = false) (h3 : (k == 3) = false) (h4 : (k == 4) = false) (h5 : (k == 5) = false) (h6 : (k == 6) = false) (w : World) : Calls Tryz.prog 185 #[stV ⟨k, v, n, o, a, b⟩] w (BelP w .nilIface false) := by
  have H := Lib.hid (of7 k v n o a b h1 h2 h3 h4 h5 h6)
  clear h1 h2 h3 h4 h5 h6
  go_enter Tryz.func185, Tryz.ntmps185
  go_wp2_with (go_at_call 222; refine (H.out _).mono ?_; rintro e w1 ⟨rfl, hb1⟩)
  have HB := Lib.hid (below_then (below_new w _) hb1)
  clear hb1
  go_quiet (fail)
  go_wp2
  go_ret2
  exact ⟨rfl, below_drewN HB.out _⟩
set_option maxHeartbeats 1000000 in
theorem valid1n (v n o a b : Int) (hqb : eqSt ⟨1, v, 0, o, a, b⟩ ⟨1, v, n, o, a, b⟩ = false) (w : World) : Calls Tryz.prog 185 #[stV ⟨1, v, n, o, a, b⟩] w (BelP w .nilIface false) := by
  have hq : ∀ w, (Op.equalIn 10000 112 (stV ⟨1, v, 0, o, a, b⟩) (stV ⟨1, v, n, o, a, b⟩)).run Tryz.prog w = .ok false w := fun w => by rw [run_eqSt, hqb]
  have HQB := Lib.hid hqb
  clear hqb
  have hm := meth1 v o a b
  have hx := Box.new w #[.int .i64 1, .int .i64 v, .int .i64 n, .int .i64 o, .int .i64 a, .int .i64 b] 112
  go_enter Tryz.func185, Tryz.ntmps185
  go_wp2_with (go_at_call 222; refine (of1 v n o a b _).mono ?_; rintro e w1 ⟨rfl, hb1⟩)
  have hcs : w1.cell? ⟨w.heap.size, 0, none⟩ = some (.int .i64 1) ∧ w1.cell? ⟨w.heap.size, 1, none⟩ = some (.int .i64 v) ∧ w1.cell? ⟨w.heap.size, 2, none⟩ = some (.int .i64 n) ∧ w1.cell? ⟨w.heap.size, 3, none⟩ = some (.int .i64 o) ∧ w1.cell? ⟨w.heap.size, 4, none⟩ = some (.int .i64 a) ∧ w1.cell? ⟨w.heap.size, 5, none⟩ = some (.int .i64 b) := by
    have hx1 := hx.below hb1
    exact ⟨hx1.cell 0, hx1.cell 1, hx1.cell 2, hx1.cell 3, hx1.cell 4, hx1.cell 5⟩
  have hlt := (hx.below hb1).lt
  have HB := Lib.hid (below_then (below_new w _) hb1)
  clear hx hb1
  first
    | (go_region_with (go_at_call 282; refine (stmt_m1 v o a b _).mono ?_; rintro e w2 ⟨rfl, hb2⟩; have hc2 := held6 (drew_below hb2) hlt hcs))
    | fail
  all_goals
    have HB2 := Lib.hid (below_then HB.out (drew_below hb2))
    clear hb2
    go_wp2
    go_ret2
    exact ⟨rfl, HB2.out⟩
set_option maxHeartbeats 1000000 in
theorem valid2n (v n o a b : Int) (hqb : eqSt ⟨2, v, n, 0, 0, 0⟩ ⟨2, v, n, o, a, b⟩ = false) (w : World) : Calls Tryz.prog 185 #[stV ⟨2, v, n, o, a, b⟩] w (BelP w .nilIface false) := by
  have hq : ∀ w, (Op.equalIn 10000 112 (stV ⟨2, v, n, 0, 0, 0⟩) (stV ⟨2, v, n, o, a, b⟩)).run Tryz.prog w = .ok false w := fun w => by rw [run_eqSt, hqb]
  have HQB := Lib.hid hqb
  clear hqb
  have hm := meth2 v n
  have hx := Box.new w #[.int .i64 2, .int .i64 v, .int .i64 n, .int .i64 o, .int .i64 a, .int .i64 b] 112
  go_enter Tryz.func185, Tryz.ntmps185
  go_wp2_with (go_at_call 222; refine (of2 v n o a b _).mono ?_; rintro e w1 ⟨rfl, hb1⟩)
  have hcs : w1.cell? ⟨w.heap.size, 0, none⟩ = some (.int .i64 2) ∧ w1.cell? ⟨w.heap.size, 1, none⟩ = some (.int .i64 v) ∧ w1.cell? ⟨w.heap.size, 2, none⟩ = some (.int .i64 n) ∧ w1.cell? ⟨w.heap.size, 3, none⟩ = some (.int .i64 o) ∧ w1.cell? ⟨w.heap.size, 4, none⟩ = some (.int .i64 a) ∧ w1.cell? ⟨w.heap.size, 5, none⟩ = some (.int .i64 b) := by
    have hx1 := hx.below hb1
    exact ⟨hx1.cell 0, hx1.cell 1, hx1.cell 2, hx1.cell 3, hx1.cell 4, hx1.cell 5⟩
  have hlt := (hx.below hb1).lt
  have HB := Lib.hid (below_then (below_new w _) hb1)
  clear hx hb1
  first
    | (go_region_with (go_at_call 283; refine (stmt_m2 v n _).mono ?_; rintro e w2 ⟨rfl, hb2⟩; have hc2 := held6 (drew_below hb2) hlt hcs))
    | fail
  all_goals
    have HB2 := Lib.hid (below_then HB.out (drew_below hb2))
    clear hb2
    go_wp2
    go_ret2
    exact ⟨rfl, HB2.out⟩
set_option maxHeartbeats 1000000 in
theorem valid3n (v n o a b : Int) (hqb : eqSt ⟨3, 0, 0, o, a, b⟩ ⟨3, v, n, o, a, b⟩ = false) (w : World) : Calls Tryz.prog 185 #[stV ⟨3, v, n, o, a, b⟩] w (BelP w .nilIface false) := by
  have hq : ∀ w, (Op.equalIn 10000 112 (stV ⟨3, 0, 0, o, a, b⟩) (stV ⟨3, v, n, o, a, b⟩)).run Tryz.prog w = .ok false w := fun w => by rw [run_eqSt, hqb]
  have HQB := Lib.hid hqb
  clear hqb
  have hm := meth3 o a b
  have hx := Box.new w #[.int .i64 3, .int .i64 v, .int .i64 n, .int .i64 o, .int .i64 a, .int .i64 b] 112
  go_enter Tryz.func185, Tryz.ntmps185
  go_wp2_with (go_at_call 222; refine (of3 v n o a b _).mono ?_; rintro e w1 ⟨rfl, hb1⟩)
  have hcs : w1.cell? ⟨w.heap.size, 0, none⟩ = some (.int .i64 3) ∧ w1.cell? ⟨w.heap.size, 1, none⟩ = some (.int .i64 v) ∧ w1.cell? ⟨w.heap.size, 2, none⟩ = some (.int .i64 n) ∧ w1.cell? ⟨w.heap.size, 3, none⟩ = some (.int .i64 o) ∧ w1.cell? ⟨w.heap.size, 4, none⟩ = some (.int .i64 a) ∧ w1.cell? ⟨w.heap.size, 5, none⟩ = some (.int .i64 b) := by
    have hx1 := hx.below hb1
    exact ⟨hx1.cell 0, hx1.cell 1, hx1.cell 2, hx1.cell 3, hx1.cell 4, hx1.cell 5⟩
  have hlt := (hx.below hb1).lt
  have HB := Lib.hid (below_then (below_new w _) hb1)
  clear hx hb1
  first
    | (go_region_with (go_at_call 284; refine (stmt_m3 o a b _).mono ?_; rintro e w2 ⟨rfl, hb2⟩; have hc2 := held6 (drew_below hb2) hlt hcs))
    | fail
  all_goals
    have HB2 := Lib.hid (below_then HB.out (drew_below hb2))
    clear hb2
    go_wp2
    go_ret2
    exact ⟨rfl, HB2.out⟩
set_option maxHeartbeats 1000000 in
theorem valid4n (v n o a b : Int) (hqb : eqSt ⟨4, 0, 0, o, a, b⟩ ⟨4, v, n, o, a, b⟩ = false) (w : World) : Calls Tryz.prog 185 #[stV ⟨4, v, n, o, a, b⟩] w (BelP w .nilIface false) := by
  have hq : ∀ w, (Op.equalIn 10000 112 (stV ⟨4, 0, 0, o, a, b⟩) (stV ⟨4, v, n, o, a, b⟩)).run Tryz.prog w = .ok false w := fun w => by rw [run_eqSt, hqb]
  have HQB := Lib.hid hqb
  clear hqb
  have hm := meth4 o a b
  have hx := Box.new w #[.int .i64 4, .int .i64 v, .int .i64 n, .int .i64 o, .int .i64 a, .int .i64 b] 112
  go_enter Tryz.func185, Tryz.ntmps185
  go_wp2_with (go_at_call 222; refine (of4 v n o a b _).mono ?_; rintro e w1 ⟨rfl, hb1⟩)
  have hcs : w1.cell? ⟨w.heap.size, 0, none⟩ = some (.int .i64 4) ∧ w1.cell? ⟨w.heap.size, 1, none⟩ = some (.int .i64 v) ∧ w1.cell? ⟨w.heap.size, 2, none⟩ = some (.int .i64 n) ∧ w1.cell? ⟨w.heap.size, 3, none⟩ = some (.int .i64 o) ∧ w1.cell? ⟨w.heap.size, 4, none⟩ = some (.int .i64 a) ∧ w1.cell? ⟨w.heap.size, 5, none⟩ = some (.int .i64 b) := by
    have hx1 := hx.below hb1
    exact ⟨hx1.cell 0, hx1.cell 1, hx1.cell 2, hx1.cell 3, hx1.cell 4, hx1.cell 5⟩
  have hlt := (hx.below hb1).lt
  have HB := Lib.hid (below_then (below_new w _) hb1)
  clear hx hb1
  first
    | (go_region_with (go_at_call 285; refine (stmt_m4 o a b _).mono ?_; rintro e w2 ⟨rfl, hb2⟩; have hc2 := held6 (drew_below hb2) hlt hcs))
    | fail
  all_goals
    have HB2 := Lib.hid (below_then HB.out (drew_below hb2))
    clear hb2
    go_wp2
    go_ret2
    exact ⟨rfl, HB2.out⟩
set_option maxHeartbeats 1000000 in
theorem valid5n (v n o a b : Int) (hqb : eqSt ⟨5, 0, n, 0, 0, 0⟩ ⟨5, v, n, o, a, b⟩ = false) (w : World) : Calls Tryz.prog 185 #[stV ⟨5, v, n, o, a, b⟩] w (BelP w .nilIface false) := by
  have hq : ∀ w, (Op.equalIn 10000 112 (stV ⟨5, 0, n, 0, 0, 0⟩) (stV ⟨5, v, n, o, a, b⟩)).run Tryz.prog w = .ok false w := fun w => by rw [run_eqSt, hqb]
  have HQB := Lib.hid hqb
  clear hqb
  have hm := meth5 n
  have hx := Box.new w #[.int .i64 5, .int .i64 v, .int .i64 n, .int .i64 o, .int .i64 a, .int .i64 b] 112
  go_enter Tryz.func185, Tryz.ntmps185
  go_wp2_with (go_at_call 222; refine (of5 v n o a b _).mono ?_; rintro e w1 ⟨rfl, hb1⟩)
  have hcs : w1.cell? ⟨w.heap.size, 0, none⟩ = some (.int .i64 5) ∧ w1.cell? ⟨w.heap.size, 1, none⟩ = some (.int .i64 v) ∧ w1.cell? ⟨w.heap.size, 2, none⟩ = some (.int .i64 n) ∧ w1.cell? ⟨w.heap.size, 3, none⟩ = some (.int .i64 o) ∧ w1.cell? ⟨w.heap.size, 4, none⟩ = some (.int .i64 a) ∧ w1.cell? ⟨w.heap.size, 5, none⟩ = some (.int .i64 b) := by
    have hx1 := hx.below hb1
    exact ⟨hx1.cell 0, hx1.cell 1, hx1.cell 2, hx1.cell 3, hx1.cell 4, hx1.cell 5⟩
  have hlt := (hx.below hb1).lt
  have HB := Lib.hid (below_then (below_new w _) hb1)
  clear hx hb1
  first
    | (go_region_with (go_at_call 286; refine (stmt_m5 n _).mono ?_; rintro e w2 ⟨rfl, hb2⟩; have hc2 := held6 (drew_below hb2) hlt hcs))
    | fail
  all_goals
    have HB2 := Lib.hid (below_then HB.out (drew_below hb2))
    clear hb2
    go_wp2
    go_ret2
    exact ⟨rfl, HB2.out⟩
set_option maxHeartbeats 1000000 in
theorem valid6n (v n o a b : Int) (hqb : eqSt ⟨6, 0, 0, 0, 0, 0⟩ ⟨6, v, n, o, a, b⟩ = false) (w : World) : Calls Tryz.prog 185 #[stV ⟨6, v, n, o, a, b⟩] w (BelP w .nilIface false) := by
  have hq : ∀ w, (Op.equalIn 10000 112 (stV ⟨6, 0, 0, 0, 0, 0⟩) (stV ⟨6, v, n, o, a, b⟩)).run Tryz.prog w = .ok false w := fun w => by rw [run_eqSt, hqb]
  have HQB := Lib.hid hqb
  clear hqb
  have hm := meth6 
  have hx := Box.new w #[.int .i64 6, .int .i64 v, .int .i64 n, .int .i64 o, .int .i64 a, .int .i64 b] 112
  go_enter Tryz.func185, Tryz.ntmps185
  go_wp2_with (go_at_call 222; refine (of6 v n o a b _).mono ?_; rintro e w1 ⟨rfl, hb1⟩)
  have hcs : w1.cell? ⟨w.heap.size, 0, none⟩ = some (.int .i64 6) ∧ w1.cell? ⟨w.heap.size, 1, none⟩ = some (.int .i64 v) ∧ w1.cell? ⟨w.heap.size, 2, none⟩ = some (.int .i64 n) ∧ w1.cell? ⟨w.heap.size, 3, none⟩ = some (.int .i64 o) ∧ w1.cell? ⟨w.heap.size, 4, none⟩ = some (.int .i64 a) ∧ w1.cell? ⟨w.heap.size, 5, none⟩ = some (.int .i64 b) := by
    have hx1 := hx.below hb1
    exact ⟨hx1.cell 0, hx1.cell 1, hx1.cell 2, hx1.cell 3, hx1.cell 4, hx1.cell 5⟩
  have hlt := (hx.below hb1).lt
  have HB := Lib.hid (below_then (below_new w _) hb1)
  clear hx hb1
  first
    | (go_region_with (go_at_call 287; refine (stmt_m6  _).mono ?_; rintro e w2 ⟨rfl, hb2⟩; have hc2 := held6 (drew_below hb2) hlt hcs))
    | fail
  all_goals
    have HB2 := Lib.hid (below_then HB.out (drew_below hb2))
    clear hb2
    go_wp2
    go_ret2
    exact ⟨rfl, HB2.out⟩
end Go.Proofs.YtmgeecdgebemdaaGreatDoor.stm

/- Chapter 4's StmtOk of the program: what the plain function says, for every statement; nothing that was there is written. -/
namespace Go.Proofs.YtmgeecdgebemdaaGreatDoor.stm
open Go.ChangeShapes Go.WideShapes Go.ChangeAt Go.RowKit Go.Proofs.YtmgeecdgebemdaaGreatDoor.row Go.Proofs.YtmgeecdgebemdaaGreatDoor.val Go.Proofs.YtmgeecdgebemdaaGreatDoor.expr
set_option maxHeartbeats 2000000 in
theorem valid1y (v o a b : Int) (w : World) : Calls Tryz.prog 185 #[stV ⟨1, v, 0, o, a, b⟩] w (BelO w (if1 v o a b) (varOk v && exprOk o a b)) := by
  generalize hr : (varOk v && exprOk o a b) = r
  have HR := Lib.hid hr
  have hq : ∀ w, (Op.equalIn 10000 112 (stV ⟨1, v, 0, o, a, b⟩) (stV ⟨1, v, 0, o, a, b⟩)).run Tryz.prog w = .ok true w := fun w => by rw [run_eqSt]; simp [eqSt]
  have hm := meth1 v o a b
  have hx := Box.new w #[.int .i64 1, .int .i64 v, .int .i64 0, .int .i64 o, .int .i64 a, .int .i64 b] 112
  clear hr
  go_enter Tryz.func185, Tryz.ntmps185
  go_wp2_with (go_at_call 222; refine (of1 v 0 o a b _).mono ?_; rintro e w1 ⟨rfl, hb1⟩)
  have hcs : w1.cell? ⟨w.heap.size, 0, none⟩ = some (.int .i64 1) ∧ w1.cell? ⟨w.heap.size, 1, none⟩ = some (.int .i64 v) ∧ w1.cell? ⟨w.heap.size, 2, none⟩ = some (.int .i64 0) ∧ w1.cell? ⟨w.heap.size, 3, none⟩ = some (.int .i64 o) ∧ w1.cell? ⟨w.heap.size, 4, none⟩ = some (.int .i64 a) ∧ w1.cell? ⟨w.heap.size, 5, none⟩ = some (.int .i64 b) := by
    have hx1 := hx.below hb1
    exact ⟨hx1.cell 0, hx1.cell 1, hx1.cell 2, hx1.cell 3, hx1.cell 4, hx1.cell 5⟩
  have hlt := (hx.below hb1).lt
  have HB := Lib.hid (below_then (below_new w _) hb1)
  clear hx hb1
  go_region_held3 (fun w' => w'.cell? ⟨w.heap.size, 0, none⟩ = some (.int .i64 1) ∧ w'.cell? ⟨w.heap.size, 1, none⟩ = some (.int .i64 v) ∧ w'.cell? ⟨w.heap.size, 2, none⟩ = some (.int .i64 0) ∧ w'.cell? ⟨w.heap.size, 3, none⟩ = some (.int .i64 o) ∧ w'.cell? ⟨w.heap.size, 4, none⟩ = some (.int .i64 a) ∧ w'.cell? ⟨w.heap.size, 5, none⟩ = some (.int .i64 b))
    (first | go_keep | (exact held6 (by assumption) (by assumption) (by assumption)))
    (first
      | (go_at_call 282; refine (stmt_m1 v o a b _).mono ?_; rintro e w2 ⟨rfl, hb2⟩; have hb2' := drew_below hb2; have hlt2 := Nat.lt_of_lt_of_le hlt hb2'.size)
      | (go_at_call 223; refine (fields1 v o a b _ HR.out _).mono ?_; rintro e w3 ⟨rfl, hb3⟩))
  have HB2 := Lib.hid (below_then HB.out (below_then (drew_below hb2) hb3))
  clear hb2 hb3 hb2'
  all_goals cases r
  all_goals
    go_wp2
    go_ret2
    exact ⟨rfl, HB2.out⟩
set_option maxHeartbeats 2000000 in
theorem valid2y (v n : Int) (w : World) : Calls Tryz.prog 185 #[stV ⟨2, v, n, 0, 0, 0⟩] w (BelO w (if2 v n) (varOk v && (decide (0 ≤ n) && decide (n ≤ 3)))) := by
  generalize hr : (varOk v && (decide (0 ≤ n) && decide (n ≤ 3))) = r
  have HR := Lib.hid hr
  have hq : ∀ w, (Op.equalIn 10000 112 (stV ⟨2, v, n, 0, 0, 0⟩) (stV ⟨2, v, n, 0, 0, 0⟩)).run Tryz.prog w = .ok true w := fun w => by rw [run_eqSt]; simp [eqSt]
  have hm := meth2 v n
  have hx := Box.new w #[.int .i64 2, .int .i64 v, .int .i64 n, .int .i64 0, .int .i64 0, .int .i64 0] 112
  clear hr
  go_enter Tryz.func185, Tryz.ntmps185
  go_wp2_with (go_at_call 222; refine (of2 v n 0 0 0 _).mono ?_; rintro e w1 ⟨rfl, hb1⟩)
  have hcs : w1.cell? ⟨w.heap.size, 0, none⟩ = some (.int .i64 2) ∧ w1.cell? ⟨w.heap.size, 1, none⟩ = some (.int .i64 v) ∧ w1.cell? ⟨w.heap.size, 2, none⟩ = some (.int .i64 n) ∧ w1.cell? ⟨w.heap.size, 3, none⟩ = some (.int .i64 0) ∧ w1.cell? ⟨w.heap.size, 4, none⟩ = some (.int .i64 0) ∧ w1.cell? ⟨w.heap.size, 5, none⟩ = some (.int .i64 0) := by
    have hx1 := hx.below hb1
    exact ⟨hx1.cell 0, hx1.cell 1, hx1.cell 2, hx1.cell 3, hx1.cell 4, hx1.cell 5⟩
  have hlt := (hx.below hb1).lt
  have HB := Lib.hid (below_then (below_new w _) hb1)
  clear hx hb1
  go_region_held3 (fun w' => w'.cell? ⟨w.heap.size, 0, none⟩ = some (.int .i64 2) ∧ w'.cell? ⟨w.heap.size, 1, none⟩ = some (.int .i64 v) ∧ w'.cell? ⟨w.heap.size, 2, none⟩ = some (.int .i64 n) ∧ w'.cell? ⟨w.heap.size, 3, none⟩ = some (.int .i64 0) ∧ w'.cell? ⟨w.heap.size, 4, none⟩ = some (.int .i64 0) ∧ w'.cell? ⟨w.heap.size, 5, none⟩ = some (.int .i64 0))
    (first | go_keep | (exact held6 (by assumption) (by assumption) (by assumption)))
    (first
      | (go_at_call 283; refine (stmt_m2 v n _).mono ?_; rintro e w2 ⟨rfl, hb2⟩; have hb2' := drew_below hb2; have hlt2 := Nat.lt_of_lt_of_le hlt hb2'.size)
      | (go_at_call 223; refine (fields2 v n _ HR.out _).mono ?_; rintro e w3 ⟨rfl, hb3⟩))
  have HB2 := Lib.hid (below_then HB.out (below_then (drew_below hb2) hb3))
  clear hb2 hb3 hb2'
  all_goals cases r
  all_goals
    go_wp2
    go_ret2
    exact ⟨rfl, HB2.out⟩
set_option maxHeartbeats 2000000 in
theorem valid3y (o a b : Int) (w : World) : Calls Tryz.prog 185 #[stV ⟨3, 0, 0, o, a, b⟩] w (BelO w (if3 o a b) (exprOk o a b)) := by
  generalize hr : (exprOk o a b) = r
  have HR := Lib.hid hr
  have hq : ∀ w, (Op.equalIn 10000 112 (stV ⟨3, 0, 0, o, a, b⟩) (stV ⟨3, 0, 0, o, a, b⟩)).run Tryz.prog w = .ok true w := fun w => by rw [run_eqSt]; simp [eqSt]
  have hm := meth3 o a b
  have hx := Box.new w #[.int .i64 3, .int .i64 0, .int .i64 0, .int .i64 o, .int .i64 a, .int .i64 b] 112
  clear hr
  go_enter Tryz.func185, Tryz.ntmps185
  go_wp2_with (go_at_call 222; refine (of3 0 0 o a b _).mono ?_; rintro e w1 ⟨rfl, hb1⟩)
  have hcs : w1.cell? ⟨w.heap.size, 0, none⟩ = some (.int .i64 3) ∧ w1.cell? ⟨w.heap.size, 1, none⟩ = some (.int .i64 0) ∧ w1.cell? ⟨w.heap.size, 2, none⟩ = some (.int .i64 0) ∧ w1.cell? ⟨w.heap.size, 3, none⟩ = some (.int .i64 o) ∧ w1.cell? ⟨w.heap.size, 4, none⟩ = some (.int .i64 a) ∧ w1.cell? ⟨w.heap.size, 5, none⟩ = some (.int .i64 b) := by
    have hx1 := hx.below hb1
    exact ⟨hx1.cell 0, hx1.cell 1, hx1.cell 2, hx1.cell 3, hx1.cell 4, hx1.cell 5⟩
  have hlt := (hx.below hb1).lt
  have HB := Lib.hid (below_then (below_new w _) hb1)
  clear hx hb1
  go_region_held3 (fun w' => w'.cell? ⟨w.heap.size, 0, none⟩ = some (.int .i64 3) ∧ w'.cell? ⟨w.heap.size, 1, none⟩ = some (.int .i64 0) ∧ w'.cell? ⟨w.heap.size, 2, none⟩ = some (.int .i64 0) ∧ w'.cell? ⟨w.heap.size, 3, none⟩ = some (.int .i64 o) ∧ w'.cell? ⟨w.heap.size, 4, none⟩ = some (.int .i64 a) ∧ w'.cell? ⟨w.heap.size, 5, none⟩ = some (.int .i64 b))
    (first | go_keep | (exact held6 (by assumption) (by assumption) (by assumption)))
    (first
      | (go_at_call 284; refine (stmt_m3 o a b _).mono ?_; rintro e w2 ⟨rfl, hb2⟩; have hb2' := drew_below hb2; have hlt2 := Nat.lt_of_lt_of_le hlt hb2'.size)
      | (go_at_call 223; refine (fields3 o a b _ HR.out _).mono ?_; rintro e w3 ⟨rfl, hb3⟩))
  have HB2 := Lib.hid (below_then HB.out (below_then (drew_below hb2) hb3))
  clear hb2 hb3 hb2'
  all_goals cases r
  all_goals
    go_wp2
    go_ret2
    exact ⟨rfl, HB2.out⟩
set_option maxHeartbeats 2000000 in
theorem valid4y (o a b : Int) (w : World) : Calls Tryz.prog 185 #[stV ⟨4, 0, 0, o, a, b⟩] w (BelO w (if4 o a b) (exprOk o a b)) := by
  generalize hr : (exprOk o a b) = r
  have HR := Lib.hid hr
  have hq : ∀ w, (Op.equalIn 10000 112 (stV ⟨4, 0, 0, o, a, b⟩) (stV ⟨4, 0, 0, o, a, b⟩)).run Tryz.prog w = .ok true w := fun w => by rw [run_eqSt]; simp [eqSt]
  have hm := meth4 o a b
  have hx := Box.new w #[.int .i64 4, .int .i64 0, .int .i64 0, .int .i64 o, .int .i64 a, .int .i64 b] 112
  clear hr
  go_enter Tryz.func185, Tryz.ntmps185
  go_wp2_with (go_at_call 222; refine (of4 0 0 o a b _).mono ?_; rintro e w1 ⟨rfl, hb1⟩)
  have hcs : w1.cell? ⟨w.heap.size, 0, none⟩ = some (.int .i64 4) ∧ w1.cell? ⟨w.heap.size, 1, none⟩ = some (.int .i64 0) ∧ w1.cell? ⟨w.heap.size, 2, none⟩ = some (.int .i64 0) ∧ w1.cell? ⟨w.heap.size, 3, none⟩ = some (.int .i64 o) ∧ w1.cell? ⟨w.heap.size, 4, none⟩ = some (.int .i64 a) ∧ w1.cell? ⟨w.heap.size, 5, none⟩ = some (.int .i64 b) := by
    have hx1 := hx.below hb1
    exact ⟨hx1.cell 0, hx1.cell 1, hx1.cell 2, hx1.cell 3, hx1.cell 4, hx1.cell 5⟩
  have hlt := (hx.below hb1).lt
  have HB := Lib.hid (below_then (below_new w _) hb1)
  clear hx hb1
  go_region_held3 (fun w' => w'.cell? ⟨w.heap.size, 0, none⟩ = some (.int .i64 4) ∧ w'.cell? ⟨w.heap.size, 1, none⟩ = some (.int .i64 0) ∧ w'.cell? ⟨w.heap.size, 2, none⟩ = some (.int .i64 0) ∧ w'.cell? ⟨w.heap.size, 3, none⟩ = some (.int .i64 o) ∧ w'.cell? ⟨w.heap.size, 4, none⟩ = some (.int .i64 a) ∧ w'.cell? ⟨w.heap.size, 5, none⟩ = some (.int .i64 b))
    (first | go_keep | (exact held6 (by assumption) (by assumption) (by assumption)))
    (first
      | (go_at_call 285; refine (stmt_m4 o a b _).mono ?_; rintro e w2 ⟨rfl, hb2⟩; have hb2' := drew_below hb2; have hlt2 := Nat.lt_of_lt_of_le hlt hb2'.size)
      | (go_at_call 223; refine (fields4 o a b _ HR.out _).mono ?_; rintro e w3 ⟨rfl, hb3⟩))
  have HB2 := Lib.hid (below_then HB.out (below_then (drew_below hb2) hb3))
  clear hb2 hb3 hb2'
  all_goals cases r
  all_goals
    go_wp2
    go_ret2
    exact ⟨rfl, HB2.out⟩
set_option maxHeartbeats 2000000 in
theorem valid5y (n : Int) (w : World) : Calls Tryz.prog 185 #[stV ⟨5, 0, n, 0, 0, 0⟩] w (BelO w (if5 n) (decide (1 ≤ n) && decide (n ≤ 5))) := by
  generalize hr : (decide (1 ≤ n) && decide (n ≤ 5)) = r
  have HR := Lib.hid hr
  have hq : ∀ w, (Op.equalIn 10000 112 (stV ⟨5, 0, n, 0, 0, 0⟩) (stV ⟨5, 0, n, 0, 0, 0⟩)).run Tryz.prog w = .ok true w := fun w => by rw [run_eqSt]; simp [eqSt]
  have hm := meth5 n
  have hx := Box.new w #[.int .i64 5, .int .i64 0, .int .i64 n, .int .i64 0, .int .i64 0, .int .i64 0] 112
  clear hr
  go_enter Tryz.func185, Tryz.ntmps185
  go_wp2_with (go_at_call 222; refine (of5 0 n 0 0 0 _).mono ?_; rintro e w1 ⟨rfl, hb1⟩)
  have hcs : w1.cell? ⟨w.heap.size, 0, none⟩ = some (.int .i64 5) ∧ w1.cell? ⟨w.heap.size, 1, none⟩ = some (.int .i64 0) ∧ w1.cell? ⟨w.heap.size, 2, none⟩ = some (.int .i64 n) ∧ w1.cell? ⟨w.heap.size, 3, none⟩ = some (.int .i64 0) ∧ w1.cell? ⟨w.heap.size, 4, none⟩ = some (.int .i64 0) ∧ w1.cell? ⟨w.heap.size, 5, none⟩ = some (.int .i64 0) := by
    have hx1 := hx.below hb1
    exact ⟨hx1.cell 0, hx1.cell 1, hx1.cell 2, hx1.cell 3, hx1.cell 4, hx1.cell 5⟩
  have hlt := (hx.below hb1).lt
  have HB := Lib.hid (below_then (below_new w _) hb1)
  clear hx hb1
  go_region_held3 (fun w' => w'.cell? ⟨w.heap.size, 0, none⟩ = some (.int .i64 5) ∧ w'.cell? ⟨w.heap.size, 1, none⟩ = some (.int .i64 0) ∧ w'.cell? ⟨w.heap.size, 2, none⟩ = some (.int .i64 n) ∧ w'.cell? ⟨w.heap.size, 3, none⟩ = some (.int .i64 0) ∧ w'.cell? ⟨w.heap.size, 4, none⟩ = some (.int .i64 0) ∧ w'.cell? ⟨w.heap.size, 5, none⟩ = some (.int .i64 0))
    (first | go_keep | (exact held6 (by assumption) (by assumption) (by assumption)))
    (first
      | (go_at_call 286; refine (stmt_m5 n _).mono ?_; rintro e w2 ⟨rfl, hb2⟩; have hb2' := drew_below hb2; have hlt2 := Nat.lt_of_lt_of_le hlt hb2'.size)
      | (go_at_call 223; refine (fields5 n _ HR.out _).mono ?_; rintro e w3 ⟨rfl, hb3⟩))
  have HB2 := Lib.hid (below_then HB.out (below_then (drew_below hb2) hb3))
  clear hb2 hb3 hb2'
  all_goals cases r
  all_goals
    go_wp2
    go_ret2
    exact ⟨rfl, HB2.out⟩
set_option maxHeartbeats 2000000 in
theorem valid6y (w : World) : Calls Tryz.prog 185 #[stV ⟨6, 0, 0, 0, 0, 0⟩] w (BelO w (if6 ) (true)) := by
  have hq : ∀ w, (Op.equalIn 10000 112 (stV ⟨6, 0, 0, 0, 0, 0⟩) (stV ⟨6, 0, 0, 0, 0, 0⟩)).run Tryz.prog w = .ok true w := fun w => by rw [run_eqSt]; simp [eqSt]
  have hm := meth6 
  have hx := Box.new w #[.int .i64 6, .int .i64 0, .int .i64 0, .int .i64 0, .int .i64 0, .int .i64 0] 112
  go_enter Tryz.func185, Tryz.ntmps185
  go_wp2_with (go_at_call 222; refine (of6 0 0 0 0 0 _).mono ?_; rintro e w1 ⟨rfl, hb1⟩)
  have hcs : w1.cell? ⟨w.heap.size, 0, none⟩ = some (.int .i64 6) ∧ w1.cell? ⟨w.heap.size, 1, none⟩ = some (.int .i64 0) ∧ w1.cell? ⟨w.heap.size, 2, none⟩ = some (.int .i64 0) ∧ w1.cell? ⟨w.heap.size, 3, none⟩ = some (.int .i64 0) ∧ w1.cell? ⟨w.heap.size, 4, none⟩ = some (.int .i64 0) ∧ w1.cell? ⟨w.heap.size, 5, none⟩ = some (.int .i64 0) := by
    have hx1 := hx.below hb1
    exact ⟨hx1.cell 0, hx1.cell 1, hx1.cell 2, hx1.cell 3, hx1.cell 4, hx1.cell 5⟩
  have hlt := (hx.below hb1).lt
  have HB := Lib.hid (below_then (below_new w _) hb1)
  clear hx hb1
  go_region_held3 (fun w' => w'.cell? ⟨w.heap.size, 0, none⟩ = some (.int .i64 6) ∧ w'.cell? ⟨w.heap.size, 1, none⟩ = some (.int .i64 0) ∧ w'.cell? ⟨w.heap.size, 2, none⟩ = some (.int .i64 0) ∧ w'.cell? ⟨w.heap.size, 3, none⟩ = some (.int .i64 0) ∧ w'.cell? ⟨w.heap.size, 4, none⟩ = some (.int .i64 0) ∧ w'.cell? ⟨w.heap.size, 5, none⟩ = some (.int .i64 0))
    (first | go_keep | (exact held6 (by assumption) (by assumption) (by assumption)))
    (first
      | (go_at_call 287; refine (stmt_m6  _).mono ?_; rintro e w2 ⟨rfl, hb2⟩; have hb2' := drew_below hb2; have hlt2 := Nat.lt_of_lt_of_le hlt hb2'.size)
      | (go_at_call 223; refine (fields6  _ rfl _).mono ?_; rintro e w3 ⟨rfl, hb3⟩))
  have HB2 := Lib.hid (below_then HB.out (below_then (drew_below hb2) hb3))
  clear hb2 hb3 hb2'
  all_goals
    go_wp2
    go_ret2
    exact ⟨rfl, HB2.out⟩
/-- A statement as a value of its own type. -/
def ifSt (s : St) : Value :=
  if s.k = 1 then if1 s.v s.o s.a s.b else if s.k = 2 then if2 s.v s.n else if s.k = 3 then if3 s.o s.a s.b else if s.k = 4 then if4 s.o s.a s.b else if s.k = 5 then if5 s.n else if s.k = 6 then if6 else .nilIface
theorem eqSt_symm (s t : St) : eqSt s t = eqSt t s := by rw [Bool.eq_iff_iff]; simp [eqSt, eq_comm]
theorem valid_any (s : St) (w : World) : Calls Tryz.prog 185 #[stV s] w (BelO w (ifSt s) (stOk s)) := by
  obtain ⟨k, v, n, o, a, b⟩ := s
  rcases kinds k with rfl | rfl | rfl | rfl | rfl | rfl | ⟨h1, h2, h3, h4, h5, h6⟩
  · cases hqb : eqSt ⟨1, v, 0, o, a, b⟩ ⟨1, v, n, o, a, b⟩
    · have hn : stOk ⟨1, v, n, o, a, b⟩ = false := not_plain (t := ⟨1, v, 0, o, a, b⟩) rfl (by rw [eqSt_symm]; exact hqb)
      rw [hn]; exact valid1n v n o a b hqb w
    · obtain rfl : 0 = n := by simpa [eqSt] using hqb
      rw [stOk1]; exact valid1y v o a b w
  · cases hqb : eqSt ⟨2, v, n, 0, 0, 0⟩ ⟨2, v, n, o, a, b⟩
    · have hn : stOk ⟨2, v, n, o, a, b⟩ = false := not_plain (t := ⟨2, v, n, 0, 0, 0⟩) rfl (by rw [eqSt_symm]; exact hqb)
      rw [hn]; exact valid2n v n o a b hqb w
    · obtain ⟨rfl, rfl, rfl⟩ : 0 = o ∧ 0 = a ∧ 0 = b := by simpa [eqSt] using hqb
      rw [stOk2]; exact valid2y v n w
  · cases hqb : eqSt ⟨3, 0, 0, o, a, b⟩ ⟨3, v, n, o, a, b⟩
    · have hn : stOk ⟨3, v, n, o, a, b⟩ = false := not_plain (t := ⟨3, 0, 0, o, a, b⟩) rfl (by rw [eqSt_symm]; exact hqb)
      rw [hn]; exact valid3n v n o a b hqb w
    · obtain ⟨rfl, rfl⟩ : 0 = v ∧ 0 = n := by simpa [eqSt] using hqb
      rw [stOk3]; exact valid3y o a b w
  · cases hqb : eqSt ⟨4, 0, 0, o, a, b⟩ ⟨4, v, n, o, a, b⟩
    · have hn : stOk ⟨4, v, n, o, a, b⟩ = false := not_plain (t := ⟨4, 0, 0, o, a, b⟩) rfl (by rw [eqSt_symm]; exact hqb)
      rw [hn]; exact valid4n v n o a b hqb w
    · obtain ⟨rfl, rfl⟩ : 0 = v ∧ 0 = n := by simpa [eqSt] using hqb
      rw [stOk4]; exact valid4y o a b w
  · cases hqb : eqSt ⟨5, 0, n, 0, 0, 0⟩ ⟨5, v, n, o, a, b⟩
    · have hn : stOk ⟨5, v, n, o, a, b⟩ = false := not_plain (t := ⟨5, 0, n, 0, 0, 0⟩) rfl (by rw [eqSt_symm]; exact hqb)
      rw [hn]; exact valid5n v n o a b hqb w
    · obtain ⟨rfl, rfl, rfl, rfl⟩ : 0 = v ∧ 0 = o ∧ 0 = a ∧ 0 = b := by simpa [eqSt] using hqb
      rw [stOk5]; exact valid5y n w
  · cases hqb : eqSt ⟨6, 0, 0, 0, 0, 0⟩ ⟨6, v, n, o, a, b⟩
    · have hn : stOk ⟨6, v, n, o, a, b⟩ = false := not_plain (t := ⟨6, 0, 0, 0, 0, 0⟩) rfl (by rw [eqSt_symm]; exact hqb)
      rw [hn]; exact valid6n v n o a b hqb w
    · obtain ⟨rfl, rfl, rfl, rfl, rfl⟩ : 0 = v ∧ 0 = n ∧ 0 = o ∧ 0 = a ∧ 0 = b := by simpa [eqSt] using hqb
      rw [stOk6]; exact valid6y  w
  · rw [stOk_other h1 h2 h3 h4 h5 h6]; exact valid7 k v n o a b h1 h2 h3 h4 h5 h6 w
theorem impl_stmtok (s : St) (r : Bool) (hr : stOk s = r) (w : World) : Calls Tryz.prog 141 #[stV s] w (BelB w r) := by
  subst hr
  have H := Lib.hid (valid_any s)
  go_enter Tryz.func141, Tryz.ntmps141
  go_wp2_with (go_at_call 185; refine (H.out _).mono ?_; rintro e w1 ⟨rfl, hb1⟩)
  have HB := Lib.hid (below_then (below_new w _) hb1)
  clear hb1
  go_wp2
  go_ret
  exact ⟨rfl, HB.out⟩
end Go.Proofs.YtmgeecdgebemdaaGreatDoor.stm
