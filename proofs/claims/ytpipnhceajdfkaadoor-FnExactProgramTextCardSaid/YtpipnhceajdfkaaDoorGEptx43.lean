/- Several texts in one: TexN. -/
import Derived.Test.YtpipnhceajdfkaaDoorGEptx21
import Derived.Test.YtpipnhceajdfkaaDoorGEptx32

/- The program's wordAndNumbers: a statement's word and its numbers, in the order of its text. -/
namespace Go.Proofs.YtpipnhceajdfkaaDoor.tex
open Go Go.ChangeShapes Go.WideShapes Go.ChangeAt Go.RowKit Go.Proofs.YtpipnhceajdfkaaDoor.row Go.Proofs.YtpipnhceajdfkaaDoor.stm Go.Proofs.YtpipnhceajdfkaaDoor.expr

/-- The call returns this word and these numbers. -/
def WnO (w : World) (k : Int) (L : List Int) (e : Ending) (w' : World) : Prop :=
  ∃ (a : Option Addr) (c : Nat), e = .returned (.tuple #[.string ⟨(word k).toArray⟩, .slice a L.length c]) ∧ Row w' a L.length L ∧ Below w.heap.size w w'
theorem row_made (w : World) (L : List Int) (t : TypeId) : Row (w.alloc (.cells (ivs L).toArray t)) (some ⟨w.heap.size, 0, none⟩) L.length L :=
  ⟨rfl, fun k hk => ⟨w.heap.size, 0, L[k], rfl, by simp, by simp [hk], by rw [new_cell]; simp [ivs, hk]⟩⟩
theorem row_made1 (w : World) (o : Obj) (L : List Int) (t : TypeId) : Row ((w.alloc o).alloc (.cells (ivs L).toArray t)) (some ⟨w.heap.size + 1, 0, none⟩) L.length L := by
  have h := row_made (w.alloc o) L t
  rw [World.size_alloc] at h
  exact h
theorem row_none (w : World) : Row w none 0 [] := ⟨rfl, fun k hk => by omega⟩
set_option maxHeartbeats 1000000 in
theorem wn1 (v o a b : Int) (w : World) : Calls Tryd.prog 27 #[if1 v o a b] w (WnO w 1 [v, o, a, b]) := by
  have t1 := as1_yes (.agg #[.int .i64 v, .int .i64 o, .int .i64 a, .int .i64 b])
  go_enter Tryd.func27, Tryd.ntmps27
  go_wp2
  go_region
  go_wp2
  go_ret2
  exact ⟨_, _, rfl, row_made1 w _ [v, o, a, b] _, Below.drew (((Below.refl _ w).alloc (Nat.le_refl _) _).alloc (by simp) _)⟩
set_option maxHeartbeats 1000000 in
theorem wn2 (v n : Int) (w : World) : Calls Tryd.prog 27 #[if2 v n] w (WnO w 2 [v, n]) := by
  have t2 := as2_yes (.agg #[.int .i64 v, .int .i64 n])
  have t1 := as2_no1 (.agg #[.int .i64 v, .int .i64 n])
  go_enter Tryd.func27, Tryd.ntmps27
  go_wp2
  go_region
  go_wp2
  go_ret2
  exact ⟨_, _, rfl, row_made1 w _ [v, n] _, Below.drew (((Below.refl _ w).alloc (Nat.le_refl _) _).alloc (by simp) _)⟩
set_option maxHeartbeats 1000000 in
theorem wn3 (o a b : Int) (w : World) : Calls Tryd.prog 27 #[if3 o a b] w (WnO w 3 [o, a, b]) := by
  have t3 := as3_yes (.agg #[.int .i64 o, .int .i64 a, .int .i64 b])
  have t1 := as3_no1 (.agg #[.int .i64 o, .int .i64 a, .int .i64 b])
  have t2 := as3_no2 (.agg #[.int .i64 o, .int .i64 a, .int .i64 b])
  go_enter Tryd.func27, Tryd.ntmps27
  go_wp2
  go_region
  go_wp2
  go_ret2
  exact ⟨_, _, rfl, row_made1 w _ [o, a, b] _, Below.drew (((Below.refl _ w).alloc (Nat.le_refl _) _).alloc (by simp) _)⟩
set_option maxHeartbeats 1000000 in
theorem wn4 (o a b : Int) (w : World) : Calls Tryd.prog 27 #[if4 o a b] w (WnO w 4 [o, a, b]) := by
  have t4 := as4_yes (.agg #[.int .i64 o, .int .i64 a, .int .i64 b])
  have t1 := as4_no1 (.agg #[.int .i64 o, .int .i64 a, .int .i64 b])
  have t2 := as4_no2 (.agg #[.int .i64 o, .int .i64 a, .int .i64 b])
  have t3 := as4_no3 (.agg #[.int .i64 o, .int .i64 a, .int .i64 b])
  go_enter Tryd.func27, Tryd.ntmps27
  go_wp2
  go_region
  go_wp2
  go_ret2
  exact ⟨_, _, rfl, row_made1 w _ [o, a, b] _, Below.drew (((Below.refl _ w).alloc (Nat.le_refl _) _).alloc (by simp) _)⟩
set_option maxHeartbeats 1000000 in
theorem wn5 (n : Int) (w : World) : Calls Tryd.prog 27 #[if5 n] w (WnO w 5 [n]) := by
  have t5 := as5_yes (.agg #[.int .i64 n])
  have t1 := as5_no1 (.agg #[.int .i64 n])
  have t2 := as5_no2 (.agg #[.int .i64 n])
  have t3 := as5_no3 (.agg #[.int .i64 n])
  have t4 := as5_no4 (.agg #[.int .i64 n])
  go_enter Tryd.func27, Tryd.ntmps27
  go_wp2
  go_region
  go_wp2
  go_ret2
  exact ⟨_, _, rfl, row_made1 w _ [n] _, Below.drew (((Below.refl _ w).alloc (Nat.le_refl _) _).alloc (by simp) _)⟩
set_option maxHeartbeats 1000000 in
theorem wn6 (w : World) : Calls Tryd.prog 27 #[if6 ] w (WnO w 6 []) := by
  have t6 := as6_yes (.agg #[])
  have t1 := as6_no1 (.agg #[])
  have t2 := as6_no2 (.agg #[])
  have t3 := as6_no3 (.agg #[])
  have t4 := as6_no4 (.agg #[])
  have t5 := as6_no5 (.agg #[])
  go_enter Tryd.func27, Tryd.ntmps27
  go_wp2
  go_ret2
  exact ⟨_, _, rfl, row_none _, (Below.refl _ w).alloc (Nat.le_refl _) _⟩
theorem wn_any (s : S) (h : stOk s = true) (w : World) : Calls Tryd.prog 27 #[ifSt s] w (WnO w s.k (nums s)) := by
  rcases st_form h with ⟨v, o, a, b, rfl, hv, he⟩ | ⟨v, n, rfl, hv, h0, h1⟩ | ⟨o, a, b, rfl, he⟩ | ⟨o, a, b, rfl, he⟩ | ⟨n, rfl, h0, h1⟩ | rfl
  · exact wn1 v o a b w
  · exact wn2 v n w
  · exact wn3 o a b w
  · exact wn4 o a b w
  · exact wn5 n w
  · exact wn6 w
theorem valid_ok (s : S) (h : stOk s = true) (w : World) : Calls Tryd.prog 25 #[stV s] w (BelP w (ifSt s) true) := by
  have := valid_any s w
  rw [h] at this
  exact this
theorem valid_bad (s : S) (h : stOk s = false) (w : World) : Calls Tryd.prog 25 #[stV s] w (BelP w .nilIface false) := by
  have := valid_any s w
  rw [h] at this
  exact this
end Go.Proofs.YtpipnhceajdfkaaDoor.tex
