/- Several texts in one: TexG. -/
import Derived.Test.YtpipnhceajdfkaaGreatDoorGEppg8
import Derived.Test.YtpipnhceajdfkaaGreatDoorGEppg21
import Derived.Test.YtpipnhceajdfkaaGreatDoorGEppg24
import Derived.Test.YtpipnhceajdfkaaGreatDoorGEppg25

/- Chapter 4's FormatStmt of the model: it is the statement's text; nothing that was there is written. -/
namespace Go.Proofs.YtpipnhceajdfkaaGreatDoor.tex
open Go Go.ChangeShapes Go.WideShapes Go.ChangeAt Go.RowKit Go.Proofs.YtpipnhceajdfkaaGreatDoor.row Go.Proofs.YtpipnhceajdfkaaGreatDoor.val Go.Proofs.YtpipnhceajdfkaaGreatDoor.stm Go.Proofs.YtpipnhceajdfkaaGreatDoor.expr Go.Proofs.YtpipnhceajdfkaaGreatDoor.dec Go.Proofs.YtpipnhceajdfkaaGreatDoor.pu

theorem held3 {w w' : World} {g : Nat} {x y z : Value} (hb : Below w.heap.size w w') (hg : g < w.heap.size) (h : w.cell? ⟨g, 0, none⟩ = some x ∧ w.cell? ⟨g, 1, none⟩ = some y ∧ w.cell? ⟨g, 2, none⟩ = some z) :
    w'.cell? ⟨g, 0, none⟩ = some x ∧ w'.cell? ⟨g, 1, none⟩ = some y ∧ w'.cell? ⟨g, 2, none⟩ = some z :=
  ⟨(hb.cell (p := ⟨g, 0, none⟩) hg).trans h.1, (hb.cell (p := ⟨g, 1, none⟩) hg).trans h.2.1, (hb.cell (p := ⟨g, 2, none⟩) hg).trans h.2.2⟩
/-- Two short texts, one behind the other. -/
theorem addS (A B : List UInt8) (h : A.length + B.length ≤ 100000) : ∃ X : List UInt8, X = A ++ B ∧ ∀ w' : World, (Op.stringOp .add ⟨A.toArray⟩ ⟨B.toArray⟩).run Tryz.prog w' = .ok (.string ⟨X.toArray⟩) w' :=
  ⟨A ++ B, rfl, fun w' => by rw [run_string_add_sum (P := Tryz.prog) w' ⟨A.toArray⟩ ⟨B.toArray⟩ (by simp [ByteArray.size]; omega), str_app]⟩
/-- The three numbers of an expression, a space ahead of each. -/
def exT (o a b : Int) : List UInt8 := Lib.joinTail [32] ([o, a, b].map Lib.itoa)
theorem exT_eq (o a b : Int) : exT o a b = [32] ++ Lib.itoa o ++ [32] ++ Lib.itoa a ++ [32] ++ Lib.itoa b := by simp [exT, Lib.joinTail]
theorem exT_short {o a b : Int} (ho : Small o) (ha : Small a) (hb : Small b) : (exT o a b).length ≤ 15 := by
  have := itoa_short ho
  have := itoa_short ha
  have := itoa_short hb
  rw [exT_eq]; simp; omega
theorem fmt_small {n : Int} (h : Small n) (w : World) : Calls Tryz.prog 50 #[.int .i64 n] w (RetS w (Lib.itoa n)) := by
  unfold Small at h; exact fmt_any n (by omega) (by omega) w
set_option maxHeartbeats 2000000 in
theorem spec_l04expr (o a b : Int) (ho : Small o) (ha : Small a) (hb : Small b) (w : World) : Calls Tryz.prog 46 #[ev o a b] w (RetS w (exT o a b)) := by
  have HO := Lib.hid ho
  have HA := Lib.hid ha
  have HB := Lib.hid hb
  have hso := itoa_short ho
  have hsa := itoa_short ha
  have hsb := itoa_short hb
  obtain ⟨X1, e1, q1⟩ := addS [32] (Lib.itoa o) (by simp; omega)
  obtain ⟨X2, e2, q2⟩ := addS X1 [32] (by rw [e1]; simp; omega)
  obtain ⟨X3, e3, q3⟩ := addS X2 (Lib.itoa a) (by rw [e2, e1]; simp; omega)
  obtain ⟨X4, e4, q4⟩ := addS X3 [32] (by rw [e3, e2, e1]; simp; omega)
  obtain ⟨X5, e5, q5⟩ := addS X4 (Lib.itoa b) (by rw [e4, e3, e2, e1]; simp; omega)
  have HE := Lib.hid (show exT o a b = X5 by rw [e5, e4, e3, e2, e1, exT_eq])
  have hl0 : w.heap.size < (w.alloc (.cells #[.int .i64 o, .int .i64 a, .int .i64 b] 40)).heap.size := by simp
  clear ho ha hb e1 e2 e3 e4 e5 hso hsa hsb
  go_enter Tryz.func46, Tryz.ntmps46
  go_wp2
  go_region_held3 (fun w' => w'.cell? ⟨w.heap.size, 0, none⟩ = some (.int .i64 o) ∧ w'.cell? ⟨w.heap.size, 1, none⟩ = some (.int .i64 a) ∧ w'.cell? ⟨w.heap.size, 2, none⟩ = some (.int .i64 b))
    (first | go_keep | (exact held3 (by assumption) (by assumption) (by assumption)))
    (first
      | (go_at_call 50; (with_reducible refine (fmt_small HO.out _).mono ?_); rintro e w1 ⟨rfl, hb1⟩; replace hb1 := drew_below hb1; have hl1 := Nat.lt_of_lt_of_le hl0 hb1.size)
      | (go_at_call 50; (with_reducible refine (fmt_small HA.out _).mono ?_); rintro e w2 ⟨rfl, hb2⟩; have hl2 := Nat.lt_of_lt_of_le hl1 hb2.size)
      | (go_at_call 50; (with_reducible refine (fmt_small HB.out _).mono ?_); rintro e w3 ⟨rfl, hb3⟩))
  go_wp2
  go_ret
  exact ⟨by rw [HE.out]; rfl, below_then (below_then (below_then (below_new w _) hb1) hb2) hb3⟩
set_option maxHeartbeats 2000000 in
theorem spec_fmt1 (v o a b : Int) (hv : Small v) (ho : Small o) (ha : Small a) (hb : Small b) (hs : stOk ⟨1, v, 0, o, a, b⟩ = true) (w : World) : Calls Tryz.prog 24 #[stV ⟨1, v, 0, o, a, b⟩] w (RetS w (text ⟨1, v, 0, o, a, b⟩)) := by
  have HS := Lib.hid hs
  have HV := Lib.hid hv
  have hsv := itoa_short hv
  have HO := Lib.hid ho
  have hso := itoa_short ho
  have HA := Lib.hid ha
  have hsa := itoa_short ha
  have HB := Lib.hid hb
  have hsb := itoa_short hb
  have hse := exT_short ho ha hb
  obtain ⟨X1, e1, q1⟩ := addS [115, 101, 116, 32] (Lib.itoa v) (by simp; omega)
  obtain ⟨X2, e2, q2⟩ := addS X1 (exT o a b) (by rw [e1]; simp; omega)
  have HE := Lib.hid (show text ⟨1, v, 0, o, a, b⟩ = X2 by rw [e2, e1, exT_eq]; simp [text, flds, word, nums, Lib.join_cons, Lib.joinTail])
  clear e1 e2 hse
  clear hs hv hsv ho hso ha hsa hb hsb
  have hl0 : w.heap.size < (w.alloc (.cells #[.int .i64 1, .int .i64 v, .int .i64 0, .int .i64 o, .int .i64 a, .int .i64 b] 45)).heap.size := by simp
  go_enter Tryz.func24, Tryz.ntmps24
  go_wp2_with (go_at_call 49; refine (spec_stmtok ⟨1, v, 0, o, a, b⟩ true HS.out _).mono ?_; rintro e w1 ⟨rfl, hb1⟩; have hc1 := held6 hb1 hl0 ⟨new_cell w _ _ 0, new_cell w _ _ 1, new_cell w _ _ 2, new_cell w _ _ 3, new_cell w _ _ 4, new_cell w _ _ 5⟩; have hl1 := Nat.lt_of_lt_of_le hl0 hb1.size)
  go_region_held3 (fun w' => w'.cell? ⟨w.heap.size, 0, none⟩ = some (.int .i64 1) ∧ w'.cell? ⟨w.heap.size, 1, none⟩ = some (.int .i64 v) ∧ w'.cell? ⟨w.heap.size, 2, none⟩ = some (.int .i64 0) ∧ w'.cell? ⟨w.heap.size, 3, none⟩ = some (.int .i64 o) ∧ w'.cell? ⟨w.heap.size, 4, none⟩ = some (.int .i64 a) ∧ w'.cell? ⟨w.heap.size, 5, none⟩ = some (.int .i64 b))
    (first | go_keep | (exact held6 (by assumption) (by assumption) (by assumption)))
    (first
      | (go_at_call 50; (with_reducible refine (fmt_small HV.out _).mono ?_); rintro e w2 ⟨rfl, hb2⟩; replace hb2 := drew_below hb2; have hl2 := Nat.lt_of_lt_of_le hl1 hb2.size)
      | (go_at_call 46; (with_reducible refine (spec_l04expr o a b HO.out HA.out HB.out _).mono ?_); rintro e w3 ⟨rfl, hb3⟩))
  go_wp2
  go_ret
  exact ⟨by rw [HE.out]; rfl, below_then (below_then (below_then (below_new w _) hb1) hb2) hb3⟩
set_option maxHeartbeats 2000000 in
theorem spec_fmt2 (v n : Int) (hv : Small v) (hn : Small n) (hs : stOk ⟨2, v, n, 0, 0, 0⟩ = true) (w : World) : Calls Tryz.prog 24 #[stV ⟨2, v, n, 0, 0, 0⟩] w (RetS w (text ⟨2, v, n, 0, 0, 0⟩)) := by
  have HS := Lib.hid hs
  have HV := Lib.hid hv
  have hsv := itoa_short hv
  have HN := Lib.hid hn
  have hsn := itoa_short hn
  obtain ⟨X1, e1, q1⟩ := addS [115, 101, 110, 115, 101, 32] (Lib.itoa v) (by simp; omega)
  obtain ⟨X2, e2, q2⟩ := addS X1 [32] (by rw [e1]; simp; omega)
  obtain ⟨X3, e3, q3⟩ := addS X2 (Lib.itoa n) (by rw [e2, e1]; simp; omega)
  have HE := Lib.hid (show text ⟨2, v, n, 0, 0, 0⟩ = X3 by rw [e3, e2, e1]; simp [text, flds, word, nums, Lib.join_cons, Lib.joinTail])
  clear e1 e2 e3
  clear hs hv hsv hn hsn
  have hl0 : w.heap.size < (w.alloc (.cells #[.int .i64 2, .int .i64 v, .int .i64 n, .int .i64 0, .int .i64 0, .int .i64 0] 45)).heap.size := by simp
  go_enter Tryz.func24, Tryz.ntmps24
  go_wp2_with (go_at_call 49; refine (spec_stmtok ⟨2, v, n, 0, 0, 0⟩ true HS.out _).mono ?_; rintro e w1 ⟨rfl, hb1⟩; have hc1 := held6 hb1 hl0 ⟨new_cell w _ _ 0, new_cell w _ _ 1, new_cell w _ _ 2, new_cell w _ _ 3, new_cell w _ _ 4, new_cell w _ _ 5⟩; have hl1 := Nat.lt_of_lt_of_le hl0 hb1.size)
  go_region_held3 (fun w' => w'.cell? ⟨w.heap.size, 0, none⟩ = some (.int .i64 2) ∧ w'.cell? ⟨w.heap.size, 1, none⟩ = some (.int .i64 v) ∧ w'.cell? ⟨w.heap.size, 2, none⟩ = some (.int .i64 n) ∧ w'.cell? ⟨w.heap.size, 3, none⟩ = some (.int .i64 0) ∧ w'.cell? ⟨w.heap.size, 4, none⟩ = some (.int .i64 0) ∧ w'.cell? ⟨w.heap.size, 5, none⟩ = some (.int .i64 0))
    (first | go_keep | (exact held6 (by assumption) (by assumption) (by assumption)))
    (first
      | (go_at_call 50; (with_reducible refine (fmt_small HV.out _).mono ?_); rintro e w2 ⟨rfl, hb2⟩; replace hb2 := drew_below hb2; have hl2 := Nat.lt_of_lt_of_le hl1 hb2.size)
      | (go_at_call 50; (with_reducible refine (fmt_small HN.out _).mono ?_); rintro e w3 ⟨rfl, hb3⟩))
  go_wp2
  go_ret
  exact ⟨by rw [HE.out]; rfl, below_then (below_then (below_then (below_new w _) hb1) hb2) hb3⟩
set_option maxHeartbeats 2000000 in
theorem spec_fmt3 (o a b : Int) (ho : Small o) (ha : Small a) (hb : Small b) (hs : stOk ⟨3, 0, 0, o, a, b⟩ = true) (w : World) : Calls Tryz.prog 24 #[stV ⟨3, 0, 0, o, a, b⟩] w (RetS w (text ⟨3, 0, 0, o, a, b⟩)) := by
  have HS := Lib.hid hs
  have HO := Lib.hid ho
  have hso := itoa_short ho
  have HA := Lib.hid ha
  have hsa := itoa_short ha
  have HB := Lib.hid hb
  have hsb := itoa_short hb
  have hse := exT_short ho ha hb
  obtain ⟨X1, e1, q1⟩ := addS [115, 101, 110, 100] (exT o a b) (by simp; omega)
  have HE := Lib.hid (show text ⟨3, 0, 0, o, a, b⟩ = X1 by rw [e1, exT_eq]; simp [text, flds, word, nums, Lib.join_cons, Lib.joinTail])
  clear e1 hse
  clear hs ho hso ha hsa hb hsb
  have hl0 : w.heap.size < (w.alloc (.cells #[.int .i64 3, .int .i64 0, .int .i64 0, .int .i64 o, .int .i64 a, .int .i64 b] 45)).heap.size := by simp
  go_enter Tryz.func24, Tryz.ntmps24
  go_wp2_with (go_at_call 49; refine (spec_stmtok ⟨3, 0, 0, o, a, b⟩ true HS.out _).mono ?_; rintro e w1 ⟨rfl, hb1⟩; have hc1 := held6 hb1 hl0 ⟨new_cell w _ _ 0, new_cell w _ _ 1, new_cell w _ _ 2, new_cell w _ _ 3, new_cell w _ _ 4, new_cell w _ _ 5⟩; have hl1 := Nat.lt_of_lt_of_le hl0 hb1.size)
  go_wp2_with (go_at_call 46; refine (spec_l04expr o a b HO.out HA.out HB.out _).mono ?_; rintro e w2 ⟨rfl, hb2⟩)
  go_ret
  exact ⟨by rw [HE.out]; rfl, below_then (below_then (below_new w _) hb1) hb2⟩
set_option maxHeartbeats 2000000 in
theorem spec_fmt4 (o a b : Int) (ho : Small o) (ha : Small a) (hb : Small b) (hs : stOk ⟨4, 0, 0, o, a, b⟩ = true) (w : World) : Calls Tryz.prog 24 #[stV ⟨4, 0, 0, o, a, b⟩] w (RetS w (text ⟨4, 0, 0, o, a, b⟩)) := by
  have HS := Lib.hid hs
  have HO := Lib.hid ho
  have hso := itoa_short ho
  have HA := Lib.hid ha
  have hsa := itoa_short ha
  have HB := Lib.hid hb
  have hsb := itoa_short hb
  have hse := exT_short ho ha hb
  obtain ⟨X1, e1, q1⟩ := addS [105, 102] (exT o a b) (by simp; omega)
  have HE := Lib.hid (show text ⟨4, 0, 0, o, a, b⟩ = X1 by rw [e1, exT_eq]; simp [text, flds, word, nums, Lib.join_cons, Lib.joinTail])
  clear e1 hse
  clear hs ho hso ha hsa hb hsb
  have hl0 : w.heap.size < (w.alloc (.cells #[.int .i64 4, .int .i64 0, .int .i64 0, .int .i64 o, .int .i64 a, .int .i64 b] 45)).heap.size := by simp
  go_enter Tryz.func24, Tryz.ntmps24
  go_wp2_with (go_at_call 49; refine (spec_stmtok ⟨4, 0, 0, o, a, b⟩ true HS.out _).mono ?_; rintro e w1 ⟨rfl, hb1⟩; have hc1 := held6 hb1 hl0 ⟨new_cell w _ _ 0, new_cell w _ _ 1, new_cell w _ _ 2, new_cell w _ _ 3, new_cell w _ _ 4, new_cell w _ _ 5⟩; have hl1 := Nat.lt_of_lt_of_le hl0 hb1.size)
  go_wp2_with (go_at_call 46; refine (spec_l04expr o a b HO.out HA.out HB.out _).mono ?_; rintro e w2 ⟨rfl, hb2⟩)
  go_ret
  exact ⟨by rw [HE.out]; rfl, below_then (below_then (below_new w _) hb1) hb2⟩
set_option maxHeartbeats 2000000 in
theorem spec_fmt5 (n : Int) (hn : Small n) (hs : stOk ⟨5, 0, n, 0, 0, 0⟩ = true) (w : World) : Calls Tryz.prog 24 #[stV ⟨5, 0, n, 0, 0, 0⟩] w (RetS w (text ⟨5, 0, n, 0, 0, 0⟩)) := by
  have HS := Lib.hid hs
  have HN := Lib.hid hn
  have hsn := itoa_short hn
  obtain ⟨X1, e1, q1⟩ := addS [108, 111, 111, 112, 32] (Lib.itoa n) (by simp; omega)
  have HE := Lib.hid (show text ⟨5, 0, n, 0, 0, 0⟩ = X1 by rw [e1]; simp [text, flds, word, nums, Lib.join_cons, Lib.joinTail])
  clear e1
  clear hs hn hsn
  have hl0 : w.heap.size < (w.alloc (.cells #[.int .i64 5, .int .i64 0, .int .i64 n, .int .i64 0, .int .i64 0, .int .i64 0] 45)).heap.size := by simp
  go_enter Tryz.func24, Tryz.ntmps24
  go_wp2_with (go_at_call 49; refine (spec_stmtok ⟨5, 0, n, 0, 0, 0⟩ true HS.out _).mono ?_; rintro e w1 ⟨rfl, hb1⟩; have hc1 := held6 hb1 hl0 ⟨new_cell w _ _ 0, new_cell w _ _ 1, new_cell w _ _ 2, new_cell w _ _ 3, new_cell w _ _ 4, new_cell w _ _ 5⟩; have hl1 := Nat.lt_of_lt_of_le hl0 hb1.size)
  go_wp2_with (go_at_call 50; refine (fmt_small HN.out _).mono ?_; rintro e w2 ⟨rfl, hb2⟩)
  go_ret
  exact ⟨by rw [HE.out]; rfl, below_then (below_then (below_new w _) hb1) hb2⟩
set_option maxHeartbeats 2000000 in
theorem spec_fmt6 (hs : stOk ⟨6, 0, 0, 0, 0, 0⟩ = true) (w : World) : Calls Tryz.prog 24 #[stV ⟨6, 0, 0, 0, 0, 0⟩] w (RetS w (text ⟨6, 0, 0, 0, 0, 0⟩)) := by
  have HS := Lib.hid hs
  have HE := Lib.hid (show text ⟨6, 0, 0, 0, 0, 0⟩ = [101, 110, 100] by simp [text, flds, word, nums, Lib.join_one])
  clear hs
  have hl0 : w.heap.size < (w.alloc (.cells #[.int .i64 6, .int .i64 0, .int .i64 0, .int .i64 0, .int .i64 0, .int .i64 0] 45)).heap.size := by simp
  go_enter Tryz.func24, Tryz.ntmps24
  go_wp2_with (go_at_call 49; refine (spec_stmtok ⟨6, 0, 0, 0, 0, 0⟩ true HS.out _).mono ?_; rintro e w1 ⟨rfl, hb1⟩; have hc1 := held6 hb1 hl0 ⟨new_cell w _ _ 0, new_cell w _ _ 1, new_cell w _ _ 2, new_cell w _ _ 3, new_cell w _ _ 4, new_cell w _ _ 5⟩; have hl1 := Nat.lt_of_lt_of_le hl0 hb1.size)
  go_wp2
  go_ret
  exact ⟨by rw [HE.out]; rfl, below_then (below_new w _) hb1⟩
theorem spec_fmtbad (s : S) (hs : stOk s = false) (w : World) : Calls Tryz.prog 24 #[stV s] w (RetS w []) := by
  have HS := Lib.hid hs
  clear hs
  go_enter Tryz.func24, Tryz.ntmps24
  go_wp2_with (go_at_call 49; refine (spec_stmtok s false HS.out _).mono ?_; rintro e w1 ⟨rfl, hb1⟩)
  go_ret
  exact ⟨rfl, below_then (below_new w _) hb1⟩
theorem spec_fmtstmt (s : S) (w : World) : Calls Tryz.prog 24 #[stV s] w (RetS w (textR s)) := by
  cases h : stOk s
  · rw [textR_bad h]; exact spec_fmtbad s h w
  · rw [textR_ok h]
    rcases st_form h with ⟨v, o, a, b, rfl, hv, he⟩ | ⟨v, n, rfl, hv, h0, h1⟩ | ⟨o, a, b, rfl, he⟩ | ⟨o, a, b, rfl, he⟩ | ⟨n, rfl, h0, h1⟩ | rfl
    · obtain ⟨ho, ha, hb⟩ := expr_small he; exact spec_fmt1 v o a b (var_small hv) ho ha hb h w
    · exact spec_fmt2 v n (var_small hv) ⟨by omega, by omega⟩ h w
    · obtain ⟨ho, ha, hb⟩ := expr_small he; exact spec_fmt3 o a b ho ha hb h w
    · obtain ⟨ho, ha, hb⟩ := expr_small he; exact spec_fmt4 o a b ho ha hb h w
    · exact spec_fmt5 n ⟨by omega, by omega⟩ h w
    · exact spec_fmt6 h w
end Go.Proofs.YtpipnhceajdfkaaGreatDoor.tex
