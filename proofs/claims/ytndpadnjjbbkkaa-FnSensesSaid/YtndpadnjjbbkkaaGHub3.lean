/- Several texts in one: Eval StmP. -/
import Derived.Test.YtndpadnjjbbkkaaGHub2
import Derived.WalkLawsBesides
import Derived.Deep.RegionHeld3
import Derived.Laws.Rows
import Derived.Laws.StructEq

/- Chapter 3's OperandValue, ExprOk and EvalExpr, of the program and of the model: the plain functions of the text before; nothing that was there is written. -/
namespace Go.Proofs.Ytndpadnjjbbkkaa.expr
open Go.ChangeShapes Go.WideShapes Go.ChangeAt Go.RowKit Go.Proofs.Ytndpadnjjbbkkaa.row Go.Proofs.Ytndpadnjjbbkkaa.val

theorem opndVal_ok {L : List Int} {m : Int} (h : opndOk m = true) (h2 : varsOk L = true) : opndVal L m = valOf L m := by simp [opndVal, h, h2]
theorem opndVal_no {L : List Int} {m : Int} (h : opndOk m = false ∨ varsOk L = false) : opndVal L m = 0 := by
  rcases h with h | h <;> simp [opndVal, h]
section values
theorem impl_isvar (m : Int) (w : World) : Calls Try.prog 56 #[.int .i64 m] w (RetB w (decide (m < 0))) := by
  go_enter Try.func56, Try.ntmps56
  go_wp2
  go_ret
  exact ⟨rfl, rfl⟩
theorem impl_varof (m : Int) (h1 : -1000000 ≤ m) (h2 : m ≤ 1000000) (w : World) : Calls Try.prog 57 #[.int .i64 m] w (Ret w (-1 - m)) := by
  go_enter Try.func57, Try.ntmps57
  go_wp2
  go_ret
  exact ⟨rfl, rfl⟩
theorem impl_opval (w : World) (a : Option Addr) (n cap : Nat) (L : List Int) (hn : (n : Int) ≤ 1048576) (h : Row w a n L) (m : Int) :
    Calls Try.prog 82 #[.slice a n cap, .int .i64 m] w (Ret w (opndVal L m)) := by
  have HR := Lib.hid h
  clear h
  cases hm : opndOk m
  · have HV := Lib.hid (opndVal_no (L := L) (Or.inl hm))
    go_enter Try.func82, Try.ntmps82
    go_wp2_with (go_at_call 84; refine (impl_opnd _ _ hm _).mono ?_; rintro e w1 ⟨rfl, rfl⟩)
    go_ret
    exact ⟨ret_i HV.out.symm, rfl⟩
  · cases hv : varsOk L
    · have HV := Lib.hid (opndVal_no (m := m) (Or.inr hv))
      go_enter Try.func82, Try.ntmps82
      go_wp2_with (first
        | (go_at_call 84; refine (impl_opnd _ _ hm _).mono ?_; rintro e w1 ⟨rfl, rfl⟩)
        | (go_at_call 67; refine (impl_vars _ _ _ _ L hn HR.out _ hv).mono ?_; rintro e w1 ⟨rfl, rfl⟩))
      go_ret
      exact ⟨ret_i HV.out.symm, rfl⟩
    · by_cases h0 : m < 0
      · obtain ⟨h1, h2⟩ := opnd_at hv hm h0
        have hb := (opndOk_iff m).1 hm
        obtain ⟨b, off, x, rfl, _, hx, hc⟩ := HR.out.2 (-1 - m).toNat (by have := HR.out.1; omega)
        have HV : Hid (opndVal L m = x) := by
          show opndVal L m = x
          rw [opndVal_ok hm hv, valOf, if_pos h0, List.getD_eq_getElem?_getD, hx]; rfl
        obtain ⟨j, hj⟩ : ∃ j : Nat, -1 - m = (j : Int) := ⟨(-1 - m).toNat, by omega⟩
        rw [show (-1 - m).toNat = j by omega] at hc
        have hj8 : (j : Int) < n := by have := HR.out.1; omega
        have HJ := Lib.hid hj
        clear hx h1 h2 hj
        go_enter Try.func82, Try.ntmps82
        go_wp2_with (first
          | (go_at_call 84; refine (impl_opnd _ _ hm _).mono ?_; rintro e w1 ⟨rfl, rfl⟩)
          | (go_at_call 67; refine (impl_vars _ _ _ _ L hn HR.out _ hv).mono ?_; rintro e w1 ⟨rfl, rfl⟩)
          | (go_at_call 56; refine (impl_isvar _ _).mono ?_; rintro e w1 ⟨rfl, rfl⟩)
          | (go_at_call 57; refine (impl_varof _ (by omega) (by omega) _).mono ?_; rw [HJ.out]; rintro e w1 ⟨rfl, rfl⟩))
        go_ret
        exact ⟨ret_i HV.out.symm, rfl⟩
      · have HV : Hid (opndVal L m = m) := by
          show opndVal L m = m
          rw [opndVal_ok hm hv, valOf, if_neg h0]
        go_enter Try.func82, Try.ntmps82
        go_wp2_with (first
          | (go_at_call 84; refine (impl_opnd _ _ hm _).mono ?_; rintro e w1 ⟨rfl, rfl⟩)
          | (go_at_call 67; refine (impl_vars _ _ _ _ L hn HR.out _ hv).mono ?_; rintro e w1 ⟨rfl, rfl⟩)
          | (go_at_call 56; refine (impl_isvar _ _).mono ?_; rintro e w1 ⟨rfl, rfl⟩))
        go_ret
        exact ⟨ret_i HV.out.symm, rfl⟩
end values

section expressions
theorem in_op (o : Int) (r : Bool) (h : opOk o = r) : (decide (1 ≤ o) && decide (o ≤ 7)) = r := h
theorem spec_exprok (o a b : Int) (r : Bool) (hr : exprOk o a b = r) (w : World) : Calls Try.prog 77 #[ev o a b] w (BelB w r) := by
  cases h1 : opOk o <;> cases h2 : opndOk a <;> cases h3 : opndOk b
  all_goals
    obtain rfl : _ = r := hr
    have HE := Lib.hid (show exprOk o a b = (opOk o && (opndOk a && opndOk b)) from rfl)
    rw [h1, h2, h3] at HE
    go_enter Try.func77, Try.ntmps77
    go_wp2_with (first
      | (go_at_call 29; refine (in_any _ _ _ _ (in_op _ _ h1) _).mono ?_; rintro e w1 ⟨rfl, rfl⟩)
      | (go_at_call 98; (with_reducible refine (spec_opnd a _ h2 _).mono ?_); rintro e w1 ⟨rfl, rfl⟩)
      | (go_at_call 98; (with_reducible refine (spec_opnd b _ h3 _).mono ?_); rintro e w1 ⟨rfl, rfl⟩))
    go_ret
    exact ⟨by rw [HE.out]; rfl, (Below.refl _ _).alloc (Nat.le_refl _) _⟩
theorem impl_exprok (o a b : Int) (r : Bool) (hr : exprOk o a b = r) (w : World) : Calls Try.prog 55 #[ev o a b] w (BelB w r) := by
  by_cases h0 : 1 ≤ o <;> by_cases h1 : o ≤ 7 <;> cases h2 : opndOk a <;> cases h3 : opndOk b
  all_goals first | (exfalso; omega) | skip
  all_goals
    obtain rfl : _ = r := hr
    have HE := Lib.hid (show exprOk o a b = (decide (1 ≤ o) && decide (o ≤ 7) && (opndOk a && opndOk b)) from rfl)
    rw [h2, h3] at HE
    simp only [h0, h1, decide_true, decide_false] at HE
    first | have hd : decide (o ≤ 7) = true := by simpa using h1 | have hd : decide (o ≤ 7) = false := by simpa using h1
    first | have hd0 : decide (1 ≤ o) = true := by simpa using h0 | have hd0 : decide (1 ≤ o) = false := by simpa using h0
    go_enter Try.func55, Try.ntmps55
    go_wp2_with (first
      | (go_at_call 84; (with_reducible refine (impl_opnd a _ h2 _).mono ?_); rintro e w1 ⟨rfl, rfl⟩)
      | (go_at_call 84; (with_reducible refine (impl_opnd b _ h3 _).mono ?_); rintro e w1 ⟨rfl, rfl⟩))
    go_ret
    exact ⟨by rw [HE.out]; first | rfl | simp [hd], (Below.refl _ _).alloc (Nat.le_refl _) _⟩
/-- A struct is copied field by field. -/
def SameE (w : World) (o a b : Int) (e : Ending) (w' : World) : Prop := e = .returned (ev o a b) ∧ Below w.heap.size w w'
theorem toExpr_any (o a b : Int) (w : World) : Calls Try.prog 104 #[ev o a b] w (SameE w o a b) := by
  go_enter Try.func104, Try.ntmps104
  go_wp2
  refine bodyPost_ret (v := ev o a b) (by simp [results, Try.results104, go_sem, ev]) rfl ⟨rfl, ?_⟩
  exact (((Below.refl _ _).alloc (Nat.le_refl _) _).alloc (by simp) _).alloc (by simp; omega) _
end expressions
end Go.Proofs.Ytndpadnjjbbkkaa.expr

/- Statements compared and stripped of what their kind does not use: the model's l04Plain and Go's own comparison of two statements; nothing that was there is written. -/
namespace Go.Proofs.Ytndpadnjjbbkkaa.stm
open Go.ChangeShapes Go.WideShapes Go.ChangeAt Go.RowKit Go.Proofs.Ytndpadnjjbbkkaa.row Go.Proofs.Ytndpadnjjbbkkaa.val Go.Proofs.Ytndpadnjjbbkkaa.expr

/-- The statement with those fields alone that its kind uses. -/
def plain (s : St) : St :=
  if s.k = 1 then ⟨s.k, s.v, 0, s.o, s.a, s.b⟩ else if s.k = 2 then ⟨s.k, s.v, s.n, 0, 0, 0⟩ else if s.k = 3 then ⟨s.k, 0, 0, s.o, s.a, s.b⟩
  else if s.k = 4 then ⟨s.k, 0, 0, s.o, s.a, s.b⟩ else if s.k = 5 then ⟨s.k, 0, s.n, 0, 0, 0⟩ else ⟨s.k, 0, 0, 0, 0, 0⟩
/-- The call returns this statement; nothing that was there is written. -/
def BelS (w : World) (s : St) (e : Ending) (w' : World) : Prop := e = .returned (stV s) ∧ Below w.heap.size w w'
theorem kinds (k : Int) : k = 1 ∨ k = 2 ∨ k = 3 ∨ k = 4 ∨ k = 5 ∨ k = 6 ∨ ((k == 1) = false ∧ (k == 2) = false ∧ (k == 3) = false ∧ (k == 4) = false ∧ (k == 5) = false ∧ (k == 6) = false) := by
  simp only [beq_eq_false_iff_ne]; omega

set_option maxHeartbeats 1000000 in
theorem spec_plain (s : St) (w : World) : Calls Try.prog 133 #[stV s] w (BelS w (plain s)) := by
  obtain ⟨k, v, n, o, a, b⟩ := s
  rcases kinds k with rfl | rfl | rfl | rfl | rfl | rfl | ⟨h1, h2, h3, h4, h5, h6⟩
  all_goals
    go_enter Try.func133, Try.ntmps133
    go_wp2
  · refine bodyPost_ret (v := stV ⟨1, v, 0, o, a, b⟩) (by simp [results, Try.results133, go_sem]) rfl ⟨rfl, ?_⟩
    all_goals repeat (first | exact Below.refl _ _ | refine Below.alloc ?_ (by simp; try omega) _ | refine Below.setCell ?_ (by simp) _)
  · refine bodyPost_ret (v := stV ⟨2, v, n, 0, 0, 0⟩) (by simp [results, Try.results133, go_sem]) rfl ⟨rfl, ?_⟩
    all_goals repeat (first | exact Below.refl _ _ | refine Below.alloc ?_ (by simp; try omega) _ | refine Below.setCell ?_ (by simp) _)
  · refine bodyPost_ret (v := stV ⟨3, 0, 0, o, a, b⟩) (by simp [results, Try.results133, go_sem]) rfl ⟨rfl, ?_⟩
    all_goals repeat (first | exact Below.refl _ _ | refine Below.alloc ?_ (by simp; try omega) _ | refine Below.setCell ?_ (by simp) _)
  · refine bodyPost_ret (v := stV ⟨4, 0, 0, o, a, b⟩) (by simp [results, Try.results133, go_sem]) rfl ⟨rfl, ?_⟩
    all_goals repeat (first | exact Below.refl _ _ | refine Below.alloc ?_ (by simp; try omega) _ | refine Below.setCell ?_ (by simp) _)
  · refine bodyPost_ret (v := stV ⟨5, 0, n, 0, 0, 0⟩) (by simp [results, Try.results133, go_sem]) rfl ⟨rfl, ?_⟩
    all_goals repeat (first | exact Below.refl _ _ | refine Below.alloc ?_ (by simp; try omega) _ | refine Below.setCell ?_ (by simp) _)
  · refine bodyPost_ret (v := stV ⟨6, 0, 0, 0, 0, 0⟩) (by simp [results, Try.results133, go_sem]) rfl ⟨rfl, ?_⟩
    all_goals repeat (first | exact Below.refl _ _ | refine Below.alloc ?_ (by simp; try omega) _ | refine Below.setCell ?_ (by simp) _)
  · have hp : plain ⟨k, v, n, o, a, b⟩ = ⟨k, 0, 0, 0, 0, 0⟩ := by
      simp only [beq_eq_false_iff_ne] at h1 h2 h3 h4 h5 h6
      simp [plain, h1, h2, h3, h4, h5]
    rw [hp]
    refine bodyPost_ret (v := stV ⟨k, 0, 0, 0, 0, 0⟩) (by simp [results, Try.results133, go_sem]) rfl ⟨rfl, ?_⟩
    all_goals repeat (first | exact Below.refl _ _ | refine Below.alloc ?_ (by simp; try omega) _ | refine Below.setCell ?_ (by simp) _)

theorem held6 {w w' : World} {g : Nat} {x0 x1 x2 x3 x4 x5 : Value} (hb : Below w.heap.size w w') (hg : g < w.heap.size)
    (h : w.cell? ⟨g, 0, none⟩ = some x0 ∧ w.cell? ⟨g, 1, none⟩ = some x1 ∧ w.cell? ⟨g, 2, none⟩ = some x2 ∧ w.cell? ⟨g, 3, none⟩ = some x3 ∧ w.cell? ⟨g, 4, none⟩ = some x4 ∧ w.cell? ⟨g, 5, none⟩ = some x5) :
    w'.cell? ⟨g, 0, none⟩ = some x0 ∧ w'.cell? ⟨g, 1, none⟩ = some x1 ∧ w'.cell? ⟨g, 2, none⟩ = some x2 ∧ w'.cell? ⟨g, 3, none⟩ = some x3 ∧ w'.cell? ⟨g, 4, none⟩ = some x4 ∧ w'.cell? ⟨g, 5, none⟩ = some x5 :=
  ⟨(hb.cell (p := ⟨g, 0, none⟩) hg).trans h.1, (hb.cell (p := ⟨g, 1, none⟩) hg).trans h.2.1, (hb.cell (p := ⟨g, 2, none⟩) hg).trans h.2.2.1, (hb.cell (p := ⟨g, 3, none⟩) hg).trans h.2.2.2.1, (hb.cell (p := ⟨g, 4, none⟩) hg).trans h.2.2.2.2.1, (hb.cell (p := ⟨g, 5, none⟩) hg).trans h.2.2.2.2.2⟩
/-- Two statements are equal field by field. -/
def eqSt (s t : St) : Bool := decide (s = t)
theorem eqSt_fields (s t : St) : eqSt s t = (s.k == t.k && (s.v == t.v && (s.n == t.n && (s.o == t.o && (s.a == t.a && s.b == t.b))))) := by
  obtain ⟨k, v, n, o, a, b⟩ := s
  obtain ⟨k', v', n', o', a', b'⟩ := t
  rw [Bool.eq_iff_iff]; simp [eqSt]
theorem run_eqEx (d : Nat) (o a b o' a' b' : Int) (w : World) : (Op.equalIn (d + 2) 42 (ev o a b) (ev o' a' b')).run Try.prog w = .ok (o == o' && (a == a' && b == b')) w := by
  have hS : Try.prog.underlying 42 = some (.struct (Try.prog.fieldsOf 42)) := by kernel_rfl
  rw [run_equalIn_agg w (d + 1) 42 _ _ hS (by kernel_rfl)]
  clear hS
  simp only [Program.fieldsOf, Try.underlying42]
  go_simp
  by_cases h4 : o = o' <;> by_cases h5 : a = a' <;> by_cases h6 : b = b' <;> simp [h4, h5, h6]
theorem run_eqSt (s t : St) (w : World) : (Op.equalIn 10000 87 (stV s) (stV t)).run Try.prog w = .ok (eqSt s t) w := by
  rw [eqSt_fields]
  obtain ⟨k, v, n, o, a, b⟩ := s
  obtain ⟨k', v', n', o', a', b'⟩ := t
  have hS : Try.prog.underlying 87 = some (.struct (Try.prog.fieldsOf 87)) := by kernel_rfl
  rw [show (10000 : Nat) = 9999 + 1 from rfl, run_equalIn_agg w 9999 87 _ _ hS (by kernel_rfl)]
  clear hS
  have hE : ∀ w, (Op.equalIn 9999 42 (ev o a b) (ev o' a' b')).run Try.prog w = .ok (o == o' && (a == a' && b == b')) w := fun w => run_eqEx 9997 o a b o' a' b' w
  simp only [Program.fieldsOf, Try.underlying87]
  go_simp
  by_cases h1 : k = k' <;> by_cases h2 : v = v' <;> by_cases h3 : n = n' <;> by_cases h4 : o = o' <;> by_cases h5 : a = a' <;> by_cases h6 : b = b' <;> simp [h1, h2, h3, h4, h5, h6]
theorem drew_below {w w' : World} (h : Below w.drew.heap.size w.drew w') : Below w.heap.size w w' := (Below.drew (Below.refl _ w)).trans h
theorem stOk_plain {s : St} (h : stOk s = true) : plain s = s := by
  obtain ⟨k, v, n, o, a, b⟩ := s
  rcases kinds k with rfl | rfl | rfl | rfl | rfl | rfl | ⟨h1, h2, h3, h4, h5, h6⟩
  · simp [stOk] at h; simp [plain, h]
  · simp [stOk, exprZ] at h; simp [plain, h]
  · simp [stOk] at h; simp [plain, h]
  · simp [stOk] at h; simp [plain, h]
  · simp [stOk, exprZ] at h; simp [plain, h]
  · simp [stOk, exprZ] at h; simp [plain, h]
  · simp only [beq_eq_false_iff_ne] at h1 h2 h3 h4 h5 h6
    simp [stOk, h1, h2, h3, h4, h5, h6] at h
theorem not_plain {s t : St} (hp : plain s = t) (h : eqSt s t = false) : stOk s = false := by
  rw [← Bool.not_eq_true]
  intro hs
  rw [← hp, stOk_plain hs] at h
  simp [eqSt] at h
theorem stOk1 (v o a b : Int) : stOk ⟨1, v, 0, o, a, b⟩ = (varOk v && exprOk o a b) := by simp [stOk]
theorem stOk2 (v n : Int) : stOk ⟨2, v, n, 0, 0, 0⟩ = (varOk v && (decide (0 ≤ n) && decide (n ≤ 3))) := by simp [stOk, exprZ]
theorem stOk3 (o a b : Int) : stOk ⟨3, 0, 0, o, a, b⟩ = exprOk o a b := by simp [stOk]
theorem stOk4 (o a b : Int) : stOk ⟨4, 0, 0, o, a, b⟩ = exprOk o a b := by simp [stOk]
theorem stOk5 (n : Int) : stOk ⟨5, 0, n, 0, 0, 0⟩ = (decide (1 ≤ n) && decide (n ≤ 5)) := by simp [stOk, exprZ]
theorem stOk6 : stOk ⟨6, 0, 0, 0, 0, 0⟩ = true := by decide
theorem stOk_other {k v n o a b : Int} (h1 : (k == 1) = false) (h2 : (k == 2) = false) (h3 : (k == 3) = false) (h4 : (k == 4) = false) (h5 : (k == 5) = false) (h6 : (k == 6) = false) : stOk ⟨k, v, n, o, a, b⟩ = false := by
  simp only [beq_eq_false_iff_ne] at h1 h2 h3 h4 h5 h6
  simp [stOk, h1, h2, h3, h4, h5, h6]
theorem plain_other {k v n o a b : Int} (h1 : (k == 1) = false) (h2 : (k == 2) = false) (h3 : (k == 3) = false) (h4 : (k == 4) = false) (h5 : (k == 5) = false) : plain ⟨k, v, n, o, a, b⟩ = ⟨k, 0, 0, 0, 0, 0⟩ := by
  simp only [beq_eq_false_iff_ne] at h1 h2 h3 h4 h5
  simp [plain, h1, h2, h3, h4, h5]
end Go.Proofs.Ytndpadnjjbbkkaa.stm
