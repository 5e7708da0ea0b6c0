/- Several texts in one: StmtA Eval StmP BlkA BlkB. -/
import Derived.Test.YtlicadaecfgklaaGreatDoorGSig0
import Derived.WalkLawsBesides
import Derived.Deep.RegionHeld3
import Derived.Laws.Rows
import Derived.Laws.StructEq

/- Statements and blocks as plain data: when a statement is valid, when a list of statements is a valid block of so many levels, and the cells of such a list. Plain mathematics. -/
namespace Go.Proofs.YtlicadaecfgklaaGreatDoor.stm
open Go.RowKit Go.Proofs.YtlicadaecfgklaaGreatDoor.row Go.Proofs.YtlicadaecfgklaaGreatDoor.expr

/-- A statement: its kind, its variable, its number, and the three numbers of its expression. -/
structure St where
  (k v n o a b : Int)
deriving DecidableEq
def exprZ (s : St) : Bool := decide (s.o = 0) && (decide (s.a = 0) && decide (s.b = 0))
def varOk (v : Int) : Bool := decide (0 ≤ v) && decide (v ≤ 7)
def stOk (s : St) : Bool :=
  if s.k = 1 then varOk s.v && (decide (s.n = 0) && exprOk s.o s.a s.b)
  else if s.k = 2 then varOk s.v && ((decide (0 ≤ s.n) && decide (s.n ≤ 3)) && exprZ s)
  else if s.k = 3 then decide (s.v = 0) && (decide (s.n = 0) && exprOk s.o s.a s.b)
  else if s.k = 4 then decide (s.v = 0) && (decide (s.n = 0) && exprOk s.o s.a s.b)
  else if s.k = 5 then decide (s.v = 0) && ((decide (1 ≤ s.n) && decide (s.n ≤ 5)) && exprZ s)
  else if s.k = 6 then decide (s.v = 0) && (decide (s.n = 0) && exprZ s)
  else false
theorem stOk_set {v o a b : Int} (h0 : 0 ≤ v) (h1 : v ≤ 7) (he : exprOk o a b = true) : stOk ⟨1, v, 0, o, a, b⟩ = true := by simp [stOk, varOk, h0, h1, he]
theorem stOk_sense {v n : Int} (h0 : 0 ≤ v) (h1 : v ≤ 7) (h2 : 0 ≤ n) (h3 : n ≤ 3) : stOk ⟨2, v, n, 0, 0, 0⟩ = true := by simp [stOk, varOk, exprZ, h0, h1, h2, h3]
theorem stOk_send {o a b : Int} (he : exprOk o a b = true) : stOk ⟨3, 0, 0, o, a, b⟩ = true := by simp [stOk, he]
theorem stOk_if {o a b : Int} (he : exprOk o a b = true) : stOk ⟨4, 0, 0, o, a, b⟩ = true := by simp [stOk, he]
theorem stOk_loop {n : Int} (h2 : 1 ≤ n) (h3 : n ≤ 5) : stOk ⟨5, 0, n, 0, 0, 0⟩ = true := by simp [stOk, exprZ, h2, h3]
def endSt : St := ⟨6, 0, 0, 0, 0, 0⟩
theorem stOk_end : stOk endSt = true := by decide

/-- A valid block with at most 'd' levels of loops and conditions. -/
inductive Blk : Nat → List St → Prop
  | nil (d : Nat) : Blk d []
  | one (d : Nat) (s : St) (rest : List St) (hs : stOk s = true) (h1 : 1 ≤ s.k) (h3 : s.k ≤ 3) (hr : Blk d rest) : Blk d (s :: rest)
  | nest (d : Nat) (s : St) (body rest : List St) (hs : stOk s = true) (hk : s.k = 4 ∨ s.k = 5) (hb : Blk d body) (hr : Blk (d + 1) rest) : Blk (d + 1) (s :: (body ++ endSt :: rest))
theorem Blk.app {d : Nat} {L M : List St} (h : Blk d L) (h2 : Blk d M) : Blk d (L ++ M) := by
  induction h with
  | nil d => exact h2
  | one d s rest hs h1 h3 _ ih => exact .one d s _ hs h1 h3 (ih h2)
  | nest d s body rest hs hk hb _ _ ih =>
    have e : (s :: (body ++ endSt :: rest)) ++ M = s :: (body ++ endSt :: (rest ++ M)) := by simp
    rw [e]; exact .nest d s body _ hs hk hb (ih h2)
theorem Blk.snoc {d : Nat} {L : List St} (h : Blk d L) {s : St} (hs : stOk s = true) (h1 : 1 ≤ s.k) (h3 : s.k ≤ 3) : Blk d (L ++ [s]) := h.app (.one d s [] hs h1 h3 (.nil d))
theorem Blk.wrap {d : Nat} {L B : List St} (h : Blk (d + 1) L) {s : St} (hs : stOk s = true) (hk : s.k = 4 ∨ s.k = 5) (hb : Blk d B) : Blk (d + 1) (((L ++ [s]) ++ B) ++ [endSt]) := by
  have e : ((L ++ [s]) ++ B) ++ [endSt] = L ++ (s :: (B ++ endSt :: [])) := by simp
  rw [e]; exact h.app (.nest d s B [] hs hk hb (.nil _))

/-- The cells of a statement, of a list of statements. -/
def stC (s : St) : List Value := [.int .i64 s.k, .int .i64 s.v, .int .i64 s.n, .int .i64 s.o, .int .i64 s.a, .int .i64 s.b]
abbrev stV (s : St) : Value := .agg #[.int .i64 s.k, .int .i64 s.v, .int .i64 s.n, .int .i64 s.o, .int .i64 s.a, .int .i64 s.b]
def stsC (L : List St) : List Value := L.flatMap stC
theorem stsC_len (L : List St) : (stsC L).length = L.length * 6 := by
  induction L with
  | nil => rfl
  | cons s L ih => simp only [stsC, List.flatMap_cons, List.length_append, List.length_cons] at *; rw [ih]; simp [stC]; omega
theorem stsC_app (L M : List St) : stsC (L ++ M) = stsC L ++ stsC M := by simp [stsC]
theorem stsC_one (s : St) : stsC [s] = stC s := by simp [stsC]
theorem stsC_at {L : List St} {i : Nat} {s : St} (h : L[i]? = some s) (j : Nat) (hj : j < 6) : (stsC L)[i * 6 + j]? = (stC s)[j]? := by
  induction L generalizing i with
  | nil => simp at h
  | cons t L ih =>
    have e : stsC (t :: L) = stC t ++ stsC L := by simp [stsC]
    have l6 : (stC t).length = 6 := rfl
    cases i with
    | zero =>
      simp at h; subst h
      rw [e, List.getElem?_append_left (by omega)]; congr 1; omega
    | succ i =>
      simp at h
      rw [e, List.getElem?_append_right (by omega), l6, show (i + 1) * 6 + j - 6 = i * 6 + j by omega]
      exact ih h
end Go.Proofs.YtlicadaecfgklaaGreatDoor.stm

/- Chapter 3's OperandValue, ExprOk and EvalExpr, of the program and of the model: the plain functions of the text before; nothing that was there is written. -/
namespace Go.Proofs.YtlicadaecfgklaaGreatDoor.expr
open Go.ChangeShapes Go.WideShapes Go.ChangeAt Go.RowKit Go.Proofs.YtlicadaecfgklaaGreatDoor.row Go.Proofs.YtlicadaecfgklaaGreatDoor.val

theorem opndVal_ok {L : List Int} {m : Int} (h : opndOk m = true) (h2 : varsOk L = true) : opndVal L m = valOf L m := by simp [opndVal, h, h2]
theorem opndVal_no {L : List Int} {m : Int} (h : opndOk m = false ∨ varsOk L = false) : opndVal L m = 0 := by
  rcases h with h | h <;> simp [opndVal, h]
section values
theorem impl_isvar (m : Int) (w : World) : Calls Tryz.prog 189 #[.int .i64 m] w (RetB w (decide (m < 0))) := by
  go_enter Tryz.func189, Tryz.ntmps189
  go_wp2
  go_ret
  exact ⟨rfl, rfl⟩
theorem impl_varof (m : Int) (h1 : -1000000 ≤ m) (h2 : m ≤ 1000000) (w : World) : Calls Tryz.prog 190 #[.int .i64 m] w (Ret w (-1 - m)) := by
  go_enter Tryz.func190, Tryz.ntmps190
  go_wp2
  go_ret
  exact ⟨rfl, rfl⟩
theorem impl_opval (w : World) (a : Option Addr) (n cap : Nat) (L : List Int) (hn : (n : Int) ≤ 1048576) (h : Row w a n L) (m : Int) :
    Calls Tryz.prog 150 #[.slice a n cap, .int .i64 m] w (Ret w (opndVal L m)) := by
  have HR := Lib.hid h
  clear h
  cases hm : opndOk m
  · have HV := Lib.hid (opndVal_no (L := L) (Or.inl hm))
    go_enter Tryz.func150, Tryz.ntmps150
    go_wp2_with (go_at_call 175; refine (impl_opnd _ _ hm _).mono ?_; rintro e w1 ⟨rfl, rfl⟩)
    go_ret
    exact ⟨ret_i HV.out.symm, rfl⟩
  · cases hv : varsOk L
    · have HV := Lib.hid (opndVal_no (m := m) (Or.inr hv))
      go_enter Tryz.func150, Tryz.ntmps150
      go_wp2_with (first
        | (go_at_call 175; refine (impl_opnd _ _ hm _).mono ?_; rintro e w1 ⟨rfl, rfl⟩)
        | (go_at_call 65; refine (impl_vars _ _ _ _ L hn HR.out _ hv).mono ?_; rintro e w1 ⟨rfl, rfl⟩))
      go_ret
      exact ⟨ret_i HV.out.symm, rfl⟩
    · by_cases h0 : m < 0
      · obtain ⟨h1, h2⟩ := opnd_at hv hm h0
        have hb := (opndOk_iff m).1 hm
        obtain ⟨b, off, x, rfl, _, hx, hc⟩ := HR.out.2 (-1 - m).toNat (by have := HR.out.1; omega)
        have HV : Hid (opndVal L m = x) := by
          show opndVal L m = x
          rw [opndVal_ok hm hv, valOf, if_pos h0, List.getD_eq_getElem?_getD, hx]; rfl
        obtain ⟨j, hj⟩ : ∃ j : Nat, -1 - m = (j : Int) := ⟨(-1 - m).toNat, by omega⟩
        rw [show (-1 - m).toNat = j by omega] at hc
        have hj8 : (j : Int) < n := by have := HR.out.1; omega
        have HJ := Lib.hid hj
        clear hx h1 h2 hj
        go_enter Tryz.func150, Tryz.ntmps150
        go_wp2_with (first
          | (go_at_call 175; refine (impl_opnd _ _ hm _).mono ?_; rintro e w1 ⟨rfl, rfl⟩)
          | (go_at_call 65; refine (impl_vars _ _ _ _ L hn HR.out _ hv).mono ?_; rintro e w1 ⟨rfl, rfl⟩)
          | (go_at_call 189; refine (impl_isvar _ _).mono ?_; rintro e w1 ⟨rfl, rfl⟩)
          | (go_at_call 190; refine (impl_varof _ (by omega) (by omega) _).mono ?_; rw [HJ.out]; rintro e w1 ⟨rfl, rfl⟩))
        go_ret
        exact ⟨ret_i HV.out.symm, rfl⟩
      · have HV : Hid (opndVal L m = m) := by
          show opndVal L m = m
          rw [opndVal_ok hm hv, valOf, if_neg h0]
        go_enter Tryz.func150, Tryz.ntmps150
        go_wp2_with (first
          | (go_at_call 175; refine (impl_opnd _ _ hm _).mono ?_; rintro e w1 ⟨rfl, rfl⟩)
          | (go_at_call 65; refine (impl_vars _ _ _ _ L hn HR.out _ hv).mono ?_; rintro e w1 ⟨rfl, rfl⟩)
          | (go_at_call 189; refine (impl_isvar _ _).mono ?_; rintro e w1 ⟨rfl, rfl⟩))
        go_ret
        exact ⟨ret_i HV.out.symm, rfl⟩
end values

section expressions
theorem in_op (o : Int) (r : Bool) (h : opOk o = r) : (decide (1 ≤ o) && decide (o ≤ 7)) = r := h
theorem spec_exprok (o a b : Int) (r : Bool) (hr : exprOk o a b = r) (w : World) : Calls Tryz.prog 116 #[ev o a b] w (BelB w r) := by
  cases h1 : opOk o <;> cases h2 : opndOk a <;> cases h3 : opndOk b
  all_goals
    obtain rfl : _ = r := hr
    have HE := Lib.hid (show exprOk o a b = (opOk o && (opndOk a && opndOk b)) from rfl)
    rw [h1, h2, h3] at HE
    go_enter Tryz.func116, Tryz.ntmps116
    go_wp2_with (first
      | (go_at_call 70; refine (in_any _ _ _ _ (in_op _ _ h1) _).mono ?_; rintro e w1 ⟨rfl, rfl⟩)
      | (go_at_call 156; (with_reducible refine (spec_opnd a _ h2 _).mono ?_); rintro e w1 ⟨rfl, rfl⟩)
      | (go_at_call 156; (with_reducible refine (spec_opnd b _ h3 _).mono ?_); rintro e w1 ⟨rfl, rfl⟩))
    go_ret
    exact ⟨by rw [HE.out]; rfl, (Below.refl _ _).alloc (Nat.le_refl _) _⟩
theorem impl_exprok (o a b : Int) (r : Bool) (hr : exprOk o a b = r) (w : World) : Calls Tryz.prog 134 #[ev o a b] w (BelB w r) := by
  by_cases h0 : 1 ≤ o <;> by_cases h1 : o ≤ 7 <;> cases h2 : opndOk a <;> cases h3 : opndOk b
  all_goals first | (exfalso; omega) | skip
  all_goals
    obtain rfl : _ = r := hr
    have HE := Lib.hid (show exprOk o a b = (decide (1 ≤ o) && decide (o ≤ 7) && (opndOk a && opndOk b)) from rfl)
    rw [h2, h3] at HE
    simp only [h0, h1, decide_true, decide_false] at HE
    first | have hd : decide (o ≤ 7) = true := by simpa using h1 | have hd : decide (o ≤ 7) = false := by simpa using h1
    first | have hd0 : decide (1 ≤ o) = true := by simpa using h0 | have hd0 : decide (1 ≤ o) = false := by simpa using h0
    go_enter Tryz.func134, Tryz.ntmps134
    go_wp2_with (first
      | (go_at_call 175; (with_reducible refine (impl_opnd a _ h2 _).mono ?_); rintro e w1 ⟨rfl, rfl⟩)
      | (go_at_call 175; (with_reducible refine (impl_opnd b _ h3 _).mono ?_); rintro e w1 ⟨rfl, rfl⟩))
    go_ret
    exact ⟨by rw [HE.out]; first | rfl | simp [hd], (Below.refl _ _).alloc (Nat.le_refl _) _⟩
/-- A struct is copied field by field. -/
def SameE (w : World) (o a b : Int) (e : Ending) (w' : World) : Prop := e = .returned (ev o a b) ∧ Below w.heap.size w w'
theorem toExpr_any (o a b : Int) (w : World) : Calls Tryz.prog 170 #[ev o a b] w (SameE w o a b) := by
  go_enter Tryz.func170, Tryz.ntmps170
  go_wp2
  refine bodyPost_ret (v := ev o a b) (by simp [results, Tryz.results170, go_sem, ev]) rfl ⟨rfl, ?_⟩
  exact (((Below.refl _ _).alloc (Nat.le_refl _) _).alloc (by simp) _).alloc (by simp; omega) _
end expressions
end Go.Proofs.YtlicadaecfgklaaGreatDoor.expr

/- Statements compared and stripped of what their kind does not use: the model's l04Plain and Go's own comparison of two statements; nothing that was there is written. -/
namespace Go.Proofs.YtlicadaecfgklaaGreatDoor.stm
open Go.ChangeShapes Go.WideShapes Go.ChangeAt Go.RowKit Go.Proofs.YtlicadaecfgklaaGreatDoor.row Go.Proofs.YtlicadaecfgklaaGreatDoor.val Go.Proofs.YtlicadaecfgklaaGreatDoor.expr

/-- The statement with those fields alone that its kind uses. -/
def plain (s : St) : St :=
  if s.k = 1 then ⟨s.k, s.v, 0, s.o, s.a, s.b⟩ else if s.k = 2 then ⟨s.k, s.v, s.n, 0, 0, 0⟩ else if s.k = 3 then ⟨s.k, 0, 0, s.o, s.a, s.b⟩
  else if s.k = 4 then ⟨s.k, 0, 0, s.o, s.a, s.b⟩ else if s.k = 5 then ⟨s.k, 0, s.n, 0, 0, 0⟩ else ⟨s.k, 0, 0, 0, 0, 0⟩
/-- The call returns this statement; nothing that was there is written. -/
def BelS (w : World) (s : St) (e : Ending) (w' : World) : Prop := e = .returned (stV s) ∧ Below w.heap.size w w'
theorem kinds (k : Int) : k = 1 ∨ k = 2 ∨ k = 3 ∨ k = 4 ∨ k = 5 ∨ k = 6 ∨ ((k == 1) = false ∧ (k == 2) = false ∧ (k == 3) = false ∧ (k == 4) = false ∧ (k == 5) = false ∧ (k == 6) = false) := by
  simp only [beq_eq_false_iff_ne]; omega

set_option maxHeartbeats 1000000 in
theorem spec_plain (s : St) (w : World) : Calls Tryz.prog 194 #[stV s] w (BelS w (plain s)) := by
  obtain ⟨k, v, n, o, a, b⟩ := s
  rcases kinds k with rfl | rfl | rfl | rfl | rfl | rfl | ⟨h1, h2, h3, h4, h5, h6⟩
  all_goals
    go_enter Tryz.func194, Tryz.ntmps194
    go_wp2
  · refine bodyPost_ret (v := stV ⟨1, v, 0, o, a, b⟩) (by simp [results, Tryz.results194, go_sem]) rfl ⟨rfl, ?_⟩
    all_goals repeat (first | exact Below.refl _ _ | refine Below.alloc ?_ (by simp; try omega) _ | refine Below.setCell ?_ (by simp) _)
  · refine bodyPost_ret (v := stV ⟨2, v, n, 0, 0, 0⟩) (by simp [results, Tryz.results194, go_sem]) rfl ⟨rfl, ?_⟩
    all_goals repeat (first | exact Below.refl _ _ | refine Below.alloc ?_ (by simp; try omega) _ | refine Below.setCell ?_ (by simp) _)
  · refine bodyPost_ret (v := stV ⟨3, 0, 0, o, a, b⟩) (by simp [results, Tryz.results194, go_sem]) rfl ⟨rfl, ?_⟩
    all_goals repeat (first | exact Below.refl _ _ | refine Below.alloc ?_ (by simp; try omega) _ | refine Below.setCell ?_ (by simp) _)
  · refine bodyPost_ret (v := stV ⟨4, 0, 0, o, a, b⟩) (by simp [results, Tryz.results194, go_sem]) rfl ⟨rfl, ?_⟩
    all_goals repeat (first | exact Below.refl _ _ | refine Below.alloc ?_ (by simp; try omega) _ | refine Below.setCell ?_ (by simp) _)
  · refine bodyPost_ret (v := stV ⟨5, 0, n, 0, 0, 0⟩) (by simp [results, Tryz.results194, go_sem]) rfl ⟨rfl, ?_⟩
    all_goals repeat (first | exact Below.refl _ _ | refine Below.alloc ?_ (by simp; try omega) _ | refine Below.setCell ?_ (by simp) _)
  · refine bodyPost_ret (v := stV ⟨6, 0, 0, 0, 0, 0⟩) (by simp [results, Tryz.results194, go_sem]) rfl ⟨rfl, ?_⟩
    all_goals repeat (first | exact Below.refl _ _ | refine Below.alloc ?_ (by simp; try omega) _ | refine Below.setCell ?_ (by simp) _)
  · have hp : plain ⟨k, v, n, o, a, b⟩ = ⟨k, 0, 0, 0, 0, 0⟩ := by
      simp only [beq_eq_false_iff_ne] at h1 h2 h3 h4 h5 h6
      simp [plain, h1, h2, h3, h4, h5]
    rw [hp]
    refine bodyPost_ret (v := stV ⟨k, 0, 0, 0, 0, 0⟩) (by simp [results, Tryz.results194, go_sem]) rfl ⟨rfl, ?_⟩
    all_goals repeat (first | exact Below.refl _ _ | refine Below.alloc ?_ (by simp; try omega) _ | refine Below.setCell ?_ (by simp) _)

theorem held6 {w w' : World} {g : Nat} {x0 x1 x2 x3 x4 x5 : Value} (hb : Below w.heap.size w w') (hg : g < w.heap.size)
    (h : w.cell? ⟨g, 0, none⟩ = some x0 ∧ w.cell? ⟨g, 1, none⟩ = some x1 ∧ w.cell? ⟨g, 2, none⟩ = some x2 ∧ w.cell? ⟨g, 3, none⟩ = some x3 ∧ w.cell? ⟨g, 4, none⟩ = some x4 ∧ w.cell? ⟨g, 5, none⟩ = some x5) :
    w'.cell? ⟨g, 0, none⟩ = some x0 ∧ w'.cell? ⟨g, 1, none⟩ = some x1 ∧ w'.cell? ⟨g, 2, none⟩ = some x2 ∧ w'.cell? ⟨g, 3, none⟩ = some x3 ∧ w'.cell? ⟨g, 4, none⟩ = some x4 ∧ w'.cell? ⟨g, 5, none⟩ = some x5 :=
  ⟨(hb.cell (p := ⟨g, 0, none⟩) hg).trans h.1, (hb.cell (p := ⟨g, 1, none⟩) hg).trans h.2.1, (hb.cell (p := ⟨g, 2, none⟩) hg).trans h.2.2.1, (hb.cell (p := ⟨g, 3, none⟩) hg).trans h.2.2.2.1, (hb.cell (p := ⟨g, 4, none⟩) hg).trans h.2.2.2.2.1, (hb.cell (p := ⟨g, 5, none⟩) hg).trans h.2.2.2.2.2⟩
/-- Two statements are equal field by field. -/
def eqSt (s t : St) : Bool := decide (s = t)
theorem eqSt_fields (s t : St) : eqSt s t = (s.k == t.k && (s.v == t.v && (s.n == t.n && (s.o == t.o && (s.a == t.a && s.b == t.b))))) := by
  obtain ⟨k, v, n, o, a, b⟩ := s
  obtain ⟨k', v', n', o', a', b'⟩ := t
  rw [Bool.eq_iff_iff]; simp [eqSt]
theorem run_eqEx (d : Nat) (o a b o' a' b' : Int) (w : World) : (Op.equalIn (d + 2) 72 (ev o a b) (ev o' a' b')).run Tryz.prog w = .ok (o == o' && (a == a' && b == b')) w := by
  have hS : Tryz.prog.underlying 72 = some (.struct (Tryz.prog.fieldsOf 72)) := by kernel_rfl
  rw [run_equalIn_agg w (d + 1) 72 _ _ hS (by kernel_rfl)]
  clear hS
  simp only [Program.fieldsOf, Tryz.underlying72]
  go_simp
  by_cases h4 : o = o' <;> by_cases h5 : a = a' <;> by_cases h6 : b = b' <;> simp [h4, h5, h6]
theorem run_eqSt (s t : St) (w : World) : (Op.equalIn 10000 89 (stV s) (stV t)).run Tryz.prog w = .ok (eqSt s t) w := by
  rw [eqSt_fields]
  obtain ⟨k, v, n, o, a, b⟩ := s
  obtain ⟨k', v', n', o', a', b'⟩ := t
  have hS : Tryz.prog.underlying 89 = some (.struct (Tryz.prog.fieldsOf 89)) := by kernel_rfl
  rw [show (10000 : Nat) = 9999 + 1 from rfl, run_equalIn_agg w 9999 89 _ _ hS (by kernel_rfl)]
  clear hS
  have hE : ∀ w, (Op.equalIn 9999 72 (ev o a b) (ev o' a' b')).run Tryz.prog w = .ok (o == o' && (a == a' && b == b')) w := fun w => run_eqEx 9997 o a b o' a' b' w
  simp only [Program.fieldsOf, Tryz.underlying89]
  go_simp
  by_cases h1 : k = k' <;> by_cases h2 : v = v' <;> by_cases h3 : n = n' <;> by_cases h4 : o = o' <;> by_cases h5 : a = a' <;> by_cases h6 : b = b' <;> simp [h1, h2, h3, h4, h5, h6]
theorem drew_below {w w' : World} (h : Below w.drew.heap.size w.drew w') : Below w.heap.size w w' := (Below.drew (Below.refl _ w)).trans h
theorem stOk_plain {s : St} (h : stOk s = true) : plain s = s := by
  obtain ⟨k, v, n, o, a, b⟩ := s
  rcases kinds k with rfl | rfl | rfl | rfl | rfl | rfl | ⟨h1, h2, h3, h4, h5, h6⟩
  · simp [stOk] at h; simp [plain, h]
  · simp [stOk, exprZ] at h; simp [plain, h]
  · simp [stOk] at h; simp [plain, h]
  · simp [stOk] at h; simp [plain, h]
  · simp [stOk, exprZ] at h; simp [plain, h]
  · simp [stOk, exprZ] at h; simp [plain, h]
  · simp only [beq_eq_false_iff_ne] at h1 h2 h3 h4 h5 h6
    simp [stOk, h1, h2, h3, h4, h5, h6] at h
theorem not_plain {s t : St} (hp : plain s = t) (h : eqSt s t = false) : stOk s = false := by
  rw [← Bool.not_eq_true]
  intro hs
  rw [← hp, stOk_plain hs] at h
  simp [eqSt] at h
theorem stOk1 (v o a b : Int) : stOk ⟨1, v, 0, o, a, b⟩ = (varOk v && exprOk o a b) := by simp [stOk]
theorem stOk2 (v n : Int) : stOk ⟨2, v, n, 0, 0, 0⟩ = (varOk v && (decide (0 ≤ n) && decide (n ≤ 3))) := by simp [stOk, exprZ]
theorem stOk3 (o a b : Int) : stOk ⟨3, 0, 0, o, a, b⟩ = exprOk o a b := by simp [stOk]
theorem stOk4 (o a b : Int) : stOk ⟨4, 0, 0, o, a, b⟩ = exprOk o a b := by simp [stOk]
theorem stOk5 (n : Int) : stOk ⟨5, 0, n, 0, 0, 0⟩ = (decide (1 ≤ n) && decide (n ≤ 5)) := by simp [stOk, exprZ]
theorem stOk6 : stOk ⟨6, 0, 0, 0, 0, 0⟩ = true := by decide
theorem stOk_other {k v n o a b : Int} (h1 : (k == 1) = false) (h2 : (k == 2) = false) (h3 : (k == 3) = false) (h4 : (k == 4) = false) (h5 : (k == 5) = false) (h6 : (k == 6) = false) : stOk ⟨k, v, n, o, a, b⟩ = false := by
  simp only [beq_eq_false_iff_ne] at h1 h2 h3 h4 h5 h6
  simp [stOk, h1, h2, h3, h4, h5, h6]
theorem plain_other {k v n o a b : Int} (h1 : (k == 1) = false) (h2 : (k == 2) = false) (h3 : (k == 3) = false) (h4 : (k == 4) = false) (h5 : (k == 5) = false) : plain ⟨k, v, n, o, a, b⟩ = ⟨k, 0, 0, 0, 0, 0⟩ := by
  simp only [beq_eq_false_iff_ne] at h1 h2 h3 h4 h5
  simp [plain, h1, h2, h3, h4, h5]
end Go.Proofs.YtlicadaecfgklaaGreatDoor.stm

/- Blocks as heights: a statement that opens raises the height, an end lowers it; a block is valid if the height stays between 0 and 3 and ends at 0; the matching end, the depth. Plain mathematics. -/
namespace Go.Proofs.YtlicadaecfgklaaGreatDoor.blk
open Go Go.Proofs.YtlicadaecfgklaaGreatDoor.stm

abbrev St := Go.Proofs.YtlicadaecfgklaaGreatDoor.stm.St
def opn (s : St) : Bool := s.k == 4 || s.k == 5
def dlt (s : St) : Int := if s.k = 4 ∨ s.k = 5 then 1 else if s.k = 6 then -1 else 0
/-- The height behind a list of statements. -/
def ht (L : List St) : Int := (L.map dlt).sum
def hAt (L : List St) (i : Nat) : Int := ht (L.take i)
theorem hAt_zero (L : List St) : hAt L 0 = 0 := rfl
theorem hAt_succ {L : List St} {i : Nat} {s : St} (h : L[i]? = some s) : hAt L (i + 1) = hAt L i + dlt s := by
  unfold hAt ht; rw [List.take_add_one, h]; simp [List.sum_append]
theorem hAt_end (L : List St) {i : Nat} (h : L.length ≤ i) : hAt L i = hAt L L.length := by
  unfold hAt; rw [List.take_of_length_le h, List.take_of_length_le (Nat.le_refl _)]
theorem dlt_opn {s : St} (h : opn s = true) : dlt s = 1 := by
  unfold opn at h; unfold dlt; rw [if_pos (by simpa using h)]
theorem dlt_end {s : St} (h : s.k = 6) : dlt s = -1 := by
  unfold dlt; rw [if_neg (by omega), if_pos h]
theorem dlt_flat {s : St} (h : opn s = false) (h6 : s.k ≠ 6) : dlt s = 0 := by
  unfold opn at h; unfold dlt; rw [if_neg (by simpa using h), if_neg h6]
theorem dlt_cases (s : St) : (opn s = true ∧ s.k ≠ 6 ∧ dlt s = 1) ∨ (opn s = false ∧ s.k = 6 ∧ dlt s = -1) ∨ (opn s = false ∧ s.k ≠ 6 ∧ dlt s = 0) := by
  by_cases ho : opn s = true
  · refine .inl ⟨ho, ?_, dlt_opn ho⟩
    intro e; unfold opn at ho; rw [e] at ho; simp at ho
  · have ho' : opn s = false := by simpa using ho
    by_cases h6 : s.k = 6
    · exact .inr (.inl ⟨ho', h6, dlt_end h6⟩)
    · exact .inr (.inr ⟨ho', h6, dlt_flat ho' h6⟩)
/-- The block is valid up to the statement 'n'. -/
def OkTo (L : List St) (n : Nat) : Prop := ∀ j s, j < n → L[j]? = some s → stOk s = true ∧ 0 ≤ hAt L (j + 1) ∧ hAt L (j + 1) ≤ 3
/-- A valid block. -/
def IsBlk (L : List St) : Prop := OkTo L L.length ∧ hAt L L.length = 0 ∧ L.length ≤ 24
theorem okTo_zero (L : List St) : OkTo L 0 := fun j s h => by omega
theorem okTo_succ {L : List St} {n : Nat} {s : St} (h : OkTo L n) (hs : L[n]? = some s) (h1 : stOk s = true) (h2 : 0 ≤ hAt L (n + 1)) (h3 : hAt L (n + 1) ≤ 3) : OkTo L (n + 1) := fun j t hj ht => by
  by_cases e : j = n
  · subst e; rw [hs] at ht; cases ht; exact ⟨h1, h2, h3⟩
  · exact h j t (by omega) ht
theorem not_blk_at {L : List St} {n : Nat} {s : St} (hs : L[n]? = some s) (h : stOk s = false ∨ hAt L (n + 1) < 0 ∨ 3 < hAt L (n + 1)) : ¬ IsBlk L := fun hb => by
  obtain ⟨h1, h2, h3⟩ := hb.1 n s (List.getElem?_eq_some_iff.1 hs).1 hs
  rcases h with h | h | h
  · rw [h] at h1; cases h1
  · omega
  · omega
theorem blk_bounds {L : List St} (h : IsBlk L) (i : Nat) : 0 ≤ hAt L i ∧ hAt L i ≤ 3 := by
  rcases Nat.eq_zero_or_pos i with rfl | hi
  · rw [hAt_zero]; omega
  · obtain ⟨j, rfl⟩ : ∃ j, i = j + 1 := ⟨i - 1, by omega⟩
    by_cases hj : j < L.length
    · exact (h.1 j L[j] hj (by simp [hj])).2
    · rw [hAt_end L (by omega), h.2.1]; omega
theorem blk_stOk {L : List St} (h : IsBlk L) {i : Nat} {s : St} (hs : L[i]? = some s) : stOk s = true := (h.1 i s (List.getElem?_eq_some_iff.1 hs).1 hs).1

/-- The end 'e' of the statement 'i': the height comes back there for the first time. -/
def IsEnd (L : List St) (i e : Nat) : Prop := i < e ∧ e < L.length ∧ hAt L (e + 1) = hAt L i ∧ ∀ j, i < j → j ≤ e → hAt L i < hAt L j
theorem IsEnd.unique {L : List St} {i e f : Nat} (h : IsEnd L i e) (h' : IsEnd L i f) : e = f := by
  rcases Nat.lt_trichotomy e f with hlt | rfl | hlt
  · have := h'.2.2.2 (e + 1) (by have := h.1; omega) (by omega); rw [h.2.2.1] at this; omega
  · rfl
  · have := h.2.2.2 (f + 1) (by have := h'.1; omega) (by omega); rw [h'.2.2.1] at this; omega
theorem at_lt {L : List St} {i : Nat} (h : i < L.length) : ∃ s, L[i]? = some s := ⟨L[i], by simp [h]⟩
theorem IsEnd.kind {L : List St} {i e : Nat} (h : IsEnd L i e) : ∃ s, L[e]? = some s ∧ s.k = 6 := by
  obtain ⟨s, he⟩ := at_lt h.2.1
  refine ⟨s, he, ?_⟩
  have h1 := hAt_succ he
  have h2 := h.2.2.2 e h.1 (Nat.le_refl _)
  have h3 := h.2.2.1
  rcases dlt_cases s with ⟨_, _, hd⟩ | ⟨_, h6, _⟩ | ⟨_, _, hd⟩
  · omega
  · exact h6
  · omega
theorem IsEnd.depth {L : List St} {i e : Nat} (h : IsEnd L i e) : hAt L e = hAt L i + 1 := by
  obtain ⟨s, hs, h6⟩ := h.kind
  have h1 := hAt_succ hs
  rw [dlt_end h6, h.2.2.1] at h1
  omega
/-- From a statement that opens on, the height comes back: there is an end, if there is a place where it is as low. -/
theorem end_search {L : List St} {i : Nat} {s : St} (hs : L[i]? = some s) (ho : opn s = true) : ∀ n, i < n → n ≤ L.length → (∀ j, i < j → j ≤ n → hAt L i < hAt L j) ∨ ∃ e, e < n ∧ IsEnd L i e := by
  intro n
  induction n with
  | zero => intro h; omega
  | succ n ih =>
    intro hi hn
    by_cases hin : i < n
    · rcases ih hin (by omega) with h | ⟨e, he, hE⟩
      · have hsn : L[n]? = some L[n] := by simp [show n < L.length by omega]
        have h1 := hAt_succ hsn
        have h2 := h n hin (Nat.le_refl _)
        rcases dlt_cases L[n] with ⟨_, _, hd⟩ | ⟨_, _, hd⟩ | ⟨_, _, hd⟩
        · left; intro j hj hjn
          by_cases e : j = n + 1
          · subst e; omega
          · exact h j hj (by omega)
        · by_cases heq : hAt L (n + 1) = hAt L i
          · exact .inr ⟨n, by omega, hin, by omega, heq, h⟩
          · left; intro j hj hjn
            by_cases e : j = n + 1
            · subst e; omega
            · exact h j hj (by omega)
        · left; intro j hj hjn
          by_cases e : j = n + 1
          · subst e; omega
          · exact h j hj (by omega)
      · exact .inr ⟨e, by omega, hE⟩
    · obtain rfl : i = n := by omega
      left; intro j hj hjn
      obtain rfl : j = i + 1 := by omega
      rw [hAt_succ hs, dlt_opn ho]; omega
theorem end_exists {L : List St} (hb : IsBlk L) {i : Nat} {s : St} (hs : L[i]? = some s) (ho : opn s = true) : ∃ e, IsEnd L i e := by
  have hi := (List.getElem?_eq_some_iff.1 hs).1
  rcases end_search hs ho L.length hi (Nat.le_refl _) with h | ⟨e, _, he⟩
  · have h1 := h L.length hi (Nat.le_refl _)
    have h2 := (blk_bounds hb i).1
    rw [hb.2.1] at h1; omega
  · exact ⟨e, he⟩
theorem IsEnd.opens {L : List St} {i e : Nat} (h : IsEnd L i e) : ∃ s, L[i]? = some s ∧ opn s = true := by
  obtain ⟨s, hi⟩ := at_lt (show i < L.length by have := h.1; have := h.2.1; omega)
  refine ⟨s, hi, ?_⟩
  have h1 := hAt_succ hi
  have h2 := h.2.2.2 (i + 1) (by omega) h.1
  rcases dlt_cases s with ⟨ho, _⟩ | ⟨_, _, hd⟩ | ⟨_, _, hd⟩
  · exact ho
  · omega
  · omega

/-- What EndOf must give. -/
def EndIs (L : List St) (i : Int) (x : Int) : Prop :=
  (∃ j e : Nat, i = j ∧ IsBlk L ∧ IsEnd L j e ∧ x = e) ∨ (x = -1 ∧ ∀ j e : Nat, i = j → IsBlk L → ¬ IsEnd L j e)
theorem EndIs.unique {L : List St} {i x y : Int} (h : EndIs L i x) (h' : EndIs L i y) : x = y := by
  rcases h with ⟨j, e, hj, hb, he, rfl⟩ | ⟨rfl, h⟩ <;> rcases h' with ⟨j', e', hj', hb', he', rfl⟩ | ⟨rfl, h'⟩
  · obtain rfl : j = j' := by omega
    rw [he.unique he']
  · exact absurd he (h' j e hj hb)
  · exact absurd he' (h j' e' hj' hb')
  · rfl
/-- What DepthOf must give. -/
def DepthIs (L : List St) (i : Int) (x : Int) : Prop :=
  (∃ j : Nat, i = j ∧ j < L.length ∧ IsBlk L ∧ x = hAt L j) ∨ (x = -1 ∧ ∀ j : Nat, i = j → j < L.length → ¬ IsBlk L)
theorem DepthIs.unique {L : List St} {i x y : Int} (h : DepthIs L i x) (h' : DepthIs L i y) : x = y := by
  rcases h with ⟨j, hj, hl, hb, rfl⟩ | ⟨rfl, h⟩ <;> rcases h' with ⟨j', hj', hl', hb', rfl⟩ | ⟨rfl, h'⟩
  · obtain rfl : j = j' := by omega
    rfl
  · exact absurd hb (h' j hj hl)
  · exact absurd hb' (h j' hj' hl')
  · rfl
end Go.Proofs.YtlicadaecfgklaaGreatDoor.blk

/- Blocks as heights, on: how many statements are open at a place; how many statements run. Plain mathematics. -/
namespace Go.Proofs.YtlicadaecfgklaaGreatDoor.blk
open Go Go.Proofs.YtlicadaecfgklaaGreatDoor.stm

/-- The statement 'k' is still open at 'i'. -/
def OpenAt (L : List St) (i k : Nat) : Prop := ∀ t, k < t → t ≤ i → hAt L k < hAt L t
theorem openAt_end {L : List St} {i k e : Nat} (h : IsEnd L k e) : i ≤ e ↔ OpenAt L i k := by
  refine ⟨fun hi t h1 h2 => h.2.2.2 t h1 (by omega), fun ho => ?_⟩
  rcases Nat.lt_or_ge e i with hlt | hge
  · have h1 := ho (e + 1) (by have := h.1; omega) (by omega)
    rw [h.2.2.1] at h1; omega
  · exact hge
theorem openAt_opn {L : List St} {i k : Nat} {s : St} (hs : L[k]? = some s) (hk : k < i) (h : OpenAt L i k) : opn s = true := by
  have h1 := h (k + 1) (by omega) (by omega)
  rw [hAt_succ hs] at h1
  rcases dlt_cases s with ⟨ho, _⟩ | ⟨_, _, hd⟩ | ⟨_, _, hd⟩
  · exact ho
  · omega
  · omega
/-- The least height from 'k' to 'i'. -/
def IsMin (L : List St) (i k : Nat) (m : Int) : Prop := (∀ t, k ≤ t → t ≤ i → m ≤ hAt L t) ∧ ∃ t, k ≤ t ∧ t ≤ i ∧ hAt L t = m
theorem isMin_start {L : List St} (h : IsBlk L) (i : Nat) : IsMin L i 0 0 := ⟨fun t _ _ => (blk_bounds h t).1, 0, Nat.le_refl _, Nat.zero_le _, hAt_zero L⟩
theorem isMin_end {L : List St} {i : Nat} {m : Int} (h : IsMin L i i m) : m = hAt L i := by
  obtain ⟨_, t, h1, h2, rfl⟩ := h
  rw [show t = i by omega]
theorem isMin_open {L : List St} {i k : Nat} {m : Int} (h : IsMin L i k m) (hk : k < i) (hl : i ≤ L.length) (ho : OpenAt L i k) : IsMin L i (k + 1) (m + 1) := by
  obtain ⟨s, hs⟩ := at_lt (show k < L.length by omega)
  have h1 := hAt_succ hs
  rw [dlt_opn (openAt_opn hs hk ho)] at h1
  obtain ⟨ha, t, ht1, ht2, hte⟩ := h
  have hkm : hAt L k = m := by
    by_cases e : t = k
    · rw [← e, hte]
    · have := ho t (by omega) ht2
      have := ha k (Nat.le_refl _) (by omega)
      omega
  exact ⟨fun u hu1 hu2 => by have := ho u (by omega) hu2; omega, k + 1, Nat.le_refl _, by omega, by omega⟩
theorem isMin_shut {L : List St} {i k : Nat} {m : Int} (h : IsMin L i k m) (_hk : k < i) (ho : ¬ OpenAt L i k) : IsMin L i (k + 1) m := by
  obtain ⟨ha, t, ht1, ht2, hte⟩ := h
  refine ⟨fun u hu1 hu2 => ha u (by omega) hu2, ?_⟩
  by_cases e : t = k
  · subst e
    have hex : ∃ u, t < u ∧ u ≤ i ∧ hAt L u ≤ hAt L t := by
      refine Classical.byContradiction fun hn => ho fun u h1 h2 => ?_
      rcases Int.lt_or_le (hAt L t) (hAt L u) with h3 | h3
      · exact h3
      · exact absurd ⟨u, h1, h2, h3⟩ hn
    obtain ⟨u, h1, h2, h3⟩ := hex
    have := ha u (by omega) h2
    exact ⟨u, by omega, h2, by omega⟩
  · exact ⟨t, by omega, ht2, hte⟩

/-- A stretch at one height: it ends where it began, and never goes below. -/
def Flat (L : List St) (a b : Nat) : Prop := a ≤ b ∧ b ≤ L.length ∧ hAt L b = hAt L a ∧ ∀ t, a ≤ t → t ≤ b → hAt L a ≤ hAt L t
theorem flat_all {L : List St} (h : IsBlk L) : Flat L 0 L.length := ⟨Nat.zero_le _, Nat.le_refl _, by rw [h.2.1, hAt_zero], fun t _ _ => by rw [hAt_zero]; exact (blk_bounds h t).1⟩
theorem flat_body {L : List St} {i e : Nat} (h : IsEnd L i e) : Flat L (i + 1) e := by
  obtain ⟨s, hs, ho⟩ := h.opens
  have h1 := hAt_succ hs
  rw [dlt_opn ho] at h1
  have h2 := h.depth
  exact ⟨h.1, by have := h.2.1; omega, by omega, fun t ht1 ht2 => by have := h.2.2.2 t (by omega) ht2; omega⟩
/-- Within a stretch, at its own height, no end stands. -/
theorem flat_not_end {L : List St} {a b i : Nat} {s : St} (h : Flat L a b) (hi : i < b) (ha : a ≤ i) (he : hAt L i = hAt L a) (hs : L[i]? = some s) : s.k ≠ 6 := fun h6 => by
  have h1 := hAt_succ hs
  rw [dlt_end h6] at h1
  have := h.2.2.2 (i + 1) (by omega) (by omega)
  omega
/-- Within a stretch, a statement that opens at its height has its end within it. -/
theorem flat_end {L : List St} {a b i e : Nat} (h : Flat L a b) (hi : i < b) (he : hAt L i = hAt L a) (hE : IsEnd L i e) : e < b := by
  rcases Nat.lt_or_ge e b with hlt | hge
  · exact hlt
  · have := hE.2.2.2 b hi hge
    rw [h.2.2.1] at this; omega

/-- So many statements run from 'a' up to 'b', if every condition holds. -/
inductive Runs (L : List St) : Nat → Nat → Int → Prop
  | nil (a : Nat) : Runs L a a 0
  | one (a b : Nat) (x : Int) (s : St) (hs : L[a]? = some s) (ho : opn s = false) (h6 : s.k ≠ 6) (hr : Runs L (a + 1) b x) : Runs L a b (1 + x)
  | nest (a e b : Nat) (x y : Int) (s : St) (hs : L[a]? = some s) (he : IsEnd L a e) (hb : Runs L (a + 1) e x) (hr : Runs L (e + 1) b y) : Runs L a b (max 1 s.n * x + y)
theorem Runs.le {L : List St} {a b : Nat} {x : Int} (h : Runs L a b x) : a ≤ b := by
  induction h with
  | nil => exact Nat.le_refl _
  | one => omega
  | nest a e b x y s hs he hb hr _ ih => have := he.1; omega
theorem Runs.unique {L : List St} {a b : Nat} {x : Int} (h : Runs L a b x) : ∀ {y : Int}, Runs L a b y → x = y := by
  induction h with
  | nil a =>
    intro y h'
    cases h' with
    | nil => rfl
    | one _ _ z s hs ho _ hr => have := hr.le; omega
    | nest _ e _ z u s hs he hb hr => have := hr.le; have := he.1; omega
  | one a b x s hs ho h6 hr ih =>
    intro y h'
    cases h' with
    | nil => have := hr.le; omega
    | one _ _ z s' hs' ho' _ hr' => rw [ih hr']
    | nest _ e _ z u s' hs' he' hb' hr' =>
      obtain ⟨s2, hs2, ho2⟩ := he'.opens
      rw [hs] at hs2; cases hs2; rw [ho] at ho2; cases ho2
  | nest a e b x y s hs he hb hr ih1 ih2 =>
    intro z h'
    cases h' with
    | nil => have := hr.le; have := he.1; omega
    | one _ _ u s' hs' ho' _ hr' =>
      obtain ⟨s2, hs2, ho2⟩ := he.opens
      rw [hs'] at hs2; cases hs2; rw [ho'] at ho2; cases ho2
    | nest _ e' _ u v s' hs' he' hb' hr' =>
      obtain rfl := he.unique he'
      rw [hs] at hs'; cases hs'
      rw [ih1 hb', ih2 hr']
theorem Runs.app {L : List St} {a b c : Nat} {x y : Int} (h : Runs L a b x) (h' : Runs L b c y) : Runs L a c (x + y) := by
  induction h with
  | nil => rw [Int.zero_add]; exact h'
  | one a b x s hs ho h6 hr ih => rw [Int.add_assoc]; exact .one a c _ s hs ho h6 (ih h')
  | nest a e b x z s hs he hb hr _ ih => rw [Int.add_assoc]; exact .nest a e c x _ s hs he hb (ih h')
theorem Runs.snoc {L : List St} {a b : Nat} {x : Int} {s : St} (h : Runs L a b x) (hs : L[b]? = some s) (ho : opn s = false) (h6 : s.k ≠ 6) : Runs L a (b + 1) (x + 1) := by
  have := h.app (.one b (b + 1) 0 s hs ho h6 (.nil _))
  simpa using this
theorem Runs.snest {L : List St} {a b e : Nat} {x y : Int} {s : St} (h : Runs L a b x) (hs : L[b]? = some s) (he : IsEnd L b e) (hy : Runs L (b + 1) e y) : Runs L a (e + 1) (x + max 1 s.n * y) := by
  have := h.app (.nest b e (e + 1) y 0 s hs he hy (.nil _))
  simpa using this
/-- A valid statement's number is at most 5. -/
theorem n_le {s : St} (h : stOk s = true) : s.n ≤ 5 := by
  unfold stOk at h
  split at h
  · simp at h; omega
  split at h
  · simp at h; omega
  split at h
  · simp at h; omega
  split at h
  · simp at h; omega
  split at h
  · simp at h; omega
  split at h
  · simp at h; omega
  · cases h
def p5 (h : Int) : Int := if h ≤ 0 then 125 else if h = 1 then 25 else if h = 2 then 5 else 1
theorem Runs.bound {L : List St} (hb : IsBlk L) {a b : Nat} {x : Int} (h : Runs L a b x) : ∀ H : Int, hAt L a = H → 0 ≤ x ∧ x ≤ (b - a : Int) * p5 H := by
  induction h with
  | nil a => intro H _; simp
  | one a b x s hs ho h6 hr ih =>
    intro H hH
    have h1 := hAt_succ hs
    rw [dlt_flat ho h6] at h1
    have h2 := ih H (by omega)
    have : (1 : Int) ≤ p5 H := by unfold p5; split <;> (try split) <;> (try split) <;> omega
    refine ⟨by omega, ?_⟩
    have e : ((b : Int) - a) * p5 H = ((b : Int) - ((a + 1 : Nat) : Int)) * p5 H + p5 H := by
      rw [show (b : Int) - a = ((b : Int) - ((a + 1 : Nat) : Int)) + 1 by omega, Int.add_mul, Int.one_mul]
    rw [e]; omega
  | nest a e b x y s hs he hbb hr ih1 ih2 =>
    intro H hH
    obtain ⟨s2, hs2, ho2⟩ := he.opens
    have h1 := hAt_succ hs2
    rw [dlt_opn ho2] at h1
    have h2 := (blk_bounds hb (a + 1)).2
    have h3 := (blk_bounds hb a).1
    have hx := ih1 (H + 1) (by omega)
    have hy := ih2 H (by rw [he.2.2.1, hH])
    have hn := n_le (blk_stOk hb hs)
    have hae := he.1
    have hle := hr.le
    obtain ⟨m, hm⟩ : ∃ m, max 1 s.n = m := ⟨_, rfl⟩
    have hm1 : 1 ≤ m ∧ m ≤ 5 := by omega
    rw [hm]
    have hmx : 0 ≤ m * x := Int.mul_nonneg (by omega) hx.1
    have hmx5 : m * x ≤ 5 * x := Int.mul_le_mul_of_nonneg_right hm1.2 hx.1
    rcases (show H = 0 ∨ H = 1 ∨ H = 2 by omega) with rfl | rfl | rfl
    · simp only [p5] at hx hy ⊢; simp at hx hy ⊢; omega
    · simp only [p5] at hx hy ⊢; simp at hx hy ⊢; omega
    · simp only [p5] at hx hy ⊢; simp at hx hy ⊢; omega
theorem runs_small {L : List St} (hb : IsBlk L) {a b : Nat} {x : Int} (h : Runs L a b x) (hl : b ≤ L.length) : 0 ≤ x ∧ x ≤ 3000 := by
  have h1 := h.bound hb (hAt L a) rfl
  have h2 : p5 (hAt L a) ≤ 125 ∧ 0 ≤ p5 (hAt L a) := by unfold p5; split <;> (try split) <;> (try split) <;> omega
  have h3 := h.le
  have h4 := hb.2.2
  have h5 : ((b : Int) - a) * p5 (hAt L a) ≤ ((b : Int) - a) * 125 := Int.mul_le_mul_of_nonneg_left h2.1 (by omega)
  omega
/-- What LongestRun must give. -/
def LongIs (L : List St) (x : Int) : Prop := (IsBlk L ∧ Runs L 0 L.length x) ∨ (x = -1 ∧ ¬ IsBlk L)
theorem LongIs.unique {L : List St} {x y : Int} (h : LongIs L x) (h' : LongIs L y) : x = y := by
  rcases h with ⟨hb, h⟩ | ⟨rfl, h⟩ <;> rcases h' with ⟨hb', h'⟩ | ⟨rfl, h'⟩
  · exact h.unique h'
  · exact absurd hb h'
  · exact absurd hb' h
  · rfl
theorem blk_dec (L : List St) : ∃ r : Bool, r = true ↔ IsBlk L := by
  rcases Classical.em (IsBlk L) with h | h
  · exact ⟨true, fun _ => h, fun _ => rfl⟩
  · exact ⟨false, fun e => (by cases e), fun e => absurd e h⟩
theorem endIs_ex (L : List St) (i : Int) : ∃ X, EndIs L i X := by
  rcases Classical.em (∃ j e : Nat, i = j ∧ IsBlk L ∧ IsEnd L j e) with ⟨j, e, h1, h2, h3⟩ | h
  · exact ⟨e, .inl ⟨j, e, h1, h2, h3, rfl⟩⟩
  · exact ⟨-1, .inr ⟨rfl, fun j e h1 h2 h3 => h ⟨j, e, h1, h2, h3⟩⟩⟩
theorem depthIs_ex (L : List St) (i : Int) : ∃ X, DepthIs L i X := by
  rcases Classical.em (∃ j : Nat, i = j ∧ j < L.length ∧ IsBlk L) with ⟨j, h1, h2, h3⟩ | h
  · exact ⟨hAt L j, .inl ⟨j, h1, h2, h3, rfl⟩⟩
  · exact ⟨-1, .inr ⟨rfl, fun j h1 h2 h3 => h ⟨j, h1, h2, h3⟩⟩⟩
/-- A stretch at one height has a count. -/
theorem runs_ex {L : List St} (hb : IsBlk L) : ∀ (m a b : Nat), b - a ≤ m → Flat L a b → ∃ x, Runs L a b x := by
  intro m
  induction m with
  | zero => intro a b hm hF; obtain rfl : a = b := by have := hF.1; omega
            exact ⟨0, .nil _⟩
  | succ m ih =>
    intro a b hm hF
    by_cases hab : a = b
    · subst hab; exact ⟨0, .nil _⟩
    · have hlt : a < b := by have := hF.1; omega
      obtain ⟨s, hs⟩ := at_lt (show a < L.length by have := hF.2.1; omega)
      have h6 := flat_not_end hF hlt (Nat.le_refl _) rfl hs
      have h1 := hAt_succ hs
      cases ho : opn s
      · rw [dlt_flat ho h6] at h1
        obtain ⟨x, hx⟩ := ih (a + 1) b (by omega) ⟨by omega, hF.2.1, by have := hF.2.2.1; omega, fun t h2 h3 => by have := hF.2.2.2 t (by omega) h3; omega⟩
        exact ⟨_, .one a b x s hs ho h6 hx⟩
      · obtain ⟨e, he⟩ := end_exists hb hs ho
        have heb := flat_end hF hlt rfl he
        have hae := he.1
        obtain ⟨x, hx⟩ := ih (a + 1) e (by omega) (flat_body he)
        obtain ⟨y, hy⟩ := ih (e + 1) b (by omega) ⟨by omega, hF.2.1, by rw [he.2.2.1]; exact hF.2.2.1, fun t h2 h3 => by rw [he.2.2.1]; exact hF.2.2.2 t (by omega) h3⟩
        exact ⟨_, .nest a e b x y s hs he hx hy⟩
theorem longIs_ex (L : List St) : ∃ X, LongIs L X := by
  rcases Classical.em (IsBlk L) with h | h
  · obtain ⟨x, hx⟩ := runs_ex h L.length 0 L.length (by omega) (flat_all h)
    exact ⟨x, .inl ⟨h, hx⟩⟩
  · exact ⟨-1, .inr ⟨rfl, h⟩⟩
end Go.Proofs.YtlicadaecfgklaaGreatDoor.blk
