/- Several texts in one: StmtA Eval. -/
import Derived.Test.YtebokjjeeedmjaaGreatGHub1
import Derived.WalkLawsBesides
import Derived.Deep.RegionHeld3

/- Statements and blocks as plain data: when a statement is valid, when a list of statements is a valid block of so many levels, and the cells of such a list. Plain mathematics. -/
namespace Go.Proofs.YtebokjjeeedmjaaGreat.stm
open Go.RowKit Go.Proofs.YtebokjjeeedmjaaGreat.row Go.Proofs.YtebokjjeeedmjaaGreat.expr

/-- A statement: its kind, its variable, its number, and the three numbers of its expression. -/
structure St where
  (k v n o a b : Int)
deriving DecidableEq
def exprZ (s : St) : Bool := decide (s.o = 0) && (decide (s.a = 0) && decide (s.b = 0))
def varOk (v : Int) : Bool := decide (0 ≤ v) && decide (v ≤ 7)
def stOk (s : St) : Bool :=
  if s.k = 1 then varOk s.v && (decide (s.n = 0) && exprOk s.o s.a s.b)
  else if s.k = 2 then varOk s.v && ((decide (0 ≤ s.n) && decide (s.n ≤ 3)) && exprZ s)
  else if s.k = 3 then decide (s.v = 0) && (decide (s.n = 0) && exprOk s.o s.a s.b)
  else if s.k = 4 then decide (s.v = 0) && (decide (s.n = 0) && exprOk s.o s.a s.b)
  else if s.k = 5 then decide (s.v = 0) && ((decide (1 ≤ s.n) && decide (s.n ≤ 5)) && exprZ s)
  else if s.k = 6 then decide (s.v = 0) && (decide (s.n = 0) && exprZ s)
  else false
theorem stOk_set {v o a b : Int} (h0 : 0 ≤ v) (h1 : v ≤ 7) (he : exprOk o a b = true) : stOk ⟨1, v, 0, o, a, b⟩ = true := by simp [stOk, varOk, h0, h1, he]
theorem stOk_sense {v n : Int} (h0 : 0 ≤ v) (h1 : v ≤ 7) (h2 : 0 ≤ n) (h3 : n ≤ 3) : stOk ⟨2, v, n, 0, 0, 0⟩ = true := by simp [stOk, varOk, exprZ, h0, h1, h2, h3]
theorem stOk_send {o a b : Int} (he : exprOk o a b = true) : stOk ⟨3, 0, 0, o, a, b⟩ = true := by simp [stOk, he]
theorem stOk_if {o a b : Int} (he : exprOk o a b = true) : stOk ⟨4, 0, 0, o, a, b⟩ = true := by simp [stOk, he]
theorem stOk_loop {n : Int} (h2 : 1 ≤ n) (h3 : n ≤ 5) : stOk ⟨5, 0, n, 0, 0, 0⟩ = true := by simp [stOk, exprZ, h2, h3]
def endSt : St := ⟨6, 0, 0, 0, 0, 0⟩
theorem stOk_end : stOk endSt = true := by decide

/-- A valid block with at most 'd' levels of loops and conditions. -/
inductive Blk : Nat → List St → Prop
  | nil (d : Nat) : Blk d []
  | one (d : Nat) (s : St) (rest : List St) (hs : stOk s = true) (h1 : 1 ≤ s.k) (h3 : s.k ≤ 3) (hr : Blk d rest) : Blk d (s :: rest)
  | nest (d : Nat) (s : St) (body rest : List St) (hs : stOk s = true) (hk : s.k = 4 ∨ s.k = 5) (hb : Blk d body) (hr : Blk (d + 1) rest) : Blk (d + 1) (s :: (body ++ endSt :: rest))
theorem Blk.app {d : Nat} {L M : List St} (h : Blk d L) (h2 : Blk d M) : Blk d (L ++ M) := by
  induction h with
  | nil d => exact h2
  | one d s rest hs h1 h3 _ ih => exact .one d s _ hs h1 h3 (ih h2)
  | nest d s body rest hs hk hb _ _ ih =>
    have e : (s :: (body ++ endSt :: rest)) ++ M = s :: (body ++ endSt :: (rest ++ M)) := by simp
    rw [e]; exact .nest d s body _ hs hk hb (ih h2)
theorem Blk.snoc {d : Nat} {L : List St} (h : Blk d L) {s : St} (hs : stOk s = true) (h1 : 1 ≤ s.k) (h3 : s.k ≤ 3) : Blk d (L ++ [s]) := h.app (.one d s [] hs h1 h3 (.nil d))
theorem Blk.wrap {d : Nat} {L B : List St} (h : Blk (d + 1) L) {s : St} (hs : stOk s = true) (hk : s.k = 4 ∨ s.k = 5) (hb : Blk d B) : Blk (d + 1) (((L ++ [s]) ++ B) ++ [endSt]) := by
  have e : ((L ++ [s]) ++ B) ++ [endSt] = L ++ (s :: (B ++ endSt :: [])) := by simp
  rw [e]; exact h.app (.nest d s B [] hs hk hb (.nil _))

/-- The cells of a statement, of a list of statements. -/
def stC (s : St) : List Value := [.int .i64 s.k, .int .i64 s.v, .int .i64 s.n, .int .i64 s.o, .int .i64 s.a, .int .i64 s.b]
abbrev stV (s : St) : Value := .agg #[.int .i64 s.k, .int .i64 s.v, .int .i64 s.n, .int .i64 s.o, .int .i64 s.a, .int .i64 s.b]
def stsC (L : List St) : List Value := L.flatMap stC
theorem stsC_len (L : List St) : (stsC L).length = L.length * 6 := by
  induction L with
  | nil => rfl
  | cons s L ih => simp only [stsC, List.flatMap_cons, List.length_append, List.length_cons] at *; rw [ih]; simp [stC]; omega
theorem stsC_app (L M : List St) : stsC (L ++ M) = stsC L ++ stsC M := by simp [stsC]
theorem stsC_one (s : St) : stsC [s] = stC s := by simp [stsC]
theorem stsC_at {L : List St} {i : Nat} {s : St} (h : L[i]? = some s) (j : Nat) (hj : j < 6) : (stsC L)[i * 6 + j]? = (stC s)[j]? := by
  induction L generalizing i with
  | nil => simp at h
  | cons t L ih =>
    have e : stsC (t :: L) = stC t ++ stsC L := by simp [stsC]
    have l6 : (stC t).length = 6 := rfl
    cases i with
    | zero =>
      simp at h; subst h
      rw [e, List.getElem?_append_left (by omega)]; congr 1; omega
    | succ i =>
      simp at h
      rw [e, List.getElem?_append_right (by omega), l6, show (i + 1) * 6 + j - 6 = i * 6 + j by omega]
      exact ih h
end Go.Proofs.YtebokjjeeedmjaaGreat.stm

/- Chapter 3's OperandValue, ExprOk and EvalExpr, of the program and of the model: the plain functions of the text before; nothing that was there is written. -/
namespace Go.Proofs.YtebokjjeeedmjaaGreat.expr
open Go.ChangeShapes Go.WideShapes Go.ChangeAt Go.RowKit Go.Proofs.YtebokjjeeedmjaaGreat.row Go.Proofs.YtebokjjeeedmjaaGreat.val

theorem opndVal_ok {L : List Int} {m : Int} (h : opndOk m = true) (h2 : varsOk L = true) : opndVal L m = valOf L m := by simp [opndVal, h, h2]
theorem opndVal_no {L : List Int} {m : Int} (h : opndOk m = false ∨ varsOk L = false) : opndVal L m = 0 := by
  rcases h with h | h <;> simp [opndVal, h]
section values
theorem impl_isvar (m : Int) (w : World) : Calls Tryz.prog 73 #[.int .i64 m] w (RetB w (decide (m < 0))) := by
  go_enter Tryz.func73, Tryz.ntmps73
  go_wp2
  go_ret
  exact ⟨rfl, rfl⟩
theorem impl_varof (m : Int) (h1 : -1000000 ≤ m) (h2 : m ≤ 1000000) (w : World) : Calls Tryz.prog 74 #[.int .i64 m] w (Ret w (-1 - m)) := by
  go_enter Tryz.func74, Tryz.ntmps74
  go_wp2
  go_ret
  exact ⟨rfl, rfl⟩
end values

section expressions
theorem in_op (o : Int) (r : Bool) (h : opOk o = r) : (decide (1 ≤ o) && decide (o ≤ 7)) = r := h
theorem spec_exprok (o a b : Int) (r : Bool) (hr : exprOk o a b = r) (w : World) : Calls Tryz.prog 18 #[ev o a b] w (BelB w r) := by
  cases h1 : opOk o <;> cases h2 : opndOk a <;> cases h3 : opndOk b
  all_goals
    obtain rfl : _ = r := hr
    have HE := Lib.hid (show exprOk o a b = (opOk o && (opndOk a && opndOk b)) from rfl)
    rw [h1, h2, h3] at HE
    go_enter Tryz.func18, Tryz.ntmps18
    go_wp2_with (first
      | (go_at_call 19; refine (in_any _ _ _ _ (in_op _ _ h1) _).mono ?_; rintro e w1 ⟨rfl, rfl⟩)
      | (go_at_call 34; (with_reducible refine (spec_opnd a _ h2 _).mono ?_); rintro e w1 ⟨rfl, rfl⟩)
      | (go_at_call 34; (with_reducible refine (spec_opnd b _ h3 _).mono ?_); rintro e w1 ⟨rfl, rfl⟩))
    go_ret
    exact ⟨by rw [HE.out]; rfl, (Below.refl _ _).alloc (Nat.le_refl _) _⟩
theorem impl_exprok (o a b : Int) (r : Bool) (hr : exprOk o a b = r) (w : World) : Calls Tryz.prog 43 #[ev o a b] w (BelB w r) := by
  by_cases h0 : 1 ≤ o <;> by_cases h1 : o ≤ 7 <;> cases h2 : opndOk a <;> cases h3 : opndOk b
  all_goals first | (exfalso; omega) | skip
  all_goals
    obtain rfl : _ = r := hr
    have HE := Lib.hid (show exprOk o a b = (decide (1 ≤ o) && decide (o ≤ 7) && (opndOk a && opndOk b)) from rfl)
    rw [h2, h3] at HE
    simp only [h0, h1, decide_true, decide_false] at HE
    first | have hd : decide (o ≤ 7) = true := by simpa using h1 | have hd : decide (o ≤ 7) = false := by simpa using h1
    first | have hd0 : decide (1 ≤ o) = true := by simpa using h0 | have hd0 : decide (1 ≤ o) = false := by simpa using h0
    go_enter Tryz.func43, Tryz.ntmps43
    go_wp2_with (first
      | (go_at_call 57; (with_reducible refine (impl_opnd a _ h2 _).mono ?_); rintro e w1 ⟨rfl, rfl⟩)
      | (go_at_call 57; (with_reducible refine (impl_opnd b _ h3 _).mono ?_); rintro e w1 ⟨rfl, rfl⟩))
    go_ret
    exact ⟨by rw [HE.out]; first | rfl | simp [hd], (Below.refl _ _).alloc (Nat.le_refl _) _⟩
/-- A struct is copied field by field. -/
def SameE (w : World) (o a b : Int) (e : Ending) (w' : World) : Prop := e = .returned (ev o a b) ∧ Below w.heap.size w w'
theorem toExpr_any (o a b : Int) (w : World) : Calls Tryz.prog 41 #[ev o a b] w (SameE w o a b) := by
  go_enter Tryz.func41, Tryz.ntmps41
  go_wp2
  refine bodyPost_ret (v := ev o a b) (by simp [results, Tryz.results41, go_sem, ev]) rfl ⟨rfl, ?_⟩
  exact (((Below.refl _ _).alloc (Nat.le_refl _) _).alloc (by simp) _).alloc (by simp; omega) _
end expressions
end Go.Proofs.YtebokjjeeedmjaaGreat.expr
