/- Statements and blocks as plain data: when a statement is valid, when a list of statements is a valid block of so many levels, and the cells of such a list. Plain mathematics. -/
import Derived.Test.YtodlbbojjnkneaaDoorExpr
namespace Go.Proofs.YtodlbbojjnkneaaDoor.stm
open Go.RowKit Go.Proofs.YtodlbbojjnkneaaDoor.row Go.Proofs.YtodlbbojjnkneaaDoor.expr

/-- A statement: its kind, its variable, its number, and the three numbers of its expression. -/
structure St where
  (k v n o a b : Int)
deriving DecidableEq
def exprZ (s : St) : Bool := decide (s.o = 0) && (decide (s.a = 0) && decide (s.b = 0))
def varOk (v : Int) : Bool := decide (0 ≤ v) && decide (v ≤ 7)
def stOk (s : St) : Bool :=
  if s.k = 1 then varOk s.v && (decide (s.n = 0) && exprOk s.o s.a s.b)
  else if s.k = 2 then varOk s.v && ((decide (0 ≤ s.n) && decide (s.n ≤ 3)) && exprZ s)
  else if s.k = 3 then decide (s.v = 0) && (decide (s.n = 0) && exprOk s.o s.a s.b)
  else if s.k = 4 then decide (s.v = 0) && (decide (s.n = 0) && exprOk s.o s.a s.b)
  else if s.k = 5 then decide (s.v = 0) && ((decide (1 ≤ s.n) && decide (s.n ≤ 5)) && exprZ s)
  else if s.k = 6 then decide (s.v = 0) && (decide (s.n = 0) && exprZ s)
  else false
theorem stOk_set {v o a b : Int} (h0 : 0 ≤ v) (h1 : v ≤ 7) (he : exprOk o a b = true) : stOk ⟨1, v, 0, o, a, b⟩ = true := by simp [stOk, varOk, h0, h1, he]
theorem stOk_sense {v n : Int} (h0 : 0 ≤ v) (h1 : v ≤ 7) (h2 : 0 ≤ n) (h3 : n ≤ 3) : stOk ⟨2, v, n, 0, 0, 0⟩ = true := by simp [stOk, varOk, exprZ, h0, h1, h2, h3]
theorem stOk_send {o a b : Int} (he : exprOk o a b = true) : stOk ⟨3, 0, 0, o, a, b⟩ = true := by simp [stOk, he]
theorem stOk_if {o a b : Int} (he : exprOk o a b = true) : stOk ⟨4, 0, 0, o, a, b⟩ = true := by simp [stOk, he]
theorem stOk_loop {n : Int} (h2 : 1 ≤ n) (h3 : n ≤ 5) : stOk ⟨5, 0, n, 0, 0, 0⟩ = true := by simp [stOk, exprZ, h2, h3]
def endSt : St := ⟨6, 0, 0, 0, 0, 0⟩
theorem stOk_end : stOk endSt = true := by decide

/-- A valid block with at most 'd' levels of loops and conditions. -/
inductive Blk : Nat → List St → Prop
  | nil (d : Nat) : Blk d []
  | one (d : Nat) (s : St) (rest : List St) (hs : stOk s = true) (h1 : 1 ≤ s.k) (h3 : s.k ≤ 3) (hr : Blk d rest) : Blk d (s :: rest)
  | nest (d : Nat) (s : St) (body rest : List St) (hs : stOk s = true) (hk : s.k = 4 ∨ s.k = 5) (hb : Blk d body) (hr : Blk (d + 1) rest) : Blk (d + 1) (s :: (body ++ endSt :: rest))
theorem Blk.app {d : Nat} {L M : List St} (h : Blk d L) (h2 : Blk d M) : Blk d (L ++ M) := by
  induction h with
  | nil d => exact h2
  | one d s rest hs h1 h3 _ ih => exact .one d s _ hs h1 h3 (ih h2)
  | nest d s body rest hs hk hb _ _ ih =>
    have e : (s :: (body ++ endSt :: rest)) ++ M = s :: (body ++ endSt :: (rest ++ M)) := by simp
    rw [e]; exact .nest d s body _ hs hk hb (ih h2)
theorem Blk.snoc {d : Nat} {L : List St} (h : Blk d L) {s : St} (hs : stOk s = true) (h1 : 1 ≤ s.k) (h3 : s.k ≤ 3) : Blk d (L ++ [s]) := h.app (.one d s [] hs h1 h3 (.nil d))
theorem Blk.wrap {d : Nat} {L B : List St} (h : Blk (d + 1) L) {s : St} (hs : stOk s = true) (hk : s.k = 4 ∨ s.k = 5) (hb : Blk d B) : Blk (d + 1) (((L ++ [s]) ++ B) ++ [endSt]) := by
  have e : ((L ++ [s]) ++ B) ++ [endSt] = L ++ (s :: (B ++ endSt :: [])) := by simp
  rw [e]; exact h.app (.nest d s B [] hs hk hb (.nil _))

/-- The cells of a statement, of a list of statements. -/
def stC (s : St) : List Value := [.int .i64 s.k, .int .i64 s.v, .int .i64 s.n, .int .i64 s.o, .int .i64 s.a, .int .i64 s.b]
abbrev stV (s : St) : Value := .agg #[.int .i64 s.k, .int .i64 s.v, .int .i64 s.n, .int .i64 s.o, .int .i64 s.a, .int .i64 s.b]
def stsC (L : List St) : List Value := L.flatMap stC
theorem stsC_len (L : List St) : (stsC L).length = L.length * 6 := by
  induction L with
  | nil => rfl
  | cons s L ih => simp only [stsC, List.flatMap_cons, List.length_append, List.length_cons] at *; rw [ih]; simp [stC]; omega
theorem stsC_app (L M : List St) : stsC (L ++ M) = stsC L ++ stsC M := by simp [stsC]
theorem stsC_one (s : St) : stsC [s] = stC s := by simp [stsC]
theorem stsC_at {L : List St} {i : Nat} {s : St} (h : L[i]? = some s) (j : Nat) (hj : j < 6) : (stsC L)[i * 6 + j]? = (stC s)[j]? := by
  induction L generalizing i with
  | nil => simp at h
  | cons t L ih =>
    have e : stsC (t :: L) = stC t ++ stsC L := by simp [stsC]
    have l6 : (stC t).length = 6 := rfl
    cases i with
    | zero =>
      simp at h; subst h
      rw [e, List.getElem?_append_left (by omega)]; congr 1; omega
    | succ i =>
      simp at h
      rw [e, List.getElem?_append_right (by omega), l6, show (i + 1) * 6 + j - 6 = i * 6 + j by omega]
      exact ih h
end Go.Proofs.YtodlbbojjnkneaaDoor.stm
