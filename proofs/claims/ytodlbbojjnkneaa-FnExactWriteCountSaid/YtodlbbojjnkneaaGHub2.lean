/- Several texts in one: CstA StmtA. -/
import Derived.Test.YtodlbbojjnkneaaGHub1

/- Costs: RecoveryCost and EnergyFor, of the program and of the model; no condition. -/
namespace Go.Proofs.Ytodlbbojjnkneaa.cst
open Go Go.ChangeShapes Go.WideShapes Go.ChangeAt Go.RowKit Go.Proofs.Ytodlbbojjnkneaa.row Go.Proofs.Ytodlbbojjnkneaa.val Go.Proofs.Ytodlbbojjnkneaa.expr

def recC (n : Int) : Int := if n < 0 ∨ 8 < n then -1 else if n = 0 then 0 else 3 * (n + 1)
def amt (n : Int) : Bool := decide (0 ≤ n) && decide (n ≤ 1000000)
def nrgC (s r : Int) : Int := if amt s = true ∧ amt r = true then s * 2 + r * 3 else -1
theorem recC_out {n : Int} (h : n < 0 ∨ 8 < n) : recC n = -1 := by unfold recC; rw [if_pos h]
theorem recC_zero : recC 0 = 0 := rfl
theorem recC_in {n : Int} (h : 1 ≤ n) (h2 : n ≤ 8) : recC n = 3 * (n + 1) := by unfold recC; rw [if_neg (by omega), if_neg (by omega)]
theorem amt_iff {n : Int} : amt n = true ↔ 0 ≤ n ∧ n ≤ 1000000 := by simp [amt]
theorem nrgC_in {s r : Int} (h : amt s = true) (h2 : amt r = true) : nrgC s r = s * 2 + r * 3 := by unfold nrgC; rw [if_pos ⟨h, h2⟩]
theorem nrgC_out1 {s r : Int} (h : amt s = false) : nrgC s r = -1 := by unfold nrgC; rw [if_neg (by simp [h])]
theorem nrgC_out2 {s r : Int} (h : amt r = false) : nrgC s r = -1 := by unfold nrgC; rw [if_neg (by simp [h])]
theorem impl_recovery (n : Int) (w : World) : Calls Try.prog 11 #[.int .i64 n] w (Ret w (recC n)) := by
  rcases (show n < 0 ∨ 8 < n ∨ n = 0 ∨ (1 ≤ n ∧ n ≤ 8) by omega) with h | h | rfl | ⟨h, h2⟩
  · have HV := Lib.hid (recC_out (n := n) (.inl h))
    go_enter Try.func11, Try.ntmps11
    go_wp2
    go_ret
    exact ⟨ret_int HV.out.symm, rfl⟩
  · have HV := Lib.hid (recC_out (n := n) (.inr h))
    have h0 : ¬ n < 0 := by omega
    go_enter Try.func11, Try.ntmps11
    go_wp2
    go_ret
    exact ⟨ret_int HV.out.symm, rfl⟩
  · go_enter Try.func11, Try.ntmps11
    go_wp2
    go_ret
    exact ⟨rfl, rfl⟩
  · have HV := Lib.hid (recC_in (n := n) h h2)
    have h0 : ¬ n < 0 := by omega
    have h3 : ¬ n = 0 := by omega
    go_enter Try.func11, Try.ntmps11
    go_wp2
    go_ret
    exact ⟨ret_int HV.out.symm, rfl⟩
theorem spec_recovery (n : Int) (w : World) : Calls Try.prog 18 #[.int .i64 n] w (Ret w (recC n)) := by
  rcases (show (n < 0 ∨ 8 < n) ∨ n = 0 ∨ (1 ≤ n ∧ n ≤ 8) by omega) with h | rfl | ⟨h, h2⟩
  · have HV := Lib.hid (recC_out (n := n) h)
    have HIN := Lib.hid (show (decide (0 ≤ n) && decide (n ≤ 8)) = false by simp; omega)
    clear h
    go_enter Try.func18, Try.ntmps18
    go_wp2_with (go_at_call 31; (with_reducible refine (in_any _ 0 8 _ HIN.out _).mono ?_); rintro e w3 ⟨rfl, rfl⟩)
    go_ret
    exact ⟨ret_int HV.out.symm, rfl⟩
  · go_enter Try.func18, Try.ntmps18
    go_wp2_with (go_at_call 31; (with_reducible refine (in_any _ 0 8 true rfl _).mono ?_); rintro e w3 ⟨rfl, rfl⟩)
    go_ret
    exact ⟨rfl, rfl⟩
  · have HV := Lib.hid (recC_in (n := n) h h2)
    have HIN := Lib.hid (show (decide (0 ≤ n) && decide (n ≤ 8)) = true by simp; omega)
    have h3 : ¬ n = 0 := by omega
    go_enter Try.func18, Try.ntmps18
    go_wp2_with (go_at_call 31; (with_reducible refine (in_any _ 0 8 _ HIN.out _).mono ?_); rintro e w3 ⟨rfl, rfl⟩)
    go_ret
    exact ⟨ret_int HV.out.symm, rfl⟩
theorem impl_amount (v : Int) (r : Bool) (hr : amt v = r) (w : World) : Calls Try.prog 28 #[.int .i64 v] w (RetB w r) := by
  subst hr
  rcases (show v < 0 ∨ 1000000 < v ∨ (0 ≤ v ∧ v ≤ 1000000) by omega) with h | h | ⟨h, h2⟩
  · have HE := Lib.hid (show amt v = false by simp [amt]; omega)
    go_enter Try.func28, Try.ntmps28
    go_wp2
    go_ret
    exact ⟨by rw [HE.out]; rfl, rfl⟩
  · have HE := Lib.hid (show amt v = false by simp [amt]; omega)
    have h' : decide (v ≤ 1000000) = false := by simp; omega
    go_enter Try.func28, Try.ntmps28
    go_wp2
    go_ret
    exact ⟨by rw [HE.out]; simp, rfl⟩
  · have HE := Lib.hid (show amt v = true by simp [amt]; omega)
    go_enter Try.func28, Try.ntmps28
    go_wp2
    go_ret
    exact ⟨by rw [HE.out]; rfl, rfl⟩
theorem impl_energy (s r : Int) (w : World) : Calls Try.prog 13 #[.int .i64 s, .int .i64 r] w (Ret w (nrgC s r)) := by
  cases h1 : amt s
  · have H1 := Lib.hid h1
    have HV := Lib.hid (nrgC_out1 (r := r) h1)
    clear h1
    go_enter Try.func13, Try.ntmps13
    go_wp2_with (go_at_call 28; (with_reducible refine (impl_amount s _ H1.out _).mono ?_); rintro e w3 ⟨rfl, rfl⟩)
    go_ret
    exact ⟨ret_int HV.out.symm, rfl⟩
  · cases h2 : amt r
    · have H1 := Lib.hid h1
      have H2 := Lib.hid h2
      have HV := Lib.hid (nrgC_out2 (s := s) h2)
      clear h1 h2
      go_enter Try.func13, Try.ntmps13
      go_wp2_with (first
        | (go_at_call 28; (with_reducible refine (impl_amount s _ H1.out _).mono ?_); rintro e w3 ⟨rfl, rfl⟩)
        | (go_at_call 28; (with_reducible refine (impl_amount r _ H2.out _).mono ?_); rintro e w3 ⟨rfl, rfl⟩))
      go_ret
      exact ⟨ret_int HV.out.symm, rfl⟩
    · have H1 := Lib.hid h1
      have H2 := Lib.hid h2
      have HV := Lib.hid (nrgC_in h1 h2)
      have b1 := amt_iff.1 h1
      have b2 := amt_iff.1 h2
      clear h1 h2
      go_enter Try.func13, Try.ntmps13
      go_wp2_with (first
        | (go_at_call 28; (with_reducible refine (impl_amount s _ H1.out _).mono ?_); rintro e w3 ⟨rfl, rfl⟩)
        | (go_at_call 28; (with_reducible refine (impl_amount r _ H2.out _).mono ?_); rintro e w3 ⟨rfl, rfl⟩))
      go_ret
      exact ⟨ret_int HV.out.symm, rfl⟩
theorem spec_energy (s r : Int) (w : World) : Calls Try.prog 19 #[.int .i64 s, .int .i64 r] w (Ret w (nrgC s r)) := by
  cases h1 : amt s
  · have H1 := Lib.hid (show (decide (0 ≤ s) && decide (s ≤ 1000000)) = false from h1)
    have HV := Lib.hid (nrgC_out1 (r := r) h1)
    clear h1
    go_enter Try.func19, Try.ntmps19
    go_wp2_with (go_at_call 31; (with_reducible refine (in_any s 0 1000000 _ H1.out _).mono ?_); rintro e w3 ⟨rfl, rfl⟩)
    go_ret
    exact ⟨ret_int HV.out.symm, rfl⟩
  · cases h2 : amt r
    · have H1 := Lib.hid (show (decide (0 ≤ s) && decide (s ≤ 1000000)) = true from h1)
      have H2 := Lib.hid (show (decide (0 ≤ r) && decide (r ≤ 1000000)) = false from h2)
      have HV := Lib.hid (nrgC_out2 (s := s) h2)
      clear h1 h2
      go_enter Try.func19, Try.ntmps19
      go_wp2_with (first
        | (go_at_call 31; (with_reducible refine (in_any s 0 1000000 _ H1.out _).mono ?_); rintro e w3 ⟨rfl, rfl⟩)
        | (go_at_call 31; (with_reducible refine (in_any r 0 1000000 _ H2.out _).mono ?_); rintro e w3 ⟨rfl, rfl⟩))
      go_ret
      exact ⟨ret_int HV.out.symm, rfl⟩
    · have H1 := Lib.hid (show (decide (0 ≤ s) && decide (s ≤ 1000000)) = true from h1)
      have H2 := Lib.hid (show (decide (0 ≤ r) && decide (r ≤ 1000000)) = true from h2)
      have HV := Lib.hid (nrgC_in h1 h2)
      have b1 := amt_iff.1 h1
      have b2 := amt_iff.1 h2
      clear h1 h2
      go_enter Try.func19, Try.ntmps19
      go_wp2_with (first
        | (go_at_call 31; (with_reducible refine (in_any s 0 1000000 _ H1.out _).mono ?_); rintro e w3 ⟨rfl, rfl⟩)
        | (go_at_call 31; (with_reducible refine (in_any r 0 1000000 _ H2.out _).mono ?_); rintro e w3 ⟨rfl, rfl⟩))
      go_ret
      exact ⟨ret_int HV.out.symm, rfl⟩
end Go.Proofs.Ytodlbbojjnkneaa.cst

/- Statements and blocks as plain data: when a statement is valid, when a list of statements is a valid block of so many levels, and the cells of such a list. Plain mathematics. -/
namespace Go.Proofs.Ytodlbbojjnkneaa.stm
open Go.RowKit Go.Proofs.Ytodlbbojjnkneaa.row Go.Proofs.Ytodlbbojjnkneaa.expr

/-- A statement: its kind, its variable, its number, and the three numbers of its expression. -/
structure St where
  (k v n o a b : Int)
deriving DecidableEq
def exprZ (s : St) : Bool := decide (s.o = 0) && (decide (s.a = 0) && decide (s.b = 0))
def varOk (v : Int) : Bool := decide (0 ≤ v) && decide (v ≤ 7)
def stOk (s : St) : Bool :=
  if s.k = 1 then varOk s.v && (decide (s.n = 0) && exprOk s.o s.a s.b)
  else if s.k = 2 then varOk s.v && ((decide (0 ≤ s.n) && decide (s.n ≤ 3)) && exprZ s)
  else if s.k = 3 then decide (s.v = 0) && (decide (s.n = 0) && exprOk s.o s.a s.b)
  else if s.k = 4 then decide (s.v = 0) && (decide (s.n = 0) && exprOk s.o s.a s.b)
  else if s.k = 5 then decide (s.v = 0) && ((decide (1 ≤ s.n) && decide (s.n ≤ 5)) && exprZ s)
  else if s.k = 6 then decide (s.v = 0) && (decide (s.n = 0) && exprZ s)
  else false
theorem stOk_set {v o a b : Int} (h0 : 0 ≤ v) (h1 : v ≤ 7) (he : exprOk o a b = true) : stOk ⟨1, v, 0, o, a, b⟩ = true := by simp [stOk, varOk, h0, h1, he]
theorem stOk_sense {v n : Int} (h0 : 0 ≤ v) (h1 : v ≤ 7) (h2 : 0 ≤ n) (h3 : n ≤ 3) : stOk ⟨2, v, n, 0, 0, 0⟩ = true := by simp [stOk, varOk, exprZ, h0, h1, h2, h3]
theorem stOk_send {o a b : Int} (he : exprOk o a b = true) : stOk ⟨3, 0, 0, o, a, b⟩ = true := by simp [stOk, he]
theorem stOk_if {o a b : Int} (he : exprOk o a b = true) : stOk ⟨4, 0, 0, o, a, b⟩ = true := by simp [stOk, he]
theorem stOk_loop {n : Int} (h2 : 1 ≤ n) (h3 : n ≤ 5) : stOk ⟨5, 0, n, 0, 0, 0⟩ = true := by simp [stOk, exprZ, h2, h3]
def endSt : St := ⟨6, 0, 0, 0, 0, 0⟩
theorem stOk_end : stOk endSt = true := by decide

/-- A valid block with at most 'd' levels of loops and conditions. -/
inductive Blk : Nat → List St → Prop
  | nil (d : Nat) : Blk d []
  | one (d : Nat) (s : St) (rest : List St) (hs : stOk s = true) (h1 : 1 ≤ s.k) (h3 : s.k ≤ 3) (hr : Blk d rest) : Blk d (s :: rest)
  | nest (d : Nat) (s : St) (body rest : List St) (hs : stOk s = true) (hk : s.k = 4 ∨ s.k = 5) (hb : Blk d body) (hr : Blk (d + 1) rest) : Blk (d + 1) (s :: (body ++ endSt :: rest))
theorem Blk.app {d : Nat} {L M : List St} (h : Blk d L) (h2 : Blk d M) : Blk d (L ++ M) := by
  induction h with
  | nil d => exact h2
  | one d s rest hs h1 h3 _ ih => exact .one d s _ hs h1 h3 (ih h2)
  | nest d s body rest hs hk hb _ _ ih =>
    have e : (s :: (body ++ endSt :: rest)) ++ M = s :: (body ++ endSt :: (rest ++ M)) := by simp
    rw [e]; exact .nest d s body _ hs hk hb (ih h2)
theorem Blk.snoc {d : Nat} {L : List St} (h : Blk d L) {s : St} (hs : stOk s = true) (h1 : 1 ≤ s.k) (h3 : s.k ≤ 3) : Blk d (L ++ [s]) := h.app (.one d s [] hs h1 h3 (.nil d))
theorem Blk.wrap {d : Nat} {L B : List St} (h : Blk (d + 1) L) {s : St} (hs : stOk s = true) (hk : s.k = 4 ∨ s.k = 5) (hb : Blk d B) : Blk (d + 1) (((L ++ [s]) ++ B) ++ [endSt]) := by
  have e : ((L ++ [s]) ++ B) ++ [endSt] = L ++ (s :: (B ++ endSt :: [])) := by simp
  rw [e]; exact h.app (.nest d s B [] hs hk hb (.nil _))

/-- The cells of a statement, of a list of statements. -/
def stC (s : St) : List Value := [.int .i64 s.k, .int .i64 s.v, .int .i64 s.n, .int .i64 s.o, .int .i64 s.a, .int .i64 s.b]
abbrev stV (s : St) : Value := .agg #[.int .i64 s.k, .int .i64 s.v, .int .i64 s.n, .int .i64 s.o, .int .i64 s.a, .int .i64 s.b]
def stsC (L : List St) : List Value := L.flatMap stC
theorem stsC_len (L : List St) : (stsC L).length = L.length * 6 := by
  induction L with
  | nil => rfl
  | cons s L ih => simp only [stsC, List.flatMap_cons, List.length_append, List.length_cons] at *; rw [ih]; simp [stC]; omega
theorem stsC_app (L M : List St) : stsC (L ++ M) = stsC L ++ stsC M := by simp [stsC]
theorem stsC_one (s : St) : stsC [s] = stC s := by simp [stsC]
theorem stsC_at {L : List St} {i : Nat} {s : St} (h : L[i]? = some s) (j : Nat) (hj : j < 6) : (stsC L)[i * 6 + j]? = (stC s)[j]? := by
  induction L generalizing i with
  | nil => simp at h
  | cons t L ih =>
    have e : stsC (t :: L) = stC t ++ stsC L := by simp [stsC]
    have l6 : (stC t).length = 6 := rfl
    cases i with
    | zero =>
      simp at h; subst h
      rw [e, List.getElem?_append_left (by omega)]; congr 1; omega
    | succ i =>
      simp at h
      rw [e, List.getElem?_append_right (by omega), l6, show (i + 1) * 6 + j - 6 = i * 6 + j by omega]
      exact ih h
end Go.Proofs.Ytodlbbojjnkneaa.stm
