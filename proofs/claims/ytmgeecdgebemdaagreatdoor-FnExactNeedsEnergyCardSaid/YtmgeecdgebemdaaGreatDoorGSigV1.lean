/- Several texts in one: VExpr VStmtA VEval VStmP. -/
import Derived.Test.YtmgeecdgebemdaaGreatDoorGSigV0
import Derived.WalkLawsBesides
import Derived.Deep.RegionHeld3
import Derived.Laws.Rows
import Derived.Laws.StructEq

/- Chapter 3's functions up to EvalExpr, of the program and of the model: each returns what the plain functions here say, and writes nothing that was there; no condition but that a row of variables reads as a list. -/
namespace Go.Proofs.YtmgeecdgebemdaaGreatDoor.expr
open Go.ChangeShapes Go.WideShapes Go.ChangeAt Go.RowKit Go.Proofs.YtmgeecdgebemdaaGreatDoor.row Go.Proofs.YtmgeecdgebemdaaGreatDoor.val
def opndOk (n : Int) : Bool := decide (-8 ≤ n) && decide (n ≤ 999)
theorem opndOk_iff (n : Int) : opndOk n = true ↔ -8 ≤ n ∧ n ≤ 999 := by simp [opndOk]
theorem opndOk_no (n : Int) : opndOk n = false ↔ n < -8 ∨ 999 < n := by
  rw [← Bool.not_eq_true, opndOk_iff]; omega
def opOk (n : Int) : Bool := decide (1 ≤ n) && decide (n ≤ 7)
def exprOk (o a b : Int) : Bool := opOk o && (opndOk a && opndOk b)
def varsOk (L : List Int) : Bool := decide (L.length = 8) && L.all isVal
theorem varsOk_iff (L : List Int) : varsOk L = true ↔ L.length = 8 ∧ ∀ x ∈ L, isVal x = true := by simp [varsOk]
def valOf (L : List Int) (n : Int) : Int := if n < 0 then L.getD (-1 - n).toNat 0 else n
def opndVal (L : List Int) (n : Int) : Int := if opndOk n && varsOk L then valOf L n else 0

/-- The call returns this bool; nothing that was there is written. -/
def BelB (w : World) (x : Bool) (e : Ending) (w' : World) : Prop := e = .returned (.bool x) ∧ Below w.heap.size w w'
/-- The call returns this int; nothing that was there is written. -/
def BelI (w : World) (x : Int) (e : Ending) (w' : World) : Prop := e = .returned (.int .i64 x) ∧ Below w.heap.size w w'
/-- An expression as a value. -/
abbrev ev (o a b : Int) : Value := .agg #[.int .i64 o, .int .i64 a, .int .i64 b]

section operands
theorem in_any (n lo hi : Int) (r : Bool) (hr : (decide (lo ≤ n) && decide (n ≤ hi)) = r) (w : World) : Calls Tryz.prog 63 #[.int .i64 n, .int .i64 lo, .int .i64 hi] w (RetB w r) := by
  subst hr
  rcases (show n < lo ∨ hi < n ∧ lo ≤ n ∨ (lo ≤ n ∧ n ≤ hi) by omega) with h | ⟨h, h2⟩ | ⟨h, h2⟩
  · have h' : ¬ lo ≤ n := by omega
    simp only [h', decide_false, Bool.false_and]
    go_enter Tryz.func63, Tryz.ntmps63
    go_wp2
    go_ret
    exact ⟨rfl, rfl⟩
  · have h' : ¬ n ≤ hi := by omega
    have h3 : decide (n ≤ hi) = false := by simp; omega
    simp only [h', decide_false, Bool.and_false]
    go_enter Tryz.func63, Tryz.ntmps63
    go_wp2
    go_ret
    exact ⟨rfl, rfl⟩
  · simp only [h, h2, decide_true, Bool.and_true]
    go_enter Tryz.func63, Tryz.ntmps63
    go_wp2
    go_ret
    exact ⟨rfl, rfl⟩
theorem spec_opnd (n : Int) (r : Bool) (hr : opndOk n = r) (w : World) : Calls Tryz.prog 198 #[.int .i64 n] w (RetB w r) := by
  have HR : Hid (opndOk n = r) := hr
  clear hr
  go_enter Tryz.func198, Tryz.ntmps198
  go_wp2_with (go_at_call 63; refine (in_any _ _ _ r HR.out _).mono ?_; rintro e w1 ⟨rfl, rfl⟩)
  go_ret
  exact ⟨rfl, rfl⟩
theorem impl_opnd (n : Int) (r : Bool) (hr : opndOk n = r) (w : World) : Calls Tryz.prog 217 #[.int .i64 n] w (RetB w r) := by
  subst hr
  rcases (show n < -8 ∨ 999 < n ∨ (-8 ≤ n ∧ n ≤ 999) by omega) with h | h | ⟨h, h2⟩
  · rw [(opndOk_no n).2 (Or.inl h)]
    go_enter Tryz.func217, Tryz.ntmps217
    go_wp2
    go_ret
    exact ⟨rfl, rfl⟩
  · rw [(opndOk_no n).2 (Or.inr h)]
    have h' : decide (n ≤ 999) = false := by simp; omega
    go_enter Tryz.func217, Tryz.ntmps217
    go_wp2
    go_ret
    exact ⟨by simp, rfl⟩
  · rw [(opndOk_iff n).2 ⟨h, h2⟩]
    go_enter Tryz.func217, Tryz.ntmps217
    go_wp2
    go_ret
    exact ⟨rfl, rfl⟩
end operands
section variables_
theorem all_step {L : List Int} {k : Nat} {x : Int} (hx : L[k]? = some x) (h : ∀ y ∈ L.take k, isVal y = true) (hv : isVal x = true) : ∀ y ∈ L.take (k + 1), isVal y = true := by
  intro y hy
  rw [List.take_add_one, hx, List.mem_append] at hy
  rcases hy with hy | hy
  · exact h y hy
  · simp at hy; rw [hy]; exact hv
theorem all_bad {L : List Int} {k : Nat} {x : Int} (hx : L[k]? = some x) (hv : isVal x = false) : L.all isVal = false := by
  rw [← Bool.not_eq_true, List.all_eq_true]
  intro h
  rw [h x (List.mem_of_getElem? hx)] at hv; cases hv
theorem all_end {L : List Int} {n : Nat} (hl : L.length = n) (h : ∀ y ∈ L.take n, isVal y = true) : L.all isVal = true := by
  rw [List.take_of_length_le (by omega)] at h
  rw [List.all_eq_true]; exact h
set_option maxHeartbeats 400000 in
set_option maxRecDepth 100000 in
theorem impl_are (w : World) (a : Option Addr) (n cap : Nat) (L : List Int) (hn : (n : Int) ≤ 1048576) (h : Row w a n L) (r : Bool) (hr : L.all isVal = r) :
    Calls Tryz.prog 109 #[.slice a n cap] w (RetB w r) := by
  subst hr
  have HL := Lib.hid h.1
  have HC : Hid (∀ k, k < n → ∃ (b off : Nat) (x : Int), a = some ⟨b, off, none⟩ ∧ L[k]? = some x ∧ w.cell? ⟨b, off + k, none⟩ = some (.int .i64 x)) := fun k hk => by
    obtain ⟨b, off, x, e, _, hx, hc⟩ := h.2 k hk
    exact ⟨b, off, x, e, hx, hc⟩
  clear h
  go_enter Tryz.func109, Tryz.ntmps109
  go_wp2
  go_loop [4, 7] (fun _ i => ∃ k : Nat, k ≤ n ∧ i = .int .i64 k ∧ Hid (∀ y ∈ L.take k, isVal y = true)) (fun _ i => n - (intOf i).toNat)
  case atStart => exact ⟨0, Nat.zero_le _, rfl, by simp [Hid]⟩
  case round =>
    obtain ⟨k, hk, rfl, hA⟩ := hrel
    by_cases hlt : k < n
    · obtain ⟨b, off, x, rfl, hx, hc⟩ := HC.out k hlt
      have hI : (k : Int) < n := by omega
      have HX := Lib.hid hx
      clear hx
      cases hv : isVal x
      · have HF := Lib.hid (all_bad HX.out hv)
        go_wp2_with (go_at_call 159; refine (impl_isval _ _).mono ?_; rintro e w1 ⟨rfl, rfl⟩)
        go_ret
        exact ⟨by rw [HF.out]; rfl, rfl⟩
      · have HA2 := Lib.hid (all_step HX.out hA.out hv)
        go_wp2_with (go_at_call 159; refine (impl_isval _ _).mono ?_; rintro e w1 ⟨rfl, rfl⟩)
        go_round
        case rel => exact ⟨k + 1, by omega, by go_num, HA2⟩
        case measure => simp [intOf]; omega
    · have hkn : k = n := by omega
      subst hkn
      have HE := Lib.hid (all_end HL.out hA.out)
      clear hA
      go_wp2
      go_ret
      exact ⟨by rw [HE.out]; rfl, rfl⟩
set_option maxHeartbeats 400000 in
set_option maxRecDepth 100000 in
theorem impl_vars (w : World) (a : Option Addr) (n cap : Nat) (L : List Int) (hn : (n : Int) ≤ 1048576) (h : Row w a n L) (r : Bool) (hr : varsOk L = r) :
    Calls Tryz.prog 108 #[.slice a n cap] w (RetB w r) := by
  have HL := h.1
  by_cases h8 : n = 8
  · subst h8
    have HR := Lib.hid (show L.all isVal = r by rw [← hr]; simp [varsOk, HL])
    have HH := Lib.hid h
    clear h HL hr
    go_enter Tryz.func108, Tryz.ntmps108
    go_wp2_with (go_at_call 109; refine (impl_are _ _ _ _ L hn HH.out r HR.out).mono ?_; rintro e w1 ⟨rfl, rfl⟩)
    go_ret
    exact ⟨rfl, rfl⟩
  · have h8' : ¬ (n : Int) = 8 := by omega
    have HF : Hid (varsOk L = false) := by
      show varsOk L = false
      rw [← Bool.not_eq_true, varsOk_iff]; omega
    rw [HF.out] at hr
    subst hr
    clear HL
    go_enter Tryz.func108, Tryz.ntmps108
    go_wp2
    go_ret
    exact ⟨rfl, rfl⟩
theorem opnd_at {L : List Int} (h : varsOk L = true) {n : Int} (h1 : opndOk n = true) (h2 : n < 0) : (-1 - n).toNat < L.length ∧ ((-1 - n).toNat : Int) = -1 - n := by
  have := (varsOk_iff L).1 h
  have := (opndOk_iff n).1 h1
  omega
theorem spec_value (w : World) (a : Option Addr) (n cap : Nat) (L : List Int) (h : Row w a n L) (hv : varsOk L = true) (m : Int) (hm : opndOk m = true) :
    Calls Tryz.prog 211 #[.slice a n cap, .int .i64 m] w (Ret w (valOf L m)) := by
  have hb := (opndOk_iff m).1 hm
  by_cases h0 : m < 0
  · obtain ⟨h1, h2⟩ := opnd_at hv hm h0
    obtain ⟨b, off, x, rfl, _, hx, hc⟩ := h.2 (-1 - m).toNat (by have := h.1; omega)
    have hn8 : n = 8 := by have := ((varsOk_iff L).1 hv).1; have := h.1; omega
    subst hn8
    have HV : Hid (valOf L m = x) := by
      show valOf L m = x
      rw [valOf, if_pos h0, List.getD_eq_getElem?_getD, hx]; rfl
    obtain ⟨j, rfl⟩ : ∃ j : Nat, m = -1 - (j : Int) := ⟨(-1 - m).toNat, by omega⟩
    have ej : (-1 - (-1 - (j : Int))).toNat = j := by omega
    rw [ej] at hc
    clear h hv hm hx h1 h2 ej
    go_enter Tryz.func211, Tryz.ntmps211
    have ej2 : (-1 : Int) - (-1 - (j : Int)) = j := by omega
    go_wp2
    go_ret
    exact ⟨ret_i HV.out.symm, rfl⟩
  · have HV : Hid (valOf L m = m) := by
      show valOf L m = m
      rw [valOf, if_neg h0]
    clear h hv hm
    go_enter Tryz.func211, Tryz.ntmps211
    go_wp2
    go_ret
    exact ⟨ret_i HV.out.symm, rfl⟩
end variables_
end Go.Proofs.YtmgeecdgebemdaaGreatDoor.expr

/- Statements and blocks as plain data: when a statement is valid, when a list of statements is a valid block of so many levels, and the cells of such a list. Plain mathematics. -/
namespace Go.Proofs.YtmgeecdgebemdaaGreatDoor.stm
open Go.RowKit Go.Proofs.YtmgeecdgebemdaaGreatDoor.row Go.Proofs.YtmgeecdgebemdaaGreatDoor.expr
/-- A statement: its kind, its variable, its number, and the three numbers of its expression. -/
structure St where
  (k v n o a b : Int)
deriving DecidableEq
def exprZ (s : St) : Bool := decide (s.o = 0) && (decide (s.a = 0) && decide (s.b = 0))
def varOk (v : Int) : Bool := decide (0 ≤ v) && decide (v ≤ 7)
def stOk (s : St) : Bool :=
  if s.k = 1 then varOk s.v && (decide (s.n = 0) && exprOk s.o s.a s.b)
  else if s.k = 2 then varOk s.v && ((decide (0 ≤ s.n) && decide (s.n ≤ 3)) && exprZ s)
  else if s.k = 3 then decide (s.v = 0) && (decide (s.n = 0) && exprOk s.o s.a s.b)
  else if s.k = 4 then decide (s.v = 0) && (decide (s.n = 0) && exprOk s.o s.a s.b)
  else if s.k = 5 then decide (s.v = 0) && ((decide (1 ≤ s.n) && decide (s.n ≤ 5)) && exprZ s)
  else if s.k = 6 then decide (s.v = 0) && (decide (s.n = 0) && exprZ s)
  else false
/-- The cells of a statement, of a list of statements. -/
def stC (s : St) : List Value := [.int .i64 s.k, .int .i64 s.v, .int .i64 s.n, .int .i64 s.o, .int .i64 s.a, .int .i64 s.b]
abbrev stV (s : St) : Value := .agg #[.int .i64 s.k, .int .i64 s.v, .int .i64 s.n, .int .i64 s.o, .int .i64 s.a, .int .i64 s.b]
def stsC (L : List St) : List Value := L.flatMap stC
theorem stsC_len (L : List St) : (stsC L).length = L.length * 6 := by
  induction L with
  | nil => rfl
  | cons s L ih => simp only [stsC, List.flatMap_cons, List.length_append, List.length_cons] at *; rw [ih]; simp [stC]; omega
theorem stsC_app (L M : List St) : stsC (L ++ M) = stsC L ++ stsC M := by simp [stsC]
theorem stsC_at {L : List St} {i : Nat} {s : St} (h : L[i]? = some s) (j : Nat) (hj : j < 6) : (stsC L)[i * 6 + j]? = (stC s)[j]? := by
  induction L generalizing i with
  | nil => simp at h
  | cons t L ih =>
    have e : stsC (t :: L) = stC t ++ stsC L := by simp [stsC]
    have l6 : (stC t).length = 6 := rfl
    cases i with
    | zero =>
      simp at h; subst h
      rw [e, List.getElem?_append_left (by omega)]; congr 1; omega
    | succ i =>
      simp at h
      rw [e, List.getElem?_append_right (by omega), l6, show (i + 1) * 6 + j - 6 = i * 6 + j by omega]
      exact ih h
end Go.Proofs.YtmgeecdgebemdaaGreatDoor.stm

/- Chapter 3's OperandValue, ExprOk and EvalExpr, of the program and of the model: the plain functions of the text before; nothing that was there is written. -/
namespace Go.Proofs.YtmgeecdgebemdaaGreatDoor.expr
open Go.ChangeShapes Go.WideShapes Go.ChangeAt Go.RowKit Go.Proofs.YtmgeecdgebemdaaGreatDoor.row Go.Proofs.YtmgeecdgebemdaaGreatDoor.val
theorem opndVal_ok {L : List Int} {m : Int} (h : opndOk m = true) (h2 : varsOk L = true) : opndVal L m = valOf L m := by simp [opndVal, h, h2]
theorem opndVal_no {L : List Int} {m : Int} (h : opndOk m = false ∨ varsOk L = false) : opndVal L m = 0 := by
  rcases h with h | h <;> simp [opndVal, h]
section values
theorem impl_isvar (m : Int) (w : World) : Calls Tryz.prog 231 #[.int .i64 m] w (RetB w (decide (m < 0))) := by
  go_enter Tryz.func231, Tryz.ntmps231
  go_wp2
  go_ret
  exact ⟨rfl, rfl⟩
theorem impl_varof (m : Int) (h1 : -1000000 ≤ m) (h2 : m ≤ 1000000) (w : World) : Calls Tryz.prog 232 #[.int .i64 m] w (Ret w (-1 - m)) := by
  go_enter Tryz.func232, Tryz.ntmps232
  go_wp2
  go_ret
  exact ⟨rfl, rfl⟩
theorem impl_opval (w : World) (a : Option Addr) (n cap : Nat) (L : List Int) (hn : (n : Int) ≤ 1048576) (h : Row w a n L) (m : Int) :
    Calls Tryz.prog 196 #[.slice a n cap, .int .i64 m] w (Ret w (opndVal L m)) := by
  have HR := Lib.hid h
  clear h
  cases hm : opndOk m
  · have HV := Lib.hid (opndVal_no (L := L) (Or.inl hm))
    go_enter Tryz.func196, Tryz.ntmps196
    go_wp2_with (go_at_call 217; refine (impl_opnd _ _ hm _).mono ?_; rintro e w1 ⟨rfl, rfl⟩)
    go_ret
    exact ⟨ret_i HV.out.symm, rfl⟩
  · cases hv : varsOk L
    · have HV := Lib.hid (opndVal_no (m := m) (Or.inr hv))
      go_enter Tryz.func196, Tryz.ntmps196
      go_wp2_with (first
        | (go_at_call 217; refine (impl_opnd _ _ hm _).mono ?_; rintro e w1 ⟨rfl, rfl⟩)
        | (go_at_call 108; refine (impl_vars _ _ _ _ L hn HR.out _ hv).mono ?_; rintro e w1 ⟨rfl, rfl⟩))
      go_ret
      exact ⟨ret_i HV.out.symm, rfl⟩
    · by_cases h0 : m < 0
      · obtain ⟨h1, h2⟩ := opnd_at hv hm h0
        have hb := (opndOk_iff m).1 hm
        obtain ⟨b, off, x, rfl, _, hx, hc⟩ := HR.out.2 (-1 - m).toNat (by have := HR.out.1; omega)
        have HV : Hid (opndVal L m = x) := by
          show opndVal L m = x
          rw [opndVal_ok hm hv, valOf, if_pos h0, List.getD_eq_getElem?_getD, hx]; rfl
        obtain ⟨j, hj⟩ : ∃ j : Nat, -1 - m = (j : Int) := ⟨(-1 - m).toNat, by omega⟩
        rw [show (-1 - m).toNat = j by omega] at hc
        have hj8 : (j : Int) < n := by have := HR.out.1; omega
        have HJ := Lib.hid hj
        clear hx h1 h2 hj
        go_enter Tryz.func196, Tryz.ntmps196
        go_wp2_with (first
          | (go_at_call 217; refine (impl_opnd _ _ hm _).mono ?_; rintro e w1 ⟨rfl, rfl⟩)
          | (go_at_call 108; refine (impl_vars _ _ _ _ L hn HR.out _ hv).mono ?_; rintro e w1 ⟨rfl, rfl⟩)
          | (go_at_call 231; refine (impl_isvar _ _).mono ?_; rintro e w1 ⟨rfl, rfl⟩)
          | (go_at_call 232; refine (impl_varof _ (by omega) (by omega) _).mono ?_; rw [HJ.out]; rintro e w1 ⟨rfl, rfl⟩))
        go_ret
        exact ⟨ret_i HV.out.symm, rfl⟩
      · have HV : Hid (opndVal L m = m) := by
          show opndVal L m = m
          rw [opndVal_ok hm hv, valOf, if_neg h0]
        go_enter Tryz.func196, Tryz.ntmps196
        go_wp2_with (first
          | (go_at_call 217; refine (impl_opnd _ _ hm _).mono ?_; rintro e w1 ⟨rfl, rfl⟩)
          | (go_at_call 108; refine (impl_vars _ _ _ _ L hn HR.out _ hv).mono ?_; rintro e w1 ⟨rfl, rfl⟩)
          | (go_at_call 231; refine (impl_isvar _ _).mono ?_; rintro e w1 ⟨rfl, rfl⟩))
        go_ret
        exact ⟨ret_i HV.out.symm, rfl⟩
end values
section expressions
theorem in_op (o : Int) (r : Bool) (h : opOk o = r) : (decide (1 ≤ o) && decide (o ≤ 7)) = r := h
theorem spec_exprok (o a b : Int) (r : Bool) (hr : exprOk o a b = r) (w : World) : Calls Tryz.prog 151 #[ev o a b] w (BelB w r) := by
  cases h1 : opOk o <;> cases h2 : opndOk a <;> cases h3 : opndOk b
  all_goals
    obtain rfl : _ = r := hr
    have HE := Lib.hid (show exprOk o a b = (opOk o && (opndOk a && opndOk b)) from rfl)
    rw [h1, h2, h3] at HE
    go_enter Tryz.func151, Tryz.ntmps151
    go_wp2_with (first
      | (go_at_call 63; refine (in_any _ _ _ _ (in_op _ _ h1) _).mono ?_; rintro e w1 ⟨rfl, rfl⟩)
      | (go_at_call 198; (with_reducible refine (spec_opnd a _ h2 _).mono ?_); rintro e w1 ⟨rfl, rfl⟩)
      | (go_at_call 198; (with_reducible refine (spec_opnd b _ h3 _).mono ?_); rintro e w1 ⟨rfl, rfl⟩))
    go_ret
    exact ⟨by rw [HE.out]; rfl, (Below.refl _ _).alloc (Nat.le_refl _) _⟩
theorem impl_exprok (o a b : Int) (r : Bool) (hr : exprOk o a b = r) (w : World) : Calls Tryz.prog 180 #[ev o a b] w (BelB w r) := by
  by_cases h0 : 1 ≤ o <;> by_cases h1 : o ≤ 7 <;> cases h2 : opndOk a <;> cases h3 : opndOk b
  all_goals first | (exfalso; omega) | skip
  all_goals
    obtain rfl : _ = r := hr
    have HE := Lib.hid (show exprOk o a b = (decide (1 ≤ o) && decide (o ≤ 7) && (opndOk a && opndOk b)) from rfl)
    rw [h2, h3] at HE
    simp only [h0, h1, decide_true, decide_false] at HE
    first | have hd : decide (o ≤ 7) = true := by simpa using h1 | have hd : decide (o ≤ 7) = false := by simpa using h1
    first | have hd0 : decide (1 ≤ o) = true := by simpa using h0 | have hd0 : decide (1 ≤ o) = false := by simpa using h0
    go_enter Tryz.func180, Tryz.ntmps180
    go_wp2_with (first
      | (go_at_call 217; (with_reducible refine (impl_opnd a _ h2 _).mono ?_); rintro e w1 ⟨rfl, rfl⟩)
      | (go_at_call 217; (with_reducible refine (impl_opnd b _ h3 _).mono ?_); rintro e w1 ⟨rfl, rfl⟩))
    go_ret
    exact ⟨by rw [HE.out]; first | rfl | simp [hd], (Below.refl _ _).alloc (Nat.le_refl _) _⟩
/-- A struct is copied field by field. -/
def SameE (w : World) (o a b : Int) (e : Ending) (w' : World) : Prop := e = .returned (ev o a b) ∧ Below w.heap.size w w'
theorem toExpr_any (o a b : Int) (w : World) : Calls Tryz.prog 166 #[ev o a b] w (SameE w o a b) := by
  go_enter Tryz.func166, Tryz.ntmps166
  go_wp2
  refine bodyPost_ret (v := ev o a b) (by simp [results, Tryz.results166, go_sem, ev]) rfl ⟨rfl, ?_⟩
  exact (((Below.refl _ _).alloc (Nat.le_refl _) _).alloc (by simp) _).alloc (by simp; omega) _
end expressions
end Go.Proofs.YtmgeecdgebemdaaGreatDoor.expr

/- Statements compared and stripped of what their kind does not use: the model's l04Plain and Go's own comparison of two statements; nothing that was there is written. -/
namespace Go.Proofs.YtmgeecdgebemdaaGreatDoor.stm
open Go.ChangeShapes Go.WideShapes Go.ChangeAt Go.RowKit Go.Proofs.YtmgeecdgebemdaaGreatDoor.row Go.Proofs.YtmgeecdgebemdaaGreatDoor.val Go.Proofs.YtmgeecdgebemdaaGreatDoor.expr
/-- The statement with those fields alone that its kind uses. -/
def plain (s : St) : St :=
  if s.k = 1 then ⟨s.k, s.v, 0, s.o, s.a, s.b⟩ else if s.k = 2 then ⟨s.k, s.v, s.n, 0, 0, 0⟩ else if s.k = 3 then ⟨s.k, 0, 0, s.o, s.a, s.b⟩
  else if s.k = 4 then ⟨s.k, 0, 0, s.o, s.a, s.b⟩ else if s.k = 5 then ⟨s.k, 0, s.n, 0, 0, 0⟩ else ⟨s.k, 0, 0, 0, 0, 0⟩
/-- The call returns this statement; nothing that was there is written. -/
def BelS (w : World) (s : St) (e : Ending) (w' : World) : Prop := e = .returned (stV s) ∧ Below w.heap.size w w'
theorem kinds (k : Int) : k = 1 ∨ k = 2 ∨ k = 3 ∨ k = 4 ∨ k = 5 ∨ k = 6 ∨ ((k == 1) = false ∧ (k == 2) = false ∧ (k == 3) = false ∧ (k == 4) = false ∧ (k == 5) = false ∧ (k == 6) = false) := by
  simp only [beq_eq_false_iff_ne]; omega

set_option maxHeartbeats 1000000 in
theorem spec_plain (s : St) (w : World) : Calls Tryz.prog 233 #[stV s] w (BelS w (plain s)) := by
  obtain ⟨k, v, n, o, a, b⟩ := s
  rcases kinds k with rfl | rfl | rfl | rfl | rfl | rfl | ⟨h1, h2, h3, h4, h5, h6⟩
  all_goals
    go_enter Tryz.func233, Tryz.ntmps233
    go_wp2
  · refine bodyPost_ret (v := stV ⟨1, v, 0, o, a, b⟩) (by simp [results, Tryz.results233, go_sem]) rfl ⟨rfl, ?_⟩
    all_goals repeat (first | exact Below.refl _ _ | refine Below.alloc ?_ (by simp; try omega) _ | refine Below.setCell ?_ (by simp) _)
  · refine bodyPost_ret (v := stV ⟨2, v, n, 0, 0, 0⟩) (by simp [results, Tryz.results233, go_sem]) rfl ⟨rfl, ?_⟩
    all_goals repeat (first | exact Below.refl _ _ | refine Below.alloc ?_ (by simp; try omega) _ | refine Below.setCell ?_ (by simp) _)
  · refine bodyPost_ret (v := stV ⟨3, 0, 0, o, a, b⟩) (by simp [results, Tryz.results233, go_sem]) rfl ⟨rfl, ?_⟩
    all_goals repeat (first | exact Below.refl _ _ | refine Below.alloc ?_ (by simp; try omega) _ | refine Below.setCell ?_ (by simp) _)
  · refine bodyPost_ret (v := stV ⟨4, 0, 0, o, a, b⟩) (by simp [results, Tryz.results233, go_sem]) rfl ⟨rfl, ?_⟩
    all_goals repeat (first | exact Below.refl _ _ | refine Below.alloc ?_ (by simp; try omega) _ | refine Below.setCell ?_ (by simp) _)
  · refine bodyPost_ret (v := stV ⟨5, 0, n, 0, 0, 0⟩) (by simp [results, Tryz.results233, go_sem]) rfl ⟨rfl, ?_⟩
    all_goals repeat (first | exact Below.refl _ _ | refine Below.alloc ?_ (by simp; try omega) _ | refine Below.setCell ?_ (by simp) _)
  · refine bodyPost_ret (v := stV ⟨6, 0, 0, 0, 0, 0⟩) (by simp [results, Tryz.results233, go_sem]) rfl ⟨rfl, ?_⟩
    all_goals repeat (first | exact Below.refl _ _ | refine Below.alloc ?_ (by simp; try omega) _ | refine Below.setCell ?_ (by simp) _)
  · have hp : plain ⟨k, v, n, o, a, b⟩ = ⟨k, 0, 0, 0, 0, 0⟩ := by
      simp only [beq_eq_false_iff_ne] at h1 h2 h3 h4 h5 h6
      simp [plain, h1, h2, h3, h4, h5]
    rw [hp]
    refine bodyPost_ret (v := stV ⟨k, 0, 0, 0, 0, 0⟩) (by simp [results, Tryz.results233, go_sem]) rfl ⟨rfl, ?_⟩
    all_goals repeat (first | exact Below.refl _ _ | refine Below.alloc ?_ (by simp; try omega) _ | refine Below.setCell ?_ (by simp) _)

theorem held6 {w w' : World} {g : Nat} {x0 x1 x2 x3 x4 x5 : Value} (hb : Below w.heap.size w w') (hg : g < w.heap.size)
    (h : w.cell? ⟨g, 0, none⟩ = some x0 ∧ w.cell? ⟨g, 1, none⟩ = some x1 ∧ w.cell? ⟨g, 2, none⟩ = some x2 ∧ w.cell? ⟨g, 3, none⟩ = some x3 ∧ w.cell? ⟨g, 4, none⟩ = some x4 ∧ w.cell? ⟨g, 5, none⟩ = some x5) :
    w'.cell? ⟨g, 0, none⟩ = some x0 ∧ w'.cell? ⟨g, 1, none⟩ = some x1 ∧ w'.cell? ⟨g, 2, none⟩ = some x2 ∧ w'.cell? ⟨g, 3, none⟩ = some x3 ∧ w'.cell? ⟨g, 4, none⟩ = some x4 ∧ w'.cell? ⟨g, 5, none⟩ = some x5 :=
  ⟨(hb.cell (p := ⟨g, 0, none⟩) hg).trans h.1, (hb.cell (p := ⟨g, 1, none⟩) hg).trans h.2.1, (hb.cell (p := ⟨g, 2, none⟩) hg).trans h.2.2.1, (hb.cell (p := ⟨g, 3, none⟩) hg).trans h.2.2.2.1, (hb.cell (p := ⟨g, 4, none⟩) hg).trans h.2.2.2.2.1, (hb.cell (p := ⟨g, 5, none⟩) hg).trans h.2.2.2.2.2⟩
/-- Two statements are equal field by field. -/
def eqSt (s t : St) : Bool := decide (s = t)
theorem eqSt_fields (s t : St) : eqSt s t = (s.k == t.k && (s.v == t.v && (s.n == t.n && (s.o == t.o && (s.a == t.a && s.b == t.b))))) := by
  obtain ⟨k, v, n, o, a, b⟩ := s
  obtain ⟨k', v', n', o', a', b'⟩ := t
  rw [Bool.eq_iff_iff]; simp [eqSt]
theorem run_eqEx (d : Nat) (o a b o' a' b' : Int) (w : World) : (Op.equalIn (d + 2) 94 (ev o a b) (ev o' a' b')).run Tryz.prog w = .ok (o == o' && (a == a' && b == b')) w := by
  have hS : Tryz.prog.underlying 94 = some (.struct (Tryz.prog.fieldsOf 94)) := by kernel_rfl
  rw [run_equalIn_agg w (d + 1) 94 _ _ hS (by kernel_rfl)]
  clear hS
  simp only [Program.fieldsOf, Tryz.underlying94]
  go_simp
  by_cases h4 : o = o' <;> by_cases h5 : a = a' <;> by_cases h6 : b = b' <;> simp [h4, h5, h6]
theorem run_eqSt (s t : St) (w : World) : (Op.equalIn 10000 112 (stV s) (stV t)).run Tryz.prog w = .ok (eqSt s t) w := by
  rw [eqSt_fields]
  obtain ⟨k, v, n, o, a, b⟩ := s
  obtain ⟨k', v', n', o', a', b'⟩ := t
  have hS : Tryz.prog.underlying 112 = some (.struct (Tryz.prog.fieldsOf 112)) := by kernel_rfl
  rw [show (10000 : Nat) = 9999 + 1 from rfl, run_equalIn_agg w 9999 112 _ _ hS (by kernel_rfl)]
  clear hS
  have hE : ∀ w, (Op.equalIn 9999 94 (ev o a b) (ev o' a' b')).run Tryz.prog w = .ok (o == o' && (a == a' && b == b')) w := fun w => run_eqEx 9997 o a b o' a' b' w
  simp only [Program.fieldsOf, Tryz.underlying112]
  go_simp
  by_cases h1 : k = k' <;> by_cases h2 : v = v' <;> by_cases h3 : n = n' <;> by_cases h4 : o = o' <;> by_cases h5 : a = a' <;> by_cases h6 : b = b' <;> simp [h1, h2, h3, h4, h5, h6]
theorem drew_below {w w' : World} (h : Below w.drew.heap.size w.drew w') : Below w.heap.size w w' := (Below.drew (Below.refl _ w)).trans h
theorem stOk_plain {s : St} (h : stOk s = true) : plain s = s := by
  obtain ⟨k, v, n, o, a, b⟩ := s
  rcases kinds k with rfl | rfl | rfl | rfl | rfl | rfl | ⟨h1, h2, h3, h4, h5, h6⟩
  · simp [stOk] at h; simp [plain, h]
  · simp [stOk, exprZ] at h; simp [plain, h]
  · simp [stOk] at h; simp [plain, h]
  · simp [stOk] at h; simp [plain, h]
  · simp [stOk, exprZ] at h; simp [plain, h]
  · simp [stOk, exprZ] at h; simp [plain, h]
  · simp only [beq_eq_false_iff_ne] at h1 h2 h3 h4 h5 h6
    simp [stOk, h1, h2, h3, h4, h5, h6] at h
theorem not_plain {s t : St} (hp : plain s = t) (h : eqSt s t = false) : stOk s = false := by
  rw [← Bool.not_eq_true]
  intro hs
  rw [← hp, stOk_plain hs] at h
  simp [eqSt] at h
theorem stOk1 (v o a b : Int) : stOk ⟨1, v, 0, o, a, b⟩ = (varOk v && exprOk o a b) := by simp [stOk]
theorem stOk2 (v n : Int) : stOk ⟨2, v, n, 0, 0, 0⟩ = (varOk v && (decide (0 ≤ n) && decide (n ≤ 3))) := by simp [stOk, exprZ]
theorem stOk3 (o a b : Int) : stOk ⟨3, 0, 0, o, a, b⟩ = exprOk o a b := by simp [stOk]
theorem stOk4 (o a b : Int) : stOk ⟨4, 0, 0, o, a, b⟩ = exprOk o a b := by simp [stOk]
theorem stOk5 (n : Int) : stOk ⟨5, 0, n, 0, 0, 0⟩ = (decide (1 ≤ n) && decide (n ≤ 5)) := by simp [stOk, exprZ]
theorem stOk6 : stOk ⟨6, 0, 0, 0, 0, 0⟩ = true := by decide
theorem stOk_other {k v n o a b : Int} (h1 : (k == 1) = false) (h2 : (k == 2) = false) (h3 : (k == 3) = false) (h4 : (k == 4) = false) (h5 : (k == 5) = false) (h6 : (k == 6) = false) : stOk ⟨k, v, n, o, a, b⟩ = false := by
  simp only [beq_eq_false_iff_ne] at h1 h2 h3 h4 h5 h6
  simp [stOk, h1, h2, h3, h4, h5, h6]
theorem plain_other {k v n o a b : Int} (h1 : (k == 1) = false) (h2 : (k == 2) = false) (h3 : (k == 3) = false) (h4 : (k == 4) = false) (h5 : (k == 5) = false) : plain ⟨k, v, n, o, a, b⟩ = ⟨k, 0, 0, 0, 0, 0⟩ := by
  simp only [beq_eq_false_iff_ne] at h1 h2 h3 h4 h5
  simp [plain, h1, h2, h3, h4, h5]
end Go.Proofs.YtmgeecdgebemdaaGreatDoor.stm
