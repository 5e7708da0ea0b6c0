/- Several texts in one: Val Expr StmtA Eval. -/
import Derived.Test.YtlicadaecfgklaaGreatRows
import Derived.WalkKit
import Derived.ProofKit
import Derived.OpenShut
import Derived.Lib.Hide
import Derived.Below
import Derived.Test.YtlicadaecfgklaaGreatGHub0
import Derived.WalkLawsBesides
import Derived.Deep.RegionHeld3

/- Chapter 2's functions, of the program and of the model: each returns the clamped number, sum, difference or product, and writes nothing; no condition. -/
namespace Go.Proofs.YtlicadaecfgklaaGreat.val
open Go.ChangeShapes Go.WideShapes Go.ChangeAt Go.RowKit

theorem ret_int {k : IntKind} {a b : Int} (h : a = b) : Ending.returned (.int k a) = .returned (.int k b) := by rw [h]
def clampV (n low high : Int) : Int := if high < low then low else if n < low then low else if high < n then high else n
def sat (n : Int) : Int := clampV n (-1000000) 1000000
theorem sat_low {n : Int} (h : n < -1000000) : sat n = -1000000 := by unfold sat clampV; rw [if_neg (by omega), if_pos h]
theorem sat_high {n : Int} (h : 1000000 < n) : sat n = 1000000 := by unfold sat clampV; rw [if_neg (by omega), if_neg (by omega), if_pos h]
theorem sat_in {n : Int} (h : -1000000 ≤ n) (h2 : n ≤ 1000000) : sat n = n := by unfold sat clampV; rw [if_neg (by omega), if_neg (by omega), if_neg (by omega)]
theorem sat_bd (n : Int) : -1000000 ≤ sat n ∧ sat n ≤ 1000000 := by
  rcases (show n < -1000000 ∨ 1000000 < n ∨ (-1000000 ≤ n ∧ n ≤ 1000000) by omega) with h | h | ⟨h, h2⟩
  · rw [sat_low h]; omega
  · rw [sat_high h]; omega
  · rw [sat_in h h2]; omega
theorem sat_sat (n : Int) : sat (sat n) = sat n := sat_in (sat_bd n).1 (sat_bd n).2
theorem sat_neg (n : Int) : sat (-n) = -sat n := by
  rcases (show n < -1000000 ∨ 1000000 < n ∨ (-1000000 ≤ n ∧ n ≤ 1000000) by omega) with h | h | ⟨h, h2⟩
  · rw [sat_low h, sat_high (by omega)]; omega
  · rw [sat_high h, sat_low (by omega)]
  · rw [sat_in h h2, sat_in (by omega) (by omega)]
theorem prod_bd {x y : Int} (hx : -1000000 ≤ x ∧ x ≤ 1000000) (hy : -1000000 ≤ y ∧ y ≤ 1000000) : -1000000000000 ≤ x * y ∧ x * y ≤ 1000000000000 := by
  obtain ⟨a, ha⟩ := Int.le.dest hx.1; obtain ⟨b, hb⟩ := Int.le.dest hx.2
  obtain ⟨c, hc⟩ := Int.le.dest hy.1; obtain ⟨d, hd⟩ := Int.le.dest hy.2
  have h1 : 0 ≤ (x + 1000000) * (y + 1000000) := Int.mul_nonneg (by omega) (by omega)
  have h2 : 0 ≤ (1000000 - x) * (1000000 - y) := Int.mul_nonneg (by omega) (by omega)
  have h3 : 0 ≤ (x + 1000000) * (1000000 - y) := Int.mul_nonneg (by omega) (by omega)
  have h4 : 0 ≤ (1000000 - x) * (y + 1000000) := Int.mul_nonneg (by omega) (by omega)
  have e1 : (x + 1000000) * (y + 1000000) = x * y + 1000000 * x + 1000000 * y + 1000000000000 := by
    rw [Int.add_mul, Int.mul_add, Int.mul_add, Int.mul_comm x 1000000]; omega
  have e2 : (1000000 - x) * (1000000 - y) = 1000000000000 - 1000000 * y - 1000000 * x + x * y := by
    rw [Int.sub_mul, Int.mul_sub, Int.mul_sub, Int.mul_comm x 1000000]; omega
  have e3 : (x + 1000000) * (1000000 - y) = 1000000 * x - x * y + 1000000000000 - 1000000 * y := by
    rw [Int.add_mul, Int.mul_sub, Int.mul_sub, Int.mul_comm x 1000000]; omega
  have e4 : (1000000 - x) * (y + 1000000) = 1000000 * y + 1000000000000 - x * y - 1000000 * x := by
    rw [Int.sub_mul, Int.mul_add, Int.mul_add, Int.mul_comm x 1000000]; omega
  omega

/-- The call returns this int and leaves the memory as it was. -/
def Ret (w : World) (x : Int) (e : Ending) (w' : World) : Prop := e = .returned (.int .i64 x) ∧ w = w'
/-- The call returns this bool and leaves the memory as it was. -/
def RetB (w : World) (x : Bool) (e : Ending) (w' : World) : Prop := e = .returned (.bool x) ∧ w = w'

def isVal (n : Int) : Bool := decide (-1000000 ≤ n) && decide (n ≤ 1000000)
theorem isVal_in {n : Int} (h : -1000000 ≤ n) (h2 : n ≤ 1000000) : isVal n = true := by simp [isVal, h, h2]
theorem isVal_out {n : Int} (h : n < -1000000 ∨ 1000000 < n) : isVal n = false := by
  rcases h with h | h
  · simp [isVal, show ¬ -1000000 ≤ n by omega]
  · simp [isVal, show ¬ n ≤ 1000000 by omega]
theorem isVal_iff (n : Int) : isVal n = true ↔ -1000000 ≤ n ∧ n ≤ 1000000 := by simp [isVal]

section program
theorem impl_isval (n : Int) (w : World) : Calls Tryz.prog 66 #[.int .i64 n] w (RetB w (isVal n)) := by
  rcases (show n < -1000000 ∨ 1000000 < n ∨ (-1000000 ≤ n ∧ n ≤ 1000000) by omega) with h | h | ⟨h, h2⟩
  · rw [isVal_out (Or.inl h)]
    go_enter Tryz.func66, Tryz.ntmps66
    go_wp2
    go_ret
    exact ⟨rfl, rfl⟩
  · rw [isVal_out (Or.inr h)]
    have h' : decide (n ≤ 1000000) = false := by simp; omega
    go_enter Tryz.func66, Tryz.ntmps66
    go_wp2
    go_ret
    exact ⟨by simp, rfl⟩
  · rw [isVal_in h h2]
    go_enter Tryz.func66, Tryz.ntmps66
    go_wp2
    go_ret
    exact ⟨rfl, rfl⟩
end program

section model
theorem spec_isval (n : Int) (w : World) : Calls Tryz.prog 32 #[.int .i64 n] w (RetB w (isVal n)) := by
  rcases (show n < -1000000 ∨ 1000000 < n ∨ (-1000000 ≤ n ∧ n ≤ 1000000) by omega) with h | h | ⟨h, h2⟩
  · rw [isVal_out (Or.inl h)]
    go_enter Tryz.func32, Tryz.ntmps32
    go_wp2
    go_ret
    exact ⟨rfl, rfl⟩
  · rw [isVal_out (Or.inr h)]
    have h' : decide (n ≤ 1000000) = false := by simp; omega
    go_enter Tryz.func32, Tryz.ntmps32
    go_wp2
    go_ret
    exact ⟨by simp, rfl⟩
  · rw [isVal_in h h2]
    go_enter Tryz.func32, Tryz.ntmps32
    go_wp2
    go_ret
    exact ⟨rfl, rfl⟩
end model
end Go.Proofs.YtlicadaecfgklaaGreat.val

/- Chapter 3's functions up to EvalExpr, of the program and of the model: each returns what the plain functions here say, and writes nothing that was there; no condition but that a row of variables reads as a list. -/
namespace Go.Proofs.YtlicadaecfgklaaGreat.expr
open Go.ChangeShapes Go.WideShapes Go.ChangeAt Go.RowKit Go.Proofs.YtlicadaecfgklaaGreat.row Go.Proofs.YtlicadaecfgklaaGreat.val

def opndOk (n : Int) : Bool := decide (-8 ≤ n) && decide (n ≤ 999)
theorem opndOk_iff (n : Int) : opndOk n = true ↔ -8 ≤ n ∧ n ≤ 999 := by simp [opndOk]
theorem opndOk_no (n : Int) : opndOk n = false ↔ n < -8 ∨ 999 < n := by
  rw [← Bool.not_eq_true, opndOk_iff]; omega
def opOk (n : Int) : Bool := decide (1 ≤ n) && decide (n ≤ 7)
theorem opOk_iff (n : Int) : opOk n = true ↔ 1 ≤ n ∧ n ≤ 7 := by simp [opOk]
theorem opOk_no (n : Int) : opOk n = false ↔ n < 1 ∨ 7 < n := by
  rw [← Bool.not_eq_true, opOk_iff]; omega
def exprOk (o a b : Int) : Bool := opOk o && (opndOk a && opndOk b)
def varsOk (L : List Int) : Bool := decide (L.length = 8) && L.all isVal
theorem varsOk_iff (L : List Int) : varsOk L = true ↔ L.length = 8 ∧ ∀ x ∈ L, isVal x = true := by simp [varsOk]
def valOf (L : List Int) (n : Int) : Int := if n < 0 then L.getD (-1 - n).toNat 0 else n
def opndVal (L : List Int) (n : Int) : Int := if opndOk n && varsOk L then valOf L n else 0

/-- The call returns this bool; nothing that was there is written. -/
def BelB (w : World) (x : Bool) (e : Ending) (w' : World) : Prop := e = .returned (.bool x) ∧ Below w.heap.size w w'
/-- The call returns this int; nothing that was there is written. -/
def BelI (w : World) (x : Int) (e : Ending) (w' : World) : Prop := e = .returned (.int .i64 x) ∧ Below w.heap.size w w'
/-- An expression as a value. -/
abbrev ev (o a b : Int) : Value := .agg #[.int .i64 o, .int .i64 a, .int .i64 b]

section operands
theorem in_any (n lo hi : Int) (r : Bool) (hr : (decide (lo ≤ n) && decide (n ≤ hi)) = r) (w : World) : Calls Tryz.prog 31 #[.int .i64 n, .int .i64 lo, .int .i64 hi] w (RetB w r) := by
  subst hr
  rcases (show n < lo ∨ hi < n ∧ lo ≤ n ∨ (lo ≤ n ∧ n ≤ hi) by omega) with h | ⟨h, h2⟩ | ⟨h, h2⟩
  · have h' : ¬ lo ≤ n := by omega
    simp only [h', decide_false, Bool.false_and]
    go_enter Tryz.func31, Tryz.ntmps31
    go_wp2
    go_ret
    exact ⟨rfl, rfl⟩
  · have h' : ¬ n ≤ hi := by omega
    have h3 : decide (n ≤ hi) = false := by simp; omega
    simp only [h', decide_false, Bool.and_false]
    go_enter Tryz.func31, Tryz.ntmps31
    go_wp2
    go_ret
    exact ⟨rfl, rfl⟩
  · simp only [h, h2, decide_true, Bool.and_true]
    go_enter Tryz.func31, Tryz.ntmps31
    go_wp2
    go_ret
    exact ⟨rfl, rfl⟩
theorem spec_opnd (n : Int) (r : Bool) (hr : opndOk n = r) (w : World) : Calls Tryz.prog 80 #[.int .i64 n] w (RetB w r) := by
  have HR : Hid (opndOk n = r) := hr
  clear hr
  go_enter Tryz.func80, Tryz.ntmps80
  go_wp2_with (go_at_call 31; refine (in_any _ _ _ r HR.out _).mono ?_; rintro e w1 ⟨rfl, rfl⟩)
  go_ret
  exact ⟨rfl, rfl⟩
theorem impl_opnd (n : Int) (r : Bool) (hr : opndOk n = r) (w : World) : Calls Tryz.prog 89 #[.int .i64 n] w (RetB w r) := by
  subst hr
  rcases (show n < -8 ∨ 999 < n ∨ (-8 ≤ n ∧ n ≤ 999) by omega) with h | h | ⟨h, h2⟩
  · rw [(opndOk_no n).2 (Or.inl h)]
    go_enter Tryz.func89, Tryz.ntmps89
    go_wp2
    go_ret
    exact ⟨rfl, rfl⟩
  · rw [(opndOk_no n).2 (Or.inr h)]
    have h' : decide (n ≤ 999) = false := by simp; omega
    go_enter Tryz.func89, Tryz.ntmps89
    go_wp2
    go_ret
    exact ⟨by simp, rfl⟩
  · rw [(opndOk_iff n).2 ⟨h, h2⟩]
    go_enter Tryz.func89, Tryz.ntmps89
    go_wp2
    go_ret
    exact ⟨rfl, rfl⟩
end operands

section variables_
theorem all_step {L : List Int} {k : Nat} {x : Int} (hx : L[k]? = some x) (h : ∀ y ∈ L.take k, isVal y = true) (hv : isVal x = true) : ∀ y ∈ L.take (k + 1), isVal y = true := by
  intro y hy
  rw [List.take_add_one, hx, List.mem_append] at hy
  rcases hy with hy | hy
  · exact h y hy
  · simp at hy; rw [hy]; exact hv
theorem varsOk_bad {L : List Int} {k : Nat} {x : Int} (hx : L[k]? = some x) (hv : isVal x = false) : varsOk L = false := by
  rw [← Bool.not_eq_true, varsOk_iff]
  rintro ⟨_, h⟩
  rw [h x (List.mem_of_getElem? hx)] at hv; cases hv
theorem varsOk_end {L : List Int} {n : Nat} (hl : L.length = n) (h : ∀ y ∈ L.take n, isVal y = true) : varsOk L = decide ((n : Int) = 8) := by
  rw [List.take_of_length_le (by omega)] at h
  by_cases h8 : n = 8
  · rw [(varsOk_iff L).2 ⟨by omega, h⟩]; simp [h8]
  · have : ¬ (n : Int) = 8 := by omega
    rw [decide_eq_false this, ← Bool.not_eq_true, varsOk_iff]; omega

theorem all_bad {L : List Int} {k : Nat} {x : Int} (hx : L[k]? = some x) (hv : isVal x = false) : L.all isVal = false := by
  rw [← Bool.not_eq_true, List.all_eq_true]
  intro h
  rw [h x (List.mem_of_getElem? hx)] at hv; cases hv
theorem all_end {L : List Int} {n : Nat} (hl : L.length = n) (h : ∀ y ∈ L.take n, isVal y = true) : L.all isVal = true := by
  rw [List.take_of_length_le (by omega)] at h
  rw [List.all_eq_true]; exact h
set_option maxHeartbeats 400000 in
set_option maxRecDepth 100000 in
theorem impl_are (w : World) (a : Option Addr) (n cap : Nat) (L : List Int) (hn : (n : Int) ≤ 1048576) (h : Row w a n L) (r : Bool) (hr : L.all isVal = r) :
    Calls Tryz.prog 45 #[.slice a n cap] w (RetB w r) := by
  subst hr
  have HL := Lib.hid h.1
  have HC : Hid (∀ k, k < n → ∃ (b off : Nat) (x : Int), a = some ⟨b, off, none⟩ ∧ L[k]? = some x ∧ w.cell? ⟨b, off + k, none⟩ = some (.int .i64 x)) := fun k hk => by
    obtain ⟨b, off, x, e, _, hx, hc⟩ := h.2 k hk
    exact ⟨b, off, x, e, hx, hc⟩
  clear h
  go_enter Tryz.func45, Tryz.ntmps45
  go_wp2
  go_loop [4, 7] (fun _ i => ∃ k : Nat, k ≤ n ∧ i = .int .i64 k ∧ Hid (∀ y ∈ L.take k, isVal y = true)) (fun _ i => n - (intOf i).toNat)
  case atStart => exact ⟨0, Nat.zero_le _, rfl, by simp [Hid]⟩
  case round =>
    obtain ⟨k, hk, rfl, hA⟩ := hrel
    by_cases hlt : k < n
    · obtain ⟨b, off, x, rfl, hx, hc⟩ := HC.out k hlt
      have hI : (k : Int) < n := by omega
      have HX := Lib.hid hx
      clear hx
      cases hv : isVal x
      · have HF := Lib.hid (all_bad HX.out hv)
        go_wp2_with (go_at_call 66; refine (impl_isval _ _).mono ?_; rintro e w1 ⟨rfl, rfl⟩)
        go_ret
        exact ⟨by rw [HF.out]; rfl, rfl⟩
      · have HA2 := Lib.hid (all_step HX.out hA.out hv)
        go_wp2_with (go_at_call 66; refine (impl_isval _ _).mono ?_; rintro e w1 ⟨rfl, rfl⟩)
        go_round
        case rel => exact ⟨k + 1, by omega, by go_num, HA2⟩
        case measure => simp [intOf]; omega
    · have hkn : k = n := by omega
      subst hkn
      have HE := Lib.hid (all_end HL.out hA.out)
      clear hA
      go_wp2
      go_ret
      exact ⟨by rw [HE.out]; rfl, rfl⟩
set_option maxHeartbeats 400000 in
set_option maxRecDepth 100000 in
theorem impl_vars (w : World) (a : Option Addr) (n cap : Nat) (L : List Int) (hn : (n : Int) ≤ 1048576) (h : Row w a n L) (r : Bool) (hr : varsOk L = r) :
    Calls Tryz.prog 44 #[.slice a n cap] w (RetB w r) := by
  have HL := h.1
  by_cases h8 : n = 8
  · subst h8
    have HR := Lib.hid (show L.all isVal = r by rw [← hr]; simp [varsOk, HL])
    have HH := Lib.hid h
    clear h HL hr
    go_enter Tryz.func44, Tryz.ntmps44
    go_wp2_with (go_at_call 45; refine (impl_are _ _ _ _ L hn HH.out r HR.out).mono ?_; rintro e w1 ⟨rfl, rfl⟩)
    go_ret
    exact ⟨rfl, rfl⟩
  · have h8' : ¬ (n : Int) = 8 := by omega
    have HF : Hid (varsOk L = false) := by
      show varsOk L = false
      rw [← Bool.not_eq_true, varsOk_iff]; omega
    rw [HF.out] at hr
    subst hr
    clear HL
    go_enter Tryz.func44, Tryz.ntmps44
    go_wp2
    go_ret
    exact ⟨rfl, rfl⟩
theorem opnd_at {L : List Int} (h : varsOk L = true) {n : Int} (h1 : opndOk n = true) (h2 : n < 0) : (-1 - n).toNat < L.length ∧ ((-1 - n).toNat : Int) = -1 - n := by
  have := (varsOk_iff L).1 h
  have := (opndOk_iff n).1 h1
  omega
end variables_
end Go.Proofs.YtlicadaecfgklaaGreat.expr

/- Statements and blocks as plain data: when a statement is valid, when a list of statements is a valid block of so many levels, and the cells of such a list. Plain mathematics. -/
namespace Go.Proofs.YtlicadaecfgklaaGreat.stm
open Go.RowKit Go.Proofs.YtlicadaecfgklaaGreat.row Go.Proofs.YtlicadaecfgklaaGreat.expr

/-- A statement: its kind, its variable, its number, and the three numbers of its expression. -/
structure St where
  (k v n o a b : Int)
deriving DecidableEq
def exprZ (s : St) : Bool := decide (s.o = 0) && (decide (s.a = 0) && decide (s.b = 0))
def varOk (v : Int) : Bool := decide (0 ≤ v) && decide (v ≤ 7)
def stOk (s : St) : Bool :=
  if s.k = 1 then varOk s.v && (decide (s.n = 0) && exprOk s.o s.a s.b)
  else if s.k = 2 then varOk s.v && ((decide (0 ≤ s.n) && decide (s.n ≤ 3)) && exprZ s)
  else if s.k = 3 then decide (s.v = 0) && (decide (s.n = 0) && exprOk s.o s.a s.b)
  else if s.k = 4 then decide (s.v = 0) && (decide (s.n = 0) && exprOk s.o s.a s.b)
  else if s.k = 5 then decide (s.v = 0) && ((decide (1 ≤ s.n) && decide (s.n ≤ 5)) && exprZ s)
  else if s.k = 6 then decide (s.v = 0) && (decide (s.n = 0) && exprZ s)
  else false
theorem stOk_set {v o a b : Int} (h0 : 0 ≤ v) (h1 : v ≤ 7) (he : exprOk o a b = true) : stOk ⟨1, v, 0, o, a, b⟩ = true := by simp [stOk, varOk, h0, h1, he]
theorem stOk_sense {v n : Int} (h0 : 0 ≤ v) (h1 : v ≤ 7) (h2 : 0 ≤ n) (h3 : n ≤ 3) : stOk ⟨2, v, n, 0, 0, 0⟩ = true := by simp [stOk, varOk, exprZ, h0, h1, h2, h3]
theorem stOk_send {o a b : Int} (he : exprOk o a b = true) : stOk ⟨3, 0, 0, o, a, b⟩ = true := by simp [stOk, he]
theorem stOk_if {o a b : Int} (he : exprOk o a b = true) : stOk ⟨4, 0, 0, o, a, b⟩ = true := by simp [stOk, he]
theorem stOk_loop {n : Int} (h2 : 1 ≤ n) (h3 : n ≤ 5) : stOk ⟨5, 0, n, 0, 0, 0⟩ = true := by simp [stOk, exprZ, h2, h3]
def endSt : St := ⟨6, 0, 0, 0, 0, 0⟩
theorem stOk_end : stOk endSt = true := by decide

/-- A valid block with at most 'd' levels of loops and conditions. -/
inductive Blk : Nat → List St → Prop
  | nil (d : Nat) : Blk d []
  | one (d : Nat) (s : St) (rest : List St) (hs : stOk s = true) (h1 : 1 ≤ s.k) (h3 : s.k ≤ 3) (hr : Blk d rest) : Blk d (s :: rest)
  | nest (d : Nat) (s : St) (body rest : List St) (hs : stOk s = true) (hk : s.k = 4 ∨ s.k = 5) (hb : Blk d body) (hr : Blk (d + 1) rest) : Blk (d + 1) (s :: (body ++ endSt :: rest))
theorem Blk.app {d : Nat} {L M : List St} (h : Blk d L) (h2 : Blk d M) : Blk d (L ++ M) := by
  induction h with
  | nil d => exact h2
  | one d s rest hs h1 h3 _ ih => exact .one d s _ hs h1 h3 (ih h2)
  | nest d s body rest hs hk hb _ _ ih =>
    have e : (s :: (body ++ endSt :: rest)) ++ M = s :: (body ++ endSt :: (rest ++ M)) := by simp
    rw [e]; exact .nest d s body _ hs hk hb (ih h2)
theorem Blk.snoc {d : Nat} {L : List St} (h : Blk d L) {s : St} (hs : stOk s = true) (h1 : 1 ≤ s.k) (h3 : s.k ≤ 3) : Blk d (L ++ [s]) := h.app (.one d s [] hs h1 h3 (.nil d))
theorem Blk.wrap {d : Nat} {L B : List St} (h : Blk (d + 1) L) {s : St} (hs : stOk s = true) (hk : s.k = 4 ∨ s.k = 5) (hb : Blk d B) : Blk (d + 1) (((L ++ [s]) ++ B) ++ [endSt]) := by
  have e : ((L ++ [s]) ++ B) ++ [endSt] = L ++ (s :: (B ++ endSt :: [])) := by simp
  rw [e]; exact h.app (.nest d s B [] hs hk hb (.nil _))

/-- The cells of a statement, of a list of statements. -/
def stC (s : St) : List Value := [.int .i64 s.k, .int .i64 s.v, .int .i64 s.n, .int .i64 s.o, .int .i64 s.a, .int .i64 s.b]
abbrev stV (s : St) : Value := .agg #[.int .i64 s.k, .int .i64 s.v, .int .i64 s.n, .int .i64 s.o, .int .i64 s.a, .int .i64 s.b]
def stsC (L : List St) : List Value := L.flatMap stC
theorem stsC_len (L : List St) : (stsC L).length = L.length * 6 := by
  induction L with
  | nil => rfl
  | cons s L ih => simp only [stsC, List.flatMap_cons, List.length_append, List.length_cons] at *; rw [ih]; simp [stC]; omega
theorem stsC_app (L M : List St) : stsC (L ++ M) = stsC L ++ stsC M := by simp [stsC]
theorem stsC_one (s : St) : stsC [s] = stC s := by simp [stsC]
theorem stsC_at {L : List St} {i : Nat} {s : St} (h : L[i]? = some s) (j : Nat) (hj : j < 6) : (stsC L)[i * 6 + j]? = (stC s)[j]? := by
  induction L generalizing i with
  | nil => simp at h
  | cons t L ih =>
    have e : stsC (t :: L) = stC t ++ stsC L := by simp [stsC]
    have l6 : (stC t).length = 6 := rfl
    cases i with
    | zero =>
      simp at h; subst h
      rw [e, List.getElem?_append_left (by omega)]; congr 1; omega
    | succ i =>
      simp at h
      rw [e, List.getElem?_append_right (by omega), l6, show (i + 1) * 6 + j - 6 = i * 6 + j by omega]
      exact ih h
end Go.Proofs.YtlicadaecfgklaaGreat.stm

/- Chapter 3's OperandValue, ExprOk and EvalExpr, of the program and of the model: the plain functions of the text before; nothing that was there is written. -/
namespace Go.Proofs.YtlicadaecfgklaaGreat.expr
open Go.ChangeShapes Go.WideShapes Go.ChangeAt Go.RowKit Go.Proofs.YtlicadaecfgklaaGreat.row Go.Proofs.YtlicadaecfgklaaGreat.val

theorem opndVal_ok {L : List Int} {m : Int} (h : opndOk m = true) (h2 : varsOk L = true) : opndVal L m = valOf L m := by simp [opndVal, h, h2]
theorem opndVal_no {L : List Int} {m : Int} (h : opndOk m = false ∨ varsOk L = false) : opndVal L m = 0 := by
  rcases h with h | h <;> simp [opndVal, h]
section values
theorem impl_isvar (m : Int) (w : World) : Calls Tryz.prog 103 #[.int .i64 m] w (RetB w (decide (m < 0))) := by
  go_enter Tryz.func103, Tryz.ntmps103
  go_wp2
  go_ret
  exact ⟨rfl, rfl⟩
theorem impl_varof (m : Int) (h1 : -1000000 ≤ m) (h2 : m ≤ 1000000) (w : World) : Calls Tryz.prog 104 #[.int .i64 m] w (Ret w (-1 - m)) := by
  go_enter Tryz.func104, Tryz.ntmps104
  go_wp2
  go_ret
  exact ⟨rfl, rfl⟩
end values

section expressions
theorem in_op (o : Int) (r : Bool) (h : opOk o = r) : (decide (1 ≤ o) && decide (o ≤ 7)) = r := h
theorem spec_exprok (o a b : Int) (r : Bool) (hr : exprOk o a b = r) (w : World) : Calls Tryz.prog 59 #[ev o a b] w (BelB w r) := by
  cases h1 : opOk o <;> cases h2 : opndOk a <;> cases h3 : opndOk b
  all_goals
    obtain rfl : _ = r := hr
    have HE := Lib.hid (show exprOk o a b = (opOk o && (opndOk a && opndOk b)) from rfl)
    rw [h1, h2, h3] at HE
    go_enter Tryz.func59, Tryz.ntmps59
    go_wp2_with (first
      | (go_at_call 31; refine (in_any _ _ _ _ (in_op _ _ h1) _).mono ?_; rintro e w1 ⟨rfl, rfl⟩)
      | (go_at_call 80; (with_reducible refine (spec_opnd a _ h2 _).mono ?_); rintro e w1 ⟨rfl, rfl⟩)
      | (go_at_call 80; (with_reducible refine (spec_opnd b _ h3 _).mono ?_); rintro e w1 ⟨rfl, rfl⟩))
    go_ret
    exact ⟨by rw [HE.out]; rfl, (Below.refl _ _).alloc (Nat.le_refl _) _⟩
theorem impl_exprok (o a b : Int) (r : Bool) (hr : exprOk o a b = r) (w : World) : Calls Tryz.prog 75 #[ev o a b] w (BelB w r) := by
  by_cases h0 : 1 ≤ o <;> by_cases h1 : o ≤ 7 <;> cases h2 : opndOk a <;> cases h3 : opndOk b
  all_goals first | (exfalso; omega) | skip
  all_goals
    obtain rfl : _ = r := hr
    have HE := Lib.hid (show exprOk o a b = (decide (1 ≤ o) && decide (o ≤ 7) && (opndOk a && opndOk b)) from rfl)
    rw [h2, h3] at HE
    simp only [h0, h1, decide_true, decide_false] at HE
    first | have hd : decide (o ≤ 7) = true := by simpa using h1 | have hd : decide (o ≤ 7) = false := by simpa using h1
    first | have hd0 : decide (1 ≤ o) = true := by simpa using h0 | have hd0 : decide (1 ≤ o) = false := by simpa using h0
    go_enter Tryz.func75, Tryz.ntmps75
    go_wp2_with (first
      | (go_at_call 89; (with_reducible refine (impl_opnd a _ h2 _).mono ?_); rintro e w1 ⟨rfl, rfl⟩)
      | (go_at_call 89; (with_reducible refine (impl_opnd b _ h3 _).mono ?_); rintro e w1 ⟨rfl, rfl⟩))
    go_ret
    exact ⟨by rw [HE.out]; first | rfl | simp [hd], (Below.refl _ _).alloc (Nat.le_refl _) _⟩
/-- A struct is copied field by field. -/
def SameE (w : World) (o a b : Int) (e : Ending) (w' : World) : Prop := e = .returned (ev o a b) ∧ Below w.heap.size w w'
theorem toExpr_any (o a b : Int) (w : World) : Calls Tryz.prog 65 #[ev o a b] w (SameE w o a b) := by
  go_enter Tryz.func65, Tryz.ntmps65
  go_wp2
  refine bodyPost_ret (v := ev o a b) (by simp [results, Tryz.results65, go_sem, ev]) rfl ⟨rfl, ?_⟩
  exact (((Below.refl _ _).alloc (Nat.le_refl _) _).alloc (by simp) _).alloc (by simp; omega) _
end expressions
end Go.Proofs.YtlicadaecfgklaaGreat.expr
