/- Several texts in one: QReadA QWtA QVal QTrcC QInts. -/
import Derived.Lib.SlicesCompact
import Derived.Lib.RowBridge
import Derived.Test.YtmgeecdgebemdaaGreatDoorRows
import Derived.WalkKit
import Derived.ProofKit
import Derived.OpenShut
import Derived.Lib.Hide
import Derived.Below
import Derived.Deep.QuietTactic
import Derived.BigQuiet
import Derived.OwnWalk
import Derived.Laws.OwnMore
import Derived.Deep.Onto
import Derived.Deep.AppendLies

/- The numbers of the variables that two operands name: found by a search from 0 on, or collected, sorted and made single: the same list. Plain mathematics; no condition but that the operands are valid. -/
namespace Go.Proofs.YtmgeecdgebemdaaGreatDoor.expr
/-- The numbers below 'k' that one of the operands names. -/
def rd (a b : Int) (k : Nat) : List Int := ((List.range k).filter fun (j : Nat) => decide (a = -1 - (j : Int)) || decide (b = -1 - (j : Int))).map fun (j : Nat) => (j : Int)
theorem rd_len (a b : Int) (k : Nat) : (rd a b k).length ≤ k := by
  unfold rd; rw [List.length_map]; exact Nat.le_trans (List.length_filter_le _ _) (by simp)
theorem rd_b {a b : Int} (h : 0 ≤ b) (k : Nat) : rd a b k = rd a 0 k := by
  unfold rd; congr 1; apply List.filter_congr; intro j _
  have h1 : ¬ b = -1 - (j : Int) := by omega
  have h2 : ¬ (0 : Int) = -1 - (j : Int) := by omega
  simp only [h1, h2]
theorem rd_a {a b : Int} (h : 0 ≤ a) (k : Nat) : rd a b k = rd 0 b k := by
  unfold rd; congr 1; apply List.filter_congr; intro j _
  have h1 : ¬ a = -1 - (j : Int) := by omega
  have h2 : ¬ (0 : Int) = -1 - (j : Int) := by omega
  simp only [h1, h2]

/-- The variable that an operand names, if it does. -/
def vk (x : Int) : List Int := if x < 0 then [-1 - x] else []
theorem vk_neg {x : Int} (h : x < 0) : vk x = [-1 - x] := by simp [vk, h]
theorem vk_pos {x : Int} (h : ¬ x < 0) : vk x = [] := by simp [vk, h]
theorem compact0 : Lib.compact ([] : List Int) = [] := by simp [Lib.compact, Lib.compactUpTo]
theorem compact1 (x : Int) : Lib.compact [x] = [x] := by simp [Lib.compact, Lib.compactUpTo, Lib.keeps, List.range_succ]
theorem compact2 (x y : Int) : Lib.compact [x, y] = if x = y then [x] else [x, y] := by
  by_cases h : x = y
  · subst h; simp [Lib.compact, Lib.compactUpTo, Lib.keeps, List.range_succ]
  · have h' : ¬ y = x := fun e => h e.symm
    simp [Lib.compact, Lib.compactUpTo, Lib.keeps, List.range_succ, h, h']
def srt (L : List Int) : List Int := L.mergeSort fun x y => decide (x ≤ y)
theorem srt0 : srt [] = [] := by simp [srt]
theorem srt1 (x : Int) : srt [x] = [x] := by simp [srt]
theorem srt2 (x y : Int) : srt [x, y] = if x ≤ y then [x, y] else [y, x] := by
  unfold srt
  by_cases h : x ≤ y <;> simp [List.mergeSort, h]
theorem one_rd (i : Fin 8) : rd (-1 - (i.val : Int)) 0 8 = [(i.val : Int)] ∧ rd 0 (-1 - (i.val : Int)) 8 = [(i.val : Int)] := by
  revert i; decide
theorem two_rd (i j : Fin 8) : rd (-1 - (i.val : Int)) (-1 - (j.val : Int)) 8 = if (i.val : Int) = j.val then [(i.val : Int)] else if (i.val : Int) ≤ j.val then [(i.val : Int), (j.val : Int)] else [(j.val : Int), (i.val : Int)] := by
  revert i j; decide
theorem reads_same (a b : Int) (ha : -8 ≤ a) (hb : -8 ≤ b) : Lib.compact (srt (vk a ++ vk b)) = rd a b 8 := by
  by_cases h1 : a < 0 <;> by_cases h2 : b < 0
  · obtain ⟨i, hi, rfl⟩ : ∃ i : Nat, i < 8 ∧ a = -1 - (i : Int) := ⟨(-1 - a).toNat, by omega, by omega⟩
    obtain ⟨j, hj, rfl⟩ : ∃ j : Nat, j < 8 ∧ b = -1 - (j : Int) := ⟨(-1 - b).toNat, by omega, by omega⟩
    have e := two_rd ⟨i, hi⟩ ⟨j, hj⟩
    simp only at e
    rw [e, vk_neg h1, vk_neg h2, show (-1 - (-1 - (i : Int))) = i by omega, show (-1 - (-1 - (j : Int))) = j by omega]
    show Lib.compact (srt [(i : Int), (j : Int)]) = _
    rw [srt2]
    by_cases hle : (i : Int) ≤ j
    · simp only [if_pos hle, compact2]
    · have he : ¬ (j : Int) = i := by omega
      have he' : ¬ (i : Int) = j := by omega
      simp only [if_neg hle, compact2, if_neg he, if_neg he']
  · obtain ⟨i, hi, rfl⟩ : ∃ i : Nat, i < 8 ∧ a = -1 - (i : Int) := ⟨(-1 - a).toNat, by omega, by omega⟩
    rw [rd_b (by omega), vk_neg h1, vk_pos h2, show (-1 - (-1 - (i : Int))) = i by omega, List.append_nil, srt1, compact1]
    exact (one_rd ⟨i, hi⟩).1.symm
  · obtain ⟨j, hj, rfl⟩ : ∃ j : Nat, j < 8 ∧ b = -1 - (j : Int) := ⟨(-1 - b).toNat, by omega, by omega⟩
    rw [rd_a (by omega), vk_neg h2, vk_pos h1, show (-1 - (-1 - (j : Int))) = j by omega, List.nil_append, srt1, compact1]
    exact (one_rd ⟨j, hj⟩).2.symm
  · rw [rd_a (by omega), rd_b (by omega), vk_pos h1, vk_pos h2, List.nil_append, srt0, compact0]; decide
end Go.Proofs.YtmgeecdgebemdaaGreatDoor.expr

/- Chapter 10, plain mathematics: writes, what applying them makes of a row, the first place where two rows differ, and the places of a list of writes in ascending order, each once. -/
namespace Go.Proofs.YtmgeecdgebemdaaGreatDoor.wrt
open Go.Proofs.YtmgeecdgebemdaaGreatDoor.expr
/-- A write: the place, the value. -/
structure Wt where
  (p v : Int)
deriving DecidableEq
/-- The row behind one write. -/
def put1 (M : List Int) (x : Wt) : List Int := if 0 ≤ x.p ∧ x.p < M.length then M.set x.p.toNat x.v else M
theorem put1_in {M : List Int} {x : Wt} {k : Nat} (hk : x.p = k) (h : k < M.length) : put1 M x = M.set k x.v := by
  unfold put1; rw [if_pos ⟨by omega, by omega⟩, show x.p.toNat = k by omega]
theorem put1_out {M : List Int} {x : Wt} (h : ¬ (0 ≤ x.p ∧ x.p < M.length)) : put1 M x = M := by unfold put1; rw [if_neg h]
theorem put1_len (M : List Int) (x : Wt) : (put1 M x).length = M.length := by unfold put1; split <;> simp
/-- The row behind all these writes. -/
def putAll (M : List Int) (L : List Wt) : List Int := L.foldl put1 M
theorem putAll_len (L : List Wt) : ∀ M, (putAll M L).length = M.length := by
  induction L with
  | nil => intro M; rfl
  | cons x L ih => intro M; show (putAll (put1 M x) L).length = _; rw [ih, put1_len]
theorem putAll_snoc {M : List Int} {L : List Wt} {k : Nat} {x : Wt} (h : L[k]? = some x) : putAll M (L.take (k + 1)) = put1 (putAll M (L.take k)) x := by
  unfold putAll; rw [List.take_add_one, h]; simp
theorem putAll_app (M : List Int) (K L : List Wt) : putAll M (K ++ L) = putAll (putAll M K) L := by unfold putAll; rw [List.foldl_append]
/-- What ApplyWrites answers. -/
def appW (M : List Int) (L : List Wt) (c : Int) : List Int := putAll M (L.take c.toNat)
theorem put1_other {M : List Int} {x : Wt} {k : Nat} (h : x.p ≠ k) : (put1 M x)[k]? = M[k]? := by
  unfold put1
  split
  · rw [List.getElem?_set_ne (by omega)]
  · rfl
end Go.Proofs.YtmgeecdgebemdaaGreatDoor.wrt

/- Chapter 2's functions, of the program and of the model: each returns the clamped number, sum, difference or product, and writes nothing; no condition. -/
namespace Go.Proofs.YtmgeecdgebemdaaGreatDoor.val
open Go.ChangeShapes Go.WideShapes Go.ChangeAt Go.RowKit
theorem ret_int {k : IntKind} {a b : Int} (h : a = b) : Ending.returned (.int k a) = .returned (.int k b) := by rw [h]
def clampV (n low high : Int) : Int := if high < low then low else if n < low then low else if high < n then high else n
def sat (n : Int) : Int := clampV n (-1000000) 1000000
theorem sat_low {n : Int} (h : n < -1000000) : sat n = -1000000 := by unfold sat clampV; rw [if_neg (by omega), if_pos h]
theorem sat_high {n : Int} (h : 1000000 < n) : sat n = 1000000 := by unfold sat clampV; rw [if_neg (by omega), if_neg (by omega), if_pos h]
theorem sat_in {n : Int} (h : -1000000 ≤ n) (h2 : n ≤ 1000000) : sat n = n := by unfold sat clampV; rw [if_neg (by omega), if_neg (by omega), if_neg (by omega)]
theorem sat_bd (n : Int) : -1000000 ≤ sat n ∧ sat n ≤ 1000000 := by
  rcases (show n < -1000000 ∨ 1000000 < n ∨ (-1000000 ≤ n ∧ n ≤ 1000000) by omega) with h | h | ⟨h, h2⟩
  · rw [sat_low h]; omega
  · rw [sat_high h]; omega
  · rw [sat_in h h2]; omega
theorem prod_bd {x y : Int} (hx : -1000000 ≤ x ∧ x ≤ 1000000) (hy : -1000000 ≤ y ∧ y ≤ 1000000) : -1000000000000 ≤ x * y ∧ x * y ≤ 1000000000000 := by
  obtain ⟨a, ha⟩ := Int.le.dest hx.1; obtain ⟨b, hb⟩ := Int.le.dest hx.2
  obtain ⟨c, hc⟩ := Int.le.dest hy.1; obtain ⟨d, hd⟩ := Int.le.dest hy.2
  have h1 : 0 ≤ (x + 1000000) * (y + 1000000) := Int.mul_nonneg (by omega) (by omega)
  have h2 : 0 ≤ (1000000 - x) * (1000000 - y) := Int.mul_nonneg (by omega) (by omega)
  have h3 : 0 ≤ (x + 1000000) * (1000000 - y) := Int.mul_nonneg (by omega) (by omega)
  have h4 : 0 ≤ (1000000 - x) * (y + 1000000) := Int.mul_nonneg (by omega) (by omega)
  have e1 : (x + 1000000) * (y + 1000000) = x * y + 1000000 * x + 1000000 * y + 1000000000000 := by
    rw [Int.add_mul, Int.mul_add, Int.mul_add, Int.mul_comm x 1000000]; omega
  have e2 : (1000000 - x) * (1000000 - y) = 1000000000000 - 1000000 * y - 1000000 * x + x * y := by
    rw [Int.sub_mul, Int.mul_sub, Int.mul_sub, Int.mul_comm x 1000000]; omega
  have e3 : (x + 1000000) * (1000000 - y) = 1000000 * x - x * y + 1000000000000 - 1000000 * y := by
    rw [Int.add_mul, Int.mul_sub, Int.mul_sub, Int.mul_comm x 1000000]; omega
  have e4 : (1000000 - x) * (y + 1000000) = 1000000 * y + 1000000000000 - x * y - 1000000 * x := by
    rw [Int.sub_mul, Int.mul_add, Int.mul_add, Int.mul_comm x 1000000]; omega
  omega

/-- The call returns this int and leaves the memory as it was. -/
def Ret (w : World) (x : Int) (e : Ending) (w' : World) : Prop := e = .returned (.int .i64 x) ∧ w = w'
/-- The call returns this bool and leaves the memory as it was. -/
def RetB (w : World) (x : Bool) (e : Ending) (w' : World) : Prop := e = .returned (.bool x) ∧ w = w'

def isVal (n : Int) : Bool := decide (-1000000 ≤ n) && decide (n ≤ 1000000)
theorem isVal_in {n : Int} (h : -1000000 ≤ n) (h2 : n ≤ 1000000) : isVal n = true := by simp [isVal, h, h2]
theorem isVal_out {n : Int} (h : n < -1000000 ∨ 1000000 < n) : isVal n = false := by
  rcases h with h | h
  · simp [isVal, show ¬ -1000000 ≤ n by omega]
  · simp [isVal, show ¬ n ≤ 1000000 by omega]
theorem isVal_iff (n : Int) : isVal n = true ↔ -1000000 ≤ n ∧ n ≤ 1000000 := by simp [isVal]

section program
theorem impl_clamp (a0 a1 a2 : Int) (w : World) : Calls Tryz.prog 91 #[.int .i64 a0, .int .i64 a1, .int .i64 a2] w (Ret w (clampV a0 a1 a2)) := by
  by_cases h1 : a2 < a1 <;> by_cases h2 : a0 < a1 <;> by_cases h3 : a2 < a0
  all_goals
    have hv : clampV a0 a1 a2 = if a2 < a1 then a1 else if a0 < a1 then a1 else if a2 < a0 then a2 else a0 := rfl
    simp only [h1, h2, h3, if_true, if_false] at hv
    have HV := Lib.hid hv
    clear hv
    go_enter Tryz.func91, Tryz.ntmps91
    go_wp2
    go_ret
    exact ⟨ret_int HV.out.symm, rfl⟩
theorem impl_sat (n : Int) (w : World) : Calls Tryz.prog 221 #[.int .i64 n] w (Ret w (sat n)) := by
  go_enter Tryz.func221, Tryz.ntmps221
  go_wp2_with (go_at_call 91; refine (impl_clamp n _ _ _).mono ?_; rintro e w1 ⟨rfl, rfl⟩)
  go_ret
  exact ⟨rfl, rfl⟩
theorem impl_add (a b : Int) (w : World) : Calls Tryz.prog 184 #[.int .i64 a, .int .i64 b] w (Ret w (sat (sat a + sat b))) := by
  have ha := sat_bd a
  have hb := sat_bd b
  go_enter Tryz.func184, Tryz.ntmps184
  go_wp2_with (go_at_call 221; refine (impl_sat _ _).mono ?_; rintro e w1 ⟨rfl, rfl⟩)
  go_ret
  exact ⟨rfl, rfl⟩
theorem impl_sub (a b : Int) (w : World) : Calls Tryz.prog 225 #[.int .i64 a, .int .i64 b] w (Ret w (sat (sat a - sat b))) := by
  have ha := sat_bd a
  have hb := sat_bd b
  go_enter Tryz.func225, Tryz.ntmps225
  go_wp2_with (go_at_call 221; refine (impl_sat _ _).mono ?_; rintro e w1 ⟨rfl, rfl⟩)
  go_ret
  exact ⟨rfl, rfl⟩
theorem impl_mul (a b : Int) (w : World) : Calls Tryz.prog 226 #[.int .i64 a, .int .i64 b] w (Ret w (sat (sat a * sat b))) := by
  have hp := prod_bd (sat_bd a) (sat_bd b)
  go_enter Tryz.func226, Tryz.ntmps226
  go_wp2_with (go_at_call 221; refine (impl_sat _ _).mono ?_; rintro e w1 ⟨rfl, rfl⟩)
  go_ret
  exact ⟨rfl, rfl⟩
theorem impl_isval (n : Int) (w : World) : Calls Tryz.prog 159 #[.int .i64 n] w (RetB w (isVal n)) := by
  rcases (show n < -1000000 ∨ 1000000 < n ∨ (-1000000 ≤ n ∧ n ≤ 1000000) by omega) with h | h | ⟨h, h2⟩
  · rw [isVal_out (Or.inl h)]
    go_enter Tryz.func159, Tryz.ntmps159
    go_wp2
    go_ret
    exact ⟨rfl, rfl⟩
  · rw [isVal_out (Or.inr h)]
    have h' : decide (n ≤ 1000000) = false := by simp; omega
    go_enter Tryz.func159, Tryz.ntmps159
    go_wp2
    go_ret
    exact ⟨by simp, rfl⟩
  · rw [isVal_in h h2]
    go_enter Tryz.func159, Tryz.ntmps159
    go_wp2
    go_ret
    exact ⟨rfl, rfl⟩
end program
section model
theorem spec_isval (n : Int) (w : World) : Calls Tryz.prog 152 #[.int .i64 n] w (RetB w (isVal n)) := by
  rcases (show n < -1000000 ∨ 1000000 < n ∨ (-1000000 ≤ n ∧ n ≤ 1000000) by omega) with h | h | ⟨h, h2⟩
  · rw [isVal_out (Or.inl h)]
    go_enter Tryz.func152, Tryz.ntmps152
    go_wp2
    go_ret
    exact ⟨rfl, rfl⟩
  · rw [isVal_out (Or.inr h)]
    have h' : decide (n ≤ 1000000) = false := by simp; omega
    go_enter Tryz.func152, Tryz.ntmps152
    go_wp2
    go_ret
    exact ⟨by simp, rfl⟩
  · rw [isVal_in h h2]
    go_enter Tryz.func152, Tryz.ntmps152
    go_wp2
    go_ret
    exact ⟨rfl, rfl⟩
end model
end Go.Proofs.YtmgeecdgebemdaaGreatDoor.val

/- Chapter 14, plain mathematics: steps: what they cost, the writes among them, how many of them an energy allows. -/
namespace Go.Proofs.YtmgeecdgebemdaaGreatDoor.trc
open Go Go.Proofs.YtmgeecdgebemdaaGreatDoor.wrt
/-- A step: what it costs, the word that it writes or -1, the value. -/
structure Mic where
  (c a v : Int)
deriving DecidableEq
def kindT (k : Int) : Int := if k = 1 then 2 else if k = 2 then 5 else if k = 3 then 4 else if k = 4 then 1 else if k = 5 then 1 else 0
def stepM (k : Int) : Mic := ⟨kindT k, -1, 0⟩
def wrM (a v : Int) : Mic := ⟨3, a, v⟩
/-! All writes together. -/
def wrs (M : List Mic) : List Wt := (M.filter fun m => !decide (m.a = -1)).map fun m => ⟨m.a, m.v⟩
theorem wrs_app (M N : List Mic) : wrs (M ++ N) = wrs M ++ wrs N := by simp [wrs]
theorem wrs_step (k : Int) : wrs [stepM k] = [] := by simp [wrs, stepM]
theorem wrs_cons_step (k : Int) (M : List Mic) : wrs (stepM k :: M) = wrs M := by simp [wrs, stepM]
theorem wrs_wr {a v : Int} (h : 0 ≤ a) (M : List Mic) : wrs (wrM a v :: M) = ⟨a, v⟩ :: wrs M := by
  have : ¬ a = -1 := by omega
  simp [wrs, wrM, this]
theorem putAll_cons (W : List Int) (x : Wt) (L : List Wt) : putAll W (x :: L) = putAll (put1 W x) L := rfl
theorem putAll_nil (W : List Int) : putAll W [] = W := rfl
/-! Costs. -/
def CostOk (M : List Mic) : Prop := ∀ m ∈ M, 1 ≤ m.c ∧ m.c ≤ 5
theorem CostOk.app {M N : List Mic} (h : CostOk M) (k : CostOk N) : CostOk (M ++ N) := fun m hm => (List.mem_append.1 hm).elim (h m) (k m)
theorem kind_cost {k : Int} (h : 1 ≤ k) (h5 : k ≤ 5) : 1 ≤ kindT k ∧ kindT k ≤ 5 := by
  unfold kindT
  split
  · omega
  split
  · omega
  split
  · omega
  split
  · omega
  split <;> omega
theorem step_cost {k : Int} (h : 1 ≤ k) (h5 : k ≤ 5) : CostOk [stepM k] := fun m hm => by rw [List.mem_singleton.1 hm]; exact kind_cost h h5
theorem wr_cost {M : List Mic} (h : CostOk M) (a v : Int) : CostOk (wrM a v :: M) := fun m hm => by
  rcases List.mem_cons.1 hm with rfl | hm
  · simp [wrM]
  · exact h m hm
theorem nil_cost : CostOk [] := fun m hm => by cases hm
def csts (M : List Mic) : List Int := M.map (·.c)
/-- The sum of all costs as an int. -/
def costW (C : List Int) : Int := C.foldl (fun n c => IntKind.i64.wrap (n + c)) 0
/-- How many steps an energy allows behind steps that have cost 'a'. -/
def cntC (e : Int) : Int → List Int → Nat
  | _, [] => 0
  | a, c :: C => if a + c ≤ e then cntC e (a + c) C + 1 else 0
def cntE (C : List Int) (e : Int) : Nat := if e < 0 then 0 else cntC e 0 C
theorem cntC_le (e : Int) : ∀ (C : List Int) (a : Int), cntC e a C ≤ C.length
  | [], _ => by simp [cntC]
  | c :: C, a => by
    unfold cntC
    have := cntC_le e C (a + c)
    split <;> simp <;> omega
theorem cntC_mono {e e' : Int} (h : e ≤ e') : ∀ (C : List Int) (a : Int), cntC e a C ≤ cntC e' a C
  | [], _ => by simp [cntC]
  | c :: C, a => by
    unfold cntC
    have := cntC_mono h C (a + c)
    by_cases h1 : a + c ≤ e
    · rw [if_pos h1, if_pos (by omega)]; omega
    · rw [if_neg h1]; omega
theorem cntC_all {e : Int} : ∀ (C : List Int) (a : Int), (∀ c ∈ C, 0 ≤ c) → a + C.sum ≤ e → cntC e a C = C.length
  | [], _, _, _ => by simp [cntC]
  | c :: C, a, h, hs => by
    rw [List.sum_cons] at hs
    have h0 : 0 ≤ C.sum := sum_nonneg C (fun x hx => h x (by simp [hx]))
    unfold cntC
    have ih := cntC_all (e := e) C (a + c) (fun x hx => h x (by simp [hx])) (show a + c + C.sum ≤ e by omega)
    rw [if_pos (by omega), ih]
    rfl
where
  sum_nonneg : ∀ C : List Int, (∀ c ∈ C, 0 ≤ c) → 0 ≤ C.sum
    | [], _ => by simp
    | c :: C, h => by
      rw [List.sum_cons]
      have h1 := h c (by simp)
      have h2 := sum_nonneg C (fun x hx => h x (by simp [hx]))
      omega
theorem cntC_less {e : Int} : ∀ (C : List Int) (a : Int), C ≠ [] → e < a + C.sum → cntC e a C < C.length
  | [], _, h, _ => (h rfl).elim
  | c :: C, a, _, hs => by
    rw [List.sum_cons] at hs
    unfold cntC
    split
    · rename_i h1
      have hne : C ≠ [] := fun e0 => by subst e0; simp at hs; omega
      have := cntC_less (e := e) C (a + c) hne (by omega)
      simp; omega
    · simp
theorem sum_bounds : ∀ (C : List Int), (∀ c ∈ C, 1 ≤ c ∧ c ≤ 5) → (C.length : Int) ≤ C.sum ∧ C.sum ≤ 5 * C.length
  | [], _ => by simp
  | c :: C, h => by
    rw [List.sum_cons, List.length_cons]
    have h1 := h c (by simp)
    have h2 := sum_bounds C (fun x hx => h x (by simp [hx]))
    omega
theorem cost_sum {C : List Int} (h : ∀ c ∈ C, 1 ≤ c ∧ c ≤ 5) (hl : C.length ≤ 100000) : costW C = C.sum := by
  have key : ∀ (C : List Int) (a : Int), (∀ c ∈ C, 1 ≤ c ∧ c ≤ 5) → 0 ≤ a → a + 5 * C.length ≤ 1000000 → C.foldl (fun n c => IntKind.i64.wrap (n + c)) a = a + C.sum := by
    intro C
    induction C with
    | nil => intro a _ _ _; simp
    | cons c C ih =>
      intro a h h0 hb
      have h1 := h c (by simp)
      rw [List.length_cons] at hb
      rw [List.foldl_cons, IntWalk.i64_in _ (by omega), ih (a + c) (fun x hx => h x (by simp [hx])) (by omega) (by omega), List.sum_cons]
      omega
  have := key C 0 h (by omega) (by omega)
  simpa [costW] using this
/-- What the law of the counted steps asks. -/
theorem counted {C : List Int} (h : ∀ c ∈ C, 1 ≤ c ∧ c ≤ 5) (hl : C.length ≤ 100000) (hne : C ≠ []) (n : Int) :
    cntE C n ≤ cntE C (n + 1) ∧ cntE C (costW C) = C.length ∧ cntE C (costW C - 1) < C.length ∧ (n < costW C ∨ cntE C n = C.length) := by
  have hs := cost_sum h hl
  have hb := sum_bounds C h
  have hpos : 0 < C.length := by cases C; exact (hne rfl).elim; simp
  rw [hs]
  refine ⟨?_, ?_, ?_, ?_⟩
  · unfold cntE
    split
    · omega
    · rw [if_neg (by omega)]; exact cntC_mono (by omega) C 0
  · unfold cntE
    rw [if_neg (by omega)]
    exact cntC_all C 0 (fun c hc => by have := h c hc; omega) (by omega)
  · unfold cntE
    split
    · exact hpos
    · exact cntC_less C 0 hne (by omega)
  · by_cases hn : n < C.sum
    · exact .inl hn
    · right
      unfold cntE
      rw [if_neg (by omega)]
      exact cntC_all C 0 (fun c hc => by have := h c hc; omega) (by omega)
end Go.Proofs.YtmgeecdgebemdaaGreatDoor.trc

/- Rows of numbers: what it is for a slice to read as a list, and the contracts of the laws' own helpers over such rows (a copy, a comparison, marks, a look at the marks). -/
namespace Go.Proofs.YtmgeecdgebemdaaGreatDoor.row
open Go.ChangeShapes Go.WideShapes Go.ChangeAt Go.RowKit
theorem ret_i {k : IntKind} {a b : Int} (h : a = b) : Ending.returned (.int k a) = .returned (.int k b) := by rw [h]
theorem grown_refl (w : World) (r : Option Nat) : w.grownBy w r := ⟨rfl, rfl, rfl, Nat.le_refl _, fun _ _ _ => rfl⟩
theorem grown_below {w w' : World} (h : Below w.heap.size w w') (r : Option Nat) : w.grownBy w' r := ⟨h.os, h.tape, h.output, h.size, fun k hk _ => h.block k hk⟩
theorem below_grown {w w' : World} (h : w.grownBy w' none) : Below w.heap.size w w' := ⟨h.os, h.tape, h.output, h.size, fun k hk => h.block k hk (by simp)⟩
theorem grown_trans {w w1 w2 : World} {r : Option Nat} (h : w.grownBy w1 r) (h2 : w1.grownBy w2 r) : w.grownBy w2 r :=
  ⟨h2.os.trans h.os, h2.tape.trans h.tape, h2.output.trans h.output, Nat.le_trans h.size h2.size,
    fun k hk hne => (h2.block k (Nat.lt_of_lt_of_le hk h.size) hne).trans (h.block k hk hne)⟩

theorem below_drewN {B : Nat} {w w' : World} (h : Below B w w') (m : Nat) : Below B w (w'.drewN m) := ⟨h.os, h.tape, h.output, h.size, h.block⟩
theorem new_cell (w : World) (cs : Array Value) (t : TypeId) (i : Nat) : (w.alloc (.cells cs t)).cell? ⟨w.heap.size, i, none⟩ = cs[i]? := cell_of_row _ _ i _ _ _ (heap_alloc_new w _)

theorem below_new (w : World) (o : Obj) : Below w.heap.size w (w.alloc o) := (Below.refl _ _).alloc (Nat.le_refl _) _
theorem below_then {w w1 w2 : World} (h : Below w.heap.size w w1) (h2 : Below w1.heap.size w1 w2) : Below w.heap.size w w2 := h.trans (h2.mono h.size)
/-- Block 'g' is these cells and nothing else. -/
def Box (g : Nat) (cs : Array Value) (t : TypeId) (w : World) : Prop := w.heap[g]? = some (.cells cs t (0, 0))
theorem Box.new (w : World) (cs : Array Value) (t : TypeId) : Box w.heap.size cs t (w.alloc (.cells cs t)) := heap_alloc_new w _
theorem Box.lt {g : Nat} {cs : Array Value} {t : TypeId} {w : World} (h : Box g cs t w) : g < w.heap.size := (Array.getElem?_eq_some_iff.1 h).1
theorem Box.below {g : Nat} {cs : Array Value} {t : TypeId} {w w' : World} (h : Box g cs t w) (hb : Below w.heap.size w w') : Box g cs t w' := (hb.block g h.lt).trans h
theorem Box.grown {g : Nat} {cs : Array Value} {t : TypeId} {w w' : World} {r : Option Nat} (h : Box g cs t w) (hg : w.grownBy w' r) (hne : some g ≠ r) : Box g cs t w' := (hg.block g h.lt hne).trans h
theorem Box.alloc {g : Nat} {cs : Array Value} {t : TypeId} {w : World} (h : Box g cs t w) (o : Obj) : Box g cs t (w.alloc o) := h.below (below_new w o)
theorem Box.drewN {g : Nat} {cs : Array Value} {t : TypeId} {w : World} (h : Box g cs t w) (m : Nat) : Box g cs t (w.drewN m) := h
theorem Box.cell {g : Nat} {cs : Array Value} {t : TypeId} {w : World} (h : Box g cs t w) (i : Nat) : w.cell? ⟨g, i, none⟩ = cs[i]? := cell_of_row _ _ i _ _ _ h

theorem Box.frozen {g : Nat} {cs : Array Value} {t : TypeId} {w : World} (h : Box g cs t w) (i : Nat) : w.frozen? ⟨g, i, none⟩ = false := frozen_of_row _ _ _ _ _ h
theorem Box.set {g : Nat} {cs : Array Value} {t : TypeId} {w : World} (h : Box g cs t w) (i : Nat) (v : Value) : Box g (cs.setIfInBounds i v) t (w.setCell ⟨g, i, none⟩ v) := by
  unfold Box at *; simp [World.setCell, Array.getElem?_modify, h]
theorem Box.set_other {g : Nat} {cs : Array Value} {t : TypeId} {w : World} (h : Box g cs t w) {p : Addr} (hp : g ≠ p.block) (v : Value) : Box g cs t (w.setCell p v) := (heap_setCell_other w p g v hp).trans h
theorem grown_setCell (w : World) (b i : Nat) (v : Value) : w.grownBy (w.setCell ⟨b, i, none⟩ v) (some b) :=
  ⟨rfl, rfl, rfl, by simp, fun k hk hne => heap_setCell_other w _ k v (by intro e; exact hne (by rw [e]))⟩

/-- The cells of a list of numbers. -/
def ivs (L : List Int) : List Value := L.map (Value.int .i64)
theorem ivs_length (L : List Int) : (ivs L).length = L.length := by simp [ivs]
theorem ivs_set (L : List Int) (k : Nat) (x : Int) : (ivs L).set k (.int .i64 x) = ivs (L.set k x) := by simp [ivs, List.map_set]
theorem ivs_snoc (L : List Int) (x : Int) : ivs L ++ [Value.int .i64 x] = ivs (L ++ [x]) := by simp [ivs]

/-- The slice at 'a' of 'n' elements reads as the list 'L'. -/
def Row (w : World) (a : Option Addr) (n : Nat) (L : List Int) : Prop :=
  L.length = n ∧ ∀ k, k < n → ∃ (b off : Nat) (x : Int), a = some ⟨b, off, none⟩ ∧ b < w.heap.size ∧ L[k]? = some x ∧ w.cell? ⟨b, off + k, none⟩ = some (.int .i64 x)

theorem Row.len {w : World} {a : Option Addr} {n : Nat} {L : List Int} (h : Row w a n L) : L.length = n := h.1
theorem Row.below {w w' : World} {a : Option Addr} {n : Nat} {L : List Int} (h : Row w a n L) (hb : Below w.heap.size w w') : Row w' a n L :=
  ⟨h.1, fun k hk => by
    obtain ⟨b, off, x, e, hlt, hx, hc⟩ := h.2 k hk
    exact ⟨b, off, x, e, Nat.lt_of_lt_of_le hlt hb.size, hx, (hb.cell (p := ⟨b, off + k, none⟩) hlt).trans hc⟩⟩
theorem Row.drewN {w : World} {a : Option Addr} {n : Nat} {L : List Int} (h : Row w a n L) (m : Nat) : Row (w.drewN m) a n L := h
theorem Row.grown {w w' : World} {r : Option Nat} {a : Option Addr} {n : Nat} {L : List Int} (h : Row w a n L) (hg : w.grownBy w' r) (hne : ∀ b off, a = some ⟨b, off, none⟩ → some b ≠ r) : Row w' a n L :=
  ⟨h.1, fun k hk => by
    obtain ⟨b, off, x, e, hlt, hx, hc⟩ := h.2 k hk
    exact ⟨b, off, x, e, Nat.lt_of_lt_of_le hlt hg.size, hx, hg.cell hc (hne b off e)⟩⟩
theorem Row.of_own {ty : TypeId} {w : World} {base : Nat} {a : Option Addr} {n cap : Nat} {L : List Int} (h : w.ownsRow base ty 1 (.slice a n cap) n (ivs L)) : Row w a n L := by
  have hl : L.length = n := by have := h.1; simp [ivs] at this; omega
  refine ⟨hl, fun k hk => ?_⟩
  obtain ⟨g, c, hv, hb, hg⟩ := h.form (by omega)
  injection hv with h1 h2 h3
  subst h1
  refine ⟨g, 0, L[k], rfl, hg, by simp [show k < L.length by omega], ?_⟩
  rw [Nat.zero_add, h.cellAt k (by omega)]; simp [ivs, show k < L.length by omega]
theorem own_len {ty : TypeId} {w : World} {base : Nat} {v : Value} {n : Nat} {L : List Int} (h : w.ownsRow base ty 1 v n (ivs L)) : L.length = n := by
  have := h.1; simp [ivs] at this; omega
theorem own_block {ty : TypeId} {w : World} {base : Nat} {v : Value} {n : Nat} {L : List Int} (h : w.ownsRow base ty 1 v n (ivs L)) : ∀ g, v.ownBlock = some g → base ≤ g ∧ g < w.heap.size := fun g hg => h.lt g hg

theorem own_store {ty : TypeId} {w : World} {base : Nat} {a : Option Addr} {n cap : Nat} {L : List Int} (h : w.ownsRow base ty 1 (.slice a n cap) n (ivs L)) {k : Nat} (hk : k < n) :
    ∃ (g : Nat) (X : Int), a = some ⟨g, 0, none⟩ ∧ base ≤ g ∧ g < w.heap.size ∧ w.cell? ⟨g, k, none⟩ = some (.int .i64 X) ∧ w.frozen? ⟨g, k, none⟩ = false := by
  obtain ⟨g, c, hv, hb, hg⟩ := h.form (by omega)
  injection hv with h1 h2 h3
  subst h1
  have hl := own_len h
  refine ⟨g, L[k]'(by omega), rfl, hb, hg, ?_, h.frozenAt k⟩
  rw [h.cellAt k (by omega)]; simp [ivs, show k < L.length by omega]

theorem infoInt : (Tryz.prog.info? 3).map (fun i => (i.zero, i.size, i.bytes)) = some (some (.int .i64 0), 1, 8) := by kernel_rfl

theorem made_zeros (n : Nat) : (madeCells (Value.int .i64 0).cells (n * 1)).toList = ivs (List.replicate n 0) := by
  rw [Nat.mul_one]
  exact (toList_madeCells_one (Value.int .i64 0) n).trans (by simp [ivs])

end Go.Proofs.YtmgeecdgebemdaaGreatDoor.row
