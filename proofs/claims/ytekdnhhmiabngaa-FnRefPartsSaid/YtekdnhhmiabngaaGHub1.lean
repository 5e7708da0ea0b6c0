/- Several texts in one: RngA Val. -/
import Derived.Test.YtekdnhhmiabngaaGHub0
import Derived.RangeFuncNested
import Derived.RangeFuncBound
import Derived.RangeFuncLeaves
import Derived.RangeFuncRecord
import Derived.Test.YtekdnhhmiabngaaRows
import Derived.WalkKit
import Derived.ProofKit
import Derived.OpenShut
import Derived.Lib.Hide
import Derived.Below

/- A range over a function of the program's own whose rounds are handed memory that the iterator has just made: a walk outside a round serves within one; one law for the loop, over what holds at each call of yield and what a round keeps. -/
namespace Go.Proofs.Ytekdnhhmiabngaa.rng
open Go Go.RowKit Go.Proofs.Ytekdnhhmiabngaa.row
variable {P : Program}

/-- The fence that lets everything in, and a round within it. -/
def Wide (F : Fence) : Prop := F = Fence.wide ∨ ∃ l, F = Fence.wide.inRound l
theorem wide_wide : Wide Fence.wide := .inl rfl
theorem wide_round (l : Nat) : Wide (Fence.wide.inRound l) := .inr ⟨l, rfl⟩
theorem calls_in {F : Fence} (hF : Wide F) {n : Nat} {f : FuncId} {args : Array Value} {w : World} {R : Ending → World → Prop} (h : Calls P f args w R) : CallsIn F n P f args w R := by
  rcases hF with rfl | ⟨l, rfl⟩
  · exact callsIn_wide.2 h
  · exact CallsIn.inRound l (callsIn_wide.2 h)
/-- An operation's law outside a round serves within one. -/
theorem oper_in {F : Fence} (hF : Wide F) {n : Nat} {o : Oper} {a : Act} {w : World} {K : Act → World → Prop} {Q : Exit → Act → World → Prop} (hd : ∀ c, o.op ≠ .defer c) (v : Value) (w' : World)
    (hr : (execOp a.eval o).run P w = .ok (.value v) w' ∨ ((execOp a.eval o).run P w = .ok .skip w' ∧ v = undef)) (h : K (a.put o.dst v) w') : o.wpIn F n P a w K Q := by
  refine ⟨fun _ _ => by rcases hF with rfl | ⟨l, rfl⟩ <;> trivial, ?_⟩
  rw [Oper.semAt_eq _ _ _ hd]
  rcases hr with hr | ⟨hr, rfl⟩
  · rw [hr]; exact h
  · rw [hr]; exact h
/-- What a round that goes on leaves behind. -/
def goesOn (T : World → Prop) : Exit → Act → World → Prop
  | .normal, _, W => T W
  | _, _, _ => False

/-- A range over an iterator. 'Px': what holds when a round is called; 'Kp': what a round keeps. -/
theorem wp_range {α : Type} {g : Operand} {ps : Array Tmp} {assign body : Code} {Q : Exit → Act → World → Prop} {a : Act} {w : World} {gf : Nat} {lb : Array Value}
    (hg : a.eval g = .func (.func gf) #[] lb) (eg : ∀ args w, (callFunc gf args).run P w = .ok (.enter gf args) w)
    (encs : α → Array Value) (hps : ∀ x, (encs x).size = ps.size) (Px : List α → α → World → Prop) (Kp : World → World → Prop) (S : List α → Prop)
    (hseq : ∀ (l : Nat) (J : List α → World → Prop) (W : World), Below w.heap.size w W → (∀ pre A B, J pre A → Below A.heap.size A B → J pre B) →
      (∀ pre x W1, J pre W1 → Px pre x W1 → YieldAt Fence.wide 0 P l (encs x) W1 fun e W' => e = .returned (.bool true) ∧ J (pre ++ [x]) W' ∧ Kp W1 W') → J [] W →
      Calls P gf (#[.func (.yield l) #[] #[]] ++ lb) W fun e W' => (∃ v, e = .returned v) ∧ ∃ xs, S xs ∧ J xs W')
    (hKt : ∀ {A B C : World}, Kp A B → Kp B C → Kp A C)
    (hKb : ∀ (W : World) (l : Nat) (o o' : Obj), w.heap.size ≤ l → W.heap[l]? = some o → o.isCells = false → Kp W (W.putObj l o'))
    (I : List α → World → Prop) (hI : OwnFrom w.heap.size I) (h0 : I [] w)
    (hround : ∀ (l : Nat) (pre : List α) (x : α) (W : World), I pre W → Px pre x W →
      assign.wpIn (Fence.wide.inRound l) 0 P (Exit.then (fun a₁ W₁ => KeepsFrom w.heap.size W W₁ ∧ Kp W W₁ ∧
        ∀ W₂ o, w.heap.size ≤ l → W₁.heap[l]? = some o → o.isCells = false → W₁.grownBy W₂ (some l) →
          body.wpIn (Fence.wide.inRound l) 0 P (goesOn fun W' => KeepsFrom w.heap.size W₂ W' ∧ Kp W₂ W' ∧ I (pre ++ [x]) W') a₁ W₂) (fun _ _ _ => False))
        { tmps := (ps.zip (encs x)).foldl (fun t (p, v) => t.setIfInBounds p v) a.tmps, defers := [] } W)
    (hdone : ∀ (D : Nat) (xs : List α) (W : World), w.heap.size ≤ D → S xs → I xs W → W.heap[D]? = some (.deferred (some [])) → Q .normal { a with defers := { target := .collected D, args := #[] } :: a.defers } W) :
    (Code.rangeFunc g ps assign body).wp P Q a w := by
  refine (wpIn_wide (n := 0)).1 (wpIn_rangeFunc fun fn _ => ?_)
  rw [Fence.wide_round]
  obtain ⟨rc, hrc⟩ : ∃ rc : LoopState → Loop, rc = fun st => { state := st, pending := none, fn, tmps := a.tmps, params := ps, assign, body, defers := w.heap.size } := ⟨_, rfl⟩
  obtain ⟨B, hB⟩ : ∃ B, (w.alloc (.deferred (some []))).alloc (.loop (rc .ready)) = B := ⟨_, rfl⟩
  have hBD : Below w.heap.size w (w.alloc (.deferred (some []))) := below_new w _
  have hBB : Below (w.heap.size + 1) (w.alloc (.deferred (some []))) B := by
    have := below_new (w.alloc (.deferred (some []))) (.loop (rc .ready))
    rw [World.size_alloc, hB] at this
    exact this
  have hlB : B.heap[w.heap.size + 1]? = some (.loop (rc .ready)) := by
    have := World.alloc_heap_new (w.alloc (.deferred (some []))) (.loop (rc .ready))
    rw [World.size_alloc, hB] at this
    exact this
  have hdB : B.heap[w.heap.size]? = some (.deferred (some [])) := (hBB.block _ (by omega)).trans (World.alloc_heap_new w _)
  have hbB : Below w.heap.size w B := hBD.trans (hBB.mono (by omega))
  have hiB : I [] B := hI _ _ _ none h0 (grown_below hbB none) (fun r e => by cases e)
  have hltB : w.heap.size + 1 < B.heap.size := (Array.getElem?_eq_some_iff.1 hlB).1
  refine ⟨w.heap.size + 1, [{ target := .collected w.heap.size, args := #[] }], B, { target := .fn (.func gf) lb, args := #[.func (.yield (w.heap.size + 1)) #[] #[]] }, B, gf, #[.func (.yield (w.heap.size + 1)) #[] #[]] ++ lb, B, ?_, ?_, fun _ _ => trivial, ?_, fun h => (by cases h), ?_⟩
  · rw [← hB, hrc]; exact run_enterLoop_outer _ _ _ _ _
  · simp only [resolve, hg]; simp [go_sem]
  · simp [invoke, go_sem, eg]
  refine callsIn_wide.2 ((hseq (w.heap.size + 1) (fun pre W => I pre W ∧ W.heap[w.heap.size + 1]? = some (.loop (rc .ready)) ∧ W.heap[w.heap.size]? = some (.deferred (some []))) B hbB ?_ ?_ ⟨hiB, hlB, hdB⟩).mono ?_)
  · rintro pre X Y ⟨hi, hl, hd⟩ hb
    exact ⟨hI _ _ _ none hi (grown_below hb none) (fun r e => by cases e), (hb.block _ (Array.getElem?_eq_some_iff.1 hl).1).trans hl, (hb.block _ (Array.getElem?_eq_some_iff.1 hd).1).trans hd⟩
  · rintro pre x W ⟨hi, hl, hd⟩ hp
    have hy := run_yield (P := P) (args := encs x) hl (by rw [hrc]; exact hps x)
    rw [hrc] at hy
    refine ⟨fn, _, assign, body, hy, roundIn_of_wpIn trivial (wpIn_mono (hround (w.heap.size + 1) pre x W hi hp) ?_)⟩
    intro e a₁ W₁ h1
    cases e with
    | normal =>
      obtain ⟨hk1, hp1, hrest⟩ := h1
      have hl1 := hk1.same _ _ (by omega) hl rfl
      have hd1 := hk1.same _ _ (Nat.le_refl _) hd rfl
      have hlt1 : w.heap.size + 1 < W₁.heap.size := (Array.getElem?_eq_some_iff.1 hl1).1
      refine ⟨_, run_beginRound hl1 (by rw [hrc]), wpIn_mono (hrest _ _ (by omega) hl1 rfl (grownBy_putObj' _ _ _)) ?_⟩
      have hl2 := World.putObj_heap_same (o := .loop { rc .ready with state := .busy }) hlt1
      have hd2 : (W₁.putObj (w.heap.size + 1) (.loop { rc .ready with state := .busy })).heap[w.heap.size]? = some (.deferred (some [])) := (World.putObj_heap_other (by omega)).trans hd1
      intro e2 a₂ W₃ h2
      cases e2 with
      | normal =>
        obtain ⟨hk3, hp3, hi3⟩ := h2
        have hl3 := hk3.same _ _ (by omega) hl2 rfl
        have hd3 := hk3.same _ _ (Nat.le_refl _) hd2 rfl
        have he := run_endRound (P := P) none hl3
        refine ⟨_, _, he, rfl, ⟨?_, ?_, ?_⟩, ?_⟩
        · exact hI _ _ _ _ hi3 (grownBy_putObj' _ _ _) (fun r e => by cases e; exact ⟨by omega, _, hl3, rfl⟩)
        · rw [World.putObj_heap_same (Array.getElem?_eq_some_iff.1 hl3).1, hrc]; rfl
        · exact (World.putObj_heap_other (by omega)).trans hd3
        · exact hKt hp1 (hKt (hKb _ _ _ _ (by omega) hl1 rfl) (hKt hp3 (hKb _ _ _ _ (by omega) hl3 rfl)))
      | ret => exact h2.elim
      | exit id => exact h2.elim
      | goto t => exact h2.elim
      | panic c => exact h2.elim
      | outgrown => exact h2.elim
    | ret => exact h1.elim
    | exit id => exact h1.elim
    | goto t => exact h1.elim
    | panic c => exact h1.elim
    | outgrown => exact h1.elim
  · rintro e W ⟨⟨v, rfl⟩, xs, hS, hi, hl, hd⟩
    have he := run_endLoop (P := P) hl (by rw [hrc]; simp)
    refine ⟨none, _, by rw [he, hrc], ?_⟩
    exact hdone _ xs _ (Nat.le_refl _) hS (hI _ _ _ _ hi (grownBy_putObj' _ _ _) (fun r e => by cases e; exact ⟨by omega, _, hl, rfl⟩)) ((World.putObj_heap_other (by omega)).trans hd)
/-- A function's contract out of its body's walk, where the body holds a range over a function. -/
theorem calls_of_wp_range {f : FuncId} {fn : Func} {c : Code} {args : Array Value} {w : World} {R : Ending → World → Prop} (hf : P.funcs[f]? = some fn) (hb : fn.body = some c)
    (h : c.wp P (bodyPostM Fence.wide 0 P fn R) { tmps := args ++ Array.replicate (fn.ntmps - args.size) undef, defers := [] } w) : Calls P f args w R :=
  callsIn_wide.1 (callsIn_of_wp_marks (n := 0) hf hb trivial (wpIn_wide.2 h) rfl)
end Go.Proofs.Ytekdnhhmiabngaa.rng

/- Chapter 2's functions, of the program and of the model: each returns the clamped number, sum, difference or product, and writes nothing; no condition. -/
namespace Go.Proofs.Ytekdnhhmiabngaa.val
open Go.ChangeShapes Go.WideShapes Go.ChangeAt Go.RowKit

theorem ret_int {k : IntKind} {a b : Int} (h : a = b) : Ending.returned (.int k a) = .returned (.int k b) := by rw [h]
def clampV (n low high : Int) : Int := if high < low then low else if n < low then low else if high < n then high else n
def sat (n : Int) : Int := clampV n (-1000000) 1000000
theorem sat_low {n : Int} (h : n < -1000000) : sat n = -1000000 := by unfold sat clampV; rw [if_neg (by omega), if_pos h]
theorem sat_high {n : Int} (h : 1000000 < n) : sat n = 1000000 := by unfold sat clampV; rw [if_neg (by omega), if_neg (by omega), if_pos h]
theorem sat_in {n : Int} (h : -1000000 ≤ n) (h2 : n ≤ 1000000) : sat n = n := by unfold sat clampV; rw [if_neg (by omega), if_neg (by omega), if_neg (by omega)]
theorem sat_bd (n : Int) : -1000000 ≤ sat n ∧ sat n ≤ 1000000 := by
  rcases (show n < -1000000 ∨ 1000000 < n ∨ (-1000000 ≤ n ∧ n ≤ 1000000) by omega) with h | h | ⟨h, h2⟩
  · rw [sat_low h]; omega
  · rw [sat_high h]; omega
  · rw [sat_in h h2]; omega
theorem sat_sat (n : Int) : sat (sat n) = sat n := sat_in (sat_bd n).1 (sat_bd n).2
theorem sat_neg (n : Int) : sat (-n) = -sat n := by
  rcases (show n < -1000000 ∨ 1000000 < n ∨ (-1000000 ≤ n ∧ n ≤ 1000000) by omega) with h | h | ⟨h, h2⟩
  · rw [sat_low h, sat_high (by omega)]; omega
  · rw [sat_high h, sat_low (by omega)]
  · rw [sat_in h h2, sat_in (by omega) (by omega)]
theorem prod_bd {x y : Int} (hx : -1000000 ≤ x ∧ x ≤ 1000000) (hy : -1000000 ≤ y ∧ y ≤ 1000000) : -1000000000000 ≤ x * y ∧ x * y ≤ 1000000000000 := by
  obtain ⟨a, ha⟩ := Int.le.dest hx.1; obtain ⟨b, hb⟩ := Int.le.dest hx.2
  obtain ⟨c, hc⟩ := Int.le.dest hy.1; obtain ⟨d, hd⟩ := Int.le.dest hy.2
  have h1 : 0 ≤ (x + 1000000) * (y + 1000000) := Int.mul_nonneg (by omega) (by omega)
  have h2 : 0 ≤ (1000000 - x) * (1000000 - y) := Int.mul_nonneg (by omega) (by omega)
  have h3 : 0 ≤ (x + 1000000) * (1000000 - y) := Int.mul_nonneg (by omega) (by omega)
  have h4 : 0 ≤ (1000000 - x) * (y + 1000000) := Int.mul_nonneg (by omega) (by omega)
  have e1 : (x + 1000000) * (y + 1000000) = x * y + 1000000 * x + 1000000 * y + 1000000000000 := by
    rw [Int.add_mul, Int.mul_add, Int.mul_add, Int.mul_comm x 1000000]; omega
  have e2 : (1000000 - x) * (1000000 - y) = 1000000000000 - 1000000 * y - 1000000 * x + x * y := by
    rw [Int.sub_mul, Int.mul_sub, Int.mul_sub, Int.mul_comm x 1000000]; omega
  have e3 : (x + 1000000) * (1000000 - y) = 1000000 * x - x * y + 1000000000000 - 1000000 * y := by
    rw [Int.add_mul, Int.mul_sub, Int.mul_sub, Int.mul_comm x 1000000]; omega
  have e4 : (1000000 - x) * (y + 1000000) = 1000000 * y + 1000000000000 - x * y - 1000000 * x := by
    rw [Int.sub_mul, Int.mul_add, Int.mul_add, Int.mul_comm x 1000000]; omega
  omega

/-- The call returns this int and leaves the memory as it was. -/
def Ret (w : World) (x : Int) (e : Ending) (w' : World) : Prop := e = .returned (.int .i64 x) ∧ w = w'
/-- The call returns this bool and leaves the memory as it was. -/
def RetB (w : World) (x : Bool) (e : Ending) (w' : World) : Prop := e = .returned (.bool x) ∧ w = w'

def isVal (n : Int) : Bool := decide (-1000000 ≤ n) && decide (n ≤ 1000000)
theorem isVal_in {n : Int} (h : -1000000 ≤ n) (h2 : n ≤ 1000000) : isVal n = true := by simp [isVal, h, h2]
theorem isVal_out {n : Int} (h : n < -1000000 ∨ 1000000 < n) : isVal n = false := by
  rcases h with h | h
  · simp [isVal, show ¬ -1000000 ≤ n by omega]
  · simp [isVal, show ¬ n ≤ 1000000 by omega]
theorem isVal_iff (n : Int) : isVal n = true ↔ -1000000 ≤ n ∧ n ≤ 1000000 := by simp [isVal]

section program
theorem impl_clamp (a0 a1 a2 : Int) (w : World) : Calls Try.prog 93 #[.int .i64 a0, .int .i64 a1, .int .i64 a2] w (Ret w (clampV a0 a1 a2)) := by
  by_cases h1 : a2 < a1 <;> by_cases h2 : a0 < a1 <;> by_cases h3 : a2 < a0
  all_goals
    have hv : clampV a0 a1 a2 = if a2 < a1 then a1 else if a0 < a1 then a1 else if a2 < a0 then a2 else a0 := rfl
    simp only [h1, h2, h3, if_true, if_false] at hv
    have HV := Lib.hid hv
    clear hv
    go_enter Try.func93, Try.ntmps93
    go_wp2
    go_ret
    exact ⟨ret_int HV.out.symm, rfl⟩
theorem impl_sat (n : Int) (w : World) : Calls Try.prog 89 #[.int .i64 n] w (Ret w (sat n)) := by
  go_enter Try.func89, Try.ntmps89
  go_wp2_with (go_at_call 93; refine (impl_clamp n _ _ _).mono ?_; rintro e w1 ⟨rfl, rfl⟩)
  go_ret
  exact ⟨rfl, rfl⟩
theorem impl_add (a b : Int) (w : World) : Calls Try.prog 70 #[.int .i64 a, .int .i64 b] w (Ret w (sat (sat a + sat b))) := by
  have ha := sat_bd a
  have hb := sat_bd b
  go_enter Try.func70, Try.ntmps70
  go_wp2_with (go_at_call 89; refine (impl_sat _ _).mono ?_; rintro e w1 ⟨rfl, rfl⟩)
  go_ret
  exact ⟨rfl, rfl⟩
theorem impl_sub (a b : Int) (w : World) : Calls Try.prog 81 #[.int .i64 a, .int .i64 b] w (Ret w (sat (sat a - sat b))) := by
  have ha := sat_bd a
  have hb := sat_bd b
  go_enter Try.func81, Try.ntmps81
  go_wp2_with (go_at_call 89; refine (impl_sat _ _).mono ?_; rintro e w1 ⟨rfl, rfl⟩)
  go_ret
  exact ⟨rfl, rfl⟩
theorem impl_mul (a b : Int) (w : World) : Calls Try.prog 82 #[.int .i64 a, .int .i64 b] w (Ret w (sat (sat a * sat b))) := by
  have hp := prod_bd (sat_bd a) (sat_bd b)
  go_enter Try.func82, Try.ntmps82
  go_wp2_with (go_at_call 89; refine (impl_sat _ _).mono ?_; rintro e w1 ⟨rfl, rfl⟩)
  go_ret
  exact ⟨rfl, rfl⟩
theorem impl_isval (n : Int) (w : World) : Calls Try.prog 50 #[.int .i64 n] w (RetB w (isVal n)) := by
  rcases (show n < -1000000 ∨ 1000000 < n ∨ (-1000000 ≤ n ∧ n ≤ 1000000) by omega) with h | h | ⟨h, h2⟩
  · rw [isVal_out (Or.inl h)]
    go_enter Try.func50, Try.ntmps50
    go_wp2
    go_ret
    exact ⟨rfl, rfl⟩
  · rw [isVal_out (Or.inr h)]
    have h' : decide (n ≤ 1000000) = false := by simp; omega
    go_enter Try.func50, Try.ntmps50
    go_wp2
    go_ret
    exact ⟨by simp, rfl⟩
  · rw [isVal_in h h2]
    go_enter Try.func50, Try.ntmps50
    go_wp2
    go_ret
    exact ⟨rfl, rfl⟩
end program

section model
end model
end Go.Proofs.Ytekdnhhmiabngaa.val
