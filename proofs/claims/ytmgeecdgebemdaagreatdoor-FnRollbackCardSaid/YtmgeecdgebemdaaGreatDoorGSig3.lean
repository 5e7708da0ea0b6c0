/- Several texts in one: EvalB EvalE ExeA ExeB. -/
import Derived.Test.YtmgeecdgebemdaaGreatDoorGSig1
import Derived.Laws.EntriesVeiled
import Derived.Test.YtmgeecdgebemdaaGreatDoorGSig2

/- Chapter 3's EvalExpr, of the program and of the model: the plain function 'evalV'; nothing that was there is written. -/
namespace Go.Proofs.YtmgeecdgebemdaaGreatDoor.expr
open Go.ChangeShapes Go.WideShapes Go.ChangeAt Go.RowKit Go.Proofs.YtmgeecdgebemdaaGreatDoor.row Go.Proofs.YtmgeecdgebemdaaGreatDoor.val

def bit (b : Bool) : Int := if b then 1 else 0
def evalOf (o A B : Int) : Int :=
  if o = 1 then sat (sat A + sat B) else if o = 2 then sat (sat A - sat B) else if o = 3 then sat (sat A * sat B)
  else if o = 4 then min A B else if o = 5 then max A B else if o = 6 then bit (decide (A < B)) else bit (decide (A = B))
def evalV (L : List Int) (o a b : Int) : Int := if varsOk L && exprOk o a b then evalOf o (valOf L a) (valOf L b) else 0
theorem evalV_no {L : List Int} {o a b : Int} (h : varsOk L = false ∨ exprOk o a b = false) : evalV L o a b = 0 := by
  rcases h with h | h <;> simp [evalV, h]
theorem evalV_ok {L : List Int} {o a b : Int} (h : varsOk L = true) (h2 : exprOk o a b = true) : evalV L o a b = evalOf o (valOf L a) (valOf L b) := by simp [evalV, h, h2]
theorem exprOk_iff (o a b : Int) : exprOk o a b = true ↔ (1 ≤ o ∧ o ≤ 7) ∧ opndOk a = true ∧ opndOk b = true := by simp [exprOk, opOk]

theorem ev1 (A B : Int) : evalOf 1 A B = sat (sat A + sat B) := by simp [evalOf]
theorem ev2 (A B : Int) : evalOf 2 A B = sat (sat A - sat B) := by simp [evalOf]
theorem ev3 (A B : Int) : evalOf 3 A B = sat (sat A * sat B) := by simp [evalOf]
theorem ev4 (A B : Int) : evalOf 4 A B = min A B := by simp [evalOf]
theorem ev5 (A B : Int) : evalOf 5 A B = max A B := by simp [evalOf]
theorem ev6 (A B : Int) : evalOf 6 A B = bit (decide (A < B)) := by simp [evalOf]
theorem ev7 (A B : Int) : evalOf 7 A B = bit (decide (A = B)) := by simp [evalOf]
section model
set_option maxRecDepth 100000 in
theorem spec_bit (b : Bool) (w : World) : Calls Tryz.prog 179 #[.bool b] w (Ret w (bit b)) := by
  cases b
  · go_enter Tryz.func179, Tryz.ntmps179
    go_wp2
    go_ret
    exact ⟨rfl, rfl⟩
  · go_enter Tryz.func179, Tryz.ntmps179
    go_wp2
    go_ret
    exact ⟨rfl, rfl⟩
set_option maxHeartbeats 1000000 in
set_option maxRecDepth 100000 in
theorem spec_eval (w : World) (ad : Option Addr) (n cap : Nat) (L : List Int) (h : Row w ad n L) (hv : varsOk L = true) (o a b : Int) (ho : 1 ≤ o ∧ o ≤ 7) (ha : opndOk a = true) (hb : opndOk b = true) :
    Calls Tryz.prog 176 #[.slice ad n cap, ev o a b] w (BelI w (evalOf o (valOf L a) (valOf L b))) := by
  have HR : Hid (∀ w' : World, Below w.heap.size w w' → Row w' ad n L) := fun w' hb => h.below hb
  have HV := Lib.hid hv
  clear h hv
  rcases (show o = 1 ∨ o = 2 ∨ o = 3 ∨ o = 4 ∨ o = 5 ∨ o = 6 ∨ o = 7 by omega) with rfl | rfl | rfl | rfl | rfl | rfl | rfl
  all_goals
    clear ho
    go_enter Tryz.func176, Tryz.ntmps176
    go_wp2_with (first
      | (go_at_call 211; refine (spec_value _ ad n cap L (HR.out _ ((Below.refl _ _).alloc (Nat.le_refl _) _)) HV.out _ (by assumption)).mono ?_; rintro e w1 ⟨rfl, rfl⟩)
      | (go_at_call 212; refine (spec_add _ _ _).mono ?_; rintro e w1 ⟨rfl, rfl⟩)
      | (go_at_call 213; refine (spec_sub _ _ _).mono ?_; rintro e w1 ⟨rfl, rfl⟩)
      | (go_at_call 214; refine (spec_mul _ _ _).mono ?_; rintro e w1 ⟨rfl, rfl⟩)
      | (go_at_call 179; refine (spec_bit _ _).mono ?_; rintro e w1 ⟨rfl, rfl⟩))
    all_goals
      go_ret
      refine ⟨ret_i ?_, (Below.refl _ _).alloc (Nat.le_refl _) _⟩
      first | exact (ev1 _ _).symm | exact (ev2 _ _).symm | exact (ev3 _ _).symm | exact (ev4 _ _).symm | exact (ev5 _ _).symm | exact (ev6 _ _).symm | exact (ev7 _ _).symm | (rw [ev4]; omega) | (rw [ev5]; omega)
end model

section program
set_option maxRecDepth 100000 in
theorem impl_one (b : Bool) (w : World) : Calls Tryz.prog 243 #[.bool b] w (Ret w (bit b)) := by
  cases b
  · go_enter Tryz.func243, Tryz.ntmps243
    go_wp2
    go_ret
    exact ⟨rfl, rfl⟩
  · go_enter Tryz.func243, Tryz.ntmps243
    go_wp2
    go_ret
    exact ⟨rfl, rfl⟩
set_option maxRecDepth 100000 in
theorem impl_min (x y : Int) (w : World) : Calls Tryz.prog 227 #[.int .i64 x, .int .i64 y] w (Ret w (min x y)) := by
  go_enter Tryz.func227, Tryz.ntmps227
  go_wp2
  all_goals
    go_ret
    exact ⟨ret_i (by omega), rfl⟩
set_option maxRecDepth 100000 in
theorem impl_max (x y : Int) (w : World) : Calls Tryz.prog 228 #[.int .i64 x, .int .i64 y] w (Ret w (max x y)) := by
  go_enter Tryz.func228, Tryz.ntmps228
  go_wp2
  all_goals
    go_ret
    exact ⟨ret_i (by omega), rfl⟩
set_option maxRecDepth 100000 in
theorem impl_less (x y : Int) (w : World) : Calls Tryz.prog 229 #[.int .i64 x, .int .i64 y] w (Ret w (bit (decide (x < y)))) := by
  go_enter Tryz.func229, Tryz.ntmps229
  go_wp2_with (go_at_call 243; refine (impl_one _ _).mono ?_; rintro e w1 ⟨rfl, rfl⟩)
  go_ret
  exact ⟨rfl, rfl⟩
set_option maxRecDepth 100000 in
theorem impl_same (x y : Int) (w : World) : Calls Tryz.prog 230 #[.int .i64 x, .int .i64 y] w (Ret w (bit (decide (x = y)))) := by
  go_enter Tryz.func230, Tryz.ntmps230
  go_wp2_with (go_at_call 243; refine (impl_one _ _).mono ?_; rintro e w1 ⟨rfl, rfl⟩)
  go_ret
  exact ⟨rfl, rfl⟩
abbrev opsV : Value := .agg #[.nilFunc, .func (.func 184) #[] #[], .func (.func 225) #[] #[], .func (.func 226) #[] #[],
  .func (.func 227) #[] #[], .func (.func 228) #[] #[], .func (.func 229) #[] #[], .func (.func 230) #[] #[]]
set_option maxRecDepth 100000 in
theorem impl_ops (w : World) : Calls Tryz.prog 195 #[] w fun e w' => e = .returned opsV ∧ Below w.heap.size w w' := by
  go_enter Tryz.func195, Tryz.ntmps195
  go_wp2
  refine bodyPost_ret (v := opsV) (by simp [results, Tryz.results195, go_sem]) rfl ⟨rfl, (Below.refl _ _).alloc (Nat.le_refl _) _⟩
end program
end Go.Proofs.YtmgeecdgebemdaaGreatDoor.expr

/- The value of an expression is a value. Plain mathematics. -/
namespace Go.Proofs.YtmgeecdgebemdaaGreatDoor.expr
open Go.ChangeShapes Go.WideShapes Go.ChangeAt Go.RowKit Go.Proofs.YtmgeecdgebemdaaGreatDoor.row Go.Proofs.YtmgeecdgebemdaaGreatDoor.val

theorem sat_val (n : Int) : isVal (sat n) = true := isVal_in (sat_bd n).1 (sat_bd n).2
theorem bit_val (b : Bool) : isVal (bit b) = true := by cases b <;> rfl
theorem valOf_val {L : List Int} (h : varsOk L = true) {m : Int} (hm : opndOk m = true) : isVal (valOf L m) = true := by
  have hb := (opndOk_iff m).1 hm
  unfold valOf
  split
  · rename_i h0
    obtain ⟨h1, _⟩ := opnd_at h hm h0
    rw [List.getD_eq_getElem?_getD, List.getElem?_eq_getElem h1]
    exact ((varsOk_iff L).1 h).2 _ (List.getElem_mem h1)
  · exact isVal_in (by omega) (by omega)
theorem evalOf_val {o A B : Int} (hA : isVal A = true) (hB : isVal B = true) : isVal (evalOf o A B) = true := by
  have a := (isVal_iff A).1 hA
  have b := (isVal_iff B).1 hB
  unfold evalOf
  split
  · exact sat_val _
  split
  · exact sat_val _
  split
  · exact sat_val _
  split
  · exact isVal_in (by omega) (by omega)
  split
  · exact isVal_in (by omega) (by omega)
  split
  · exact bit_val _
  · exact bit_val _
theorem evalV_val (L : List Int) (o a b : Int) : isVal (evalV L o a b) = true := by
  unfold evalV
  split
  · rename_i h
    rw [Bool.and_eq_true] at h
    obtain ⟨_, ha, hb⟩ := (exprOk_iff o a b).1 h.2
    exact evalOf_val (valOf_val h.1 ha) (valOf_val h.1 hb)
  · rfl
end Go.Proofs.YtmgeecdgebemdaaGreatDoor.expr

/- Blocks as trees, and what executing one does. Plain mathematics. -/
namespace Go.Proofs.YtmgeecdgebemdaaGreatDoor.exe
open Go Go.Proofs.YtmgeecdgebemdaaGreatDoor.stm Go.Proofs.YtmgeecdgebemdaaGreatDoor.blk Go.Proofs.YtmgeecdgebemdaaGreatDoor.expr Go.Proofs.YtmgeecdgebemdaaGreatDoor.sets Go.Proofs.YtmgeecdgebemdaaGreatDoor.val

theorem rd_mem {a b : Int} {k j : Nat} : (j : Int) ∈ rd a b k ↔ j < k ∧ (a = -1 - (j : Int) ∨ b = -1 - (j : Int)) := by
  simp only [rd, List.mem_map, List.mem_filter, List.mem_range, Bool.or_eq_true, decide_eq_true_eq]
  constructor
  · rintro ⟨i, ⟨h1, h2⟩, e⟩
    have : i = j := by omega
    subst this; exact ⟨h1, h2⟩
  · rintro ⟨h1, h2⟩; exact ⟨j, ⟨h1, h2⟩, rfl⟩
theorem vars_set {V : List Int} (h : varsOk V = true) {q : Int} (hq : isVal q = true) (j : Nat) : varsOk (V.set j q) = true := by
  obtain ⟨h1, h2⟩ := (varsOk_iff V).1 h
  refine (varsOk_iff _).2 ⟨by simpa using h1, fun x hx => ?_⟩
  rcases List.mem_or_eq_of_mem_set hx with h | h
  · exact h2 x h
  · rw [h]; exact hq
/-- A stretch of a block, as a tree. -/
inductive Fst
  | nil
  | one (s : Sm) (r : Fst)
  | nest (s : Sm) (b r : Fst)
/-- The state of an execution: the variables, what has been sent, what has been sensed. -/
structure Sx where
  (V S U : List Int)
def step1 (src : Int → Nat → Int) (s : Sm) (x : Sx) : Sx :=
  if s.k = 1 then ⟨x.V.set s.v.toNat (evalV x.V s.o s.a s.b), x.S, x.U⟩
  else if s.k = 2 then ⟨x.V.set s.v.toNat (src s.n x.U.length), x.S, x.U ++ [src s.n x.U.length]⟩
  else if s.k = 3 then ⟨x.V, x.S ++ [evalV x.V s.o s.a s.b], x.U⟩ else x
/-- How often the body is executed. -/
def its (s : Sm) (x : Sx) : Nat := if s.k = 4 then (if evalV x.V s.o s.a s.b = 0 then 0 else 1) else s.n.toNat
def rep (f : Sx → Sx) : Nat → Sx → Sx
  | 0, x => x
  | n + 1, x => rep f n (f x)
def exec (src : Int → Nat → Int) : Fst → Sx → Sx
  | .nil, x => x
  | .one s r, x => exec src r (step1 src s x)
  | .nest s b r, x => exec src r (rep (exec src b) (its s x) x)
theorem rep_zero (f : Sx → Sx) (x : Sx) : rep f 0 x = x := rfl
theorem rep_succ (f : Sx → Sx) (n : Nat) (x : Sx) : rep f (n + 1) x = rep f n (f x) := rfl
theorem rep_last (f : Sx → Sx) : ∀ (n : Nat) (x : Sx), rep f (n + 1) x = f (rep f n x)
  | 0, _ => rfl
  | n + 1, x => by rw [rep_succ, rep_last f n (f x), rep_succ]
theorem rep_ind {f : Sx → Sx} {P : Sx → Prop} (h : ∀ x, P x → P (f x)) : ∀ (n : Nat) (x : Sx), P x → P (rep f n x)
  | 0, _, hx => hx
  | n + 1, x, hx => rep_ind h n (f x) (h x hx)
theorem step_set (src : Int → Nat → Int) {s : Sm} (h : s.k = 1) (x : Sx) : step1 src s x = ⟨x.V.set s.v.toNat (evalV x.V s.o s.a s.b), x.S, x.U⟩ := by unfold step1; rw [if_pos h]
theorem step_sense (src : Int → Nat → Int) {s : Sm} (h : s.k = 2) (x : Sx) : step1 src s x = ⟨x.V.set s.v.toNat (src s.n x.U.length), x.S, x.U ++ [src s.n x.U.length]⟩ := by
  unfold step1; rw [if_neg (by omega), if_pos h]
theorem step_send (src : Int → Nat → Int) {s : Sm} (h : s.k = 3) (x : Sx) : step1 src s x = ⟨x.V, x.S ++ [evalV x.V s.o s.a s.b], x.U⟩ := by
  unfold step1; rw [if_neg (by omega), if_neg (by omega), if_pos h]
theorem step_else (src : Int → Nat → Int) {s : Sm} (h1 : s.k ≠ 1) (h2 : s.k ≠ 2) (h3 : s.k ≠ 3) (x : Sx) : step1 src s x = x := by
  unfold step1; rw [if_neg h1, if_neg h2, if_neg h3]
theorem step_cases (src : Int → Nat → Int) (s : Sm) (x : Sx) : (s.k = 1 ∧ step1 src s x = ⟨x.V.set s.v.toNat (evalV x.V s.o s.a s.b), x.S, x.U⟩) ∨
    (s.k = 2 ∧ step1 src s x = ⟨x.V.set s.v.toNat (src s.n x.U.length), x.S, x.U ++ [src s.n x.U.length]⟩) ∨ (s.k = 3 ∧ step1 src s x = ⟨x.V, x.S ++ [evalV x.V s.o s.a s.b], x.U⟩) ∨
    (¬ wr s ∧ s.k ≠ 3 ∧ step1 src s x = x) := by
  by_cases h1 : s.k = 1
  · exact .inl ⟨h1, step_set src h1 x⟩
  by_cases h2 : s.k = 2
  · exact .inr (.inl ⟨h2, step_sense src h2 x⟩)
  by_cases h3 : s.k = 3
  · exact .inr (.inr (.inl ⟨h3, step_send src h3 x⟩))
  · exact .inr (.inr (.inr ⟨fun h => h.elim h1 h2, h3, step_else src h1 h2 h3 x⟩))

/-- The stretch from 'a' to 'b' is this tree. -/
inductive Par (L : List Sm) : Nat → Nat → Fst → Prop
  | nil (a : Nat) : Par L a a .nil
  | one (a b : Nat) (T : Fst) (s : Sm) (hs : L[a]? = some s) (ho : opn s = false) (h6 : s.k ≠ 6) (hr : Par L (a + 1) b T) : Par L a b (.one s T)
  | nest (a e b : Nat) (B T : Fst) (s : Sm) (hs : L[a]? = some s) (he : IsEnd L a e) (hb : Par L (a + 1) e B) (hr : Par L (e + 1) b T) : Par L a b (.nest s B T)
theorem Par.le {L : List Sm} {a b : Nat} {T : Fst} (h : Par L a b T) : a ≤ b := by
  induction h with
  | nil => exact Nat.le_refl _
  | one => omega
  | nest a e b B T s hs he hb hr _ ih => have := he.1; omega
theorem Par.unique {L : List Sm} {a b : Nat} {T : Fst} (h : Par L a b T) : ∀ {T' : Fst}, Par L a b T' → T = T' := by
  induction h with
  | nil a =>
    intro T' h'
    cases h' with
    | nil => rfl
    | one _ _ _ s hs ho _ hr => have := hr.le; omega
    | nest _ e _ _ _ s hs he hb hr => have := hr.le; have := he.1; omega
  | one a b T s hs ho h6 hr ih =>
    intro T' h'
    cases h' with
    | nil => have := hr.le; omega
    | one _ _ _ s' hs' ho' _ hr' => rw [hs] at hs'; cases hs'; rw [ih hr']
    | nest _ e _ _ _ s' hs' he' hb' hr' =>
      obtain ⟨s2, hs2, ho2⟩ := he'.opens
      rw [hs] at hs2; cases hs2; rw [ho] at ho2; cases ho2
  | nest a e b B T s hs he hb hr ih1 ih2 =>
    intro T' h'
    cases h' with
    | nil => have := hr.le; have := he.1; omega
    | one _ _ _ s' hs' ho' _ hr' =>
      obtain ⟨s2, hs2, ho2⟩ := he.opens
      rw [hs'] at hs2; cases hs2; rw [ho'] at ho2; cases ho2
    | nest _ e' _ _ _ s' hs' he' hb' hr' =>
      obtain rfl := he.unique he'
      rw [hs] at hs'; cases hs'
      rw [ih1 hb', ih2 hr']
theorem par_of_runs {L : List Sm} {a b : Nat} {x : Int} (h : Runs L a b x) : ∃ T, Par L a b T := by
  induction h with
  | nil a => exact ⟨_, .nil a⟩
  | one a b x s hs ho h6 hr ih => obtain ⟨T, hT⟩ := ih; exact ⟨_, .one a b T s hs ho h6 hT⟩
  | nest a e b x y s hs he hb hr ih1 ih2 => obtain ⟨B, hB⟩ := ih1; obtain ⟨T, hT⟩ := ih2; exact ⟨_, .nest a e b B T s hs he hB hT⟩
theorem par_ex {L : List Sm} (hb : IsBlk L) : ∃ T, Par L 0 L.length T := by
  obtain ⟨x, hx⟩ := runs_ex hb L.length 0 L.length (by omega) (flat_all hb)
  exact par_of_runs hx
/-- How many statements the tree executes at most. -/
def cnt : Fst → Int
  | .nil => 0
  | .one _ r => 1 + cnt r
  | .nest s b r => max 1 s.n * cnt b + cnt r
theorem Par.runs {L : List Sm} {a b : Nat} {T : Fst} (h : Par L a b T) : Runs L a b (cnt T) := by
  induction h with
  | nil a => exact .nil a
  | one a b T s hs ho h6 hr ih => exact .one a b _ s hs ho h6 ih
  | nest a e b B T s hs he hb hr ih1 ih2 => exact .nest a e b _ _ s hs he ih1 ih2
theorem cnt_nonneg : ∀ T : Fst, 0 ≤ cnt T
  | .nil => by simp [cnt]
  | .one _ r => by have := cnt_nonneg r; simp only [cnt]; omega
  | .nest s b r => by
    have h1 := cnt_nonneg b
    have h2 := cnt_nonneg r
    have h3 : 0 ≤ max 1 s.n * cnt b := Int.mul_nonneg (by omega) h1
    simp only [cnt]; omega
/-- Every statement of the tree is valid, and a nesting one is a condition or a loop. -/
def Vld : Fst → Prop
  | .nil => True
  | .one s r => stOk s = true ∧ Vld r
  | .nest s b r => (stOk s = true ∧ (s.k = 4 ∨ s.k = 5)) ∧ Vld b ∧ Vld r
theorem Par.vld {L : List Sm} (hL : IsBlk L) {a b : Nat} {T : Fst} (h : Par L a b T) : Vld T := by
  induction h with
  | nil a => exact trivial
  | one a b T s hs ho h6 hr ih => exact ⟨blk_stOk hL hs, ih⟩
  | nest a e b B T s hs he hb hr ih1 ih2 =>
    obtain ⟨s2, hs2, ho2⟩ := he.opens
    rw [hs] at hs2; cases hs2
    exact ⟨⟨blk_stOk hL hs, by unfold opn at ho2; simpa using ho2⟩, ih1, ih2⟩
theorem st_var {s : Sm} (h : stOk s = true) (hw : wr s) : 0 ≤ s.v ∧ s.v ≤ 7 := by
  unfold stOk at h
  rcases hw with e | e
  · rw [if_pos e] at h; simp [varOk] at h; omega
  · rw [if_neg (by omega), if_pos e] at h; simp [varOk] at h; omega
theorem st_sensor {s : Sm} (h : stOk s = true) (hw : s.k = 2) : 0 ≤ s.n ∧ s.n ≤ 3 := by
  unfold stOk at h
  rw [if_neg (by omega), if_pos hw] at h; simp at h; omega
theorem st_loop {s : Sm} (h : stOk s = true) (hw : s.k = 5) : 1 ≤ s.n ∧ s.n ≤ 5 := by
  unfold stOk at h
  rw [if_neg (by omega), if_neg (by omega), if_neg (by omega), if_neg (by omega), if_pos hw] at h; simp at h; omega
theorem st_expr {s : Sm} (h : stOk s = true) (hw : rds s) : exprOk s.o s.a s.b = true := by
  unfold stOk at h
  rcases hw with e | e | e
  · rw [if_pos e] at h; simp at h; exact h.2.2
  · rw [if_neg (by omega), if_neg (by omega), if_pos e] at h; simp at h; exact h.2.2
  · rw [if_neg (by omega), if_neg (by omega), if_neg (by omega), if_pos e] at h; simp at h; exact h.2.2

/-! The number of sent and sensed values. -/
def tot (x : Sx) : Int := x.S.length + x.U.length
theorem tot_step (src : Int → Nat → Int) (s : Sm) (x : Sx) : tot (step1 src s x) ≤ tot x + 1 := by
  rcases step_cases src s x with ⟨_, e⟩ | ⟨_, e⟩ | ⟨_, e⟩ | ⟨_, _, e⟩ <;> rw [e] <;> simp [tot] <;> omega
theorem rep_tot {f : Sx → Sx} {c : Int} (h : ∀ x, tot (f x) ≤ tot x + c) : ∀ (n : Nat) (x : Sx), tot (rep f n x) ≤ tot x + n * c
  | 0, x => by rw [rep_zero]; simp
  | n + 1, x => by
    rw [rep_succ]
    have h1 := rep_tot h n (f x)
    have h2 := h x
    have h3 : ((n + 1 : Nat) : Int) * c = n * c + c := by rw [Int.natCast_add, Int.add_mul]; simp
    omega
theorem its_le (s : Sm) (x : Sx) : (its s x : Int) ≤ max 1 s.n := by
  unfold its
  split
  · split <;> omega
  · omega
theorem exec_tot (src : Int → Nat → Int) : ∀ (T : Fst) (x : Sx), tot (exec src T x) ≤ tot x + cnt T
  | .nil, x => by simp [exec, cnt]
  | .one s r, x => by
    have h1 := exec_tot src r (step1 src s x)
    have h2 := tot_step src s x
    simp only [exec, cnt]; omega
  | .nest s b r, x => by
    have h1 := exec_tot src r (rep (exec src b) (its s x) x)
    have h2 := rep_tot (fun y => exec_tot src b y) (its s x) x
    have h3 : (its s x : Int) * cnt b ≤ max 1 s.n * cnt b := Int.mul_le_mul_of_nonneg_right (its_le s x) (cnt_nonneg b)
    simp only [exec, cnt]; omega

/-! The variables. -/
theorem step_vlen (src : Int → Nat → Int) (s : Sm) (x : Sx) : (step1 src s x).V.length = x.V.length := by
  rcases step_cases src s x with ⟨_, e⟩ | ⟨_, e⟩ | ⟨_, e⟩ | ⟨_, _, e⟩ <;> rw [e] <;> simp
theorem exec_vlen (src : Int → Nat → Int) : ∀ (T : Fst) (x : Sx), (exec src T x).V.length = x.V.length
  | .nil, x => rfl
  | .one s r, x => by simp only [exec]; rw [exec_vlen src r, step_vlen]
  | .nest s b r, x => by
    simp only [exec]
    rw [exec_vlen src r]
    exact rep_ind (P := fun y => y.V.length = x.V.length) (fun y hy => (exec_vlen src b y).trans hy) _ x rfl
/-- Every value of the state is a value of the range. -/
def Good (x : Sx) : Prop := varsOk x.V = true ∧ (∀ q ∈ x.S, isVal q = true) ∧ ∀ q ∈ x.U, isVal q = true
theorem step_good {src : Int → Nat → Int} (hsrc : ∀ q n, isVal (src q n) = true) (s : Sm) {x : Sx} (h : Good x) : Good (step1 src s x) := by
  obtain ⟨h1, h2, h3⟩ := h
  rcases step_cases src s x with ⟨_, e⟩ | ⟨_, e⟩ | ⟨_, e⟩ | ⟨_, _, e⟩ <;> rw [e]
  · exact ⟨vars_set h1 (evalV_val _ _ _ _) _, h2, h3⟩
  · refine ⟨vars_set h1 (hsrc _ _) _, h2, fun q hq => ?_⟩
    rcases List.mem_append.1 hq with h | h
    · exact h3 q h
    · rw [List.mem_singleton.1 h]; exact hsrc _ _
  · refine ⟨h1, fun q hq => ?_, h3⟩
    rcases List.mem_append.1 hq with h | h
    · exact h2 q h
    · rw [List.mem_singleton.1 h]; exact evalV_val _ _ _ _
  · exact ⟨h1, h2, h3⟩
theorem exec_good {src : Int → Nat → Int} (hsrc : ∀ q n, isVal (src q n) = true) : ∀ (T : Fst) {x : Sx}, Good x → Good (exec src T x)
  | .nil, _, h => h
  | .one s r, _, h => exec_good hsrc r (step_good hsrc s h)
  | .nest _ b r, x, h => exec_good hsrc r (rep_ind (P := Good) (fun _ hy => exec_good hsrc b hy) _ x h)
/-- The tree writes the variable. -/
def wrT : Fst → Nat → Prop
  | .nil, _ => False
  | .one s r, v => (wr s ∧ s.v = v) ∨ wrT r v
  | .nest _ b r, v => wrT b v ∨ wrT r v
theorem Par.wrT {L : List Sm} {a b : Nat} {T : Fst} (h : Par L a b T) {v : Nat} : wrT T v → ∃ j, a ≤ j ∧ j < b ∧ WrAt L j v := by
  induction h with
  | nil a => exact fun h => h.elim
  | one a b T s hs ho h6 hr ih =>
    have hle := hr.le
    rintro (⟨h1, h2⟩ | h)
    · exact ⟨a, Nat.le_refl _, by omega, s, hs, h1, h2⟩
    · obtain ⟨j, h1, h2, h3⟩ := ih h; exact ⟨j, by omega, h2, h3⟩
  | nest a e b B T s hs he hb hr ih1 ih2 =>
    have h1 := hb.le; have h2 := hr.le
    rintro (h | h)
    · obtain ⟨j, h3, h4, h5⟩ := ih1 h; exact ⟨j, by omega, by omega, h5⟩
    · obtain ⟨j, h3, h4, h5⟩ := ih2 h; exact ⟨j, by omega, by omega, h5⟩
theorem step_other {src : Int → Nat → Int} {s : Sm} (hs : stOk s = true) {v : Nat} (h : ¬ (wr s ∧ s.v = v)) (x : Sx) : (step1 src s x).V[v]? = x.V[v]? := by
  rcases step_cases src s x with ⟨hk, e⟩ | ⟨hk, e⟩ | ⟨_, e⟩ | ⟨_, _, e⟩ <;> rw [e]
  · have := st_var hs (.inl hk)
    have hne : s.v ≠ v := fun e => h ⟨.inl hk, e⟩
    simp only [List.getElem?_set_ne (show s.v.toNat ≠ v by omega)]
  · have := st_var hs (.inr hk)
    have hne : s.v ≠ v := fun e => h ⟨.inr hk, e⟩
    simp only [List.getElem?_set_ne (show s.v.toNat ≠ v by omega)]
theorem exec_unwritten (src : Int → Nat → Int) : ∀ (T : Fst) (x : Sx), Vld T → ∀ v, ¬ wrT T v → (exec src T x).V[v]? = x.V[v]?
  | .nil, x, _, v, _ => rfl
  | .one s r, x, hv, v, h => by
    simp only [exec]
    rw [exec_unwritten src r _ hv.2 v (fun e => h (.inr e)), step_other hv.1 (fun e => h (.inl e))]
  | .nest s b r, x, hv, v, h => by
    simp only [exec]
    rw [exec_unwritten src r _ hv.2.2 v (fun e => h (.inr e))]
    exact rep_ind (P := fun y => y.V[v]? = x.V[v]?) (fun y hy => (exec_unwritten src b y hv.2.1 v (fun e => h (.inl e))).trans hy) _ x rfl

/-! What is sensed: an execution that is given the values that another one sensed does the same. -/
theorem step_pre (src : Int → Nat → Int) (s : Sm) (x : Sx) : x.U <+: (step1 src s x).U := by
  rcases step_cases src s x with ⟨_, e⟩ | ⟨_, e⟩ | ⟨_, e⟩ | ⟨_, _, e⟩ <;> rw [e]
  · exact List.prefix_refl _
  · exact List.prefix_append _ _
  · exact List.prefix_refl _
  · exact List.prefix_refl _
theorem exec_pre (src : Int → Nat → Int) : ∀ (T : Fst) (x : Sx), x.U <+: (exec src T x).U
  | .nil, _ => List.prefix_refl _
  | .one s r, x => (step_pre src s x).trans (exec_pre src r _)
  | .nest _ b r, x => (rep_ind (P := fun y => x.U <+: y.U) (fun y hy => hy.trans (exec_pre src b y)) _ x (List.prefix_refl _)).trans (exec_pre src r _)
theorem rep_pre (src : Int → Nat → Int) (b : Fst) (n : Nat) (x : Sx) : x.U <+: (rep (exec src b) n x).U :=
  rep_ind (P := fun y => x.U <+: y.U) (fun y hy => hy.trans (exec_pre src b y)) n x (List.prefix_refl _)
theorem pre_get {A B : List Int} (h : A <+: B) {n : Nat} (hn : n < A.length) : B.getD n 0 = A.getD n 0 := by
  obtain ⟨t, rfl⟩ := h
  rw [List.getD_eq_getElem?_getD, List.getD_eq_getElem?_getD, List.getElem?_append_left hn]
def listSrc (Y : List Int) : Int → Nat → Int := fun _ n => Y.getD n 0
theorem step_src {src : Int → Nat → Int} {Y : List Int} {s : Sm} {x : Sx} (h : (step1 src s x).U <+: Y) : step1 (listSrc Y) s x = step1 src s x := by
  rcases step_cases src s x with ⟨hk, e⟩ | ⟨hk, e⟩ | ⟨hk, e⟩ | ⟨h1, h3, e⟩
  · rw [e, step_set _ hk]
  · rw [e] at h ⊢
    rw [step_sense _ hk]
    have : listSrc Y s.n x.U.length = src s.n x.U.length := by
      unfold listSrc
      rw [pre_get h (by simp)]
      simp [List.getD_eq_getElem?_getD]
    rw [this]
  · rw [e, step_send _ hk]
  · rw [e, step_else _ (fun e => h1 (.inl e)) (fun e => h1 (.inr e)) h3]
theorem rep_src {src : Int → Nat → Int} {Y : List Int} {b : Fst} (h : ∀ x, (exec src b x).U <+: Y → exec (listSrc Y) b x = exec src b x) : ∀ (n : Nat) (x : Sx), (rep (exec src b) n x).U <+: Y → rep (exec (listSrc Y) b) n x = rep (exec src b) n x
  | 0, _, _ => rfl
  | n + 1, x, hp => by
    rw [rep_succ] at hp ⊢
    rw [rep_succ, h x ((rep_pre src b n _).trans hp)]
    exact rep_src h n _ hp
theorem exec_src {src : Int → Nat → Int} {Y : List Int} : ∀ (T : Fst) (x : Sx), (exec src T x).U <+: Y → exec (listSrc Y) T x = exec src T x
  | .nil, _, _ => rfl
  | .one s r, x, h => by
    simp only [exec] at h ⊢
    rw [step_src ((exec_pre src r _).trans h)]
    exact exec_src r _ h
  | .nest s b r, x, h => by
    simp only [exec] at h ⊢
    rw [rep_src (fun y => exec_src b y) _ x ((exec_pre src r _).trans h)]
    exact exec_src r _ h
end Go.Proofs.YtmgeecdgebemdaaGreatDoor.exe

/- Executions from two states that agree on what is read: they send and sense the same, and agree on what is certainly written. Plain mathematics. -/
namespace Go.Proofs.YtmgeecdgebemdaaGreatDoor.exe
open Go Go.Proofs.YtmgeecdgebemdaaGreatDoor.stm Go.Proofs.YtmgeecdgebemdaaGreatDoor.blk Go.Proofs.YtmgeecdgebemdaaGreatDoor.expr Go.Proofs.YtmgeecdgebemdaaGreatDoor.sets Go.Proofs.YtmgeecdgebemdaaGreatDoor.val

/-- The statement reads known variables only. -/
def rdOk (s : Sm) (D : Nat → Prop) : Prop := rds s → ∀ v : Nat, (v : Int) ∈ rd s.a s.b 8 → D v
/-- What is known behind the tree. -/
def mustT : Fst → (Nat → Prop) → Nat → Prop
  | .nil, D => D
  | .one s r, D => mustT r (fun v => D v ∨ (wr s ∧ s.v = v))
  | .nest s b r, D => mustT r (fun v => (s.k = 4 ∧ D v) ∨ (s.k ≠ 4 ∧ mustT b D v))
/-- The tree reads known variables only. -/
def okT : Fst → (Nat → Prop) → Prop
  | .nil, _ => True
  | .one s r, D => rdOk s D ∧ okT r (fun v => D v ∨ (wr s ∧ s.v = v))
  | .nest s b r, D => rdOk s D ∧ okT b D ∧ okT r (fun v => (s.k = 4 ∧ D v) ∨ (s.k ≠ 4 ∧ mustT b D v))
theorem mustT_mono : ∀ (T : Fst) {D E : Nat → Prop}, (∀ v, D v → E v) → ∀ v, mustT T D v → mustT T E v
  | .nil, _, _, h, v, hv => h v hv
  | .one _ r, _, _, h, v, hv => mustT_mono r (fun u hu => hu.imp (h u) id) v hv
  | .nest _ b r, _, _, h, v, hv => mustT_mono r (fun u hu => hu.imp (fun e => ⟨e.1, h u e.2⟩) (fun e => ⟨e.1, mustT_mono b h u e.2⟩)) v hv
theorem mustT_ge : ∀ (T : Fst) {D : Nat → Prop} (v : Nat), D v → mustT T D v
  | .nil, _, _, h => h
  | .one _ r, _, v, h => mustT_ge r v (.inl h)
  | .nest s b r, _, v, h => mustT_ge r v (by
    by_cases h4 : s.k = 4
    · exact .inl ⟨h4, h⟩
    · exact .inr ⟨h4, mustT_ge b v h⟩)
theorem okT_mono : ∀ (T : Fst) {D E : Nat → Prop}, (∀ v, D v → E v) → okT T D → okT T E
  | .nil, _, _, _, _ => trivial
  | .one _ r, _, _, h, hv => ⟨fun h1 v h2 => h v (hv.1 h1 v h2), okT_mono r (fun u hu => hu.imp (h u) id) hv.2⟩
  | .nest _ b r, _, _, h, hv => ⟨fun h1 v h2 => h v (hv.1 h1 v h2), okT_mono b h hv.2.1, okT_mono r (fun u hu => hu.imp (fun e => ⟨e.1, h u e.2⟩) (fun e => ⟨e.1, mustT_mono b h u e.2⟩)) hv.2.2⟩
/-- Two states agree on what is known, and have sent and sensed the same. -/
def Agr (D : Nat → Prop) (x y : Sx) : Prop := varsOk x.V = true ∧ varsOk y.V = true ∧ (∀ v : Nat, D v → x.V[v]? = y.V[v]?) ∧ x.S = y.S ∧ x.U = y.U
theorem Agr.less {D E : Nat → Prop} {x y : Sx} (h : Agr D x y) (hE : ∀ v, E v → D v) : Agr E x y := ⟨h.1, h.2.1, fun v hv => h.2.2.1 v (hE v hv), h.2.2.2⟩
theorem valOf_agree {V W : List Int} {m : Int} (hm : opndOk m = true) (h : ∀ v : Nat, v < 8 → m = -1 - (v : Int) → V[v]? = W[v]?) : expr.valOf V m = expr.valOf W m := by
  unfold expr.valOf
  split
  · have := (opndOk_iff m).1 hm
    rw [List.getD_eq_getElem?_getD, List.getD_eq_getElem?_getD, h (-1 - m).toNat (by omega) (by omega)]
  · rfl
theorem evalV_agree {V W : List Int} (hV : varsOk V = true) (hW : varsOk W = true) {o a b : Int} (h : ∀ v : Nat, (v : Int) ∈ rd a b 8 → V[v]? = W[v]?) : evalV V o a b = evalV W o a b := by
  cases he : exprOk o a b
  · rw [evalV_no (.inr he), evalV_no (.inr he)]
  · obtain ⟨_, ha, hb⟩ := (exprOk_iff o a b).1 he
    rw [evalV_ok hV he, evalV_ok hW he, valOf_agree ha (fun v h8 e => h v (rd_mem.2 ⟨h8, .inl e⟩)), valOf_agree hb (fun v h8 e => h v (rd_mem.2 ⟨h8, .inr e⟩))]
theorem set_agree {V W : List Int} (h1 : V.length = 8) (h2 : W.length = 8) {j : Nat} {q : Int} {v : Nat} (h : v = j ∨ V[v]? = W[v]?) : (V.set j q)[v]? = (W.set j q)[v]? := by
  rw [List.getElem?_set, List.getElem?_set, h1, h2]
  split
  · rfl
  · rename_i hne
    rcases h with h | h
    · exact absurd h.symm hne
    · exact h
theorem step_agree {src : Int → Nat → Int} (hsrc : ∀ q n, isVal (src q n) = true) {s : Sm} (hs : stOk s = true) {D : Nat → Prop} (hr : rdOk s D) {x y : Sx} (h : Agr D x y) :
    Agr (fun v => D v ∨ (wr s ∧ s.v = v)) (step1 src s x) (step1 src s y) := by
  obtain ⟨h1, h2, h3, h4, h5⟩ := h
  have l1 := ((varsOk_iff _).1 h1).1
  have l2 := ((varsOk_iff _).1 h2).1
  rcases step_cases src s x with ⟨hk, e⟩ | ⟨hk, e⟩ | ⟨hk, e⟩ | ⟨n1, n3, e⟩ <;> rw [e]
  · rw [step_set src hk y, evalV_agree h1 h2 (fun v hv => h3 v (hr (.inl hk) v hv))]
    have hv := st_var hs (.inl hk)
    refine ⟨vars_set h1 (evalV_val _ _ _ _) _, vars_set h2 (evalV_val _ _ _ _) _, fun v hd => set_agree l1 l2 ?_, h4, h5⟩
    rcases hd with hd | ⟨_, hd⟩
    · exact .inr (h3 v hd)
    · exact .inl (by omega)
  · rw [step_sense src hk y, h5]
    have hv := st_var hs (.inr hk)
    refine ⟨vars_set h1 (hsrc _ _) _, vars_set h2 (hsrc _ _) _, fun v hd => set_agree l1 l2 ?_, h4, rfl⟩
    rcases hd with hd | ⟨_, hd⟩
    · exact .inr (h3 v hd)
    · exact .inl (by omega)
  · rw [step_send src hk y, evalV_agree h1 h2 (fun v hv => h3 v (hr (.inr (.inl hk)) v hv)), h4]
    refine ⟨h1, h2, fun v hd => ?_, rfl, h5⟩
    rcases hd with hd | ⟨hw, _⟩
    · exact h3 v hd
    · rcases hw with e | e <;> omega
  · rw [step_else src (fun e => n1 (.inl e)) (fun e => n1 (.inr e)) n3 y]
    exact ⟨h1, h2, fun v hd => h3 v (hd.elim id (fun e => absurd e.1 n1)), h4, h5⟩
theorem rep_agree {f : Sx → Sx} {D : Nat → Prop} (h : ∀ x y, Agr D x y → Agr D (f x) (f y)) : ∀ (n : Nat) (x y : Sx), Agr D x y → Agr D (rep f n x) (rep f n y)
  | 0, _, _, hxy => hxy
  | n + 1, x, y, hxy => rep_agree h n (f x) (f y) (h x y hxy)
theorem exec_agree {src : Int → Nat → Int} (hsrc : ∀ q n, isVal (src q n) = true) : ∀ (T : Fst) {D : Nat → Prop} {x y : Sx}, Vld T → okT T D → Agr D x y → Agr (mustT T D) (exec src T x) (exec src T y)
  | .nil, _, _, _, _, _, h => h
  | .one s r, _, _, _, hv, hk, h => exec_agree hsrc r hv.2 hk.2 (step_agree hsrc hv.1 hk.1 h)
  | .nest s b r, D, x, y, hv, hk, h => by
    have ihb : ∀ {E : Nat → Prop} {x y : Sx}, okT b E → Agr E x y → Agr (mustT b E) (exec src b x) (exec src b y) := fun h1 h2 => exec_agree hsrc b hv.2.1 h1 h2
    simp only [exec, mustT]
    refine exec_agree hsrc r hv.2.2 hk.2.2 ?_
    rcases hv.1.2 with h4 | h5
    · have hits : its s x = its s y := by
        unfold its
        rw [if_pos h4, if_pos h4, evalV_agree h.1 h.2.1 (fun v hv => h.2.2.1 v (hk.1 (.inr (.inr h4)) v hv))]
      rw [hits]
      have h9 : Agr D (rep (exec src b) (its s y) x) (rep (exec src b) (its s y) y) := rep_agree (fun u w hu => (ihb hk.2.1 hu).less (fun v => mustT_ge b v)) _ x y h
      exact h9.less (fun v hv => hv.elim (fun e => e.2) (fun e => absurd h4 e.1))
    · have hl := st_loop hv.1.1 h5
      have hits : ∀ z, its s z = (s.n.toNat - 1) + 1 := fun z => by unfold its; rw [if_neg (by omega)]; omega
      rw [hits x, hits y, rep_succ, rep_succ]
      have h8 := ihb hk.2.1 h
      have h9 := rep_agree (f := exec src b) (D := mustT b D) (fun u w hu => (ihb (okT_mono b (fun v => mustT_ge b v) hk.2.1) hu).less (fun v hv => mustT_ge b v hv)) (s.n.toNat - 1) _ _ h8
      exact h9.less (fun v hv => hv.elim (fun e => by have := e.1; omega) (fun e => e.2))

/-! The tree and the places of the block. -/
/-- Known at the place 'p': outside of 'K', or certainly written. -/
def Dp (L : List Sm) (K : Nat → Prop) (p v : Nat) : Prop := ¬ K v ∨ WAt L p v
theorem not_end {L : List Sm} {a : Nat} {s : Sm} (hs : L[a]? = some s) (h6 : s.k ≠ 6) : ∀ i t, L[i]? = some t → t.k = 4 → ¬ IsEnd L i a := fun i t _ _ he => by
  obtain ⟨u, hu, hk⟩ := he.kind
  rw [hs] at hu; cases hu; exact h6 hk
theorem wrAt_iff {L : List Sm} {a v : Nat} {s : Sm} (hs : L[a]? = some s) : WrAt L a v ↔ wr s ∧ s.v = v :=
  ⟨fun ⟨t, ht, h⟩ => by rw [hs] at ht; cases ht; exact h, fun h => ⟨s, hs, h⟩⟩
theorem dp_one {L : List Sm} {K : Nat → Prop} {a : Nat} {s : Sm} (hs : L[a]? = some s) (h6 : s.k ≠ 6) : (fun v => Dp L K a v ∨ (wr s ∧ s.v = v)) = Dp L K (a + 1) := by
  funext v
  unfold Dp
  rw [wAt_succ (not_end hs h6), wrAt_iff hs]
  exact propext or_assoc
theorem dp_open {L : List Sm} {K : Nat → Prop} {a : Nat} {s : Sm} (hs : L[a]? = some s) (hk : s.k = 4 ∨ s.k = 5) : Dp L K (a + 1) = Dp L K a := by
  rw [← dp_one hs (by omega)]
  funext v
  exact propext ⟨fun h => h.elim id (fun e => by rcases e.1 with h1 | h1 <;> omega), .inl⟩
theorem end_once {L : List Sm} {i j e : Nat} (h : IsEnd L i e) (h' : IsEnd L j e) : i = j := by
  rcases Nat.lt_trichotomy i j with hlt | rfl | hlt
  · have := end_in h' h hlt (by have := h'.1; omega); omega
  · rfl
  · have := end_in h h' hlt (by have := h.1; omega); omega
theorem dp_shut {L : List Sm} {K : Nat → Prop} {a e : Nat} {s : Sm} (hs : L[a]? = some s) (hk : s.k = 4 ∨ s.k = 5) (he : IsEnd L a e) :
    (fun v => (s.k = 4 ∧ Dp L K a v) ∨ (s.k ≠ 4 ∧ Dp L K e v)) = Dp L K (e + 1) := by
  funext v
  rcases hk with h4 | h5
  · unfold Dp
    rw [wAt_if hs h4 he]
    exact propext ⟨fun h => h.elim (fun e => e.2) (fun e => absurd h4 e.1), fun h => .inl ⟨h4, h⟩⟩
  · have h1 : WAt L (e + 1) v ↔ WAt L e v := by
      rw [wAt_succ (fun i t ht h4 he' => by
        obtain rfl := end_once he he'
        rw [hs] at ht; cases ht; omega)]
      exact ⟨fun h => h.elim id (fun e => absurd e (end_nothing he).1), .inl⟩
    unfold Dp
    rw [h1]
    exact propext ⟨fun h => h.elim (fun e => by have := e.1; omega) (fun e => e.2), fun h => .inr ⟨by omega, h⟩⟩
theorem Par.known {L : List Sm} {K : Nat → Prop} {a b : Nat} {T : Fst} (h : Par L a b T) : (∀ j, a ≤ j → j < b → ∀ v, RdAt L j v → Dp L K j v) → okT T (Dp L K a) ∧ mustT T (Dp L K a) = Dp L K b := by
  induction h with
  | nil a => exact fun _ => ⟨trivial, rfl⟩
  | one a b T s hs ho h6 hr ih =>
    intro hj
    have hle := hr.le
    obtain ⟨h1, h2⟩ := ih (fun j h1 h2 => hj j (by omega) h2)
    simp only [okT, mustT]
    rw [dp_one hs h6]
    exact ⟨⟨fun hrd v hv => hj a (Nat.le_refl _) (by omega) v ⟨s, hs, hrd, hv⟩, h1⟩, h2⟩
  | nest a e b B T s hs he hb hr ih1 ih2 =>
    intro hj
    have hle1 := hb.le; have hle2 := hr.le
    obtain ⟨s2, hs2, ho2⟩ := he.opens
    rw [hs] at hs2; cases hs2
    have hk : s.k = 4 ∨ s.k = 5 := by unfold opn at ho2; simpa using ho2
    obtain ⟨h1, h2⟩ := ih1 (fun j h1 h2 => hj j (by omega) (by omega))
    obtain ⟨h3, h4⟩ := ih2 (fun j h1 h2 => hj j (by omega) (by omega))
    rw [dp_open hs hk] at h1 h2
    simp only [okT, mustT]
    rw [h2, dp_shut hs hk he]
    exact ⟨⟨fun hrd v hv => hj a (Nat.le_refl _) (by omega) v ⟨s, hs, hrd, hv⟩, h1, h3⟩, h4⟩
/-- Two executions of a block whose variables agree outside of 'K', where nothing of 'K' is read before it is certainly written. -/
theorem block_agree {src : Int → Nat → Int} (hsrc : ∀ q n, isVal (src q n) = true) {L : List Sm} (hL : IsBlk L) {T : Fst} (hT : Par L 0 L.length T) {K : Nat → Prop} (hK : ∀ v, K v → ¬ FAt L L.length v) {V W : List Int}
    (hV : varsOk V = true) (hW : varsOk W = true) (h : ∀ v : Nat, ¬ K v → V[v]? = W[v]?) : Agr (Dp L K L.length) (exec src T ⟨V, [], []⟩) (exec src T ⟨W, [], []⟩) := by
  obtain ⟨h1, h2⟩ := hT.known (K := K) (fun j _ hj v hr => by
    by_cases hk : K v
    · right
      exact Classical.byContradiction fun hn => hK v hk ⟨j, hj, hr, hn⟩
    · exact .inl hk)
  rw [← h2]
  refine exec_agree hsrc T (hT.vld hL) h1 ⟨hV, hW, fun v hv => ?_, rfl, rfl⟩
  rcases hv with hv | hv
  · exact h v hv
  · exact absurd hv wAt_zero
end Go.Proofs.YtmgeecdgebemdaaGreatDoor.exe
