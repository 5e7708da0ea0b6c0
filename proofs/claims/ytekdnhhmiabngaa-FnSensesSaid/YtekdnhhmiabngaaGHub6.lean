/- Several texts in one: ExeA. -/
import Derived.Test.YtekdnhhmiabngaaGHub5

/- Blocks as trees, and what executing one does. Plain mathematics. -/
namespace Go.Proofs.Ytekdnhhmiabngaa.exe
open Go Go.Proofs.Ytekdnhhmiabngaa.stm Go.Proofs.Ytekdnhhmiabngaa.blk Go.Proofs.Ytekdnhhmiabngaa.expr Go.Proofs.Ytekdnhhmiabngaa.sets Go.Proofs.Ytekdnhhmiabngaa.val

theorem rd_mem {a b : Int} {k j : Nat} : (j : Int) ∈ rd a b k ↔ j < k ∧ (a = -1 - (j : Int) ∨ b = -1 - (j : Int)) := by
  simp only [rd, List.mem_map, List.mem_filter, List.mem_range, Bool.or_eq_true, decide_eq_true_eq]
  constructor
  · rintro ⟨i, ⟨h1, h2⟩, e⟩
    have : i = j := by omega
    subst this; exact ⟨h1, h2⟩
  · rintro ⟨h1, h2⟩; exact ⟨j, ⟨h1, h2⟩, rfl⟩
theorem vars_set {V : List Int} (h : varsOk V = true) {q : Int} (hq : isVal q = true) (j : Nat) : varsOk (V.set j q) = true := by
  obtain ⟨h1, h2⟩ := (varsOk_iff V).1 h
  refine (varsOk_iff _).2 ⟨by simpa using h1, fun x hx => ?_⟩
  rcases List.mem_or_eq_of_mem_set hx with h | h
  · exact h2 x h
  · rw [h]; exact hq
/-- A stretch of a block, as a tree. -/
inductive Fst
  | nil
  | one (s : Sm) (r : Fst)
  | nest (s : Sm) (b r : Fst)
/-- The state of an execution: the variables, what has been sent, what has been sensed. -/
structure Sx where
  (V S U : List Int)
def step1 (src : Int → Nat → Int) (s : Sm) (x : Sx) : Sx :=
  if s.k = 1 then ⟨x.V.set s.v.toNat (evalV x.V s.o s.a s.b), x.S, x.U⟩
  else if s.k = 2 then ⟨x.V.set s.v.toNat (src s.n x.U.length), x.S, x.U ++ [src s.n x.U.length]⟩
  else if s.k = 3 then ⟨x.V, x.S ++ [evalV x.V s.o s.a s.b], x.U⟩ else x
/-- How often the body is executed. -/
def its (s : Sm) (x : Sx) : Nat := if s.k = 4 then (if evalV x.V s.o s.a s.b = 0 then 0 else 1) else s.n.toNat
def rep (f : Sx → Sx) : Nat → Sx → Sx
  | 0, x => x
  | n + 1, x => rep f n (f x)
def exec (src : Int → Nat → Int) : Fst → Sx → Sx
  | .nil, x => x
  | .one s r, x => exec src r (step1 src s x)
  | .nest s b r, x => exec src r (rep (exec src b) (its s x) x)
theorem rep_zero (f : Sx → Sx) (x : Sx) : rep f 0 x = x := rfl
theorem rep_succ (f : Sx → Sx) (n : Nat) (x : Sx) : rep f (n + 1) x = rep f n (f x) := rfl
theorem rep_last (f : Sx → Sx) : ∀ (n : Nat) (x : Sx), rep f (n + 1) x = f (rep f n x)
  | 0, _ => rfl
  | n + 1, x => by rw [rep_succ, rep_last f n (f x), rep_succ]
theorem rep_ind {f : Sx → Sx} {P : Sx → Prop} (h : ∀ x, P x → P (f x)) : ∀ (n : Nat) (x : Sx), P x → P (rep f n x)
  | 0, _, hx => hx
  | n + 1, x, hx => rep_ind h n (f x) (h x hx)
theorem step_set (src : Int → Nat → Int) {s : Sm} (h : s.k = 1) (x : Sx) : step1 src s x = ⟨x.V.set s.v.toNat (evalV x.V s.o s.a s.b), x.S, x.U⟩ := by unfold step1; rw [if_pos h]
theorem step_sense (src : Int → Nat → Int) {s : Sm} (h : s.k = 2) (x : Sx) : step1 src s x = ⟨x.V.set s.v.toNat (src s.n x.U.length), x.S, x.U ++ [src s.n x.U.length]⟩ := by
  unfold step1; rw [if_neg (by omega), if_pos h]
theorem step_send (src : Int → Nat → Int) {s : Sm} (h : s.k = 3) (x : Sx) : step1 src s x = ⟨x.V, x.S ++ [evalV x.V s.o s.a s.b], x.U⟩ := by
  unfold step1; rw [if_neg (by omega), if_neg (by omega), if_pos h]
theorem step_else (src : Int → Nat → Int) {s : Sm} (h1 : s.k ≠ 1) (h2 : s.k ≠ 2) (h3 : s.k ≠ 3) (x : Sx) : step1 src s x = x := by
  unfold step1; rw [if_neg h1, if_neg h2, if_neg h3]
theorem step_cases (src : Int → Nat → Int) (s : Sm) (x : Sx) : (s.k = 1 ∧ step1 src s x = ⟨x.V.set s.v.toNat (evalV x.V s.o s.a s.b), x.S, x.U⟩) ∨
    (s.k = 2 ∧ step1 src s x = ⟨x.V.set s.v.toNat (src s.n x.U.length), x.S, x.U ++ [src s.n x.U.length]⟩) ∨ (s.k = 3 ∧ step1 src s x = ⟨x.V, x.S ++ [evalV x.V s.o s.a s.b], x.U⟩) ∨
    (¬ wr s ∧ s.k ≠ 3 ∧ step1 src s x = x) := by
  by_cases h1 : s.k = 1
  · exact .inl ⟨h1, step_set src h1 x⟩
  by_cases h2 : s.k = 2
  · exact .inr (.inl ⟨h2, step_sense src h2 x⟩)
  by_cases h3 : s.k = 3
  · exact .inr (.inr (.inl ⟨h3, step_send src h3 x⟩))
  · exact .inr (.inr (.inr ⟨fun h => h.elim h1 h2, h3, step_else src h1 h2 h3 x⟩))

/-- The stretch from 'a' to 'b' is this tree. -/
inductive Par (L : List Sm) : Nat → Nat → Fst → Prop
  | nil (a : Nat) : Par L a a .nil
  | one (a b : Nat) (T : Fst) (s : Sm) (hs : L[a]? = some s) (ho : opn s = false) (h6 : s.k ≠ 6) (hr : Par L (a + 1) b T) : Par L a b (.one s T)
  | nest (a e b : Nat) (B T : Fst) (s : Sm) (hs : L[a]? = some s) (he : IsEnd L a e) (hb : Par L (a + 1) e B) (hr : Par L (e + 1) b T) : Par L a b (.nest s B T)
theorem Par.le {L : List Sm} {a b : Nat} {T : Fst} (h : Par L a b T) : a ≤ b := by
  induction h with
  | nil => exact Nat.le_refl _
  | one => omega
  | nest a e b B T s hs he hb hr _ ih => have := he.1; omega
theorem Par.unique {L : List Sm} {a b : Nat} {T : Fst} (h : Par L a b T) : ∀ {T' : Fst}, Par L a b T' → T = T' := by
  induction h with
  | nil a =>
    intro T' h'
    cases h' with
    | nil => rfl
    | one _ _ _ s hs ho _ hr => have := hr.le; omega
    | nest _ e _ _ _ s hs he hb hr => have := hr.le; have := he.1; omega
  | one a b T s hs ho h6 hr ih =>
    intro T' h'
    cases h' with
    | nil => have := hr.le; omega
    | one _ _ _ s' hs' ho' _ hr' => rw [hs] at hs'; cases hs'; rw [ih hr']
    | nest _ e _ _ _ s' hs' he' hb' hr' =>
      obtain ⟨s2, hs2, ho2⟩ := he'.opens
      rw [hs] at hs2; cases hs2; rw [ho] at ho2; cases ho2
  | nest a e b B T s hs he hb hr ih1 ih2 =>
    intro T' h'
    cases h' with
    | nil => have := hr.le; have := he.1; omega
    | one _ _ _ s' hs' ho' _ hr' =>
      obtain ⟨s2, hs2, ho2⟩ := he.opens
      rw [hs'] at hs2; cases hs2; rw [ho'] at ho2; cases ho2
    | nest _ e' _ _ _ s' hs' he' hb' hr' =>
      obtain rfl := he.unique he'
      rw [hs] at hs'; cases hs'
      rw [ih1 hb', ih2 hr']
theorem par_of_runs {L : List Sm} {a b : Nat} {x : Int} (h : Runs L a b x) : ∃ T, Par L a b T := by
  induction h with
  | nil a => exact ⟨_, .nil a⟩
  | one a b x s hs ho h6 hr ih => obtain ⟨T, hT⟩ := ih; exact ⟨_, .one a b T s hs ho h6 hT⟩
  | nest a e b x y s hs he hb hr ih1 ih2 => obtain ⟨B, hB⟩ := ih1; obtain ⟨T, hT⟩ := ih2; exact ⟨_, .nest a e b B T s hs he hB hT⟩
theorem par_ex {L : List Sm} (hb : IsBlk L) : ∃ T, Par L 0 L.length T := by
  obtain ⟨x, hx⟩ := runs_ex hb L.length 0 L.length (by omega) (flat_all hb)
  exact par_of_runs hx
/-- How many statements the tree executes at most. -/
def cnt : Fst → Int
  | .nil => 0
  | .one _ r => 1 + cnt r
  | .nest s b r => max 1 s.n * cnt b + cnt r
theorem Par.runs {L : List Sm} {a b : Nat} {T : Fst} (h : Par L a b T) : Runs L a b (cnt T) := by
  induction h with
  | nil a => exact .nil a
  | one a b T s hs ho h6 hr ih => exact .one a b _ s hs ho h6 ih
  | nest a e b B T s hs he hb hr ih1 ih2 => exact .nest a e b _ _ s hs he ih1 ih2
theorem cnt_nonneg : ∀ T : Fst, 0 ≤ cnt T
  | .nil => by simp [cnt]
  | .one _ r => by have := cnt_nonneg r; simp only [cnt]; omega
  | .nest s b r => by
    have h1 := cnt_nonneg b
    have h2 := cnt_nonneg r
    have h3 : 0 ≤ max 1 s.n * cnt b := Int.mul_nonneg (by omega) h1
    simp only [cnt]; omega
/-- Every statement of the tree is valid, and a nesting one is a condition or a loop. -/
def Vld : Fst → Prop
  | .nil => True
  | .one s r => stOk s = true ∧ Vld r
  | .nest s b r => (stOk s = true ∧ (s.k = 4 ∨ s.k = 5)) ∧ Vld b ∧ Vld r
theorem Par.vld {L : List Sm} (hL : IsBlk L) {a b : Nat} {T : Fst} (h : Par L a b T) : Vld T := by
  induction h with
  | nil a => exact trivial
  | one a b T s hs ho h6 hr ih => exact ⟨blk_stOk hL hs, ih⟩
  | nest a e b B T s hs he hb hr ih1 ih2 =>
    obtain ⟨s2, hs2, ho2⟩ := he.opens
    rw [hs] at hs2; cases hs2
    exact ⟨⟨blk_stOk hL hs, by unfold opn at ho2; simpa using ho2⟩, ih1, ih2⟩
theorem st_var {s : Sm} (h : stOk s = true) (hw : wr s) : 0 ≤ s.v ∧ s.v ≤ 7 := by
  unfold stOk at h
  rcases hw with e | e
  · rw [if_pos e] at h; simp [varOk] at h; omega
  · rw [if_neg (by omega), if_pos e] at h; simp [varOk] at h; omega
theorem st_sensor {s : Sm} (h : stOk s = true) (hw : s.k = 2) : 0 ≤ s.n ∧ s.n ≤ 3 := by
  unfold stOk at h
  rw [if_neg (by omega), if_pos hw] at h; simp at h; omega
theorem st_loop {s : Sm} (h : stOk s = true) (hw : s.k = 5) : 1 ≤ s.n ∧ s.n ≤ 5 := by
  unfold stOk at h
  rw [if_neg (by omega), if_neg (by omega), if_neg (by omega), if_neg (by omega), if_pos hw] at h; simp at h; omega
theorem st_expr {s : Sm} (h : stOk s = true) (hw : rds s) : exprOk s.o s.a s.b = true := by
  unfold stOk at h
  rcases hw with e | e | e
  · rw [if_pos e] at h; simp at h; exact h.2.2
  · rw [if_neg (by omega), if_neg (by omega), if_pos e] at h; simp at h; exact h.2.2
  · rw [if_neg (by omega), if_neg (by omega), if_neg (by omega), if_pos e] at h; simp at h; exact h.2.2

/-! The number of sent and sensed values. -/
def tot (x : Sx) : Int := x.S.length + x.U.length
theorem tot_step (src : Int → Nat → Int) (s : Sm) (x : Sx) : tot (step1 src s x) ≤ tot x + 1 := by
  rcases step_cases src s x with ⟨_, e⟩ | ⟨_, e⟩ | ⟨_, e⟩ | ⟨_, _, e⟩ <;> rw [e] <;> simp [tot] <;> omega
theorem rep_tot {f : Sx → Sx} {c : Int} (h : ∀ x, tot (f x) ≤ tot x + c) : ∀ (n : Nat) (x : Sx), tot (rep f n x) ≤ tot x + n * c
  | 0, x => by rw [rep_zero]; simp
  | n + 1, x => by
    rw [rep_succ]
    have h1 := rep_tot h n (f x)
    have h2 := h x
    have h3 : ((n + 1 : Nat) : Int) * c = n * c + c := by rw [Int.natCast_add, Int.add_mul]; simp
    omega
theorem its_le (s : Sm) (x : Sx) : (its s x : Int) ≤ max 1 s.n := by
  unfold its
  split
  · split <;> omega
  · omega
theorem exec_tot (src : Int → Nat → Int) : ∀ (T : Fst) (x : Sx), tot (exec src T x) ≤ tot x + cnt T
  | .nil, x => by simp [exec, cnt]
  | .one s r, x => by
    have h1 := exec_tot src r (step1 src s x)
    have h2 := tot_step src s x
    simp only [exec, cnt]; omega
  | .nest s b r, x => by
    have h1 := exec_tot src r (rep (exec src b) (its s x) x)
    have h2 := rep_tot (fun y => exec_tot src b y) (its s x) x
    have h3 : (its s x : Int) * cnt b ≤ max 1 s.n * cnt b := Int.mul_le_mul_of_nonneg_right (its_le s x) (cnt_nonneg b)
    simp only [exec, cnt]; omega

/-! The variables. -/
theorem step_vlen (src : Int → Nat → Int) (s : Sm) (x : Sx) : (step1 src s x).V.length = x.V.length := by
  rcases step_cases src s x with ⟨_, e⟩ | ⟨_, e⟩ | ⟨_, e⟩ | ⟨_, _, e⟩ <;> rw [e] <;> simp
theorem exec_vlen (src : Int → Nat → Int) : ∀ (T : Fst) (x : Sx), (exec src T x).V.length = x.V.length
  | .nil, x => rfl
  | .one s r, x => by simp only [exec]; rw [exec_vlen src r, step_vlen]
  | .nest s b r, x => by
    simp only [exec]
    rw [exec_vlen src r]
    exact rep_ind (P := fun y => y.V.length = x.V.length) (fun y hy => (exec_vlen src b y).trans hy) _ x rfl
/-- Every value of the state is a value of the range. -/
def Good (x : Sx) : Prop := varsOk x.V = true ∧ (∀ q ∈ x.S, isVal q = true) ∧ ∀ q ∈ x.U, isVal q = true
theorem step_good {src : Int → Nat → Int} (hsrc : ∀ q n, isVal (src q n) = true) (s : Sm) {x : Sx} (h : Good x) : Good (step1 src s x) := by
  obtain ⟨h1, h2, h3⟩ := h
  rcases step_cases src s x with ⟨_, e⟩ | ⟨_, e⟩ | ⟨_, e⟩ | ⟨_, _, e⟩ <;> rw [e]
  · exact ⟨vars_set h1 (evalV_val _ _ _ _) _, h2, h3⟩
  · refine ⟨vars_set h1 (hsrc _ _) _, h2, fun q hq => ?_⟩
    rcases List.mem_append.1 hq with h | h
    · exact h3 q h
    · rw [List.mem_singleton.1 h]; exact hsrc _ _
  · refine ⟨h1, fun q hq => ?_, h3⟩
    rcases List.mem_append.1 hq with h | h
    · exact h2 q h
    · rw [List.mem_singleton.1 h]; exact evalV_val _ _ _ _
  · exact ⟨h1, h2, h3⟩
theorem exec_good {src : Int → Nat → Int} (hsrc : ∀ q n, isVal (src q n) = true) : ∀ (T : Fst) {x : Sx}, Good x → Good (exec src T x)
  | .nil, _, h => h
  | .one s r, _, h => exec_good hsrc r (step_good hsrc s h)
  | .nest _ b r, x, h => exec_good hsrc r (rep_ind (P := Good) (fun _ hy => exec_good hsrc b hy) _ x h)
/-- The tree writes the variable. -/
def wrT : Fst → Nat → Prop
  | .nil, _ => False
  | .one s r, v => (wr s ∧ s.v = v) ∨ wrT r v
  | .nest _ b r, v => wrT b v ∨ wrT r v
theorem Par.wrT {L : List Sm} {a b : Nat} {T : Fst} (h : Par L a b T) {v : Nat} : wrT T v → ∃ j, a ≤ j ∧ j < b ∧ WrAt L j v := by
  induction h with
  | nil a => exact fun h => h.elim
  | one a b T s hs ho h6 hr ih =>
    have hle := hr.le
    rintro (⟨h1, h2⟩ | h)
    · exact ⟨a, Nat.le_refl _, by omega, s, hs, h1, h2⟩
    · obtain ⟨j, h1, h2, h3⟩ := ih h; exact ⟨j, by omega, h2, h3⟩
  | nest a e b B T s hs he hb hr ih1 ih2 =>
    have h1 := hb.le; have h2 := hr.le
    rintro (h | h)
    · obtain ⟨j, h3, h4, h5⟩ := ih1 h; exact ⟨j, by omega, by omega, h5⟩
    · obtain ⟨j, h3, h4, h5⟩ := ih2 h; exact ⟨j, by omega, by omega, h5⟩
theorem step_other {src : Int → Nat → Int} {s : Sm} (hs : stOk s = true) {v : Nat} (h : ¬ (wr s ∧ s.v = v)) (x : Sx) : (step1 src s x).V[v]? = x.V[v]? := by
  rcases step_cases src s x with ⟨hk, e⟩ | ⟨hk, e⟩ | ⟨_, e⟩ | ⟨_, _, e⟩ <;> rw [e]
  · have := st_var hs (.inl hk)
    have hne : s.v ≠ v := fun e => h ⟨.inl hk, e⟩
    simp only [List.getElem?_set_ne (show s.v.toNat ≠ v by omega)]
  · have := st_var hs (.inr hk)
    have hne : s.v ≠ v := fun e => h ⟨.inr hk, e⟩
    simp only [List.getElem?_set_ne (show s.v.toNat ≠ v by omega)]
theorem exec_unwritten (src : Int → Nat → Int) : ∀ (T : Fst) (x : Sx), Vld T → ∀ v, ¬ wrT T v → (exec src T x).V[v]? = x.V[v]?
  | .nil, x, _, v, _ => rfl
  | .one s r, x, hv, v, h => by
    simp only [exec]
    rw [exec_unwritten src r _ hv.2 v (fun e => h (.inr e)), step_other hv.1 (fun e => h (.inl e))]
  | .nest s b r, x, hv, v, h => by
    simp only [exec]
    rw [exec_unwritten src r _ hv.2.2 v (fun e => h (.inr e))]
    exact rep_ind (P := fun y => y.V[v]? = x.V[v]?) (fun y hy => (exec_unwritten src b y hv.2.1 v (fun e => h (.inl e))).trans hy) _ x rfl

/-! What is sensed: an execution that is given the values that another one sensed does the same. -/
theorem step_pre (src : Int → Nat → Int) (s : Sm) (x : Sx) : x.U <+: (step1 src s x).U := by
  rcases step_cases src s x with ⟨_, e⟩ | ⟨_, e⟩ | ⟨_, e⟩ | ⟨_, _, e⟩ <;> rw [e]
  · exact List.prefix_refl _
  · exact List.prefix_append _ _
  · exact List.prefix_refl _
  · exact List.prefix_refl _
theorem exec_pre (src : Int → Nat → Int) : ∀ (T : Fst) (x : Sx), x.U <+: (exec src T x).U
  | .nil, _ => List.prefix_refl _
  | .one s r, x => (step_pre src s x).trans (exec_pre src r _)
  | .nest _ b r, x => (rep_ind (P := fun y => x.U <+: y.U) (fun y hy => hy.trans (exec_pre src b y)) _ x (List.prefix_refl _)).trans (exec_pre src r _)
theorem rep_pre (src : Int → Nat → Int) (b : Fst) (n : Nat) (x : Sx) : x.U <+: (rep (exec src b) n x).U :=
  rep_ind (P := fun y => x.U <+: y.U) (fun y hy => hy.trans (exec_pre src b y)) n x (List.prefix_refl _)
theorem pre_get {A B : List Int} (h : A <+: B) {n : Nat} (hn : n < A.length) : B.getD n 0 = A.getD n 0 := by
  obtain ⟨t, rfl⟩ := h
  rw [List.getD_eq_getElem?_getD, List.getD_eq_getElem?_getD, List.getElem?_append_left hn]
def listSrc (Y : List Int) : Int → Nat → Int := fun _ n => Y.getD n 0
theorem step_src {src : Int → Nat → Int} {Y : List Int} {s : Sm} {x : Sx} (h : (step1 src s x).U <+: Y) : step1 (listSrc Y) s x = step1 src s x := by
  rcases step_cases src s x with ⟨hk, e⟩ | ⟨hk, e⟩ | ⟨hk, e⟩ | ⟨h1, h3, e⟩
  · rw [e, step_set _ hk]
  · rw [e] at h ⊢
    rw [step_sense _ hk]
    have : listSrc Y s.n x.U.length = src s.n x.U.length := by
      unfold listSrc
      rw [pre_get h (by simp)]
      simp [List.getD_eq_getElem?_getD]
    rw [this]
  · rw [e, step_send _ hk]
  · rw [e, step_else _ (fun e => h1 (.inl e)) (fun e => h1 (.inr e)) h3]
theorem rep_src {src : Int → Nat → Int} {Y : List Int} {b : Fst} (h : ∀ x, (exec src b x).U <+: Y → exec (listSrc Y) b x = exec src b x) : ∀ (n : Nat) (x : Sx), (rep (exec src b) n x).U <+: Y → rep (exec (listSrc Y) b) n x = rep (exec src b) n x
  | 0, _, _ => rfl
  | n + 1, x, hp => by
    rw [rep_succ] at hp ⊢
    rw [rep_succ, h x ((rep_pre src b n _).trans hp)]
    exact rep_src h n _ hp
theorem exec_src {src : Int → Nat → Int} {Y : List Int} : ∀ (T : Fst) (x : Sx), (exec src T x).U <+: Y → exec (listSrc Y) T x = exec src T x
  | .nil, _, _ => rfl
  | .one s r, x, h => by
    simp only [exec] at h ⊢
    rw [step_src ((exec_pre src r _).trans h)]
    exact exec_src r _ h
  | .nest s b r, x, h => by
    simp only [exec] at h ⊢
    rw [rep_src (fun y => exec_src b y) _ x ((exec_pre src r _).trans h)]
    exact exec_src r _ h
end Go.Proofs.Ytekdnhhmiabngaa.exe
