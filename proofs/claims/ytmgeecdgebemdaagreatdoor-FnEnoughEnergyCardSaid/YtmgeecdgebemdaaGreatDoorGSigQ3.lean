/- Several texts in one: QExeA QExeB QBox QStmC QEqS QStmR QTkA. -/
import Derived.Test.YtmgeecdgebemdaaGreatDoorGSigQ2
import Derived.Test.YtmgeecdgebemdaaGreatDoorGSigQ0
import Derived.Deep.MidRow
import Derived.Laws.ResultCell
import Derived.Laws.Rows
import Derived.Test.YtmgeecdgebemdaaGreatDoorGSigQ1

/- Blocks as trees, and what executing one does. Plain mathematics. -/
namespace Go.Proofs.YtmgeecdgebemdaaGreatDoor.exe
open Go Go.Proofs.YtmgeecdgebemdaaGreatDoor.stm Go.Proofs.YtmgeecdgebemdaaGreatDoor.blk Go.Proofs.YtmgeecdgebemdaaGreatDoor.expr Go.Proofs.YtmgeecdgebemdaaGreatDoor.sets Go.Proofs.YtmgeecdgebemdaaGreatDoor.val
theorem vars_set {V : List Int} (h : varsOk V = true) {q : Int} (hq : isVal q = true) (j : Nat) : varsOk (V.set j q) = true := by
  obtain ⟨h1, h2⟩ := (varsOk_iff V).1 h
  refine (varsOk_iff _).2 ⟨by simpa using h1, fun x hx => ?_⟩
  rcases List.mem_or_eq_of_mem_set hx with h | h
  · exact h2 x h
  · rw [h]; exact hq
/-- A stretch of a block, as a tree. -/
inductive Fst
  | nil
  | one (s : Sm) (r : Fst)
  | nest (s : Sm) (b r : Fst)
/-- The state of an execution: the variables, what has been sent, what has been sensed. -/
structure Sx where
  (V S U : List Int)
def step1 (src : Int → Nat → Int) (s : Sm) (x : Sx) : Sx :=
  if s.k = 1 then ⟨x.V.set s.v.toNat (evalV x.V s.o s.a s.b), x.S, x.U⟩
  else if s.k = 2 then ⟨x.V.set s.v.toNat (src s.n x.U.length), x.S, x.U ++ [src s.n x.U.length]⟩
  else if s.k = 3 then ⟨x.V, x.S ++ [evalV x.V s.o s.a s.b], x.U⟩ else x
/-- How often the body is executed. -/
def its (s : Sm) (x : Sx) : Nat := if s.k = 4 then (if evalV x.V s.o s.a s.b = 0 then 0 else 1) else s.n.toNat
def rep (f : Sx → Sx) : Nat → Sx → Sx
  | 0, x => x
  | n + 1, x => rep f n (f x)
def exec (src : Int → Nat → Int) : Fst → Sx → Sx
  | .nil, x => x
  | .one s r, x => exec src r (step1 src s x)
  | .nest s b r, x => exec src r (rep (exec src b) (its s x) x)
theorem rep_zero (f : Sx → Sx) (x : Sx) : rep f 0 x = x := rfl
theorem rep_succ (f : Sx → Sx) (n : Nat) (x : Sx) : rep f (n + 1) x = rep f n (f x) := rfl
theorem rep_ind {f : Sx → Sx} {P : Sx → Prop} (h : ∀ x, P x → P (f x)) : ∀ (n : Nat) (x : Sx), P x → P (rep f n x)
  | 0, _, hx => hx
  | n + 1, x, hx => rep_ind h n (f x) (h x hx)
theorem step_set (src : Int → Nat → Int) {s : Sm} (h : s.k = 1) (x : Sx) : step1 src s x = ⟨x.V.set s.v.toNat (evalV x.V s.o s.a s.b), x.S, x.U⟩ := by unfold step1; rw [if_pos h]
theorem step_sense (src : Int → Nat → Int) {s : Sm} (h : s.k = 2) (x : Sx) : step1 src s x = ⟨x.V.set s.v.toNat (src s.n x.U.length), x.S, x.U ++ [src s.n x.U.length]⟩ := by
  unfold step1; rw [if_neg (by omega), if_pos h]
theorem step_send (src : Int → Nat → Int) {s : Sm} (h : s.k = 3) (x : Sx) : step1 src s x = ⟨x.V, x.S ++ [evalV x.V s.o s.a s.b], x.U⟩ := by
  unfold step1; rw [if_neg (by omega), if_neg (by omega), if_pos h]
theorem step_else (src : Int → Nat → Int) {s : Sm} (h1 : s.k ≠ 1) (h2 : s.k ≠ 2) (h3 : s.k ≠ 3) (x : Sx) : step1 src s x = x := by
  unfold step1; rw [if_neg h1, if_neg h2, if_neg h3]
theorem step_cases (src : Int → Nat → Int) (s : Sm) (x : Sx) : (s.k = 1 ∧ step1 src s x = ⟨x.V.set s.v.toNat (evalV x.V s.o s.a s.b), x.S, x.U⟩) ∨
    (s.k = 2 ∧ step1 src s x = ⟨x.V.set s.v.toNat (src s.n x.U.length), x.S, x.U ++ [src s.n x.U.length]⟩) ∨ (s.k = 3 ∧ step1 src s x = ⟨x.V, x.S ++ [evalV x.V s.o s.a s.b], x.U⟩) ∨
    (¬ wr s ∧ s.k ≠ 3 ∧ step1 src s x = x) := by
  by_cases h1 : s.k = 1
  · exact .inl ⟨h1, step_set src h1 x⟩
  by_cases h2 : s.k = 2
  · exact .inr (.inl ⟨h2, step_sense src h2 x⟩)
  by_cases h3 : s.k = 3
  · exact .inr (.inr (.inl ⟨h3, step_send src h3 x⟩))
  · exact .inr (.inr (.inr ⟨fun h => h.elim h1 h2, h3, step_else src h1 h2 h3 x⟩))

/-- The stretch from 'a' to 'b' is this tree. -/
inductive Par (L : List Sm) : Nat → Nat → Fst → Prop
  | nil (a : Nat) : Par L a a .nil
  | one (a b : Nat) (T : Fst) (s : Sm) (hs : L[a]? = some s) (ho : opn s = false) (h6 : s.k ≠ 6) (hr : Par L (a + 1) b T) : Par L a b (.one s T)
  | nest (a e b : Nat) (B T : Fst) (s : Sm) (hs : L[a]? = some s) (he : IsEnd L a e) (hb : Par L (a + 1) e B) (hr : Par L (e + 1) b T) : Par L a b (.nest s B T)
theorem Par.le {L : List Sm} {a b : Nat} {T : Fst} (h : Par L a b T) : a ≤ b := by
  induction h with
  | nil => exact Nat.le_refl _
  | one => omega
  | nest a e b B T s hs he hb hr _ ih => have := he.1; omega
theorem Par.unique {L : List Sm} {a b : Nat} {T : Fst} (h : Par L a b T) : ∀ {T' : Fst}, Par L a b T' → T = T' := by
  induction h with
  | nil a =>
    intro T' h'
    cases h' with
    | nil => rfl
    | one _ _ _ s hs ho _ hr => have := hr.le; omega
    | nest _ e _ _ _ s hs he hb hr => have := hr.le; have := he.1; omega
  | one a b T s hs ho h6 hr ih =>
    intro T' h'
    cases h' with
    | nil => have := hr.le; omega
    | one _ _ _ s' hs' ho' _ hr' => rw [hs] at hs'; cases hs'; rw [ih hr']
    | nest _ e _ _ _ s' hs' he' hb' hr' =>
      obtain ⟨s2, hs2, ho2⟩ := he'.opens
      rw [hs] at hs2; cases hs2; rw [ho] at ho2; cases ho2
  | nest a e b B T s hs he hb hr ih1 ih2 =>
    intro T' h'
    cases h' with
    | nil => have := hr.le; have := he.1; omega
    | one _ _ _ s' hs' ho' _ hr' =>
      obtain ⟨s2, hs2, ho2⟩ := he.opens
      rw [hs'] at hs2; cases hs2; rw [ho'] at ho2; cases ho2
    | nest _ e' _ _ _ s' hs' he' hb' hr' =>
      obtain rfl := he.unique he'
      rw [hs] at hs'; cases hs'
      rw [ih1 hb', ih2 hr']
theorem par_of_runs {L : List Sm} {a b : Nat} {x : Int} (h : Runs L a b x) : ∃ T, Par L a b T := by
  induction h with
  | nil a => exact ⟨_, .nil a⟩
  | one a b x s hs ho h6 hr ih => obtain ⟨T, hT⟩ := ih; exact ⟨_, .one a b T s hs ho h6 hT⟩
  | nest a e b x y s hs he hb hr ih1 ih2 => obtain ⟨B, hB⟩ := ih1; obtain ⟨T, hT⟩ := ih2; exact ⟨_, .nest a e b B T s hs he hB hT⟩
theorem par_ex {L : List Sm} (hb : IsBlk L) : ∃ T, Par L 0 L.length T := by
  obtain ⟨x, hx⟩ := runs_ex hb L.length 0 L.length (by omega) (flat_all hb)
  exact par_of_runs hx
/-- How many statements the tree executes at most. -/
def cnt : Fst → Int
  | .nil => 0
  | .one _ r => 1 + cnt r
  | .nest s b r => max 1 s.n * cnt b + cnt r
theorem Par.runs {L : List Sm} {a b : Nat} {T : Fst} (h : Par L a b T) : Runs L a b (cnt T) := by
  induction h with
  | nil a => exact .nil a
  | one a b T s hs ho h6 hr ih => exact .one a b _ s hs ho h6 ih
  | nest a e b B T s hs he hb hr ih1 ih2 => exact .nest a e b _ _ s hs he ih1 ih2
theorem cnt_nonneg : ∀ T : Fst, 0 ≤ cnt T
  | .nil => by simp [cnt]
  | .one _ r => by have := cnt_nonneg r; simp only [cnt]; omega
  | .nest s b r => by
    have h1 := cnt_nonneg b
    have h2 := cnt_nonneg r
    have h3 : 0 ≤ max 1 s.n * cnt b := Int.mul_nonneg (by omega) h1
    simp only [cnt]; omega
theorem st_var {s : Sm} (h : stOk s = true) (hw : wr s) : 0 ≤ s.v ∧ s.v ≤ 7 := by
  unfold stOk at h
  rcases hw with e | e
  · rw [if_pos e] at h; simp [varOk] at h; omega
  · rw [if_neg (by omega), if_pos e] at h; simp [varOk] at h; omega
theorem st_loop {s : Sm} (h : stOk s = true) (hw : s.k = 5) : 1 ≤ s.n ∧ s.n ≤ 5 := by
  unfold stOk at h
  rw [if_neg (by omega), if_neg (by omega), if_neg (by omega), if_neg (by omega), if_pos hw] at h; simp at h; omega
theorem st_expr {s : Sm} (h : stOk s = true) (hw : rds s) : exprOk s.o s.a s.b = true := by
  unfold stOk at h
  rcases hw with e | e | e
  · rw [if_pos e] at h; simp at h; exact h.2.2
  · rw [if_neg (by omega), if_neg (by omega), if_pos e] at h; simp at h; exact h.2.2
  · rw [if_neg (by omega), if_neg (by omega), if_neg (by omega), if_pos e] at h; simp at h; exact h.2.2

/-! The number of sent and sensed values. -/
def tot (x : Sx) : Int := x.S.length + x.U.length
theorem tot_step (src : Int → Nat → Int) (s : Sm) (x : Sx) : tot (step1 src s x) ≤ tot x + 1 := by
  rcases step_cases src s x with ⟨_, e⟩ | ⟨_, e⟩ | ⟨_, e⟩ | ⟨_, _, e⟩ <;> rw [e] <;> simp [tot] <;> omega
theorem rep_tot {f : Sx → Sx} {c : Int} (h : ∀ x, tot (f x) ≤ tot x + c) : ∀ (n : Nat) (x : Sx), tot (rep f n x) ≤ tot x + n * c
  | 0, x => by rw [rep_zero]; simp
  | n + 1, x => by
    rw [rep_succ]
    have h1 := rep_tot h n (f x)
    have h2 := h x
    have h3 : ((n + 1 : Nat) : Int) * c = n * c + c := by rw [Int.natCast_add, Int.add_mul]; simp
    omega
theorem its_le (s : Sm) (x : Sx) : (its s x : Int) ≤ max 1 s.n := by
  unfold its
  split
  · split <;> omega
  · omega
theorem exec_tot (src : Int → Nat → Int) : ∀ (T : Fst) (x : Sx), tot (exec src T x) ≤ tot x + cnt T
  | .nil, x => by simp [exec, cnt]
  | .one s r, x => by
    have h1 := exec_tot src r (step1 src s x)
    have h2 := tot_step src s x
    simp only [exec, cnt]; omega
  | .nest s b r, x => by
    have h1 := exec_tot src r (rep (exec src b) (its s x) x)
    have h2 := rep_tot (fun y => exec_tot src b y) (its s x) x
    have h3 : (its s x : Int) * cnt b ≤ max 1 s.n * cnt b := Int.mul_le_mul_of_nonneg_right (its_le s x) (cnt_nonneg b)
    simp only [exec, cnt]; omega

/-! The variables. -/
/-- Every value of the state is a value of the range. -/
def Good (x : Sx) : Prop := varsOk x.V = true ∧ (∀ q ∈ x.S, isVal q = true) ∧ ∀ q ∈ x.U, isVal q = true
theorem step_good {src : Int → Nat → Int} (hsrc : ∀ q n, isVal (src q n) = true) (s : Sm) {x : Sx} (h : Good x) : Good (step1 src s x) := by
  obtain ⟨h1, h2, h3⟩ := h
  rcases step_cases src s x with ⟨_, e⟩ | ⟨_, e⟩ | ⟨_, e⟩ | ⟨_, _, e⟩ <;> rw [e]
  · exact ⟨vars_set h1 (evalV_val _ _ _ _) _, h2, h3⟩
  · refine ⟨vars_set h1 (hsrc _ _) _, h2, fun q hq => ?_⟩
    rcases List.mem_append.1 hq with h | h
    · exact h3 q h
    · rw [List.mem_singleton.1 h]; exact hsrc _ _
  · refine ⟨h1, fun q hq => ?_, h3⟩
    rcases List.mem_append.1 hq with h | h
    · exact h2 q h
    · rw [List.mem_singleton.1 h]; exact evalV_val _ _ _ _
  · exact ⟨h1, h2, h3⟩
theorem exec_good {src : Int → Nat → Int} (hsrc : ∀ q n, isVal (src q n) = true) : ∀ (T : Fst) {x : Sx}, Good x → Good (exec src T x)
  | .nil, _, h => h
  | .one s r, _, h => exec_good hsrc r (step_good hsrc s h)
  | .nest _ b r, x, h => exec_good hsrc r (rep_ind (P := Good) (fun _ hy => exec_good hsrc b hy) _ x h)
/-! What is sensed: an execution that is given the values that another one sensed does the same. -/
theorem step_pre (src : Int → Nat → Int) (s : Sm) (x : Sx) : x.U <+: (step1 src s x).U := by
  rcases step_cases src s x with ⟨_, e⟩ | ⟨_, e⟩ | ⟨_, e⟩ | ⟨_, _, e⟩ <;> rw [e]
  · exact List.prefix_refl _
  · exact List.prefix_append _ _
  · exact List.prefix_refl _
  · exact List.prefix_refl _
theorem exec_pre (src : Int → Nat → Int) : ∀ (T : Fst) (x : Sx), x.U <+: (exec src T x).U
  | .nil, _ => List.prefix_refl _
  | .one s r, x => (step_pre src s x).trans (exec_pre src r _)
  | .nest _ b r, x => (rep_ind (P := fun y => x.U <+: y.U) (fun y hy => hy.trans (exec_pre src b y)) _ x (List.prefix_refl _)).trans (exec_pre src r _)
theorem rep_pre (src : Int → Nat → Int) (b : Fst) (n : Nat) (x : Sx) : x.U <+: (rep (exec src b) n x).U :=
  rep_ind (P := fun y => x.U <+: y.U) (fun y hy => hy.trans (exec_pre src b y)) n x (List.prefix_refl _)
theorem pre_get {A B : List Int} (h : A <+: B) {n : Nat} (hn : n < A.length) : B.getD n 0 = A.getD n 0 := by
  obtain ⟨t, rfl⟩ := h
  rw [List.getD_eq_getElem?_getD, List.getD_eq_getElem?_getD, List.getElem?_append_left hn]
def listSrc (Y : List Int) : Int → Nat → Int := fun _ n => Y.getD n 0
theorem step_src {src : Int → Nat → Int} {Y : List Int} {s : Sm} {x : Sx} (h : (step1 src s x).U <+: Y) : step1 (listSrc Y) s x = step1 src s x := by
  rcases step_cases src s x with ⟨hk, e⟩ | ⟨hk, e⟩ | ⟨hk, e⟩ | ⟨h1, h3, e⟩
  · rw [e, step_set _ hk]
  · rw [e] at h ⊢
    rw [step_sense _ hk]
    have : listSrc Y s.n x.U.length = src s.n x.U.length := by
      unfold listSrc
      rw [pre_get h (by simp)]
      simp [List.getD_eq_getElem?_getD]
    rw [this]
  · rw [e, step_send _ hk]
  · rw [e, step_else _ (fun e => h1 (.inl e)) (fun e => h1 (.inr e)) h3]
theorem rep_src {src : Int → Nat → Int} {Y : List Int} {b : Fst} (h : ∀ x, (exec src b x).U <+: Y → exec (listSrc Y) b x = exec src b x) : ∀ (n : Nat) (x : Sx), (rep (exec src b) n x).U <+: Y → rep (exec (listSrc Y) b) n x = rep (exec src b) n x
  | 0, _, _ => rfl
  | n + 1, x, hp => by
    rw [rep_succ] at hp ⊢
    rw [rep_succ, h x ((rep_pre src b n _).trans hp)]
    exact rep_src h n _ hp
theorem exec_src {src : Int → Nat → Int} {Y : List Int} : ∀ (T : Fst) (x : Sx), (exec src T x).U <+: Y → exec (listSrc Y) T x = exec src T x
  | .nil, _, _ => rfl
  | .one s r, x, h => by
    simp only [exec] at h ⊢
    rw [step_src ((exec_pre src r _).trans h)]
    exact exec_src r _ h
  | .nest s b r, x, h => by
    simp only [exec] at h ⊢
    rw [rep_src (fun y => exec_src b y) _ x ((exec_pre src r _).trans h)]
    exact exec_src r _ h
end Go.Proofs.YtmgeecdgebemdaaGreatDoor.exe

/- Executions from two states that agree on what is read: they send and sense the same, and agree on what is certainly written. Plain mathematics. -/
namespace Go.Proofs.YtmgeecdgebemdaaGreatDoor.exe
open Go Go.Proofs.YtmgeecdgebemdaaGreatDoor.stm Go.Proofs.YtmgeecdgebemdaaGreatDoor.blk Go.Proofs.YtmgeecdgebemdaaGreatDoor.expr Go.Proofs.YtmgeecdgebemdaaGreatDoor.sets Go.Proofs.YtmgeecdgebemdaaGreatDoor.val
/-! The tree and the places of the block. -/
theorem wrAt_iff {L : List Sm} {a v : Nat} {s : Sm} (hs : L[a]? = some s) : WrAt L a v ↔ wr s ∧ s.v = v :=
  ⟨fun ⟨t, ht, h⟩ => by rw [hs] at ht; cases ht; exact h, fun h => ⟨s, hs, h⟩⟩
end Go.Proofs.YtmgeecdgebemdaaGreatDoor.exe

/- A law for a store of a whole struct into a block that is known whole: behind it the block is the stored cells; nothing else is written. -/
namespace Go.Proofs.YtmgeecdgebemdaaGreatDoor.row
open Go.ChangeShapes Go.WideShapes Go.ChangeAt Go.RowKit
theorem box_setCells {t : TypeId} (g : Nat) : ∀ (vs : List Value) (o : Nat) (w : World) (cs : Array Value), Box g cs t w → ∃ cs' : Array Value, cs'.size = cs.size ∧ Box g cs' t (w.setCells g o vs)
  | [], _, _, cs, h => ⟨cs, rfl, h⟩
  | v :: r, o, w, cs, h => by
    obtain ⟨cs', h1, h2⟩ := box_setCells g r (o + 1) (w.setCell ⟨g, o, none⟩ v) _ (h.set o v)
    exact ⟨cs', by rw [h1]; simp, h2⟩
theorem grown_setCells (g : Nat) : ∀ (vs : List Value) (o : Nat) (w : World), w.grownBy (w.setCells g o vs) (some g)
  | [], _, w => grown_refl w _
  | v :: r, o, w => grown_trans (grown_setCell w g o v) (grown_setCells g r (o + 1) (w.setCell ⟨g, o, none⟩ v))
theorem box_there {t : TypeId} {g : Nat} {cs : Array Value} {w : World} (h : Box g cs t w) : w.there g 0 cs.size := fun j hj => by
  refine ⟨?_, h.frozen _⟩
  rw [h.cell, Nat.zero_add]; simp [hj]
theorem box_stored {t : TypeId} {g : Nat} {cs : Array Value} {w : World} (h : Box g cs t w) (cells : Array Value) (hs : cells.size = cs.size) : Box g cells t (w.setCells g 0 cells.toList) := by
  obtain ⟨cs', h1, h2⟩ := box_setCells g cells.toList 0 w cs h
  have e : cs' = cells := by
    apply Array.ext (by omega)
    intro i hi1 hi2
    have hc := h2.cell i
    have hin := World.cell?_setCells_in g cells.toList 0 w (fun j hj => by have := (box_there h j (by simp at hj; omega)).1; simpa using this) i (by simpa using hi2)
    rw [Nat.zero_add] at hin
    rw [hin, Array.getElem?_eq_getElem hi1] at hc
    have := Option.some.inj hc
    simpa using this.symm
  rw [← e]; rw [← e] at h2; exact h2

theorem wpList_store_box {P : Program} {ops : Array Oper} {rest : List Oper} {op : Oper} {a : Act} {w : World} {Q : Exit → Act → World → Prop} (hgd : op.guard = none) (ty : TypeId) (x y : Operand) (ho : op.op = .store ty x y)
    (g : Nat) (cs : Array Value) (t : TypeId) (hb : Box g cs t w) (cells : Array Value) (hx : a.eval x = .pointer (some ⟨g, 0, none⟩)) (hy : a.eval y = .agg cells) (hs : cells.size = cs.size)
    (hi : (P.info? ty).map (·.size) = some cells.size) (h1 : cells.all (·.oneCell') = true)
    (h : ∀ w', Box g cells t w' → w.grownBy w' (some g) → wpList P ops Q rest (a.put op.dst undef) w') : wpList P ops Q (op :: rest) a w :=
  wpList_store_mid hgd ty x y ho g 0 cells hx hy (by rw [hs]; exact box_there hb) hi h1 (h _ (box_stored hb cells hs) (grown_setCells g _ 0 w))
/-- Two results: a struct in a block that is known whole, and a value. -/
theorem results_box2 {P : Program} {fn : Func} {p u : Tmp} {ty : TypeId} (h : fn.results = #[.cell p ty, .tmp u]) (tmps : Array Value) (w : World) (g : Nat) (t : TypeId) (cs : Array Value) (d : TypeDesc) (r : Value)
    (hp : tmps.getD p undef = .pointer (some ⟨g, 0, none⟩)) (hr : tmps.getD u undef = r) (hg : Box g cs t w)
    (hu : P.underlying ty = some d) (hd : (match d with | .struct _ | .array _ _ => true | _ => false) = true) (hi : (P.info? ty).map (·.size) = some cs.size) :
    (results fn tmps).run P w = .ok (.tuple #[.agg cs, r]) w := by
  rw [results_cell_tmp h, hp, hr]
  simp [asAddr, run_loadVar_row w g t ty cs (0, 0) d hg hu hd hi, Result.andThen]
end Go.Proofs.YtmgeecdgebemdaaGreatDoor.row

/- A statement is copied field by field, into the program's own type. -/
namespace Go.Proofs.YtmgeecdgebemdaaGreatDoor.stm
open Go.ChangeShapes Go.WideShapes Go.ChangeAt Go.RowKit Go.Proofs.YtmgeecdgebemdaaGreatDoor.row Go.Proofs.YtmgeecdgebemdaaGreatDoor.val Go.Proofs.YtmgeecdgebemdaaGreatDoor.expr
end Go.Proofs.YtmgeecdgebemdaaGreatDoor.stm

/- The law's own comparison of two statements, at two that are the same. -/
namespace Go.Proofs.YtmgeecdgebemdaaGreatDoor.stm
open Go.ChangeShapes Go.WideShapes Go.ChangeAt Go.RowKit Go.Proofs.YtmgeecdgebemdaaGreatDoor.row Go.Proofs.YtmgeecdgebemdaaGreatDoor.val Go.Proofs.YtmgeecdgebemdaaGreatDoor.expr
end Go.Proofs.YtmgeecdgebemdaaGreatDoor.stm

/- Rows of statements: a slice that reads as a list of statements; the law's own copy, size and comparison of such a slice. -/
namespace Go.Proofs.YtmgeecdgebemdaaGreatDoor.stm
open Go Go.ChangeShapes Go.WideShapes Go.ChangeAt Go.RowKit Go.Proofs.YtmgeecdgebemdaaGreatDoor.row Go.Proofs.YtmgeecdgebemdaaGreatDoor.val Go.Proofs.YtmgeecdgebemdaaGreatDoor.expr
/-- The slice at 'a' of 'n' statements reads as the list 'L'. -/
def StRow (w : World) (a : Option Addr) (n : Nat) (L : List St) : Prop :=
  L.length = n ∧ ∀ k, k < n → ∃ (b off : Nat) (s : St), a = some ⟨b, off, none⟩ ∧ b < w.heap.size ∧ L[k]? = some s ∧ w.rangeAt b (off + k * 6) (stC s)
theorem StRow.below {w w' : World} {a : Option Addr} {n : Nat} {L : List St} (h : StRow w a n L) (hb : Below w.heap.size w w') : StRow w' a n L :=
  ⟨h.1, fun k hk => by
    obtain ⟨b, off, s, rfl, hlt, hs, hr⟩ := h.2 k hk
    exact ⟨b, off, s, rfl, Nat.lt_of_lt_of_le hlt hb.size, hs, fun j v hv => (hb.cell (p := ⟨b, off + k * 6 + j, none⟩) hlt).trans (hr j v hv)⟩⟩
theorem StRow.nil (w : World) (a : Option Addr) : StRow w a 0 [] := ⟨rfl, fun k hk => by omega⟩
theorem StRow.take {w : World} {a : Option Addr} {n : Nat} {L : List St} (h : StRow w a n L) (k : Nat) (hk : k ≤ n) : StRow w a k (L.take k) :=
  ⟨by rw [List.length_take, h.1]; omega, fun j hj => by
    obtain ⟨b, off, s, e, hlt, hs, hr⟩ := h.2 j (by omega)
    exact ⟨b, off, s, e, hlt, by rw [List.getElem?_take, if_pos hj]; exact hs, hr⟩⟩
/-- A block that is a list of statements, whole. -/
theorem StRow.of_box {w : World} {g : Nat} {L : List St} {t : TypeId} (h : Box g (stsC L).toArray t w) : StRow w (some ⟨g, 0, none⟩) L.length L :=
  ⟨rfl, fun k hk => ⟨g, 0, L[k], rfl, h.lt, by simp [hk], fun j v hv => by
    have hj : j < 6 := by have := (List.getElem?_eq_some_iff.1 hv).1; simpa [stC] using this
    have h2 := stsC_at (L := L) (i := k) (s := L[k]) (by simp [hk]) j hj
    rw [show 0 + k * 6 + j = k * 6 + j by omega, h.cell]
    rw [List.getElem?_toArray, h2, hv]⟩⟩
theorem StRow.of_own {w : World} {base : Nat} {a : Option Addr} {n cap : Nat} {L : List St} {t : TypeId} (h : w.ownsRow base t 6 (.slice a n cap) n (stsC L)) : StRow w a n L := by
  have hl : L.length = n := by have := h.1; rw [stsC_len] at this; omega
  refine ⟨hl, fun k hk => ?_⟩
  obtain ⟨g, c, hv, _, hg⟩ := h.form (by omega)
  injection hv with h1 h2 h3
  subst h1
  refine ⟨g, 0, L[k], rfl, hg, by simp [hl, hk], fun j v hjv => ?_⟩
  have hj : j < 6 := by have := (List.getElem?_eq_some_iff.1 hjv).1; simpa [stC] using this
  have h4 := stsC_at (L := L) (i := k) (s := L[k]) (by simp [hl, hk]) j hj
  rw [show 0 + k * 6 + j = k * 6 + j by omega, h.cellAt (k * 6 + j) (by omega), h4, hjv]
theorem own_box {w : World} {base g n : Nat} {t : TypeId} {xs : List Value} (h : w.ownsRow base t 6 (.slice (some ⟨g, 0, none⟩) n n) n xs) : Box g xs.toArray t w := by
  rcases h.2 with ⟨h0, _⟩ | ⟨g', cap, cur, hv, _, hg, _, _, hs, ht⟩
  · simp at h0
  · simp only [Value.slice.injEq, Option.some.injEq, Addr.mk.injEq, and_true, true_and] at hv
    obtain ⟨rfl, rfl⟩ := hv
    have e : xs = cur.toList := by rw [← ht]; exact List.take_of_length_le (by rw [Array.length_toList, hs]; exact Nat.le_refl _)
    unfold Box
    rw [e, Array.toArray_toList]; exact hg
theorem infoStmt : (Tryz.prog.info? 112).map (fun i => (i.zero, i.size, i.bytes)) = some (some (stV ⟨0, 0, 0, 0, 0, 0⟩), 6, 48) := by kernel_rfl
end Go.Proofs.YtmgeecdgebemdaaGreatDoor.stm

/- Tasks and programs: plain data; a slice that reads as a list of tasks; the law's own copy, size and comparison of such a slice. -/
namespace Go.Proofs.YtmgeecdgebemdaaGreatDoor.prg
open Go Go.ChangeShapes Go.WideShapes Go.ChangeAt Go.RowKit Go.Proofs.YtmgeecdgebemdaaGreatDoor.row Go.Proofs.YtmgeecdgebemdaaGreatDoor.val Go.Proofs.YtmgeecdgebemdaaGreatDoor.expr Go.Proofs.YtmgeecdgebemdaaGreatDoor.stm Go.Proofs.YtmgeecdgebemdaaGreatDoor.blk
/-- A task: its statements and the three numbers of its expression. -/
structure Tk where
  b : List Go.Proofs.YtmgeecdgebemdaaGreatDoor.stm.St
  (o x y : Int)
def tkC (a : Option Addr) (n c : Nat) (t : Tk) : List Value := [.slice a n c, .int .i64 t.o, .int .i64 t.x, .int .i64 t.y]
abbrev tkV (a : Option Addr) (n c : Nat) (t : Tk) : Value := .agg #[.slice a n c, .int .i64 t.o, .int .i64 t.x, .int .i64 t.y]
/-- A valid program. -/
def IsPrg (P : List Tk) : Prop := 1 ≤ P.length ∧ P.length ≤ 6 ∧ ∀ t ∈ P, IsBlk t.b ∧ exprOk t.o t.x t.y = true
/-- The task that lies at this place. -/
def TkAt (w : World) (g o : Nat) (t : Tk) : Prop := ∃ (ab : Option Addr) (nb cb : Nat), w.rangeAt g o (tkC ab nb cb t) ∧ nb ≤ cb ∧ StRow w ab nb t.b
theorem TkAt.below {w w' : World} {g o : Nat} {t : Tk} (h : TkAt w g o t) (hg : g < w.heap.size) (hb : Below w.heap.size w w') : TkAt w' g o t := by
  obtain ⟨ab, nb, cb, h1, h2, h3⟩ := h
  exact ⟨ab, nb, cb, fun j v hj => (hb.cell (p := ⟨g, o + j, none⟩) hg).trans (h1 j v hj), h2, h3.below hb⟩
/-- The slice at 'a' of 'n' tasks reads as the list 'P'. -/
def TkRow (w : World) (a : Option Addr) (n : Nat) (P : List Tk) : Prop :=
  P.length = n ∧ ∀ k, k < n → ∃ (g off : Nat) (t : Tk), a = some ⟨g, off, none⟩ ∧ g < w.heap.size ∧ P[k]? = some t ∧ TkAt w g (off + k * 4) t
theorem TkRow.below {w w' : World} {a : Option Addr} {n : Nat} {P : List Tk} (h : TkRow w a n P) (hb : Below w.heap.size w w') : TkRow w' a n P :=
  ⟨h.1, fun k hk => by
    obtain ⟨g, off, t, rfl, hlt, ht, hT⟩ := h.2 k hk
    exact ⟨g, off, t, rfl, Nat.lt_of_lt_of_le hlt hb.size, ht, hT.below hlt hb⟩⟩
theorem TkRow.nil (w : World) (a : Option Addr) : TkRow w a 0 [] := ⟨rfl, fun k hk => by omega⟩
theorem range4 {w : World} {g o : Nat} {a : Option Addr} {n c : Nat} {t : Tk} (h : w.rangeAt g o (tkC a n c t)) :
    w.cell? ⟨g, o, none⟩ = some (.slice a n c) ∧ w.cell? ⟨g, o + 1, none⟩ = some (.int .i64 t.o) ∧ w.cell? ⟨g, o + 2, none⟩ = some (.int .i64 t.x) ∧ w.cell? ⟨g, o + 3, none⟩ = some (.int .i64 t.y) :=
  ⟨h 0 _ rfl, h 1 _ rfl, h 2 _ rfl, h 3 _ rfl⟩
/-- No list is longer than this. -/
def Sizes (P : List Tk) : Prop := P.length ≤ 1048576 ∧ ∀ t ∈ P, t.b.length ≤ 1048576
abbrev zeroTk : Array Value := #[.slice none 0 0, .int .i64 0, .int .i64 0, .int .i64 0]

/-- A row of statements in one block stands as long as that block is not written. -/
theorem StRow.grown_box {w w' : World} {g o n : Nat} {L : List Go.Proofs.YtmgeecdgebemdaaGreatDoor.stm.St} {r : Option Nat} (h : StRow w (some ⟨g, o, none⟩) n L) (hg : w.grownBy w' r) (hne : some g ≠ r) : StRow w' (some ⟨g, o, none⟩) n L :=
  ⟨h.1, fun k hk => by
    obtain ⟨b, off, s, e, hlt, hs, hr⟩ := h.2 k hk
    simp only [Option.some.injEq, Addr.mk.injEq, and_true] at e
    obtain ⟨rfl, rfl⟩ := e
    exact ⟨g, o, s, rfl, Nat.lt_of_lt_of_le hlt hg.size, hs, fun j v hv => hg.cell (hr j v hv) hne⟩⟩
/-- A list of tasks in blocks from 'lo' on. -/
def TkFrom (lo : Nat) (w : World) (a : Option Addr) (n : Nat) (P : List Tk) : Prop :=
  P.length = n ∧ ∀ k, k < n → ∃ (g : Nat) (t : Tk) (gb nb c : Nat), a = some ⟨g, 0, none⟩ ∧ lo ≤ g ∧ g < w.heap.size ∧ P[k]? = some t ∧ w.rangeAt g (k * 4) (tkC (some ⟨gb, 0, none⟩) nb c t) ∧ nb ≤ c ∧ lo ≤ gb ∧ StRow w (some ⟨gb, 0, none⟩) nb t.b
theorem TkFrom.row {lo : Nat} {w : World} {a : Option Addr} {n : Nat} {P : List Tk} (h : TkFrom lo w a n P) : TkRow w a n P :=
  ⟨h.1, fun k hk => by
    obtain ⟨g, t, gb, nb, c, h1, _, h3, h4, h5, h5c, _, h7⟩ := h.2 k hk
    exact ⟨g, 0, t, h1, h3, h4, _, nb, c, by rw [Nat.zero_add]; exact h5, h5c, h7⟩⟩
theorem TkFrom.mono {lo lo' : Nat} {w : World} {a : Option Addr} {n : Nat} {P : List Tk} (h : TkFrom lo w a n P) (hl : lo' ≤ lo) : TkFrom lo' w a n P :=
  ⟨h.1, fun k hk => by
    obtain ⟨g, t, gb, nb, c, h1, h2, h3, h4, h5, h5c, h6, h7⟩ := h.2 k hk
    exact ⟨g, t, gb, nb, c, h1, by omega, h3, h4, h5, h5c, by omega, h7⟩⟩
theorem TkFrom.grown {lo : Nat} {w w' : World} {a : Option Addr} {n G : Nat} {P : List Tk} (h : TkFrom lo w a n P) (hg : w.grownBy w' (some G)) (hG : G < lo) : TkFrom lo w' a n P :=
  ⟨h.1, fun k hk => by
    obtain ⟨g, t, gb, nb, c, h1, h2, h3, h4, h5, h5c, h6, h7⟩ := h.2 k hk
    exact ⟨g, t, gb, nb, c, h1, h2, Nat.lt_of_lt_of_le h3 hg.size, h4, fun j v hv => hg.cell (h5 j v hv) (fun e => by have : g = G := Option.some.inj e; omega), h5c, h6, StRow.grown_box h7 hg (fun e => by have := Option.some.inj e; omega)⟩⟩
theorem TkFrom.below {lo : Nat} {w w' : World} {a : Option Addr} {n : Nat} {P : List Tk} (h : TkFrom lo w a n P) (hb : Below w.heap.size w w') : TkFrom lo w' a n P :=
  ⟨h.1, fun k hk => by
    obtain ⟨g, t, gb, nb, c, h1, h2, h3, h4, h5, h5c, h6, h7⟩ := h.2 k hk
    exact ⟨g, t, gb, nb, c, h1, h2, Nat.lt_of_lt_of_le h3 hb.size, h4, fun j v hv => (hb.cell (p := ⟨g, k * 4 + j, none⟩) h3).trans (h5 j v hv), h5c, h6, h7.below hb⟩⟩
end Go.Proofs.YtmgeecdgebemdaaGreatDoor.prg
