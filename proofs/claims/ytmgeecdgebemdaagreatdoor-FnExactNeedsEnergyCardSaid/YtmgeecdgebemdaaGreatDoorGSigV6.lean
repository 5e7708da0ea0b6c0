/- Several texts in one: VTrcC VSetA VEvalB VEvalE VExeA. -/
import Derived.Test.YtmgeecdgebemdaaGreatDoorGSigV5
import Derived.Test.YtmgeecdgebemdaaGreatDoorGSigV0
import Derived.Test.YtmgeecdgebemdaaGreatDoorGSigV3
import Derived.Test.YtmgeecdgebemdaaGreatDoorGSigV1
import Derived.Laws.EntriesVeiled

/- Chapter 14, plain mathematics: steps: what they cost, the writes among them, how many of them an energy allows. -/
namespace Go.Proofs.YtmgeecdgebemdaaGreatDoor.trc
open Go Go.Proofs.YtmgeecdgebemdaaGreatDoor.wrt
/-- A step: what it costs, the word that it writes or -1, the value. -/
structure Mic where
  (c a v : Int)
deriving DecidableEq
def kindT (k : Int) : Int := if k = 1 then 2 else if k = 2 then 5 else if k = 3 then 4 else if k = 4 then 1 else if k = 5 then 1 else 0
def stepM (k : Int) : Mic := ⟨kindT k, -1, 0⟩
def wrM (a v : Int) : Mic := ⟨3, a, v⟩
/-! All writes together. -/
theorem putAll_nil (W : List Int) : putAll W [] = W := rfl
/-! Costs. -/
def CostOk (M : List Mic) : Prop := ∀ m ∈ M, 1 ≤ m.c ∧ m.c ≤ 5
theorem CostOk.app {M N : List Mic} (h : CostOk M) (k : CostOk N) : CostOk (M ++ N) := fun m hm => (List.mem_append.1 hm).elim (h m) (k m)
theorem kind_cost {k : Int} (h : 1 ≤ k) (h5 : k ≤ 5) : 1 ≤ kindT k ∧ kindT k ≤ 5 := by
  unfold kindT
  split
  · omega
  split
  · omega
  split
  · omega
  split
  · omega
  split <;> omega
theorem step_cost {k : Int} (h : 1 ≤ k) (h5 : k ≤ 5) : CostOk [stepM k] := fun m hm => by rw [List.mem_singleton.1 hm]; exact kind_cost h h5
theorem wr_cost {M : List Mic} (h : CostOk M) (a v : Int) : CostOk (wrM a v :: M) := fun m hm => by
  rcases List.mem_cons.1 hm with rfl | hm
  · simp [wrM]
  · exact h m hm
theorem nil_cost : CostOk [] := fun m hm => by cases hm
def csts (M : List Mic) : List Int := M.map (·.c)
/-- The sum of all costs as an int. -/
def costW (C : List Int) : Int := C.foldl (fun n c => IntKind.i64.wrap (n + c)) 0
where
  sum_nonneg : ∀ C : List Int, (∀ c ∈ C, 0 ≤ c) → 0 ≤ C.sum
    | [], _ => by simp
    | c :: C, h => by
      rw [List.sum_cons]
      have h1 := h c (by simp)
      have h2 := sum_nonneg C (fun x hx => h x (by simp [hx]))
      omega
theorem sum_bounds : ∀ (C : List Int), (∀ c ∈ C, 1 ≤ c ∧ c ≤ 5) → (C.length : Int) ≤ C.sum ∧ C.sum ≤ 5 * C.length
  | [], _ => by simp
  | c :: C, h => by
    rw [List.sum_cons, List.length_cons]
    have h1 := h c (by simp)
    have h2 := sum_bounds C (fun x hx => h x (by simp [hx]))
    omega
theorem cost_sum {C : List Int} (h : ∀ c ∈ C, 1 ≤ c ∧ c ≤ 5) (hl : C.length ≤ 100000) : costW C = C.sum := by
  have key : ∀ (C : List Int) (a : Int), (∀ c ∈ C, 1 ≤ c ∧ c ≤ 5) → 0 ≤ a → a + 5 * C.length ≤ 1000000 → C.foldl (fun n c => IntKind.i64.wrap (n + c)) a = a + C.sum := by
    intro C
    induction C with
    | nil => intro a _ _ _; simp
    | cons c C ih =>
      intro a h h0 hb
      have h1 := h c (by simp)
      rw [List.length_cons] at hb
      rw [List.foldl_cons, IntWalk.i64_in _ (by omega), ih (a + c) (fun x hx => h x (by simp [hx])) (by omega) (by omega), List.sum_cons]
      omega
  have := key C 0 h (by omega) (by omega)
  simpa [costW] using this
end Go.Proofs.YtmgeecdgebemdaaGreatDoor.trc

/- The sets of variables of a block: what may be written, what is certainly written ahead of a place, what can be read before it is written. Plain mathematics. -/
namespace Go.Proofs.YtmgeecdgebemdaaGreatDoor.sets
open Go Go.Proofs.YtmgeecdgebemdaaGreatDoor.stm Go.Proofs.YtmgeecdgebemdaaGreatDoor.blk Go.Proofs.YtmgeecdgebemdaaGreatDoor.expr
abbrev Sm := Go.Proofs.YtmgeecdgebemdaaGreatDoor.stm.St
/-- The statement writes its variable. -/
def wr (s : Sm) : Prop := s.k = 1 ∨ s.k = 2
/-- The statement reads its expression. -/
def rds (s : Sm) : Prop := s.k = 1 ∨ s.k = 3 ∨ s.k = 4
/-- The variables of a set, in ascending order, below 'k'. -/
def lst (f : Nat → Bool) (k : Nat) : List Int := ((List.range k).filter f).map fun (j : Nat) => (j : Int)
theorem lst_yes {f : Nat → Bool} {k : Nat} (h : f k = true) : lst f (k + 1) = lst f k ++ [(k : Int)] := by simp [lst, List.range_succ, h]
theorem lst_no {f : Nat → Bool} {k : Nat} (h : f k = false) : lst f (k + 1) = lst f k := by simp [lst, List.range_succ, h]
theorem lst_len (f : Nat → Bool) (k : Nat) : (lst f k).length ≤ k := by
  have := List.length_filter_le f (List.range k)
  simpa [lst] using this
theorem lst_congr {f g : Nat → Bool} {k : Nat} (h : ∀ v, v < k → f v = g v) : lst f k = lst g k := by
  unfold lst
  rw [List.filter_congr (fun v hv => h v (List.mem_range.1 hv))]
theorem lst_mem {f : Nat → Bool} {k v : Nat} : (v : Int) ∈ lst f k ↔ v < k ∧ f v = true := by
  unfold lst
  simp only [List.mem_map, List.mem_filter, List.mem_range]
  constructor
  · rintro ⟨a, h, e⟩
    obtain rfl : a = v := by omega
    exact h
  · exact fun h => ⟨v, h, rfl⟩
theorem lst_nil {f : Nat → Bool} (h : ∀ v, f v = false) : ∀ k, lst f k = []
  | 0 => rfl
  | k + 1 => by rw [lst_no (h k), lst_nil h k]
/-- The statement 'j' writes the variable 'v'. -/
def WrAt (B : List Sm) (j v : Nat) : Prop := ∃ s, B[j]? = some s ∧ wr s ∧ s.v = v
/-- Written ahead of the place 'p', in some execution. -/
def MayTo (B : List Sm) (p v : Nat) : Prop := ∃ j, j < p ∧ WrAt B j v
/-- The place 'p' lies inside the condition 'i'. -/
def InIf (B : List Sm) (i p : Nat) : Prop := ∃ e s, B[i]? = some s ∧ s.k = 4 ∧ IsEnd B i e ∧ i < p ∧ p ≤ e
/-- Certainly written ahead of the place 'p'. -/
def WAt (B : List Sm) (p v : Nat) : Prop := ∃ j, j < p ∧ WrAt B j v ∧ ∀ i, InIf B i j → InIf B i p
/-- The statement 'j' reads the variable 'v'. -/
def RdAt (B : List Sm) (j v : Nat) : Prop := ∃ s, B[j]? = some s ∧ rds s ∧ (v : Int) ∈ rd s.a s.b 8
/-- Read ahead of the place 'p', before it is certainly written. -/
def FAt (B : List Sm) (p v : Nat) : Prop := ∃ j, j < p ∧ RdAt B j v ∧ ¬ WAt B j v

theorem mayTo_zero {B : List Sm} {v : Nat} : ¬ MayTo B 0 v := fun ⟨j, h, _⟩ => by omega
theorem mayTo_succ {B : List Sm} {p v : Nat} : MayTo B (p + 1) v ↔ MayTo B p v ∨ WrAt B p v := by
  constructor
  · rintro ⟨j, hj, h⟩
    by_cases e : j = p
    · subst e; exact .inr h
    · exact .inl ⟨j, by omega, h⟩
  · rintro (⟨j, hj, h⟩ | h)
    · exact ⟨j, by omega, h⟩
    · exact ⟨p, by omega, h⟩
/-- Ends are nested. -/
theorem end_in {B : List Sm} {i e i' e' : Nat} (h : IsEnd B i e) (h' : IsEnd B i' e') (h1 : i' < i) (h2 : i ≤ e') : e < e' := by
  have a1 := h'.2.2.2 i h1 h2
  rcases Nat.lt_trichotomy e e' with hlt | rfl | hlt
  · exact hlt
  · have := h.2.2.1; have := h'.2.2.1; omega
  · have := h.2.2.2 (e' + 1) (by omega) (by omega); have := h'.2.2.1; omega
theorem wAt_zero {B : List Sm} {v : Nat} : ¬ WAt B 0 v := fun ⟨j, h, _⟩ => by omega
theorem WrAt.not6 {B : List Sm} {j v i e : Nat} (h : WrAt B j v) (he : IsEnd B i e) : j ≠ e := by
  rintro rfl
  obtain ⟨s, hs, hw, _⟩ := h
  obtain ⟨t, ht, h6⟩ := he.kind
  rw [hs] at ht
  cases ht
  rcases hw with h | h <;> omega
/-- One place on, where no condition ends. -/
theorem wAt_succ {B : List Sm} {p v : Nat} (hp : ∀ i s, B[i]? = some s → s.k = 4 → ¬ IsEnd B i p) : WAt B (p + 1) v ↔ WAt B p v ∨ WrAt B p v := by
  constructor
  · rintro ⟨j, hj, hw, hi⟩
    by_cases e : j = p
    · subst e; exact .inr hw
    · refine .inl ⟨j, by omega, hw, fun i h => ?_⟩
      obtain ⟨e1, s1, h1, h2, h3, h4, h5⟩ := h
      obtain ⟨e2, s2, g1, g2, g3, g4, g5⟩ := hi i ⟨e1, s1, h1, h2, h3, h4, h5⟩
      exact ⟨e2, s2, g1, g2, g3, by omega, by omega⟩
  · rintro (⟨j, hj, hw, hi⟩ | hw)
    · refine ⟨j, by omega, hw, fun i h => ?_⟩
      obtain ⟨e2, s2, g1, g2, g3, g4, g5⟩ := hi i h
      have : p ≠ e2 := fun e => hp i s2 g1 g2 (by rw [e]; exact g3)
      exact ⟨e2, s2, g1, g2, g3, by omega, by omega⟩
    · refine ⟨p, by omega, hw, fun i h => ?_⟩
      obtain ⟨e2, s2, g1, g2, g3, g4, g5⟩ := h
      have := hw.not6 g3
      exact ⟨e2, s2, g1, g2, g3, by omega, by omega⟩
/-- A condition discards what it wrote. -/
theorem wAt_if {B : List Sm} {i e v : Nat} {s : Sm} (hs : B[i]? = some s) (h4 : s.k = 4) (he : IsEnd B i e) : WAt B (e + 1) v ↔ WAt B i v := by
  constructor
  · rintro ⟨j, hj, hw, hi⟩
    have hji : j < i := by
      by_cases h : j < i
      · exact h
      · exfalso
        by_cases e2 : j = i
        · subst e2
          obtain ⟨t, ht, hw2, _⟩ := hw
          rw [hs] at ht; cases ht
          rcases hw2 with h | h <;> omega
        · obtain ⟨e2, s2, g1, g2, g3, g4, g5⟩ := hi i ⟨e, s, hs, h4, he, by omega, by omega⟩
          have := he.unique g3
          omega
    refine ⟨j, hji, hw, fun i' h => ?_⟩
    obtain ⟨e1, s1, h1, h2, h3, h5, h6⟩ := h
    obtain ⟨e2, s2, g1, g2, g3, g4, g5⟩ := hi i' ⟨e1, s1, h1, h2, h3, h5, h6⟩
    have := he.1
    exact ⟨e2, s2, g1, g2, g3, by omega, by omega⟩
  · rintro ⟨j, hj, hw, hi⟩
    refine ⟨j, by have := he.1; omega, hw, fun i' h => ?_⟩
    obtain ⟨e2, s2, g1, g2, g3, g4, g5⟩ := hi i' h
    have := end_in he g3 g4 g5
    exact ⟨e2, s2, g1, g2, g3, by have := he.1; omega, by omega⟩
theorem fAt_zero {B : List Sm} {v : Nat} : ¬ FAt B 0 v := fun ⟨j, h, _⟩ => by omega
theorem fAt_succ {B : List Sm} {p v : Nat} : FAt B (p + 1) v ↔ FAt B p v ∨ (RdAt B p v ∧ ¬ WAt B p v) := by
  constructor
  · rintro ⟨j, hj, h⟩
    by_cases e : j = p
    · subst e; exact .inr h
    · exact .inl ⟨j, by omega, h⟩
  · rintro (⟨j, hj, h⟩ | h)
    · exact ⟨j, by omega, h⟩
    · exact ⟨p, by omega, h⟩
/-- The end reads and writes nothing. -/
theorem end_nothing {B : List Sm} {i e v : Nat} (he : IsEnd B i e) : ¬ WrAt B e v ∧ ¬ RdAt B e v := by
  obtain ⟨t, ht, h6⟩ := he.kind
  constructor
  · rintro ⟨s, hs, hw, _⟩
    rw [hs] at ht; cases ht
    rcases hw with h | h <;> omega
  · rintro ⟨s, hs, hw, _⟩
    rw [hs] at ht; cases ht
    rcases hw with h | h | h <;> omega
/-- No condition is around the place. -/
def Out (B : List Sm) (p : Nat) : Prop := ∀ i, ¬ InIf B i p
theorem Out.zero (B : List Sm) : Out B 0 := fun i ⟨_, _, _, _, _, h, _⟩ => by omega
theorem Out.noEnd {B : List Sm} {p : Nat} (h : Out B p) : ∀ i s, B[i]? = some s → s.k = 4 → ¬ IsEnd B i p := fun i s hs h4 he => h i ⟨p, s, hs, h4, he, he.1, Nat.le_refl _⟩
theorem Out.succ {B : List Sm} {p : Nat} {s : Sm} (h : Out B p) (hs : B[p]? = some s) (h4 : s.k ≠ 4) : Out B (p + 1) := fun i ⟨e, t, h1, h2, h3, h5, h6⟩ => by
  by_cases e1 : i = p
  · subst e1; rw [hs] at h1; cases h1; exact h4 h2
  · exact h i ⟨e, t, h1, h2, h3, by omega, by omega⟩
theorem Out.jump {B : List Sm} {i e : Nat} (h : Out B i) (he : IsEnd B i e) : Out B (e + 1) := fun i' ⟨e', t, h1, h2, h3, h5, h6⟩ => by
  rcases Nat.lt_trichotomy i' i with hlt | rfl | hlt
  · exact h i' ⟨e', t, h1, h2, h3, hlt, by have := he.1; omega⟩
  · have := he.unique h3; omega
  · have := end_in h3 he hlt (by omega); omega
/-- A part of a block that begins and ends at the same height and is nowhere lower. -/
def Seg (B : List Sm) (a b : Nat) : Prop := a ≤ b ∧ b ≤ B.length ∧ hAt B b = hAt B a ∧ ∀ j, a ≤ j → j ≤ b → hAt B a ≤ hAt B j
theorem Seg.all {B : List Sm} (h : IsBlk B) : Seg B 0 B.length := ⟨Nat.zero_le _, Nat.le_refl _, by rw [h.2.1, hAt_zero], fun j _ _ => by rw [hAt_zero]; exact (blk_bounds h j).1⟩
theorem Seg.not6 {B : List Sm} {a b p : Nat} {s : Sm} (h : Seg B a b) (hp : a ≤ p) (hpb : p < b) (hh : hAt B p = hAt B a) (hs : B[p]? = some s) : s.k ≠ 6 := fun h6 => by
  have h1 := hAt_succ hs
  rw [dlt_end h6] at h1
  have := h.2.2.2 (p + 1) (by omega) (by omega)
  omega
theorem Seg.noEnd {B : List Sm} {a b p : Nat} (h : Seg B a b) (hp : a ≤ p) (hpb : p < b) (hh : hAt B p = hAt B a) : ∀ i s, B[i]? = some s → s.k = 4 → ¬ IsEnd B i p := fun i s _ _ he => by
  obtain ⟨t, ht, h6⟩ := he.kind
  exact h.not6 hp hpb hh ht h6
theorem Seg.inner {B : List Sm} {a b i e : Nat} (h : Seg B a b) (hib : i < b) (hh : hAt B i = hAt B a) (he : IsEnd B i e) : e < b ∧ Seg B (i + 1) e ∧ hAt B (e + 1) = hAt B a := by
  have h1 := he.2.2.1
  have heb : e < b := by
    by_cases h9 : e < b
    · exact h9
    · have := he.2.2.2 b hib (by omega); have := h.2.2.1; omega
  obtain ⟨s, hs, ho⟩ := he.opens
  have h2 := hAt_succ hs
  rw [dlt_opn ho] at h2
  refine ⟨heb, ⟨by have := he.1; omega, by have := h.2.1; omega, ?_, fun j h3 h4 => ?_⟩, by omega⟩
  · have := he.depth; omega
  · have := he.2.2.2 j (by omega) h4; omega
end Go.Proofs.YtmgeecdgebemdaaGreatDoor.sets

/- Chapter 3's EvalExpr, of the program and of the model: the plain function 'evalV'; nothing that was there is written. -/
namespace Go.Proofs.YtmgeecdgebemdaaGreatDoor.expr
open Go.ChangeShapes Go.WideShapes Go.ChangeAt Go.RowKit Go.Proofs.YtmgeecdgebemdaaGreatDoor.row Go.Proofs.YtmgeecdgebemdaaGreatDoor.val
def bit (b : Bool) : Int := if b then 1 else 0
def evalOf (o A B : Int) : Int :=
  if o = 1 then sat (sat A + sat B) else if o = 2 then sat (sat A - sat B) else if o = 3 then sat (sat A * sat B)
  else if o = 4 then min A B else if o = 5 then max A B else if o = 6 then bit (decide (A < B)) else bit (decide (A = B))
def evalV (L : List Int) (o a b : Int) : Int := if varsOk L && exprOk o a b then evalOf o (valOf L a) (valOf L b) else 0
theorem evalV_no {L : List Int} {o a b : Int} (h : varsOk L = false ∨ exprOk o a b = false) : evalV L o a b = 0 := by
  rcases h with h | h <;> simp [evalV, h]
theorem evalV_ok {L : List Int} {o a b : Int} (h : varsOk L = true) (h2 : exprOk o a b = true) : evalV L o a b = evalOf o (valOf L a) (valOf L b) := by simp [evalV, h, h2]
theorem exprOk_iff (o a b : Int) : exprOk o a b = true ↔ (1 ≤ o ∧ o ≤ 7) ∧ opndOk a = true ∧ opndOk b = true := by simp [exprOk, opOk]

theorem ev1 (A B : Int) : evalOf 1 A B = sat (sat A + sat B) := by simp [evalOf]
theorem ev2 (A B : Int) : evalOf 2 A B = sat (sat A - sat B) := by simp [evalOf]
theorem ev3 (A B : Int) : evalOf 3 A B = sat (sat A * sat B) := by simp [evalOf]
theorem ev4 (A B : Int) : evalOf 4 A B = min A B := by simp [evalOf]
theorem ev5 (A B : Int) : evalOf 5 A B = max A B := by simp [evalOf]
theorem ev6 (A B : Int) : evalOf 6 A B = bit (decide (A < B)) := by simp [evalOf]
theorem ev7 (A B : Int) : evalOf 7 A B = bit (decide (A = B)) := by simp [evalOf]
section model
set_option maxRecDepth 100000 in
theorem spec_bit (b : Bool) (w : World) : Calls Tryz.prog 179 #[.bool b] w (Ret w (bit b)) := by
  cases b
  · go_enter Tryz.func179, Tryz.ntmps179
    go_wp2
    go_ret
    exact ⟨rfl, rfl⟩
  · go_enter Tryz.func179, Tryz.ntmps179
    go_wp2
    go_ret
    exact ⟨rfl, rfl⟩
set_option maxHeartbeats 1000000 in
set_option maxRecDepth 100000 in
theorem spec_eval (w : World) (ad : Option Addr) (n cap : Nat) (L : List Int) (h : Row w ad n L) (hv : varsOk L = true) (o a b : Int) (ho : 1 ≤ o ∧ o ≤ 7) (ha : opndOk a = true) (hb : opndOk b = true) :
    Calls Tryz.prog 176 #[.slice ad n cap, ev o a b] w (BelI w (evalOf o (valOf L a) (valOf L b))) := by
  have HR : Hid (∀ w' : World, Below w.heap.size w w' → Row w' ad n L) := fun w' hb => h.below hb
  have HV := Lib.hid hv
  clear h hv
  rcases (show o = 1 ∨ o = 2 ∨ o = 3 ∨ o = 4 ∨ o = 5 ∨ o = 6 ∨ o = 7 by omega) with rfl | rfl | rfl | rfl | rfl | rfl | rfl
  all_goals
    clear ho
    go_enter Tryz.func176, Tryz.ntmps176
    go_wp2_with (first
      | (go_at_call 211; refine (spec_value _ ad n cap L (HR.out _ ((Below.refl _ _).alloc (Nat.le_refl _) _)) HV.out _ (by assumption)).mono ?_; rintro e w1 ⟨rfl, rfl⟩)
      | (go_at_call 212; refine (spec_add _ _ _).mono ?_; rintro e w1 ⟨rfl, rfl⟩)
      | (go_at_call 213; refine (spec_sub _ _ _).mono ?_; rintro e w1 ⟨rfl, rfl⟩)
      | (go_at_call 214; refine (spec_mul _ _ _).mono ?_; rintro e w1 ⟨rfl, rfl⟩)
      | (go_at_call 179; refine (spec_bit _ _).mono ?_; rintro e w1 ⟨rfl, rfl⟩))
    all_goals
      go_ret
      refine ⟨ret_i ?_, (Below.refl _ _).alloc (Nat.le_refl _) _⟩
      first | exact (ev1 _ _).symm | exact (ev2 _ _).symm | exact (ev3 _ _).symm | exact (ev4 _ _).symm | exact (ev5 _ _).symm | exact (ev6 _ _).symm | exact (ev7 _ _).symm | (rw [ev4]; omega) | (rw [ev5]; omega)
end model
section program
set_option maxRecDepth 100000 in
theorem impl_one (b : Bool) (w : World) : Calls Tryz.prog 243 #[.bool b] w (Ret w (bit b)) := by
  cases b
  · go_enter Tryz.func243, Tryz.ntmps243
    go_wp2
    go_ret
    exact ⟨rfl, rfl⟩
  · go_enter Tryz.func243, Tryz.ntmps243
    go_wp2
    go_ret
    exact ⟨rfl, rfl⟩
set_option maxRecDepth 100000 in
theorem impl_min (x y : Int) (w : World) : Calls Tryz.prog 227 #[.int .i64 x, .int .i64 y] w (Ret w (min x y)) := by
  go_enter Tryz.func227, Tryz.ntmps227
  go_wp2
  all_goals
    go_ret
    exact ⟨ret_i (by omega), rfl⟩
set_option maxRecDepth 100000 in
theorem impl_max (x y : Int) (w : World) : Calls Tryz.prog 228 #[.int .i64 x, .int .i64 y] w (Ret w (max x y)) := by
  go_enter Tryz.func228, Tryz.ntmps228
  go_wp2
  all_goals
    go_ret
    exact ⟨ret_i (by omega), rfl⟩
set_option maxRecDepth 100000 in
theorem impl_less (x y : Int) (w : World) : Calls Tryz.prog 229 #[.int .i64 x, .int .i64 y] w (Ret w (bit (decide (x < y)))) := by
  go_enter Tryz.func229, Tryz.ntmps229
  go_wp2_with (go_at_call 243; refine (impl_one _ _).mono ?_; rintro e w1 ⟨rfl, rfl⟩)
  go_ret
  exact ⟨rfl, rfl⟩
set_option maxRecDepth 100000 in
theorem impl_same (x y : Int) (w : World) : Calls Tryz.prog 230 #[.int .i64 x, .int .i64 y] w (Ret w (bit (decide (x = y)))) := by
  go_enter Tryz.func230, Tryz.ntmps230
  go_wp2_with (go_at_call 243; refine (impl_one _ _).mono ?_; rintro e w1 ⟨rfl, rfl⟩)
  go_ret
  exact ⟨rfl, rfl⟩
abbrev opsV : Value := .agg #[.nilFunc, .func (.func 184) #[] #[], .func (.func 225) #[] #[], .func (.func 226) #[] #[],
  .func (.func 227) #[] #[], .func (.func 228) #[] #[], .func (.func 229) #[] #[], .func (.func 230) #[] #[]]
set_option maxRecDepth 100000 in
theorem impl_ops (w : World) : Calls Tryz.prog 195 #[] w fun e w' => e = .returned opsV ∧ Below w.heap.size w w' := by
  go_enter Tryz.func195, Tryz.ntmps195
  go_wp2
  refine bodyPost_ret (v := opsV) (by simp [results, Tryz.results195, go_sem]) rfl ⟨rfl, (Below.refl _ _).alloc (Nat.le_refl _) _⟩
end program
end Go.Proofs.YtmgeecdgebemdaaGreatDoor.expr

/- The value of an expression is a value. Plain mathematics. -/
namespace Go.Proofs.YtmgeecdgebemdaaGreatDoor.expr
open Go.ChangeShapes Go.WideShapes Go.ChangeAt Go.RowKit Go.Proofs.YtmgeecdgebemdaaGreatDoor.row Go.Proofs.YtmgeecdgebemdaaGreatDoor.val
theorem sat_val (n : Int) : isVal (sat n) = true := isVal_in (sat_bd n).1 (sat_bd n).2
theorem bit_val (b : Bool) : isVal (bit b) = true := by cases b <;> rfl
theorem valOf_val {L : List Int} (h : varsOk L = true) {m : Int} (hm : opndOk m = true) : isVal (valOf L m) = true := by
  have hb := (opndOk_iff m).1 hm
  unfold valOf
  split
  · rename_i h0
    obtain ⟨h1, _⟩ := opnd_at h hm h0
    rw [List.getD_eq_getElem?_getD, List.getElem?_eq_getElem h1]
    exact ((varsOk_iff L).1 h).2 _ (List.getElem_mem h1)
  · exact isVal_in (by omega) (by omega)
theorem evalOf_val {o A B : Int} (hA : isVal A = true) (hB : isVal B = true) : isVal (evalOf o A B) = true := by
  have a := (isVal_iff A).1 hA
  have b := (isVal_iff B).1 hB
  unfold evalOf
  split
  · exact sat_val _
  split
  · exact sat_val _
  split
  · exact sat_val _
  split
  · exact isVal_in (by omega) (by omega)
  split
  · exact isVal_in (by omega) (by omega)
  split
  · exact bit_val _
  · exact bit_val _
theorem evalV_val (L : List Int) (o a b : Int) : isVal (evalV L o a b) = true := by
  unfold evalV
  split
  · rename_i h
    rw [Bool.and_eq_true] at h
    obtain ⟨_, ha, hb⟩ := (exprOk_iff o a b).1 h.2
    exact evalOf_val (valOf_val h.1 ha) (valOf_val h.1 hb)
  · rfl
end Go.Proofs.YtmgeecdgebemdaaGreatDoor.expr

/- Blocks as trees, and what executing one does. Plain mathematics. -/
namespace Go.Proofs.YtmgeecdgebemdaaGreatDoor.exe
open Go Go.Proofs.YtmgeecdgebemdaaGreatDoor.stm Go.Proofs.YtmgeecdgebemdaaGreatDoor.blk Go.Proofs.YtmgeecdgebemdaaGreatDoor.expr Go.Proofs.YtmgeecdgebemdaaGreatDoor.sets Go.Proofs.YtmgeecdgebemdaaGreatDoor.val
theorem vars_set {V : List Int} (h : varsOk V = true) {q : Int} (hq : isVal q = true) (j : Nat) : varsOk (V.set j q) = true := by
  obtain ⟨h1, h2⟩ := (varsOk_iff V).1 h
  refine (varsOk_iff _).2 ⟨by simpa using h1, fun x hx => ?_⟩
  rcases List.mem_or_eq_of_mem_set hx with h | h
  · exact h2 x h
  · rw [h]; exact hq
/-- A stretch of a block, as a tree. -/
inductive Fst
  | nil
  | one (s : Sm) (r : Fst)
  | nest (s : Sm) (b r : Fst)
/-- The state of an execution: the variables, what has been sent, what has been sensed. -/
structure Sx where
  (V S U : List Int)
def step1 (src : Int → Nat → Int) (s : Sm) (x : Sx) : Sx :=
  if s.k = 1 then ⟨x.V.set s.v.toNat (evalV x.V s.o s.a s.b), x.S, x.U⟩
  else if s.k = 2 then ⟨x.V.set s.v.toNat (src s.n x.U.length), x.S, x.U ++ [src s.n x.U.length]⟩
  else if s.k = 3 then ⟨x.V, x.S ++ [evalV x.V s.o s.a s.b], x.U⟩ else x
/-- How often the body is executed. -/
def its (s : Sm) (x : Sx) : Nat := if s.k = 4 then (if evalV x.V s.o s.a s.b = 0 then 0 else 1) else s.n.toNat
def rep (f : Sx → Sx) : Nat → Sx → Sx
  | 0, x => x
  | n + 1, x => rep f n (f x)
def exec (src : Int → Nat → Int) : Fst → Sx → Sx
  | .nil, x => x
  | .one s r, x => exec src r (step1 src s x)
  | .nest s b r, x => exec src r (rep (exec src b) (its s x) x)
theorem rep_zero (f : Sx → Sx) (x : Sx) : rep f 0 x = x := rfl
theorem rep_succ (f : Sx → Sx) (n : Nat) (x : Sx) : rep f (n + 1) x = rep f n (f x) := rfl
theorem rep_ind {f : Sx → Sx} {P : Sx → Prop} (h : ∀ x, P x → P (f x)) : ∀ (n : Nat) (x : Sx), P x → P (rep f n x)
  | 0, _, hx => hx
  | n + 1, x, hx => rep_ind h n (f x) (h x hx)
theorem step_set (src : Int → Nat → Int) {s : Sm} (h : s.k = 1) (x : Sx) : step1 src s x = ⟨x.V.set s.v.toNat (evalV x.V s.o s.a s.b), x.S, x.U⟩ := by unfold step1; rw [if_pos h]
theorem step_sense (src : Int → Nat → Int) {s : Sm} (h : s.k = 2) (x : Sx) : step1 src s x = ⟨x.V.set s.v.toNat (src s.n x.U.length), x.S, x.U ++ [src s.n x.U.length]⟩ := by
  unfold step1; rw [if_neg (by omega), if_pos h]
theorem step_send (src : Int → Nat → Int) {s : Sm} (h : s.k = 3) (x : Sx) : step1 src s x = ⟨x.V, x.S ++ [evalV x.V s.o s.a s.b], x.U⟩ := by
  unfold step1; rw [if_neg (by omega), if_neg (by omega), if_pos h]
theorem step_else (src : Int → Nat → Int) {s : Sm} (h1 : s.k ≠ 1) (h2 : s.k ≠ 2) (h3 : s.k ≠ 3) (x : Sx) : step1 src s x = x := by
  unfold step1; rw [if_neg h1, if_neg h2, if_neg h3]
theorem step_cases (src : Int → Nat → Int) (s : Sm) (x : Sx) : (s.k = 1 ∧ step1 src s x = ⟨x.V.set s.v.toNat (evalV x.V s.o s.a s.b), x.S, x.U⟩) ∨
    (s.k = 2 ∧ step1 src s x = ⟨x.V.set s.v.toNat (src s.n x.U.length), x.S, x.U ++ [src s.n x.U.length]⟩) ∨ (s.k = 3 ∧ step1 src s x = ⟨x.V, x.S ++ [evalV x.V s.o s.a s.b], x.U⟩) ∨
    (¬ wr s ∧ s.k ≠ 3 ∧ step1 src s x = x) := by
  by_cases h1 : s.k = 1
  · exact .inl ⟨h1, step_set src h1 x⟩
  by_cases h2 : s.k = 2
  · exact .inr (.inl ⟨h2, step_sense src h2 x⟩)
  by_cases h3 : s.k = 3
  · exact .inr (.inr (.inl ⟨h3, step_send src h3 x⟩))
  · exact .inr (.inr (.inr ⟨fun h => h.elim h1 h2, h3, step_else src h1 h2 h3 x⟩))

/-- The stretch from 'a' to 'b' is this tree. -/
inductive Par (L : List Sm) : Nat → Nat → Fst → Prop
  | nil (a : Nat) : Par L a a .nil
  | one (a b : Nat) (T : Fst) (s : Sm) (hs : L[a]? = some s) (ho : opn s = false) (h6 : s.k ≠ 6) (hr : Par L (a + 1) b T) : Par L a b (.one s T)
  | nest (a e b : Nat) (B T : Fst) (s : Sm) (hs : L[a]? = some s) (he : IsEnd L a e) (hb : Par L (a + 1) e B) (hr : Par L (e + 1) b T) : Par L a b (.nest s B T)
theorem Par.le {L : List Sm} {a b : Nat} {T : Fst} (h : Par L a b T) : a ≤ b := by
  induction h with
  | nil => exact Nat.le_refl _
  | one => omega
  | nest a e b B T s hs he hb hr _ ih => have := he.1; omega
theorem Par.unique {L : List Sm} {a b : Nat} {T : Fst} (h : Par L a b T) : ∀ {T' : Fst}, Par L a b T' → T = T' := by
  induction h with
  | nil a =>
    intro T' h'
    cases h' with
    | nil => rfl
    | one _ _ _ s hs ho _ hr => have := hr.le; omega
    | nest _ e _ _ _ s hs he hb hr => have := hr.le; have := he.1; omega
  | one a b T s hs ho h6 hr ih =>
    intro T' h'
    cases h' with
    | nil => have := hr.le; omega
    | one _ _ _ s' hs' ho' _ hr' => rw [hs] at hs'; cases hs'; rw [ih hr']
    | nest _ e _ _ _ s' hs' he' hb' hr' =>
      obtain ⟨s2, hs2, ho2⟩ := he'.opens
      rw [hs] at hs2; cases hs2; rw [ho] at ho2; cases ho2
  | nest a e b B T s hs he hb hr ih1 ih2 =>
    intro T' h'
    cases h' with
    | nil => have := hr.le; have := he.1; omega
    | one _ _ _ s' hs' ho' _ hr' =>
      obtain ⟨s2, hs2, ho2⟩ := he.opens
      rw [hs'] at hs2; cases hs2; rw [ho'] at ho2; cases ho2
    | nest _ e' _ _ _ s' hs' he' hb' hr' =>
      obtain rfl := he.unique he'
      rw [hs] at hs'; cases hs'
      rw [ih1 hb', ih2 hr']
theorem par_of_runs {L : List Sm} {a b : Nat} {x : Int} (h : Runs L a b x) : ∃ T, Par L a b T := by
  induction h with
  | nil a => exact ⟨_, .nil a⟩
  | one a b x s hs ho h6 hr ih => obtain ⟨T, hT⟩ := ih; exact ⟨_, .one a b T s hs ho h6 hT⟩
  | nest a e b x y s hs he hb hr ih1 ih2 => obtain ⟨B, hB⟩ := ih1; obtain ⟨T, hT⟩ := ih2; exact ⟨_, .nest a e b B T s hs he hB hT⟩
theorem par_ex {L : List Sm} (hb : IsBlk L) : ∃ T, Par L 0 L.length T := by
  obtain ⟨x, hx⟩ := runs_ex hb L.length 0 L.length (by omega) (flat_all hb)
  exact par_of_runs hx
/-- How many statements the tree executes at most. -/
def cnt : Fst → Int
  | .nil => 0
  | .one _ r => 1 + cnt r
  | .nest s b r => max 1 s.n * cnt b + cnt r
theorem Par.runs {L : List Sm} {a b : Nat} {T : Fst} (h : Par L a b T) : Runs L a b (cnt T) := by
  induction h with
  | nil a => exact .nil a
  | one a b T s hs ho h6 hr ih => exact .one a b _ s hs ho h6 ih
  | nest a e b B T s hs he hb hr ih1 ih2 => exact .nest a e b _ _ s hs he ih1 ih2
theorem cnt_nonneg : ∀ T : Fst, 0 ≤ cnt T
  | .nil => by simp [cnt]
  | .one _ r => by have := cnt_nonneg r; simp only [cnt]; omega
  | .nest s b r => by
    have h1 := cnt_nonneg b
    have h2 := cnt_nonneg r
    have h3 : 0 ≤ max 1 s.n * cnt b := Int.mul_nonneg (by omega) h1
    simp only [cnt]; omega
theorem st_var {s : Sm} (h : stOk s = true) (hw : wr s) : 0 ≤ s.v ∧ s.v ≤ 7 := by
  unfold stOk at h
  rcases hw with e | e
  · rw [if_pos e] at h; simp [varOk] at h; omega
  · rw [if_neg (by omega), if_pos e] at h; simp [varOk] at h; omega
theorem st_loop {s : Sm} (h : stOk s = true) (hw : s.k = 5) : 1 ≤ s.n ∧ s.n ≤ 5 := by
  unfold stOk at h
  rw [if_neg (by omega), if_neg (by omega), if_neg (by omega), if_neg (by omega), if_pos hw] at h; simp at h; omega
theorem st_expr {s : Sm} (h : stOk s = true) (hw : rds s) : exprOk s.o s.a s.b = true := by
  unfold stOk at h
  rcases hw with e | e | e
  · rw [if_pos e] at h; simp at h; exact h.2.2
  · rw [if_neg (by omega), if_neg (by omega), if_pos e] at h; simp at h; exact h.2.2
  · rw [if_neg (by omega), if_neg (by omega), if_neg (by omega), if_pos e] at h; simp at h; exact h.2.2

/-! The number of sent and sensed values. -/
def tot (x : Sx) : Int := x.S.length + x.U.length
theorem tot_step (src : Int → Nat → Int) (s : Sm) (x : Sx) : tot (step1 src s x) ≤ tot x + 1 := by
  rcases step_cases src s x with ⟨_, e⟩ | ⟨_, e⟩ | ⟨_, e⟩ | ⟨_, _, e⟩ <;> rw [e] <;> simp [tot] <;> omega
theorem rep_tot {f : Sx → Sx} {c : Int} (h : ∀ x, tot (f x) ≤ tot x + c) : ∀ (n : Nat) (x : Sx), tot (rep f n x) ≤ tot x + n * c
  | 0, x => by rw [rep_zero]; simp
  | n + 1, x => by
    rw [rep_succ]
    have h1 := rep_tot h n (f x)
    have h2 := h x
    have h3 : ((n + 1 : Nat) : Int) * c = n * c + c := by rw [Int.natCast_add, Int.add_mul]; simp
    omega
theorem its_le (s : Sm) (x : Sx) : (its s x : Int) ≤ max 1 s.n := by
  unfold its
  split
  · split <;> omega
  · omega
theorem exec_tot (src : Int → Nat → Int) : ∀ (T : Fst) (x : Sx), tot (exec src T x) ≤ tot x + cnt T
  | .nil, x => by simp [exec, cnt]
  | .one s r, x => by
    have h1 := exec_tot src r (step1 src s x)
    have h2 := tot_step src s x
    simp only [exec, cnt]; omega
  | .nest s b r, x => by
    have h1 := exec_tot src r (rep (exec src b) (its s x) x)
    have h2 := rep_tot (fun y => exec_tot src b y) (its s x) x
    have h3 : (its s x : Int) * cnt b ≤ max 1 s.n * cnt b := Int.mul_le_mul_of_nonneg_right (its_le s x) (cnt_nonneg b)
    simp only [exec, cnt]; omega

/-! The variables. -/
/-- Every value of the state is a value of the range. -/
def Good (x : Sx) : Prop := varsOk x.V = true ∧ (∀ q ∈ x.S, isVal q = true) ∧ ∀ q ∈ x.U, isVal q = true
theorem step_good {src : Int → Nat → Int} (hsrc : ∀ q n, isVal (src q n) = true) (s : Sm) {x : Sx} (h : Good x) : Good (step1 src s x) := by
  obtain ⟨h1, h2, h3⟩ := h
  rcases step_cases src s x with ⟨_, e⟩ | ⟨_, e⟩ | ⟨_, e⟩ | ⟨_, _, e⟩ <;> rw [e]
  · exact ⟨vars_set h1 (evalV_val _ _ _ _) _, h2, h3⟩
  · refine ⟨vars_set h1 (hsrc _ _) _, h2, fun q hq => ?_⟩
    rcases List.mem_append.1 hq with h | h
    · exact h3 q h
    · rw [List.mem_singleton.1 h]; exact hsrc _ _
  · refine ⟨h1, fun q hq => ?_, h3⟩
    rcases List.mem_append.1 hq with h | h
    · exact h2 q h
    · rw [List.mem_singleton.1 h]; exact evalV_val _ _ _ _
  · exact ⟨h1, h2, h3⟩
theorem exec_good {src : Int → Nat → Int} (hsrc : ∀ q n, isVal (src q n) = true) : ∀ (T : Fst) {x : Sx}, Good x → Good (exec src T x)
  | .nil, _, h => h
  | .one s r, _, h => exec_good hsrc r (step_good hsrc s h)
  | .nest _ b r, x, h => exec_good hsrc r (rep_ind (P := Good) (fun _ hy => exec_good hsrc b hy) _ x h)
/-! What is sensed: an execution that is given the values that another one sensed does the same. -/
def listSrc (Y : List Int) : Int → Nat → Int := fun _ n => Y.getD n 0
end Go.Proofs.YtmgeecdgebemdaaGreatDoor.exe
