/- Several texts in one: SetA EvalB EvalE. -/
import Derived.Test.YtekdnhhmiabngaaGHub4
import Derived.Test.YtekdnhhmiabngaaGHub2
import Derived.Laws.EntriesVeiled

/- The sets of variables of a block: what may be written, what is certainly written ahead of a place, what can be read before it is written. Plain mathematics. -/
namespace Go.Proofs.Ytekdnhhmiabngaa.sets
open Go Go.Proofs.Ytekdnhhmiabngaa.stm Go.Proofs.Ytekdnhhmiabngaa.blk Go.Proofs.Ytekdnhhmiabngaa.expr

abbrev Sm := Go.Proofs.Ytekdnhhmiabngaa.stm.St
/-- The statement writes its variable. -/
def wr (s : Sm) : Prop := s.k = 1 ∨ s.k = 2
/-- The statement reads its expression. -/
def rds (s : Sm) : Prop := s.k = 1 ∨ s.k = 3 ∨ s.k = 4
/-- The variables of a set, in ascending order, below 'k'. -/
def lst (f : Nat → Bool) (k : Nat) : List Int := ((List.range k).filter f).map fun (j : Nat) => (j : Int)
theorem lst_zero (f : Nat → Bool) : lst f 0 = [] := rfl
theorem lst_yes {f : Nat → Bool} {k : Nat} (h : f k = true) : lst f (k + 1) = lst f k ++ [(k : Int)] := by simp [lst, List.range_succ, h]
theorem lst_no {f : Nat → Bool} {k : Nat} (h : f k = false) : lst f (k + 1) = lst f k := by simp [lst, List.range_succ, h]
theorem lst_len (f : Nat → Bool) (k : Nat) : (lst f k).length ≤ k := by
  have := List.length_filter_le f (List.range k)
  simpa [lst] using this
theorem lst_congr {f g : Nat → Bool} {k : Nat} (h : ∀ v, v < k → f v = g v) : lst f k = lst g k := by
  unfold lst
  rw [List.filter_congr (fun v hv => h v (List.mem_range.1 hv))]
theorem lst_mem {f : Nat → Bool} {k v : Nat} : (v : Int) ∈ lst f k ↔ v < k ∧ f v = true := by
  unfold lst
  simp only [List.mem_map, List.mem_filter, List.mem_range]
  constructor
  · rintro ⟨a, h, e⟩
    obtain rfl : a = v := by omega
    exact h
  · exact fun h => ⟨v, h, rfl⟩
theorem lst_nil {f : Nat → Bool} (h : ∀ v, f v = false) : ∀ k, lst f k = []
  | 0 => rfl
  | k + 1 => by rw [lst_no (h k), lst_nil h k]
/-- The statement 'j' writes the variable 'v'. -/
def WrAt (B : List Sm) (j v : Nat) : Prop := ∃ s, B[j]? = some s ∧ wr s ∧ s.v = v
/-- Written ahead of the place 'p', in some execution. -/
def MayTo (B : List Sm) (p v : Nat) : Prop := ∃ j, j < p ∧ WrAt B j v
/-- The place 'p' lies inside the condition 'i'. -/
def InIf (B : List Sm) (i p : Nat) : Prop := ∃ e s, B[i]? = some s ∧ s.k = 4 ∧ IsEnd B i e ∧ i < p ∧ p ≤ e
/-- Certainly written ahead of the place 'p'. -/
def WAt (B : List Sm) (p v : Nat) : Prop := ∃ j, j < p ∧ WrAt B j v ∧ ∀ i, InIf B i j → InIf B i p
/-- The statement 'j' reads the variable 'v'. -/
def RdAt (B : List Sm) (j v : Nat) : Prop := ∃ s, B[j]? = some s ∧ rds s ∧ (v : Int) ∈ rd s.a s.b 8
/-- Read ahead of the place 'p', before it is certainly written. -/
def FAt (B : List Sm) (p v : Nat) : Prop := ∃ j, j < p ∧ RdAt B j v ∧ ¬ WAt B j v

theorem mayTo_zero {B : List Sm} {v : Nat} : ¬ MayTo B 0 v := fun ⟨j, h, _⟩ => by omega
theorem mayTo_succ {B : List Sm} {p v : Nat} : MayTo B (p + 1) v ↔ MayTo B p v ∨ WrAt B p v := by
  constructor
  · rintro ⟨j, hj, h⟩
    by_cases e : j = p
    · subst e; exact .inr h
    · exact .inl ⟨j, by omega, h⟩
  · rintro (⟨j, hj, h⟩ | h)
    · exact ⟨j, by omega, h⟩
    · exact ⟨p, by omega, h⟩
/-- Ends are nested. -/
theorem end_in {B : List Sm} {i e i' e' : Nat} (h : IsEnd B i e) (h' : IsEnd B i' e') (h1 : i' < i) (h2 : i ≤ e') : e < e' := by
  have a1 := h'.2.2.2 i h1 h2
  rcases Nat.lt_trichotomy e e' with hlt | rfl | hlt
  · exact hlt
  · have := h.2.2.1; have := h'.2.2.1; omega
  · have := h.2.2.2 (e' + 1) (by omega) (by omega); have := h'.2.2.1; omega
theorem wAt_zero {B : List Sm} {v : Nat} : ¬ WAt B 0 v := fun ⟨j, h, _⟩ => by omega
theorem WrAt.not6 {B : List Sm} {j v i e : Nat} (h : WrAt B j v) (he : IsEnd B i e) : j ≠ e := by
  rintro rfl
  obtain ⟨s, hs, hw, _⟩ := h
  obtain ⟨t, ht, h6⟩ := he.kind
  rw [hs] at ht
  cases ht
  rcases hw with h | h <;> omega
/-- One place on, where no condition ends. -/
theorem wAt_succ {B : List Sm} {p v : Nat} (hp : ∀ i s, B[i]? = some s → s.k = 4 → ¬ IsEnd B i p) : WAt B (p + 1) v ↔ WAt B p v ∨ WrAt B p v := by
  constructor
  · rintro ⟨j, hj, hw, hi⟩
    by_cases e : j = p
    · subst e; exact .inr hw
    · refine .inl ⟨j, by omega, hw, fun i h => ?_⟩
      obtain ⟨e1, s1, h1, h2, h3, h4, h5⟩ := h
      obtain ⟨e2, s2, g1, g2, g3, g4, g5⟩ := hi i ⟨e1, s1, h1, h2, h3, h4, h5⟩
      exact ⟨e2, s2, g1, g2, g3, by omega, by omega⟩
  · rintro (⟨j, hj, hw, hi⟩ | hw)
    · refine ⟨j, by omega, hw, fun i h => ?_⟩
      obtain ⟨e2, s2, g1, g2, g3, g4, g5⟩ := hi i h
      have : p ≠ e2 := fun e => hp i s2 g1 g2 (by rw [e]; exact g3)
      exact ⟨e2, s2, g1, g2, g3, by omega, by omega⟩
    · refine ⟨p, by omega, hw, fun i h => ?_⟩
      obtain ⟨e2, s2, g1, g2, g3, g4, g5⟩ := h
      have := hw.not6 g3
      exact ⟨e2, s2, g1, g2, g3, by omega, by omega⟩
/-- A condition discards what it wrote. -/
theorem wAt_if {B : List Sm} {i e v : Nat} {s : Sm} (hs : B[i]? = some s) (h4 : s.k = 4) (he : IsEnd B i e) : WAt B (e + 1) v ↔ WAt B i v := by
  constructor
  · rintro ⟨j, hj, hw, hi⟩
    have hji : j < i := by
      by_cases h : j < i
      · exact h
      · exfalso
        by_cases e2 : j = i
        · subst e2
          obtain ⟨t, ht, hw2, _⟩ := hw
          rw [hs] at ht; cases ht
          rcases hw2 with h | h <;> omega
        · obtain ⟨e2, s2, g1, g2, g3, g4, g5⟩ := hi i ⟨e, s, hs, h4, he, by omega, by omega⟩
          have := he.unique g3
          omega
    refine ⟨j, hji, hw, fun i' h => ?_⟩
    obtain ⟨e1, s1, h1, h2, h3, h5, h6⟩ := h
    obtain ⟨e2, s2, g1, g2, g3, g4, g5⟩ := hi i' ⟨e1, s1, h1, h2, h3, h5, h6⟩
    have := he.1
    exact ⟨e2, s2, g1, g2, g3, by omega, by omega⟩
  · rintro ⟨j, hj, hw, hi⟩
    refine ⟨j, by have := he.1; omega, hw, fun i' h => ?_⟩
    obtain ⟨e2, s2, g1, g2, g3, g4, g5⟩ := hi i' h
    have := end_in he g3 g4 g5
    exact ⟨e2, s2, g1, g2, g3, by have := he.1; omega, by omega⟩
theorem fAt_zero {B : List Sm} {v : Nat} : ¬ FAt B 0 v := fun ⟨j, h, _⟩ => by omega
theorem fAt_succ {B : List Sm} {p v : Nat} : FAt B (p + 1) v ↔ FAt B p v ∨ (RdAt B p v ∧ ¬ WAt B p v) := by
  constructor
  · rintro ⟨j, hj, h⟩
    by_cases e : j = p
    · subst e; exact .inr h
    · exact .inl ⟨j, by omega, h⟩
  · rintro (⟨j, hj, h⟩ | h)
    · exact ⟨j, by omega, h⟩
    · exact ⟨p, by omega, h⟩
/-- The end reads and writes nothing. -/
theorem end_nothing {B : List Sm} {i e v : Nat} (he : IsEnd B i e) : ¬ WrAt B e v ∧ ¬ RdAt B e v := by
  obtain ⟨t, ht, h6⟩ := he.kind
  constructor
  · rintro ⟨s, hs, hw, _⟩
    rw [hs] at ht; cases ht
    rcases hw with h | h <;> omega
  · rintro ⟨s, hs, hw, _⟩
    rw [hs] at ht; cases ht
    rcases hw with h | h | h <;> omega
/-- No condition is around the place. -/
def Out (B : List Sm) (p : Nat) : Prop := ∀ i, ¬ InIf B i p
theorem Out.zero (B : List Sm) : Out B 0 := fun i ⟨_, _, _, _, _, h, _⟩ => by omega
theorem Out.noEnd {B : List Sm} {p : Nat} (h : Out B p) : ∀ i s, B[i]? = some s → s.k = 4 → ¬ IsEnd B i p := fun i s hs h4 he => h i ⟨p, s, hs, h4, he, he.1, Nat.le_refl _⟩
theorem Out.succ {B : List Sm} {p : Nat} {s : Sm} (h : Out B p) (hs : B[p]? = some s) (h4 : s.k ≠ 4) : Out B (p + 1) := fun i ⟨e, t, h1, h2, h3, h5, h6⟩ => by
  by_cases e1 : i = p
  · subst e1; rw [hs] at h1; cases h1; exact h4 h2
  · exact h i ⟨e, t, h1, h2, h3, by omega, by omega⟩
theorem Out.jump {B : List Sm} {i e : Nat} (h : Out B i) (he : IsEnd B i e) : Out B (e + 1) := fun i' ⟨e', t, h1, h2, h3, h5, h6⟩ => by
  rcases Nat.lt_trichotomy i' i with hlt | rfl | hlt
  · exact h i' ⟨e', t, h1, h2, h3, hlt, by have := he.1; omega⟩
  · have := he.unique h3; omega
  · have := end_in h3 he hlt (by omega); omega
/-- A part of a block that begins and ends at the same height and is nowhere lower. -/
def Seg (B : List Sm) (a b : Nat) : Prop := a ≤ b ∧ b ≤ B.length ∧ hAt B b = hAt B a ∧ ∀ j, a ≤ j → j ≤ b → hAt B a ≤ hAt B j
theorem Seg.all {B : List Sm} (h : IsBlk B) : Seg B 0 B.length := ⟨Nat.zero_le _, Nat.le_refl _, by rw [h.2.1, hAt_zero], fun j _ _ => by rw [hAt_zero]; exact (blk_bounds h j).1⟩
theorem Seg.not6 {B : List Sm} {a b p : Nat} {s : Sm} (h : Seg B a b) (hp : a ≤ p) (hpb : p < b) (hh : hAt B p = hAt B a) (hs : B[p]? = some s) : s.k ≠ 6 := fun h6 => by
  have h1 := hAt_succ hs
  rw [dlt_end h6] at h1
  have := h.2.2.2 (p + 1) (by omega) (by omega)
  omega
theorem Seg.noEnd {B : List Sm} {a b p : Nat} (h : Seg B a b) (hp : a ≤ p) (hpb : p < b) (hh : hAt B p = hAt B a) : ∀ i s, B[i]? = some s → s.k = 4 → ¬ IsEnd B i p := fun i s _ _ he => by
  obtain ⟨t, ht, h6⟩ := he.kind
  exact h.not6 hp hpb hh ht h6
theorem Seg.inner {B : List Sm} {a b i e : Nat} (h : Seg B a b) (hib : i < b) (hh : hAt B i = hAt B a) (he : IsEnd B i e) : e < b ∧ Seg B (i + 1) e ∧ hAt B (e + 1) = hAt B a := by
  have h1 := he.2.2.1
  have heb : e < b := by
    by_cases h9 : e < b
    · exact h9
    · have := he.2.2.2 b hib (by omega); have := h.2.2.1; omega
  obtain ⟨s, hs, ho⟩ := he.opens
  have h2 := hAt_succ hs
  rw [dlt_opn ho] at h2
  refine ⟨heb, ⟨by have := he.1; omega, by have := h.2.1; omega, ?_, fun j h3 h4 => ?_⟩, by omega⟩
  · have := he.depth; omega
  · have := he.2.2.2 j (by omega) h4; omega
end Go.Proofs.Ytekdnhhmiabngaa.sets

/- Chapter 3's EvalExpr, of the program and of the model: the plain function 'evalV'; nothing that was there is written. -/
namespace Go.Proofs.Ytekdnhhmiabngaa.expr
open Go.ChangeShapes Go.WideShapes Go.ChangeAt Go.RowKit Go.Proofs.Ytekdnhhmiabngaa.row Go.Proofs.Ytekdnhhmiabngaa.val

def bit (b : Bool) : Int := if b then 1 else 0
def evalOf (o A B : Int) : Int :=
  if o = 1 then sat (sat A + sat B) else if o = 2 then sat (sat A - sat B) else if o = 3 then sat (sat A * sat B)
  else if o = 4 then min A B else if o = 5 then max A B else if o = 6 then bit (decide (A < B)) else bit (decide (A = B))
def evalV (L : List Int) (o a b : Int) : Int := if varsOk L && exprOk o a b then evalOf o (valOf L a) (valOf L b) else 0
theorem evalV_no {L : List Int} {o a b : Int} (h : varsOk L = false ∨ exprOk o a b = false) : evalV L o a b = 0 := by
  rcases h with h | h <;> simp [evalV, h]
theorem evalV_ok {L : List Int} {o a b : Int} (h : varsOk L = true) (h2 : exprOk o a b = true) : evalV L o a b = evalOf o (valOf L a) (valOf L b) := by simp [evalV, h, h2]
theorem exprOk_iff (o a b : Int) : exprOk o a b = true ↔ (1 ≤ o ∧ o ≤ 7) ∧ opndOk a = true ∧ opndOk b = true := by simp [exprOk, opOk]

theorem ev1 (A B : Int) : evalOf 1 A B = sat (sat A + sat B) := by simp [evalOf]
theorem ev2 (A B : Int) : evalOf 2 A B = sat (sat A - sat B) := by simp [evalOf]
theorem ev3 (A B : Int) : evalOf 3 A B = sat (sat A * sat B) := by simp [evalOf]
theorem ev4 (A B : Int) : evalOf 4 A B = min A B := by simp [evalOf]
theorem ev5 (A B : Int) : evalOf 5 A B = max A B := by simp [evalOf]
theorem ev6 (A B : Int) : evalOf 6 A B = bit (decide (A < B)) := by simp [evalOf]
theorem ev7 (A B : Int) : evalOf 7 A B = bit (decide (A = B)) := by simp [evalOf]
section model
end model

section program
set_option maxRecDepth 100000 in
theorem impl_one (b : Bool) (w : World) : Calls Try.prog 92 #[.bool b] w (Ret w (bit b)) := by
  cases b
  · go_enter Try.func92, Try.ntmps92
    go_wp2
    go_ret
    exact ⟨rfl, rfl⟩
  · go_enter Try.func92, Try.ntmps92
    go_wp2
    go_ret
    exact ⟨rfl, rfl⟩
set_option maxRecDepth 100000 in
theorem impl_min (x y : Int) (w : World) : Calls Try.prog 83 #[.int .i64 x, .int .i64 y] w (Ret w (min x y)) := by
  go_enter Try.func83, Try.ntmps83
  go_wp2
  all_goals
    go_ret
    exact ⟨ret_i (by omega), rfl⟩
set_option maxRecDepth 100000 in
theorem impl_max (x y : Int) (w : World) : Calls Try.prog 84 #[.int .i64 x, .int .i64 y] w (Ret w (max x y)) := by
  go_enter Try.func84, Try.ntmps84
  go_wp2
  all_goals
    go_ret
    exact ⟨ret_i (by omega), rfl⟩
set_option maxRecDepth 100000 in
theorem impl_less (x y : Int) (w : World) : Calls Try.prog 85 #[.int .i64 x, .int .i64 y] w (Ret w (bit (decide (x < y)))) := by
  go_enter Try.func85, Try.ntmps85
  go_wp2_with (go_at_call 92; refine (impl_one _ _).mono ?_; rintro e w1 ⟨rfl, rfl⟩)
  go_ret
  exact ⟨rfl, rfl⟩
set_option maxRecDepth 100000 in
theorem impl_same (x y : Int) (w : World) : Calls Try.prog 86 #[.int .i64 x, .int .i64 y] w (Ret w (bit (decide (x = y)))) := by
  go_enter Try.func86, Try.ntmps86
  go_wp2_with (go_at_call 92; refine (impl_one _ _).mono ?_; rintro e w1 ⟨rfl, rfl⟩)
  go_ret
  exact ⟨rfl, rfl⟩
abbrev opsV : Value := .agg #[.nilFunc, .func (.func 70) #[] #[], .func (.func 81) #[] #[], .func (.func 82) #[] #[],
  .func (.func 83) #[] #[], .func (.func 84) #[] #[], .func (.func 85) #[] #[], .func (.func 86) #[] #[]]
set_option maxRecDepth 100000 in
theorem impl_ops (w : World) : Calls Try.prog 67 #[] w fun e w' => e = .returned opsV ∧ Below w.heap.size w w' := by
  go_enter Try.func67, Try.ntmps67
  go_wp2
  refine bodyPost_ret (v := opsV) (by simp [results, Try.results67, go_sem]) rfl ⟨rfl, (Below.refl _ _).alloc (Nat.le_refl _) _⟩
end program
end Go.Proofs.Ytekdnhhmiabngaa.expr

/- The value of an expression is a value. Plain mathematics. -/
namespace Go.Proofs.Ytekdnhhmiabngaa.expr
open Go.ChangeShapes Go.WideShapes Go.ChangeAt Go.RowKit Go.Proofs.Ytekdnhhmiabngaa.row Go.Proofs.Ytekdnhhmiabngaa.val

theorem sat_val (n : Int) : isVal (sat n) = true := isVal_in (sat_bd n).1 (sat_bd n).2
theorem bit_val (b : Bool) : isVal (bit b) = true := by cases b <;> rfl
theorem valOf_val {L : List Int} (h : varsOk L = true) {m : Int} (hm : opndOk m = true) : isVal (valOf L m) = true := by
  have hb := (opndOk_iff m).1 hm
  unfold valOf
  split
  · rename_i h0
    obtain ⟨h1, _⟩ := opnd_at h hm h0
    rw [List.getD_eq_getElem?_getD, List.getElem?_eq_getElem h1]
    exact ((varsOk_iff L).1 h).2 _ (List.getElem_mem h1)
  · exact isVal_in (by omega) (by omega)
theorem evalOf_val {o A B : Int} (hA : isVal A = true) (hB : isVal B = true) : isVal (evalOf o A B) = true := by
  have a := (isVal_iff A).1 hA
  have b := (isVal_iff B).1 hB
  unfold evalOf
  split
  · exact sat_val _
  split
  · exact sat_val _
  split
  · exact sat_val _
  split
  · exact isVal_in (by omega) (by omega)
  split
  · exact isVal_in (by omega) (by omega)
  split
  · exact bit_val _
  · exact bit_val _
theorem evalV_val (L : List Int) (o a b : Int) : isVal (evalV L o a b) = true := by
  unfold evalV
  split
  · rename_i h
    rw [Bool.and_eq_true] at h
    obtain ⟨_, ha, hb⟩ := (exprOk_iff o a b).1 h.2
    exact evalOf_val (valOf_val h.1 ha) (valOf_val h.1 hb)
  · rfl
end Go.Proofs.Ytekdnhhmiabngaa.expr
