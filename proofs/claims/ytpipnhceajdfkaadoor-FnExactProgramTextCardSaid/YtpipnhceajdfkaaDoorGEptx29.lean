/- Several texts in one: SplA. -/
import Derived.Below
import Derived.Lib.UnsafeStr

/- The plain mathematics of a line's fields. -/
namespace Go.Proofs.YtpipnhceajdfkaaDoor.spl
open Go

abbrev St := List (List UInt8) × List UInt8
def stepF (st : St) (c : UInt8) : St := if c = 32 then (if st.2 = [] then st else (st.1 ++ [st.2], [])) else (st.1, st.2 ++ [c])
def endF (st : St) : List (List UInt8) := if st.2 = [] then st.1 else st.1 ++ [st.2]
def stF (l : List UInt8) : St := l.foldl stepF ([], [])
def fieldsOf (l : List UInt8) : List (List UInt8) := endF (stF l)
def okByte (c : UInt8) : Bool := decide (32 ≤ c.toNat) && decide (c.toNat ≤ 126)
def okB (l : List UInt8) : Bool := decide (l.length ≤ 600) && l.all okByte && decide ((fieldsOf l).length ≤ 24)
def fieldsR (l : List UInt8) : List (List UInt8) := if okB l = true then fieldsOf l else []
def strCells (F : List (List UInt8)) : List Value := F.map fun f => Value.string ⟨f.toArray⟩

theorem strCells_len (F : List (List UInt8)) : (strCells F).length = F.length := by simp [strCells]
theorem strCells_snoc (F : List (List UInt8)) (f : List UInt8) : strCells (F ++ [f]) = strCells F ++ [Value.string ⟨f.toArray⟩] := by simp [strCells]
theorem stF_snoc (l : List UInt8) (c : UInt8) : stF (l ++ [c]) = stepF (stF l) c := by simp [stF]

theorem step_space {st : St} {c : UInt8} (hc : c = 32) (h : st.2 = []) : stepF st c = st := by unfold stepF; rw [if_pos hc, if_pos h]
theorem step_cut {st : St} {c : UInt8} (hc : c = 32) (h : st.2 ≠ []) : stepF st c = (st.1 ++ [st.2], []) := by unfold stepF; rw [if_pos hc, if_neg h]
theorem step_on {st : St} {c : UInt8} (hc : c ≠ 32) : stepF st c = (st.1, st.2 ++ [c]) := by unfold stepF; rw [if_neg hc]

theorem st_count (l : List UInt8) : (stF l).1.length + (stF l).2.length ≤ l.length := by
  suffices h : ∀ (l : List UInt8) (st : St), (l.foldl stepF st).1.length + (l.foldl stepF st).2.length ≤ st.1.length + st.2.length + l.length by
    have := h l ([], []); simpa [stF] using this
  intro l
  induction l with
  | nil => intro st; simp
  | cons c l ih =>
    intro st
    rw [List.foldl_cons]
    have := ih (stepF st c)
    have h2 : (stepF st c).1.length + (stepF st c).2.length ≤ st.1.length + st.2.length + 1 := by
      unfold stepF
      split
      · split
        · omega
        · simp
      · simp; omega
    simp only [List.length_cons]; omega
theorem fields_count (l : List UInt8) : (fieldsOf l).length ≤ l.length := by
  have := st_count l
  unfold fieldsOf endF
  split
  · omega
  · rename_i h; have : (stF l).2.length ≠ 0 := fun e => h (List.length_eq_zero_iff.1 e); simp; omega

theorem bad_byte {l : List UInt8} {c : UInt8} (hc : c ∈ l) (h : c.toNat < 32 ∨ 126 < c.toNat) : okB l = false := by
  have : l.all okByte = false := by
    rw [List.all_eq_false]; exact ⟨c, hc, by simp [okByte]; omega⟩
  simp [okB, this]
theorem bad_long {l : List UInt8} (h : 600 < l.length) : okB l = false := by
  simp only [okB, decide_eq_false (show ¬ l.length ≤ 600 by omega), Bool.false_and]
theorem bad_many {l : List UInt8} (h : 24 < (fieldsOf l).length) : okB l = false := by
  simp only [okB, decide_eq_false (show ¬ (fieldsOf l).length ≤ 24 by omega), Bool.and_false]
theorem good {l : List UInt8} (h1 : l.length ≤ 600) (h2 : ∀ c ∈ l, 32 ≤ c.toNat ∧ c.toNat ≤ 126) (h3 : (fieldsOf l).length ≤ 24) : okB l = true := by
  have : l.all okByte = true := by rw [List.all_eq_true]; intro c hc; have := h2 c hc; simp [okByte, this]
  simp [okB, this, h1, h3]
theorem fieldsR_bad {l : List UInt8} (h : okB l = false) : fieldsR l = [] := by unfold fieldsR; rw [h]; rfl
theorem fieldsR_good {l : List UInt8} (h : okB l = true) : fieldsR l = fieldsOf l := by unfold fieldsR; rw [if_pos h]

/-- Where the model's scan stands: at 'k' the fields so far, and the beginning of the one under way; behind the end, all. -/
def Scan (l : List UInt8) (k b : Nat) (F : List (List UInt8)) : Prop :=
  (k ≤ l.length → (stF (l.take k)).1 = F ∧ (stF (l.take k)).2 = (l.drop b).take (k - b)) ∧ (l.length < k → F = fieldsOf l) ∧ ∀ c ∈ l.take k, 32 ≤ c.toNat ∧ c.toNat ≤ 126

theorem scan_start (l : List UInt8) : Scan l 0 0 [] := ⟨fun _ => by simp [stF], fun h => by omega, by simp⟩

theorem take_next {l : List UInt8} {k : Nat} (h : k < l.length) : l.take (k + 1) = l.take k ++ [l[k]] := by rw [List.take_succ_eq_append_getElem h]
theorem part_next {l : List UInt8} {k b : Nat} (h : k < l.length) (hb : b ≤ k) : (l.drop b).take (k + 1 - b) = (l.drop b).take (k - b) ++ [l[k]] := by
  rw [show k + 1 - b = (k - b) + 1 by omega, List.take_succ_eq_append_getElem (by simp; omega)]
  congr 2
  rw [List.getElem_drop]; congr 1; omega
theorem part_empty {l : List UInt8} {k b : Nat} (hb : b ≤ k) (hk : k ≤ l.length) : (l.drop b).take (k - b) = [] ↔ b = k := by
  constructor
  · intro h
    have := congrArg List.length h
    simp at this; omega
  · rintro rfl; simp

theorem ok_next {l : List UInt8} {k : Nat} (h : k < l.length) (h0 : ∀ c ∈ l.take k, 32 ≤ c.toNat ∧ c.toNat ≤ 126) (h1 : 32 ≤ l[k].toNat ∧ l[k].toNat ≤ 126) : ∀ c ∈ l.take (k + 1), 32 ≤ c.toNat ∧ c.toNat ≤ 126 := by
  rw [take_next h]
  intro c hc
  rcases List.mem_append.1 hc with hc | hc
  · exact h0 c hc
  · rw [List.mem_singleton] at hc; subst hc; exact h1

theorem scan_on {l : List UInt8} {k b : Nat} {F : List (List UInt8)} (h : Scan l k b F) (hk : k < l.length) (hb : b ≤ k) (h1 : 32 ≤ l[k].toNat ∧ l[k].toNat ≤ 126) (hc : l[k] ≠ 32) : Scan l (k + 1) b F := by
  obtain ⟨h2, _, h3⟩ := h
  obtain ⟨e1, e2⟩ := h2 (by omega)
  refine ⟨fun _ => ?_, fun h => by omega, ok_next hk h3 h1⟩
  rw [take_next hk, stF_snoc, step_on hc]
  exact ⟨e1, by rw [e2, part_next hk hb]⟩
theorem scan_space {l : List UInt8} {k : Nat} {F : List (List UInt8)} (h : Scan l k k F) (hk : k < l.length) (hc : l[k] = 32) : Scan l (k + 1) (k + 1) F := by
  obtain ⟨h2, _, h3⟩ := h
  obtain ⟨e1, e2⟩ := h2 (by omega)
  have he : (stF (l.take k)).2 = [] := by rw [e2]; simp
  refine ⟨fun _ => ?_, fun h => by omega, ok_next hk h3 (by rw [hc]; decide)⟩
  rw [take_next hk, stF_snoc, step_space hc he]
  exact ⟨e1, by rw [he]; simp⟩
theorem scan_cut {l : List UInt8} {k b : Nat} {F : List (List UInt8)} (h : Scan l k b F) (hk : k < l.length) (hb : b < k) (hc : l[k] = 32) : Scan l (k + 1) (k + 1) (F ++ [(l.drop b).take (k - b)]) := by
  obtain ⟨h2, _, h3⟩ := h
  obtain ⟨e1, e2⟩ := h2 (by omega)
  have he : (stF (l.take k)).2 ≠ [] := by rw [e2]; intro h; have := (part_empty (by omega) (by omega)).1 h; omega
  refine ⟨fun _ => ?_, fun h => by omega, ok_next hk h3 (by rw [hc]; decide)⟩
  rw [take_next hk, stF_snoc, step_cut hc he]
  exact ⟨by rw [e1, e2], by simp⟩
theorem scan_end {l : List UInt8} {k b : Nat} {F : List (List UInt8)} (h : Scan l k b F) (hk : k = l.length) (hb : b = k) : Scan l (k + 1) (k + 1) F := by
  obtain ⟨h2, _, h3⟩ := h
  obtain ⟨e1, e2⟩ := h2 (by omega)
  subst hk
  rw [List.take_length] at e1 e2 h3
  refine ⟨fun h => by omega, fun _ => ?_, by rw [List.take_of_length_le (by omega)]; exact h3⟩
  unfold fieldsOf endF
  rw [if_pos (by rw [e2, hb]; simp), e1]
theorem scan_last {l : List UInt8} {k b : Nat} {F : List (List UInt8)} (h : Scan l k b F) (hk : k = l.length) (hb : b < k) : Scan l (k + 1) (k + 1) (F ++ [(l.drop b).take (k - b)]) := by
  obtain ⟨h2, _, h3⟩ := h
  obtain ⟨e1, e2⟩ := h2 (by omega)
  subst hk
  have he : (stF l).2 ≠ [] := by rw [List.take_length] at e2; rw [e2]; intro h; have := (part_empty (by omega) (by omega)).1 h; omega
  rw [List.take_length] at e1 e2 h3
  refine ⟨fun h => by omega, fun _ => ?_, by rw [List.take_of_length_le (by omega)]; exact h3⟩
  unfold fieldsOf endF
  rw [if_neg he, e1, e2]
theorem scan_len {l : List UInt8} {k b : Nat} {F : List (List UInt8)} (h : Scan l k b F) : F.length ≤ l.length := by
  rcases Nat.lt_or_ge l.length k with hk | hk
  · rw [h.2.1 hk]; exact fields_count l
  · have e := (h.1 hk).1
    have := st_count (l.take k)
    rw [e] at this; simp at this; omega

/-- Where the program's scan stands. -/
def Part (l : List UInt8) (k : Nat) (F : List (List UInt8)) (cur : List UInt8) : Prop :=
  stF (l.take k) = (F, cur) ∧ ∀ c ∈ l.take k, 32 ≤ c.toNat ∧ c.toNat ≤ 126
theorem part_start (l : List UInt8) : Part l 0 [] [] := ⟨by simp [stF], by simp⟩
theorem part_on {l : List UInt8} {k : Nat} {F : List (List UInt8)} {cur : List UInt8} (h : Part l k F cur) (hk : k < l.length) (h1 : 32 ≤ l[k].toNat ∧ l[k].toNat ≤ 126) (hc : l[k] ≠ 32) : Part l (k + 1) F (cur ++ [l[k]]) :=
  ⟨by rw [take_next hk, stF_snoc, step_on hc, h.1], ok_next hk h.2 h1⟩
theorem part_space {l : List UInt8} {k : Nat} {F : List (List UInt8)} (h : Part l k F []) (hk : k < l.length) (hc : l[k] = 32) : Part l (k + 1) F [] :=
  ⟨by rw [take_next hk, stF_snoc, step_space hc (by rw [h.1]), h.1], ok_next hk h.2 (by rw [hc]; decide)⟩
theorem part_cut {l : List UInt8} {k : Nat} {F : List (List UInt8)} {cur : List UInt8} (h : Part l k F cur) (hk : k < l.length) (hc : l[k] = 32) (hne : cur ≠ []) : Part l (k + 1) (F ++ [cur]) [] :=
  ⟨by rw [take_next hk, stF_snoc, step_cut hc (by rw [h.1]; exact hne), h.1], ok_next hk h.2 (by rw [hc]; decide)⟩
theorem part_len {l : List UInt8} {k : Nat} {F : List (List UInt8)} {cur : List UInt8} (h : Part l k F cur) : F.length + cur.length ≤ l.length := by
  have := st_count (l.take k)
  rw [h.1] at this; simp at this; omega
theorem part_end {l : List UInt8} {k : Nat} {F : List (List UInt8)} {cur : List UInt8} (h : Part l k F cur) (hk : l.length ≤ k) : fieldsOf l = if cur = [] then F else F ++ [cur] := by
  have := h.1
  rw [List.take_of_length_le hk] at this
  unfold fieldsOf endF
  rw [this]
theorem part_all {l : List UInt8} {k : Nat} {F : List (List UInt8)} {cur : List UInt8} (h : Part l k F cur) (hk : l.length ≤ k) : ∀ c ∈ l, 32 ≤ c.toNat ∧ c.toNat ≤ 126 := by
  have := h.2
  rwa [List.take_of_length_le hk] at this
end Go.Proofs.YtpipnhceajdfkaaDoor.spl
