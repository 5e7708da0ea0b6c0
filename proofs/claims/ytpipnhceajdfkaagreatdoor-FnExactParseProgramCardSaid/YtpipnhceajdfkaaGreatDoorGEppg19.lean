/- Several texts in one: SplA FieA. -/
import Derived.Below
import Derived.Lib.UnsafeStr

/- The plain mathematics of a line's fields. -/
namespace Go.Proofs.YtpipnhceajdfkaaGreatDoor.spl
open Go

abbrev St := List (List UInt8) × List UInt8
def stepF (st : St) (c : UInt8) : St := if c = 32 then (if st.2 = [] then st else (st.1 ++ [st.2], [])) else (st.1, st.2 ++ [c])
def endF (st : St) : List (List UInt8) := if st.2 = [] then st.1 else st.1 ++ [st.2]
def stF (l : List UInt8) : St := l.foldl stepF ([], [])
def fieldsOf (l : List UInt8) : List (List UInt8) := endF (stF l)
def okByte (c : UInt8) : Bool := decide (32 ≤ c.toNat) && decide (c.toNat ≤ 126)
def okB (l : List UInt8) : Bool := decide (l.length ≤ 600) && l.all okByte && decide ((fieldsOf l).length ≤ 24)
def fieldsR (l : List UInt8) : List (List UInt8) := if okB l = true then fieldsOf l else []
def strCells (F : List (List UInt8)) : List Value := F.map fun f => Value.string ⟨f.toArray⟩

theorem strCells_len (F : List (List UInt8)) : (strCells F).length = F.length := by simp [strCells]
theorem strCells_snoc (F : List (List UInt8)) (f : List UInt8) : strCells (F ++ [f]) = strCells F ++ [Value.string ⟨f.toArray⟩] := by simp [strCells]
theorem stF_snoc (l : List UInt8) (c : UInt8) : stF (l ++ [c]) = stepF (stF l) c := by simp [stF]

theorem step_space {st : St} {c : UInt8} (hc : c = 32) (h : st.2 = []) : stepF st c = st := by unfold stepF; rw [if_pos hc, if_pos h]
theorem step_cut {st : St} {c : UInt8} (hc : c = 32) (h : st.2 ≠ []) : stepF st c = (st.1 ++ [st.2], []) := by unfold stepF; rw [if_pos hc, if_neg h]
theorem step_on {st : St} {c : UInt8} (hc : c ≠ 32) : stepF st c = (st.1, st.2 ++ [c]) := by unfold stepF; rw [if_neg hc]

theorem st_count (l : List UInt8) : (stF l).1.length + (stF l).2.length ≤ l.length := by
  suffices h : ∀ (l : List UInt8) (st : St), (l.foldl stepF st).1.length + (l.foldl stepF st).2.length ≤ st.1.length + st.2.length + l.length by
    have := h l ([], []); simpa [stF] using this
  intro l
  induction l with
  | nil => intro st; simp
  | cons c l ih =>
    intro st
    rw [List.foldl_cons]
    have := ih (stepF st c)
    have h2 : (stepF st c).1.length + (stepF st c).2.length ≤ st.1.length + st.2.length + 1 := by
      unfold stepF
      split
      · split
        · omega
        · simp
      · simp; omega
    simp only [List.length_cons]; omega
theorem fields_count (l : List UInt8) : (fieldsOf l).length ≤ l.length := by
  have := st_count l
  unfold fieldsOf endF
  split
  · omega
  · rename_i h; have : (stF l).2.length ≠ 0 := fun e => h (List.length_eq_zero_iff.1 e); simp; omega

theorem bad_byte {l : List UInt8} {c : UInt8} (hc : c ∈ l) (h : c.toNat < 32 ∨ 126 < c.toNat) : okB l = false := by
  have : l.all okByte = false := by
    rw [List.all_eq_false]; exact ⟨c, hc, by simp [okByte]; omega⟩
  simp [okB, this]
theorem bad_long {l : List UInt8} (h : 600 < l.length) : okB l = false := by
  simp only [okB, decide_eq_false (show ¬ l.length ≤ 600 by omega), Bool.false_and]
theorem bad_many {l : List UInt8} (h : 24 < (fieldsOf l).length) : okB l = false := by
  simp only [okB, decide_eq_false (show ¬ (fieldsOf l).length ≤ 24 by omega), Bool.and_false]
theorem good {l : List UInt8} (h1 : l.length ≤ 600) (h2 : ∀ c ∈ l, 32 ≤ c.toNat ∧ c.toNat ≤ 126) (h3 : (fieldsOf l).length ≤ 24) : okB l = true := by
  have : l.all okByte = true := by rw [List.all_eq_true]; intro c hc; have := h2 c hc; simp [okByte, this]
  simp [okB, this, h1, h3]
theorem fieldsR_bad {l : List UInt8} (h : okB l = false) : fieldsR l = [] := by unfold fieldsR; rw [h]; rfl
theorem fieldsR_good {l : List UInt8} (h : okB l = true) : fieldsR l = fieldsOf l := by unfold fieldsR; rw [if_pos h]

/-- Where the model's scan stands: at 'k' the fields so far, and the beginning of the one under way; behind the end, all. -/
def Scan (l : List UInt8) (k b : Nat) (F : List (List UInt8)) : Prop :=
  (k ≤ l.length → (stF (l.take k)).1 = F ∧ (stF (l.take k)).2 = (l.drop b).take (k - b)) ∧ (l.length < k → F = fieldsOf l) ∧ ∀ c ∈ l.take k, 32 ≤ c.toNat ∧ c.toNat ≤ 126

theorem scan_start (l : List UInt8) : Scan l 0 0 [] := ⟨fun _ => by simp [stF], fun h => by omega, by simp⟩

theorem take_next {l : List UInt8} {k : Nat} (h : k < l.length) : l.take (k + 1) = l.take k ++ [l[k]] := by rw [List.take_succ_eq_append_getElem h]
theorem part_next {l : List UInt8} {k b : Nat} (h : k < l.length) (hb : b ≤ k) : (l.drop b).take (k + 1 - b) = (l.drop b).take (k - b) ++ [l[k]] := by
  rw [show k + 1 - b = (k - b) + 1 by omega, List.take_succ_eq_append_getElem (by simp; omega)]
  congr 2
  rw [List.getElem_drop]; congr 1; omega
theorem part_empty {l : List UInt8} {k b : Nat} (hb : b ≤ k) (hk : k ≤ l.length) : (l.drop b).take (k - b) = [] ↔ b = k := by
  constructor
  · intro h
    have := congrArg List.length h
    simp at this; omega
  · rintro rfl; simp

theorem ok_next {l : List UInt8} {k : Nat} (h : k < l.length) (h0 : ∀ c ∈ l.take k, 32 ≤ c.toNat ∧ c.toNat ≤ 126) (h1 : 32 ≤ l[k].toNat ∧ l[k].toNat ≤ 126) : ∀ c ∈ l.take (k + 1), 32 ≤ c.toNat ∧ c.toNat ≤ 126 := by
  rw [take_next h]
  intro c hc
  rcases List.mem_append.1 hc with hc | hc
  · exact h0 c hc
  · rw [List.mem_singleton] at hc; subst hc; exact h1

theorem scan_on {l : List UInt8} {k b : Nat} {F : List (List UInt8)} (h : Scan l k b F) (hk : k < l.length) (hb : b ≤ k) (h1 : 32 ≤ l[k].toNat ∧ l[k].toNat ≤ 126) (hc : l[k] ≠ 32) : Scan l (k + 1) b F := by
  obtain ⟨h2, _, h3⟩ := h
  obtain ⟨e1, e2⟩ := h2 (by omega)
  refine ⟨fun _ => ?_, fun h => by omega, ok_next hk h3 h1⟩
  rw [take_next hk, stF_snoc, step_on hc]
  exact ⟨e1, by rw [e2, part_next hk hb]⟩
theorem scan_space {l : List UInt8} {k : Nat} {F : List (List UInt8)} (h : Scan l k k F) (hk : k < l.length) (hc : l[k] = 32) : Scan l (k + 1) (k + 1) F := by
  obtain ⟨h2, _, h3⟩ := h
  obtain ⟨e1, e2⟩ := h2 (by omega)
  have he : (stF (l.take k)).2 = [] := by rw [e2]; simp
  refine ⟨fun _ => ?_, fun h => by omega, ok_next hk h3 (by rw [hc]; decide)⟩
  rw [take_next hk, stF_snoc, step_space hc he]
  exact ⟨e1, by rw [he]; simp⟩
theorem scan_cut {l : List UInt8} {k b : Nat} {F : List (List UInt8)} (h : Scan l k b F) (hk : k < l.length) (hb : b < k) (hc : l[k] = 32) : Scan l (k + 1) (k + 1) (F ++ [(l.drop b).take (k - b)]) := by
  obtain ⟨h2, _, h3⟩ := h
  obtain ⟨e1, e2⟩ := h2 (by omega)
  have he : (stF (l.take k)).2 ≠ [] := by rw [e2]; intro h; have := (part_empty (by omega) (by omega)).1 h; omega
  refine ⟨fun _ => ?_, fun h => by omega, ok_next hk h3 (by rw [hc]; decide)⟩
  rw [take_next hk, stF_snoc, step_cut hc he]
  exact ⟨by rw [e1, e2], by simp⟩
theorem scan_end {l : List UInt8} {k b : Nat} {F : List (List UInt8)} (h : Scan l k b F) (hk : k = l.length) (hb : b = k) : Scan l (k + 1) (k + 1) F := by
  obtain ⟨h2, _, h3⟩ := h
  obtain ⟨e1, e2⟩ := h2 (by omega)
  subst hk
  rw [List.take_length] at e1 e2 h3
  refine ⟨fun h => by omega, fun _ => ?_, by rw [List.take_of_length_le (by omega)]; exact h3⟩
  unfold fieldsOf endF
  rw [if_pos (by rw [e2, hb]; simp), e1]
theorem scan_last {l : List UInt8} {k b : Nat} {F : List (List UInt8)} (h : Scan l k b F) (hk : k = l.length) (hb : b < k) : Scan l (k + 1) (k + 1) (F ++ [(l.drop b).take (k - b)]) := by
  obtain ⟨h2, _, h3⟩ := h
  obtain ⟨e1, e2⟩ := h2 (by omega)
  subst hk
  have he : (stF l).2 ≠ [] := by rw [List.take_length] at e2; rw [e2]; intro h; have := (part_empty (by omega) (by omega)).1 h; omega
  rw [List.take_length] at e1 e2 h3
  refine ⟨fun h => by omega, fun _ => ?_, by rw [List.take_of_length_le (by omega)]; exact h3⟩
  unfold fieldsOf endF
  rw [if_neg he, e1, e2]
theorem scan_len {l : List UInt8} {k b : Nat} {F : List (List UInt8)} (h : Scan l k b F) : F.length ≤ l.length := by
  rcases Nat.lt_or_ge l.length k with hk | hk
  · rw [h.2.1 hk]; exact fields_count l
  · have e := (h.1 hk).1
    have := st_count (l.take k)
    rw [e] at this; simp at this; omega

/-- Where the program's scan stands. -/
def Part (l : List UInt8) (k : Nat) (F : List (List UInt8)) (cur : List UInt8) : Prop :=
  stF (l.take k) = (F, cur) ∧ ∀ c ∈ l.take k, 32 ≤ c.toNat ∧ c.toNat ≤ 126
theorem part_start (l : List UInt8) : Part l 0 [] [] := ⟨by simp [stF], by simp⟩
theorem part_on {l : List UInt8} {k : Nat} {F : List (List UInt8)} {cur : List UInt8} (h : Part l k F cur) (hk : k < l.length) (h1 : 32 ≤ l[k].toNat ∧ l[k].toNat ≤ 126) (hc : l[k] ≠ 32) : Part l (k + 1) F (cur ++ [l[k]]) :=
  ⟨by rw [take_next hk, stF_snoc, step_on hc, h.1], ok_next hk h.2 h1⟩
theorem part_space {l : List UInt8} {k : Nat} {F : List (List UInt8)} (h : Part l k F []) (hk : k < l.length) (hc : l[k] = 32) : Part l (k + 1) F [] :=
  ⟨by rw [take_next hk, stF_snoc, step_space hc (by rw [h.1]), h.1], ok_next hk h.2 (by rw [hc]; decide)⟩
theorem part_cut {l : List UInt8} {k : Nat} {F : List (List UInt8)} {cur : List UInt8} (h : Part l k F cur) (hk : k < l.length) (hc : l[k] = 32) (hne : cur ≠ []) : Part l (k + 1) (F ++ [cur]) [] :=
  ⟨by rw [take_next hk, stF_snoc, step_cut hc (by rw [h.1]; exact hne), h.1], ok_next hk h.2 (by rw [hc]; decide)⟩
theorem part_len {l : List UInt8} {k : Nat} {F : List (List UInt8)} {cur : List UInt8} (h : Part l k F cur) : F.length + cur.length ≤ l.length := by
  have := st_count (l.take k)
  rw [h.1] at this; simp at this; omega
theorem part_end {l : List UInt8} {k : Nat} {F : List (List UInt8)} {cur : List UInt8} (h : Part l k F cur) (hk : l.length ≤ k) : fieldsOf l = if cur = [] then F else F ++ [cur] := by
  have := h.1
  rw [List.take_of_length_le hk] at this
  unfold fieldsOf endF
  rw [this]
theorem part_all {l : List UInt8} {k : Nat} {F : List (List UInt8)} {cur : List UInt8} (h : Part l k F cur) (hk : l.length ≤ k) : ∀ c ∈ l, 32 ≤ c.toNat ∧ c.toNat ≤ 126 := by
  have := h.2
  rwa [List.take_of_length_le hk] at this
end Go.Proofs.YtpipnhceajdfkaaGreatDoor.spl

/- The fields of a line, joined, have the same fields: the plain mathematics. -/
namespace Go.Proofs.YtpipnhceajdfkaaGreatDoor.spl

def joinF (F : List (List UInt8)) : List UInt8 := F.flatMap fun f => f ++ [32]
theorem joinF_snoc (F : List (List UInt8)) (f : List UInt8) : joinF (F ++ [f]) = joinF F ++ f ++ [32] := by simp [joinF]

def goodC (c : UInt8) : Prop := c ≠ 32 ∧ 32 ≤ c.toNat ∧ c.toNat ≤ 126
def goodSt (st : St) : Prop := (∀ f ∈ st.1, f ≠ [] ∧ ∀ c ∈ f, goodC c) ∧ ∀ c ∈ st.2, goodC c

theorem good_step {st : St} {c : UInt8} (h : goodSt st) (h1 : 32 ≤ c.toNat) (h2 : c.toNat ≤ 126) : goodSt (stepF st c) := by
  obtain ⟨ha, hb⟩ := h
  by_cases hc : c = 32
  · by_cases he : st.2 = []
    · rw [step_space hc he]; exact ⟨ha, hb⟩
    · rw [step_cut hc he]
      refine ⟨fun f hf => ?_, by simp⟩
      rcases List.mem_append.1 hf with hf | hf
      · exact ha f hf
      · rw [List.mem_singleton] at hf; subst hf; exact ⟨he, hb⟩
  · rw [step_on hc]
    refine ⟨ha, fun x hx => ?_⟩
    rcases List.mem_append.1 hx with hx | hx
    · exact hb x hx
    · rw [List.mem_singleton] at hx; subst hx; exact ⟨hc, h1, h2⟩

theorem good_fold : ∀ (l : List UInt8) (st : St), (∀ c ∈ l, 32 ≤ c.toNat ∧ c.toNat ≤ 126) → goodSt st → goodSt (l.foldl stepF st)
  | [], _, _, h => h
  | c :: l, st, hl, h => by
    rw [List.foldl_cons]
    exact good_fold l _ (fun x hx => hl x (by simp [hx])) (good_step h (hl c (by simp)).1 (hl c (by simp)).2)

theorem ok_bytes {l : List UInt8} (h : okB l = true) : (∀ c ∈ l, 32 ≤ c.toNat ∧ c.toNat ≤ 126) ∧ (fieldsOf l).length ≤ 24 := by
  simp only [okB, Bool.and_eq_true, decide_eq_true_eq, List.all_eq_true] at h
  refine ⟨fun c hc => ?_, h.2⟩
  have := h.1.2 c hc
  simpa [okByte] using this

theorem good_fields {l : List UInt8} (h : okB l = true) : ∀ f ∈ fieldsOf l, f ≠ [] ∧ ∀ c ∈ f, goodC c := by
  have hg := good_fold l ([], []) (ok_bytes h).1 ⟨by simp, by simp⟩
  obtain ⟨ha, hb⟩ := hg
  unfold fieldsOf endF stF
  split
  · exact ha
  · rename_i he
    intro f hf
    rcases List.mem_append.1 hf with hf | hf
    · exact ha f hf
    · rw [List.mem_singleton] at hf; subst hf; exact ⟨he, hb⟩

theorem fold_word : ∀ (f : List UInt8) (st : St), (∀ c ∈ f, goodC c) → f.foldl stepF st = (st.1, st.2 ++ f)
  | [], st, _ => by simp
  | c :: f, st, h => by
    rw [List.foldl_cons, step_on (h c (by simp)).1, fold_word f _ (fun x hx => h x (by simp [hx]))]
    simp

theorem fold_join : ∀ (F : List (List UInt8)) (G : List (List UInt8)), (∀ f ∈ F, f ≠ [] ∧ ∀ c ∈ f, goodC c) → (joinF F).foldl stepF (G, []) = (G ++ F, [])
  | [], G, _ => by simp [joinF]
  | f :: F, G, h => by
    have hf := h f (by simp)
    have e : joinF (f :: F) = f ++ ([32] ++ joinF F) := by simp [joinF]
    rw [e, List.foldl_append, fold_word f _ hf.2, List.foldl_append]
    have e2 : [(32 : UInt8)].foldl stepF (G, [] ++ f) = (G ++ [f], []) := by
      rw [List.foldl_cons, List.foldl_nil, step_cut rfl (by simpa using hf.1)]; simp
    show (joinF F).foldl stepF ([(32 : UInt8)].foldl stepF (G, [] ++ f)) = _
    rw [e2, fold_join F _ (fun x hx => h x (by simp [hx]))]
    simp

theorem fields_join {F : List (List UInt8)} (h : ∀ f ∈ F, f ≠ [] ∧ ∀ c ∈ f, goodC c) : fieldsOf (joinF F) = F := by
  unfold fieldsOf stF
  rw [fold_join F [] h]
  simp [endF]

theorem join_bytes {F : List (List UInt8)} (h : ∀ f ∈ F, f ≠ [] ∧ ∀ c ∈ f, goodC c) : ∀ c ∈ joinF F, 32 ≤ c.toNat ∧ c.toNat ≤ 126 := by
  intro c hc
  simp only [joinF, List.mem_flatMap] at hc
  obtain ⟨f, hf, hc⟩ := hc
  rcases List.mem_append.1 hc with hc | hc
  · exact ((h f hf).2 c hc).2
  · rw [List.mem_singleton] at hc; subst hc; decide

/-- THE LAW's MATHEMATICS. -/
theorem again {l : List UInt8} (h : okB l = true) (hl : (joinF (fieldsR l)).length ≤ 600) : okB (joinF (fieldsR l)) = true ∧ fieldsR (joinF (fieldsR l)) = fieldsR l := by
  have hf := good_fields h
  rw [fieldsR_good h] at hl ⊢
  have h1 := good hl (join_bytes hf) (by rw [fields_join hf]; exact (ok_bytes h).2)
  exact ⟨h1, by rw [fieldsR_good h1, fields_join hf]⟩
/-- The joined fields are no longer than the line and one space a field. -/
theorem fold_size : ∀ (l : List UInt8) (st : St), (joinF (l.foldl stepF st).1).length + (l.foldl stepF st).2.length ≤ (joinF st.1).length + st.2.length + 2 * l.length
  | [], st => by simp
  | c :: l, st => by
    rw [List.foldl_cons]
    have ih := fold_size l (stepF st c)
    have h : (joinF (stepF st c).1).length + (stepF st c).2.length ≤ (joinF st.1).length + st.2.length + 1 := by
      unfold stepF
      split
      · split
        · omega
        · simp [joinF_snoc]; omega
      · simp; omega
    rw [List.length_cons]; omega
theorem join_size (l : List UInt8) (h : okB l = true) : (joinF (fieldsR l)).length ≤ 2 * l.length + 1 ∧ l.length ≤ 600 := by
  rw [fieldsR_good h]
  have hs := fold_size l ([], [])
  refine ⟨?_, by simp only [okB, Bool.and_eq_true, decide_eq_true_eq] at h; exact h.1.1⟩
  unfold fieldsOf endF stF
  simp [joinF] at hs
  split
  · simp [joinF]; omega
  · rw [joinF_snoc]; simp [joinF]; omega
theorem join_take (F : List (List UInt8)) (k : Nat) (h : k < F.length) : joinF (F.take (k + 1)) = joinF (F.take k) ++ F[k] ++ [32] := by
  rw [List.take_succ_eq_append_getElem h, joinF_snoc]
theorem join_take_le (F : List (List UInt8)) (k : Nat) : (joinF (F.take k)).length ≤ (joinF F).length := by
  have e : joinF F = joinF (F.take k) ++ joinF (F.drop k) := by
    have h := List.flatMap_append (xs := F.take k) (ys := F.drop k) (f := fun f : List UInt8 => f ++ [32])
    rw [List.take_append_drop] at h
    exact h
  rw [e]; simp
end Go.Proofs.YtpipnhceajdfkaaGreatDoor.spl
