/- Several texts in one: FieA. -/
import Derived.Test.YtpipnhceajdfkaaDoorGEptx29

/- The fields of a line, joined, have the same fields: the plain mathematics. -/
namespace Go.Proofs.YtpipnhceajdfkaaDoor.spl

def joinF (F : List (List UInt8)) : List UInt8 := F.flatMap fun f => f ++ [32]
theorem joinF_snoc (F : List (List UInt8)) (f : List UInt8) : joinF (F ++ [f]) = joinF F ++ f ++ [32] := by simp [joinF]

def goodC (c : UInt8) : Prop := c ≠ 32 ∧ 32 ≤ c.toNat ∧ c.toNat ≤ 126
def goodSt (st : St) : Prop := (∀ f ∈ st.1, f ≠ [] ∧ ∀ c ∈ f, goodC c) ∧ ∀ c ∈ st.2, goodC c

theorem good_step {st : St} {c : UInt8} (h : goodSt st) (h1 : 32 ≤ c.toNat) (h2 : c.toNat ≤ 126) : goodSt (stepF st c) := by
  obtain ⟨ha, hb⟩ := h
  by_cases hc : c = 32
  · by_cases he : st.2 = []
    · rw [step_space hc he]; exact ⟨ha, hb⟩
    · rw [step_cut hc he]
      refine ⟨fun f hf => ?_, by simp⟩
      rcases List.mem_append.1 hf with hf | hf
      · exact ha f hf
      · rw [List.mem_singleton] at hf; subst hf; exact ⟨he, hb⟩
  · rw [step_on hc]
    refine ⟨ha, fun x hx => ?_⟩
    rcases List.mem_append.1 hx with hx | hx
    · exact hb x hx
    · rw [List.mem_singleton] at hx; subst hx; exact ⟨hc, h1, h2⟩

theorem good_fold : ∀ (l : List UInt8) (st : St), (∀ c ∈ l, 32 ≤ c.toNat ∧ c.toNat ≤ 126) → goodSt st → goodSt (l.foldl stepF st)
  | [], _, _, h => h
  | c :: l, st, hl, h => by
    rw [List.foldl_cons]
    exact good_fold l _ (fun x hx => hl x (by simp [hx])) (good_step h (hl c (by simp)).1 (hl c (by simp)).2)

theorem ok_bytes {l : List UInt8} (h : okB l = true) : (∀ c ∈ l, 32 ≤ c.toNat ∧ c.toNat ≤ 126) ∧ (fieldsOf l).length ≤ 24 := by
  simp only [okB, Bool.and_eq_true, decide_eq_true_eq, List.all_eq_true] at h
  refine ⟨fun c hc => ?_, h.2⟩
  have := h.1.2 c hc
  simpa [okByte] using this

theorem good_fields {l : List UInt8} (h : okB l = true) : ∀ f ∈ fieldsOf l, f ≠ [] ∧ ∀ c ∈ f, goodC c := by
  have hg := good_fold l ([], []) (ok_bytes h).1 ⟨by simp, by simp⟩
  obtain ⟨ha, hb⟩ := hg
  unfold fieldsOf endF stF
  split
  · exact ha
  · rename_i he
    intro f hf
    rcases List.mem_append.1 hf with hf | hf
    · exact ha f hf
    · rw [List.mem_singleton] at hf; subst hf; exact ⟨he, hb⟩

theorem fold_word : ∀ (f : List UInt8) (st : St), (∀ c ∈ f, goodC c) → f.foldl stepF st = (st.1, st.2 ++ f)
  | [], st, _ => by simp
  | c :: f, st, h => by
    rw [List.foldl_cons, step_on (h c (by simp)).1, fold_word f _ (fun x hx => h x (by simp [hx]))]
    simp

theorem fold_join : ∀ (F : List (List UInt8)) (G : List (List UInt8)), (∀ f ∈ F, f ≠ [] ∧ ∀ c ∈ f, goodC c) → (joinF F).foldl stepF (G, []) = (G ++ F, [])
  | [], G, _ => by simp [joinF]
  | f :: F, G, h => by
    have hf := h f (by simp)
    have e : joinF (f :: F) = f ++ ([32] ++ joinF F) := by simp [joinF]
    rw [e, List.foldl_append, fold_word f _ hf.2, List.foldl_append]
    have e2 : [(32 : UInt8)].foldl stepF (G, [] ++ f) = (G ++ [f], []) := by
      rw [List.foldl_cons, List.foldl_nil, step_cut rfl (by simpa using hf.1)]; simp
    show (joinF F).foldl stepF ([(32 : UInt8)].foldl stepF (G, [] ++ f)) = _
    rw [e2, fold_join F _ (fun x hx => h x (by simp [hx]))]
    simp

theorem fields_join {F : List (List UInt8)} (h : ∀ f ∈ F, f ≠ [] ∧ ∀ c ∈ f, goodC c) : fieldsOf (joinF F) = F := by
  unfold fieldsOf stF
  rw [fold_join F [] h]
  simp [endF]

theorem join_bytes {F : List (List UInt8)} (h : ∀ f ∈ F, f ≠ [] ∧ ∀ c ∈ f, goodC c) : ∀ c ∈ joinF F, 32 ≤ c.toNat ∧ c.toNat ≤ 126 := by
  intro c hc
  simp only [joinF, List.mem_flatMap] at hc
  obtain ⟨f, hf, hc⟩ := hc
  rcases List.mem_append.1 hc with hc | hc
  · exact ((h f hf).2 c hc).2
  · rw [List.mem_singleton] at hc; subst hc; decide

/-- THE LAW's MATHEMATICS. -/
theorem again {l : List UInt8} (h : okB l = true) (hl : (joinF (fieldsR l)).length ≤ 600) : okB (joinF (fieldsR l)) = true ∧ fieldsR (joinF (fieldsR l)) = fieldsR l := by
  have hf := good_fields h
  rw [fieldsR_good h] at hl ⊢
  have h1 := good hl (join_bytes hf) (by rw [fields_join hf]; exact (ok_bytes h).2)
  exact ⟨h1, by rw [fieldsR_good h1, fields_join hf]⟩
/-- The joined fields are no longer than the line and one space a field. -/
theorem fold_size : ∀ (l : List UInt8) (st : St), (joinF (l.foldl stepF st).1).length + (l.foldl stepF st).2.length ≤ (joinF st.1).length + st.2.length + 2 * l.length
  | [], st => by simp
  | c :: l, st => by
    rw [List.foldl_cons]
    have ih := fold_size l (stepF st c)
    have h : (joinF (stepF st c).1).length + (stepF st c).2.length ≤ (joinF st.1).length + st.2.length + 1 := by
      unfold stepF
      split
      · split
        · omega
        · simp [joinF_snoc]; omega
      · simp; omega
    rw [List.length_cons]; omega
theorem join_size (l : List UInt8) (h : okB l = true) : (joinF (fieldsR l)).length ≤ 2 * l.length + 1 ∧ l.length ≤ 600 := by
  rw [fieldsR_good h]
  have hs := fold_size l ([], [])
  refine ⟨?_, by simp only [okB, Bool.and_eq_true, decide_eq_true_eq] at h; exact h.1.1⟩
  unfold fieldsOf endF stF
  simp [joinF] at hs
  split
  · simp [joinF]; omega
  · rw [joinF_snoc]; simp [joinF]; omega
theorem join_take (F : List (List UInt8)) (k : Nat) (h : k < F.length) : joinF (F.take (k + 1)) = joinF (F.take k) ++ F[k] ++ [32] := by
  rw [List.take_succ_eq_append_getElem h, joinF_snoc]
theorem join_take_le (F : List (List UInt8)) (k : Nat) : (joinF (F.take k)).length ≤ (joinF F).length := by
  have e : joinF F = joinF (F.take k) ++ joinF (F.drop k) := by
    have h := List.flatMap_append (xs := F.take k) (ys := F.drop k) (f := fun f : List UInt8 => f ++ [32])
    rw [List.take_append_drop] at h
    exact h
  rw [e]; simp
end Go.Proofs.YtpipnhceajdfkaaDoor.spl
