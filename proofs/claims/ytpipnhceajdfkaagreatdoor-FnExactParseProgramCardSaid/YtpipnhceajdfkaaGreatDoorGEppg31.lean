/- Several texts in one: TexP. -/
import Derived.Test.YtpipnhceajdfkaaGreatDoorGEppg21

/- What parsing a statement's fields must give, from the program's numbers and from the model's. Plain mathematics. -/
namespace Go.Proofs.YtpipnhceajdfkaaGreatDoor.tex
open Go Go.Proofs.YtpipnhceajdfkaaGreatDoor.spl Go.Proofs.YtpipnhceajdfkaaGreatDoor.stm Go.Proofs.YtpipnhceajdfkaaGreatDoor.pu Go.Proofs.YtpipnhceajdfkaaGreatDoor.expr

theorem dec_one (m : Nat) (h : m < 10) : Lib.decDigits m = [UInt8.ofNat (48 + m)] := by rw [Lib.decDigits, dif_pos h]
theorem atoi_small {n : Int} (h : Small n) : Lib.atoiAll (Lib.itoa n) = .ok n := by
  unfold Small at h
  rcases Int.lt_or_le n 0 with hn | hn
  · rw [itoa_n hn]
    rcases (show n = -1 ∨ n = -2 ∨ n = -3 ∨ n = -4 ∨ n = -5 ∨ n = -6 ∨ n = -7 ∨ n = -8 by omega) with rfl | rfl | rfl | rfl | rfl | rfl | rfl | rfl <;>
      (rw [dec_one _ (by decide)]; rfl)
  · exact atoi_dec hn (by omega)
theorem ok_inj {L M : List Int} (h : (L.map fun n => (Lib.NumEnd.ok n : Lib.NumEnd Int)) = M.map .ok) : L = M :=
  (List.map_inj_right fun _ _ e => by injection e).1 h
theorem atoi_nums {t : S} (ht : stOk t = true) : ((nums t).map Lib.itoa).map Lib.atoiAll = (nums t).map .ok := by
  rw [List.map_map]
  exact List.map_congr_left fun n hn => atoi_small ((nums_small ht).1 n hn)
theorem kind_in {k : Int} (h1 : 1 ≤ k) (h2 : k ≤ 6) : kindW (word k) = k := by
  rcases (show k = 1 ∨ k = 2 ∨ k = 3 ∨ k = 4 ∨ k = 5 ∨ k = 6 by omega) with rfl | rfl | rfl | rfl | rfl | rfl <;> decide
theorem kind_ok {s : S} (h : stOk s = true) : 1 ≤ s.k ∧ s.k ≤ 6 := by
  rcases st_form h with ⟨v, o, a, b, rfl, hv, he⟩ | ⟨v, n, rfl, hv, h0, h1⟩ | ⟨o, a, b, rfl, he⟩ | ⟨o, a, b, rfl, he⟩ | ⟨n, rfl, h0, h1⟩ | rfl <;> simp
theorem kind_inj {s : S} {k : Int} (h : stOk s = true) (h1 : 1 ≤ k) (h2 : k ≤ 6) (e : word s.k = word k) : s.k = k := by
  rw [← kind_word h, ← kind_in h1 h2, e]
theorem word_of {s : S} {f0 : List UInt8} {fs : List (List UInt8)} (e : flds s = f0 :: fs) : word s.k = f0 ∧ (nums s).map Lib.itoa = fs := ⟨(List.cons.inj e).1, (List.cons.inj e).2⟩
/-- The program's numbers are those of every valid statement with these fields. -/
theorem nums_are {t : S} {f0 : List UInt8} {fs : List (List UInt8)} {L : List Int} (ht : stOk t = true) (e : flds t = f0 :: fs) (hL : fs.map Lib.atoiAll = L.map .ok) : word t.k = f0 ∧ nums t = L := by
  obtain ⟨e1, e2⟩ := word_of e
  refine ⟨e1, ok_inj ?_⟩
  rw [← atoi_nums ht, e2, hL]
theorem none_bad {f0 : List UInt8} {fs : List (List UInt8)} (h : ∃ x ∈ fs, ∀ v, Lib.atoiAll x ≠ .ok v) : ∀ t, stOk t = true → flds t ≠ f0 :: fs := fun t ht e => by
  obtain ⟨x, hx, hv⟩ := h
  obtain ⟨_, e2⟩ := word_of e
  rw [← e2] at hx
  obtain ⟨n, hn, rfl⟩ := List.mem_map.1 hx
  exact hv n (atoi_small ((nums_small ht).1 n hn))
theorem none_word {f0 : List UInt8} {fs : List (List UInt8)} {L : List Int} (hL : fs.map Lib.atoiAll = L.map .ok) (h : ∀ s, stOk s = true → word s.k = f0 → nums s ≠ L) : ∀ t, stOk t = true → flds t ≠ f0 :: fs :=
  fun t ht e => h t ht (nums_are ht e hL).1 (nums_are ht e hL).2
theorem none_text {s : S} {f0 : List UInt8} {fs : List (List UInt8)} {L : List Int} (hL : fs.map Lib.atoiAll = L.map .ok) (hs : s = cand s.k L) (hw : word s.k = f0) (h1 : 1 ≤ s.k) (h2 : s.k ≤ 6) (hne : textR s ≠ Lib.join (f0 :: fs) [32]) :
    ∀ t, stOk t = true → flds t ≠ f0 :: fs := fun t ht e => by
  obtain ⟨e1, e2⟩ := nums_are ht e hL
  have hk := kind_inj ht h1 h2 (e1.trans hw.symm)
  have est : s = t := by rw [hs, ← hk, ← e2, cand_nums ht]
  exact hne (by rw [est]; exact textR_eq ht e)
theorem some_text {s : S} {F : List (List UInt8)} (hF : F ≠ []) (h : ∀ f ∈ F, f ≠ [] ∧ ∀ c ∈ f, goodC c) (e : textR s = Lib.join F [32]) : IsParse F s true :=
  .inl ⟨rfl, (textR_join hF h e).1, (textR_join hF h e).2⟩
theorem fields_good {l : List UInt8} : ∀ f ∈ fieldsR l, f ≠ [] ∧ ∀ c ∈ f, goodC c := by
  cases h : okB l
  · rw [fieldsR_bad h]; intro f hf; simp at hf
  · rw [fieldsR_good h]; exact good_fields h
/-- The six shapes of a statement that was built from its own numbers. -/
theorem cand_form {k : Int} {L : List Int} (h1 : 1 ≤ k) (h2 : k ≤ 6) :
    (∃ v o a b, cand k L = ⟨1, v, 0, o, a, b⟩) ∨ (∃ v n, cand k L = ⟨2, v, n, 0, 0, 0⟩) ∨ (∃ o a b, cand k L = ⟨3, 0, 0, o, a, b⟩) ∨ (∃ o a b, cand k L = ⟨4, 0, 0, o, a, b⟩) ∨ (∃ n, cand k L = ⟨5, 0, n, 0, 0, 0⟩) ∨ cand k L = ⟨6, 0, 0, 0, 0, 0⟩ := by
  rcases (show k = 1 ∨ k = 2 ∨ k = 3 ∨ k = 4 ∨ k = 5 ∨ k = 6 by omega) with rfl | rfl | rfl | rfl | rfl | rfl
  · exact .inl ⟨_, _, _, _, rfl⟩
  · exact .inr (.inl ⟨_, _, rfl⟩)
  · exact .inr (.inr (.inl ⟨_, _, _, rfl⟩))
  · exact .inr (.inr (.inr (.inl ⟨_, _, _, rfl⟩)))
  · exact .inr (.inr (.inr (.inr (.inl ⟨_, rfl⟩))))
  · exact .inr (.inr (.inr (.inr (.inr rfl))))
/-- The model's search: no kind below 'k' fits. -/
def NoneBelow (F : List (List UInt8)) (k : Int) : Prop := ∀ t : S, stOk t = true → t.k < k → flds t ≠ F
theorem none_start (F : List (List UInt8)) : NoneBelow F 1 := fun t ht h _ => by have := (kind_ok ht).1; omega
theorem none_next {f0 : List UInt8} {fs : List (List UInt8)} {k : Int} (h : NoneBelow (f0 :: fs) k) (hne : ¬ (stOk (cand k (fs.map numV)) = true ∧ textR (cand k (fs.map numV)) = Lib.join (f0 :: fs) [32])) : NoneBelow (f0 :: fs) (k + 1) := fun t ht hk e => by
  by_cases hlt : t.k < k
  · exact h t ht hlt e
  · have hk2 : t.k = k := by omega
    have hc := cand_of ht e
    rw [hk2] at hc
    exact hne ⟨by rw [hc]; exact ht, by rw [hc]; exact textR_eq ht e⟩
theorem none_end {F : List (List UInt8)} (h : NoneBelow F 7) : IsParse F ⟨0, 0, 0, 0, 0, 0⟩ false := parse_none fun t ht => h t ht (by have := (kind_ok ht).2; omega)
theorem none_many {F : List (List UInt8)} (h : 5 < F.length) : IsParse F ⟨0, 0, 0, 0, 0, 0⟩ false := parse_none fun t ht e => by
  rw [← e] at h
  have := (nums_small ht).2
  simp [flds] at h
  omega
end Go.Proofs.YtpipnhceajdfkaaGreatDoor.tex
