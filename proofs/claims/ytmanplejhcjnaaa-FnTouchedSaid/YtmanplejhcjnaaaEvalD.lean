/- The value of an expression is a value and depends on its operands alone: plain mathematics over the functions of the texts before; and the law's own search in a row of numbers. -/
import Derived.Test.YtmanplejhcjnaaaReadD
import Derived.Test.YtmanplejhcjnaaaEvalC
import Derived.Test.YtmanplejhcjnaaaEvalE
namespace Go.Proofs.Ytmanplejhcjnaaa.expr
open Go.ChangeShapes Go.WideShapes Go.ChangeAt Go.RowKit Go.Proofs.Ytmanplejhcjnaaa.row Go.Proofs.Ytmanplejhcjnaaa.val

theorem mem_rd {a b : Int} {k j : Nat} : (j : Int) ∈ rd a b k ↔ j < k ∧ (a = -1 - (j : Int) ∨ b = -1 - (j : Int)) := by
  simp only [rd, List.mem_map, List.mem_filter, List.mem_range, Bool.or_eq_true, decide_eq_true_eq]
  constructor
  · rintro ⟨i, ⟨h1, h2⟩, e⟩
    have : i = j := by omega
    subst this; exact ⟨h1, h2⟩
  · rintro ⟨h1, h2⟩; exact ⟨j, ⟨h1, h2⟩, rfl⟩
theorem varsOk_set {V : List Int} (h : varsOk V = true) {q : Int} (hq : isVal q = true) (j : Nat) : varsOk (V.set j q) = true := by
  obtain ⟨h1, h2⟩ := (varsOk_iff V).1 h
  refine (varsOk_iff _).2 ⟨by simpa using h1, fun x hx => ?_⟩
  rcases List.mem_or_eq_of_mem_set hx with h | h
  · exact h2 x h
  · rw [h]; exact hq
theorem valOf_set {V : List Int} {q m : Int} {j : Nat} (hm : m ≠ -1 - (j : Int)) : valOf (V.set j q) m = valOf V m := by
  unfold valOf
  split
  · rw [List.getD_eq_getElem?_getD, List.getD_eq_getElem?_getD, List.getElem?_set_ne (by omega)]
  · rfl
theorem evalV_set {V : List Int} {q : Int} {j : Nat} {o a b : Int} (h : varsOk V = true) (hq : isVal q = true) (hj : j < 8) (hn : ¬ (j : Int) ∈ rd a b 8) : evalV (V.set j q) o a b = evalV V o a b := by
  have hne : ¬ (a = -1 - (j : Int) ∨ b = -1 - (j : Int)) := fun h => hn (mem_rd.2 ⟨hj, h⟩)
  unfold evalV
  rw [varsOk_set h hq j, h, valOf_set (fun e => hne (Or.inl e)), valOf_set (fun e => hne (Or.inr e))]
theorem rd_short {a b : Int} (ha : opndOk a = true) (hb : opndOk b = true) : (rd a b 8).length ≤ 2 := by
  rw [← reads_same a b ((opndOk_iff a).1 ha).1 ((opndOk_iff b).1 hb).1]
  refine Nat.le_trans (Lib.compact_length_le _) ?_
  have h : ∀ x, (vk x).length ≤ 1 := fun x => by unfold vk; split <;> simp
  have h1 := h a; have h2 := h b
  rw [srt, List.length_mergeSort, List.length_append]; omega

set_option maxRecDepth 100000 in
theorem has_any (w : World) (a : Option Addr) (n cap : Nat) (L : List Int) (q : Int) (r : Bool) (hn : (n : Int) ≤ 1048576) (h : Row w a n L) (hr : decide (q ∈ L) = r) :
    Calls Try.prog 15 #[.slice a n cap, .int .i64 q] w (RetB w r) := by
  subst hr
  have HL := Lib.hid h.1
  have HC : Hid (∀ k, k < n → ∃ (b off : Nat) (x : Int), a = some ⟨b, off, none⟩ ∧ L[k]? = some x ∧ w.cell? ⟨b, off + k, none⟩ = some (.int .i64 x)) := fun k hk => by
    obtain ⟨b, off, x, e, _, hx, hc⟩ := h.2 k hk
    exact ⟨b, off, x, e, hx, hc⟩
  clear h
  go_enter Try.func15, Try.ntmps15
  go_wp2
  go_loop [5] (fun i => ∃ k : Nat, k ≤ n ∧ i = .int .i64 k ∧ Hid (¬ q ∈ L.take k)) (fun i => n - (intOf i).toNat)
  case atStart => exact ⟨0, Nat.zero_le _, rfl, by simp [Hid]⟩
  case round =>
    obtain ⟨k, hk, rfl, hA⟩ := hrel
    by_cases hlt : k < n
    · obtain ⟨b, off, x, rfl, hx, hc⟩ := HC.out k hlt
      have hI : (k : Int) < n := by omega
      by_cases hq : x = q
      · subst hq
        have HF : Hid (decide (x ∈ L) = true) := by
          show _ = _
          rw [decide_eq_true_eq]; exact List.mem_of_getElem? hx
        clear hx
        go_wp2
        go_ret
        exact ⟨by rw [HF.out]; rfl, rfl⟩
      · have hqb : (x == q) = false := by simpa using hq
        have HA2 : Hid (¬ q ∈ L.take (k + 1)) := by
          show ¬ _
          rw [List.take_add_one, hx, List.mem_append]
          rintro (h | h)
          · exact hA.out h
          · simp at h; exact hq h.symm
        clear hx hq
        go_wp2
        go_round
        case rel => exact ⟨k + 1, by omega, by go_num, HA2⟩
        case measure => simp [intOf]; omega
    · have hkn : k = n := by omega
      subst hkn
      have HF : Hid (decide (q ∈ L) = false) := by
        show _ = _
        rw [decide_eq_false_iff_not]
        have := hA.out
        rwa [List.take_of_length_le (by have := HL.out; omega)] at this
      clear hA
      go_wp2
      go_ret
      exact ⟨by rw [HF.out]; rfl, rfl⟩
end Go.Proofs.Ytmanplejhcjnaaa.expr
