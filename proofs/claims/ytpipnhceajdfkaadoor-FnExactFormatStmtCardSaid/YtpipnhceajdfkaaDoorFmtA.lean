/- The plain mathematics of decimal text. -/
import Derived.Lib.ItoaNum
import Derived.Test.YtpipnhceajdfkaaDoorHexA
namespace Go.Proofs.YtpipnhceajdfkaaDoor.dec
open Go.Proofs.YtpipnhceajdfkaaDoor.hex

/-- How far a number is written: what is left of it, and the digits that stand already. -/
def Left (n m : Int) (l : List UInt8) : Prop :=
  Lib.decDigits n.natAbs = (if m = 0 then [] else Lib.decDigits m.natAbs) ++ l ∧ (0 ≤ n → 0 ≤ m) ∧ (n ≤ 0 → m ≤ 0)

theorem left_start {n : Int} (h : n ≠ 0) : Left n n [] := by
  refine ⟨?_, fun h => h, fun h => h⟩
  rw [if_neg h]; simp

theorem digit_ofNat (x : Nat) (h : x < 10) : digit x = UInt8.ofNat (48 + x) := by unfold digit; rw [if_pos h]

theorem left_step {n m : Int} {l : List UInt8} (h : Left n m l) (h0 : m ≠ 0) : Left n (m.tdiv 10) (digit (m.natAbs % 10) :: l) := by
  obtain ⟨h1, h2, h3⟩ := h
  have e1 : (m.tdiv 10).natAbs = m.natAbs / 10 := by rw [Int.natAbs_tdiv]; rfl
  have e0 : (m.tdiv 10 = 0) ↔ m.natAbs / 10 = 0 := by rw [← e1]; exact Int.natAbs_eq_zero.symm
  refine ⟨?_, fun hn => Int.tdiv_nonneg (h2 hn) (by omega), fun hn => ?_⟩
  · rw [h1, if_neg h0, Lib.decDigits]
    rw [digit_ofNat _ (by omega)]
    by_cases hs : m.natAbs < 10
    · have hz : m.tdiv 10 = 0 := e0.2 (by omega)
      rw [dif_pos hs, if_pos hz]
      have : m.natAbs % 10 = m.natAbs := by omega
      rw [this]; simp
    · have hz : m.tdiv 10 ≠ 0 := fun hz => by have := e0.1 hz; omega
      rw [dif_neg hs, if_neg hz, e1]; simp
  · have := h3 hn
    have hh : m.tdiv 10 = -((-m).tdiv 10) := by rw [Int.neg_tdiv]; simp
    rw [hh]
    have := Int.tdiv_nonneg (a := -m) (b := 10) (by omega) (by omega)
    omega

theorem left_end {n : Int} {l : List UInt8} (h : Left n 0 l) : Lib.decDigits n.natAbs = l := by
  have := h.1; simpa using this

theorem itoa_pos {n : Int} (h : 0 < n) : Lib.itoa n = Lib.decDigits n.natAbs := by
  unfold Lib.itoa; rw [if_neg (by omega)]; congr 1; omega
theorem itoa_neg {n : Int} (h : n < 0) : Lib.itoa n = 45 :: Lib.decDigits n.natAbs := by
  unfold Lib.itoa; rw [if_pos h]
theorem itoa_zero : Lib.itoa 0 = [48] := by rw [Lib.itoa]; simp; rw [Lib.decDigits]; rfl

theorem left_len {n m : Int} {l : List UInt8} (h : Left n m l) : l.length ≤ (Lib.decDigits n.natAbs).length := by
  rw [h.1]; simp

theorem abs_parts {m d : Int} (h : m.tmod 10 = d) : -10 < d ∧ d < 10 ∧ d.natAbs = m.natAbs % 10 := by
  have h1 : d.natAbs = m.natAbs % 10 := by rw [← h, Int.natAbs_tmod]; rfl
  omega
theorem str_app (a b : List UInt8) : (⟨a.toArray⟩ ++ ⟨b.toArray⟩ : ByteArray) = ⟨(a ++ b).toArray⟩ := by
  apply ByteArray.ext; simp
end Go.Proofs.YtpipnhceajdfkaaDoor.dec
