/- Several texts in one: PuA. -/
import Derived.Lib.ItoaNum
import Derived.Lib.AtoiAll

/- The plain mathematics of parsing decimal text. -/
namespace Go.Proofs.YtpipnhceajdfkaaGreatDoor.pu
open Go

/-- What digits spell. -/
def val (l : List UInt8) : Nat := l.foldl (fun a c => 10 * a + (c.toNat - 48)) 0
def isDig (c : UInt8) : Prop := 48 ≤ c.toNat ∧ c.toNat ≤ 57
def allDig (l : List UInt8) : Prop := ∀ c ∈ l, isDig c

theorem val_snoc (l : List UInt8) (c : UInt8) : val (l ++ [c]) = 10 * val l + (c.toNat - 48) := by simp [val]
theorem dig_toNat (x : Nat) (h : x < 10) : (UInt8.ofNat (48 + x)).toNat = 48 + x := by simp; omega

theorem val_dec (n : Nat) : val (Lib.decDigits n) = n := by
  induction n using Nat.strongRecOn with
  | _ n ih =>
    rw [Lib.decDigits]
    by_cases h : n < 10
    · rw [dif_pos h]; show 10 * 0 + ((UInt8.ofNat (48 + n)).toNat - 48) = n; rw [dig_toNat n h]; omega
    · rw [dif_neg h, val_snoc, ih _ (by omega), dig_toNat _ (by omega)]; omega

theorem dig_dec (n : Nat) : allDig (Lib.decDigits n) := by
  induction n using Nat.strongRecOn with
  | _ n ih =>
    rw [Lib.decDigits]
    by_cases h : n < 10
    · rw [dif_pos h]; intro c hc; rw [List.mem_singleton] at hc; subst hc; unfold isDig; rw [dig_toNat n h]; omega
    · rw [dif_neg h]; intro c hc
      rcases List.mem_append.1 hc with hc | hc
      · exact ih _ (by omega) c hc
      · rw [List.mem_singleton] at hc; subst hc; unfold isDig; rw [dig_toNat (n % 10) (by omega)]; omega

theorem len_dec : ∀ (k n : Nat), n < 10 ^ (k + 1) → (Lib.decDigits n).length ≤ k + 1
  | 0, n, h => by rw [Lib.decDigits, dif_pos (by simpa using h)]; simp
  | k + 1, n, h => by
    rw [Lib.decDigits]
    by_cases h10 : n < 10
    · rw [dif_pos h10]; simp
    · rw [dif_neg h10]
      have := len_dec k (n / 10) (by rw [Nat.pow_succ] at h; omega)
      simp; omega
theorem len_big (n : Nat) (h : n ≤ 1000000000) : (Lib.decDigits n).length ≤ 10 := len_dec 9 n (by omega)
theorem pos_dec (n : Nat) : Lib.decDigits n ≠ [] := by
  rw [Lib.decDigits]; split <;> simp

/-- How a parse must end. -/
def IsPu (l : List UInt8) (v : Int) (b : Bool) : Prop :=
  (b = true ∧ 0 ≤ v ∧ v ≤ 1000000000 ∧ Lib.itoa v = l) ∨ (b = false ∧ v = 0 ∧ ∀ n : Int, 0 ≤ n → n ≤ 1000000000 → Lib.itoa n ≠ l)

theorem itoa_nat {v : Int} (h : 0 ≤ v) : Lib.itoa v = Lib.decDigits v.toNat := by unfold Lib.itoa; rw [if_neg (by omega)]
theorem val_itoa {v : Int} (h : 0 ≤ v) : (val (Lib.itoa v) : Int) = v := by rw [itoa_nat h, val_dec]; omega

theorem IsPu.unique {l : List UInt8} {v v' : Int} {b b' : Bool} (h : IsPu l v b) (h' : IsPu l v' b') : v = v' ∧ b = b' := by
  rcases h with ⟨rfl, h0, h1, h2⟩ | ⟨rfl, rfl, hn⟩ <;> rcases h' with ⟨rfl, k0, k1, k2⟩ | ⟨rfl, rfl, kn⟩
  · exact ⟨by rw [← val_itoa h0, ← val_itoa k0, h2, k2], rfl⟩
  · exact absurd h2 (kn v h0 h1)
  · exact absurd k2 (hn v' k0 k1)
  · exact ⟨rfl, rfl⟩

theorem no_long {l : List UInt8} (h : 10 < l.length) : IsPu l 0 false := .inr ⟨rfl, rfl, fun n h0 h1 e => by
  have := len_big n.toNat (by omega)
  rw [itoa_nat h0] at e; rw [e] at this; omega⟩
theorem no_other {l : List UInt8} {c : UInt8} (hc : c ∈ l) (h : ¬ isDig c) : IsPu l 0 false := .inr ⟨rfl, rfl, fun n h0 _ e => by
  rw [itoa_nat h0] at e
  exact h (dig_dec n.toNat c (by rw [e]; exact hc))⟩
theorem no_val {l : List UInt8} (h : (1000000000 : Int) < val l ∨ Lib.itoa (val l) ≠ l) : IsPu l 0 false := .inr ⟨rfl, rfl, fun n h0 h1 e => by
  have hv : (val l : Int) = n := by rw [← e]; exact val_itoa h0
  rcases h with h | h
  · omega
  · rw [hv] at h; exact h e⟩
theorem yes_val {l : List UInt8} (h : (val l : Int) ≤ 1000000000) (h2 : Lib.itoa (val l) = l) : IsPu l (val l) true := .inl ⟨rfl, by omega, h, h2⟩

theorem parse_digits : ∀ (l : List UInt8) (acc : Nat), allDig l → (acc + 1) * 10 ^ l.length ≤ 10 ^ 18 →
    Lib.parseUint10 acc l = .ok (l.foldl (fun a c => 10 * a + (c.toNat - 48)) acc)
  | [], acc, _, _ => rfl
  | c :: r, acc, hd, hb => by
    have hc := hd c (by simp)
    unfold isDig at hc
    have hp : 1 ≤ 10 ^ r.length := Nat.one_le_pow _ _ (by omega)
    have h1 : (acc + 1) * 10 ≤ 10 ^ 18 := by
      rw [List.length_cons, Nat.pow_succ] at hb
      have : (acc + 1) * 10 ≤ (acc + 1) * (10 ^ r.length * 10) := Nat.mul_le_mul_left _ (by omega)
      omega
    have h18 : (10 : Nat) ^ 18 = 1000000000000000000 := by decide
    rw [Lib.parseUint10, if_pos hc, if_neg (by omega), if_neg (by omega)]
    have e : acc * 10 + (c.toNat - 48) = 10 * acc + (c.toNat - 48) := by omega
    rw [e, parse_digits r _ (fun x hx => hd x (by simp [hx]))]
    · rfl
    · rw [List.length_cons, Nat.pow_succ] at hb
      refine Nat.le_trans (Nat.mul_le_mul_right _ (show 10 * acc + (c.toNat - 48) + 1 ≤ (acc + 1) * 10 by omega)) ?_
      rw [Nat.mul_assoc, Nat.mul_comm 10]; exact hb

theorem atoi_digits {l : List UInt8} (hne : l ≠ []) (hd : allDig l) (hl : l.length ≤ 10) : Lib.atoiAll l = .ok (val l : Int) := by
  cases l with
  | nil => exact absurd rfl hne
  | cons c r =>
    have hc := hd c (by simp)
    unfold isDig at hc
    have hp : Lib.parseUint10 0 (c :: r) = .ok (val (c :: r)) := parse_digits (c :: r) 0 hd (by
      rw [Nat.zero_add, Nat.one_mul]; exact Nat.pow_le_pow_right (by omega) (by omega))
    have hv : val (c :: r) < 9223372036854775808 := by
      have h2 : ∀ (l : List UInt8) (acc : Nat), allDig l → l.foldl (fun a c => 10 * a + (c.toNat - 48)) acc < (acc + 1) * 10 ^ l.length := by
        intro l
        induction l with
        | nil => intro acc _; simp
        | cons x t ih =>
          intro acc hx
          have h0 := hx x (by simp)
          unfold isDig at h0
          have := ih (10 * acc + (x.toNat - 48)) (fun y hy => hx y (by simp [hy]))
          rw [List.foldl_cons, List.length_cons, Nat.pow_succ]
          refine Nat.lt_of_lt_of_le this ?_
          refine Nat.le_trans (Nat.mul_le_mul_right _ (show 10 * acc + (x.toNat - 48) + 1 ≤ (acc + 1) * 10 by omega)) ?_
          rw [Nat.mul_assoc, Nat.mul_comm 10]; exact Nat.le_refl _
      have h3 := h2 (c :: r) 0 hd
      have h4 : (10 : Nat) ^ (c :: r).length ≤ 10 ^ 10 := Nat.pow_le_pow_right (by omega) hl
      have h5 : (10 : Nat) ^ 10 = 10000000000 := by decide
      unfold val
      rw [Nat.zero_add, Nat.one_mul] at h3
      omega
    have hm : Lib.parseMag (c :: r) = .ok (val (c :: r)) := by unfold Lib.parseMag; rw [if_neg (by simp)]; exact hp
    simp only [Lib.atoiAll]
    rw [if_neg (by omega), hm]
    simp only
    rw [if_neg (by omega), if_neg (by omega), if_neg (by omega)]

theorem atoi_dec {n : Int} (h0 : 0 ≤ n) (h1 : n ≤ 1000000000) : Lib.atoiAll (Lib.itoa n) = .ok n := by
  rw [itoa_nat h0, atoi_digits (pos_dec _) (dig_dec _) (len_big _ (by omega)), val_dec]
  congr 1; omega

/-- Where the library's parser ends otherwise than with a number in the range whose text this is, there is none. -/
theorem no_atoi {l : List UInt8} (h : ∀ n : Int, 0 ≤ n → n ≤ 1000000000 → Lib.itoa n = l → Lib.atoiAll l ≠ .ok n) : IsPu l 0 false :=
  .inr ⟨rfl, rfl, fun n h0 h1 e => h n h0 h1 e (by rw [← e]; exact atoi_dec h0 h1)⟩
end Go.Proofs.YtpipnhceajdfkaaGreatDoor.pu
