/- The plain mathematics of decoding hexadecimal text. -/
import Derived.Below
import Derived.Lib.UnsafeStr
namespace Go.Proofs.YtmdpdfdiknfopaaDoor.hex

/-- The value of a digit; -1 for any other byte. -/
def hv (c : Int) : Int := if 48 ≤ c ∧ c ≤ 57 then c - 48 else if 97 ≤ c ∧ c ≤ 102 then c - 87 else -1
theorem hv_bd (c : Int) : -1 ≤ hv c ∧ hv c < 16 := by unfold hv; split; omega; split <;> omega
theorem hv_num {c : Int} (h0 : 48 ≤ c) (h1 : c ≤ 57) : hv c = c - 48 := by unfold hv; rw [if_pos ⟨h0, h1⟩]
theorem hv_let {c : Int} (h0 : 97 ≤ c) (h1 : c ≤ 102) : hv c = c - 87 := by unfold hv; rw [if_neg (by omega), if_pos ⟨h0, h1⟩]
theorem hv_no {c : Int} (h : c < 48 ∨ (57 < c ∧ c < 97) ∨ 102 < c) : hv c = -1 := by unfold hv; rw [if_neg (by omega), if_neg (by omega)]

def join (h l : UInt8) : UInt8 := UInt8.ofNat (16 * hv h.toNat + hv l.toNat).toNat

def dec : List UInt8 → Option (List UInt8)
  | [] => some []
  | [_] => none
  | h :: l :: r => if 0 ≤ hv h.toNat ∧ 0 ≤ hv l.toNat then (dec r).map (join h l :: ·) else none

theorem dec_pair {h l : UInt8} (r : List UInt8) (h0 : 0 ≤ hv h.toNat) (h1 : 0 ≤ hv l.toNat) : dec (h :: l :: r) = (dec r).map (join h l :: ·) := by
  rw [dec, if_pos ⟨h0, h1⟩]
theorem dec_bad {h l : UInt8} (r : List UInt8) (h0 : ¬ (0 ≤ hv h.toNat ∧ 0 ≤ hv l.toNat)) : dec (h :: l :: r) = none := by
  rw [dec, if_neg h0]

def decS (l : List UInt8) : List UInt8 := (dec l).getD []
def decB (l : List UInt8) : Bool := (dec l).isSome

/-- How far the text is decoded: 'acc' is the beginning; what is left is the text from 'j' on. -/
def Upto (l : List UInt8) (j : Nat) (acc : List UInt8) : Prop := dec l = (dec (l.drop j)).map (acc ++ ·) ∧ 2 * acc.length = j

theorem upto_zero (l : List UInt8) : Upto l 0 [] := by
  refine ⟨?_, rfl⟩
  cases h : dec l <;> simp [h]

theorem drop_two (l : List UInt8) (j : Nat) (h : j + 1 < l.length) : l.drop j = l[j] :: l[j + 1] :: l.drop (j + 2) := by
  rw [List.drop_eq_getElem_cons (by omega), List.drop_eq_getElem_cons (by omega)]

theorem upto_step {l : List UInt8} {j : Nat} {acc : List UInt8} (h : Upto l j acc) (hj : j + 1 < l.length) (h0 : 0 ≤ hv l[j].toNat) (h1 : 0 ≤ hv l[j + 1].toNat) :
    Upto l (j + 2) (acc ++ [join l[j] l[j + 1]]) := by
  refine ⟨?_, by have := h.2; simp; omega⟩
  rw [h.1, drop_two l j hj, dec_pair _ h0 h1]
  cases dec (l.drop (j + 2)) <;> simp

theorem upto_bad {l : List UInt8} {j : Nat} {acc : List UInt8} (h : Upto l j acc) (hj : j + 1 < l.length) (h0 : ¬ (0 ≤ hv l[j].toNat ∧ 0 ≤ hv l[j + 1].toNat)) : decS l = [] ∧ decB l = false := by
  have : dec l = none := by rw [h.1, drop_two l j hj, dec_bad _ h0]; rfl
  simp [decS, decB, this]

theorem upto_end {l : List UInt8} {j : Nat} {acc : List UInt8} (h : Upto l j acc) (hj : l.length ≤ j) : decS l = acc ∧ decB l = true := by
  have : dec l = some acc := by rw [h.1, List.drop_of_length_le hj]; simp [dec]
  simp [decS, decB, this]

theorem dec_odd : ∀ (l : List UInt8), l.length % 2 = 1 → dec l = none
  | [], h => by simp at h
  | [_], _ => rfl
  | a :: b :: r, h => by
    have := dec_odd r (by simp at h; omega)
    rw [dec]; split
    · rw [this]; rfl
    · rfl
theorem dec_len : ∀ (l r : List UInt8), dec l = some r → 2 * r.length = l.length
  | [], r, h => by simp [dec] at h; subst h; rfl
  | [_], r, h => by simp [dec] at h
  | a :: b :: t, r, h => by
    rw [dec] at h; split at h
    · cases ht : dec t with
      | none => rw [ht] at h; cases h
      | some t' => rw [ht] at h; simp at h; subst h; have := dec_len t t' ht; simp; omega
    · cases h

theorem join_toNat (h l : UInt8) (h0 : 0 ≤ hv h.toNat) (h1 : 0 ≤ hv l.toNat) : ((join h l).toNat : Int) = 16 * hv h.toNat + hv l.toNat := by
  have a := hv_bd h.toNat
  have b := hv_bd l.toNat
  unfold join
  simp
  omega
end Go.Proofs.YtmdpdfdiknfopaaDoor.hex
