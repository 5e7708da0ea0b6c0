/- Decoding undoes encoding. -/
import Derived.Test.YtmdpdfdiknfopaaDoorHexA
import Derived.Test.YtmdpdfdiknfopaaDoorDecA
namespace Go.Proofs.YtmdpdfdiknfopaaDoor.hex

theorem hv_digit (x : Nat) (h : x < 16) : hv (digit x).toNat = x := by
  rw [digit_toNat x h]
  unfold fig
  by_cases h10 : (x : Int) < 10
  · rw [if_pos h10, hv_num (by omega) (by omega)]; omega
  · rw [if_neg h10, hv_let (by omega) (by omega)]; omega
theorem join_enc (b : UInt8) : join (digit (b.toNat / 16)) (digit (b.toNat % 16)) = b := by
  have hb : b.toNat < 256 := b.toNat_lt
  unfold join
  rw [hv_digit _ (by omega), hv_digit _ (by omega)]
  have e : (16 * ((b.toNat / 16 : Nat) : Int) + ((b.toNat % 16 : Nat) : Int)).toNat = b.toNat := by omega
  rw [e]; simp
theorem dec_enc (l : List UInt8) : dec (enc l) = some l := by
  induction l with
  | nil => rfl
  | cons b l ih =>
    have e : enc (b :: l) = digit (b.toNat / 16) :: digit (b.toNat % 16) :: enc l := by simp [enc, enc1]
    have hb : b.toNat < 256 := b.toNat_lt
    rw [e, dec_pair _ (by rw [hv_digit _ (by omega)]; omega) (by rw [hv_digit _ (by omega)]; omega), ih, join_enc]
    rfl
theorem decS_enc (l : List UInt8) : decS (enc l) = l := by unfold decS; rw [dec_enc]; rfl
theorem decB_enc (l : List UInt8) : decB (enc l) = true := by unfold decB; rw [dec_enc]; rfl
end Go.Proofs.YtmdpdfdiknfopaaDoor.hex
