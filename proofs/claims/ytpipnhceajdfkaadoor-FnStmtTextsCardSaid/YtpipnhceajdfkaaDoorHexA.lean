/- The plain mathematics of hexadecimal text. -/
import Derived.Below
import Derived.Lib.UnsafeStr
namespace Go.Proofs.YtpipnhceajdfkaaDoor.hex

/-- The digit of a half byte, as a number. -/
def fig (x : Int) : Int := if x < 10 then 48 + x else 87 + x
def digit (x : Nat) : UInt8 := UInt8.ofNat (if x < 10 then 48 + x else 87 + x)
def enc1 (b : UInt8) : List UInt8 := [digit (b.toNat / 16), digit (b.toNat % 16)]
def enc (l : List UInt8) : List UInt8 := l.flatMap enc1

theorem enc_snoc (l : List UInt8) (b : UInt8) : enc (l ++ [b]) = enc l ++ enc1 b := by simp [enc]
theorem enc_length (l : List UInt8) : (enc l).length = 2 * l.length := by
  induction l with
  | nil => rfl
  | cons b l ih => simp [enc] at ih ⊢; rw [ih]; simp [enc1]; omega
theorem fig_bd (x : Int) (h0 : 0 ≤ x) (h1 : x < 16) : 48 ≤ fig x ∧ fig x ≤ 102 := by unfold fig; split <;> omega
theorem digit_toNat (x : Nat) (h : x < 16) : ((digit x).toNat : Int) = fig x := by
  unfold digit fig
  by_cases h10 : x < 10
  · rw [if_pos h10, if_pos (by omega)]; simp; omega
  · rw [if_neg h10, if_neg (by omega)]; simp; omega
theorem cells_enc1 (b : UInt8) : Lib.byteCells (enc1 b) = [Value.int .u8 (fig ((b.toNat : Int) / 16)), Value.int .u8 (fig ((b.toNat : Int) % 16))] := by
  have hb : b.toNat < 256 := b.toNat_lt
  simp only [enc1, Lib.byteCells, List.map_cons, List.map_nil]
  rw [digit_toNat _ (by omega), digit_toNat _ (by omega)]
  simp
end Go.Proofs.YtpipnhceajdfkaaDoor.hex
