/- One more byte of hexadecimal text. -/
import Derived.Test.YtpipnhceajdfkaaDoorBytes
import Derived.Test.YtpipnhceajdfkaaDoorHexA
import Derived.Deep.RegionHeld3
import Derived.Deep.AppendLies
import Derived.Laws.Pointers
import Derived.WalkSpells
namespace Go.Proofs.YtpipnhceajdfkaaDoor.hex
open Go.ChangeShapes Go.WideShapes Go.ChangeAt Go.RowKit Go.Proofs.YtpipnhceajdfkaaDoor.byt

theorem ret_u8 {k : IntKind} {a b : Int} (h : a = b) : Ending.returned (.int k a) = .returned (.int k b) := by rw [h]
theorem enc_step (s : ByteArray) (k : Nat) (h : k < s.size) : Lib.byteCells (enc (s.data.toList.take (k + 1))) = Lib.byteCells (enc (s.data.toList.take k)) ++ [Value.int .u8 (fig ((s[k].toNat : Int) / 16)), Value.int .u8 (fig ((s[k].toNat : Int) % 16))] := by
  rw [take_snoc s k h, enc_snoc, byteCells_app, cells_enc1]
end Go.Proofs.YtpipnhceajdfkaaDoor.hex
