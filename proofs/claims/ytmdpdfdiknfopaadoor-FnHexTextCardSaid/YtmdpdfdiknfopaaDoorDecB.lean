/- What a decoder hands back, and one more byte decoded. -/
import Derived.Test.YtmdpdfdiknfopaaDoorBytes
import Derived.Test.YtmdpdfdiknfopaaDoorDecA
import Derived.Laws.BitsLemmas
import Derived.Deep.AppendLies
namespace Go.Proofs.YtmdpdfdiknfopaaDoor.hex
open Go.ChangeShapes Go.WideShapes Go.ChangeAt Go.RowKit Go.Proofs.YtmdpdfdiknfopaaDoor.byt

theorem ret_v {k : IntKind} {a b : Int} (h : a = b) : Ending.returned (.int k a) = .returned (.int k b) := by rw [h]
theorem ret_tb {k : IntKind} {a b : Int} {c : Bool} (h : a = b) : Ending.returned (.tuple #[.int k a, .bool c]) = .returned (.tuple #[.int k b, .bool c]) := by rw [h]

/-- What a decoder hands back. -/
def DecOut (s : ByteArray) (w : World) (e : Ending) (w' : World) : Prop :=
  e = .returned (.tuple #[.string ⟨(decS s.data.toList).toArray⟩, .bool (decB s.data.toList)]) ∧ Below w.heap.size w w'

theorem decOut_bad {s : ByteArray} {w w' : World} {j : Nat} {acc : List UInt8} (h : Upto s.data.toList j acc) (hj : j + 1 < s.size) (h0 : ¬ (0 ≤ hv (s[j].toNat) ∧ 0 ≤ hv (s[j + 1].toNat))) (hb : Below w.heap.size w w') :
    DecOut s w (.returned (.tuple #[.string ByteArray.empty, .bool false])) w' := by
  obtain ⟨e1, e2⟩ := upto_bad h (by simpa using hj) h0
  unfold DecOut
  rw [e1, e2]
  exact ⟨rfl, hb⟩

theorem decOut_end {s : ByteArray} {w w' : World} {j : Nat} {acc : List UInt8} (h : Upto s.data.toList j acc) (hj : s.size ≤ j) (hb : Below w.heap.size w w') :
    DecOut s w (.returned (.tuple #[.string ⟨acc.toArray⟩, .bool true])) w' := by
  obtain ⟨e1, e2⟩ := upto_end h (by simpa using hj)
  unfold DecOut
  rw [e1, e2]
  exact ⟨rfl, hb⟩

theorem cells_step {s : ByteArray} {j : Nat} (acc : List UInt8) (hj : j + 1 < s.size) (h0 : 0 ≤ hv (s[j].toNat)) (h1 : 0 ≤ hv (s[j + 1].toNat)) :
    Lib.byteCells (acc ++ [join s[j] s[j + 1]]) = Lib.byteCells acc ++ [Value.int .u8 (16 * hv (s[j].toNat) + hv (s[j + 1].toNat))] := by
  rw [byteCells_app]
  congr 1
  simp only [Lib.byteCells, List.map_cons, List.map_nil]
  rw [join_toNat _ _ h0 h1]

theorem step_up {s : ByteArray} {j : Nat} {acc : List UInt8} (h : Upto s.data.toList j acc) (hj : j + 1 < s.size) (h0 : 0 ≤ hv (s[j].toNat)) (h1 : 0 ≤ hv (s[j + 1].toNat)) :
    Upto s.data.toList (j + 2) (acc ++ [join s[j] s[j + 1]]) := upto_step h (by simpa using hj) h0 h1
end Go.Proofs.YtmdpdfdiknfopaaDoor.hex
