/- The program's own parser over its own texts. -/
import Derived.Test.YtmdpdfdiknfopaaDoorPuI
namespace Go.Proofs.YtmdpdfdiknfopaaDoor.pu
open Go Go.ChangeShapes Go.WideShapes Go.ChangeAt Go.RowKit Go.Proofs.YtmdpdfdiknfopaaDoor.byt Go.Proofs.YtmdpdfdiknfopaaDoor.dec Go.Proofs.YtmdpdfdiknfopaaDoor.lay

theorem itoa_out {n : Int} (h : n < 0 ∨ 1000000000 < n) : IsPu (Lib.itoa n) 0 false := .inr ⟨rfl, rfl, fun m h0 h1 e => by
  rcases h with h | h
  · have hd := dig_dec m.toNat
    rw [← itoa_nat h0, e, itoa_neg h] at hd
    have := hd 45 (by simp)
    unfold isDig at this
    simp at this
  · have a := val_itoa h0
    have b := val_itoa (show 0 ≤ n by omega)
    rw [e] at a
    omega⟩
theorem itoa_in {n : Int} (h0 : 0 ≤ n) (h1 : n ≤ 1000000000) : IsPu (Lib.itoa n) n true := .inl ⟨rfl, h0, h1, rfl⟩
theorem itoa_ne (n : Int) : Lib.itoa n ≠ [] := by
  unfold Lib.itoa; split
  · simp
  · exact pos_dec _
theorem itoa_size (n : Int) (hn0 : -9223372036854775808 ≤ n) (hn1 : n ≤ 9223372036854775807) : (⟨(Lib.itoa n).toArray⟩ : ByteArray).size ≤ 1048576 := by
  have := Lib.itoa_length_le n hn0 hn1
  simp [ByteArray.size]; omega
end Go.Proofs.YtmdpdfdiknfopaaDoor.pu
