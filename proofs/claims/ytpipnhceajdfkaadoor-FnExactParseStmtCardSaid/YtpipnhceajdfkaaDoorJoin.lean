/- The library's strings.Join over an owned row of strings, with a space between. -/
import Derived.Test.YtpipnhceajdfkaaDoorShelf
import Derived.Test.YtpipnhceajdfkaaDoorSplC
namespace Go.Proofs.YtpipnhceajdfkaaDoor.tex
open Go Go.ChangeShapes Go.WideShapes Go.ChangeAt Go.RowKit Go.Proofs.YtpipnhceajdfkaaDoor.spl

/-- The call returns this text; nothing that was there is written. -/
def RetS (w : World) (l : List UInt8) (e : Ending) (w' : World) : Prop := e = .returned (.string ⟨l.toArray⟩) ∧ Below w.heap.size w w'
theorem join_own (xs : List ByteArray) (base : Nat) (v : Value) (n : Nat) (w : World) (ho : w.ownsRow base 9 1 v n (spl.strs xs))
    (hl : (Lib.join (xs.map (·.data.toList)) [32]).length ≤ 1048576) (hn : n ≤ 1048576) :
    Calls Tryd.prog 31 #[v, .string ⟨#[32]⟩] w (RetS w (Lib.join (xs.map (·.data.toList)) [32])) := by
  have hlen : xs.length = n := by have := ho.1; simp [spl.strs] at this; omega
  rcases ho.2 with ⟨rfl, rfl⟩ | ⟨g, cap, cur, rfl, hb, hg, hnc, _, hsz, hcs⟩
  · obtain rfl : xs = [] := List.eq_nil_of_length_eq_zero hlen
    exact (Any.strings_Join_none Tryd.lays156 Tryd.Builder_Extra_156 none 0 ⟨#[32]⟩ w).mono fun e w' ⟨he, hw⟩ => ⟨he, hw ▸ Below.refl _ _⟩
  · subst hlen
    exact Any.strings_Join Tryd.lays156 Tryd.Builder_Extra_156 g 0 cap xs ⟨#[32]⟩ w (fun j x hx => by
      have hj : j < xs.length := (List.getElem?_eq_some_iff.1 hx).1
      have hc := (show w.ownsRow base 9 1 (.slice (some ⟨g, 0, none⟩) xs.length cap) xs.length (spl.strs xs) from ho).cellAt j (by omega)
      rw [Nat.zero_add, hc]
      simp [spl.strs, hx]) (Array.getElem?_eq_some_iff.1 hg).1 (by omega) hnc (by
      have : (⟨#[32]⟩ : ByteArray).data.toList = [32] := rfl
      rw [this]; omega)
end Go.Proofs.YtpipnhceajdfkaaDoor.tex
