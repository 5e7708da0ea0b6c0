/- Chapter 9's MemVars, MemSent and MemNew at every row of numbers: the program's and the model's answers are the same lists. -/
import Derived.Test.YtekeonenbhmejaaMemW
namespace Go.Proofs.Ytekeonenbhmejaa.mem
open Go.ChangeShapes Go.WideShapes Go.ChangeAt Go.RowKit Go.Proofs.Ytekeonenbhmejaa.row Go.Proofs.Ytekeonenbhmejaa.val Go.Proofs.Ytekeonenbhmejaa.expr Go.Proofs.Ytekeonenbhmejaa.ctl

def varsOf (L : List Int) : List Int := if L.length = 49 then L.take 8 else []
def sentOf (L : List Int) : List Int := if L.length = 49 then sentV L else []
theorem varsOf_yes {L : List Int} (h : L.length = 49) : varsOf L = L.take 8 := if_pos h
theorem sentOf_yes {L : List Int} (h : L.length = 49) : sentOf L = sentV L := if_pos h
theorem varsOf_no {L : List Int} (h : ¬ L.length = 49) : varsOf L = [] := if_neg h
theorem sentOf_no {L : List Int} (h : ¬ L.length = 49) : sentOf L = [] := if_neg h
theorem varsOf_len (L : List Int) : (varsOf L).length ≤ 64 := by unfold varsOf; split <;> simp; omega
theorem sentOf_len (L : List Int) : (sentOf L).length ≤ 64 := by
  unfold sentOf; split
  · have := sentV_len L; omega
  · simp
theorem newV_len (L : List Int) : (newV L).length ≤ 64 := by
  cases h : varsOk L
  · rw [newV_no h]; simp
  · have := (newV_yes h).2.1; omega
theorem spec_memvars (w : World) (a : Option Addr) (n cap : Nat) (L : List Int) (_hn : (n : Int) ≤ 1048576) (hcap : n ≤ cap) (h : Row w a n L) : Calls Try.prog 28 #[.slice a n cap] w (NewInts w (varsOf L)) := by
  have hl := h.1
  by_cases h49 : n = 49
  · subst h49
    obtain ⟨b, off, rfl⟩ := row_some h (by decide)
    rw [varsOf_yes hl]; exact spec_memvars_yes w b off cap hcap L h
  · rw [varsOf_no (by omega)]; exact spec_memvars_no w a n cap h49
theorem impl_memvars (w : World) (a : Option Addr) (n cap : Nat) (L : List Int) (_hn : (n : Int) ≤ 1048576) (_hcap : n ≤ cap) (h : Row w a n L) (_hw : ∀ x ∈ L, -9223372036854775808 ≤ x ∧ x ≤ 9223372036854775807) : Calls Try.prog 29 #[.slice a n cap] w (NewInts w (varsOf L)) := by
  have hl := h.1
  by_cases h49 : n = 49
  · subst h49
    obtain ⟨b, off, rfl⟩ := row_some h (by decide)
    rw [varsOf_yes hl]; exact impl_memvars_yes w b off cap L h
  · rw [varsOf_no (by omega)]; exact impl_memvars_no w a n cap h49
theorem spec_memsent (w : World) (a : Option Addr) (n cap : Nat) (L : List Int) (_hn : (n : Int) ≤ 1048576) (hcap : n ≤ cap) (h : Row w a n L) : Calls Try.prog 30 #[.slice a n cap] w (NewInts w (sentOf L)) := by
  have hl := h.1
  by_cases h49 : n = 49
  · subst h49
    obtain ⟨b, off, rfl⟩ := row_some h (by decide)
    rw [sentOf_yes hl]; exact spec_memsent_yes w b off cap hcap L h
  · rw [sentOf_no (by omega)]; exact spec_memsent_no w a n cap h49
theorem impl_memsent (w : World) (a : Option Addr) (n cap : Nat) (L : List Int) (_hn : (n : Int) ≤ 1048576) (_hcap : n ≤ cap) (h : Row w a n L) (hw : ∀ x ∈ L, -9223372036854775808 ≤ x ∧ x ≤ 9223372036854775807) : Calls Try.prog 31 #[.slice a n cap] w (NewInts w (sentOf L)) := by
  have hl := h.1
  by_cases h49 : n = 49
  · subst h49
    obtain ⟨b, off, rfl⟩ := row_some h (by decide)
    rw [sentOf_yes hl]; exact impl_memsent_yes w b off cap L h hw
  · rw [sentOf_no (by omega)]; exact impl_memsent_no w a n cap h49
theorem spec_memnew' (w : World) (a : Option Addr) (n cap : Nat) (L : List Int) (hn : (n : Int) ≤ 1048576) (_hcap : n ≤ cap) (h : Row w a n L) : Calls Try.prog 17 #[.slice a n cap] w (NewMem w 3 (newV L) (varsOk L)) := spec_memnew w a n cap L hn h
theorem impl_memnew' (w : World) (a : Option Addr) (n cap : Nat) (L : List Int) (hn : (n : Int) ≤ 1048576) (_hcap : n ≤ cap) (h : Row w a n L) (_hw : ∀ x ∈ L, -9223372036854775808 ≤ x ∧ x ≤ 9223372036854775807) : Calls Try.prog 19 #[.slice a n cap] w (NewMem w TM (newV L) (varsOk L)) := impl_memnew w a n cap L hn h
end Go.Proofs.Ytekeonenbhmejaa.mem
