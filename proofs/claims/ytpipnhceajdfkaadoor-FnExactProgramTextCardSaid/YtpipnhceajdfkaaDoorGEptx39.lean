/- Several texts in one: SplC Join. -/
import Derived.Test.YtpipnhceajdfkaaDoorGEptx37
import Derived.Test.YtpipnhceajdfkaaDoorGEptx38
import Derived.Deep.QuietTactic
import Derived.BigQuiet
import Derived.Test.YtpipnhceajdfkaaDoorShelf

/- What the splitters hand back at every line, the row read as strings. -/
namespace Go.Proofs.YtpipnhceajdfkaaDoor.spl
open Go.ChangeShapes Go.WideShapes Go.ChangeAt Go.RowKit Go.Proofs.YtpipnhceajdfkaaDoor.byt

def strs (L : List ByteArray) : List Value := L.map Value.string
theorem strCells_strs (F : List (List UInt8)) : strCells F = strs (F.map fun f => ⟨f.toArray⟩) := by simp [strCells, strs]
theorem spec_long (s : ByteArray) (hs : (600 : Int) < s.size) (w : World) :
    Calls Tryd.prog 36 #[.string s] w (SplOut s.data.toList w) := by
  have HB := Lib.hid (bad_long (l := s.data.toList) (by have : s.data.toList.length = s.size := Array.length_toList; omega))
  have HO := Lib.hid (World.ownsRow_made (base := w.heap.size) (e := 9) (size := 1) w #[] 0 (Nat.le_refl _) (by decide) rfl)
  go_enter Tryd.func36, Tryd.ntmps36
  go_wp2
  go_ret2
  exact out_bad HB.out ((Below.refl _ _).alloc (Nat.le_refl _) _) HO.out
theorem impl_long (s : ByteArray) (hs : (600 : Int) < s.size) (w : World) :
    Calls Tryd.prog 28 #[.string s] w (SplOut s.data.toList w) := by
  have HB := Lib.hid (bad_long (l := s.data.toList) (by have : s.data.toList.length = s.size := Array.length_toList; omega))
  go_enter Tryd.func28, Tryd.ntmps28
  go_wp2
  go_step3
  go_wp2
  try rw [Exit.noGoto_ret]
  go_ret2
  exact out_bad HB.out (Below.refl _ _) (World.ownsRow_nil _ _ _ _)
def SplS (l : List UInt8) (w : World) (e : Ending) (w' : World) : Prop :=
  ∃ (a : Option Addr) (n cap : Nat) (L : List ByteArray), e = .returned (.tuple #[.slice a n cap, .bool (okB l)]) ∧ w'.ownsRow w.heap.size 9 1 (.slice a n cap) n (strs L) ∧ Hid (L = (fieldsR l).map (fun f => ⟨f.toArray⟩)) ∧ Hid (n = (fieldsR l).length) ∧ Below w.heap.size w w'
theorem splS {l : List UInt8} {w : World} {e : Ending} {w' : World} (h : SplOut l w e w') : SplS l w e w' := by
  obtain ⟨a, n, cap, he, ho, hb⟩ := h
  have hn := own_len ho
  rw [← hn, strCells_strs] at ho
  exact ⟨a, n, cap, _, he, ho, rfl, hn, hb⟩
theorem spec_all (s : ByteArray) (w : World) : Calls Tryd.prog 36 #[.string s] w (SplS s.data.toList w) := by
  by_cases h : (600 : Int) < s.size
  · exact (spec_long s h w).mono fun _ _ h => splS h
  · exact (spec_spl s (by omega) w).mono fun _ _ h => splS h
theorem impl_all (s : ByteArray) (w : World) : Calls Tryd.prog 28 #[.string s] w (SplS s.data.toList w) := by
  by_cases h : (600 : Int) < s.size
  · exact (impl_long s h w).mono fun _ _ h => splS h
  · exact (impl_spl s (by omega) w).mono fun _ _ h => splS h
theorem impl_list (A : List UInt8) (w : World) : Calls Tryd.prog 28 #[.string ⟨A.toArray⟩] w (SplS A w) := impl_all ⟨A.toArray⟩ w
theorem fields_bd (l : List UInt8) : (fieldsR l).length ≤ 24 := by
  unfold fieldsR
  split
  · rename_i h; simp [okB] at h; omega
  · simp
theorem own_at {w : World} {base : Nat} {a : Option Addr} {n cap : Nat} {L : List ByteArray} (h : w.ownsRow base 9 1 (.slice a n cap) n (strs L)) {k : Nat} (hk : k < n) :
    ∃ (g : Nat), a = some ⟨g, 0, none⟩ ∧ base ≤ g ∧ g < w.heap.size ∧ w.cell? ⟨g, k, none⟩ = (L[k]?).map Value.string ∧ k < L.length := by
  have hl : L.length = n := by have := h.1; simp [strs] at this; omega
  obtain ⟨g, c, hv, hb, hg⟩ := h.form (by omega)
  injection hv with h1 h2 h3
  subst h1
  refine ⟨g, rfl, hb, hg, ?_, by omega⟩
  rw [h.cellAt k (by omega)]; simp [strs]
theorem below_kept {w w' : World} (h : Below w.heap.size w w') : w.grownBy w' none := ⟨h.os, h.tape, h.output, h.size, fun k hk _ => h.block k hk⟩
end Go.Proofs.YtpipnhceajdfkaaDoor.spl

/- The library's strings.Join over an owned row of strings, with a space between. -/
namespace Go.Proofs.YtpipnhceajdfkaaDoor.tex
open Go Go.ChangeShapes Go.WideShapes Go.ChangeAt Go.RowKit Go.Proofs.YtpipnhceajdfkaaDoor.spl

/-- The call returns this text; nothing that was there is written. -/
def RetS (w : World) (l : List UInt8) (e : Ending) (w' : World) : Prop := e = .returned (.string ⟨l.toArray⟩) ∧ Below w.heap.size w w'
theorem join_own (xs : List ByteArray) (base : Nat) (v : Value) (n : Nat) (w : World) (ho : w.ownsRow base 9 1 v n (spl.strs xs))
    (hl : (Lib.join (xs.map (·.data.toList)) [32]).length ≤ 1048576) (hn : n ≤ 1048576) :
    Calls Tryd.prog 31 #[v, .string ⟨#[32]⟩] w (RetS w (Lib.join (xs.map (·.data.toList)) [32])) := by
  have hlen : xs.length = n := by have := ho.1; simp [spl.strs] at this; omega
  rcases ho.2 with ⟨rfl, rfl⟩ | ⟨g, cap, cur, rfl, hb, hg, hnc, _, hsz, hcs⟩
  · obtain rfl : xs = [] := List.eq_nil_of_length_eq_zero hlen
    exact (Any.strings_Join_none Tryd.lays156 Tryd.Builder_Extra_156 none 0 ⟨#[32]⟩ w).mono fun e w' ⟨he, hw⟩ => ⟨he, hw ▸ Below.refl _ _⟩
  · subst hlen
    exact Any.strings_Join Tryd.lays156 Tryd.Builder_Extra_156 g 0 cap xs ⟨#[32]⟩ w (fun j x hx => by
      have hj : j < xs.length := (List.getElem?_eq_some_iff.1 hx).1
      have hc := (show w.ownsRow base 9 1 (.slice (some ⟨g, 0, none⟩) xs.length cap) xs.length (spl.strs xs) from ho).cellAt j (by omega)
      rw [Nat.zero_add, hc]
      simp [spl.strs, hx]) (Array.getElem?_eq_some_iff.1 hg).1 (by omega) hnc (by
      have : (⟨#[32]⟩ : ByteArray).data.toList = [32] := rfl
      rw [this]; omega)
end Go.Proofs.YtpipnhceajdfkaaDoor.tex
