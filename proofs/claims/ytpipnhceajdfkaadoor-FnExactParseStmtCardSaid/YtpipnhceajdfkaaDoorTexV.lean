/- What the program's ParseStmt is made of: the statement of a word and of numbers, kind by kind; the fields joined. -/
import Derived.Test.YtpipnhceajdfkaaDoorTexR
import Derived.Test.YtpipnhceajdfkaaDoorTexT
import Derived.Test.YtpipnhceajdfkaaDoorBox
namespace Go.Proofs.YtpipnhceajdfkaaDoor.tex
open Go Go.ChangeShapes Go.WideShapes Go.ChangeAt Go.RowKit Go.Proofs.YtpipnhceajdfkaaDoor.row Go.Proofs.YtpipnhceajdfkaaDoor.val Go.Proofs.YtpipnhceajdfkaaDoor.stm Go.Proofs.YtpipnhceajdfkaaDoor.expr Go.Proofs.YtpipnhceajdfkaaDoor.spl Go.Proofs.YtpipnhceajdfkaaDoor.lay Go.Proofs.YtpipnhceajdfkaaDoor.pu

/-- The call returns what parsing these fields must give. -/
def ParseOut (l : List UInt8) (w : World) (e : Ending) (w' : World) : Prop :=
  ∃ (s : S) (b : Bool), e = .returned (.tuple #[stV s, .bool b]) ∧ Hid (IsParse (fieldsR l) s b) ∧ Below w.heap.size w w'
abbrev zeroC : Array Value := #[.int .i64 0, .int .i64 0, .int .i64 0, .int .i64 0, .int .i64 0, .int .i64 0]
theorem join_le : ∀ F : List (List UInt8), (Lib.join F [32]).length ≤ (joinF F).length
  | [] => by simp [Lib.join_nil]
  | x :: r => by rw [joinF_join (F := x :: r) (by simp)]; simp
theorem fields_len (l : List UInt8) : (joinF (fieldsR l)).length ≤ 1300 := by
  cases h : okB l
  · rw [fieldsR_bad h]; simp [joinF]
  · have := join_size l h; omega
theorem mem_joinF {F : List (List UInt8)} {f : List UInt8} (h : f ∈ F) : f.length ≤ (joinF F).length := by
  induction F with
  | nil => simp at h
  | cons x r ih =>
    have e : joinF (x :: r) = x ++ [32] ++ joinF r := by simp [joinF]
    rw [e]
    rcases List.mem_cons.1 h with rfl | h
    · simp; try omega
    · have := ih h; simp; omega
/-- A statement that was built from this word and these numbers. -/
def Good (l : List UInt8) (L : List Int) (s : S) : Prop := s = cand s.k L ∧ word s.k = l ∧ nums s = L ∧ 1 ≤ s.k ∧ s.k ≤ 6
def Rs6 (l : List UInt8) (L : List Int) (w : World) (e : Ending) (w' : World) : Prop :=
  (∃ v o a b, e = .returned (.tuple #[if1 v o a b, .bool true]) ∧ Hid (Good l L ⟨1, v, 0, o, a, b⟩) ∧ Below w.heap.size w w') ∨
  (∃ v n, e = .returned (.tuple #[if2 v n, .bool true]) ∧ Hid (Good l L ⟨2, v, n, 0, 0, 0⟩) ∧ Below w.heap.size w w') ∨
  (∃ o a b, e = .returned (.tuple #[if3 o a b, .bool true]) ∧ Hid (Good l L ⟨3, 0, 0, o, a, b⟩) ∧ Below w.heap.size w w') ∨
  (∃ o a b, e = .returned (.tuple #[if4 o a b, .bool true]) ∧ Hid (Good l L ⟨4, 0, 0, o, a, b⟩) ∧ Below w.heap.size w w') ∨
  (∃ n, e = .returned (.tuple #[if5 n, .bool true]) ∧ Hid (Good l L ⟨5, 0, n, 0, 0, 0⟩) ∧ Below w.heap.size w w') ∨
  (e = .returned (.tuple #[if6 , .bool true]) ∧ Hid (Good l L ⟨6, 0, 0, 0, 0, 0⟩) ∧ Below w.heap.size w w') ∨
  (e = .returned (.tuple #[.nilIface, .bool false]) ∧ Hid (∀ s, stOk s = true → word s.k = l → nums s ≠ L) ∧ Below w.heap.size w w')
theorem rs_six (l : List UInt8) (L : List Int) (a : Option Addr) (c : Nat) (w : World) (hR : Row w a L.length L) : Calls Tryd.prog 30 #[.string ⟨l.toArray⟩, .slice a L.length c] w (Rs6 l L w) :=
  (rs_any l L a c w hR).mono fun e w' h => by
    rcases h with ⟨s, he, hg, hb⟩ | h
    · have hg' : Good l L s := hg.out
      rcases cand_form (L := L) hg.out.2.2.2.1 hg.out.2.2.2.2 with ⟨v, o, a, b, h⟩ | ⟨v, n, h⟩ | ⟨o, a, b, h⟩ | ⟨o, a, b, h⟩ | ⟨n, h⟩ | h
      · have e1 := hg.out.1.trans h; subst e1; exact .inl ⟨v, o, a, b, he, hg', hb⟩
      · have e1 := hg.out.1.trans h; subst e1; exact .inr (.inl ⟨v, n, he, hg', hb⟩)
      · have e1 := hg.out.1.trans h; subst e1; exact .inr (.inr (.inl ⟨o, a, b, he, hg', hb⟩))
      · have e1 := hg.out.1.trans h; subst e1; exact .inr (.inr (.inr (.inl ⟨o, a, b, he, hg', hb⟩)))
      · have e1 := hg.out.1.trans h; subst e1; exact .inr (.inr (.inr (.inr (.inl ⟨n, he, hg', hb⟩))))
      · have e1 := hg.out.1.trans h; subst e1; exact .inr (.inr (.inr (.inr (.inr (.inl ⟨he, hg', hb⟩)))))
    · exact .inr (.inr (.inr (.inr (.inr (.inr h)))))
theorem join_flds (F : List (List UInt8)) (J : List UInt8) (hJ : Lib.join F [32] = J) (hl : J.length ≤ 1300) (base : Nat) (v : Value) (n : Nat) (hn : n ≤ 1000) (w : World) (ho : w.ownsRow base 9 1 v n (spl.strs (F.map fun f => ⟨f.toArray⟩))) :
    Calls Tryd.prog 31 #[v, .string ⟨#[32]⟩] w (RetS w J) := by
  have e : (F.map fun f => (⟨f.toArray⟩ : ByteArray)).map (·.data.toList) = F := by simp [Function.comp_def]
  have h := join_own (F.map fun f => ⟨f.toArray⟩) base v n w ho (by rw [e, hJ]; omega) (by omega)
  rw [e, hJ] at h
  exact h
end Go.Proofs.YtpipnhceajdfkaaDoor.tex
