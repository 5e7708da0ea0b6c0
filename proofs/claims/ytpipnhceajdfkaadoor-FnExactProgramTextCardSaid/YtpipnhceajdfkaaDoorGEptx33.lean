/- Several texts in one: Bytes HexA HexB Fig FmtA. -/
import Derived.Test.YtpipnhceajdfkaaDoorRows
import Derived.WalkKit
import Derived.ProofKit
import Derived.OpenShut
import Derived.Lib.Hide
import Derived.Laws.IdiomStrings
import Derived.Lib.UnsafeStr
import Derived.OwnWalk
import Derived.StillTailTactics
import Derived.Below
import Derived.Deep.RegionHeld3
import Derived.Deep.AppendLies
import Derived.Laws.Pointers
import Derived.WalkSpells
import Derived.Lib.ItoaNum

/- Small laws on rows of bytes: what 'string(b)' reads, one byte's cell, a list that grows at its end. -/
namespace Go.Proofs.YtpipnhceajdfkaaDoor.byt
open Go.ChangeShapes Go.WideShapes Go.ChangeAt Go.RowKit

theorem infoByte : (Tryd.prog.info? 5).map (fun i => (i.zero, i.size, i.bytes)) = some (some (.int .u8 0), 1, 1) := by kernel_rfl

/-- 'string(b)' over a row that is owned. -/
theorem conv_own {w : World} {base : Nat} {v : Value} {n : Nat} {l : List UInt8} (h : w.ownsRow base 5 1 v n (Lib.byteCells l)) :
    (convert 22 9 v).run Tryd.prog w = .ok (.string ⟨l.toArray⟩) w := by
  have hn : n = l.length := by have := h.1; simp [Lib.byteCells] at this; omega
  subst hn
  rcases h.2 with ⟨rfl, h0⟩ | ⟨g, cap, cur, rfl, -⟩
  · have : l = [] := List.length_eq_zero_iff.1 h0
    subst this
    rw [run_convert_bytes_string w _ _ 5 _ _ _ Tryd.underlying22 Tryd.underlying5 Tryd.underlying9]
    rfl
  · exact run_convert_bytes_back (P := Tryd.prog) w 22 9 5 ⟨g, 0, none⟩ cap l Tryd.underlying22 Tryd.underlying5 Tryd.underlying9 (fun j hj => h.cells (g := g) rfl j _ (by simp [Lib.byteCells, hj]))

theorem take_snoc (s : ByteArray) (k : Nat) (h : k < s.size) : s.data.toList.take (k + 1) = s.data.toList.take k ++ [s[k]] := by
  rw [List.take_succ_eq_append_getElem (by simpa using h)]; rfl
theorem take_all (s : ByteArray) (k : Nat) (h : s.size ≤ k) : s.data.toList.take k = s.data.toList := List.take_of_length_le (by simpa using h)
theorem byteCells_app (a b : List UInt8) : Lib.byteCells (a ++ b) = Lib.byteCells a ++ Lib.byteCells b := by simp [Lib.byteCells]
end Go.Proofs.YtpipnhceajdfkaaDoor.byt

/- The plain mathematics of hexadecimal text. -/
namespace Go.Proofs.YtpipnhceajdfkaaDoor.hex

/-- The digit of a half byte, as a number. -/
def fig (x : Int) : Int := if x < 10 then 48 + x else 87 + x
def digit (x : Nat) : UInt8 := UInt8.ofNat (if x < 10 then 48 + x else 87 + x)
def enc1 (b : UInt8) : List UInt8 := [digit (b.toNat / 16), digit (b.toNat % 16)]
def enc (l : List UInt8) : List UInt8 := l.flatMap enc1

theorem enc_snoc (l : List UInt8) (b : UInt8) : enc (l ++ [b]) = enc l ++ enc1 b := by simp [enc]
theorem enc_length (l : List UInt8) : (enc l).length = 2 * l.length := by
  induction l with
  | nil => rfl
  | cons b l ih => simp [enc] at ih ⊢; rw [ih]; simp [enc1]; omega
theorem fig_bd (x : Int) (h0 : 0 ≤ x) (h1 : x < 16) : 48 ≤ fig x ∧ fig x ≤ 102 := by unfold fig; split <;> omega
theorem digit_toNat (x : Nat) (h : x < 16) : ((digit x).toNat : Int) = fig x := by
  unfold digit fig
  by_cases h10 : x < 10
  · rw [if_pos h10, if_pos (by omega)]; simp; omega
  · rw [if_neg h10, if_neg (by omega)]; simp; omega
theorem cells_enc1 (b : UInt8) : Lib.byteCells (enc1 b) = [Value.int .u8 (fig ((b.toNat : Int) / 16)), Value.int .u8 (fig ((b.toNat : Int) % 16))] := by
  have hb : b.toNat < 256 := b.toNat_lt
  simp only [enc1, Lib.byteCells, List.map_cons, List.map_nil]
  rw [digit_toNat _ (by omega), digit_toNat _ (by omega)]
  simp
end Go.Proofs.YtpipnhceajdfkaaDoor.hex

/- One more byte of hexadecimal text. -/
namespace Go.Proofs.YtpipnhceajdfkaaDoor.hex
open Go.ChangeShapes Go.WideShapes Go.ChangeAt Go.RowKit Go.Proofs.YtpipnhceajdfkaaDoor.byt

theorem ret_u8 {k : IntKind} {a b : Int} (h : a = b) : Ending.returned (.int k a) = .returned (.int k b) := by rw [h]
theorem enc_step (s : ByteArray) (k : Nat) (h : k < s.size) : Lib.byteCells (enc (s.data.toList.take (k + 1))) = Lib.byteCells (enc (s.data.toList.take k)) ++ [Value.int .u8 (fig ((s[k].toNat : Int) / 16)), Value.int .u8 (fig ((s[k].toNat : Int) % 16))] := by
  rw [take_snoc s k h, enc_snoc, byteCells_app, cells_enc1]
end Go.Proofs.YtpipnhceajdfkaaDoor.hex

/- The contract of the model's digit. -/
namespace Go.Proofs.YtpipnhceajdfkaaDoor.hex
open Go.ChangeShapes Go.WideShapes Go.ChangeAt Go.RowKit Go.Proofs.YtpipnhceajdfkaaDoor.byt

theorem fig_any (x : Int) (w : World) (h0 : 0 ≤ x) (h1 : x < 16) :
    Calls Tryd.prog 57 #[.int .i64 x] w fun e w' => e = .returned (.int .u8 (fig x)) ∧ w = w' := by
  by_cases h : x < 10
  · have hv : fig x = 48 + x := by unfold fig; rw [if_pos h]
    have HV := Lib.hid hv; clear hv
    go_enter Tryd.func57, Tryd.ntmps57
    go_wp2
    go_ret
    exact ⟨ret_u8 HV.out.symm, rfl⟩
  · have hv : fig x = 87 + x := by unfold fig; rw [if_neg h]
    have HV := Lib.hid hv; clear hv
    go_enter Tryd.func57, Tryd.ntmps57
    go_wp2
    go_ret
    exact ⟨ret_u8 (by rw [HV.out]; omega), rfl⟩
end Go.Proofs.YtpipnhceajdfkaaDoor.hex

/- The plain mathematics of decimal text. -/
namespace Go.Proofs.YtpipnhceajdfkaaDoor.dec
open Go.Proofs.YtpipnhceajdfkaaDoor.hex

/-- How far a number is written: what is left of it, and the digits that stand already. -/
def Left (n m : Int) (l : List UInt8) : Prop :=
  Lib.decDigits n.natAbs = (if m = 0 then [] else Lib.decDigits m.natAbs) ++ l ∧ (0 ≤ n → 0 ≤ m) ∧ (n ≤ 0 → m ≤ 0)

theorem left_start {n : Int} (h : n ≠ 0) : Left n n [] := by
  refine ⟨?_, fun h => h, fun h => h⟩
  rw [if_neg h]; simp

theorem digit_ofNat (x : Nat) (h : x < 10) : digit x = UInt8.ofNat (48 + x) := by unfold digit; rw [if_pos h]

theorem left_step {n m : Int} {l : List UInt8} (h : Left n m l) (h0 : m ≠ 0) : Left n (m.tdiv 10) (digit (m.natAbs % 10) :: l) := by
  obtain ⟨h1, h2, h3⟩ := h
  have e1 : (m.tdiv 10).natAbs = m.natAbs / 10 := by rw [Int.natAbs_tdiv]; rfl
  have e0 : (m.tdiv 10 = 0) ↔ m.natAbs / 10 = 0 := by rw [← e1]; exact Int.natAbs_eq_zero.symm
  refine ⟨?_, fun hn => Int.tdiv_nonneg (h2 hn) (by omega), fun hn => ?_⟩
  · rw [h1, if_neg h0, Lib.decDigits]
    rw [digit_ofNat _ (by omega)]
    by_cases hs : m.natAbs < 10
    · have hz : m.tdiv 10 = 0 := e0.2 (by omega)
      rw [dif_pos hs, if_pos hz]
      have : m.natAbs % 10 = m.natAbs := by omega
      rw [this]; simp
    · have hz : m.tdiv 10 ≠ 0 := fun hz => by have := e0.1 hz; omega
      rw [dif_neg hs, if_neg hz, e1]; simp
  · have := h3 hn
    have hh : m.tdiv 10 = -((-m).tdiv 10) := by rw [Int.neg_tdiv]; simp
    rw [hh]
    have := Int.tdiv_nonneg (a := -m) (b := 10) (by omega) (by omega)
    omega

theorem left_end {n : Int} {l : List UInt8} (h : Left n 0 l) : Lib.decDigits n.natAbs = l := by
  have := h.1; simpa using this

theorem itoa_pos {n : Int} (h : 0 < n) : Lib.itoa n = Lib.decDigits n.natAbs := by
  unfold Lib.itoa; rw [if_neg (by omega)]; congr 1; omega
theorem itoa_neg {n : Int} (h : n < 0) : Lib.itoa n = 45 :: Lib.decDigits n.natAbs := by
  unfold Lib.itoa; rw [if_pos h]
theorem itoa_zero : Lib.itoa 0 = [48] := by rw [Lib.itoa]; simp; rw [Lib.decDigits]; rfl

theorem left_len {n m : Int} {l : List UInt8} (h : Left n m l) : l.length ≤ (Lib.decDigits n.natAbs).length := by
  rw [h.1]; simp

theorem abs_parts {m d : Int} (h : m.tmod 10 = d) : -10 < d ∧ d < 10 ∧ d.natAbs = m.natAbs % 10 := by
  have h1 : d.natAbs = m.natAbs % 10 := by rw [← h, Int.natAbs_tmod]; rfl
  omega
theorem str_app (a b : List UInt8) : (⟨a.toArray⟩ ++ ⟨b.toArray⟩ : ByteArray) = ⟨(a ++ b).toArray⟩ := by
  apply ByteArray.ext; simp
end Go.Proofs.YtpipnhceajdfkaaDoor.dec
