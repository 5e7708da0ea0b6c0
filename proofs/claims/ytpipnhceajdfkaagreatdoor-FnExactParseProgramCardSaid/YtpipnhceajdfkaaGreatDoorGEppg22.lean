/- Several texts in one: HexB Fig FmtA FmtW Laid. -/
import Derived.Test.YtpipnhceajdfkaaGreatDoorGEppg21
import Derived.Deep.RegionHeld3
import Derived.Deep.AppendLies
import Derived.Laws.Pointers
import Derived.WalkSpells
import Derived.Lib.ItoaNum
import Derived.Lib.ItoaLen
import Derived.Test.YtpipnhceajdfkaaGreatDoorRows
import Derived.LaidMore
import Derived.Stop.LaidErr
import Derived.Lib.LaidTab
import Derived.MakeChecks
import Derived.KernelRfl

/- One more byte of hexadecimal text. -/
namespace Go.Proofs.YtpipnhceajdfkaaGreatDoor.hex
open Go.ChangeShapes Go.WideShapes Go.ChangeAt Go.RowKit Go.Proofs.YtpipnhceajdfkaaGreatDoor.byt

theorem ret_u8 {k : IntKind} {a b : Int} (h : a = b) : Ending.returned (.int k a) = .returned (.int k b) := by rw [h]
theorem enc_step (s : ByteArray) (k : Nat) (h : k < s.size) : Lib.byteCells (enc (s.data.toList.take (k + 1))) = Lib.byteCells (enc (s.data.toList.take k)) ++ [Value.int .u8 (fig ((s[k].toNat : Int) / 16)), Value.int .u8 (fig ((s[k].toNat : Int) % 16))] := by
  rw [take_snoc s k h, enc_snoc, byteCells_app, cells_enc1]
end Go.Proofs.YtpipnhceajdfkaaGreatDoor.hex

/- The contract of the model's digit. -/
namespace Go.Proofs.YtpipnhceajdfkaaGreatDoor.hex
open Go.ChangeShapes Go.WideShapes Go.ChangeAt Go.RowKit Go.Proofs.YtpipnhceajdfkaaGreatDoor.byt

theorem fig_any (x : Int) (w : World) (h0 : 0 ≤ x) (h1 : x < 16) :
    Calls Tryz.prog 70 #[.int .i64 x] w fun e w' => e = .returned (.int .u8 (fig x)) ∧ w = w' := by
  by_cases h : x < 10
  · have hv : fig x = 48 + x := by unfold fig; rw [if_pos h]
    have HV := Lib.hid hv; clear hv
    go_enter Tryz.func70, Tryz.ntmps70
    go_wp2
    go_ret
    exact ⟨ret_u8 HV.out.symm, rfl⟩
  · have hv : fig x = 87 + x := by unfold fig; rw [if_neg h]
    have HV := Lib.hid hv; clear hv
    go_enter Tryz.func70, Tryz.ntmps70
    go_wp2
    go_ret
    exact ⟨ret_u8 (by rw [HV.out]; omega), rfl⟩
end Go.Proofs.YtpipnhceajdfkaaGreatDoor.hex

/- The plain mathematics of decimal text. -/
namespace Go.Proofs.YtpipnhceajdfkaaGreatDoor.dec
open Go.Proofs.YtpipnhceajdfkaaGreatDoor.hex

/-- How far a number is written: what is left of it, and the digits that stand already. -/
def Left (n m : Int) (l : List UInt8) : Prop :=
  Lib.decDigits n.natAbs = (if m = 0 then [] else Lib.decDigits m.natAbs) ++ l ∧ (0 ≤ n → 0 ≤ m) ∧ (n ≤ 0 → m ≤ 0)

theorem left_start {n : Int} (h : n ≠ 0) : Left n n [] := by
  refine ⟨?_, fun h => h, fun h => h⟩
  rw [if_neg h]; simp

theorem digit_ofNat (x : Nat) (h : x < 10) : digit x = UInt8.ofNat (48 + x) := by unfold digit; rw [if_pos h]

theorem left_step {n m : Int} {l : List UInt8} (h : Left n m l) (h0 : m ≠ 0) : Left n (m.tdiv 10) (digit (m.natAbs % 10) :: l) := by
  obtain ⟨h1, h2, h3⟩ := h
  have e1 : (m.tdiv 10).natAbs = m.natAbs / 10 := by rw [Int.natAbs_tdiv]; rfl
  have e0 : (m.tdiv 10 = 0) ↔ m.natAbs / 10 = 0 := by rw [← e1]; exact Int.natAbs_eq_zero.symm
  refine ⟨?_, fun hn => Int.tdiv_nonneg (h2 hn) (by omega), fun hn => ?_⟩
  · rw [h1, if_neg h0, Lib.decDigits]
    rw [digit_ofNat _ (by omega)]
    by_cases hs : m.natAbs < 10
    · have hz : m.tdiv 10 = 0 := e0.2 (by omega)
      rw [dif_pos hs, if_pos hz]
      have : m.natAbs % 10 = m.natAbs := by omega
      rw [this]; simp
    · have hz : m.tdiv 10 ≠ 0 := fun hz => by have := e0.1 hz; omega
      rw [dif_neg hs, if_neg hz, e1]; simp
  · have := h3 hn
    have hh : m.tdiv 10 = -((-m).tdiv 10) := by rw [Int.neg_tdiv]; simp
    rw [hh]
    have := Int.tdiv_nonneg (a := -m) (b := 10) (by omega) (by omega)
    omega

theorem left_end {n : Int} {l : List UInt8} (h : Left n 0 l) : Lib.decDigits n.natAbs = l := by
  have := h.1; simpa using this

theorem itoa_pos {n : Int} (h : 0 < n) : Lib.itoa n = Lib.decDigits n.natAbs := by
  unfold Lib.itoa; rw [if_neg (by omega)]; congr 1; omega
theorem itoa_neg {n : Int} (h : n < 0) : Lib.itoa n = 45 :: Lib.decDigits n.natAbs := by
  unfold Lib.itoa; rw [if_pos h]
theorem itoa_zero : Lib.itoa 0 = [48] := by rw [Lib.itoa]; simp; rw [Lib.decDigits]; rfl

theorem left_len {n m : Int} {l : List UInt8} (h : Left n m l) : l.length ≤ (Lib.decDigits n.natAbs).length := by
  rw [h.1]; simp

theorem abs_parts {m d : Int} (h : m.tmod 10 = d) : -10 < d ∧ d < 10 ∧ d.natAbs = m.natAbs % 10 := by
  have h1 : d.natAbs = m.natAbs % 10 := by rw [← h, Int.natAbs_tmod]; rfl
  omega
theorem str_app (a b : List UInt8) : (⟨a.toArray⟩ ++ ⟨b.toArray⟩ : ByteArray) = ⟨(a ++ b).toArray⟩ := by
  apply ByteArray.ext; simp
end Go.Proofs.YtpipnhceajdfkaaGreatDoor.dec

/- The walk of the model's decimal text: it is the numeral. -/
namespace Go.Proofs.YtpipnhceajdfkaaGreatDoor.dec
open Go.ChangeShapes Go.WideShapes Go.ChangeAt Go.RowKit Go.Proofs.YtpipnhceajdfkaaGreatDoor.byt Go.Proofs.YtpipnhceajdfkaaGreatDoor.hex

set_option maxHeartbeats 1000000 in
set_option maxRecDepth 100000 in
theorem spec_fmt (n : Int) (hn0 : -9223372036854775808 ≤ n) (hn1 : n ≤ 9223372036854775807) (hz : n ≠ 0) (w : World) :
    Calls Tryz.prog 50 #[.int .i64 n] w fun e w' => e = .returned (.string ⟨(Lib.itoa n).toArray⟩) ∧ Below w.heap.size w w' := by
  have hlen : ∀ m l, Left n m l → l.length ≤ 21 := fun m l h => by
    have h1 := left_len h
    have h2 := Lib.itoa_length_le n hn0 hn1
    rcases (show 0 < n ∨ n < 0 by omega) with h3 | h3
    · rw [itoa_pos h3] at h2; omega
    · rw [itoa_neg h3] at h2; simp at h2; omega
  have HLEN := Lib.hid hlen
  have HS := Lib.hid (left_start hz)
  have hnz : (n == 0) = false := by simpa using hz
  have hnz' : (n != 0) = true := by simpa using hz
  have HZ := Lib.hid hz
  clear hlen hz
  go_enter Tryz.func50, Tryz.ntmps50
  go_wp2
  go_loopw [0, 4] (fun a s wr => ∃ (m : Int) (l : List UInt8), a = .int .i64 m ∧ s = .string ⟨l.toArray⟩ ∧ -9223372036854775808 ≤ m ∧ m ≤ 9223372036854775807 ∧ Hid (Left n m l) ∧ Below w.heap.size w wr) (fun a _ _ => (intOf a).natAbs)
  case atStart => exact ⟨n, [], rfl, rfl, hn0, hn1, HS, Below.refl _ _⟩
  case round =>
    obtain ⟨m, l, rfl, rfl, hm0, hm1, hL, hbel⟩ := hrel
    by_cases h0 : m = 0
    · subst h0
      have hE := left_end hL.out
      clear hm0 hm1
      have hl := HLEN.out _ _ hL.out
      by_cases hneg : n < 0
      · have hadd := run_string_add_sum (P := Tryz.prog) wr ⟨#[45]⟩ ⟨l.toArray⟩ (by simp [ByteArray.size]; omega)
        rw [show (⟨#[45]⟩ ++ ⟨l.toArray⟩ : ByteArray) = ⟨(45 :: l).toArray⟩ from str_app [45] l] at hadd
        have HR := Lib.hid (show Lib.itoa n = 45 :: l by rw [itoa_neg hneg, hE])
        clear hE hl
        go_wp2
        go_ret
        exact ⟨by rw [HR.out]; rfl, hbel⟩
      · have HR := Lib.hid (show Lib.itoa n = l by rw [itoa_pos (by have := HZ.out; omega), hE])
        clear hE hl
        go_wp2
        go_ret
        exact ⟨by rw [HR.out]; rfl, hbel⟩
    · obtain ⟨d, hd⟩ : ∃ d, m.tmod 10 = d := ⟨_, rfl⟩
      obtain ⟨q, hq⟩ : ∃ q, m.tdiv 10 = q := ⟨_, rfl⟩
      obtain ⟨hd0, hd1, hd2⟩ := abs_parts hd
      have hstep := left_step hL.out h0
      rw [hq, ← hd2] at hstep
      have hl := HLEN.out _ _ hstep
      have hq0 : -9223372036854775808 ≤ q ∧ q ≤ 9223372036854775807 ∧ q.natAbs < m.natAbs := by
        have : q.natAbs = m.natAbs / 10 := by rw [← hq, Int.natAbs_tdiv]; rfl
        omega
      obtain ⟨hqa, hqb, hqc⟩ := hq0
      have HST := Lib.hid hstep
      have h0' : (m == 0) = false := by simpa using h0
      have h0'' : (m != 0) = true := by simpa using h0
      have hcv : ∀ x : Int, x = (d.natAbs : Int) → (convert 22 9 (.slice (some ⟨wr.heap.size, 0, none⟩) 1 1)).run Tryz.prog (wr.alloc (.cells #[.int .u8 (fig x)] 5)) = .ok (.string ⟨#[digit d.natAbs]⟩) (wr.alloc (.cells #[.int .u8 (fig x)] 5)) := by
        rintro x rfl
        have h := run_convert_bytes_back (P := Tryz.prog) (wr.alloc (.cells #[.int .u8 (fig (d.natAbs : Int))] 5)) 22 9 5 ⟨wr.heap.size, 0, none⟩ 1 [digit d.natAbs] Tryz.underlying22 Tryz.underlying5 Tryz.underlying9 (fun j hj => by
          have : j = 0 := by simp at hj; omega
          subst this
          rw [show ((⟨wr.heap.size, 0, none⟩ : Addr).add 0) = ⟨wr.heap.size, 0, none⟩ from rfl, World.cell?_alloc_mark]
          simp only [List.getElem_cons_zero]
          rw [digit_toNat _ (by omega)]
          rfl)
        exact h
      have hadd : ∀ w' : World, (Op.stringOp .add ⟨#[digit d.natAbs]⟩ ⟨l.toArray⟩).run Tryz.prog w' = .ok (.string ⟨(digit d.natAbs :: l).toArray⟩) w' := fun w' => by
        rw [run_string_add_sum (P := Tryz.prog) w' ⟨#[digit d.natAbs]⟩ ⟨l.toArray⟩ (by simp at hl; simp [ByteArray.size]; omega)]
        rw [show (⟨#[digit d.natAbs]⟩ ++ ⟨l.toArray⟩ : ByteArray) = ⟨(digit d.natAbs :: l).toArray⟩ from str_app [digit d.natAbs] l]
      have hb2 := hbel.size
      have H0 := Lib.hid h0
      clear hd2 h0 hl hstep
      by_cases hneg : d < 0
      · have hcv1 := hcv (-d) (by omega)
        have hadd1 := hadd (wr.alloc (.cells #[.int .u8 (fig (-d))] 5))
        clear hcv hadd
        go_wp2_with (go_at_call 70; refine (fig_any _ _ (by omega) (by omega)).mono ?_; rintro e w' ⟨rfl, rfl⟩)
        go_roundw
        case rel => exact ⟨q, _, rfl, rfl, hqa, hqb, HST, hbel.alloc hb2 _⟩
        case measure => simp [intOf]; omega
      · have hcv1 := hcv d (by omega)
        have hadd1 := hadd (wr.alloc (.cells #[.int .u8 (fig d)] 5))
        clear hcv hadd
        go_wp2_with (go_at_call 70; refine (fig_any _ _ (by omega) (by omega)).mono ?_; rintro e w' ⟨rfl, rfl⟩)
        go_roundw
        case rel => exact ⟨q, _, rfl, rfl, hqa, hqb, HST, hbel.alloc hb2 _⟩
        case measure => simp [intOf]; omega
end Go.Proofs.YtpipnhceajdfkaaGreatDoor.dec

/- What the listed variables of the library give the walks: the table of powers of ten, and the two errors of the parser. -/
namespace Go.Proofs.YtpipnhceajdfkaaGreatDoor.lay
open Go Go.RowKit

theorem gTab : Tryz.prog.globalNamed "internal/strconv.uint64pow10" = some 6 := by kernel_rfl
theorem tTab : (Tryz.prog.globals[6]?).map (·.type) = some 185 := by kernel_rfl
theorem cellsE : Tryz.prog.cellsOf 166 = 1 := by kernel_rfl
theorem cellsT : Tryz.prog.cellsOf 185 = 20 := by kernel_rfl
theorem tab_eq : (Rows.laid_internal_strconv_uint64pow10 : DataW Unit) = Lib.tabData .u64 Lib.pow10Tab := by
  have h : Lib.pow10Tab = [1, 10, 100, 1000, 10000, 100000, 1000000, 10000000, 100000000, 1000000000, 10000000000, 100000000000, 1000000000000, 10000000000000, 100000000000000, 1000000000000000, 10000000000000000, 100000000000000000, 1000000000000000000, 10000000000000000000] := by decide
  rw [h]; rfl

theorem tab_of {W : World} {x y : String × DataW Unit} {r : List (String × DataW Unit)} (h : laidMet Tryz.prog (x :: y :: ("internal/strconv.uint64pow10", Rows.laid_internal_strconv_uint64pow10) :: r) W) :
    Lib.TabIs Tryz.prog W "internal/strconv.uint64pow10" .u64 Lib.pow10Tab :=
  Lib.tabIs_of_head gTab tTab Tryz.underlying185 Tryz.underlying166 cellsE cellsT (by rw [← tab_eq]; exact h.tail.tail)

theorem gES : Tryz.prog.globalNamed "strconv.ErrSyntax" = some 4 := by kernel_rfl
theorem gESType : (Tryz.prog.globals[4]?).map (·.type) = some 51 := by kernel_rfl
theorem gER : Tryz.prog.globalNamed "strconv.ErrRange" = some 5 := by kernel_rfl
theorem gERType : (Tryz.prog.globals[5]?).map (·.type) = some 51 := by kernel_rfl
theorem cellsES : Tryz.prog.cellsOf 191 = 1 := by kernel_rfl
theorem cellsS : Tryz.prog.cellsOf 9 = 1 := by kernel_rfl
theorem star : "*" ++ "errors.errorString" = "*errors.errorString" := by decide
theorem rowES (u : TypeId) (h : Tryz.prog.typeName? 3 u = some "*errors.errorString") : u = 189 :=
  typeName_ptr_named (nm := "errors.errorString") (by rw [star]; kernel_rfl) (by kernel_rfl) (by decide) u (by rw [star]; exact h)
theorem errs_of {W : World} {x y z : String × DataW Unit} {r : List (String × DataW Unit)} (h : laidMet Tryz.prog (x :: y :: z :: ("strconv.ErrRange", Rows.laid_strconv_ErrRange) :: ("strconv.ErrSyntax", Rows.laid_strconv_ErrSyntax) :: r) W) :
    (∃ a, W.var? Tryz.prog "strconv.ErrRange" = some #[.iface 189 (.pointer (some a))]) ∧ (∃ a, W.var? Tryz.prog "strconv.ErrSyntax" = some #[.iface 189 (.pointer (some a))]) := by
  obtain ⟨a0, s0, hv0, -, -, -⟩ := laid_sentinel h.tail.tail.tail gER gERType Tryz.underlying51 rowES Tryz.underlying189 Tryz.underlying191 rfl rfl Tryz.underlying9 cellsES cellsS
  obtain ⟨a1, s1, hv1, -, -, -⟩ := laid_sentinel h.tail.tail.tail.tail gES gESType Tryz.underlying51 rowES Tryz.underlying189 Tryz.underlying191 rfl rfl Tryz.underlying9 cellsES cellsS
  exact ⟨⟨a0, hv0⟩, ⟨a1, hv1⟩⟩
end Go.Proofs.YtpipnhceajdfkaaGreatDoor.lay
