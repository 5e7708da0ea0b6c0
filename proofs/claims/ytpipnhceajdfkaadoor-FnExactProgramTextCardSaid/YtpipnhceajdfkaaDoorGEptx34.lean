/- Several texts in one: FmtW Laid. -/
import Derived.Test.YtpipnhceajdfkaaDoorGEptx33
import Derived.Lib.ItoaLen
import Derived.Test.YtpipnhceajdfkaaDoorRows
import Derived.LaidMore
import Derived.Stop.LaidErr
import Derived.Lib.LaidTab
import Derived.Lib.ItoaNum
import Derived.MakeChecks
import Derived.KernelRfl

/- The walk of the model's decimal text: it is the numeral. -/
namespace Go.Proofs.YtpipnhceajdfkaaDoor.dec
open Go.ChangeShapes Go.WideShapes Go.ChangeAt Go.RowKit Go.Proofs.YtpipnhceajdfkaaDoor.byt Go.Proofs.YtpipnhceajdfkaaDoor.hex

set_option maxHeartbeats 1000000 in
set_option maxRecDepth 100000 in
theorem spec_fmt (n : Int) (hn0 : -9223372036854775808 ≤ n) (hn1 : n ≤ 9223372036854775807) (hz : n ≠ 0) (w : World) :
    Calls Tryd.prog 33 #[.int .i64 n] w fun e w' => e = .returned (.string ⟨(Lib.itoa n).toArray⟩) ∧ Below w.heap.size w w' := by
  have hlen : ∀ m l, Left n m l → l.length ≤ 21 := fun m l h => by
    have h1 := left_len h
    have h2 := Lib.itoa_length_le n hn0 hn1
    rcases (show 0 < n ∨ n < 0 by omega) with h3 | h3
    · rw [itoa_pos h3] at h2; omega
    · rw [itoa_neg h3] at h2; simp at h2; omega
  have HLEN := Lib.hid hlen
  have HS := Lib.hid (left_start hz)
  have hnz : (n == 0) = false := by simpa using hz
  have hnz' : (n != 0) = true := by simpa using hz
  have HZ := Lib.hid hz
  clear hlen hz
  go_enter Tryd.func33, Tryd.ntmps33
  go_wp2
  go_loopw [0, 4] (fun a s wr => ∃ (m : Int) (l : List UInt8), a = .int .i64 m ∧ s = .string ⟨l.toArray⟩ ∧ -9223372036854775808 ≤ m ∧ m ≤ 9223372036854775807 ∧ Hid (Left n m l) ∧ Below w.heap.size w wr) (fun a _ _ => (intOf a).natAbs)
  case atStart => exact ⟨n, [], rfl, rfl, hn0, hn1, HS, Below.refl _ _⟩
  case round =>
    obtain ⟨m, l, rfl, rfl, hm0, hm1, hL, hbel⟩ := hrel
    by_cases h0 : m = 0
    · subst h0
      have hE := left_end hL.out
      clear hm0 hm1
      have hl := HLEN.out _ _ hL.out
      by_cases hneg : n < 0
      · have hadd := run_string_add_sum (P := Tryd.prog) wr ⟨#[45]⟩ ⟨l.toArray⟩ (by simp [ByteArray.size]; omega)
        rw [show (⟨#[45]⟩ ++ ⟨l.toArray⟩ : ByteArray) = ⟨(45 :: l).toArray⟩ from str_app [45] l] at hadd
        have HR := Lib.hid (show Lib.itoa n = 45 :: l by rw [itoa_neg hneg, hE])
        clear hE hl
        go_wp2
        go_ret
        exact ⟨by rw [HR.out]; rfl, hbel⟩
      · have HR := Lib.hid (show Lib.itoa n = l by rw [itoa_pos (by have := HZ.out; omega), hE])
        clear hE hl
        go_wp2
        go_ret
        exact ⟨by rw [HR.out]; rfl, hbel⟩
    · obtain ⟨d, hd⟩ : ∃ d, m.tmod 10 = d := ⟨_, rfl⟩
      obtain ⟨q, hq⟩ : ∃ q, m.tdiv 10 = q := ⟨_, rfl⟩
      obtain ⟨hd0, hd1, hd2⟩ := abs_parts hd
      have hstep := left_step hL.out h0
      rw [hq, ← hd2] at hstep
      have hl := HLEN.out _ _ hstep
      have hq0 : -9223372036854775808 ≤ q ∧ q ≤ 9223372036854775807 ∧ q.natAbs < m.natAbs := by
        have : q.natAbs = m.natAbs / 10 := by rw [← hq, Int.natAbs_tdiv]; rfl
        omega
      obtain ⟨hqa, hqb, hqc⟩ := hq0
      have HST := Lib.hid hstep
      have h0' : (m == 0) = false := by simpa using h0
      have h0'' : (m != 0) = true := by simpa using h0
      have hcv : ∀ x : Int, x = (d.natAbs : Int) → (convert 22 9 (.slice (some ⟨wr.heap.size, 0, none⟩) 1 1)).run Tryd.prog (wr.alloc (.cells #[.int .u8 (fig x)] 5)) = .ok (.string ⟨#[digit d.natAbs]⟩) (wr.alloc (.cells #[.int .u8 (fig x)] 5)) := by
        rintro x rfl
        have h := run_convert_bytes_back (P := Tryd.prog) (wr.alloc (.cells #[.int .u8 (fig (d.natAbs : Int))] 5)) 22 9 5 ⟨wr.heap.size, 0, none⟩ 1 [digit d.natAbs] Tryd.underlying22 Tryd.underlying5 Tryd.underlying9 (fun j hj => by
          have : j = 0 := by simp at hj; omega
          subst this
          rw [show ((⟨wr.heap.size, 0, none⟩ : Addr).add 0) = ⟨wr.heap.size, 0, none⟩ from rfl, World.cell?_alloc_mark]
          simp only [List.getElem_cons_zero]
          rw [digit_toNat _ (by omega)]
          rfl)
        exact h
      have hadd : ∀ w' : World, (Op.stringOp .add ⟨#[digit d.natAbs]⟩ ⟨l.toArray⟩).run Tryd.prog w' = .ok (.string ⟨(digit d.natAbs :: l).toArray⟩) w' := fun w' => by
        rw [run_string_add_sum (P := Tryd.prog) w' ⟨#[digit d.natAbs]⟩ ⟨l.toArray⟩ (by simp at hl; simp [ByteArray.size]; omega)]
        rw [show (⟨#[digit d.natAbs]⟩ ++ ⟨l.toArray⟩ : ByteArray) = ⟨(digit d.natAbs :: l).toArray⟩ from str_app [digit d.natAbs] l]
      have hb2 := hbel.size
      have H0 := Lib.hid h0
      clear hd2 h0 hl hstep
      by_cases hneg : d < 0
      · have hcv1 := hcv (-d) (by omega)
        have hadd1 := hadd (wr.alloc (.cells #[.int .u8 (fig (-d))] 5))
        clear hcv hadd
        go_wp2_with (go_at_call 57; refine (fig_any _ _ (by omega) (by omega)).mono ?_; rintro e w' ⟨rfl, rfl⟩)
        go_roundw
        case rel => exact ⟨q, _, rfl, rfl, hqa, hqb, HST, hbel.alloc hb2 _⟩
        case measure => simp [intOf]; omega
      · have hcv1 := hcv d (by omega)
        have hadd1 := hadd (wr.alloc (.cells #[.int .u8 (fig d)] 5))
        clear hcv hadd
        go_wp2_with (go_at_call 57; refine (fig_any _ _ (by omega) (by omega)).mono ?_; rintro e w' ⟨rfl, rfl⟩)
        go_roundw
        case rel => exact ⟨q, _, rfl, rfl, hqa, hqb, HST, hbel.alloc hb2 _⟩
        case measure => simp [intOf]; omega
end Go.Proofs.YtpipnhceajdfkaaDoor.dec

/- What the listed variables of the library give the walks: the table of powers of ten, and the two errors of the parser. -/
namespace Go.Proofs.YtpipnhceajdfkaaDoor.lay
open Go Go.RowKit

theorem gTab : Tryd.prog.globalNamed "internal/strconv.uint64pow10" = some 3 := by kernel_rfl
theorem tTab : (Tryd.prog.globals[3]?).map (·.type) = some 159 := by kernel_rfl
theorem cellsE : Tryd.prog.cellsOf 141 = 1 := by kernel_rfl
theorem cellsT : Tryd.prog.cellsOf 159 = 20 := by kernel_rfl
theorem tab_eq : (Rows.laid_internal_strconv_uint64pow10 : DataW Unit) = Lib.tabData .u64 Lib.pow10Tab := by
  have h : Lib.pow10Tab = [1, 10, 100, 1000, 10000, 100000, 1000000, 10000000, 100000000, 1000000000, 10000000000, 100000000000, 1000000000000, 10000000000000, 100000000000000, 1000000000000000, 10000000000000000, 100000000000000000, 1000000000000000000, 10000000000000000000] := by decide
  rw [h]; rfl

theorem tab_of {W : World} {x y : String × DataW Unit} {r : List (String × DataW Unit)} (h : laidMet Tryd.prog (x :: y :: ("internal/strconv.uint64pow10", Rows.laid_internal_strconv_uint64pow10) :: r) W) :
    Lib.TabIs Tryd.prog W "internal/strconv.uint64pow10" .u64 Lib.pow10Tab :=
  Lib.tabIs_of_head gTab tTab Tryd.underlying159 Tryd.underlying141 cellsE cellsT (by rw [← tab_eq]; exact h.tail.tail)

theorem gES : Tryd.prog.globalNamed "strconv.ErrSyntax" = some 0 := by kernel_rfl
theorem gESType : (Tryd.prog.globals[0]?).map (·.type) = some 103 := by kernel_rfl
theorem gER : Tryd.prog.globalNamed "strconv.ErrRange" = some 1 := by kernel_rfl
theorem gERType : (Tryd.prog.globals[1]?).map (·.type) = some 103 := by kernel_rfl
theorem cellsES : Tryd.prog.cellsOf 156 = 1 := by kernel_rfl
theorem cellsS : Tryd.prog.cellsOf 9 = 1 := by kernel_rfl
theorem star : "*" ++ "errors.errorString" = "*errors.errorString" := by decide
theorem rowES (u : TypeId) (h : Tryd.prog.typeName? 3 u = some "*errors.errorString") : u = 154 :=
  typeName_ptr_named (nm := "errors.errorString") (by rw [star]; kernel_rfl) (by kernel_rfl) (by decide) u (by rw [star]; exact h)
theorem errs_of {W : World} {x y z : String × DataW Unit} {r : List (String × DataW Unit)} (h : laidMet Tryd.prog (x :: y :: z :: ("strconv.ErrRange", Rows.laid_strconv_ErrRange) :: ("strconv.ErrSyntax", Rows.laid_strconv_ErrSyntax) :: r) W) :
    (∃ a, W.var? Tryd.prog "strconv.ErrRange" = some #[.iface 154 (.pointer (some a))]) ∧ (∃ a, W.var? Tryd.prog "strconv.ErrSyntax" = some #[.iface 154 (.pointer (some a))]) := by
  obtain ⟨a0, s0, hv0, -, -, -⟩ := laid_sentinel h.tail.tail.tail gER gERType Tryd.underlying103 rowES Tryd.underlying154 Tryd.underlying156 rfl rfl Tryd.underlying9 cellsES cellsS
  obtain ⟨a1, s1, hv1, -, -, -⟩ := laid_sentinel h.tail.tail.tail.tail gES gESType Tryd.underlying103 rowES Tryd.underlying154 Tryd.underlying156 rfl rfl Tryd.underlying9 cellsES cellsS
  exact ⟨⟨a0, hv0⟩, ⟨a1, hv1⟩⟩
end Go.Proofs.YtpipnhceajdfkaaDoor.lay
