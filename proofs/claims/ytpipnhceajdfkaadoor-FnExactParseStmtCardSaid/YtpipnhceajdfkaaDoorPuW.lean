/- The walks of the two parsers of decimal text: both end as they must. -/
import Derived.Test.YtpipnhceajdfkaaDoorPuA
import Derived.Test.YtpipnhceajdfkaaDoorFmtW
import Derived.Test.YtpipnhceajdfkaaDoorItoa
import Derived.WalkSmall
namespace Go.Proofs.YtpipnhceajdfkaaDoor.pu
open Go Go.ChangeShapes Go.WideShapes Go.ChangeAt Go.RowKit Go.Proofs.YtpipnhceajdfkaaDoor.byt Go.Proofs.YtpipnhceajdfkaaDoor.dec Go.Proofs.YtpipnhceajdfkaaDoor.lay

theorem fmt_zero (w : World) : Calls Tryd.prog 33 #[.int .i64 0] w fun e w' => e = .returned (.string ⟨(Lib.itoa 0).toArray⟩) ∧ Below w.heap.size w w' := by
  have H := Lib.hid itoa_zero
  go_enter Tryd.func33, Tryd.ntmps33
  go_wp2
  go_ret
  exact ⟨by rw [H.out]; rfl, Below.refl _ _⟩
theorem fmt_any (n : Int) (hn0 : -9223372036854775808 ≤ n) (hn1 : n ≤ 9223372036854775807) (w : World) :
    Calls Tryd.prog 33 #[.int .i64 n] w fun e w' => e = .returned (.string ⟨(Lib.itoa n).toArray⟩) ∧ Below w.heap.size w w' := by
  by_cases h : n = 0
  · subst h; exact fmt_zero w
  · exact spec_fmt n hn0 hn1 h w

/-- What a parser hands back. -/
def PuOut (l : List UInt8) (w : World) (e : Ending) (w' : World) : Prop := ∃ (v : Int) (b : Bool), e = .returned (.tuple #[.int .i64 v, .bool b]) ∧ IsPu l v b ∧ Below w.heap.size w w'

theorem text_ne {l : List UInt8} {s : ByteArray} (h : (!l == s.toList) = true) : l ≠ s.data.toList := by
  rw [ByteArray.toList_eq] at h; simpa using h
theorem text_eq {l : List UInt8} {s : ByteArray} (h : (!l == s.toList) = false) : l = s.data.toList := by
  rw [ByteArray.toList_eq] at h; simpa using h
theorem val_take (s : ByteArray) (k : Nat) (h : k < s.size) : val (s.data.toList.take (k + 1)) = 10 * val (s.data.toList.take k) + (s[k].toNat - 48) := by
  rw [take_snoc s k h, val_snoc]
theorem mem_at (s : ByteArray) (k : Nat) (h : k < s.size) : s[k] ∈ s.data.toList := by
  have : s.data.toList[k]'(by simpa using h) = s[k] := rfl
  rw [← this]; exact List.getElem_mem _
theorem val_lt : ∀ (l : List UInt8), (∀ c ∈ l, isDig c) → val l < 10 ^ l.length := by
  have h2 : ∀ (l : List UInt8) (acc : Nat), allDig l → l.foldl (fun a c => 10 * a + (c.toNat - 48)) acc < (acc + 1) * 10 ^ l.length := by
    intro l
    induction l with
    | nil => intro acc _; simp
    | cons x t ih =>
      intro acc hx
      have h0 := hx x (by simp)
      unfold isDig at h0
      have := ih (10 * acc + (x.toNat - 48)) (fun y hy => hx y (by simp [hy]))
      rw [List.foldl_cons, List.length_cons, Nat.pow_succ]
      refine Nat.lt_of_lt_of_le this ?_
      refine Nat.le_trans (Nat.mul_le_mul_right _ (show 10 * acc + (x.toNat - 48) + 1 ≤ (acc + 1) * 10 by omega)) ?_
      rw [Nat.mul_assoc, Nat.mul_comm 10]; exact Nat.le_refl _
  intro l hd
  have h3 := h2 l 0 hd
  rw [Nat.zero_add, Nat.one_mul] at h3
  exact h3
theorem val_ten {l : List UInt8} (hd : allDig l) (hl : l.length ≤ 10) : (val l : Int) < 10000000000 := by
  have h := val_lt l hd
  have h4 : (10 : Nat) ^ l.length ≤ 10 ^ 10 := Nat.pow_le_pow_right (by omega) hl
  have h5 : (10 : Nat) ^ 10 = 10000000000 := by decide
  omega
theorem allDig_step {s : ByteArray} {k : Nat} (h : k < s.size) (hd : allDig (s.data.toList.take k)) (hc : isDig s[k]) : allDig (s.data.toList.take (k + 1)) := by
  rw [take_snoc s k h]
  intro c hm
  rcases List.mem_append.1 hm with hm | hm
  · exact hd c hm
  · rw [List.mem_singleton] at hm; subst hm; exact hc

end Go.Proofs.YtpipnhceajdfkaaDoor.pu
