/- The walks of the two parsers of decimal text: both end as they must. -/
import Derived.Test.YtmdpdfdiknfopaaDoorPuA
import Derived.Test.YtmdpdfdiknfopaaDoorFmtW
import Derived.Test.YtmdpdfdiknfopaaDoorItoa
import Derived.WalkSmall
namespace Go.Proofs.YtmdpdfdiknfopaaDoor.pu
open Go Go.ChangeShapes Go.WideShapes Go.ChangeAt Go.RowKit Go.Proofs.YtmdpdfdiknfopaaDoor.byt Go.Proofs.YtmdpdfdiknfopaaDoor.dec Go.Proofs.YtmdpdfdiknfopaaDoor.lay

theorem fmt_zero (w : World) : Calls Tryd.prog 19 #[.int .i64 0] w fun e w' => e = .returned (.string ⟨(Lib.itoa 0).toArray⟩) ∧ Below w.heap.size w w' := by
  have H := Lib.hid itoa_zero
  go_enter Tryd.func19, Tryd.ntmps19
  go_wp2
  go_ret
  exact ⟨by rw [H.out]; rfl, Below.refl _ _⟩
theorem fmt_any (n : Int) (hn0 : -9223372036854775808 ≤ n) (hn1 : n ≤ 9223372036854775807) (w : World) :
    Calls Tryd.prog 19 #[.int .i64 n] w fun e w' => e = .returned (.string ⟨(Lib.itoa n).toArray⟩) ∧ Below w.heap.size w w' := by
  by_cases h : n = 0
  · subst h; exact fmt_zero w
  · exact spec_fmt n hn0 hn1 h w

/-- What a parser hands back. -/
def PuOut (l : List UInt8) (w : World) (e : Ending) (w' : World) : Prop := ∃ (v : Int) (b : Bool), e = .returned (.tuple #[.int .i64 v, .bool b]) ∧ IsPu l v b ∧ Below w.heap.size w w'

theorem text_ne {l : List UInt8} {s : ByteArray} (h : (!l == s.toList) = true) : l ≠ s.data.toList := by
  rw [ByteArray.toList_eq] at h; simpa using h
theorem text_eq {l : List UInt8} {s : ByteArray} (h : (!l == s.toList) = false) : l = s.data.toList := by
  rw [ByteArray.toList_eq] at h; simpa using h
theorem val_take (s : ByteArray) (k : Nat) (h : k < s.size) : val (s.data.toList.take (k + 1)) = 10 * val (s.data.toList.take k) + (s[k].toNat - 48) := by
  rw [take_snoc s k h, val_snoc]
theorem mem_at (s : ByteArray) (k : Nat) (h : k < s.size) : s[k] ∈ s.data.toList := by
  have : s.data.toList[k]'(by simpa using h) = s[k] := rfl
  rw [← this]; exact List.getElem_mem _
theorem val_lt : ∀ (l : List UInt8), (∀ c ∈ l, isDig c) → val l < 10 ^ l.length := by
  have h2 : ∀ (l : List UInt8) (acc : Nat), allDig l → l.foldl (fun a c => 10 * a + (c.toNat - 48)) acc < (acc + 1) * 10 ^ l.length := by
    intro l
    induction l with
    | nil => intro acc _; simp
    | cons x t ih =>
      intro acc hx
      have h0 := hx x (by simp)
      unfold isDig at h0
      have := ih (10 * acc + (x.toNat - 48)) (fun y hy => hx y (by simp [hy]))
      rw [List.foldl_cons, List.length_cons, Nat.pow_succ]
      refine Nat.lt_of_lt_of_le this ?_
      refine Nat.le_trans (Nat.mul_le_mul_right _ (show 10 * acc + (x.toNat - 48) + 1 ≤ (acc + 1) * 10 by omega)) ?_
      rw [Nat.mul_assoc, Nat.mul_comm 10]; exact Nat.le_refl _
  intro l hd
  have h3 := h2 l 0 hd
  rw [Nat.zero_add, Nat.one_mul] at h3
  exact h3
theorem val_ten {l : List UInt8} (hd : allDig l) (hl : l.length ≤ 10) : (val l : Int) < 10000000000 := by
  have h := val_lt l hd
  have h4 : (10 : Nat) ^ l.length ≤ 10 ^ 10 := Nat.pow_le_pow_right (by omega) hl
  have h5 : (10 : Nat) ^ 10 = 10000000000 := by decide
  omega
theorem allDig_step {s : ByteArray} {k : Nat} (h : k < s.size) (hd : allDig (s.data.toList.take k)) (hc : isDig s[k]) : allDig (s.data.toList.take (k + 1)) := by
  rw [take_snoc s k h]
  intro c hm
  rcases List.mem_append.1 hm with hm | hm
  · exact hd c hm
  · rw [List.mem_singleton] at hm; subst hm; exact hc

set_option maxHeartbeats 1000000 in
set_option maxRecDepth 100000 in
theorem spec_pu (s : ByteArray) (hs : (s.size : Int) ≤ 10) (w : World) :
    Calls Tryd.prog 20 #[.string s] w (PuOut s.data.toList w) := by
  go_enter Tryd.func20, Tryd.ntmps20
  go_wp2
  go_loop [4, 5] (fun n i => ∃ (k : Nat) (m : Int), k ≤ s.size ∧ i = .int .i64 k ∧ n = .int .i64 m ∧ 0 ≤ m ∧ m < 10000000000 ∧ Hid (m = (val (s.data.toList.take k) : Int) ∧ allDig (s.data.toList.take k))) (fun _ i => s.size - (intOf i).toNat)
  case atStart => exact ⟨0, 0, Nat.zero_le _, rfl, rfl, by omega, by omega, rfl, by intro c hc; simp at hc⟩
  case round =>
    obtain ⟨k, m, hk, rfl, rfl, hm0, hm1, hH⟩ := hrel
    by_cases hlt : k < s.size
    · have hlen : (s.data.toList.take k).length = k := by simp; exact Nat.min_eq_left (by simpa using hk)
      have hc1 : (s[k].toNat : Int) < 256 := by have := s[k].toNat_lt; omega
      by_cases hd : 48 ≤ (s[k].toNat : Int) ∧ (s[k].toNat : Int) ≤ 57
      · obtain ⟨ha, hb⟩ := hd
        have hdig : isDig s[k] := by unfold isDig; omega
        have hall := allDig_step hlt hH.out.2 hdig
        have hval := val_take s k hlt
        have hten := val_ten hall (by simp; omega)
        have HN := Lib.hid (show 10 * m + (s[k].toNat : Int) - 48 = (val (s.data.toList.take (k + 1)) : Int) ∧ allDig (s.data.toList.take (k + 1)) from ⟨by rw [hval, hH.out.1]; omega, hall⟩)
        have hm2 : 10 * m + (s[k].toNat : Int) - 48 < 10000000000 := by rw [HN.out.1]; exact hten
        have hm3 : 0 ≤ 10 * m + (s[k].toNat : Int) - 48 := by omega
        clear hval hten hall hlen hdig
        go_wp2
        go_round
        case rel => exact ⟨k + 1, _, by omega, by go_num, rfl, hm3, hm2, HN⟩
        case measure => simp [intOf]; omega
      · have HP := Lib.hid (no_other (mem_at s k hlt) (show ¬ isDig s[k] by unfold isDig; omega))
        rcases (show (s[k].toNat : Int) < 48 ∨ (48 ≤ (s[k].toNat : Int) ∧ 57 < (s[k].toNat : Int)) by omega) with h | ⟨h, h'⟩
        all_goals
          clear hd hlen
          go_wp2
          go_ret2
          exact ⟨_, _, rfl, HP.out, Below.refl _ _⟩
    · have hH2 := hH.out
      rw [take_all s k (by omega)] at hH2
      obtain ⟨hmv, hal⟩ := hH2
      by_cases hbig : 1000000000 < m
      · have HP := Lib.hid (no_val (l := s.data.toList) (Or.inl (by omega)))
        clear hmv hal
        go_wp2
        go_ret2
        exact ⟨_, _, rfl, HP.out, Below.refl _ _⟩
      · have HV := Lib.hid hmv
        clear hmv hal
        go_wp2_with (go_at_call 19; refine (fmt_any m (by omega) (by omega) _).mono ?_; rintro e w1 ⟨rfl, hb1⟩)
        · have ht : (!Lib.itoa m == s.toList) = true := by assumption
          go_ret2
          exact ⟨_, _, rfl, no_val (Or.inr (by rw [← HV.out]; exact text_ne ht)), hb1⟩
        · have ht : (!Lib.itoa m == s.toList) = false := by assumption
          go_ret2
          exact ⟨_, _, rfl, .inl ⟨rfl, hm0, by omega, text_eq ht⟩, hb1⟩
end Go.Proofs.YtmdpdfdiknfopaaDoor.pu
