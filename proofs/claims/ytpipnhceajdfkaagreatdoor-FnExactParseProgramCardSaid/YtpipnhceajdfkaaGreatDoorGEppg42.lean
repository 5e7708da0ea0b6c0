/- Several texts in one: TexM. -/
import Derived.Test.YtpipnhceajdfkaaGreatDoorGEppg31
import Derived.Test.YtpipnhceajdfkaaGreatDoorGEppg0
import Derived.Test.YtpipnhceajdfkaaGreatDoorGEppg24

/- The model's reader of numbers, l04Number: what the plain function says, for every string; nothing is written. -/
namespace Go.Proofs.YtpipnhceajdfkaaGreatDoor.tex
open Go Go.ChangeShapes Go.WideShapes Go.ChangeAt Go.RowKit Go.Proofs.YtpipnhceajdfkaaGreatDoor.row Go.Proofs.YtpipnhceajdfkaaGreatDoor.val Go.Proofs.YtpipnhceajdfkaaGreatDoor.stm Go.Proofs.YtpipnhceajdfkaaGreatDoor.expr Go.Proofs.YtpipnhceajdfkaaGreatDoor.pu Go.Proofs.YtpipnhceajdfkaaGreatDoor.byt

theorem numU_bad {l : List UInt8} {σ : Int} {c : UInt8} (hc : c ∈ l) (h : ¬ isDig c) : numU l σ = 5000 := by
  unfold numU; rw [if_pos (.inr (.inr fun hh => h (hh c hc)))]
theorem numU_empty {l : List UInt8} {σ : Int} (h : l.length = 0) : numU l σ = 5000 := by unfold numU; rw [if_pos (.inl (List.eq_nil_of_length_eq_zero h))]
theorem numU_long {l : List UInt8} {σ : Int} (h : 4 < l.length) : numU l σ = 5000 := by unfold numU; rw [if_pos (.inr (.inl h))]
theorem numU_good {l : List UInt8} {σ : Int} (h0 : l.length ≠ 0) (h1 : l.length ≤ 4) (h2 : allDig l) : numU l σ = σ * val l := by
  unfold numU; rw [if_neg]
  rintro (h | h | h)
  · rw [h] at h0; exact h0 rfl
  · omega
  · exact h h2
theorem val_four {l : List UInt8} (hd : allDig l) (hl : l.length ≤ 4) : (val l : Int) < 10000 := by
  have h := val_lt l hd
  have h4 : (10 : Nat) ^ l.length ≤ 10 ^ 4 := Nat.pow_le_pow_right (by omega) hl
  have h5 : (10 : Nat) ^ 4 = 10000 := by decide
  omega
theorem tail_list (s : ByteArray) : (s.extract 1 s.size).data.toList = s.data.toList.drop 1 := by
  rw [ByteArray.data_extract, Array.toList_extract, List.extract_eq_take_drop]
  exact List.take_of_length_le (by rw [List.length_drop, Array.length_toList]; exact Nat.le_refl _)
set_option maxHeartbeats 2000000 in
set_option maxRecDepth 100000 in
theorem num_any (s : ByteArray) (hs : s.size ≤ 2000) (w : World) : Calls Tryz.prog 44 #[.string s] w (Ret w (numV s.data.toList)) := by
  by_cases hneg : ∃ r, s.data.toList = 45 :: r
  · obtain ⟨r, hr⟩ := hneg
    have hl : s.data.toList.length = s.size := Array.length_toList
    have h0 : 0 < s.size := by rw [← hl, hr]; simp
    have h0I : (0 : Int) < s.size := by omega
    have h1I : (1 : Int) ≤ s.size := by omega
    have hb : s[0] = 45 := by
      have : s.data.toList[0]? = some 45 := by rw [hr]; rfl
      rw [List.getElem?_eq_getElem (by simpa using h0)] at this
      exact Option.some.inj this
    obtain ⟨t, ht⟩ : ∃ t, s.extract 1 s.size = t := ⟨_, rfl⟩
    have htl : t.data.toList = r := by rw [← ht, tail_list, hr]; rfl
    have hts : t.size ≤ 2000 := by rw [← ht]; simp; omega
    have HG := Lib.hid (show numV s.data.toList = numU t.data.toList (-1) by rw [hr, htl]; rfl)
    clear hr htl hl
    go_enter Tryz.func44, Tryz.ntmps44
    rcases (show t.size = 0 ∨ 4 < t.size ∨ (t.size ≠ 0 ∧ t.size ≤ 4) by omega) with hz | hz | ⟨hz, hz4⟩
    · have HR := Lib.hid (HG.out.trans (numU_empty (by rw [Array.length_toList]; exact hz)))
      have hzI : (t.size : Int) = 0 := by omega
      have hzb : ((t.size : Int) == 0) = true := by rw [hzI]; rfl
      clear hz
      go_wp2
      go_ret
      exact ⟨by rw [HR.out]; rfl, rfl⟩
    · have HR := Lib.hid (HG.out.trans (numU_long (by rw [Array.length_toList]; exact hz)))
      have hzI : (4 : Int) < t.size := by omega
      have hzb : ((t.size : Int) == 0) = false := by rw [beq_eq_false_iff_ne]; omega
      clear hz
      go_wp2
      go_ret
      exact ⟨by rw [HR.out]; rfl, rfl⟩
    · have hzI : (t.size : Int) ≤ 4 := by omega
      have hzb : ((t.size : Int) == 0) = false := by rw [beq_eq_false_iff_ne]; omega
      go_wp2
      go_loop [4, 5] (fun n i => ∃ (k : Nat) (m : Int), k ≤ t.size ∧ i = .int .i64 k ∧ n = .int .i64 m ∧ 0 ≤ m ∧ m < 10000 ∧ Hid (m = (val (t.data.toList.take k) : Int) ∧ allDig (t.data.toList.take k))) (fun _ i => t.size - (intOf i).toNat)
      case atStart => exact ⟨0, 0, Nat.zero_le _, rfl, rfl, by omega, by omega, rfl, by intro c hc; simp at hc⟩
      case round =>
        obtain ⟨k, m, hk, rfl, rfl, hm0, hm1, hH⟩ := hrel
        by_cases hlt : k < t.size
        · have hlen : (t.data.toList.take k).length = k := by simp; exact Nat.min_eq_left (by simpa using hk)
          have hc1 : (t[k].toNat : Int) < 256 := by have := t[k].toNat_lt; omega
          have hkI : (k : Int) < t.size := by omega
          by_cases hd : 48 ≤ (t[k].toNat : Int) ∧ (t[k].toNat : Int) ≤ 57
          · have hin : (decide (48 ≤ (t[k].toNat : Int)) && decide ((t[k].toNat : Int) ≤ 57)) = true := by simp [hd]
            obtain ⟨ha, hb⟩ := hd
            have hdig : isDig t[k] := by unfold isDig; omega
            have hall := allDig_step hlt hH.out.2 hdig
            have hval := val_take t k hlt
            have hten := val_four hall (by simp; omega)
            have HN := Lib.hid (show 10 * m + (t[k].toNat : Int) - 48 = (val (t.data.toList.take (k + 1)) : Int) ∧ allDig (t.data.toList.take (k + 1)) from ⟨by rw [hval, hH.out.1]; omega, hall⟩)
            have hm2 : 10 * m + (t[k].toNat : Int) - 48 < 10000 := by rw [HN.out.1]; exact hten
            have hm3 : 0 ≤ 10 * m + (t[k].toNat : Int) - 48 := by omega
            have HIN := Lib.hid hin
            clear hval hten hall hlen hdig hin
            go_wp2_with (go_at_call 47; (with_reducible refine (in_any _ 48 57 _ HIN.out _).mono ?_); rintro e w2 ⟨rfl, rfl⟩)
            go_round
            case rel => exact ⟨k + 1, _, by omega, by go_num, rfl, hm3, hm2, HN⟩
            case measure => simp [intOf]; omega
          · have HIN := Lib.hid (show (decide (48 ≤ (t[k].toNat : Int)) && decide ((t[k].toNat : Int) ≤ 57)) = false by rw [← Bool.not_eq_true]; simpa using hd)
            have HR := Lib.hid (HG.out.trans (numU_bad (mem_at t k hlt) (show ¬ isDig t[k] by unfold isDig; omega)))
            clear hd hlen
            go_wp2_with (go_at_call 47; (with_reducible refine (in_any _ 48 57 _ HIN.out _).mono ?_); rintro e w2 ⟨rfl, rfl⟩)
            go_ret
            exact ⟨by rw [HR.out]; rfl, rfl⟩
        · have hH2 := hH.out
          rw [take_all t k (by omega)] at hH2
          have hkI : ¬ (k : Int) < t.size := by omega
          have HR := Lib.hid (HG.out.trans (numU_good (by rw [Array.length_toList]; exact hz) (by rw [Array.length_toList]; exact hz4) hH2.2))
          have HM := Lib.hid hH2.1
          clear hH2
          go_wp2
          go_ret
          exact ⟨by rw [HR.out, ← HM.out]; simp, rfl⟩
  · obtain ⟨t, rfl⟩ : ∃ t, t = s := ⟨_, rfl⟩
    have HG := Lib.hid (show numV t.data.toList = numU t.data.toList 1 from numV_plus (by
      intro h
      cases hl : t.data.toList with
      | nil => rw [hl] at h; simp at h
      | cons c r => rw [hl] at h; simp at h; subst h; exact hneg ⟨r, hl⟩))
    have hb : (h : 0 < t.size) → ((t[0].toNat : Int) == 45) = false := fun h => by
      rw [beq_eq_false_iff_ne]
      intro e
      refine hneg ⟨t.data.toList.drop 1, ?_⟩
      have h2 : t[0] = 45 := by
        apply UInt8.toNat_inj.1
        have : (45 : UInt8).toNat = 45 := rfl
        omega
      have hl : 0 < t.data.toList.length := by rw [Array.length_toList]; exact h
      rw [← h2]
      cases hq : t.data.toList with
      | nil => rw [hq] at hl; simp at hl
      | cons c r =>
        have : t[0] = c := by
          have h3 : t.data.toList[0]? = some c := by rw [hq]; rfl
          rw [List.getElem?_eq_getElem hl] at h3
          exact Option.some.inj h3
        rw [this]; rfl
    clear hneg
    go_enter Tryz.func44, Tryz.ntmps44
    rcases (show t.size = 0 ∨ 4 < t.size ∨ (t.size ≠ 0 ∧ t.size ≤ 4) by omega) with hz | hz | ⟨hz, hz4⟩
    · have HR := Lib.hid (HG.out.trans (numU_empty (by rw [Array.length_toList]; exact hz)))
      have hzI : (t.size : Int) = 0 := by omega
      have hzb : ((t.size : Int) == 0) = true := by rw [hzI]; rfl
      clear hz
      go_wp2
      go_ret
      exact ⟨by rw [HR.out]; rfl, rfl⟩
    · have HR := Lib.hid (HG.out.trans (numU_long (by rw [Array.length_toList]; exact hz)))
      have hzI : (4 : Int) < t.size := by omega
      have hzb : ((t.size : Int) == 0) = false := by rw [beq_eq_false_iff_ne]; omega
      clear hz
      go_wp2
      go_ret
      exact ⟨by rw [HR.out]; rfl, rfl⟩
    · have hzI : (t.size : Int) ≤ 4 := by omega
      have hzb : ((t.size : Int) == 0) = false := by rw [beq_eq_false_iff_ne]; omega
      go_wp2
      go_loop [4, 5] (fun n i => ∃ (k : Nat) (m : Int), k ≤ t.size ∧ i = .int .i64 k ∧ n = .int .i64 m ∧ 0 ≤ m ∧ m < 10000 ∧ Hid (m = (val (t.data.toList.take k) : Int) ∧ allDig (t.data.toList.take k))) (fun _ i => t.size - (intOf i).toNat)
      case atStart => exact ⟨0, 0, Nat.zero_le _, rfl, rfl, by omega, by omega, rfl, by intro c hc; simp at hc⟩
      case round =>
        obtain ⟨k, m, hk, rfl, rfl, hm0, hm1, hH⟩ := hrel
        by_cases hlt : k < t.size
        · have hlen : (t.data.toList.take k).length = k := by simp; exact Nat.min_eq_left (by simpa using hk)
          have hc1 : (t[k].toNat : Int) < 256 := by have := t[k].toNat_lt; omega
          have hkI : (k : Int) < t.size := by omega
          by_cases hd : 48 ≤ (t[k].toNat : Int) ∧ (t[k].toNat : Int) ≤ 57
          · have hin : (decide (48 ≤ (t[k].toNat : Int)) && decide ((t[k].toNat : Int) ≤ 57)) = true := by simp [hd]
            obtain ⟨ha, hb⟩ := hd
            have hdig : isDig t[k] := by unfold isDig; omega
            have hall := allDig_step hlt hH.out.2 hdig
            have hval := val_take t k hlt
            have hten := val_four hall (by simp; omega)
            have HN := Lib.hid (show 10 * m + (t[k].toNat : Int) - 48 = (val (t.data.toList.take (k + 1)) : Int) ∧ allDig (t.data.toList.take (k + 1)) from ⟨by rw [hval, hH.out.1]; omega, hall⟩)
            have hm2 : 10 * m + (t[k].toNat : Int) - 48 < 10000 := by rw [HN.out.1]; exact hten
            have hm3 : 0 ≤ 10 * m + (t[k].toNat : Int) - 48 := by omega
            have HIN := Lib.hid hin
            clear hval hten hall hlen hdig hin
            go_wp2_with (go_at_call 47; (with_reducible refine (in_any _ 48 57 _ HIN.out _).mono ?_); rintro e w2 ⟨rfl, rfl⟩)
            go_round
            case rel => exact ⟨k + 1, _, by omega, by go_num, rfl, hm3, hm2, HN⟩
            case measure => simp [intOf]; omega
          · have HIN := Lib.hid (show (decide (48 ≤ (t[k].toNat : Int)) && decide ((t[k].toNat : Int) ≤ 57)) = false by rw [← Bool.not_eq_true]; simpa using hd)
            have HR := Lib.hid (HG.out.trans (numU_bad (mem_at t k hlt) (show ¬ isDig t[k] by unfold isDig; omega)))
            clear hd hlen
            go_wp2_with (go_at_call 47; (with_reducible refine (in_any _ 48 57 _ HIN.out _).mono ?_); rintro e w2 ⟨rfl, rfl⟩)
            go_ret
            exact ⟨by rw [HR.out]; rfl, rfl⟩
        · have hH2 := hH.out
          rw [take_all t k (by omega)] at hH2
          have hkI : ¬ (k : Int) < t.size := by omega
          have HR := Lib.hid (HG.out.trans (numU_good (by rw [Array.length_toList]; exact hz) (by rw [Array.length_toList]; exact hz4) hH2.2))
          have HM := Lib.hid hH2.1
          clear hH2
          go_wp2
          go_ret
          exact ⟨by rw [HR.out, ← HM.out]; simp, rfl⟩
end Go.Proofs.YtpipnhceajdfkaaGreatDoor.tex
