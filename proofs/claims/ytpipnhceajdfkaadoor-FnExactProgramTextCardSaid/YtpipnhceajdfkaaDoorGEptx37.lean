/- Several texts in one: SplW. -/
import Derived.Test.YtpipnhceajdfkaaDoorGEptx36

/- The walk of the model's splitter. -/
namespace Go.Proofs.YtpipnhceajdfkaaDoor.spl
open Go.ChangeShapes Go.WideShapes Go.ChangeAt Go.RowKit Go.Proofs.YtpipnhceajdfkaaDoor.byt

set_option maxHeartbeats 2000000 in
set_option maxRecDepth 100000 in
theorem spec_spl (s : ByteArray) (hs : (s.size : Int) ≤ 600) (w : World) :
    Calls Tryd.prog 36 #[.string s] w (SplOut s.data.toList w) := by
  obtain ⟨i0, hi, hz0, hz1, hz2⟩ := info_parts infoStr
  have hsl : s.data.toList.length = s.size := Array.length_toList
  have HSL := Lib.hid hsl
  clear hsl
  go_enter Tryd.func36, Tryd.ntmps36
  go_wp2
  go_loopw [4, 5, 6] (fun v b i wr => ∃ (k bb : Nat) (F : List (List UInt8)), k ≤ s.size + 1 ∧ i = .int .i64 k ∧ b = .int .i64 bb ∧ bb ≤ k ∧ Hid (Scan s.data.toList k bb F) ∧ wr.ownsRow w.heap.size 9 1 v F.length (strCells F) ∧ Below w.heap.size w wr) (fun _ _ i _ => s.size + 1 - (intOf i).toNat)
  case atStart => exact ⟨0, 0, [], Nat.zero_le _, rfl, rfl, Nat.le_refl _, scan_start _, World.ownsRow_made w #[] 0 (Nat.le_refl _) (by decide) rfl, (Below.refl _ _).alloc (Nat.le_refl _) _⟩
  case round =>
    obtain ⟨k, b, F, hk, rfl, rfl, hbk, hS, hown, hbel⟩ := hrel
    have hb2 := hbel.size
    have hF := scan_len hS.out
    have hF2 : (F.length : Int) ≤ 600 := by have := HSL.out; omega
    clear hF
    by_cases hlt : k < s.size
    · have hmem := Lib.hid (mem_of s k hlt)
      have hkl : k < s.data.toList.length := by rw [HSL.out]; exact hlt
      have hkI : (k : Int) < s.size := by omega
      have hc1 : (s[k].toNat : Int) < 256 := by have := s[k].toNat_lt; omega
      rcases (show (s[k].toNat : Int) < 32 ∨ (32 ≤ (s[k].toNat : Int) ∧ 126 < (s[k].toNat : Int)) ∨ ((33 ≤ (s[k].toNat : Int) ∧ (s[k].toNat : Int) ≤ 126) ∨ (32 ≤ (s[k].toNat : Int) ∧ (s[k].toNat : Int) ≤ 32)) by omega) with h | ⟨h, h'⟩ | ⟨h, h'⟩ | ⟨h, h'⟩
      · have HB := Lib.hid (bad_byte hmem.out (by omega))
        have HO := Lib.hid (World.ownsRow_made (base := w.heap.size) (e := 9) (size := 1) wr #[] 0 hb2 (by decide) rfl)
        clear hown
        go_wp2
        go_ret2
        exact out_bad HB.out (hbel.alloc hb2 _) HO.out
      · have HB := Lib.hid (bad_byte hmem.out (by omega))
        have HO := Lib.hid (World.ownsRow_made (base := w.heap.size) (e := 9) (size := 1) wr #[] 0 hb2 (by decide) rfl)
        clear hown
        go_wp2
        go_ret2
        exact out_bad HB.out (hbel.alloc hb2 _) HO.out
      · have HSC := Lib.hid (scan_on hS.out hkl hbk (by have : s.data.toList[k] = s[k] := rfl; rw [this]; omega) (by have : s.data.toList[k] = s[k] := rfl; rw [this]; intro e; rw [e] at h; simp at h))
        have HO := Lib.hid hown
        clear hown
        go_wp2
        go_roundw
        case rel => exact ⟨k + 1, b, F, by omega, by go_num, rfl, by omega, HSC, HO.out, hbel⟩
        case measure => simp [intOf]; omega
      · have hc32 : s.data.toList[k] = 32 := by
          have e : s.data.toList[k] = s[k] := rfl
          rw [e]; apply UInt8.toNat.inj; show s[k].toNat = 32; omega
        rcases Nat.lt_or_ge b k with hbl | hbg
        · have HSC := Lib.hid (scan_cut hS.out hkl hbl hc32)
          have hbI : (b : Int) < k := by omega
          clear hc32
          go_wp2_with (at_builtin; refine wpList_append_own _ rfl _ _ 64 rfl w.heap.size 9 i0 (.string ByteArray.empty) 1 16 Tryd.underlying64 hi hz0 hz1 hz2 rfl (by decide) _ _ _ rfl (hown.alloc _) ⟨wr.heap.size, 0, none⟩ 1 1 [.string (s.extract b k)] rfl rfl (World.news_of_block (cs := #[.string (s.extract b k)]) (t := 9) (fr := (0, 0)) (heap_alloc_new wr _)) (by simp [Value.oneCell']) (by unfold maxLen; omega) (by omega) (by simp; omega) ?_; intro v2 w2 hown2 hgrow2 _; refine Hid.out ?_)
          have hbel2 : Below w.heap.size w w2 := (hbel.alloc hb2 _).grown hgrow2 (by simp; omega) (fun j hj => (hown.lt j hj).1)
          rw [cells_next] at hown2
          have HO := Lib.hid hown2
          clear hown2 hgrow2 hown
          refine Lib.hid ?_
          go_wp2
          go_roundw
          case rel => exact ⟨k + 1, k + 1, _, by omega, by go_num, by go_num, Nat.le_refl _, HSC, by rw [len_next]; exact HO.out, hbel2⟩
          case measure => simp [intOf]; omega
        · obtain rfl : b = k := by omega
          have HSC := Lib.hid (scan_space hS.out hkl hc32)
          have HO := Lib.hid hown
          clear hown hc32
          go_wp2
          go_roundw
          case rel => exact ⟨b + 1, b + 1, F, by omega, by go_num, by go_num, Nat.le_refl _, HSC, HO.out, hbel⟩
          case measure => simp [intOf]; omega
    · rcases Nat.lt_or_ge s.size k with hgt | hle
      · have hgI : (s.size : Int) < k := by omega
        obtain ⟨a, cap, rfl⟩ := own_form hown
        have HFE := Lib.hid (hS.out.2.1 (by rw [HSL.out]; exact hgt))
        have HAL := Lib.hid hS.out.2.2
        by_cases h24 : (24 : Int) < F.length
        · have HB := Lib.hid (bad_many (l := s.data.toList) (by rw [← HFE.out]; omega))
          have HO := Lib.hid (World.ownsRow_made (base := w.heap.size) (e := 9) (size := 1) wr #[] 0 hb2 (by decide) rfl)
          clear hown
          go_wp2
          go_ret2
          exact out_bad HB.out (hbel.alloc hb2 _) HO.out
        · have HG := Lib.hid (good (l := s.data.toList) (by rw [HSL.out]; omega) (by have := HAL.out; rw [List.take_of_length_le (by rw [HSL.out]; omega)] at this; exact this) (by rw [← HFE.out]; omega))
          have HO := Lib.hid hown
          clear hown
          go_wp2
          go_ret2
          exact out_good HG.out hbel (by rw [← HFE.out]; exact HO.out)
      · have hkl : k = s.data.toList.length := by rw [HSL.out]; omega
        have hkI : (k : Int) ≤ s.size := by omega
        have hkJ : (s.size : Int) ≤ k := by omega
        rcases Nat.lt_or_ge b k with hbl | hbg
        · have HSC := Lib.hid (scan_last hS.out hkl hbl)
          have hbI : (b : Int) < k := by omega
          clear hkl
          go_wp2_with (at_builtin; refine wpList_append_own _ rfl _ _ 64 rfl w.heap.size 9 i0 (.string ByteArray.empty) 1 16 Tryd.underlying64 hi hz0 hz1 hz2 rfl (by decide) _ _ _ rfl (hown.alloc _) ⟨wr.heap.size, 0, none⟩ 1 1 [.string (s.extract b k)] rfl rfl (World.news_of_block (cs := #[.string (s.extract b k)]) (t := 9) (fr := (0, 0)) (heap_alloc_new wr _)) (by simp [Value.oneCell']) (by unfold maxLen; omega) (by omega) (by simp; omega) ?_; intro v2 w2 hown2 hgrow2 _; refine Hid.out ?_)
          have hbel2 : Below w.heap.size w w2 := (hbel.alloc hb2 _).grown hgrow2 (by simp; omega) (fun j hj => (hown.lt j hj).1)
          rw [cells_next] at hown2
          have HO := Lib.hid hown2
          clear hown2 hgrow2 hown
          refine Lib.hid ?_
          go_wp2
          go_roundw
          case rel => exact ⟨k + 1, k + 1, _, by omega, by go_num, by go_num, Nat.le_refl _, HSC, by rw [len_next]; exact HO.out, hbel2⟩
          case measure => simp [intOf]; omega
        · have HSC := Lib.hid (scan_end hS.out hkl (by omega))
          have HO := Lib.hid hown
          have hbI : ¬ (b : Int) < k := by omega
          clear hown hkl
          go_wp2
          go_roundw
          case rel => exact ⟨k + 1, k + 1, F, by omega, by go_num, by go_num, Nat.le_refl _, HSC, HO.out, hbel⟩
          case measure => simp [intOf]; omega
end Go.Proofs.YtpipnhceajdfkaaDoor.spl
