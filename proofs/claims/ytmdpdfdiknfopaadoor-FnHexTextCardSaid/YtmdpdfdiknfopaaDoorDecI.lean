/- The walk of the program's own decoder: it returns what the text decodes to. -/
import Derived.Test.YtmdpdfdiknfopaaDoorDecB
namespace Go.Proofs.YtmdpdfdiknfopaaDoor.hex
open Go.ChangeShapes Go.WideShapes Go.ChangeAt Go.RowKit Go.Proofs.YtmdpdfdiknfopaaDoor.byt

theorem hex_yes (x : Int) (w : World) (h0 : 0 ≤ x) (h1 : x < 256) (hy : 0 ≤ hv x) :
    Calls Tryd.prog 27 #[.int .u8 x] w fun e w' => e = .returned (.tuple #[.int .u8 (hv x), .bool true]) ∧ w = w' := by
  rcases (show x < 48 ∨ (48 ≤ x ∧ x ≤ 57) ∨ (57 < x ∧ x < 97) ∨ (97 ≤ x ∧ x ≤ 102) ∨ 102 < x by omega) with h | ⟨h, h'⟩ | ⟨h, h'⟩ | ⟨h, h'⟩ | h
  · rw [hv_no (Or.inl h)] at hy; omega
  · have H := Lib.hid (hv_num h h')
    clear hy
    go_enter Tryd.func27, Tryd.ntmps27
    go_wp2
    go_ret2
    exact ⟨ret_tb H.out.symm, rfl⟩
  · rw [hv_no (Or.inr (Or.inl ⟨h, h'⟩))] at hy; omega
  · have H := Lib.hid (hv_let h h')
    clear hy
    go_enter Tryd.func27, Tryd.ntmps27
    go_wp2
    go_ret2
    exact ⟨ret_tb (by rw [H.out]; omega), rfl⟩
  · rw [hv_no (Or.inr (Or.inr h))] at hy; omega

theorem hex_no (x : Int) (w : World) (h0 : 0 ≤ x) (h1 : x < 256) (hy : hv x < 0) :
    Calls Tryd.prog 27 #[.int .u8 x] w fun e w' => e = .returned (.tuple #[.int .u8 0, .bool false]) ∧ w = w' := by
  rcases (show x < 48 ∨ (48 ≤ x ∧ x ≤ 57) ∨ (57 < x ∧ x < 97) ∨ (97 ≤ x ∧ x ≤ 102) ∨ 102 < x by omega) with h | ⟨h, h'⟩ | ⟨h, h'⟩ | ⟨h, h'⟩ | h
  · clear hy
    go_enter Tryd.func27, Tryd.ntmps27
    go_wp2
    go_ret2
    exact ⟨rfl, rfl⟩
  · rw [hv_num h h'] at hy; omega
  · clear hy
    go_enter Tryd.func27, Tryd.ntmps27
    go_wp2
    go_ret2
    exact ⟨rfl, rfl⟩
  · rw [hv_let h h'] at hy; omega
  · clear hy
    go_enter Tryd.func27, Tryd.ntmps27
    go_wp2
    go_ret2
    exact ⟨rfl, rfl⟩

set_option maxHeartbeats 1000000 in
set_option maxRecDepth 100000 in
theorem impl_dec (s : ByteArray) (hs : (s.size : Int) ≤ 40000) (he : (s.size : Int) % 2 = 0) (w : World) :
    Calls Tryd.prog 12 #[.string s] w (DecOut s w) := by
  obtain ⟨i0, hi, hz0, hz1, hz2⟩ := info_parts infoByte
  have HE := Lib.hid he
  have he' : ((s.size : Int) % 2 != 0) = false := by simp [he]
  clear he
  go_enter Tryd.func12, Tryd.ntmps12
  go_wp2_with (refine wpList_make_own _ rfl _ _ _ rfl w.heap.size 5 i0 (.int .u8 0) 1 Tryd.underlying22 hi hz0 hz1 .i64 .i64 _ (s.size / 2) rfl rfl (by omega) (by rw [hz2]; omega) (by unfold maxLen; omega) (Nat.le_refl _) ?_; intro w1 hown1 hgrow1)
  have hb1 : Below w.heap.size w w1 := (Below.refl _ _).grown hgrow1 (Nat.le_refl _) (by rintro k ⟨⟩)
  clear hgrow1
  go_loopw [4, 5] (fun v i wr => ∃ (j : Nat) (acc : List UInt8), j ≤ s.size ∧ i = .int .i64 j ∧ Hid (Upto s.data.toList j acc) ∧ wr.ownsRow w.heap.size 5 1 v acc.length (Lib.byteCells acc) ∧ Below w.heap.size w wr) (fun _ i _ => s.size - (intOf i).toNat)
  case atStart => exact ⟨0, [], Nat.zero_le _, rfl, upto_zero _, hown1, hb1⟩
  case round =>
    obtain ⟨j, acc, hj, rfl, hU, hown, hbel⟩ := hrel
    have hacc : 2 * acc.length = j := hU.out.2
    have hA0 : (acc.length : Int) ≤ 20000 := by omega
    by_cases hlt : j < s.size
    · have hj2 : j + 1 < s.size := by have := HE.out; omega
      have hx := (hv_bd (s[j].toNat)).2
      have hy := (hv_bd (s[j + 1].toNat)).2
      have ha0 : (s[j].toNat : Int) < 256 := by have := s[j].toNat_lt; omega
      have hb0 : (s[j + 1].toNat : Int) < 256 := by have := s[j + 1].toNat_lt; omega
      clear hacc
      by_cases h0 : 0 ≤ hv (s[j].toNat)
      · by_cases h1 : 0 ≤ hv (s[j + 1].toNat)
        · have hb2 := hbel.size
          have hor : bits .or .u8 (hv (s[j].toNat) * 16) (hv (s[j + 1].toNat)) = 16 * hv (s[j].toNat) + hv (s[j + 1].toNat) := by
            rw [Int.mul_comm 16]
            exact bits_join .u8 8 (by decide) wraps_u8 4 _ _ (by omega) (by omega) (by omega) (by omega) (by omega) (by omega)
          go_wp2_with (first
            | (first | (go_at_call 27; refine (hex_yes _ _ (by omega) (by omega) (by assumption)).mono ?_; rintro e w' ⟨rfl, rfl⟩) | (go_at_call 27; refine (hex_no _ _ (by omega) (by omega) (by assumption)).mono ?_; rintro e w' ⟨rfl, rfl⟩))
            | (at_builtin; refine wpList_append_own _ rfl _ _ 22 rfl w.heap.size 5 i0 (.int .u8 0) 1 1 Tryd.underlying22 hi hz0 hz1 hz2 rfl (by decide) _ _ _ rfl (hown.alloc _) ⟨wr.heap.size, 0, none⟩ 1 1 [.int .u8 (16 * hv (s[j].toNat) + hv (s[j + 1].toNat))] rfl rfl (World.news_of_block (cs := #[.int .u8 (16 * hv (s[j].toNat) + hv (s[j + 1].toNat))]) (t := 5) (fr := (0, 0)) (heap_alloc_new wr _)) (by simp [Value.oneCell']) (by unfold maxLen; omega) (by omega) (by simp; omega) ?_; intro v1 w1 hown1 hgrow1 _))
          have hbel1 : Below w.heap.size w w1 := (hbel.alloc hb2 _).grown hgrow1 (by simp; omega) (fun j hj => (hown.lt j hj).1)
          have hU1 := step_up hU.out hj2 h0 h1
          clear hown
          go_roundw
          case rel => exact ⟨j + 2, _, by omega, by go_num, hU1, by rw [cells_step acc hj2 h0 h1]; simpa using hown1, hbel1⟩
          case measure => simp [intOf]; omega
        · have HBAD := Lib.hid (decOut_bad (w := w) (w' := wr) hU.out hj2 (fun h => h1 h.2) hbel)
          have h1' : hv (s[j + 1].toNat) < 0 := by omega
          clear h1 hown
          go_wp2_with (first | (go_at_call 27; refine (hex_yes _ _ (by omega) (by omega) (by assumption)).mono ?_; rintro e w' ⟨rfl, rfl⟩) | (go_at_call 27; refine (hex_no _ _ (by omega) (by omega) (by assumption)).mono ?_; rintro e w' ⟨rfl, rfl⟩))
          go_ret2
          exact HBAD.out
      · have HBAD := Lib.hid (decOut_bad (w := w) (w' := wr) hU.out hj2 (fun h => h0 h.1) hbel)
        have h0' : hv (s[j].toNat) < 0 := by omega
        clear h0 hown
        rcases (show hv (s[j + 1].toNat) < 0 ∨ 0 ≤ hv (s[j + 1].toNat) by omega) with h1 | h1
        all_goals
          go_wp2_with (first | (go_at_call 27; refine (hex_yes _ _ (by omega) (by omega) (by assumption)).mono ?_; rintro e w' ⟨rfl, rfl⟩) | (go_at_call 27; refine (hex_no _ _ (by omega) (by omega) (by assumption)).mono ?_; rintro e w' ⟨rfl, rfl⟩))
          go_ret2
          exact HBAD.out
    · have hE := decOut_end (w := w) (w' := wr) hU.out (by omega) hbel
      have hcv := conv_own hown
      have HEND := Lib.hid hE
      clear hE
      go_wp2
      go_ret2
      exact HEND.out
end Go.Proofs.YtmdpdfdiknfopaaDoor.hex
