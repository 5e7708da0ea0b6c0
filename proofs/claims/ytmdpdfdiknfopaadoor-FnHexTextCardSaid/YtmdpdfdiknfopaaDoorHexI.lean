/- The walk of the program's own encoder: it returns the same hexadecimal text. -/
import Derived.Test.YtmdpdfdiknfopaaDoorHexB
namespace Go.Proofs.YtmdpdfdiknfopaaDoor.hex
open Go.ChangeShapes Go.WideShapes Go.ChangeAt Go.RowKit Go.Proofs.YtmdpdfdiknfopaaDoor.byt

theorem u8_and15 (x : Int) (h₀ : 0 ≤ x) (h₁ : x < 256) : bits .and .u8 x 15 = x % 16 := bits_mask .u8 8 (by decide) wraps_u8 4 (by decide) x h₀ h₁

theorem tab_size : ({ data := #[48, 49, 50, 51, 52, 53, 54, 55, 56, 57, 97, 98, 99, 100, 101, 102] } : ByteArray).size = 16 := rfl
theorem tab_nat : ∀ n : Fin 16, (({ data := #[48, 49, 50, 51, 52, 53, 54, 55, 56, 57, 97, 98, 99, 100, 101, 102] } : ByteArray)[n.1]'(by rw [tab_size]; exact n.2)).toNat = if n.1 < 10 then 48 + n.1 else 87 + n.1 := by decide
theorem tab_at (x : Int) (h0 : 0 ≤ x) (h1 : x < 16) :
    ((({ data := #[48, 49, 50, 51, 52, 53, 54, 55, 56, 57, 97, 98, 99, 100, 101, 102] } : ByteArray)[x.toNat]'(by rw [tab_size]; omega)).toNat : Int) = fig x := by
  have h := tab_nat ⟨x.toNat, by omega⟩
  simp only at h
  rw [h]
  unfold fig
  by_cases hx : x < 10
  · rw [if_pos (by omega), if_pos hx]; omega
  · rw [if_neg (by omega), if_neg hx]; omega

set_option maxHeartbeats 1000000 in
theorem impl_enc (s : ByteArray) (hs : (s.size : Int) ≤ 20000) (w : World) :
    Calls Tryd.prog 10 #[.string s] w fun e w' => e = .returned (.tuple #[.string ⟨(enc s.data.toList).toArray⟩, .bool true]) ∧ Below w.heap.size w w' := by
  obtain ⟨i0, hi, hz0, hz1, hz2⟩ := info_parts infoByte
  go_enter Tryd.func10, Tryd.ntmps10
  go_wp2_with (refine wpList_make_own _ rfl _ _ _ rfl w.heap.size 5 i0 (.int .u8 0) 1 Tryd.underlying22 hi hz0 hz1 .i64 .i64 _ (2 * s.size) rfl rfl (by omega) (by rw [hz2]; omega) (by unfold maxLen; omega) (Nat.le_refl _) ?_; intro w1 hown1 hgrow1)
  have hb1 : Below w.heap.size w w1 := (Below.refl _ _).grown hgrow1 (Nat.le_refl _) (by rintro k ⟨⟩)
  clear hgrow1
  go_loopw [4, 15] (fun v i wr => ∃ k : Nat, k ≤ s.size ∧ i = .int .i64 k ∧ wr.ownsRow w.heap.size 5 1 v (2 * k) (Lib.byteCells (enc (s.data.toList.take k))) ∧ Below w.heap.size w wr) (fun _ i _ => s.size - (intOf i).toNat)
  case atStart => exact ⟨0, Nat.zero_le _, rfl, hown1, hb1⟩
  case round =>
    obtain ⟨k, hk, rfl, hown, hbel⟩ := hrel
    by_cases hlt : k < s.size
    · have hb : s[k].toNat < 256 := s[k].toNat_lt
      have hq0 : 0 ≤ (s[k].toNat : Int) / 16 := by omega
      have hq1 : (s[k].toNat : Int) / 16 < 16 := by omega
      have hr0 : 0 ≤ (s[k].toNat : Int) % 16 := by omega
      have hr1 : (s[k].toNat : Int) % 16 < 16 := by omega
      have hb2 := hbel.size
      have hsm : (k : Int) < s.size := by omega
      have hand := u8_and15 (s[k].toNat : Int) (by omega) (by omega)
      have hd1 := tab_at ((s[k].toNat : Int) / 16) hq0 hq1
      have hd2 := tab_at ((s[k].toNat : Int) % 16) hr0 hr1
      go_wp2
      go_region_held3 (fun _ => True) (trivial)
        (first
          | ((refine step_append_lies _ (by rfl) _ _ _ (by rfl) w.heap.size 5 i0 _ 1 1 Tryd.underlying22 hi hz0 hz1 hz2 rfl (by omega) _ (2 * k) _ (by rfl) ((hown.alloc _).drew) ⟨wr.heap.size, 0, none⟩ 2 2 [.int .u8 (fig ((s[k].toNat : Int) / 16)), .int .u8 (fig ((s[k].toNat : Int) % 16))] (by rfl) (by rfl) (World.news_of_block (cs := #[.int .u8 (fig ((s[k].toNat : Int) / 16)), .int .u8 (fig ((s[k].toNat : Int) % 16))]) (t := 5) (fr := (0, 0)) (heap_alloc_new wr _)) (by simp [Value.oneCell']) (by omega) (by unfold maxLen; omega) (by omega) (by simp; omega) (wr.heap.size + 1) (by simp) ?_; intro gg cap w1 hown1 hgrow hat hlt1)))
      all_goals
        have hbel1 : Below w.heap.size w w1 := ((hbel.alloc hb2 _).drew).grown hgrow (by simp; omega) (fun j hj => (hown.lt j hj).1)
        clear hown
        go_wp2
        go_roundw
        case rel => exact ⟨k + 1, by omega, by go_num, by rw [enc_step s k hlt]; exact hown1, hbel1⟩
        case measure => simp [intOf]; omega
    · rw [take_all s k (by omega)] at hown
      have hcv := conv_own hown
      go_wp2
      go_ret2
      exact ⟨rfl, hbel⟩
end Go.Proofs.YtmdpdfdiknfopaaDoor.hex
