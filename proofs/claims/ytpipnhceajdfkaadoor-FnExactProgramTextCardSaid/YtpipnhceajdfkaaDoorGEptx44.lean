/- Several texts in one: TexF. -/
import Derived.Test.YtpipnhceajdfkaaDoorGEptx43
import Derived.Test.YtpipnhceajdfkaaDoorGEptx39
import Derived.Test.YtpipnhceajdfkaaDoorGEptx36

/- Chapter 4's FormatStmt of the program: it is the statement's text; nothing that was there is written. -/
namespace Go.Proofs.YtpipnhceajdfkaaDoor.tex
open Go Go.ChangeShapes Go.WideShapes Go.ChangeAt Go.RowKit Go.Proofs.YtpipnhceajdfkaaDoor.row Go.Proofs.YtpipnhceajdfkaaDoor.val Go.Proofs.YtpipnhceajdfkaaDoor.stm Go.Proofs.YtpipnhceajdfkaaDoor.expr Go.Proofs.YtpipnhceajdfkaaDoor.spl Go.Proofs.YtpipnhceajdfkaaDoor.lay

/-- The fields of a statement's text, as strings. -/
def fb (s : S) : List ByteArray := (flds s).map fun f => ⟨f.toArray⟩
theorem fb_lists (s : S) : (fb s).map (·.data.toList) = flds s := by simp [fb, Function.comp_def]
theorem fb_len (s : S) : (fb s).length = (nums s).length + 1 := by simp [fb, flds]
theorem fb_take_one (s : S) : (fb s).take 1 = [⟨(word s.k).toArray⟩] := by simp [fb, flds]
theorem fb_next (s : S) {k : Nat} {x : Int} (h : (nums s)[k]? = some x) : (fb s).take (k + 2) = (fb s).take (k + 1) ++ [⟨(Lib.itoa x).toArray⟩] := by
  rw [List.take_add_one (i := k + 1)]
  congr 1
  simp [fb, flds, h]
theorem fb_all (s : S) : (fb s).take ((nums s).length + 1) = fb s := List.take_of_length_le (by rw [fb_len]; exact Nat.le_refl _)
theorem strs_snoc (L : List ByteArray) (x : ByteArray) : spl.strs (L ++ [x]) = spl.strs L ++ [Value.string x] := by simp [spl.strs]
theorem impl_small {n : Int} (h : Small n) (w : World) (hT : Lib.TabIs Tryd.prog w "internal/strconv.uint64pow10" .u64 Lib.pow10Tab) : Calls Tryd.prog 51 #[.int .i64 n] w (RetS w (Lib.itoa n)) := by
  unfold Small at h; exact impl_fmt n (by omega) (by omega) w hT
theorem text_join_fb (s : S) : Lib.join ((fb s).map (·.data.toList)) [32] = text s := by rw [fb_lists]; rfl
/-- A word and numbers, as strings. -/
def fw (u : ByteArray) (L : List Int) : List ByteArray := u :: L.map fun n => ⟨(Lib.itoa n).toArray⟩
theorem fw_lists (u : ByteArray) (L : List Int) : (fw u L).map (·.data.toList) = u.data.toList :: L.map Lib.itoa := by simp [fw, Function.comp_def]
theorem fw_take_one (u : ByteArray) (L : List Int) : (fw u L).take 1 = [u] := by simp [fw]
theorem fw_next (u : ByteArray) {L : List Int} {k : Nat} {x : Int} (h : L[k]? = some x) : (fw u L).take (k + 2) = (fw u L).take (k + 1) ++ [⟨(Lib.itoa x).toArray⟩] := by
  rw [List.take_add_one (i := k + 1)]
  congr 1
  simp [fw, h]
theorem fw_all (u : ByteArray) (L : List Int) : (fw u L).take (L.length + 1) = fw u L := List.take_of_length_le (by simp [fw])
/-- The text of a word and numbers. -/
def lineW (u : ByteArray) (L : List Int) : List UInt8 := Lib.join (u.data.toList :: L.map Lib.itoa) [32]
set_option maxHeartbeats 2000000 in
set_option maxRecDepth 100000 in
theorem impl_lineof (u : ByteArray) (L : List Int) (a : Option Addr) (n c : Nat) (w : World) (hN : (∀ x ∈ L, Small x) ∧ L.length ≤ 4) (hJ : (lineW u L).length ≤ 1048576) (hR : Row w a n L) (hT : Lib.TabBelow Tryd.prog w.heap.size w "internal/strconv.uint64pow10" .u64 Lib.pow10Tab) :
    Calls Tryd.prog 26 #[.string u, .slice a n c] w (RetS w (lineW u L)) := by
  obtain rfl : L.length = n := hR.1
  have HL := Lib.hid (show (Lib.join ((fw u L).map (·.data.toList)) [32]).length ≤ 1048576 by rw [fw_lists]; exact hJ)
  have HU := Lib.hid (show lineW u L = Lib.join ((fw u L).map (·.data.toList)) [32] by rw [fw_lists]; rfl)
  have HN := Lib.hid hN
  have HT := Lib.hid hT
  have HK := Lib.hid hR
  clear hN hJ hR hT
  obtain ⟨i0, hi, hz0, hz1, hz2⟩ := info_parts infoStr
  go_enter Tryd.func26, Tryd.ntmps26
  go_wp2
  have hmade : (w.alloc (.cells #[.string u] 9)).ownsRow w.heap.size 9 1 (.slice (some ⟨w.heap.size, 0, none⟩) 1 1) 1 (spl.strs ((fw u L).take 1)) :=
    ⟨by rw [fw_take_one]; rfl, .inr ⟨w.heap.size, 1, #[.string u], rfl, Nat.le_refl _, heap_alloc_new _ _, Nat.le_refl _, by decide, by simp, by rw [fw_take_one]; rfl⟩⟩
  go_loopw [5, 12] (fun vf i wr => ∃ k : Nat, k ≤ L.length ∧ i = .int .i64 k ∧ wr.ownsRow w.heap.size 9 1 vf (k + 1) (spl.strs ((fw u L).take (k + 1))) ∧ Below w.heap.size w wr) (fun _ i _ => L.length - (intOf i).toNat)
  case atStart => exact ⟨0, Nat.zero_le _, rfl, hmade, below_new w _⟩
  case round =>
    obtain ⟨k, hk, rfl, hown, hbel⟩ := hrel
    obtain ⟨a4, cap4, rfl⟩ := own_form hown
    have hN4 := HN.out.2
    have hb2 := hbel.size
    by_cases hlt : k < L.length
    · have hkI : (k : Int) < L.length := by omega
      obtain ⟨g, off, x, rfl, hg, hx, hcell⟩ := HK.out.2 k hlt
      have hcell2 := hbel.cell (p := ⟨g, off + k, none⟩) hg
      rw [hcell] at hcell2
      have HX := Lib.hid (And.intro (fw_next u hx) (HN.out.1 x (List.mem_of_getElem? hx)))
      have HTr := Lib.hid (HT.out.on hbel).here
      clear hx hcell
      go_wp2_with (first
        | (go_at_call 51; refine (impl_small HX.out.2 _ HTr.out).mono ?_; rintro e w3 ⟨rfl, hb3⟩)
        | (at_builtin; refine wpList_append_own _ rfl _ _ 64 rfl w.heap.size 9 i0 (.string ByteArray.empty) 1 16 Tryd.underlying64 hi hz0 hz1 hz2 rfl (by decide) _ _ _ rfl ((hown.kept (grown_below hb3 none) (by cases a4 <;> simp [Value.ownBlock])).alloc _) ⟨w3.heap.size, 0, none⟩ 1 1 [.string ⟨(Lib.itoa x).toArray⟩] rfl rfl (World.news_of_block (cs := #[.string ⟨(Lib.itoa x).toArray⟩]) (t := 9) (fr := (0, 0)) (heap_alloc_new w3 _)) (by simp [Value.oneCell']) (by unfold maxLen; omega) (by omega) (by simp; have := hb3.size; omega) ?_; intro v4 w4 hown4 hgrow4 _; refine Hid.out ?_))
      have hb4 : Below w.heap.size w w4 := ((below_then hbel hb3).alloc (Nat.le_trans hb2 hb3.size) _).grown hgrow4 (by have := hb3.size; simp; omega) (fun j hj => (hown.lt j hj).1)
      have HO := Lib.hid (show w4.ownsRow w.heap.size 9 1 v4 (k + 1 + 1) (spl.strs ((fw u L).take (k + 2))) by rw [HX.out.1, strs_snoc]; exact hown4)
      clear hown hown4 hgrow4 hb3
      refine Lib.hid ?_
      go_wp2
      go_roundw
      case rel => exact ⟨k + 1, by omega, by go_num, HO.out, hb4⟩
      case measure => simp [intOf]; omega
    · obtain rfl : k = L.length := by omega
      have hkI : ¬ (L.length : Int) < L.length := by omega
      rw [fw_all] at hown
      have HB := Lib.hid hbel
      go_wp2_with (go_at_call 31; refine (join_own (fw u L) w.heap.size _ _ _ hown HL.out (by omega)).mono ?_; rintro e w5 ⟨rfl, hb5⟩)
      go_ret
      exact ⟨by rw [HU.out]; rfl, below_then HB.out hb5⟩
set_option maxHeartbeats 2000000 in
set_option maxRecDepth 100000 in
theorem impl_fmtstmt (s : S) (w : World) (hT : Lib.TabBelow Tryd.prog w.heap.size w "internal/strconv.uint64pow10" .u64 Lib.pow10Tab) : Calls Tryd.prog 9 #[stV s] w (RetS w (textR s)) := by
  cases hs : stOk s
  · have HR := Lib.hid (textR_bad hs)
    have HS := Lib.hid hs
    clear hs hT
    go_enter Tryd.func9, Tryd.ntmps9
    go_wp2_with (go_at_call 25; refine (valid_bad s HS.out _).mono ?_; rintro e w1 ⟨rfl, hb1⟩)
    go_ret
    exact ⟨by rw [HR.out]; rfl, below_then (below_new _ _) hb1⟩
  · have HR := Lib.hid (textR_ok hs)
    have HS := Lib.hid hs
    have HN := Lib.hid (nums_small hs)
    have HT := Lib.hid hT
    have HJ := Lib.hid (show (lineW ⟨(word s.k).toArray⟩ (nums s)).length ≤ 1048576 by have := text_short hs; unfold text flds at this; simpa [lineW] using (by omega : _ ≤ 1048576))
    clear hs hT
    go_enter Tryd.func9, Tryd.ntmps9
    go_wp2_with (first
      | (go_at_call 25; refine (valid_ok s HS.out _).mono ?_; rintro e w1 ⟨rfl, hb1⟩)
      | (go_at_call 27; refine (wn_any s HS.out _).mono ?_; rintro e w2 ⟨a, c, rfl, hR, hb2⟩; refine Hid.out ?_))
    have HB := Lib.hid (below_then (below_then (below_new w _) hb1) hb2)
    have HRR := Lib.hid hR
    have HTB := Lib.hid (show Lib.TabBelow Tryd.prog w2.heap.size w2 "internal/strconv.uint64pow10" .u64 Lib.pow10Tab from fun w' hw' => (HT.out.on HB.out) w' (hw'.mono HB.out.size))
    clear hR hb1 hb2
    refine Lib.hid ?_
    go_wp2_with (go_at_call 26; (with_reducible refine (impl_lineof ⟨(word s.k).toArray⟩ (nums s) a (nums s).length c w2 HN.out HJ.out HRR.out HTB.out).mono ?_); rintro e w3 ⟨rfl, hb3⟩)
    go_ret
    exact ⟨by rw [HR.out]; rfl, below_then HB.out hb3⟩
end Go.Proofs.YtpipnhceajdfkaaDoor.tex
