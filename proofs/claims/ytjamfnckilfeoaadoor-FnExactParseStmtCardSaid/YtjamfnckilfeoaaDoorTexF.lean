/- Chapter 4's FormatStmt of the program: it is the statement's text; nothing that was there is written. -/
import Derived.Test.YtjamfnckilfeoaaDoorTexN
import Derived.Test.YtjamfnckilfeoaaDoorJoin
import Derived.Test.YtjamfnckilfeoaaDoorItoa
namespace Go.Proofs.YtjamfnckilfeoaaDoor.tex
open Go Go.ChangeShapes Go.WideShapes Go.ChangeAt Go.RowKit Go.Proofs.YtjamfnckilfeoaaDoor.row Go.Proofs.YtjamfnckilfeoaaDoor.val Go.Proofs.YtjamfnckilfeoaaDoor.stm Go.Proofs.YtjamfnckilfeoaaDoor.expr Go.Proofs.YtjamfnckilfeoaaDoor.spl Go.Proofs.YtjamfnckilfeoaaDoor.lay

/-- The fields of a statement's text, as strings. -/
def fb (s : S) : List ByteArray := (flds s).map fun f => ⟨f.toArray⟩
theorem fb_lists (s : S) : (fb s).map (·.data.toList) = flds s := by simp [fb, Function.comp_def]
theorem fb_len (s : S) : (fb s).length = (nums s).length + 1 := by simp [fb, flds]
theorem fb_take_one (s : S) : (fb s).take 1 = [⟨(word s.k).toArray⟩] := by simp [fb, flds]
theorem fb_next (s : S) {k : Nat} {x : Int} (h : (nums s)[k]? = some x) : (fb s).take (k + 2) = (fb s).take (k + 1) ++ [⟨(Lib.itoa x).toArray⟩] := by
  rw [List.take_add_one (i := k + 1)]
  congr 1
  simp [fb, flds, h]
theorem fb_all (s : S) : (fb s).take ((nums s).length + 1) = fb s := List.take_of_length_le (by rw [fb_len]; exact Nat.le_refl _)
theorem strs_snoc (L : List ByteArray) (x : ByteArray) : spl.strs (L ++ [x]) = spl.strs L ++ [Value.string x] := by simp [spl.strs]
theorem impl_small {n : Int} (h : Small n) (w : World) (hT : Lib.TabIs Tryd.prog w "internal/strconv.uint64pow10" .u64 Lib.pow10Tab) : Calls Tryd.prog 21 #[.int .i64 n] w (RetS w (Lib.itoa n)) := by
  unfold Small at h; exact impl_fmt n (by omega) (by omega) w hT
theorem text_join_fb (s : S) : Lib.join ((fb s).map (·.data.toList)) [32] = text s := by rw [fb_lists]; rfl
set_option maxHeartbeats 2000000 in
set_option maxRecDepth 100000 in
theorem impl_fmtstmt (s : S) (w : World) (hT : Lib.TabBelow Tryd.prog w.heap.size w "internal/strconv.uint64pow10" .u64 Lib.pow10Tab) : Calls Tryd.prog 8 #[stV s] w (RetS w (textR s)) := by
  cases hs : stOk s
  · have HR := Lib.hid (textR_bad hs)
    have HS := Lib.hid hs
    clear hs hT
    go_enter Tryd.func8, Tryd.ntmps8
    go_wp2_with (go_at_call 19; refine (valid_bad s HS.out _).mono ?_; rintro e w1 ⟨rfl, hb1⟩)
    go_ret
    exact ⟨by rw [HR.out]; rfl, below_then (below_new _ _) hb1⟩
  · have HR := Lib.hid ((textR_ok hs).trans (text_join_fb s).symm)
    have HS := Lib.hid hs
    have HN := Lib.hid (nums_small hs)
    have HT := Lib.hid hT
    have HL := Lib.hid (show (Lib.join ((fb s).map (·.data.toList)) [32]).length ≤ 1048576 by rw [text_join_fb]; have := text_short hs; omega)
    clear hs hT
    obtain ⟨i0, hi, hz0, hz1, hz2⟩ := info_parts infoStr
    go_enter Tryd.func8, Tryd.ntmps8
    go_wp2_with (first
      | (go_at_call 19; refine (valid_ok s HS.out _).mono ?_; rintro e w1 ⟨rfl, hb1⟩)
      | (go_at_call 20; refine (wn_any s HS.out _).mono ?_; rintro e w2 ⟨a, c, rfl, hR, hb2⟩))
    have HK := Lib.hid (And.intro hR (below_then (below_then (below_new w _) hb1) hb2))
    clear hR hb1 hb2
    have hmade : (w2.alloc (.cells #[.string ⟨(word s.k).toArray⟩] 9)).ownsRow w2.heap.size 9 1 (.slice (some ⟨w2.heap.size, 0, none⟩) 1 1) 1 (spl.strs ((fb s).take 1)) :=
      ⟨by rw [fb_take_one]; rfl, .inr ⟨w2.heap.size, 1, #[.string ⟨(word s.k).toArray⟩], rfl, Nat.le_refl _, heap_alloc_new _ _, Nat.le_refl _, by decide, by simp, by rw [fb_take_one]; rfl⟩⟩
    go_loopw [7, 26] (fun vf i wr => ∃ k : Nat, k ≤ (nums s).length ∧ i = .int .i64 k ∧ wr.ownsRow w2.heap.size 9 1 vf (k + 1) (spl.strs ((fb s).take (k + 1))) ∧ Below w2.heap.size w2 wr) (fun _ i _ => (nums s).length - (intOf i).toNat)
    case atStart => exact ⟨0, Nat.zero_le _, rfl, hmade, below_new w2 _⟩
    case round =>
      obtain ⟨k, hk, rfl, hown, hbel⟩ := hrel
      obtain ⟨a4, cap4, rfl⟩ := own_form hown
      have hN4 := HN.out.2
      have hb2 := hbel.size
      by_cases hlt : k < (nums s).length
      · have hkI : (k : Int) < (nums s).length := by omega
        obtain ⟨g, off, x, rfl, hg, hx, hcell⟩ := HK.out.1.2 k hlt
        have hcell2 := hbel.cell (p := ⟨g, off + k, none⟩) hg
        rw [hcell] at hcell2
        have HX := Lib.hid (And.intro (fb_next s hx) (HN.out.1 x (List.mem_of_getElem? hx)))
        have HTr := Lib.hid (HT.out.on (below_then HK.out.2 hbel)).here
        clear hx hcell
        go_wp2_with (first
          | (go_at_call 21; refine (impl_small HX.out.2 _ HTr.out).mono ?_; rintro e w3 ⟨rfl, hb3⟩)
          | (at_builtin; refine wpList_append_own _ rfl _ _ 52 rfl w2.heap.size 9 i0 (.string ByteArray.empty) 1 16 Tryd.underlying52 hi hz0 hz1 hz2 rfl (by decide) _ _ _ rfl ((hown.kept (grown_below hb3 none) (by cases a4 <;> simp [Value.ownBlock])).alloc _) ⟨w3.heap.size, 0, none⟩ 1 1 [.string ⟨(Lib.itoa x).toArray⟩] rfl rfl (World.news_of_block (cs := #[.string ⟨(Lib.itoa x).toArray⟩]) (t := 9) (fr := (0, 0)) (heap_alloc_new w3 _)) (by simp [Value.oneCell']) (by unfold maxLen; omega) (by omega) (by simp; have := hb3.size; omega) ?_; intro v4 w4 hown4 hgrow4 _; refine Hid.out ?_))
        have hb4 : Below w2.heap.size w2 w4 := ((below_then hbel hb3).alloc (Nat.le_trans hb2 hb3.size) _).grown hgrow4 (by have := hb3.size; simp; omega) (fun j hj => (hown.lt j hj).1)
        have HO := Lib.hid (show w4.ownsRow w2.heap.size 9 1 v4 (k + 1 + 1) (spl.strs ((fb s).take (k + 2))) by rw [HX.out.1, strs_snoc]; exact hown4)
        clear hown hown4 hgrow4 hb3
        refine Lib.hid ?_
        go_wp2
        go_roundw
        case rel => exact ⟨k + 1, by omega, by go_num, HO.out, hb4⟩
        case measure => simp [intOf]; omega
      · obtain rfl : k = (nums s).length := by omega
        have hkI : ¬ ((nums s).length : Int) < (nums s).length := by omega
        rw [fb_all] at hown
        have HB := Lib.hid (below_then HK.out.2 hbel)
        go_wp2_with (go_at_call 22; refine (join_own (fb s) w2.heap.size _ _ _ hown HL.out (by omega)).mono ?_; rintro e w5 ⟨rfl, hb5⟩)
        go_ret
        exact ⟨by rw [HR.out]; rfl, below_then HB.out hb5⟩
end Go.Proofs.YtjamfnckilfeoaaDoor.tex
