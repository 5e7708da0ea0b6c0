/- Several texts in one: SplI. -/
import Derived.Test.YtpipnhceajdfkaaDoorGEptx36
import Derived.Laws.Pointers

/- The walk of the program's own splitter. -/
namespace Go.Proofs.YtpipnhceajdfkaaDoor.spl
open Go.ChangeShapes Go.WideShapes Go.ChangeAt Go.RowKit Go.Proofs.YtpipnhceajdfkaaDoor.byt

set_option maxHeartbeats 2000000 in
set_option maxRecDepth 100000 in
theorem impl_spl (s : ByteArray) (hs : (s.size : Int) ≤ 600) (w : World) :
    Calls Tryd.prog 28 #[.string s] w (SplOut s.data.toList w) := by
  obtain ⟨i0, hi, hz0, hz1, hz2⟩ := info_parts infoStr
  obtain ⟨j0, hj, jz0, jz1, jz2⟩ := info_parts infoByte
  have hsl : s.data.toList.length = s.size := Array.length_toList
  have HSL := Lib.hid hsl
  clear hsl
  have HM : Hid (((w.alloc (.cells #[] 9)).alloc (.cells #[] 5)).ownsRow w.heap.size 5 1 (.slice (some ⟨w.heap.size + 1, 0, none⟩) 0 0) 0 []) := by
    have h := World.ownsRow_made (base := w.heap.size) (e := 5) (size := 1) (w.alloc (.cells #[] 9)) #[] 0 (by simp) (by decide) rfl
    rw [World.size_alloc] at h
    exact h
  go_enter Tryd.func28, Tryd.ntmps28
  go_wp2
  go_step3
  go_wp2
  go_step3
  go_wp2
  go_loopw [4, 5, 6, 16] (fun v4 v5 vd i wr => ∃ (k : Nat) (F : List (List UInt8)) (cur : List UInt8), k ≤ s.size ∧ i = .int .i64 k ∧ vd = .bool true ∧ Hid (Part s.data.toList k F cur) ∧ wr.ownsRow w.heap.size 9 1 v4 F.length (strCells F) ∧ wr.ownsRow w.heap.size 5 1 v5 cur.length (Lib.byteCells cur) ∧ Below w.heap.size w wr) (fun _ _ _ i _ => s.size - (intOf i).toNat)
  case atStart => exact ⟨0, [], [], Nat.zero_le _, rfl, rfl, part_start _, (World.ownsRow_made w #[] 0 (Nat.le_refl _) (by decide) rfl).alloc _, HM.out, ((Below.refl _ _).alloc (Nat.le_refl _) _).alloc (by simp) _⟩
  case round =>
    obtain ⟨k, F, cur, hk, rfl, rfl, hP, hown4, hown5, hbel⟩ := hrel
    have hb2 := hbel.size
    have hF := part_len hP.out
    have hF2 : (F.length : Int) + cur.length ≤ 600 := by have := HSL.out; omega
    clear hF
    obtain ⟨a4, cap4, rfl⟩ := own_form hown4
    by_cases hlt : k < s.size
    · have hmem := Lib.hid (mem_of s k hlt)
      have hkl : k < s.data.toList.length := by rw [HSL.out]; exact hlt
      have hkI : (k : Int) < s.size := by omega
      have hc1 : (s[k].toNat : Int) < 256 := by have := s[k].toNat_lt; omega
      rcases (show ((s[k].toNat : Int) < 32 ∨ (32 ≤ (s[k].toNat : Int) ∧ 126 < (s[k].toNat : Int))) ∨ ((33 ≤ (s[k].toNat : Int) ∧ (s[k].toNat : Int) ≤ 126) ∨ (32 ≤ (s[k].toNat : Int) ∧ (s[k].toNat : Int) ≤ 32)) by omega) with h | ⟨h, h'⟩ | ⟨h, h'⟩
      · have HB := Lib.hid (bad_byte hmem.out (by omega))
        by_cases hcur : cur = []
        · subst hcur
          obtain ⟨a5, cap5, rfl⟩ := own_form hown5
          clear hown4 hown5
          rcases h with h | ⟨h, h'⟩
          all_goals
            go_wp2
            try rw [Exit.noGoto_ret]
            go_ret2
            exact out_bad HB.out hbel (World.ownsRow_nil _ _ _ _)
        · have hpos : 0 < cur.length := by rcases cur with _ | _ <;> simp at hcur ⊢
          have hposI : (0 : Int) < cur.length := by omega
          obtain ⟨g, cap5, rfl, hg1, hg2⟩ := hown5.form hpos
          have hcv := conv_own hown5
          clear hcur hown5
          rcases h with h | ⟨h, h'⟩
          all_goals
            go_wp2_with (at_builtin; refine wpList_append_own _ rfl _ _ 64 rfl w.heap.size 9 i0 (.string ByteArray.empty) 1 16 Tryd.underlying64 hi hz0 hz1 hz2 rfl (by decide) _ _ _ rfl (hown4.alloc _) ⟨wr.heap.size, 0, none⟩ 1 1 [.string ⟨cur.toArray⟩] rfl rfl (World.news_of_block (cs := #[.string ⟨cur.toArray⟩]) (t := 9) (fr := (0, 0)) (heap_alloc_new wr _)) (by simp [Value.oneCell']) (by unfold maxLen; omega) (by omega) (by simp; omega) ?_; intro v2 w2 hown2 hgrow2 _; refine Hid.out ?_)
            have hbel2 : Below w.heap.size w w2 := (hbel.alloc hb2 _).grown hgrow2 (by simp; omega) (fun j hj => (hown4.lt j hj).1)
            clear hown2 hgrow2
            refine Lib.hid ?_
            go_wp2
            try rw [Exit.noGoto_ret]
            go_ret2
            exact out_bad HB.out hbel2 (World.ownsRow_nil _ _ _ _)
      · have HSC := Lib.hid (part_on hP.out hkl (by have : s.data.toList[k] = s[k] := rfl; rw [this]; omega) (by have : s.data.toList[k] = s[k] := rfl; rw [this]; intro e; rw [e] at h; simp at h))
        obtain ⟨a5, cap5, rfl⟩ := own_form hown5
        have HNE := Lib.hid (own_ne (hown4.alloc (.cells #[.int .u8 (s[k].toNat : Int)] 5)) (hown5.alloc (.cells #[.int .u8 (s[k].toNat : Int)] 5)) (by decide))
        go_wp2_with (at_builtin; refine wpList_append_own _ rfl _ _ 22 rfl w.heap.size 5 j0 (.int .u8 0) 1 1 Tryd.underlying22 hj jz0 jz1 jz2 rfl (by decide) _ _ _ rfl (hown5.alloc _) ⟨wr.heap.size, 0, none⟩ 1 1 [.int .u8 (s[k].toNat : Int)] rfl rfl (World.news_of_block (cs := #[.int .u8 (s[k].toNat : Int)]) (t := 5) (fr := (0, 0)) (heap_alloc_new wr _)) (by simp [Value.oneCell']) (by unfold maxLen; omega) (by omega) (by simp; omega) ?_; intro v2 w2 hown2 hgrow2 _; refine Hid.out ?_)
        have hbel2 : Below w.heap.size w w2 := (hbel.alloc hb2 _).grown hgrow2 (by simp; omega) (fun j hj => (hown5.lt j hj).1)
        have HO4 := Lib.hid ((hown4.alloc _).kept hgrow2 HNE.out)
        rw [byte_push] at hown2
        have HO5 := Lib.hid hown2
        clear hown2 hgrow2 hown4 hown5
        refine Lib.hid ?_
        go_wp2
        go_roundw
        case rel => exact ⟨k + 1, F, _, by omega, by go_num, rfl, HSC, HO4.out, by rw [List.length_append, List.length_singleton]; exact HO5.out, hbel2⟩
        case measure => simp [intOf]; omega
      · have hc32 : s.data.toList[k] = 32 := by
          have e : s.data.toList[k] = s[k] := rfl
          rw [e]; apply UInt8.toNat.inj; show s[k].toNat = 32; omega
        by_cases hcur : cur = []
        · subst hcur
          have HSC := Lib.hid (part_space hP.out hkl hc32)
          obtain ⟨a5, cap5, rfl⟩ := own_form hown5
          have HO4 := Lib.hid hown4
          have HO5 := Lib.hid hown5
          clear hown4 hown5 hc32
          go_wp2
          go_roundw
          case rel => exact ⟨k + 1, F, [], by omega, by go_num, rfl, HSC, HO4.out, HO5.out, hbel⟩
          case measure => simp [intOf]; omega
        · have HSC := Lib.hid (part_cut hP.out hkl hc32 hcur)
          have hpos : 0 < cur.length := by rcases cur with _ | _ <;> simp at hcur ⊢
          have hposI : (0 : Int) < cur.length := by omega
          have HNE := Lib.hid (own_ne (hown5.alloc (.cells #[.string ⟨cur.toArray⟩] 9)) (hown4.alloc (.cells #[.string ⟨cur.toArray⟩] 9)) (by decide))
          obtain ⟨g, cap5, rfl, hg1, hg2⟩ := hown5.form hpos
          have hcv := conv_own hown5
          have HC5 := Lib.hid (own_cut hown5)
          clear hcur hc32
          go_wp2_with (at_builtin; refine wpList_append_own _ rfl _ _ 64 rfl w.heap.size 9 i0 (.string ByteArray.empty) 1 16 Tryd.underlying64 hi hz0 hz1 hz2 rfl (by decide) _ _ _ rfl (hown4.alloc _) ⟨wr.heap.size, 0, none⟩ 1 1 [.string ⟨cur.toArray⟩] rfl rfl (World.news_of_block (cs := #[.string ⟨cur.toArray⟩]) (t := 9) (fr := (0, 0)) (heap_alloc_new wr _)) (by simp [Value.oneCell']) (by unfold maxLen; omega) (by omega) (by simp; omega) ?_; intro v2 w2 hown2 hgrow2 _; refine Hid.out ?_)
          have hbel2 : Below w.heap.size w w2 := (hbel.alloc hb2 _).grown hgrow2 (by simp; omega) (fun j hj => (hown4.lt j hj).1)
          have HO5 := Lib.hid (own_cut ((hown5.alloc _).kept hgrow2 HNE.out))
          rw [cells_push] at hown2
          have HO4 := Lib.hid hown2
          clear hown2 hgrow2 hown4 hown5 hcv
          refine Lib.hid ?_
          go_wp2
          go_roundw
          case rel => exact ⟨k + 1, _, [], by omega, by go_num, rfl, HSC, by have := HO4.out; simpa using this, HO5.out, hbel2⟩
          case measure => simp [intOf]; omega
    · have hkl : s.data.toList.length ≤ k := by rw [HSL.out]; omega
      have HE := Lib.hid (part_end hP.out hkl)
      have HA := Lib.hid (part_all hP.out hkl)
      have hkJ : (s.size : Int) ≤ k := by omega
      by_cases hcur : cur = []
      · subst hcur
        have HE1 := Lib.hid (show fieldsOf s.data.toList = F by rw [HE.out, if_pos rfl])
        obtain ⟨a5, cap5, rfl⟩ := own_form hown5
        have HO4 := Lib.hid hown4
        clear hown4 hown5 hkl
        by_cases h24 : (24 : Int) < F.length
        · have HB := Lib.hid (bad_many (l := s.data.toList) (by rw [HE1.out]; omega))
          go_wp2
          try rw [Exit.noGoto_ret]
          go_ret2
          exact out_bad HB.out hbel (World.ownsRow_nil _ _ _ _)
        · have HG := Lib.hid (good (l := s.data.toList) (by rw [HSL.out]; omega) HA.out (by rw [HE1.out]; omega))
          go_wp2
          try rw [Exit.noGoto_ret]
          go_ret2
          exact out_good HG.out hbel (by rw [HE1.out]; exact HO4.out)
      · have HE1 := Lib.hid (show fieldsOf s.data.toList = F ++ [cur] by rw [HE.out, if_neg hcur])
        have hpos : 0 < cur.length := by rcases cur with _ | _ <;> simp at hcur ⊢
        have hposI : (0 : Int) < cur.length := by omega
        obtain ⟨g, cap5, rfl, hg1, hg2⟩ := hown5.form hpos
        have hcv := conv_own hown5
        clear hcur hkl hown5
        go_wp2_with (at_builtin; refine wpList_append_own _ rfl _ _ 64 rfl w.heap.size 9 i0 (.string ByteArray.empty) 1 16 Tryd.underlying64 hi hz0 hz1 hz2 rfl (by decide) _ _ _ rfl (hown4.alloc _) ⟨wr.heap.size, 0, none⟩ 1 1 [.string ⟨cur.toArray⟩] rfl rfl (World.news_of_block (cs := #[.string ⟨cur.toArray⟩]) (t := 9) (fr := (0, 0)) (heap_alloc_new wr _)) (by simp [Value.oneCell']) (by unfold maxLen; omega) (by omega) (by simp; omega) ?_; intro v2 w2 hown2 hgrow2 _; refine Hid.out ?_)
        have hbel2 : Below w.heap.size w w2 := (hbel.alloc hb2 _).grown hgrow2 (by simp; omega) (fun j hj => (hown4.lt j hj).1)
        rw [cells_push] at hown2
        obtain ⟨a2, cap2, rfl⟩ := own_form hown2
        have HO4 := Lib.hid hown2
        clear hown2 hgrow2 hown4 hcv
        by_cases h24 : (24 : Int) < (F.length : Int) + 1
        · have HB := Lib.hid (bad_many (l := s.data.toList) (by rw [HE1.out]; simp; omega))
          refine Lib.hid ?_
          go_wp2
          try rw [Exit.noGoto_ret]
          go_ret2
          exact out_bad HB.out hbel2 (World.ownsRow_nil _ _ _ _)
        · have HG := Lib.hid (good (l := s.data.toList) (by rw [HSL.out]; omega) HA.out (by rw [HE1.out]; simp; omega))
          refine Lib.hid ?_
          go_wp2
          try rw [Exit.noGoto_ret]
          go_ret2
          exact out_good HG.out hbel2 (by rw [HE1.out]; have := HO4.out; simpa using this)
end Go.Proofs.YtpipnhceajdfkaaDoor.spl
