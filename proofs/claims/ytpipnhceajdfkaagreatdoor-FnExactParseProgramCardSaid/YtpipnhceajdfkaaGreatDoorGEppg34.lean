/- Several texts in one: TexS. -/
import Derived.Test.YtpipnhceajdfkaaGreatDoorGEppg32

/- Chapter 4's ParseStmt of the program: it gives the valid statement whose text the fields are, if there is one. -/
namespace Go.Proofs.YtpipnhceajdfkaaGreatDoor.tex
open Go Go.ChangeShapes Go.WideShapes Go.ChangeAt Go.RowKit Go.Proofs.YtpipnhceajdfkaaGreatDoor.row Go.Proofs.YtpipnhceajdfkaaGreatDoor.val Go.Proofs.YtpipnhceajdfkaaGreatDoor.stm Go.Proofs.YtpipnhceajdfkaaGreatDoor.expr Go.Proofs.YtpipnhceajdfkaaGreatDoor.spl Go.Proofs.YtpipnhceajdfkaaGreatDoor.lay Go.Proofs.YtpipnhceajdfkaaGreatDoor.pu

set_option maxHeartbeats 8000000 in
set_option maxRecDepth 100000 in
theorem impl_parse (s : ByteArray) (w : World) (hT : Lib.TabBelow Tryz.prog w.heap.size w "internal/strconv.uint64pow10" .u64 Lib.pow10Tab) (hE : ErrsOk w.heap.size w) :
    Calls Tryz.prog 65 #[.string s] w (ParseOut s.data.toList w) := by
  have HT := Lib.hid hT
  have HE := Lib.hid hE
  clear hT hE
  go_enter Tryz.func65, Tryz.ntmps65
  go_wp2_with (go_at_call 87; refine (impl_all s _).mono ?_; rintro e w1 ⟨a, n, cap, P, rfl, ho, hP, hn, hb1⟩; refine Hid.out ?_)
  have H1 := Lib.hid (And.intro ((Box.new w zeroC 45).below hb1) (below_then (below_new w _) hb1))
  have HO := Lib.hid ho
  clear ho hb1
  cases hok : okB s.data.toList
  · have HF := Lib.hid (show IsParse (fieldsR s.data.toList) ⟨0, 0, 0, 0, 0, 0⟩ false by rw [fieldsR_bad hok]; exact parse_empty)
    clear hok
    refine Lib.hid ?_
    go_wp2_with ((refine wpList_store_box rfl 45 _ _ rfl w.heap.size _ _ H1.out.1 zeroC rfl rfl rfl (by kernel_rfl) (by simp [Value.oneCell']) ?_); intro w2 hxz hgz; refine Hid.out ?_)
    have HZ := Lib.hid (And.intro hxz (H1.out.2.grown hgz H1.out.2.size (fun j hj => by cases hj; exact Nat.le_refl _)))
    clear hxz hgz
    refine Lib.hid ?_
    go_wp2
    exact bodyPost_ret (v := .tuple #[stV ⟨0, 0, 0, 0, 0, 0⟩, .bool false]) (results_box2 rfl _ _ w.heap.size _ _ _ _ rfl rfl HZ.out.1 Tryz.underlying45 rfl (by kernel_rfl)) rfl ⟨_, _, rfl, HF, HZ.out.2⟩
  · rcases hFe : fieldsR s.data.toList with _ | ⟨f0, fs⟩
    · have HF := Lib.hid (show IsParse (fieldsR s.data.toList) ⟨0, 0, 0, 0, 0, 0⟩ false by rw [hFe]; exact parse_empty)
      obtain rfl : n = 0 := by rw [hn.out, hFe]; rfl
      refine Lib.hid ?_
      go_wp2_with ((refine wpList_store_box rfl 45 _ _ rfl w.heap.size _ _ H1.out.1 zeroC rfl rfl rfl (by kernel_rfl) (by simp [Value.oneCell']) ?_); intro w2 hxz hgz; refine Hid.out ?_)
      have HZ := Lib.hid (And.intro hxz (H1.out.2.grown hgz H1.out.2.size (fun j hj => by cases hj; exact Nat.le_refl _)))
      clear hxz hgz
      refine Lib.hid ?_
      go_wp2
      exact bodyPost_ret (v := .tuple #[stV ⟨0, 0, 0, 0, 0, 0⟩, .bool false]) (results_box2 rfl _ _ w.heap.size _ _ _ _ rfl rfl HZ.out.1 Tryz.underlying45 rfl (by kernel_rfl)) rfl ⟨_, _, rfl, HF, HZ.out.2⟩
    · have hnl : n = fs.length + 1 := by rw [hn.out, hFe]; rfl
      have hPl : P = (f0 :: fs).map (fun f => ⟨f.toArray⟩) := by rw [hP.out, hFe]
      have HG := Lib.hid (show ∀ f ∈ f0 :: fs, f ≠ [] ∧ ∀ c ∈ f, goodC c by rw [← hFe]; exact fields_good)
      have HFE := Lib.hid hFe
      have hfl := fields_len s.data.toList
      rw [hFe] at hfl
      have hfn : (f0 :: fs).length ≤ 24 := by rw [← hFe]; exact fields_bd _
      obtain ⟨J, hJ⟩ : ∃ J, Lib.join (f0 :: fs) [32] = J := ⟨_, rfl⟩
      have hJl : J.length ≤ 1300 := by rw [← hJ]; exact Nat.le_trans (join_le _) hfl
      have HJ := Lib.hid (And.intro hJ hJl)
      have HNN := Lib.hid (show fs.length + 1 ≤ 1000 by simp at hfn; omega)
      have hss : ∀ x ∈ fs.map (fun f => (⟨f.toArray⟩ : ByteArray)), x.size ≤ 1048576 := fun x hx => by
        obtain ⟨f, hf, rfl⟩ := List.mem_map.1 hx
        have := mem_joinF (F := f0 :: fs) (f := f) (by simp [hf])
        show f.length ≤ _
        omega
      have HSS := Lib.hid (And.intro hss (show fs.length ≤ 1000 by simp at hfn; omega))
      obtain ⟨g, rfl, hg0, hg1, hc0, _⟩ := own_at HO.out (k := 0) (by omega)
      rw [hPl] at hc0
      simp only [List.map_cons, List.getElem?_cons_zero, Option.map_some] at hc0
      have hnc : n ≤ cap := by
        rcases HO.out.2 with ⟨h, _⟩ | ⟨g2, cap2, cur, h, _, _, h2, _⟩
        · cases h
        · cases h; exact h2
      have hS := SRow.of_own HO.out
      subst hnl
      subst hPl
      have hne : ((fs.length : Int) + 1 == 0) = false := by rw [beq_eq_false_iff_ne]; omega
      have hnI : (1 : Int) ≤ (fs.length : Int) + 1 := by omega
      have hnI0 : (0 : Int) < (fs.length : Int) + 1 := by omega
      have hnc2 : (fs.length : Int) + 1 ≤ cap := by omega
      obtain ⟨A, hA⟩ : ∃ A, (if cap = 1 then some (⟨g, 0, none⟩ : Addr) else some ⟨g, 1, none⟩) = A := ⟨_, rfl⟩
      have HS := Lib.hid (show SRow w1 A fs.length (fs.map fun f => ⟨f.toArray⟩) by
        rw [← hA]
        by_cases hc : cap = 1
        · rw [if_pos hc]
          have h0 : fs.length = 0 := by omega
          exact ⟨by simp, fun k hk => by omega⟩
        · rw [if_neg hc]; exact hS.tail)
      have HEE := Lib.hid (show ErrsOk w1.heap.size w1 from fun w' hw' => (HE.out.on H1.out.2) w' (hw'.mono H1.out.2.size))
      have HC := Lib.hid (And.intro hg1 hc0)
      clear hFe hok hS hfl hfn hJ hJl hss hc0 hnc
      refine Lib.hid ?_
      go_wp2_with (go_at_call 64; (with_reducible refine (read_nums _ fs.length (cap - 1) _ HSS.out.1 (Nat.le_trans HSS.out.2 (by decide)) _ HS.out HEE.out).mono ?_); rintro e w2 (⟨a2, c2, L, rfl, hR2, hH2, hb2⟩ | ⟨rfl, hB2, hb2⟩) <;> refine Hid.out ?_)
      · have H2 := Lib.hid (And.intro (H1.out.1.below hb2) (below_then H1.out.2 hb2))
        have HO2 := Lib.hid (And.intro (HO.out.kept (grown_below hb2 none) (by simp [Value.ownBlock])) (Nat.lt_of_lt_of_le HC.out.1 hb2.size))
        have HR2 := Lib.hid hR2
        have HL2 := Lib.hid (show fs.map Lib.atoiAll = L.map .ok by have := hH2.out; rw [List.map_map] at this; exact this)
        have hc2' := (hb2.cell (p := ⟨g, 0, none⟩) HC.out.1).trans HC.out.2
        clear hR2 hb2 HS HSS HO H1 HC
        refine Lib.hid ?_
        go_wp2_with (go_at_call 88; refine (rs_six f0 L _ _ _ HR2.out).mono ?_; rintro e w3 (⟨v, o, a, b, rfl, hS3, hb3⟩ | ⟨v, n, rfl, hS3, hb3⟩ | ⟨o, a, b, rfl, hS3, hb3⟩ | ⟨o, a, b, rfl, hS3, hb3⟩ | ⟨n, rfl, hS3, hb3⟩ | ⟨rfl, hS3, hb3⟩ | ⟨rfl, hS3, hb3⟩) <;> refine Hid.out ?_)
        · have H3 := Lib.hid (And.intro (H2.out.1.below hb3) (below_then H2.out.2 hb3))
          have HO3 := Lib.hid (And.intro (HO2.out.1.kept (grown_below hb3 none) (by simp [Value.ownBlock])) (Nat.lt_of_lt_of_le HO2.out.2 hb3.size))
          clear hb3 H2 HO2 HR2 hc2'
          have hm := meth1 v o a b
          refine Lib.hid ?_
          go_wp2_with (go_at_call 146; refine (stmt_m1 v o a b _).mono ?_; rintro e w4 ⟨rfl, hb4⟩; refine Hid.out ?_)
          have hx4 := Box.new w4 #[.int .i64 1, .int .i64 v, .int .i64 0, .int .i64 o, .int .i64 a, .int .i64 b] 45
          have H4 := Lib.hid (And.intro ((H3.out.1.below hb4).alloc (.cells #[.int .i64 1, .int .i64 v, .int .i64 0, .int .i64 o, .int .i64 a, .int .i64 b] 45)) (And.intro (below_then H3.out.2 (hb4.trans ((below_new w4 (.cells #[.int .i64 1, .int .i64 v, .int .i64 0, .int .i64 o, .int .i64 a, .int .i64 b] 45)).mono hb4.size))) (And.intro hx4 ((HO3.out.1.kept (grown_below hb4 none) (by simp [Value.ownBlock])).alloc (.cells #[.int .i64 1, .int .i64 v, .int .i64 0, .int .i64 o, .int .i64 a, .int .i64 b] 45)))))
          clear hb4 H3 HO3 hx4
          refine Lib.hid ?_
          go_wp2_with (go_at_call 17; refine (impl_fmtstmt ⟨1, v, 0, o, a, b⟩ _ (fun w' hw' => (HT.out.on H4.out.2.1) w' (hw'.mono H4.out.2.1.size))).mono ?_; rintro e w5 ⟨rfl, hb5⟩; refine Hid.out ?_)
          have H5 := Lib.hid (And.intro (H4.out.1.below hb5) (And.intro (below_then H4.out.2.1 hb5) (And.intro (H4.out.2.2.1.below hb5) (H4.out.2.2.2.kept (grown_below hb5 none) (by simp [Value.ownBlock])))))
          clear hb5 H4
          obtain ⟨X, hX⟩ : ∃ X, textR ⟨1, v, 0, o, a, b⟩ = X := ⟨_, rfl⟩
          have HX := Lib.hid hX
          rw [hX]
          clear hX
          refine Lib.hid ?_
          go_wp2_with (go_at_call 59; refine (join_flds (f0 :: fs) J HJ.out.1 HJ.out.2 _ _ _ HNN.out _ H5.out.2.2.2).mono ?_; rintro e w6 ⟨rfl, hb6⟩; refine Hid.out ?_)
          have H6 := Lib.hid (And.intro (H5.out.1.below hb6) (And.intro (below_then H5.out.2.1 hb6) (H5.out.2.2.1.below hb6)))
          clear hb6 H5
          cases hq : (X == J)
          · have HF := Lib.hid (show IsParse (fieldsR s.data.toList) ⟨0, 0, 0, 0, 0, 0⟩ false by
              rw [HFE.out]; refine parse_none (none_text HL2.out hS3.out.1 hS3.out.2.1 hS3.out.2.2.2.1 hS3.out.2.2.2.2 ?_)
              rw [HX.out, HJ.out.1]; simpa using hq)
            have H7 := Lib.hid (And.intro H6.out.1 H6.out.2.1)
            refine Lib.hid ?_
            go_wp2_with ((refine wpList_store_box rfl 45 _ _ rfl w.heap.size _ _ H7.out.1 zeroC rfl rfl rfl (by kernel_rfl) (by simp [Value.oneCell']) ?_); intro w7 hxz hgz; refine Hid.out ?_)
            have HZ := Lib.hid (And.intro hxz (H7.out.2.grown hgz H7.out.2.size (fun j hj => by cases hj; exact Nat.le_refl _)))
            clear hxz hgz
            refine Lib.hid ?_
            go_wp2
            exact bodyPost_ret (v := .tuple #[stV ⟨0, 0, 0, 0, 0, 0⟩, .bool false]) (results_box2 rfl _ _ w.heap.size _ _ _ _ rfl rfl HZ.out.1 Tryz.underlying45 rfl (by kernel_rfl)) rfl ⟨_, _, rfl, HF, HZ.out.2⟩
          · have HF := Lib.hid (show IsParse (fieldsR s.data.toList) ⟨1, v, 0, o, a, b⟩ true by
              rw [HFE.out]; refine some_text (by simp) HG.out ?_
              rw [HX.out, HJ.out.1]; simpa using hq)
            refine Lib.hid ?_
            go_wp2_with (first
              | (refine wpList_load_row rfl 45 _ rfl w4.heap.size rfl _ _ _ _ H6.out.2.2 Tryz.underlying45 rfl (by kernel_rfl) ?_)
              | ((refine wpList_store_box rfl 45 _ _ rfl w.heap.size _ _ H6.out.1 #[.int .i64 1, .int .i64 v, .int .i64 0, .int .i64 o, .int .i64 a, .int .i64 b] rfl rfl rfl (by kernel_rfl) (by simp [Value.oneCell']) ?_); intro w7 hx7 hg7; refine Hid.out ?_))
            have H7 := Lib.hid (And.intro hx7 (H6.out.2.1.grown hg7 H6.out.2.1.size (fun j hj => by cases hj; exact Nat.le_refl _)))
            clear hx7 hg7
            refine Lib.hid ?_
            go_wp2
            exact bodyPost_ret (v := .tuple #[stV ⟨1, v, 0, o, a, b⟩, .bool true]) (results_box2 rfl _ _ w.heap.size _ _ _ _ rfl rfl H7.out.1 Tryz.underlying45 rfl (by kernel_rfl)) rfl ⟨_, _, rfl, HF, H7.out.2⟩
        · have H3 := Lib.hid (And.intro (H2.out.1.below hb3) (below_then H2.out.2 hb3))
          have HO3 := Lib.hid (And.intro (HO2.out.1.kept (grown_below hb3 none) (by simp [Value.ownBlock])) (Nat.lt_of_lt_of_le HO2.out.2 hb3.size))
          clear hb3 H2 HO2 HR2 hc2'
          have hm := meth2 v n
          refine Lib.hid ?_
          go_wp2_with (go_at_call 147; refine (stmt_m2 v n _).mono ?_; rintro e w4 ⟨rfl, hb4⟩; refine Hid.out ?_)
          have hx4 := Box.new w4 #[.int .i64 2, .int .i64 v, .int .i64 n, .int .i64 0, .int .i64 0, .int .i64 0] 45
          have H4 := Lib.hid (And.intro ((H3.out.1.below hb4).alloc (.cells #[.int .i64 2, .int .i64 v, .int .i64 n, .int .i64 0, .int .i64 0, .int .i64 0] 45)) (And.intro (below_then H3.out.2 (hb4.trans ((below_new w4 (.cells #[.int .i64 2, .int .i64 v, .int .i64 n, .int .i64 0, .int .i64 0, .int .i64 0] 45)).mono hb4.size))) (And.intro hx4 ((HO3.out.1.kept (grown_below hb4 none) (by simp [Value.ownBlock])).alloc (.cells #[.int .i64 2, .int .i64 v, .int .i64 n, .int .i64 0, .int .i64 0, .int .i64 0] 45)))))
          clear hb4 H3 HO3 hx4
          refine Lib.hid ?_
          go_wp2_with (go_at_call 17; refine (impl_fmtstmt ⟨2, v, n, 0, 0, 0⟩ _ (fun w' hw' => (HT.out.on H4.out.2.1) w' (hw'.mono H4.out.2.1.size))).mono ?_; rintro e w5 ⟨rfl, hb5⟩; refine Hid.out ?_)
          have H5 := Lib.hid (And.intro (H4.out.1.below hb5) (And.intro (below_then H4.out.2.1 hb5) (And.intro (H4.out.2.2.1.below hb5) (H4.out.2.2.2.kept (grown_below hb5 none) (by simp [Value.ownBlock])))))
          clear hb5 H4
          obtain ⟨X, hX⟩ : ∃ X, textR ⟨2, v, n, 0, 0, 0⟩ = X := ⟨_, rfl⟩
          have HX := Lib.hid hX
          rw [hX]
          clear hX
          refine Lib.hid ?_
          go_wp2_with (go_at_call 59; refine (join_flds (f0 :: fs) J HJ.out.1 HJ.out.2 _ _ _ HNN.out _ H5.out.2.2.2).mono ?_; rintro e w6 ⟨rfl, hb6⟩; refine Hid.out ?_)
          have H6 := Lib.hid (And.intro (H5.out.1.below hb6) (And.intro (below_then H5.out.2.1 hb6) (H5.out.2.2.1.below hb6)))
          clear hb6 H5
          cases hq : (X == J)
          · have HF := Lib.hid (show IsParse (fieldsR s.data.toList) ⟨0, 0, 0, 0, 0, 0⟩ false by
              rw [HFE.out]; refine parse_none (none_text HL2.out hS3.out.1 hS3.out.2.1 hS3.out.2.2.2.1 hS3.out.2.2.2.2 ?_)
              rw [HX.out, HJ.out.1]; simpa using hq)
            have H7 := Lib.hid (And.intro H6.out.1 H6.out.2.1)
            refine Lib.hid ?_
            go_wp2_with ((refine wpList_store_box rfl 45 _ _ rfl w.heap.size _ _ H7.out.1 zeroC rfl rfl rfl (by kernel_rfl) (by simp [Value.oneCell']) ?_); intro w7 hxz hgz; refine Hid.out ?_)
            have HZ := Lib.hid (And.intro hxz (H7.out.2.grown hgz H7.out.2.size (fun j hj => by cases hj; exact Nat.le_refl _)))
            clear hxz hgz
            refine Lib.hid ?_
            go_wp2
            exact bodyPost_ret (v := .tuple #[stV ⟨0, 0, 0, 0, 0, 0⟩, .bool false]) (results_box2 rfl _ _ w.heap.size _ _ _ _ rfl rfl HZ.out.1 Tryz.underlying45 rfl (by kernel_rfl)) rfl ⟨_, _, rfl, HF, HZ.out.2⟩
          · have HF := Lib.hid (show IsParse (fieldsR s.data.toList) ⟨2, v, n, 0, 0, 0⟩ true by
              rw [HFE.out]; refine some_text (by simp) HG.out ?_
              rw [HX.out, HJ.out.1]; simpa using hq)
            refine Lib.hid ?_
            go_wp2_with (first
              | (refine wpList_load_row rfl 45 _ rfl w4.heap.size rfl _ _ _ _ H6.out.2.2 Tryz.underlying45 rfl (by kernel_rfl) ?_)
              | ((refine wpList_store_box rfl 45 _ _ rfl w.heap.size _ _ H6.out.1 #[.int .i64 2, .int .i64 v, .int .i64 n, .int .i64 0, .int .i64 0, .int .i64 0] rfl rfl rfl (by kernel_rfl) (by simp [Value.oneCell']) ?_); intro w7 hx7 hg7; refine Hid.out ?_))
            have H7 := Lib.hid (And.intro hx7 (H6.out.2.1.grown hg7 H6.out.2.1.size (fun j hj => by cases hj; exact Nat.le_refl _)))
            clear hx7 hg7
            refine Lib.hid ?_
            go_wp2
            exact bodyPost_ret (v := .tuple #[stV ⟨2, v, n, 0, 0, 0⟩, .bool true]) (results_box2 rfl _ _ w.heap.size _ _ _ _ rfl rfl H7.out.1 Tryz.underlying45 rfl (by kernel_rfl)) rfl ⟨_, _, rfl, HF, H7.out.2⟩
        · have H3 := Lib.hid (And.intro (H2.out.1.below hb3) (below_then H2.out.2 hb3))
          have HO3 := Lib.hid (And.intro (HO2.out.1.kept (grown_below hb3 none) (by simp [Value.ownBlock])) (Nat.lt_of_lt_of_le HO2.out.2 hb3.size))
          clear hb3 H2 HO2 HR2 hc2'
          have hm := meth3 o a b
          refine Lib.hid ?_
          go_wp2_with (go_at_call 148; refine (stmt_m3 o a b _).mono ?_; rintro e w4 ⟨rfl, hb4⟩; refine Hid.out ?_)
          have hx4 := Box.new w4 #[.int .i64 3, .int .i64 0, .int .i64 0, .int .i64 o, .int .i64 a, .int .i64 b] 45
          have H4 := Lib.hid (And.intro ((H3.out.1.below hb4).alloc (.cells #[.int .i64 3, .int .i64 0, .int .i64 0, .int .i64 o, .int .i64 a, .int .i64 b] 45)) (And.intro (below_then H3.out.2 (hb4.trans ((below_new w4 (.cells #[.int .i64 3, .int .i64 0, .int .i64 0, .int .i64 o, .int .i64 a, .int .i64 b] 45)).mono hb4.size))) (And.intro hx4 ((HO3.out.1.kept (grown_below hb4 none) (by simp [Value.ownBlock])).alloc (.cells #[.int .i64 3, .int .i64 0, .int .i64 0, .int .i64 o, .int .i64 a, .int .i64 b] 45)))))
          clear hb4 H3 HO3 hx4
          refine Lib.hid ?_
          go_wp2_with (go_at_call 17; refine (impl_fmtstmt ⟨3, 0, 0, o, a, b⟩ _ (fun w' hw' => (HT.out.on H4.out.2.1) w' (hw'.mono H4.out.2.1.size))).mono ?_; rintro e w5 ⟨rfl, hb5⟩; refine Hid.out ?_)
          have H5 := Lib.hid (And.intro (H4.out.1.below hb5) (And.intro (below_then H4.out.2.1 hb5) (And.intro (H4.out.2.2.1.below hb5) (H4.out.2.2.2.kept (grown_below hb5 none) (by simp [Value.ownBlock])))))
          clear hb5 H4
          obtain ⟨X, hX⟩ : ∃ X, textR ⟨3, 0, 0, o, a, b⟩ = X := ⟨_, rfl⟩
          have HX := Lib.hid hX
          rw [hX]
          clear hX
          refine Lib.hid ?_
          go_wp2_with (go_at_call 59; refine (join_flds (f0 :: fs) J HJ.out.1 HJ.out.2 _ _ _ HNN.out _ H5.out.2.2.2).mono ?_; rintro e w6 ⟨rfl, hb6⟩; refine Hid.out ?_)
          have H6 := Lib.hid (And.intro (H5.out.1.below hb6) (And.intro (below_then H5.out.2.1 hb6) (H5.out.2.2.1.below hb6)))
          clear hb6 H5
          cases hq : (X == J)
          · have HF := Lib.hid (show IsParse (fieldsR s.data.toList) ⟨0, 0, 0, 0, 0, 0⟩ false by
              rw [HFE.out]; refine parse_none (none_text HL2.out hS3.out.1 hS3.out.2.1 hS3.out.2.2.2.1 hS3.out.2.2.2.2 ?_)
              rw [HX.out, HJ.out.1]; simpa using hq)
            have H7 := Lib.hid (And.intro H6.out.1 H6.out.2.1)
            refine Lib.hid ?_
            go_wp2_with ((refine wpList_store_box rfl 45 _ _ rfl w.heap.size _ _ H7.out.1 zeroC rfl rfl rfl (by kernel_rfl) (by simp [Value.oneCell']) ?_); intro w7 hxz hgz; refine Hid.out ?_)
            have HZ := Lib.hid (And.intro hxz (H7.out.2.grown hgz H7.out.2.size (fun j hj => by cases hj; exact Nat.le_refl _)))
            clear hxz hgz
            refine Lib.hid ?_
            go_wp2
            exact bodyPost_ret (v := .tuple #[stV ⟨0, 0, 0, 0, 0, 0⟩, .bool false]) (results_box2 rfl _ _ w.heap.size _ _ _ _ rfl rfl HZ.out.1 Tryz.underlying45 rfl (by kernel_rfl)) rfl ⟨_, _, rfl, HF, HZ.out.2⟩
          · have HF := Lib.hid (show IsParse (fieldsR s.data.toList) ⟨3, 0, 0, o, a, b⟩ true by
              rw [HFE.out]; refine some_text (by simp) HG.out ?_
              rw [HX.out, HJ.out.1]; simpa using hq)
            refine Lib.hid ?_
            go_wp2_with (first
              | (refine wpList_load_row rfl 45 _ rfl w4.heap.size rfl _ _ _ _ H6.out.2.2 Tryz.underlying45 rfl (by kernel_rfl) ?_)
              | ((refine wpList_store_box rfl 45 _ _ rfl w.heap.size _ _ H6.out.1 #[.int .i64 3, .int .i64 0, .int .i64 0, .int .i64 o, .int .i64 a, .int .i64 b] rfl rfl rfl (by kernel_rfl) (by simp [Value.oneCell']) ?_); intro w7 hx7 hg7; refine Hid.out ?_))
            have H7 := Lib.hid (And.intro hx7 (H6.out.2.1.grown hg7 H6.out.2.1.size (fun j hj => by cases hj; exact Nat.le_refl _)))
            clear hx7 hg7
            refine Lib.hid ?_
            go_wp2
            exact bodyPost_ret (v := .tuple #[stV ⟨3, 0, 0, o, a, b⟩, .bool true]) (results_box2 rfl _ _ w.heap.size _ _ _ _ rfl rfl H7.out.1 Tryz.underlying45 rfl (by kernel_rfl)) rfl ⟨_, _, rfl, HF, H7.out.2⟩
        · have H3 := Lib.hid (And.intro (H2.out.1.below hb3) (below_then H2.out.2 hb3))
          have HO3 := Lib.hid (And.intro (HO2.out.1.kept (grown_below hb3 none) (by simp [Value.ownBlock])) (Nat.lt_of_lt_of_le HO2.out.2 hb3.size))
          clear hb3 H2 HO2 HR2 hc2'
          have hm := meth4 o a b
          refine Lib.hid ?_
          go_wp2_with (go_at_call 149; refine (stmt_m4 o a b _).mono ?_; rintro e w4 ⟨rfl, hb4⟩; refine Hid.out ?_)
          have hx4 := Box.new w4 #[.int .i64 4, .int .i64 0, .int .i64 0, .int .i64 o, .int .i64 a, .int .i64 b] 45
          have H4 := Lib.hid (And.intro ((H3.out.1.below hb4).alloc (.cells #[.int .i64 4, .int .i64 0, .int .i64 0, .int .i64 o, .int .i64 a, .int .i64 b] 45)) (And.intro (below_then H3.out.2 (hb4.trans ((below_new w4 (.cells #[.int .i64 4, .int .i64 0, .int .i64 0, .int .i64 o, .int .i64 a, .int .i64 b] 45)).mono hb4.size))) (And.intro hx4 ((HO3.out.1.kept (grown_below hb4 none) (by simp [Value.ownBlock])).alloc (.cells #[.int .i64 4, .int .i64 0, .int .i64 0, .int .i64 o, .int .i64 a, .int .i64 b] 45)))))
          clear hb4 H3 HO3 hx4
          refine Lib.hid ?_
          go_wp2_with (go_at_call 17; refine (impl_fmtstmt ⟨4, 0, 0, o, a, b⟩ _ (fun w' hw' => (HT.out.on H4.out.2.1) w' (hw'.mono H4.out.2.1.size))).mono ?_; rintro e w5 ⟨rfl, hb5⟩; refine Hid.out ?_)
          have H5 := Lib.hid (And.intro (H4.out.1.below hb5) (And.intro (below_then H4.out.2.1 hb5) (And.intro (H4.out.2.2.1.below hb5) (H4.out.2.2.2.kept (grown_below hb5 none) (by simp [Value.ownBlock])))))
          clear hb5 H4
          obtain ⟨X, hX⟩ : ∃ X, textR ⟨4, 0, 0, o, a, b⟩ = X := ⟨_, rfl⟩
          have HX := Lib.hid hX
          rw [hX]
          clear hX
          refine Lib.hid ?_
          go_wp2_with (go_at_call 59; refine (join_flds (f0 :: fs) J HJ.out.1 HJ.out.2 _ _ _ HNN.out _ H5.out.2.2.2).mono ?_; rintro e w6 ⟨rfl, hb6⟩; refine Hid.out ?_)
          have H6 := Lib.hid (And.intro (H5.out.1.below hb6) (And.intro (below_then H5.out.2.1 hb6) (H5.out.2.2.1.below hb6)))
          clear hb6 H5
          cases hq : (X == J)
          · have HF := Lib.hid (show IsParse (fieldsR s.data.toList) ⟨0, 0, 0, 0, 0, 0⟩ false by
              rw [HFE.out]; refine parse_none (none_text HL2.out hS3.out.1 hS3.out.2.1 hS3.out.2.2.2.1 hS3.out.2.2.2.2 ?_)
              rw [HX.out, HJ.out.1]; simpa using hq)
            have H7 := Lib.hid (And.intro H6.out.1 H6.out.2.1)
            refine Lib.hid ?_
            go_wp2_with ((refine wpList_store_box rfl 45 _ _ rfl w.heap.size _ _ H7.out.1 zeroC rfl rfl rfl (by kernel_rfl) (by simp [Value.oneCell']) ?_); intro w7 hxz hgz; refine Hid.out ?_)
            have HZ := Lib.hid (And.intro hxz (H7.out.2.grown hgz H7.out.2.size (fun j hj => by cases hj; exact Nat.le_refl _)))
            clear hxz hgz
            refine Lib.hid ?_
            go_wp2
            exact bodyPost_ret (v := .tuple #[stV ⟨0, 0, 0, 0, 0, 0⟩, .bool false]) (results_box2 rfl _ _ w.heap.size _ _ _ _ rfl rfl HZ.out.1 Tryz.underlying45 rfl (by kernel_rfl)) rfl ⟨_, _, rfl, HF, HZ.out.2⟩
          · have HF := Lib.hid (show IsParse (fieldsR s.data.toList) ⟨4, 0, 0, o, a, b⟩ true by
              rw [HFE.out]; refine some_text (by simp) HG.out ?_
              rw [HX.out, HJ.out.1]; simpa using hq)
            refine Lib.hid ?_
            go_wp2_with (first
              | (refine wpList_load_row rfl 45 _ rfl w4.heap.size rfl _ _ _ _ H6.out.2.2 Tryz.underlying45 rfl (by kernel_rfl) ?_)
              | ((refine wpList_store_box rfl 45 _ _ rfl w.heap.size _ _ H6.out.1 #[.int .i64 4, .int .i64 0, .int .i64 0, .int .i64 o, .int .i64 a, .int .i64 b] rfl rfl rfl (by kernel_rfl) (by simp [Value.oneCell']) ?_); intro w7 hx7 hg7; refine Hid.out ?_))
            have H7 := Lib.hid (And.intro hx7 (H6.out.2.1.grown hg7 H6.out.2.1.size (fun j hj => by cases hj; exact Nat.le_refl _)))
            clear hx7 hg7
            refine Lib.hid ?_
            go_wp2
            exact bodyPost_ret (v := .tuple #[stV ⟨4, 0, 0, o, a, b⟩, .bool true]) (results_box2 rfl _ _ w.heap.size _ _ _ _ rfl rfl H7.out.1 Tryz.underlying45 rfl (by kernel_rfl)) rfl ⟨_, _, rfl, HF, H7.out.2⟩
        · have H3 := Lib.hid (And.intro (H2.out.1.below hb3) (below_then H2.out.2 hb3))
          have HO3 := Lib.hid (And.intro (HO2.out.1.kept (grown_below hb3 none) (by simp [Value.ownBlock])) (Nat.lt_of_lt_of_le HO2.out.2 hb3.size))
          clear hb3 H2 HO2 HR2 hc2'
          have hm := meth5 n
          refine Lib.hid ?_
          go_wp2_with (go_at_call 150; refine (stmt_m5 n _).mono ?_; rintro e w4 ⟨rfl, hb4⟩; refine Hid.out ?_)
          have hx4 := Box.new w4 #[.int .i64 5, .int .i64 0, .int .i64 n, .int .i64 0, .int .i64 0, .int .i64 0] 45
          have H4 := Lib.hid (And.intro ((H3.out.1.below hb4).alloc (.cells #[.int .i64 5, .int .i64 0, .int .i64 n, .int .i64 0, .int .i64 0, .int .i64 0] 45)) (And.intro (below_then H3.out.2 (hb4.trans ((below_new w4 (.cells #[.int .i64 5, .int .i64 0, .int .i64 n, .int .i64 0, .int .i64 0, .int .i64 0] 45)).mono hb4.size))) (And.intro hx4 ((HO3.out.1.kept (grown_below hb4 none) (by simp [Value.ownBlock])).alloc (.cells #[.int .i64 5, .int .i64 0, .int .i64 n, .int .i64 0, .int .i64 0, .int .i64 0] 45)))))
          clear hb4 H3 HO3 hx4
          refine Lib.hid ?_
          go_wp2_with (go_at_call 17; refine (impl_fmtstmt ⟨5, 0, n, 0, 0, 0⟩ _ (fun w' hw' => (HT.out.on H4.out.2.1) w' (hw'.mono H4.out.2.1.size))).mono ?_; rintro e w5 ⟨rfl, hb5⟩; refine Hid.out ?_)
          have H5 := Lib.hid (And.intro (H4.out.1.below hb5) (And.intro (below_then H4.out.2.1 hb5) (And.intro (H4.out.2.2.1.below hb5) (H4.out.2.2.2.kept (grown_below hb5 none) (by simp [Value.ownBlock])))))
          clear hb5 H4
          obtain ⟨X, hX⟩ : ∃ X, textR ⟨5, 0, n, 0, 0, 0⟩ = X := ⟨_, rfl⟩
          have HX := Lib.hid hX
          rw [hX]
          clear hX
          refine Lib.hid ?_
          go_wp2_with (go_at_call 59; refine (join_flds (f0 :: fs) J HJ.out.1 HJ.out.2 _ _ _ HNN.out _ H5.out.2.2.2).mono ?_; rintro e w6 ⟨rfl, hb6⟩; refine Hid.out ?_)
          have H6 := Lib.hid (And.intro (H5.out.1.below hb6) (And.intro (below_then H5.out.2.1 hb6) (H5.out.2.2.1.below hb6)))
          clear hb6 H5
          cases hq : (X == J)
          · have HF := Lib.hid (show IsParse (fieldsR s.data.toList) ⟨0, 0, 0, 0, 0, 0⟩ false by
              rw [HFE.out]; refine parse_none (none_text HL2.out hS3.out.1 hS3.out.2.1 hS3.out.2.2.2.1 hS3.out.2.2.2.2 ?_)
              rw [HX.out, HJ.out.1]; simpa using hq)
            have H7 := Lib.hid (And.intro H6.out.1 H6.out.2.1)
            refine Lib.hid ?_
            go_wp2_with ((refine wpList_store_box rfl 45 _ _ rfl w.heap.size _ _ H7.out.1 zeroC rfl rfl rfl (by kernel_rfl) (by simp [Value.oneCell']) ?_); intro w7 hxz hgz; refine Hid.out ?_)
            have HZ := Lib.hid (And.intro hxz (H7.out.2.grown hgz H7.out.2.size (fun j hj => by cases hj; exact Nat.le_refl _)))
            clear hxz hgz
            refine Lib.hid ?_
            go_wp2
            exact bodyPost_ret (v := .tuple #[stV ⟨0, 0, 0, 0, 0, 0⟩, .bool false]) (results_box2 rfl _ _ w.heap.size _ _ _ _ rfl rfl HZ.out.1 Tryz.underlying45 rfl (by kernel_rfl)) rfl ⟨_, _, rfl, HF, HZ.out.2⟩
          · have HF := Lib.hid (show IsParse (fieldsR s.data.toList) ⟨5, 0, n, 0, 0, 0⟩ true by
              rw [HFE.out]; refine some_text (by simp) HG.out ?_
              rw [HX.out, HJ.out.1]; simpa using hq)
            refine Lib.hid ?_
            go_wp2_with (first
              | (refine wpList_load_row rfl 45 _ rfl w4.heap.size rfl _ _ _ _ H6.out.2.2 Tryz.underlying45 rfl (by kernel_rfl) ?_)
              | ((refine wpList_store_box rfl 45 _ _ rfl w.heap.size _ _ H6.out.1 #[.int .i64 5, .int .i64 0, .int .i64 n, .int .i64 0, .int .i64 0, .int .i64 0] rfl rfl rfl (by kernel_rfl) (by simp [Value.oneCell']) ?_); intro w7 hx7 hg7; refine Hid.out ?_))
            have H7 := Lib.hid (And.intro hx7 (H6.out.2.1.grown hg7 H6.out.2.1.size (fun j hj => by cases hj; exact Nat.le_refl _)))
            clear hx7 hg7
            refine Lib.hid ?_
            go_wp2
            exact bodyPost_ret (v := .tuple #[stV ⟨5, 0, n, 0, 0, 0⟩, .bool true]) (results_box2 rfl _ _ w.heap.size _ _ _ _ rfl rfl H7.out.1 Tryz.underlying45 rfl (by kernel_rfl)) rfl ⟨_, _, rfl, HF, H7.out.2⟩
        · have H3 := Lib.hid (And.intro (H2.out.1.below hb3) (below_then H2.out.2 hb3))
          have HO3 := Lib.hid (And.intro (HO2.out.1.kept (grown_below hb3 none) (by simp [Value.ownBlock])) (Nat.lt_of_lt_of_le HO2.out.2 hb3.size))
          clear hb3 H2 HO2 HR2 hc2'
          have hm := meth6 
          refine Lib.hid ?_
          go_wp2_with (go_at_call 151; refine (stmt_m6  _).mono ?_; rintro e w4 ⟨rfl, hb4⟩; refine Hid.out ?_)
          have hx4 := Box.new w4 #[.int .i64 6, .int .i64 0, .int .i64 0, .int .i64 0, .int .i64 0, .int .i64 0] 45
          have H4 := Lib.hid (And.intro ((H3.out.1.below hb4).alloc (.cells #[.int .i64 6, .int .i64 0, .int .i64 0, .int .i64 0, .int .i64 0, .int .i64 0] 45)) (And.intro (below_then H3.out.2 (hb4.trans ((below_new w4 (.cells #[.int .i64 6, .int .i64 0, .int .i64 0, .int .i64 0, .int .i64 0, .int .i64 0] 45)).mono hb4.size))) (And.intro hx4 ((HO3.out.1.kept (grown_below hb4 none) (by simp [Value.ownBlock])).alloc (.cells #[.int .i64 6, .int .i64 0, .int .i64 0, .int .i64 0, .int .i64 0, .int .i64 0] 45)))))
          clear hb4 H3 HO3 hx4
          refine Lib.hid ?_
          go_wp2_with (go_at_call 17; refine (impl_fmtstmt ⟨6, 0, 0, 0, 0, 0⟩ _ (fun w' hw' => (HT.out.on H4.out.2.1) w' (hw'.mono H4.out.2.1.size))).mono ?_; rintro e w5 ⟨rfl, hb5⟩; refine Hid.out ?_)
          have H5 := Lib.hid (And.intro (H4.out.1.below hb5) (And.intro (below_then H4.out.2.1 hb5) (And.intro (H4.out.2.2.1.below hb5) (H4.out.2.2.2.kept (grown_below hb5 none) (by simp [Value.ownBlock])))))
          clear hb5 H4
          obtain ⟨X, hX⟩ : ∃ X, textR ⟨6, 0, 0, 0, 0, 0⟩ = X := ⟨_, rfl⟩
          have HX := Lib.hid hX
          rw [hX]
          clear hX
          refine Lib.hid ?_
          go_wp2_with (go_at_call 59; refine (join_flds (f0 :: fs) J HJ.out.1 HJ.out.2 _ _ _ HNN.out _ H5.out.2.2.2).mono ?_; rintro e w6 ⟨rfl, hb6⟩; refine Hid.out ?_)
          have H6 := Lib.hid (And.intro (H5.out.1.below hb6) (And.intro (below_then H5.out.2.1 hb6) (H5.out.2.2.1.below hb6)))
          clear hb6 H5
          cases hq : (X == J)
          · have HF := Lib.hid (show IsParse (fieldsR s.data.toList) ⟨0, 0, 0, 0, 0, 0⟩ false by
              rw [HFE.out]; refine parse_none (none_text HL2.out hS3.out.1 hS3.out.2.1 hS3.out.2.2.2.1 hS3.out.2.2.2.2 ?_)
              rw [HX.out, HJ.out.1]; simpa using hq)
            have H7 := Lib.hid (And.intro H6.out.1 H6.out.2.1)
            refine Lib.hid ?_
            go_wp2_with ((refine wpList_store_box rfl 45 _ _ rfl w.heap.size _ _ H7.out.1 zeroC rfl rfl rfl (by kernel_rfl) (by simp [Value.oneCell']) ?_); intro w7 hxz hgz; refine Hid.out ?_)
            have HZ := Lib.hid (And.intro hxz (H7.out.2.grown hgz H7.out.2.size (fun j hj => by cases hj; exact Nat.le_refl _)))
            clear hxz hgz
            refine Lib.hid ?_
            go_wp2
            exact bodyPost_ret (v := .tuple #[stV ⟨0, 0, 0, 0, 0, 0⟩, .bool false]) (results_box2 rfl _ _ w.heap.size _ _ _ _ rfl rfl HZ.out.1 Tryz.underlying45 rfl (by kernel_rfl)) rfl ⟨_, _, rfl, HF, HZ.out.2⟩
          · have HF := Lib.hid (show IsParse (fieldsR s.data.toList) ⟨6, 0, 0, 0, 0, 0⟩ true by
              rw [HFE.out]; refine some_text (by simp) HG.out ?_
              rw [HX.out, HJ.out.1]; simpa using hq)
            refine Lib.hid ?_
            go_wp2_with (first
              | (refine wpList_load_row rfl 45 _ rfl w4.heap.size rfl _ _ _ _ H6.out.2.2 Tryz.underlying45 rfl (by kernel_rfl) ?_)
              | ((refine wpList_store_box rfl 45 _ _ rfl w.heap.size _ _ H6.out.1 #[.int .i64 6, .int .i64 0, .int .i64 0, .int .i64 0, .int .i64 0, .int .i64 0] rfl rfl rfl (by kernel_rfl) (by simp [Value.oneCell']) ?_); intro w7 hx7 hg7; refine Hid.out ?_))
            have H7 := Lib.hid (And.intro hx7 (H6.out.2.1.grown hg7 H6.out.2.1.size (fun j hj => by cases hj; exact Nat.le_refl _)))
            clear hx7 hg7
            refine Lib.hid ?_
            go_wp2
            exact bodyPost_ret (v := .tuple #[stV ⟨6, 0, 0, 0, 0, 0⟩, .bool true]) (results_box2 rfl _ _ w.heap.size _ _ _ _ rfl rfl H7.out.1 Tryz.underlying45 rfl (by kernel_rfl)) rfl ⟨_, _, rfl, HF, H7.out.2⟩
        · have HF := Lib.hid (show IsParse (fieldsR s.data.toList) ⟨0, 0, 0, 0, 0, 0⟩ false by rw [HFE.out]; exact parse_none (none_word HL2.out hS3.out))
          have H3 := Lib.hid (And.intro (H2.out.1.below hb3) (below_then H2.out.2 hb3))
          clear hb3
          refine Lib.hid ?_
          go_wp2_with ((refine wpList_store_box rfl 45 _ _ rfl w.heap.size _ _ H3.out.1 zeroC rfl rfl rfl (by kernel_rfl) (by simp [Value.oneCell']) ?_); intro w4 hxz hgz; refine Hid.out ?_)
          have HZ := Lib.hid (And.intro hxz (H3.out.2.grown hgz H3.out.2.size (fun j hj => by cases hj; exact Nat.le_refl _)))
          clear hxz hgz
          refine Lib.hid ?_
          go_wp2
          exact bodyPost_ret (v := .tuple #[stV ⟨0, 0, 0, 0, 0, 0⟩, .bool false]) (results_box2 rfl _ _ w.heap.size _ _ _ _ rfl rfl HZ.out.1 Tryz.underlying45 rfl (by kernel_rfl)) rfl ⟨_, _, rfl, HF, HZ.out.2⟩
      · have HF := Lib.hid (show IsParse (fieldsR s.data.toList) ⟨0, 0, 0, 0, 0, 0⟩ false by
          rw [HFE.out]; refine parse_none (none_bad ?_)
          obtain ⟨x, hx, hv⟩ := hB2.out
          obtain ⟨f, hf, rfl⟩ := List.mem_map.1 hx
          exact ⟨f, hf, hv⟩)
        have H2 := Lib.hid (And.intro (H1.out.1.below hb2) (below_then H1.out.2 hb2))
        clear hb2
        refine Lib.hid ?_
        go_wp2_with ((refine wpList_store_box rfl 45 _ _ rfl w.heap.size _ _ H2.out.1 zeroC rfl rfl rfl (by kernel_rfl) (by simp [Value.oneCell']) ?_); intro w3 hxz hgz; refine Hid.out ?_)
        have HZ := Lib.hid (And.intro hxz (H2.out.2.grown hgz H2.out.2.size (fun j hj => by cases hj; exact Nat.le_refl _)))
        clear hxz hgz
        refine Lib.hid ?_
        go_wp2
        exact bodyPost_ret (v := .tuple #[stV ⟨0, 0, 0, 0, 0, 0⟩, .bool false]) (results_box2 rfl _ _ w.heap.size _ _ _ _ rfl rfl HZ.out.1 Tryz.underlying45 rfl (by kernel_rfl)) rfl ⟨_, _, rfl, HF, HZ.out.2⟩
end Go.Proofs.YtpipnhceajdfkaaGreatDoor.tex
