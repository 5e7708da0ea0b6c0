/- Several texts in one: TexQ. -/
import Derived.Test.YtpipnhceajdfkaaGreatDoorGEppg32
import Derived.Test.YtpipnhceajdfkaaGreatDoorGEppg26
import Derived.Test.YtpipnhceajdfkaaGreatDoorGEppg42

/- Chapter 4's ParseStmt of the model: it gives the valid statement whose text the fields are, if there is one. -/
namespace Go.Proofs.YtpipnhceajdfkaaGreatDoor.tex
open Go Go.ChangeShapes Go.WideShapes Go.ChangeAt Go.RowKit Go.Proofs.YtpipnhceajdfkaaGreatDoor.row Go.Proofs.YtpipnhceajdfkaaGreatDoor.val Go.Proofs.YtpipnhceajdfkaaGreatDoor.stm Go.Proofs.YtpipnhceajdfkaaGreatDoor.expr Go.Proofs.YtpipnhceajdfkaaGreatDoor.spl Go.Proofs.YtpipnhceajdfkaaGreatDoor.pu

theorem join_next {f0 : List UInt8} {fs : List (List UInt8)} {k : Nat} {f : List UInt8} (hk : 1 ≤ k) (h : (f0 :: fs)[k]? = some f) : Lib.join ((f0 :: fs).take (k + 1)) [32] = Lib.join ((f0 :: fs).take k) [32] ++ [32] ++ f := by
  obtain ⟨j, rfl⟩ : ∃ j, k = j + 1 := ⟨k - 1, by omega⟩
  rw [List.take_succ_cons, List.take_succ_cons, Lib.join_cons, Lib.join_cons, Lib.joinTail_take_succ [32] fs j f (by simpa using h)]
  simp
theorem join_first (f0 : List UInt8) (fs : List (List UInt8)) : Lib.join ((f0 :: fs).take 1) [32] = f0 := by simp [Lib.join_one]
theorem join_take_short {F : List (List UInt8)} (h : (joinF F).length ≤ 1300) (k : Nat) : (Lib.join (F.take k) [32]).length ≤ 1300 :=
  Nat.le_trans (join_le _) (Nat.le_trans (join_take_le F k) h)
theorem nums_next {f0 : List UInt8} {fs : List (List UInt8)} {k : Nat} {f : List UInt8} (hk : 1 ≤ k) (h : (f0 :: fs)[k]? = some f) : (fs.take k).map numV = (fs.take (k - 1)).map numV ++ [numV f] := by
  obtain ⟨j, rfl⟩ : ∃ j, k = j + 1 := ⟨k - 1, by omega⟩
  rw [List.take_add_one, List.map_append]
  have h' : fs[j]? = some f := by simpa using h
  simp [h']
theorem pad_at (L : List Int) (i : Nat) (hi : i < 4) : (ivs (L ++ [0, 0, 0, 0]))[i]? = some (.int .i64 (L.getD i 0)) := by
  rw [ivs, List.getElem?_map]
  by_cases h : i < L.length
  · rw [List.getElem?_append_left h]; simp [h]
  · rw [List.getElem?_append_right (by omega)]
    have : L.getD i 0 = 0 := by rw [List.getD_eq_getElem?_getD, List.getElem?_eq_none (by omega)]; rfl
    rw [this]
    rcases (show i - L.length = 0 ∨ i - L.length = 1 ∨ i - L.length = 2 ∨ i - L.length = 3 by omega) with h | h | h | h <;> rw [h] <;> rfl
theorem held4g {w w' : World} {g b : Nat} {x0 x1 x2 x3 : Value} (hb : w.grownBy w' (some b)) (hne : g ≠ b)
    (h : w.cell? ⟨g, 0, none⟩ = some x0 ∧ w.cell? ⟨g, 1, none⟩ = some x1 ∧ w.cell? ⟨g, 2, none⟩ = some x2 ∧ w.cell? ⟨g, 3, none⟩ = some x3) :
    w'.cell? ⟨g, 0, none⟩ = some x0 ∧ w'.cell? ⟨g, 1, none⟩ = some x1 ∧ w'.cell? ⟨g, 2, none⟩ = some x2 ∧ w'.cell? ⟨g, 3, none⟩ = some x3 := by
  have hn : some g ≠ some b := fun e => hne (Option.some.inj e)
  exact ⟨hb.cell h.1 hn, hb.cell h.2.1 hn, hb.cell h.2.2.1 hn, hb.cell h.2.2.2 hn⟩
theorem grown_setCells3 (w : World) (b : Nat) (x y z : Value) : w.grownBy (((w.setCell ⟨b, 3, none⟩ x).setCell ⟨b, 4, none⟩ y).setCell ⟨b, 5, none⟩ z) (some b) :=
  grown_trans (grown_trans (grown_setCell w b 3 x) (grown_setCell _ b 4 y)) (grown_setCell _ b 5 z)
theorem held4 {w w' : World} {g : Nat} {x0 x1 x2 x3 : Value} (hb : Below w.heap.size w w') (hg : g < w.heap.size)
    (h : w.cell? ⟨g, 0, none⟩ = some x0 ∧ w.cell? ⟨g, 1, none⟩ = some x1 ∧ w.cell? ⟨g, 2, none⟩ = some x2 ∧ w.cell? ⟨g, 3, none⟩ = some x3) :
    w'.cell? ⟨g, 0, none⟩ = some x0 ∧ w'.cell? ⟨g, 1, none⟩ = some x1 ∧ w'.cell? ⟨g, 2, none⟩ = some x2 ∧ w'.cell? ⟨g, 3, none⟩ = some x3 :=
  ⟨(hb.cell (p := ⟨g, 0, none⟩) hg).trans h.1, (hb.cell (p := ⟨g, 1, none⟩) hg).trans h.2.1, (hb.cell (p := ⟨g, 2, none⟩) hg).trans h.2.2.1, (hb.cell (p := ⟨g, 3, none⟩) hg).trans h.2.2.2⟩
theorem num_list (f : List UInt8) (h : f.length ≤ 2000) (w : World) : Calls Tryz.prog 44 #[.string ⟨f.toArray⟩] w (Ret w (numV f)) := num_any ⟨f.toArray⟩ h w
set_option maxHeartbeats 8000000 in
set_option maxRecDepth 100000 in
theorem spec_parse (s : ByteArray) (w : World) : Calls Tryz.prog 23 #[.string s] w (ParseOut s.data.toList w) := by
  obtain ⟨j0, hj, jz0, jz1, jz2⟩ := info_parts row.infoInt
  go_enter Tryz.func23, Tryz.ntmps23
  go_wp2_with (go_at_call 43; refine (spec_all s _).mono ?_; rintro e w1 ⟨a, n, cap, P, rfl, ho, hP, hn, hb1⟩; refine Hid.out ?_)
  have H1 := Lib.hid (And.intro ((Box.new w zeroC 45).below hb1) (below_then (below_new w _) hb1))
  have HO := Lib.hid ho
  clear ho hb1
  cases hok : okB s.data.toList
  · have HF := Lib.hid (show IsParse (fieldsR s.data.toList) ⟨0, 0, 0, 0, 0, 0⟩ false by rw [fieldsR_bad hok]; exact parse_empty)
    clear hok
    refine Lib.hid ?_
    go_wp2_with ((refine wpList_store_box rfl 45 _ _ rfl w.heap.size _ _ H1.out.1 zeroC rfl rfl rfl (by kernel_rfl) (by simp [Value.oneCell']) ?_); intro w2 hxz hgz; refine Hid.out ?_)
    have HZ := Lib.hid (And.intro hxz (H1.out.2.grown hgz H1.out.2.size (fun j hj => by cases hj; exact Nat.le_refl _)))
    clear hxz hgz
    refine Lib.hid ?_
    go_wp2
    exact bodyPost_ret (v := .tuple #[stV ⟨0, 0, 0, 0, 0, 0⟩, .bool false]) (results_box2 rfl _ _ w.heap.size _ _ _ _ rfl rfl HZ.out.1 Tryz.underlying45 rfl (by kernel_rfl)) rfl ⟨_, _, rfl, HF, HZ.out.2⟩
  · rcases (show n = 0 ∨ 5 < n ∨ (1 ≤ n ∧ n ≤ 5) by omega) with h0 | h6 | ⟨h1, h5⟩
    · have HF := Lib.hid (show IsParse (fieldsR s.data.toList) ⟨0, 0, 0, 0, 0, 0⟩ false by
        rw [List.eq_nil_of_length_eq_zero (hn.out.symm.trans h0)]; exact parse_empty)
      have HIN := Lib.hid (show (decide ((1 : Int) ≤ n) && decide ((n : Int) ≤ 5)) = false by simp; omega)
      clear h0 hok
      refine Lib.hid ?_
      go_wp2_with (first
        | (go_at_call 47; (with_reducible refine (in_any _ 1 5 _ HIN.out _).mono ?_); rintro e w2 ⟨rfl, rfl⟩)
        | ((refine wpList_store_box rfl 45 _ _ rfl w.heap.size _ _ H1.out.1 zeroC rfl rfl rfl (by kernel_rfl) (by simp [Value.oneCell']) ?_); intro w2 hxz hgz; refine Hid.out ?_))
      have HZ := Lib.hid (And.intro hxz (H1.out.2.grown hgz H1.out.2.size (fun j hj => by cases hj; exact Nat.le_refl _)))
      clear hxz hgz
      refine Lib.hid ?_
      go_wp2
      exact bodyPost_ret (v := .tuple #[stV ⟨0, 0, 0, 0, 0, 0⟩, .bool false]) (results_box2 rfl _ _ w.heap.size _ _ _ _ rfl rfl HZ.out.1 Tryz.underlying45 rfl (by kernel_rfl)) rfl ⟨_, _, rfl, HF, HZ.out.2⟩
    · have HF := Lib.hid (show IsParse (fieldsR s.data.toList) ⟨0, 0, 0, 0, 0, 0⟩ false from none_many (by rw [← hn.out]; exact h6))
      have HIN := Lib.hid (show (decide ((1 : Int) ≤ n) && decide ((n : Int) ≤ 5)) = false by simp; omega)
      clear h6 hok
      refine Lib.hid ?_
      go_wp2_with (first
        | (go_at_call 47; (with_reducible refine (in_any _ 1 5 _ HIN.out _).mono ?_); rintro e w2 ⟨rfl, rfl⟩)
        | ((refine wpList_store_box rfl 45 _ _ rfl w.heap.size _ _ H1.out.1 zeroC rfl rfl rfl (by kernel_rfl) (by simp [Value.oneCell']) ?_); intro w2 hxz hgz; refine Hid.out ?_))
      have HZ := Lib.hid (And.intro hxz (H1.out.2.grown hgz H1.out.2.size (fun j hj => by cases hj; exact Nat.le_refl _)))
      clear hxz hgz
      refine Lib.hid ?_
      go_wp2
      exact bodyPost_ret (v := .tuple #[stV ⟨0, 0, 0, 0, 0, 0⟩, .bool false]) (results_box2 rfl _ _ w.heap.size _ _ _ _ rfl rfl HZ.out.1 Tryz.underlying45 rfl (by kernel_rfl)) rfl ⟨_, _, rfl, HF, HZ.out.2⟩
    · rcases hFe : fieldsR s.data.toList with _ | ⟨f0, fs⟩
      · rw [hn.out, hFe] at h1; simp at h1
      · have hnl : n = fs.length + 1 := by rw [hn.out, hFe]; rfl
        have hPl : P = (f0 :: fs).map (fun f => ⟨f.toArray⟩) := by rw [hP.out, hFe]
        have HFE := Lib.hid hFe
        have hfl := fields_len s.data.toList
        rw [hFe] at hfl
        have HFL := Lib.hid hfl
        have HIN := Lib.hid (show (decide ((1 : Int) ≤ n) && decide ((n : Int) ≤ 5)) = true by simp; omega)
        obtain ⟨g, rfl, hg0, hg1, hc0, _⟩ := own_at HO.out (k := 0) (by omega)
        rw [hPl] at hc0
        simp only [List.map_cons, List.getElem?_cons_zero, Option.map_some] at hc0
        have hS := SRow.of_own HO.out
        rw [hPl] at hS
        have HS := Lib.hid hS
        have hnI0 : (0 : Int) < n := by omega
        have HNL := Lib.hid hnl
        clear hFe hok hS hfl HO hP hPl hnl
        refine Lib.hid ?_
        go_wp2_with (go_at_call 47; (with_reducible refine (in_any _ 1 5 _ HIN.out _).mono ?_); rintro e w2 ⟨rfl, rfl⟩)
        go_loopw [6, 7, 8] (fun t v7 i wr => ∃ (k : Nat) (A : List UInt8), 1 ≤ k ∧ k ≤ n ∧ i = .int .i64 k ∧ t = .string ⟨A.toArray⟩ ∧ Hid (A = Lib.join ((f0 :: fs).take k) [32]) ∧ wr.ownsRow w1.heap.size 3 1 v7 (k - 1) (ivs ((fs.take (k - 1)).map numV)) ∧ Below w1.heap.size w1 wr) (fun _ _ i _ => n - (intOf i).toNat)
        case atStart => exact ⟨1, f0, Nat.le_refl _, h1, rfl, rfl, (join_first f0 fs).symm, World.ownsRow_made w1 #[] 0 (Nat.le_refl _) (by decide) rfl, below_new w1 _⟩
        case round =>
          obtain ⟨k, A, hk1, hk, rfl, rfl, hA, hown, hbel⟩ := hrel
          have hb2 := hbel.size
          obtain ⟨a4, cap4, rfl⟩ := own_form hown
          by_cases hlt : k < n
          · have hkI : (k : Int) < n := by omega
            obtain ⟨g2, off2, x, he, hg, hx, hcell⟩ := HS.out.2 k hlt
            injection he with he; injection he with e1 e2 _; subst e1 e2
            have hx' : ∃ f, (f0 :: fs)[k]? = some f ∧ x = ⟨f.toArray⟩ := by
              rw [List.getElem?_map] at hx
              cases hq : (f0 :: fs)[k]? with
              | none => rw [hq] at hx; simp at hx
              | some f => rw [hq] at hx; exact ⟨f, rfl, by simpa using hx.symm⟩
            obtain ⟨f, hf, rfl⟩ := hx'
            have hcell2 := hbel.cell (p := ⟨g, 0 + k, none⟩) hg
            rw [hcell, Nat.zero_add] at hcell2
            have hfl : f.length ≤ 1300 := Nat.le_trans (mem_joinF (List.mem_of_getElem? hf)) HFL.out
            have hAl : A.length ≤ 1300 := by rw [hA.out]; exact join_take_short HFL.out k
            obtain ⟨X1, e1, q1⟩ := addS A [32] (by simp; omega)
            obtain ⟨X2, e2, q2⟩ := addS X1 f (by rw [e1]; simp; omega)
            have HX := Lib.hid (And.intro (show X2 = Lib.join ((f0 :: fs).take (k + 1)) [32] by rw [e2, e1, hA.out, join_next hk1 hf]) (nums_next hk1 hf))
            have HNF := Lib.hid hfl
            clear hx hcell e1 e2 hf hAl hfl
            go_wp2_with (first
              | (go_at_call 44; refine (num_list f (by have := HNF.out; omega) _).mono ?_; rintro e w3 ⟨rfl, rfl⟩)
              | (at_builtin; refine wpList_append_own _ rfl _ _ 67 rfl w1.heap.size 3 j0 (.int .i64 0) 1 8 Tryz.underlying67 hj jz0 jz1 jz2 rfl (by decide) _ _ _ rfl (hown.alloc _) ⟨wr.heap.size, 0, none⟩ 1 1 [.int .i64 (numV f)] rfl rfl (World.news_of_block (cs := #[.int .i64 (numV f)]) (t := 3) (fr := (0, 0)) (heap_alloc_new wr _)) (by simp [Value.oneCell']) (by unfold maxLen; omega) (by omega) (by simp; omega) ?_; intro v4 w4 hown4 hgrow4 _; refine Hid.out ?_))
            have hb4 : Below w1.heap.size w1 w4 := (hbel.alloc hb2 _).grown hgrow4 (by simp; omega) (fun j hj => (hown.lt j hj).1)
            have HO4 := Lib.hid (show w4.ownsRow w1.heap.size 3 1 v4 (k + 1 - 1) (ivs ((fs.take (k + 1 - 1)).map numV)) by
              rw [show k + 1 - 1 = k - 1 + 1 by omega, show k - 1 + 1 = k by omega, HX.out.2, ← ivs_snoc]
              rw [show k = k - 1 + 1 by omega]; exact hown4)
            clear hown hown4 hgrow4
            refine Lib.hid ?_
            go_wp2
            go_roundw
            case rel => exact ⟨k + 1, X2, by omega, by omega, by go_num, rfl, HX.out.1, HO4.out, hb4⟩
            case measure => simp [intOf]; omega
          · obtain rfl : k = n := by omega
            have hkI : ¬ (k : Int) < k := by omega
            have HA := Lib.hid (show A = Lib.join (f0 :: fs) [32] by rw [hA.out, List.take_of_length_le (by rw [HNL.out]; exact Nat.le_refl _)])
            rw [List.take_of_length_le (show fs.length ≤ k - 1 by rw [HNL.out]; exact Nat.le_refl _)] at hown
            have HB := Lib.hid (And.intro H1.out (And.intro hbel (And.intro h1 h5)))
            clear hA HS hnI0 hk hk1
            go_wp2_with (at_builtin; refine wpList_append_own _ rfl _ _ 67 rfl w1.heap.size 3 j0 (.int .i64 0) 1 8 Tryz.underlying67 hj jz0 jz1 jz2 rfl (by decide) _ _ _ rfl (hown.alloc _) ⟨wr.heap.size, 0, none⟩ 4 4 [.int .i64 0, .int .i64 0, .int .i64 0, .int .i64 0] rfl rfl (World.news_of_block (cs := #[.int .i64 0, .int .i64 0, .int .i64 0, .int .i64 0]) (t := 3) (fr := (0, 0)) (heap_alloc_new wr _)) (by simp [Value.oneCell']) (by unfold maxLen; omega) (by omega) (by simp; omega) ?_; intro v5 w5 hown5 hgrow5 hvv; clear hvv; refine Hid.out ?_)
            have hb5 : Below w1.heap.size w1 w5 := (hbel.alloc hb2 _).grown hgrow5 (by simp; omega) (fun j hj => (hown.lt j hj).1)
            have H5 := Lib.hid (And.intro (H1.out.1.below hb5) (below_then H1.out.2 hb5))
            clear hown hgrow5 hb5 hbel hb2 H1 HB
            obtain ⟨g5, c5, hv, _, hg5⟩ := hown5.form (by omega)
            subst hv
            have hce : ∀ i, i < 4 → w5.cell? ⟨g5, i, none⟩ = some (.int .i64 ((fs.map numV).getD i 0)) := fun i hi => by
              rw [hown5.cellAt i (by omega), ← pad_at _ i hi]; simp [ivs]
            obtain ⟨n7, hn7⟩ : ∃ m, k - 1 + 4 = m := ⟨_, rfl⟩
            rw [hn7]
            have hi0 : (0 : Int) < n7 := by omega
            have hi1 : (1 : Int) < n7 := by omega
            have hi2 : (2 : Int) < n7 := by omega
            have hi3 : (3 : Int) < n7 := by omega
            have hj0 : 0 < n7 := by omega
            have hj1 : 1 < n7 := by omega
            have hj2 : 2 < n7 := by omega
            have hj3 : 3 < n7 := by omega
            obtain ⟨x0, hx0⟩ : ∃ x, (fs.map numV).getD 0 0 = x := ⟨_, rfl⟩
            obtain ⟨x1, hx1⟩ : ∃ x, (fs.map numV).getD 1 0 = x := ⟨_, rfl⟩
            obtain ⟨x2, hx2⟩ : ∃ x, (fs.map numV).getD 2 0 = x := ⟨_, rfl⟩
            obtain ⟨x3, hx3⟩ : ∃ x, (fs.map numV).getD 3 0 = x := ⟨_, rfl⟩
            have HC := Lib.hid (And.intro (hx0 ▸ hce 0 (by omega)) (And.intro (hx1 ▸ hce 1 (by omega)) (And.intro (hx2 ▸ hce 2 (by omega)) (hx3 ▸ hce 3 (by omega)))))
            have HXX := Lib.hid (And.intro hx0 (And.intro hx1 (And.intro hx2 hx3)))
            have HG5 := Lib.hid hg5
            clear hown5 hce hx0 hx1 hx2 hx3 hn7 hg5 h1 h5 hlt hkI
            refine Lib.hid ?_
            go_wp2
            go_loopw [9] (fun v9 wq => ∃ q : Int, 1 ≤ q ∧ q ≤ 7 ∧ v9 = .int .i64 q ∧ Hid (NoneBelow (f0 :: fs) q) ∧ Below w5.heap.size w5 wq) (fun v9 _ => (8 - intOf v9).toNat)
            case atStart => exact ⟨1, by omega, by omega, rfl, none_start _, Below.refl _ _⟩
            case round =>
              obtain ⟨q, hq1, hq7, rfl, hN, hbq⟩ := hrel
              have hcq := held4 hbq HG5.out HC.out
              have hgq := Nat.lt_of_lt_of_le HG5.out hbq.size
              have HQ := Lib.hid (And.intro (H5.out.1.below hbq) (below_then H5.out.2 hbq))
              have HQ2 := Lib.hid (And.intro hbq hN)
              clear hbq hN
              rcases (show q = 1 ∨ q = 2 ∨ q = 3 ∨ q = 4 ∨ q = 5 ∨ q = 6 ∨ q = 7 by omega) with rfl | rfl | rfl | rfl | rfl | rfl | rfl
              all_goals clear hq1 hq7
              · have hp : Hid (plain ⟨1, x0, x1, x1, x2, x3⟩ = ⟨1, x0, 0, x1, x2, x3⟩) := rfl
                have hcqd : wr.drew.cell? ⟨g5, 0, none⟩ = some (.int .i64 x0) ∧ wr.drew.cell? ⟨g5, 1, none⟩ = some (.int .i64 x1) ∧ wr.drew.cell? ⟨g5, 2, none⟩ = some (.int .i64 x2) ∧ wr.drew.cell? ⟨g5, 3, none⟩ = some (.int .i64 x3) := hcq
                go_wp2
                go_region_held3 (fun w' => w'.cell? ⟨g5, 0, none⟩ = some (.int .i64 x0) ∧ w'.cell? ⟨g5, 1, none⟩ = some (.int .i64 x1) ∧ w'.cell? ⟨g5, 2, none⟩ = some (.int .i64 x2) ∧ w'.cell? ⟨g5, 3, none⟩ = some (.int .i64 x3))
                  (first
                    | ((with_reducible refine held4 (w := wr) ?_ hgq hcq); (with_reducible refine Below.setCell ?_ (by simp) _); (repeat (with_reducible refine Below.setCell ?_ (by simp) _)); (with_reducible exact below_then (below_new wr _) hb6'))
                    | (with_reducible exact hcqd) | (with_reducible assumption)
                    | (with_reducible exact held4 hb6' hgq hcq)
                    | (with_reducible exact held4 (below_then (below_new wr _) hb6') hgq hcq)
                    | (with_reducible exact held4 (below_then hb6' (below_new w6 _)) hgq hcq)
                    | (with_reducible exact held4 (below_new wr _) hgq hcq) | (with_reducible exact held4 (Below.drew (below_new wr _)) hgq hcq))
                  (first
                    | (go_at_call 48; refine (spec_plain ⟨1, x0, x1, x1, x2, x3⟩ _).mono ?_; rw [hp.out]; rintro e w6 ⟨rfl, hb6⟩; have hb6' := drew_below hb6; have hl6 : g5 < w6.heap.size := Nat.lt_of_lt_of_le hgq (Nat.le_trans (by simp) hb6'.size); (first | (have hbx := (Box.new wr zeroC 45).below hb6'; have hltx := hbx.lt; have cx0 : w6.cell? ⟨wr.heap.size, 0, none⟩ = some (.int .i64 0) := hbx.cell 0; have fx0 := hbx.frozen 0; have cx1 : w6.cell? ⟨wr.heap.size, 1, none⟩ = some (.int .i64 0) := hbx.cell 1; have fx1 := hbx.frozen 1; have cx2 : w6.cell? ⟨wr.heap.size, 2, none⟩ = some (.int .i64 0) := hbx.cell 2; have fx2 := hbx.frozen 2; have cx3 : w6.cell? ⟨wr.heap.size, 3, none⟩ = some (.int .i64 0) := hbx.cell 3; have fx3 := hbx.frozen 3; have cx4 : w6.cell? ⟨wr.heap.size, 4, none⟩ = some (.int .i64 0) := hbx.cell 4; have fx4 := hbx.frozen 4; have cx5 : w6.cell? ⟨wr.heap.size, 5, none⟩ = some (.int .i64 0) := hbx.cell 5; have fx5 := hbx.frozen 5) | skip)))

                · have hx10 := Box.new w6 #[.int .i64 1, .int .i64 x0, .int .i64 0, .int .i64 x1, .int .i64 x2, .int .i64 x3] 45
                  have hb10 : Below wr.heap.size wr (w6.alloc (.cells #[.int .i64 1, .int .i64 x0, .int .i64 0, .int .i64 x1, .int .i64 x2, .int .i64 x3] 45)) := below_then hb6' (below_new w6 _)
                  have hle10 : wr.heap.size ≤ w6.heap.size := hb6'.size
                  obtain ⟨w10, hw10⟩ : ∃ w10, w6.alloc (.cells #[.int .i64 1, .int .i64 x0, .int .i64 0, .int .i64 x1, .int .i64 x2, .int .i64 x3] 45) = w10 := ⟨_, rfl⟩
                  rw [hw10] at hx10 hb10 ⊢
                  obtain ⟨g10, hg10⟩ : ∃ g10, w6.heap.size = g10 := ⟨_, rfl⟩
                  rw [hg10] at hx10 hle10 ⊢
                  clear hw10 hg10 hb6 hb6' hl6
                  have HX10 := Lib.hid (And.intro hx10 (And.intro hb10 hle10))
                  have hc10 := held4 hb10 hgq hcq
                  have hg10 : g5 < w10.heap.size := Nat.lt_of_lt_of_le hgq hb10.size
                  have hne10 : g5 ≠ g10 := by omega
                  have HCD := Lib.hid (show cand 1 (fs.map numV) = ⟨1, x0, 0, x1, x2, x3⟩ by rw [← HXX.out.1, ← HXX.out.2.1, ← HXX.out.2.2.1, ← HXX.out.2.2.2]; rfl)
                  have HW0 := Lib.hid (show w.heap.size < wr.heap.size from HQ.out.1.lt)
                  clear hx10 hb10 hcq hcqd
                  have H11 := Lib.hid (And.intro HX10.out.1 HX10.out.2.1)
                  have hle := HX10.out.2.2
                  clear hc10 hg10 hne10 hle10 HX10
                  cases hr : stOk ⟨1, x0, 0, x1, x2, x3⟩
                  · have HR := Lib.hid hr
                    have HN := Lib.hid (show NoneBelow (f0 :: fs) 2 from none_next HQ2.out.2 (by rw [HCD.out, hr]; rintro ⟨h, _⟩; cases h))
                    clear hr
                    go_wp2_with (first
                      | (refine wpList_load_row rfl 45 _ rfl g10 rfl _ _ _ _ H11.out.1 Tryz.underlying45 rfl (by kernel_rfl) ?_)
                      | (go_at_call 49; refine (spec_stmtok ⟨1, x0, 0, x1, x2, x3⟩ false HR.out _).mono ?_; rintro e w12 ⟨rfl, hb12⟩; refine Hid.out ?_))
                    have hb13 := Lib.hid (below_then HQ2.out.1 (below_then H11.out.2 hb12))
                    clear hb12
                    refine Lib.hid ?_
                    go_wp2
                    go_roundw
                    case rel => exact ⟨2, by omega, by omega, rfl, HN, hb13.out⟩
                    case measure => simp [intOf]
                  · have HR := Lib.hid hr
                    obtain ⟨X, hX⟩ : ∃ X, textR ⟨1, x0, 0, x1, x2, x3⟩ = X := ⟨_, rfl⟩
                    have HFM := Lib.hid (show ∀ w, Calls Tryz.prog 24 #[stV ⟨1, x0, 0, x1, x2, x3⟩] w (RetS w X) from fun w => hX ▸ spec_fmtstmt ⟨1, x0, 0, x1, x2, x3⟩ w)
                    have HXT := Lib.hid hX
                    clear hr hX
                    go_wp2_with (first
                      | (refine wpList_load_row rfl 45 _ rfl g10 rfl _ _ _ _ H11.out.1 Tryz.underlying45 rfl (by kernel_rfl) ?_)
                      | (go_at_call 49; refine (spec_stmtok ⟨1, x0, 0, x1, x2, x3⟩ true HR.out _).mono ?_; rintro e w12 ⟨rfl, hb12⟩; refine Hid.out ?_))
                    have H12 := Lib.hid (And.intro (H11.out.1.below hb12) (below_then H11.out.2 hb12))
                    clear hb12 H11
                    have k0 : w12.cell? ⟨g10, 0, none⟩ = some (.int .i64 1) := H12.out.1.cell 0
                    have k1 : w12.cell? ⟨g10, 1, none⟩ = some (.int .i64 x0) := H12.out.1.cell 1
                    have k2 : w12.cell? ⟨g10, 2, none⟩ = some (.int .i64 0) := H12.out.1.cell 2
                    have k3 : w12.cell? ⟨g10, 3, none⟩ = some (.int .i64 x1) := H12.out.1.cell 3
                    have k4 : w12.cell? ⟨g10, 4, none⟩ = some (.int .i64 x2) := H12.out.1.cell 4
                    have k5 : w12.cell? ⟨g10, 5, none⟩ = some (.int .i64 x3) := H12.out.1.cell 5
                    have kl := H12.out.1.lt
                    refine Lib.hid ?_
                    go_wp2_with (first
                      | (refine wpList_load_row rfl 45 _ rfl g10 rfl _ _ _ _ H12.out.1 Tryz.underlying45 rfl (by kernel_rfl) ?_)
                      | (go_at_call 24; refine (HFM.out _).mono ?_; rintro e w13 ⟨rfl, hb13⟩; refine Hid.out ?_))
                    have H13 := Lib.hid (And.intro (H12.out.1.below hb13) (below_then H12.out.2 hb13))
                    clear hb13 H12 k0 k1 k2 k3 k4 k5 kl
                    cases hq : (X == A)
                    · have HN := Lib.hid (show NoneBelow (f0 :: fs) 2 from none_next HQ2.out.2 (by
                        rw [HCD.out, HXT.out, ← HA.out]; rintro ⟨_, h⟩; rw [h] at hq; simp at hq))
                      have hb14 := Lib.hid (below_then HQ2.out.1 H13.out.2)
                      refine Lib.hid ?_
                      go_wp2
                      go_roundw
                      case rel => exact ⟨2, by omega, by omega, rfl, HN, hb14.out⟩
                      case measure => simp [intOf]
                    · have HF := Lib.hid (show IsParse (fieldsR s.data.toList) ⟨1, x0, 0, x1, x2, x3⟩ true by
                        rw [HFE.out]; refine some_text (by simp) (by rw [← HFE.out]; exact fields_good) ?_
                        rw [HXT.out, ← HA.out]; simpa using hq)
                      have H14 := Lib.hid (And.intro (HQ.out.1.below H13.out.2) (below_then HQ.out.2 H13.out.2))
                      refine Lib.hid ?_
                      go_wp2_with (first
                        | (refine wpList_load_row rfl 45 _ rfl g10 rfl _ _ _ _ H13.out.1 Tryz.underlying45 rfl (by kernel_rfl) ?_)
                        | ((refine wpList_store_box rfl 45 _ _ rfl w.heap.size _ _ H14.out.1 #[.int .i64 1, .int .i64 x0, .int .i64 0, .int .i64 x1, .int .i64 x2, .int .i64 x3] rfl rfl rfl (by kernel_rfl) (by simp [Value.oneCell']) ?_); intro w15 hx15 hg15; refine Hid.out ?_))
                      have H15 := Lib.hid (And.intro hx15 (H14.out.2.grown hg15 H14.out.2.size (fun j hj => by cases hj; exact Nat.le_refl _)))
                      clear hx15 hg15
                      refine Lib.hid ?_
                      go_wp2
                      exact bodyPost_ret (v := .tuple #[stV ⟨1, x0, 0, x1, x2, x3⟩, .bool true]) (results_box2 rfl _ _ w.heap.size _ _ _ _ rfl rfl H15.out.1 Tryz.underlying45 rfl (by kernel_rfl)) rfl ⟨_, _, rfl, HF, H15.out.2⟩
                · have hx10 : Box wr.heap.size #[.int .i64 1, .int .i64 x0, .int .i64 0, .int .i64 x1, .int .i64 x2, .int .i64 x3] 45 ((((((w6.setCell ⟨wr.heap.size, 0, none⟩ (.int .i64 1)).setCell ⟨wr.heap.size, 1, none⟩ (.int .i64 x0)).setCell ⟨wr.heap.size, 2, none⟩ (.int .i64 0)).setCell ⟨wr.heap.size, 3, none⟩ (.int .i64 x1)).setCell ⟨wr.heap.size, 4, none⟩ (.int .i64 x2)).setCell ⟨wr.heap.size, 5, none⟩ (.int .i64 x3)) := (((((hbx.set 0 _).set 1 _).set 2 _).set 3 _).set 4 _).set 5 _
                  have hb10 : Below wr.heap.size wr ((((((w6.setCell ⟨wr.heap.size, 0, none⟩ (.int .i64 1)).setCell ⟨wr.heap.size, 1, none⟩ (.int .i64 x0)).setCell ⟨wr.heap.size, 2, none⟩ (.int .i64 0)).setCell ⟨wr.heap.size, 3, none⟩ (.int .i64 x1)).setCell ⟨wr.heap.size, 4, none⟩ (.int .i64 x2)).setCell ⟨wr.heap.size, 5, none⟩ (.int .i64 x3)) := ((((((below_then (below_new wr _) hb6').setCell (Nat.le_refl _) _).setCell (Nat.le_refl _) _).setCell (Nat.le_refl _) _).setCell (Nat.le_refl _) _).setCell (Nat.le_refl _) _).setCell (Nat.le_refl _) _
                  obtain ⟨w10, hw10⟩ : ∃ w10, ((((((w6.setCell ⟨wr.heap.size, 0, none⟩ (.int .i64 1)).setCell ⟨wr.heap.size, 1, none⟩ (.int .i64 x0)).setCell ⟨wr.heap.size, 2, none⟩ (.int .i64 0)).setCell ⟨wr.heap.size, 3, none⟩ (.int .i64 x1)).setCell ⟨wr.heap.size, 4, none⟩ (.int .i64 x2)).setCell ⟨wr.heap.size, 5, none⟩ (.int .i64 x3)) = w10 := ⟨_, rfl⟩
                  rw [hw10] at hx10 hb10 ⊢
                  obtain ⟨g10, hg10⟩ : ∃ g10, wr.heap.size = g10 := ⟨_, rfl⟩
                  rw [hg10] at hx10 ⊢
                  have hle10 : wr.heap.size ≤ g10 := Nat.le_of_eq hg10
                  clear hw10 hg10 hb6 hb6' hl6 hbx hltx cx0 cx1 cx2 cx3 cx4 cx5 fx0 fx1 fx2 fx3 fx4 fx5
                  have HX10 := Lib.hid (And.intro hx10 (And.intro hb10 hle10))
                  have hc10 := held4 hb10 hgq hcq
                  have hg10 : g5 < w10.heap.size := Nat.lt_of_lt_of_le hgq hb10.size
                  have hne10 : g5 ≠ g10 := by omega
                  have HCD := Lib.hid (show cand 1 (fs.map numV) = ⟨1, x0, 0, x1, x2, x3⟩ by rw [← HXX.out.1, ← HXX.out.2.1, ← HXX.out.2.2.1, ← HXX.out.2.2.2]; rfl)
                  have HW0 := Lib.hid (show w.heap.size < wr.heap.size from HQ.out.1.lt)
                  clear hx10 hb10 hcq hcqd
                  have H11 := Lib.hid (And.intro HX10.out.1 HX10.out.2.1)
                  have hle := HX10.out.2.2
                  clear hc10 hg10 hne10 hle10 HX10
                  cases hr : stOk ⟨1, x0, 0, x1, x2, x3⟩
                  · have HR := Lib.hid hr
                    have HN := Lib.hid (show NoneBelow (f0 :: fs) 2 from none_next HQ2.out.2 (by rw [HCD.out, hr]; rintro ⟨h, _⟩; cases h))
                    clear hr
                    go_wp2_with (first
                      | (refine wpList_load_row rfl 45 _ rfl g10 rfl _ _ _ _ H11.out.1 Tryz.underlying45 rfl (by kernel_rfl) ?_)
                      | (go_at_call 49; refine (spec_stmtok ⟨1, x0, 0, x1, x2, x3⟩ false HR.out _).mono ?_; rintro e w12 ⟨rfl, hb12⟩; refine Hid.out ?_))
                    have hb13 := Lib.hid (below_then HQ2.out.1 (below_then H11.out.2 hb12))
                    clear hb12
                    refine Lib.hid ?_
                    go_wp2
                    go_roundw
                    case rel => exact ⟨2, by omega, by omega, rfl, HN, hb13.out⟩
                    case measure => simp [intOf]
                  · have HR := Lib.hid hr
                    obtain ⟨X, hX⟩ : ∃ X, textR ⟨1, x0, 0, x1, x2, x3⟩ = X := ⟨_, rfl⟩
                    have HFM := Lib.hid (show ∀ w, Calls Tryz.prog 24 #[stV ⟨1, x0, 0, x1, x2, x3⟩] w (RetS w X) from fun w => hX ▸ spec_fmtstmt ⟨1, x0, 0, x1, x2, x3⟩ w)
                    have HXT := Lib.hid hX
                    clear hr hX
                    go_wp2_with (first
                      | (refine wpList_load_row rfl 45 _ rfl g10 rfl _ _ _ _ H11.out.1 Tryz.underlying45 rfl (by kernel_rfl) ?_)
                      | (go_at_call 49; refine (spec_stmtok ⟨1, x0, 0, x1, x2, x3⟩ true HR.out _).mono ?_; rintro e w12 ⟨rfl, hb12⟩; refine Hid.out ?_))
                    have H12 := Lib.hid (And.intro (H11.out.1.below hb12) (below_then H11.out.2 hb12))
                    clear hb12 H11
                    have k0 : w12.cell? ⟨g10, 0, none⟩ = some (.int .i64 1) := H12.out.1.cell 0
                    have k1 : w12.cell? ⟨g10, 1, none⟩ = some (.int .i64 x0) := H12.out.1.cell 1
                    have k2 : w12.cell? ⟨g10, 2, none⟩ = some (.int .i64 0) := H12.out.1.cell 2
                    have k3 : w12.cell? ⟨g10, 3, none⟩ = some (.int .i64 x1) := H12.out.1.cell 3
                    have k4 : w12.cell? ⟨g10, 4, none⟩ = some (.int .i64 x2) := H12.out.1.cell 4
                    have k5 : w12.cell? ⟨g10, 5, none⟩ = some (.int .i64 x3) := H12.out.1.cell 5
                    have kl := H12.out.1.lt
                    refine Lib.hid ?_
                    go_wp2_with (first
                      | (refine wpList_load_row rfl 45 _ rfl g10 rfl _ _ _ _ H12.out.1 Tryz.underlying45 rfl (by kernel_rfl) ?_)
                      | (go_at_call 24; refine (HFM.out _).mono ?_; rintro e w13 ⟨rfl, hb13⟩; refine Hid.out ?_))
                    have H13 := Lib.hid (And.intro (H12.out.1.below hb13) (below_then H12.out.2 hb13))
                    clear hb13 H12 k0 k1 k2 k3 k4 k5 kl
                    cases hq : (X == A)
                    · have HN := Lib.hid (show NoneBelow (f0 :: fs) 2 from none_next HQ2.out.2 (by
                        rw [HCD.out, HXT.out, ← HA.out]; rintro ⟨_, h⟩; rw [h] at hq; simp at hq))
                      have hb14 := Lib.hid (below_then HQ2.out.1 H13.out.2)
                      refine Lib.hid ?_
                      go_wp2
                      go_roundw
                      case rel => exact ⟨2, by omega, by omega, rfl, HN, hb14.out⟩
                      case measure => simp [intOf]
                    · have HF := Lib.hid (show IsParse (fieldsR s.data.toList) ⟨1, x0, 0, x1, x2, x3⟩ true by
                        rw [HFE.out]; refine some_text (by simp) (by rw [← HFE.out]; exact fields_good) ?_
                        rw [HXT.out, ← HA.out]; simpa using hq)
                      have H14 := Lib.hid (And.intro (HQ.out.1.below H13.out.2) (below_then HQ.out.2 H13.out.2))
                      refine Lib.hid ?_
                      go_wp2_with (first
                        | (refine wpList_load_row rfl 45 _ rfl g10 rfl _ _ _ _ H13.out.1 Tryz.underlying45 rfl (by kernel_rfl) ?_)
                        | ((refine wpList_store_box rfl 45 _ _ rfl w.heap.size _ _ H14.out.1 #[.int .i64 1, .int .i64 x0, .int .i64 0, .int .i64 x1, .int .i64 x2, .int .i64 x3] rfl rfl rfl (by kernel_rfl) (by simp [Value.oneCell']) ?_); intro w15 hx15 hg15; refine Hid.out ?_))
                      have H15 := Lib.hid (And.intro hx15 (H14.out.2.grown hg15 H14.out.2.size (fun j hj => by cases hj; exact Nat.le_refl _)))
                      clear hx15 hg15
                      refine Lib.hid ?_
                      go_wp2
                      exact bodyPost_ret (v := .tuple #[stV ⟨1, x0, 0, x1, x2, x3⟩, .bool true]) (results_box2 rfl _ _ w.heap.size _ _ _ _ rfl rfl H15.out.1 Tryz.underlying45 rfl (by kernel_rfl)) rfl ⟨_, _, rfl, HF, H15.out.2⟩
              · have hp : Hid (plain ⟨2, x0, x1, x1, x2, x3⟩ = ⟨2, x0, x1, 0, 0, 0⟩) := rfl
                have hcqd : wr.drew.cell? ⟨g5, 0, none⟩ = some (.int .i64 x0) ∧ wr.drew.cell? ⟨g5, 1, none⟩ = some (.int .i64 x1) ∧ wr.drew.cell? ⟨g5, 2, none⟩ = some (.int .i64 x2) ∧ wr.drew.cell? ⟨g5, 3, none⟩ = some (.int .i64 x3) := hcq
                go_wp2
                go_region_held3 (fun w' => w'.cell? ⟨g5, 0, none⟩ = some (.int .i64 x0) ∧ w'.cell? ⟨g5, 1, none⟩ = some (.int .i64 x1) ∧ w'.cell? ⟨g5, 2, none⟩ = some (.int .i64 x2) ∧ w'.cell? ⟨g5, 3, none⟩ = some (.int .i64 x3))
                  (first
                    | ((with_reducible refine held4 (w := wr) ?_ hgq hcq); (with_reducible refine Below.setCell ?_ (by simp) _); (repeat (with_reducible refine Below.setCell ?_ (by simp) _)); (with_reducible exact below_then (below_new wr _) hb6'))
                    | (with_reducible exact hcqd) | (with_reducible assumption)
                    | (with_reducible exact held4 hb6' hgq hcq)
                    | (with_reducible exact held4 (below_then (below_new wr _) hb6') hgq hcq)
                    | (with_reducible exact held4 (below_then hb6' (below_new w6 _)) hgq hcq)
                    | (with_reducible exact held4 (below_new wr _) hgq hcq) | (with_reducible exact held4 (Below.drew (below_new wr _)) hgq hcq))
                  (first
                    | (go_at_call 48; refine (spec_plain ⟨2, x0, x1, x1, x2, x3⟩ _).mono ?_; rw [hp.out]; rintro e w6 ⟨rfl, hb6⟩; have hb6' := drew_below hb6; have hl6 : g5 < w6.heap.size := Nat.lt_of_lt_of_le hgq (Nat.le_trans (by simp) hb6'.size); (first | (have hbx := (Box.new wr zeroC 45).below hb6'; have hltx := hbx.lt; have cx0 : w6.cell? ⟨wr.heap.size, 0, none⟩ = some (.int .i64 0) := hbx.cell 0; have fx0 := hbx.frozen 0; have cx1 : w6.cell? ⟨wr.heap.size, 1, none⟩ = some (.int .i64 0) := hbx.cell 1; have fx1 := hbx.frozen 1; have cx2 : w6.cell? ⟨wr.heap.size, 2, none⟩ = some (.int .i64 0) := hbx.cell 2; have fx2 := hbx.frozen 2; have cx3 : w6.cell? ⟨wr.heap.size, 3, none⟩ = some (.int .i64 0) := hbx.cell 3; have fx3 := hbx.frozen 3; have cx4 : w6.cell? ⟨wr.heap.size, 4, none⟩ = some (.int .i64 0) := hbx.cell 4; have fx4 := hbx.frozen 4; have cx5 : w6.cell? ⟨wr.heap.size, 5, none⟩ = some (.int .i64 0) := hbx.cell 5; have fx5 := hbx.frozen 5) | skip)))

                · have hx10 := Box.new w6 #[.int .i64 2, .int .i64 x0, .int .i64 x1, .int .i64 0, .int .i64 0, .int .i64 0] 45
                  have hb10 : Below wr.heap.size wr (w6.alloc (.cells #[.int .i64 2, .int .i64 x0, .int .i64 x1, .int .i64 0, .int .i64 0, .int .i64 0] 45)) := below_then hb6' (below_new w6 _)
                  have hle10 : wr.heap.size ≤ w6.heap.size := hb6'.size
                  obtain ⟨w10, hw10⟩ : ∃ w10, w6.alloc (.cells #[.int .i64 2, .int .i64 x0, .int .i64 x1, .int .i64 0, .int .i64 0, .int .i64 0] 45) = w10 := ⟨_, rfl⟩
                  rw [hw10] at hx10 hb10 ⊢
                  obtain ⟨g10, hg10⟩ : ∃ g10, w6.heap.size = g10 := ⟨_, rfl⟩
                  rw [hg10] at hx10 hle10 ⊢
                  clear hw10 hg10 hb6 hb6' hl6
                  have HX10 := Lib.hid (And.intro hx10 (And.intro hb10 hle10))
                  have hc10 := held4 hb10 hgq hcq
                  have hg10 : g5 < w10.heap.size := Nat.lt_of_lt_of_le hgq hb10.size
                  have hne10 : g5 ≠ g10 := by omega
                  have HCD := Lib.hid (show cand 2 (fs.map numV) = ⟨2, x0, x1, 0, 0, 0⟩ by rw [← HXX.out.1, ← HXX.out.2.1]; rfl)
                  have HW0 := Lib.hid (show w.heap.size < wr.heap.size from HQ.out.1.lt)
                  clear hx10 hb10 hcq hcqd
                  have H11 := Lib.hid (And.intro HX10.out.1 HX10.out.2.1)
                  have hle := HX10.out.2.2
                  clear hc10 hg10 hne10 hle10 HX10
                  cases hr : stOk ⟨2, x0, x1, 0, 0, 0⟩
                  · have HR := Lib.hid hr
                    have HN := Lib.hid (show NoneBelow (f0 :: fs) 3 from none_next HQ2.out.2 (by rw [HCD.out, hr]; rintro ⟨h, _⟩; cases h))
                    clear hr
                    go_wp2_with (first
                      | (refine wpList_load_row rfl 45 _ rfl g10 rfl _ _ _ _ H11.out.1 Tryz.underlying45 rfl (by kernel_rfl) ?_)
                      | (go_at_call 49; refine (spec_stmtok ⟨2, x0, x1, 0, 0, 0⟩ false HR.out _).mono ?_; rintro e w12 ⟨rfl, hb12⟩; refine Hid.out ?_))
                    have hb13 := Lib.hid (below_then HQ2.out.1 (below_then H11.out.2 hb12))
                    clear hb12
                    refine Lib.hid ?_
                    go_wp2
                    go_roundw
                    case rel => exact ⟨3, by omega, by omega, rfl, HN, hb13.out⟩
                    case measure => simp [intOf]
                  · have HR := Lib.hid hr
                    obtain ⟨X, hX⟩ : ∃ X, textR ⟨2, x0, x1, 0, 0, 0⟩ = X := ⟨_, rfl⟩
                    have HFM := Lib.hid (show ∀ w, Calls Tryz.prog 24 #[stV ⟨2, x0, x1, 0, 0, 0⟩] w (RetS w X) from fun w => hX ▸ spec_fmtstmt ⟨2, x0, x1, 0, 0, 0⟩ w)
                    have HXT := Lib.hid hX
                    clear hr hX
                    go_wp2_with (first
                      | (refine wpList_load_row rfl 45 _ rfl g10 rfl _ _ _ _ H11.out.1 Tryz.underlying45 rfl (by kernel_rfl) ?_)
                      | (go_at_call 49; refine (spec_stmtok ⟨2, x0, x1, 0, 0, 0⟩ true HR.out _).mono ?_; rintro e w12 ⟨rfl, hb12⟩; refine Hid.out ?_))
                    have H12 := Lib.hid (And.intro (H11.out.1.below hb12) (below_then H11.out.2 hb12))
                    clear hb12 H11
                    have k0 : w12.cell? ⟨g10, 0, none⟩ = some (.int .i64 2) := H12.out.1.cell 0
                    have k1 : w12.cell? ⟨g10, 1, none⟩ = some (.int .i64 x0) := H12.out.1.cell 1
                    have k2 : w12.cell? ⟨g10, 2, none⟩ = some (.int .i64 x1) := H12.out.1.cell 2
                    have k3 : w12.cell? ⟨g10, 3, none⟩ = some (.int .i64 0) := H12.out.1.cell 3
                    have k4 : w12.cell? ⟨g10, 4, none⟩ = some (.int .i64 0) := H12.out.1.cell 4
                    have k5 : w12.cell? ⟨g10, 5, none⟩ = some (.int .i64 0) := H12.out.1.cell 5
                    have kl := H12.out.1.lt
                    refine Lib.hid ?_
                    go_wp2_with (first
                      | (refine wpList_load_row rfl 45 _ rfl g10 rfl _ _ _ _ H12.out.1 Tryz.underlying45 rfl (by kernel_rfl) ?_)
                      | (go_at_call 24; refine (HFM.out _).mono ?_; rintro e w13 ⟨rfl, hb13⟩; refine Hid.out ?_))
                    have H13 := Lib.hid (And.intro (H12.out.1.below hb13) (below_then H12.out.2 hb13))
                    clear hb13 H12 k0 k1 k2 k3 k4 k5 kl
                    cases hq : (X == A)
                    · have HN := Lib.hid (show NoneBelow (f0 :: fs) 3 from none_next HQ2.out.2 (by
                        rw [HCD.out, HXT.out, ← HA.out]; rintro ⟨_, h⟩; rw [h] at hq; simp at hq))
                      have hb14 := Lib.hid (below_then HQ2.out.1 H13.out.2)
                      refine Lib.hid ?_
                      go_wp2
                      go_roundw
                      case rel => exact ⟨3, by omega, by omega, rfl, HN, hb14.out⟩
                      case measure => simp [intOf]
                    · have HF := Lib.hid (show IsParse (fieldsR s.data.toList) ⟨2, x0, x1, 0, 0, 0⟩ true by
                        rw [HFE.out]; refine some_text (by simp) (by rw [← HFE.out]; exact fields_good) ?_
                        rw [HXT.out, ← HA.out]; simpa using hq)
                      have H14 := Lib.hid (And.intro (HQ.out.1.below H13.out.2) (below_then HQ.out.2 H13.out.2))
                      refine Lib.hid ?_
                      go_wp2_with (first
                        | (refine wpList_load_row rfl 45 _ rfl g10 rfl _ _ _ _ H13.out.1 Tryz.underlying45 rfl (by kernel_rfl) ?_)
                        | ((refine wpList_store_box rfl 45 _ _ rfl w.heap.size _ _ H14.out.1 #[.int .i64 2, .int .i64 x0, .int .i64 x1, .int .i64 0, .int .i64 0, .int .i64 0] rfl rfl rfl (by kernel_rfl) (by simp [Value.oneCell']) ?_); intro w15 hx15 hg15; refine Hid.out ?_))
                      have H15 := Lib.hid (And.intro hx15 (H14.out.2.grown hg15 H14.out.2.size (fun j hj => by cases hj; exact Nat.le_refl _)))
                      clear hx15 hg15
                      refine Lib.hid ?_
                      go_wp2
                      exact bodyPost_ret (v := .tuple #[stV ⟨2, x0, x1, 0, 0, 0⟩, .bool true]) (results_box2 rfl _ _ w.heap.size _ _ _ _ rfl rfl H15.out.1 Tryz.underlying45 rfl (by kernel_rfl)) rfl ⟨_, _, rfl, HF, H15.out.2⟩
                · have hx10 : Box wr.heap.size #[.int .i64 2, .int .i64 x0, .int .i64 x1, .int .i64 0, .int .i64 0, .int .i64 0] 45 ((((((w6.setCell ⟨wr.heap.size, 0, none⟩ (.int .i64 2)).setCell ⟨wr.heap.size, 1, none⟩ (.int .i64 x0)).setCell ⟨wr.heap.size, 2, none⟩ (.int .i64 x1)).setCell ⟨wr.heap.size, 3, none⟩ (.int .i64 0)).setCell ⟨wr.heap.size, 4, none⟩ (.int .i64 0)).setCell ⟨wr.heap.size, 5, none⟩ (.int .i64 0)) := (((((hbx.set 0 _).set 1 _).set 2 _).set 3 _).set 4 _).set 5 _
                  have hb10 : Below wr.heap.size wr ((((((w6.setCell ⟨wr.heap.size, 0, none⟩ (.int .i64 2)).setCell ⟨wr.heap.size, 1, none⟩ (.int .i64 x0)).setCell ⟨wr.heap.size, 2, none⟩ (.int .i64 x1)).setCell ⟨wr.heap.size, 3, none⟩ (.int .i64 0)).setCell ⟨wr.heap.size, 4, none⟩ (.int .i64 0)).setCell ⟨wr.heap.size, 5, none⟩ (.int .i64 0)) := ((((((below_then (below_new wr _) hb6').setCell (Nat.le_refl _) _).setCell (Nat.le_refl _) _).setCell (Nat.le_refl _) _).setCell (Nat.le_refl _) _).setCell (Nat.le_refl _) _).setCell (Nat.le_refl _) _
                  obtain ⟨w10, hw10⟩ : ∃ w10, ((((((w6.setCell ⟨wr.heap.size, 0, none⟩ (.int .i64 2)).setCell ⟨wr.heap.size, 1, none⟩ (.int .i64 x0)).setCell ⟨wr.heap.size, 2, none⟩ (.int .i64 x1)).setCell ⟨wr.heap.size, 3, none⟩ (.int .i64 0)).setCell ⟨wr.heap.size, 4, none⟩ (.int .i64 0)).setCell ⟨wr.heap.size, 5, none⟩ (.int .i64 0)) = w10 := ⟨_, rfl⟩
                  rw [hw10] at hx10 hb10 ⊢
                  obtain ⟨g10, hg10⟩ : ∃ g10, wr.heap.size = g10 := ⟨_, rfl⟩
                  rw [hg10] at hx10 ⊢
                  have hle10 : wr.heap.size ≤ g10 := Nat.le_of_eq hg10
                  clear hw10 hg10 hb6 hb6' hl6 hbx hltx cx0 cx1 cx2 cx3 cx4 cx5 fx0 fx1 fx2 fx3 fx4 fx5
                  have HX10 := Lib.hid (And.intro hx10 (And.intro hb10 hle10))
                  have hc10 := held4 hb10 hgq hcq
                  have hg10 : g5 < w10.heap.size := Nat.lt_of_lt_of_le hgq hb10.size
                  have hne10 : g5 ≠ g10 := by omega
                  have HCD := Lib.hid (show cand 2 (fs.map numV) = ⟨2, x0, x1, 0, 0, 0⟩ by rw [← HXX.out.1, ← HXX.out.2.1]; rfl)
                  have HW0 := Lib.hid (show w.heap.size < wr.heap.size from HQ.out.1.lt)
                  clear hx10 hb10 hcq hcqd
                  have H11 := Lib.hid (And.intro HX10.out.1 HX10.out.2.1)
                  have hle := HX10.out.2.2
                  clear hc10 hg10 hne10 hle10 HX10
                  cases hr : stOk ⟨2, x0, x1, 0, 0, 0⟩
                  · have HR := Lib.hid hr
                    have HN := Lib.hid (show NoneBelow (f0 :: fs) 3 from none_next HQ2.out.2 (by rw [HCD.out, hr]; rintro ⟨h, _⟩; cases h))
                    clear hr
                    go_wp2_with (first
                      | (refine wpList_load_row rfl 45 _ rfl g10 rfl _ _ _ _ H11.out.1 Tryz.underlying45 rfl (by kernel_rfl) ?_)
                      | (go_at_call 49; refine (spec_stmtok ⟨2, x0, x1, 0, 0, 0⟩ false HR.out _).mono ?_; rintro e w12 ⟨rfl, hb12⟩; refine Hid.out ?_))
                    have hb13 := Lib.hid (below_then HQ2.out.1 (below_then H11.out.2 hb12))
                    clear hb12
                    refine Lib.hid ?_
                    go_wp2
                    go_roundw
                    case rel => exact ⟨3, by omega, by omega, rfl, HN, hb13.out⟩
                    case measure => simp [intOf]
                  · have HR := Lib.hid hr
                    obtain ⟨X, hX⟩ : ∃ X, textR ⟨2, x0, x1, 0, 0, 0⟩ = X := ⟨_, rfl⟩
                    have HFM := Lib.hid (show ∀ w, Calls Tryz.prog 24 #[stV ⟨2, x0, x1, 0, 0, 0⟩] w (RetS w X) from fun w => hX ▸ spec_fmtstmt ⟨2, x0, x1, 0, 0, 0⟩ w)
                    have HXT := Lib.hid hX
                    clear hr hX
                    go_wp2_with (first
                      | (refine wpList_load_row rfl 45 _ rfl g10 rfl _ _ _ _ H11.out.1 Tryz.underlying45 rfl (by kernel_rfl) ?_)
                      | (go_at_call 49; refine (spec_stmtok ⟨2, x0, x1, 0, 0, 0⟩ true HR.out _).mono ?_; rintro e w12 ⟨rfl, hb12⟩; refine Hid.out ?_))
                    have H12 := Lib.hid (And.intro (H11.out.1.below hb12) (below_then H11.out.2 hb12))
                    clear hb12 H11
                    have k0 : w12.cell? ⟨g10, 0, none⟩ = some (.int .i64 2) := H12.out.1.cell 0
                    have k1 : w12.cell? ⟨g10, 1, none⟩ = some (.int .i64 x0) := H12.out.1.cell 1
                    have k2 : w12.cell? ⟨g10, 2, none⟩ = some (.int .i64 x1) := H12.out.1.cell 2
                    have k3 : w12.cell? ⟨g10, 3, none⟩ = some (.int .i64 0) := H12.out.1.cell 3
                    have k4 : w12.cell? ⟨g10, 4, none⟩ = some (.int .i64 0) := H12.out.1.cell 4
                    have k5 : w12.cell? ⟨g10, 5, none⟩ = some (.int .i64 0) := H12.out.1.cell 5
                    have kl := H12.out.1.lt
                    refine Lib.hid ?_
                    go_wp2_with (first
                      | (refine wpList_load_row rfl 45 _ rfl g10 rfl _ _ _ _ H12.out.1 Tryz.underlying45 rfl (by kernel_rfl) ?_)
                      | (go_at_call 24; refine (HFM.out _).mono ?_; rintro e w13 ⟨rfl, hb13⟩; refine Hid.out ?_))
                    have H13 := Lib.hid (And.intro (H12.out.1.below hb13) (below_then H12.out.2 hb13))
                    clear hb13 H12 k0 k1 k2 k3 k4 k5 kl
                    cases hq : (X == A)
                    · have HN := Lib.hid (show NoneBelow (f0 :: fs) 3 from none_next HQ2.out.2 (by
                        rw [HCD.out, HXT.out, ← HA.out]; rintro ⟨_, h⟩; rw [h] at hq; simp at hq))
                      have hb14 := Lib.hid (below_then HQ2.out.1 H13.out.2)
                      refine Lib.hid ?_
                      go_wp2
                      go_roundw
                      case rel => exact ⟨3, by omega, by omega, rfl, HN, hb14.out⟩
                      case measure => simp [intOf]
                    · have HF := Lib.hid (show IsParse (fieldsR s.data.toList) ⟨2, x0, x1, 0, 0, 0⟩ true by
                        rw [HFE.out]; refine some_text (by simp) (by rw [← HFE.out]; exact fields_good) ?_
                        rw [HXT.out, ← HA.out]; simpa using hq)
                      have H14 := Lib.hid (And.intro (HQ.out.1.below H13.out.2) (below_then HQ.out.2 H13.out.2))
                      refine Lib.hid ?_
                      go_wp2_with (first
                        | (refine wpList_load_row rfl 45 _ rfl g10 rfl _ _ _ _ H13.out.1 Tryz.underlying45 rfl (by kernel_rfl) ?_)
                        | ((refine wpList_store_box rfl 45 _ _ rfl w.heap.size _ _ H14.out.1 #[.int .i64 2, .int .i64 x0, .int .i64 x1, .int .i64 0, .int .i64 0, .int .i64 0] rfl rfl rfl (by kernel_rfl) (by simp [Value.oneCell']) ?_); intro w15 hx15 hg15; refine Hid.out ?_))
                      have H15 := Lib.hid (And.intro hx15 (H14.out.2.grown hg15 H14.out.2.size (fun j hj => by cases hj; exact Nat.le_refl _)))
                      clear hx15 hg15
                      refine Lib.hid ?_
                      go_wp2
                      exact bodyPost_ret (v := .tuple #[stV ⟨2, x0, x1, 0, 0, 0⟩, .bool true]) (results_box2 rfl _ _ w.heap.size _ _ _ _ rfl rfl H15.out.1 Tryz.underlying45 rfl (by kernel_rfl)) rfl ⟨_, _, rfl, HF, H15.out.2⟩
              · have hp : Hid (plain ⟨3, x0, x1, x1, x2, x3⟩ = ⟨3, 0, 0, x1, x2, x3⟩) := rfl
                have hcqd : wr.drew.cell? ⟨g5, 0, none⟩ = some (.int .i64 x0) ∧ wr.drew.cell? ⟨g5, 1, none⟩ = some (.int .i64 x1) ∧ wr.drew.cell? ⟨g5, 2, none⟩ = some (.int .i64 x2) ∧ wr.drew.cell? ⟨g5, 3, none⟩ = some (.int .i64 x3) := hcq
                go_wp2
                go_region_held3 (fun w' => w'.cell? ⟨g5, 0, none⟩ = some (.int .i64 x0) ∧ w'.cell? ⟨g5, 1, none⟩ = some (.int .i64 x1) ∧ w'.cell? ⟨g5, 2, none⟩ = some (.int .i64 x2) ∧ w'.cell? ⟨g5, 3, none⟩ = some (.int .i64 x3))
                  (first
                    | ((with_reducible refine held4 (w := wr) ?_ hgq hcq); (with_reducible refine Below.setCell ?_ (by simp) _); (repeat (with_reducible refine Below.setCell ?_ (by simp) _)); (with_reducible exact below_then (below_new wr _) hb6'))
                    | (with_reducible exact hcqd) | (with_reducible assumption)
                    | (with_reducible exact held4 hb6' hgq hcq)
                    | (with_reducible exact held4 (below_then (below_new wr _) hb6') hgq hcq)
                    | (with_reducible exact held4 (below_then hb6' (below_new w6 _)) hgq hcq)
                    | (with_reducible exact held4 (below_new wr _) hgq hcq) | (with_reducible exact held4 (Below.drew (below_new wr _)) hgq hcq))
                  (first
                    | (go_at_call 48; refine (spec_plain ⟨3, x0, x1, x1, x2, x3⟩ _).mono ?_; rw [hp.out]; rintro e w6 ⟨rfl, hb6⟩; have hb6' := drew_below hb6; have hl6 : g5 < w6.heap.size := Nat.lt_of_lt_of_le hgq (Nat.le_trans (by simp) hb6'.size); (first | (have hbx := (Box.new wr zeroC 45).below hb6'; have hltx := hbx.lt; have cx0 : w6.cell? ⟨wr.heap.size, 0, none⟩ = some (.int .i64 0) := hbx.cell 0; have fx0 := hbx.frozen 0; have cx1 : w6.cell? ⟨wr.heap.size, 1, none⟩ = some (.int .i64 0) := hbx.cell 1; have fx1 := hbx.frozen 1; have cx2 : w6.cell? ⟨wr.heap.size, 2, none⟩ = some (.int .i64 0) := hbx.cell 2; have fx2 := hbx.frozen 2; have cx3 : w6.cell? ⟨wr.heap.size, 3, none⟩ = some (.int .i64 0) := hbx.cell 3; have fx3 := hbx.frozen 3; have cx4 : w6.cell? ⟨wr.heap.size, 4, none⟩ = some (.int .i64 0) := hbx.cell 4; have fx4 := hbx.frozen 4; have cx5 : w6.cell? ⟨wr.heap.size, 5, none⟩ = some (.int .i64 0) := hbx.cell 5; have fx5 := hbx.frozen 5) | skip)))

                · have hx10 := Box.new w6 #[.int .i64 3, .int .i64 0, .int .i64 0, .int .i64 x1, .int .i64 x2, .int .i64 x3] 45
                  have hb10 : Below wr.heap.size wr (w6.alloc (.cells #[.int .i64 3, .int .i64 0, .int .i64 0, .int .i64 x1, .int .i64 x2, .int .i64 x3] 45)) := below_then hb6' (below_new w6 _)
                  have hle10 : wr.heap.size ≤ w6.heap.size := hb6'.size
                  obtain ⟨w10, hw10⟩ : ∃ w10, w6.alloc (.cells #[.int .i64 3, .int .i64 0, .int .i64 0, .int .i64 x1, .int .i64 x2, .int .i64 x3] 45) = w10 := ⟨_, rfl⟩
                  rw [hw10] at hx10 hb10 ⊢
                  obtain ⟨g10, hg10⟩ : ∃ g10, w6.heap.size = g10 := ⟨_, rfl⟩
                  rw [hg10] at hx10 hle10 ⊢
                  clear hw10 hg10 hb6 hb6' hl6
                  have HX10 := Lib.hid (And.intro hx10 (And.intro hb10 hle10))
                  have hc10 := held4 hb10 hgq hcq
                  have hg10 : g5 < w10.heap.size := Nat.lt_of_lt_of_le hgq hb10.size
                  have hne10 : g5 ≠ g10 := by omega
                  have HCD := Lib.hid (show cand 3 (fs.map numV) = ⟨3, 0, 0, x0, x1, x2⟩ by rw [← HXX.out.1, ← HXX.out.2.1, ← HXX.out.2.2.1]; rfl)
                  have HW0 := Lib.hid (show w.heap.size < wr.heap.size from HQ.out.1.lt)
                  clear hx10 hb10 hcq hcqd
                  have hx10' := HX10.out.1
                  have hl10 := hx10'.lt
                  have hc10d : w10.drew.cell? ⟨g5, 0, none⟩ = some (.int .i64 x0) ∧ w10.drew.cell? ⟨g5, 1, none⟩ = some (.int .i64 x1) ∧ w10.drew.cell? ⟨g5, 2, none⟩ = some (.int .i64 x2) ∧ w10.drew.cell? ⟨g5, 3, none⟩ = some (.int .i64 x3) := hc10
                  have d0 : w10.drew.cell? ⟨g10, 3, none⟩ = some (.int .i64 x1) := hx10'.cell 3
                  have d1 : w10.drew.cell? ⟨g10, 4, none⟩ = some (.int .i64 x2) := hx10'.cell 4
                  have d2 : w10.drew.cell? ⟨g10, 5, none⟩ = some (.int .i64 x3) := hx10'.cell 5
                  have d0' : w10.cell? ⟨g10, 3, none⟩ = some (.int .i64 x1) := hx10'.cell 3
                  have d1' : w10.cell? ⟨g10, 4, none⟩ = some (.int .i64 x2) := hx10'.cell 4
                  have d2' : w10.cell? ⟨g10, 5, none⟩ = some (.int .i64 x3) := hx10'.cell 5
                  have e0' := hx10'.frozen 3
                  have e1' := hx10'.frozen 4
                  have e2' := hx10'.frozen 5
                  have e0 : w10.drew.frozen? ⟨g10, 3, none⟩ = false := hx10'.frozen 3
                  have e1 : w10.drew.frozen? ⟨g10, 4, none⟩ = false := hx10'.frozen 4
                  have e2 : w10.drew.frozen? ⟨g10, 5, none⟩ = false := hx10'.frozen 5
                  go_wp2
                  go_region_held3 (fun w' => w'.cell? ⟨g5, 0, none⟩ = some (.int .i64 x0) ∧ w'.cell? ⟨g5, 1, none⟩ = some (.int .i64 x1) ∧ w'.cell? ⟨g5, 2, none⟩ = some (.int .i64 x2) ∧ w'.cell? ⟨g5, 3, none⟩ = some (.int .i64 x3))
                    (first
                      | (with_reducible exact held4g (grown_setCells3 w10.drew g10 _ _ _) hne10 hc10d) | (with_reducible exact held4g (grown_setCells3 w10 g10 _ _ _) hne10 hc10)
                      | (with_reducible exact hc10d) | (with_reducible assumption))
                    (fail)
                  have H11w : Box g10 #[.int .i64 3, .int .i64 0, .int .i64 0, .int .i64 x0, .int .i64 x1, .int .i64 x2] 45 ((((w10.setCell ⟨g10, 3, none⟩ (.int .i64 x0)).setCell ⟨g10, 4, none⟩ (.int .i64 x1)).setCell ⟨g10, 5, none⟩ (.int .i64 x2)).drew) ∧ Below wr.heap.size wr ((((w10.setCell ⟨g10, 3, none⟩ (.int .i64 x0)).setCell ⟨g10, 4, none⟩ (.int .i64 x1)).setCell ⟨g10, 5, none⟩ (.int .i64 x2)).drew) :=
                    ⟨((hx10'.set 3 _).set 4 _).set 5 _, Below.drew (((HX10.out.2.1.setCell HX10.out.2.2 _).setCell HX10.out.2.2 _).setCell HX10.out.2.2 _)⟩
                  obtain ⟨w11, hw11⟩ : ∃ w11, (((w10.setCell ⟨g10, 3, none⟩ (.int .i64 x0)).setCell ⟨g10, 4, none⟩ (.int .i64 x1)).setCell ⟨g10, 5, none⟩ (.int .i64 x2)).drew = w11 := ⟨_, rfl⟩
                  rw [hw11] at H11w ⊢
                  have H11 := Lib.hid H11w
                  have hle := HX10.out.2.2
                  clear H11w hw11 hx10' hl10 hc10d hc10 hg10 hne10 hle10 HX10 d0 d1 d2 e0 e1 e2 d0' d1' d2' e0' e1' e2' 
                  cases hr : stOk ⟨3, 0, 0, x0, x1, x2⟩
                  · have HR := Lib.hid hr
                    have HN := Lib.hid (show NoneBelow (f0 :: fs) 4 from none_next HQ2.out.2 (by rw [HCD.out, hr]; rintro ⟨h, _⟩; cases h))
                    clear hr
                    go_wp2_with (first
                      | (refine wpList_load_row rfl 45 _ rfl g10 rfl _ _ _ _ H11.out.1 Tryz.underlying45 rfl (by kernel_rfl) ?_)
                      | (go_at_call 49; refine (spec_stmtok ⟨3, 0, 0, x0, x1, x2⟩ false HR.out _).mono ?_; rintro e w12 ⟨rfl, hb12⟩; refine Hid.out ?_))
                    have hb13 := Lib.hid (below_then HQ2.out.1 (below_then H11.out.2 hb12))
                    clear hb12
                    refine Lib.hid ?_
                    go_wp2
                    go_roundw
                    case rel => exact ⟨4, by omega, by omega, rfl, HN, hb13.out⟩
                    case measure => simp [intOf]
                  · have HR := Lib.hid hr
                    obtain ⟨X, hX⟩ : ∃ X, textR ⟨3, 0, 0, x0, x1, x2⟩ = X := ⟨_, rfl⟩
                    have HFM := Lib.hid (show ∀ w, Calls Tryz.prog 24 #[stV ⟨3, 0, 0, x0, x1, x2⟩] w (RetS w X) from fun w => hX ▸ spec_fmtstmt ⟨3, 0, 0, x0, x1, x2⟩ w)
                    have HXT := Lib.hid hX
                    clear hr hX
                    go_wp2_with (first
                      | (refine wpList_load_row rfl 45 _ rfl g10 rfl _ _ _ _ H11.out.1 Tryz.underlying45 rfl (by kernel_rfl) ?_)
                      | (go_at_call 49; refine (spec_stmtok ⟨3, 0, 0, x0, x1, x2⟩ true HR.out _).mono ?_; rintro e w12 ⟨rfl, hb12⟩; refine Hid.out ?_))
                    have H12 := Lib.hid (And.intro (H11.out.1.below hb12) (below_then H11.out.2 hb12))
                    clear hb12 H11
                    have k0 : w12.cell? ⟨g10, 0, none⟩ = some (.int .i64 3) := H12.out.1.cell 0
                    have k1 : w12.cell? ⟨g10, 1, none⟩ = some (.int .i64 0) := H12.out.1.cell 1
                    have k2 : w12.cell? ⟨g10, 2, none⟩ = some (.int .i64 0) := H12.out.1.cell 2
                    have k3 : w12.cell? ⟨g10, 3, none⟩ = some (.int .i64 x0) := H12.out.1.cell 3
                    have k4 : w12.cell? ⟨g10, 4, none⟩ = some (.int .i64 x1) := H12.out.1.cell 4
                    have k5 : w12.cell? ⟨g10, 5, none⟩ = some (.int .i64 x2) := H12.out.1.cell 5
                    have kl := H12.out.1.lt
                    refine Lib.hid ?_
                    go_wp2_with (first
                      | (refine wpList_load_row rfl 45 _ rfl g10 rfl _ _ _ _ H12.out.1 Tryz.underlying45 rfl (by kernel_rfl) ?_)
                      | (go_at_call 24; refine (HFM.out _).mono ?_; rintro e w13 ⟨rfl, hb13⟩; refine Hid.out ?_))
                    have H13 := Lib.hid (And.intro (H12.out.1.below hb13) (below_then H12.out.2 hb13))
                    clear hb13 H12 k0 k1 k2 k3 k4 k5 kl
                    cases hq : (X == A)
                    · have HN := Lib.hid (show NoneBelow (f0 :: fs) 4 from none_next HQ2.out.2 (by
                        rw [HCD.out, HXT.out, ← HA.out]; rintro ⟨_, h⟩; rw [h] at hq; simp at hq))
                      have hb14 := Lib.hid (below_then HQ2.out.1 H13.out.2)
                      refine Lib.hid ?_
                      go_wp2
                      go_roundw
                      case rel => exact ⟨4, by omega, by omega, rfl, HN, hb14.out⟩
                      case measure => simp [intOf]
                    · have HF := Lib.hid (show IsParse (fieldsR s.data.toList) ⟨3, 0, 0, x0, x1, x2⟩ true by
                        rw [HFE.out]; refine some_text (by simp) (by rw [← HFE.out]; exact fields_good) ?_
                        rw [HXT.out, ← HA.out]; simpa using hq)
                      have H14 := Lib.hid (And.intro (HQ.out.1.below H13.out.2) (below_then HQ.out.2 H13.out.2))
                      refine Lib.hid ?_
                      go_wp2_with (first
                        | (refine wpList_load_row rfl 45 _ rfl g10 rfl _ _ _ _ H13.out.1 Tryz.underlying45 rfl (by kernel_rfl) ?_)
                        | ((refine wpList_store_box rfl 45 _ _ rfl w.heap.size _ _ H14.out.1 #[.int .i64 3, .int .i64 0, .int .i64 0, .int .i64 x0, .int .i64 x1, .int .i64 x2] rfl rfl rfl (by kernel_rfl) (by simp [Value.oneCell']) ?_); intro w15 hx15 hg15; refine Hid.out ?_))
                      have H15 := Lib.hid (And.intro hx15 (H14.out.2.grown hg15 H14.out.2.size (fun j hj => by cases hj; exact Nat.le_refl _)))
                      clear hx15 hg15
                      refine Lib.hid ?_
                      go_wp2
                      exact bodyPost_ret (v := .tuple #[stV ⟨3, 0, 0, x0, x1, x2⟩, .bool true]) (results_box2 rfl _ _ w.heap.size _ _ _ _ rfl rfl H15.out.1 Tryz.underlying45 rfl (by kernel_rfl)) rfl ⟨_, _, rfl, HF, H15.out.2⟩
                · have hx10 : Box wr.heap.size #[.int .i64 3, .int .i64 0, .int .i64 0, .int .i64 x1, .int .i64 x2, .int .i64 x3] 45 ((((((w6.setCell ⟨wr.heap.size, 0, none⟩ (.int .i64 3)).setCell ⟨wr.heap.size, 1, none⟩ (.int .i64 0)).setCell ⟨wr.heap.size, 2, none⟩ (.int .i64 0)).setCell ⟨wr.heap.size, 3, none⟩ (.int .i64 x1)).setCell ⟨wr.heap.size, 4, none⟩ (.int .i64 x2)).setCell ⟨wr.heap.size, 5, none⟩ (.int .i64 x3)) := (((((hbx.set 0 _).set 1 _).set 2 _).set 3 _).set 4 _).set 5 _
                  have hb10 : Below wr.heap.size wr ((((((w6.setCell ⟨wr.heap.size, 0, none⟩ (.int .i64 3)).setCell ⟨wr.heap.size, 1, none⟩ (.int .i64 0)).setCell ⟨wr.heap.size, 2, none⟩ (.int .i64 0)).setCell ⟨wr.heap.size, 3, none⟩ (.int .i64 x1)).setCell ⟨wr.heap.size, 4, none⟩ (.int .i64 x2)).setCell ⟨wr.heap.size, 5, none⟩ (.int .i64 x3)) := ((((((below_then (below_new wr _) hb6').setCell (Nat.le_refl _) _).setCell (Nat.le_refl _) _).setCell (Nat.le_refl _) _).setCell (Nat.le_refl _) _).setCell (Nat.le_refl _) _).setCell (Nat.le_refl _) _
                  obtain ⟨w10, hw10⟩ : ∃ w10, ((((((w6.setCell ⟨wr.heap.size, 0, none⟩ (.int .i64 3)).setCell ⟨wr.heap.size, 1, none⟩ (.int .i64 0)).setCell ⟨wr.heap.size, 2, none⟩ (.int .i64 0)).setCell ⟨wr.heap.size, 3, none⟩ (.int .i64 x1)).setCell ⟨wr.heap.size, 4, none⟩ (.int .i64 x2)).setCell ⟨wr.heap.size, 5, none⟩ (.int .i64 x3)) = w10 := ⟨_, rfl⟩
                  rw [hw10] at hx10 hb10 ⊢
                  obtain ⟨g10, hg10⟩ : ∃ g10, wr.heap.size = g10 := ⟨_, rfl⟩
                  rw [hg10] at hx10 ⊢
                  have hle10 : wr.heap.size ≤ g10 := Nat.le_of_eq hg10
                  clear hw10 hg10 hb6 hb6' hl6 hbx hltx cx0 cx1 cx2 cx3 cx4 cx5 fx0 fx1 fx2 fx3 fx4 fx5
                  have HX10 := Lib.hid (And.intro hx10 (And.intro hb10 hle10))
                  have hc10 := held4 hb10 hgq hcq
                  have hg10 : g5 < w10.heap.size := Nat.lt_of_lt_of_le hgq hb10.size
                  have hne10 : g5 ≠ g10 := by omega
                  have HCD := Lib.hid (show cand 3 (fs.map numV) = ⟨3, 0, 0, x0, x1, x2⟩ by rw [← HXX.out.1, ← HXX.out.2.1, ← HXX.out.2.2.1]; rfl)
                  have HW0 := Lib.hid (show w.heap.size < wr.heap.size from HQ.out.1.lt)
                  clear hx10 hb10 hcq hcqd
                  have hx10' := HX10.out.1
                  have hl10 := hx10'.lt
                  have hc10d : w10.drew.cell? ⟨g5, 0, none⟩ = some (.int .i64 x0) ∧ w10.drew.cell? ⟨g5, 1, none⟩ = some (.int .i64 x1) ∧ w10.drew.cell? ⟨g5, 2, none⟩ = some (.int .i64 x2) ∧ w10.drew.cell? ⟨g5, 3, none⟩ = some (.int .i64 x3) := hc10
                  have d0 : w10.drew.cell? ⟨g10, 3, none⟩ = some (.int .i64 x1) := hx10'.cell 3
                  have d1 : w10.drew.cell? ⟨g10, 4, none⟩ = some (.int .i64 x2) := hx10'.cell 4
                  have d2 : w10.drew.cell? ⟨g10, 5, none⟩ = some (.int .i64 x3) := hx10'.cell 5
                  have d0' : w10.cell? ⟨g10, 3, none⟩ = some (.int .i64 x1) := hx10'.cell 3
                  have d1' : w10.cell? ⟨g10, 4, none⟩ = some (.int .i64 x2) := hx10'.cell 4
                  have d2' : w10.cell? ⟨g10, 5, none⟩ = some (.int .i64 x3) := hx10'.cell 5
                  have e0' := hx10'.frozen 3
                  have e1' := hx10'.frozen 4
                  have e2' := hx10'.frozen 5
                  have e0 : w10.drew.frozen? ⟨g10, 3, none⟩ = false := hx10'.frozen 3
                  have e1 : w10.drew.frozen? ⟨g10, 4, none⟩ = false := hx10'.frozen 4
                  have e2 : w10.drew.frozen? ⟨g10, 5, none⟩ = false := hx10'.frozen 5
                  go_wp2
                  go_region_held3 (fun w' => w'.cell? ⟨g5, 0, none⟩ = some (.int .i64 x0) ∧ w'.cell? ⟨g5, 1, none⟩ = some (.int .i64 x1) ∧ w'.cell? ⟨g5, 2, none⟩ = some (.int .i64 x2) ∧ w'.cell? ⟨g5, 3, none⟩ = some (.int .i64 x3))
                    (first
                      | (with_reducible exact held4g (grown_setCells3 w10.drew g10 _ _ _) hne10 hc10d) | (with_reducible exact held4g (grown_setCells3 w10 g10 _ _ _) hne10 hc10)
                      | (with_reducible exact hc10d) | (with_reducible assumption))
                    (fail)
                  have H11w : Box g10 #[.int .i64 3, .int .i64 0, .int .i64 0, .int .i64 x0, .int .i64 x1, .int .i64 x2] 45 ((((w10.setCell ⟨g10, 3, none⟩ (.int .i64 x0)).setCell ⟨g10, 4, none⟩ (.int .i64 x1)).setCell ⟨g10, 5, none⟩ (.int .i64 x2)).drew) ∧ Below wr.heap.size wr ((((w10.setCell ⟨g10, 3, none⟩ (.int .i64 x0)).setCell ⟨g10, 4, none⟩ (.int .i64 x1)).setCell ⟨g10, 5, none⟩ (.int .i64 x2)).drew) :=
                    ⟨((hx10'.set 3 _).set 4 _).set 5 _, Below.drew (((HX10.out.2.1.setCell HX10.out.2.2 _).setCell HX10.out.2.2 _).setCell HX10.out.2.2 _)⟩
                  obtain ⟨w11, hw11⟩ : ∃ w11, (((w10.setCell ⟨g10, 3, none⟩ (.int .i64 x0)).setCell ⟨g10, 4, none⟩ (.int .i64 x1)).setCell ⟨g10, 5, none⟩ (.int .i64 x2)).drew = w11 := ⟨_, rfl⟩
                  rw [hw11] at H11w ⊢
                  have H11 := Lib.hid H11w
                  have hle := HX10.out.2.2
                  clear H11w hw11 hx10' hl10 hc10d hc10 hg10 hne10 hle10 HX10 d0 d1 d2 e0 e1 e2 d0' d1' d2' e0' e1' e2' 
                  cases hr : stOk ⟨3, 0, 0, x0, x1, x2⟩
                  · have HR := Lib.hid hr
                    have HN := Lib.hid (show NoneBelow (f0 :: fs) 4 from none_next HQ2.out.2 (by rw [HCD.out, hr]; rintro ⟨h, _⟩; cases h))
                    clear hr
                    go_wp2_with (first
                      | (refine wpList_load_row rfl 45 _ rfl g10 rfl _ _ _ _ H11.out.1 Tryz.underlying45 rfl (by kernel_rfl) ?_)
                      | (go_at_call 49; refine (spec_stmtok ⟨3, 0, 0, x0, x1, x2⟩ false HR.out _).mono ?_; rintro e w12 ⟨rfl, hb12⟩; refine Hid.out ?_))
                    have hb13 := Lib.hid (below_then HQ2.out.1 (below_then H11.out.2 hb12))
                    clear hb12
                    refine Lib.hid ?_
                    go_wp2
                    go_roundw
                    case rel => exact ⟨4, by omega, by omega, rfl, HN, hb13.out⟩
                    case measure => simp [intOf]
                  · have HR := Lib.hid hr
                    obtain ⟨X, hX⟩ : ∃ X, textR ⟨3, 0, 0, x0, x1, x2⟩ = X := ⟨_, rfl⟩
                    have HFM := Lib.hid (show ∀ w, Calls Tryz.prog 24 #[stV ⟨3, 0, 0, x0, x1, x2⟩] w (RetS w X) from fun w => hX ▸ spec_fmtstmt ⟨3, 0, 0, x0, x1, x2⟩ w)
                    have HXT := Lib.hid hX
                    clear hr hX
                    go_wp2_with (first
                      | (refine wpList_load_row rfl 45 _ rfl g10 rfl _ _ _ _ H11.out.1 Tryz.underlying45 rfl (by kernel_rfl) ?_)
                      | (go_at_call 49; refine (spec_stmtok ⟨3, 0, 0, x0, x1, x2⟩ true HR.out _).mono ?_; rintro e w12 ⟨rfl, hb12⟩; refine Hid.out ?_))
                    have H12 := Lib.hid (And.intro (H11.out.1.below hb12) (below_then H11.out.2 hb12))
                    clear hb12 H11
                    have k0 : w12.cell? ⟨g10, 0, none⟩ = some (.int .i64 3) := H12.out.1.cell 0
                    have k1 : w12.cell? ⟨g10, 1, none⟩ = some (.int .i64 0) := H12.out.1.cell 1
                    have k2 : w12.cell? ⟨g10, 2, none⟩ = some (.int .i64 0) := H12.out.1.cell 2
                    have k3 : w12.cell? ⟨g10, 3, none⟩ = some (.int .i64 x0) := H12.out.1.cell 3
                    have k4 : w12.cell? ⟨g10, 4, none⟩ = some (.int .i64 x1) := H12.out.1.cell 4
                    have k5 : w12.cell? ⟨g10, 5, none⟩ = some (.int .i64 x2) := H12.out.1.cell 5
                    have kl := H12.out.1.lt
                    refine Lib.hid ?_
                    go_wp2_with (first
                      | (refine wpList_load_row rfl 45 _ rfl g10 rfl _ _ _ _ H12.out.1 Tryz.underlying45 rfl (by kernel_rfl) ?_)
                      | (go_at_call 24; refine (HFM.out _).mono ?_; rintro e w13 ⟨rfl, hb13⟩; refine Hid.out ?_))
                    have H13 := Lib.hid (And.intro (H12.out.1.below hb13) (below_then H12.out.2 hb13))
                    clear hb13 H12 k0 k1 k2 k3 k4 k5 kl
                    cases hq : (X == A)
                    · have HN := Lib.hid (show NoneBelow (f0 :: fs) 4 from none_next HQ2.out.2 (by
                        rw [HCD.out, HXT.out, ← HA.out]; rintro ⟨_, h⟩; rw [h] at hq; simp at hq))
                      have hb14 := Lib.hid (below_then HQ2.out.1 H13.out.2)
                      refine Lib.hid ?_
                      go_wp2
                      go_roundw
                      case rel => exact ⟨4, by omega, by omega, rfl, HN, hb14.out⟩
                      case measure => simp [intOf]
                    · have HF := Lib.hid (show IsParse (fieldsR s.data.toList) ⟨3, 0, 0, x0, x1, x2⟩ true by
                        rw [HFE.out]; refine some_text (by simp) (by rw [← HFE.out]; exact fields_good) ?_
                        rw [HXT.out, ← HA.out]; simpa using hq)
                      have H14 := Lib.hid (And.intro (HQ.out.1.below H13.out.2) (below_then HQ.out.2 H13.out.2))
                      refine Lib.hid ?_
                      go_wp2_with (first
                        | (refine wpList_load_row rfl 45 _ rfl g10 rfl _ _ _ _ H13.out.1 Tryz.underlying45 rfl (by kernel_rfl) ?_)
                        | ((refine wpList_store_box rfl 45 _ _ rfl w.heap.size _ _ H14.out.1 #[.int .i64 3, .int .i64 0, .int .i64 0, .int .i64 x0, .int .i64 x1, .int .i64 x2] rfl rfl rfl (by kernel_rfl) (by simp [Value.oneCell']) ?_); intro w15 hx15 hg15; refine Hid.out ?_))
                      have H15 := Lib.hid (And.intro hx15 (H14.out.2.grown hg15 H14.out.2.size (fun j hj => by cases hj; exact Nat.le_refl _)))
                      clear hx15 hg15
                      refine Lib.hid ?_
                      go_wp2
                      exact bodyPost_ret (v := .tuple #[stV ⟨3, 0, 0, x0, x1, x2⟩, .bool true]) (results_box2 rfl _ _ w.heap.size _ _ _ _ rfl rfl H15.out.1 Tryz.underlying45 rfl (by kernel_rfl)) rfl ⟨_, _, rfl, HF, H15.out.2⟩
              · have hp : Hid (plain ⟨4, x0, x1, x1, x2, x3⟩ = ⟨4, 0, 0, x1, x2, x3⟩) := rfl
                have hcqd : wr.drew.cell? ⟨g5, 0, none⟩ = some (.int .i64 x0) ∧ wr.drew.cell? ⟨g5, 1, none⟩ = some (.int .i64 x1) ∧ wr.drew.cell? ⟨g5, 2, none⟩ = some (.int .i64 x2) ∧ wr.drew.cell? ⟨g5, 3, none⟩ = some (.int .i64 x3) := hcq
                go_wp2
                go_region_held3 (fun w' => w'.cell? ⟨g5, 0, none⟩ = some (.int .i64 x0) ∧ w'.cell? ⟨g5, 1, none⟩ = some (.int .i64 x1) ∧ w'.cell? ⟨g5, 2, none⟩ = some (.int .i64 x2) ∧ w'.cell? ⟨g5, 3, none⟩ = some (.int .i64 x3))
                  (first
                    | ((with_reducible refine held4 (w := wr) ?_ hgq hcq); (with_reducible refine Below.setCell ?_ (by simp) _); (repeat (with_reducible refine Below.setCell ?_ (by simp) _)); (with_reducible exact below_then (below_new wr _) hb6'))
                    | (with_reducible exact hcqd) | (with_reducible assumption)
                    | (with_reducible exact held4 hb6' hgq hcq)
                    | (with_reducible exact held4 (below_then (below_new wr _) hb6') hgq hcq)
                    | (with_reducible exact held4 (below_then hb6' (below_new w6 _)) hgq hcq)
                    | (with_reducible exact held4 (below_new wr _) hgq hcq) | (with_reducible exact held4 (Below.drew (below_new wr _)) hgq hcq))
                  (first
                    | (go_at_call 48; refine (spec_plain ⟨4, x0, x1, x1, x2, x3⟩ _).mono ?_; rw [hp.out]; rintro e w6 ⟨rfl, hb6⟩; have hb6' := drew_below hb6; have hl6 : g5 < w6.heap.size := Nat.lt_of_lt_of_le hgq (Nat.le_trans (by simp) hb6'.size); (first | (have hbx := (Box.new wr zeroC 45).below hb6'; have hltx := hbx.lt; have cx0 : w6.cell? ⟨wr.heap.size, 0, none⟩ = some (.int .i64 0) := hbx.cell 0; have fx0 := hbx.frozen 0; have cx1 : w6.cell? ⟨wr.heap.size, 1, none⟩ = some (.int .i64 0) := hbx.cell 1; have fx1 := hbx.frozen 1; have cx2 : w6.cell? ⟨wr.heap.size, 2, none⟩ = some (.int .i64 0) := hbx.cell 2; have fx2 := hbx.frozen 2; have cx3 : w6.cell? ⟨wr.heap.size, 3, none⟩ = some (.int .i64 0) := hbx.cell 3; have fx3 := hbx.frozen 3; have cx4 : w6.cell? ⟨wr.heap.size, 4, none⟩ = some (.int .i64 0) := hbx.cell 4; have fx4 := hbx.frozen 4; have cx5 : w6.cell? ⟨wr.heap.size, 5, none⟩ = some (.int .i64 0) := hbx.cell 5; have fx5 := hbx.frozen 5) | skip)))

                · have hx10 := Box.new w6 #[.int .i64 4, .int .i64 0, .int .i64 0, .int .i64 x1, .int .i64 x2, .int .i64 x3] 45
                  have hb10 : Below wr.heap.size wr (w6.alloc (.cells #[.int .i64 4, .int .i64 0, .int .i64 0, .int .i64 x1, .int .i64 x2, .int .i64 x3] 45)) := below_then hb6' (below_new w6 _)
                  have hle10 : wr.heap.size ≤ w6.heap.size := hb6'.size
                  obtain ⟨w10, hw10⟩ : ∃ w10, w6.alloc (.cells #[.int .i64 4, .int .i64 0, .int .i64 0, .int .i64 x1, .int .i64 x2, .int .i64 x3] 45) = w10 := ⟨_, rfl⟩
                  rw [hw10] at hx10 hb10 ⊢
                  obtain ⟨g10, hg10⟩ : ∃ g10, w6.heap.size = g10 := ⟨_, rfl⟩
                  rw [hg10] at hx10 hle10 ⊢
                  clear hw10 hg10 hb6 hb6' hl6
                  have HX10 := Lib.hid (And.intro hx10 (And.intro hb10 hle10))
                  have hc10 := held4 hb10 hgq hcq
                  have hg10 : g5 < w10.heap.size := Nat.lt_of_lt_of_le hgq hb10.size
                  have hne10 : g5 ≠ g10 := by omega
                  have HCD := Lib.hid (show cand 4 (fs.map numV) = ⟨4, 0, 0, x0, x1, x2⟩ by rw [← HXX.out.1, ← HXX.out.2.1, ← HXX.out.2.2.1]; rfl)
                  have HW0 := Lib.hid (show w.heap.size < wr.heap.size from HQ.out.1.lt)
                  clear hx10 hb10 hcq hcqd
                  have hx10' := HX10.out.1
                  have hl10 := hx10'.lt
                  have hc10d : w10.drew.cell? ⟨g5, 0, none⟩ = some (.int .i64 x0) ∧ w10.drew.cell? ⟨g5, 1, none⟩ = some (.int .i64 x1) ∧ w10.drew.cell? ⟨g5, 2, none⟩ = some (.int .i64 x2) ∧ w10.drew.cell? ⟨g5, 3, none⟩ = some (.int .i64 x3) := hc10
                  have d0 : w10.drew.cell? ⟨g10, 3, none⟩ = some (.int .i64 x1) := hx10'.cell 3
                  have d1 : w10.drew.cell? ⟨g10, 4, none⟩ = some (.int .i64 x2) := hx10'.cell 4
                  have d2 : w10.drew.cell? ⟨g10, 5, none⟩ = some (.int .i64 x3) := hx10'.cell 5
                  have d0' : w10.cell? ⟨g10, 3, none⟩ = some (.int .i64 x1) := hx10'.cell 3
                  have d1' : w10.cell? ⟨g10, 4, none⟩ = some (.int .i64 x2) := hx10'.cell 4
                  have d2' : w10.cell? ⟨g10, 5, none⟩ = some (.int .i64 x3) := hx10'.cell 5
                  have e0' := hx10'.frozen 3
                  have e1' := hx10'.frozen 4
                  have e2' := hx10'.frozen 5
                  have e0 : w10.drew.frozen? ⟨g10, 3, none⟩ = false := hx10'.frozen 3
                  have e1 : w10.drew.frozen? ⟨g10, 4, none⟩ = false := hx10'.frozen 4
                  have e2 : w10.drew.frozen? ⟨g10, 5, none⟩ = false := hx10'.frozen 5
                  go_wp2
                  go_region_held3 (fun w' => w'.cell? ⟨g5, 0, none⟩ = some (.int .i64 x0) ∧ w'.cell? ⟨g5, 1, none⟩ = some (.int .i64 x1) ∧ w'.cell? ⟨g5, 2, none⟩ = some (.int .i64 x2) ∧ w'.cell? ⟨g5, 3, none⟩ = some (.int .i64 x3))
                    (first
                      | (with_reducible exact held4g (grown_setCells3 w10.drew g10 _ _ _) hne10 hc10d) | (with_reducible exact held4g (grown_setCells3 w10 g10 _ _ _) hne10 hc10)
                      | (with_reducible exact hc10d) | (with_reducible assumption))
                    (fail)
                  have H11w : Box g10 #[.int .i64 4, .int .i64 0, .int .i64 0, .int .i64 x0, .int .i64 x1, .int .i64 x2] 45 ((((w10.setCell ⟨g10, 3, none⟩ (.int .i64 x0)).setCell ⟨g10, 4, none⟩ (.int .i64 x1)).setCell ⟨g10, 5, none⟩ (.int .i64 x2)).drew) ∧ Below wr.heap.size wr ((((w10.setCell ⟨g10, 3, none⟩ (.int .i64 x0)).setCell ⟨g10, 4, none⟩ (.int .i64 x1)).setCell ⟨g10, 5, none⟩ (.int .i64 x2)).drew) :=
                    ⟨((hx10'.set 3 _).set 4 _).set 5 _, Below.drew (((HX10.out.2.1.setCell HX10.out.2.2 _).setCell HX10.out.2.2 _).setCell HX10.out.2.2 _)⟩
                  obtain ⟨w11, hw11⟩ : ∃ w11, (((w10.setCell ⟨g10, 3, none⟩ (.int .i64 x0)).setCell ⟨g10, 4, none⟩ (.int .i64 x1)).setCell ⟨g10, 5, none⟩ (.int .i64 x2)).drew = w11 := ⟨_, rfl⟩
                  rw [hw11] at H11w ⊢
                  have H11 := Lib.hid H11w
                  have hle := HX10.out.2.2
                  clear H11w hw11 hx10' hl10 hc10d hc10 hg10 hne10 hle10 HX10 d0 d1 d2 e0 e1 e2 d0' d1' d2' e0' e1' e2' 
                  cases hr : stOk ⟨4, 0, 0, x0, x1, x2⟩
                  · have HR := Lib.hid hr
                    have HN := Lib.hid (show NoneBelow (f0 :: fs) 5 from none_next HQ2.out.2 (by rw [HCD.out, hr]; rintro ⟨h, _⟩; cases h))
                    clear hr
                    go_wp2_with (first
                      | (refine wpList_load_row rfl 45 _ rfl g10 rfl _ _ _ _ H11.out.1 Tryz.underlying45 rfl (by kernel_rfl) ?_)
                      | (go_at_call 49; refine (spec_stmtok ⟨4, 0, 0, x0, x1, x2⟩ false HR.out _).mono ?_; rintro e w12 ⟨rfl, hb12⟩; refine Hid.out ?_))
                    have hb13 := Lib.hid (below_then HQ2.out.1 (below_then H11.out.2 hb12))
                    clear hb12
                    refine Lib.hid ?_
                    go_wp2
                    go_roundw
                    case rel => exact ⟨5, by omega, by omega, rfl, HN, hb13.out⟩
                    case measure => simp [intOf]
                  · have HR := Lib.hid hr
                    obtain ⟨X, hX⟩ : ∃ X, textR ⟨4, 0, 0, x0, x1, x2⟩ = X := ⟨_, rfl⟩
                    have HFM := Lib.hid (show ∀ w, Calls Tryz.prog 24 #[stV ⟨4, 0, 0, x0, x1, x2⟩] w (RetS w X) from fun w => hX ▸ spec_fmtstmt ⟨4, 0, 0, x0, x1, x2⟩ w)
                    have HXT := Lib.hid hX
                    clear hr hX
                    go_wp2_with (first
                      | (refine wpList_load_row rfl 45 _ rfl g10 rfl _ _ _ _ H11.out.1 Tryz.underlying45 rfl (by kernel_rfl) ?_)
                      | (go_at_call 49; refine (spec_stmtok ⟨4, 0, 0, x0, x1, x2⟩ true HR.out _).mono ?_; rintro e w12 ⟨rfl, hb12⟩; refine Hid.out ?_))
                    have H12 := Lib.hid (And.intro (H11.out.1.below hb12) (below_then H11.out.2 hb12))
                    clear hb12 H11
                    have k0 : w12.cell? ⟨g10, 0, none⟩ = some (.int .i64 4) := H12.out.1.cell 0
                    have k1 : w12.cell? ⟨g10, 1, none⟩ = some (.int .i64 0) := H12.out.1.cell 1
                    have k2 : w12.cell? ⟨g10, 2, none⟩ = some (.int .i64 0) := H12.out.1.cell 2
                    have k3 : w12.cell? ⟨g10, 3, none⟩ = some (.int .i64 x0) := H12.out.1.cell 3
                    have k4 : w12.cell? ⟨g10, 4, none⟩ = some (.int .i64 x1) := H12.out.1.cell 4
                    have k5 : w12.cell? ⟨g10, 5, none⟩ = some (.int .i64 x2) := H12.out.1.cell 5
                    have kl := H12.out.1.lt
                    refine Lib.hid ?_
                    go_wp2_with (first
                      | (refine wpList_load_row rfl 45 _ rfl g10 rfl _ _ _ _ H12.out.1 Tryz.underlying45 rfl (by kernel_rfl) ?_)
                      | (go_at_call 24; refine (HFM.out _).mono ?_; rintro e w13 ⟨rfl, hb13⟩; refine Hid.out ?_))
                    have H13 := Lib.hid (And.intro (H12.out.1.below hb13) (below_then H12.out.2 hb13))
                    clear hb13 H12 k0 k1 k2 k3 k4 k5 kl
                    cases hq : (X == A)
                    · have HN := Lib.hid (show NoneBelow (f0 :: fs) 5 from none_next HQ2.out.2 (by
                        rw [HCD.out, HXT.out, ← HA.out]; rintro ⟨_, h⟩; rw [h] at hq; simp at hq))
                      have hb14 := Lib.hid (below_then HQ2.out.1 H13.out.2)
                      refine Lib.hid ?_
                      go_wp2
                      go_roundw
                      case rel => exact ⟨5, by omega, by omega, rfl, HN, hb14.out⟩
                      case measure => simp [intOf]
                    · have HF := Lib.hid (show IsParse (fieldsR s.data.toList) ⟨4, 0, 0, x0, x1, x2⟩ true by
                        rw [HFE.out]; refine some_text (by simp) (by rw [← HFE.out]; exact fields_good) ?_
                        rw [HXT.out, ← HA.out]; simpa using hq)
                      have H14 := Lib.hid (And.intro (HQ.out.1.below H13.out.2) (below_then HQ.out.2 H13.out.2))
                      refine Lib.hid ?_
                      go_wp2_with (first
                        | (refine wpList_load_row rfl 45 _ rfl g10 rfl _ _ _ _ H13.out.1 Tryz.underlying45 rfl (by kernel_rfl) ?_)
                        | ((refine wpList_store_box rfl 45 _ _ rfl w.heap.size _ _ H14.out.1 #[.int .i64 4, .int .i64 0, .int .i64 0, .int .i64 x0, .int .i64 x1, .int .i64 x2] rfl rfl rfl (by kernel_rfl) (by simp [Value.oneCell']) ?_); intro w15 hx15 hg15; refine Hid.out ?_))
                      have H15 := Lib.hid (And.intro hx15 (H14.out.2.grown hg15 H14.out.2.size (fun j hj => by cases hj; exact Nat.le_refl _)))
                      clear hx15 hg15
                      refine Lib.hid ?_
                      go_wp2
                      exact bodyPost_ret (v := .tuple #[stV ⟨4, 0, 0, x0, x1, x2⟩, .bool true]) (results_box2 rfl _ _ w.heap.size _ _ _ _ rfl rfl H15.out.1 Tryz.underlying45 rfl (by kernel_rfl)) rfl ⟨_, _, rfl, HF, H15.out.2⟩
                · have hx10 : Box wr.heap.size #[.int .i64 4, .int .i64 0, .int .i64 0, .int .i64 x1, .int .i64 x2, .int .i64 x3] 45 ((((((w6.setCell ⟨wr.heap.size, 0, none⟩ (.int .i64 4)).setCell ⟨wr.heap.size, 1, none⟩ (.int .i64 0)).setCell ⟨wr.heap.size, 2, none⟩ (.int .i64 0)).setCell ⟨wr.heap.size, 3, none⟩ (.int .i64 x1)).setCell ⟨wr.heap.size, 4, none⟩ (.int .i64 x2)).setCell ⟨wr.heap.size, 5, none⟩ (.int .i64 x3)) := (((((hbx.set 0 _).set 1 _).set 2 _).set 3 _).set 4 _).set 5 _
                  have hb10 : Below wr.heap.size wr ((((((w6.setCell ⟨wr.heap.size, 0, none⟩ (.int .i64 4)).setCell ⟨wr.heap.size, 1, none⟩ (.int .i64 0)).setCell ⟨wr.heap.size, 2, none⟩ (.int .i64 0)).setCell ⟨wr.heap.size, 3, none⟩ (.int .i64 x1)).setCell ⟨wr.heap.size, 4, none⟩ (.int .i64 x2)).setCell ⟨wr.heap.size, 5, none⟩ (.int .i64 x3)) := ((((((below_then (below_new wr _) hb6').setCell (Nat.le_refl _) _).setCell (Nat.le_refl _) _).setCell (Nat.le_refl _) _).setCell (Nat.le_refl _) _).setCell (Nat.le_refl _) _).setCell (Nat.le_refl _) _
                  obtain ⟨w10, hw10⟩ : ∃ w10, ((((((w6.setCell ⟨wr.heap.size, 0, none⟩ (.int .i64 4)).setCell ⟨wr.heap.size, 1, none⟩ (.int .i64 0)).setCell ⟨wr.heap.size, 2, none⟩ (.int .i64 0)).setCell ⟨wr.heap.size, 3, none⟩ (.int .i64 x1)).setCell ⟨wr.heap.size, 4, none⟩ (.int .i64 x2)).setCell ⟨wr.heap.size, 5, none⟩ (.int .i64 x3)) = w10 := ⟨_, rfl⟩
                  rw [hw10] at hx10 hb10 ⊢
                  obtain ⟨g10, hg10⟩ : ∃ g10, wr.heap.size = g10 := ⟨_, rfl⟩
                  rw [hg10] at hx10 ⊢
                  have hle10 : wr.heap.size ≤ g10 := Nat.le_of_eq hg10
                  clear hw10 hg10 hb6 hb6' hl6 hbx hltx cx0 cx1 cx2 cx3 cx4 cx5 fx0 fx1 fx2 fx3 fx4 fx5
                  have HX10 := Lib.hid (And.intro hx10 (And.intro hb10 hle10))
                  have hc10 := held4 hb10 hgq hcq
                  have hg10 : g5 < w10.heap.size := Nat.lt_of_lt_of_le hgq hb10.size
                  have hne10 : g5 ≠ g10 := by omega
                  have HCD := Lib.hid (show cand 4 (fs.map numV) = ⟨4, 0, 0, x0, x1, x2⟩ by rw [← HXX.out.1, ← HXX.out.2.1, ← HXX.out.2.2.1]; rfl)
                  have HW0 := Lib.hid (show w.heap.size < wr.heap.size from HQ.out.1.lt)
                  clear hx10 hb10 hcq hcqd
                  have hx10' := HX10.out.1
                  have hl10 := hx10'.lt
                  have hc10d : w10.drew.cell? ⟨g5, 0, none⟩ = some (.int .i64 x0) ∧ w10.drew.cell? ⟨g5, 1, none⟩ = some (.int .i64 x1) ∧ w10.drew.cell? ⟨g5, 2, none⟩ = some (.int .i64 x2) ∧ w10.drew.cell? ⟨g5, 3, none⟩ = some (.int .i64 x3) := hc10
                  have d0 : w10.drew.cell? ⟨g10, 3, none⟩ = some (.int .i64 x1) := hx10'.cell 3
                  have d1 : w10.drew.cell? ⟨g10, 4, none⟩ = some (.int .i64 x2) := hx10'.cell 4
                  have d2 : w10.drew.cell? ⟨g10, 5, none⟩ = some (.int .i64 x3) := hx10'.cell 5
                  have d0' : w10.cell? ⟨g10, 3, none⟩ = some (.int .i64 x1) := hx10'.cell 3
                  have d1' : w10.cell? ⟨g10, 4, none⟩ = some (.int .i64 x2) := hx10'.cell 4
                  have d2' : w10.cell? ⟨g10, 5, none⟩ = some (.int .i64 x3) := hx10'.cell 5
                  have e0' := hx10'.frozen 3
                  have e1' := hx10'.frozen 4
                  have e2' := hx10'.frozen 5
                  have e0 : w10.drew.frozen? ⟨g10, 3, none⟩ = false := hx10'.frozen 3
                  have e1 : w10.drew.frozen? ⟨g10, 4, none⟩ = false := hx10'.frozen 4
                  have e2 : w10.drew.frozen? ⟨g10, 5, none⟩ = false := hx10'.frozen 5
                  go_wp2
                  go_region_held3 (fun w' => w'.cell? ⟨g5, 0, none⟩ = some (.int .i64 x0) ∧ w'.cell? ⟨g5, 1, none⟩ = some (.int .i64 x1) ∧ w'.cell? ⟨g5, 2, none⟩ = some (.int .i64 x2) ∧ w'.cell? ⟨g5, 3, none⟩ = some (.int .i64 x3))
                    (first
                      | (with_reducible exact held4g (grown_setCells3 w10.drew g10 _ _ _) hne10 hc10d) | (with_reducible exact held4g (grown_setCells3 w10 g10 _ _ _) hne10 hc10)
                      | (with_reducible exact hc10d) | (with_reducible assumption))
                    (fail)
                  have H11w : Box g10 #[.int .i64 4, .int .i64 0, .int .i64 0, .int .i64 x0, .int .i64 x1, .int .i64 x2] 45 ((((w10.setCell ⟨g10, 3, none⟩ (.int .i64 x0)).setCell ⟨g10, 4, none⟩ (.int .i64 x1)).setCell ⟨g10, 5, none⟩ (.int .i64 x2)).drew) ∧ Below wr.heap.size wr ((((w10.setCell ⟨g10, 3, none⟩ (.int .i64 x0)).setCell ⟨g10, 4, none⟩ (.int .i64 x1)).setCell ⟨g10, 5, none⟩ (.int .i64 x2)).drew) :=
                    ⟨((hx10'.set 3 _).set 4 _).set 5 _, Below.drew (((HX10.out.2.1.setCell HX10.out.2.2 _).setCell HX10.out.2.2 _).setCell HX10.out.2.2 _)⟩
                  obtain ⟨w11, hw11⟩ : ∃ w11, (((w10.setCell ⟨g10, 3, none⟩ (.int .i64 x0)).setCell ⟨g10, 4, none⟩ (.int .i64 x1)).setCell ⟨g10, 5, none⟩ (.int .i64 x2)).drew = w11 := ⟨_, rfl⟩
                  rw [hw11] at H11w ⊢
                  have H11 := Lib.hid H11w
                  have hle := HX10.out.2.2
                  clear H11w hw11 hx10' hl10 hc10d hc10 hg10 hne10 hle10 HX10 d0 d1 d2 e0 e1 e2 d0' d1' d2' e0' e1' e2' 
                  cases hr : stOk ⟨4, 0, 0, x0, x1, x2⟩
                  · have HR := Lib.hid hr
                    have HN := Lib.hid (show NoneBelow (f0 :: fs) 5 from none_next HQ2.out.2 (by rw [HCD.out, hr]; rintro ⟨h, _⟩; cases h))
                    clear hr
                    go_wp2_with (first
                      | (refine wpList_load_row rfl 45 _ rfl g10 rfl _ _ _ _ H11.out.1 Tryz.underlying45 rfl (by kernel_rfl) ?_)
                      | (go_at_call 49; refine (spec_stmtok ⟨4, 0, 0, x0, x1, x2⟩ false HR.out _).mono ?_; rintro e w12 ⟨rfl, hb12⟩; refine Hid.out ?_))
                    have hb13 := Lib.hid (below_then HQ2.out.1 (below_then H11.out.2 hb12))
                    clear hb12
                    refine Lib.hid ?_
                    go_wp2
                    go_roundw
                    case rel => exact ⟨5, by omega, by omega, rfl, HN, hb13.out⟩
                    case measure => simp [intOf]
                  · have HR := Lib.hid hr
                    obtain ⟨X, hX⟩ : ∃ X, textR ⟨4, 0, 0, x0, x1, x2⟩ = X := ⟨_, rfl⟩
                    have HFM := Lib.hid (show ∀ w, Calls Tryz.prog 24 #[stV ⟨4, 0, 0, x0, x1, x2⟩] w (RetS w X) from fun w => hX ▸ spec_fmtstmt ⟨4, 0, 0, x0, x1, x2⟩ w)
                    have HXT := Lib.hid hX
                    clear hr hX
                    go_wp2_with (first
                      | (refine wpList_load_row rfl 45 _ rfl g10 rfl _ _ _ _ H11.out.1 Tryz.underlying45 rfl (by kernel_rfl) ?_)
                      | (go_at_call 49; refine (spec_stmtok ⟨4, 0, 0, x0, x1, x2⟩ true HR.out _).mono ?_; rintro e w12 ⟨rfl, hb12⟩; refine Hid.out ?_))
                    have H12 := Lib.hid (And.intro (H11.out.1.below hb12) (below_then H11.out.2 hb12))
                    clear hb12 H11
                    have k0 : w12.cell? ⟨g10, 0, none⟩ = some (.int .i64 4) := H12.out.1.cell 0
                    have k1 : w12.cell? ⟨g10, 1, none⟩ = some (.int .i64 0) := H12.out.1.cell 1
                    have k2 : w12.cell? ⟨g10, 2, none⟩ = some (.int .i64 0) := H12.out.1.cell 2
                    have k3 : w12.cell? ⟨g10, 3, none⟩ = some (.int .i64 x0) := H12.out.1.cell 3
                    have k4 : w12.cell? ⟨g10, 4, none⟩ = some (.int .i64 x1) := H12.out.1.cell 4
                    have k5 : w12.cell? ⟨g10, 5, none⟩ = some (.int .i64 x2) := H12.out.1.cell 5
                    have kl := H12.out.1.lt
                    refine Lib.hid ?_
                    go_wp2_with (first
                      | (refine wpList_load_row rfl 45 _ rfl g10 rfl _ _ _ _ H12.out.1 Tryz.underlying45 rfl (by kernel_rfl) ?_)
                      | (go_at_call 24; refine (HFM.out _).mono ?_; rintro e w13 ⟨rfl, hb13⟩; refine Hid.out ?_))
                    have H13 := Lib.hid (And.intro (H12.out.1.below hb13) (below_then H12.out.2 hb13))
                    clear hb13 H12 k0 k1 k2 k3 k4 k5 kl
                    cases hq : (X == A)
                    · have HN := Lib.hid (show NoneBelow (f0 :: fs) 5 from none_next HQ2.out.2 (by
                        rw [HCD.out, HXT.out, ← HA.out]; rintro ⟨_, h⟩; rw [h] at hq; simp at hq))
                      have hb14 := Lib.hid (below_then HQ2.out.1 H13.out.2)
                      refine Lib.hid ?_
                      go_wp2
                      go_roundw
                      case rel => exact ⟨5, by omega, by omega, rfl, HN, hb14.out⟩
                      case measure => simp [intOf]
                    · have HF := Lib.hid (show IsParse (fieldsR s.data.toList) ⟨4, 0, 0, x0, x1, x2⟩ true by
                        rw [HFE.out]; refine some_text (by simp) (by rw [← HFE.out]; exact fields_good) ?_
                        rw [HXT.out, ← HA.out]; simpa using hq)
                      have H14 := Lib.hid (And.intro (HQ.out.1.below H13.out.2) (below_then HQ.out.2 H13.out.2))
                      refine Lib.hid ?_
                      go_wp2_with (first
                        | (refine wpList_load_row rfl 45 _ rfl g10 rfl _ _ _ _ H13.out.1 Tryz.underlying45 rfl (by kernel_rfl) ?_)
                        | ((refine wpList_store_box rfl 45 _ _ rfl w.heap.size _ _ H14.out.1 #[.int .i64 4, .int .i64 0, .int .i64 0, .int .i64 x0, .int .i64 x1, .int .i64 x2] rfl rfl rfl (by kernel_rfl) (by simp [Value.oneCell']) ?_); intro w15 hx15 hg15; refine Hid.out ?_))
                      have H15 := Lib.hid (And.intro hx15 (H14.out.2.grown hg15 H14.out.2.size (fun j hj => by cases hj; exact Nat.le_refl _)))
                      clear hx15 hg15
                      refine Lib.hid ?_
                      go_wp2
                      exact bodyPost_ret (v := .tuple #[stV ⟨4, 0, 0, x0, x1, x2⟩, .bool true]) (results_box2 rfl _ _ w.heap.size _ _ _ _ rfl rfl H15.out.1 Tryz.underlying45 rfl (by kernel_rfl)) rfl ⟨_, _, rfl, HF, H15.out.2⟩
              · have hp : Hid (plain ⟨5, x0, x1, x1, x2, x3⟩ = ⟨5, 0, x1, 0, 0, 0⟩) := rfl
                have hcqd : wr.drew.cell? ⟨g5, 0, none⟩ = some (.int .i64 x0) ∧ wr.drew.cell? ⟨g5, 1, none⟩ = some (.int .i64 x1) ∧ wr.drew.cell? ⟨g5, 2, none⟩ = some (.int .i64 x2) ∧ wr.drew.cell? ⟨g5, 3, none⟩ = some (.int .i64 x3) := hcq
                go_wp2
                go_region_held3 (fun w' => w'.cell? ⟨g5, 0, none⟩ = some (.int .i64 x0) ∧ w'.cell? ⟨g5, 1, none⟩ = some (.int .i64 x1) ∧ w'.cell? ⟨g5, 2, none⟩ = some (.int .i64 x2) ∧ w'.cell? ⟨g5, 3, none⟩ = some (.int .i64 x3))
                  (first
                    | ((with_reducible refine held4 (w := wr) ?_ hgq hcq); (with_reducible refine Below.setCell ?_ (by simp) _); (repeat (with_reducible refine Below.setCell ?_ (by simp) _)); (with_reducible exact below_then (below_new wr _) hb6'))
                    | (with_reducible exact hcqd) | (with_reducible assumption)
                    | (with_reducible exact held4 hb6' hgq hcq)
                    | (with_reducible exact held4 (below_then (below_new wr _) hb6') hgq hcq)
                    | (with_reducible exact held4 (below_then hb6' (below_new w6 _)) hgq hcq)
                    | (with_reducible exact held4 (below_new wr _) hgq hcq) | (with_reducible exact held4 (Below.drew (below_new wr _)) hgq hcq))
                  (first
                    | (go_at_call 48; refine (spec_plain ⟨5, x0, x1, x1, x2, x3⟩ _).mono ?_; rw [hp.out]; rintro e w6 ⟨rfl, hb6⟩; have hb6' := drew_below hb6; have hl6 : g5 < w6.heap.size := Nat.lt_of_lt_of_le hgq (Nat.le_trans (by simp) hb6'.size); (first | (have hbx := (Box.new wr zeroC 45).below hb6'; have hltx := hbx.lt; have cx0 : w6.cell? ⟨wr.heap.size, 0, none⟩ = some (.int .i64 0) := hbx.cell 0; have fx0 := hbx.frozen 0; have cx1 : w6.cell? ⟨wr.heap.size, 1, none⟩ = some (.int .i64 0) := hbx.cell 1; have fx1 := hbx.frozen 1; have cx2 : w6.cell? ⟨wr.heap.size, 2, none⟩ = some (.int .i64 0) := hbx.cell 2; have fx2 := hbx.frozen 2; have cx3 : w6.cell? ⟨wr.heap.size, 3, none⟩ = some (.int .i64 0) := hbx.cell 3; have fx3 := hbx.frozen 3; have cx4 : w6.cell? ⟨wr.heap.size, 4, none⟩ = some (.int .i64 0) := hbx.cell 4; have fx4 := hbx.frozen 4; have cx5 : w6.cell? ⟨wr.heap.size, 5, none⟩ = some (.int .i64 0) := hbx.cell 5; have fx5 := hbx.frozen 5) | skip)))

                · have hx10 := Box.new w6 #[.int .i64 5, .int .i64 0, .int .i64 x1, .int .i64 0, .int .i64 0, .int .i64 0] 45
                  have hb10 : Below wr.heap.size wr (w6.alloc (.cells #[.int .i64 5, .int .i64 0, .int .i64 x1, .int .i64 0, .int .i64 0, .int .i64 0] 45)) := below_then hb6' (below_new w6 _)
                  have hle10 : wr.heap.size ≤ w6.heap.size := hb6'.size
                  obtain ⟨w10, hw10⟩ : ∃ w10, w6.alloc (.cells #[.int .i64 5, .int .i64 0, .int .i64 x1, .int .i64 0, .int .i64 0, .int .i64 0] 45) = w10 := ⟨_, rfl⟩
                  rw [hw10] at hx10 hb10 ⊢
                  obtain ⟨g10, hg10⟩ : ∃ g10, w6.heap.size = g10 := ⟨_, rfl⟩
                  rw [hg10] at hx10 hle10 ⊢
                  clear hw10 hg10 hb6 hb6' hl6
                  have HX10 := Lib.hid (And.intro hx10 (And.intro hb10 hle10))
                  have hc10 := held4 hb10 hgq hcq
                  have hg10 : g5 < w10.heap.size := Nat.lt_of_lt_of_le hgq hb10.size
                  have hne10 : g5 ≠ g10 := by omega
                  have HCD := Lib.hid (show cand 5 (fs.map numV) = ⟨5, 0, x0, 0, 0, 0⟩ by rw [← HXX.out.1]; rfl)
                  have HW0 := Lib.hid (show w.heap.size < wr.heap.size from HQ.out.1.lt)
                  clear hx10 hb10 hcq hcqd
                  have hx10' := HX10.out.1
                  have hl10 := hx10'.lt
                  have d0 : w10.cell? ⟨g10, 2, none⟩ = some (.int .i64 x1) := hx10'.cell 2
                  have e0 : w10.frozen? ⟨g10, 2, none⟩ = false := hx10'.frozen 2
                  have H11 := Lib.hid (show Box g10 #[.int .i64 5, .int .i64 0, .int .i64 x0, .int .i64 0, .int .i64 0, .int .i64 0] 45 (w10.setCell ⟨g10, 2, none⟩ (.int .i64 x0)) ∧ Below wr.heap.size wr (w10.setCell ⟨g10, 2, none⟩ (.int .i64 x0)) from ⟨hx10'.set 2 _, HX10.out.2.1.setCell HX10.out.2.2 _⟩)
                  have hle := HX10.out.2.2
                  clear hle10 HX10 hx10' 
                  cases hr : stOk ⟨5, 0, x0, 0, 0, 0⟩
                  · have HR := Lib.hid hr
                    have HN := Lib.hid (show NoneBelow (f0 :: fs) 6 from none_next HQ2.out.2 (by rw [HCD.out, hr]; rintro ⟨h, _⟩; cases h))
                    clear hr
                    go_wp2_with (first
                      | (refine wpList_load_row rfl 45 _ rfl g10 rfl _ _ _ _ H11.out.1 Tryz.underlying45 rfl (by kernel_rfl) ?_)
                      | (go_at_call 49; refine (spec_stmtok ⟨5, 0, x0, 0, 0, 0⟩ false HR.out _).mono ?_; rintro e w12 ⟨rfl, hb12⟩; refine Hid.out ?_))
                    have hb13 := Lib.hid (below_then HQ2.out.1 (below_then H11.out.2 hb12))
                    clear hb12
                    refine Lib.hid ?_
                    go_wp2
                    go_roundw
                    case rel => exact ⟨6, by omega, by omega, rfl, HN, hb13.out⟩
                    case measure => simp [intOf]
                  · have HR := Lib.hid hr
                    obtain ⟨X, hX⟩ : ∃ X, textR ⟨5, 0, x0, 0, 0, 0⟩ = X := ⟨_, rfl⟩
                    have HFM := Lib.hid (show ∀ w, Calls Tryz.prog 24 #[stV ⟨5, 0, x0, 0, 0, 0⟩] w (RetS w X) from fun w => hX ▸ spec_fmtstmt ⟨5, 0, x0, 0, 0, 0⟩ w)
                    have HXT := Lib.hid hX
                    clear hr hX
                    go_wp2_with (first
                      | (refine wpList_load_row rfl 45 _ rfl g10 rfl _ _ _ _ H11.out.1 Tryz.underlying45 rfl (by kernel_rfl) ?_)
                      | (go_at_call 49; refine (spec_stmtok ⟨5, 0, x0, 0, 0, 0⟩ true HR.out _).mono ?_; rintro e w12 ⟨rfl, hb12⟩; refine Hid.out ?_))
                    have H12 := Lib.hid (And.intro (H11.out.1.below hb12) (below_then H11.out.2 hb12))
                    clear hb12 H11
                    have k0 : w12.cell? ⟨g10, 0, none⟩ = some (.int .i64 5) := H12.out.1.cell 0
                    have k1 : w12.cell? ⟨g10, 1, none⟩ = some (.int .i64 0) := H12.out.1.cell 1
                    have k2 : w12.cell? ⟨g10, 2, none⟩ = some (.int .i64 x0) := H12.out.1.cell 2
                    have k3 : w12.cell? ⟨g10, 3, none⟩ = some (.int .i64 0) := H12.out.1.cell 3
                    have k4 : w12.cell? ⟨g10, 4, none⟩ = some (.int .i64 0) := H12.out.1.cell 4
                    have k5 : w12.cell? ⟨g10, 5, none⟩ = some (.int .i64 0) := H12.out.1.cell 5
                    have kl := H12.out.1.lt
                    refine Lib.hid ?_
                    go_wp2_with (first
                      | (refine wpList_load_row rfl 45 _ rfl g10 rfl _ _ _ _ H12.out.1 Tryz.underlying45 rfl (by kernel_rfl) ?_)
                      | (go_at_call 24; refine (HFM.out _).mono ?_; rintro e w13 ⟨rfl, hb13⟩; refine Hid.out ?_))
                    have H13 := Lib.hid (And.intro (H12.out.1.below hb13) (below_then H12.out.2 hb13))
                    clear hb13 H12 k0 k1 k2 k3 k4 k5 kl
                    cases hq : (X == A)
                    · have HN := Lib.hid (show NoneBelow (f0 :: fs) 6 from none_next HQ2.out.2 (by
                        rw [HCD.out, HXT.out, ← HA.out]; rintro ⟨_, h⟩; rw [h] at hq; simp at hq))
                      have hb14 := Lib.hid (below_then HQ2.out.1 H13.out.2)
                      refine Lib.hid ?_
                      go_wp2
                      go_roundw
                      case rel => exact ⟨6, by omega, by omega, rfl, HN, hb14.out⟩
                      case measure => simp [intOf]
                    · have HF := Lib.hid (show IsParse (fieldsR s.data.toList) ⟨5, 0, x0, 0, 0, 0⟩ true by
                        rw [HFE.out]; refine some_text (by simp) (by rw [← HFE.out]; exact fields_good) ?_
                        rw [HXT.out, ← HA.out]; simpa using hq)
                      have H14 := Lib.hid (And.intro (HQ.out.1.below H13.out.2) (below_then HQ.out.2 H13.out.2))
                      refine Lib.hid ?_
                      go_wp2_with (first
                        | (refine wpList_load_row rfl 45 _ rfl g10 rfl _ _ _ _ H13.out.1 Tryz.underlying45 rfl (by kernel_rfl) ?_)
                        | ((refine wpList_store_box rfl 45 _ _ rfl w.heap.size _ _ H14.out.1 #[.int .i64 5, .int .i64 0, .int .i64 x0, .int .i64 0, .int .i64 0, .int .i64 0] rfl rfl rfl (by kernel_rfl) (by simp [Value.oneCell']) ?_); intro w15 hx15 hg15; refine Hid.out ?_))
                      have H15 := Lib.hid (And.intro hx15 (H14.out.2.grown hg15 H14.out.2.size (fun j hj => by cases hj; exact Nat.le_refl _)))
                      clear hx15 hg15
                      refine Lib.hid ?_
                      go_wp2
                      exact bodyPost_ret (v := .tuple #[stV ⟨5, 0, x0, 0, 0, 0⟩, .bool true]) (results_box2 rfl _ _ w.heap.size _ _ _ _ rfl rfl H15.out.1 Tryz.underlying45 rfl (by kernel_rfl)) rfl ⟨_, _, rfl, HF, H15.out.2⟩
                · have hx10 : Box wr.heap.size #[.int .i64 5, .int .i64 0, .int .i64 x1, .int .i64 0, .int .i64 0, .int .i64 0] 45 ((((((w6.setCell ⟨wr.heap.size, 0, none⟩ (.int .i64 5)).setCell ⟨wr.heap.size, 1, none⟩ (.int .i64 0)).setCell ⟨wr.heap.size, 2, none⟩ (.int .i64 x1)).setCell ⟨wr.heap.size, 3, none⟩ (.int .i64 0)).setCell ⟨wr.heap.size, 4, none⟩ (.int .i64 0)).setCell ⟨wr.heap.size, 5, none⟩ (.int .i64 0)) := (((((hbx.set 0 _).set 1 _).set 2 _).set 3 _).set 4 _).set 5 _
                  have hb10 : Below wr.heap.size wr ((((((w6.setCell ⟨wr.heap.size, 0, none⟩ (.int .i64 5)).setCell ⟨wr.heap.size, 1, none⟩ (.int .i64 0)).setCell ⟨wr.heap.size, 2, none⟩ (.int .i64 x1)).setCell ⟨wr.heap.size, 3, none⟩ (.int .i64 0)).setCell ⟨wr.heap.size, 4, none⟩ (.int .i64 0)).setCell ⟨wr.heap.size, 5, none⟩ (.int .i64 0)) := ((((((below_then (below_new wr _) hb6').setCell (Nat.le_refl _) _).setCell (Nat.le_refl _) _).setCell (Nat.le_refl _) _).setCell (Nat.le_refl _) _).setCell (Nat.le_refl _) _).setCell (Nat.le_refl _) _
                  obtain ⟨w10, hw10⟩ : ∃ w10, ((((((w6.setCell ⟨wr.heap.size, 0, none⟩ (.int .i64 5)).setCell ⟨wr.heap.size, 1, none⟩ (.int .i64 0)).setCell ⟨wr.heap.size, 2, none⟩ (.int .i64 x1)).setCell ⟨wr.heap.size, 3, none⟩ (.int .i64 0)).setCell ⟨wr.heap.size, 4, none⟩ (.int .i64 0)).setCell ⟨wr.heap.size, 5, none⟩ (.int .i64 0)) = w10 := ⟨_, rfl⟩
                  rw [hw10] at hx10 hb10 ⊢
                  obtain ⟨g10, hg10⟩ : ∃ g10, wr.heap.size = g10 := ⟨_, rfl⟩
                  rw [hg10] at hx10 ⊢
                  have hle10 : wr.heap.size ≤ g10 := Nat.le_of_eq hg10
                  clear hw10 hg10 hb6 hb6' hl6 hbx hltx cx0 cx1 cx2 cx3 cx4 cx5 fx0 fx1 fx2 fx3 fx4 fx5
                  have HX10 := Lib.hid (And.intro hx10 (And.intro hb10 hle10))
                  have hc10 := held4 hb10 hgq hcq
                  have hg10 : g5 < w10.heap.size := Nat.lt_of_lt_of_le hgq hb10.size
                  have hne10 : g5 ≠ g10 := by omega
                  have HCD := Lib.hid (show cand 5 (fs.map numV) = ⟨5, 0, x0, 0, 0, 0⟩ by rw [← HXX.out.1]; rfl)
                  have HW0 := Lib.hid (show w.heap.size < wr.heap.size from HQ.out.1.lt)
                  clear hx10 hb10 hcq hcqd
                  have hx10' := HX10.out.1
                  have hl10 := hx10'.lt
                  have d0 : w10.cell? ⟨g10, 2, none⟩ = some (.int .i64 x1) := hx10'.cell 2
                  have e0 : w10.frozen? ⟨g10, 2, none⟩ = false := hx10'.frozen 2
                  have H11 := Lib.hid (show Box g10 #[.int .i64 5, .int .i64 0, .int .i64 x0, .int .i64 0, .int .i64 0, .int .i64 0] 45 (w10.setCell ⟨g10, 2, none⟩ (.int .i64 x0)) ∧ Below wr.heap.size wr (w10.setCell ⟨g10, 2, none⟩ (.int .i64 x0)) from ⟨hx10'.set 2 _, HX10.out.2.1.setCell HX10.out.2.2 _⟩)
                  have hle := HX10.out.2.2
                  clear hle10 HX10 hx10' 
                  cases hr : stOk ⟨5, 0, x0, 0, 0, 0⟩
                  · have HR := Lib.hid hr
                    have HN := Lib.hid (show NoneBelow (f0 :: fs) 6 from none_next HQ2.out.2 (by rw [HCD.out, hr]; rintro ⟨h, _⟩; cases h))
                    clear hr
                    go_wp2_with (first
                      | (refine wpList_load_row rfl 45 _ rfl g10 rfl _ _ _ _ H11.out.1 Tryz.underlying45 rfl (by kernel_rfl) ?_)
                      | (go_at_call 49; refine (spec_stmtok ⟨5, 0, x0, 0, 0, 0⟩ false HR.out _).mono ?_; rintro e w12 ⟨rfl, hb12⟩; refine Hid.out ?_))
                    have hb13 := Lib.hid (below_then HQ2.out.1 (below_then H11.out.2 hb12))
                    clear hb12
                    refine Lib.hid ?_
                    go_wp2
                    go_roundw
                    case rel => exact ⟨6, by omega, by omega, rfl, HN, hb13.out⟩
                    case measure => simp [intOf]
                  · have HR := Lib.hid hr
                    obtain ⟨X, hX⟩ : ∃ X, textR ⟨5, 0, x0, 0, 0, 0⟩ = X := ⟨_, rfl⟩
                    have HFM := Lib.hid (show ∀ w, Calls Tryz.prog 24 #[stV ⟨5, 0, x0, 0, 0, 0⟩] w (RetS w X) from fun w => hX ▸ spec_fmtstmt ⟨5, 0, x0, 0, 0, 0⟩ w)
                    have HXT := Lib.hid hX
                    clear hr hX
                    go_wp2_with (first
                      | (refine wpList_load_row rfl 45 _ rfl g10 rfl _ _ _ _ H11.out.1 Tryz.underlying45 rfl (by kernel_rfl) ?_)
                      | (go_at_call 49; refine (spec_stmtok ⟨5, 0, x0, 0, 0, 0⟩ true HR.out _).mono ?_; rintro e w12 ⟨rfl, hb12⟩; refine Hid.out ?_))
                    have H12 := Lib.hid (And.intro (H11.out.1.below hb12) (below_then H11.out.2 hb12))
                    clear hb12 H11
                    have k0 : w12.cell? ⟨g10, 0, none⟩ = some (.int .i64 5) := H12.out.1.cell 0
                    have k1 : w12.cell? ⟨g10, 1, none⟩ = some (.int .i64 0) := H12.out.1.cell 1
                    have k2 : w12.cell? ⟨g10, 2, none⟩ = some (.int .i64 x0) := H12.out.1.cell 2
                    have k3 : w12.cell? ⟨g10, 3, none⟩ = some (.int .i64 0) := H12.out.1.cell 3
                    have k4 : w12.cell? ⟨g10, 4, none⟩ = some (.int .i64 0) := H12.out.1.cell 4
                    have k5 : w12.cell? ⟨g10, 5, none⟩ = some (.int .i64 0) := H12.out.1.cell 5
                    have kl := H12.out.1.lt
                    refine Lib.hid ?_
                    go_wp2_with (first
                      | (refine wpList_load_row rfl 45 _ rfl g10 rfl _ _ _ _ H12.out.1 Tryz.underlying45 rfl (by kernel_rfl) ?_)
                      | (go_at_call 24; refine (HFM.out _).mono ?_; rintro e w13 ⟨rfl, hb13⟩; refine Hid.out ?_))
                    have H13 := Lib.hid (And.intro (H12.out.1.below hb13) (below_then H12.out.2 hb13))
                    clear hb13 H12 k0 k1 k2 k3 k4 k5 kl
                    cases hq : (X == A)
                    · have HN := Lib.hid (show NoneBelow (f0 :: fs) 6 from none_next HQ2.out.2 (by
                        rw [HCD.out, HXT.out, ← HA.out]; rintro ⟨_, h⟩; rw [h] at hq; simp at hq))
                      have hb14 := Lib.hid (below_then HQ2.out.1 H13.out.2)
                      refine Lib.hid ?_
                      go_wp2
                      go_roundw
                      case rel => exact ⟨6, by omega, by omega, rfl, HN, hb14.out⟩
                      case measure => simp [intOf]
                    · have HF := Lib.hid (show IsParse (fieldsR s.data.toList) ⟨5, 0, x0, 0, 0, 0⟩ true by
                        rw [HFE.out]; refine some_text (by simp) (by rw [← HFE.out]; exact fields_good) ?_
                        rw [HXT.out, ← HA.out]; simpa using hq)
                      have H14 := Lib.hid (And.intro (HQ.out.1.below H13.out.2) (below_then HQ.out.2 H13.out.2))
                      refine Lib.hid ?_
                      go_wp2_with (first
                        | (refine wpList_load_row rfl 45 _ rfl g10 rfl _ _ _ _ H13.out.1 Tryz.underlying45 rfl (by kernel_rfl) ?_)
                        | ((refine wpList_store_box rfl 45 _ _ rfl w.heap.size _ _ H14.out.1 #[.int .i64 5, .int .i64 0, .int .i64 x0, .int .i64 0, .int .i64 0, .int .i64 0] rfl rfl rfl (by kernel_rfl) (by simp [Value.oneCell']) ?_); intro w15 hx15 hg15; refine Hid.out ?_))
                      have H15 := Lib.hid (And.intro hx15 (H14.out.2.grown hg15 H14.out.2.size (fun j hj => by cases hj; exact Nat.le_refl _)))
                      clear hx15 hg15
                      refine Lib.hid ?_
                      go_wp2
                      exact bodyPost_ret (v := .tuple #[stV ⟨5, 0, x0, 0, 0, 0⟩, .bool true]) (results_box2 rfl _ _ w.heap.size _ _ _ _ rfl rfl H15.out.1 Tryz.underlying45 rfl (by kernel_rfl)) rfl ⟨_, _, rfl, HF, H15.out.2⟩
              · have hp : Hid (plain ⟨6, x0, x1, x1, x2, x3⟩ = ⟨6, 0, 0, 0, 0, 0⟩) := rfl
                have hcqd : wr.drew.cell? ⟨g5, 0, none⟩ = some (.int .i64 x0) ∧ wr.drew.cell? ⟨g5, 1, none⟩ = some (.int .i64 x1) ∧ wr.drew.cell? ⟨g5, 2, none⟩ = some (.int .i64 x2) ∧ wr.drew.cell? ⟨g5, 3, none⟩ = some (.int .i64 x3) := hcq
                go_wp2
                go_region_held3 (fun w' => w'.cell? ⟨g5, 0, none⟩ = some (.int .i64 x0) ∧ w'.cell? ⟨g5, 1, none⟩ = some (.int .i64 x1) ∧ w'.cell? ⟨g5, 2, none⟩ = some (.int .i64 x2) ∧ w'.cell? ⟨g5, 3, none⟩ = some (.int .i64 x3))
                  (first
                    | ((with_reducible refine held4 (w := wr) ?_ hgq hcq); (with_reducible refine Below.setCell ?_ (by simp) _); (repeat (with_reducible refine Below.setCell ?_ (by simp) _)); (with_reducible exact below_then (below_new wr _) hb6'))
                    | (with_reducible exact hcqd) | (with_reducible assumption)
                    | (with_reducible exact held4 hb6' hgq hcq)
                    | (with_reducible exact held4 (below_then (below_new wr _) hb6') hgq hcq)
                    | (with_reducible exact held4 (below_then hb6' (below_new w6 _)) hgq hcq)
                    | (with_reducible exact held4 (below_new wr _) hgq hcq) | (with_reducible exact held4 (Below.drew (below_new wr _)) hgq hcq))
                  (first
                    | (go_at_call 48; refine (spec_plain ⟨6, x0, x1, x1, x2, x3⟩ _).mono ?_; rw [hp.out]; rintro e w6 ⟨rfl, hb6⟩; have hb6' := drew_below hb6; have hl6 : g5 < w6.heap.size := Nat.lt_of_lt_of_le hgq (Nat.le_trans (by simp) hb6'.size); (first | (have hbx := (Box.new wr zeroC 45).below hb6'; have hltx := hbx.lt; have cx0 : w6.cell? ⟨wr.heap.size, 0, none⟩ = some (.int .i64 0) := hbx.cell 0; have fx0 := hbx.frozen 0; have cx1 : w6.cell? ⟨wr.heap.size, 1, none⟩ = some (.int .i64 0) := hbx.cell 1; have fx1 := hbx.frozen 1; have cx2 : w6.cell? ⟨wr.heap.size, 2, none⟩ = some (.int .i64 0) := hbx.cell 2; have fx2 := hbx.frozen 2; have cx3 : w6.cell? ⟨wr.heap.size, 3, none⟩ = some (.int .i64 0) := hbx.cell 3; have fx3 := hbx.frozen 3; have cx4 : w6.cell? ⟨wr.heap.size, 4, none⟩ = some (.int .i64 0) := hbx.cell 4; have fx4 := hbx.frozen 4; have cx5 : w6.cell? ⟨wr.heap.size, 5, none⟩ = some (.int .i64 0) := hbx.cell 5; have fx5 := hbx.frozen 5) | skip)))

                · have hx10 := Box.new w6 #[.int .i64 6, .int .i64 0, .int .i64 0, .int .i64 0, .int .i64 0, .int .i64 0] 45
                  have hb10 : Below wr.heap.size wr (w6.alloc (.cells #[.int .i64 6, .int .i64 0, .int .i64 0, .int .i64 0, .int .i64 0, .int .i64 0] 45)) := below_then hb6' (below_new w6 _)
                  have hle10 : wr.heap.size ≤ w6.heap.size := hb6'.size
                  obtain ⟨w10, hw10⟩ : ∃ w10, w6.alloc (.cells #[.int .i64 6, .int .i64 0, .int .i64 0, .int .i64 0, .int .i64 0, .int .i64 0] 45) = w10 := ⟨_, rfl⟩
                  rw [hw10] at hx10 hb10 ⊢
                  obtain ⟨g10, hg10⟩ : ∃ g10, w6.heap.size = g10 := ⟨_, rfl⟩
                  rw [hg10] at hx10 hle10 ⊢
                  clear hw10 hg10 hb6 hb6' hl6
                  have HX10 := Lib.hid (And.intro hx10 (And.intro hb10 hle10))
                  have hc10 := held4 hb10 hgq hcq
                  have hg10 : g5 < w10.heap.size := Nat.lt_of_lt_of_le hgq hb10.size
                  have hne10 : g5 ≠ g10 := by omega
                  have HCD := Lib.hid (show cand 6 (fs.map numV) = ⟨6, 0, 0, 0, 0, 0⟩ by rfl)
                  have HW0 := Lib.hid (show w.heap.size < wr.heap.size from HQ.out.1.lt)
                  clear hx10 hb10 hcq hcqd
                  have H11 := Lib.hid (And.intro HX10.out.1 HX10.out.2.1)
                  have hle := HX10.out.2.2
                  clear hc10 hg10 hne10 hle10 HX10
                  cases hr : stOk ⟨6, 0, 0, 0, 0, 0⟩
                  · have HR := Lib.hid hr
                    have HN := Lib.hid (show NoneBelow (f0 :: fs) 7 from none_next HQ2.out.2 (by rw [HCD.out, hr]; rintro ⟨h, _⟩; cases h))
                    clear hr
                    go_wp2_with (first
                      | (refine wpList_load_row rfl 45 _ rfl g10 rfl _ _ _ _ H11.out.1 Tryz.underlying45 rfl (by kernel_rfl) ?_)
                      | (go_at_call 49; refine (spec_stmtok ⟨6, 0, 0, 0, 0, 0⟩ false HR.out _).mono ?_; rintro e w12 ⟨rfl, hb12⟩; refine Hid.out ?_))
                    have hb13 := Lib.hid (below_then HQ2.out.1 (below_then H11.out.2 hb12))
                    clear hb12
                    refine Lib.hid ?_
                    go_wp2
                    go_roundw
                    case rel => exact ⟨7, by omega, by omega, rfl, HN, hb13.out⟩
                    case measure => simp [intOf]
                  · have HR := Lib.hid hr
                    obtain ⟨X, hX⟩ : ∃ X, textR ⟨6, 0, 0, 0, 0, 0⟩ = X := ⟨_, rfl⟩
                    have HFM := Lib.hid (show ∀ w, Calls Tryz.prog 24 #[stV ⟨6, 0, 0, 0, 0, 0⟩] w (RetS w X) from fun w => hX ▸ spec_fmtstmt ⟨6, 0, 0, 0, 0, 0⟩ w)
                    have HXT := Lib.hid hX
                    clear hr hX
                    go_wp2_with (first
                      | (refine wpList_load_row rfl 45 _ rfl g10 rfl _ _ _ _ H11.out.1 Tryz.underlying45 rfl (by kernel_rfl) ?_)
                      | (go_at_call 49; refine (spec_stmtok ⟨6, 0, 0, 0, 0, 0⟩ true HR.out _).mono ?_; rintro e w12 ⟨rfl, hb12⟩; refine Hid.out ?_))
                    have H12 := Lib.hid (And.intro (H11.out.1.below hb12) (below_then H11.out.2 hb12))
                    clear hb12 H11
                    have k0 : w12.cell? ⟨g10, 0, none⟩ = some (.int .i64 6) := H12.out.1.cell 0
                    have k1 : w12.cell? ⟨g10, 1, none⟩ = some (.int .i64 0) := H12.out.1.cell 1
                    have k2 : w12.cell? ⟨g10, 2, none⟩ = some (.int .i64 0) := H12.out.1.cell 2
                    have k3 : w12.cell? ⟨g10, 3, none⟩ = some (.int .i64 0) := H12.out.1.cell 3
                    have k4 : w12.cell? ⟨g10, 4, none⟩ = some (.int .i64 0) := H12.out.1.cell 4
                    have k5 : w12.cell? ⟨g10, 5, none⟩ = some (.int .i64 0) := H12.out.1.cell 5
                    have kl := H12.out.1.lt
                    refine Lib.hid ?_
                    go_wp2_with (first
                      | (refine wpList_load_row rfl 45 _ rfl g10 rfl _ _ _ _ H12.out.1 Tryz.underlying45 rfl (by kernel_rfl) ?_)
                      | (go_at_call 24; refine (HFM.out _).mono ?_; rintro e w13 ⟨rfl, hb13⟩; refine Hid.out ?_))
                    have H13 := Lib.hid (And.intro (H12.out.1.below hb13) (below_then H12.out.2 hb13))
                    clear hb13 H12 k0 k1 k2 k3 k4 k5 kl
                    cases hq : (X == A)
                    · have HN := Lib.hid (show NoneBelow (f0 :: fs) 7 from none_next HQ2.out.2 (by
                        rw [HCD.out, HXT.out, ← HA.out]; rintro ⟨_, h⟩; rw [h] at hq; simp at hq))
                      have hb14 := Lib.hid (below_then HQ2.out.1 H13.out.2)
                      refine Lib.hid ?_
                      go_wp2
                      go_roundw
                      case rel => exact ⟨7, by omega, by omega, rfl, HN, hb14.out⟩
                      case measure => simp [intOf]
                    · have HF := Lib.hid (show IsParse (fieldsR s.data.toList) ⟨6, 0, 0, 0, 0, 0⟩ true by
                        rw [HFE.out]; refine some_text (by simp) (by rw [← HFE.out]; exact fields_good) ?_
                        rw [HXT.out, ← HA.out]; simpa using hq)
                      have H14 := Lib.hid (And.intro (HQ.out.1.below H13.out.2) (below_then HQ.out.2 H13.out.2))
                      refine Lib.hid ?_
                      go_wp2_with (first
                        | (refine wpList_load_row rfl 45 _ rfl g10 rfl _ _ _ _ H13.out.1 Tryz.underlying45 rfl (by kernel_rfl) ?_)
                        | ((refine wpList_store_box rfl 45 _ _ rfl w.heap.size _ _ H14.out.1 #[.int .i64 6, .int .i64 0, .int .i64 0, .int .i64 0, .int .i64 0, .int .i64 0] rfl rfl rfl (by kernel_rfl) (by simp [Value.oneCell']) ?_); intro w15 hx15 hg15; refine Hid.out ?_))
                      have H15 := Lib.hid (And.intro hx15 (H14.out.2.grown hg15 H14.out.2.size (fun j hj => by cases hj; exact Nat.le_refl _)))
                      clear hx15 hg15
                      refine Lib.hid ?_
                      go_wp2
                      exact bodyPost_ret (v := .tuple #[stV ⟨6, 0, 0, 0, 0, 0⟩, .bool true]) (results_box2 rfl _ _ w.heap.size _ _ _ _ rfl rfl H15.out.1 Tryz.underlying45 rfl (by kernel_rfl)) rfl ⟨_, _, rfl, HF, H15.out.2⟩
                · have hx10 : Box wr.heap.size #[.int .i64 6, .int .i64 0, .int .i64 0, .int .i64 0, .int .i64 0, .int .i64 0] 45 ((((((w6.setCell ⟨wr.heap.size, 0, none⟩ (.int .i64 6)).setCell ⟨wr.heap.size, 1, none⟩ (.int .i64 0)).setCell ⟨wr.heap.size, 2, none⟩ (.int .i64 0)).setCell ⟨wr.heap.size, 3, none⟩ (.int .i64 0)).setCell ⟨wr.heap.size, 4, none⟩ (.int .i64 0)).setCell ⟨wr.heap.size, 5, none⟩ (.int .i64 0)) := (((((hbx.set 0 _).set 1 _).set 2 _).set 3 _).set 4 _).set 5 _
                  have hb10 : Below wr.heap.size wr ((((((w6.setCell ⟨wr.heap.size, 0, none⟩ (.int .i64 6)).setCell ⟨wr.heap.size, 1, none⟩ (.int .i64 0)).setCell ⟨wr.heap.size, 2, none⟩ (.int .i64 0)).setCell ⟨wr.heap.size, 3, none⟩ (.int .i64 0)).setCell ⟨wr.heap.size, 4, none⟩ (.int .i64 0)).setCell ⟨wr.heap.size, 5, none⟩ (.int .i64 0)) := ((((((below_then (below_new wr _) hb6').setCell (Nat.le_refl _) _).setCell (Nat.le_refl _) _).setCell (Nat.le_refl _) _).setCell (Nat.le_refl _) _).setCell (Nat.le_refl _) _).setCell (Nat.le_refl _) _
                  obtain ⟨w10, hw10⟩ : ∃ w10, ((((((w6.setCell ⟨wr.heap.size, 0, none⟩ (.int .i64 6)).setCell ⟨wr.heap.size, 1, none⟩ (.int .i64 0)).setCell ⟨wr.heap.size, 2, none⟩ (.int .i64 0)).setCell ⟨wr.heap.size, 3, none⟩ (.int .i64 0)).setCell ⟨wr.heap.size, 4, none⟩ (.int .i64 0)).setCell ⟨wr.heap.size, 5, none⟩ (.int .i64 0)) = w10 := ⟨_, rfl⟩
                  rw [hw10] at hx10 hb10 ⊢
                  obtain ⟨g10, hg10⟩ : ∃ g10, wr.heap.size = g10 := ⟨_, rfl⟩
                  rw [hg10] at hx10 ⊢
                  have hle10 : wr.heap.size ≤ g10 := Nat.le_of_eq hg10
                  clear hw10 hg10 hb6 hb6' hl6 hbx hltx cx0 cx1 cx2 cx3 cx4 cx5 fx0 fx1 fx2 fx3 fx4 fx5
                  have HX10 := Lib.hid (And.intro hx10 (And.intro hb10 hle10))
                  have hc10 := held4 hb10 hgq hcq
                  have hg10 : g5 < w10.heap.size := Nat.lt_of_lt_of_le hgq hb10.size
                  have hne10 : g5 ≠ g10 := by omega
                  have HCD := Lib.hid (show cand 6 (fs.map numV) = ⟨6, 0, 0, 0, 0, 0⟩ by rfl)
                  have HW0 := Lib.hid (show w.heap.size < wr.heap.size from HQ.out.1.lt)
                  clear hx10 hb10 hcq hcqd
                  have H11 := Lib.hid (And.intro HX10.out.1 HX10.out.2.1)
                  have hle := HX10.out.2.2
                  clear hc10 hg10 hne10 hle10 HX10
                  cases hr : stOk ⟨6, 0, 0, 0, 0, 0⟩
                  · have HR := Lib.hid hr
                    have HN := Lib.hid (show NoneBelow (f0 :: fs) 7 from none_next HQ2.out.2 (by rw [HCD.out, hr]; rintro ⟨h, _⟩; cases h))
                    clear hr
                    go_wp2_with (first
                      | (refine wpList_load_row rfl 45 _ rfl g10 rfl _ _ _ _ H11.out.1 Tryz.underlying45 rfl (by kernel_rfl) ?_)
                      | (go_at_call 49; refine (spec_stmtok ⟨6, 0, 0, 0, 0, 0⟩ false HR.out _).mono ?_; rintro e w12 ⟨rfl, hb12⟩; refine Hid.out ?_))
                    have hb13 := Lib.hid (below_then HQ2.out.1 (below_then H11.out.2 hb12))
                    clear hb12
                    refine Lib.hid ?_
                    go_wp2
                    go_roundw
                    case rel => exact ⟨7, by omega, by omega, rfl, HN, hb13.out⟩
                    case measure => simp [intOf]
                  · have HR := Lib.hid hr
                    obtain ⟨X, hX⟩ : ∃ X, textR ⟨6, 0, 0, 0, 0, 0⟩ = X := ⟨_, rfl⟩
                    have HFM := Lib.hid (show ∀ w, Calls Tryz.prog 24 #[stV ⟨6, 0, 0, 0, 0, 0⟩] w (RetS w X) from fun w => hX ▸ spec_fmtstmt ⟨6, 0, 0, 0, 0, 0⟩ w)
                    have HXT := Lib.hid hX
                    clear hr hX
                    go_wp2_with (first
                      | (refine wpList_load_row rfl 45 _ rfl g10 rfl _ _ _ _ H11.out.1 Tryz.underlying45 rfl (by kernel_rfl) ?_)
                      | (go_at_call 49; refine (spec_stmtok ⟨6, 0, 0, 0, 0, 0⟩ true HR.out _).mono ?_; rintro e w12 ⟨rfl, hb12⟩; refine Hid.out ?_))
                    have H12 := Lib.hid (And.intro (H11.out.1.below hb12) (below_then H11.out.2 hb12))
                    clear hb12 H11
                    have k0 : w12.cell? ⟨g10, 0, none⟩ = some (.int .i64 6) := H12.out.1.cell 0
                    have k1 : w12.cell? ⟨g10, 1, none⟩ = some (.int .i64 0) := H12.out.1.cell 1
                    have k2 : w12.cell? ⟨g10, 2, none⟩ = some (.int .i64 0) := H12.out.1.cell 2
                    have k3 : w12.cell? ⟨g10, 3, none⟩ = some (.int .i64 0) := H12.out.1.cell 3
                    have k4 : w12.cell? ⟨g10, 4, none⟩ = some (.int .i64 0) := H12.out.1.cell 4
                    have k5 : w12.cell? ⟨g10, 5, none⟩ = some (.int .i64 0) := H12.out.1.cell 5
                    have kl := H12.out.1.lt
                    refine Lib.hid ?_
                    go_wp2_with (first
                      | (refine wpList_load_row rfl 45 _ rfl g10 rfl _ _ _ _ H12.out.1 Tryz.underlying45 rfl (by kernel_rfl) ?_)
                      | (go_at_call 24; refine (HFM.out _).mono ?_; rintro e w13 ⟨rfl, hb13⟩; refine Hid.out ?_))
                    have H13 := Lib.hid (And.intro (H12.out.1.below hb13) (below_then H12.out.2 hb13))
                    clear hb13 H12 k0 k1 k2 k3 k4 k5 kl
                    cases hq : (X == A)
                    · have HN := Lib.hid (show NoneBelow (f0 :: fs) 7 from none_next HQ2.out.2 (by
                        rw [HCD.out, HXT.out, ← HA.out]; rintro ⟨_, h⟩; rw [h] at hq; simp at hq))
                      have hb14 := Lib.hid (below_then HQ2.out.1 H13.out.2)
                      refine Lib.hid ?_
                      go_wp2
                      go_roundw
                      case rel => exact ⟨7, by omega, by omega, rfl, HN, hb14.out⟩
                      case measure => simp [intOf]
                    · have HF := Lib.hid (show IsParse (fieldsR s.data.toList) ⟨6, 0, 0, 0, 0, 0⟩ true by
                        rw [HFE.out]; refine some_text (by simp) (by rw [← HFE.out]; exact fields_good) ?_
                        rw [HXT.out, ← HA.out]; simpa using hq)
                      have H14 := Lib.hid (And.intro (HQ.out.1.below H13.out.2) (below_then HQ.out.2 H13.out.2))
                      refine Lib.hid ?_
                      go_wp2_with (first
                        | (refine wpList_load_row rfl 45 _ rfl g10 rfl _ _ _ _ H13.out.1 Tryz.underlying45 rfl (by kernel_rfl) ?_)
                        | ((refine wpList_store_box rfl 45 _ _ rfl w.heap.size _ _ H14.out.1 #[.int .i64 6, .int .i64 0, .int .i64 0, .int .i64 0, .int .i64 0, .int .i64 0] rfl rfl rfl (by kernel_rfl) (by simp [Value.oneCell']) ?_); intro w15 hx15 hg15; refine Hid.out ?_))
                      have H15 := Lib.hid (And.intro hx15 (H14.out.2.grown hg15 H14.out.2.size (fun j hj => by cases hj; exact Nat.le_refl _)))
                      clear hx15 hg15
                      refine Lib.hid ?_
                      go_wp2
                      exact bodyPost_ret (v := .tuple #[stV ⟨6, 0, 0, 0, 0, 0⟩, .bool true]) (results_box2 rfl _ _ w.heap.size _ _ _ _ rfl rfl H15.out.1 Tryz.underlying45 rfl (by kernel_rfl)) rfl ⟨_, _, rfl, HF, H15.out.2⟩
              · have HF := Lib.hid (show IsParse (fieldsR s.data.toList) ⟨0, 0, 0, 0, 0, 0⟩ false by rw [HFE.out]; exact none_end HQ2.out.2)
                go_wp2_with ((refine wpList_store_box rfl 45 _ _ rfl w.heap.size _ _ HQ.out.1 zeroC rfl rfl rfl (by kernel_rfl) (by simp [Value.oneCell']) ?_); intro w7 hxz hgz; refine Hid.out ?_)
                have HZ := Lib.hid (And.intro hxz (HQ.out.2.grown hgz HQ.out.2.size (fun j hj => by cases hj; exact Nat.le_refl _)))
                clear hxz hgz
                refine Lib.hid ?_
                go_wp2
                exact bodyPost_ret (v := .tuple #[stV ⟨0, 0, 0, 0, 0, 0⟩, .bool false]) (results_box2 rfl _ _ w.heap.size _ _ _ _ rfl rfl HZ.out.1 Tryz.underlying45 rfl (by kernel_rfl)) rfl ⟨_, _, rfl, HF, HZ.out.2⟩
end Go.Proofs.YtpipnhceajdfkaaGreatDoor.tex
