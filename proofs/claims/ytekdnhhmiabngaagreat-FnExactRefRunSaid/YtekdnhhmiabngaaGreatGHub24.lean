/- Several texts in one: ExeI. -/
import Derived.Test.YtekdnhhmiabngaaGreatGHub21
import Derived.Test.YtekdnhhmiabngaaGreatGHub23
import Derived.Deep.RegionHeld3
import Derived.Deep.RegionLaw

/- Chapter 12 of the program: TaskEffect, SensesOf (and ReadSensor): what the plain relations say, in new memory; nothing that was there is written. -/
namespace Go.Proofs.YtekdnhhmiabngaaGreat.exe
open Go Go.ChangeShapes Go.WideShapes Go.ChangeAt Go.RowKit Go.Proofs.YtekdnhhmiabngaaGreat.row Go.Proofs.YtekdnhhmiabngaaGreat.val Go.Proofs.YtekdnhhmiabngaaGreat.expr Go.Proofs.YtekdnhhmiabngaaGreat.stm Go.Proofs.YtekdnhhmiabngaaGreat.blk Go.Proofs.YtekdnhhmiabngaaGreat.sets Go.Proofs.YtekdnhhmiabngaaGreat.prg
theorem not_can {P : List Tk} {V Y : List Int} {i : Int} (h : ¬ CanRun P V i) : NotAt P V Y i := by
  rcases can_next h with h | h | h | h
  · exact .inl h
  · exact .inr (.inl h)
  · exact .inr (.inr (.inr (.inl h)))
  · exact .inr (.inr (.inr (.inr h)))
theorem keepE {w w' : World} {g b : Nat} {x0 x1 x2 x3 : Value} (hb : Below w.heap.size w w') (hg : g < w.heap.size) (hbb : b < w.heap.size) (h : w.cell? ⟨g, 0, none⟩ = some x0 ∧ w.cell? ⟨g, 1, none⟩ = some x1 ∧ w.cell? ⟨g, 2, none⟩ = some x2 ∧ w.cell? ⟨b, 0, none⟩ = some x3) : w'.cell? ⟨g, 0, none⟩ = some x0 ∧ w'.cell? ⟨g, 1, none⟩ = some x1 ∧ w'.cell? ⟨g, 2, none⟩ = some x2 ∧ w'.cell? ⟨b, 0, none⟩ = some x3 :=
  ⟨(hb.cell (p := ⟨g, 0, none⟩) hg).trans h.1, (hb.cell (p := ⟨g, 1, none⟩) hg).trans h.2.1, (hb.cell (p := ⟨g, 2, none⟩) hg).trans h.2.2.1, (hb.cell (p := ⟨b, 0, none⟩) hbb).trans h.2.2.2⟩
theorem putE {w : World} {g b q k : Nat} {x0 x1 x2 x3 u : Value} (h1 : g ≠ q) (h2 : b ≠ q) (h : w.cell? ⟨g, 0, none⟩ = some x0 ∧ w.cell? ⟨g, 1, none⟩ = some x1 ∧ w.cell? ⟨g, 2, none⟩ = some x2 ∧ w.cell? ⟨b, 0, none⟩ = some x3) : (w.setCell ⟨q, k, none⟩ u).cell? ⟨g, 0, none⟩ = some x0 ∧ (w.setCell ⟨q, k, none⟩ u).cell? ⟨g, 1, none⟩ = some x1 ∧ (w.setCell ⟨q, k, none⟩ u).cell? ⟨g, 2, none⟩ = some x2 ∧ (w.setCell ⟨q, k, none⟩ u).cell? ⟨b, 0, none⟩ = some x3 :=
  ⟨(cell_putP h1).trans h.1, (cell_putP h1).trans h.2.1, (cell_putP h1).trans h.2.2.1, (cell_putP h2).trans h.2.2.2⟩
set_option maxHeartbeats 8000000 in
set_option maxRecDepth 100000 in
theorem impl_taskeffect : TeC := by
  intro a n cap P hz hcap w h ad nv cv V hnv _ hV ay ny cy Y hny _ hY i r E hE
  obtain ⟨W, hW⟩ : ∃ W, ((w.alloc (.cells #[.slice a n cap] 26)).alloc (.cells #[.slice ay ny cy] 28)).alloc (.cells zero4E 37) = W := ⟨_, rfl⟩
  have hBW : Below w.heap.size w W := by rw [← hW]; exact below_then (below_then (below_new w _) (below_new _ _)) (below_new _ _)
  have hpx : Box w.heap.size #[.slice a n cap] 26 W := by rw [← hW]; exact ((Box.new w _ _).alloc _).alloc _
  have hux : Box (w.heap.size + 1) #[.slice ay ny cy] 28 W := by
    have h9 := Box.new (w.alloc (.cells #[.slice a n cap] 26)) #[.slice ay ny cy] 28
    rw [World.size_alloc] at h9
    rw [← hW]; exact h9.alloc _
  have hex : Box (w.heap.size + 2) zero4E 37 W := by
    have h9 := Box.new ((w.alloc (.cells #[.slice a n cap] 26)).alloc (.cells #[.slice ay ny cy] 28)) zero4E 37
    rw [World.size_alloc, World.size_alloc] at h9
    rw [← hW]; exact h9
  have hWs : W.heap.size = w.heap.size + 3 := by rw [← hW]; simp
  have HW := Lib.hid hW
  have HEI := Lib.hid hE
  have HZ := Lib.hid hz
  have hlen := h.1
  have H0 := Lib.hid (And.intro hpx (And.intro hux (And.intro hex (And.intro hBW (And.intro (h.below hBW) (And.intro (hV.below hBW) (hY.below hBW)))))))
  have hWl : w.heap.size < W.heap.size ∧ w.heap.size + 1 < W.heap.size ∧ w.heap.size + 2 < W.heap.size := by omega
  clear hpx hux hex hBW h hV hY hE hz hW hWs
  have c0 : W.cell? ⟨w.heap.size, 0, none⟩ = some (.slice a n cap) := H0.out.1.cell 0
  obtain ⟨rc, hrc⟩ := can_dec P V i
  have HRC := Lib.hid hrc
  cases rc
  · obtain ⟨rfl, rfl⟩ : r = false ∧ E = zeroEff := by
      rcases HEI.out with ⟨h1, h2, _⟩ | ⟨_, t, T, h, _⟩
      · exact ⟨h1, h2⟩
      · exact (h.not (not_can (fun h => by have := hrc.2 h; cases this))).elim
    clear hrc
    go_enter Tryz.func16, Tryz.ntmps16
    go_wp2_with (go_at_call 57; rw [HW.out]; (with_reducible refine (impl_can a n cap P HZ.out hcap _ H0.out.2.2.2.2.1 ad nv cv V hnv H0.out.2.2.2.2.2.1 i false HRC.out).mono ?_); rintro e w2 ⟨rfl, hb2⟩; refine Hid.out ?_)
    have HB2 := Lib.hid hb2
    have HX2 := Lib.hid (H0.out.2.2.1.below hb2)
    clear hb2 c0
    refine Lib.hid ?_
    go_wp2_with (first
      | ((refine wpList_store_box rfl 37 _ _ rfl (w.heap.size + 2) _ _ HX2.out zero4E rfl rfl rfl (by kernel_rfl) (by simp [Value.oneCell']) ?_); intro w5 hx5 hg5; refine Hid.out ?_))
    have hB5 : Below w.heap.size w w5 := (H0.out.2.2.2.1.trans (HB2.out.mono (by omega))).grown hg5 (Nat.le_trans (by omega) HB2.out.size) (fun k hk => by cases hk; omega)
    have H9 := Lib.hid (And.intro hx5 hB5)
    clear hx5 hg5 hB5
    refine Lib.hid ?_
    go_wp2
    refine bodyPost_ret (v := .tuple #[effV none 0 0 none 0 0 zeroEff, .bool false]) (results_box2 rfl _ _ (w.heap.size + 2) _ _ _ _ rfl rfl H9.out.1 Tryz.underlying37 rfl (by kernel_rfl)) rfl ?_
    exact ⟨_, _, _, _, _, _, rfl, ⟨World.ownsRow_nil _ _ _ _, World.ownsRow_nil _ _ _ _, .inl rfl⟩, H9.out.2⟩
  · have HCAN := Lib.hid (hrc.1 rfl)
    clear hrc
    cases hy9 : allV Y
    · have HYV := Lib.hid (show Y.all isVal = false from hy9)
      obtain ⟨rfl, rfl⟩ : r = false ∧ E = zeroEff := by
        rcases HEI.out with ⟨h1, h2, _⟩ | ⟨_, t, T, h, _⟩
        · exact ⟨h1, h2⟩
        · exact (h.not (.inr (.inr (.inl hy9)))).elim
      clear hy9
      go_enter Tryz.func16, Tryz.ntmps16
      go_wp2_with (go_at_call 57; rw [HW.out]; (with_reducible refine (impl_can a n cap P HZ.out hcap _ H0.out.2.2.2.2.1 ad nv cv V hnv H0.out.2.2.2.2.2.1 i true HRC.out).mono ?_); rintro e w2 ⟨rfl, hb2⟩; refine Hid.out ?_)
      have HB2 := Lib.hid hb2
      have HX2 := Lib.hid (H0.out.2.2.1.below hb2)
      have d1 : w2.cell? ⟨w.heap.size + 1, 0, none⟩ = some (.slice ay ny cy) := (hb2.cell (p := ⟨w.heap.size + 1, 0, none⟩) hWl.2.1).trans (H0.out.2.1.cell 0)
      clear hb2 c0
      refine Lib.hid ?_
      go_wp2_with (first
        | ((refine wpList_store_box rfl 37 _ _ rfl (w.heap.size + 2) _ _ HX2.out zero4E rfl rfl rfl (by kernel_rfl) (by simp [Value.oneCell']) ?_); intro w5 hx5 hg5; refine Hid.out ?_)
        | (go_at_call 58; (with_reducible refine (impl_are _ ay ny cy Y hny (H0.out.2.2.2.2.2.2.below HB2.out) false HYV.out).mono ?_); rintro e w3 ⟨rfl, rfl⟩))
      have hB5 : Below w.heap.size w w5 := (H0.out.2.2.2.1.trans (HB2.out.mono (by omega))).grown hg5 (Nat.le_trans (by omega) HB2.out.size) (fun k hk => by cases hk; omega)
      have H9 := Lib.hid (And.intro hx5 hB5)
      clear hx5 hg5 hB5
      refine Lib.hid ?_
      go_wp2
      refine bodyPost_ret (v := .tuple #[effV none 0 0 none 0 0 zeroEff, .bool false]) (results_box2 rfl _ _ (w.heap.size + 2) _ _ _ _ rfl rfl H9.out.1 Tryz.underlying37 rfl (by kernel_rfl)) rfl ?_
      exact ⟨_, _, _, _, _, _, rfl, ⟨World.ownsRow_nil _ _ _ _, World.ownsRow_nil _ _ _ _, .inl rfl⟩, H9.out.2⟩
    · have HYV := Lib.hid (show Y.all isVal = true from hy9)
      have hcan := HCAN.out
      obtain ⟨j, rfl⟩ : ∃ j : Nat, i = j := ⟨i.toNat, by have := hcan.2.2.1; omega⟩
      obtain ⟨t, T, ht, hT⟩ := taskAt_ex (j := j) hcan.1 hcan.2.1 hy9 (by have := hcan.2.2.2; omega)
      obtain ⟨rfl, rfl⟩ := HEI.out.at hT
      have hbe := hT.blk
      have hpar : Par t.b 0 t.b.length T := by
        obtain ⟨_, _, _, j', hjj, ht', hp⟩ := hT
        obtain rfl : j = j' := by omega
        exact hp
      have hjn : j < n := by have := hcan.2.2.2; rw [hlen] at this; omega
      obtain ⟨y, hy⟩ : ∃ y, exec (listSrc Y) T ⟨V, [], []⟩ = y := ⟨_, rfl⟩
      have hyV : varsOk y.V = true := by rw [← hy]; exact exec_varsP (listSrc_val hy9) T hcan.2.1
      obtain ⟨gt, off, t', ha, hlb, ht', ab, nb, cb, hrg, hbc, hrow⟩ := H0.out.2.2.2.2.1.2 j hjn
      obtain rfl : t' = t := by rw [ht] at ht'; exact (Option.some.inj ht').symm
      subst ha
      have HYE := Lib.hid hy
      have HQ := Lib.hid (And.intro ht (And.intro hbe (And.intro hpar (And.intro hcan (And.intro hyV (And.intro hrow hy9))))))
      have q0 := (range4 hrg).1
      have hI : (j : Int) < n := by omega
      have hj0 : (0 : Int) ≤ j := by omega
      have hmf : ∀ (fn : Fn) (first cap : Array Value) (w : World), (Instr.makeFunc fn first cap).run Tryz.prog w = .ok (.func fn first cap) w := fun _ _ _ _ => rfl
      clear hy9 hcan ht hT hbe hpar hy hyV ht' hrg hrow
      go_enter Tryz.func16, Tryz.ntmps16
      go_wp2_with (go_at_call 57; rw [HW.out]; (with_reducible refine (impl_can _ n cap P HZ.out hcap _ H0.out.2.2.2.2.1 ad nv cv V hnv H0.out.2.2.2.2.2.1 _ true HRC.out).mono ?_); rintro e w2 ⟨rfl, hb2⟩; refine Hid.out ?_)
      have HB2 := Lib.hid hb2
      have d0 : w2.cell? ⟨w.heap.size, 0, none⟩ = some (.slice (some ⟨gt, off, none⟩) n cap) := (hb2.cell (p := ⟨w.heap.size, 0, none⟩) hWl.1).trans c0
      have d1 : w2.cell? ⟨w.heap.size + 1, 0, none⟩ = some (.slice ay ny cy) := (hb2.cell (p := ⟨w.heap.size + 1, 0, none⟩) hWl.2.1).trans (H0.out.2.1.cell 0)
      have d2 : w2.cell? ⟨gt, off + j * 4, none⟩ = some (.slice ab nb cb) := (hb2.cell (p := ⟨gt, off + j * 4, none⟩) hlb).trans q0
      have HEX := Lib.hid (show Calls Tryz.prog 59 #[.slice ab nb cb, .slice ad nv cv, fnT (w.heap.size + 1)] w2 (ExOf w2 ⟨false, w.heap.size + 1, 0, ay, ny, cy, Y, 0⟩ y) from
        impl_execof w2 ⟨false, w.heap.size + 1, 0, ay, ny, cy, Y, 0⟩ ⟨H0.out.2.2.2.2.2.2.below hb2, hny, (by show (0 : Int) ≤ 0 ∧ (0 : Int) ≤ 1000000; decide), HQ.out.2.2.2.2.2.2⟩ ⟨⟨Nat.lt_of_lt_of_le hWl.2.1 hb2.size, d1⟩, (fun e => by cases e), fun _ => trivial⟩ ab nb cb t'.b hbc (HQ.out.2.2.2.2.2.1.below hb2) HQ.out.2.1.1 T HQ.out.2.2.1 ad nv cv V hnv (H0.out.2.2.2.2.2.1.below hb2) HQ.out.2.2.2.1.2.1 y HYE.out)
      clear hb2 c0 q0
      refine Lib.hid ?_
      go_wp2_with (first
        | (go_at_call 58; (with_reducible refine (impl_are _ ay ny cy Y hny (H0.out.2.2.2.2.2.2.below HB2.out) true HYV.out).mono ?_); rintro e w3 ⟨rfl, rfl⟩)
        | (go_at_call 59; (with_reducible refine HEX.out.mono ?_); rintro e w4 ⟨gv, cv4, a1, n1, c1, a2, n2, c2, rfl, hr4, hb4⟩; refine Hid.out ?_))
      have HR4 := Lib.hid (And.intro hr4.out hb4)
      have HX := Lib.hid (And.intro (Box.new w4 zero4P 87) (below_new w4 (.cells zero4P 87)))
      clear hr4 hb4 d0 d1 d2
      refine Lib.hid ?_
      go_wp2_with ((refine wpList_store_box rfl 87 _ _ rfl w4.heap.size _ _ HX.out.1 #[.slice (some ⟨gv, 0, none⟩) 8 cv4, .slice a1 n1 c1, .slice a2 n2 c2, fnT (w.heap.size + 1), fnQ] rfl rfl rfl (by kernel_rfl) (by simp [Value.oneCell']) ?_); intro w5 hx5 hg5; refine Hid.out ?_)
      have hb5 : Below w4.heap.size w4 w5 := HX.out.2.grown hg5 HX.out.2.size (fun k hk => by cases hk; exact Nat.le_refl _)
      have hbW5 : Below W.heap.size W w5 := (below_then HB2.out (below_then HR4.out.2 hb5))
      have hrD := (HR4.out.1.below hb5).below (Below.drew (Below.refl _ w5))
      have hbD : Below W.heap.size W w5.drew := hbW5.trans ((Below.drew (Below.refl _ w5)).mono hbW5.size)
      have cT : w5.drew.cell? ⟨w4.heap.size, 0, none⟩ = some (.slice (some ⟨gv, 0, none⟩) 8 cv4) ∧ w5.drew.cell? ⟨w4.heap.size, 1, none⟩ = some (.slice a1 n1 c1) ∧ w5.drew.cell? ⟨w4.heap.size, 2, none⟩ = some (.slice a2 n2 c2) ∧ w5.drew.cell? ⟨w.heap.size, 0, none⟩ = some (.slice (some ⟨gt, off, none⟩) n cap) := ⟨hx5.cell 0, hx5.cell 1, hx5.cell 2, (hbD.cell (p := ⟨w.heap.size, 0, none⟩) hWl.1).trans (H0.out.1.cell 0)⟩
      have hgl : w4.heap.size < w5.drew.heap.size := hx5.lt
      have hl4 : w.heap.size < w5.drew.heap.size := Nat.lt_of_lt_of_le hWl.1 hbD.size
      obtain ⟨X, hX⟩ : ∃ X, nx (evalV y.V t'.o t'.x t'.y) P.length = X := ⟨_, rfl⟩
      have HN4 := Lib.hid (impl_nexttask (some ⟨gt, off, none⟩) n cap P HZ.out hcap w5.drew (H0.out.2.2.2.2.1.below hbD) (some ⟨gv, 0, none⟩) 8 cv4 y.V (by decide) hrD.vrow j X (.inl ⟨j, t', rfl, HQ.out.1, HQ.out.2.2.2.1.1, HQ.out.2.2.2.2.1, hX.symm⟩))
      have hex5 : Box (w.heap.size + 2) zero4E 37 w5.drew := (hbD.block _ hWl.2.2).trans H0.out.2.2.1
      have H5 := Lib.hid (And.intro hbD (And.intro hrD hex5))
      have hw24 : W.heap.size ≤ w4.heap.size := Nat.le_trans HB2.out.size HR4.out.2.size
      have hne1 : w4.heap.size ≠ w.heap.size + 2 := by omega
      have hne2 : w.heap.size ≠ w.heap.size + 2 := by omega
      have HXX := Lib.hid hX
      clear hx5 hg5 hb5 hbW5 hrD hbD hex5 hX
      refine Lib.hid ?_
      go_wp2
      go_region_held3 (fun w' => w'.cell? ⟨w4.heap.size, 0, none⟩ = some (.slice (some ⟨gv, 0, none⟩) 8 cv4) ∧ w'.cell? ⟨w4.heap.size, 1, none⟩ = some (.slice a1 n1 c1) ∧ w'.cell? ⟨w4.heap.size, 2, none⟩ = some (.slice a2 n2 c2) ∧ w'.cell? ⟨w.heap.size, 0, none⟩ = some (.slice (some ⟨gt, off, none⟩) n cap))
        (first
          | (with_reducible exact putE hne1 hne2 (putE hne1 hne2 (putE hne1 hne2 (putE hne1 hne2 sY))))
          | (with_reducible exact cT)
          | (with_reducible exact sY))
        (first
          | (go_at_call 61; (with_reducible refine HN4.out.mono ?_); rintro e w6 ⟨rfl, hb6⟩; have sY := keepE hb6 hgl hl4 cT; have hbx6 := H5.out.2.2.below hb6; have k0 := hbx6.cell 0; have k1 := hbx6.cell 1; have k2 := hbx6.cell 2; have k3 := hbx6.cell 3; have f0 := hbx6.frozen 0; have f1 := hbx6.frozen 1; have f2 := hbx6.frozen 2; have f3 := hbx6.frozen 3))
      all_goals
        have hr6 := H5.out.2.1.below hb6
        have hE : effOf P t' y = ⟨y.V, y.S, X, n2⟩ := by
          have h1 := hr6.ulen
          unfold effOf
          rw [HXX.out, h1]
        have hx9 : Box (w.heap.size + 2) #[.slice (some ⟨gv, 0, none⟩) 8 cv4, .slice a1 n1 c1, .int .i64 X, .int .i64 n2] 37 ((((w6.setCell ⟨w.heap.size + 2, 0, none⟩ (.slice (some ⟨gv, 0, none⟩) 8 cv4)).setCell ⟨w.heap.size + 2, 1, none⟩ (.slice a1 n1 c1)).setCell ⟨w.heap.size + 2, 2, none⟩ (.int .i64 X)).setCell ⟨w.heap.size + 2, 3, none⟩ (.int .i64 n2)) := (((hbx6.set 0 _).set 1 _).set 2 _).set 3 _
        have hg9 : w6.grownBy ((((w6.setCell ⟨w.heap.size + 2, 0, none⟩ (.slice (some ⟨gv, 0, none⟩) 8 cv4)).setCell ⟨w.heap.size + 2, 1, none⟩ (.slice a1 n1 c1)).setCell ⟨w.heap.size + 2, 2, none⟩ (.int .i64 X)).setCell ⟨w.heap.size + 2, 3, none⟩ (.int .i64 n2)) (some (w.heap.size + 2)) :=
          ((grown_setCell _ _ _ _).trans ((grown_setCell _ _ _ _).trans ((grown_setCell _ _ _ _).trans (grown_setCell _ _ _ _))))
        have hB6 : Below w.heap.size w w6 := H0.out.2.2.2.1.trans ((H5.out.1.trans (hb6.mono H5.out.1.size)).mono (by omega))
        obtain ⟨W9, hW9⟩ : ∃ W9, ((((w6.setCell ⟨w.heap.size + 2, 0, none⟩ (.slice (some ⟨gv, 0, none⟩) 8 cv4)).setCell ⟨w.heap.size + 2, 1, none⟩ (.slice a1 n1 c1)).setCell ⟨w.heap.size + 2, 2, none⟩ (.int .i64 X)).setCell ⟨w.heap.size + 2, 3, none⟩ (.int .i64 n2)) = W9 := ⟨_, rfl⟩
        rw [hW9] at hx9 hg9 ⊢
        have hr9 := hr6.under (C := w.heap.size) hg9 (by have := HB2.out.size; omega) (by have := HB2.out.size; omega)
        have H9 := Lib.hid (And.intro hx9 (And.intro hr9 (hB6.grown hg9 hB6.size (fun k hk => by cases hk; omega))))
        have HE := Lib.hid hE
        clear hx9 hg9 hr9 hr6 hB6 hW9 hE k0 k1 k2 k3 f0 f1 f2 f3 hbx6 sY cT
        refine Lib.hid ?_
        go_wp2
        refine bodyPost_ret (v := .tuple #[effV (some ⟨gv, 0, none⟩) 8 cv4 a1 n1 c1 ⟨y.V, y.S, X, n2⟩, .bool true]) (results_box2 rfl _ _ (w.heap.size + 2) _ _ _ _ rfl rfl H9.out.1 Tryz.underlying37 rfl (by kernel_rfl)) rfl ?_
        rw [HYE.out, HE.out]
        exact ⟨_, _, _, _, _, _, rfl, ⟨H9.out.2.1.vars, H9.out.2.1.sent, .inr (fun e => H9.out.2.1.sv e.symm)⟩, H9.out.2.2⟩
set_option maxHeartbeats 8000000 in
set_option maxRecDepth 100000 in
theorem impl_sensesof : SoC := by
  intro a n cap P hz hcap w h ad nv cv V hnv _ hV ar nr cr R hnr _ hR i z U hU
  obtain ⟨W, hW⟩ : ∃ W, w.alloc (.cells #[.slice a n cap] 26) = W := ⟨_, rfl⟩
  have hBW : Below w.heap.size w W := by rw [← hW]; exact below_new w _
  have hpx : Box w.heap.size #[.slice a n cap] 26 W := by rw [← hW]; exact Box.new w _ _
  have hWs : W.heap.size = w.heap.size + 1 := by rw [← hW]; simp
  have HW := Lib.hid hW
  have HUI := Lib.hid hU
  have HZ := Lib.hid hz
  have hlen := h.1
  have H0 := Lib.hid (And.intro hpx (And.intro True.intro (And.intro True.intro (And.intro hBW (And.intro (h.below hBW) (And.intro (hV.below hBW) (hR.below hBW)))))))
  have hWl : w.heap.size < W.heap.size := by omega
  have HNO := Lib.hid (show (NotAt P V R i ∨ z < 0 ∨ 1000000 < z) → U = [] from fun hn => by
    rcases HUI.out with ⟨h1, _⟩ | ⟨hz1, t, T, h1, _⟩
    · exact h1
    · rcases hn with hn | hn | hn
      · exact (h1.not hn).elim
      · omega
      · omega)
  clear hpx hBW h hV hR hU hz hW hWs
  have c0 : W.cell? ⟨w.heap.size, 0, none⟩ = some (.slice a n cap) := H0.out.1.cell 0
  obtain ⟨rc, hrc⟩ := can_dec P V i
  have HRC := Lib.hid hrc
  cases rc
  · have HU0 := Lib.hid (HNO.out (.inl (not_can (fun h => by have := hrc.2 h; cases this))))
    clear hrc
    go_enter Tryz.func36, Tryz.ntmps36
    go_wp2_with (go_at_call 57; rw [HW.out]; (with_reducible refine (impl_can _ n cap P HZ.out hcap _ H0.out.2.2.2.2.1 ad nv cv V hnv H0.out.2.2.2.2.2.1 _ false HRC.out).mono ?_); rintro e w2 ⟨rfl, hb2⟩; refine Hid.out ?_)
    have HB2 := Lib.hid hb2
    clear hb2 c0
    refine Lib.hid ?_
    go_wp2
    go_ret
    rw [HU0.out]
    exact ⟨none, 0, 0, rfl, World.ownsRow_nil _ _ _ _, H0.out.2.2.2.1.trans (HB2.out.mono (by omega))⟩
  · have HCAN := Lib.hid (hrc.1 rfl)
    clear hrc
    cases hzz : (decide (0 ≤ z) && decide (z ≤ 1000000))
    · have HZZ := Lib.hid hzz
      have HU0 := Lib.hid (HNO.out (.inr (by simp at hzz; omega)))
      clear hzz
      go_enter Tryz.func36, Tryz.ntmps36
      go_wp2_with (go_at_call 57; rw [HW.out]; (with_reducible refine (impl_can _ n cap P HZ.out hcap _ H0.out.2.2.2.2.1 ad nv cv V hnv H0.out.2.2.2.2.2.1 _ true HRC.out).mono ?_); rintro e w2 ⟨rfl, hb2⟩; refine Hid.out ?_)
      have HB2 := Lib.hid hb2
      clear hb2 c0
      refine Lib.hid ?_
      go_wp2_with (first
        | (go_at_call 77; (with_reducible refine (impl_first z false HZZ.out _).mono ?_); rintro e w3 ⟨rfl, rfl⟩))
      go_ret
      rw [HU0.out]
      exact ⟨none, 0, 0, rfl, World.ownsRow_nil _ _ _ _, H0.out.2.2.2.1.trans (HB2.out.mono (by omega))⟩
    · have HZZ := Lib.hid hzz
      have hzb : 0 ≤ z ∧ z ≤ 1000000 := by simpa using hzz
      clear hzz
      cases hy9 : allV R
      · have HYV := Lib.hid (show R.all isVal = false from hy9)
        have HU0 := Lib.hid (HNO.out (.inl (.inr (.inr (.inl hy9)))))
        clear hy9
        go_enter Tryz.func36, Tryz.ntmps36
        go_wp2_with (go_at_call 57; rw [HW.out]; (with_reducible refine (impl_can _ n cap P HZ.out hcap _ H0.out.2.2.2.2.1 ad nv cv V hnv H0.out.2.2.2.2.2.1 _ true HRC.out).mono ?_); rintro e w2 ⟨rfl, hb2⟩; refine Hid.out ?_)
        have HB2 := Lib.hid hb2
        clear hb2 c0
        refine Lib.hid ?_
        go_wp2_with (first
          | (go_at_call 77; (with_reducible refine (impl_first z true HZZ.out _).mono ?_); rintro e w3 ⟨rfl, rfl⟩)
          | (go_at_call 58; (with_reducible refine (impl_are _ ar nr cr R hnr (H0.out.2.2.2.2.2.2.below HB2.out) false HYV.out).mono ?_); rintro e w3 ⟨rfl, rfl⟩))
        go_ret
        rw [HU0.out]
        exact ⟨none, 0, 0, rfl, World.ownsRow_nil _ _ _ _, H0.out.2.2.2.1.trans (HB2.out.mono (by omega))⟩
      · have HYV := Lib.hid (show R.all isVal = true from hy9)
        have hcan := HCAN.out
        obtain ⟨j, rfl⟩ : ∃ j : Nat, i = j := ⟨i.toNat, by have := hcan.2.2.1; omega⟩
        obtain ⟨t, T, ht, hT⟩ := taskAt_ex (j := j) hcan.1 hcan.2.1 hy9 (by have := hcan.2.2.2; omega)
        have hUe : U = (exec (liveSrc R z) T ⟨V, [], []⟩).U := by
          rcases HUI.out with ⟨_, h1 | h1 | h1⟩ | ⟨_, t', T', h1, h2⟩
          · exact (hT.not h1).elim
          · omega
          · omega
          · obtain ⟨rfl, rfl⟩ := hT.unique h1; exact h2
        have hbe := hT.blk
        have hpar : Par t.b 0 t.b.length T := by
          obtain ⟨_, _, _, j', hjj, ht', hp⟩ := hT
          obtain rfl : j = j' := by omega
          exact hp
        have hjn : j < n := by have := hcan.2.2.2; rw [hlen] at this; omega
        obtain ⟨y, hy⟩ : ∃ y, exec (liveSrc R z) T ⟨V, [], []⟩ = y := ⟨_, rfl⟩
        rw [hy] at hUe
        have HUE := Lib.hid hUe
        obtain ⟨gt, off, t', ha, hlb, ht', ab, nb, cb, hrg, hbc, hrow⟩ := H0.out.2.2.2.2.1.2 j hjn
        obtain rfl : t' = t := by rw [ht] at ht'; exact (Option.some.inj ht').symm
        subst ha
        have HYE := Lib.hid hy
        have HQ := Lib.hid (And.intro ht (And.intro hbe (And.intro hpar (And.intro hcan (And.intro hrow hy9)))))
        have q0 := (range4 hrg).1
        have hI : (j : Int) < n := by omega
        have hj0 : (0 : Int) ≤ j := by omega
        have hmf : ∀ (fn : Fn) (first cap : Array Value) (w : World), (Instr.makeFunc fn first cap).run Tryz.prog w = .ok (.func fn first cap) w := fun _ _ _ _ => rfl
        clear hy9 hcan ht hT hbe hpar hy ht' hrg hrow hUe
        go_enter Tryz.func36, Tryz.ntmps36
        go_wp2_with (go_at_call 57; rw [HW.out]; (with_reducible refine (impl_can _ n cap P HZ.out hcap _ H0.out.2.2.2.2.1 ad nv cv V hnv H0.out.2.2.2.2.2.1 _ true HRC.out).mono ?_); rintro e w2 ⟨rfl, hb2⟩; refine Hid.out ?_)
        have HB2 := Lib.hid hb2
        have d0 : w2.drew.cell? ⟨w.heap.size, 0, none⟩ = some (.slice (some ⟨gt, off, none⟩) n cap) := (hb2.cell (p := ⟨w.heap.size, 0, none⟩) hWl).trans c0
        have d3 : w2.drew.cell? ⟨gt, off + j * 4, none⟩ = some (.slice ab nb cb) := (hb2.cell (p := ⟨gt, off + j * 4, none⟩) hlb).trans q0
        have hl2 : w.heap.size < w2.drew.heap.size ∧ gt < w2.drew.heap.size := ⟨Nat.lt_of_lt_of_le hWl hb2.size, Nat.lt_of_lt_of_le hlb hb2.size⟩
        have hfld : ∀ (x0 x1 x2 x3 x4 : Value) (w : World), (Instr.field 87 (.agg #[x0, x1, x2, x3, x4]) 2).run Tryz.prog w = .ok x2 w := fun _ _ _ _ _ _ => by rfl
        have HSF := Lib.hid (impl_sensorsfrom ar nr cr z w2.drew)
        have HEX := Lib.hid (show ∀ w3, Below w2.drew.heap.size w2.drew w3 → Box w2.drew.heap.size #[.slice ar nr cr] 28 w3 → Box (w2.drew.heap.size + 1) #[.int .i64 z] 3 w3 → Calls Tryz.prog 59 #[.slice ab nb cb, .slice ad nv cv, fnS w2.heap.size (w2.heap.size + 1)] w3 (ExOf w3 ⟨true, w2.heap.size, w2.heap.size + 1, ar, nr, cr, R, z⟩ y) from fun w3 hb3 hx1 hx2 => by
          have hb23 := below_then hb2 (below_then (Below.drew (Below.refl _ w2)) hb3)
          exact impl_execof w3 ⟨true, w2.heap.size, w2.heap.size + 1, ar, nr, cr, R, z⟩ ⟨H0.out.2.2.2.2.2.2.below hb23, hnr, hzb, HQ.out.2.2.2.2.2⟩ ⟨⟨hx1.lt, hx1.cell 0⟩, (fun _ => ⟨trivial, hx2.lt, hx2.cell 0⟩), fun e => by cases e⟩ ab nb cb t'.b hbc (HQ.out.2.2.2.2.1.below hb23) HQ.out.2.1.1 T HQ.out.2.2.1 ad nv cv V hnv (H0.out.2.2.2.2.2.1.below hb23) HQ.out.2.2.2.1.2.1 y HYE.out)
        clear hb2 c0 q0
        refine Lib.hid ?_
        go_wp2_with (first
          | (go_at_call 77; (with_reducible refine (impl_first z true HZZ.out _).mono ?_); rintro e w3 ⟨rfl, rfl⟩)
          | (go_at_call 58; (with_reducible refine (impl_are _ ar nr cr R hnr (H0.out.2.2.2.2.2.2.below HB2.out) true HYV.out).mono ?_); rintro e w3 ⟨rfl, rfl⟩))
        go_region_law (first
          | (go_simp; go_at_call 78; (with_reducible refine HSF.out.mono ?_); rintro e w3 ⟨rfl, hb3, hx1, hx2⟩; have k0 := (hb3.cell (p := ⟨w.heap.size, 0, none⟩) hl2.1).trans d0; have k3 := (hb3.cell (p := ⟨gt, off + j * 4, none⟩) hl2.2).trans d3; have HX3 := Lib.hid (And.intro hb3 (And.intro hx1 hx2)); clear hb3 hx1 hx2)
          | (go_simp; go_at_call 59; (with_reducible refine (HEX.out _ HX3.out.1 HX3.out.2.1 HX3.out.2.2).mono ?_); rintro e w4 ⟨gv, cv4, a1, n1, c1, a2, n2, c2, rfl, hr4, hb4⟩))
        all_goals
          have hbW4 : Below W.heap.size W w4 := below_then HB2.out (below_then (below_then (Below.drew (Below.refl _ w2)) HX3.out.1) hb4)
          have hs43 : W.heap.size ≤ w3.heap.size := (below_then HB2.out (below_then (Below.drew (Below.refl _ w2)) HX3.out.1)).size
          have H5 := Lib.hid (And.intro hr4.out.used (H0.out.2.2.2.1.trans (hbW4.mono (by omega))))
          clear hr4 hb4 hbW4 d0 d3 k0 k3
          refine Lib.hid ?_
          go_wp2
          go_ret
          exact ⟨a2, n2, c2, rfl, by rw [HUE.out]; exact H5.out.1.mono (by omega), H5.out.2⟩
end Go.Proofs.YtekdnhhmiabngaaGreat.exe
