/- Several texts in one: ExeW. -/
import Derived.Test.YtlinpefeojpjnaaGreatGHub35
import Derived.Test.YtlinpefeojpjnaaGreatGHub29

/- Chapter 12 of the program: the methods test, repeat and run of an execution: a valid block executed; nothing else that was there is written. -/
namespace Go.Proofs.YtlinpefeojpjnaaGreat.exe
open Go Go.ChangeShapes Go.WideShapes Go.ChangeAt Go.RowKit Go.Proofs.YtlinpefeojpjnaaGreat.row Go.Proofs.YtlinpefeojpjnaaGreat.val Go.Proofs.YtlinpefeojpjnaaGreat.expr Go.Proofs.YtlinpefeojpjnaaGreat.stm Go.Proofs.YtlinpefeojpjnaaGreat.blk Go.Proofs.YtlinpefeojpjnaaGreat.sets
theorem p_keep4 {w w' : World} {g b : Nat} {x0 x1 x2 x3 : Value} (hb : Below w.heap.size w w') (hg : g < w.heap.size) (hbb : b < w.heap.size) (h : w.cell? ⟨g, 0, none⟩ = some x0 ∧ w.cell? ⟨b, 3, none⟩ = some x1 ∧ w.cell? ⟨b, 3 + 1, none⟩ = some x2 ∧ w.cell? ⟨b, 3 + 2, none⟩ = some x3) : w'.cell? ⟨g, 0, none⟩ = some x0 ∧ w'.cell? ⟨b, 3, none⟩ = some x1 ∧ w'.cell? ⟨b, 3 + 1, none⟩ = some x2 ∧ w'.cell? ⟨b, 3 + 2, none⟩ = some x3 :=
  ⟨(hb.cell (p := ⟨g, 0, none⟩) hg).trans h.1, (hb.cell (p := ⟨b, 3, none⟩) hbb).trans h.2.1, (hb.cell (p := ⟨b, 3 + 1, none⟩) hbb).trans h.2.2.1, (hb.cell (p := ⟨b, 3 + 2, none⟩) hbb).trans h.2.2.2⟩
theorem st_kindP {s : Sm} (h : stOk s = true) : s.k = 1 ∨ s.k = 2 ∨ s.k = 3 ∨ s.k = 4 ∨ s.k = 5 ∨ s.k = 6 := by
  by_cases h1 : s.k = 1
  · exact .inl h1
  by_cases h2 : s.k = 2
  · exact .inr (.inl h2)
  by_cases h3 : s.k = 3
  · exact .inr (.inr (.inl h3))
  by_cases h4 : s.k = 4
  · exact .inr (.inr (.inr (.inl h4)))
  by_cases h5 : s.k = 5
  · exact .inr (.inr (.inr (.inr (.inl h5))))
  by_cases h6 : s.k = 6
  · exact .inr (.inr (.inr (.inr (.inr h6))))
  unfold stOk at h
  rw [if_neg h1, if_neg h2, if_neg h3, if_neg h4, if_neg h5, if_neg h6] at h
  cases h
set_option maxHeartbeats 4000000 in
set_option maxRecDepth 100000 in
theorem impl_test (w0 w : World) (c : PCf) (g : Nat) (x : Sx) (s : Sm) (B : Fst) (hk : s.k = 4) (hB : Below w0.heap.size w0 w) (hR : Px w0.heap.size g c x w) (ab : Option Addr) (nb cb : Nat)
    (hrun : ∀ w', Below w0.heap.size w0 w' → Px w0.heap.size g c x w' → Calls Tryz.prog 74 #[.pointer (some ⟨g, 0, none⟩), .slice ab nb cb] w' (MOut w0 g c (exec c.src B x))) :
    Calls Tryz.prog 100 #[.pointer (some ⟨g, 0, none⟩), .agg (stmA s), .slice ab nb cb] w (MOut w0 g c (rep (exec c.src B) (its s x) x)) := by
  obtain ⟨gv, cv, a1, n1, c1, a2, n2, c2, hr⟩ := hR
  obtain ⟨W, hW⟩ : ∃ W, w.alloc (.cells (stmA s) 100) = W := ⟨_, rfl⟩
  have hbW : Below w.heap.size w W := by rw [← hW]; exact below_new w _
  have hbx : Box w.heap.size (stmA s) 100 W := by rw [← hW]; exact Box.new w _ _
  have hgl := hr.box.lt
  have HW := Lib.hid hW
  have HRUN := Lib.hid hrun
  obtain ⟨q, hq⟩ : ∃ q, evalV x.V s.o s.a s.b = q := ⟨_, rfl⟩
  have HEV := Lib.hid (show ∀ w', Row w' (some ⟨gv, 0, none⟩) 8 x.V → Calls Tryz.prog 76 #[.slice (some ⟨gv, 0, none⟩) 8 cv, ev s.o s.a s.b] w' (BelI w' q) from fun w' h => eval_isP w' _ 8 cv x.V (by decide) h _ _ _ q hq)
  have HIT := Lib.hid (show its s x = if q = 0 then 0 else 1 by unfold its; rw [if_pos hk, hq])
  have HRD := Lib.hid ((hr.below hbW).below (Below.drew (Below.refl _ W)))
  have HBD := Lib.hid ((hB.trans (hbW.mono hB.size)).trans ((Below.drew (Below.refl _ W)).mono (hB.trans (hbW.mono hB.size)).size))
  have cS : W.drew.cell? ⟨g, 0, none⟩ = some (.slice (some ⟨gv, 0, none⟩) 8 cv) ∧ W.drew.cell? ⟨w.heap.size, 3, none⟩ = some (.int .i64 s.o) ∧ W.drew.cell? ⟨w.heap.size, 3 + 1, none⟩ = some (.int .i64 s.a) ∧ W.drew.cell? ⟨w.heap.size, 3 + 2, none⟩ = some (.int .i64 s.b) :=
    ⟨HRD.out.box.cell 0, hbx.cell 3, hbx.cell 4, hbx.cell 5⟩
  have hq5 : w.heap.size < W.drew.heap.size := hbx.lt
  have hqg : g < W.drew.heap.size := Nat.lt_of_lt_of_le hgl hbW.size
  clear hk hB hr hW hbW hbx hq hrun
  by_cases hq0 : q = 0
  · subst hq0
    have HIT0 := Lib.hid (show its s x = 0 by rw [HIT.out]; rfl)
    go_enter Tryz.func100, Tryz.ntmps100
    go_wp2
    rw [HW.out]
    go_region_held3 (fun w' => w'.cell? ⟨g, 0, none⟩ = some (.slice (some ⟨gv, 0, none⟩) 8 cv) ∧ w'.cell? ⟨w.heap.size, 3, none⟩ = some (.int .i64 s.o) ∧ w'.cell? ⟨w.heap.size, 3 + 1, none⟩ = some (.int .i64 s.a) ∧ w'.cell? ⟨w.heap.size, 3 + 2, none⟩ = some (.int .i64 s.b))
      (first
        | (with_reducible exact cS)
        | (with_reducible exact sX))
      (first
        | (go_at_call 76; (with_reducible refine (HEV.out _ HRD.out.vrow).mono ?_); rintro e w6 ⟨rfl, hb6⟩; have sX := p_keep4 hb6 hqg hq5 cS))
    all_goals
      have H9 := Lib.hid (show Below w0.heap.size w0 w6 ∧ Px w0.heap.size g c x w6 from ⟨HBD.out.trans (hb6.mono HBD.out.size), ⟨_, _, _, _, _, _, _, _, HRD.out.below hb6⟩⟩)
      clear hb6 sX cS
      refine Lib.hid ?_
      go_wp2
      exact bodyPost_ret (results_none rfl _ _ _) rfl ⟨rfl, H9.out.1, by rw [HIT0.out, rep_zero]; exact H9.out.2⟩
  · have hqb : (q == 0) = false := by simpa using hq0
    have hqn : (q != 0) = true := by simpa using hq0
    have HIT1 := Lib.hid (show its s x = 1 by rw [HIT.out, if_neg hq0])
    go_enter Tryz.func100, Tryz.ntmps100
    go_wp2
    rw [HW.out]
    go_region_held3 (fun w' => w'.cell? ⟨g, 0, none⟩ = some (.slice (some ⟨gv, 0, none⟩) 8 cv) ∧ w'.cell? ⟨w.heap.size, 3, none⟩ = some (.int .i64 s.o) ∧ w'.cell? ⟨w.heap.size, 3 + 1, none⟩ = some (.int .i64 s.a) ∧ w'.cell? ⟨w.heap.size, 3 + 2, none⟩ = some (.int .i64 s.b))
      (first
        | (with_reducible exact cS)
        | (with_reducible exact sX))
      (first
        | (go_at_call 76; (with_reducible refine (HEV.out _ HRD.out.vrow).mono ?_); rintro e w6 ⟨rfl, hb6⟩; have sX := p_keep4 hb6 hqg hq5 cS))
    all_goals
      have H9 := Lib.hid (show Below w0.heap.size w0 w6 ∧ Px w0.heap.size g c x w6 from ⟨HBD.out.trans (hb6.mono HBD.out.size), ⟨_, _, _, _, _, _, _, _, HRD.out.below hb6⟩⟩)
      clear hb6 sX cS
      refine Lib.hid ?_
      go_wp2_with (go_at_call 74; (with_reducible refine (HRUN.out _ H9.out.1 H9.out.2).mono ?_); rintro e w7 ⟨rfl, hb7, hr7⟩; refine Hid.out ?_)
      have H7 := Lib.hid (And.intro hb7 hr7)
      clear hb7 hr7
      refine Lib.hid ?_
      go_wp2
      exact bodyPost_ret (results_none rfl _ _ _) rfl ⟨rfl, H7.out.1, by rw [HIT1.out]; exact H7.out.2⟩
set_option maxHeartbeats 4000000 in
set_option maxRecDepth 100000 in
theorem impl_repeat (w0 w : World) (c : PCf) (g : Nat) (x : Sx) (s : Sm) (B : Fst) (hs : stOk s = true) (hk : s.k = 5) (hB : Below w0.heap.size w0 w) (hR : Px w0.heap.size g c x w) (ab : Option Addr) (nb cb : Nat)
    (hrun : ∀ (k : Nat) (w' : World), k < its s x → Below w0.heap.size w0 w' → Px w0.heap.size g c (rep (exec c.src B) k x) w' → Calls Tryz.prog 74 #[.pointer (some ⟨g, 0, none⟩), .slice ab nb cb] w' (MOut w0 g c (rep (exec c.src B) (k + 1) x))) :
    Calls Tryz.prog 101 #[.pointer (some ⟨g, 0, none⟩), .agg (stmA s), .slice ab nb cb] w (MOut w0 g c (rep (exec c.src B) (its s x) x)) := by
  obtain ⟨W, hW⟩ : ∃ W, w.alloc (.cells (stmA s) 100) = W := ⟨_, rfl⟩
  have hbW : Below w.heap.size w W := by rw [← hW]; exact below_new w _
  have hbx : Box w.heap.size (stmA s) 100 W := by rw [← hW]; exact Box.new w _ _
  have HW := Lib.hid hW
  obtain ⟨m, hm⟩ : ∃ m, its s x = m := ⟨_, rfl⟩
  rw [hm] at hrun ⊢
  have HRUN := Lib.hid hrun
  have hmn : s.n = (m : Int) := by
    have h2 := st_loop hs hk
    unfold its at hm
    rw [if_neg (by omega)] at hm
    omega
  have hm5 : m ≤ 5 := by have := st_loop hs hk; omega
  have HMN := Lib.hid hmn
  have H0 := Lib.hid (And.intro (hB.trans (hbW.mono hB.size)) (hR.below hbW))
  clear hs hk hB hR hW hbW hbx hm hmn hrun
  go_enter Tryz.func101, Tryz.ntmps101
  go_wp2
  rw [HW.out, HMN.out]
  go_loopw [8] (fun i wq => ∃ k : Nat, k ≤ m ∧ i = .int .i64 k ∧ Hid (Below w0.heap.size w0 wq) ∧ Hid (Px w0.heap.size g c (rep (exec c.src B) k x) wq)) (fun i _ => m - (intOf i).toNat)
  case atStart => exact ⟨0, Nat.zero_le _, rfl, H0.out.1, H0.out.2⟩
  case round =>
    obtain ⟨k, hk9, rfl, HBq, HRq⟩ := hrel
    by_cases hltk : k < m
    · have hI2 : (k : Int) < m := by omega
      have HCALL := Lib.hid (HRUN.out k wr hltk HBq.out HRq.out)
      go_wp2_with (go_at_call 74; (with_reducible refine HCALL.out.mono ?_); rintro e9 w8 ⟨rfl, hb8, hr8⟩; refine Hid.out ?_)
      have H8 := Lib.hid (And.intro hb8 hr8)
      clear hb8 hr8
      refine Lib.hid ?_
      go_wp2
      go_roundw
      case rel => exact ⟨k + 1, by omega, by go_num, H8.out.1, H8.out.2⟩
      case measure => simp [intOf]; omega
    · have hI2 : ¬ (k : Int) < m := by omega
      have hkm : k = m := by omega
      subst hkm
      go_wp2
      exact bodyPost_ret (results_none rfl _ _ _) rfl ⟨rfl, HBq.out, HRq.out⟩
abbrev execV : Value := .agg #[.nilFunc, .func (.func 97) #[] #[], .func (.func 98) #[] #[], .func (.func 99) #[] #[], .func (.func 100) #[] #[], .func (.func 101) #[] #[]]
set_option maxRecDepth 100000 in
theorem impl_executors (w : World) : Calls Tryz.prog 88 #[] w fun e w' => e = .returned execV ∧ Below w.heap.size w w' := by
  go_enter Tryz.func88, Tryz.ntmps88
  go_wp2
  refine bodyPost_ret (v := execV) (by simp [results, Tryz.results88, go_sem]) rfl ⟨rfl, (Below.refl _ _).alloc (Nat.le_refl _) _⟩
theorem exec_set (w : World) : (Instr.index 118 execV (.int .i64 1)).run Tryz.prog w = .ok (.func (.func 97) #[] #[]) w := by kernel_rfl
theorem exec_sense (w : World) : (Instr.index 118 execV (.int .i64 2)).run Tryz.prog w = .ok (.func (.func 98) #[] #[]) w := by kernel_rfl
theorem exec_send (w : World) : (Instr.index 118 execV (.int .i64 3)).run Tryz.prog w = .ok (.func (.func 99) #[] #[]) w := by kernel_rfl
theorem exec_test (w : World) : (Instr.index 118 execV (.int .i64 4)).run Tryz.prog w = .ok (.func (.func 100) #[] #[]) w := by kernel_rfl
theorem exec_repeat (w : World) : (Instr.index 118 execV (.int .i64 5)).run Tryz.prog w = .ok (.func (.func 101) #[] #[]) w := by kernel_rfl
set_option maxHeartbeats 16000000 in
set_option maxRecDepth 100000 in
theorem impl_run (w0 : World) (c : PCf) (hc : PCfAt c w0) (g : Nat) : ∀ (m : Nat) (aL : Option Addr) (n cap : Nat) (L : List Sm) (T : Fst) (x : Sx) (w : World), n ≤ m → n ≤ cap → StRow w0 aL n L → IsBlk L → Par L 0 L.length T → varsOk x.V = true → tot x + cnt T ≤ 50000 → Below w0.heap.size w0 w → Px w0.heap.size g c x w →
    Calls Tryz.prog 74 #[.pointer (some ⟨g, 0, none⟩), .slice aL n cap] w (MOut w0 g c (exec c.src T x)) := by
  intro m
  induction m with
  | zero =>
    intro aL n cap L T x w hm hcap hL hb hT hx htot hB hR
    obtain rfl : n = 0 := by omega
    obtain rfl : L = [] := List.eq_nil_of_length_eq_zero hL.1
    obtain rfl : T = .nil := hT.unique (.nil 0)
    have H0 := Lib.hid (And.intro hB hR)
    clear hL hb hT hx htot hB hR hc
    go_enter Tryz.func74, Tryz.ntmps74
    go_wp2
    go_loopw [1] (fun l wr => l = .slice aL 0 cap ∧ Hid (Below w0.heap.size w0 wr) ∧ Hid (Px w0.heap.size g c x wr)) (fun _ _ => 0)
    case atStart => exact ⟨rfl, H0.out.1, H0.out.2⟩
    case round =>
      obtain ⟨rfl, HBq, HRq⟩ := hrel
      go_wp2
      exact bodyPost_ret (results_none rfl _ _ _) rfl ⟨rfl, HBq.out, HRq.out⟩
  | succ m ih =>
    intro aL n cap L T x w hm hcap hL hb hT hx htot hB hR
    have HIH := Lib.hid ih
    have HCF := Lib.hid hc
    have HSRC := Lib.hid (fun q n => PCf.src_val hc q n)
    have HBL := Lib.hid hb
    have HPT := Lib.hid hT
    have HSM := Lib.hid (show ∀ T0, Par L 0 L.length T0 → tot x + cnt T0 ≤ 50000 from fun T0 h0 => by rw [h0.unique hT]; exact htot)
    have H0 := Lib.hid (And.intro hL (And.intro hx (And.intro hB hR)))
    clear hL hb hT hx htot hB hR hc ih
    go_enter Tryz.func74, Tryz.ntmps74
    go_wp2
    go_loopw [1] (fun l wr => ∃ (a' : Option Addr) (n' cap' : Nat) (M : List Sm) (x' : Sx), l = .slice a' n' cap' ∧ n' ≤ cap' ∧ n' ≤ n ∧ Hid (StRow w0 a' n' M) ∧ Hid (IsBlk M) ∧ Hid (RestE c.src L x M x') ∧ Hid (varsOk x'.V = true) ∧ Hid (Below w0.heap.size w0 wr) ∧ Hid (Px w0.heap.size g c x' wr)) (fun l _ => lenV l)
    case atStart => exact ⟨aL, n, cap, L, x, rfl, hcap, Nat.le_refl _, H0.out.1, HBL.out, RestE.start _ _ _, H0.out.2.1, H0.out.2.2.1, H0.out.2.2.2⟩
    case round =>
      obtain ⟨a', n', cap', M, x', rfl, hc', hn', HSR, HBM, HRE, HVX, HBw, HRn⟩ := hrel
      rcases Nat.eq_zero_or_pos n' with h0 | h0
      · have HY := Lib.hid (show exec c.src T x = x' by
          have h1 : M = [] := List.eq_nil_of_length_eq_zero (by rw [HSR.out.1]; exact h0)
          have h2 := HRE.out
          rw [h1] at h2; exact h2.done HPT.out)
        have hI : ¬ (0 : Int) < n' := by omega
        clear h0
        go_wp2
        exact bodyPost_ret (results_none rfl _ _ _) rfl ⟨rfl, HBw.out, by rw [HY.out]; exact HRn.out⟩
      · have hI : (0 : Int) < n' := by omega
        obtain ⟨s, hs⟩ := at_lt (show 0 < M.length by rw [HSR.out.1]; exact h0)
        have HS := Lib.hid hs
        have HSO := Lib.hid (blk_stOk HBM.out hs)
        have hkind := st_kindP HSO.out
        have HTX := Lib.hid (HRE.out.tot HBM.out HSM.out)
        cases ho : opn s
        · have HO := Lib.hid (show (opn s = false ∧ 0 = 0) ∨ (opn s = true ∧ IsEnd M 0 0) from .inl ⟨ho, rfl⟩)
          have HRE2 := Lib.hid (HRE.out.one HBM.out HSR.out.1 hs ho)
          have HVX2 := Lib.hid (step_varsP HSRC.out s HVX.out)
          have h6 : s.k ≠ 6 := fun h6 => by
            have h1 := hAt_succ hs
            rw [hAt_zero, dlt_end h6] at h1
            have := (blk_bounds HBM.out (0 + 1)).1; omega
          have hq : s.k = 1 ∨ s.k = 2 ∨ s.k = 3 := by unfold opn at ho; simp at ho; omega
          have hun : x'.U.length ≤ 100000 := by have := HTX.out; unfold tot at this; omega
          have hsn : x'.S.length ≤ 100000 := by have := HTX.out; unfold tot at this; omega
          clear hs ho hkind h6
          rcases hq with hk | hk | hk
          · have HK := Lib.hid hk
            clear hk
            go_wp2_with (go_at_call 87; (with_reducible refine (impl_cutall a' n' cap' M hc' _ (HSR.out.below HBw.out) HBM.out s HS.out 0 HO.out).mono ?_); rintro e2 w2 ⟨a1, a2, rfl, HC2, hb2⟩; refine Hid.out ?_)
            have HB2 := Lib.hid (HBw.out.trans (hb2.mono HBw.out.size))
            have HR2 := Lib.hid (HRn.out.below hb2)
            have HX := Lib.hid (And.intro (Box.new w2 zeroSt 100) (below_new w2 (.cells zeroSt 100)))
            clear hb2
            refine Lib.hid ?_
            go_wp2_with ((refine wpList_store_box rfl 100 _ _ rfl w2.heap.size _ _ HX.out.1 (stmA s) rfl rfl rfl (by kernel_rfl) (by simp [Value.oneCell']) ?_); intro w3 hx3 hg3; refine Hid.out ?_)
            have hb23 : Below w2.heap.size w2 w3 := HX.out.2.grown hg3 HX.out.2.size (fun j hj => by cases hj; exact Nat.le_refl _)
            have hd0 : w3.drew.cell? ⟨w2.heap.size, 0, none⟩ = some (.int .i64 1) := by rw [← HK.out]; exact hx3.cell 0
            have hlt3 : w2.heap.size < w3.drew.heap.size := hx3.lt
            have H3 := Lib.hid (And.intro hx3 (And.intro (HB2.out.trans (hb23.mono HB2.out.size)) (HR2.out.below hb23)))
            clear hb23 hx3 hg3
            have iK := fun w => exec_set w
            refine Lib.hid ?_
            go_wp2
            go_region_held3 (fun w' => w'.cell? ⟨w2.heap.size, 0, none⟩ = some (.int .i64 1))
              (first | (exact hd0) | (exact (hb4.cell (p := ⟨w2.heap.size, 0, none⟩) hlt3).trans hd0))
              (first
                | (go_at_call 88; refine (impl_executors _).mono ?_; rintro e4 w4 ⟨rfl, hb4⟩))
            all_goals
              have hb34 : Below w3.heap.size w3 w4 := Below.trans (Below.drew (Below.refl _ w3)) hb4
              have H4 := Lib.hid (And.intro (H3.out.1.below hb34) (And.intro (H3.out.2.1.trans (hb34.mono H3.out.2.1.size)) (H3.out.2.2.below hb34)))
              clear hb34 hb4 hd0 hlt3
              refine Lib.hid ?_
              go_wp2_with (first
                | (refine wpList_load_row rfl 100 _ rfl w2.heap.size rfl _ _ _ _ H4.out.1 Tryz.underlying100 rfl (by kernel_rfl) ?_)
                | (go_at_call 97; (with_reducible refine (impl_set w0 _ c g x' s HSO.out HK.out H4.out.2.1 H4.out.2.2 _ _ _).mono ?_); rintro e5 w5 ⟨rfl, hb5, hr5⟩; refine Hid.out ?_))
              have H5 := Lib.hid (And.intro hb5 hr5)
              clear hb5 hr5
              refine Lib.hid ?_
              go_wp2
              go_roundw
              case rel => exact ⟨a2, n' - (0 + 1), n' - (0 + 1), _, _, rfl, Nat.le_refl _, by omega, (HC2.out _ HSR.out).2, HRE2.out.1, HRE2.out.2, HVX2.out, H5.out.1, H5.out.2⟩
              case measure => simp [lenV]; omega
          · have HK := Lib.hid hk
            clear hk
            go_wp2_with (go_at_call 87; (with_reducible refine (impl_cutall a' n' cap' M hc' _ (HSR.out.below HBw.out) HBM.out s HS.out 0 HO.out).mono ?_); rintro e2 w2 ⟨a1, a2, rfl, HC2, hb2⟩; refine Hid.out ?_)
            have HB2 := Lib.hid (HBw.out.trans (hb2.mono HBw.out.size))
            have HR2 := Lib.hid (HRn.out.below hb2)
            have HX := Lib.hid (And.intro (Box.new w2 zeroSt 100) (below_new w2 (.cells zeroSt 100)))
            clear hb2
            refine Lib.hid ?_
            go_wp2_with ((refine wpList_store_box rfl 100 _ _ rfl w2.heap.size _ _ HX.out.1 (stmA s) rfl rfl rfl (by kernel_rfl) (by simp [Value.oneCell']) ?_); intro w3 hx3 hg3; refine Hid.out ?_)
            have hb23 : Below w2.heap.size w2 w3 := HX.out.2.grown hg3 HX.out.2.size (fun j hj => by cases hj; exact Nat.le_refl _)
            have hd0 : w3.drew.cell? ⟨w2.heap.size, 0, none⟩ = some (.int .i64 2) := by rw [← HK.out]; exact hx3.cell 0
            have hlt3 : w2.heap.size < w3.drew.heap.size := hx3.lt
            have H3 := Lib.hid (And.intro hx3 (And.intro (HB2.out.trans (hb23.mono HB2.out.size)) (HR2.out.below hb23)))
            clear hb23 hx3 hg3
            have iK := fun w => exec_sense w
            refine Lib.hid ?_
            go_wp2
            go_region_held3 (fun w' => w'.cell? ⟨w2.heap.size, 0, none⟩ = some (.int .i64 2))
              (first | (exact hd0) | (exact (hb4.cell (p := ⟨w2.heap.size, 0, none⟩) hlt3).trans hd0))
              (first
                | (go_at_call 88; refine (impl_executors _).mono ?_; rintro e4 w4 ⟨rfl, hb4⟩))
            all_goals
              have hb34 : Below w3.heap.size w3 w4 := Below.trans (Below.drew (Below.refl _ w3)) hb4
              have H4 := Lib.hid (And.intro (H3.out.1.below hb34) (And.intro (H3.out.2.1.trans (hb34.mono H3.out.2.1.size)) (H3.out.2.2.below hb34)))
              clear hb34 hb4 hd0 hlt3
              refine Lib.hid ?_
              go_wp2_with (first
                | (refine wpList_load_row rfl 100 _ rfl w2.heap.size rfl _ _ _ _ H4.out.1 Tryz.underlying100 rfl (by kernel_rfl) ?_)
                | (go_at_call 98; (with_reducible refine (impl_sense w0 _ c HCF.out g x' s HSO.out HK.out hun H4.out.2.1 H4.out.2.2 _ _ _).mono ?_); rintro e5 w5 ⟨rfl, hb5, hr5⟩; refine Hid.out ?_))
              have H5 := Lib.hid (And.intro hb5 hr5)
              clear hb5 hr5
              refine Lib.hid ?_
              go_wp2
              go_roundw
              case rel => exact ⟨a2, n' - (0 + 1), n' - (0 + 1), _, _, rfl, Nat.le_refl _, by omega, (HC2.out _ HSR.out).2, HRE2.out.1, HRE2.out.2, HVX2.out, H5.out.1, H5.out.2⟩
              case measure => simp [lenV]; omega
          · have HK := Lib.hid hk
            clear hk
            go_wp2_with (go_at_call 87; (with_reducible refine (impl_cutall a' n' cap' M hc' _ (HSR.out.below HBw.out) HBM.out s HS.out 0 HO.out).mono ?_); rintro e2 w2 ⟨a1, a2, rfl, HC2, hb2⟩; refine Hid.out ?_)
            have HB2 := Lib.hid (HBw.out.trans (hb2.mono HBw.out.size))
            have HR2 := Lib.hid (HRn.out.below hb2)
            have HX := Lib.hid (And.intro (Box.new w2 zeroSt 100) (below_new w2 (.cells zeroSt 100)))
            clear hb2
            refine Lib.hid ?_
            go_wp2_with ((refine wpList_store_box rfl 100 _ _ rfl w2.heap.size _ _ HX.out.1 (stmA s) rfl rfl rfl (by kernel_rfl) (by simp [Value.oneCell']) ?_); intro w3 hx3 hg3; refine Hid.out ?_)
            have hb23 : Below w2.heap.size w2 w3 := HX.out.2.grown hg3 HX.out.2.size (fun j hj => by cases hj; exact Nat.le_refl _)
            have hd0 : w3.drew.cell? ⟨w2.heap.size, 0, none⟩ = some (.int .i64 3) := by rw [← HK.out]; exact hx3.cell 0
            have hlt3 : w2.heap.size < w3.drew.heap.size := hx3.lt
            have H3 := Lib.hid (And.intro hx3 (And.intro (HB2.out.trans (hb23.mono HB2.out.size)) (HR2.out.below hb23)))
            clear hb23 hx3 hg3
            have iK := fun w => exec_send w
            refine Lib.hid ?_
            go_wp2
            go_region_held3 (fun w' => w'.cell? ⟨w2.heap.size, 0, none⟩ = some (.int .i64 3))
              (first | (exact hd0) | (exact (hb4.cell (p := ⟨w2.heap.size, 0, none⟩) hlt3).trans hd0))
              (first
                | (go_at_call 88; refine (impl_executors _).mono ?_; rintro e4 w4 ⟨rfl, hb4⟩))
            all_goals
              have hb34 : Below w3.heap.size w3 w4 := Below.trans (Below.drew (Below.refl _ w3)) hb4
              have H4 := Lib.hid (And.intro (H3.out.1.below hb34) (And.intro (H3.out.2.1.trans (hb34.mono H3.out.2.1.size)) (H3.out.2.2.below hb34)))
              clear hb34 hb4 hd0 hlt3
              refine Lib.hid ?_
              go_wp2_with (first
                | (refine wpList_load_row rfl 100 _ rfl w2.heap.size rfl _ _ _ _ H4.out.1 Tryz.underlying100 rfl (by kernel_rfl) ?_)
                | (go_at_call 99; (with_reducible refine (impl_send w0 _ c g x' s HK.out hsn H4.out.2.1 H4.out.2.2 _ _ _).mono ?_); rintro e5 w5 ⟨rfl, hb5, hr5⟩; refine Hid.out ?_))
              have H5 := Lib.hid (And.intro hb5 hr5)
              clear hb5 hr5
              refine Lib.hid ?_
              go_wp2
              go_roundw
              case rel => exact ⟨a2, n' - (0 + 1), n' - (0 + 1), _, _, rfl, Nat.le_refl _, by omega, (HC2.out _ HSR.out).2, HRE2.out.1, HRE2.out.2, HVX2.out, H5.out.1, H5.out.2⟩
              case measure => simp [lenV]; omega
        · obtain ⟨e, he⟩ := end_exists HBM.out hs ho
          have HO := Lib.hid (show (opn s = false ∧ e = 0) ∨ (opn s = true ∧ IsEnd M 0 e) from .inr ⟨ho, he⟩)
          have hen : e < n' := by have := he.2.1; have := HSR.out.1; omega
          have he0 := he.1
          have hbk := body_blk HBM.out he
          obtain ⟨B, hPB⟩ := par_ex hbk
          have HRE2 := Lib.hid (HRE.out.nest HBM.out HSR.out.1 hs he hPB)
          have HVX2 := Lib.hid (show varsOk (rep (exec c.src B) (its s x') x').V = true from rep_ind (P := fun y => varsOk y.V = true) (fun y hy => exec_varsP HSRC.out B hy) _ x' HVX.out)
          have hsm : tot x' + max 1 s.n * cnt B ≤ 50000 := by
            have hr := rest_blk HBM.out (c := e + 1) (by have := he.2.1; omega) (by rw [he.2.2.1, hAt_zero])
            obtain ⟨T2, hT2⟩ := par_ex hr
            have h1 := HRE.out.small HSM.out _ (par_nest hs he hPB hT2)
            have h2 := cnt_nonneg T2
            simp only [cnt] at h1
            omega
          -- each execution of the body
          have HBODY := Lib.hid (show ∀ A : Option Addr, StRow w0 A (e - 1) (blk.part M 1 (e - 1)) → ∀ (k : Nat) (w' : World), (k : Int) + 1 ≤ max 1 s.n → Below w0.heap.size w0 w' → Px w0.heap.size g c (rep (exec c.src B) k x') w' →
              Calls Tryz.prog 74 #[.pointer (some ⟨g, 0, none⟩), .slice A (e - 1) (e - 1)] w' (MOut w0 g c (rep (exec c.src B) (k + 1) x')) from fun A hA k w' hk hB' hR' => by
            have h1 := rep_ind (P := fun y => varsOk y.V = true) (fun y hy => exec_varsP HSRC.out B hy) k x' HVX.out
            have h2 := rep_tot (fun y => exec_tot c.src B y) k x'
            have h5 := cnt_nonneg B
            have h7 : ((k : Int) + 1) * cnt B ≤ max 1 s.n * cnt B := Int.mul_le_mul_of_nonneg_right (by omega) h5
            have h8 : ((k : Int) + 1) * cnt B = k * cnt B + cnt B := by rw [Int.add_mul, Int.one_mul]
            rw [rep_last]
            exact HIH.out A (e - 1) (e - 1) _ B (rep (exec c.src B) k x') w' (by omega) (Nat.le_refl _) hA hbk hPB h1 (by omega) hB' hR')
          have hq : s.k = 4 ∨ s.k = 5 := by unfold opn at ho; simp at ho; exact ho
          clear hs ho he hkind hbk hPB hsm
          rcases hq with hk | hk
          · have HK := Lib.hid hk
            have HBODY4 := Lib.hid (show ∀ A : Option Addr, StRow w0 A (e - 1) (blk.part M 1 (e - 1)) → ∀ w', Below w0.heap.size w0 w' → Px w0.heap.size g c x' w' → Calls Tryz.prog 74 #[.pointer (some ⟨g, 0, none⟩), .slice A (e - 1) (e - 1)] w' (MOut w0 g c (exec c.src B x')) from fun A hA w' hB' hR' => by
              exact HBODY.out A hA 0 w' (by omega) hB' hR')
            clear hk
            go_wp2_with (go_at_call 87; (with_reducible refine (impl_cutall a' n' cap' M hc' _ (HSR.out.below HBw.out) HBM.out s HS.out e HO.out).mono ?_); rintro e2 w2 ⟨a1, a2, rfl, HC2, hb2⟩; refine Hid.out ?_)
            have HB2 := Lib.hid (HBw.out.trans (hb2.mono HBw.out.size))
            have HR2 := Lib.hid (HRn.out.below hb2)
            have HX := Lib.hid (And.intro (Box.new w2 zeroSt 100) (below_new w2 (.cells zeroSt 100)))
            clear hb2
            refine Lib.hid ?_
            go_wp2_with ((refine wpList_store_box rfl 100 _ _ rfl w2.heap.size _ _ HX.out.1 (stmA s) rfl rfl rfl (by kernel_rfl) (by simp [Value.oneCell']) ?_); intro w3 hx3 hg3; refine Hid.out ?_)
            have hb23 : Below w2.heap.size w2 w3 := HX.out.2.grown hg3 HX.out.2.size (fun j hj => by cases hj; exact Nat.le_refl _)
            have hd0 : w3.drew.cell? ⟨w2.heap.size, 0, none⟩ = some (.int .i64 4) := by rw [← HK.out]; exact hx3.cell 0
            have hlt3 : w2.heap.size < w3.drew.heap.size := hx3.lt
            have H3 := Lib.hid (And.intro hx3 (And.intro (HB2.out.trans (hb23.mono HB2.out.size)) (HR2.out.below hb23)))
            clear hb23 hx3 hg3
            have iK := fun w => exec_test w
            refine Lib.hid ?_
            go_wp2
            go_region_held3 (fun w' => w'.cell? ⟨w2.heap.size, 0, none⟩ = some (.int .i64 4))
              (first | (exact hd0) | (exact (hb4.cell (p := ⟨w2.heap.size, 0, none⟩) hlt3).trans hd0))
              (first
                | (go_at_call 88; refine (impl_executors _).mono ?_; rintro e4 w4 ⟨rfl, hb4⟩))
            all_goals
              have hb34 : Below w3.heap.size w3 w4 := Below.trans (Below.drew (Below.refl _ w3)) hb4
              have H4 := Lib.hid (And.intro (H3.out.1.below hb34) (And.intro (H3.out.2.1.trans (hb34.mono H3.out.2.1.size)) (H3.out.2.2.below hb34)))
              clear hb34 hb4 hd0 hlt3
              refine Lib.hid ?_
              go_wp2_with (first
                | (refine wpList_load_row rfl 100 _ rfl w2.heap.size rfl _ _ _ _ H4.out.1 Tryz.underlying100 rfl (by kernel_rfl) ?_)
                | (go_at_call 100; (with_reducible refine (impl_test w0 _ c g x' s B HK.out H4.out.2.1 H4.out.2.2 _ _ _ (HBODY4.out a1 (HC2.out _ HSR.out).1)).mono ?_); rintro e5 w5 ⟨rfl, hb5, hr5⟩; refine Hid.out ?_))
              have H5 := Lib.hid (And.intro hb5 hr5)
              clear hb5 hr5
              refine Lib.hid ?_
              go_wp2
              go_roundw
              case rel => exact ⟨a2, n' - (e + 1), n' - (e + 1), _, _, rfl, Nat.le_refl _, by omega, (HC2.out _ HSR.out).2, HRE2.out.1, HRE2.out.2, HVX2.out, H5.out.1, H5.out.2⟩
              case measure => simp [lenV]; omega
          · have HK := Lib.hid hk
            clear hk
            go_wp2_with (go_at_call 87; (with_reducible refine (impl_cutall a' n' cap' M hc' _ (HSR.out.below HBw.out) HBM.out s HS.out e HO.out).mono ?_); rintro e2 w2 ⟨a1, a2, rfl, HC2, hb2⟩; refine Hid.out ?_)
            have HB2 := Lib.hid (HBw.out.trans (hb2.mono HBw.out.size))
            have HR2 := Lib.hid (HRn.out.below hb2)
            have HX := Lib.hid (And.intro (Box.new w2 zeroSt 100) (below_new w2 (.cells zeroSt 100)))
            clear hb2
            refine Lib.hid ?_
            go_wp2_with ((refine wpList_store_box rfl 100 _ _ rfl w2.heap.size _ _ HX.out.1 (stmA s) rfl rfl rfl (by kernel_rfl) (by simp [Value.oneCell']) ?_); intro w3 hx3 hg3; refine Hid.out ?_)
            have hb23 : Below w2.heap.size w2 w3 := HX.out.2.grown hg3 HX.out.2.size (fun j hj => by cases hj; exact Nat.le_refl _)
            have hd0 : w3.drew.cell? ⟨w2.heap.size, 0, none⟩ = some (.int .i64 5) := by rw [← HK.out]; exact hx3.cell 0
            have hlt3 : w2.heap.size < w3.drew.heap.size := hx3.lt
            have H3 := Lib.hid (And.intro hx3 (And.intro (HB2.out.trans (hb23.mono HB2.out.size)) (HR2.out.below hb23)))
            clear hb23 hx3 hg3
            have iK := fun w => exec_repeat w
            refine Lib.hid ?_
            go_wp2
            go_region_held3 (fun w' => w'.cell? ⟨w2.heap.size, 0, none⟩ = some (.int .i64 5))
              (first | (exact hd0) | (exact (hb4.cell (p := ⟨w2.heap.size, 0, none⟩) hlt3).trans hd0))
              (first
                | (go_at_call 88; refine (impl_executors _).mono ?_; rintro e4 w4 ⟨rfl, hb4⟩))
            all_goals
              have hb34 : Below w3.heap.size w3 w4 := Below.trans (Below.drew (Below.refl _ w3)) hb4
              have H4 := Lib.hid (And.intro (H3.out.1.below hb34) (And.intro (H3.out.2.1.trans (hb34.mono H3.out.2.1.size)) (H3.out.2.2.below hb34)))
              clear hb34 hb4 hd0 hlt3
              refine Lib.hid ?_
              go_wp2_with (first
                | (refine wpList_load_row rfl 100 _ rfl w2.heap.size rfl _ _ _ _ H4.out.1 Tryz.underlying100 rfl (by kernel_rfl) ?_)
                | (go_at_call 101; (with_reducible refine (impl_repeat w0 _ c g x' s B HSO.out HK.out H4.out.2.1 H4.out.2.2 _ _ _ (fun k w' hk => HBODY.out a1 (HC2.out _ HSR.out).1 k w' (by have := its_le s x'; omega))).mono ?_); rintro e5 w5 ⟨rfl, hb5, hr5⟩; refine Hid.out ?_))
              have H5 := Lib.hid (And.intro hb5 hr5)
              clear hb5 hr5
              refine Lib.hid ?_
              go_wp2
              go_roundw
              case rel => exact ⟨a2, n' - (e + 1), n' - (e + 1), _, _, rfl, Nat.le_refl _, by omega, (HC2.out _ HSR.out).2, HRE2.out.1, HRE2.out.2, HVX2.out, H5.out.1, H5.out.2⟩
              case measure => simp [lenV]; omega
end Go.Proofs.YtlinpefeojpjnaaGreat.exe
