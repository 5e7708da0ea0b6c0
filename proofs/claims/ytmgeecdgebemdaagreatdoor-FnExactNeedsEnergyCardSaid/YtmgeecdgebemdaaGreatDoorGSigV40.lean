/- Several texts in one: VExeW. -/
import Derived.Test.YtmgeecdgebemdaaGreatDoorGSigV39
import Derived.Test.YtmgeecdgebemdaaGreatDoorGSigV14

/- Chapter 12 of the program: the methods test, repeat and run of an execution: a valid block executed; nothing else that was there is written. -/
namespace Go.Proofs.YtmgeecdgebemdaaGreatDoor.exe
open Go Go.ChangeShapes Go.WideShapes Go.ChangeAt Go.RowKit Go.Proofs.YtmgeecdgebemdaaGreatDoor.row Go.Proofs.YtmgeecdgebemdaaGreatDoor.val Go.Proofs.YtmgeecdgebemdaaGreatDoor.expr Go.Proofs.YtmgeecdgebemdaaGreatDoor.stm Go.Proofs.YtmgeecdgebemdaaGreatDoor.blk Go.Proofs.YtmgeecdgebemdaaGreatDoor.sets
theorem st_kindP {s : Sm} (h : stOk s = true) : s.k = 1 ∨ s.k = 2 ∨ s.k = 3 ∨ s.k = 4 ∨ s.k = 5 ∨ s.k = 6 := by
  by_cases h1 : s.k = 1
  · exact .inl h1
  by_cases h2 : s.k = 2
  · exact .inr (.inl h2)
  by_cases h3 : s.k = 3
  · exact .inr (.inr (.inl h3))
  by_cases h4 : s.k = 4
  · exact .inr (.inr (.inr (.inl h4)))
  by_cases h5 : s.k = 5
  · exact .inr (.inr (.inr (.inr (.inl h5))))
  by_cases h6 : s.k = 6
  · exact .inr (.inr (.inr (.inr (.inr h6))))
  unfold stOk at h
  rw [if_neg h1, if_neg h2, if_neg h3, if_neg h4, if_neg h5, if_neg h6] at h
  cases h
set_option maxHeartbeats 8000000 in
set_option maxRecDepth 100000 in
theorem impl_test (w0 w : World) (c : PCf) (o : Obs w0.heap.size) (g : Nat) (ht0 : Tells w0 c o g) (z : o.Z) (s : Sm) (B : Fst) (hs : stOk s = true) (hk : s.k = 4) (hx : varsOk z.1.V = true) (ht : totZ z ≤ 50000) (hB : Below w0.heap.size w0 w) (hR : Px w0.heap.size g c o z w) (ab : Option Addr) (nb cb : Nat)
    (hrun : ∀ w', Below w0.heap.size w0 w' → Px w0.heap.size g c o (tellZ c.src o.toObm s z) w' → Calls Tryz.prog 84 #[.pointer (some ⟨g, 0, none⟩), .slice ab nb cb] w' (MOut w0 g c o (execZ c.src o.toObm B (tellZ c.src o.toObm s z)))) :
    Calls Tryz.prog 193 #[.pointer (some ⟨g, 0, none⟩), .agg (stmA s), .slice ab nb cb] w (MOut w0 g c o (repZ o.toObm (execZ c.src o.toObm B) (its s z.1) (tellZ c.src o.toObm s z))) := by
  obtain ⟨x, t⟩ := z
  obtain ⟨⟨gv, cv, a1, n1, c1, a2, n2, c2⟩, F, hr⟩ := hR
  dsimp only at hx hr
  obtain ⟨W, hW⟩ : ∃ W, w.alloc (.cells (stmA s) 112) = W := ⟨_, rfl⟩
  have hbW : Below w.heap.size w W := by rw [← hW]; exact below_new w _
  have hbx : Box w.heap.size (stmA s) 112 W := by rw [← hW]; exact Box.new w _ _
  have hgl := hr.lt
  have hvl : w0.heap.size ≤ gv ∧ gv < w.heap.size := hr.gvB
  have hvg : gv ≠ g := hr.vg
  have HNF := Lib.hid hr.not_new
  have HW := Lib.hid hW
  obtain ⟨q, hq⟩ : ∃ q, evalV x.V s.o s.a s.b = q := ⟨_, rfl⟩
  have HEV := Lib.hid (show ∀ w', Row w' (some ⟨gv, 0, none⟩) 8 x.V → Calls Tryz.prog 149 #[.slice (some ⟨gv, 0, none⟩) 8 cv, ev s.o s.a s.b] w' (BelI w' q) from fun w' h => eval_isP w' _ 8 cv x.V (by decide) h _ _ _ q hq)
  have HIT := Lib.hid (show its s x = if q = 0 then 0 else 1 by unfold its; rw [if_pos hk, hq])
  have HTZ := Lib.hid (show tellZ c.src o.toObm s (x, t) = (x, o.nxt t x s 0) by unfold tellZ; rw [valS_no (.inl hk)])
  have HRD := Lib.hid ((hr.below hbW).below (Below.drew (Below.refl _ W)))
  have HBD := Lib.hid ((hB.trans (hbW.mono hB.size)).trans ((Below.drew (Below.refl _ W)).mono (hB.trans (hbW.mono hB.size)).size))
  have HBX := Lib.hid (show Box w.heap.size (stmA s) 112 W.drew from hbx)
  obtain ⟨ok, ho⟩ : ∃ ok, o.k = ok := ⟨_, rfl⟩
  obtain ⟨ofc, hc⟩ : ∃ ofc, o.fc = ofc := ⟨_, rfl⟩
  have HOK := Lib.hid (And.intro ho hc)
  have hent := o.ent
  rw [ho] at hent
  have HS := Lib.hid (show stOk s = true ∧ s.k ≠ 6 ∧ varsOk x.V = true ∧ 0 = valS c.src s x ∧ totZ (o := o.toObm) (x, t) ≤ 50000 from ⟨hs, by omega, hx, (valS_no (.inl hk)).symm, ht⟩)
  have HT := Lib.hid ht0
  have HC2 := Lib.hid (HT.out W.drew _ F x t s 0 HS.out.1 HS.out.2.1 HS.out.2.2.1 HS.out.2.2.2.1 HS.out.2.2.2.2 HBD.out HRD.out)
  obtain ⟨q4, e0, e1, e2, e3, e4, e5⟩ := box7 (w := W.drew) (HRD.out.box.cell 4) HBX.out
  have hlb : w.heap.size < W.drew.heap.size := HBX.out.lt
  rw [HOK.out.1, HOK.out.2] at HC2
  have q4' : W.drew.cell? ⟨g, 4, none⟩ = some (.func (.func ok) #[] ofc) := by rw [q4]; show some (Value.func (.func o.k) #[] o.fc) = _; rw [HOK.out.1, HOK.out.2]
  clear q4
  rw [HTZ.out] at hrun ⊢
  have HRUN := Lib.hid hrun
  clear hs hk hx ht hB hr hW hbW hbx hq ht0 ho hc hrun
  by_cases hq0 : q = 0
  · subst hq0
    have HIT0 := Lib.hid (show its s x = 0 by rw [HIT.out]; rfl)
    go_enter Tryz.func193, Tryz.ntmps193
    go_wp2
    rw [HW.out]
    go_region_law (first
      | (go_simp; (with_reducible refine HC2.out.mono ?_); rintro e w7 ⟨rfl, F', ho7, hm7⟩))
    all_goals
      have hR7 := (HRD.out.told ho7 hm7).below (Below.drew (Below.refl _ w7))
      have hB7 := (HBD.out.trans (HRD.out.told_below hm7 HBD.out.size)).drew
      have hx7 : Box w.heap.size (stmA s) 112 w7.drew := hm7.box HBX.out HNF.out
      have hq5 : w.heap.size < w7.drew.heap.size := hx7.lt
      have hqg : g < w7.drew.heap.size := hR7.lt
      obtain ⟨cS0, _, _, _, cS4, cS5, cS6⟩ := box7 (w := w7.drew) (hR7.box.cell 0) hx7
      have cS : w7.drew.cell? ⟨g, 0, none⟩ = some (.slice (some ⟨gv, 0, none⟩) 8 cv) ∧ w7.drew.cell? ⟨w.heap.size, 3, none⟩ = some (.int .i64 s.o) ∧ w7.drew.cell? ⟨w.heap.size, 3 + 1, none⟩ = some (.int .i64 s.a) ∧ w7.drew.cell? ⟨w.heap.size, 3 + 2, none⟩ = some (.int .i64 s.b) := ⟨cS0, cS4, cS5, cS6⟩
      have H7 := Lib.hid (And.intro hR7 hB7)
      clear hR7 hB7 hx7 hm7 ho7 q4' e0 e1 e2 e3 e4 e5 hlb cS0 cS4 cS5 cS6
      refine Lib.hid ?_
      go_wp2
      go_region_held3 (fun w' => w'.cell? ⟨g, 0, none⟩ = some (.slice (some ⟨gv, 0, none⟩) 8 cv) ∧ w'.cell? ⟨w.heap.size, 3, none⟩ = some (.int .i64 s.o) ∧ w'.cell? ⟨w.heap.size, 3 + 1, none⟩ = some (.int .i64 s.a) ∧ w'.cell? ⟨w.heap.size, 3 + 2, none⟩ = some (.int .i64 s.b))
        (first
          | (with_reducible exact cS)
          | (with_reducible exact sX))
        (first
          | (go_at_call 149; (with_reducible refine (HEV.out _ H7.out.1.vrow).mono ?_); rintro e w6 ⟨rfl, hb6⟩; have sX := p_keep4 hb6 hqg hq5 cS))
      all_goals
        have H9 := Lib.hid (show Below w0.heap.size w0 w6 ∧ Px w0.heap.size g c o (x, o.nxt t x s 0) w6 from ⟨H7.out.2.trans (hb6.mono H7.out.2.size), _, F', H7.out.1.below hb6⟩)
        clear hb6 sX cS
        refine Lib.hid ?_
        go_wp2
        exact bodyPost_ret (results_none rfl _ _ _) rfl ⟨rfl, H9.out.1, by rw [HIT0.out, repZ_zero]; exact H9.out.2⟩
  · have hqb : (q == 0) = false := by simpa using hq0
    have hqn : (q != 0) = true := by simpa using hq0
    have HIT1 := Lib.hid (show its s x = 1 by rw [HIT.out, if_neg hq0])
    go_enter Tryz.func193, Tryz.ntmps193
    go_wp2
    rw [HW.out]
    go_region_law (first
      | (go_simp; (with_reducible refine HC2.out.mono ?_); rintro e w7 ⟨rfl, F', ho7, hm7⟩))
    all_goals
      have hR7 := (HRD.out.told ho7 hm7).below (Below.drew (Below.refl _ w7))
      have hB7 := (HBD.out.trans (HRD.out.told_below hm7 HBD.out.size)).drew
      have hx7 : Box w.heap.size (stmA s) 112 w7.drew := hm7.box HBX.out HNF.out
      have hq5 : w.heap.size < w7.drew.heap.size := hx7.lt
      have hqg : g < w7.drew.heap.size := hR7.lt
      obtain ⟨cS0, _, _, _, cS4, cS5, cS6⟩ := box7 (w := w7.drew) (hR7.box.cell 0) hx7
      have cS : w7.drew.cell? ⟨g, 0, none⟩ = some (.slice (some ⟨gv, 0, none⟩) 8 cv) ∧ w7.drew.cell? ⟨w.heap.size, 3, none⟩ = some (.int .i64 s.o) ∧ w7.drew.cell? ⟨w.heap.size, 3 + 1, none⟩ = some (.int .i64 s.a) ∧ w7.drew.cell? ⟨w.heap.size, 3 + 2, none⟩ = some (.int .i64 s.b) := ⟨cS0, cS4, cS5, cS6⟩
      have H7 := Lib.hid (And.intro hR7 hB7)
      clear hR7 hB7 hx7 hm7 ho7 q4' e0 e1 e2 e3 e4 e5 hlb cS0 cS4 cS5 cS6
      refine Lib.hid ?_
      go_wp2
      go_region_held3 (fun w' => w'.cell? ⟨g, 0, none⟩ = some (.slice (some ⟨gv, 0, none⟩) 8 cv) ∧ w'.cell? ⟨w.heap.size, 3, none⟩ = some (.int .i64 s.o) ∧ w'.cell? ⟨w.heap.size, 3 + 1, none⟩ = some (.int .i64 s.a) ∧ w'.cell? ⟨w.heap.size, 3 + 2, none⟩ = some (.int .i64 s.b))
        (first
          | (with_reducible exact cS)
          | (with_reducible exact sX))
        (first
          | (go_at_call 149; (with_reducible refine (HEV.out _ H7.out.1.vrow).mono ?_); rintro e w6 ⟨rfl, hb6⟩; have sX := p_keep4 hb6 hqg hq5 cS))
      all_goals
        have H9 := Lib.hid (show Below w0.heap.size w0 w6 ∧ Px w0.heap.size g c o (x, o.nxt t x s 0) w6 from ⟨H7.out.2.trans (hb6.mono H7.out.2.size), _, F', H7.out.1.below hb6⟩)
        clear hb6 sX cS
        refine Lib.hid ?_
        go_wp2_with (go_at_call 84; (with_reducible refine (HRUN.out _ H9.out.1 H9.out.2).mono ?_); rintro e w8 ⟨rfl, hb8, hr8⟩; refine Hid.out ?_)
        have H8 := Lib.hid (And.intro hb8 hr8)
        clear hb8 hr8
        refine Lib.hid ?_
        go_wp2
        exact bodyPost_ret (results_none rfl _ _ _) rfl ⟨rfl, H8.out.1, by rw [HIT1.out]; exact H8.out.2⟩
set_option maxHeartbeats 8000000 in
set_option maxRecDepth 100000 in
theorem impl_repeat (w0 w : World) (c : PCf) (o : Obs w0.heap.size) (g : Nat) (ht0 : Tells w0 c o g) (z : o.Z) (s : Sm) (B : Fst) (hs : stOk s = true) (hk : s.k = 5) (hx : varsOk z.1.V = true) (ht : totZ z ≤ 50000) (hB : Below w0.heap.size w0 w) (hR : Px w0.heap.size g c o z w) (ab : Option Addr) (nb cb : Nat)
    (hrun : ∀ (k : Nat) (w' : World), k < its s z.1 → Below w0.heap.size w0 w' → Px w0.heap.size g c o (repZ o.toObm (execZ c.src o.toObm B) k (tellZ c.src o.toObm s z)) w' → Calls Tryz.prog 84 #[.pointer (some ⟨g, 0, none⟩), .slice ab nb cb] w' (MOut w0 g c o (repZ o.toObm (execZ c.src o.toObm B) (k + 1) (tellZ c.src o.toObm s z)))) :
    Calls Tryz.prog 194 #[.pointer (some ⟨g, 0, none⟩), .agg (stmA s), .slice ab nb cb] w (MOut w0 g c o (repZ o.toObm (execZ c.src o.toObm B) (its s z.1) (tellZ c.src o.toObm s z))) := by
  obtain ⟨x, t⟩ := z
  obtain ⟨⟨gv, cv, a1, n1, c1, a2, n2, c2⟩, F, hr⟩ := hR
  dsimp only at hx hr
  obtain ⟨W, hW⟩ : ∃ W, w.alloc (.cells (stmA s) 112) = W := ⟨_, rfl⟩
  have hbW : Below w.heap.size w W := by rw [← hW]; exact below_new w _
  have hbx : Box w.heap.size (stmA s) 112 W := by rw [← hW]; exact Box.new w _ _
  have hgl := hr.lt
  have hvl : w0.heap.size ≤ gv ∧ gv < w.heap.size := hr.gvB
  have hvg : gv ≠ g := hr.vg
  have HNF := Lib.hid hr.not_new
  have HW := Lib.hid hW
  have HTZ := Lib.hid (show tellZ c.src o.toObm s (x, t) = (x, o.nxt t x s 0) by unfold tellZ; rw [valS_no (.inr hk)])
  have HRD := Lib.hid ((hr.below hbW).below (Below.drew (Below.refl _ W)))
  have HBD := Lib.hid ((hB.trans (hbW.mono hB.size)).trans ((Below.drew (Below.refl _ W)).mono (hB.trans (hbW.mono hB.size)).size))
  have HBX := Lib.hid (show Box w.heap.size (stmA s) 112 W.drew from hbx)
  obtain ⟨ok, ho⟩ : ∃ ok, o.k = ok := ⟨_, rfl⟩
  obtain ⟨ofc, hc⟩ : ∃ ofc, o.fc = ofc := ⟨_, rfl⟩
  have HOK := Lib.hid (And.intro ho hc)
  have hent := o.ent
  rw [ho] at hent
  have HS := Lib.hid (show stOk s = true ∧ s.k ≠ 6 ∧ varsOk x.V = true ∧ 0 = valS c.src s x ∧ totZ (o := o.toObm) (x, t) ≤ 50000 from ⟨hs, by omega, hx, (valS_no (.inr hk)).symm, ht⟩)
  have HT := Lib.hid ht0
  have HC2 := Lib.hid (HT.out W.drew _ F x t s 0 HS.out.1 HS.out.2.1 HS.out.2.2.1 HS.out.2.2.2.1 HS.out.2.2.2.2 HBD.out HRD.out)
  obtain ⟨q4, e0, e1, e2, e3, e4, e5⟩ := box7 (w := W.drew) (HRD.out.box.cell 4) HBX.out
  have hlb : w.heap.size < W.drew.heap.size := HBX.out.lt
  rw [HOK.out.1, HOK.out.2] at HC2
  have q4' : W.drew.cell? ⟨g, 4, none⟩ = some (.func (.func ok) #[] ofc) := by rw [q4]; show some (Value.func (.func o.k) #[] o.fc) = _; rw [HOK.out.1, HOK.out.2]
  clear q4
  dsimp only at hrun ⊢
  rw [HTZ.out] at hrun ⊢
  obtain ⟨m, hm⟩ : ∃ m, its s x = m := ⟨_, rfl⟩
  rw [hm] at hrun ⊢
  have HRUN := Lib.hid hrun
  have hmn : s.n = (m : Int) := by
    have h2 := st_loop hs hk
    unfold its at hm
    rw [if_neg (by omega)] at hm
    omega
  have hm5 : m ≤ 5 := by have := st_loop hs hk; omega
  have HMN := Lib.hid hmn
  clear hs hk hx ht hB hr hW hbW hbx ht0 ho hc hrun hm hmn
  go_enter Tryz.func194, Tryz.ntmps194
  go_wp2
  rw [HW.out]
  go_region_law (first
    | (go_simp; (with_reducible refine HC2.out.mono ?_); rintro e w7 ⟨rfl, F', ho7, hm7⟩))
  all_goals
    have hR7 := (HRD.out.told ho7 hm7).below (Below.drew (Below.refl _ w7))
    have hB7 := (HBD.out.trans (HRD.out.told_below hm7 HBD.out.size)).drew
    have hx7 : Box w.heap.size (stmA s) 112 w7.drew := hm7.box HBX.out HNF.out
    have hq5 : w.heap.size < w7.drew.heap.size := hx7.lt
    have hqg : g < w7.drew.heap.size := hR7.lt
    have k2 : w7.cell? ⟨w.heap.size, 2, none⟩ = some (.int .i64 (m : Int)) := by rw [← HMN.out]; exact hx7.cell 2
    have H7 := Lib.hid (show Below w0.heap.size w0 w7 ∧ Px w0.heap.size g c o (x, o.nxt t x s 0) w7 from ⟨HBD.out.trans (HRD.out.told_below hm7 HBD.out.size), _, F', HRD.out.told ho7 hm7⟩)
    clear hR7 hB7 hx7 hm7 ho7 q4' e0 e1 e2 e3 e4 e5 hlb hq5 hqg
    refine Lib.hid ?_
    go_wp2
    go_loopw [14] (fun i wq => ∃ k : Nat, k ≤ m ∧ i = .int .i64 k ∧ Hid (Below w0.heap.size w0 wq) ∧ Hid (Px w0.heap.size g c o (repZ o.toObm (execZ c.src o.toObm B) k (x, o.nxt t x s 0)) wq)) (fun i _ => m - (Go.RowKit.intOf i).toNat)
    case atStart => exact ⟨0, Nat.zero_le _, rfl, H7.out.1, H7.out.2⟩
    case round =>
      obtain ⟨k, hk9, rfl, HBq, HRq⟩ := hrel
      by_cases hltk : k < m
      · have hI2 : (k : Int) < m := by omega
        have HCALL := Lib.hid (HRUN.out k wr hltk HBq.out HRq.out)
        go_wp2_with (go_at_call 84; (with_reducible refine HCALL.out.mono ?_); rintro e9 w8 ⟨rfl, hb8, hr8⟩; refine Hid.out ?_)
        have H8 := Lib.hid (And.intro hb8 hr8)
        clear hb8 hr8
        refine Lib.hid ?_
        go_wp2
        go_roundw
        case rel => exact ⟨k + 1, by omega, by go_num, H8.out.1, H8.out.2⟩
        case measure => simp [Go.RowKit.intOf]; omega
      · have hI2 : ¬ (k : Int) < m := by omega
        have hkm : k = m := by omega
        subst hkm
        go_wp2
        exact bodyPost_ret (results_none rfl _ _ _) rfl ⟨rfl, HBq.out, HRq.out⟩
abbrev execV : Value := .agg #[.nilFunc, .func (.func 190) #[] #[], .func (.func 191) #[] #[], .func (.func 192) #[] #[], .func (.func 193) #[] #[], .func (.func 194) #[] #[]]
set_option maxRecDepth 100000 in
theorem impl_executors (w : World) : Calls Tryz.prog 146 #[] w fun e w' => e = .returned execV ∧ Below w.heap.size w w' := by
  go_enter Tryz.func146, Tryz.ntmps146
  go_wp2
  refine bodyPost_ret (v := execV) (by simp [results, Tryz.results146, go_sem]) rfl ⟨rfl, (Below.refl _ _).alloc (Nat.le_refl _) _⟩
theorem exec_set (w : World) : (Instr.index 178 execV (.int .i64 1)).run Tryz.prog w = .ok (.func (.func 190) #[] #[]) w := by kernel_rfl
theorem exec_sense (w : World) : (Instr.index 178 execV (.int .i64 2)).run Tryz.prog w = .ok (.func (.func 191) #[] #[]) w := by kernel_rfl
theorem exec_send (w : World) : (Instr.index 178 execV (.int .i64 3)).run Tryz.prog w = .ok (.func (.func 192) #[] #[]) w := by kernel_rfl
theorem exec_test (w : World) : (Instr.index 178 execV (.int .i64 4)).run Tryz.prog w = .ok (.func (.func 193) #[] #[]) w := by kernel_rfl
theorem exec_repeat (w : World) : (Instr.index 178 execV (.int .i64 5)).run Tryz.prog w = .ok (.func (.func 194) #[] #[]) w := by kernel_rfl
set_option maxHeartbeats 16000000 in
set_option maxRecDepth 100000 in
theorem impl_run (w0 : World) (c : PCf) (o : Obs w0.heap.size) (hc : PCfS c w0) (g : Nat) (htl : Tells w0 c o g) : ∀ (m : Nat) (aL : Option Addr) (n cap : Nat) (L : List Sm) (T : Fst) (z : o.Z) (w : World), n ≤ m → n ≤ cap → StRow w0 aL n L → IsBlk L → Par L 0 L.length T → varsOk z.1.V = true → totZ z + cntZ T ≤ 50000 → Below w0.heap.size w0 w → Px w0.heap.size g c o z w →
    Calls Tryz.prog 84 #[.pointer (some ⟨g, 0, none⟩), .slice aL n cap] w (MOut w0 g c o (execZ c.src o.toObm T z)) := by
  intro m
  induction m with
  | zero =>
    intro aL n cap L T z w hm hcap hL hb hT hx htot hB hR
    obtain rfl : n = 0 := by omega
    obtain rfl : L = [] := List.eq_nil_of_length_eq_zero hL.1
    obtain rfl : T = .nil := hT.unique (.nil 0)
    have H0 := Lib.hid (And.intro hB hR)
    clear hL hb hT hx htot hB hR hc htl
    go_enter Tryz.func84, Tryz.ntmps84
    go_wp2
    go_loopw [1] (fun l wr => l = .slice aL 0 cap ∧ Hid (Below w0.heap.size w0 wr) ∧ Hid (Px w0.heap.size g c o z wr)) (fun _ _ => 0)
    case atStart => exact ⟨rfl, H0.out.1, H0.out.2⟩
    case round =>
      obtain ⟨rfl, HBq, HRq⟩ := hrel
      go_wp2
      exact bodyPost_ret (results_none rfl _ _ _) rfl ⟨rfl, HBq.out, HRq.out⟩
  | succ m ih =>
    intro aL n cap L T z w hm hcap hL hb hT hx htot hB hR
    have HIH := Lib.hid ih
    have HCF := Lib.hid hc
    have HTL := Lib.hid htl
    have HSRC := Lib.hid (fun q n => PCf.src_val hc q n)
    have HBL := Lib.hid hb
    have HPT := Lib.hid hT
    have HSM := Lib.hid (show ∀ T0, Par L 0 L.length T0 → totZ z + cntZ T0 ≤ 50000 from fun T0 h0 => by rw [h0.unique hT]; exact htot)
    have H0 := Lib.hid (And.intro hL (And.intro hx (And.intro hB hR)))
    clear hL hb hT hx htot hB hR hc htl ih
    go_enter Tryz.func84, Tryz.ntmps84
    go_wp2
    go_loopw [1] (fun l wr => ∃ (a' : Option Addr) (n' cap' : Nat) (M : List Sm) (z' : o.Z), l = .slice a' n' cap' ∧ n' ≤ cap' ∧ n' ≤ n ∧ Hid (StRow w0 a' n' M) ∧ Hid (IsBlk M) ∧ Hid (RestZ c.src o.toObm L z M z') ∧ Hid (varsOk z'.1.V = true) ∧ Hid (Below w0.heap.size w0 wr) ∧ Hid (Px w0.heap.size g c o z' wr)) (fun l _ => lenV l)
    case atStart => exact ⟨aL, n, cap, L, z, rfl, hcap, Nat.le_refl _, H0.out.1, HBL.out, RestZ.start _ _ _ _, H0.out.2.1, H0.out.2.2.1, H0.out.2.2.2⟩
    case round =>
      obtain ⟨a', n', cap', M, z', rfl, hc', hn', HSR, HBM, HRE, HVX, HBw, HRn⟩ := hrel
      rcases Nat.eq_zero_or_pos n' with h0 | h0
      · have HY := Lib.hid (show execZ c.src o.toObm T z = z' by
          have h1 : M = [] := List.eq_nil_of_length_eq_zero (by rw [HSR.out.1]; exact h0)
          have h2 := HRE.out
          rw [h1] at h2; exact h2.done HPT.out)
        have hI : ¬ (0 : Int) < n' := by omega
        clear h0
        go_wp2
        exact bodyPost_ret (results_none rfl _ _ _) rfl ⟨rfl, HBw.out, by rw [HY.out]; exact HRn.out⟩
      · have hI : (0 : Int) < n' := by omega
        obtain ⟨s, hs⟩ := at_lt (show 0 < M.length by rw [HSR.out.1]; exact h0)
        have HS := Lib.hid hs
        have HSO := Lib.hid (blk_stOk HBM.out hs)
        have hkind := st_kindP HSO.out
        have HTX := Lib.hid (HRE.out.tot HBM.out HSM.out)
        cases ho : opn s
        · have HO := Lib.hid (show (opn s = false ∧ 0 = 0) ∨ (opn s = true ∧ IsEnd M 0 0) from .inl ⟨ho, rfl⟩)
          have HRE2 := Lib.hid (HRE.out.one HBM.out HSR.out.1 hs ho)
          have HVX2 := Lib.hid (show varsOk (stepZ c.src o.toObm s z').1.V = true from step_varsP HSRC.out s HVX.out)
          have h6 : s.k ≠ 6 := fun h6 => by
            have h1 := hAt_succ hs
            rw [hAt_zero, dlt_end h6] at h1
            have := (blk_bounds HBM.out (0 + 1)).1; omega
          have hq : s.k = 1 ∨ s.k = 2 ∨ s.k = 3 := by unfold opn at ho; simp at ho; omega
          have hun : z'.1.U.length ≤ 100000 := by have h1 := HTX.out; have h2 := o.pos z'.2; unfold totZ tot at h1; omega
          have hsn : z'.1.S.length ≤ 100000 := by have h1 := HTX.out; have h2 := o.pos z'.2; unfold totZ tot at h1; omega
          clear hs ho hkind h6
          rcases hq with hk | hk | hk
          · have HK := Lib.hid hk
            clear hk
            go_wp2_with (go_at_call 145; (with_reducible refine (impl_cutall a' n' cap' M hc' _ (HSR.out.below HBw.out) HBM.out s HS.out 0 HO.out).mono ?_); rintro e2 w2 ⟨a1, a2, rfl, HC2, hb2⟩; refine Hid.out ?_)
            have HB2 := Lib.hid (HBw.out.trans (hb2.mono HBw.out.size))
            have HR2 := Lib.hid (HRn.out.below hb2)
            have HX := Lib.hid (And.intro (Box.new w2 zeroSt 112) (below_new w2 (.cells zeroSt 112)))
            clear hb2
            refine Lib.hid ?_
            go_wp2_with ((refine wpList_store_box rfl 112 _ _ rfl w2.heap.size _ _ HX.out.1 (stmA s) rfl rfl rfl (by kernel_rfl) (by simp [Value.oneCell']) ?_); intro w3 hx3 hg3; refine Hid.out ?_)
            have hb23 : Below w2.heap.size w2 w3 := HX.out.2.grown hg3 HX.out.2.size (fun j hj => by cases hj; exact Nat.le_refl _)
            have hd0 : w3.drew.cell? ⟨w2.heap.size, 0, none⟩ = some (.int .i64 1) := by rw [← HK.out]; exact hx3.cell 0
            have hlt3 : w2.heap.size < w3.drew.heap.size := hx3.lt
            have H3 := Lib.hid (And.intro hx3 (And.intro (HB2.out.trans (hb23.mono HB2.out.size)) (HR2.out.below hb23)))
            clear hb23 hx3 hg3
            have iK := fun w => exec_set w
            refine Lib.hid ?_
            go_wp2
            go_region_held3 (fun w' => w'.cell? ⟨w2.heap.size, 0, none⟩ = some (.int .i64 1))
              (first | (exact hd0) | (exact (hb4.cell (p := ⟨w2.heap.size, 0, none⟩) hlt3).trans hd0))
              (first
                | (go_at_call 146; refine (impl_executors _).mono ?_; rintro e4 w4 ⟨rfl, hb4⟩))
            all_goals
              have hb34 : Below w3.heap.size w3 w4 := Below.trans (Below.drew (Below.refl _ w3)) hb4
              have H4 := Lib.hid (And.intro (H3.out.1.below hb34) (And.intro (H3.out.2.1.trans (hb34.mono H3.out.2.1.size)) (H3.out.2.2.below hb34)))
              clear hb34 hb4 hd0 hlt3
              refine Lib.hid ?_
              go_wp2_with (first
                | (refine wpList_load_row rfl 112 _ rfl w2.heap.size rfl _ _ _ _ H4.out.1 Tryz.underlying112 rfl (by kernel_rfl) ?_)
                | (go_at_call 190; (with_reducible refine (impl_set w0 _ c o g HTL.out z' s HSO.out HK.out HVX.out HTX.out H4.out.2.1 H4.out.2.2 _ _ _).mono ?_); rintro e5 w5 ⟨rfl, hb5, hr5⟩; refine Hid.out ?_))
              have H5 := Lib.hid (And.intro hb5 hr5)
              clear hb5 hr5
              refine Lib.hid ?_
              go_wp2
              go_roundw
              case rel => exact ⟨a2, n' - (0 + 1), n' - (0 + 1), _, _, rfl, Nat.le_refl _, by omega, (HC2.out _ HSR.out).2, HRE2.out.1, HRE2.out.2, HVX2.out, H5.out.1, H5.out.2⟩
              case measure => simp [lenV]; omega
          · have HK := Lib.hid hk
            clear hk
            go_wp2_with (go_at_call 145; (with_reducible refine (impl_cutall a' n' cap' M hc' _ (HSR.out.below HBw.out) HBM.out s HS.out 0 HO.out).mono ?_); rintro e2 w2 ⟨a1, a2, rfl, HC2, hb2⟩; refine Hid.out ?_)
            have HB2 := Lib.hid (HBw.out.trans (hb2.mono HBw.out.size))
            have HR2 := Lib.hid (HRn.out.below hb2)
            have HX := Lib.hid (And.intro (Box.new w2 zeroSt 112) (below_new w2 (.cells zeroSt 112)))
            clear hb2
            refine Lib.hid ?_
            go_wp2_with ((refine wpList_store_box rfl 112 _ _ rfl w2.heap.size _ _ HX.out.1 (stmA s) rfl rfl rfl (by kernel_rfl) (by simp [Value.oneCell']) ?_); intro w3 hx3 hg3; refine Hid.out ?_)
            have hb23 : Below w2.heap.size w2 w3 := HX.out.2.grown hg3 HX.out.2.size (fun j hj => by cases hj; exact Nat.le_refl _)
            have hd0 : w3.drew.cell? ⟨w2.heap.size, 0, none⟩ = some (.int .i64 2) := by rw [← HK.out]; exact hx3.cell 0
            have hlt3 : w2.heap.size < w3.drew.heap.size := hx3.lt
            have H3 := Lib.hid (And.intro hx3 (And.intro (HB2.out.trans (hb23.mono HB2.out.size)) (HR2.out.below hb23)))
            clear hb23 hx3 hg3
            have iK := fun w => exec_sense w
            refine Lib.hid ?_
            go_wp2
            go_region_held3 (fun w' => w'.cell? ⟨w2.heap.size, 0, none⟩ = some (.int .i64 2))
              (first | (exact hd0) | (exact (hb4.cell (p := ⟨w2.heap.size, 0, none⟩) hlt3).trans hd0))
              (first
                | (go_at_call 146; refine (impl_executors _).mono ?_; rintro e4 w4 ⟨rfl, hb4⟩))
            all_goals
              have hb34 : Below w3.heap.size w3 w4 := Below.trans (Below.drew (Below.refl _ w3)) hb4
              have H4 := Lib.hid (And.intro (H3.out.1.below hb34) (And.intro (H3.out.2.1.trans (hb34.mono H3.out.2.1.size)) (H3.out.2.2.below hb34)))
              clear hb34 hb4 hd0 hlt3
              refine Lib.hid ?_
              go_wp2_with (first
                | (refine wpList_load_row rfl 112 _ rfl w2.heap.size rfl _ _ _ _ H4.out.1 Tryz.underlying112 rfl (by kernel_rfl) ?_)
                | (go_at_call 191; (with_reducible refine (impl_sense w0 _ c o g HTL.out z' s HSO.out HCF.out HK.out hun HVX.out HTX.out H4.out.2.1 H4.out.2.2 _ _ _).mono ?_); rintro e5 w5 ⟨rfl, hb5, hr5⟩; refine Hid.out ?_))
              have H5 := Lib.hid (And.intro hb5 hr5)
              clear hb5 hr5
              refine Lib.hid ?_
              go_wp2
              go_roundw
              case rel => exact ⟨a2, n' - (0 + 1), n' - (0 + 1), _, _, rfl, Nat.le_refl _, by omega, (HC2.out _ HSR.out).2, HRE2.out.1, HRE2.out.2, HVX2.out, H5.out.1, H5.out.2⟩
              case measure => simp [lenV]; omega
          · have HK := Lib.hid hk
            clear hk
            go_wp2_with (go_at_call 145; (with_reducible refine (impl_cutall a' n' cap' M hc' _ (HSR.out.below HBw.out) HBM.out s HS.out 0 HO.out).mono ?_); rintro e2 w2 ⟨a1, a2, rfl, HC2, hb2⟩; refine Hid.out ?_)
            have HB2 := Lib.hid (HBw.out.trans (hb2.mono HBw.out.size))
            have HR2 := Lib.hid (HRn.out.below hb2)
            have HX := Lib.hid (And.intro (Box.new w2 zeroSt 112) (below_new w2 (.cells zeroSt 112)))
            clear hb2
            refine Lib.hid ?_
            go_wp2_with ((refine wpList_store_box rfl 112 _ _ rfl w2.heap.size _ _ HX.out.1 (stmA s) rfl rfl rfl (by kernel_rfl) (by simp [Value.oneCell']) ?_); intro w3 hx3 hg3; refine Hid.out ?_)
            have hb23 : Below w2.heap.size w2 w3 := HX.out.2.grown hg3 HX.out.2.size (fun j hj => by cases hj; exact Nat.le_refl _)
            have hd0 : w3.drew.cell? ⟨w2.heap.size, 0, none⟩ = some (.int .i64 3) := by rw [← HK.out]; exact hx3.cell 0
            have hlt3 : w2.heap.size < w3.drew.heap.size := hx3.lt
            have H3 := Lib.hid (And.intro hx3 (And.intro (HB2.out.trans (hb23.mono HB2.out.size)) (HR2.out.below hb23)))
            clear hb23 hx3 hg3
            have iK := fun w => exec_send w
            refine Lib.hid ?_
            go_wp2
            go_region_held3 (fun w' => w'.cell? ⟨w2.heap.size, 0, none⟩ = some (.int .i64 3))
              (first | (exact hd0) | (exact (hb4.cell (p := ⟨w2.heap.size, 0, none⟩) hlt3).trans hd0))
              (first
                | (go_at_call 146; refine (impl_executors _).mono ?_; rintro e4 w4 ⟨rfl, hb4⟩))
            all_goals
              have hb34 : Below w3.heap.size w3 w4 := Below.trans (Below.drew (Below.refl _ w3)) hb4
              have H4 := Lib.hid (And.intro (H3.out.1.below hb34) (And.intro (H3.out.2.1.trans (hb34.mono H3.out.2.1.size)) (H3.out.2.2.below hb34)))
              clear hb34 hb4 hd0 hlt3
              refine Lib.hid ?_
              go_wp2_with (first
                | (refine wpList_load_row rfl 112 _ rfl w2.heap.size rfl _ _ _ _ H4.out.1 Tryz.underlying112 rfl (by kernel_rfl) ?_)
                | (go_at_call 192; (with_reducible refine (impl_send w0 _ c o g HTL.out z' s HSO.out HK.out hsn HVX.out HTX.out H4.out.2.1 H4.out.2.2 _ _ _).mono ?_); rintro e5 w5 ⟨rfl, hb5, hr5⟩; refine Hid.out ?_))
              have H5 := Lib.hid (And.intro hb5 hr5)
              clear hb5 hr5
              refine Lib.hid ?_
              go_wp2
              go_roundw
              case rel => exact ⟨a2, n' - (0 + 1), n' - (0 + 1), _, _, rfl, Nat.le_refl _, by omega, (HC2.out _ HSR.out).2, HRE2.out.1, HRE2.out.2, HVX2.out, H5.out.1, H5.out.2⟩
              case measure => simp [lenV]; omega
        · obtain ⟨e, he⟩ := end_exists HBM.out hs ho
          have HO := Lib.hid (show (opn s = false ∧ e = 0) ∨ (opn s = true ∧ IsEnd M 0 e) from .inr ⟨ho, he⟩)
          have hen : e < n' := by have := he.2.1; have := HSR.out.1; omega
          have he0 := he.1
          have hbk := body_blk HBM.out he
          obtain ⟨B, hPB⟩ := par_ex hbk
          have HRE2 := Lib.hid (HRE.out.nest HBM.out HSR.out.1 hs he hPB)
          have HVX2 := Lib.hid (show varsOk (repZ o.toObm (execZ c.src o.toObm B) (its s z'.1) (tellZ c.src o.toObm s z')).1.V = true from repZ_ind (P := fun y => varsOk y.1.V = true) (fun y hy => execZ_vars HSRC.out B hy) _ (tellZ c.src o.toObm s z') HVX.out)
          have hsm : totZ (tellZ c.src o.toObm s z') + max 1 s.n * cntZ B ≤ 50000 := by
            have htell := totZ_tell (src := c.src) (o := o.toObm) s z'
            have hr := rest_blk HBM.out (c := e + 1) (by have := he.2.1; omega) (by rw [he.2.2.1, hAt_zero])
            obtain ⟨T2, hT2⟩ := par_ex hr
            have h1 := HRE.out.small HSM.out _ (par_nest hs he hPB hT2)
            have h2 := cntZ_nonneg T2
            simp only [cntZ] at h1
            omega
          -- each execution of the body
          have HBODY := Lib.hid (show ∀ A : Option Addr, StRow w0 A (e - 1) (blk.part M 1 (e - 1)) → ∀ (k : Nat) (w' : World), (k : Int) + 1 ≤ max 1 s.n → Below w0.heap.size w0 w' → Px w0.heap.size g c o (repZ o.toObm (execZ c.src o.toObm B) k (tellZ c.src o.toObm s z')) w' →
              Calls Tryz.prog 84 #[.pointer (some ⟨g, 0, none⟩), .slice A (e - 1) (e - 1)] w' (MOut w0 g c o (repZ o.toObm (execZ c.src o.toObm B) (k + 1) (tellZ c.src o.toObm s z'))) from fun A hA k w' hk hB' hR' => by
            have h1 := repZ_ind (o := o.toObm) (P := fun y => varsOk y.1.V = true) (fun y hy => execZ_vars HSRC.out B hy) k (tellZ c.src o.toObm s z') HVX.out
            have h2 := repZ_tot (o := o.toObm) (fun y => execZ_tot (src := c.src) B y) k (tellZ c.src o.toObm s z')
            have h5 := cntZ_nonneg B
            have h7 : ((k : Int) + 1) * cntZ B ≤ max 1 s.n * cntZ B := Int.mul_le_mul_of_nonneg_right (by omega) h5
            have h8 : ((k : Int) + 1) * cntZ B = k * cntZ B + cntZ B := by rw [Int.add_mul, Int.one_mul]
            rw [repZ_last]
            exact HIH.out A (e - 1) (e - 1) _ B (repZ o.toObm (execZ c.src o.toObm B) k (tellZ c.src o.toObm s z')) w' (by omega) (Nat.le_refl _) hA hbk hPB h1 (by omega) hB' hR')
          have hq : s.k = 4 ∨ s.k = 5 := by unfold opn at ho; simp at ho; exact ho
          clear hs ho he hkind hbk hPB hsm
          rcases hq with hk | hk
          · have HK := Lib.hid hk
            have HBODY4 := Lib.hid (show ∀ A : Option Addr, StRow w0 A (e - 1) (blk.part M 1 (e - 1)) → ∀ w', Below w0.heap.size w0 w' → Px w0.heap.size g c o (tellZ c.src o.toObm s z') w' → Calls Tryz.prog 84 #[.pointer (some ⟨g, 0, none⟩), .slice A (e - 1) (e - 1)] w' (MOut w0 g c o (execZ c.src o.toObm B (tellZ c.src o.toObm s z'))) from fun A hA w' hB' hR' => by
              exact HBODY.out A hA 0 w' (by omega) hB' hR')
            clear hk
            go_wp2_with (go_at_call 145; (with_reducible refine (impl_cutall a' n' cap' M hc' _ (HSR.out.below HBw.out) HBM.out s HS.out e HO.out).mono ?_); rintro e2 w2 ⟨a1, a2, rfl, HC2, hb2⟩; refine Hid.out ?_)
            have HB2 := Lib.hid (HBw.out.trans (hb2.mono HBw.out.size))
            have HR2 := Lib.hid (HRn.out.below hb2)
            have HX := Lib.hid (And.intro (Box.new w2 zeroSt 112) (below_new w2 (.cells zeroSt 112)))
            clear hb2
            refine Lib.hid ?_
            go_wp2_with ((refine wpList_store_box rfl 112 _ _ rfl w2.heap.size _ _ HX.out.1 (stmA s) rfl rfl rfl (by kernel_rfl) (by simp [Value.oneCell']) ?_); intro w3 hx3 hg3; refine Hid.out ?_)
            have hb23 : Below w2.heap.size w2 w3 := HX.out.2.grown hg3 HX.out.2.size (fun j hj => by cases hj; exact Nat.le_refl _)
            have hd0 : w3.drew.cell? ⟨w2.heap.size, 0, none⟩ = some (.int .i64 4) := by rw [← HK.out]; exact hx3.cell 0
            have hlt3 : w2.heap.size < w3.drew.heap.size := hx3.lt
            have H3 := Lib.hid (And.intro hx3 (And.intro (HB2.out.trans (hb23.mono HB2.out.size)) (HR2.out.below hb23)))
            clear hb23 hx3 hg3
            have iK := fun w => exec_test w
            refine Lib.hid ?_
            go_wp2
            go_region_held3 (fun w' => w'.cell? ⟨w2.heap.size, 0, none⟩ = some (.int .i64 4))
              (first | (exact hd0) | (exact (hb4.cell (p := ⟨w2.heap.size, 0, none⟩) hlt3).trans hd0))
              (first
                | (go_at_call 146; refine (impl_executors _).mono ?_; rintro e4 w4 ⟨rfl, hb4⟩))
            all_goals
              have hb34 : Below w3.heap.size w3 w4 := Below.trans (Below.drew (Below.refl _ w3)) hb4
              have H4 := Lib.hid (And.intro (H3.out.1.below hb34) (And.intro (H3.out.2.1.trans (hb34.mono H3.out.2.1.size)) (H3.out.2.2.below hb34)))
              clear hb34 hb4 hd0 hlt3
              refine Lib.hid ?_
              go_wp2_with (first
                | (refine wpList_load_row rfl 112 _ rfl w2.heap.size rfl _ _ _ _ H4.out.1 Tryz.underlying112 rfl (by kernel_rfl) ?_)
                | (go_at_call 193; (with_reducible refine (impl_test w0 _ c o g HTL.out z' s B HSO.out HK.out HVX.out HTX.out H4.out.2.1 H4.out.2.2 _ _ _ (HBODY4.out a1 (HC2.out _ HSR.out).1)).mono ?_); rintro e5 w5 ⟨rfl, hb5, hr5⟩; refine Hid.out ?_))
              have H5 := Lib.hid (And.intro hb5 hr5)
              clear hb5 hr5
              refine Lib.hid ?_
              go_wp2
              go_roundw
              case rel => exact ⟨a2, n' - (e + 1), n' - (e + 1), _, _, rfl, Nat.le_refl _, by omega, (HC2.out _ HSR.out).2, HRE2.out.1, HRE2.out.2, HVX2.out, H5.out.1, H5.out.2⟩
              case measure => simp [lenV]; omega
          · have HK := Lib.hid hk
            clear hk
            go_wp2_with (go_at_call 145; (with_reducible refine (impl_cutall a' n' cap' M hc' _ (HSR.out.below HBw.out) HBM.out s HS.out e HO.out).mono ?_); rintro e2 w2 ⟨a1, a2, rfl, HC2, hb2⟩; refine Hid.out ?_)
            have HB2 := Lib.hid (HBw.out.trans (hb2.mono HBw.out.size))
            have HR2 := Lib.hid (HRn.out.below hb2)
            have HX := Lib.hid (And.intro (Box.new w2 zeroSt 112) (below_new w2 (.cells zeroSt 112)))
            clear hb2
            refine Lib.hid ?_
            go_wp2_with ((refine wpList_store_box rfl 112 _ _ rfl w2.heap.size _ _ HX.out.1 (stmA s) rfl rfl rfl (by kernel_rfl) (by simp [Value.oneCell']) ?_); intro w3 hx3 hg3; refine Hid.out ?_)
            have hb23 : Below w2.heap.size w2 w3 := HX.out.2.grown hg3 HX.out.2.size (fun j hj => by cases hj; exact Nat.le_refl _)
            have hd0 : w3.drew.cell? ⟨w2.heap.size, 0, none⟩ = some (.int .i64 5) := by rw [← HK.out]; exact hx3.cell 0
            have hlt3 : w2.heap.size < w3.drew.heap.size := hx3.lt
            have H3 := Lib.hid (And.intro hx3 (And.intro (HB2.out.trans (hb23.mono HB2.out.size)) (HR2.out.below hb23)))
            clear hb23 hx3 hg3
            have iK := fun w => exec_repeat w
            refine Lib.hid ?_
            go_wp2
            go_region_held3 (fun w' => w'.cell? ⟨w2.heap.size, 0, none⟩ = some (.int .i64 5))
              (first | (exact hd0) | (exact (hb4.cell (p := ⟨w2.heap.size, 0, none⟩) hlt3).trans hd0))
              (first
                | (go_at_call 146; refine (impl_executors _).mono ?_; rintro e4 w4 ⟨rfl, hb4⟩))
            all_goals
              have hb34 : Below w3.heap.size w3 w4 := Below.trans (Below.drew (Below.refl _ w3)) hb4
              have H4 := Lib.hid (And.intro (H3.out.1.below hb34) (And.intro (H3.out.2.1.trans (hb34.mono H3.out.2.1.size)) (H3.out.2.2.below hb34)))
              clear hb34 hb4 hd0 hlt3
              refine Lib.hid ?_
              go_wp2_with (first
                | (refine wpList_load_row rfl 112 _ rfl w2.heap.size rfl _ _ _ _ H4.out.1 Tryz.underlying112 rfl (by kernel_rfl) ?_)
                | (go_at_call 194; (with_reducible refine (impl_repeat w0 _ c o g HTL.out z' s B HSO.out HK.out HVX.out HTX.out H4.out.2.1 H4.out.2.2 _ _ _ (fun k w' hk => HBODY.out a1 (HC2.out _ HSR.out).1 k w' (by have := its_le s z'.1; omega))).mono ?_); rintro e5 w5 ⟨rfl, hb5, hr5⟩; refine Hid.out ?_))
              have H5 := Lib.hid (And.intro hb5 hr5)
              clear hb5 hr5
              refine Lib.hid ?_
              go_wp2
              go_roundw
              case rel => exact ⟨a2, n' - (e + 1), n' - (e + 1), _, _, rfl, Nat.le_refl _, by omega, (HC2.out _ HSR.out).2, HRE2.out.1, HRE2.out.2, HVX2.out, H5.out.1, H5.out.2⟩
              case measure => simp [lenV]; omega
end Go.Proofs.YtmgeecdgebemdaaGreatDoor.exe
