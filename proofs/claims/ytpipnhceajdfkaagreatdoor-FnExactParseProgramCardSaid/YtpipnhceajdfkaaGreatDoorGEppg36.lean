/- Several texts in one: PrgU. -/
import Derived.Test.YtpipnhceajdfkaaGreatDoorGEppg35
import Derived.Deep.RegionHeld3

/- Chapter 6's program: a task's line and a statement's line are read; nothing that was there is written. -/
namespace Go.Proofs.YtpipnhceajdfkaaGreatDoor.prg
open Go Go.ChangeShapes Go.WideShapes Go.ChangeAt Go.RowKit Go.Proofs.YtpipnhceajdfkaaGreatDoor.row Go.Proofs.YtpipnhceajdfkaaGreatDoor.val Go.Proofs.YtpipnhceajdfkaaGreatDoor.expr Go.Proofs.YtpipnhceajdfkaaGreatDoor.stm Go.Proofs.YtpipnhceajdfkaaGreatDoor.blk Go.Proofs.YtpipnhceajdfkaaGreatDoor.tex Go.Proofs.YtpipnhceajdfkaaGreatDoor.lay Go.Proofs.YtpipnhceajdfkaaGreatDoor.spl

/-- What reading a task's line gives. -/
def HeadRd (a : Addr) (l : List UInt8) (w : World) (e : Ending) (w' : World) : Prop :=
  (∃ o x y, e = .returned (.tuple #[ev o x y, .nilIface]) ∧ Hid (HeadIs l o x y) ∧ Below w.heap.size w w') ∨
  (e = .returned (.tuple #[ev 0 0 0, errV a]) ∧ Hid (∀ o x y, ¬ HeadIs l o x y) ∧ Below w.heap.size w w')
abbrev preW : List UInt8 := [116, 97, 115, 107, 32]
theorem pre_of {l : List UInt8} {o x y : Int} (h : HeadIs l o x y) : Lib.hasPrefix l preW = true := by
  rw [h.2]; exact head_pre o x y
/-- The numbers of a task's line. -/
theorem nums_of {l : List UInt8} {o x y : Int} {P : List ByteArray} (h : HeadIs l o x y) (hP : P.map (·.data.toList) = cutL 32 (Lib.trimPrefix l preW)) : P.map (fun s => Lib.atoiAll s.data.toList) = [.ok o, .ok x, .ok y] := by
  have h1 : Lib.trimPrefix l preW = l.drop 5 := by unfold Lib.trimPrefix; rw [if_pos (pre_of h)]; rfl
  obtain ⟨s1, s2, s3⟩ := expr_small h.1
  rw [h1, h.2, head_nums] at hP
  have e : P.map (fun s => Lib.atoiAll s.data.toList) = (P.map (·.data.toList)).map Lib.atoiAll := by rw [List.map_map]; rfl
  rw [e, hP]
  simp [atoi_small s1, atoi_small s2, atoi_small s3]
theorem trim_len (l p : List UInt8) : (Lib.trimPrefix l p).length ≤ l.length := by
  unfold Lib.trimPrefix; split <;> simp
set_option maxHeartbeats 4000000 in
set_option maxRecDepth 100000 in
set_option linter.unusedSimpArgs false in
theorem impl_readtask (a : Addr) (s : ByteArray) (hs : s.size ≤ 20000) (w : World) (hE : Env a w) :
    Calls Tryz.prog 39 #[.string s] w (HeadRd a s.data.toList w) := by
  obtain ⟨W, hW⟩ : ∃ W, W = w.alloc (.cells #[.int .i64 0, .int .i64 0, .int .i64 0] 40) := ⟨_, rfl⟩
  have hbw : Below w.heap.size w W := by rw [hW]; exact below_new _ _
  have hwl : w.heap.size < W.heap.size := by rw [hW]; simp
  have HX := Lib.hid (And.intro (show Box w.heap.size #[.int .i64 0, .int .i64 0, .int .i64 0] 40 W by rw [hW]; exact Box.new _ _ _) (And.intro hbw hwl))
  have HW := Lib.hid hW.symm
  have HEV := Lib.hid hE
  have HEW := Lib.hid (hE.on hbw)
  obtain ⟨A, hA⟩ : ∃ A : ByteArray, A = ⟨(Lib.trimPrefix s.data.toList preW).toArray⟩ := ⟨_, rfl⟩
  obtain ⟨fb, hfb⟩ : ∃ fb, Lib.hasPrefix s.data.toList preW = fb := ⟨_, rfl⟩
  have hAl : A.data.toList = Lib.trimPrefix s.data.toList preW := by rw [hA]
  have hAs : A.size ≤ 20000 := by
    have h1 := trim_len s.data.toList preW
    have h2 : s.data.toList.length = s.size := Array.length_toList
    have h3 : A.data.toList.length = A.size := Array.length_toList
    rw [hAl] at h3; omega
  have HCP := Lib.hid (show ∀ w', Calls Tryz.prog 63 #[.string s, .string ⟨#[116, 97, 115, 107, 32]⟩] w' (fun e w'' => e = .returned (.tuple #[.string A, .bool fb]) ∧ w'' = w') from fun w' => by
    rw [hA, ← hfb]; exact Any.strings_CutPrefix Tryz.lays103 s ⟨#[116, 97, 115, 107, 32]⟩ w')
  have HFB := Lib.hid hfb
  have HSP := Lib.hid (splitL_lists 32 A)
  obtain ⟨P, hP⟩ : ∃ P, splitL 32 A = P := ⟨_, rfl⟩
  have hPl : P.length ≤ 20001 := by rw [← hP, splitL_len]; have := count_size 32 A; omega
  have HPS := Lib.hid (show ∀ f ∈ P, f.size ≤ 1048576 by rw [← hP]; exact splitL_small 32 A (by omega))
  have hsp := split_any 32 A (by omega) W HEW.out.2.2.1
  rw [hP] at hsp
  have HSA := Lib.hid hsp
  have HPT := Lib.hid (show P.map (·.data.toList) = cutL 32 (Lib.trimPrefix s.data.toList preW) by rw [← hP, splitL_lists, hAl])
  clear hW hE hbw hA hfb hAl hsp hP HSP
  go_enter Tryz.func39, Tryz.ntmps39
  go_wp2_with (go_at_call 63; (with_reducible refine (HCP.out _).mono ?_); rintro e w1 ⟨rfl, rfl⟩; refine Hid.out ?_)
  rw [HW.out]
  refine Lib.hid ?_
  go_wp2_with (go_at_call 36; (with_reducible refine HSA.out.mono ?_); rintro e w2 ⟨rfl, hR2, hb2⟩; refine Hid.out ?_)
  have H2 := Lib.hid (And.intro hR2 (And.intro hb2 (HEW.out.on hb2)))
  have HE2 := Lib.hid (show ErrsOk w2.heap.size w2 from H2.out.2.2.2.1)
  have HPN := Lib.hid (show P.length ≤ 100000 by omega)
  clear hR2 hb2
  refine Lib.hid ?_
  go_wp2_with (go_at_call 64; (with_reducible refine (read_nums _ P.length _ P HPS.out HPN.out _ H2.out.1 HE2.out).mono ?_); rintro e w3 (⟨a3, c3, L, rfl, hR3, hH3, hb3⟩ | ⟨rfl, hB3, hb3⟩) <;> refine Hid.out ?_)
  · have hb23 := below_then H2.out.2.1 hb3
    have H3 := Lib.hid (And.intro (HX.out.1.below hb23) (HX.out.2.1.trans (hb23.mono (Nat.le_of_lt HX.out.2.2))))
    have HBX := Lib.hid H3.out.1
    have HB3 := Lib.hid H3.out.2
    have HR3 := Lib.hid hR3
    have HH3 := Lib.hid hH3.out
    clear hb23 hb3 hR3 hH3
    cases fb
    · have HNO := Lib.hid (show ∀ o x y, ¬ HeadIs s.data.toList o x y from fun o x y h => by have := pre_of h; rw [HFB.out] at this; cases this)
      refine Lib.hid ?_
      go_wp2
      have gE : w3.drew.cell? ⟨0, 0, none⟩ = some (errV a) := cell_below (show Below w.heap.size w w3.drew from Below.drew HB3.out) HEV.out.2.2.2
      have bx : Box w.heap.size #[.int .i64 0, .int .i64 0, .int .i64 0] 40 w3.drew := HBX.out
      refine wp_region_held_drew (S := fun w' => w'.cell? ⟨0, 0, none⟩ = some (errV a)) (by kernel_rfl) gE (fun hHeld => ?_)
      refine wpAnyH_take (i := 0) (v := ev 0 0 0) rfl (by kernel_rfl) (by kernel_rfl) (by kernel_rfl) (fun _ _ _ h => h) (Or.inl ⟨by rfl, (by intro w' hSw; (try dsimp only at hSw); go_simp)⟩) (by assumption) ?_
      try simp only [Act.put, List.setIfInBounds_toArray, List.set_cons_zero, List.set_cons_succ]
      refine wpAnyH_take (i := 1) (v := errV a) rfl (by kernel_rfl) (by kernel_rfl) (by kernel_rfl) (fun _ _ _ h => h) (Or.inl ⟨by rfl, (by intro w' hSw; (try dsimp only at hSw); go_simp)⟩) (by assumption) ?_
      try simp only [Act.put, List.setIfInBounds_toArray, List.set_cons_zero, List.set_cons_succ]
      refine wpAnyH_ready (rs := [2]) (by kernel_rfl) (by simp) ?_
      refine AllReadyH.cons rfl (fun K hK => ?_) AllReadyH.nil
      refine step_store_box rfl 40 _ _ rfl w.heap.size _ _ bx #[.int .i64 0, .int .i64 0, .int .i64 0] rfl rfl rfl (by kernel_rfl) (by simp [Value.oneCell']) ?_
      intro wz hxz hgz
      have hbz : Below w.heap.size w wz := (show Below w.heap.size w w3.drew from Below.drew HB3.out).grown hgz HB3.out.size (fun j hj => by cases hj; exact Nat.le_refl _)
      refine hK.out _ _ (cell_below hbz HEV.out.2.2.2) (fun hHeld2 => ?_)
      clear hK K
      try simp only [Act.put, List.setIfInBounds_toArray, List.set_cons_zero, List.set_cons_succ]
      refine wpAnyH_take (i := 3) (v := errV a) rfl (by kernel_rfl) (by kernel_rfl) (by kernel_rfl) (fun _ _ _ h => h) (Or.inl ⟨by rfl, (by intro w' hSw; (try dsimp only at hSw); go_simp)⟩) (by assumption) ?_
      try simp only [Act.put, List.setIfInBounds_toArray, List.set_cons_zero, List.set_cons_succ]
      refine wpAnyH_done (by kernel_rfl) ?_ _
      have HZ := Lib.hid (And.intro hxz hbz)
      clear hHeld hHeld2 gE bx hxz hgz hbz
      refine Lib.hid ?_
      go_wp2
      exact bodyPost_ret (v := .tuple #[ev 0 0 0, errV a]) (results_box2 rfl _ _ w.heap.size _ _ _ _ rfl rfl HZ.out.1 Tryz.underlying40 rfl (by kernel_rfl)) rfl (.inr ⟨rfl, HNO, HZ.out.2⟩)
    · by_cases hL3 : L.length = 3
      · obtain ⟨o, x, y, rfl⟩ : ∃ o x y, L = [o, x, y] := by
          match L, hL3 with
          | [o, x, y], _ => exact ⟨o, x, y, rfl⟩
        have HEQ := Lib.hid (show ∀ o' x' y', HeadIs s.data.toList o' x' y' → o' = o ∧ x' = x ∧ y' = y from fun o' x' y' h => by
          have h1 := nums_of h HPT.out
          rw [HH3.out] at h1
          simp at h1
          exact ⟨h1.1.symm, h1.2.1.symm, h1.2.2.symm⟩)
        obtain ⟨g3, f3, v0, rfl, hg3, hv0, k0⟩ := HR3.out.2 0 (by simp)
        obtain ⟨g3', f3', v1, h1e, hg3', hv1, k1⟩ := HR3.out.2 1 (by simp)
        obtain ⟨g3'', f3'', v2, h2e, hg3'', hv2, k2⟩ := HR3.out.2 2 (by simp)
        simp only [Option.some.injEq, Addr.mk.injEq, and_true] at h1e h2e
        obtain ⟨rfl, rfl⟩ := h1e
        obtain ⟨rfl, rfl⟩ := h2e
        obtain rfl : o = v0 := by simpa using hv0
        obtain rfl : x = v1 := by simpa using hv1
        obtain rfl : y = v2 := by simpa using hv2
        rw [Nat.add_zero] at k0
        clear hv0 hv1 hv2 hg3' hg3'' hL3
        have hl3 : ([o, x, y] : List Int).length = 3 := rfl
        refine Lib.hid ?_
        go_wp2
        have b3a : Below w3.heap.size w3 (w3.drew.alloc (.cells #[.int .i64 0, .int .i64 0, .int .i64 0] 40)) := (Below.drew (Below.refl _ w3)).alloc (Nat.le_refl _) _
        have bx5 : Box w3.heap.size #[.int .i64 0, .int .i64 0, .int .i64 0] 40 (w3.drew.alloc (.cells #[.int .i64 0, .int .i64 0, .int .i64 0] 40)) := Box.new w3.drew _ _
        refine wp_region_held_drew (S := fun w' => w'.cell? ⟨g3, f3, none⟩ = some (.int .i64 o) ∧ w'.cell? ⟨g3, f3 + 1, none⟩ = some (.int .i64 x) ∧ w'.cell? ⟨g3, f3 + 2, none⟩ = some (.int .i64 y)) (by kernel_rfl) ⟨k0, k1, k2⟩ (fun hHeld => ?_)
        refine wpAnyH_take (i := 0) (v := .slice (some ⟨g3, f3, none⟩) 3 c3) rfl (by kernel_rfl) (by kernel_rfl) (by kernel_rfl) (fun _ _ _ h => h) (Or.inl ⟨by rfl, (by intro w' hSw; (try dsimp only at hSw); go_simp)⟩) (by assumption) ?_
        try simp only [Act.put, List.setIfInBounds_toArray, List.set_cons_zero, List.set_cons_succ]
        refine wpAnyH_take (i := 1) (v := .pointer (some ⟨g3, f3, none⟩)) rfl (by kernel_rfl) (by kernel_rfl) (by kernel_rfl) (fun _ _ _ h => h) (Or.inl ⟨by rfl, (by intro w' hSw; (try dsimp only at hSw); go_simp)⟩) (by assumption) ?_
        try simp only [Act.put, List.setIfInBounds_toArray, List.set_cons_zero, List.set_cons_succ]
        refine wpAnyH_take (i := 2) (v := .int .i64 o) rfl (by kernel_rfl) (by kernel_rfl) (by kernel_rfl) (fun _ _ _ h => h) (Or.inl ⟨by rfl, (by intro w' hSw; (try dsimp only at hSw); go_simp)⟩) (by assumption) ?_
        try simp only [Act.put, List.setIfInBounds_toArray, List.set_cons_zero, List.set_cons_succ]
        refine wpAnyH_take (i := 3) (v := .slice (some ⟨g3, f3, none⟩) 3 c3) rfl (by kernel_rfl) (by kernel_rfl) (by kernel_rfl) (fun _ _ _ h => h) (Or.inl ⟨by rfl, (by intro w' hSw; (try dsimp only at hSw); go_simp)⟩) (by assumption) ?_
        try simp only [Act.put, List.setIfInBounds_toArray, List.set_cons_zero, List.set_cons_succ]
        refine wpAnyH_take (i := 4) (v := .pointer (some ⟨g3, f3 + 1, none⟩)) rfl (by kernel_rfl) (by kernel_rfl) (by kernel_rfl) (fun _ _ _ h => h) (Or.inl ⟨by rfl, (by intro w' hSw; (try dsimp only at hSw); go_simp)⟩) (by assumption) ?_
        try simp only [Act.put, List.setIfInBounds_toArray, List.set_cons_zero, List.set_cons_succ]
        refine wpAnyH_take (i := 5) (v := .int .i64 x) rfl (by kernel_rfl) (by kernel_rfl) (by kernel_rfl) (fun _ _ _ h => h) (Or.inl ⟨by rfl, (by intro w' hSw; (try dsimp only at hSw); go_simp)⟩) (by assumption) ?_
        try simp only [Act.put, List.setIfInBounds_toArray, List.set_cons_zero, List.set_cons_succ]
        refine wpAnyH_take (i := 6) (v := .slice (some ⟨g3, f3, none⟩) 3 c3) rfl (by kernel_rfl) (by kernel_rfl) (by kernel_rfl) (fun _ _ _ h => h) (Or.inl ⟨by rfl, (by intro w' hSw; (try dsimp only at hSw); go_simp)⟩) (by assumption) ?_
        try simp only [Act.put, List.setIfInBounds_toArray, List.set_cons_zero, List.set_cons_succ]
        refine wpAnyH_take (i := 7) (v := .pointer (some ⟨g3, f3 + 2, none⟩)) rfl (by kernel_rfl) (by kernel_rfl) (by kernel_rfl) (fun _ _ _ h => h) (Or.inl ⟨by rfl, (by intro w' hSw; (try dsimp only at hSw); go_simp)⟩) (by assumption) ?_
        try simp only [Act.put, List.setIfInBounds_toArray, List.set_cons_zero, List.set_cons_succ]
        refine wpAnyH_take (i := 8) (v := .int .i64 y) rfl (by kernel_rfl) (by kernel_rfl) (by kernel_rfl) (fun _ _ _ h => h) (Or.inl ⟨by rfl, (by intro w' hSw; (try dsimp only at hSw); go_simp)⟩) (by assumption) ?_
        try simp only [Act.put, List.setIfInBounds_toArray, List.set_cons_zero, List.set_cons_succ]
        refine wpAnyH_take (i := 9) (v := ev o x y) rfl (by kernel_rfl) (by kernel_rfl) (by kernel_rfl) (fun _ _ _ h => h) (Or.inl ⟨by rfl, (by intro w' hSw; (try dsimp only at hSw); go_simp)⟩) (by assumption) ?_
        try simp only [Act.put, List.setIfInBounds_toArray, List.set_cons_zero, List.set_cons_succ]
        refine wpAnyH_ready (rs := [10]) (by kernel_rfl) (by simp) ?_
        refine AllReadyH.cons rfl (fun K hK => ?_) AllReadyH.nil
        rw [if_pos (by kernel_rfl)]
        go_simp
        refine hK.out _ _ ⟨cell_below b3a k0, cell_below b3a k1, cell_below b3a k2⟩ (fun hHeld2 => ?_)
        clear hK K
        try simp only [Act.put, List.setIfInBounds_toArray, List.set_cons_zero, List.set_cons_succ]
        refine wpAnyH_ready (rs := [11]) (by kernel_rfl) (by simp) ?_
        refine AllReadyH.cons rfl (fun K hK => ?_) AllReadyH.nil
        refine step_store_box rfl 40 _ _ rfl w3.heap.size _ _ bx5 #[.int .i64 o, .int .i64 x, .int .i64 y] rfl rfl rfl (by kernel_rfl) (by simp [Value.oneCell']) ?_
        intro w5 hx5 hg5
        have hb5 : Below w3.heap.size w3 w5 := b3a.grown hg5 b3a.size (fun j hj => by cases hj; exact Nat.le_refl _)
        refine hK.out _ _ ⟨cell_below hb5 k0, cell_below hb5 k1, cell_below hb5 k2⟩ (fun hHeld3 => ?_)
        clear hK K
        try simp only [Act.put, List.setIfInBounds_toArray, List.set_cons_zero, List.set_cons_succ]
        refine wpAnyH_done (by kernel_rfl) ?_ _
        have H5 := Lib.hid (And.intro hx5 (And.intro (HBX.out.below hb5) (below_then HB3.out hb5)))
        clear hHeld hHeld2 hHeld3 b3a bx5 hx5 hg5 hb5 k0 k1 k2
        have e0 : w5.cell? ⟨w3.heap.size, 0, none⟩ = some (.int .i64 o) := H5.out.1.cell 0
        have e1 : w5.cell? ⟨w3.heap.size, 1, none⟩ = some (.int .i64 x) := H5.out.1.cell 1
        have e2 : w5.cell? ⟨w3.heap.size, 2, none⟩ = some (.int .i64 y) := H5.out.1.cell 2
        cases hr : exprOk o x y
        · have HRE := Lib.hid hr
          have HNO := Lib.hid (show ∀ o x y, ¬ HeadIs s.data.toList o x y from fun o' x' y' h => by obtain ⟨rfl, rfl, rfl⟩ := HEQ.out o' x' y' h; have := h.1; rw [HRE.out] at this; cases this)
          clear hr
          refine Lib.hid ?_
          go_wp2_with (go_at_call 42; (with_reducible refine (impl_exprok o x y false HRE.out _).mono ?_); rintro e w6 ⟨rfl, hb6⟩; refine Hid.out ?_)
          have HBX6 := Lib.hid (H5.out.2.1.below hb6)
          have HB6 := Lib.hid (below_then H5.out.2.2 hb6)
          clear hb6 e0 e1 e2
          refine Lib.hid ?_
          go_wp2
          have gE : w6.drew.cell? ⟨0, 0, none⟩ = some (errV a) := cell_below (show Below w.heap.size w w6.drew from Below.drew HB6.out) HEV.out.2.2.2
          have bx : Box w.heap.size #[.int .i64 0, .int .i64 0, .int .i64 0] 40 w6.drew := HBX6.out
          refine wp_region_held_drew (S := fun w' => w'.cell? ⟨0, 0, none⟩ = some (errV a)) (by kernel_rfl) gE (fun hHeld => ?_)
          refine wpAnyH_take (i := 0) (v := ev 0 0 0) rfl (by kernel_rfl) (by kernel_rfl) (by kernel_rfl) (fun _ _ _ h => h) (Or.inl ⟨by rfl, (by intro w' hSw; (try dsimp only at hSw); go_simp)⟩) (by assumption) ?_
          try simp only [Act.put, List.setIfInBounds_toArray, List.set_cons_zero, List.set_cons_succ]
          refine wpAnyH_take (i := 1) (v := errV a) rfl (by kernel_rfl) (by kernel_rfl) (by kernel_rfl) (fun _ _ _ h => h) (Or.inl ⟨by rfl, (by intro w' hSw; (try dsimp only at hSw); go_simp)⟩) (by assumption) ?_
          try simp only [Act.put, List.setIfInBounds_toArray, List.set_cons_zero, List.set_cons_succ]
          refine wpAnyH_ready (rs := [2]) (by kernel_rfl) (by simp) ?_
          refine AllReadyH.cons rfl (fun K hK => ?_) AllReadyH.nil
          refine step_store_box rfl 40 _ _ rfl w.heap.size _ _ bx #[.int .i64 0, .int .i64 0, .int .i64 0] rfl rfl rfl (by kernel_rfl) (by simp [Value.oneCell']) ?_
          intro wz hxz hgz
          have hbz : Below w.heap.size w wz := (show Below w.heap.size w w6.drew from Below.drew HB6.out).grown hgz HB6.out.size (fun j hj => by cases hj; exact Nat.le_refl _)
          refine hK.out _ _ (cell_below hbz HEV.out.2.2.2) (fun hHeld2 => ?_)
          clear hK K
          try simp only [Act.put, List.setIfInBounds_toArray, List.set_cons_zero, List.set_cons_succ]
          refine wpAnyH_take (i := 3) (v := errV a) rfl (by kernel_rfl) (by kernel_rfl) (by kernel_rfl) (fun _ _ _ h => h) (Or.inl ⟨by rfl, (by intro w' hSw; (try dsimp only at hSw); go_simp)⟩) (by assumption) ?_
          try simp only [Act.put, List.setIfInBounds_toArray, List.set_cons_zero, List.set_cons_succ]
          refine wpAnyH_done (by kernel_rfl) ?_ _
          have HZ := Lib.hid (And.intro hxz hbz)
          clear hHeld hHeld2 gE bx hxz hgz hbz
          refine Lib.hid ?_
          go_wp2
          exact bodyPost_ret (v := .tuple #[ev 0 0 0, errV a]) (results_box2 rfl _ _ w.heap.size _ _ _ _ rfl rfl HZ.out.1 Tryz.underlying40 rfl (by kernel_rfl)) rfl (.inr ⟨rfl, HNO, HZ.out.2⟩)
        · have HRE := Lib.hid hr
          obtain ⟨X0, hX0⟩ : ∃ X0 : List UInt8, X0 = taskW ++ exT o x y := ⟨_, rfl⟩
          have HX0 := Lib.hid hX0
          have hsm := expr_small hr
          have HTL := Lib.hid (show ∀ w', TabB w' → Calls Tryz.prog 16 #[ev o x y] w' (RetS w' X0) from fun w' h' => by rw [hX0]; exact impl_taskline hsm.1 hsm.2.1 hsm.2.2 w' h')
          clear hr hX0 hsm
          refine Lib.hid ?_
          go_wp2_with (go_at_call 42; (with_reducible refine (impl_exprok o x y true HRE.out _).mono ?_); rintro e w6 ⟨rfl, hb6⟩; refine Hid.out ?_)
          have H6 := Lib.hid (And.intro (H5.out.1.below hb6) (And.intro (H5.out.2.1.below hb6) (below_then H5.out.2.2 hb6)))
          have HT6 := Lib.hid (HEV.out.1.on H6.out.2.2)
          clear hb6 e0 e1 e2
          have d0 : w6.cell? ⟨w3.heap.size, 0, none⟩ = some (.int .i64 o) := H6.out.1.cell 0
          have d1 : w6.cell? ⟨w3.heap.size, 1, none⟩ = some (.int .i64 x) := H6.out.1.cell 1
          have d2 : w6.cell? ⟨w3.heap.size, 2, none⟩ = some (.int .i64 y) := H6.out.1.cell 2
          refine Lib.hid ?_
          go_wp2_with (go_at_call 16; (with_reducible refine (HTL.out _ HT6.out).mono ?_); rintro e w7 ⟨rfl, hb7⟩; refine Hid.out ?_)
          have H7 := Lib.hid (And.intro (H6.out.1.below hb7) (And.intro (H6.out.2.1.below hb7) (below_then H6.out.2.2 hb7)))
          clear hb7 d0 d1 d2
          cases hq : (X0 == s.toList)
          · have HNO := Lib.hid (show ∀ o x y, ¬ HeadIs s.data.toList o x y from fun o' x' y' h => by obtain ⟨rfl, rfl, rfl⟩ := HEQ.out o' x' y' h; rw [(test_bytes s X0).2 (HX0.out.trans h.2.symm)] at hq; cases hq)
            have hq2 : (X0 != s.toList) = true := by rw [bne, hq]; rfl
            have HBX7 := Lib.hid H7.out.2.1
            have HB7 := Lib.hid H7.out.2.2
            refine Lib.hid ?_
            go_wp2
            have gE : w7.drew.cell? ⟨0, 0, none⟩ = some (errV a) := cell_below (show Below w.heap.size w w7.drew from Below.drew HB7.out) HEV.out.2.2.2
            have bx : Box w.heap.size #[.int .i64 0, .int .i64 0, .int .i64 0] 40 w7.drew := HBX7.out
            refine wp_region_held_drew (S := fun w' => w'.cell? ⟨0, 0, none⟩ = some (errV a)) (by kernel_rfl) gE (fun hHeld => ?_)
            refine wpAnyH_take (i := 0) (v := ev 0 0 0) rfl (by kernel_rfl) (by kernel_rfl) (by kernel_rfl) (fun _ _ _ h => h) (Or.inl ⟨by rfl, (by intro w' hSw; (try dsimp only at hSw); go_simp)⟩) (by assumption) ?_
            try simp only [Act.put, List.setIfInBounds_toArray, List.set_cons_zero, List.set_cons_succ]
            refine wpAnyH_take (i := 1) (v := errV a) rfl (by kernel_rfl) (by kernel_rfl) (by kernel_rfl) (fun _ _ _ h => h) (Or.inl ⟨by rfl, (by intro w' hSw; (try dsimp only at hSw); go_simp)⟩) (by assumption) ?_
            try simp only [Act.put, List.setIfInBounds_toArray, List.set_cons_zero, List.set_cons_succ]
            refine wpAnyH_ready (rs := [2]) (by kernel_rfl) (by simp) ?_
            refine AllReadyH.cons rfl (fun K hK => ?_) AllReadyH.nil
            refine step_store_box rfl 40 _ _ rfl w.heap.size _ _ bx #[.int .i64 0, .int .i64 0, .int .i64 0] rfl rfl rfl (by kernel_rfl) (by simp [Value.oneCell']) ?_
            intro wz hxz hgz
            have hbz : Below w.heap.size w wz := (show Below w.heap.size w w7.drew from Below.drew HB7.out).grown hgz HB7.out.size (fun j hj => by cases hj; exact Nat.le_refl _)
            refine hK.out _ _ (cell_below hbz HEV.out.2.2.2) (fun hHeld2 => ?_)
            clear hK K
            try simp only [Act.put, List.setIfInBounds_toArray, List.set_cons_zero, List.set_cons_succ]
            refine wpAnyH_take (i := 3) (v := errV a) rfl (by kernel_rfl) (by kernel_rfl) (by kernel_rfl) (fun _ _ _ h => h) (Or.inl ⟨by rfl, (by intro w' hSw; (try dsimp only at hSw); go_simp)⟩) (by assumption) ?_
            try simp only [Act.put, List.setIfInBounds_toArray, List.set_cons_zero, List.set_cons_succ]
            refine wpAnyH_done (by kernel_rfl) ?_ _
            have HZ := Lib.hid (And.intro hxz hbz)
            clear hHeld hHeld2 gE bx hxz hgz hbz
            refine Lib.hid ?_
            go_wp2
            exact bodyPost_ret (v := .tuple #[ev 0 0 0, errV a]) (results_box2 rfl _ _ w.heap.size _ _ _ _ rfl rfl HZ.out.1 Tryz.underlying40 rfl (by kernel_rfl)) rfl (.inr ⟨rfl, HNO, HZ.out.2⟩)
          · have HH := Lib.hid (show HeadIs s.data.toList o x y from ⟨HRE.out, ((test_bytes s X0).1 hq).symm.trans HX0.out⟩)
            have hq2 : (X0 != s.toList) = false := by rw [bne, hq]; rfl
            refine Lib.hid ?_
            go_wp2_with (first
              | (refine wpList_load_row rfl 40 _ rfl w3.heap.size rfl _ _ _ _ H7.out.1 Tryz.underlying40 rfl (by kernel_rfl) ?_)
              | ((refine wpList_store_box rfl 40 _ _ rfl w.heap.size _ _ H7.out.2.1 #[.int .i64 o, .int .i64 x, .int .i64 y] rfl rfl rfl (by kernel_rfl) (by simp [Value.oneCell']) ?_); intro w8 hx8 hg8; refine Hid.out ?_))
            have HZ := Lib.hid (And.intro hx8 (H7.out.2.2.grown hg8 H7.out.2.2.size (fun j hj => by cases hj; exact Nat.le_refl _)))
            clear hx8 hg8
            refine Lib.hid ?_
            go_wp2
            exact bodyPost_ret (v := .tuple #[ev o x y, .nilIface]) (results_box2 rfl _ _ w.heap.size _ _ _ _ rfl rfl HZ.out.1 Tryz.underlying40 rfl (by kernel_rfl)) rfl (.inl ⟨o, x, y, rfl, HH, HZ.out.2⟩)
      · have HNO := Lib.hid (show ∀ o x y, ¬ HeadIs s.data.toList o x y from fun o x y h => by
          have h1 := nums_of h HPT.out
          rw [HH3.out] at h1
          have h2 := congrArg List.length h1
          simp at h2
          exact hL3 h2)
        have hL3I : ¬ (L.length : Int) = 3 := by omega
        have hL3B : ((L.length : Int) != 3) = true := by simpa using hL3I
        refine Lib.hid ?_
        go_wp2
        have gE : w3.drew.cell? ⟨0, 0, none⟩ = some (errV a) := cell_below (show Below w.heap.size w w3.drew from Below.drew HB3.out) HEV.out.2.2.2
        have bx : Box w.heap.size #[.int .i64 0, .int .i64 0, .int .i64 0] 40 w3.drew := HBX.out
        refine wp_region_held_drew (S := fun w' => w'.cell? ⟨0, 0, none⟩ = some (errV a)) (by kernel_rfl) gE (fun hHeld => ?_)
        refine wpAnyH_take (i := 0) (v := ev 0 0 0) rfl (by kernel_rfl) (by kernel_rfl) (by kernel_rfl) (fun _ _ _ h => h) (Or.inl ⟨by rfl, (by intro w' hSw; (try dsimp only at hSw); go_simp)⟩) (by assumption) ?_
        try simp only [Act.put, List.setIfInBounds_toArray, List.set_cons_zero, List.set_cons_succ]
        refine wpAnyH_take (i := 1) (v := errV a) rfl (by kernel_rfl) (by kernel_rfl) (by kernel_rfl) (fun _ _ _ h => h) (Or.inl ⟨by rfl, (by intro w' hSw; (try dsimp only at hSw); go_simp)⟩) (by assumption) ?_
        try simp only [Act.put, List.setIfInBounds_toArray, List.set_cons_zero, List.set_cons_succ]
        refine wpAnyH_ready (rs := [2]) (by kernel_rfl) (by simp) ?_
        refine AllReadyH.cons rfl (fun K hK => ?_) AllReadyH.nil
        refine step_store_box rfl 40 _ _ rfl w.heap.size _ _ bx #[.int .i64 0, .int .i64 0, .int .i64 0] rfl rfl rfl (by kernel_rfl) (by simp [Value.oneCell']) ?_
        intro wz hxz hgz
        have hbz : Below w.heap.size w wz := (show Below w.heap.size w w3.drew from Below.drew HB3.out).grown hgz HB3.out.size (fun j hj => by cases hj; exact Nat.le_refl _)
        refine hK.out _ _ (cell_below hbz HEV.out.2.2.2) (fun hHeld2 => ?_)
        clear hK K
        try simp only [Act.put, List.setIfInBounds_toArray, List.set_cons_zero, List.set_cons_succ]
        refine wpAnyH_take (i := 3) (v := errV a) rfl (by kernel_rfl) (by kernel_rfl) (by kernel_rfl) (fun _ _ _ h => h) (Or.inl ⟨by rfl, (by intro w' hSw; (try dsimp only at hSw); go_simp)⟩) (by assumption) ?_
        try simp only [Act.put, List.setIfInBounds_toArray, List.set_cons_zero, List.set_cons_succ]
        refine wpAnyH_done (by kernel_rfl) ?_ _
        have HZ := Lib.hid (And.intro hxz hbz)
        clear hHeld hHeld2 gE bx hxz hgz hbz
        refine Lib.hid ?_
        go_wp2
        exact bodyPost_ret (v := .tuple #[ev 0 0 0, errV a]) (results_box2 rfl _ _ w.heap.size _ _ _ _ rfl rfl HZ.out.1 Tryz.underlying40 rfl (by kernel_rfl)) rfl (.inr ⟨rfl, HNO, HZ.out.2⟩)
  · have hb23 := below_then H2.out.2.1 hb3
    have H3 := Lib.hid (And.intro (HX.out.1.below hb23) (HX.out.2.1.trans (hb23.mono (Nat.le_of_lt HX.out.2.2))))
    have HBX := Lib.hid H3.out.1
    have HB3 := Lib.hid H3.out.2
    have HNO := Lib.hid (show ∀ o x y, ¬ HeadIs s.data.toList o x y from fun o x y h => by
      obtain ⟨f, hf, hn⟩ := hB3.out
      have h1 := nums_of h HPT.out
      have h2 : Lib.atoiAll f.data.toList ∈ P.map (fun s => Lib.atoiAll s.data.toList) := List.mem_map.2 ⟨f, hf, rfl⟩
      rw [h1] at h2
      simp only [List.mem_cons, List.not_mem_nil, or_false] at h2
      rcases h2 with h2 | h2 | h2
      · exact hn _ h2
      · exact hn _ h2
      · exact hn _ h2)
    clear hb23 hb3 hB3
    cases fb
    · refine Lib.hid ?_
      go_wp2
      have gE : w3.drew.cell? ⟨0, 0, none⟩ = some (errV a) := cell_below (show Below w.heap.size w w3.drew from Below.drew HB3.out) HEV.out.2.2.2
      have bx : Box w.heap.size #[.int .i64 0, .int .i64 0, .int .i64 0] 40 w3.drew := HBX.out
      refine wp_region_held_drew (S := fun w' => w'.cell? ⟨0, 0, none⟩ = some (errV a)) (by kernel_rfl) gE (fun hHeld => ?_)
      refine wpAnyH_take (i := 0) (v := ev 0 0 0) rfl (by kernel_rfl) (by kernel_rfl) (by kernel_rfl) (fun _ _ _ h => h) (Or.inl ⟨by rfl, (by intro w' hSw; (try dsimp only at hSw); go_simp)⟩) (by assumption) ?_
      try simp only [Act.put, List.setIfInBounds_toArray, List.set_cons_zero, List.set_cons_succ]
      refine wpAnyH_take (i := 1) (v := errV a) rfl (by kernel_rfl) (by kernel_rfl) (by kernel_rfl) (fun _ _ _ h => h) (Or.inl ⟨by rfl, (by intro w' hSw; (try dsimp only at hSw); go_simp)⟩) (by assumption) ?_
      try simp only [Act.put, List.setIfInBounds_toArray, List.set_cons_zero, List.set_cons_succ]
      refine wpAnyH_ready (rs := [2]) (by kernel_rfl) (by simp) ?_
      refine AllReadyH.cons rfl (fun K hK => ?_) AllReadyH.nil
      refine step_store_box rfl 40 _ _ rfl w.heap.size _ _ bx #[.int .i64 0, .int .i64 0, .int .i64 0] rfl rfl rfl (by kernel_rfl) (by simp [Value.oneCell']) ?_
      intro wz hxz hgz
      have hbz : Below w.heap.size w wz := (show Below w.heap.size w w3.drew from Below.drew HB3.out).grown hgz HB3.out.size (fun j hj => by cases hj; exact Nat.le_refl _)
      refine hK.out _ _ (cell_below hbz HEV.out.2.2.2) (fun hHeld2 => ?_)
      clear hK K
      try simp only [Act.put, List.setIfInBounds_toArray, List.set_cons_zero, List.set_cons_succ]
      refine wpAnyH_take (i := 3) (v := errV a) rfl (by kernel_rfl) (by kernel_rfl) (by kernel_rfl) (fun _ _ _ h => h) (Or.inl ⟨by rfl, (by intro w' hSw; (try dsimp only at hSw); go_simp)⟩) (by assumption) ?_
      try simp only [Act.put, List.setIfInBounds_toArray, List.set_cons_zero, List.set_cons_succ]
      refine wpAnyH_done (by kernel_rfl) ?_ _
      have HZ := Lib.hid (And.intro hxz hbz)
      clear hHeld hHeld2 gE bx hxz hgz hbz
      refine Lib.hid ?_
      go_wp2
      exact bodyPost_ret (v := .tuple #[ev 0 0 0, errV a]) (results_box2 rfl _ _ w.heap.size _ _ _ _ rfl rfl HZ.out.1 Tryz.underlying40 rfl (by kernel_rfl)) rfl (.inr ⟨rfl, HNO, HZ.out.2⟩)
    · refine Lib.hid ?_
      go_wp2
      have gE : w3.drew.cell? ⟨0, 0, none⟩ = some (errV a) := cell_below (show Below w.heap.size w w3.drew from Below.drew HB3.out) HEV.out.2.2.2
      have bx : Box w.heap.size #[.int .i64 0, .int .i64 0, .int .i64 0] 40 w3.drew := HBX.out
      refine wp_region_held_drew (S := fun w' => w'.cell? ⟨0, 0, none⟩ = some (errV a)) (by kernel_rfl) gE (fun hHeld => ?_)
      refine wpAnyH_take (i := 0) (v := ev 0 0 0) rfl (by kernel_rfl) (by kernel_rfl) (by kernel_rfl) (fun _ _ _ h => h) (Or.inl ⟨by rfl, (by intro w' hSw; (try dsimp only at hSw); go_simp)⟩) (by assumption) ?_
      try simp only [Act.put, List.setIfInBounds_toArray, List.set_cons_zero, List.set_cons_succ]
      refine wpAnyH_take (i := 1) (v := errV a) rfl (by kernel_rfl) (by kernel_rfl) (by kernel_rfl) (fun _ _ _ h => h) (Or.inl ⟨by rfl, (by intro w' hSw; (try dsimp only at hSw); go_simp)⟩) (by assumption) ?_
      try simp only [Act.put, List.setIfInBounds_toArray, List.set_cons_zero, List.set_cons_succ]
      refine wpAnyH_ready (rs := [2]) (by kernel_rfl) (by simp) ?_
      refine AllReadyH.cons rfl (fun K hK => ?_) AllReadyH.nil
      refine step_store_box rfl 40 _ _ rfl w.heap.size _ _ bx #[.int .i64 0, .int .i64 0, .int .i64 0] rfl rfl rfl (by kernel_rfl) (by simp [Value.oneCell']) ?_
      intro wz hxz hgz
      have hbz : Below w.heap.size w wz := (show Below w.heap.size w w3.drew from Below.drew HB3.out).grown hgz HB3.out.size (fun j hj => by cases hj; exact Nat.le_refl _)
      refine hK.out _ _ (cell_below hbz HEV.out.2.2.2) (fun hHeld2 => ?_)
      clear hK K
      try simp only [Act.put, List.setIfInBounds_toArray, List.set_cons_zero, List.set_cons_succ]
      refine wpAnyH_take (i := 3) (v := errV a) rfl (by kernel_rfl) (by kernel_rfl) (by kernel_rfl) (fun _ _ _ h => h) (Or.inl ⟨by rfl, (by intro w' hSw; (try dsimp only at hSw); go_simp)⟩) (by assumption) ?_
      try simp only [Act.put, List.setIfInBounds_toArray, List.set_cons_zero, List.set_cons_succ]
      refine wpAnyH_done (by kernel_rfl) ?_ _
      have HZ := Lib.hid (And.intro hxz hbz)
      clear hHeld hHeld2 gE bx hxz hgz hbz
      refine Lib.hid ?_
      go_wp2
      exact bodyPost_ret (v := .tuple #[ev 0 0 0, errV a]) (results_box2 rfl _ _ w.heap.size _ _ _ _ rfl rfl HZ.out.1 Tryz.underlying40 rfl (by kernel_rfl)) rfl (.inr ⟨rfl, HNO, HZ.out.2⟩)
end Go.Proofs.YtpipnhceajdfkaaGreatDoor.prg
