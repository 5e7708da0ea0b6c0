/- Several texts in one: VBotI. -/
import Derived.Test.YtmgeecdgebemdaaGreatDoorGSigV46
import Derived.Test.YtmgeecdgebemdaaGreatDoorGSigV47

/- Chapter 16 of the program: NeedsEnergy, BootOnce. -/
namespace Go.Proofs.YtmgeecdgebemdaaGreatDoor.bot
open Go Go.ChangeShapes Go.WideShapes Go.ChangeAt Go.RowKit Go.Proofs.YtmgeecdgebemdaaGreatDoor.row Go.Proofs.YtmgeecdgebemdaaGreatDoor.val Go.Proofs.YtmgeecdgebemdaaGreatDoor.expr Go.Proofs.YtmgeecdgebemdaaGreatDoor.stm Go.Proofs.YtmgeecdgebemdaaGreatDoor.blk Go.Proofs.YtmgeecdgebemdaaGreatDoor.prg Go.Proofs.YtmgeecdgebemdaaGreatDoor.exe Go.Proofs.YtmgeecdgebemdaaGreatDoor.ctl Go.Proofs.YtmgeecdgebemdaaGreatDoor.mem Go.Proofs.YtmgeecdgebemdaaGreatDoor.grow Go.Proofs.YtmgeecdgebemdaaGreatDoor.wrt Go.Proofs.YtmgeecdgebemdaaGreatDoor.trc Go.Proofs.YtmgeecdgebemdaaGreatDoor.cst Go.Proofs.YtmgeecdgebemdaaGreatDoor.rcv
theorem needIs_no {P : List Tk} {Mem R : List Int} {z x : Int} (h : NeedIs P Mem R z x) (hn : ¬ BotOk P Mem R z) : x = -1 := by
  rcases h with ⟨_, h⟩ | ⟨h, _⟩
  · exact h
  · exact absurd h hn
set_option maxHeartbeats 8000000 in
set_option maxRecDepth 100000 in
theorem impl_needs : NeC := by
  intro a n cap P hz hcap w h am nm cm Mem hnm hcm hM ar nr cr R hnr hcr hR z x hx h8 hCT
  obtain ⟨W, hW⟩ : ∃ W, w.alloc (.cells #[.slice a n cap] 26) = W := ⟨_, rfl⟩
  have hBW : Below w.heap.size w W := by rw [← hW]; exact below_new w _
  have hpx : Box w.heap.size #[.slice a n cap] 26 W := by rw [← hW]; exact Box.new w _ _
  obtain ⟨r, hr⟩ := botOk_dec P Mem R z
  have HOK := Lib.hid (impl_canboot a n cap P hz hcap W (h.below hBW) am nm cm Mem (hM.below hBW) ar nr cr R hnr (hR.below hBW) z h8 r hr)
  have H0 := Lib.hid (And.intro hBW (And.intro hpx (And.intro (h.below hBW) (And.intro (hM.below hBW) (And.intro (hR.below hBW) (hCT.below hBW))))))
  have hml := hM.1
  clear hBW hpx h hM hR hCT
  cases r
  · obtain rfl : x = -1 := needIs_no hx (fun h9 => by have := hr.2 h9; cases this)
    clear hx hr
    go_enter Tryz.func14, Tryz.ntmps14
    go_wp2_with (first
      | (refine wpList_load_row rfl 26 _ rfl w.heap.size rfl _ _ _ _ H0.out.2.1 Tryz.underlying26 rfl (by kernel_rfl) ?_)
      | (go_at_call 56; (with_reducible refine HOK.out.mono ?_); rintro e w2 ⟨rfl, hb2⟩))
    go_ret
    exact ⟨rfl, below_then H0.out.1 hb2⟩
  · rcases hx with ⟨h9, _⟩ | ⟨hok, Q, M, U, hQ, hT, rfl⟩
    · exact absurd (hr.1 rfl) h9
    obtain rfl : nm = 49 := by rw [← hml]; exact hok.1.2.1
    obtain ⟨bm, om, rfl⟩ := Go.Proofs.YtmgeecdgebemdaaGreatDoor.mem.row_some H0.out.2.2.2.1 (by decide)
    have hql := Go.Proofs.YtmgeecdgebemdaaGreatDoor.rcv.RecIs.len hQ
    have hcc : ∀ c ∈ csts M, 1 ≤ c ∧ c ≤ 5 := fun c hc => by obtain ⟨m, hm, rfl⟩ := List.mem_map.1 hc; exact hT.cost.1 m hm
    obtain ⟨hMl, hUl⟩ := hT.size
    have hs := cost_sum hcc (by rw [csts_len]; omega)
    have hsb := sum_bounds (csts M) hcc
    rw [csts_len] at hsb
    obtain ⟨A, hA⟩ : ∃ A, costW (csts M) = A := ⟨_, rfl⟩
    rw [hA] at hs ⊢
    have hAr : 0 ≤ A ∧ A ≤ 100000 := by omega
    obtain ⟨X, hX⟩ : ∃ X, putAll Mem Q = X := ⟨_, rfl⟩
    have hXl : X.length = 49 := by rw [← hX, putAll_len]; exact hok.1.2.1
    have hX8 : i64r (X.getD 8 0) := by rw [← hX]; exact word8 (rec_mem hok.1 hQ).1
    have HRW := Lib.hid (show ∀ w', Below W.heap.size W w' → Calls Tryz.prog 57 #[.slice (some ⟨bm, om, none⟩) 49 cm] w' (NewWs w' Q) from fun w' hb => impl_recw w' _ 49 cm Mem (by decide) hcm (H0.out.2.2.2.1.below hb) h8 Q hQ)
    have HRC := Lib.hid (show ∀ w', Below W.heap.size W w' → Calls Tryz.prog 45 #[.slice (some ⟨bm, om, none⟩) 49 cm] w' (NewInts w' X) from fun w' hb => by rw [← hX]; exact impl_recovered w' _ 49 cm Mem (by decide) hcm (H0.out.2.2.2.1.below hb) h8 Q hQ)
    have HTR := Lib.hid (show ∀ w' ax cx, Below W.heap.size W w' → 49 ≤ cx ∧ Row w' ax 49 X → Calls Tryz.prog 29 #[.agg #[.slice a n cap], .slice ax 49 cx, .slice ar nr cr, .int .i64 z] w' (NewTrB w' true M U) from fun w' ax cx hb hrx => impl_traceof a n cap P hz hcap w' (H0.out.2.2.1.below hb) ax 49 cx X (by decide) hrx.1 hrx.2 ar nr cr R hnr hcr (H0.out.2.2.2.2.1.below hb) z true M U (by rw [← hX]; exact hT) hX8 (H0.out.2.2.2.2.2.below hb))
    have hMok : MicOk M := fun m hm => by have := hT.cost.1 m hm; exact ⟨by omega, by omega⟩
    have HTC := Lib.hid (show ∀ w' a1 n1 c1 a2 n2 c2, n1 ≤ c1 → TrRow w' a1 n1 a2 n2 M U → Calls Tryz.prog 40 #[trV a1 n1 c1 a2 n2 c2] w' (BelI w' A) from fun w' a1 n1 c1 a2 n2 c2 hc h9 => impl_tracecost w' a1 n1 c1 a2 n2 c2 M U hc h9 hMok A hA)
    have HSZ := Lib.hid (And.intro hMl hUl)
    have HXL := Lib.hid hXl
    obtain ⟨nq, hnq⟩ : ∃ nq, Q.length = nq := ⟨_, rfl⟩
    have HNQ := Lib.hid hnq
    rw [hnq] at hql ⊢
    have hw1 : IntKind.i64.wrap (3 * (nq : Int)) = 3 * (nq : Int) := IntWalk.i64_in _ (by omega)
    have hw2 : IntKind.i64.wrap (3 * (nq : Int) + A) = 3 * (nq : Int) + A := IntWalk.i64_in _ (by omega)
    clear hr hok hQ hT hcc hs hsb hMl hUl hXl hA hX hnq hX8 hMok
    go_enter Tryz.func14, Tryz.ntmps14
    go_wp2_with (first
      | (refine wpList_load_row rfl 26 _ rfl w.heap.size rfl _ _ _ _ H0.out.2.1 Tryz.underlying26 rfl (by kernel_rfl) ?_)
      | (go_at_call 56; (with_reducible refine HOK.out.mono ?_); rintro e w2 ⟨rfl, hb2⟩; refine Hid.out ?_))
    have H2 := Lib.hid (And.intro hb2 (H0.out.2.1.below hb2))
    have HRC := Lib.hid (show ∀ w', Below w2.heap.size w2 w' → Calls Tryz.prog 45 #[.slice (some ⟨bm, om, none⟩) 49 cm] w' (NewInts w' X) from fun w' hb => HRC.out w' (below_then H2.out.1 hb))
    have HTR := Lib.hid (show ∀ w' ax cx, Below w2.heap.size w2 w' → 49 ≤ cx ∧ Row w' ax 49 X → Calls Tryz.prog 29 #[.agg #[.slice a n cap], .slice ax 49 cx, .slice ar nr cr, .int .i64 z] w' (NewTrB w' true M U) from fun w' ax cx hb hrx => HTR.out w' ax cx (below_then H2.out.1 hb) hrx)
    have HD := Lib.hid (show Below w2.heap.size w2 w2.drew from Below.drew (Below.refl _ w2))
    have KEEP := Lib.hid (show ∀ w', Below w2.heap.size w2 w' → w'.cell? ⟨w.heap.size, 0, none⟩ = some (.slice a n cap) from fun w' hb => (H2.out.2.below hb).cell 0)
    clear hb2 HOK
    refine Lib.hid ?_
    go_wp2
    refine wp_region_held_drew (S := (fun w' => w'.cell? ⟨w.heap.size, 0, none⟩ = some (.slice a n cap))) (by kernel_rfl) (KEEP.out _ HD.out) (fun hHeld => ?_)
    obtain ⟨ya, hy0⟩ : ∃ z, w2.drew = z := ⟨_, rfl⟩
    have hba : Below w2.heap.size w2 ya := by rw [← hy0]; exact HD.out
    rw [hy0] at hHeld ⊢
    clear hy0
    refine wpAnyH_take (i := 0) (v := .agg #[.slice a n cap]) rfl (by kernel_rfl) (by kernel_rfl) (by kernel_rfl) (fun _ _ _ h => h) (Or.inl ⟨by rfl, (by intro w' hSw; (try dsimp only at hSw); go_simp)⟩) (by assumption) ?_
    try simp only [Act.put, List.getElem_toArray, List.getElem_cons_zero, List.setIfInBounds_toArray, List.set_cons_zero, List.set_cons_succ]
    refine wpAnyH_take (i := 1) (v := .slice (some ⟨bm, om, none⟩) 49 cm) rfl (by kernel_rfl) (by kernel_rfl) (by kernel_rfl) (fun _ _ _ h => h) (Or.inl ⟨by rfl, (by intro w' hSw; (try dsimp only at hSw); go_simp)⟩) (by assumption) ?_
    try simp only [Act.put, List.getElem_toArray, List.getElem_cons_zero, List.getElem_cons_succ, List.setIfInBounds_toArray, List.set_cons_zero, List.set_cons_succ]
    refine wpAnyH_take (i := 3) (v := .slice ar nr cr) rfl (by kernel_rfl) (by kernel_rfl) (by kernel_rfl) (fun _ _ _ h => h) (Or.inl ⟨by rfl, (by intro w' hSw; (try dsimp only at hSw); go_simp)⟩) (by assumption) ?_
    try simp only [Act.put, List.getElem_toArray, List.getElem_cons_zero, List.getElem_cons_succ, List.setIfInBounds_toArray, List.set_cons_zero, List.set_cons_succ]
    refine wpAnyH_take (i := 4) (v := .int .i64 z) rfl (by kernel_rfl) (by kernel_rfl) (by kernel_rfl) (fun _ _ _ h => h) (Or.inl ⟨by rfl, (by intro w' hSw; (try dsimp only at hSw); go_simp)⟩) (by assumption) ?_
    try simp only [Act.put, List.getElem_toArray, List.getElem_cons_zero, List.getElem_cons_succ, List.setIfInBounds_toArray, List.set_cons_zero, List.set_cons_succ]
    refine wpAnyH_ready (rs := [2, 9]) (by kernel_rfl) (by simp) ?_
    refine AllReadyH.cons rfl (fun K hK => ?_) ?_
    rw [if_pos (by kernel_rfl)]
    go_simp
    go_at_call 45
    refine (HRC.out ya hba).mono ?_
    rintro e y0 ⟨a0, n0, c0, rfl, hm0, hbc0⟩
    obtain rfl : n0 = 49 := by have h9 := own_len hm0; rw [HXL.out] at h9; exact h9.symm
    have hb0 : Below w2.heap.size w2 y0 := below_then hba hbc0
    have hr0 : 49 ≤ c0 ∧ Row y0 a0 49 X := ⟨mcapM hm0, Row.of_own hm0⟩
    refine hK.out _ _ (KEEP.out _ hb0) (fun hHeldA => ?_)
    clear hK K hHeld
    have hHeld := hHeldA
    clear hHeldA
    try simp only [Act.put, List.getElem_toArray, List.getElem_cons_zero, List.getElem_cons_succ, List.setIfInBounds_toArray, List.set_cons_zero, List.set_cons_succ]
    clear hm0 hbc0 hba ya
    refine wpAnyH_ready (rs := [5, 9]) (by kernel_rfl) (by simp) ?_
    refine AllReadyH.cons rfl (fun K hK => ?_) ?_
    rw [if_pos (by kernel_rfl)]
    go_simp
    go_at_call 29
    refine (HTR.out y0 a0 c0 hb0 hr0).mono ?_
    rintro e y1 ⟨e1, m1, k1, e2, m2, k2, rfl, hm, hbc⟩
    have hb1 : Below w2.heap.size w2 y1 := below_then hb0 hbc
    refine hK.out _ _ (KEEP.out _ hb1) (fun hHeld1 => ?_)
    clear hK K hHeld
    try simp only [Act.put, List.getElem_toArray, List.getElem_cons_zero, List.getElem_cons_succ, List.setIfInBounds_toArray, List.set_cons_zero, List.set_cons_succ]
    refine wpAnyH_take (i := 6) (v := .tuple #[trV e1 m1 k1 e2 m2 k2, .bool true]) rfl (by kernel_rfl) (by kernel_rfl) (by kernel_rfl) (fun _ _ _ h => h) (Or.inl ⟨by rfl, (by intro w' hSw; (try dsimp only at hSw); go_simp)⟩) (by assumption) ?_
    try simp only [Act.put, List.getElem_toArray, List.getElem_cons_zero, List.getElem_cons_succ, List.setIfInBounds_toArray, List.set_cons_zero, List.set_cons_succ]
    refine wpAnyH_take (i := 7) (v := trV e1 m1 k1 e2 m2 k2) rfl (by kernel_rfl) (by kernel_rfl) (by kernel_rfl) (fun _ _ _ h => h) (Or.inl ⟨by rfl, (by intro w' hSw; (try dsimp only at hSw); go_simp)⟩) (by assumption) ?_
    try simp only [Act.put, List.getElem_toArray, List.getElem_cons_zero, List.getElem_cons_succ, List.setIfInBounds_toArray, List.set_cons_zero, List.set_cons_succ]
    refine wpAnyH_take (i := 8) (v := .bool true) rfl (by kernel_rfl) (by kernel_rfl) (by kernel_rfl) (fun _ _ _ h => h) (Or.inl ⟨by rfl, (by intro w' hSw; (try dsimp only at hSw); go_simp)⟩) (by assumption) ?_
    try simp only [Act.put, List.getElem_toArray, List.getElem_cons_zero, List.getElem_cons_succ, List.setIfInBounds_toArray, List.set_cons_zero, List.set_cons_succ]
    refine wpAnyH_ready (rs := [9]) (by kernel_rfl) (by simp) ?_
    refine AllReadyH.cons rfl (fun K hK => ?_) AllReadyH.nil
    obtain ⟨yn, hyn⟩ : ∃ z, y1.alloc (.cells zero2T 54) = z := ⟨_, rfl⟩
    obtain ⟨gE, hgE⟩ : ∃ g, y1.heap.size = g := ⟨_, rfl⟩
    have hbn : Below w2.heap.size w2 yn := by rw [← hyn]; exact below_then hb1 (below_new _ _)
    have hEn : Box gE zero2T 54 yn := by rw [← hyn, ← hgE]; exact Box.new _ _ _
    have hEln : w2.heap.size ≤ gE := by rw [← hgE]; exact hb1.size
    have hVn := (hm.1.mono hb0.size).alloc (.cells zero2T 54)
    rw [hyn] at hVn
    have hSn := (hm.2.1.mono hb0.size).alloc (.cells zero2T 54)
    rw [hyn] at hSn
    have hapn := hm.2.2
    have hVEn := ne_own9 hm.1.lt (.inr (show y1.heap.size ≤ gE by omega))
    have hSEn := ne_own9 hm.2.1.lt (.inr (show y1.heap.size ≤ gE by omega))
    rw [if_pos (by kernel_rfl)]
    go_simp
    (try rw [hyn])
    (try rw [hgE])
    refine hK.out _ _ (KEEP.out _ hbn) (fun hHeldn => ?_)
    try simp only [Act.put, List.getElem_toArray, List.getElem_cons_zero, List.getElem_cons_succ, List.setIfInBounds_toArray, List.set_cons_zero, List.set_cons_succ]
    clear hK K hyn hgE hHeld1 hm hbc hb1 y1 hr0 hb0 y0
    revert hSEn
    revert hVEn
    revert hapn
    revert hSn
    revert hVn
    revert hEln
    revert hEn
    revert hbn
    revert hHeldn
    revert k2
    revert m2
    revert e2
    revert k1
    revert m1
    revert e1
    revert gE
    revert yn
    revert c0
    revert a0
    refine ?sto
    rotate_left
    refine AllReadyH.cons rfl (fun K hK => ?_) ?_
    obtain ⟨y1, hy1⟩ : ∃ z, y0.alloc (.cells zero2T 54) = z := ⟨_, rfl⟩
    obtain ⟨gE, hgE⟩ : ∃ g, y0.heap.size = g := ⟨_, rfl⟩
    have hb1 : Below w2.heap.size w2 y1 := by rw [← hy1]; exact below_then hb0 (below_new _ _)
    have hE1 : Box gE zero2T 54 y1 := by rw [← hy1, ← hgE]; exact Box.new _ _ _
    have hr1 : 49 ≤ c0 ∧ Row y1 a0 49 X := by rw [← hy1]; exact ⟨hr0.1, hr0.2.below (below_new _ _)⟩
    have hEln : w2.heap.size ≤ gE := by rw [← hgE]; exact hb0.size
    rw [if_pos (by kernel_rfl)]
    go_simp
    (try rw [hy1])
    (try rw [hgE])
    refine hK.out _ _ (KEEP.out _ hb1) (fun hHeld1 => ?_)
    try simp only [Act.put, List.getElem_toArray, List.getElem_cons_zero, List.getElem_cons_succ, List.setIfInBounds_toArray, List.set_cons_zero, List.set_cons_succ]
    clear hK K hy1 hgE hHeld
    refine wpAnyH_ready (rs := [5]) (by kernel_rfl) (by simp) ?_
    refine AllReadyH.cons rfl (fun K hK => ?_) AllReadyH.nil
    rw [if_pos (by kernel_rfl)]
    go_simp
    go_at_call 29
    refine (HTR.out y1 a0 c0 hb1 hr1).mono ?_
    rintro e yn ⟨e1, m1, k1, e2, m2, k2, rfl, hm, hbc⟩
    have hbn : Below w2.heap.size w2 yn := below_then hb1 hbc
    have hEn := hE1.below hbc
    have hVn := hm.1.mono hb1.size
    have hSn := hm.2.1.mono hb1.size
    have hapn := hm.2.2
    have hVEn := ne_own9 hm.1.lt (.inl hE1.lt)
    have hSEn := ne_own9 hm.2.1.lt (.inl hE1.lt)
    refine hK.out _ _ (KEEP.out _ hbn) (fun hHeldn => ?_)
    try simp only [Act.put, List.getElem_toArray, List.getElem_cons_zero, List.getElem_cons_succ, List.setIfInBounds_toArray, List.set_cons_zero, List.set_cons_succ]
    refine wpAnyH_take (i := 6) (v := .tuple #[trV e1 m1 k1 e2 m2 k2, .bool true]) rfl (by kernel_rfl) (by kernel_rfl) (by kernel_rfl) (fun _ _ _ h => h) (Or.inl ⟨by rfl, (by intro w' hSw; (try dsimp only at hSw); go_simp)⟩) (by assumption) ?_
    try simp only [Act.put, List.getElem_toArray, List.getElem_cons_zero, List.getElem_cons_succ, List.setIfInBounds_toArray, List.set_cons_zero, List.set_cons_succ]
    refine wpAnyH_take (i := 7) (v := trV e1 m1 k1 e2 m2 k2) rfl (by kernel_rfl) (by kernel_rfl) (by kernel_rfl) (fun _ _ _ h => h) (Or.inl ⟨by rfl, (by intro w' hSw; (try dsimp only at hSw); go_simp)⟩) (by assumption) ?_
    try simp only [Act.put, List.getElem_toArray, List.getElem_cons_zero, List.getElem_cons_succ, List.setIfInBounds_toArray, List.set_cons_zero, List.set_cons_succ]
    refine wpAnyH_take (i := 8) (v := .bool true) rfl (by kernel_rfl) (by kernel_rfl) (by kernel_rfl) (fun _ _ _ h => h) (Or.inl ⟨by rfl, (by intro w' hSw; (try dsimp only at hSw); go_simp)⟩) (by assumption) ?_
    try simp only [Act.put, List.getElem_toArray, List.getElem_cons_zero, List.getElem_cons_succ, List.setIfInBounds_toArray, List.set_cons_zero, List.set_cons_succ]
    clear hK K hHeld1 hm hbc hr1 hE1 hb1 y1 hr0 hb0 y0
    revert hSEn
    revert hVEn
    revert hapn
    revert hSn
    revert hVn
    revert hEln
    revert hEn
    revert hbn
    revert hHeldn
    revert k2
    revert m2
    revert e2
    revert k1
    revert m1
    revert e1
    revert gE
    revert yn
    revert c0
    revert a0
    refine ?sto
    exact AllReadyH.nil
    refine AllReadyH.cons rfl (fun K hK => ?_) AllReadyH.nil
    obtain ⟨y1, hy1⟩ : ∃ z, ya.alloc (.cells zero2T 54) = z := ⟨_, rfl⟩
    obtain ⟨gE, hgE⟩ : ∃ g, ya.heap.size = g := ⟨_, rfl⟩
    have hb1 : Below w2.heap.size w2 y1 := by rw [← hy1]; exact below_then hba (below_new _ _)
    have hE1 : Box gE zero2T 54 y1 := by rw [← hy1, ← hgE]; exact Box.new _ _ _
    have hEln : w2.heap.size ≤ gE := by rw [← hgE]; exact hba.size
    rw [if_pos (by kernel_rfl)]
    go_simp
    (try rw [hy1])
    (try rw [hgE])
    refine hK.out _ _ (KEEP.out _ hb1) (fun hHeld1 => ?_)
    try simp only [Act.put, List.getElem_toArray, List.getElem_cons_zero, List.getElem_cons_succ, List.setIfInBounds_toArray, List.set_cons_zero, List.set_cons_succ]
    clear hK K hy1 hgE hHeld hba ya
    refine wpAnyH_ready (rs := [2]) (by kernel_rfl) (by simp) ?_
    refine AllReadyH.cons rfl (fun K hK => ?_) AllReadyH.nil
    rw [if_pos (by kernel_rfl)]
    go_simp
    go_at_call 45
    refine (HRC.out y1 hb1).mono ?_
    rintro e y2 ⟨a0, n0, c0, rfl, hm0, hbc0⟩
    obtain rfl : n0 = 49 := by have h9 := own_len hm0; rw [HXL.out] at h9; exact h9.symm
    have hb2 : Below w2.heap.size w2 y2 := below_then hb1 hbc0
    have hr2 : 49 ≤ c0 ∧ Row y2 a0 49 X := ⟨mcapM hm0, Row.of_own hm0⟩
    have hE2 := hE1.below hbc0
    refine hK.out _ _ (KEEP.out _ hb2) (fun hHeld2 => ?_)
    clear hK K hHeld1 hm0 hbc0 hE1 hb1 y1
    try simp only [Act.put, List.getElem_toArray, List.getElem_cons_zero, List.getElem_cons_succ, List.setIfInBounds_toArray, List.set_cons_zero, List.set_cons_succ]
    refine wpAnyH_ready (rs := [5]) (by kernel_rfl) (by simp) ?_
    refine AllReadyH.cons rfl (fun K hK => ?_) AllReadyH.nil
    rw [if_pos (by kernel_rfl)]
    go_simp
    go_at_call 29
    refine (HTR.out y2 a0 c0 hb2 hr2).mono ?_
    rintro e yn ⟨e1, m1, k1, e2, m2, k2, rfl, hm, hbc⟩
    have hbn : Below w2.heap.size w2 yn := below_then hb2 hbc
    have hEn := hE2.below hbc
    have hVn := hm.1.mono hb2.size
    have hSn := hm.2.1.mono hb2.size
    have hapn := hm.2.2
    have hVEn := ne_own9 hm.1.lt (.inl hE2.lt)
    have hSEn := ne_own9 hm.2.1.lt (.inl hE2.lt)
    refine hK.out _ _ (KEEP.out _ hbn) (fun hHeldn => ?_)
    try simp only [Act.put, List.getElem_toArray, List.getElem_cons_zero, List.getElem_cons_succ, List.setIfInBounds_toArray, List.set_cons_zero, List.set_cons_succ]
    refine wpAnyH_take (i := 6) (v := .tuple #[trV e1 m1 k1 e2 m2 k2, .bool true]) rfl (by kernel_rfl) (by kernel_rfl) (by kernel_rfl) (fun _ _ _ h => h) (Or.inl ⟨by rfl, (by intro w' hSw; (try dsimp only at hSw); go_simp)⟩) (by assumption) ?_
    try simp only [Act.put, List.getElem_toArray, List.getElem_cons_zero, List.getElem_cons_succ, List.setIfInBounds_toArray, List.set_cons_zero, List.set_cons_succ]
    refine wpAnyH_take (i := 7) (v := trV e1 m1 k1 e2 m2 k2) rfl (by kernel_rfl) (by kernel_rfl) (by kernel_rfl) (fun _ _ _ h => h) (Or.inl ⟨by rfl, (by intro w' hSw; (try dsimp only at hSw); go_simp)⟩) (by assumption) ?_
    try simp only [Act.put, List.getElem_toArray, List.getElem_cons_zero, List.getElem_cons_succ, List.setIfInBounds_toArray, List.set_cons_zero, List.set_cons_succ]
    refine wpAnyH_take (i := 8) (v := .bool true) rfl (by kernel_rfl) (by kernel_rfl) (by kernel_rfl) (fun _ _ _ h => h) (Or.inl ⟨by rfl, (by intro w' hSw; (try dsimp only at hSw); go_simp)⟩) (by assumption) ?_
    try simp only [Act.put, List.getElem_toArray, List.getElem_cons_zero, List.getElem_cons_succ, List.setIfInBounds_toArray, List.set_cons_zero, List.set_cons_succ]
    clear hK K hHeld2 hm hbc hE2 hr2 hb2 y2
    revert hSEn
    revert hVEn
    revert hapn
    revert hSn
    revert hVn
    revert hEln
    revert hEn
    revert hbn
    revert hHeldn
    revert k2
    revert m2
    revert e2
    revert k1
    revert m1
    revert e1
    revert gE
    revert yn
    revert c0
    revert a0
    refine ?sto
    intro a0 c0 y gE e1 m1 k1 e2 m2 k2 hHeld hb hE hEl hV hS hap hVE hSE
    refine wpAnyH_ready (rs := [10]) (by kernel_rfl) (by simp) ?_
    refine AllReadyH.cons rfl (fun K hK => ?_) AllReadyH.nil
    have z0 : y.cell? ⟨gE, 0, none⟩ = some (.slice none 0 0) := hE.cell 0
    have f0 : y.frozen? ⟨gE, 0, none⟩ = false := hE.frozen 0
    have z1 : y.cell? ⟨gE, 1, none⟩ = some (.slice none 0 0) := hE.cell 1
    have f1 : y.frozen? ⟨gE, 1, none⟩ = false := hE.frozen 1
    have hgs : y.grownBy ((y.setCell ⟨gE, 0, none⟩ (.slice e1 m1 k1)).setCell ⟨gE, 1, none⟩ (.slice e2 m2 k2)) (some gE) := grown_trans (grown_setCell _ _ _ _) (grown_setCell _ _ _ _)
    have hx : Box gE #[.slice e1 m1 k1, .slice e2 m2 k2] 54 ((y.setCell ⟨gE, 0, none⟩ (.slice e1 m1 k1)).setCell ⟨gE, 1, none⟩ (.slice e2 m2 k2)) := (hE.set 0 _).set 1 _
    obtain ⟨yn, hyn⟩ : ∃ z, ((y.setCell ⟨gE, 0, none⟩ (.slice e1 m1 k1)).setCell ⟨gE, 1, none⟩ (.slice e2 m2 k2)) = z := ⟨_, rfl⟩
    rw [hyn] at hgs hx
    have hbn : Below w2.heap.size w2 yn := hb.grown hgs hb.size (fun q hq => by cases hq; exact hEl)
    have hVn := hV.kept hgs hVE
    have hSn := hS.kept hgs hSE
    rw [if_pos (by kernel_rfl)]
    go_simp
    (try rw [hyn])
    refine hK.out _ _ (KEEP.out _ hbn) (fun hHeldn => ?_)
    clear hK K hyn z0 z1 f0 f1 hHeld
    try simp only [Act.put, List.getElem_toArray, List.getElem_cons_zero, List.getElem_cons_succ, List.setIfInBounds_toArray, List.set_cons_zero, List.set_cons_succ]
    refine wpAnyH_take (i := 11) (v := .bool true) rfl (by kernel_rfl) (by kernel_rfl) (by kernel_rfl) (fun _ _ _ h => h) (Or.inl ⟨by rfl, (by intro w' hSw; (try dsimp only at hSw); go_simp)⟩) (by assumption) ?_
    try simp only [Act.put, List.getElem_toArray, List.getElem_cons_zero, List.getElem_cons_succ, List.setIfInBounds_toArray, List.set_cons_zero, List.set_cons_succ]
    refine wpAnyH_done (by kernel_rfl) ?_ _
    clear hHeldn hgs hE hV hS hb
    have hMl2 : M.length = m1 := by have h9 := hVn.1; rw [microsC_len] at h9; omega
    have hUl2 : U.length = m2 := own_len hSn
    have hcM : m1 ≤ k1 := mcapM hVn
    have H4 := Lib.hid (And.intro (below_then H2.out.1 hbn) hx)
    have HTY := Lib.hid (show TrRow yn e1 m1 e2 m2 M U from ⟨mrowB hVn, Row.of_own hSn, by have := HSZ.out; omega, by have := HSZ.out; omega⟩)
    have HD2 := Lib.hid (show Below yn.heap.size yn yn.drew from Below.drew (Below.refl _ yn))
    have KEEP2 := Lib.hid (show ∀ w', Below yn.heap.size yn w' → w'.cell? ⟨gE, 0, none⟩ = some (.slice e1 m1 k1) ∧ w'.cell? ⟨gE, 1, none⟩ = some (.slice e2 m2 k2) from fun w' hb => ⟨(hx.below hb).cell 0, (hx.below hb).cell 1⟩)
    clear hbn hx hVn hSn hap hVE hSE hEl HD KEEP HTR HRC
    refine Lib.hid ?_
    go_wp2
    refine wp_region_held_drew (S := (fun w' => w'.cell? ⟨gE, 0, none⟩ = some (.slice e1 m1 k1) ∧ w'.cell? ⟨gE, 1, none⟩ = some (.slice e2 m2 k2))) (by kernel_rfl) (KEEP2.out _ HD2.out) (fun hHeld => ?_)
    obtain ⟨z0, hz0⟩ : ∃ z, yn.drew = z := ⟨_, rfl⟩
    have hc0 : Below yn.heap.size yn z0 := by rw [← hz0]; exact HD2.out
    rw [hz0] at hHeld ⊢
    clear hz0
    refine wpAnyH_take (i := 0) (v := .slice (some ⟨bm, om, none⟩) 49 cm) rfl (by kernel_rfl) (by kernel_rfl) (by kernel_rfl) (fun _ _ _ h => h) (Or.inl ⟨by rfl, (by intro w' hSw; (try dsimp only at hSw); go_simp)⟩) (by assumption) ?_
    try simp only [Act.put, List.getElem_toArray, List.getElem_cons_zero, List.setIfInBounds_toArray, List.set_cons_zero, List.set_cons_succ]
    refine wpAnyH_take (i := 4) (v := trV e1 m1 k1 e2 m2 k2) rfl (by kernel_rfl) (by kernel_rfl) (by kernel_rfl) (fun _ _ _ h => h) (Or.inl ⟨by rfl, (by intro w' hSw; (try dsimp only at hSw); go_simp)⟩) (by assumption) ?_
    try simp only [Act.put, List.getElem_toArray, List.getElem_cons_zero, List.getElem_cons_succ, List.setIfInBounds_toArray, List.set_cons_zero, List.set_cons_succ]
    refine wpAnyH_ready (rs := [1]) (by kernel_rfl) (by simp) ?_
    refine AllReadyH.cons rfl (fun K hK => ?_) AllReadyH.nil
    rw [if_pos (by kernel_rfl)]
    go_simp
    go_at_call 57
    refine (HRW.out z0 (below_then H4.out.1 hc0)).mono ?_
    rintro e z1 ⟨aq, nq9, cq, rfl, hoq, hbc⟩
    obtain rfl : nq9 = nq := by have h9 := hoq.1; rw [writesC_len] at h9; have := HNQ.out; omega
    have hc1 : Below yn.heap.size yn z1 := below_then hc0 hbc
    refine hK.out _ _ (KEEP2.out _ hc1) (fun hHeld1 => ?_)
    clear hK K hHeld hoq hbc hc0 z0
    have hHeld := hHeld1
    clear hHeld1
    try simp only [Act.put, List.getElem_toArray, List.getElem_cons_zero, List.getElem_cons_succ, List.setIfInBounds_toArray, List.set_cons_zero, List.set_cons_succ]
    refine wpAnyH_take (i := 2) (v := .int .i64 nq9) rfl (by kernel_rfl) (by kernel_rfl) (by kernel_rfl) (fun _ _ _ h => h) (Or.inl ⟨by rfl, (by intro w' hSw; (try dsimp only at hSw); go_simp)⟩) (by assumption) ?_
    try simp only [Act.put, List.getElem_toArray, List.getElem_cons_zero, List.getElem_cons_succ, List.setIfInBounds_toArray, List.set_cons_zero, List.set_cons_succ]
    refine wpAnyH_take (i := 3) (v := .int .i64 (3 * (nq9 : Int))) rfl (by kernel_rfl) (by kernel_rfl) (by kernel_rfl) (fun _ _ _ h => h) (Or.inl ⟨by rfl, (by intro w' hSw; (try dsimp only at hSw); go_simp)⟩) (by assumption) ?_
    try simp only [Act.put, List.getElem_toArray, List.getElem_cons_zero, List.getElem_cons_succ, List.setIfInBounds_toArray, List.set_cons_zero, List.set_cons_succ]
    refine wpAnyH_ready (rs := [5]) (by kernel_rfl) (by simp) ?_
    refine AllReadyH.cons rfl (fun K hK => ?_) AllReadyH.nil
    rw [if_pos (by kernel_rfl)]
    go_simp
    go_at_call 40
    refine (HTC.out z1 e1 m1 k1 e2 m2 k2 hcM (HTY.out.below hc1)).mono ?_
    rintro e z2 ⟨rfl, hbc⟩
    have hc2 : Below yn.heap.size yn z2 := below_then hc1 hbc
    refine hK.out _ _ (KEEP2.out _ hc2) (fun hHeld1 => ?_)
    clear hK K hHeld hbc hc1 z1
    have hHeld := hHeld1
    clear hHeld1
    try simp only [Act.put, List.getElem_toArray, List.getElem_cons_zero, List.getElem_cons_succ, List.setIfInBounds_toArray, List.set_cons_zero, List.set_cons_succ]
    refine wpAnyH_take (i := 6) (v := .int .i64 (3 * (nq9 : Int) + A)) rfl (by kernel_rfl) (by kernel_rfl) (by kernel_rfl) (fun _ _ _ h => h) (Or.inl ⟨by rfl, (by intro w' hSw; (try dsimp only at hSw); go_simp)⟩) (by assumption) ?_
    try simp only [Act.put, List.getElem_toArray, List.getElem_cons_zero, List.getElem_cons_succ, List.setIfInBounds_toArray, List.set_cons_zero, List.set_cons_succ]
    refine wpAnyH_take (i := 7) (v := .int .i64 (3 * (nq9 : Int) + A)) rfl (by kernel_rfl) (by kernel_rfl) (by kernel_rfl) (fun _ _ _ h => h) (Or.inl ⟨by rfl, (by intro w' hSw; (try dsimp only at hSw); go_simp)⟩) (by assumption) ?_
    try simp only [Act.put, List.getElem_toArray, List.getElem_cons_zero, List.getElem_cons_succ, List.setIfInBounds_toArray, List.set_cons_zero, List.set_cons_succ]
    refine wpAnyH_done (by kernel_rfl) ?_ _
    have HFN := Lib.hid (below_then H0.out.1 (below_then H4.out.1 hc2))
    clear hc2 hHeld
    refine Lib.hid ?_
    go_wp2
    go_ret
    exact ⟨rfl, HFN.out⟩
end Go.Proofs.YtmgeecdgebemdaaGreatDoor.bot
