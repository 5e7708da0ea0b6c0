/- Several texts in one: QBotY. -/
import Derived.Test.YtmgeecdgebemdaaGreatDoorGSigQ25
import Derived.Test.YtmgeecdgebemdaaGreatDoorGSigQ31
import Derived.Test.YtmgeecdgebemdaaGreatDoorGSigQ41
import Derived.Deep.RegionLaw
import Derived.Deep.RegionHeld3

/- Chapter 16 of the program: a task of a boot: its trace is performed step by step; nothing else that was there is written. -/
namespace Go.Proofs.YtmgeecdgebemdaaGreatDoor.bot
open Go Go.ChangeShapes Go.WideShapes Go.ChangeAt Go.RowKit Go.Proofs.YtmgeecdgebemdaaGreatDoor.row Go.Proofs.YtmgeecdgebemdaaGreatDoor.val Go.Proofs.YtmgeecdgebemdaaGreatDoor.expr Go.Proofs.YtmgeecdgebemdaaGreatDoor.stm Go.Proofs.YtmgeecdgebemdaaGreatDoor.blk Go.Proofs.YtmgeecdgebemdaaGreatDoor.prg Go.Proofs.YtmgeecdgebemdaaGreatDoor.exe Go.Proofs.YtmgeecdgebemdaaGreatDoor.ctl Go.Proofs.YtmgeecdgebemdaaGreatDoor.mem Go.Proofs.YtmgeecdgebemdaaGreatDoor.grow Go.Proofs.YtmgeecdgebemdaaGreatDoor.wrt Go.Proofs.YtmgeecdgebemdaaGreatDoor.trc Go.Proofs.YtmgeecdgebemdaaGreatDoor.cst
theorem cntC_lt {e : Int} : ∀ (C : List Int) (a : Int) (j : Nat) (c : Int), j < cntC e a C → C[j]? = some c → a + (C.take j).sum + c ≤ e
  | [], _, _, _, h, _ => by simp [cntC] at h
  | c0 :: C, a, j, c, h, hc => by
    unfold cntC at h
    by_cases h1 : a + c0 ≤ e
    · rw [if_pos h1] at h
      cases j with
      | zero => simp at hc; subst hc; simpa using h1
      | succ j =>
        rw [List.getElem?_cons_succ] at hc
        have := cntC_lt (e := e) C (a + c0) j c (by omega) hc
        rw [List.take_succ_cons, List.sum_cons]; omega
    · rw [if_neg h1] at h; omega
theorem cntC_at {e : Int} : ∀ (C : List Int) (a : Int) (c : Int), C[cntC e a C]? = some c → e < a + (C.take (cntC e a C)).sum + c
  | [], _, _, h => by simp at h
  | c0 :: C, a, c, h => by
    unfold cntC at h ⊢
    by_cases h1 : a + c0 ≤ e
    · rw [if_pos h1] at h ⊢
      rw [List.getElem?_cons_succ] at h
      have := cntC_at C (a + c0) c h
      rw [List.take_succ_cons, List.sum_cons]; omega
    · rw [if_neg h1] at h ⊢
      simp at h; subst h; simp; omega
theorem cnt_ok {M : List Mic} {e : Int} (he : 0 ≤ e) {j : Nat} {m : Mic} (h : j < cntE (csts M) e) (hm : M[j]? = some m) : m.c ≤ e - (csts (M.take j)).sum := by
  unfold cntE at h
  rw [if_neg (by omega)] at h
  have h1 := cntC_lt (csts M) 0 j m.c h (by unfold csts; rw [List.getElem?_map, hm]; rfl)
  rw [show csts (M.take j) = (csts M).take j by unfold csts; rw [List.map_take]]
  omega
theorem cnt_no {M : List Mic} {e : Int} (he : 0 ≤ e) {j : Nat} {m : Mic} (h : cntE (csts M) e = j) (hm : M[j]? = some m) : e - (csts (M.take j)).sum < m.c := by
  unfold cntE at h
  rw [if_neg (by omega)] at h
  have h1 := cntC_at (e := e) (csts M) 0 m.c (by rw [h]; unfold csts; rw [List.getElem?_map, hm]; rfl)
  rw [h] at h1
  rw [show csts (M.take j) = (csts M).take j by unfold csts; rw [List.map_take]]
  omega
theorem stepB_zero (s : Bt) (M : List Mic) : stepB s M 0 = s := by
  show (⟨putAll s.W (wrs (M.take 0)), s.z + (snsN (M.take 0) : Nat), s.U, s.e - (csts (M.take 0)).sum⟩ : Bt) = s
  simp [wrs, csts, snsN, putAll]
theorem stepB_all (s : Bt) (M : List Mic) (U : List Int) {j : Nat} (h : j = M.length) : nextB s M U = ⟨(stepB s M j).W, (stepB s M j).z, (stepB s M j).U ++ [U], (stepB s M j).e⟩ := by
  subst h
  unfold nextB stepB
  rw [List.take_length]
theorem ne_own9 {v : Value} {a b g : Nat} (h : ∀ q, v.ownBlock = some q → a ≤ q ∧ q < b) (hg : g < a ∨ b ≤ g) : v.ownBlock = none ∨ v.ownBlock ≠ some g := by
  cases hq : v.ownBlock with
  | none => exact .inl rfl
  | some q => right; intro e; have := h q hq; have := Option.some.inj e; omega
/-- What a task of a boot must give. -/
def CompR (w0 : World) (gb gm lu cm : Nat) (au : Option Addr) (nu cu : Nat) (CS : List Value) (s : Bt) (M : List Mic) (U : List Int) (w : World) (e : Ending) (w' : World) : Prop :=
  ((e = .returned (.tuple #[]) ∧ cntE (csts M) s.e = M.length ∧ ∃ au' cu' CS', Hid (BAt w0 gb gm lu cm au' (nu + 1) cu' CS' (nextB s M U) w')) ∨ (e = .panicked [{ v := PF, recovered := false }] ∧ cntE (csts M) s.e < M.length ∧ Hid (BAt w0 gb gm lu cm au nu cu CS (stepB s M (cntE (csts M) s.e)) w'))) ∧ Hid (Kp lu gb gm w w')
set_option maxHeartbeats 8000000 in
set_option maxRecDepth 100000 in
theorem impl_complete (w0 : World) (gb gm lu cm : Nat) (au : Option Addr) (nu cu : Nat) (CS : List Value) (s : Bt) (w : World) (h : BAt w0 gb gm lu cm au nu cu CS s w) (a : Option Addr) (n cap : Nat) (P : List Tk) (hz : Sizes P) (hcap : n ≤ cap) (hP : TkRow w a n P) (ar : Option Addr) (nr cr : Nat) (R : List Int) (hnr : (nr : Int) ≤ 1048576) (hcr : nr ≤ cr) (hR : Row w ar nr R) (hCT : CostTab w)
    (h8 : i64r (s.W.getD 8 0)) (M : List Mic) (U : List Int) (hT : TraceIs P s.W R s.z true M U) (hl : s.W.length = 49) (her : 0 ≤ s.e ∧ s.e ≤ 100000) (hzr : 0 ≤ s.z ∧ s.z ≤ 984998) (hnu : nu ≤ 10) :
    Calls Tryz.prog 121 #[.pointer (some ⟨gb, 0, none⟩), .agg #[.slice a n cap], .slice ar nr cr] w (CompR w0 gb gm lu cm au nu cu CS s M U w) := by
  obtain ⟨K, hK⟩ : ∃ K, cntE (csts M) s.e = K := ⟨_, rfl⟩
  have hKM : K ≤ M.length := by rw [← hK]; exact cntE_le M s.e
  obtain ⟨z, hzz⟩ : ∃ z, s.z = z := ⟨_, rfl⟩
  obtain ⟨W, hW⟩ : ∃ W, w.alloc (.cells #[.slice a n cap] 26) = W := ⟨_, rfl⟩
  have hBW : Below w.heap.size w W := by rw [← hW]; exact below_new w _
  have hpx : Box w.heap.size #[.slice a n cap] 26 W := by rw [← hW]; exact Box.new w _ _
  have hgb : gb < w.heap.size := h.1.lt
  have hgm : gm < w.heap.size := by have := h.2.1; omega
  have hlu : lu ≤ w.heap.size := h.2.1.2.2.2.2.2.1
  have hne : gb ≠ gm := h.2.1.2.2.1
  have hsz := hT.size
  have HM := Lib.hid (And.intro hT.cost.1 (And.intro (trace_adr hT) (And.intro hK (And.intro hsz hl))))
  have H0 := Lib.hid (And.intro (h.below hBW) (And.intro hpx (And.intro hBW h.used_lt)))
  have HTR := Lib.hid (show ∀ w', Below W.heap.size W w' → Calls Tryz.prog 29 #[.agg #[.slice a n cap], .slice (some ⟨gm, 0, none⟩) 49 cm, .slice ar nr cr, .int .i64 z] w' (NewTrB w' true M U) from fun w' hb => by
    have hb9 := below_then hBW hb
    rw [← hzz]
    exact impl_traceof a n cap P hz hcap w' (hP.below hb9) (some ⟨gm, 0, none⟩) 49 cm s.W (by decide) h.2.1.2.2.2.2.2.2 (Row.of_own (h.below hb9).2.2.1) ar nr cr R hnr hcr (hR.below hb9) s.z true M U hT h8 (hCT.below hb9))
  have HD := Lib.hid (show Below W.heap.size W W.drew from Below.drew (Below.refl _ W))
  have KEEP := Lib.hid (show ∀ w', Below W.heap.size W w' → w'.cell? ⟨w.heap.size, 0, none⟩ = some (.slice a n cap) ∧ w'.cell? ⟨gb, 0, none⟩ = some (.slice (some ⟨gm, 0, none⟩) 49 cm) ∧ w'.cell? ⟨gb, 1, none⟩ = some (.int .i64 z) from fun w' hb => ⟨(hpx.below hb).cell 0, ((h.below hBW).below hb).1.cell 0, by rw [← hzz]; exact ((h.below hBW).below hb).1.cell 1⟩)
  have hWs : W.heap.size = w.heap.size + 1 := by rw [← hW]; simp
  clear h hP hR hCT hT hBW hpx hsz hz hcap hnr hcr h8 hl
  go_enter Tryz.func121, Tryz.ntmps121
  go_wp2
  refine wp_region_held_drew (S := (fun w' => w'.cell? ⟨w.heap.size, 0, none⟩ = some (.slice a n cap) ∧ w'.cell? ⟨gb, 0, none⟩ = some (.slice (some ⟨gm, 0, none⟩) 49 cm) ∧ w'.cell? ⟨gb, 1, none⟩ = some (.int .i64 z))) (by kernel_rfl) (KEEP.out _ HD.out) (fun hHeld => ?_)
  obtain ⟨y0, hy0⟩ : ∃ z, W.drew = z := ⟨_, rfl⟩
  have hb0 : Below W.heap.size W y0 := by rw [← hy0]; exact HD.out
  rw [hy0] at hHeld ⊢
  clear hy0
  refine wpAnyH_take (i := 0) (v := .agg #[.slice a n cap]) rfl (by kernel_rfl) (by kernel_rfl) (by kernel_rfl) (fun _ _ _ h => h) (Or.inl ⟨by rfl, (by intro w' hSw; (try dsimp only at hSw); go_simp)⟩) (by assumption) ?_
  try simp only [Act.put, List.getElem_toArray, List.getElem_cons_zero, List.setIfInBounds_toArray, List.set_cons_zero, List.set_cons_succ]
  refine wpAnyH_take (i := 1) (v := .pointer (some ⟨gb, 0, none⟩)) rfl (by kernel_rfl) (by kernel_rfl) (by kernel_rfl) (fun _ _ _ h => h) (Or.inl ⟨by rfl, (by intro w' hSw; (try dsimp only at hSw); go_simp)⟩) (by assumption) ?_
  try simp only [Act.put, List.getElem_toArray, List.getElem_cons_zero, List.getElem_cons_succ, List.setIfInBounds_toArray, List.set_cons_zero, List.set_cons_succ]
  refine wpAnyH_take (i := 2) (v := .pointer (some ⟨gb, 0, none⟩)) rfl (by kernel_rfl) (by kernel_rfl) (by kernel_rfl) (fun _ _ _ h => h) (Or.inl ⟨by rfl, (by intro w' hSw; (try dsimp only at hSw); go_simp)⟩) (by assumption) ?_
  try simp only [Act.put, List.getElem_toArray, List.getElem_cons_zero, List.getElem_cons_succ, List.setIfInBounds_toArray, List.set_cons_zero, List.set_cons_succ]
  refine wpAnyH_take (i := 3) (v := .pointer (some ⟨gb, 0, none⟩)) rfl (by kernel_rfl) (by kernel_rfl) (by kernel_rfl) (fun _ _ _ h => h) (Or.inl ⟨by rfl, (by intro w' hSw; (try dsimp only at hSw); go_simp)⟩) (by assumption) ?_
  try simp only [Act.put, List.getElem_toArray, List.getElem_cons_zero, List.getElem_cons_succ, List.setIfInBounds_toArray, List.set_cons_zero, List.set_cons_succ]
  refine wpAnyH_take (i := 4) (v := .slice (some ⟨gm, 0, none⟩) 49 cm) rfl (by kernel_rfl) (by kernel_rfl) (by kernel_rfl) (fun _ _ _ h => h) (Or.inl ⟨by rfl, (by intro w' hSw; (try dsimp only at hSw); go_simp)⟩) (by assumption) ?_
  try simp only [Act.put, List.getElem_toArray, List.getElem_cons_zero, List.getElem_cons_succ, List.setIfInBounds_toArray, List.set_cons_zero, List.set_cons_succ]
  refine wpAnyH_take (i := 5) (v := .slice ar nr cr) rfl (by kernel_rfl) (by kernel_rfl) (by kernel_rfl) (fun _ _ _ h => h) (Or.inl ⟨by rfl, (by intro w' hSw; (try dsimp only at hSw); go_simp)⟩) (by assumption) ?_
  try simp only [Act.put, List.getElem_toArray, List.getElem_cons_zero, List.getElem_cons_succ, List.setIfInBounds_toArray, List.set_cons_zero, List.set_cons_succ]
  refine wpAnyH_take (i := 6) (v := .pointer (some ⟨gb, 0, none⟩)) rfl (by kernel_rfl) (by kernel_rfl) (by kernel_rfl) (fun _ _ _ h => h) (Or.inl ⟨by rfl, (by intro w' hSw; (try dsimp only at hSw); go_simp)⟩) (by assumption) ?_
  try simp only [Act.put, List.getElem_toArray, List.getElem_cons_zero, List.getElem_cons_succ, List.setIfInBounds_toArray, List.set_cons_zero, List.set_cons_succ]
  refine wpAnyH_take (i := 7) (v := .pointer (some ⟨gb, 0, none⟩)) rfl (by kernel_rfl) (by kernel_rfl) (by kernel_rfl) (fun _ _ _ h => h) (Or.inl ⟨by rfl, (by intro w' hSw; (try dsimp only at hSw); go_simp)⟩) (by assumption) ?_
  try simp only [Act.put, List.getElem_toArray, List.getElem_cons_zero, List.getElem_cons_succ, List.setIfInBounds_toArray, List.set_cons_zero, List.set_cons_succ]
  refine wpAnyH_take (i := 8) (v := .pointer (some ⟨gb, 1, none⟩)) rfl (by kernel_rfl) (by kernel_rfl) (by kernel_rfl) (fun _ _ _ h => h) (Or.inl ⟨by rfl, (by intro w' hSw; (try dsimp only at hSw); go_simp)⟩) (by assumption) ?_
  try simp only [Act.put, List.getElem_toArray, List.getElem_cons_zero, List.getElem_cons_succ, List.setIfInBounds_toArray, List.set_cons_zero, List.set_cons_succ]
  refine wpAnyH_take (i := 9) (v := .int .i64 z) rfl (by kernel_rfl) (by kernel_rfl) (by kernel_rfl) (fun _ _ _ h => h) (Or.inl ⟨by rfl, (by intro w' hSw; (try dsimp only at hSw); go_simp)⟩) (by assumption) ?_
  try simp only [Act.put, List.getElem_toArray, List.getElem_cons_zero, List.getElem_cons_succ, List.setIfInBounds_toArray, List.set_cons_zero, List.set_cons_succ]
  refine wpAnyH_ready (rs := [10, 14]) (by kernel_rfl) (by simp) ?_
  refine AllReadyH.cons rfl (fun K hK => ?_) ?_
  rw [if_pos (by kernel_rfl)]
  go_simp
  go_at_call 29
  refine (HTR.out y0 hb0).mono ?_
  rintro e y1 ⟨e1, m1, k1, e2, m2, k2, rfl, hm, hbc⟩
  have hb1 : Below W.heap.size W y1 := below_then hb0 hbc
  refine hK.out _ _ (KEEP.out _ hb1) (fun hHeld1 => ?_)
  clear hK K hHeld
  try simp only [Act.put, List.getElem_toArray, List.getElem_cons_zero, List.getElem_cons_succ, List.setIfInBounds_toArray, List.set_cons_zero, List.set_cons_succ]
  refine wpAnyH_take (i := 11) (v := .tuple #[trV e1 m1 k1 e2 m2 k2, .bool true]) rfl (by kernel_rfl) (by kernel_rfl) (by kernel_rfl) (fun _ _ _ h => h) (Or.inl ⟨by rfl, (by intro w' hSw; (try dsimp only at hSw); go_simp)⟩) (by assumption) ?_
  try simp only [Act.put, List.getElem_toArray, List.getElem_cons_zero, List.getElem_cons_succ, List.setIfInBounds_toArray, List.set_cons_zero, List.set_cons_succ]
  refine wpAnyH_take (i := 12) (v := trV e1 m1 k1 e2 m2 k2) rfl (by kernel_rfl) (by kernel_rfl) (by kernel_rfl) (fun _ _ _ h => h) (Or.inl ⟨by rfl, (by intro w' hSw; (try dsimp only at hSw); go_simp)⟩) (by assumption) ?_
  try simp only [Act.put, List.getElem_toArray, List.getElem_cons_zero, List.getElem_cons_succ, List.setIfInBounds_toArray, List.set_cons_zero, List.set_cons_succ]
  refine wpAnyH_take (i := 13) (v := .bool true) rfl (by kernel_rfl) (by kernel_rfl) (by kernel_rfl) (fun _ _ _ h => h) (Or.inl ⟨by rfl, (by intro w' hSw; (try dsimp only at hSw); go_simp)⟩) (by assumption) ?_
  try simp only [Act.put, List.getElem_toArray, List.getElem_cons_zero, List.getElem_cons_succ, List.setIfInBounds_toArray, List.set_cons_zero, List.set_cons_succ]
  refine wpAnyH_ready (rs := [14]) (by kernel_rfl) (by simp) ?_
  refine AllReadyH.cons rfl (fun K hK => ?_) AllReadyH.nil
  obtain ⟨yn, hyn⟩ : ∃ z, y1.alloc (.cells zero2T 54) = z := ⟨_, rfl⟩
  obtain ⟨gE, hgE⟩ : ∃ g, y1.heap.size = g := ⟨_, rfl⟩
  have hbn : Below W.heap.size W yn := by rw [← hyn]; exact below_then hb1 (below_new _ _)
  have hEn : Box gE zero2T 54 yn := by rw [← hyn, ← hgE]; exact Box.new _ _ _
  have hEln : W.heap.size ≤ gE := by rw [← hgE]; exact hb1.size
  have hVn := (hm.1.mono hb0.size).alloc (.cells zero2T 54)
  rw [hyn] at hVn
  have hSn := (hm.2.1.mono hb0.size).alloc (.cells zero2T 54)
  rw [hyn] at hSn
  have hapn := hm.2.2
  have hVEn := ne_own9 hm.1.lt (.inr (show y1.heap.size ≤ gE by omega))
  have hSEn := ne_own9 hm.2.1.lt (.inr (show y1.heap.size ≤ gE by omega))
  rw [if_pos (by kernel_rfl)]
  go_simp
  (try rw [hyn])
  (try rw [hgE])
  refine hK.out _ _ (KEEP.out _ hbn) (fun hHeldn => ?_)
  try simp only [Act.put, List.getElem_toArray, List.getElem_cons_zero, List.getElem_cons_succ, List.setIfInBounds_toArray, List.set_cons_zero, List.set_cons_succ]
  clear hK K hyn hgE hHeld1 hm hbc hb1 y1 hb0 y0
  revert hSEn
  revert hVEn
  revert hapn
  revert hSn
  revert hVn
  revert hEln
  revert hEn
  revert hbn
  revert hHeldn
  revert k2
  revert m2
  revert e2
  revert k1
  revert m1
  revert e1
  revert gE
  revert yn
  refine ?sto
  rotate_left
  refine AllReadyH.cons rfl (fun K hK => ?_) ?_
  obtain ⟨y1, hy1⟩ : ∃ z, y0.alloc (.cells zero2T 54) = z := ⟨_, rfl⟩
  obtain ⟨gE, hgE⟩ : ∃ g, y0.heap.size = g := ⟨_, rfl⟩
  have hb1 : Below W.heap.size W y1 := by rw [← hy1]; exact below_then hb0 (below_new _ _)
  have hE1 : Box gE zero2T 54 y1 := by rw [← hy1, ← hgE]; exact Box.new _ _ _
  have hEln : W.heap.size ≤ gE := by rw [← hgE]; exact hb0.size
  rw [if_pos (by kernel_rfl)]
  go_simp
  (try rw [hy1])
  (try rw [hgE])
  refine hK.out _ _ (KEEP.out _ hb1) (fun hHeld1 => ?_)
  try simp only [Act.put, List.getElem_toArray, List.getElem_cons_zero, List.getElem_cons_succ, List.setIfInBounds_toArray, List.set_cons_zero, List.set_cons_succ]
  clear hK K hy1 hgE hHeld
  refine wpAnyH_ready (rs := [10]) (by kernel_rfl) (by simp) ?_
  refine AllReadyH.cons rfl (fun K hK => ?_) AllReadyH.nil
  rw [if_pos (by kernel_rfl)]
  go_simp
  go_at_call 29
  refine (HTR.out y1 hb1).mono ?_
  rintro e yn ⟨e1, m1, k1, e2, m2, k2, rfl, hm, hbc⟩
  have hbn : Below W.heap.size W yn := below_then hb1 hbc
  have hEn := hE1.below hbc
  have hVn := hm.1.mono hb1.size
  have hSn := hm.2.1.mono hb1.size
  have hapn := hm.2.2
  have hVEn := ne_own9 hm.1.lt (.inl hE1.lt)
  have hSEn := ne_own9 hm.2.1.lt (.inl hE1.lt)
  refine hK.out _ _ (KEEP.out _ hbn) (fun hHeldn => ?_)
  try simp only [Act.put, List.getElem_toArray, List.getElem_cons_zero, List.getElem_cons_succ, List.setIfInBounds_toArray, List.set_cons_zero, List.set_cons_succ]
  refine wpAnyH_take (i := 11) (v := .tuple #[trV e1 m1 k1 e2 m2 k2, .bool true]) rfl (by kernel_rfl) (by kernel_rfl) (by kernel_rfl) (fun _ _ _ h => h) (Or.inl ⟨by rfl, (by intro w' hSw; (try dsimp only at hSw); go_simp)⟩) (by assumption) ?_
  try simp only [Act.put, List.getElem_toArray, List.getElem_cons_zero, List.getElem_cons_succ, List.setIfInBounds_toArray, List.set_cons_zero, List.set_cons_succ]
  refine wpAnyH_take (i := 12) (v := trV e1 m1 k1 e2 m2 k2) rfl (by kernel_rfl) (by kernel_rfl) (by kernel_rfl) (fun _ _ _ h => h) (Or.inl ⟨by rfl, (by intro w' hSw; (try dsimp only at hSw); go_simp)⟩) (by assumption) ?_
  try simp only [Act.put, List.getElem_toArray, List.getElem_cons_zero, List.getElem_cons_succ, List.setIfInBounds_toArray, List.set_cons_zero, List.set_cons_succ]
  refine wpAnyH_take (i := 13) (v := .bool true) rfl (by kernel_rfl) (by kernel_rfl) (by kernel_rfl) (fun _ _ _ h => h) (Or.inl ⟨by rfl, (by intro w' hSw; (try dsimp only at hSw); go_simp)⟩) (by assumption) ?_
  try simp only [Act.put, List.getElem_toArray, List.getElem_cons_zero, List.getElem_cons_succ, List.setIfInBounds_toArray, List.set_cons_zero, List.set_cons_succ]
  clear hK K hHeld1 hm hbc hE1 hb1 y1 hb0 y0
  revert hSEn
  revert hVEn
  revert hapn
  revert hSn
  revert hVn
  revert hEln
  revert hEn
  revert hbn
  revert hHeldn
  revert k2
  revert m2
  revert e2
  revert k1
  revert m1
  revert e1
  revert gE
  revert yn
  refine ?sto
  exact AllReadyH.nil
  intro y gE e1 m1 k1 e2 m2 k2 hHeld hb hE hEl hV hS hap hVE hSE
  refine wpAnyH_ready (rs := [15]) (by kernel_rfl) (by simp) ?_
  refine AllReadyH.cons rfl (fun K hK => ?_) AllReadyH.nil
  have z0 : y.cell? ⟨gE, 0, none⟩ = some (.slice none 0 0) := hE.cell 0
  have f0 : y.frozen? ⟨gE, 0, none⟩ = false := hE.frozen 0
  have z1 : y.cell? ⟨gE, 1, none⟩ = some (.slice none 0 0) := hE.cell 1
  have f1 : y.frozen? ⟨gE, 1, none⟩ = false := hE.frozen 1
  have hgs : y.grownBy ((y.setCell ⟨gE, 0, none⟩ (.slice e1 m1 k1)).setCell ⟨gE, 1, none⟩ (.slice e2 m2 k2)) (some gE) := grown_trans (grown_setCell _ _ _ _) (grown_setCell _ _ _ _)
  have hx : Box gE #[.slice e1 m1 k1, .slice e2 m2 k2] 54 ((y.setCell ⟨gE, 0, none⟩ (.slice e1 m1 k1)).setCell ⟨gE, 1, none⟩ (.slice e2 m2 k2)) := (hE.set 0 _).set 1 _
  obtain ⟨yn, hyn⟩ : ∃ z, ((y.setCell ⟨gE, 0, none⟩ (.slice e1 m1 k1)).setCell ⟨gE, 1, none⟩ (.slice e2 m2 k2)) = z := ⟨_, rfl⟩
  rw [hyn] at hgs hx
  have hbn : Below W.heap.size W yn := hb.grown hgs hb.size (fun q hq => by cases hq; exact hEl)
  have hVn := hV.kept hgs hVE
  have hSn := hS.kept hgs hSE
  rw [if_pos (by kernel_rfl)]
  go_simp
  (try rw [hyn])
  refine hK.out _ _ (KEEP.out _ hbn) (fun hHeldn => ?_)
  clear hK K hyn z0 z1 f0 f1 hHeld
  try simp only [Act.put, List.getElem_toArray, List.getElem_cons_zero, List.getElem_cons_succ, List.setIfInBounds_toArray, List.set_cons_zero, List.set_cons_succ]
  refine wpAnyH_take (i := 16) (v := .bool true) rfl (by kernel_rfl) (by kernel_rfl) (by kernel_rfl) (fun _ _ _ h => h) (Or.inl ⟨by rfl, (by intro w' hSw; (try dsimp only at hSw); go_simp)⟩) (by assumption) ?_
  try simp only [Act.put, List.getElem_toArray, List.getElem_cons_zero, List.getElem_cons_succ, List.setIfInBounds_toArray, List.set_cons_zero, List.set_cons_succ]
  refine wpAnyH_done (by kernel_rfl) ?_ _
  clear hHeldn hgs hE hV hS hb
  obtain rfl : M.length = m1 := by have h9 := hVn.1; rw [microsC_len] at h9; omega
  have hm1 : (M.length : Int) ≤ 100000 := by have := HM.out.2.2.2.1.1; omega
  have hcU : m2 ≤ k2 := mcapM hSn
  have H2 := Lib.hid (And.intro (H0.out.1.below hbn) (And.intro hx (And.intro hVn (And.intro hSn hbn))))
  have hgE : W.heap.size ≤ gE := hEl
  have hys : W.heap.size ≤ yn.heap.size := hbn.size
  have g0 : yn.cell? ⟨gE, 0, none⟩ = some (.slice e1 M.length k1) := hx.cell 0
  clear hbn hx hVn hSn hap hVE hSE hEl HD KEEP HTR
  refine Lib.hid ?_
  go_wp2
  clear g0
  go_loopw [9, 27] (fun _ i wr => ∃ j : Nat, j ≤ K ∧ i = .int .i64 j ∧ Hid (BAt w0 gb gm lu cm au nu cu CS (stepB s M j) wr) ∧ Hid (Pair gb gm yn wr ∧ wr.ownsRow W.heap.size 98 3 (.slice e1 M.length k1) M.length (microsC M) ∧ wr.ownsRow W.heap.size 3 1 (.slice e2 m2 k2) m2 (ivs U) ∧ Box gE #[.slice e1 M.length k1, .slice e2 m2 k2] 54 wr)) (fun _ i _ => M.length - (intOf i).toNat)
  case atStart => exact ⟨0, Nat.zero_le _, rfl, by rw [stepB_zero]; exact H2.out.1, Pair.refl _ _ _, H2.out.2.2.1, H2.out.2.2.2.1, H2.out.2.1⟩
  case round =>
    obtain ⟨j, hj, rfl, HBj, HPj⟩ := hrel
    by_cases hlt : j < M.length
    · have hI : (j : Int) < M.length := by omega
      obtain ⟨b, off, m, rfl, hlb, hm, hr⟩ := (mrowB HPj.out.2.1).2 j hlt
      have hmc := HM.out.1 m (List.mem_of_getElem? hm)
      have hma := HM.out.2.1 m (List.mem_of_getElem? hm)
      have HN := Lib.hid (stepB_next (s := s) hm HM.out.2.2.2.2 hma)
      have HCO := Lib.hid (show j < K → m.c ≤ s.e - (csts (M.take j)).sum from fun h9 => cnt_ok her.1 (by rw [HM.out.2.2.1]; exact h9) hm)
      have HCN := Lib.hid (show K = j → s.e - (csts (M.take j)).sum < m.c from fun h9 => cnt_no her.1 (by rw [HM.out.2.2.1]; exact h9) hm)
      have hej : 0 ≤ s.e - (csts (M.take j)).sum ∧ s.e - (csts (M.take j)).sum ≤ 100000 := by
        have h1 := cntE_sum (M := M) her.1
        rw [HM.out.2.2.1] at h1
        have h2 := sum_pos (cost_take HM.out.1 j)
        have h3 : (csts (M.take K)).sum = (csts (M.take j)).sum + (csts ((M.take K).drop j)).sum := by
          have h4 : M.take j ++ (M.take K).drop j = M.take K := by
            have h5 : (M.take K).take j = M.take j := by rw [List.take_take]; congr 1; omega
            rw [← h5, List.take_append_drop]
          rw [← h4]; unfold csts; rw [List.map_append, List.sum_append]
          congr 1
          rw [h4]
        have h4 := sum_pos (M := (M.take K).drop j) (fun q hq => HM.out.1 q (List.mem_of_mem_take (List.mem_of_mem_drop hq)))
        omega
      have hzj : 0 ≤ (stepB s M j).z ∧ (stepB s M j).z ≤ 1000000 := by
        show 0 ≤ s.z + (snsN (M.take j) : Int) ∧ s.z + (snsN (M.take j) : Int) ≤ 1000000
        have h1 := snsN_le (M.take j)
        rw [List.length_take] at h1
        have h2 := HM.out.2.2.2.1.1
        omega
      obtain ⟨mc, ma, mv⟩ := m
      have HR := Lib.hid hr
      clear hr hm
      go_wp2_with (first
        | (refine wpList_load_mid rfl 98 _ rfl b (off + j * 3) rfl (microC ⟨mc, ma, mv⟩) _ HR.out Tryz.underlying98 rfl (by kernel_rfl) ?_)
        | (refine wpList_store_box rfl 98 _ _ rfl wr.heap.size _ _ (Box.new wr _ _) #[.int .i64 mc, .int .i64 ma, .int .i64 mv] rfl rfl rfl (by kernel_rfl) (by simp [Value.oneCell']) ?_; intro w3 hx3 hg3; refine Hid.out ?_))
      have hb3 : Below wr.heap.size wr w3 := (below_new wr _).grown hg3 (by simp) (fun j hj => by cases hj; exact Nat.le_refl _)
      have hp3 : Pair gb gm wr w3 := Pair.of_below hb3
      have hgb9 : gb < W.heap.size := by omega
      have hgm9 : gm < W.heap.size := by omega
      have H3 := Lib.hid (And.intro hx3 (And.intro (HBj.out.below hb3) (And.intro (HPj.out.1.trans hp3) (And.intro (hp3.own HPj.out.2.1 hgb9 hgm9) (And.intro (hp3.own HPj.out.2.2.1 hgb9 hgm9) (hp3.box HPj.out.2.2.2 (by omega) (by omega)))))))
      clear hx3 hg3 hb3 hp3
      by_cases h3 : j < K
      · have HPF := Lib.hid (show Calls Tryz.prog 163 #[.pointer (some ⟨gb, 0, none⟩), .agg #[.int .i64 mc, .int .i64 ma, .int .i64 mv]] w3 fun e w'' => e = .returned (.tuple #[]) ∧ Hid (BAt w0 gb gm lu cm au nu cu CS (stepB s M (j + 1)) w'' ∧ Pair gb gm w3 w'') from by
          rw [HN.out]
          exact impl_perform_ok w0 gb gm lu cm au nu cu CS (stepB s M j) w3 H3.out.2.1 ⟨mc, ma, mv⟩ (HCO.out h3) hmc hma hej hzj)
        refine Lib.hid ?_
        go_wp2_with (first
          | (refine wpList_load_row rfl 98 _ rfl wr.heap.size rfl _ _ _ _ H3.out.1 Tryz.underlying98 rfl (by kernel_rfl) ?_)
          | (go_at_call 163; (with_reducible refine HPF.out.mono ?_); rintro e7 w5 ⟨rfl, hm5⟩; refine Hid.out ?_))
        have H5 := Lib.hid (And.intro hm5.out.1 (And.intro (H3.out.2.2.1.trans hm5.out.2) (And.intro (hm5.out.2.own H3.out.2.2.2.1 hgb9 hgm9) (And.intro (hm5.out.2.own H3.out.2.2.2.2.1 hgb9 hgm9) (hm5.out.2.box H3.out.2.2.2.2.2 (by omega) (by omega))))))
        clear hm5
        refine Lib.hid ?_
        go_wp2
        go_roundw
        case rel => exact ⟨j + 1, by omega, by go_num, H5.out.1, H5.out.2⟩
        case measure => simp [intOf]; omega
      · obtain rfl : K = j := by omega
        have HPF := Lib.hid (show Calls Tryz.prog 163 #[.pointer (some ⟨gb, 0, none⟩), .agg #[.int .i64 mc, .int .i64 ma, .int .i64 mv]] w3 fun e w'' => e = .panicked [{ v := PF, recovered := false }] ∧ Hid (BAt w0 gb gm lu cm au nu cu CS (stepB s M K) w'') ∧ Below w3.heap.size w3 w'' from
          impl_perform_no w0 gb gm lu cm au nu cu CS (stepB s M K) w3 H3.out.2.1 ⟨mc, ma, mv⟩ (HCN.out rfl))
        refine Lib.hid ?_
        go_wp2_with (first
          | (refine wpList_load_row rfl 98 _ rfl wr.heap.size rfl _ _ _ _ H3.out.1 Tryz.underlying98 rfl (by kernel_rfl) ?_)
          | (go_at_call 163; (with_reducible refine HPF.out.mono ?_); rintro e7 w5 ⟨rfl, hm5, hb5⟩; refine Hid.out ?_))
        have H9 := Lib.hid (And.intro hm5.out (((Kp.of_below (f := gb) (g := gm) H0.out.2.2.1 hlu).trans (Kp.of_below H2.out.2.2.2.2 (by omega))).trans (Kp.of_pair (H3.out.2.2.1.trans (Pair.of_below hb5)) (by omega))))
        clear hm5 hb5
        exact Lib.hid ⟨rfl, .inr ⟨rfl, by rw [HM.out.2.2.1]; exact hlt, by rw [HM.out.2.2.1]; exact H9.out.1⟩, H9.out.2⟩
    · obtain rfl : j = K := by omega
      have hjM : j = M.length := by omega
      have hI : ¬ (j : Int) < M.length := by omega
      obtain ⟨i0, hi, hz0, hz1, hz2⟩ := info_parts Go.Proofs.YtmgeecdgebemdaaGreatDoor.srow.infoInts
      have hD9 : Below wr.heap.size wr wr.drew := Below.drew (Below.refl _ wr)
      have b2 : wr.drew.cell? ⟨gb, 2, none⟩ = some (.slice au nu cu) := HBj.out.1.cell 2
      have g1 : wr.drew.cell? ⟨gE, 1, none⟩ = some (.slice e2 m2 k2) := HPj.out.2.2.2.cell 1
      have b3 : (wr.alloc (.cells #[.slice e2 m2 k2] 27)).cell? ⟨gb, 2, none⟩ = some (.slice au nu cu) := (HBj.out.below (below_new _ _)).1.cell 2
      have hlwr : lu ≤ wr.heap.size := HBj.out.2.1.2.2.2.2.2.1
      have HO := Lib.hid ((HBj.out.below hD9).2.2.2.1.kept (World.grownBy_alloc wr.drew (.cells #[.slice e2 m2 k2] 27) none) (own_noneB _))
      have hlw : lu ≤ (wr.drew.alloc (.cells #[.slice e2 m2 k2] 27)).heap.size := Nat.le_trans (HBj.out.below hD9).2.1.2.2.2.2.2.1 (below_new _ _).size
      have hWr : W.heap.size ≤ wr.drew.heap.size := Nat.le_trans hys HPj.out.1.1.size
      have hlen6 : nu + 1 ≤ maxLen := by unfold maxLen; omega
      have hbyt6 : (nu + 1) * 24 ≤ 140737488355328 := by omega
      have HN := Lib.hid (show ∀ (gN cN : Nat) (w6 : World), w6.ownsRow lu 27 1 (.slice (some ⟨gN, 0, none⟩) (nu + 1) cN) (nu + 1) (CS ++ [.slice e2 m2 k2]) → (wr.drew.alloc (.cells #[.slice e2 m2 k2] 27)).grownBy w6 (Value.slice au nu cu).ownBlock → ((Value.slice au nu cu).ownBlock = some gN ∨ gN = (wr.drew.alloc (.cells #[.slice e2 m2 k2] 27)).heap.size) →
          w6.cell? ⟨gb, 2, none⟩ = some (.slice au nu cu) ∧ w6.frozen? ⟨gb, 2, none⟩ = false ∧ BAt w0 gb gm lu cm (some ⟨gN, 0, none⟩) (nu + 1) cN (CS ++ [.slice e2 m2 k2]) (nextB s M U) (w6.setCell ⟨gb, 2, none⟩ (.slice (some ⟨gN, 0, none⟩) (nu + 1) cN)) ∧ Kp lu gb gm w (w6.setCell ⟨gb, 2, none⟩ (.slice (some ⟨gN, 0, none⟩) (nu + 1) cN)) from fun gN cN w6 ho hg hat => by
        obtain ⟨au', cu', e6, hbx, hBA, _⟩ := (HBj.out.below hD9).push (B := W.heap.size) (L := U) hcU (HPj.out.2.2.1.kept (grown_below hD9 none) (own_noneB _)) (by omega) hWr (fun j v g h1 h2 => Nat.lt_of_lt_of_le (H0.out.2.2.2.1 j v g h1 h2) (by omega)) (fun g h1 => Nat.lt_of_lt_of_le (H0.out.2.2.2.2 g h1) (by omega)) ho hg (hat.imp (fun e => e.symm) (fun e => by rw [e]; rfl))
        cases e6
        rw [stepB_all s M U hjM]
        have hul : ∀ b, (Value.slice au nu cu).ownBlock = some b → b = gb ∨ b = gm ∨ lu ≤ b := fun b hb => .inr (.inr ((HBj.out.2.2.2.1.lt b hb).1))
        refine ⟨hbx.cell 2, hbx.frozen 2, hBA, ?_⟩
        refine ((((Kp.of_below (f := gb) (g := gm) H0.out.2.2.1 hlu).trans (Kp.of_below H2.out.2.2.2.2 (by omega))).trans (Kp.of_pair HPj.out.1 (by omega))).trans (Kp.of_below (below_then hD9 (below_new _ (.cells #[.slice e2 m2 k2] 27))) hlwr)).trans ((Kp.of_grown hg hlw hul).trans (Kp.of_grown (grown_setCell w6 gb 2 _) (Nat.le_trans hlw hg.size) (fun b hb => by cases hb; exact .inl rfl))))
      clear hD9
      go_wp2
      go_region_law (first
        | (refine step_append_lies _ (by rfl) _ _ 32 (by rfl) lu 27 i0 (.slice none 0 0) 1 24 Tryz.underlying32 hi hz0 hz1 hz2 rfl (by decide) _ nu _ (by rfl) HO.out ⟨wr.drew.heap.size, 0, none⟩ 1 1 [.slice e2 m2 k2] (by rfl) (by rfl) (World.news_of_block (cs := #[.slice e2 m2 k2]) (t := 27) (fr := (0, 0)) (heap_alloc_new wr.drew _)) (by simp [Value.oneCell']) (by decide) hlen6 hbyt6 hlw _ rfl ?_; intro g6 c6 w6 ho6 hg6 hat6 _; obtain ⟨d6, f6, hs6, hm6⟩ := HN.out g6 c6 w6 ho6 hg6 hat6))
      all_goals
        have H7 := Lib.hid (And.intro hs6 hm6)
        clear hs6 hm6 ho6 hg6 hat6 b2 g1 b3
        refine Lib.hid ?_
        go_wp2
        exact ⟨_, results_none rfl _ _ _, .inl ⟨rfl, by rw [HM.out.2.2.1]; exact hjM, _, _, _, H7.out.1⟩, H7.out.2⟩
end Go.Proofs.YtmgeecdgebemdaaGreatDoor.bot
