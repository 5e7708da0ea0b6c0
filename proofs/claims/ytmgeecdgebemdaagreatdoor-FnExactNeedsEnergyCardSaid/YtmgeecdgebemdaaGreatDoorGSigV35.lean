/- Several texts in one: VBotN VBotV VBotP VSsA VBotE VBotW VWst. -/
import Derived.Test.YtmgeecdgebemdaaGreatDoorGSigV22
import Derived.Test.YtmgeecdgebemdaaGreatDoorGSigV33
import Derived.Test.YtmgeecdgebemdaaGreatDoorGSigV34
import Derived.Deep.RegionHeld3
import Derived.Deep.RegionLaw
import Derived.Test.YtmgeecdgebemdaaGreatDoorGSigV1
import Derived.Test.YtmgeecdgebemdaaGreatDoorGSigV21
import Derived.Test.YtmgeecdgebemdaaGreatDoorGSigV26
import Derived.BigQuiet
import Derived.Test.YtmgeecdgebemdaaGreatDoorGSigV2

/- Chapter 16 of the model: NeedsEnergy; nothing that was there is written. -/
namespace Go.Proofs.YtmgeecdgebemdaaGreatDoor.bot
open Go Go.ChangeShapes Go.WideShapes Go.ChangeAt Go.RowKit Go.Proofs.YtmgeecdgebemdaaGreatDoor.row Go.Proofs.YtmgeecdgebemdaaGreatDoor.val Go.Proofs.YtmgeecdgebemdaaGreatDoor.expr Go.Proofs.YtmgeecdgebemdaaGreatDoor.stm Go.Proofs.YtmgeecdgebemdaaGreatDoor.blk Go.Proofs.YtmgeecdgebemdaaGreatDoor.prg Go.Proofs.YtmgeecdgebemdaaGreatDoor.exe Go.Proofs.YtmgeecdgebemdaaGreatDoor.ctl Go.Proofs.YtmgeecdgebemdaaGreatDoor.mem Go.Proofs.YtmgeecdgebemdaaGreatDoor.grow Go.Proofs.YtmgeecdgebemdaaGreatDoor.wrt Go.Proofs.YtmgeecdgebemdaaGreatDoor.trc Go.Proofs.YtmgeecdgebemdaaGreatDoor.rcv
theorem mrowB {w : World} {B : Nat} {a : Option Addr} {n c : Nat} {M : List Mic} (h : w.ownsRow B 98 3 (.slice a n c) n (microsC M)) : MicroRow w a n M := by
  have hl : M.length = n := by have h1 := h.1; rw [microsC_len] at h1; omega
  refine ⟨hl, fun k hk => ?_⟩
  obtain ⟨g, c', e, _, hlt⟩ := h.form (by omega)
  cases e
  refine ⟨g, 0, M[k]'(by omega), rfl, hlt, by simp [show k < M.length by omega], fun j v hv => ?_⟩
  have hj : j < 3 := by have := (List.getElem?_eq_some_iff.1 hv).1; rw [microC_len] at this; exact this
  have h1 := h.cells (g := g) rfl (k * 3 + j) v (by rw [gcs_at microC_len (s := M[k]'(by omega)) (by simp [show k < M.length by omega]) j hj]; exact hv)
  rw [Addr.add_mid] at h1
  rw [show 0 + k * 3 + j = 0 + (k * 3 + j) by omega]
  exact h1
theorem mcapB {w : World} {B : Nat} {a : Option Addr} {n c s : Nat} {e : TypeId} {xs : List Value} (h : w.ownsRow B e s (.slice a n c) n xs) : n ≤ c := by
  rcases h.2 with ⟨e, e0⟩ | ⟨g', c', cur, e, _, _, h9, _⟩
  · cases e; omega
  · cases e; exact h9
/-- l14Trace by what a trace must be. -/
theorem spec_tr (a : Option Addr) (n cap : Nat) (P : List Tk) (hz : Sizes P) (w : World) (h : TkRow w a n P) (am : Option Addr) (nm cm : Nat) (Mem : List Int) (hnm : (nm : Int) ≤ 1048576) (hcm : nm ≤ cm) (hM : Row w am nm Mem) (ar : Option Addr) (nr cr : Nat) (R : List Int) (hnr : (nr : Int) ≤ 1048576) (hR : Row w ar nr R)
    (z : Int) (M : List Mic) (U : List Int) (hT : TraceIs P Mem R z true M U) :
    Calls Tryz.prog 74 #[.agg #[.slice a n cap], .slice am nm cm, .slice ar nr cr, .int .i64 z] w (NewTr w M U) := by
  rcases hT with ⟨e, _⟩ | ⟨_, hok, t, T, hT, rfl, rfl⟩
  · cases e
  · exact spec_trace a n cap P hz w h am nm cm Mem hnm hcm hM ar nr cr R hnr hR z hok t T hT
set_option maxHeartbeats 8000000 in
set_option maxRecDepth 100000 in
theorem spec_need (a : Option Addr) (n cap : Nat) (P : List Tk) (hz : Sizes P) (w : World) (h : TkRow w a n P) (am : Option Addr) (nm cm : Nat) (Mem : List Int) (hnm : (nm : Int) ≤ 1048576) (hcm : nm ≤ cm) (hM : Row w am nm Mem) (ar : Option Addr) (nr cr : Nat) (R : List Int) (hnr : (nr : Int) ≤ 1048576) (hR : Row w ar nr R) (z : Int) (x : Int) (hx : NeedIs P Mem R z x) :
    Calls Tryz.prog 28 #[.agg #[.slice a n cap], .slice am nm cm, .slice ar nr cr, .int .i64 z] w (BelI w x) := by
  obtain ⟨W, hW⟩ : ∃ W, w.alloc (.cells #[.slice a n cap] 26) = W := ⟨_, rfl⟩
  have hBW : Below w.heap.size w W := by rw [← hW]; exact below_new w _
  have hpx : Box w.heap.size #[.slice a n cap] 26 W := by rw [← hW]; exact Box.new w _ _
  obtain ⟨r, hr⟩ := botOk_dec P Mem R z
  have HOK := Lib.hid (spec_botok a n cap P hz W (h.below hBW) am nm cm Mem hnm hcm (hM.below hBW) ar nr cr R hnr (hR.below hBW) z r hr)
  have H0 := Lib.hid (And.intro hBW (And.intro hpx (And.intro (h.below hBW) (And.intro (hM.below hBW) (hR.below hBW)))))
  have hml := hM.1
  clear hBW hpx h hM hR
  cases r
  · obtain rfl : x = -1 := by
      rcases hx with ⟨_, h9⟩ | ⟨h9, _⟩
      · exact h9
      · have := hr.2 h9; cases this
    clear hx hr
    go_enter Tryz.func28, Tryz.ntmps28
    go_wp2_with (first
      | (refine wpList_load_row rfl 26 _ rfl w.heap.size rfl _ _ _ _ H0.out.2.1 Tryz.underlying26 rfl (by kernel_rfl) ?_)
      | (go_at_call 62; (with_reducible refine HOK.out.mono ?_); rintro e w2 ⟨rfl, hb2⟩))
    go_ret
    exact ⟨rfl, below_then H0.out.1 hb2⟩
  · rcases hx with ⟨h9, _⟩ | ⟨hok, Q, M, U, hQ, hT, rfl⟩
    · exact absurd (hr.1 rfl) h9
    obtain rfl : nm = 49 := by rw [← hml]; exact hok.1.2.1
    obtain ⟨bm, om, rfl⟩ := Go.Proofs.YtmgeecdgebemdaaGreatDoor.mem.row_some H0.out.2.2.2.1 (by decide)
    have hql := Go.Proofs.YtmgeecdgebemdaaGreatDoor.rcv.RecIs.len hQ
    have hcc : ∀ c ∈ csts M, 1 ≤ c ∧ c ≤ 5 := fun c hc => by obtain ⟨m, hm, rfl⟩ := List.mem_map.1 hc; exact hT.cost.1 m hm
    obtain ⟨hMl, hUl⟩ := hT.size
    have hs := cost_sum hcc (by rw [csts_len]; omega)
    have hsb := sum_bounds (csts M) hcc
    rw [csts_len] at hsb
    obtain ⟨A, hA⟩ : ∃ A, costW (csts M) = A := ⟨_, rfl⟩
    rw [hA] at hs ⊢
    have hAr : 0 ≤ A ∧ A ≤ 100000 := by omega
    obtain ⟨X, hX⟩ : ∃ X, putAll Mem Q = X := ⟨_, rfl⟩
    have hXl : X.length = 49 := by rw [← hX, putAll_len]; exact hok.1.2.1
    have HRW := Lib.hid (show ∀ w', Below W.heap.size W w' → Calls Tryz.prog 72 #[.slice (some ⟨bm, om, none⟩) 49 cm] w' (NewWs w' Q) from fun w' hb => spec_recw w' _ 49 cm Mem (by decide) (H0.out.2.2.2.1.below hb) Q hQ)
    have HRC := Lib.hid (show ∀ w', Below W.heap.size W w' → Calls Tryz.prog 75 #[.slice (some ⟨bm, om, none⟩) 49 cm] w' (NewInts w' X) from fun w' hb => by rw [← hX]; exact spec_recovered w' bm om 49 cm Mem (by decide) (H0.out.2.2.2.1.below hb) Q hQ)
    have HTR := Lib.hid (show ∀ w' ax cx, Below W.heap.size W w' → 49 ≤ cx → Row w' ax 49 X → Calls Tryz.prog 74 #[.agg #[.slice a n cap], .slice ax 49 cx, .slice ar nr cr, .int .i64 z] w' (NewTr w' M U) from fun w' ax cx hb hcx hrx => spec_tr a n cap P hz w' (H0.out.2.2.1.below hb) ax 49 cx X (by decide) hcx hrx ar nr cr R hnr (H0.out.2.2.2.2.below hb) z M U (by rw [← hX]; exact hT))
    have HTC := Lib.hid (show ∀ w' a1 n1 c1 a2 n2 c2, TrRow w' a1 n1 a2 n2 M U → Calls Tryz.prog 73 #[trV a1 n1 c1 a2 n2 c2] w' (BelI w' A) from fun w' a1 n1 c1 a2 n2 c2 h9 => spec_tracecost w' a1 n1 c1 a2 n2 c2 M U h9 A hA)
    have HSZ := Lib.hid (And.intro hMl (And.intro hUl hXl))
    obtain ⟨nq, hnq⟩ : ∃ nq, Q.length = nq := ⟨_, rfl⟩
    have HNQ := Lib.hid hnq
    rw [hnq] at hql ⊢
    have hw1 : IntKind.i64.wrap (3 * (nq : Int)) = 3 * (nq : Int) := IntWalk.i64_in _ (by omega)
    have hw2 : IntKind.i64.wrap (3 * (nq : Int) + A) = 3 * (nq : Int) + A := IntWalk.i64_in _ (by omega)
    clear hr hok hQ hT hcc hs hsb hMl hUl hXl hA hX hnq
    go_enter Tryz.func28, Tryz.ntmps28
    go_wp2_with (first
      | (refine wpList_load_row rfl 26 _ rfl w.heap.size rfl _ _ _ _ H0.out.2.1 Tryz.underlying26 rfl (by kernel_rfl) ?_)
      | (go_at_call 62; (with_reducible refine HOK.out.mono ?_); rintro e w2 ⟨rfl, hb2⟩; refine Hid.out ?_))
    have H2 := Lib.hid (And.intro hb2 (H0.out.2.1.below hb2))
    have HD := Lib.hid (show Below w2.heap.size w2 w2.drew from Below.drew (Below.refl _ w2))
    have KEEP := Lib.hid (show ∀ w', Below w2.heap.size w2 w' → w'.cell? ⟨w.heap.size, 0, none⟩ = some (.slice a n cap) from fun w' hb => (H2.out.2.below hb).cell 0)
    clear hb2 HOK
    refine Lib.hid ?_
    go_wp2
    refine wp_region_held_drew (S := (fun w' => w'.cell? ⟨w.heap.size, 0, none⟩ = some (.slice a n cap))) (by kernel_rfl) (KEEP.out _ HD.out) (fun hHeld => ?_)
    obtain ⟨y0, hy0⟩ : ∃ z, w2.drew = z := ⟨_, rfl⟩
    have hb0 : Below w2.heap.size w2 y0 := by rw [← hy0]; exact HD.out
    rw [hy0] at hHeld ⊢
    clear hy0
    refine wpAnyH_take (i := 0) (v := .slice (some ⟨bm, om, none⟩) 49 cm) rfl (by kernel_rfl) (by kernel_rfl) (by kernel_rfl) (fun _ _ _ h => h) (Or.inl ⟨by rfl, (by intro w' hSw; (try dsimp only at hSw); go_simp)⟩) (by assumption) ?_
    try simp only [Act.put, List.getElem_toArray, List.getElem_cons_zero, List.setIfInBounds_toArray, List.set_cons_zero, List.set_cons_succ]
    refine wpAnyH_take (i := 4) (v := .agg #[.slice a n cap]) rfl (by kernel_rfl) (by kernel_rfl) (by kernel_rfl) (fun _ _ _ h => h) (Or.inl ⟨by rfl, (by intro w' hSw; (try dsimp only at hSw); go_simp)⟩) (by assumption) ?_
    try simp only [Act.put, List.getElem_toArray, List.getElem_cons_zero, List.getElem_cons_succ, List.setIfInBounds_toArray, List.set_cons_zero, List.set_cons_succ]
    refine wpAnyH_take (i := 5) (v := .slice (some ⟨bm, om, none⟩) 49 cm) rfl (by kernel_rfl) (by kernel_rfl) (by kernel_rfl) (fun _ _ _ h => h) (Or.inl ⟨by rfl, (by intro w' hSw; (try dsimp only at hSw); go_simp)⟩) (by assumption) ?_
    try simp only [Act.put, List.getElem_toArray, List.getElem_cons_zero, List.getElem_cons_succ, List.setIfInBounds_toArray, List.set_cons_zero, List.set_cons_succ]
    refine wpAnyH_take (i := 7) (v := .slice ar nr cr) rfl (by kernel_rfl) (by kernel_rfl) (by kernel_rfl) (fun _ _ _ h => h) (Or.inl ⟨by rfl, (by intro w' hSw; (try dsimp only at hSw); go_simp)⟩) (by assumption) ?_
    try simp only [Act.put, List.getElem_toArray, List.getElem_cons_zero, List.getElem_cons_succ, List.setIfInBounds_toArray, List.set_cons_zero, List.set_cons_succ]
    refine wpAnyH_take (i := 8) (v := .int .i64 z) rfl (by kernel_rfl) (by kernel_rfl) (by kernel_rfl) (fun _ _ _ h => h) (Or.inl ⟨by rfl, (by intro w' hSw; (try dsimp only at hSw); go_simp)⟩) (by assumption) ?_
    try simp only [Act.put, List.getElem_toArray, List.getElem_cons_zero, List.getElem_cons_succ, List.setIfInBounds_toArray, List.set_cons_zero, List.set_cons_succ]
    refine wpAnyH_ready (rs := [1]) (by kernel_rfl) (by simp) ?_
    refine AllReadyH.cons rfl (fun K hK => ?_) AllReadyH.nil
    rw [if_pos (by kernel_rfl)]
    go_simp
    go_at_call 72
    refine (HRW.out y0 (below_then H2.out.1 hb0)).mono ?_
    rintro e y1 ⟨aq, nq9, cq, rfl, hoq, hbc⟩
    obtain rfl : nq9 = nq := by have h9 := hoq.1; rw [writesC_len] at h9; have := HNQ.out; omega
    have hb1 : Below w2.heap.size w2 y1 := below_then hb0 hbc
    refine hK.out _ _ (KEEP.out _ hb1) (fun hHeld1 => ?_)
    clear hK K hHeld hoq hbc hb0 y0
    have hHeld := hHeld1
    clear hHeld1
    try simp only [Act.put, List.getElem_toArray, List.getElem_cons_zero, List.getElem_cons_succ, List.setIfInBounds_toArray, List.set_cons_zero, List.set_cons_succ]
    refine wpAnyH_take (i := 2) (v := .int .i64 nq9) rfl (by kernel_rfl) (by kernel_rfl) (by kernel_rfl) (fun _ _ _ h => h) (Or.inl ⟨by rfl, (by intro w' hSw; (try dsimp only at hSw); go_simp)⟩) (by assumption) ?_
    try simp only [Act.put, List.getElem_toArray, List.getElem_cons_zero, List.getElem_cons_succ, List.setIfInBounds_toArray, List.set_cons_zero, List.set_cons_succ]
    refine wpAnyH_take (i := 3) (v := .int .i64 (3 * (nq9 : Int))) rfl (by kernel_rfl) (by kernel_rfl) (by kernel_rfl) (fun _ _ _ h => h) (Or.inl ⟨by rfl, (by intro w' hSw; (try dsimp only at hSw); go_simp)⟩) (by assumption) ?_
    try simp only [Act.put, List.getElem_toArray, List.getElem_cons_zero, List.getElem_cons_succ, List.setIfInBounds_toArray, List.set_cons_zero, List.set_cons_succ]
    refine wpAnyH_ready (rs := [6]) (by kernel_rfl) (by simp) ?_
    refine AllReadyH.cons rfl (fun K hK => ?_) AllReadyH.nil
    rw [if_pos (by kernel_rfl)]
    go_simp
    go_at_call 75
    refine (HRC.out y1 (below_then H2.out.1 hb1)).mono ?_
    rintro e y2 ⟨ax, nx, cx, rfl, hox, hbc⟩
    obtain rfl : nx = 49 := by have h9 := own_len hox; rw [HSZ.out.2.2] at h9; exact h9.symm
    have hcx := mcapB hox
    have hrx := Row.of_own hox
    have hb2 : Below w2.heap.size w2 y2 := below_then hb1 hbc
    refine hK.out _ _ (KEEP.out _ hb2) (fun hHeld1 => ?_)
    clear hK K hHeld hox hbc hb1 y1
    have hHeld := hHeld1
    clear hHeld1
    try simp only [Act.put, List.getElem_toArray, List.getElem_cons_zero, List.getElem_cons_succ, List.setIfInBounds_toArray, List.set_cons_zero, List.set_cons_succ]
    refine wpAnyH_ready (rs := [9]) (by kernel_rfl) (by simp) ?_
    refine AllReadyH.cons rfl (fun K hK => ?_) AllReadyH.nil
    rw [if_pos (by kernel_rfl)]
    go_simp
    go_at_call 74
    refine (HTR.out y2 ax cx (below_then H2.out.1 hb2) hcx hrx).mono ?_
    rintro e y3 ⟨a1, n1, c1, a2, n2, c2, rfl, hm, hbc⟩
    have hM1 := mrowB hm.1
    have hU1 := Row.of_own hm.2.1
    have hn1e : M.length = n1 := hM1.1
    have hn2e : U.length = n2 := hU1.1
    have hTr : TrRow y3 a1 n1 a2 n2 M U := ⟨hM1, hU1, by have := HSZ.out; omega, by have := HSZ.out; omega⟩
    have hb3 : Below w2.heap.size w2 y3 := below_then hb2 hbc
    refine hK.out _ _ (KEEP.out _ hb3) (fun hHeld1 => ?_)
    clear hK K hHeld hm hM1 hU1 hn1e hn2e hbc hrx hb2 y2
    have hHeld := hHeld1
    clear hHeld1
    try simp only [Act.put, List.getElem_toArray, List.getElem_cons_zero, List.getElem_cons_succ, List.setIfInBounds_toArray, List.set_cons_zero, List.set_cons_succ]
    refine wpAnyH_ready (rs := [10]) (by kernel_rfl) (by simp) ?_
    refine AllReadyH.cons rfl (fun K hK => ?_) AllReadyH.nil
    rw [if_pos (by kernel_rfl)]
    go_simp
    go_at_call 73
    refine (HTC.out y3 a1 n1 c1 a2 n2 c2 hTr).mono ?_
    rintro e y4 ⟨rfl, hbc⟩
    have hb4 : Below w2.heap.size w2 y4 := below_then hb3 hbc
    refine hK.out _ _ (KEEP.out _ hb4) (fun hHeld1 => ?_)
    clear hK K hHeld hbc hTr hb3 y3
    have hHeld := hHeld1
    clear hHeld1
    try simp only [Act.put, List.getElem_toArray, List.getElem_cons_zero, List.getElem_cons_succ, List.setIfInBounds_toArray, List.set_cons_zero, List.set_cons_succ]
    refine wpAnyH_take (i := 11) (v := .int .i64 (3 * (nq9 : Int) + A)) rfl (by kernel_rfl) (by kernel_rfl) (by kernel_rfl) (fun _ _ _ h => h) (Or.inl ⟨by rfl, (by intro w' hSw; (try dsimp only at hSw); go_simp)⟩) (by assumption) ?_
    try simp only [Act.put, List.getElem_toArray, List.getElem_cons_zero, List.getElem_cons_succ, List.setIfInBounds_toArray, List.set_cons_zero, List.set_cons_succ]
    refine wpAnyH_take (i := 12) (v := .int .i64 (3 * (nq9 : Int) + A)) rfl (by kernel_rfl) (by kernel_rfl) (by kernel_rfl) (fun _ _ _ h => h) (Or.inl ⟨by rfl, (by intro w' hSw; (try dsimp only at hSw); go_simp)⟩) (by assumption) ?_
    try simp only [Act.put, List.getElem_toArray, List.getElem_cons_zero, List.getElem_cons_succ, List.setIfInBounds_toArray, List.set_cons_zero, List.set_cons_succ]
    refine wpAnyH_done (by kernel_rfl) ?_ _
    have HFN := Lib.hid (below_then H0.out.1 (below_then H2.out.1 hb4))
    clear hb4 hHeld
    refine Lib.hid ?_
    go_wp2
    go_ret
    exact ⟨rfl, HFN.out⟩
end Go.Proofs.YtmgeecdgebemdaaGreatDoor.bot

/- Chapter 16: a boot as a value. -/
namespace Go.Proofs.YtmgeecdgebemdaaGreatDoor.bot
open Go
end Go.Proofs.YtmgeecdgebemdaaGreatDoor.bot

/- Chapter 16: what the program's BootOnce, BootTasks and NeedsEnergy are to give: the shapes of their contracts. -/
namespace Go.Proofs.YtmgeecdgebemdaaGreatDoor.bot
open Go Go.ChangeShapes Go.WideShapes Go.ChangeAt Go.RowKit Go.Proofs.YtmgeecdgebemdaaGreatDoor.row Go.Proofs.YtmgeecdgebemdaaGreatDoor.val Go.Proofs.YtmgeecdgebemdaaGreatDoor.expr Go.Proofs.YtmgeecdgebemdaaGreatDoor.stm Go.Proofs.YtmgeecdgebemdaaGreatDoor.blk Go.Proofs.YtmgeecdgebemdaaGreatDoor.prg Go.Proofs.YtmgeecdgebemdaaGreatDoor.exe Go.Proofs.YtmgeecdgebemdaaGreatDoor.ctl Go.Proofs.YtmgeecdgebemdaaGreatDoor.mem Go.Proofs.YtmgeecdgebemdaaGreatDoor.grow Go.Proofs.YtmgeecdgebemdaaGreatDoor.wrt Go.Proofs.YtmgeecdgebemdaaGreatDoor.trc Go.Proofs.YtmgeecdgebemdaaGreatDoor.cst
abbrev NeC : Prop := ∀ (a : Option Addr) (n cap : Nat) (P : List Tk) (_ : Sizes P) (_ : n ≤ cap) (w : World) (_ : TkRow w a n P) (am : Option Addr) (nm cm : Nat) (Mem : List Int) (_ : (nm : Int) ≤ 1048576) (_ : nm ≤ cm) (_ : Row w am nm Mem) (ar : Option Addr) (nr cr : Nat) (R : List Int) (_ : (nr : Int) ≤ 1048576) (_ : nr ≤ cr) (_ : Row w ar nr R)
    (z : Int) (x : Int) (_ : NeedIs P Mem R z x) (_ : i64r (Mem.getD 8 0)) (_ : CostTab w),
    Calls Tryz.prog 14 #[.agg #[.slice a n cap], .slice am nm cm, .slice ar nr cr, .int .i64 z] w (BelI w x)
end Go.Proofs.YtmgeecdgebemdaaGreatDoor.bot

/- Rows of rows of numbers: a slice of slices that reads as a list of lists; the law's own copy, size and comparison of such a slice. -/
namespace Go.Proofs.YtmgeecdgebemdaaGreatDoor.srow
open Go Go.ChangeShapes Go.WideShapes Go.ChangeAt Go.RowKit Go.Proofs.YtmgeecdgebemdaaGreatDoor.row Go.Proofs.YtmgeecdgebemdaaGreatDoor.val Go.Proofs.YtmgeecdgebemdaaGreatDoor.expr
theorem row_box {w : World} {g n : Nat} {L : List Int} {t : TypeId} (h : Box g (ivs L).toArray t w) (hn : L.length = n) : Row w (some ⟨g, 0, none⟩) n L :=
  ⟨hn, fun k hk => ⟨g, 0, L[k]'(by omega), rfl, h.lt, by simp [show k < L.length by omega], by rw [h.cell]; simp [ivs, show k < L.length by omega]⟩⟩
end Go.Proofs.YtmgeecdgebemdaaGreatDoor.srow

/- Chapter 16: what stays in memory while a boot goes on, of the program and of the model: the variable of the boot, its memory, what has been used, each in memory of its own. -/
namespace Go.Proofs.YtmgeecdgebemdaaGreatDoor.bot
open Go Go.ChangeShapes Go.WideShapes Go.ChangeAt Go.RowKit Go.Proofs.YtmgeecdgebemdaaGreatDoor.row Go.Proofs.YtmgeecdgebemdaaGreatDoor.val Go.Proofs.YtmgeecdgebemdaaGreatDoor.expr Go.Proofs.YtmgeecdgebemdaaGreatDoor.stm Go.Proofs.YtmgeecdgebemdaaGreatDoor.blk Go.Proofs.YtmgeecdgebemdaaGreatDoor.prg Go.Proofs.YtmgeecdgebemdaaGreatDoor.exe Go.Proofs.YtmgeecdgebemdaaGreatDoor.ctl Go.Proofs.YtmgeecdgebemdaaGreatDoor.mem Go.Proofs.YtmgeecdgebemdaaGreatDoor.grow Go.Proofs.YtmgeecdgebemdaaGreatDoor.wrt Go.Proofs.YtmgeecdgebemdaaGreatDoor.trc
theorem mcapM {w : World} {B : Nat} {a : Option Addr} {n c s : Nat} {e : TypeId} {xs : List Value} (h : w.ownsRow B e s (.slice a n c) n xs) : n ≤ c := by
  rcases h.2 with ⟨e, e0⟩ | ⟨g', c', cur, e, _, _, h9, _⟩
  · cases e; omega
  · cases e; exact h9
end Go.Proofs.YtmgeecdgebemdaaGreatDoor.bot

/- Chapter 16 of the program: a step of a boot is performed, or the power fails ahead of it. -/
namespace Go.Proofs.YtmgeecdgebemdaaGreatDoor.bot
open Go Go.ChangeShapes Go.WideShapes Go.ChangeAt Go.RowKit Go.Proofs.YtmgeecdgebemdaaGreatDoor.row Go.Proofs.YtmgeecdgebemdaaGreatDoor.val Go.Proofs.YtmgeecdgebemdaaGreatDoor.expr Go.Proofs.YtmgeecdgebemdaaGreatDoor.stm Go.Proofs.YtmgeecdgebemdaaGreatDoor.blk Go.Proofs.YtmgeecdgebemdaaGreatDoor.prg Go.Proofs.YtmgeecdgebemdaaGreatDoor.exe Go.Proofs.YtmgeecdgebemdaaGreatDoor.ctl Go.Proofs.YtmgeecdgebemdaaGreatDoor.mem Go.Proofs.YtmgeecdgebemdaaGreatDoor.grow Go.Proofs.YtmgeecdgebemdaaGreatDoor.wrt Go.Proofs.YtmgeecdgebemdaaGreatDoor.trc
end Go.Proofs.YtmgeecdgebemdaaGreatDoor.bot

/- The program's step of a write. -/
namespace Go.Proofs.YtmgeecdgebemdaaGreatDoor.trc
open Go Go.ChangeShapes Go.WideShapes Go.ChangeAt Go.RowKit Go.Proofs.YtmgeecdgebemdaaGreatDoor.row Go.Proofs.YtmgeecdgebemdaaGreatDoor.val Go.Proofs.YtmgeecdgebemdaaGreatDoor.expr
set_option maxHeartbeats 2000000 in
set_option maxRecDepth 100000 in
theorem impl_wstep (p v : Int) (w : World) : Calls Tryz.prog 78 #[.agg #[.int .i64 p, .int .i64 v]] w fun e w' => e = .returned (.agg #[.int .i64 3, .int .i64 p, .int .i64 v]) ∧ Below w.heap.size w w' := by
  obtain ⟨W, hW⟩ : ∃ W, (w.alloc (.cells #[.int .i64 p, .int .i64 v] 100)).alloc (.cells #[.int .i64 0, .int .i64 0, .int .i64 0] 98) = W := ⟨_, rfl⟩
  have hBW : Below w.heap.size w W := by rw [← hW]; exact below_then (below_new w _) (below_new _ _)
  have hx : Box w.heap.size #[.int .i64 p, .int .i64 v] 100 W := by rw [← hW]; exact (Box.new w _ _).alloc _
  have hy : Box (w.heap.size + 1) #[.int .i64 0, .int .i64 0, .int .i64 0] 98 W := by
    have h9 := Box.new (w.alloc (.cells #[.int .i64 p, .int .i64 v] 100)) #[.int .i64 0, .int .i64 0, .int .i64 0] 98
    rw [World.size_alloc] at h9
    rw [← hW]; exact h9
  have x0 : W.cell? ⟨w.heap.size, 0, none⟩ = some (.int .i64 p) := hx.cell 0
  have x1 : W.cell? ⟨w.heap.size, 1, none⟩ = some (.int .i64 v) := hx.cell 1
  have H0 := Lib.hid (And.intro hBW hy)
  clear hBW hx hy
  go_enter Tryz.func78, Tryz.ntmps78
  go_wp2_with (refine wpList_store_box rfl 98 _ _ rfl (w.heap.size + 1) _ _ H0.out.2 #[.int .i64 3, .int .i64 p, .int .i64 v] rfl rfl rfl (by kernel_rfl) (by simp [Value.oneCell']) ?_; intro w6 hx6 hg6)
  refine bodyPost_ret (v := .agg #[.int .i64 3, .int .i64 p, .int .i64 v]) (results_cell_row rfl _ _ (w.heap.size + 1) _ #[.int .i64 3, .int .i64 p, .int .i64 v] _ _ rfl hx6 Tryz.underlying98 rfl (by kernel_rfl)) rfl ?_
  exact ⟨rfl, H0.out.1.grown hg6 H0.out.1.size (fun k hk => by cases hk; omega)⟩
end Go.Proofs.YtmgeecdgebemdaaGreatDoor.trc
