/- Several texts in one: PrgV. -/
import Derived.Test.YtpipnhceajdfkaaGreatDoorGEppg36

/- Chapter 6's program: a statement's line is read; nothing that was there is written. -/
namespace Go.Proofs.YtpipnhceajdfkaaGreatDoor.prg
open Go Go.ChangeShapes Go.WideShapes Go.ChangeAt Go.RowKit Go.Proofs.YtpipnhceajdfkaaGreatDoor.row Go.Proofs.YtpipnhceajdfkaaGreatDoor.val Go.Proofs.YtpipnhceajdfkaaGreatDoor.expr Go.Proofs.YtpipnhceajdfkaaGreatDoor.stm Go.Proofs.YtpipnhceajdfkaaGreatDoor.blk Go.Proofs.YtpipnhceajdfkaaGreatDoor.tex Go.Proofs.YtpipnhceajdfkaaGreatDoor.lay Go.Proofs.YtpipnhceajdfkaaGreatDoor.spl

/-- What reading a statement's line gives. -/
def StRd (a : Addr) (l : List UInt8) (w : World) (e : Ending) (w' : World) : Prop :=
  (∃ st : Go.Proofs.YtpipnhceajdfkaaGreatDoor.stm.St, e = .returned (.tuple #[stV st, .nilIface]) ∧ Hid (StIs l st) ∧ Below w.heap.size w w') ∨
  (e = .returned (.tuple #[.agg #[.int .i64 0, .int .i64 0, .int .i64 0, .int .i64 0, .int .i64 0, .int .i64 0], errV a]) ∧ Hid (∀ st, ¬ StIs l st) ∧ Below w.heap.size w w')
set_option maxHeartbeats 4000000 in
set_option maxRecDepth 100000 in
set_option linter.unusedSimpArgs false in
theorem impl_readst (a : Addr) (s : ByteArray) (w : World) (hE : Env a w) :
    Calls Tryz.prog 40 #[.string s] w (StRd a s.data.toList w) := by
  obtain ⟨W, hW⟩ : ∃ W, W = w.alloc (.cells #[.int .i64 0, .int .i64 0, .int .i64 0, .int .i64 0, .int .i64 0, .int .i64 0] 45) := ⟨_, rfl⟩
  have hbw : Below w.heap.size w W := by rw [hW]; exact below_new _ _
  have HX := Lib.hid (And.intro (show Box w.heap.size #[.int .i64 0, .int .i64 0, .int .i64 0, .int .i64 0, .int .i64 0, .int .i64 0] 45 W by rw [hW]; exact Box.new _ _ _) hbw)
  have HW := Lib.hid hW.symm
  have HEV := Lib.hid hE
  have hEW := hE.on hbw
  have HTW := Lib.hid (show TabB W from hEW.1)
  have HEW := Lib.hid (show ErrsOk W.heap.size W from hEW.2.1)
  have hwl : w.heap.size < W.heap.size := by rw [hW]; simp
  have HWL := Lib.hid hwl
  clear hW hE hbw hEW hwl
  go_enter Tryz.func40, Tryz.ntmps40
  go_wp2_with (go_at_call 65; rw [HW.out]; (with_reducible refine (impl_parse s _ HTW.out HEW.out).mono ?_); rintro e w1 ⟨st, b, rfl, HP, hb1⟩; refine Hid.out ?_)
  have hb2 : Below W.heap.size W (w1.alloc (.cells #[.int .i64 st.k, .int .i64 st.v, .int .i64 st.n, .int .i64 st.o, .int .i64 st.a, .int .i64 st.b] 45)) := below_then hb1 (below_new w1 _)
  have H2 := Lib.hid (And.intro (Box.new w1 #[.int .i64 st.k, .int .i64 st.v, .int .i64 st.n, .int .i64 st.o, .int .i64 st.a, .int .i64 st.b] 45) (And.intro (HX.out.1.below hb2) (HX.out.2.trans (hb2.mono (Nat.le_of_lt HWL.out)))))
  have HBX := Lib.hid H2.out.2.1
  have HB := Lib.hid H2.out.2.2
  clear hb1 hb2
  cases b
  · have HNO := Lib.hid (show ∀ t, ¬ StIs s.data.toList t from st_no HP.out)
    refine Lib.hid ?_
    go_wp2
    have gE : (w1.alloc (.cells #[.int .i64 st.k, .int .i64 st.v, .int .i64 st.n, .int .i64 st.o, .int .i64 st.a, .int .i64 st.b] 45)).drew.cell? ⟨0, 0, none⟩ = some (errV a) := cell_below (show Below w.heap.size w (w1.alloc (.cells #[.int .i64 st.k, .int .i64 st.v, .int .i64 st.n, .int .i64 st.o, .int .i64 st.a, .int .i64 st.b] 45)).drew from Below.drew HB.out) HEV.out.2.2.2
    have bx : Box w.heap.size #[.int .i64 0, .int .i64 0, .int .i64 0, .int .i64 0, .int .i64 0, .int .i64 0] 45 (w1.alloc (.cells #[.int .i64 st.k, .int .i64 st.v, .int .i64 st.n, .int .i64 st.o, .int .i64 st.a, .int .i64 st.b] 45)).drew := HBX.out
    refine wp_region_held_drew (S := fun w' => w'.cell? ⟨0, 0, none⟩ = some (errV a)) (by kernel_rfl) gE (fun hHeld => ?_)
    refine wpAnyH_take (i := 0) (v := .agg #[.int .i64 0, .int .i64 0, .int .i64 0, .int .i64 0, .int .i64 0, .int .i64 0]) rfl (by kernel_rfl) (by kernel_rfl) (by kernel_rfl) (fun _ _ _ h => h) (Or.inl ⟨by rfl, (by intro w' hSw; (try dsimp only at hSw); go_simp)⟩) (by assumption) ?_
    try simp only [Act.put, List.setIfInBounds_toArray, List.set_cons_zero, List.set_cons_succ]
    refine wpAnyH_take (i := 1) (v := errV a) rfl (by kernel_rfl) (by kernel_rfl) (by kernel_rfl) (fun _ _ _ h => h) (Or.inl ⟨by rfl, (by intro w' hSw; (try dsimp only at hSw); go_simp)⟩) (by assumption) ?_
    try simp only [Act.put, List.setIfInBounds_toArray, List.set_cons_zero, List.set_cons_succ]
    refine wpAnyH_ready (rs := [2]) (by kernel_rfl) (by simp) ?_
    refine AllReadyH.cons rfl (fun K hK => ?_) AllReadyH.nil
    refine step_store_box rfl 45 _ _ rfl w.heap.size _ _ bx #[.int .i64 0, .int .i64 0, .int .i64 0, .int .i64 0, .int .i64 0, .int .i64 0] rfl rfl rfl (by kernel_rfl) (by simp [Value.oneCell']) ?_
    intro wz hxz hgz
    have hbz : Below w.heap.size w wz := (show Below w.heap.size w (w1.alloc (.cells #[.int .i64 st.k, .int .i64 st.v, .int .i64 st.n, .int .i64 st.o, .int .i64 st.a, .int .i64 st.b] 45)).drew from Below.drew HB.out).grown hgz HB.out.size (fun j hj => by cases hj; exact Nat.le_refl _)
    refine hK.out _ _ (cell_below hbz HEV.out.2.2.2) (fun hHeld2 => ?_)
    clear hK K
    try simp only [Act.put, List.setIfInBounds_toArray, List.set_cons_zero, List.set_cons_succ]
    refine wpAnyH_take (i := 3) (v := errV a) rfl (by kernel_rfl) (by kernel_rfl) (by kernel_rfl) (fun _ _ _ h => h) (Or.inl ⟨by rfl, (by intro w' hSw; (try dsimp only at hSw); go_simp)⟩) (by assumption) ?_
    try simp only [Act.put, List.setIfInBounds_toArray, List.set_cons_zero, List.set_cons_succ]
    refine wpAnyH_done (by kernel_rfl) ?_ _
    have HZ := Lib.hid (And.intro hxz hbz)
    clear hHeld hHeld2 gE bx hxz hgz hbz
    refine Lib.hid ?_
    go_wp2
    exact bodyPost_ret (v := .tuple #[.agg #[.int .i64 0, .int .i64 0, .int .i64 0, .int .i64 0, .int .i64 0, .int .i64 0], errV a]) (results_box2 rfl _ _ w.heap.size _ _ _ _ rfl rfl HZ.out.1 Tryz.underlying45 rfl (by kernel_rfl)) rfl (.inr ⟨rfl, HNO, HZ.out.2⟩)
  · have HFT := Lib.hid (textR_ok (st_valid HP.out))
    have HT2 := Lib.hid (HEV.out.1.on HB.out)
    obtain ⟨X0, hX0⟩ : ∃ X0 : List UInt8, X0 = textR st := ⟨_, rfl⟩
    have HX0 := Lib.hid (hX0.trans HFT.out)
    have HFS := Lib.hid (show ∀ w', TabB w' → Calls Tryz.prog 17 #[stV st] w' (RetS w' X0) from fun w' h' => by rw [hX0]; exact impl_fmtstmt st w' h')
    clear hX0
    refine Lib.hid ?_
    go_wp2_with (first
      | (refine wpList_load_row rfl 45 _ rfl w1.heap.size rfl _ _ _ _ H2.out.1 Tryz.underlying45 rfl (by kernel_rfl) ?_)
      | (go_at_call 17; refine (HFS.out _ HT2.out).mono ?_; rintro e w7 ⟨rfl, hb7⟩; refine Hid.out ?_))
    have H7 := Lib.hid (And.intro (H2.out.1.below hb7) (And.intro (H2.out.2.1.below hb7) (below_then H2.out.2.2 hb7)))
    clear hb7
    cases hq : (X0 == s.toList)
    · have HNO := Lib.hid (show ∀ t, ¬ StIs s.data.toList t from st_other HP.out (fun e => by rw [(test_bytes s X0).2 (HX0.out.trans e)] at hq; cases hq))
      have hq2 : (X0 != s.toList) = true := by rw [bne, hq]; rfl
      have HBX7 := Lib.hid H7.out.2.1
      have HB7 := Lib.hid H7.out.2.2
      refine Lib.hid ?_
      go_wp2
      have gE : w7.drew.cell? ⟨0, 0, none⟩ = some (errV a) := cell_below (show Below w.heap.size w w7.drew from Below.drew HB7.out) HEV.out.2.2.2
      have bx : Box w.heap.size #[.int .i64 0, .int .i64 0, .int .i64 0, .int .i64 0, .int .i64 0, .int .i64 0] 45 w7.drew := HBX7.out
      refine wp_region_held_drew (S := fun w' => w'.cell? ⟨0, 0, none⟩ = some (errV a)) (by kernel_rfl) gE (fun hHeld => ?_)
      refine wpAnyH_take (i := 0) (v := .agg #[.int .i64 0, .int .i64 0, .int .i64 0, .int .i64 0, .int .i64 0, .int .i64 0]) rfl (by kernel_rfl) (by kernel_rfl) (by kernel_rfl) (fun _ _ _ h => h) (Or.inl ⟨by rfl, (by intro w' hSw; (try dsimp only at hSw); go_simp)⟩) (by assumption) ?_
      try simp only [Act.put, List.setIfInBounds_toArray, List.set_cons_zero, List.set_cons_succ]
      refine wpAnyH_take (i := 1) (v := errV a) rfl (by kernel_rfl) (by kernel_rfl) (by kernel_rfl) (fun _ _ _ h => h) (Or.inl ⟨by rfl, (by intro w' hSw; (try dsimp only at hSw); go_simp)⟩) (by assumption) ?_
      try simp only [Act.put, List.setIfInBounds_toArray, List.set_cons_zero, List.set_cons_succ]
      refine wpAnyH_ready (rs := [2]) (by kernel_rfl) (by simp) ?_
      refine AllReadyH.cons rfl (fun K hK => ?_) AllReadyH.nil
      refine step_store_box rfl 45 _ _ rfl w.heap.size _ _ bx #[.int .i64 0, .int .i64 0, .int .i64 0, .int .i64 0, .int .i64 0, .int .i64 0] rfl rfl rfl (by kernel_rfl) (by simp [Value.oneCell']) ?_
      intro wz hxz hgz
      have hbz : Below w.heap.size w wz := (show Below w.heap.size w w7.drew from Below.drew HB7.out).grown hgz HB7.out.size (fun j hj => by cases hj; exact Nat.le_refl _)
      refine hK.out _ _ (cell_below hbz HEV.out.2.2.2) (fun hHeld2 => ?_)
      clear hK K
      try simp only [Act.put, List.setIfInBounds_toArray, List.set_cons_zero, List.set_cons_succ]
      refine wpAnyH_take (i := 3) (v := errV a) rfl (by kernel_rfl) (by kernel_rfl) (by kernel_rfl) (fun _ _ _ h => h) (Or.inl ⟨by rfl, (by intro w' hSw; (try dsimp only at hSw); go_simp)⟩) (by assumption) ?_
      try simp only [Act.put, List.setIfInBounds_toArray, List.set_cons_zero, List.set_cons_succ]
      refine wpAnyH_done (by kernel_rfl) ?_ _
      have HZ := Lib.hid (And.intro hxz hbz)
      clear hHeld hHeld2 gE bx hxz hgz hbz
      refine Lib.hid ?_
      go_wp2
      exact bodyPost_ret (v := .tuple #[.agg #[.int .i64 0, .int .i64 0, .int .i64 0, .int .i64 0, .int .i64 0, .int .i64 0], errV a]) (results_box2 rfl _ _ w.heap.size _ _ _ _ rfl rfl HZ.out.1 Tryz.underlying45 rfl (by kernel_rfl)) rfl (.inr ⟨rfl, HNO, HZ.out.2⟩)
    · have HH := Lib.hid (show StIs s.data.toList st from st_yes HP.out (HX0.out.symm.trans ((test_bytes s X0).1 hq)))
      have hq2 : (X0 != s.toList) = false := by rw [bne, hq]; rfl
      refine Lib.hid ?_
      go_wp2_with (first
        | (refine wpList_load_row rfl 45 _ rfl w1.heap.size rfl _ _ _ _ H7.out.1 Tryz.underlying45 rfl (by kernel_rfl) ?_)
        | ((refine wpList_store_box rfl 45 _ _ rfl w.heap.size _ _ H7.out.2.1 #[.int .i64 st.k, .int .i64 st.v, .int .i64 st.n, .int .i64 st.o, .int .i64 st.a, .int .i64 st.b] rfl rfl rfl (by kernel_rfl) (by simp [Value.oneCell']) ?_); intro w8 hx8 hg8; refine Hid.out ?_))
      have HZ := Lib.hid (And.intro hx8 (H7.out.2.2.grown hg8 H7.out.2.2.size (fun j hj => by cases hj; exact Nat.le_refl _)))
      clear hx8 hg8
      refine Lib.hid ?_
      go_wp2
      exact bodyPost_ret (v := .tuple #[stV st, .nilIface]) (results_box2 rfl _ _ w.heap.size _ _ _ _ rfl rfl HZ.out.1 Tryz.underlying45 rfl (by kernel_rfl)) rfl (.inl ⟨st, rfl, HH, HZ.out.2⟩)
end Go.Proofs.YtpipnhceajdfkaaGreatDoor.prg
