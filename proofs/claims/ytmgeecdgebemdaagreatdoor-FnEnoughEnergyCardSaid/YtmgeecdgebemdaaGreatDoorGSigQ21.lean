/- Several texts in one: QBotW QWst. -/
import Derived.Test.YtmgeecdgebemdaaGreatDoorGSigQ20
import Derived.BigQuiet
import Derived.Test.YtmgeecdgebemdaaGreatDoorGSigQ3
import Derived.Test.YtmgeecdgebemdaaGreatDoorGSigQ1

/- Chapter 16 of the program: a step of a boot is performed, or the power fails ahead of it. -/
namespace Go.Proofs.YtmgeecdgebemdaaGreatDoor.bot
open Go Go.ChangeShapes Go.WideShapes Go.ChangeAt Go.RowKit Go.Proofs.YtmgeecdgebemdaaGreatDoor.row Go.Proofs.YtmgeecdgebemdaaGreatDoor.val Go.Proofs.YtmgeecdgebemdaaGreatDoor.expr Go.Proofs.YtmgeecdgebemdaaGreatDoor.stm Go.Proofs.YtmgeecdgebemdaaGreatDoor.blk Go.Proofs.YtmgeecdgebemdaaGreatDoor.prg Go.Proofs.YtmgeecdgebemdaaGreatDoor.exe Go.Proofs.YtmgeecdgebemdaaGreatDoor.ctl Go.Proofs.YtmgeecdgebemdaaGreatDoor.mem Go.Proofs.YtmgeecdgebemdaaGreatDoor.grow Go.Proofs.YtmgeecdgebemdaaGreatDoor.wrt Go.Proofs.YtmgeecdgebemdaaGreatDoor.trc
/-- One step is performed. -/
def perB (s : Bt) (m : Mic) : Bt := ⟨if m.a = -1 then s.W else s.W.set m.a.toNat m.v, s.z + (if (decide (m.a = -1) && decide (m.c = 5)) = true then 1 else 0), s.U, s.e - m.c⟩
theorem stepB_next {s : Bt} {M : List Mic} {k : Nat} {m : Mic} (h : M[k]? = some m) (hl : s.W.length = 49) (ha : m.a = -1 ∨ (0 ≤ m.a ∧ m.a < 49)) : stepB s M (k + 1) = perB (stepB s M k) m := by
  have hW : putAll s.W (wrs (M.take (k + 1))) = if m.a = -1 then putAll s.W (wrs (M.take k)) else (putAll s.W (wrs (M.take k))).set m.a.toNat m.v := by
    rw [wrs_snocB h]
    split
    · rfl
    · rename_i h1
      rw [putAll_app, show ∀ (A : List Int) (x : Wt), putAll A [x] = put1 A x from fun _ _ => rfl]
      exact put1_in (show m.a = ((m.a.toNat : Nat) : Int) by omega) (by rw [putAll_len, hl]; omega)
  unfold stepB perB
  rw [hW, snsN_snoc h, sum_snoc h]
  simp only [Bt.mk.injEq, true_and]
  refine ⟨?_, by omega⟩
  split <;> push_cast <;> omega
/-- What a step panics with where the power fails. -/
abbrev PF : Value := .iface 146 (.agg #[])
abbrev micV (m : Mic) : Value := .agg #[.int .i64 m.c, .int .i64 m.a, .int .i64 m.v]
set_option maxHeartbeats 4000000 in
set_option maxRecDepth 100000 in
theorem impl_perform_no (w0 : World) (gb gm lu cm : Nat) (au : Option Addr) (nu cu : Nat) (CS : List Value) (s : Bt) (w : World) (h : BAt w0 gb gm lu cm au nu cu CS s w) (m : Mic) (hlt : s.e < m.c) :
    Calls Tryz.prog 163 #[.pointer (some ⟨gb, 0, none⟩), micV m] w fun e w' => e = .panicked [{ v := PF, recovered := false }] ∧ Hid (BAt w0 gb gm lu cm au nu cu CS s w') ∧ Below w.heap.size w w' := by
  obtain ⟨c, hc⟩ : ∃ c, m.c = c := ⟨_, rfl⟩
  obtain ⟨a, ha⟩ : ∃ c, m.a = c := ⟨_, rfl⟩
  obtain ⟨v, hv⟩ : ∃ c, m.v = c := ⟨_, rfl⟩
  obtain ⟨e, he⟩ : ∃ c, s.e = c := ⟨_, rfl⟩
  unfold micV
  rw [hc, ha, hv]
  rw [hc, he] at hlt
  obtain ⟨W, hW⟩ : ∃ W, w.alloc (.cells #[.int .i64 c, .int .i64 a, .int .i64 v] 98) = W := ⟨_, rfl⟩
  have hBW : Below w.heap.size w W := by rw [← hW]; exact below_new w _
  have hx : Box w.heap.size #[.int .i64 c, .int .i64 a, .int .i64 v] 98 W := by rw [← hW]; exact Box.new w _ _
  have m0 : W.cell? ⟨w.heap.size, 0, none⟩ = some (.int .i64 c) := hx.cell 0
  have b3 : W.cell? ⟨gb, 3, none⟩ = some (.int .i64 e) := by rw [← he]; exact (h.below hBW).1.cell 3
  have H0 := Lib.hid (show ∀ k, BAt w0 gb gm lu cm au nu cu CS s (W.drewN k) ∧ Below w.heap.size w (W.drewN k) from fun k => ⟨h.below (below_drewN hBW k), below_drewN hBW k⟩)
  clear h hBW hx hc ha hv he
  go_enter Tryz.func163, Tryz.ntmps163
  go_wp2
  go_quiet (fail)
  go_wp2
  exact ⟨rfl, rfl, (H0.out _).1, (H0.out _).2⟩
set_option maxHeartbeats 4000000 in
set_option maxRecDepth 100000 in
theorem impl_perform_ok (w0 : World) (gb gm lu cm : Nat) (au : Option Addr) (nu cu : Nat) (CS : List Value) (s : Bt) (w : World) (h : BAt w0 gb gm lu cm au nu cu CS s w) (m : Mic) (hle : m.c ≤ s.e) (hcr : 1 ≤ m.c ∧ m.c ≤ 5) (har : m.a = -1 ∨ (0 ≤ m.a ∧ m.a < 49)) (her : 0 ≤ s.e ∧ s.e ≤ 100000) (hzr : 0 ≤ s.z ∧ s.z ≤ 1000000) :
    Calls Tryz.prog 163 #[.pointer (some ⟨gb, 0, none⟩), micV m] w fun e w' => e = .returned (.tuple #[]) ∧ Hid (BAt w0 gb gm lu cm au nu cu CS (perB s m) w' ∧ Pair gb gm w w') := by
  obtain ⟨c, hc⟩ : ∃ c, m.c = c := ⟨_, rfl⟩
  obtain ⟨a, ha⟩ : ∃ c, m.a = c := ⟨_, rfl⟩
  obtain ⟨v, hv⟩ : ∃ c, m.v = c := ⟨_, rfl⟩
  obtain ⟨e, he⟩ : ∃ c, s.e = c := ⟨_, rfl⟩
  obtain ⟨z, hz⟩ : ∃ c, s.z = c := ⟨_, rfl⟩
  have HPB := Lib.hid (show perB s m = ⟨if a = -1 then s.W else s.W.set a.toNat v, z + (if (decide (a = -1) && decide (c = 5)) = true then 1 else 0), s.U, e - c⟩ from by unfold perB; rw [hc, ha, hv, he, hz])
  unfold micV
  rw [hc, ha, hv]
  rw [hc] at hcr hle
  rw [he] at her hle
  rw [hz] at hzr
  rw [ha] at har
  obtain ⟨W, hW⟩ : ∃ W, w.alloc (.cells #[.int .i64 c, .int .i64 a, .int .i64 v] 98) = W := ⟨_, rfl⟩
  have hBW : Below w.heap.size w W := by rw [← hW]; exact below_new w _
  have hx : Box w.heap.size #[.int .i64 c, .int .i64 a, .int .i64 v] 98 W := by rw [← hW]; exact Box.new w _ _
  have hn : ¬ e < c := by omega
  have hgb : gb < w.heap.size := h.1.lt
  have hgm : gm < w.heap.size := by have := h.2.1; omega
  have hne : gb ≠ gm := h.2.1.2.2.1
  have m1 : W.cell? ⟨w.heap.size, 1, none⟩ = some (.int .i64 a) := hx.cell 1
  have HX := Lib.hid hx
  have h1 := h.below hBW
  have q0 : W.cell? ⟨w.heap.size, 0, none⟩ = some (.int .i64 c) := hx.cell 0
  have b3 : W.cell? ⟨gb, 3, none⟩ = some (.int .i64 e) := by rw [← he]; exact h1.1.cell 3
  have f3 : W.frozen? ⟨gb, 3, none⟩ = false := h1.1.frozen 3
  have hw7 : IntKind.i64.wrap (e - c) = e - c := IntWalk.i64_in _ (by omega)
  have HB := Lib.hid (And.intro h1 hBW)
  clear h h1 hBW hx hc ha hv he
  go_enter Tryz.func163, Tryz.ntmps163
  go_wp2
  go_quiet (fail)
  go_wp2
  go_region
  obtain ⟨Y, hY⟩ : ∃ Y, W.drewN (nq + 1) = Y := ⟨_, rfl⟩
  have hBY : Below w.heap.size w Y := by rw [← hY]; exact below_drewN HB.out.2 _
  have hxY : Box w.heap.size #[.int .i64 c, .int .i64 a, .int .i64 v] 98 Y := by rw [← hY]; exact HX.out
  have hbY : BAt w0 gb gm lu cm au nu cu CS s Y := by rw [← hY]; exact HB.out.1.below (below_drewN (Below.refl _ W) _)
  rw [hY]
  have hgY := grown_setCell Y gb 3 (.int .i64 (e - c))
  have hx2 := hxY.grown hgY (fun e => by have := Option.some.inj e; omega)
  have hp2 : Pair gb gm w (Y.setCell ⟨gb, 3, none⟩ (.int .i64 (e - c))) := (Pair.of_below hBY).trans (Pair.of_grown hgY (.inl rfl))
  have hb2 := hbY.setE (e - c)
  obtain ⟨w2, hw2⟩ : ∃ w2, Y.setCell ⟨gb, 3, none⟩ (.int .i64 (e - c)) = w2 := ⟨_, rfl⟩
  rw [hw2] at hx2 hp2 hb2 ⊢
  have k0 : w2.cell? ⟨w.heap.size, 0, none⟩ = some (.int .i64 c) := hx2.cell 0
  have k1 : w2.cell? ⟨w.heap.size, 1, none⟩ = some (.int .i64 a) := hx2.cell 1
  have k2 : w2.cell? ⟨w.heap.size, 2, none⟩ = some (.int .i64 v) := hx2.cell 2
  have H2 := Lib.hid (And.intro hb2 hp2)
  clear hBY hxY hbY hgY hx2 hp2 hb2 hY hw2 HX HB m1 q0 b3 f3
  by_cases h1 : a = -1
  · subst h1
    by_cases h5 : c = 5
    · subst h5
      have z1 : w2.cell? ⟨gb, 1, none⟩ = some (.int .i64 z) := by rw [← hz]; exact H2.out.1.1.cell 1
      have g1 : w2.frozen? ⟨gb, 1, none⟩ = false := H2.out.1.1.frozen 1
      have hwz : IntKind.i64.wrap (z + 1) = z + 1 := IntWalk.i64_in _ (by omega)
      have HF := Lib.hid (show BAt w0 gb gm lu cm au nu cu CS (perB s m) (w2.setCell ⟨gb, 1, none⟩ (.int .i64 (z + 1))) ∧ Pair gb gm w (w2.setCell ⟨gb, 1, none⟩ (.int .i64 (z + 1))) from by
        rw [HPB.out]
        exact ⟨H2.out.1.setZ (z + 1), H2.out.2.trans (Pair.of_grown (grown_setCell w2 gb 1 _) (.inl rfl))⟩)
      clear HPB
      go_wp2
      exact ⟨rfl, _, results_none rfl _ _ _, rfl, HF.out⟩
    · have hd : (c == 5) = false := by simpa using h5
      have HF := Lib.hid (show BAt w0 gb gm lu cm au nu cu CS (perB s m) w2 ∧ Pair gb gm w w2 from by
        have h9 := H2.out
        rw [hz] at h9
        rw [HPB.out]
        simpa [h5] using h9)
      clear HPB
      go_wp2
      exact ⟨rfl, _, results_none rfl _ _ _, rfl, HF.out⟩
  · have hd1 : (a == -1) = false := by simpa using h1
    obtain ⟨p, rfl⟩ : ∃ p : Nat, a = p := ⟨a.toNat, by omega⟩
    have hp49 : p < 49 := by omega
    have hpI : (p : Int) < 49 := by omega
    obtain ⟨g9, X9, e9, _, _, hX9, hf9⟩ := own_store H2.out.1.2.2.1 hp49
    cases e9
    have n0 : w2.cell? ⟨gb, 0, none⟩ = some (.slice (some ⟨gm, 0, none⟩) 49 cm) := H2.out.1.1.cell 0
    have HF := Lib.hid (show ∀ j, BAt w0 gb gm lu cm au nu cu CS (perB s m) ((w2.drewN j).setCell ⟨gm, p, none⟩ (.int .i64 v)) ∧ Pair gb gm w ((w2.drewN j).setCell ⟨gm, p, none⟩ (.int .i64 v)) from fun j => by
      have h9 := (H2.out.1.below (below_drewN (Below.refl _ w2) j)).setW p v
      rw [hz] at h9
      refine ⟨?_, (H2.out.2.trans (Pair.of_below (below_drewN (Below.refl _ w2) j))).trans (Pair.of_grown (grown_setCell (w2.drewN j) gm p _) (.inr rfl))⟩
      rw [HPB.out]
      simpa [h1] using h9)
    clear HPB
    go_wp2
    go_region
    go_wp2
    exact ⟨rfl, _, results_none rfl _ _ _, rfl, HF.out _⟩
end Go.Proofs.YtmgeecdgebemdaaGreatDoor.bot

/- The program's step of a write. -/
namespace Go.Proofs.YtmgeecdgebemdaaGreatDoor.trc
open Go Go.ChangeShapes Go.WideShapes Go.ChangeAt Go.RowKit Go.Proofs.YtmgeecdgebemdaaGreatDoor.row Go.Proofs.YtmgeecdgebemdaaGreatDoor.val Go.Proofs.YtmgeecdgebemdaaGreatDoor.expr
set_option maxHeartbeats 2000000 in
set_option maxRecDepth 100000 in
theorem impl_wstep (p v : Int) (w : World) : Calls Tryz.prog 78 #[.agg #[.int .i64 p, .int .i64 v]] w fun e w' => e = .returned (.agg #[.int .i64 3, .int .i64 p, .int .i64 v]) ∧ Below w.heap.size w w' := by
  obtain ⟨W, hW⟩ : ∃ W, (w.alloc (.cells #[.int .i64 p, .int .i64 v] 100)).alloc (.cells #[.int .i64 0, .int .i64 0, .int .i64 0] 98) = W := ⟨_, rfl⟩
  have hBW : Below w.heap.size w W := by rw [← hW]; exact below_then (below_new w _) (below_new _ _)
  have hx : Box w.heap.size #[.int .i64 p, .int .i64 v] 100 W := by rw [← hW]; exact (Box.new w _ _).alloc _
  have hy : Box (w.heap.size + 1) #[.int .i64 0, .int .i64 0, .int .i64 0] 98 W := by
    have h9 := Box.new (w.alloc (.cells #[.int .i64 p, .int .i64 v] 100)) #[.int .i64 0, .int .i64 0, .int .i64 0] 98
    rw [World.size_alloc] at h9
    rw [← hW]; exact h9
  have x0 : W.cell? ⟨w.heap.size, 0, none⟩ = some (.int .i64 p) := hx.cell 0
  have x1 : W.cell? ⟨w.heap.size, 1, none⟩ = some (.int .i64 v) := hx.cell 1
  have H0 := Lib.hid (And.intro hBW hy)
  clear hBW hx hy
  go_enter Tryz.func78, Tryz.ntmps78
  go_wp2_with (refine wpList_store_box rfl 98 _ _ rfl (w.heap.size + 1) _ _ H0.out.2 #[.int .i64 3, .int .i64 p, .int .i64 v] rfl rfl rfl (by kernel_rfl) (by simp [Value.oneCell']) ?_; intro w6 hx6 hg6)
  refine bodyPost_ret (v := .agg #[.int .i64 3, .int .i64 p, .int .i64 v]) (results_cell_row rfl _ _ (w.heap.size + 1) _ #[.int .i64 3, .int .i64 p, .int .i64 v] _ _ rfl hx6 Tryz.underlying98 rfl (by kernel_rfl)) rfl ?_
  exact ⟨rfl, H0.out.1.grown hg6 H0.out.1.size (fun k hk => by cases hk; omega)⟩
end Go.Proofs.YtmgeecdgebemdaaGreatDoor.trc
