/- Several texts in one: VTrcJ VBotY VBotZ VBotT. -/
import Derived.Test.YtmgeecdgebemdaaGreatDoorGSigV45
import Derived.Test.YtmgeecdgebemdaaGreatDoorGSigV36
import Derived.Test.YtmgeecdgebemdaaGreatDoorGSigV17
import Derived.Deep.RegionLaw
import Derived.Deep.RegionHeld3
import Derived.Test.YtmgeecdgebemdaaGreatDoorGSigV37
import Derived.Test.YtmgeecdgebemdaaGreatDoorGSigV35
import Derived.Recover
import Derived.Laws.Pointers

/- Chapter 14 of the program: TraceOf: the steps of the current task, in new memory; nothing that was there is written. -/
namespace Go.Proofs.YtmgeecdgebemdaaGreatDoor.trc
open Go Go.ChangeShapes Go.WideShapes Go.ChangeAt Go.RowKit Go.Proofs.YtmgeecdgebemdaaGreatDoor.row Go.Proofs.YtmgeecdgebemdaaGreatDoor.val Go.Proofs.YtmgeecdgebemdaaGreatDoor.expr Go.Proofs.YtmgeecdgebemdaaGreatDoor.stm Go.Proofs.YtmgeecdgebemdaaGreatDoor.blk Go.Proofs.YtmgeecdgebemdaaGreatDoor.prg Go.Proofs.YtmgeecdgebemdaaGreatDoor.exe Go.Proofs.YtmgeecdgebemdaaGreatDoor.grow Go.Proofs.YtmgeecdgebemdaaGreatDoor.rss Go.Proofs.YtmgeecdgebemdaaGreatDoor.ctl Go.Proofs.YtmgeecdgebemdaaGreatDoor.sets Go.Proofs.YtmgeecdgebemdaaGreatDoor.wrt Go.Proofs.YtmgeecdgebemdaaGreatDoor.mem Go.Proofs.YtmgeecdgebemdaaGreatDoor.cst
theorem box_under {g B : Nat} {cs : Array Value} {t : TypeId} {w w' : World} (h : Box g cs t w) (hb : Below B w w') (hg : g < B) : Box g cs t w' := (hb.block g hg).trans h
theorem keep4C {w : World} {p q g : Nat} {f x1 : Value} {cs : Array Value} {t : TypeId} (hp : ∃ ft, Box p #[f] ft w) (hq : w.cell? ⟨q, 0, none⟩ = some x1) (hg : Box g cs t w) : w.cell? ⟨p, 0, none⟩ = some f ∧ w.cell? ⟨q, 0, none⟩ = some x1 ∧ w.cell? ⟨g, 0, none⟩ = cs[0]? ∧ w.cell? ⟨g, 1, none⟩ = cs[1]? := by
  obtain ⟨ft, hp⟩ := hp
  exact ⟨hp.cell 0, hq, hg.cell 0, hg.cell 1⟩
set_option maxHeartbeats 16000000 in
set_option maxRecDepth 100000 in
theorem impl_traceof : TrC := by
  intro a n cap P hz hcap w h am nm cm Mem hnm hcm hM ar nr cr R hnr hcr hR z r M U hT h8 hCT
  obtain ⟨W, hW⟩ : ∃ W, (w.alloc (.cells #[.slice a n cap] 26)).alloc (.cells zero2T 54) = W := ⟨_, rfl⟩
  have hBW : Below w.heap.size w W := by rw [← hW]; exact below_then (below_new w _) (below_new _ _)
  have hpx : Box w.heap.size #[.slice a n cap] 26 W := by rw [← hW]; exact (Box.new w _ _).alloc _
  have hex : Box (w.heap.size + 1) zero2T 54 W := by
    have h9 := Box.new (w.alloc (.cells #[.slice a n cap] 26)) zero2T 54
    rw [World.size_alloc] at h9
    rw [← hW]; exact h9
  have hWs : w.heap.size + 2 ≤ W.heap.size := by rw [← hW]; simp
  obtain ⟨rc, hrc⟩ := trOk_dec P Mem R z
  have HCN := Lib.hid (impl_cantrace a n cap P hz hcap W (h.below hBW) am nm cm Mem (hM.below hBW) ar nr cr R hnr (hR.below hBW) z h8 rc hrc)
  have c0 : W.cell? ⟨w.heap.size, 0, none⟩ = some (.slice a n cap) := hpx.cell 0
  have hWl : w.heap.size < W.heap.size ∧ w.heap.size + 1 < W.heap.size := by omega
  cases rc
  · obtain ⟨rfl, rfl, rfl⟩ : r = false ∧ M = [] ∧ U = [] := by
      rcases hT with ⟨h1, h2, h3, _⟩ | ⟨_, hk, _⟩
      · exact ⟨h1, h2, h3⟩
      · have := hrc.2 hk; cases this
    have H0 := Lib.hid (And.intro hex hBW)
    clear hpx hex hBW h hM hR hT hrc h8 hCT
    go_enter Tryz.func29, Tryz.ntmps29
    go_wp2_with (go_at_call 76; (with_reducible refine HCN.out.mono ?_); rintro e w2 ⟨rfl, hb2⟩; refine Hid.out ?_)
    have H2 := Lib.hid (And.intro (H0.out.1.below hb2) (below_then H0.out.2 hb2))
    clear hb2
    refine Lib.hid ?_
    go_wp2_with ((refine wpList_store_box rfl 54 _ _ rfl (w.heap.size + 1) _ _ H2.out.1 zero2T rfl rfl rfl (by kernel_rfl) (by simp [Value.oneCell']) ?_); intro w5 hx5 hg5; refine Hid.out ?_)
    have H5 := Lib.hid (And.intro hx5 (H2.out.2.grown hg5 H2.out.2.size (fun k hk => by cases hk; omega)))
    clear hx5 hg5
    refine Lib.hid ?_
    go_wp2
    refine bodyPost_ret (v := .tuple #[trV none 0 0 none 0 0, .bool false]) (results_box2 rfl _ _ (w.heap.size + 1) _ _ _ _ rfl rfl H5.out.1 Tryz.underlying54 rfl (by kernel_rfl)) rfl ?_
    exact ⟨_, _, _, _, _, _, rfl, ⟨World.ownsRow_nil _ _ _ _, World.ownsRow_nil _ _ _ _, .inl rfl⟩, H5.out.2⟩
  · obtain ⟨rfl, hok, t, T, hTA, hMe, hUe⟩ : r = true ∧ TrOk P Mem R z ∧ ∃ t T, TaskAt P (Mem.take 8) R (wT (Mem.getD 8 0)) t T ∧ M = (trRun Mem R z t T).M ++ endM P t (wN (Mem.getD 8 0)) (trRun Mem R z t T) ∧ U = (trRun Mem R z t T).x.U := by
      rcases hT with ⟨_, _, _, h⟩ | ⟨h1, h2, t, T, h3, h4, h5⟩
      · exact (h (hrc.1 rfl)).elim
      · exact ⟨h1, h2, t, T, h3, h4, h5⟩
    have hlM : Mem.length = 49 := hok.1.2.1
    obtain rfl : nm = 49 := by have := hM.1; omega
    obtain ⟨bm, om, x, rfl, hlm, hx8, hc8⟩ := (hM.below hBW).2 8 (by omega)
    have hX8 : Mem.getD 8 0 = x := by rw [List.getD_eq_getElem?_getD, hx8]; rfl
    have hctl := mem_ctl hok.1
    have hwok := hok.1.2.2.1
    have hcnt := hok.2.1
    rw [hX8] at hTA hMe h8 hctl hwok hcnt
    obtain ⟨j, hj⟩ : ∃ j : Nat, wT x = j := ⟨(wT x).toNat, by omega⟩
    obtain ⟨tl, htl⟩ : ∃ tl : Nat, wN x = tl := ⟨(wN x).toNat, by omega⟩
    rw [hj] at hTA hctl
    rw [htl] at hMe hctl
    have hun : unT x = (j : Int) ∧ unC x = 0 ∧ unN x = (tl : Int) := by unfold unT unC unN; rw [hwok]; exact ⟨hj, hcnt, htl⟩
    have HUN := Lib.hid (show ∀ w', Calls Tryz.prog 36 #[.int .i64 x] w' (RetT w' (j : Int) 0 (tl : Int)) from fun w' => impl_unpack_is x _ _ _ h8 hun w')
    have hlen := h.1
    have hjn : j < n := by omega
    obtain ⟨gt, off, t', ha, hlt, ht', ab, nb, cb, hrg, hbc, hrow⟩ := (h.below hBW).2 j hjn
    subst ha
    have hpt := task_par hTA
    obtain ⟨ht, hexp⟩ : P[j]? = some t ∧ exprOk t.o t.x t.y = true := by
      obtain ⟨_, _, _, j', hjj, ht2, _⟩ := id hTA
      obtain rfl : j = j' := by omega
      exact ⟨ht2, hTA.blk.2⟩
    obtain rfl : t' = t := by rw [ht] at ht'; exact (Option.some.inj ht').symm
    obtain ⟨y, hy⟩ : ∃ y, trRun Mem R z t' T = y := ⟨_, rfl⟩
    rw [hy] at hMe hUe
    have HTY := Lib.hid (And.intro hy (And.intro hMe (And.intro hUe (And.intro hpt (And.intro hTA (And.intro ht (And.intro hexp hok)))))))
    have H0 := Lib.hid (And.intro hpx (And.intro hex (And.intro hBW (And.intro (h.below hBW) (And.intro (hM.below hBW) (And.intro (hR.below hBW) (And.intro hrow (hCT.below hBW))))))))
    have HRG := Lib.hid hrg
    have hI : (j : Int) < n := by omega
    have hj0 : (0 : Int) ≤ j := by omega
    have HL := Lib.hid (And.intro hlm hlt)
    have HXJ := Lib.hid (And.intro hX8 (And.intro hj htl))
    have htl24 : tl ≤ 24 := by omega
    have hmf : ∀ (fn : Fn) (first cap : Array Value) (w : World), (Instr.makeFunc fn first cap).run Tryz.prog w = .ok (.func fn first cap) w := fun _ _ _ _ => rfl
    clear hpx hex hBW h hM hR hT hrc h8 hCT hTA hMe hUe hctl hwok hcnt hj htl hun hrg hrow hpt ht ht' hexp hy hok hlM hx8 hX8 hWs
    go_enter Tryz.func29, Tryz.ntmps29
    go_wp2_with (go_at_call 76; (with_reducible refine HCN.out.mono ?_); rintro e w2 ⟨rfl, hb2⟩; refine Hid.out ?_)
    have HB2 := Lib.hid hb2
    have k8 : w2.cell? ⟨bm, om + 8, none⟩ = some (.int .i64 x) := (hb2.cell (p := ⟨bm, om + 8, none⟩) HL.out.1).trans hc8
    have k0 : w2.cell? ⟨w.heap.size, 0, none⟩ = some (.slice (some ⟨gt, off, none⟩) n cap) := (hb2.cell (p := ⟨w.heap.size, 0, none⟩) hWl.1).trans c0
    have HRG2 := Lib.hid (range_below HRG.out HL.out.2 hb2)
    clear hb2
    refine Lib.hid ?_
    go_wp2_with (first
      | (go_at_call 36; (with_reducible refine (HUN.out _).mono ?_); rintro e w3 ⟨rfl, rfl⟩)
      | (refine wpList_load_mid rfl 96 _ rfl gt (off + j * 4) rfl (tkC ab nb cb t') _ HRG2.out Tryz.underlying96 rfl (by kernel_rfl) ?_)
      | ((refine wpList_store_box rfl 96 _ _ rfl w2.heap.size _ _ (Box.new w2 _ _) #[.slice ab nb cb, .int .i64 t'.o, .int .i64 t'.x, .int .i64 t'.y] rfl rfl rfl (by kernel_rfl) (by simp [Value.oneCell']) ?_); intro w3 hx3 hg3; refine Hid.out ?_))
    have hb3 : Below w2.heap.size w2 w3 := (below_new w2 _).grown hg3 (by simp) (fun k hk => by cases hk; exact Nat.le_refl _)
    have HX3 := Lib.hid (And.intro hx3 hb3)
    clear hx3 hg3 hb3 k8 k0
    refine Lib.hid ?_
    obtain ⟨W4, hW4⟩ : ∃ W4, ((w3.alloc (.cells #[] 98)).alloc (.cells #[.slice (some ⟨w3.heap.size, 0, none⟩) 0 0] 52)).alloc (.cells #[.func (.func 77) #[] #[.pointer (some ⟨w3.heap.size + 1, 0, none⟩)]] 102) = W4 := ⟨_, rfl⟩
    have hb4 : Below w3.heap.size w3 W4 := by rw [← hW4]; exact below_then (below_then (below_new _ _) (below_new _ _)) (below_new _ _)
    have hsA : W4.heap.size = w3.heap.size + 3 := by rw [← hW4]; simp
    have hxS : Box (w3.heap.size + 1) #[.slice (some ⟨w3.heap.size, 0, none⟩) 0 0] 52 W4 := by
      have h9 := Box.new (w3.alloc (.cells #[] 98)) #[.slice (some ⟨w3.heap.size, 0, none⟩) 0 0] 52
      rw [World.size_alloc] at h9
      rw [← hW4]; exact h9.alloc _
    have hxA : Box (w3.heap.size + 2) #[.func (.func 77) #[] #[.pointer (some ⟨w3.heap.size + 1, 0, none⟩)]] 102 W4 := by
      have h9 := Box.new ((w3.alloc (.cells #[] 98)).alloc (.cells #[.slice (some ⟨w3.heap.size, 0, none⟩) 0 0] 52)) #[.func (.func 77) #[] #[.pointer (some ⟨w3.heap.size + 1, 0, none⟩)]] 102
      rw [World.size_alloc, World.size_alloc] at h9
      rw [← hW4]; exact h9
    have hoS : W4.ownsRow W.heap.size 98 3 (.slice (some ⟨w3.heap.size, 0, none⟩) 0 0) 0 (microsC []) := by
      have h9 : (w3.alloc (.cells #[] 98)).ownsRow W.heap.size 98 3 (.slice (some ⟨w3.heap.size, 0, none⟩) 0 0) 0 (microsC []) := World.ownsRow_made w3 #[] 0 (Nat.le_trans HB2.out.size HX3.out.2.size) (by decide) rfl
      rw [← hW4]; exact (h9.alloc _).alloc _
    have hT4 := HX3.out.1.below hb4
    have hb24 := below_then HX3.out.2 hb4
    have hBW4 := below_then HB2.out hb24
    have HML := Lib.hid (impl_mustlog ab nb cb t' (by have := HTY.out.2.2.2.1.1.2.2; have := H0.out.2.2.2.2.2.2.1.1; omega) hbc W4 (H0.out.2.2.2.2.2.2.1.below hBW4) (logF t') (logF_is t'))
    have H4 := Lib.hid (And.intro hT4 (And.intro hxS (And.intro hxA (And.intro hoS hBW4))))
    have hw23 : w2.heap.size < w3.heap.size := HX3.out.1.lt
    have HSZ := Lib.hid hsA
    clear hb4 hxS hxA hoS hT4 hb24 hBW4
    go_wp2_with (first
      | (refine wpList_load_row rfl 96 _ rfl w2.heap.size rfl _ _ _ _ H4.out.1 Tryz.underlying96 rfl (by kernel_rfl) ?_)
      | (go_at_call 79; (with_reducible refine HML.out.mono ?_); rintro e w5 ⟨a4, n4, c4, rfl, ho4, hb5⟩; refine Hid.out ?_))
    have H5 := Lib.hid (And.intro ho4 hb5)
    clear ho4 hb5
    refine Lib.hid ?_
    go_wp2_with ((refine wpList_store_box rfl 105 _ _ rfl w5.heap.size _ _ (Box.new w5 _ _) #[.int .i64 j, .int .i64 0, .int .i64 tl, .slice a4 n4 c4] rfl rfl rfl (by kernel_rfl) (by simp [Value.oneCell']) ?_); intro w6 hx6 hg6; refine Hid.out ?_)
    have hb6 : Below w5.heap.size w5 w6 := (below_new w5 _).grown hg6 (by simp) (fun k hk => by cases hk; exact Nat.le_refl _)
    have hb46 := below_then H5.out.2 hb6
    have hBW6 := below_then H4.out.2.2.2.2 hb46
    have HMV := Lib.hid (impl_memvars_yes w6 bm om cm Mem (H0.out.2.2.2.2.1.below hBW6))
    have H6 := Lib.hid (And.intro hx6 (And.intro (H5.out.1.kept (grown_below hb6 none) (by cases a4 <;> simp [Value.ownBlock])) (And.intro hb46 hBW6)))
    have hw56 : w5.heap.size < w6.heap.size := hx6.lt
    have hw45 := H5.out.2.size
    clear hx6 hg6 hb6 hb46 hBW6
    refine Lib.hid ?_
    go_wp2_with (first
      | (go_at_call 38; (with_reducible refine HMV.out.mono ?_); rintro e w7 ⟨a0, n0, cv, rfl, ho0, hb7⟩; refine Hid.out ?_))
    obtain rfl : n0 = 8 := by have h1 := own_len ho0; rw [List.length_take, HTY.out.2.2.2.2.2.2.2.1.2.1] at h1; omega
    obtain ⟨gv, cw, e, hgv, hgvl⟩ := ho0.form (by omega)
    cases e
    have H7 := Lib.hid (And.intro ho0 (And.intro hb7 (And.intro hgv hgvl)))
    have hw67 := hb7.size
    clear ho0 hb7 hgv hgvl
    refine Lib.hid ?_
    go_wp2_with (go_at_call 80; (with_reducible refine (impl_sensorsfrom ar nr cr z _).mono ?_); rintro e w8 ⟨rfl, hb8, hxu, hxz⟩; refine Hid.out ?_)
    have H8 := Lib.hid (And.intro hb8 (And.intro hxu hxz))
    have hw78 : w7.heap.size + 1 < w8.heap.size := hxz.lt
    clear hb8 hxu hxz
    refine Lib.hid ?_
    go_wp2_with ((refine wpList_store_box rfl 110 _ _ rfl w8.heap.size _ _ (Box.new w8 _ _) #[.slice (some ⟨gv, 0, none⟩) 8 cv, .slice none 0 0, .slice none 0 0, fnS w7.heap.size (w7.heap.size + 1), .nilFunc] rfl rfl rfl (by kernel_rfl) (by simp [Value.oneCell']) ?_); intro w9 hx9 hg9; refine Hid.out ?_)
    have hb9 : Below w8.heap.size w8 w9 := (below_new w8 _).grown hg9 (by simp) (fun k hk => by cases hk; exact Nat.le_refl _)
    have e4 : w9.cell? ⟨w8.heap.size, 4, none⟩ = some .nilFunc := hx9.cell 4
    have f4 : w9.frozen? ⟨w8.heap.size, 4, none⟩ = false := hx9.frozen 4
    have hb49 : Below W4.heap.size W4 w9 := below_then H6.out.2.2.1 (below_then H7.out.2.1 (below_then H8.out.1 hb9))
    have hT9 : w9.cell? ⟨w2.heap.size, 0, none⟩ = some (.slice ab nb cb) := (H4.out.1.below hb49).cell 0
    have hne : w2.heap.size ≠ w8.heap.size := by omega
    have H9 := Lib.hid (And.intro hx9 (And.intro hb9 hb49))
    clear hx9 hg9 hb9 hb49
    obtain ⟨W10, hW10⟩ : ∃ W10, w9.setCell ⟨w8.heap.size, 4, none⟩ (.func (.func 81) #[] #[.pointer (some ⟨w3.heap.size + 2, 0, none⟩), .pointer (some ⟨w5.heap.size, 0, none⟩), .pointer (some ⟨w8.heap.size, 0, none⟩)]) = W10 := ⟨_, rfl⟩
    have hg10 : w9.grownBy W10 (some w8.heap.size) := by rw [← hW10]; exact grown_setCell w9 w8.heap.size 4 _
    have hx10 : Box w8.heap.size #[.slice (some ⟨gv, 0, none⟩) 8 cv, .slice none 0 0, .slice none 0 0, fnS w7.heap.size (w7.heap.size + 1), .func (.func 81) #[] #[.pointer (some ⟨w3.heap.size + 2, 0, none⟩), .pointer (some ⟨w5.heap.size, 0, none⟩), .pointer (some ⟨w8.heap.size, 0, none⟩)]] 110 W10 := by rw [← hW10]; exact H9.out.1.set 4 _
    have hP4 := HSZ.out
    have hW2 := HB2.out.size
    have hP10 : PxAt W.heap.size w8.heap.size ⟨gv, cv, none, 0, 0, none, 0, 0⟩ ⟨true, w7.heap.size, w7.heap.size + 1, ar, nr, cr, R, z⟩ (traceObs W.heap.size (w3.heap.size + 1) (w3.heap.size + 2) w5.heap.size w8.heap.size (lst (logF t') 8) j tl) ⟨Mem.take 8, [], []⟩ ⟨[], []⟩ (trF (w3.heap.size + 1) (w3.heap.size + 2) w5.heap.size (some ⟨w3.heap.size, 0, none⟩) 0 0 a4 n4 c4) W10 :=
      start_at (hlo := trivial) (by omega) rfl rfl (fun b hb => by have := H5.out.1.lt b hb; omega) (by omega) (by have := H7.out.2.2.1; omega) H7.out.2.2.2 rfl (by omega) hx10
        ((H4.out.2.1.below H9.out.2.2).grown hg10 (by intro e; have := Option.some.inj e; omega)) ((H4.out.2.2.1.below H9.out.2.2).grown hg10 (by intro e; have := Option.some.inj e; omega)) ((H6.out.1.below (below_then H7.out.2.1 (below_then H8.out.1 H9.out.2.1))).grown hg10 (by intro e; have := Option.some.inj e; omega))
        ((H8.out.2.1.below H9.out.2.1).grown hg10 (by intro e; have := Option.some.inj e; omega)) ((H8.out.2.2.below H9.out.2.1).grown hg10 (by intro e; have := Option.some.inj e; omega))
        (((H7.out.1.kept (grown_below (below_then H8.out.1 H9.out.2.1) none) (.inr (by simp [Value.ownBlock]))).kept hg10 (.inr (fun e => by have e2 : some gv = some w8.heap.size := e; have := Option.some.inj e2; have := H7.out.2.2.2; omega))).mono (by have := H6.out.2.2.2.size; omega))
        ((H4.out.2.2.2.1.kept (grown_below H9.out.2.2 none) (.inr (by simp [Value.ownBlock]))).kept hg10 (.inr (fun e => by have e2 : some w3.heap.size = some w8.heap.size := e; have := Option.some.inj e2; omega)))
        (((H6.out.2.1.kept (grown_below (below_then H7.out.2.1 (below_then H8.out.1 H9.out.2.1)) none) (by cases a4 <;> simp [Value.ownBlock])).kept hg10 (.inr (by intro e; have := (H5.out.1.lt _ e).2; omega))).mono (by omega))
    have hBW9 := below_then H4.out.2.2.2.2 H9.out.2.2
    have hBW10 : Below W.heap.size W W10 := hBW9.grown hg10 hBW9.size (fun k hk => by cases hk; omega)
    have hTELL := trace_tells W ⟨true, w7.heap.size, w7.heap.size + 1, ar, nr, cr, R, z⟩ rfl w8.heap.size (w3.heap.size + 1) (w3.heap.size + 2) w5.heap.size (lst (logF t') 8) j tl (lst_vrs _) (lst_len _ 8) (by omega) H0.out.2.2.2.2.2.2.2
    have hrun := impl_run W ⟨true, w7.heap.size, w7.heap.size + 1, ar, nr, cr, R, z⟩ (traceObs W.heap.size (w3.heap.size + 1) (w3.heap.size + 2) w5.heap.size w8.heap.size (lst (logF t') 8) j tl) ⟨H0.out.2.2.2.2.2.1, hnr, HTY.out.2.2.2.2.2.2.2.2.2.1, HTY.out.2.2.2.2.2.2.2.2.2.2⟩ w8.heap.size hTELL nb ab nb cb t'.b T (⟨Mem.take 8, [], []⟩, ⟨[], []⟩) W10 (Nat.le_refl _) hbc H0.out.2.2.2.2.2.2.1 HTY.out.2.2.2.1.1 HTY.out.2.2.2.1.2 (mem_vars HTY.out.2.2.2.2.2.2.2.1) (by have := cntZ_small HTY.out.2.2.2.1.1 HTY.out.2.2.2.1.2; simp [totZ, tot, traceObs]; omega) hBW10 ⟨_, _, hP10⟩
    have hZ : (execZ (PCf.src ⟨true, w7.heap.size, w7.heap.size + 1, ar, nr, cr, R, z⟩) (traceO (lst (logF t') 8) j tl) T (⟨Mem.take 8, [], []⟩, ⟨[], []⟩)).1 = y.x ∧ (execZ (PCf.src ⟨true, w7.heap.size, w7.heap.size + 1, ar, nr, cr, R, z⟩) (traceO (lst (logF t') 8) j tl) T (⟨Mem.take 8, [], []⟩, ⟨[], []⟩)).2 = ⟨y.M, y.L⟩ := by
      have h9 := txOf_exec (src := PCf.src ⟨true, w7.heap.size, w7.heap.size + 1, ar, nr, cr, R, z⟩) (D := lst (logF t') 8) (tk := j) (tl := tl) T (par_allS HTY.out.2.2.2.1.1 HTY.out.2.2.2.1.2) (⟨Mem.take 8, [], []⟩, ⟨[], []⟩)
      have h7 : y = texec (PCf.src ⟨true, w7.heap.size, w7.heap.size + 1, ar, nr, cr, R, z⟩) (lst (logF t') 8) j tl T (txOf (⟨Mem.take 8, [], []⟩, ⟨[], []⟩)) := by
        rw [← HTY.out.1]; unfold trRun; rw [HXJ.out.1, HXJ.out.2.1, HXJ.out.2.2]; rfl
      rw [← h7] at h9
      exact ⟨congrArg Tx.x h9, by rw [← h9]; rfl⟩
    have hz2 : execZ (PCf.src ⟨true, w7.heap.size, w7.heap.size + 1, ar, nr, cr, R, z⟩) (traceObs W.heap.size (w3.heap.size + 1) (w3.heap.size + 2) w5.heap.size w8.heap.size (lst (logF t') 8) j tl).toObm T (⟨Mem.take 8, [], []⟩, ⟨[], []⟩) = (y.x, ⟨y.M, y.L⟩) := Prod.ext hZ.1 hZ.2
    rw [hz2] at hrun
    have HRUN := Lib.hid hrun
    have HBW10 := Lib.hid hBW10
    have hT10 : W10.cell? ⟨w2.heap.size, 0, none⟩ = some (.slice ab nb cb) := (hg10.cell hT9 (by intro e; exact hne (Option.some.inj e)))
    clear hg10 hx10 hP10 hBW9 hBW10 hTELL hrun hZ hz2 hP4
    refine Lib.hid ?_
    go_wp2_with (go_at_call 84; (with_reducible refine HRUN.out.mono ?_); rintro e w11 ⟨rfl, hb11, ⟨gv1, cv1, a1, n1, c1, a2, n2, c2⟩, F11, hr11⟩; refine Hid.out ?_)
    have hP11 : PxAt W.heap.size w8.heap.size ⟨gv1, cv1, a1, n1, c1, a2, n2, c2⟩ ⟨true, w7.heap.size, w7.heap.size + 1, ar, nr, cr, R, z⟩ (traceObs W.heap.size (w3.heap.size + 1) (w3.heap.size + 2) w5.heap.size w8.heap.size (lst (logF t') 8) j tl) y.x ⟨y.M, y.L⟩ F11 w11 := hr11
    obtain ⟨aS, mS, cS0, aJ, mJ, cJ, hF11, hp11⟩ := hP11.ob
    subst hF11
    have hbD : Below w11.heap.size w11 w11.drew := Below.drew (Below.refl _ w11)
    have hPD := hP11.below hbD
    have hpD := hp11.below hbD
    have hBWD := below_then hb11 hbD
    obtain ⟨fta, hxa⟩ := hpD.bx
    have cS : w11.drew.cell? ⟨w3.heap.size + 2, 0, none⟩ = some (.func (.func 77) #[] #[.pointer (some ⟨w3.heap.size + 1, 0, none⟩)]) ∧ w11.drew.cell? ⟨w.heap.size, 0, none⟩ = some (.slice (some ⟨gt, off, none⟩) n cap) ∧ w11.drew.cell? ⟨w8.heap.size, 0, none⟩ = some (.slice (some ⟨gv1, 0, none⟩) 8 cv1) ∧ w11.drew.cell? ⟨w8.heap.size, 1, none⟩ = some (.slice a1 n1 c1) := ⟨hxa.cell 0, (H0.out.1.below hBWD).cell 0, hPD.box.cell 0, hPD.box.cell 1⟩
    have hl1 : w3.heap.size + 2 < w11.drew.heap.size := hpD.ga_lt
    have hl3 : w8.heap.size < w11.drew.heap.size := hPD.lt
    have hl2 : w.heap.size < w11.drew.heap.size := Nat.lt_of_lt_of_le hWl.1 hBWD.size
    have hyx : y.x = exec (liveSrc R z) T ⟨Mem.take 8, [], []⟩ := by rw [← HTY.out.1]; exact trRun_x ..
    have hyV : varsOk y.x.V = true := by rw [hyx]; exact exec_varsP (liveSrc_val R z) T (mem_vars HTY.out.2.2.2.2.2.2.2.1)
    have hyS := HTY.out.2.2.2.2.1.small (liveSrc R z)
    rw [← hyx] at hyS
    have hn1 : y.x.S.length = n1 := hP11.slen
    have hML := trRun_len HTY.out.2.2.2.2.1 Mem R z
    rw [HTY.out.1] at hML
    obtain ⟨X, hX⟩ : ∃ X, nx (evalV y.x.V t'.o t'.x t'.y) P.length = X := ⟨_, rfl⟩
    obtain ⟨Y8, hY8⟩ : ∃ Y8, packV X 0 (min 24 ((tl : Int) + (n1 : Int))) = Y8 := ⟨_, rfl⟩
    have HN := Lib.hid (impl_nexttask (some ⟨gt, off, none⟩) n cap P hz hcap w11.drew (H0.out.2.2.2.1.below hBWD) (some ⟨gv1, 0, none⟩) 8 cv1 y.x.V (by decide) hPD.vrow j X (.inl ⟨j, t', rfl, HTY.out.2.2.2.2.2.1, HTY.out.2.2.2.2.2.2.2.1.1, hyV, hX.symm⟩))
    have HCM := Lib.hid (show ∀ w', Below w11.drew.heap.size w11.drew w' → Calls Tryz.prog 85 #[.pointer (some ⟨w5.heap.size, 0, none⟩), .int .i64 X, .int .i64 n1] w' (fun e w2 => e = .returned (writeV ⟨8, Y8⟩) ∧ Below w'.heap.size w' w2) from fun w' hb => impl_commit w5.heap.size j y.L.length tl aJ mJ cJ (by omega) X n1 (by omega) Y8 hY8 w' (hpD.jn.below hb).box)
    have HAD := Lib.hid (show ∀ w', Below w11.drew.heap.size w11.drew w' → ∀ q, w11.drew.heap.size ≤ q → Box q (gcs writeC [⟨8, Y8⟩]).toArray 100 w' → Calls Tryz.prog 77 #[.int .i64 1, .slice (some ⟨q, 0, none⟩) 1 1, .pointer (some ⟨w3.heap.size + 1, 0, none⟩)] w' (AddOut W.heap.size (w3.heap.size + 1) aS mS cS0 (y.M ++ stepsOf 1 [⟨8, Y8⟩]) w') from fun w' hb q hq hx =>
      impl_add W.heap.size (w3.heap.size + 1) aS mS cS0 y.M w' (hpD.st.below hb) (by omega) 1 (some ⟨q, 0, none⟩) 1 1 [⟨8, Y8⟩] (GRow.of_box writeC_len hx rfl) (by decide) (fun b o e i hi => by
        have e1 : b = q := by cases e; rfl
        have := hpD.st.rows.bound i b hi
        omega))
    have HSX := Lib.hid (show ∀ w' w15, Below w11.drew.heap.size w11.drew w' → Below W.heap.size w' w15 → w15.cell? ⟨w.heap.size, 0, none⟩ = some (.slice (some ⟨gt, off, none⟩) n cap) from fun w' w15 h1 h2 => (box_under (H0.out.1.below (below_then hBWD h1)) h2 hWl.1).cell 0)
    have HME := Lib.hid (show y.M ++ stepsOf 1 [⟨8, Y8⟩] = M by
      rw [HTY.out.2.1]
      unfold endM
      rw [hX, hn1, hY8]; rfl)
    have HUE := Lib.hid (show U = y.x.U from HTY.out.2.2.1)
    have H11 := Lib.hid (And.intro hPD (And.intro hpD hBWD))
    clear hr11 hb11 hP11 hp11 hbD hPD hpD hBWD hxa hyx hyV hyS hn1 hML hX hY8 hT10 e4 f4
    refine Lib.hid ?_
    go_wp2
    go_region_held3 (fun w' => w'.cell? ⟨w3.heap.size + 2, 0, none⟩ = some (.func (.func 77) #[] #[.pointer (some ⟨w3.heap.size + 1, 0, none⟩)]) ∧ w'.cell? ⟨w.heap.size, 0, none⟩ = some (.slice (some ⟨gt, off, none⟩) n cap) ∧ w'.cell? ⟨w8.heap.size, 0, none⟩ = some (.slice (some ⟨gv1, 0, none⟩) 8 cv1) ∧ w'.cell? ⟨w8.heap.size, 1, none⟩ = some (.slice a1 n1 c1))
      (first
        | (exact cS)
        | (exact sA)
        | (exact sB)
        | (exact sC)
        | (exact sD))
      (first
        | (go_at_call 86; (with_reducible refine HN.out.mono ?_); rintro e w12 ⟨rfl, hb12⟩; have sA := keep4T hb12 hl1 hl2 hl3 cS; have H12 := Lib.hid hb12; have hs12 := hb12.size)
        | (go_at_call 85; (with_reducible refine (HCM.out _ H12.out).mono ?_); rintro e w13 ⟨rfl, hb13⟩; have sB := keep4T hb13 (Nat.lt_of_lt_of_le hl1 hs12) (Nat.lt_of_lt_of_le hl2 hs12) (Nat.lt_of_lt_of_le hl3 hs12) sA; have hs13 := hb13.size; have sC := keep4T (below_new w13 (.cells #[.int .i64 8, .int .i64 Y8] 100)) (Nat.lt_of_lt_of_le (Nat.lt_of_lt_of_le hl1 hs12) hs13) (Nat.lt_of_lt_of_le (Nat.lt_of_lt_of_le hl2 hs12) hs13) (Nat.lt_of_lt_of_le (Nat.lt_of_lt_of_le hl3 hs12) hs13) sB; have H13 := Lib.hid (below_then H12.out hb13); have H14 := Lib.hid (below_then (below_then H12.out hb13) (below_new w13 (.cells #[.int .i64 8, .int .i64 Y8] 100))))
        | (go_at_call 77; ((with_reducible refine (HAD.out _ H14.out w13.heap.size H13.out.size (Box.new w13 _ _)).mono ?_); rintro e w15 ⟨rfl, g15, c15, m15, hst15, hm15⟩; have h15 := (H11.out.2.1.below H14.out).st_moved hm15 hst15; have hP15 := (H11.out.1.below H14.out).told (t' := (⟨y.M ++ stepsOf 1 [⟨8, Y8⟩], y.L⟩ : Tt)) ⟨_, _, _, _, _, _, rfl, h15.1⟩ h15.2; have sD := keep4C h15.1.bx (HSX.out _ _ H14.out ((H11.out.1.below H14.out).told_below h15.2 (below_then H11.out.2.2 H14.out).size)) hP15.box))
        )
    all_goals
      have hB14 := below_then H11.out.2.2 H14.out
      have hB15' : Below W.heap.size W w15 := hB14.trans ((H11.out.1.below H14.out).told_below h15.2 hB14.size)
      have H15 := Lib.hid (And.intro h15.1 (And.intro hP15 (And.intro hB15' (H0.out.2.1.below hB15'))))
      have k0 : w15.cell? ⟨w3.heap.size + 1, 0, none⟩ = some (.slice (some ⟨g15, 0, none⟩) m15 c15) := h15.1.st.box.cell 0
      have k2 : w15.cell? ⟨w8.heap.size, 2, none⟩ = some (.slice a2 n2 c2) := hP15.box.cell 2
      clear h15 hP15 hB14 hB15' hst15 hm15 hb12 hb13 cS sA sB sC sD
      refine Lib.hid ?_
      go_wp2_with ((refine wpList_store_box rfl 54 _ _ rfl (w.heap.size + 1) _ _ H15.out.2.2.2 #[.slice (some ⟨g15, 0, none⟩) m15 c15, .slice a2 n2 c2] rfl rfl rfl (by kernel_rfl) (by simp [Value.oneCell']) ?_); intro w16 hx16 hg16; refine Hid.out ?_)
      have hO1 := (((H15.out.1.st.rows.own 0 _ rfl).kept hg16 (.inr (fun e => by have e2 : some g15 = some (w.heap.size + 1) := e; have := Option.some.inj e2; have := ((H15.out.1.st.rows.own 0 _ rfl).lt g15 rfl).1; omega))).mono (Nat.le_of_lt hWl.1))
      have hO2 := ((H15.out.2.1.used.kept hg16 (.inr (fun e => by have := (H15.out.2.1.used.lt _ e).1; omega))).mono (Nat.le_of_lt hWl.1))
      have hSP : (Value.slice (some ⟨g15, 0, none⟩) m15 c15).ownBlock ≠ (Value.slice a2 n2 c2).ownBlock := fun e => H15.out.2.1.d1 3 1 g15 (by show some (Value.slice a2 n2 c2).ownBlock = some (some g15); rw [← e]; rfl) rfl
      have H16 := Lib.hid (And.intro hx16 (And.intro hO1 (And.intro hO2 (And.intro hSP ((H0.out.2.2.1.trans (H15.out.2.2.1.mono (Nat.le_of_lt hWl.1))).grown hg16 (Nat.le_trans (Nat.le_of_lt hWl.1) H15.out.2.2.1.size) (fun k hk => by cases hk; omega))))))
      clear hx16 hg16 hO1 hO2 hSP k0 k2
      refine Lib.hid ?_
      go_wp2
      refine bodyPost_ret (v := .tuple #[trV (some ⟨g15, 0, none⟩) m15 c15 a2 n2 c2, .bool true]) (results_box2 rfl _ _ (w.heap.size + 1) _ _ _ _ rfl rfl H16.out.1 Tryz.underlying54 rfl (by kernel_rfl)) rfl ?_
      rw [← HME.out, HUE.out]
      exact ⟨_, _, _, _, _, _, rfl, ⟨H16.out.2.1, H16.out.2.2.1, .inr H16.out.2.2.2.1⟩, H16.out.2.2.2.2⟩
end Go.Proofs.YtmgeecdgebemdaaGreatDoor.trc

/- Chapter 16 of the program: a task of a boot: its trace is performed step by step; nothing else that was there is written. -/
namespace Go.Proofs.YtmgeecdgebemdaaGreatDoor.bot
open Go Go.ChangeShapes Go.WideShapes Go.ChangeAt Go.RowKit Go.Proofs.YtmgeecdgebemdaaGreatDoor.row Go.Proofs.YtmgeecdgebemdaaGreatDoor.val Go.Proofs.YtmgeecdgebemdaaGreatDoor.expr Go.Proofs.YtmgeecdgebemdaaGreatDoor.stm Go.Proofs.YtmgeecdgebemdaaGreatDoor.blk Go.Proofs.YtmgeecdgebemdaaGreatDoor.prg Go.Proofs.YtmgeecdgebemdaaGreatDoor.exe Go.Proofs.YtmgeecdgebemdaaGreatDoor.ctl Go.Proofs.YtmgeecdgebemdaaGreatDoor.mem Go.Proofs.YtmgeecdgebemdaaGreatDoor.grow Go.Proofs.YtmgeecdgebemdaaGreatDoor.wrt Go.Proofs.YtmgeecdgebemdaaGreatDoor.trc Go.Proofs.YtmgeecdgebemdaaGreatDoor.cst
theorem ne_own9 {v : Value} {a b g : Nat} (h : ∀ q, v.ownBlock = some q → a ≤ q ∧ q < b) (hg : g < a ∨ b ≤ g) : v.ownBlock = none ∨ v.ownBlock ≠ some g := by
  cases hq : v.ownBlock with
  | none => exact .inl rfl
  | some q => right; intro e; have := h q hq; have := Option.some.inj e; omega
end Go.Proofs.YtmgeecdgebemdaaGreatDoor.bot

/- Chapter 16 of the program: a boot's work, ended by its last task or by a power failure that the deferred call recovers. -/
namespace Go.Proofs.YtmgeecdgebemdaaGreatDoor.bot
open Go Go.ChangeShapes Go.WideShapes Go.ChangeAt Go.RowKit Go.Proofs.YtmgeecdgebemdaaGreatDoor.row Go.Proofs.YtmgeecdgebemdaaGreatDoor.val Go.Proofs.YtmgeecdgebemdaaGreatDoor.expr Go.Proofs.YtmgeecdgebemdaaGreatDoor.stm Go.Proofs.YtmgeecdgebemdaaGreatDoor.blk Go.Proofs.YtmgeecdgebemdaaGreatDoor.prg Go.Proofs.YtmgeecdgebemdaaGreatDoor.exe Go.Proofs.YtmgeecdgebemdaaGreatDoor.ctl Go.Proofs.YtmgeecdgebemdaaGreatDoor.mem Go.Proofs.YtmgeecdgebemdaaGreatDoor.grow Go.Proofs.YtmgeecdgebemdaaGreatDoor.wrt Go.Proofs.YtmgeecdgebemdaaGreatDoor.trc Go.Proofs.YtmgeecdgebemdaaGreatDoor.cst Go.Proofs.YtmgeecdgebemdaaGreatDoor.rcv
theorem word8 {P : List Tk} {W : List Int} (h : MemIs P W) : i64r (W.getD 8 0) := by
  have := pack_parts h.2.2.1
  omega
end Go.Proofs.YtmgeecdgebemdaaGreatDoor.bot

/- Chapter 16: BootTasks of the program and of the model. -/
namespace Go.Proofs.YtmgeecdgebemdaaGreatDoor.bot
open Go Go.ChangeShapes Go.WideShapes Go.ChangeAt Go.RowKit Go.Proofs.YtmgeecdgebemdaaGreatDoor.row Go.Proofs.YtmgeecdgebemdaaGreatDoor.val Go.Proofs.YtmgeecdgebemdaaGreatDoor.expr
end Go.Proofs.YtmgeecdgebemdaaGreatDoor.bot
