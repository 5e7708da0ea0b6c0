/- Several texts in one: RefT. -/
import Derived.Test.YtekdnhhmiabngaaGreatGHub28

/- Chapter 13 of the model: RefRun and RefTasks, in new memory; nothing that was there is written. -/
namespace Go.Proofs.YtekdnhhmiabngaaGreat.ref
open Go Go.ChangeShapes Go.WideShapes Go.ChangeAt Go.RowKit Go.Proofs.YtekdnhhmiabngaaGreat.row Go.Proofs.YtekdnhhmiabngaaGreat.val Go.Proofs.YtekdnhhmiabngaaGreat.expr Go.Proofs.YtekdnhhmiabngaaGreat.stm Go.Proofs.YtekdnhhmiabngaaGreat.blk Go.Proofs.YtekdnhhmiabngaaGreat.prg Go.Proofs.YtekdnhhmiabngaaGreat.exe Go.Proofs.YtekdnhhmiabngaaGreat.srow
set_option linter.unusedVariables false
set_option maxHeartbeats 8000000 in
set_option maxRecDepth 100000 in
theorem spec_refrun (a : Option Addr) (n cap : Nat) (P : List Tk) (hz : Sizes P) (w : World) (h : TkRow w a n P) (ad : Option Addr) (nv cv : Nat) (V : List Int) (hnv : (nv : Int) ≤ 1048576) (hV : Row w ad nv V) (au : Option Addr) (nu cu : Nat) (UU : List (List Int)) (hsz : SSizes UU) (hU : SRow w au nu UU)
    (i : Int) (r : Bool) (R : Rf) (hR : RefIs P V UU i r R) :
    Calls Tryz.prog 39 #[.agg #[.slice a n cap], .int .i64 i, .slice ad nv cv, .slice au nu cu] w (NewRefB w r R) := by
  obtain ⟨W, hW⟩ : ∃ W, (w.alloc (.cells #[.slice a n cap] 26)).alloc (.cells zero3R 60) = W := ⟨_, rfl⟩
  have hBW : Below w.heap.size w W := by rw [← hW]; exact below_then (below_new w _) (below_new _ _)
  have hpx : Box w.heap.size #[.slice a n cap] 26 W := by rw [← hW]; exact (Box.new w _ _).alloc _
  have hex : Box (w.heap.size + 1) zero3R 60 W := by
    have h9 := Box.new (w.alloc (.cells #[.slice a n cap] 26)) zero3R 60
    rw [World.size_alloc] at h9
    rw [← hW]; exact h9
  have hWl : w.heap.size < W.heap.size ∧ w.heap.size + 1 < W.heap.size := ⟨hpx.lt, hex.lt⟩
  have c0 : W.cell? ⟨w.heap.size, 0, none⟩ = some (.slice a n cap) := hpx.cell 0
  have HZ := Lib.hid (And.intro hz hsz)
  have H0 := Lib.hid (And.intro hpx (And.intro hex (And.intro hBW (And.intro (h.below hBW) (And.intro (hV.below hBW) (hU.below hBW))))))
  have HRI := Lib.hid hR
  clear hpx hex hBW h hV hU hz hsz hR
  obtain ⟨ro, hro⟩ := refOk_dec P V UU i
  have HRO := Lib.hid hro
  cases ro
  · obtain ⟨rfl, rfl⟩ : r = false ∧ R = zeroRf := by
      rcases HRI.out with ⟨h1, h2, _⟩ | ⟨_, h, _⟩
      · exact ⟨h1, h2⟩
      · have := hro.2 h; cases this
    clear hro
    go_enter Tryz.func39, Tryz.ntmps39
    go_wp2_with (go_at_call 80; (with_reducible refine (spec_refok a n cap P HZ.out.1 _ H0.out.2.2.2.1 ad nv cv V hnv H0.out.2.2.2.2.1 au nu cu UU HZ.out.2 H0.out.2.2.2.2.2 i false HRO.out).mono ?_); rintro e w2 ⟨rfl, hb2⟩; refine Hid.out ?_)
    have HB2 := Lib.hid hb2
    have HX2 := Lib.hid (H0.out.2.1.below hb2)
    clear hb2 c0
    refine Lib.hid ?_
    go_wp2_with (first
      | ((refine wpList_store_box rfl 60 _ _ rfl (w.heap.size + 1) _ _ HX2.out zero3R rfl rfl rfl (by kernel_rfl) (by simp [Value.oneCell']) ?_); intro w5 hx5 hg5; refine Hid.out ?_))
    have hB5 : Below w.heap.size w w5 := (H0.out.2.2.1.trans (HB2.out.mono (by omega))).grown hg5 (Nat.le_trans (by omega) HB2.out.size) (fun k hk => by cases hk; omega)
    have H9 := Lib.hid (And.intro hx5 hB5)
    clear hx5 hg5 hB5
    refine Lib.hid ?_
    go_wp2
    refine bodyPost_ret (v := .tuple #[refV none 0 0 none 0 0 zeroRf, .bool false]) (results_box2 rfl _ _ (w.heap.size + 1) _ _ _ _ rfl rfl H9.out.1 Tryz.underlying60 rfl (by kernel_rfl)) rfl ?_
    exact ⟨_, _, _, _, _, _, rfl, ⟨World.ownsRow_nil _ _ _ _, World.ownsRow_nil _ _ _ _, .inl rfl⟩, H9.out.2⟩
  · have hok := hro.1 rfl
    obtain ⟨rfl, hRR⟩ : r = true ∧ RunR P UU ⟨V, [], i⟩ R := by
      rcases HRI.out with ⟨_, _, h2⟩ | ⟨h1, _, h2⟩
      · exact absurd hok h2
      · exact ⟨h1, h2⟩
    have HOK := Lib.hid (And.intro hok hRR)
    clear hro hok hRR
    go_enter Tryz.func39, Tryz.ntmps39
    go_wp2_with (go_at_call 80; (with_reducible refine (spec_refok a n cap P HZ.out.1 _ H0.out.2.2.2.1 ad nv cv V hnv H0.out.2.2.2.2.1 au nu cu UU HZ.out.2 H0.out.2.2.2.2.2 i true HRO.out).mono ?_); rintro e w2 ⟨rfl, hb2⟩; refine Hid.out ?_)
    have HB2 := Lib.hid hb2
    have HX2 := Lib.hid (H0.out.2.1.below hb2)
    have d0 : w2.cell? ⟨w.heap.size, 0, none⟩ = some (.slice a n cap) := (hb2.cell (p := ⟨w.heap.size, 0, none⟩) hWl.1).trans c0
    clear hb2 c0
    refine Lib.hid ?_
    go_wp2_with (go_at_call 81; (with_reducible refine (spec_run a n cap P HZ.out.1 _ (H0.out.2.2.2.1.below HB2.out) ad nv cv V (H0.out.2.2.2.2.1.below HB2.out) au nu cu UU HZ.out.2 (H0.out.2.2.2.2.2.below HB2.out) i HOK.out.1 R HOK.out.2).mono ?_); rintro e w3 ⟨a1, n1, c1, a2, n2, c2, rfl, hm, hb3⟩; refine Hid.out ?_)
    have HX3 := Lib.hid (HX2.out.below hb3)
    have HB3 := Lib.hid (HB2.out.trans (hb3.mono HB2.out.size))
    have HM := Lib.hid hm
    clear hm hb3 d0
    refine Lib.hid ?_
    go_wp2_with ((refine wpList_store_box rfl 60 _ _ rfl (w.heap.size + 1) _ _ HX3.out #[.slice a1 n1 c1, .slice a2 n2 c2, .int .i64 R.T] rfl rfl rfl (by kernel_rfl) (by simp [Value.oneCell']) ?_); intro w5 hx5 hg5; refine Hid.out ?_)
    have hB5 : Below w.heap.size w w5 := (H0.out.2.2.1.trans (HB3.out.mono (by omega))).grown hg5 (Nat.le_trans (by omega) HB3.out.size) (fun k hk => by cases hk; omega)
    have hW2 : W.heap.size ≤ w2.heap.size := HB2.out.size
    have hlo : ∀ {v : Value} {m : Nat} {xs : List Value}, w3.ownsRow w2.heap.size 3 1 v m xs → w5.ownsRow w.heap.size 3 1 v m xs := fun {v m xs} h => (h.kept hg5 (.inr (fun e => by have := (h.lt _ e).1; omega))).mono (by omega)
    have H9 := Lib.hid (And.intro hx5 (And.intro hB5 (And.intro (hlo HM.out.1) (And.intro (hlo HM.out.2.1) HM.out.2.2))))
    clear hx5 hg5 hB5 hlo
    refine Lib.hid ?_
    go_wp2
    refine bodyPost_ret (v := .tuple #[refV a1 n1 c1 a2 n2 c2 R, .bool true]) (results_box2 rfl _ _ (w.heap.size + 1) _ _ _ _ rfl rfl H9.out.1 Tryz.underlying60 rfl (by kernel_rfl)) rfl ?_
    exact ⟨_, _, _, _, _, _, rfl, ⟨H9.out.2.2.1, H9.out.2.2.2.1, H9.out.2.2.2.2⟩, H9.out.2.1⟩
set_option maxHeartbeats 16000000 in
set_option maxRecDepth 100000 in
theorem spec_reftasks (a : Option Addr) (n cap : Nat) (P : List Tk) (hz : Sizes P) (w : World) (h : TkRow w a n P) (ad : Option Addr) (nv cv : Nat) (V : List Int) (hnv : (nv : Int) ≤ 1048576) (hV : Row w ad nv V) (au : Option Addr) (nu cu : Nat) (UU : List (List Int)) (hsz : SSizes UU) (hU : SRow w au nu UU)
    (i : Int) (L9 : List Int) (hL9 : TasksIs P V UU i L9) :
    Calls Tryz.prog 47 #[.agg #[.slice a n cap], .int .i64 i, .slice ad nv cv, .slice au nu cu] w (NewInts w L9) := by
  obtain ⟨i0, hi, hz0, hz1, hz2⟩ := info_parts row.infoInt
  obtain ⟨W, hW⟩ : ∃ W, (w.alloc (.cells #[.slice a n cap] 26)).alloc (.cells #[] 3) = W := ⟨_, rfl⟩
  have hBW : Below w.heap.size w W := by rw [← hW]; exact below_then (below_new w _) (below_new _ _)
  have hpx : Box w.heap.size #[.slice a n cap] 26 W := by rw [← hW]; exact (Box.new w _ _).alloc _
  have hox : W.ownsRow (w.heap.size + 1) 3 1 (.slice (some ⟨w.heap.size + 1, 0, none⟩) 0 0) 0 (ivs []) := by
    have h9 := made_at' (w.alloc (.cells #[.slice a n cap] 26)) (w.heap.size + 1) (w.heap.size + 1) (by simp) (Nat.le_refl _) 3
    rw [← hW]; exact h9
  have hWs : W.heap.size = w.heap.size + 2 := by rw [← hW]; simp
  have hWl : w.heap.size < W.heap.size := hpx.lt
  have c0 : W.cell? ⟨w.heap.size, 0, none⟩ = some (.slice a n cap) := hpx.cell 0
  have hul := hU.1
  have HZ := Lib.hid (And.intro hz hsz)
  have H0 := Lib.hid (And.intro hpx (And.intro hox (And.intro hBW (And.intro h (And.intro hV hU)))))
  have HLI := Lib.hid hL9
  clear hpx hox hBW h hV hU hz hsz hL9
  obtain ⟨ro, hro⟩ := refOk_dec P V UU i
  have HRO := Lib.hid hro
  cases ro
  · obtain rfl : L9 = [] := by
      rcases HLI.out with ⟨h1, _⟩ | ⟨h, _⟩
      · exact h1
      · have := hro.2 h; cases this
    clear hro
    go_enter Tryz.func47, Tryz.ntmps47
    go_wp2_with (go_at_call 80; (with_reducible refine (spec_refok a n cap P HZ.out.1 _ (H0.out.2.2.2.1.below H0.out.2.2.1) ad nv cv V hnv (H0.out.2.2.2.2.1.below H0.out.2.2.1) au nu cu UU HZ.out.2 (H0.out.2.2.2.2.2.below H0.out.2.2.1) i false HRO.out).mono ?_); rintro e w2 ⟨rfl, hb2⟩; refine Hid.out ?_)
    have H9 := Lib.hid (And.intro ((H0.out.2.1.kept (grown_below hb2 none) (.inr (by simp [Value.ownBlock]))).mono (show w.heap.size ≤ w.heap.size + 1 by omega)) (H0.out.2.2.1.trans (hb2.mono (by omega))))
    clear hb2 c0
    refine Lib.hid ?_
    go_wp2
    go_ret
    exact ⟨_, _, _, rfl, H9.out.1, H9.out.2⟩
  · have hok := hro.1 rfl
    have hRT : RunT P UU V i L9 := by
      rcases HLI.out with ⟨_, h2⟩ | ⟨_, h2⟩
      · exact absurd hok h2
      · exact h2
    have hnu : (nu : Int) ≤ 100 := by have := hok.2.1; omega
    have HOK := Lib.hid (And.intro hok hRT)
    have hV8 := ((varsOk_iff V).1 hok.1.2.1).1
    clear hro hok hRT
    go_enter Tryz.func47, Tryz.ntmps47
    go_wp2_with (go_at_call 80; (with_reducible refine (spec_refok a n cap P HZ.out.1 _ (H0.out.2.2.2.1.below H0.out.2.2.1) ad nv cv V hnv (H0.out.2.2.2.2.1.below H0.out.2.2.1) au nu cu UU HZ.out.2 (H0.out.2.2.2.2.2.below H0.out.2.2.1) i true HRO.out).mono ?_); rintro e w2 ⟨rfl, hb2⟩; refine Hid.out ?_)
    have hB2 : Below (w.heap.size + 1) W w2 := hb2.mono (by omega)
    have H2 := Lib.hid (And.intro (H0.out.2.1.kept (grown_below hb2 none) (.inr (by simp [Value.ownBlock]))) (And.intro hB2 ((H0.out.2.2.2.2.1.below (H0.out.2.2.1.trans (hb2.mono (by omega)))))))
    have hnv8 : nv = 8 := by have := H0.out.2.2.2.2.1.1; omega
    have HVB2 := Lib.hid (show ∀ b off, ad = some ⟨b, off, none⟩ → some b ≠ (Value.slice (some ⟨w.heap.size + 1, 0, none⟩) 0 0).ownBlock from fun b off e e2 => by
      obtain ⟨b', off', _, e', hl, _⟩ := H0.out.2.2.2.2.1.2 0 (by omega)
      rw [e] at e'; cases e'
      have h2 : b = w.heap.size + 1 := Option.some.inj e2
      omega)
    clear hb2 hB2 hnv8
    refine Lib.hid ?_
    go_wp2
    go_loopw [1, 2, 9, 10] (fun t' v' o' i' wr => ∃ (k : Nat) (R : Rf) (av : Option Addr) (nw cw : Nat) (ao : Option Addr) (co : Nat) (L : List Int), k ≤ nu ∧ i' = .int .i64 k ∧ t' = .int .i64 R.T ∧ v' = .slice av nw cw ∧ o' = .slice ao k co ∧
      Hid (RunR P (UU.take k) ⟨V, [], i⟩ R ∧ Sound P R.V R.T ∧ RunT P (UU.take k) V i L) ∧ Hid (Below (w.heap.size + 1) W wr) ∧ Hid (Row wr av nw R.V) ∧ Hid (wr.ownsRow (w.heap.size + 1) 3 1 (.slice ao k co) k (ivs L)) ∧ Hid (∀ b off, av = some ⟨b, off, none⟩ → some b ≠ (Value.slice ao k co).ownBlock)) (fun _ _ _ i' _ => nu - (intOf i').toNat)
    case atStart => exact ⟨0, ⟨V, [], i⟩, ad, nv, cv, some ⟨w.heap.size + 1, 0, none⟩, 0, [], Nat.zero_le _, rfl, rfl, rfl, rfl, ⟨by rw [List.take_zero]; exact .nil _, HOK.out.1.1, by rw [List.take_zero]; exact .nil _ _⟩, H2.out.2.1, H2.out.2.2, H2.out.1, HVB2.out⟩
    case round =>
      obtain ⟨k, R, av, nw, cw, ao, co, L, hk, rfl, rfl, rfl, rfl, HRUN, HBw, HRV, HO, HAP⟩ := hrel
      by_cases hlt : k < nu
      · have hI : (k : Int) < nu := by omega
        have hbwr : Below w.heap.size w wr := H0.out.2.2.1.trans (HBw.out.mono (by omega))
        obtain ⟨b, off, u, ab, nb, cb, rfl, hlb, hu, hcu, hle, hrow⟩ := H0.out.2.2.2.2.2.2 k hlt
        have hua : allV u = true := HOK.out.1.2.2 u (mem_atS hu)
        have hnb : (nb : Int) ≤ 1048576 := by have := HZ.out.2.2 u (mem_atS hu); rw [hrow.1] at this; omega
        obtain ⟨j, hj⟩ : ∃ j : Nat, R.T = j := ⟨R.T.toNat, by have := HRUN.out.2.1.2.2.1; omega⟩
        obtain ⟨t, T, ht, hT⟩ := taskAt_ex (j := j) HRUN.out.2.1.1 HRUN.out.2.1.2.1 hua (by have := HRUN.out.2.1.2.2.2; omega)
        obtain ⟨E, hE⟩ : ∃ E, effOf P t (exec (listSrc u) T ⟨R.V, [], []⟩) = E := ⟨_, rfl⟩
        have hEI : EffIs P R.V u R.T true E := by rw [hj]; exact .inr ⟨rfl, t, T, hT, hE.symm⟩
        have hsnd := EffIs.sound hEI HRUN.out.2.1 hua
        have HNXT := Lib.hid (show RunR P (UU.take (k + 1)) ⟨V, [], i⟩ ⟨E.V, box R.S E.S, E.N⟩ ∧ RunT P (UU.take (k + 1)) V i (L ++ [(j : Int)]) from ⟨by
          rw [List.take_add_one, hu]; exact HRUN.out.1.snoc ⟨E, hEI, rfl⟩, by
          rw [List.take_add_one, hu, ← hj]; exact HRUN.out.2.2.snoc HRUN.out.1 hEI⟩)
        have HSND := Lib.hid hsnd.1
        have hLk : L.length = k := own_len HO.out
        have HT := Lib.hid (And.intro hE (And.intro hT (And.intro hrow (And.intro hcu hbwr))))
        have HJ := Lib.hid hj
        clear hu hle ht hEI hsnd hua hE hT hrow hcu hbwr hj
        rw [HJ.out]
        go_wp2_with (at_builtin; refine wpList_append_own_at _ rfl _ _ 28 rfl (w.heap.size + 1) 3 i0 (.int .i64 0) 1 8 Tryz.underlying28 hi hz0 hz1 hz2 rfl (by decide) _ _ _ rfl (HO.out.alloc _) ⟨wr.heap.size, 0, none⟩ 1 1 [.int .i64 (j : Int)] rfl rfl (World.news_of_block (cs := #[.int .i64 (j : Int)]) (t := 3) (fr := (0, 0)) (heap_alloc_new wr _)) (by simp [Value.oneCell']) (by unfold maxLen; omega) (by omega) (by simp; have := HBw.out.size; omega) ?_; intro v4 w4 hown4 hgrow4 _ hat4; refine Hid.out ?_)
        rw [ivs_snoc] at hown4
        obtain ⟨g4, c4, rfl, hg4, hg4l⟩ := hown4.form (by omega)
        have hgr : wr.grownBy w4 (Value.slice ao k co).ownBlock := grown_trans (World.grownBy_alloc wr _ _) hgrow4
        have hB4 : Below (w.heap.size + 1) W w4 := HBw.out.grown hgr (by have := HBw.out.size; omega) (fun q hq => (HO.out.lt q hq).1)
        have hb4 : Below w.heap.size w w4 := H0.out.2.2.1.trans (hB4.mono (by omega))
        have hV4 : Row w4 av nw R.V := HRV.out.grown hgr HAP.out
        have hav : ∀ q off, av = some ⟨q, off, none⟩ → 0 < nw → q < wr.heap.size := fun q off e h0 => by
          obtain ⟨b', off', _, e', hl, _⟩ := HRV.out.2 0 h0
          rw [e] at e'; cases e'; exact hl
        have hcp : w4.cell? ⟨w.heap.size, 0, none⟩ = some (.slice a n cap) := (hB4.cell (p := ⟨w.heap.size, 0, none⟩) (by show w.heap.size < w.heap.size + 1; omega)).trans (H0.out.1.cell 0)
        have hcu4 : w4.cell? ⟨b, off + k, none⟩ = some (.slice ab nb cb) := (hb4.cell (p := ⟨b, off + k, none⟩) hlb).trans HT.out.2.2.2.1
        have hpl : w.heap.size < w4.heap.size := by have := hB4.size; omega
        have hbl : b < w4.heap.size := by omega
        have HD := Lib.hid (show Below w4.heap.size w4 w4.drew from Below.drew (Below.refl _ w4))
        have KEEP := Lib.hid (show ∀ w', Below w4.heap.size w4 w' → w'.cell? ⟨w.heap.size, 0, none⟩ = some (.slice a n cap) ∧ w'.cell? ⟨b, off + k, none⟩ = some (.slice ab nb cb) from fun w' hb => ⟨(hb.cell (p := ⟨w.heap.size, 0, none⟩) hpl).trans hcp, (hb.cell (p := ⟨b, off + k, none⟩) hbl).trans hcu4⟩)
        have HEF := Lib.hid (show ∀ w', Below w4.heap.size w4 w' → Calls Tryz.prog 72 #[.agg #[.slice a n cap], .int .i64 j, .slice av nw cw, .slice ab nb cb] w' (NewEff w' E) from fun w' hb => by
          have hb9 : Below w.heap.size w w' := hb4.trans (hb.mono (by omega))
          have h9 := spec_effect a n cap P HZ.out.1 w' (H0.out.2.2.2.1.below hb9) av nw cw R.V (hV4.below hb) ab nb cb u hnb (HT.out.2.2.1.below hb9) j t T HT.out.2.1
          rw [HT.out.1] at h9; exact h9)
        have H4 := Lib.hid (And.intro hown4 (And.intro hB4 hgr))
        have hcap4 : w4.heap.size < w4.heap.size + 1 := by omega
        clear hown4 hgrow4 hat4 hgr hB4 hb4 hV4 hav hcp hcu4
        refine Lib.hid ?_
        go_wp2
        refine wp_region_held_drew (S := (fun w' => w'.cell? ⟨w.heap.size, 0, none⟩ = some (.slice a n cap) ∧ w'.cell? ⟨b, off + k, none⟩ = some (.slice ab nb cb))) (by kernel_rfl) (KEEP.out _ HD.out) (fun hHeld => ?_)
        obtain ⟨y0, hy0⟩ : ∃ z, w4.drew = z := ⟨_, rfl⟩
        have hb0 : Below w4.heap.size w4 y0 := by rw [← hy0]; exact HD.out
        rw [hy0] at hHeld ⊢
        clear hy0
        refine wpAnyH_take (i := 0) (v := .agg #[.slice a n cap]) rfl (by kernel_rfl) (by kernel_rfl) (by kernel_rfl) (fun _ _ _ h => h) (Or.inl ⟨by rfl, (by intro w' hSw; (try dsimp only at hSw); go_simp)⟩) (by assumption) ?_
        try simp only [Act.put, List.getElem_toArray, List.getElem_cons_zero, List.setIfInBounds_toArray, List.set_cons_zero, List.set_cons_succ]
        refine wpAnyH_take (i := 1) (v := .int .i64 (j : Int)) rfl (by kernel_rfl) (by kernel_rfl) (by kernel_rfl) (fun _ _ _ h => h) (Or.inl ⟨by rfl, (by intro w' hSw; (try dsimp only at hSw); go_simp)⟩) (by assumption) ?_
        try simp only [Act.put, List.getElem_toArray, List.getElem_cons_zero, List.getElem_cons_succ, List.setIfInBounds_toArray, List.set_cons_zero, List.set_cons_succ]
        refine wpAnyH_take (i := 2) (v := .slice av nw cw) rfl (by kernel_rfl) (by kernel_rfl) (by kernel_rfl) (fun _ _ _ h => h) (Or.inl ⟨by rfl, (by intro w' hSw; (try dsimp only at hSw); go_simp)⟩) (by assumption) ?_
        try simp only [Act.put, List.getElem_toArray, List.getElem_cons_zero, List.getElem_cons_succ, List.setIfInBounds_toArray, List.set_cons_zero, List.set_cons_succ]
        refine wpAnyH_take (i := 3) (v := .slice (some ⟨b, off, none⟩) nu cu) rfl (by kernel_rfl) (by kernel_rfl) (by kernel_rfl) (fun _ _ _ h => h) (Or.inl ⟨by rfl, (by intro w' hSw; (try dsimp only at hSw); go_simp)⟩) (by assumption) ?_
        try simp only [Act.put, List.getElem_toArray, List.getElem_cons_zero, List.getElem_cons_succ, List.setIfInBounds_toArray, List.set_cons_zero, List.set_cons_succ]
        refine wpAnyH_take (i := 4) (v := .int .i64 (k : Int)) rfl (by kernel_rfl) (by kernel_rfl) (by kernel_rfl) (fun _ _ _ h => h) (Or.inl ⟨by rfl, (by intro w' hSw; (try dsimp only at hSw); go_simp)⟩) (by assumption) ?_
        try simp only [Act.put, List.getElem_toArray, List.getElem_cons_zero, List.getElem_cons_succ, List.setIfInBounds_toArray, List.set_cons_zero, List.set_cons_succ]
        refine wpAnyH_take (i := 5) (v := .pointer (some ⟨b, off + k, none⟩)) rfl (by kernel_rfl) (by kernel_rfl) (by kernel_rfl) (fun _ _ _ h => h) (Or.inl ⟨by rfl, (by intro w' hSw; (try dsimp only at hSw); go_simp)⟩) (by assumption) ?_
        try simp only [Act.put, List.getElem_toArray, List.getElem_cons_zero, List.getElem_cons_succ, List.setIfInBounds_toArray, List.set_cons_zero, List.set_cons_succ]
        refine wpAnyH_take (i := 6) (v := .slice ab nb cb) rfl (by kernel_rfl) (by kernel_rfl) (by kernel_rfl) (fun _ _ _ h => h) (Or.inl ⟨by rfl, (by intro w' hSw; (try dsimp only at hSw); go_simp)⟩) (by assumption) ?_
        try simp only [Act.put, List.getElem_toArray, List.getElem_cons_zero, List.getElem_cons_succ, List.setIfInBounds_toArray, List.set_cons_zero, List.set_cons_succ]
        refine wpAnyH_ready (rs := [7, 8]) (by kernel_rfl) (by simp) ?_
        refine AllReadyH.cons rfl (fun K hK => ?_) ?_
        rw [if_pos (by kernel_rfl)]
        go_simp
        go_at_call 72
        refine (HEF.out y0 hb0).mono ?_
        rintro e y1 ⟨e1, m1, k1, e2, m2, k2, rfl, hm, hbc⟩
        have hb1 : Below w4.heap.size w4 y1 := below_then hb0 hbc
        refine hK.out _ _ (KEEP.out _ hb1) (fun hHeld1 => ?_)
        clear hK K hHeld
        try simp only [Act.put, List.getElem_toArray, List.getElem_cons_zero, List.getElem_cons_succ, List.setIfInBounds_toArray, List.set_cons_zero, List.set_cons_succ]
        refine wpAnyH_ready (rs := [8]) (by kernel_rfl) (by simp) ?_
        refine AllReadyH.cons rfl (fun K hK => ?_) AllReadyH.nil
        obtain ⟨yn, hyn⟩ : ∃ z, y1.alloc (.cells zero4E 37) = z := ⟨_, rfl⟩
        obtain ⟨gE, hgE⟩ : ∃ g, y1.heap.size = g := ⟨_, rfl⟩
        have hbn : Below w4.heap.size w4 yn := by rw [← hyn]; exact below_then hb1 (below_new _ _)
        have hEn : Box gE zero4E 37 yn := by rw [← hyn, ← hgE]; exact Box.new _ _ _
        have hEln : w4.heap.size ≤ gE := by rw [← hgE]; exact hb1.size
        have hVn := (hm.1.mono hb0.size).alloc (.cells zero4E 37)
        rw [hyn] at hVn
        have hSn := (hm.2.1.mono hb0.size).alloc (.cells zero4E 37)
        rw [hyn] at hSn
        have hapn := hm.2.2
        have hVEn := ne_own9 hm.1.lt (.inr (show y1.heap.size ≤ gE by omega))
        have hSEn := ne_own9 hm.2.1.lt (.inr (show y1.heap.size ≤ gE by omega))
        rw [if_pos (by kernel_rfl)]
        go_simp
        (try rw [hyn])
        (try rw [hgE])
        refine hK.out _ _ (KEEP.out _ hbn) (fun hHeldn => ?_)
        try simp only [Act.put, List.getElem_toArray, List.getElem_cons_zero, List.getElem_cons_succ, List.setIfInBounds_toArray, List.set_cons_zero, List.set_cons_succ]
        clear hK K hyn hgE hHeld1 hm hbc hb1 y1 hb0 y0
        revert hSEn
        revert hVEn
        revert hapn
        revert hSn
        revert hVn
        revert hEln
        revert hEn
        revert hbn
        revert hHeldn
        revert k2
        revert m2
        revert e2
        revert k1
        revert m1
        revert e1
        revert gE
        revert yn
        refine ?stoB
        rotate_left
        refine AllReadyH.cons rfl (fun K hK => ?_) ?_
        obtain ⟨y1, hy1⟩ : ∃ z, y0.alloc (.cells zero4E 37) = z := ⟨_, rfl⟩
        obtain ⟨gE, hgE⟩ : ∃ g, y0.heap.size = g := ⟨_, rfl⟩
        have hb1 : Below w4.heap.size w4 y1 := by rw [← hy1]; exact below_then hb0 (below_new _ _)
        have hE1 : Box gE zero4E 37 y1 := by rw [← hy1, ← hgE]; exact Box.new _ _ _
        have hEln : w4.heap.size ≤ gE := by rw [← hgE]; exact hb0.size
        rw [if_pos (by kernel_rfl)]
        go_simp
        (try rw [hy1])
        (try rw [hgE])
        refine hK.out _ _ (KEEP.out _ hb1) (fun hHeld1 => ?_)
        try simp only [Act.put, List.getElem_toArray, List.getElem_cons_zero, List.getElem_cons_succ, List.setIfInBounds_toArray, List.set_cons_zero, List.set_cons_succ]
        clear hK K hy1 hgE hHeld
        refine wpAnyH_ready (rs := [7]) (by kernel_rfl) (by simp) ?_
        refine AllReadyH.cons rfl (fun K hK => ?_) AllReadyH.nil
        rw [if_pos (by kernel_rfl)]
        go_simp
        go_at_call 72
        refine (HEF.out y1 hb1).mono ?_
        rintro e yn ⟨e1, m1, k1, e2, m2, k2, rfl, hm, hbc⟩
        have hbn : Below w4.heap.size w4 yn := below_then hb1 hbc
        have hEn := hE1.below hbc
        have hVn := hm.1.mono hb1.size
        have hSn := hm.2.1.mono hb1.size
        have hapn := hm.2.2
        have hVEn := ne_own9 hm.1.lt (.inl hE1.lt)
        have hSEn := ne_own9 hm.2.1.lt (.inl hE1.lt)
        refine hK.out _ _ (KEEP.out _ hbn) (fun hHeldn => ?_)
        try simp only [Act.put, List.getElem_toArray, List.getElem_cons_zero, List.getElem_cons_succ, List.setIfInBounds_toArray, List.set_cons_zero, List.set_cons_succ]
        clear hK K hHeld1 hm hbc hE1 hb1 y1 hb0 y0
        revert hSEn
        revert hVEn
        revert hapn
        revert hSn
        revert hVn
        revert hEln
        revert hEn
        revert hbn
        revert hHeldn
        revert k2
        revert m2
        revert e2
        revert k1
        revert m1
        revert e1
        revert gE
        revert yn
        refine ?stoB
        exact AllReadyH.nil
        intro y gE e1 m1 k1 e2 m2 k2 hHeld hb hE hEl hV hS hap hVE hSE
        refine wpAnyH_ready (rs := [9]) (by kernel_rfl) (by simp) ?_
        refine AllReadyH.cons rfl (fun K hK => ?_) AllReadyH.nil
        have z0 : y.cell? ⟨gE, 0, none⟩ = some (.slice none 0 0) := hE.cell 0
        have f0 : y.frozen? ⟨gE, 0, none⟩ = false := hE.frozen 0
        have z1 : y.cell? ⟨gE, 1, none⟩ = some (.slice none 0 0) := hE.cell 1
        have f1 : y.frozen? ⟨gE, 1, none⟩ = false := hE.frozen 1
        have z2 : y.cell? ⟨gE, 2, none⟩ = some (.int .i64 0) := hE.cell 2
        have f2 : y.frozen? ⟨gE, 2, none⟩ = false := hE.frozen 2
        have z3 : y.cell? ⟨gE, 3, none⟩ = some (.int .i64 0) := hE.cell 3
        have f3 : y.frozen? ⟨gE, 3, none⟩ = false := hE.frozen 3
        have hgs : y.grownBy ((((y.setCell ⟨gE, 0, none⟩ (.slice e1 m1 k1)).setCell ⟨gE, 1, none⟩ (.slice e2 m2 k2)).setCell ⟨gE, 2, none⟩ (.int .i64 E.N)).setCell ⟨gE, 3, none⟩ (.int .i64 E.U)) (some gE) := grown_trans (grown_trans (grown_trans (grown_setCell _ _ _ _) (grown_setCell _ _ _ _)) (grown_setCell _ _ _ _)) (grown_setCell _ _ _ _)
        have hx : Box gE #[.slice e1 m1 k1, .slice e2 m2 k2, .int .i64 E.N, .int .i64 E.U] 37 ((((y.setCell ⟨gE, 0, none⟩ (.slice e1 m1 k1)).setCell ⟨gE, 1, none⟩ (.slice e2 m2 k2)).setCell ⟨gE, 2, none⟩ (.int .i64 E.N)).setCell ⟨gE, 3, none⟩ (.int .i64 E.U)) := (((hE.set 0 _).set 1 _).set 2 _).set 3 _
        obtain ⟨yn, hyn⟩ : ∃ z, ((((y.setCell ⟨gE, 0, none⟩ (.slice e1 m1 k1)).setCell ⟨gE, 1, none⟩ (.slice e2 m2 k2)).setCell ⟨gE, 2, none⟩ (.int .i64 E.N)).setCell ⟨gE, 3, none⟩ (.int .i64 E.U)) = z := ⟨_, rfl⟩
        rw [hyn] at hgs hx
        have hbn : Below w4.heap.size w4 yn := hb.grown hgs hb.size (fun q hq => by cases hq; exact hEl)
        have hVn := hV.kept hgs hVE
        have hSn := hS.kept hgs hSE
        rw [if_pos (by kernel_rfl)]
        go_simp
        (try rw [hyn])
        refine hK.out _ _ (KEEP.out _ hbn) (fun hHeldn => ?_)
        clear hK K hyn z0 z1 z2 z3 f0 f1 f2 f3 hHeld
        try simp only [Act.put, List.getElem_toArray, List.getElem_cons_zero, List.getElem_cons_succ, List.setIfInBounds_toArray, List.set_cons_zero, List.set_cons_succ]
        refine wpAnyH_done (by kernel_rfl) ?_ _
        clear hHeldn hgs hE hV hS hb
        have hml : E.V.length = m1 := own_len hVn
        have q0 : yn.cell? ⟨gE, 0, none⟩ = some (.slice e1 m1 k1) := hx.cell 0
        have q2 : yn.cell? ⟨gE, 2, none⟩ = some (.int .i64 E.N) := hx.cell 2
        have H9 := Lib.hid (And.intro (H4.out.2.1.trans (hbn.mono (by have := H4.out.2.1.size; omega))) (And.intro (Row.of_own hVn) (H4.out.1.kept (grown_below hbn none) (.inr (by simp [Value.ownBlock])))))
        have HAP9 := Lib.hid (show ∀ q off, e1 = some ⟨q, off, none⟩ → some q ≠ (Value.slice (some ⟨g4, 0, none⟩) (k + 1) c4).ownBlock from fun q off e e2 => by
          have h2 : q = g4 := Option.some.inj e2
          rcases hVn.2 with ⟨hv, _⟩ | ⟨q', cq, cur, hv, hlo, _⟩
          · rw [e] at hv; cases hv
          · have h7 : q = q' := by rw [e] at hv; injection hv with h1; injection h1 with h1; injection h1
            omega)
        clear hx hVn hSn hbn KEEP HEF HD hap hVE hSE
        go_wp2
        go_roundw
        case rel => exact ⟨k + 1, ⟨E.V, box R.S E.S, E.N⟩, e1, m1, k1, some ⟨g4, 0, none⟩, c4, _, by omega, by go_num, rfl, rfl, rfl, ⟨HNXT.out.1, HSND.out, HNXT.out.2⟩, H9.out.1, H9.out.2.1, H9.out.2.2, HAP9.out⟩
        case measure => simp [intOf]; omega
      · obtain rfl : k = nu := by omega
        have hI : ¬ (k : Int) < k := by omega
        obtain rfl : L = L9 := by
          have h1 := HRUN.out.2.2
          rw [List.take_of_length_le (by omega)] at h1
          exact h1.unique HOK.out.2
        have H9 := Lib.hid (And.intro (HO.out.mono (show w.heap.size ≤ w.heap.size + 1 by omega)) (H0.out.2.2.1.trans (HBw.out.mono (by omega))))
        go_wp2
        go_ret
        exact ⟨_, _, _, rfl, H9.out.1, H9.out.2⟩
end Go.Proofs.YtekdnhhmiabngaaGreat.ref
