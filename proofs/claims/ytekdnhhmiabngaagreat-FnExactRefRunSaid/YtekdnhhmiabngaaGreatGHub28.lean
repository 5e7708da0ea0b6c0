/- Several texts in one: RefN. -/
import Derived.Test.YtekdnhhmiabngaaGreatGHub27
import Derived.Test.YtekdnhhmiabngaaGreatGHub2
import Derived.Deep.RegionHeld3
import Derived.Deep.RegionLaw

/- Chapter 13 of the model: a reference run, in new memory; nothing that was there is written. -/
namespace Go.Proofs.YtekdnhhmiabngaaGreat.ref
open Go Go.ChangeShapes Go.WideShapes Go.ChangeAt Go.RowKit Go.Proofs.YtekdnhhmiabngaaGreat.row Go.Proofs.YtekdnhhmiabngaaGreat.val Go.Proofs.YtekdnhhmiabngaaGreat.expr Go.Proofs.YtekdnhhmiabngaaGreat.stm Go.Proofs.YtekdnhhmiabngaaGreat.blk Go.Proofs.YtekdnhhmiabngaaGreat.prg Go.Proofs.YtekdnhhmiabngaaGreat.exe Go.Proofs.YtekdnhhmiabngaaGreat.srow
set_option linter.unusedVariables false
theorem ne_own9 {v : Value} {a b g : Nat} (h : ∀ q, v.ownBlock = some q → a ≤ q ∧ q < b) (hg : g < a ∨ b ≤ g) : v.ownBlock = none ∨ v.ownBlock ≠ some g := by
  cases hq : v.ownBlock with
  | none => exact .inl rfl
  | some q => right; intro e; have := h q hq; have := Option.some.inj e; omega
/-- The state of a run in memory: a struct in the block 'g' that holds two rows of its own. -/
def RnR (B g : Nat) (R : Rf) (w : World) : Prop := ∃ (a1 : Option Addr) (n1 c1 : Nat) (a2 : Option Addr) (n2 c2 : Nat),
  Box g #[.slice a1 n1 c1, .slice a2 n2 c2, .int .i64 R.T] 60 w ∧ w.ownsRow B 3 1 (.slice a1 n1 c1) n1 (ivs R.V) ∧ w.ownsRow B 3 1 (.slice a2 n2 c2) n2 (ivs R.S) ∧
  ((Value.slice a1 n1 c1).ownBlock = none ∨ (Value.slice a1 n1 c1).ownBlock ≠ (Value.slice a2 n2 c2).ownBlock) ∧ (Value.slice a1 n1 c1).ownBlock ≠ some g ∧ (Value.slice a2 n2 c2).ownBlock ≠ some g
theorem take_len {w : World} {ad : Option Addr} {n : Nat} {UU : List (List Int)} (h : SRow w ad n UU) : UU.take n = UU := List.take_of_length_le (by rw [h.1]; exact Nat.le_refl _)
set_option maxHeartbeats 16000000 in
set_option maxRecDepth 100000 in
theorem spec_run (a : Option Addr) (n cap : Nat) (P : List Tk) (hz : Sizes P) (w : World) (h : TkRow w a n P) (ad : Option Addr) (nv cv : Nat) (V : List Int) (hV : Row w ad nv V) (au : Option Addr) (nu cu : Nat) (UU : List (List Int)) (hsz : SSizes UU) (hU : SRow w au nu UU)
    (i : Int) (hok : RefOk P V UU i) (R9 : Rf) (hR9 : RunR P UU ⟨V, [], i⟩ R9) :
    Calls Tryz.prog 81 #[.agg #[.slice a n cap], .int .i64 i, .slice ad nv cv, .slice au nu cu] w (NewRef w R9) := by
  obtain ⟨i0, hi, hz0, hz1, hz2⟩ := info_parts row.infoInt
  obtain ⟨W, hW⟩ : ∃ W, (w.alloc (.cells #[.slice a n cap] 26)).alloc (.cells zero3R 60) = W := ⟨_, rfl⟩
  have hBW : Below w.heap.size w W := by rw [← hW]; exact below_then (below_new w _) (below_new _ _)
  have hpx : Box w.heap.size #[.slice a n cap] 26 W := by rw [← hW]; exact (Box.new w _ _).alloc _
  have hex : Box (w.heap.size + 1) zero3R 60 W := by
    have h9 := Box.new (w.alloc (.cells #[.slice a n cap] 26)) zero3R 60
    rw [World.size_alloc] at h9
    rw [← hW]; exact h9
  have hWs : W.heap.size = w.heap.size + 2 := by rw [← hW]; simp
  have hV8 := ((varsOk_iff V).1 hok.1.2.1).1
  obtain rfl : nv = 8 := by have := hV.1; omega
  obtain ⟨bv, ov, xv, rfl, _, _, _⟩ := hV.2 0 (by omega)
  have hul := hU.1
  have hlen := h.1
  have hnu : (nu : Int) ≤ 100 := by have := hok.2.1; omega
  have H0 := Lib.hid (And.intro hpx (And.intro hex (And.intro hBW (And.intro (h.below hBW) (And.intro (hV.below hBW) (hU.below hBW))))))
  have HN := Lib.hid (news_of' W (hV.below hBW))
  have HOK := Lib.hid (And.intro hok hR9)
  have HZ := Lib.hid (And.intro hz hsz)
  have hWl : w.heap.size < W.heap.size ∧ w.heap.size + 1 < W.heap.size := by omega
  clear hpx hex hBW h hV hU hWs hok hR9 hz hsz
  go_enter Tryz.func81, Tryz.ntmps81
  go_wp2_with (at_builtin; (refine wpList_append_own_at _ rfl _ _ 28 rfl W.heap.size 3 i0 (.int .i64 0) 1 8 Tryz.underlying28 hi hz0 hz1 hz2 rfl (by decide) _ _ _ rfl (made_at' W W.heap.size W.heap.size rfl (Nat.le_refl _) _) ⟨bv, ov, none⟩ 8 cv (ivs V) rfl (by simp [ivs, hV8]) HN.out (ivs_one' V) (by unfold maxLen; omega) (by omega) (by simp) ?_); intro v1 w1 hown hgrow _ hat; refine Hid.out ?_)
  rw [Nat.zero_add, List.nil_append] at hown
  obtain ⟨g1, c1, rfl, hg1, hg1l⟩ := hown.form (by omega)
  have hb1 : Below W.heap.size W w1 := ((Below.refl _ W).alloc (Nat.le_refl _) _).grown hgrow (by simp) (fun k hk => by cases hk; exact Nat.le_refl _)
  have hg1W : g1 < w1.heap.size := hg1l
  have H1 := Lib.hid (And.intro hown (And.intro hb1 hg1))
  clear hown hgrow hat hb1 HN
  obtain ⟨W2, hW2⟩ : ∃ W2, (w1.alloc (.cells #[] 3)).alloc (.cells zero3R 60) = W2 := ⟨_, rfl⟩
  have hbn : Below w1.heap.size w1 W2 := by rw [← hW2]; exact below_then (below_new w1 _) (below_new _ _)
  have hsx : W2.ownsRow W.heap.size 3 1 (.slice (some ⟨w1.heap.size, 0, none⟩) 0 0) 0 (ivs []) := by
    rw [← hW2]; exact (made_at' w1 w1.heap.size W.heap.size rfl H1.out.2.1.size _).alloc _
  have hrx : Box (w1.heap.size + 1) zero3R 60 W2 := by
    have h9 := Box.new (w1.alloc (.cells #[] 3)) zero3R 60
    rw [World.size_alloc] at h9
    rw [← hW2]; exact h9
  have H2 := Lib.hid (And.intro hbn (And.intro hsx hrx))
  clear hbn hsx hrx
  refine Lib.hid ?_
  go_wp2_with ((refine wpList_store_box rfl 60 _ _ rfl (w1.heap.size + 1) _ _ H2.out.2.2 #[.slice (some ⟨g1, 0, none⟩) 8 c1, .slice (some ⟨w1.heap.size, 0, none⟩) 0 0, .int .i64 i] rfl rfl rfl (by kernel_rfl) (by simp [Value.oneCell']) ?_); intro w3 hx3 hg3; refine Hid.out ?_)
  have hb3 : Below w1.heap.size w1 w3 := H2.out.1.grown hg3 H2.out.1.size (fun k hk => by cases hk; omega)
  have hWw := H1.out.2.1.size
  have hRn : RnR W.heap.size (w1.heap.size + 1) ⟨V, [], i⟩ w3 := by
    refine ⟨some ⟨g1, 0, none⟩, 8, c1, some ⟨w1.heap.size, 0, none⟩, 0, 0, hx3, H1.out.1.kept (grown_below hb3 none) (.inr (by simp [Value.ownBlock])), H2.out.2.1.kept hg3 (.inr (by simp [Value.ownBlock])), .inr (fun e => ?_), fun e => ?_, by simp [Value.ownBlock]⟩
    · have h8 : g1 = w1.heap.size := Option.some.inj e
      omega
    · have h8 : g1 = w1.heap.size + 1 := Option.some.inj e
      omega
  have H3 := Lib.hid (And.intro (H1.out.2.1.trans (hb3.mono H1.out.2.1.size)) hRn)
  have hgR : W.heap.size ≤ w1.heap.size + 1 := by omega
  obtain ⟨gR, hgRe⟩ : ∃ g, w1.heap.size + 1 = g := ⟨_, rfl⟩
  rw [hgRe] at hgR H3 ⊢
  clear hx3 hg3 hb3 hRn H2 hgRe hW2 hW
  refine Lib.hid ?_
  go_wp2
  go_loopw [10] (fun i' wr => ∃ (k : Nat) (R : Rf), k ≤ nu ∧ i' = .int .i64 k ∧ Hid (RunR P (UU.take k) ⟨V, [], i⟩ R ∧ Sound P R.V R.T ∧ R.S.length ≤ 24) ∧ Hid (Below W.heap.size W wr) ∧ Hid (RnR W.heap.size gR R wr)) (fun i' _ => nu - (intOf i').toNat)
  case atStart => exact ⟨0, ⟨V, [], i⟩, Nat.zero_le _, rfl, ⟨by rw [List.take_zero]; exact .nil _, HOK.out.1.1, by simp⟩, H3.out.1, H3.out.2⟩
  case round =>
    obtain ⟨k, R, hk, rfl, HRUN, HBw, HRn⟩ := hrel
    by_cases hlt : k < nu
    · have hI : (k : Int) < nu := by omega
      obtain ⟨b, off, u, ab, nb, cb, rfl, hlb, hu, hcu, hle, hrow⟩ := (H0.out.2.2.2.2.2.below HBw.out).2 k hlt
      have hua : allV u = true := HOK.out.1.2.2 u (mem_atS hu)
      have hnb : (nb : Int) ≤ 1048576 := by have := HZ.out.2.2 u (mem_atS hu); rw [hrow.1] at this; omega
      obtain ⟨j, hj⟩ : ∃ j : Nat, R.T = j := ⟨R.T.toNat, by have := HRUN.out.2.1.2.2.1; omega⟩
      obtain ⟨t, T, ht, hT⟩ := taskAt_ex (j := j) HRUN.out.2.1.1 HRUN.out.2.1.2.1 hua (by have := HRUN.out.2.1.2.2.2; omega)
      obtain ⟨E, hE⟩ : ∃ E, effOf P t (exec (listSrc u) T ⟨R.V, [], []⟩) = E := ⟨_, rfl⟩
      have hEI : EffIs P R.V u R.T true E := by rw [hj]; exact .inr ⟨rfl, t, T, hT, hE.symm⟩
      have hsnd := EffIs.sound hEI HRUN.out.2.1 hua
      have HNXT := Lib.hid (show RunR P (UU.take (k + 1)) ⟨V, [], i⟩ ⟨E.V, box R.S E.S, E.N⟩ by
        rw [List.take_add_one, hu]; exact HRUN.out.1.snoc ⟨E, hEI, rfl⟩)
      obtain ⟨a1, n1, c1', a2, n2, c2, hbxR, hoV, hoS, hapR, hVg, hSg⟩ := HRn.out
      have hc2T : wr.cell? ⟨gR, 2, none⟩ = some (.int .i64 (j : Int)) := by rw [← hj]; exact hbxR.cell 2
      have hc0V : wr.cell? ⟨gR, 0, none⟩ = some (.slice a1 n1 c1') := hbxR.cell 0
      have hcp : wr.cell? ⟨w.heap.size, 0, none⟩ = some (.slice a n cap) := (HBw.out.cell (p := ⟨w.heap.size, 0, none⟩) hWl.1).trans (H0.out.1.cell 0)
      have hgl := hbxR.lt
      have hpl : w.heap.size < wr.heap.size := Nat.lt_of_lt_of_le hWl.1 HBw.out.size
      have HD := Lib.hid (show Below wr.heap.size wr wr.drew from Below.drew (Below.refl _ wr))
      have KEEP := Lib.hid (show ∀ w', Below wr.heap.size wr w' → w'.cell? ⟨w.heap.size, 0, none⟩ = some (.slice a n cap) ∧ w'.cell? ⟨gR, 2, none⟩ = some (.int .i64 (j : Int)) ∧ w'.cell? ⟨gR, 0, none⟩ = some (.slice a1 n1 c1') ∧ w'.cell? ⟨b, off + k, none⟩ = some (.slice ab nb cb) from fun w' hb => ⟨(hb.cell (p := ⟨w.heap.size, 0, none⟩) hpl).trans hcp, (hb.cell (p := ⟨gR, 2, none⟩) hgl).trans hc2T, (hb.cell (p := ⟨gR, 0, none⟩) hgl).trans hc0V, (hb.cell (p := ⟨b, off + k, none⟩) hlb).trans hcu⟩)
      have HEF := Lib.hid (show ∀ w', Below wr.heap.size wr w' → Calls Tryz.prog 72 #[.agg #[.slice a n cap], .int .i64 j, .slice a1 n1 c1', .slice ab nb cb] w' (NewEff w' E) from fun w' hb => by
        have h9 := spec_effect a n cap P HZ.out.1 w' (H0.out.2.2.2.1.below (HBw.out.trans (hb.mono HBw.out.size))) a1 n1 c1' R.V (Row.of_own (hoV.kept (grown_below hb none) (by cases a1 <;> simp [Value.ownBlock]))) ab nb cb u hnb (hrow.below hb) j t T hT
        rw [hE] at h9; exact h9)
      have HSND := Lib.hid hsnd
      have HR0 := Lib.hid (And.intro hbxR (And.intro hoS (And.intro hapR (And.intro hVg hSg))))
      have hS24 := HRUN.out.2.2
      have hES : E.S.length ≤ 3000 := hsnd.2
      clear hu hcu hrow hle hT ht hE hEI hsnd hbxR hoV hoS hapR hVg hSg hc2T hc0V hcp hua hj
      go_wp2
      refine wp_region_held_drew (S := (fun w' => w'.cell? ⟨w.heap.size, 0, none⟩ = some (.slice a n cap) ∧ w'.cell? ⟨gR, 2, none⟩ = some (.int .i64 (j : Int)) ∧ w'.cell? ⟨gR, 0, none⟩ = some (.slice a1 n1 c1') ∧ w'.cell? ⟨b, off + k, none⟩ = some (.slice ab nb cb))) (by kernel_rfl) (KEEP.out _ HD.out) (fun hHeld => ?_)
      obtain ⟨y0, hy0⟩ : ∃ z, wr.drew = z := ⟨_, rfl⟩
      have hb0 : Below wr.heap.size wr y0 := by rw [← hy0]; exact HD.out
      rw [hy0] at hHeld ⊢
      clear hy0
      refine wpAnyH_take (i := 0) (v := .agg #[.slice a n cap]) rfl (by kernel_rfl) (by kernel_rfl) (by kernel_rfl) (fun _ _ _ h => h) (Or.inl ⟨by rfl, (by intro w' hSw; (try dsimp only at hSw); go_simp)⟩) (by assumption) ?_
      try simp only [Act.put, List.getElem_toArray, List.getElem_cons_zero, List.setIfInBounds_toArray, List.set_cons_zero, List.set_cons_succ]
      refine wpAnyH_take (i := 1) (v := .pointer (some ⟨gR, 2, none⟩)) rfl (by kernel_rfl) (by kernel_rfl) (by kernel_rfl) (fun _ _ _ h => h) (Or.inl ⟨by rfl, (by intro w' hSw; (try dsimp only at hSw); go_simp)⟩) (by assumption) ?_
      try simp only [Act.put, List.getElem_toArray, List.getElem_cons_zero, List.getElem_cons_succ, List.setIfInBounds_toArray, List.set_cons_zero, List.set_cons_succ]
      refine wpAnyH_take (i := 2) (v := .int .i64 (j : Int)) rfl (by kernel_rfl) (by kernel_rfl) (by kernel_rfl) (fun _ _ _ h => h) (Or.inl ⟨by rfl, (by intro w' hSw; (try dsimp only at hSw); go_simp)⟩) (by assumption) ?_
      try simp only [Act.put, List.getElem_toArray, List.getElem_cons_zero, List.getElem_cons_succ, List.setIfInBounds_toArray, List.set_cons_zero, List.set_cons_succ]
      refine wpAnyH_take (i := 3) (v := .pointer (some ⟨gR, 0, none⟩)) rfl (by kernel_rfl) (by kernel_rfl) (by kernel_rfl) (fun _ _ _ h => h) (Or.inl ⟨by rfl, (by intro w' hSw; (try dsimp only at hSw); go_simp)⟩) (by assumption) ?_
      try simp only [Act.put, List.getElem_toArray, List.getElem_cons_zero, List.getElem_cons_succ, List.setIfInBounds_toArray, List.set_cons_zero, List.set_cons_succ]
      refine wpAnyH_take (i := 4) (v := .slice a1 n1 c1') rfl (by kernel_rfl) (by kernel_rfl) (by kernel_rfl) (fun _ _ _ h => h) (Or.inl ⟨by rfl, (by intro w' hSw; (try dsimp only at hSw); go_simp)⟩) (by assumption) ?_
      try simp only [Act.put, List.getElem_toArray, List.getElem_cons_zero, List.getElem_cons_succ, List.setIfInBounds_toArray, List.set_cons_zero, List.set_cons_succ]
      refine wpAnyH_take (i := 5) (v := .slice (some ⟨b, off, none⟩) nu cu) rfl (by kernel_rfl) (by kernel_rfl) (by kernel_rfl) (fun _ _ _ h => h) (Or.inl ⟨by rfl, (by intro w' hSw; (try dsimp only at hSw); go_simp)⟩) (by assumption) ?_
      try simp only [Act.put, List.getElem_toArray, List.getElem_cons_zero, List.getElem_cons_succ, List.setIfInBounds_toArray, List.set_cons_zero, List.set_cons_succ]
      refine wpAnyH_take (i := 6) (v := .int .i64 (k : Int)) rfl (by kernel_rfl) (by kernel_rfl) (by kernel_rfl) (fun _ _ _ h => h) (Or.inl ⟨by rfl, (by intro w' hSw; (try dsimp only at hSw); go_simp)⟩) (by assumption) ?_
      try simp only [Act.put, List.getElem_toArray, List.getElem_cons_zero, List.getElem_cons_succ, List.setIfInBounds_toArray, List.set_cons_zero, List.set_cons_succ]
      refine wpAnyH_take (i := 7) (v := .pointer (some ⟨b, off + k, none⟩)) rfl (by kernel_rfl) (by kernel_rfl) (by kernel_rfl) (fun _ _ _ h => h) (Or.inl ⟨by rfl, (by intro w' hSw; (try dsimp only at hSw); go_simp)⟩) (by assumption) ?_
      try simp only [Act.put, List.getElem_toArray, List.getElem_cons_zero, List.getElem_cons_succ, List.setIfInBounds_toArray, List.set_cons_zero, List.set_cons_succ]
      refine wpAnyH_take (i := 8) (v := .slice ab nb cb) rfl (by kernel_rfl) (by kernel_rfl) (by kernel_rfl) (fun _ _ _ h => h) (Or.inl ⟨by rfl, (by intro w' hSw; (try dsimp only at hSw); go_simp)⟩) (by assumption) ?_
      try simp only [Act.put, List.getElem_toArray, List.getElem_cons_zero, List.getElem_cons_succ, List.setIfInBounds_toArray, List.set_cons_zero, List.set_cons_succ]
      refine wpAnyH_ready (rs := [9, 10]) (by kernel_rfl) (by simp) ?_
      refine AllReadyH.cons rfl (fun K hK => ?_) ?_
      rw [if_pos (by kernel_rfl)]
      go_simp
      go_at_call 72
      refine (HEF.out y0 hb0).mono ?_
      rintro e y1 ⟨e1, m1, k1, e2, m2, k2, rfl, hm, hbc⟩
      have hb1 : Below wr.heap.size wr y1 := below_then hb0 hbc
      refine hK.out _ _ (KEEP.out _ hb1) (fun hHeld1 => ?_)
      clear hK K hHeld
      try simp only [Act.put, List.getElem_toArray, List.getElem_cons_zero, List.getElem_cons_succ, List.setIfInBounds_toArray, List.set_cons_zero, List.set_cons_succ]
      refine wpAnyH_ready (rs := [10]) (by kernel_rfl) (by simp) ?_
      refine AllReadyH.cons rfl (fun K hK => ?_) AllReadyH.nil
      obtain ⟨yn, hyn⟩ : ∃ z, y1.alloc (.cells zero4E 37) = z := ⟨_, rfl⟩
      obtain ⟨gE, hgE⟩ : ∃ g, y1.heap.size = g := ⟨_, rfl⟩
      have hbn : Below wr.heap.size wr yn := by rw [← hyn]; exact below_then hb1 (below_new _ _)
      have hEn : Box gE zero4E 37 yn := by rw [← hyn, ← hgE]; exact Box.new _ _ _
      have hEln : wr.heap.size ≤ gE := by rw [← hgE]; exact hb1.size
      have hVn := (hm.1.mono hb0.size).alloc (.cells zero4E 37)
      rw [hyn] at hVn
      have hSn := (hm.2.1.mono hb0.size).alloc (.cells zero4E 37)
      rw [hyn] at hSn
      have hapn := hm.2.2
      have hVEn := ne_own9 hm.1.lt (.inr (show y1.heap.size ≤ gE by omega))
      have hSEn := ne_own9 hm.2.1.lt (.inr (show y1.heap.size ≤ gE by omega))
      rw [if_pos (by kernel_rfl)]
      go_simp
      (try rw [hyn])
      (try rw [hgE])
      refine hK.out _ _ (KEEP.out _ hbn) (fun hHeldn => ?_)
      try simp only [Act.put, List.getElem_toArray, List.getElem_cons_zero, List.getElem_cons_succ, List.setIfInBounds_toArray, List.set_cons_zero, List.set_cons_succ]
      clear hK K hyn hgE hHeld1 hm hbc hb1 y1 hb0 y0
      revert hSEn
      revert hVEn
      revert hapn
      revert hSn
      revert hVn
      revert hEln
      revert hEn
      revert hbn
      revert hHeldn
      revert k2
      revert m2
      revert e2
      revert k1
      revert m1
      revert e1
      revert gE
      revert yn
      refine ?stoA
      rotate_left
      refine AllReadyH.cons rfl (fun K hK => ?_) ?_
      obtain ⟨y1, hy1⟩ : ∃ z, y0.alloc (.cells zero4E 37) = z := ⟨_, rfl⟩
      obtain ⟨gE, hgE⟩ : ∃ g, y0.heap.size = g := ⟨_, rfl⟩
      have hb1 : Below wr.heap.size wr y1 := by rw [← hy1]; exact below_then hb0 (below_new _ _)
      have hE1 : Box gE zero4E 37 y1 := by rw [← hy1, ← hgE]; exact Box.new _ _ _
      have hEln : wr.heap.size ≤ gE := by rw [← hgE]; exact hb0.size
      rw [if_pos (by kernel_rfl)]
      go_simp
      (try rw [hy1])
      (try rw [hgE])
      refine hK.out _ _ (KEEP.out _ hb1) (fun hHeld1 => ?_)
      try simp only [Act.put, List.getElem_toArray, List.getElem_cons_zero, List.getElem_cons_succ, List.setIfInBounds_toArray, List.set_cons_zero, List.set_cons_succ]
      clear hK K hy1 hgE hHeld
      refine wpAnyH_ready (rs := [9]) (by kernel_rfl) (by simp) ?_
      refine AllReadyH.cons rfl (fun K hK => ?_) AllReadyH.nil
      rw [if_pos (by kernel_rfl)]
      go_simp
      go_at_call 72
      refine (HEF.out y1 hb1).mono ?_
      rintro e yn ⟨e1, m1, k1, e2, m2, k2, rfl, hm, hbc⟩
      have hbn : Below wr.heap.size wr yn := below_then hb1 hbc
      have hEn := hE1.below hbc
      have hVn := hm.1.mono hb1.size
      have hSn := hm.2.1.mono hb1.size
      have hapn := hm.2.2
      have hVEn := ne_own9 hm.1.lt (.inl hE1.lt)
      have hSEn := ne_own9 hm.2.1.lt (.inl hE1.lt)
      refine hK.out _ _ (KEEP.out _ hbn) (fun hHeldn => ?_)
      try simp only [Act.put, List.getElem_toArray, List.getElem_cons_zero, List.getElem_cons_succ, List.setIfInBounds_toArray, List.set_cons_zero, List.set_cons_succ]
      clear hK K hHeld1 hm hbc hE1 hb1 y1 hb0 y0
      revert hSEn
      revert hVEn
      revert hapn
      revert hSn
      revert hVn
      revert hEln
      revert hEn
      revert hbn
      revert hHeldn
      revert k2
      revert m2
      revert e2
      revert k1
      revert m1
      revert e1
      revert gE
      revert yn
      refine ?stoA
      exact AllReadyH.nil
      intro y gE e1 m1 k1 e2 m2 k2 hHeld hb hE hEl hV hS hap hVE hSE
      refine wpAnyH_ready (rs := [11]) (by kernel_rfl) (by simp) ?_
      refine AllReadyH.cons rfl (fun K hK => ?_) AllReadyH.nil
      have z0 : y.cell? ⟨gE, 0, none⟩ = some (.slice none 0 0) := hE.cell 0
      have f0 : y.frozen? ⟨gE, 0, none⟩ = false := hE.frozen 0
      have z1 : y.cell? ⟨gE, 1, none⟩ = some (.slice none 0 0) := hE.cell 1
      have f1 : y.frozen? ⟨gE, 1, none⟩ = false := hE.frozen 1
      have z2 : y.cell? ⟨gE, 2, none⟩ = some (.int .i64 0) := hE.cell 2
      have f2 : y.frozen? ⟨gE, 2, none⟩ = false := hE.frozen 2
      have z3 : y.cell? ⟨gE, 3, none⟩ = some (.int .i64 0) := hE.cell 3
      have f3 : y.frozen? ⟨gE, 3, none⟩ = false := hE.frozen 3
      have hgs : y.grownBy ((((y.setCell ⟨gE, 0, none⟩ (.slice e1 m1 k1)).setCell ⟨gE, 1, none⟩ (.slice e2 m2 k2)).setCell ⟨gE, 2, none⟩ (.int .i64 E.N)).setCell ⟨gE, 3, none⟩ (.int .i64 E.U)) (some gE) := grown_trans (grown_trans (grown_trans (grown_setCell _ _ _ _) (grown_setCell _ _ _ _)) (grown_setCell _ _ _ _)) (grown_setCell _ _ _ _)
      have hx : Box gE #[.slice e1 m1 k1, .slice e2 m2 k2, .int .i64 E.N, .int .i64 E.U] 37 ((((y.setCell ⟨gE, 0, none⟩ (.slice e1 m1 k1)).setCell ⟨gE, 1, none⟩ (.slice e2 m2 k2)).setCell ⟨gE, 2, none⟩ (.int .i64 E.N)).setCell ⟨gE, 3, none⟩ (.int .i64 E.U)) := (((hE.set 0 _).set 1 _).set 2 _).set 3 _
      obtain ⟨yn, hyn⟩ : ∃ z, ((((y.setCell ⟨gE, 0, none⟩ (.slice e1 m1 k1)).setCell ⟨gE, 1, none⟩ (.slice e2 m2 k2)).setCell ⟨gE, 2, none⟩ (.int .i64 E.N)).setCell ⟨gE, 3, none⟩ (.int .i64 E.U)) = z := ⟨_, rfl⟩
      rw [hyn] at hgs hx
      have hbn : Below wr.heap.size wr yn := hb.grown hgs hb.size (fun q hq => by cases hq; exact hEl)
      have hVn := hV.kept hgs hVE
      have hSn := hS.kept hgs hSE
      rw [if_pos (by kernel_rfl)]
      go_simp
      (try rw [hyn])
      refine hK.out _ _ (KEEP.out _ hbn) (fun hHeldn => ?_)
      clear hK K hyn z0 z1 z2 z3 f0 f1 f2 f3 hHeld
      try simp only [Act.put, List.getElem_toArray, List.getElem_cons_zero, List.getElem_cons_succ, List.setIfInBounds_toArray, List.set_cons_zero, List.set_cons_succ]
      refine wpAnyH_done (by kernel_rfl) ?_ _
      clear hHeldn hgs hE hV hS hb
      have HBn := Lib.hid (HBw.out.trans (hbn.mono HBw.out.size))
      have hbxn := HR0.out.1.below hbn
      have hoSn := HR0.out.2.1.kept (grown_below hbn none) (by cases a2 <;> simp [Value.ownBlock])
      have hml : E.V.length = m1 := own_len hVn
      have hsl : E.S.length = m2 := own_len hSn
      have H5 := Lib.hid (And.intro hx (And.intro hbxn (And.intro hoSn (And.intro hVn (And.intro hSn (And.intro hap hVE))))))
      have hEgR : gE ≠ gR := by omega
      have hs5 : wr.heap.size ≤ yn.heap.size := hbn.size
      have hsblk := HR0.out.2.1.lt
      clear hx hbxn hoSn hVn hSn hbn KEEP HEF HD hap hVE hSE
      go_wp2
      have c50 : yn.drew.cell? ⟨gE, 0, none⟩ = some (.slice e1 m1 k1) ∧ yn.drew.cell? ⟨gE, 1, none⟩ = some (.slice e2 m2 k2) ∧ yn.drew.cell? ⟨gE, 2, none⟩ = some (.int .i64 E.N) := ⟨H5.out.1.cell 0, H5.out.1.cell 1, H5.out.1.cell 2⟩
      have HD2 := Lib.hid (show Below yn.heap.size yn yn.drew from Below.drew (Below.refl _ yn))
      refine wp_region_held_drew (S := fun w' => w'.cell? ⟨gE, 0, none⟩ = some (.slice e1 m1 k1) ∧ w'.cell? ⟨gE, 1, none⟩ = some (.slice e2 m2 k2) ∧ w'.cell? ⟨gE, 2, none⟩ = some (.int .i64 E.N)) (by kernel_rfl) c50 (fun hHeld => ?_)
      obtain ⟨z0, hz0'⟩ : ∃ z, yn.drew = z := ⟨_, rfl⟩
      have hbz : Below yn.heap.size yn z0 := by rw [← hz0']; exact HD2.out
      rw [hz0'] at hHeld ⊢
      clear hz0' c50
      refine wpAnyH_take (i := 0) (v := .pointer (some ⟨gE, 0, none⟩)) rfl (by kernel_rfl) (by kernel_rfl) (by kernel_rfl) (fun _ _ _ h => h) (Or.inl ⟨by rfl, (by intro w' hSw; (try dsimp only at hSw); go_simp)⟩) (by assumption) ?_
      try simp only [Act.put, List.getElem_toArray, List.getElem_cons_zero, List.setIfInBounds_toArray, List.set_cons_zero, List.set_cons_succ]
      refine wpAnyH_take (i := 1) (v := .slice e1 m1 k1) rfl (by kernel_rfl) (by kernel_rfl) (by kernel_rfl) (fun _ _ _ h => h) (Or.inl ⟨by rfl, (by intro w' hSw; (try dsimp only at hSw); go_simp)⟩) (by assumption) ?_
      try simp only [Act.put, List.getElem_toArray, List.getElem_cons_zero, List.getElem_cons_succ, List.setIfInBounds_toArray, List.set_cons_zero, List.set_cons_succ]
      refine wpAnyH_take (i := 2) (v := .pointer (some ⟨gR, 1, none⟩)) rfl (by kernel_rfl) (by kernel_rfl) (by kernel_rfl) (fun _ _ _ h => h) (Or.inl ⟨by rfl, (by intro w' hSw; (try dsimp only at hSw); go_simp)⟩) (by assumption) ?_
      try simp only [Act.put, List.getElem_toArray, List.getElem_cons_zero, List.getElem_cons_succ, List.setIfInBounds_toArray, List.set_cons_zero, List.set_cons_succ]
      refine wpAnyH_take (i := 4) (v := .pointer (some ⟨gE, 1, none⟩)) rfl (by kernel_rfl) (by kernel_rfl) (by kernel_rfl) (fun _ _ _ h => h) (Or.inl ⟨by rfl, (by intro w' hSw; (try dsimp only at hSw); go_simp)⟩) (by assumption) ?_
      try simp only [Act.put, List.getElem_toArray, List.getElem_cons_zero, List.getElem_cons_succ, List.setIfInBounds_toArray, List.set_cons_zero, List.set_cons_succ]
      refine wpAnyH_take (i := 5) (v := .slice e2 m2 k2) rfl (by kernel_rfl) (by kernel_rfl) (by kernel_rfl) (fun _ _ _ h => h) (Or.inl ⟨by rfl, (by intro w' hSw; (try dsimp only at hSw); go_simp)⟩) (by assumption) ?_
      try simp only [Act.put, List.getElem_toArray, List.getElem_cons_zero, List.getElem_cons_succ, List.setIfInBounds_toArray, List.set_cons_zero, List.set_cons_succ]
      refine wpAnyH_take (i := 7) (v := .pointer (some ⟨gE, 2, none⟩)) rfl (by kernel_rfl) (by kernel_rfl) (by kernel_rfl) (fun _ _ _ h => h) (Or.inl ⟨by rfl, (by intro w' hSw; (try dsimp only at hSw); go_simp)⟩) (by assumption) ?_
      try simp only [Act.put, List.getElem_toArray, List.getElem_cons_zero, List.getElem_cons_succ, List.setIfInBounds_toArray, List.set_cons_zero, List.set_cons_succ]
      refine wpAnyH_take (i := 8) (v := .int .i64 E.N) rfl (by kernel_rfl) (by kernel_rfl) (by kernel_rfl) (fun _ _ _ h => h) (Or.inl ⟨by rfl, (by intro w' hSw; (try dsimp only at hSw); go_simp)⟩) (by assumption) ?_
      try simp only [Act.put, List.getElem_toArray, List.getElem_cons_zero, List.getElem_cons_succ, List.setIfInBounds_toArray, List.set_cons_zero, List.set_cons_succ]
      refine wpAnyH_ready (rs := [3]) (by kernel_rfl) (by simp) ?_
      refine AllReadyH.cons rfl (fun K hK => ?_) AllReadyH.nil
      have cz1 : z0.cell? ⟨gR, 1, none⟩ = some (.slice a2 n2 c2) := (H5.out.2.1.below hbz).cell 1
      rw [if_pos (by kernel_rfl)]
      go_simp
      refine hK.out _ _ hHeld (fun hHeld2 => ?_)
      clear hK K hHeld cz1
      try simp only [Act.put, List.getElem_toArray, List.getElem_cons_zero, List.getElem_cons_succ, List.setIfInBounds_toArray, List.set_cons_zero, List.set_cons_succ]
      refine wpAnyH_ready (rs := [6]) (by kernel_rfl) (by simp) ?_
      refine AllReadyH.cons rfl (fun K hK => ?_) AllReadyH.nil
      rw [if_pos (by kernel_rfl)]
      go_simp
      go_at_call 122
      refine (spec_send W.heap.size z0 (Nat.le_trans HBn.out.size hbz.size) a2 n2 c2 R.S (H5.out.2.2.1.kept (grown_below hbz none) (by cases a2 <;> simp [Value.ownBlock])) hS24 e2 m2 k2 E.S (by omega) (Row.of_own (H5.out.2.2.2.2.1.kept (grown_below hbz none) (by cases e2 <;> simp [Value.ownBlock]))) (fun q off9 hq e => by
        subst hq
        have h8 := (hsblk q e.symm).2
        by_cases hm0 : m2 = 0
        · rcases H5.out.2.2.2.2.1.2 with ⟨hv, _⟩ | ⟨q', cq, cur, hv, hlo, _⟩
          · cases hv
          · have h7 : q = q' := by injection hv with h1; injection h1 with h1; injection h1
            omega
        · obtain ⟨q', cq, hv, hlo, _⟩ := H5.out.2.2.2.2.1.form (by omega)
          have h7 : q = q' := by injection hv with h1; injection h1 with h1; injection h1
          omega)).mono ?_
      rintro e z1 ⟨s1, l1, d1, rfl, hs1, hgz, hat⟩
      have hbz1 : z0.heap.size ≤ z1.heap.size := hgz.size
      have hz0s : yn.heap.size ≤ z0.heap.size := hbz.size
      have hEx : Box gE #[.slice e1 m1 k1, .slice e2 m2 k2, .int .i64 E.N, .int .i64 E.U] 37 z1 := (H5.out.1.below hbz).grown hgz (fun e => by have := (hsblk gE e.symm).2; omega)
      have hRx : Box gR #[.slice a1 n1 c1', .slice a2 n2 c2, .int .i64 R.T] 60 z1 := (H5.out.2.1.below hbz).grown hgz (fun e => HR0.out.2.2.2.2 e.symm)
      have hVx := (H5.out.2.2.2.1.kept (grown_below hbz none) (by cases e1 <;> simp [Value.ownBlock])).kept hgz (by
        cases hq : (Value.slice e1 m1 k1).ownBlock with
        | none => exact .inl rfl
        | some q => right; intro e; have h1 := (H5.out.2.2.2.1.lt q hq).1; have h2 := (hsblk q e.symm).2; omega)
      have hBx : Below W.heap.size W z1 := (HBn.out.trans (hbz.mono HBn.out.size)).grown hgz (Nat.le_trans HBn.out.size hbz.size) (fun q hq => (hsblk q hq).1)
      have hS1R : (Value.slice s1 l1 d1).ownBlock ≠ some gR := fun e => by
        rcases hat with h1 | h1
        · exact HR0.out.2.2.2.2 (h1 ▸ e)
        · have := h1 gR e; omega
      have hV1S : (Value.slice e1 m1 k1).ownBlock = none ∨ (Value.slice e1 m1 k1).ownBlock ≠ (Value.slice s1 l1 d1).ownBlock := by
        cases hq : (Value.slice e1 m1 k1).ownBlock with
        | none => exact .inl rfl
        | some q =>
          right; intro e
          have h1 := H5.out.2.2.2.1.lt q hq
          rcases hat with h2 | h2
          · rw [h2] at e; have h3 := (hsblk q e.symm).2; omega
          · have := h2 q e.symm; omega
      have hV1R : (Value.slice e1 m1 k1).ownBlock ≠ some gR := fun e => by have := (H5.out.2.2.2.1.lt gR e).1; omega
      refine hK.out _ _ ⟨hEx.cell 0, hEx.cell 1, hEx.cell 2⟩ (fun hHeld3 => ?_)
      clear hK K hHeld2
      try simp only [Act.put, List.getElem_toArray, List.getElem_cons_zero, List.getElem_cons_succ, List.setIfInBounds_toArray, List.set_cons_zero, List.set_cons_succ]
      refine wpAnyH_take (i := 9) (v := .agg #[.slice e1 m1 k1, .slice s1 l1 d1, .int .i64 E.N]) rfl (by kernel_rfl) (by kernel_rfl) (by kernel_rfl) (fun _ _ _ h => h) (Or.inl ⟨by rfl, (by intro w' hSw; (try dsimp only at hSw); go_simp)⟩) (by assumption) ?_
      try simp only [Act.put, List.getElem_toArray, List.getElem_cons_zero, List.getElem_cons_succ, List.setIfInBounds_toArray, List.set_cons_zero, List.set_cons_succ]
      refine wpAnyH_ready (rs := [10]) (by kernel_rfl) (by simp) ?_
      refine AllReadyH.cons rfl (fun K hK => ?_) AllReadyH.nil
      have z0' : z1.cell? ⟨gR, 0, none⟩ = some (.slice a1 n1 c1') := hRx.cell 0
      have z1' : z1.cell? ⟨gR, 1, none⟩ = some (.slice a2 n2 c2) := hRx.cell 1
      have z2' : z1.cell? ⟨gR, 2, none⟩ = some (.int .i64 R.T) := hRx.cell 2
      have f0' : z1.frozen? ⟨gR, 0, none⟩ = false := hRx.frozen 0
      have f1' : z1.frozen? ⟨gR, 1, none⟩ = false := hRx.frozen 1
      have f2' : z1.frozen? ⟨gR, 2, none⟩ = false := hRx.frozen 2
      have hgs : z1.grownBy (((z1.setCell ⟨gR, 0, none⟩ (.slice e1 m1 k1)).setCell ⟨gR, 1, none⟩ (.slice s1 l1 d1)).setCell ⟨gR, 2, none⟩ (.int .i64 E.N)) (some gR) := grown_trans (grown_trans (grown_setCell _ _ _ _) (grown_setCell _ _ _ _)) (grown_setCell _ _ _ _)
      have hx2 : Box gR #[.slice e1 m1 k1, .slice s1 l1 d1, .int .i64 E.N] 60 (((z1.setCell ⟨gR, 0, none⟩ (.slice e1 m1 k1)).setCell ⟨gR, 1, none⟩ (.slice s1 l1 d1)).setCell ⟨gR, 2, none⟩ (.int .i64 E.N)) := ((hRx.set 0 _).set 1 _).set 2 _
      obtain ⟨z9, hz9⟩ : ∃ z, ((z1.setCell ⟨gR, 0, none⟩ (.slice e1 m1 k1)).setCell ⟨gR, 1, none⟩ (.slice s1 l1 d1)).setCell ⟨gR, 2, none⟩ (.int .i64 E.N) = z := ⟨_, rfl⟩
      rw [hz9] at hgs hx2
      have hEx9 := hEx.grown hgs (fun e => hEgR (Option.some.inj e))
      rw [if_pos (by kernel_rfl)]
      go_simp
      (try rw [hz9])
      refine hK.out _ _ ⟨hEx9.cell 0, hEx9.cell 1, hEx9.cell 2⟩ (fun hHeld4 => ?_)
      have H9 := Lib.hid (And.intro (hBx.grown hgs hBx.size (fun q hq => by cases hq; exact hgR)) (show RnR W.heap.size gR ⟨E.V, box R.S E.S, E.N⟩ z9 from ⟨e1, m1, k1, s1, l1, d1, hx2, (hVx.mono HBw.out.size).kept hgs (.inr hV1R), hs1.kept hgs (.inr hS1R), hV1S, hV1R, hS1R⟩))
      clear hK K hz9 z0' z1' z2' f0' f1' f2' hHeld3 hgs hx2 hEx9 hEx hRx hVx hBx hs1 hgz hat hV1S hV1R hS1R hbz
      try simp only [Act.put, List.getElem_toArray, List.getElem_cons_zero, List.getElem_cons_succ, List.setIfInBounds_toArray, List.set_cons_zero, List.set_cons_succ]
      refine wpAnyH_done (by kernel_rfl) ?_ _
      clear hHeld4
      go_wp2
      go_roundw
      case rel => exact ⟨k + 1, ⟨E.V, box R.S E.S, E.N⟩, by omega, by go_num, ⟨HNXT.out, HSND.out.1, box_le _ _⟩, H9.out.1, H9.out.2⟩
      case measure => simp [intOf]; omega
    · obtain rfl : k = nu := by omega
      have hI : ¬ (k : Int) < k := by omega
      obtain rfl : R = R9 := by
        have h1 := HRUN.out.1
        rw [List.take_of_length_le (by omega)] at h1
        exact h1.unique HOK.out.2
      obtain ⟨a1, n1, c1', a2, n2, c2, hbxR, hoV, hoS, hapR, hVg, hSg⟩ := HRn.out
      have hexr : Box (w.heap.size + 1) zero3R 60 wr := (HBw.out.block _ hWl.2).trans H0.out.2.1
      have H4 := Lib.hid (And.intro hbxR (And.intro hexr (And.intro hoV (And.intro hoS hapR))))
      clear hbxR hexr hoV hoS hapR hVg hSg
      go_wp2_with (first
        | (refine wpList_load_row rfl 60 _ rfl gR rfl _ _ _ _ H4.out.1 Tryz.underlying60 rfl (by kernel_rfl) ?_)
        | ((refine wpList_store_box rfl 60 _ _ rfl (w.heap.size + 1) _ _ H4.out.2.1 #[.slice a1 n1 c1', .slice a2 n2 c2, .int .i64 R.T] rfl rfl rfl (by kernel_rfl) (by simp [Value.oneCell']) ?_); intro w5 hx5 hg5; refine Hid.out ?_))
      have hlo : ∀ {v : Value} {m : Nat} {xs : List Value}, wr.ownsRow W.heap.size 3 1 v m xs → w5.ownsRow w.heap.size 3 1 v m xs := fun {v m xs} h => (h.kept hg5 (.inr (fun e => by have := (h.lt _ e).1; omega))).mono (by omega)
      have H9 := Lib.hid (And.intro hx5 (And.intro (hlo H4.out.2.2.1) (And.intro (hlo H4.out.2.2.2.1) ((H0.out.2.2.1.trans (HBw.out.mono (by omega))).grown hg5 (Nat.le_trans (by omega) HBw.out.size) (fun q hq => by cases hq; omega)))))
      clear hx5 hg5 hlo
      refine Lib.hid ?_
      go_wp2
      refine bodyPost_ret (v := refV a1 n1 c1' a2 n2 c2 R) (results_cell_row rfl _ _ (w.heap.size + 1) _ _ _ _ rfl H9.out.1 Tryz.underlying60 rfl (by kernel_rfl)) rfl ?_
      exact ⟨_, _, _, _, _, _, rfl, ⟨H9.out.2.1, H9.out.2.2.1, H4.out.2.2.2.2⟩, H9.out.2.2.2⟩
end Go.Proofs.YtekdnhhmiabngaaGreat.ref
