/- Several texts in one: ExeE. -/
import Derived.Test.YtmgeecdgebemdaaGreatDoorGSig45
import Derived.Test.YtmgeecdgebemdaaGreatDoorGSig7
import Derived.Laws.Rows

/- The model's l12Effect, TaskEffect, SensesOf: what the plain relations say, in new memory; nothing that was there is written. -/
namespace Go.Proofs.YtmgeecdgebemdaaGreatDoor.exe
open Go Go.ChangeShapes Go.WideShapes Go.ChangeAt Go.RowKit Go.Proofs.YtmgeecdgebemdaaGreatDoor.row Go.Proofs.YtmgeecdgebemdaaGreatDoor.val Go.Proofs.YtmgeecdgebemdaaGreatDoor.expr Go.Proofs.YtmgeecdgebemdaaGreatDoor.stm Go.Proofs.YtmgeecdgebemdaaGreatDoor.blk Go.Proofs.YtmgeecdgebemdaaGreatDoor.prg Go.Proofs.YtmgeecdgebemdaaGreatDoor.sets

theorem made_at' (w : World) (k B : Nat) (hk : w.heap.size = k) (hB : B ≤ k) (e : TypeId) : (w.alloc (.cells #[] e)).ownsRow B e 1 (.slice (some ⟨k, 0, none⟩) 0 0) 0 [] := by
  subst hk; exact World.ownsRow_made w #[] 0 hB (Nat.zero_le _) rfl
theorem row_range' {w : World} {b off n : Nat} {L : List Int} (h : Row w (some ⟨b, off, none⟩) n L) : w.rangeAt b off (ivs L) := by
  intro j v hj
  have hjl : j < n := by have := (List.getElem?_eq_some_iff.1 hj).1; rw [ivs_length] at this; have := h.1; omega
  obtain ⟨b', off', x, e, _, hx, hc⟩ := h.2 j hjl
  cases e
  rw [hc]
  simp [ivs, hx] at hj
  rw [hj]
theorem news_of' (w : World) {b off n : Nat} {L : List Int} (h : Row w (some ⟨b, off, none⟩) n L) : ∀ j u, (ivs L)[j]? = some u → (w.alloc (.cells #[] 3)).cell? ((⟨b, off, none⟩ : Addr).add j) = some u := by
  intro j u hj
  rw [Addr.add_mid]
  exact World.rangeAt_alloc (row_range' h) _ j u hj
theorem ivs_one' (L : List Int) : ∀ u ∈ ivs L, u.oneCell' = true := by
  intro u hu
  obtain ⟨x, _, rfl⟩ := List.mem_map.1 hu
  rfl
abbrev zero7R : Array Value := #[.slice none 0 0, .slice none 0 0, .slice none 0 0, .slice none 0 0, .slice none 0 0, .int .i64 0, .bool false]
theorem keepN {w w' : World} {g b : Nat} {x0 x1 x2 x3 : Value} (hb : Below w.heap.size w w') (hg : g < w.heap.size) (hbb : b < w.heap.size) (h : w.cell? ⟨g, 0, none⟩ = some x0 ∧ w.cell? ⟨g, 1, none⟩ = some x1 ∧ w.cell? ⟨g, 2, none⟩ = some x2 ∧ w.cell? ⟨b, 0, none⟩ = some x3) : w'.cell? ⟨g, 0, none⟩ = some x0 ∧ w'.cell? ⟨g, 1, none⟩ = some x1 ∧ w'.cell? ⟨g, 2, none⟩ = some x2 ∧ w'.cell? ⟨b, 0, none⟩ = some x3 :=
  ⟨(hb.cell (p := ⟨g, 0, none⟩) hg).trans h.1, (hb.cell (p := ⟨g, 1, none⟩) hg).trans h.2.1, (hb.cell (p := ⟨g, 2, none⟩) hg).trans h.2.2.1, (hb.cell (p := ⟨b, 0, none⟩) hbb).trans h.2.2.2⟩
theorem cell_putE {w : World} {b q o k : Nat} {u : Value} (h : b ≠ q) : (w.setCell ⟨q, k, none⟩ u).cell? ⟨b, o, none⟩ = w.cell? ⟨b, o, none⟩ :=
  World.cell?_of_block (w := w) (a := ⟨b, o, none⟩) (heap_setCell_other w ⟨q, k, none⟩ b u h)
theorem putS {w : World} {g b q k : Nat} {x0 x1 x2 x3 u : Value} (h1 : g ≠ q) (h2 : b ≠ q) (h : w.cell? ⟨g, 0, none⟩ = some x0 ∧ w.cell? ⟨g, 1, none⟩ = some x1 ∧ w.cell? ⟨g, 2, none⟩ = some x2 ∧ w.cell? ⟨b, 0, none⟩ = some x3) : (w.setCell ⟨q, k, none⟩ u).cell? ⟨g, 0, none⟩ = some x0 ∧ (w.setCell ⟨q, k, none⟩ u).cell? ⟨g, 1, none⟩ = some x1 ∧ (w.setCell ⟨q, k, none⟩ u).cell? ⟨g, 2, none⟩ = some x2 ∧ (w.setCell ⟨q, k, none⟩ u).cell? ⟨b, 0, none⟩ = some x3 :=
  ⟨(cell_putE h1).trans h.1, (cell_putE h1).trans h.2.1, (cell_putE h1).trans h.2.2.1, (cell_putE h2).trans h.2.2.2⟩
set_option maxHeartbeats 8000000 in
set_option maxRecDepth 100000 in
theorem spec_effect (a : Option Addr) (n cap : Nat) (P : List Tk) (hz : Sizes P) (w : World) (h : TkRow w a n P) (ad : Option Addr) (nv cv : Nat) (V : List Int) (hV : Row w ad nv V) (ay : Option Addr) (ny cy : Nat) (Y : List Int) (hny : (ny : Int) ≤ 1048576) (hY : Row w ay ny Y)
    (j : Nat) (t : Tk) (T : Fst) (hT : TaskAt P V Y j t T) :
    Calls Tryz.prog 90 #[.agg #[.slice a n cap], .int .i64 j, .slice ad nv cv, .slice ay ny cy] w (NewEff w (effOf P t (exec (listSrc Y) T ⟨V, [], []⟩))) := by
  obtain ⟨i0, hi, hz0, hz1, hz2⟩ := info_parts row.infoInt
  obtain ⟨W, hW⟩ : ∃ W, (w.alloc (.cells #[.slice a n cap] 26)).alloc (.cells zero4E 60) = W := ⟨_, rfl⟩
  have hBW : Below w.heap.size w W := by rw [← hW]; exact below_then (below_new w _) (below_new _ _)
  have hpx : Box w.heap.size #[.slice a n cap] 26 W := by rw [← hW]; exact (Box.new w _ _).alloc _
  have hex : Box (w.heap.size + 1) zero4E 60 W := by
    have h9 := Box.new (w.alloc (.cells #[.slice a n cap] 26)) zero4E 60
    rw [World.size_alloc] at h9
    rw [← hW]; exact h9
  have hWs : W.heap.size = w.heap.size + 2 := by rw [← hW]; simp
  have hbe := hT.blk
  have hTT := hT
  obtain ⟨hprg, hvok, hyv, j', hjj, ht, hpar⟩ := hT
  obtain rfl : j = j' := by omega
  have hV8 := ((varsOk_iff V).1 hvok).1
  obtain rfl : nv = 8 := by have := hV.1; omega
  obtain ⟨bv, ov, xv, rfl, _, _, _⟩ := hV.2 0 (by omega)
  have hjn : j < n := by have := (List.getElem?_eq_some_iff.1 ht).1; have := h.1; omega
  have H0 := Lib.hid (And.intro hpx (And.intro hex (And.intro hBW (And.intro (h.below hBW) (And.intro (hV.below hBW) (hY.below hBW))))))
  have HN := Lib.hid (news_of' W (hV.below hBW))
  have HWS := Lib.hid hWs
  have hWl : w.heap.size < W.heap.size ∧ w.heap.size + 1 < W.heap.size := by omega
  clear hpx hex hBW h hV hY hWs
  go_enter Tryz.func90, Tryz.ntmps90
  go_wp2_with (at_builtin; (refine wpList_append_own_at _ rfl _ _ 27 rfl W.heap.size 3 i0 (.int .i64 0) 1 8 Tryz.underlying27 hi hz0 hz1 hz2 rfl (by decide) _ _ _ rfl (made_at' W W.heap.size W.heap.size rfl (Nat.le_refl _) _) ⟨bv, ov, none⟩ 8 cv (ivs V) rfl (by simp [ivs, hV8]) HN.out (ivs_one' V) (by unfold maxLen; omega) (by omega) (by simp) ?_); intro v1 w1 hown hgrow _ hat; refine Hid.out ?_)
  rw [Nat.zero_add, List.nil_append] at hown
  obtain ⟨g1, c1, rfl, hg1, hg1l⟩ := hown.form (by omega)
  have hb1 : Below W.heap.size W w1 := ((Below.refl _ W).alloc (Nat.le_refl _) _).grown hgrow (by simp) (fun k hk => by cases hk; exact Nat.le_refl _)
  have hg1W : g1 < w1.heap.size := hg1l
  have H1 := Lib.hid (And.intro hown (And.intro hb1 hg1))
  clear hown hgrow hat hb1 HN
  obtain ⟨W2, hW2⟩ : ∃ W2, (w1.alloc (.cells #[] 3)).alloc (.cells zero7R 157) = W2 := ⟨_, rfl⟩
  have hbn : Below w1.heap.size w1 W2 := by rw [← hW2]; exact below_then (below_new w1 _) (below_new _ _)
  have hsx : W2.ownsRow W.heap.size 3 1 (.slice (some ⟨w1.heap.size, 0, none⟩) 0 0) 0 (ivs []) := by
    rw [← hW2]; exact (made_at' w1 w1.heap.size W.heap.size rfl H1.out.2.1.size _).alloc _
  have hrx : Box (w1.heap.size + 1) zero7R 157 W2 := by
    have h9 := Box.new (w1.alloc (.cells #[] 3)) zero7R 157
    rw [World.size_alloc] at h9
    rw [← hW2]; exact h9
  have H2 := Lib.hid (And.intro hbn (And.intro hsx hrx))
  clear hbn hsx hrx
  refine Lib.hid ?_
  go_wp2_with ((refine wpList_store_box rfl 157 _ _ rfl (w1.heap.size + 1) _ _ H2.out.2.2 #[.slice (some ⟨g1, 0, none⟩) 8 c1, .slice (some ⟨w1.heap.size, 0, none⟩) 0 0, .slice none 0 0, .slice ay ny cy, .slice none 0 0, .int .i64 0, .bool false] rfl rfl rfl (by kernel_rfl) (by simp [Value.oneCell']) ?_); intro w3 hx3 hg3; refine Hid.out ?_)
  have hb3 : Below w1.heap.size w1 w3 := H2.out.1.grown hg3 H2.out.1.size (fun k hk => by cases hk; omega)
  have hRn : RnAt W.heap.size (w1.heap.size + 1) g1 c1 (some ⟨w1.heap.size, 0, none⟩) 0 0 none 0 0 ⟨ay, ny, cy, Y, none, 0, 0, [], 0, false⟩ ⟨V, [], []⟩ w3 := by
    have hWw := H1.out.2.1.size
    refine ⟨hx3, by omega, H1.out.1.kept (grown_below hb3 none) (.inr (by simp [Value.ownBlock])), H2.out.2.1.kept hg3 (.inr (by simp [Value.ownBlock])), World.ownsRow_nil _ _ _ _, by omega, by simp [Value.ownBlock], by simp [Value.ownBlock], ?_, by simp [Value.ownBlock], .inr (by simp [Value.ownBlock])⟩
    intro e
    have h8 : w1.heap.size = g1 := Option.some.inj e
    omega
  have hBW3 : Below W.heap.size W w3 := H1.out.2.1.trans (hb3.mono H1.out.2.1.size)
  have hcf : CfgAt ⟨ay, ny, cy, Y, none, 0, 0, [], 0, false⟩ W := ⟨H0.out.2.2.2.2.2, Row.none_ W, hny, (by show (0 : Int) ≤ 1048576; decide), ⟨Int.le_refl _, (by show (0 : Int) ≤ 1000000; decide)⟩, hyv⟩
  obtain ⟨gt, off, t', ha, hlb, ht', ab, nb, cb, hrg, hbc, hrow⟩ := H0.out.2.2.2.1.2 j hjn
  obtain rfl : t' = t := by rw [ht] at ht'; exact (Option.some.inj ht').symm
  subst ha
  have hnb : t'.b.length = nb := hrow.1
  have hnb2 : (nb : Int) ≤ 1048576 := by have := hz.2 t' (List.mem_of_getElem? ht); omega
  have htot : tot ⟨V, [], []⟩ + cnt T ≤ 50000 := by
    have := runs_small hbe.1 hpar.runs (Nat.le_refl _)
    simp [tot]; omega
  obtain ⟨y, hy⟩ : ∃ y, exec (listSrc Y) T ⟨V, [], []⟩ = y := ⟨_, rfl⟩
  have HEX := Lib.hid (show Calls Tryz.prog 153 #[.pointer (some ⟨w1.heap.size + 1, 0, none⟩), .slice ab nb cb, .int .i64 0, .int .i64 nb] w3 (ExecOut W (w1.heap.size + 1) ⟨ay, ny, cy, Y, none, 0, 0, [], 0, false⟩ y) from by
    have h9 := spec_exec W ab nb cb t'.b hnb2 hbe.1 ⟨ay, ny, cy, Y, none, 0, 0, [], 0, false⟩ hcf hrow (w1.heap.size + 1) (nb - 0) 0 nb rfl T (by rw [← hnb]; exact hpar) (Nat.le_refl _) ⟨V, [], []⟩ w3 hvok htot hBW3 ⟨_, _, _, _, _, _, _, _, hRn⟩
    rw [← hy]; exact h9)
  have hyV : varsOk y.V = true := by rw [← hy]; exact exec_vars (listSrc_val hyv) T hvok
  have q0 := (range4 hrg).1
  have KEEP := Lib.hid (show ∀ w', Below W.heap.size W w' → w'.cell? ⟨w.heap.size, 0, none⟩ = some (.slice (some ⟨gt, off, none⟩) n cap) ∧ w'.cell? ⟨gt, off + j * 4, none⟩ = some (.slice ab nb cb) from fun w' h =>
    ⟨(h.cell (p := ⟨w.heap.size, 0, none⟩) hWl.1).trans (H0.out.1.cell 0), (h.cell (p := ⟨gt, off + j * 4, none⟩) hlb).trans q0⟩)
  have cS : w3.drew.cell? ⟨w.heap.size, 0, none⟩ = some (.slice (some ⟨gt, off, none⟩) n cap) ∧ w3.drew.cell? ⟨gt, off + j * 4, none⟩ = some (.slice ab nb cb) := KEEP.out w3 hBW3
  have HEXD := Lib.hid (show Calls Tryz.prog 153 #[.pointer (some ⟨w1.heap.size + 1, 0, none⟩), .slice ab nb cb, .int .i64 0, .int .i64 nb] w3.drew (ExecOut W (w1.heap.size + 1) ⟨ay, ny, cy, Y, none, 0, 0, [], 0, false⟩ y) from by
    have h9 := spec_exec W ab nb cb t'.b hnb2 hbe.1 ⟨ay, ny, cy, Y, none, 0, 0, [], 0, false⟩ hcf hrow (w1.heap.size + 1) (nb - 0) 0 nb rfl T (by rw [← hnb]; exact hpar) (Nat.le_refl _) ⟨V, [], []⟩ w3.drew hvok htot (hBW3.trans ((Below.drew (Below.refl _ w3)).mono hBW3.size)) ⟨_, _, _, _, _, _, _, _, hRn.below (Below.drew (Below.refl _ w3))⟩
    rw [← hy]; exact h9)
  have hjI : (j : Int) < n := by omega
  have hj0 : (0 : Int) ≤ j := by omega
  have HNX := Lib.hid (And.intro ht (And.intro hbe.2 hyV))
  clear HEX hx3 hg3 hb3 hRn hcf ht ht' hrg hrow hW2 hpar
  refine Lib.hid ?_
  go_wp2
  go_region_held3 (fun w' => w'.cell? ⟨w.heap.size, 0, none⟩ = some (.slice (some ⟨gt, off, none⟩) n cap) ∧ w'.cell? ⟨gt, off + j * 4, none⟩ = some (.slice ab nb cb))
    (first
      | (with_reducible exact cS)
      | (with_reducible exact sX))
    (first
      | (go_at_call 153; (with_reducible refine HEXD.out.mono ?_); rintro e w4 ⟨rfl, hb4, hr4⟩; have sX := KEEP.out w4 hb4))
  all_goals
    obtain ⟨gv, cv', a1, n1, c1', a2, n2, c2', hr⟩ := hr4
    have hb4D : Below W.heap.size W w4.drew := hb4.trans ((Below.drew (Below.refl _ w4)).mono hb4.size)
    have hrD := hr.below (Below.drew (Below.refl _ w4))
    have hgl := hrD.box.lt
    have cT : w4.drew.cell? ⟨(w1.heap.size + 1), 0, none⟩ = some (.slice (some ⟨gv, 0, none⟩) 8 cv') ∧ w4.drew.cell? ⟨(w1.heap.size + 1), 1, none⟩ = some (.slice a1 n1 c1') ∧ w4.drew.cell? ⟨(w1.heap.size + 1), 2, none⟩ = some (.slice a2 n2 c2') ∧ w4.drew.cell? ⟨w.heap.size, 0, none⟩ = some (.slice (some ⟨gt, off, none⟩) n cap) := ⟨hrD.box.cell 0, hrD.box.cell 1, hrD.box.cell 2, (KEEP.out _ hb4D).1⟩
    have hex4 : Box (w.heap.size + 1) zero4E 60 w4.drew := (hb4D.block _ hWl.2).trans H0.out.2.1
    have hl4 : w.heap.size < w4.drew.heap.size := Nat.lt_of_lt_of_le hWl.1 hb4D.size
    obtain ⟨X, hX⟩ : ∃ X, nx (evalV y.V t'.o t'.x t'.y) n = X := ⟨_, rfl⟩
    have hPn : P.length = n := H0.out.2.2.2.1.1
    have HN4 := Lib.hid (spec_next (some ⟨gt, off, none⟩) n cap P hz w4.drew (H0.out.2.2.2.1.below hb4D) (some ⟨gv, 0, none⟩) 8 cv' y.V hrD.vrow HNX.out.2.2 j t' HNX.out.1 HNX.out.2.1 X hX.symm)
    have H4 := Lib.hid (And.intro hb4D (And.intro hrD hex4))
    have hne1 : w1.heap.size + 1 ≠ w.heap.size + 1 := by have := H1.out.2.1.size; omega
    have hne2 : w.heap.size ≠ w.heap.size + 1 := by omega
    clear sX cS hb4 hr hb4D hrD hex4
    refine Lib.hid ?_
    go_wp2
    go_region_held3 (fun w' => w'.cell? ⟨(w1.heap.size + 1), 0, none⟩ = some (.slice (some ⟨gv, 0, none⟩) 8 cv') ∧ w'.cell? ⟨(w1.heap.size + 1), 1, none⟩ = some (.slice a1 n1 c1') ∧ w'.cell? ⟨(w1.heap.size + 1), 2, none⟩ = some (.slice a2 n2 c2') ∧ w'.cell? ⟨w.heap.size, 0, none⟩ = some (.slice (some ⟨gt, off, none⟩) n cap))
      (first
        | (with_reducible exact putS hne1 hne2 (putS hne1 hne2 (putS hne1 hne2 (putS hne1 hne2 sY))))
        | (with_reducible exact cT)
        | (with_reducible exact sY))
      (first
        | (go_at_call 134; (with_reducible refine HN4.out.mono ?_); rintro e w5 ⟨rfl, hb5⟩; have sY := keepN hb5 hgl hl4 cT; have hbx5 := H4.out.2.2.below hb5; have k0 := hbx5.cell 0; have k1 := hbx5.cell 1; have k2 := hbx5.cell 2; have k3 := hbx5.cell 3; have f0 := hbx5.frozen 0; have f1 := hbx5.frozen 1; have f2 := hbx5.frozen 2; have f3 := hbx5.frozen 3))
  all_goals
    have hr5 := H4.out.2.1.below hb5
    have hE : effOf P t' y = ⟨y.V, y.S, X, n2⟩ := by
      have h1 := hr5.ulen
      unfold effOf
      rw [hPn, hX, h1]
    have hx9 : Box (w.heap.size + 1) #[.slice (some ⟨gv, 0, none⟩) 8 cv', .slice a1 n1 c1', .int .i64 X, .int .i64 n2] 60 ((((w5.setCell ⟨w.heap.size + 1, 0, none⟩ (.slice (some ⟨gv, 0, none⟩) 8 cv')).setCell ⟨w.heap.size + 1, 1, none⟩ (.slice a1 n1 c1')).setCell ⟨w.heap.size + 1, 2, none⟩ (.int .i64 X)).setCell ⟨w.heap.size + 1, 3, none⟩ (.int .i64 n2)) := (((hbx5.set 0 _).set 1 _).set 2 _).set 3 _
    have hg9 : w5.grownBy ((((w5.setCell ⟨w.heap.size + 1, 0, none⟩ (.slice (some ⟨gv, 0, none⟩) 8 cv')).setCell ⟨w.heap.size + 1, 1, none⟩ (.slice a1 n1 c1')).setCell ⟨w.heap.size + 1, 2, none⟩ (.int .i64 X)).setCell ⟨w.heap.size + 1, 3, none⟩ (.int .i64 n2)) (some (w.heap.size + 1)) :=
      ((grown_setCell _ _ _ _).trans ((grown_setCell _ _ _ _).trans ((grown_setCell _ _ _ _).trans (grown_setCell _ _ _ _))))
    have hB5 : Below w.heap.size w w5 := H0.out.2.2.1.trans ((H4.out.1.trans (hb5.mono H4.out.1.size)).mono (by omega))
    obtain ⟨W9, hW9⟩ : ∃ W9, ((((w5.setCell ⟨w.heap.size + 1, 0, none⟩ (.slice (some ⟨gv, 0, none⟩) 8 cv')).setCell ⟨w.heap.size + 1, 1, none⟩ (.slice a1 n1 c1')).setCell ⟨w.heap.size + 1, 2, none⟩ (.int .i64 X)).setCell ⟨w.heap.size + 1, 3, none⟩ (.int .i64 n2)) = W9 := ⟨_, rfl⟩
    rw [hW9] at hx9 hg9 ⊢
    have hlo : ∀ {v : Value} {m : Nat} {xs : List Value}, w5.ownsRow W.heap.size 3 1 v m xs → W9.ownsRow w.heap.size 3 1 v m xs := fun {v m xs} h => (h.kept hg9 (.inr (fun e => by have := (h.lt _ e).1; omega))).mono (by omega)
    have H9 := Lib.hid (And.intro hx9 (And.intro (hlo hr5.vars) (And.intro (hlo hr5.sent) (And.intro hr5.su (And.intro hr5.sv (hB5.grown hg9 hB5.size (fun k hk => by cases hk; omega)))))))
    have HE := Lib.hid hE
    clear hx9 hg9 hlo hr5 hB5 hW9 hE k0 k1 k2 k3 f0 f1 f2 f3 hbx5 sY cT
    refine Lib.hid ?_
    go_wp2
    refine bodyPost_ret (v := effV (some ⟨gv, 0, none⟩) 8 cv' a1 n1 c1' ⟨y.V, y.S, X, n2⟩) (results_cell_row rfl _ _ (w.heap.size + 1) _ _ _ _ rfl H9.out.1 Tryz.underlying60 rfl (by kernel_rfl)) rfl ?_
    rw [hy, HE.out]
    exact ⟨_, _, _, _, _, _, rfl, ⟨H9.out.2.1, H9.out.2.2.1, .inr (fun e => H9.out.2.2.2.2.1 e.symm)⟩, H9.out.2.2.2.2.2⟩
end Go.Proofs.YtmgeecdgebemdaaGreatDoor.exe
