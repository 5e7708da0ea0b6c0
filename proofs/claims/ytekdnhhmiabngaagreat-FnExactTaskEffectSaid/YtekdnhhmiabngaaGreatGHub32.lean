/- Several texts in one: RefR. -/
import Derived.Test.YtekdnhhmiabngaaGreatGHub31
import Derived.Maps.OwnIn

/- Chapter 13 of the program: RefRun: what the plain relation says, in new memory; nothing that was there is written. -/
namespace Go.Proofs.YtekdnhhmiabngaaGreat.ref
open Go Go.ChangeShapes Go.WideShapes Go.ChangeAt Go.RowKit Go.Proofs.YtekdnhhmiabngaaGreat.row Go.Proofs.YtekdnhhmiabngaaGreat.val Go.Proofs.YtekdnhhmiabngaaGreat.expr Go.Proofs.YtekdnhhmiabngaaGreat.stm Go.Proofs.YtekdnhhmiabngaaGreat.blk Go.Proofs.YtekdnhhmiabngaaGreat.prg Go.Proofs.YtekdnhhmiabngaaGreat.exe Go.Proofs.YtekdnhhmiabngaaGreat.srow Go.Proofs.YtekdnhhmiabngaaGreat.rng
attribute [local go_sem] Oper.semAt_some

theorem own_cells {w : World} {B n : Nat} {t : TypeId} {v : Value} {xs : List Value} (h : w.ownsRow B t 1 v n xs) {b : Nat} (e : v.ownBlock = some b) : ∃ cs, w.heap[b]? = some (.cells cs t (0, 0)) := by
  rcases h.2 with ⟨e1, _⟩ | ⟨g, cap, cur, e1, _, hg, _⟩
  · rw [e1] at e; cases e
  · rw [e1] at e; cases e; exact ⟨cur, hg⟩
/-- What is no cells is turned: an owned row stays. -/
theorem own_past {w w' : World} {B n : Nat} {t : TypeId} {v : Value} {xs : List Value} {r : Option Nat} (h : w.ownsRow B t 1 v n xs) (hg : w.grownBy w' r) (hr : ∀ k, r = some k → ∃ o : Obj, w.heap[k]? = some o ∧ o.isCells = false) : w'.ownsRow B t 1 v n xs := by
  refine h.kept hg ?_
  cases e : v.ownBlock with
  | none => exact .inl rfl
  | some b =>
    right
    intro e2
    obtain ⟨cs, hc⟩ := own_cells h e
    obtain ⟨o, ho, hcs⟩ := hr b e2.symm
    rw [hc] at ho; cases ho; cases hcs
theorem box_past {w w' : World} {g : Nat} {cs : Array Value} {t : TypeId} {r : Option Nat} (h : Box g cs t w) (hg : w.grownBy w' r) (hr : ∀ k, r = some k → ∃ o : Obj, w.heap[k]? = some o ∧ o.isCells = false) : Box g cs t w' := by
  refine h.grown hg (fun e => ?_)
  obtain ⟨o, ho, hcs⟩ := hr g e.symm
  have h' : w.heap[g]? = some (.cells cs t (0, 0)) := h
  rw [h'] at ho; cases ho; cases hcs
theorem own_below {w w' : World} {B n : Nat} {t : TypeId} {v : Value} {xs : List Value} (h : w.ownsRow B t 1 v n xs) (hb : Below w.heap.size w w') : w'.ownsRow B t 1 v n xs := own_past h (grown_below hb none) (fun k e => by cases e)
theorem grown_drew {w w1 : World} {r : Option Nat} (h : w.grownBy w1 r) : w.grownBy w1.drew r := ⟨h.os, h.tape, h.output, h.size, h.block⟩
theorem apart {u v : Value} (h : ∀ b, v.ownBlock = some b → u.ownBlock ≠ some b) : v.ownBlock = none ∨ v.ownBlock ≠ u.ownBlock := by
  cases e : v.ownBlock with
  | none => exact .inl rfl
  | some b => exact .inr (fun e2 => h b e e2.symm)
theorem keepsFrom_below {B : Nat} {W W' : World} (hb : Below W.heap.size W W') : KeepsFrom B W W' := KeepsFrom.of_grownBy (grown_below hb none) (fun j e => by cases e)
/-- The reference while it is built: in the block 'g', its rows in new memory. -/
def BuildAt (w0 : World) (g : Nat) (P : List Tk) (V : List Int) (i : Int) (UU : List (List Int)) (pre : List Yl) (W : World) : Prop :=
  ∃ a1 n1 c1 a2 n2 c2 R, (RunR P (UU.take pre.length) ⟨V, [], i⟩ R ∧ R.V = lastV V pre ∧ R.T = lastT i pre ∧ R.S.length ≤ 24) ∧ Box g #[.slice a1 n1 c1, .slice a2 n2 c2, .int .i64 R.T] 60 W ∧
    RefMem w0.heap.size a1 n1 c1 a2 n2 c2 R W ∧ (∀ b, (Value.slice a1 n1 c1).ownBlock = some b ∨ (Value.slice a2 n2 c2).ownBlock = some b → b ≠ g ∧ b ≠ w0.heap.size + 1) ∧
    Box (w0.heap.size + 1) zero3R 60 W ∧ Below w0.heap.size w0 W
theorem BuildAt.past {w0 : World} {g : Nat} {P : List Tk} {V : List Int} {i : Int} {UU : List (List Int)} {pre : List Yl} {W W' : World} {r : Option Nat} (h : BuildAt w0 g P V i UU pre W) (hg : W.grownBy W' r) (hr : ∀ k, r = some k → w0.heap.size ≤ k ∧ ∃ o : Obj, W.heap[k]? = some o ∧ o.isCells = false) : BuildAt w0 g P V i UU pre W' := by
  obtain ⟨a1, n1, c1, a2, n2, c2, R, h1, h2, h3, h4, h5, h6⟩ := h
  exact ⟨a1, n1, c1, a2, n2, c2, R, h1, box_past h2 hg (fun k e => (hr k e).2), ⟨own_past h3.1 hg (fun k e => (hr k e).2), own_past h3.2.1 hg (fun k e => (hr k e).2), h3.2.2⟩, h4, box_past h5 hg (fun k e => (hr k e).2), h6.grown hg h6.size (fun k e => (hr k e).1)⟩
set_option maxHeartbeats 8000000 in
set_option maxRecDepth 100000 in
theorem refrun_no (a : Option Addr) (n cap : Nat) (P : List Tk) (hz : Sizes P) (hcap : n ≤ cap) (w : World) (h : TkRow w a n P) (ad : Option Addr) (nv cv : Nat) (V : List Int) (hnv : (nv : Int) ≤ 1048576) (hV : Row w ad nv V) (au : Option Addr) (nu cu : Nat) (UU : List (List Int)) (hsz : SSizes UU) (hU : SRow w au nu UU)
    (i : Int) (hno : ¬ RefOk P V UU i) : Calls Tryz.prog 41 #[.agg #[.slice a n cap], .int .i64 i, .slice ad nv cv, .slice au nu cu] w (NewRefB w false zeroRf) := by
  obtain ⟨W, hW⟩ : ∃ W, (w.alloc (.cells #[.slice a n cap] 26)).alloc (.cells zero3R 60) = W := ⟨_, rfl⟩
  have hBW : Below w.heap.size w W := by rw [← hW]; exact below_then (below_new w _) (below_new _ _)
  have hpx : Box w.heap.size #[.slice a n cap] 26 W := by rw [← hW]; exact (Box.new w _ _).alloc _
  have hrx : Box (w.heap.size + 1) zero3R 60 W := by
    have h9 := Box.new (w.alloc (.cells #[.slice a n cap] 26)) zero3R 60
    rw [World.size_alloc] at h9
    rw [← hW]; exact h9
  have HC := Lib.hid (impl_canrun a n cap P hz hcap W (h.below hBW) ad nv cv V hnv (hV.below hBW) au nu cu UU hsz (hU.below hBW) i false ⟨fun e => (by cases e), fun e => (hno e).elim⟩)
  have c0 : W.cell? ⟨w.heap.size, 0, none⟩ = some (.slice a n cap) := hpx.cell 0
  have H0 := Lib.hid (And.intro hrx hBW)
  have HW := Lib.hid hW
  clear hBW hpx hrx h hV hU hW
  go_enter Tryz.func41, Tryz.ntmps41
  go_wp2_with (go_at_call 82; rw [HW.out]; (with_reducible refine HC.out.mono ?_); rintro e w2 ⟨rfl, hb2⟩; refine Hid.out ?_)
  have HB2 := Lib.hid (And.intro (H0.out.1.below hb2) (below_then H0.out.2 hb2))
  have hsl : w.heap.size + 1 < W.heap.size := H0.out.1.lt
  clear hb2 c0
  refine Lib.hid ?_
  go_wp2_with ((refine wpList_store_box rfl 60 _ _ rfl (w.heap.size + 1) _ _ HB2.out.1 zero3R rfl rfl rfl (by kernel_rfl) (by simp [Value.oneCell']) ?_); intro w5 hx5 hg5; refine Hid.out ?_)
  have hB5 : Below w.heap.size w w5 := HB2.out.2.grown hg5 HB2.out.2.size (fun k hk => by cases hk; omega)
  have H9 := Lib.hid (And.intro hx5 hB5)
  clear hx5 hg5 hB5
  refine Lib.hid ?_
  go_wp2
  refine bodyPost_ret (v := .tuple #[refV none 0 0 none 0 0 zeroRf, .bool false]) (results_box2 rfl _ _ (w.heap.size + 1) _ _ _ _ rfl rfl H9.out.1 Tryz.underlying60 rfl (by kernel_rfl)) rfl ?_
  exact ⟨_, _, _, _, _, _, rfl, ⟨World.ownsRow_nil _ _ _ _, World.ownsRow_nil _ _ _ _, .inl rfl⟩, H9.out.2⟩
set_option maxHeartbeats 8000000 in
set_option maxRecDepth 100000 in
theorem refrun_yes (a : Option Addr) (n cap : Nat) (P : List Tk) (hz : Sizes P) (hcap : n ≤ cap) (w : World) (h : TkRow w a n P) (ad : Option Addr) (nv cv : Nat) (V : List Int) (hnv : (nv : Int) ≤ 1048576) (hvc : nv ≤ cv) (hV : Row w ad nv V) (au : Option Addr) (nu cu : Nat) (UU : List (List Int)) (hsz : SSizes UU) (hU : SRow w au nu UU)
    (i : Int) (hok : RefOk P V UU i) (R : Rf) (hR : RunR P UU ⟨V, [], i⟩ R) : Calls Tryz.prog 41 #[.agg #[.slice a n cap], .int .i64 i, .slice ad nv cv, .slice au nu cu] w (NewRefB w true R) := by
  obtain ⟨W, hW⟩ : ∃ W, (w.alloc (.cells #[.slice a n cap] 26)).alloc (.cells zero3R 60) = W := ⟨_, rfl⟩
  have hBW : Below w.heap.size w W := by rw [← hW]; exact below_then (below_new w _) (below_new _ _)
  have hpx : Box w.heap.size #[.slice a n cap] 26 W := by rw [← hW]; exact (Box.new w _ _).alloc _
  have hrx : Box (w.heap.size + 1) zero3R 60 W := by
    have h9 := Box.new (w.alloc (.cells #[.slice a n cap] 26)) zero3R 60
    rw [World.size_alloc] at h9
    rw [← hW]; exact h9
  have HC := Lib.hid (impl_canrun a n cap P hz hcap W (h.below hBW) ad nv cv V hnv (hV.below hBW) au nu cu UU hsz (hU.below hBW) i true ⟨fun _ => hok, fun _ => rfl⟩)
  have c0 : W.cell? ⟨w.heap.size, 0, none⟩ = some (.slice a n cap) := hpx.cell 0
  have H0 := Lib.hid (And.intro hpx (And.intro hrx hBW))
  have HZ := Lib.hid (And.intro hz (And.intro hsz (And.intro h (And.intro hV (And.intro hU (And.intro hok hR))))))
  have HW := Lib.hid hW
  have hlen8 := ((varsOk_iff V).1 hok.1.2.1).1
  obtain rfl : nv = 8 := by have := hV.1; omega
  clear hBW hpx hrx h hV hU hW hz hsz hok hR hlen8
  refine calls_of_wp_range Tryz.func41 rfl ?_
  simp only [Tryz.ntmps41, List.size_toArray, List.length_cons, List.length_nil, Nat.reduceAdd, Nat.reduceSub, Array.replicate_succ, Array.replicate_zero, List.push_toArray, List.append_toArray, List.nil_append, List.cons_append]
  go_wp2_with (go_at_call 82; rw [HW.out]; (with_reducible refine HC.out.mono ?_); rintro e w2 ⟨rfl, hb2⟩; refine Hid.out ?_)
  have HB2 := Lib.hid (And.intro (H0.out.1.below hb2) (And.intro (H0.out.2.1.below hb2) (below_then H0.out.2.2 hb2)))
  clear hb2 c0
  refine Lib.hid ?_
  go_wp2_with (go_at_call 83; (with_reducible refine (cop.impl_copyof _ ad 8 cv V (by decide) (HZ.out.2.2.2.1.below HB2.out.2.2)).mono ?_); rintro e w3 ⟨g1, rfl, hg1, hx1, hb3⟩; refine Hid.out ?_)
  have HB3 := Lib.hid (And.intro (HB2.out.1.below hb3) (And.intro (HB2.out.2.1.below hb3) (And.intro (below_then HB2.out.2.2 hb3) (And.intro hx1 hg1))))
  have HX := Lib.hid (And.intro (Box.new w3 zero3R 60) (below_new w3 (.cells zero3R 60)))
  clear hb3 hx1
  refine Lib.hid ?_
  go_wp2_with ((refine wpList_store_box rfl 60 _ _ rfl w3.heap.size _ _ HX.out.1 #[.slice (some ⟨g1, 0, none⟩) 8 8, .slice none 0 0, .int .i64 i] rfl rfl rfl (by kernel_rfl) (by simp [Value.oneCell']) ?_); intro w5 hx5 hg5; refine Hid.out ?_)
  have hb5 : Below w3.heap.size w3 w5 := HX.out.2.grown hg5 HX.out.2.size (fun k hk => by cases hk; exact Nat.le_refl _)
  have d0 : w5.cell? ⟨w.heap.size, 0, none⟩ = some (.slice a n cap) := (HB3.out.1.below hb5).cell 0
  have H5 := Lib.hid (And.intro hx5 (And.intro (HB3.out.2.1.below hb5) (And.intro (below_then HB3.out.2.2.1 hb5) (HB3.out.2.2.2.1.below hb5))))
  clear hx5 hg5 hb5
  refine Lib.hid ?_
  go_wp2_with (go_at_call 84; (with_reducible refine (impl_tasksof _ a n cap i ad 8 cv au nu cu).mono ?_); rintro e w6 ⟨q, rfl, hq, hit, hb6⟩; refine Hid.out ?_)
  have H6 := Lib.hid (And.intro (H5.out.1.below hb6) (And.intro (H5.out.2.1.below hb6) (And.intro (below_then H5.out.2.2.1 hb6) (And.intro (H5.out.2.2.2.below hb6) (And.intro hit hq)))))
  clear hb6 hit d0
  refine Lib.hid ?_
  go_wp2
  have hg3 : g1 < w3.heap.size := HB3.out.2.2.2.1.lt
  have hgq : w3.heap.size < q := Nat.lt_of_lt_of_le H5.out.1.lt H6.out.2.2.2.2.2
  have hsl : w.heap.size + 1 < w2.heap.size := HB2.out.2.1.lt
  have hw23 : w2.heap.size ≤ w3.heap.size := by omega
  have hB6 := H6.out.2.2.1
  have hq6 : q < w6.heap.size := H6.out.2.2.2.2.1.1.lt
  refine wp_range (gf := 123) (lb := #[.pointer (some ⟨q + 1, 0, none⟩), .pointer (some ⟨q + 2, 0, none⟩), .pointer (some ⟨q + 3, 0, none⟩), .pointer (some ⟨q, 0, none⟩)]) rfl (enters_of Tryz.func123 (by kernel_rfl) rfl)
    Yl.vs (fun _ => rfl) (Yields w.heap.size ⟨w3.heap.size, 1, none⟩ P V i UU) (KeptBut w.heap.size ⟨w3.heap.size, 1, none⟩) (fun xs => xs.length = UU.length) ?seq KeptBut.trans
    (fun X l o o' hl h1 h2 => KeptBut.putObj X l o o' (Nat.le_trans hB6.size hl) h1 h2) (BuildAt w w3.heap.size P V i UU) ?own ?start ?round ?done
  case seq =>
    intro l J X hX hJ hY h0
    have hs : ∃ v, X.cell? ⟨w3.heap.size, 1, none⟩ = some v ∧ ∀ b, v.ownBlock = some b → w.heap.size ≤ b ∧ b < q :=
      ⟨.slice none 0 0, ((H6.out.1.below hX).cell 1), fun b e => by cases e⟩
    exact impl_iter w a n cap P HZ.out.1 hcap HZ.out.2.2.1 ad 8 cv V hvc HZ.out.2.2.2.1 au nu cu UU HZ.out.2.1 HZ.out.2.2.2.2.1 i HZ.out.2.2.2.2.2.1 ⟨w3.heap.size, 1, none⟩ q ⟨by show w.heap.size ≤ w3.heap.size; omega, hgq⟩ l J X (below_then hB6 hX) (H6.out.2.2.2.2.1.below hX) hs hJ hY h0
  case own =>
    intro s X Y r hs hg hr
    exact BuildAt.past hs hg (fun k e => ⟨Nat.le_trans hB6.size (hr k e).1, (hr k e).2⟩)
  case start =>
    refine ⟨some ⟨g1, 0, none⟩, 8, 8, none, 0, 0, ⟨V, [], i⟩, ⟨.nil _, rfl, rfl, by simp⟩, H6.out.1, ⟨cop.box_own H6.out.2.2.2.1 (by omega) HZ.out.2.2.2.1.1 (by unfold maxLen; omega), World.ownsRow_nil _ _ _ _, .inr (by simp [Value.ownBlock])⟩, fun b hb => ?_, H6.out.2.1, hB6⟩
    rcases hb with hb | hb
    · obtain rfl : g1 = b := by simpa [Value.ownBlock] using hb
      omega
    · cases hb
  case round =>
    intro l pre x X hI hY
    obtain ⟨T, a1, n1, c1, a2, n2, c2, E⟩ := x
    have HXb := Lib.hid (Box.new X zero4E 37)
    have HI := Lib.hid hI
    have HY := Lib.hid hY
    clear hI hY
    gi_wp2_with ((refine listIn_store_box (wide_round l) rfl 37 _ _ rfl X.heap.size _ _ HXb.out #[.slice a1 n1 c1, .slice a2 n2 c2, .int .i64 E.N, .int .i64 E.U] rfl rfl rfl (by kernel_rfl) (by simp [Value.oneCell']) ?_); intro w7 hx7 hg7; refine Hid.out ?_)
    have hb7 : Below X.heap.size X w7 := (below_new X _).grown hg7 (below_new X _).size (fun k hk => by cases hk; exact Nat.le_refl _)
    have hXw : w.heap.size ≤ X.heap.size := by
      obtain ⟨_, _, _, _, _, _, _, _, _, _, _, _, hh⟩ := HI.out
      exact hh.size
    refine Lib.hid ?_
    gi_wp2
    refine ⟨keepsFrom_below hb7, KeptBut.of_below hb7 hXw, ?_⟩
    intro W2 o hl ho hoc hg2
    have hpast : ∀ k, some l = some k → ∃ o : Obj, w7.heap[k]? = some o ∧ o.isCells = false := fun k e => by cases e; exact ⟨o, ho, hoc⟩
    have hE2 := box_past hx7 hg2 hpast
    have hm7 : EffMem w.heap.size a1 n1 c1 a2 n2 c2 E w7 := EffMem.below HY.out.2.1 hb7
    have hm2 : EffMem w.heap.size a1 n1 c1 a2 n2 c2 E W2 := ⟨own_past hm7.1 hg2 hpast, own_past hm7.2.1 hg2 hpast, hm7.2.2⟩
    obtain ⟨e1, m1, k1, e2, m2, k2, R', ⟨hr1, hr2, hr3, hr4⟩, hbxX, hmemX, hne, hbrX, hbelX⟩ := HI.out
    have hpX : X.cell? ⟨w3.heap.size, 1, none⟩ = some (.slice e2 m2 k2) := hbxX.cell 1
    have hbx := box_past (hbxX.below hb7) hg2 hpast
    have hS2 := own_past (own_below hmemX.2.1 hb7) hg2 hpast
    have hbr := box_past (hbrX.below hb7) hg2 hpast
    have hbel : Below w.heap.size w W2 := (below_then hbelX hb7).grown hg2 (below_then hbelX hb7).size (fun k e => by cases e; exact Nat.le_trans hB6.size hl)
    have hES : E.S.length ≤ 3000 := by
      obtain ⟨u, hu, _, hE⟩ := HY.out.1
      have hs := (RunR.sound hr1 HZ.out.2.2.2.2.2.1.1 (fun v hv => HZ.out.2.2.2.2.2.1.2.2 v (List.mem_of_mem_take hv))).1
      rw [hr2, hr3] at hs
      exact (EffIs.sound hE hs (HZ.out.2.2.2.2.2.1.2.2 u (List.mem_of_getElem? hu))).2
    have x0 : W2.cell? ⟨X.heap.size, 0, none⟩ = some (.slice a1 n1 c1) := hE2.cell 0
    have x2 : W2.cell? ⟨X.heap.size, 2, none⟩ = some (.int .i64 E.N) := hE2.cell 2
    have r0 : W2.cell? ⟨w3.heap.size, 0, none⟩ = some (.slice e1 m1 k1) := hbx.cell 0
    have r2 : W2.cell? ⟨w3.heap.size, 2, none⟩ = some (.int .i64 R'.T) := hbx.cell 2
    have f0 : W2.frozen? ⟨w3.heap.size, 0, none⟩ = false := hbx.frozen 0
    have f2 : W2.frozen? ⟨w3.heap.size, 2, none⟩ = false := hbx.frozen 2
    have hXg : ¬ X.heap.size = w3.heap.size := by have := hbxX.lt; omega
    have hgX : ¬ w3.heap.size = X.heap.size := fun e => hXg e.symm
    have hgw : w.heap.size + 1 < w3.heap.size := by omega
    have hg6 : w3.heap.size < w6.heap.size := by omega
    have hX2 : X.heap.size < W2.heap.size := hE2.lt
    have HF := Lib.hid (And.intro hr1 (And.intro hr2 (And.intro hr3 (And.intro hpX (And.intro hne hES)))))
    have H2 := Lib.hid (And.intro hE2 (And.intro hm2 (And.intro hbx (And.intro hS2 (And.intro hbr hbel)))))
    clear hE2 hm2 hbx hmemX hbr hbel hm7 hx7 hg7 hpast hS2 hr1 hr2 hr3 hpX hne hES hbxX hbrX hbelX hg2 ho hoc hl hb7 hXw hB6 hq6
    gi_wp2
    gi_region
    all_goals (refine ?same)
    obtain ⟨W4, hW4⟩ : ∃ W4, ((W2.setCell ⟨w3.heap.size, 0, none⟩ (.slice a1 n1 c1)).setCell ⟨w3.heap.size, 2, none⟩ (.int .i64 E.N)).drew = W4 := ⟨_, rfl⟩
    rw [hW4]
    have hg4 : W2.grownBy W4 (some w3.heap.size) := by rw [← hW4]; exact grown_drew (grown_trans (grown_setCell _ _ _ _) (grown_setCell _ _ _ _))
    have hbx4 : Box w3.heap.size #[.slice a1 n1 c1, .slice e2 m2 k2, .int .i64 E.N] 60 W4 := by
      rw [← hW4]
      have h9 := (H2.out.2.2.1.set 0 (.slice a1 n1 c1)).set 2 (.int .i64 E.N)
      exact h9
    have hE4 := H2.out.1.grown hg4 (fun e => hXg (Option.some.inj e))
    have hne1 : ∀ b, (Value.slice a1 n1 c1).ownBlock = some b ∨ (Value.slice a2 n2 c2).ownBlock = some b → b ≠ w3.heap.size ∧ (Value.slice e2 m2 k2).ownBlock ≠ some b := fun b hb => ⟨(HY.out.2.2 b hb).1, (HY.out.2.2 b hb).2 _ HF.out.2.2.2.1⟩
    have hA4 := H2.out.2.1.1.kept hg4 (.inr (fun e => (hne1 _ (.inl e)).1 rfl))
    have hM4 := H2.out.2.1.2.1.kept hg4 (.inr (fun e => (hne1 _ (.inr e)).1 rfl))
    have hS4 := H2.out.2.2.2.1.kept hg4 (.inr (fun e => (HF.out.2.2.2.2.1 _ (.inr e)).1 rfl))
    have hn2 : (n2 : Int) ≤ 1048576 := by have h1 := own_len hM4; have := HF.out.2.2.2.2.2; omega
    have HAD := Lib.hid (impl_addtobox w.heap.size w.heap.size W4 (Nat.le_trans H2.out.2.2.2.2.2.size hg4.size) e2 m2 k2 R'.S hS4 hr4 a2 n2 c2 E.S hn2 hM4)
    have y1 : W4.cell? ⟨w3.heap.size, 1, none⟩ = some (.slice e2 m2 k2) := hbx4.cell 1
    have z1 : W4.cell? ⟨X.heap.size, 1, none⟩ = some (.slice a2 n2 c2) := hE4.cell 1
    have H4 := Lib.hid (And.intro hg4 (And.intro hbx4 (And.intro hA4 (And.intro hS4 hne1))))
    clear hg4 hbx4 hE4 hne1 hA4 hM4 hS4 hW4 x0 x2 r0 r2 f0 f2
    refine Lib.hid ?_
    gi_wp2_with (refine ⟨trivial, rfl, ?_⟩; gi_at_call 85; (with_reducible refine (calls_in (wide_round l) HAD.out).mono ?_); rintro e w8 ⟨a9, n9, c9, rfl, hown8, hg8, hat8⟩; refine Hid.out ?_)
    have hbx8 := H4.out.2.1.grown hg8 (fun e => (HF.out.2.2.2.2.1 _ (.inr e.symm)).1 rfl)
    have hc8 : w8.cell? ⟨w3.heap.size, 1, none⟩ = some (.slice e2 m2 k2) := hbx8.cell 1
    have hf8 : w8.frozen? ⟨w3.heap.size, 1, none⟩ = false := hbx8.frozen 1
    have H8 := Lib.hid (And.intro hbx8 (And.intro hown8 (And.intro hg8 hat8)))
    clear hbx8 hown8 hg8 hat8 y1 z1
    refine Lib.hid ?_
    gi_wp2
    have hg9 := grown_setCell w8 w3.heap.size 1 (.slice a9 n9 c9)
    obtain ⟨W9, hW9⟩ : ∃ W9, w8.setCell ⟨w3.heap.size, 1, none⟩ (.slice a9 n9 c9) = W9 := ⟨_, rfl⟩
    rw [hW9] at hg9 ⊢
    have hbx9 : Box w3.heap.size #[.slice a1 n1 c1, .slice a9 n9 c9, .int .i64 E.N] 60 W9 := by
      rw [← hW9]
      exact H8.out.1.set 1 (.slice a9 n9 c9)
    have hg8 := H8.out.2.2.1
    have hs24 := H4.out.1.size
    have hs48 := hg8.size
    have hs89 := hg9.size
    have hww2 := H2.out.2.2.2.2.2.size
    have hs2l : ∀ b, (Value.slice e2 m2 k2).ownBlock = some b → w.heap.size ≤ b ∧ b < W4.heap.size := fun b e => H4.out.2.2.2.1.lt b e
    have hg4l : w3.heap.size < W4.heap.size := H4.out.2.1.lt
    have hb2 : ∀ b, (Value.slice e2 m2 k2).ownBlock = some b → b ≠ w3.heap.size ∧ b ≠ w.heap.size + 1 := fun b e => HF.out.2.2.2.2.1 b (.inr e)
    have hb9 : ∀ b, (Value.slice a9 n9 c9).ownBlock = some b → (Value.slice e2 m2 k2).ownBlock = some b ∨ W4.heap.size ≤ b := fun b e => by
      rcases H8.out.2.2.2 with h9 | h9
      · exact .inl (by rw [← h9]; exact e)
      · right; rw [h9] at e; cases e; exact Nat.le_refl _
    have hA8 := H4.out.2.2.1.kept hg8 (apart (fun b e => (H4.out.2.2.2.2 b (.inl e)).2))
    have hA9 := hA8.kept hg9 (.inr (fun e => (H4.out.2.2.2.2 _ (.inl e)).1 rfl))
    have h9g : ∀ b, (Value.slice a9 n9 c9).ownBlock = some b → b ≠ w3.heap.size ∧ b ≠ w.heap.size + 1 := fun b e => by
      rcases hb9 b e with h | h
      · exact hb2 b h
      · omega
    have hS9 := H8.out.2.1.kept hg9 (.inr (fun e => (h9g _ e).1 rfl))
    have hA1l : ∀ b, (Value.slice a1 n1 c1).ownBlock = some b → b ≠ w3.heap.size ∧ b < W4.heap.size := fun b e => ⟨(H4.out.2.2.2.2 b (.inl e)).1, (H4.out.2.2.1.lt b e).2⟩
    have hbel9 : Below w.heap.size W2 W9 := (((Below.refl w.heap.size W2).grown H4.out.1 hww2 (fun k e => by cases e; omega)).grown hg8 (by omega) (fun k e => (hs2l k e).1)).grown hg9 (by omega) (fun k e => by cases e; omega)
    refine ⟨((KeepsOthers.of_grownBy H4.out.1 (fun j o e ho => ?_)).trans ((KeepsOthers.of_grownBy hg8 (fun j o e ho => ?_)).trans (KeepsOthers.of_grownBy hg9 (fun j o e ho => ?_)))).from _, ⟨hbel9, fun v hv => ?_⟩, ?_⟩
    · cases e
      have h9 : W2.heap[w3.heap.size]? = _ := H2.out.2.2.1
      rw [h9] at ho; cases ho; rfl
    · obtain ⟨cs, h9⟩ := own_cells H4.out.2.2.2.1 e
      rw [h9] at ho; cases ho; rfl
    · cases e
      have h9 : w8.heap[w3.heap.size]? = _ := H8.out.1
      rw [h9] at ho; cases ho; rfl
    · have h9 : W2.cell? ⟨w3.heap.size, 1, none⟩ = some (.slice e2 m2 k2) := H2.out.2.2.1.cell 1
      rw [h9] at hv
      obtain rfl := Option.some.inj hv
      refine ⟨⟨.slice a9 n9 c9, hbx9.cell 1, fun b e => ?_, fun _ b e => (hS9.lt b e).2⟩, fun b cs t fr hb hne9 hown => ?_⟩
      · rcases hb9 b e with h | h
        · exact .inl h
        · right; omega
      · have hbl := lt_of_heap hb
        have h4 := (H4.out.1.block b hbl (fun e => hne9 (Option.some.inj e))).trans hb
        have h8 := (hg8.block b (by omega) (fun e => hown e.symm)).trans h4
        exact (hg9.block b (by omega) (fun e => hne9 (Option.some.inj e))).trans h8
    · obtain ⟨u, hu, _, hE⟩ := HY.out.1
      refine ⟨a1, n1, c1, a9, n9, c9, ⟨E.V, box R'.S E.S, E.N⟩, ⟨run_snoc hu hE HF.out.1 HF.out.2.1 HF.out.2.2.1, by rw [lastV_snoc], by rw [lastT_snoc], box_le _ _⟩, hbx9, ⟨hA9, hS9, apart (fun b e e2 => ?_)⟩, fun b hb => ?_, ?_, ?_⟩
      · rcases hb9 b e2 with h | h
        · exact (H4.out.2.2.2.2 b (.inl e)).2 h
        · have := hA1l b e; omega
      · rcases hb with hb | hb
        · refine ⟨(hA1l b hb).1, fun e => ?_⟩
          obtain ⟨cs, h9⟩ := own_cells H2.out.2.1.1 hb
          have h8 : W2.heap[w.heap.size + 1]? = _ := H2.out.2.2.2.2.1
          rw [e, h8] at h9
          cases h9
        · exact h9g b hb
      · have hx4 := H2.out.2.2.2.2.1.grown H4.out.1 (fun e => by have := Option.some.inj e; omega)
        have hx8 := hx4.grown hg8 (fun e => (hb2 _ e.symm).2 rfl)
        exact hx8.grown hg9 (fun e => by have := Option.some.inj e; omega)
      · exact H2.out.2.2.2.2.2.trans hbel9
  case done =>
    intro D xs X hD hS hI hK
    obtain ⟨e1, m1, k1, e2, m2, k2, R', ⟨hr1, hr2, hr3, hr4⟩, hbx, hmem, hne, hbr, hbel⟩ := hI
    rw [hS, List.take_length] at hr1
    obtain rfl := hr1.unique HZ.out.2.2.2.2.2.2
    have HD := Lib.hid (And.intro hbx (And.intro hmem (And.intro hne (And.intro hbr (And.intro hbel hK)))))
    have hgw : w.heap.size + 1 < w3.heap.size := by omega
    clear hr1 hr2 hr3 hbx hmem hne hbr hbel hK hS
    refine Lib.hid ?_
    go_wp2_with (first
      | (refine wpList_load_row rfl 60 _ rfl w3.heap.size rfl _ _ _ _ HD.out.1 Tryz.underlying60 rfl (by kernel_rfl) ?_)
      | ((refine wpList_store_box rfl 60 _ _ rfl (w.heap.size + 1) _ _ HD.out.2.2.2.1 #[.slice e1 m1 k1, .slice e2 m2 k2, .int .i64 R'.T] rfl rfl rfl (by kernel_rfl) (by simp [Value.oneCell']) ?_); intro w9 hx9 hg9; refine Hid.out ?_))
    have hK9 : w9.heap[D]? = some (.deferred (some [])) := (hg9.block D (lt_of_heap HD.out.2.2.2.2.2) (fun e => by have := Option.some.inj e; omega)).trans HD.out.2.2.2.2.2
    have hgp := grownBy_putObj' w9 D (.deferred none)
    have hpp : ∀ k, some D = some k → ∃ o : Obj, w9.heap[k]? = some o ∧ o.isCells = false := fun k e => by cases e; exact ⟨_, hK9, rfl⟩
    have hbp := box_past hx9 hgp hpp
    have ho1 := own_past (HD.out.2.1.1.kept hg9 (.inr (fun e => (HD.out.2.2.1 _ (.inl e)).2 rfl))) hgp hpp
    have ho2 := own_past (HD.out.2.1.2.1.kept hg9 (.inr (fun e => (HD.out.2.2.1 _ (.inr e)).2 rfl))) hgp hpp
    have hbel9 : Below w.heap.size w w9 := HD.out.2.2.2.2.1.grown hg9 HD.out.2.2.2.2.1.size (fun k e => by cases e; omega)
    have hbelp := hbel9.grown hgp hbel9.size (fun k e => by cases e; exact Nat.le_trans hB6.size hD)
    have HP9 := Lib.hid (And.intro hK9 (And.intro hbp (And.intro ho1 (And.intro ho2 hbelp))))
    clear hK9 hgp hpp hbp ho1 ho2 hbel9 hbelp hx9 hg9
    refine Lib.hid ?_
    go_wp2
    refine ⟨by simp, .inl ⟨_, _, rfl, run_takeDeferred HP9.out.1, ?_⟩⟩
    refine ⟨.tuple #[refV e1 m1 k1 e2 m2 k2 R', .bool true], results_box2 rfl _ _ (w.heap.size + 1) _ _ _ _ rfl rfl HP9.out.2.1 Tryz.underlying60 rfl (by kernel_rfl), ?_⟩
    exact ⟨e1, m1, k1, e2, m2, k2, rfl, ⟨HP9.out.2.2.1, HP9.out.2.2.2.1, HD.out.2.1.2.2⟩, HP9.out.2.2.2.2⟩
theorem impl_refrun : RrC := by
  intro a n cap P hz hcap w h ad nv cv V hnv hvc hV au nu cu UU hsz _ hU i r R hR
  rcases hR with ⟨rfl, rfl, hno⟩ | ⟨rfl, hok, hR⟩
  · exact refrun_no a n cap P hz hcap w h ad nv cv V hnv hV au nu cu UU hsz hU i hno
  · exact refrun_yes a n cap P hz hcap w h ad nv cv V hnv hvc hV au nu cu UU hsz hU i hok R hR
end Go.Proofs.YtekdnhhmiabngaaGreat.ref
