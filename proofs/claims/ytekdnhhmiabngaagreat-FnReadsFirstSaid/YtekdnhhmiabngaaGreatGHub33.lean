/- Several texts in one: RefU RefI RefK. -/
import Derived.Test.YtekdnhhmiabngaaGreatGHub32
import Derived.Test.YtekdnhhmiabngaaGreatGHub27
import Derived.Test.YtekdnhhmiabngaaGreatGHub25
import Derived.BigQuiet

/- Chapter 13 of the program: RefTasks: what the plain relation says, in new memory; nothing that was there is written. -/
namespace Go.Proofs.YtekdnhhmiabngaaGreat.ref
open Go Go.ChangeShapes Go.WideShapes Go.ChangeAt Go.RowKit Go.Proofs.YtekdnhhmiabngaaGreat.row Go.Proofs.YtekdnhhmiabngaaGreat.val Go.Proofs.YtekdnhhmiabngaaGreat.expr Go.Proofs.YtekdnhhmiabngaaGreat.stm Go.Proofs.YtekdnhhmiabngaaGreat.blk Go.Proofs.YtekdnhhmiabngaaGreat.prg Go.Proofs.YtekdnhhmiabngaaGreat.exe Go.Proofs.YtekdnhhmiabngaaGreat.srow Go.Proofs.YtekdnhhmiabngaaGreat.rng
attribute [local go_sem] Oper.semAt_some
/-- The numbers of the tasks while they are collected: a row in new memory, in the variable in the block 'g'. -/
def TasksAt (w0 : World) (g : Nat) (P : List Tk) (V : List Int) (i : Int) (UU : List (List Int)) (pre : List Yl) (W : World) : Prop :=
  ∃ a n c R L, (RunR P (UU.take pre.length) ⟨V, [], i⟩ R ∧ R.V = lastV V pre ∧ R.T = lastT i pre ∧ RunT P (UU.take pre.length) V i L ∧ L.length ≤ 100) ∧ Box g #[.slice a n c] 28 W ∧
    W.ownsRow w0.heap.size 3 1 (.slice a n c) n (ivs L) ∧ (∀ b, (Value.slice a n c).ownBlock = some b → b ≠ g) ∧ Below w0.heap.size w0 W
theorem TasksAt.past {w0 : World} {g : Nat} {P : List Tk} {V : List Int} {i : Int} {UU : List (List Int)} {pre : List Yl} {W W' : World} {r : Option Nat} (h : TasksAt w0 g P V i UU pre W) (hg : W.grownBy W' r) (hr : ∀ k, r = some k → w0.heap.size ≤ k ∧ ∃ o : Obj, W.heap[k]? = some o ∧ o.isCells = false) : TasksAt w0 g P V i UU pre W' := by
  obtain ⟨a, n, c, R, L, h1, h2, h3, h4, h5⟩ := h
  exact ⟨a, n, c, R, L, h1, box_past h2 hg (fun k e => (hr k e).2), own_past h3 hg (fun k e => (hr k e).2), h4, h5.grown hg h5.size (fun k e => (hr k e).1)⟩
set_option maxHeartbeats 8000000 in
set_option maxRecDepth 100000 in
theorem reftasks_no (a : Option Addr) (n cap : Nat) (P : List Tk) (hz : Sizes P) (hcap : n ≤ cap) (w : World) (h : TkRow w a n P) (ad : Option Addr) (nv cv : Nat) (V : List Int) (hnv : (nv : Int) ≤ 1048576) (hV : Row w ad nv V) (au : Option Addr) (nu cu : Nat) (UU : List (List Int)) (hsz : SSizes UU) (hU : SRow w au nu UU)
    (i : Int) (hno : ¬ RefOk P V UU i) : Calls Tryz.prog 48 #[.agg #[.slice a n cap], .int .i64 i, .slice ad nv cv, .slice au nu cu] w (NewInts w []) := by
  obtain ⟨W, hW⟩ : ∃ W, w.alloc (.cells #[.slice a n cap] 26) = W := ⟨_, rfl⟩
  have hBW : Below w.heap.size w W := by rw [← hW]; exact below_new w _
  have hpx : Box w.heap.size #[.slice a n cap] 26 W := by rw [← hW]; exact Box.new w _ _
  have HC := Lib.hid (impl_canrun a n cap P hz hcap W (h.below hBW) ad nv cv V hnv (hV.below hBW) au nu cu UU hsz (hU.below hBW) i false ⟨fun e => (by cases e), fun e => (hno e).elim⟩)
  have c0 : W.cell? ⟨w.heap.size, 0, none⟩ = some (.slice a n cap) := hpx.cell 0
  have H0 := Lib.hid hBW
  have HW := Lib.hid hW
  clear hBW hpx h hV hU hW
  go_enter Tryz.func48, Tryz.ntmps48
  go_wp2_with (go_at_call 82; rw [HW.out]; (with_reducible refine HC.out.mono ?_); rintro e w2 ⟨rfl, hb2⟩; refine Hid.out ?_)
  have HB2 := Lib.hid (below_then H0.out hb2)
  clear hb2 c0
  refine Lib.hid ?_
  go_wp2
  go_ret
  exact ⟨none, 0, 0, rfl, World.ownsRow_nil _ _ _ _, HB2.out⟩
set_option maxHeartbeats 8000000 in
set_option maxRecDepth 100000 in
theorem reftasks_yes (a : Option Addr) (n cap : Nat) (P : List Tk) (hz : Sizes P) (hcap : n ≤ cap) (w : World) (h : TkRow w a n P) (ad : Option Addr) (nv cv : Nat) (V : List Int) (hnv : (nv : Int) ≤ 1048576) (hvc : nv ≤ cv) (hV : Row w ad nv V) (au : Option Addr) (nu cu : Nat) (UU : List (List Int)) (hsz : SSizes UU) (hU : SRow w au nu UU)
    (i : Int) (hok : RefOk P V UU i) (L : List Int) (hL : RunT P UU V i L) : Calls Tryz.prog 48 #[.agg #[.slice a n cap], .int .i64 i, .slice ad nv cv, .slice au nu cu] w (NewInts w L) := by
  obtain ⟨W, hW⟩ : ∃ W, w.alloc (.cells #[.slice a n cap] 26) = W := ⟨_, rfl⟩
  have hBW : Below w.heap.size w W := by rw [← hW]; exact below_new w _
  have hpx : Box w.heap.size #[.slice a n cap] 26 W := by rw [← hW]; exact Box.new w _ _
  have HC := Lib.hid (impl_canrun a n cap P hz hcap W (h.below hBW) ad nv cv V hnv (hV.below hBW) au nu cu UU hsz (hU.below hBW) i true ⟨fun _ => hok, fun _ => rfl⟩)
  have c0 : W.cell? ⟨w.heap.size, 0, none⟩ = some (.slice a n cap) := hpx.cell 0
  have H0 := Lib.hid (And.intro hpx hBW)
  have HZ := Lib.hid (And.intro hz (And.intro hsz (And.intro h (And.intro hV (And.intro hU (And.intro hok hL))))))
  have HW := Lib.hid hW
  have hU100 := hok.2.1
  obtain ⟨i0, hi, hz0, hz1, hz2⟩ := info_parts row.infoInt
  clear hBW hpx h hV hU hW hz hsz hok hL
  refine calls_of_wp_range Tryz.func48 rfl ?_
  simp only [Tryz.ntmps48, List.size_toArray, List.length_cons, List.length_nil, Nat.reduceAdd, Nat.reduceSub, Array.replicate_succ, Array.replicate_zero, List.push_toArray, List.append_toArray, List.nil_append, List.cons_append]
  go_wp2_with (go_at_call 82; rw [HW.out]; (with_reducible refine HC.out.mono ?_); rintro e w2 ⟨rfl, hb2⟩; refine Hid.out ?_)
  have HB2 := Lib.hid (And.intro (H0.out.1.below hb2) (below_then H0.out.2 hb2))
  have hsl : w.heap.size < w2.heap.size := HB2.out.1.lt
  have d0 : w2.cell? ⟨w.heap.size, 0, none⟩ = some (.slice a n cap) := HB2.out.1.cell 0
  clear hb2 c0
  obtain ⟨w5, hw5⟩ : ∃ w5, (w2.alloc (.cells #[] 3)).alloc (.cells #[.slice (some ⟨w2.heap.size, 0, none⟩) 0 0] 28) = w5 := ⟨_, rfl⟩
  have hb5 : Below w2.heap.size w2 w5 := by rw [← hw5]; exact below_then (below_new w2 _) (below_new _ _)
  have hx5 : Box (w2.heap.size + 1) #[.slice (some ⟨w2.heap.size, 0, none⟩) 0 0] 28 w5 := by
    have h9 := Box.new (w2.alloc (.cells #[] 3)) #[.slice (some ⟨w2.heap.size, 0, none⟩) 0 0] 28
    rw [World.size_alloc] at h9
    rw [← hw5]; exact h9
  have ho5 : w5.ownsRow w.heap.size 3 1 (.slice (some ⟨w2.heap.size, 0, none⟩) 0 0) 0 (ivs []) := by
    rw [← hw5]; exact own_below (aps.made_ati w2 w2.heap.size w.heap.size rfl (Nat.le_of_lt hsl) 3) (below_new _ _)
  have H5 := Lib.hid (And.intro hx5 (And.intro ho5 (below_then HB2.out.2 hb5)))
  have HW5 := Lib.hid hw5
  clear hw5 hb5 hx5 ho5
  refine Lib.hid ?_
  go_wp2_with (go_at_call 84; rw [HW5.out]; (with_reducible refine (impl_tasksof _ a n cap i ad nv cv au nu cu).mono ?_); rintro e w6 ⟨q, rfl, hq, hit, hb6⟩; refine Hid.out ?_)
  have H6 := Lib.hid (And.intro (H5.out.1.below hb6) (And.intro (own_below H5.out.2.1 hb6) (And.intro (below_then H5.out.2.2 hb6) (And.intro hit hq))))
  clear hb6 hit d0
  refine Lib.hid ?_
  go_wp2
  have hgq : w2.heap.size + 1 < q := Nat.lt_of_lt_of_le H5.out.1.lt H6.out.2.2.2.2
  have hB6 := H6.out.2.2.1
  have hg6 : w2.heap.size + 1 < w6.heap.size := H6.out.1.lt
  refine wp_range (gf := 123) (lb := #[.pointer (some ⟨q + 1, 0, none⟩), .pointer (some ⟨q + 2, 0, none⟩), .pointer (some ⟨q + 3, 0, none⟩), .pointer (some ⟨q, 0, none⟩)]) rfl (enters_of Tryz.func123 (by kernel_rfl) rfl)
    Yl.vs (fun _ => rfl) (Yields w.heap.size ⟨w2.heap.size + 1, 0, none⟩ P V i UU) (KeptBut w.heap.size ⟨w2.heap.size + 1, 0, none⟩) (fun xs => xs.length = UU.length) ?seq KeptBut.trans
    (fun X l o o' hl h1 h2 => KeptBut.putObj X l o o' (Nat.le_trans hB6.size hl) h1 h2) (TasksAt w (w2.heap.size + 1) P V i UU) ?own ?start ?round ?done
  case seq =>
    intro l J X hX hJ hY h0
    have hs : ∃ v, X.cell? ⟨w2.heap.size + 1, 0, none⟩ = some v ∧ ∀ b, v.ownBlock = some b → w.heap.size ≤ b ∧ b < q :=
      ⟨.slice (some ⟨w2.heap.size, 0, none⟩) 0 0, ((H6.out.1.below hX).cell 0), fun b e => by
        obtain rfl : w2.heap.size = b := by simpa [Value.ownBlock] using e
        omega⟩
    exact impl_iter w a n cap P HZ.out.1 hcap HZ.out.2.2.1 ad nv cv V hvc HZ.out.2.2.2.1 au nu cu UU HZ.out.2.1 HZ.out.2.2.2.2.1 i HZ.out.2.2.2.2.2.1 ⟨w2.heap.size + 1, 0, none⟩ q ⟨by show w.heap.size ≤ w2.heap.size + 1; omega, hgq⟩ l J X (below_then hB6 hX) (H6.out.2.2.2.1.below hX) hs hJ hY h0
  case own =>
    intro s X Y r hs hg hr
    exact TasksAt.past hs hg (fun k e => ⟨Nat.le_trans hB6.size (hr k e).1, (hr k e).2⟩)
  case start =>
    exact ⟨some ⟨w2.heap.size, 0, none⟩, 0, 0, ⟨V, [], i⟩, [], ⟨.nil _, rfl, rfl, .nil _ _, by simp⟩, H6.out.1, H6.out.2.1, fun b e => by
      obtain rfl : w2.heap.size = b := by simpa [Value.ownBlock] using e
      omega, hB6⟩
  case round =>
    intro l pre x X hI hY
    obtain ⟨T, a1, n1, c1, a2, n2, c2, E⟩ := x
    have HI := Lib.hid hI
    have HY := Lib.hid hY
    clear hI hY
    gi_wp2
    refine ⟨KeepsFrom.refl _ _, KeptBut.of_below (Below.refl _ _) (by obtain ⟨_, _, _, _, _, _, _, _, _, hh⟩ := HI.out; exact hh.size), ?_⟩
    intro W2 o hl ho hoc hg2
    have hpast : ∀ k, some l = some k → ∃ o : Obj, X.heap[k]? = some o ∧ o.isCells = false := fun k e => by cases e; exact ⟨o, ho, hoc⟩
    have hI2 := TasksAt.past HI.out hg2 (fun k e => ⟨by cases e; exact Nat.le_trans hB6.size hl, hpast k e⟩)
    obtain ⟨e1, m1, k1, R', L', ⟨hr1, hr2, hr3, hr4, hr5⟩, hbx, hown, hne, hbel⟩ := hI2
    obtain ⟨u, hu, hT, hE⟩ := HY.out.1
    dsimp only at hT
    obtain rfl := hT
    have r0 : W2.cell? ⟨w2.heap.size + 1, 0, none⟩ = some (.slice e1 m1 k1) := hbx.cell 0
    have hm1 := own_len hown
    have hL100 : L'.length < 100 := by
      have h1 := hr4.len
      have h2 : pre.length < UU.length := (List.getElem?_eq_some_iff.1 hu).1
      rw [h1, List.length_take]; omega
    have hgl : w2.heap.size + 1 < W2.heap.size := hbx.lt
    have H2 := Lib.hid (And.intro hbx (And.intro hown (And.intro hne hbel)))
    have HF := Lib.hid (And.intro hr1 (And.intro hr2 (And.intro hr3 (And.intro hr4 (And.intro hu hE)))))
    have hwW : w.heap.size ≤ W2.heap.size := hbel.size
    clear hbx hown hne hbel hr1 hr2 hr3 hr4 hr5 hu hE hg2 ho hoc hl hpast hB6
    gi_wp2_with (gi_at_builtin; refine wpListIn_append_own_at _ rfl _ _ 28 rfl w.heap.size 3 i0 (.int .i64 0) 1 8 Tryz.underlying28 hi hz0 hz1 hz2 rfl (by decide) _ _ _ rfl (H2.out.2.1.alloc _) ⟨W2.heap.size, 0, none⟩ 1 1 [.int .i64 (lastT i pre)] rfl rfl (World.news_of_block (cs := #[.int .i64 (lastT i pre)]) (t := 3) (fr := (0, 0)) (heap_alloc_new W2 _)) (by simp [Value.oneCell']) (by unfold maxLen; omega) (by omega) (by simp; omega) ?_; intro v4 w4 hown4 hgrow4 _ hat4; refine Hid.out ?_)
    rw [ivs_snoc] at hown4
    obtain ⟨a9, c9, rfl, _⟩ := aps.own_sliceA hown4
    have hg4 : W2.grownBy w4 (Value.slice e1 m1 k1).ownBlock := grown_trans (World.grownBy_alloc W2 _ _) hgrow4
    have hbx4 := H2.out.1.grown hg4 (fun e => H2.out.2.2.1 _ e.symm rfl)
    have hc4 : w4.cell? ⟨w2.heap.size + 1, 0, none⟩ = some (.slice e1 m1 k1) := hbx4.cell 0
    have hf4 : w4.frozen? ⟨w2.heap.size + 1, 0, none⟩ = false := hbx4.frozen 0
    have hb9 : ∀ b, (Value.slice a9 (m1 + 1) c9).ownBlock = some b → (Value.slice e1 m1 k1).ownBlock = some b ∨ W2.heap.size ≤ b := fun b e => by
      rcases hat4 with h9 | h9
      · have h8 : (Value.slice a9 (m1 + 1) c9).ownBlock = (Value.slice e1 m1 k1).ownBlock := h9
        exact .inl (h8.symm.trans e)
      · right
        have h8 : (Value.slice a9 (m1 + 1) c9).ownBlock = some (W2.alloc (.cells #[.int .i64 (lastT i pre)] 3)).heap.size := h9
        rw [h8] at e
        have : (W2.alloc (.cells #[.int .i64 (lastT i pre)] 3)).heap.size = b := Option.some.inj e
        simp at this; omega
    have H4 := Lib.hid (And.intro hbx4 (And.intro hown4 (And.intro hg4 hb9)))
    clear hbx4 hown4 hgrow4 hat4 hg4 hb9 r0
    refine Lib.hid ?_
    gi_wp2
    have hg9 := grown_setCell w4 (w2.heap.size + 1) 0 (.slice a9 (m1 + 1) c9)
    obtain ⟨W9, hW9⟩ : ∃ W9, w4.setCell ⟨w2.heap.size + 1, 0, none⟩ (.slice a9 (m1 + 1) c9) = W9 := ⟨_, rfl⟩
    rw [hW9] at hg9 ⊢
    have hbx9 : Box (w2.heap.size + 1) #[.slice a9 (m1 + 1) c9] 28 W9 := by
      rw [← hW9]
      exact H4.out.1.set 0 (.slice a9 (m1 + 1) c9)
    have hg8 := H4.out.2.2.1
    have hs48 := hg8.size
    have hs89 := hg9.size
    have hs2l : ∀ b, (Value.slice e1 m1 k1).ownBlock = some b → w.heap.size ≤ b ∧ b < W2.heap.size := fun b e => H2.out.2.1.lt b e
    have h9g : ∀ b, (Value.slice a9 (m1 + 1) c9).ownBlock = some b → b ≠ w2.heap.size + 1 := fun b e => by
      rcases H4.out.2.2.2 b e with h | h
      · exact H2.out.2.2.1 b h
      · omega
    have hS9 := H4.out.2.1.kept hg9 (.inr (fun e => (h9g _ e) rfl))
    have hbel9 : Below w.heap.size W2 W9 := ((Below.refl w.heap.size W2).grown hg8 (by omega) (fun k e => (hs2l k e).1)).grown hg9 (by omega) (fun k e => by cases e; omega)
    refine ⟨((KeepsOthers.of_grownBy hg8 (fun j o e ho => ?_)).trans (KeepsOthers.of_grownBy hg9 (fun j o e ho => ?_))).from _, ⟨hbel9, fun v hv => ?_⟩, ?_⟩
    · obtain ⟨cs, h9⟩ := own_cells H2.out.2.1 e
      rw [h9] at ho; cases ho; rfl
    · cases e
      have h9 : w4.heap[w2.heap.size + 1]? = _ := H4.out.1
      rw [h9] at ho; cases ho; rfl
    · have h9 : W2.cell? ⟨w2.heap.size + 1, 0, none⟩ = some (.slice e1 m1 k1) := H2.out.1.cell 0
      rw [h9] at hv
      obtain rfl := Option.some.inj hv
      refine ⟨⟨.slice a9 (m1 + 1) c9, hbx9.cell 0, H4.out.2.2.2, fun _ b e => (hS9.lt b e).2⟩, fun b cs t fr hb hne9 hown => ?_⟩
      have hbl := lt_of_heap hb
      have h8 := (hg8.block b hbl (fun e => hown e.symm)).trans hb
      exact (hg9.block b (by omega) (fun e => hne9 (Option.some.inj e))).trans h8
    · refine ⟨a9, m1 + 1, c9, ⟨E.V, box R'.S E.S, E.N⟩, L' ++ [lastT i pre], ⟨run_snoc HF.out.2.2.2.2.1 HF.out.2.2.2.2.2 HF.out.1 HF.out.2.1 HF.out.2.2.1, by rw [lastV_snoc], by rw [lastT_snoc], tasks_snoc HF.out.2.2.2.2.1 HF.out.2.2.2.2.2 HF.out.1 HF.out.2.1 HF.out.2.2.1 HF.out.2.2.2.1, by simp; omega⟩, hbx9, hS9, h9g, H2.out.2.2.2.trans hbel9⟩
  case done =>
    intro D xs X hD hS hI hK
    obtain ⟨e1, m1, k1, R', L', ⟨_, _, _, hr4, _⟩, hbx, hown, _, hbel⟩ := hI
    rw [hS, List.take_length] at hr4
    obtain rfl := hr4.unique HZ.out.2.2.2.2.2.2
    have r0 : X.cell? ⟨w2.heap.size + 1, 0, none⟩ = some (.slice e1 m1 k1) := hbx.cell 0
    have hgp := grownBy_putObj' X D (.deferred none)
    have hpp : ∀ k, some D = some k → ∃ o : Obj, X.heap[k]? = some o ∧ o.isCells = false := fun k e => by cases e; exact ⟨_, hK, rfl⟩
    have HD := Lib.hid (And.intro hK (And.intro (own_past hown hgp hpp) (hbel.grown hgp hbel.size (fun k e => by cases e; exact Nat.le_trans hB6.size hD))))
    clear hr4 hbx hown hbel hK hS hgp hpp
    go_wp2
    refine ⟨by simp, .inl ⟨_, _, rfl, run_takeDeferred HD.out.1, ?_⟩⟩
    exact ⟨_, results_tmp rfl _ _ _, e1, m1, k1, rfl, HD.out.2.1, HD.out.2.2⟩
theorem impl_reftasks : RtC := by
  intro a n cap P hz hcap w h ad nv cv V hnv hvc hV au nu cu UU hsz _ hU i L hL
  rcases hL with ⟨rfl, hno⟩ | ⟨hok, hL⟩
  · exact reftasks_no a n cap P hz hcap w h ad nv cv V hnv hV au nu cu UU hsz hU i hno
  · exact reftasks_yes a n cap P hz hcap w h ad nv cv V hnv hvc hV au nu cu UU hsz hU i hok L hL
end Go.Proofs.YtekdnhhmiabngaaGreat.ref

/- Chapter 13 of the program: SameRef, over the library's equality of rows of numbers (walked whole); with it RefRun and RefTasks; nothing that was there is written. -/
namespace Go.Proofs.YtekdnhhmiabngaaGreat.ref
open Go Go.ChangeShapes Go.WideShapes Go.ChangeAt Go.RowKit Go.Proofs.YtekdnhhmiabngaaGreat.row Go.Proofs.YtekdnhhmiabngaaGreat.val Go.Proofs.YtekdnhhmiabngaaGreat.expr Go.Proofs.YtekdnhhmiabngaaGreat.stm Go.Proofs.YtekdnhhmiabngaaGreat.blk Go.Proofs.YtekdnhhmiabngaaGreat.prg Go.Proofs.YtekdnhhmiabngaaGreat.exe Go.Proofs.YtekdnhhmiabngaaGreat.srow
end Go.Proofs.YtekdnhhmiabngaaGreat.ref

/- The law's comparison of two references, its marks in a reference of its own and its look at them. -/
namespace Go.Proofs.YtekdnhhmiabngaaGreat.ref
open Go Go.ChangeShapes Go.WideShapes Go.ChangeAt Go.RowKit Go.Proofs.YtekdnhhmiabngaaGreat.row Go.Proofs.YtekdnhhmiabngaaGreat.val Go.Proofs.YtekdnhhmiabngaaGreat.expr Go.Proofs.YtekdnhhmiabngaaGreat.mrk Go.Proofs.YtekdnhhmiabngaaGreat.exe

set_option maxHeartbeats 4000000 in
theorem eqref_any (w : World) (E : Rf) (a1 : Option Addr) (n1 c1 : Nat) (a2 : Option Addr) (n2 c2 : Nat) (b1 : Option Addr) (d1 : Nat) (b2 : Option Addr) (d2 : Nat) (hn1 : (n1 : Int) ≤ 1048576) (hn2 : (n2 : Int) ≤ 1048576)
    (r1 : Row w a1 n1 E.V) (r2 : Row w a2 n2 E.S) (s1 : Row w b1 n1 E.V) (s2 : Row w b2 n2 E.S) :
    Calls Tryz.prog 42 #[refV a1 n1 c1 a2 n2 c2 E, refV b1 n1 d1 b2 n2 d2 E] w (BelB w true) := by
  obtain ⟨V, S, T⟩ := E
  show Calls Tryz.prog 42 #[.agg #[.slice a1 n1 c1, .slice a2 n2 c2, .int .i64 T], .agg #[.slice b1 n1 d1, .slice b2 n2 d2, .int .i64 T]] w (BelB w true)
  obtain ⟨W, hW⟩ : ∃ W, (w.alloc (.cells #[.slice a1 n1 c1, .slice a2 n2 c2, .int .i64 T] 60)).alloc (.cells #[.slice b1 n1 d1, .slice b2 n2 d2, .int .i64 T] 60) = W := ⟨_, rfl⟩
  have hBW : Below w.heap.size w W := by rw [← hW]; exact below_then (below_new w _) (below_new _ _)
  have hx : Box w.heap.size #[.slice a1 n1 c1, .slice a2 n2 c2, .int .i64 T] 60 W := by rw [← hW]; exact (Box.new w _ _).alloc _
  have hy : Box (w.heap.size + 1) #[.slice b1 n1 d1, .slice b2 n2 d2, .int .i64 T] 60 W := by
    have h9 := Box.new (w.alloc (.cells #[.slice a1 n1 c1, .slice a2 n2 c2, .int .i64 T] 60)) #[.slice b1 n1 d1, .slice b2 n2 d2, .int .i64 T] 60
    rw [World.size_alloc] at h9
    rw [← hW]; exact h9
  have H0 := Lib.hid (And.intro hBW (And.intro (r1.below hBW) (And.intro (r2.below hBW) (And.intro (s1.below hBW) (s2.below hBW)))))
  have x0 : W.cell? ⟨w.heap.size, 0, none⟩ = some (.slice a1 n1 c1) := hx.cell 0
  have y0 : W.cell? ⟨w.heap.size + 1, 0, none⟩ = some (.slice b1 n1 d1) := hy.cell 0
  have HX := Lib.hid (And.intro hx hy)
  clear hBW r1 r2 s1 s2 hx hy
  go_enter Tryz.func42, Tryz.ntmps42
  go_wp2_with (go_at_call 30; (with_reducible refine (eqInts_any _ a1 b1 n1 c1 d1 V hn1 H0.out.2.1 H0.out.2.2.2.1).mono ?_); rintro e w2 ⟨rfl, hg2⟩; refine Hid.out ?_)
  have hb2 : Below W.heap.size W w2 := (Below.refl _ W).grown hg2 (Nat.le_refl _) (fun k hk => by cases hk)
  have hX2 := HX.out.1.below hb2
  have hY2 := HX.out.2.below hb2
  have H2 := Lib.hid (And.intro (below_then H0.out.1 hb2) (And.intro (H0.out.2.2.1.below hb2) (H0.out.2.2.2.2.below hb2)))
  have x1 : w2.cell? ⟨w.heap.size, 1, none⟩ = some (.slice a2 n2 c2) := hX2.cell 1
  have y1 : w2.cell? ⟨w.heap.size + 1, 1, none⟩ = some (.slice b2 n2 d2) := hY2.cell 1
  have HX2 := Lib.hid (And.intro hX2 hY2)
  clear hg2 hb2 x0 y0 hX2 hY2
  refine Lib.hid ?_
  go_wp2_with (go_at_call 30; (with_reducible refine (eqInts_any _ a2 b2 n2 c2 d2 S hn2 H2.out.2.1 H2.out.2.2).mono ?_); rintro e w3 ⟨rfl, hg3⟩; refine Hid.out ?_)
  have hb3 : Below w2.heap.size w2 w3 := (Below.refl _ w2).grown hg3 (Nat.le_refl _) (fun k hk => by cases hk)
  have hX3 := HX2.out.1.below hb3
  have hY3 := HX2.out.2.below hb3
  have x2 : w3.cell? ⟨w.heap.size, 2, none⟩ = some (.int .i64 T) := hX3.cell 2
  have y2 : w3.cell? ⟨w.heap.size + 1, 2, none⟩ = some (.int .i64 T) := hY3.cell 2
  have HB3 := Lib.hid (below_then H2.out.1 hb3)
  clear hg3 hb3 x1 y1 hX3 hY3
  refine Lib.hid ?_
  go_wp2
  go_ret
  exact ⟨rfl, HB3.out⟩
/-- What the marks leave. -/
def MarkR (B lo hi : Nat) (w : World) (a1 : Option Addr) (n1 c1 : Nat) (a2 : Option Addr) (n2 c2 : Nat) (q : Nat) (e : Ending) (w' : World) : Prop :=
  e = .returned (.int .i64 ((q + n1 + n2 : Nat) : Int)) ∧ (Below lo w w' ∧ Far hi w w') ∧ w.heap.size ≤ w'.heap.size ∧ ∃ L1 L2 : List Int, Hid (w'.ownsRow B 3 1 (.slice a1 n1 c1) n1 (ivs L1) ∧ w'.ownsRow B 3 1 (.slice a2 n2 c2) n2 (ivs L2) ∧ Marked L1 q n1 ∧ Marked L2 (q + n1) n2)
set_option maxHeartbeats 4000000 in
theorem markref_any (B lo hi : Nat) (w : World) (a1 : Option Addr) (n1 c1 : Nat) (a2 : Option Addr) (n2 c2 : Nat) (E : Rf) (q : Nat) (hn1 : (n1 : Int) ≤ 1048576) (hn2 : (n2 : Int) ≤ 1048576) (hq : (q : Int) ≤ 1000000000) (hlo : lo ≤ w.heap.size) (hhi : hi ≤ w.heap.size) (h1 : ∀ g, (Value.slice a1 n1 c1).ownBlock = some g → lo ≤ g ∧ g < hi) (h2 : ∀ g, (Value.slice a2 n2 c2).ownBlock = some g → lo ≤ g ∧ g < hi)
    (hm : RefMem B a1 n1 c1 a2 n2 c2 E w) :
    Calls Tryz.prog 45 #[refV a1 n1 c1 a2 n2 c2 E, .int .i64 q] w (MarkR B lo hi w a1 n1 c1 a2 n2 c2 q) := by
  obtain ⟨V, S, T⟩ := E
  show Calls Tryz.prog 45 #[.agg #[.slice a1 n1 c1, .slice a2 n2 c2, .int .i64 T], .int .i64 q] w (MarkR B lo hi w a1 n1 c1 a2 n2 c2 q)
  obtain ⟨W, hW⟩ : ∃ W, w.alloc (.cells #[.slice a1 n1 c1, .slice a2 n2 c2, .int .i64 T] 60) = W := ⟨_, rfl⟩
  have hBW : Below w.heap.size w W := by rw [← hW]; exact below_new w _
  have hx : Box w.heap.size #[.slice a1 n1 c1, .slice a2 n2 c2, .int .i64 T] 60 W := by rw [← hW]; exact Box.new w _ _
  have H0 := Lib.hid (And.intro hBW (And.intro hx (And.intro (hm.1.kept (grown_below hBW none) (okn _ _ _)) (hm.2.1.kept (grown_below hBW none) (okn _ _ _)))))
  have HAP := Lib.hid hm.2.2
  have H12 := Lib.hid (And.intro h1 h2)
  have x0 : W.cell? ⟨w.heap.size, 0, none⟩ = some (.slice a1 n1 c1) := hx.cell 0
  clear hBW hx hm h1 h2
  go_enter Tryz.func45, Tryz.ntmps45
  go_wp2_with (go_at_call 32; refine (markInts_wide _ _ _ _ _ q _ hn1 (by omega) H0.out.2.2.1).mono ?_; rintro e w2 ⟨rfl, hg2, L1, ho1, hM1⟩; refine Hid.out ?_)
  have hbf0 : Below lo w W ∧ Far hi w W := ⟨H0.out.1.mono hlo, fun b _ hb => H0.out.1.block b hb⟩
  have H2 := Lib.hid (And.intro (bf_own hbf0 H0.out.1.size hlo hg2 H12.out.1) (And.intro (H0.out.2.1.grown hg2 (fun e => by have := (H12.out.1 _ e.symm).2; omega)) (And.intro ho1 (And.intro (H0.out.2.2.2.kept hg2 (by
      cases hq2 : (Value.slice a2 n2 c2).ownBlock with
      | none => exact .inl rfl
      | some g =>
        right; intro e
        rcases HAP.out with h | h
        · rw [h] at e; cases e
        · exact h (by rw [hq2]; exact e.symm))) (Nat.le_trans H0.out.1.size hg2.size)))))
  have HM1 := Lib.hid hM1
  have x1 : w2.cell? ⟨w.heap.size, 1, none⟩ = some (.slice a2 n2 c2) := H2.out.2.1.cell 1
  clear hg2 ho1 hM1 hbf0 x0
  refine Lib.hid ?_
  go_wp2_with (go_at_call 32; refine (markInts_wide _ _ _ _ _ (q + n1) _ hn2 (by omega) H2.out.2.2.2.1).mono ?_; rintro e w3 ⟨rfl, hg3, L2, ho2, hM2⟩; refine Hid.out ?_)
  have H3 := Lib.hid (And.intro (bf_own H2.out.1 H2.out.2.2.2.2 hlo hg3 H12.out.2) (And.intro (Nat.le_trans H2.out.2.2.2.2 hg3.size) (And.intro (H2.out.2.2.1.kept hg3 HAP.out) ho2)))
  have HM2 := Lib.hid hM2
  clear hg3 ho2 hM2 x1
  refine Lib.hid ?_
  go_wp2
  go_ret
  exact ⟨rfl, H3.out.1, H3.out.2.1, L1, L2, H3.out.2.2.1, H3.out.2.2.2, HM1.out, HM2.out⟩
set_option maxHeartbeats 4000000 in
theorem heldref_any (w : World) (a1 : Option Addr) (n1 c1 : Nat) (a2 : Option Addr) (n2 c2 : Nat) (T : Int) (q : Nat) (L1 L2 : List Int) (hn1 : (n1 : Int) ≤ 1048576) (hn2 : (n2 : Int) ≤ 1048576) (hq : (q : Int) ≤ 1000000000) (h1 : Row w a1 n1 L1) (h2 : Row w a2 n2 L2) (hM1 : Marked L1 q n1) (hM2 : Marked L2 (q + n1) n2) :
    Calls Tryz.prog 46 #[.agg #[.slice a1 n1 c1, .slice a2 n2 c2, .int .i64 T], .int .i64 q] w fun e w' => e = .returned (.int .i64 ((q + n1 + n2 : Nat) : Int)) ∧ Below w.heap.size w w' := by
  obtain ⟨W, hW⟩ : ∃ W, w.alloc (.cells #[.slice a1 n1 c1, .slice a2 n2 c2, .int .i64 T] 60) = W := ⟨_, rfl⟩
  have hBW : Below w.heap.size w W := by rw [← hW]; exact below_new w _
  have hx : Box w.heap.size #[.slice a1 n1 c1, .slice a2 n2 c2, .int .i64 T] 60 W := by rw [← hW]; exact Box.new w _ _
  have H0 := Lib.hid (And.intro hBW (And.intro hx (And.intro (h1.below hBW) (h2.below hBW))))
  have HMM := Lib.hid (And.intro hM1 hM2)
  have x0 : W.cell? ⟨w.heap.size, 0, none⟩ = some (.slice a1 n1 c1) := hx.cell 0
  have k1 : ¬ ((q + n1 : Nat) : Int) < 0 := by omega
  have k2 : ¬ ((q + n1 + n2 : Nat) : Int) < 0 := by omega
  clear hBW hx h1 h2 hM1 hM2
  go_enter Tryz.func46, Tryz.ntmps46
  go_wp2_with (go_at_call 37; refine (heldInts_any _ _ _ _ q _ hn1 (by omega) H0.out.2.2.1 HMM.out.1).mono ?_; rintro e w2 ⟨rfl, hg2⟩; refine Hid.out ?_)
  have hb2 := below_grown hg2
  have H2 := Lib.hid (And.intro (below_then H0.out.1 hb2) (And.intro (H0.out.2.1.below hb2) (H0.out.2.2.2.below hb2)))
  have x1 : w2.cell? ⟨w.heap.size, 1, none⟩ = some (.slice a2 n2 c2) := H2.out.2.1.cell 1
  clear hg2 hb2 x0
  refine Lib.hid ?_
  go_wp2_with (go_at_call 37; refine (heldInts_any _ _ _ _ (q + n1) _ hn2 (by omega) H2.out.2.2 HMM.out.2).mono ?_; rintro e w3 ⟨rfl, hg3⟩; refine Hid.out ?_)
  have HB3 := Lib.hid (below_then H2.out.1 (below_grown hg3))
  clear hg3 x1
  refine Lib.hid ?_
  go_wp2
  go_ret
  exact ⟨rfl, HB3.out⟩
end Go.Proofs.YtekdnhhmiabngaaGreat.ref
