/- Several texts in one: DrawG SetB SetC SetD SetE SetF SetG. -/
import Derived.Test.YtekdnhhmiabngaaGreatGHub36
import Derived.Test.YtekdnhhmiabngaaGreatGHub3
import Derived.Test.YtekdnhhmiabngaaGreatGHub10
import Derived.Deep.AppendLies
import Derived.Deep.RegionLaw
import Derived.Test.YtekdnhhmiabngaaGreatGHub6
import Derived.Test.YtekdnhhmiabngaaGreatGHub12
import Derived.Test.YtekdnhhmiabngaaGreatGHub8
import Derived.Test.YtekdnhhmiabngaaGreatGHub9

/- The draws of programs: one to three tasks, each a valid block and a valid expression, in new memory; nothing that was there is written. -/
namespace Go.Proofs.YtekdnhhmiabngaaGreat.cur
open Go Go.ChangeShapes Go.WideShapes Go.ChangeAt Go.RowKit Go.Proofs.YtekdnhhmiabngaaGreat.row Go.Proofs.YtekdnhhmiabngaaGreat.val Go.Proofs.YtekdnhhmiabngaaGreat.expr Go.Proofs.YtekdnhhmiabngaaGreat.stm Go.Proofs.YtekdnhhmiabngaaGreat.blk Go.Proofs.YtekdnhhmiabngaaGreat.prg

/-- The cells 'xs' of a row of tasks read as the list 'P', each task's statements in a block of their own. -/
def Bod (base : Nat) (w : World) (v : Value) (xs : List Value) (P : List Tk) : Prop :=
  xs.length = P.length * 4 ∧ ∀ j t, P[j]? = some t → ∃ gb nb c : Nat, (∀ i u, (tkC (some ⟨gb, 0, none⟩) nb c t)[i]? = some u → xs[j * 4 + i]? = some u) ∧ nb ≤ c ∧ base ≤ gb ∧ gb < w.heap.size ∧ v.ownBlock ≠ some gb ∧ StRow w (some ⟨gb, 0, none⟩) nb t.b
theorem Bod.nil (base : Nat) (w : World) (v : Value) : Bod base w v [] [] := ⟨rfl, fun j t h => by simp at h⟩
theorem Bod.low {base : Nat} {w w' : World} {v : Value} {xs : List Value} {P : List Tk} {b : Nat} (h : Bod base w v xs P) (hg : w.grownBy w' (some b)) (hb : b < base) : Bod base w' v xs P :=
  ⟨h.1, fun j t ht => by
    obtain ⟨gb, nb, c, h1, h2, h3, h4, h5, h6⟩ := h.2 j t ht
    exact ⟨gb, nb, c, h1, h2, h3, Nat.lt_of_lt_of_le h4 hg.size, h5, StRow.grown_box h6 hg (fun e => by have := Option.some.inj e; omega)⟩⟩
theorem Bod.alloc {base : Nat} {w : World} {v : Value} {xs : List Value} {P : List Tk} (h : Bod base w v xs P) (o : Obj) : Bod base (w.alloc o) v xs P :=
  ⟨h.1, fun j t ht => by
    obtain ⟨gb, nb, c, h1, h2, h3, h4, h5, h6⟩ := h.2 j t ht
    exact ⟨gb, nb, c, h1, h2, h3, by simp; omega, h5, h6.below (below_new w o)⟩⟩
theorem Bod.app {base : Nat} {w w' : World} {v : Value} {xs : List Value} {P : List Tk} {g k cap gb nb c H : Nat} {t : Tk} (h : Bod base w v xs P) (hg : w.grownBy w' v.ownBlock) (hat : v.ownBlock = some g ∨ g = H) (hH : w.heap.size = H)
    (hbc : nb ≤ c) (hb : base ≤ gb) (hl : gb < w.heap.size) (hne : v.ownBlock ≠ some gb) (hr : StRow w (some ⟨gb, 0, none⟩) nb t.b) : Bod base w' (.slice (some ⟨g, 0, none⟩) (k + 1) cap) (xs ++ tkC (some ⟨gb, 0, none⟩) nb c t) (P ++ [t]) := by
  have no : ∀ q, q < w.heap.size → v.ownBlock ≠ some q → some g ≠ some q := fun q hq hn e => by
    rcases hat with h1 | h1
    · rw [h1] at hn; exact hn e
    · have := Option.some.inj e; omega
  refine ⟨by simp [h.1, tkC]; omega, fun j t' ht => ?_⟩
  by_cases hj : j < P.length
  · rw [List.getElem?_append_left hj] at ht
    obtain ⟨gb', nb', c', h1, h2, h3, h4, h5, h6⟩ := h.2 j t' ht
    refine ⟨gb', nb', c', fun i u hu => ?_, h2, h3, Nat.lt_of_lt_of_le h4 hg.size, no gb' h4 h5, StRow.grown_box h6 hg (fun e => h5 e.symm)⟩
    have hi : i < 4 := by have := (List.getElem?_eq_some_iff.1 hu).1; simpa [tkC] using this
    rw [List.getElem?_append_left (by rw [h.1]; omega)]; exact h1 i u hu
  · have hjl := (List.getElem?_eq_some_iff.1 ht).1
    simp at hjl
    obtain rfl : j = P.length := by omega
    simp at ht
    subst ht
    refine ⟨gb, nb, c, fun i u hu => ?_, hbc, hb, Nat.lt_of_lt_of_le hl hg.size, no gb hl hne, StRow.grown_box hr hg (fun e => hne e.symm)⟩
    rw [List.getElem?_append_right (by rw [h.1]; omega), h.1, show P.length * 4 + i - P.length * 4 = i by omega]; exact hu
theorem Bod.row {base : Nat} {w : World} {a : Option Addr} {n cap : Nat} {xs : List Value} {P : List Tk} {e : TypeId} (h : Bod base w (.slice a n cap) xs P) (ho : w.ownsRow base e 4 (.slice a n cap) n xs) : TkFrom base w a n P := by
  have hl : P.length = n := by have := ho.1; have := h.1; omega
  refine ⟨hl, fun k hk => ?_⟩
  obtain ⟨g, c, hv, hbg, hg⟩ := ho.form (by omega)
  injection hv with h1 h2 h3
  subst h1
  obtain ⟨t, ht⟩ : ∃ t, P[k]? = some t := ⟨P[k], by simp [hl, hk]⟩
  obtain ⟨gb, nb, c', k1, k2, k3, _, _, k6⟩ := h.2 k t ht
  refine ⟨g, t, gb, nb, c', rfl, hbg, hg, ht, fun i u hu => ?_, k2, k3, k6⟩
  have hi : i < 4 := by have := (List.getElem?_eq_some_iff.1 hu).1; simpa [tkC] using this
  rw [ho.cellAt (k * 4 + i) (by omega)]; exact k1 i u hu
theorem own_low {w : World} {base size n b : Nat} {e : TypeId} {v : Value} {xs : List Value} (h : w.ownsRow base e size v n xs) (hb : b < base) : v.ownBlock ≠ some b := fun e => by have := (h.lt b e).1; omega
/-- A drawn task. -/
def TkOk (t : Tk) : Prop := IsBlk t.b ∧ t.b.length ≤ 20 ∧ exprOk t.o t.x t.y = true
/-- A drawn program in new memory; the cursor stays one. -/
def PrgOut (cb : Nat) (a : Option Addr) (len cap : Nat) (w : World) (e : Ending) (w' : World) : Prop :=
  ∃ (ad : Option Addr) (n c : Nat) (P : List Tk), e = .returned (.agg #[.slice ad n c]) ∧ 1 ≤ n ∧ n ≤ 3 ∧ n ≤ c ∧ Hid (∀ t ∈ P, TkOk t) ∧ Hid (TkFrom (w.heap.size + 2) w' ad n P) ∧ Cur cb a len cap w' ∧ w.grownBy w' (some cb)
theorem infoTaskZ : (Tryz.prog.info? 34).map (fun i => (i.zero, i.size, i.bytes)) = some (some (tkV none 0 0 ⟨[], 0, 0, 0⟩), 4, 48) := by kernel_rfl
set_option maxHeartbeats 8000000 in
set_option maxRecDepth 100000 in
theorem l06program_any (cb : Nat) (a : Option Addr) (len cap : Nat) (w : World) (hc : Cur cb a len cap w) :
    Calls Tryz.prog 49 #[.pointer (some ⟨cb, 0, none⟩)] w (PrgOut cb a len cap w) := by
  obtain ⟨i0, hi, hz0, hz1, hz2⟩ := info_parts infoTaskZ
  have hcb := hc.lt
  obtain ⟨W, hW⟩ : ∃ W, W = (w.alloc (.cells #[.slice none 0 0] 26)).alloc (.cells #[.slice none 0 0] 26) := ⟨_, rfl⟩
  have hs : W.heap.size = w.heap.size + 2 := by rw [hW]; simp
  have e1 : ∀ x : Obj, (w.alloc x).heap.size = w.heap.size + 1 := fun x => by simp
  have b0 : Box w.heap.size #[.slice none 0 0] 26 W := by rw [hW]; exact (Box.new w _ _).alloc _
  have b1 : Box (w.heap.size + 1) #[.slice none 0 0] 26 W := by
    have h9 := Box.new (w.alloc (.cells #[.slice none 0 0] 26)) #[.slice none 0 0] 26
    rw [e1] at h9; rw [hW]; exact h9
  have hcW : Cur cb a len cap W := by rw [hW]; exact (hc.alloc _).alloc _
  have hgW : w.grownBy W (some cb) := by rw [hW]; exact grownBy_trans (World.grownBy_alloc _ _ _) (World.grownBy_alloc _ _ _)
  have H0 := Lib.hid (And.intro b0 (And.intro b1 (And.intro hcW hgW)))
  have HS := Lib.hid hs
  have HW := Lib.hid hW.symm
  clear hW hs e1 b0 b1 hcW hgW hc
  go_enter Tryz.func49, Tryz.ntmps49
  go_wp2
  rw [HW.out]
  go_loopw [4] (fun i wr => ∃ (k : Nat) (v : Value) (xs : List Value) (P : List Tk), k ≤ 3 ∧ i = .int .i64 k ∧ Box (w.heap.size + 1) #[v] 26 wr ∧ Hid (Box w.heap.size #[.slice none 0 0] 26 wr ∧ P.length = k ∧ wr.ownsRow (w.heap.size + 2) 34 4 v k xs ∧ Bod (w.heap.size + 2) wr v xs P ∧ (∀ t ∈ P, TkOk t) ∧ Cur cb a len cap wr ∧ w.grownBy wr (some cb))) (fun i _ => 3 - (intOf i).toNat)
  case atStart => exact ⟨0, _, [], [], Nat.zero_le _, rfl, H0.out.2.1, H0.out.1, rfl, World.ownsRow_nil _ _ _ _, Bod.nil _ _ _, fun t ht => (by cases ht), H0.out.2.2.1, H0.out.2.2.2⟩
  case round =>
    obtain ⟨k, v, xs, P, hk, rfl, hbp, HI⟩ := hrel
    have HBP := Lib.hid hbp
    clear hbp
    go_wp2_with (go_at_call 63; (with_reducible refine (below_any cb a len cap 3 (by omega) _ HI.out.2.2.2.2.2.1).mono ?_); rintro e w1 ⟨z, rfl, hz0', hz1', hc1, hg1⟩; refine Hid.out ?_)
    have hsz1 := HI.out.2.2.2.2.2.2.size
    have H1 := Lib.hid (show Box (w.heap.size + 1) #[v] 26 w1 ∧ Box w.heap.size #[.slice none 0 0] 26 w1 ∧ w1.ownsRow (w.heap.size + 2) 34 4 v k xs ∧ Bod (w.heap.size + 2) w1 v xs P ∧ Cur cb a len cap w1 ∧ w.grownBy w1 (some cb) from
      ⟨HBP.out.grown hg1 (by intro e; have := Option.some.inj e; omega), HI.out.1.grown hg1 (by intro e; have := Option.some.inj e; omega), HI.out.2.2.1.kept hg1 (Or.inr (own_low HI.out.2.2.1 (by omega))), HI.out.2.2.2.1.low hg1 (by omega), hc1, grownBy_trans HI.out.2.2.2.2.2.2 hg1⟩)
    clear hg1 hc1 hsz1
    by_cases hlt : (k : Int) < 1 + z
    · have bx1 : Box (w.heap.size + 1) #[v] 26 w1.drew := H1.out.1
      have hvc : v.ownBlock ≠ some cb := own_low H1.out.2.2.1 (by omega)
      have hvp : v.ownBlock ≠ some (w.heap.size + 1) := own_low H1.out.2.2.1 (by omega)
      have hs1 : w.heap.size + 2 ≤ w1.heap.size := by have := H1.out.1.lt; omega
      have HO1 : w1.drew.ownsRow (w.heap.size + 2) 34 4 v k xs := H1.out.2.2.1
      have k1 : w1.drew.cell? ⟨w.heap.size + 1, 0, none⟩ = some v := bx1.cell 0
      have HC1 : Cur cb a len cap w1.drew := H1.out.2.2.2.2.1
      refine Lib.hid ?_
      go_wp2
      go_region_law (first
        | (go_simp; go_at_call 86; refine (case_any cb a len cap _ HC1).mono ?_; rintro e w2 ⟨g, m, c, L, rfl, HB, hm, hbs⟩; have hsz2 : w1.heap.size ≤ w2.heap.size := hbs.2.2.size; have bx2 := bx1.grown hbs.2.2 (by intro e; have := Option.some.inj e; omega); have k2 := bx2.cell 0)
        | (go_simp; go_at_call 87; refine (expr_from _ _ a len cap _ hbs.2.1 (grownBy_refl _ _)).mono ?_; rintro e w3 ⟨o, x, y, rfl, hok, hc3, hg3⟩; have bx3 := bx2.grown hg3 (by intro e; have := Option.some.inj e; omega); have k3 := bx3.cell 0; have bx4 := bx3.alloc (.cells #[.slice (some ⟨g, 0, none⟩) m c, .int .i64 o, .int .i64 x, .int .i64 y] 34); have k4 := bx4.cell 0; have hsz3 := hg3.size; have ho4 := ((HO1.kept hbs.2.2 (Or.inr hvc)).kept hg3 (Or.inr hvc)).alloc (.cells #[.slice (some ⟨g, 0, none⟩) m c, .int .i64 o, .int .i64 x, .int .i64 y] 34))
        | ((refine step_append_lies _ (by rfl) _ _ _ (by rfl) (w.heap.size + 2) 34 i0 _ 4 48 Tryz.underlying24 hi hz0 hz1 hz2 rfl (by omega) _ k _ (by rfl) ho4 ⟨w3.heap.size, 0, none⟩ 1 1 [.slice (some ⟨g, 0, none⟩) m c, .int .i64 o, .int .i64 x, .int .i64 y] (by rfl) (by rfl) (World.news_of_block (cs := #[.slice (some ⟨g, 0, none⟩) m c, .int .i64 o, .int .i64 x, .int .i64 y]) (t := 34) (fr := (0, 0)) (heap_alloc_new w3 _)) (by simp [Value.oneCell']) (by omega) (by unfold maxLen; omega) (by omega) (by simp; omega) (w3.heap.size + 1) (by simp) ?_); intro gg cap' w5 hown5 hgrow5 hat5 hlt5; have bx5 := bx4.grown hgrow5 (fun e => hvp e.symm); have k5 := bx5.cell 0; have f5 := bx5.frozen 0))
      all_goals
        have hgl : w1.heap.size ≤ g ∧ g < w2.heap.size := hbs.lo
        have hvl : ∀ q, v.ownBlock = some q → w.heap.size + 2 ≤ q ∧ q < w1.heap.size := HO1.lt
        have hgs := grown_setCell w5 (w.heap.size + 1) 0 (.slice (some ⟨gg, 0, none⟩) (k + 1) cap')
        have hgg := (hown5.lt gg rfl).1
        have hst := (StRow.grown_box (StRow.of_own hbs.1) hg3 (by intro e; have := Option.some.inj e; omega)).below (below_new w3 (.cells #[.slice (some ⟨g, 0, none⟩) m c, .int .i64 o, .int .i64 x, .int .i64 y] 34))
        have hbod := ((((((show Bod (w.heap.size + 2) w1.drew v xs P from H1.out.2.2.2.1).low hbs.2.2 (by omega)).low hg3 (by omega)).alloc (.cells #[.slice (some ⟨g, 0, none⟩) m c, .int .i64 o, .int .i64 x, .int .i64 y] 34)).app (k := k) (cap := cap') (t := ⟨L, o, x, y⟩) hgrow5 hat5 (by simp) (own_le hbs.1) (by omega) (by simp; omega) (fun e => by have := (hvl g e).2; omega) hst).low hgs (by omega))
        have hbr := ((((((show Box w.heap.size #[.slice none 0 0] 26 w1.drew from H1.out.2.1).grown hbs.2.2 (by intro e; have := Option.some.inj e; omega)).grown hg3 (by intro e; have := Option.some.inj e; omega)).alloc (.cells #[.slice (some ⟨g, 0, none⟩) m c, .int .i64 o, .int .i64 x, .int .i64 y] 34)).grown hgrow5 (fun e => by have := (hvl _ e.symm).1; omega)).grown hgs (by intro e; have := Option.some.inj e; omega))
        have hcur := ((hc3.alloc (.cells #[.slice (some ⟨g, 0, none⟩) m c, .int .i64 o, .int .i64 x, .int .i64 y] 34)).keep hgrow5 (fun q hq => by have := (hvl q hq).1; omega)).keep hgs (fun q hq => by cases hq; omega)
        have hgw := grownBy_own (grownBy_own (grownBy_trans (grownBy_trans (grownBy_trans (show w.grownBy w1.drew (some cb) from ⟨H1.out.2.2.2.2.2.os, H1.out.2.2.2.2.2.tape, H1.out.2.2.2.2.2.output, H1.out.2.2.2.2.2.size, H1.out.2.2.2.2.2.block⟩) hbs.2.2) hg3) (World.grownBy_alloc w3 (.cells #[.slice (some ⟨g, 0, none⟩) m c, .int .i64 o, .int .i64 x, .int .i64 y] 34) _)) hgrow5 (fun q hq => by have := (hvl q hq).1; omega)) hgs (fun q hq => by cases hq; omega)
        have hok5 : ∀ t ∈ P ++ [(⟨L, o, x, y⟩ : Tk)], TkOk t := fun t ht => by
          rcases List.mem_append.1 ht with h | h
          · exact HI.out.2.2.2.2.1 t h
          · simp at h; subst h
            exact ⟨isBlk_of HB.out (by omega) (by rw [hbs.length_]; omega), by rw [hbs.length_]; exact hm, hok⟩
        have H6 := Lib.hid (And.intro (bx5.set 0 (.slice (some ⟨gg, 0, none⟩) (k + 1) cap')) (And.intro hbr (And.intro (show (P ++ [(⟨L, o, x, y⟩ : Tk)]).length = k + 1 by simp [HI.out.2.1]) (And.intro (hown5.kept hgs (Or.inr (by simp only [Value.ownBlock]; intro e; have := Option.some.inj e; omega))) (And.intro hbod (And.intro hok5 (And.intro hcur hgw)))))))
        clear hgl hvl hgs hgg hst hbod hbr hcur hgw hok5 bx1 bx2 bx3 bx4 bx5 k1 k2 k3 k4 k5 f5 ho4 HO1 hown5 hgrow5 hat5 hlt5 hg3 hc3 hbs hsz2 hsz3 HC1 hvc hvp
        obtain ⟨W5, hW5⟩ : ∃ W5, w5.setCell ⟨w.heap.size + 1, 0, none⟩ (.slice (some ⟨gg, 0, none⟩) (k + 1) cap') = W5 := ⟨_, rfl⟩
        rw [hW5] at H6 ⊢
        clear hW5
        go_wp2
        go_roundw
        case rel => exact ⟨k + 1, _, _, _, by omega, by go_num, H6.out.1, H6.out.2⟩
        case measure => simp [intOf]; omega
    · have hk1 : 1 ≤ k := by omega
      have hkl : P.length = k := HI.out.2.1
      obtain ⟨g, c, hv, _, hgl⟩ := H1.out.2.2.1.form (by omega)
      subst hv
      have HF := Lib.hid (And.intro H1.out.1 (And.intro H1.out.2.1 (And.intro (And.intro H1.out.2.2.2.1 H1.out.2.2.1) (And.intro H1.out.2.2.2.2.1 H1.out.2.2.2.2.2))))
      have hcc := own_le H1.out.2.2.1
      have HOK := Lib.hid HI.out.2.2.2.2.1
      clear HI HBP
      refine Lib.hid ?_
      go_wp2_with (first
        | (refine wpList_load_row rfl 26 _ rfl (w.heap.size + 1) rfl _ _ _ _ HF.out.1 Tryz.underlying26 rfl (by kernel_rfl) ?_)
        | ((refine wpList_store_box rfl 26 _ _ rfl w.heap.size _ _ HF.out.2.1 #[.slice (some ⟨g, 0, none⟩) k c] rfl rfl rfl (by kernel_rfl) (by simp [Value.oneCell']) ?_); intro w4 hx4 hg4; refine Hid.out ?_))
      have hown4 := HF.out.2.2.1.2.kept hg4 (Or.inr (own_low HF.out.2.2.1.2 (by omega)))
      have H4 := Lib.hid (And.intro hx4 (And.intro ((HF.out.2.2.1.1.low hg4 (by omega)).row hown4) (And.intro (HF.out.2.2.2.1.keep hg4 (fun q hq => by cases hq; omega)) (grownBy_own HF.out.2.2.2.2 hg4 (fun q hq => by cases hq; omega)))))
      clear hx4 hg4 hown4
      refine Lib.hid ?_
      go_wp2
      exact bodyPost_ret (v := .agg #[.slice (some ⟨g, 0, none⟩) k c]) (results_cell_row rfl _ _ w.heap.size _ _ _ _ rfl H4.out.1 Tryz.underlying26 rfl (by kernel_rfl)) rfl ⟨_, k, c, P, rfl, hk1, hk, hcc, HOK, H4.out.2.1, H4.out.2.2.1, H4.out.2.2.2⟩
/-- A drawn program in new memory. -/
def DrawnP (w : World) (e : Ending) (w' : World) : Prop :=
  ∃ (ad : Option Addr) (n c : Nat) (P : List Tk), e = .returned (.agg #[.slice ad n c]) ∧ 1 ≤ n ∧ n ≤ 3 ∧ n ≤ c ∧ Hid (∀ t ∈ P, TkOk t) ∧ Hid (TkFrom w.heap.size w' ad n P) ∧ Below w.heap.size w w'
set_option maxHeartbeats 2000000 in
set_option maxRecDepth 100000 in
theorem drawprogram_any (a : Option Addr) (len cap : Nat) (w : World) (hlm : (len : Int) ≤ 1048576) (hb : ∀ i : Nat, i < len → ∃ (b off : Nat) (v : Int), a = some ⟨b, off, none⟩ ∧ w.cell? ⟨b, off + i, none⟩ = some (.int .u8 v)) :
    Calls Tryz.prog 11 #[.slice a len cap] w (DrawnP w) := by
  obtain ⟨W, hW⟩ : ∃ W, W = w.alloc (.cells #[.slice none 0 0] 26) := ⟨_, rfl⟩
  have hbw : Below w.heap.size w W := by rw [hW]; exact below_new _ _
  have hbx : Box w.heap.size #[.slice none 0 0] 26 W := by rw [hW]; exact Box.new _ _ _
  have HB := Lib.hid (And.intro (show ∀ i : Nat, i < len → ∃ (b off : Nat) (v : Int), a = some ⟨b, off, none⟩ ∧ W.cell? ⟨b, off + i, none⟩ = some (.int .u8 v) from fun i hi => by
    obtain ⟨b, off, v, ha, hv⟩ := hb i hi
    exact ⟨b, off, v, ha, (hbw.cell (p := ⟨b, off + i, none⟩) (World.block_lt_of_cell? w _ hv)).trans hv⟩) (And.intro hbw hbx))
  have HW := Lib.hid hW.symm
  have HSW := Lib.hid (show W.heap.size = w.heap.size + 1 by rw [hW]; simp)
  clear hb hbw hbx hW
  go_enter Tryz.func11, Tryz.ntmps11
  go_wp2_with (go_at_call 50; rw [HW.out]; (with_reducible refine (new_any a len cap _ hlm HB.out.1).mono ?_); rintro e w1 ⟨rfl, hc1, hb1⟩; refine Hid.out ?_)
  have H1 := Lib.hid (And.intro (HB.out.2.2.below hb1) (HB.out.2.1.trans (hb1.mono (by have := HSW.out; omega))))
  have HS1 := Lib.hid hb1.size
  clear hb1
  refine Lib.hid ?_
  go_wp2_with (go_at_call 49; (with_reducible refine (l06program_any _ a len cap _ hc1).mono ?_); rintro e w2 ⟨ad, n, c, P, rfl, hn1, hn3, hnc, HOK, HR, hc2, hg2⟩; refine Hid.out ?_)
  have H2 := Lib.hid (And.intro (H1.out.1.grown hg2 (by intro e; have := Option.some.inj e; have := HSW.out; omega)) (And.intro HR.out (H1.out.2.grown hg2 (by have := HSW.out; have := HS1.out; omega) (fun q hq => by cases hq; have := HSW.out; omega))))
  clear hg2 hc2 hc1
  refine Lib.hid ?_
  go_wp2_with ((refine wpList_store_box rfl 26 _ _ rfl w.heap.size _ _ H2.out.1 #[.slice ad n c] rfl rfl rfl (by kernel_rfl) (by simp [Value.oneCell']) ?_); intro w4 hx4 hg4; refine Hid.out ?_)
  have H4 := Lib.hid (And.intro hx4 (And.intro ((H2.out.2.1.grown hg4 (by have := HS1.out; have := HSW.out; omega)).mono (show w.heap.size ≤ w1.heap.size + 2 by have := HS1.out; have := HSW.out; omega)) (H2.out.2.2.grown hg4 H2.out.2.2.size (fun q hq => by cases hq; exact Nat.le_refl _))))
  clear hx4 hg4
  refine Lib.hid ?_
  go_wp2
  exact bodyPost_ret (v := .agg #[.slice ad n c]) (results_cell_row rfl _ _ w.heap.size _ _ _ _ rfl H4.out.1 Tryz.underlying26 rfl (by kernel_rfl)) rfl ⟨ad, n, c, P, rfl, hn1, hn3, hnc, HOK, H4.out.2.1, H4.out.2.2⟩
end Go.Proofs.YtekdnhhmiabngaaGreat.cur

/- Rows of eight bools as sets of variables; the model's l07List, l07Writes. -/
namespace Go.Proofs.YtekdnhhmiabngaaGreat.sets
open Go Go.ChangeShapes Go.WideShapes Go.ChangeAt Go.RowKit Go.Proofs.YtekdnhhmiabngaaGreat.row Go.Proofs.YtekdnhhmiabngaaGreat.val Go.Proofs.YtekdnhhmiabngaaGreat.stm Go.Proofs.YtekdnhhmiabngaaGreat.blk Go.Proofs.YtekdnhhmiabngaaGreat.expr

/-- The block 'g' holds the set 'f'. -/
def Bset (g : Nat) (f : Nat → Bool) (w : World) : Prop := ∃ (cs : Array Value) (t : TypeId), Box g cs t w ∧ ∀ v, v < 8 → cs[v]? = some (.bool (f v))
section
variable {g : Nat} {f : Nat → Bool} {w w' : World}
theorem Bset.cell (h : Bset g f w) {v : Nat} (hv : v < 8) : w.cell? ⟨g, v, none⟩ = some (.bool (f v)) := by
  obtain ⟨cs, t, hb, hc⟩ := h
  rw [hb.cell]; exact hc v hv
theorem Bset.frozen (h : Bset g f w) (v : Nat) : w.frozen? ⟨g, v, none⟩ = false := by
  obtain ⟨cs, t, hb, _⟩ := h
  exact hb.frozen v
theorem Bset.lt (h : Bset g f w) : g < w.heap.size := by
  obtain ⟨cs, t, hb, _⟩ := h
  exact hb.lt
theorem Bset.same (h : Bset g f w) (he : w'.heap[g]? = w.heap[g]?) : Bset g f w' := by
  obtain ⟨cs, t, hb, hc⟩ := h
  exact ⟨cs, t, he.trans hb, hc⟩
theorem Bset.below (h : Bset g f w) (hb : Below w.heap.size w w') : Bset g f w' := h.same (hb.block g h.lt)
theorem Bset.put (h : Bset g f w) {v : Nat} (hv : v < 8) : Bset g (fun u => decide (u = v) || f u) (w.setCell ⟨g, v, none⟩ (.bool true)) := by
  obtain ⟨cs, t, hb, hc⟩ := h
  have hs : v < cs.size := (Array.getElem?_eq_some_iff.1 (hc v hv)).1
  refine ⟨_, t, hb.set v _, fun u hu => ?_⟩
  by_cases e : u = v
  · subst e; simp [hs]
  · rw [Array.getElem?_setIfInBounds_ne (by omega), hc u hu]; simp [e]
theorem Bset.congr {f' : Nat → Bool} (h : Bset g f w) (hf : ∀ v, v < 8 → f v = f' v) : Bset g f' w := by
  obtain ⟨cs, t, hb, hc⟩ := h
  exact ⟨cs, t, hb, fun v hv => by rw [hc v hv, hf v hv]⟩
theorem Bset.made (w : World) (t : TypeId) : Bset w.heap.size (fun _ => false) (w.alloc (.cells #[.bool false, .bool false, .bool false, .bool false, .bool false, .bool false, .bool false, .bool false] t)) := by
  refine ⟨_, t, Box.new w _ t, fun v hv => ?_⟩
  have : v = 0 ∨ v = 1 ∨ v = 2 ∨ v = 3 ∨ v = 4 ∨ v = 5 ∨ v = 6 ∨ v = 7 := by omega
  rcases this with rfl | rfl | rfl | rfl | rfl | rfl | rfl | rfl <;> rfl
end
theorem own_slice {w : World} {base size n : Nat} {e : TypeId} {v : Value} {xs : List Value} (h : w.ownsRow base e size v n xs) : ∃ (a : Option Addr) (c : Nat), v = .slice a n c := by
  rcases h.2 with ⟨h1, h2⟩ | ⟨g, c, cur, h1, _⟩
  · exact ⟨none, 0, by rw [h1, h2]⟩
  · exact ⟨_, c, h1⟩
end Go.Proofs.YtekdnhhmiabngaaGreat.sets

/- The model's MayWrite and MustWrite; nothing that was there is written. -/
namespace Go.Proofs.YtekdnhhmiabngaaGreat.sets
open Go Go.ChangeShapes Go.WideShapes Go.ChangeAt Go.RowKit Go.Proofs.YtekdnhhmiabngaaGreat.row Go.Proofs.YtekdnhhmiabngaaGreat.val Go.Proofs.YtekdnhhmiabngaaGreat.stm Go.Proofs.YtekdnhhmiabngaaGreat.blk Go.Proofs.YtekdnhhmiabngaaGreat.expr

theorem wr_var {s : Sm} (h : stOk s = true) (hw : wr s) : ∃ v : Nat, s.v = v ∧ v < 8 := by
  rcases hw with e | e <;> simp [stOk, e, varOk] at h <;> exact ⟨s.v.toNat, by omega, by omega⟩
theorem wr_dec (s : Sm) : ∃ r : Bool, r = true ↔ wr s := by
  by_cases h : wr s
  · exact ⟨true, fun _ => h, fun _ => rfl⟩
  · exact ⟨false, fun e => (by cases e), fun e => absurd e h⟩
/-- The set 'f' is the property 'p', among the eight variables. -/
def Is (f : Nat → Bool) (p : Nat → Prop) : Prop := ∀ v, v < 8 → (f v = true ↔ p v)
theorem Is.eq {f g : Nat → Bool} {p : Nat → Prop} (h : Is f p) (h' : Is g p) : ∀ v, v < 8 → f v = g v := fun v hv => by
  have h1 := h v hv
  have h2 := h' v hv
  cases hf : f v <;> cases hg : g v
  · rfl
  · exact absurd (h1.2 (h2.1 hg)) (by rw [hf]; simp)
  · exact absurd (h2.2 (h1.1 hf)) (by rw [hg]; simp)
  · rfl
theorem Is.put {f : Nat → Bool} {p q : Nat → Prop} {v : Nat} (h : Is f p) (hq : ∀ u, q u ↔ p u ∨ u = v) : Is (fun u => decide (u = v) || f u) q := fun u hu => by
  have h1 := h u hu
  rw [hq u]
  simp only [Bool.or_eq_true, decide_eq_true_eq]
  constructor
  · rintro (e | e)
    · exact .inr e
    · exact .inl (h1.1 e)
  · rintro (e | e)
    · exact .inr (h1.2 e)
    · exact .inl e
theorem Is.congr {f : Nat → Bool} {p q : Nat → Prop} (h : Is f p) (hq : ∀ u, q u ↔ p u) : Is f q := fun u hu => (h u hu).trans (hq u).symm
theorem wrAt_iff {B : List Sm} {k v u : Nat} {s : Sm} (hs : B[k]? = some s) (hw : wr s) (hv : s.v = v) : WrAt B k u ↔ u = v := by
  constructor
  · rintro ⟨t, ht, _, hu⟩
    rw [hs] at ht; cases ht; omega
  · rintro rfl; exact ⟨s, hs, hw, hv⟩
theorem wrAt_no {B : List Sm} {k u : Nat} {s : Sm} (hs : B[k]? = some s) (hw : ¬ wr s) : ¬ WrAt B k u := fun ⟨t, ht, h, _⟩ => by
  rw [hs] at ht; cases ht; exact hw h
theorem Bset.made2 {w : World} {cs : Array Value} {t : TypeId} (h : ∀ v, v < 8 → cs[v]? = some (.bool false)) : Bset w.heap.size (fun _ => false) (w.alloc (.cells cs t)) := ⟨cs, t, Box.new w cs t, h⟩
theorem range_below {w w' : World} {g o : Nat} {L : List Value} (h : w.rangeAt g o L) (hb : Below w.heap.size w w') (hl : g < w.heap.size) : w'.rangeAt g o L := fun j v hj => (hb.cell (p := ⟨g, o + j, none⟩) hl).trans (h j v hj)
end Go.Proofs.YtekdnhhmiabngaaGreat.sets

/- The model's MustWrite; nothing that was there is written. -/
namespace Go.Proofs.YtekdnhhmiabngaaGreat.sets
open Go Go.ChangeShapes Go.WideShapes Go.ChangeAt Go.RowKit Go.Proofs.YtekdnhhmiabngaaGreat.row Go.Proofs.YtekdnhhmiabngaaGreat.val Go.Proofs.YtekdnhhmiabngaaGreat.stm Go.Proofs.YtekdnhhmiabngaaGreat.blk Go.Proofs.YtekdnhhmiabngaaGreat.expr

end Go.Proofs.YtekdnhhmiabngaaGreat.sets

/- The model's l07Note: what an expression reads and is not written yet. -/
namespace Go.Proofs.YtekdnhhmiabngaaGreat.sets
open Go Go.ChangeShapes Go.WideShapes Go.ChangeAt Go.RowKit Go.Proofs.YtekdnhhmiabngaaGreat.row Go.Proofs.YtekdnhhmiabngaaGreat.val Go.Proofs.YtekdnhhmiabngaaGreat.stm Go.Proofs.YtekdnhhmiabngaaGreat.blk Go.Proofs.YtekdnhhmiabngaaGreat.expr

theorem rd_nat {a b x : Int} (h : x ∈ rd a b 8) : ∃ v : Nat, x = v ∧ v < 8 := by
  unfold rd at h
  obtain ⟨v, hv, rfl⟩ := List.mem_map.1 h
  exact ⟨v, rfl, List.mem_range.1 (List.mem_filter.1 hv).1⟩
theorem take_mem {L : List Int} {k v : Nat} {x : Int} (h : L[k]? = some x) : (v : Int) ∈ L.take (k + 1) ↔ (v : Int) ∈ L.take k ∨ (v : Int) = x := by
  rw [List.take_add_one, h]; simp
theorem Bset.grown {g : Nat} {f : Nat → Bool} {w w' : World} {r : Option Nat} (h : Bset g f w) (hg : w.grownBy w' r) (hn : some g ≠ r) : Bset g f w' := h.same (hg.block g h.lt hn)
/-- What noting leaves: the set at 'gf' has what is read and not in 'W'. -/
def Noted (gf : Nat) (F W : Nat → Bool) (L : List Int) (w : World) (e : Ending) (w' : World) : Prop :=
  e = .returned (.tuple #[]) ∧ w.grownBy w' (some gf) ∧ ∃ F', Hid (Bset gf F' w' ∧ Is F' (fun v => F v = true ∨ ((v : Int) ∈ L ∧ W v = false)))
end Go.Proofs.YtekdnhhmiabngaaGreat.sets

/- The model's l07Pass: the sets are carried through a part of a block. -/
namespace Go.Proofs.YtekdnhhmiabngaaGreat.sets
open Go Go.ChangeShapes Go.WideShapes Go.ChangeAt Go.RowKit Go.Proofs.YtekdnhhmiabngaaGreat.row Go.Proofs.YtekdnhhmiabngaaGreat.val Go.Proofs.YtekdnhhmiabngaaGreat.stm Go.Proofs.YtekdnhhmiabngaaGreat.blk Go.Proofs.YtekdnhhmiabngaaGreat.expr

/-- Of what was there only the blocks 'f' and 'g' are written. -/
def Two (f g : Nat) (w w' : World) : Prop := Below 0 w w' ∧ ∀ k, k < w.heap.size → k ≠ f → k ≠ g → w'.heap[k]? = w.heap[k]?
section
variable {f g f' g' n : Nat} {w w1 w2 : World}
theorem Two.refl (f g : Nat) (w : World) : Two f g w w := ⟨Below.refl 0 w, fun _ _ _ _ => rfl⟩
theorem Two.trans (h : Two f g w w1) (h' : Two f g w1 w2) : Two f g w w2 := ⟨h.1.trans h'.1, fun k hk h1 h2 => (h'.2 k (Nat.lt_of_lt_of_le hk h.1.size) h1 h2).trans (h.2 k hk h1 h2)⟩
theorem Two.of_grown {r : Nat} (h : w.grownBy w1 (some r)) (hr : r = f ∨ r = g) : Two f g w w1 := ⟨⟨h.os, h.tape, h.output, h.size, fun k hk => by omega⟩, fun k hk h1 h2 => h.block k hk (fun e => by have := Option.some.inj e; omega)⟩
theorem Two.of_below (h : Below w.heap.size w w1) : Two f g w w1 := ⟨h.mono (Nat.zero_le _), fun k hk _ _ => h.block k hk⟩
/-- A third block that is new counts for nothing. -/
theorem Two.skip (h : Two f g w w1) (h' : Two f g' w1 w2) (hn : w.heap.size ≤ g') : Two f g w w2 := ⟨h.1.trans h'.1, fun k hk h1 h2 => (h'.2 k (Nat.lt_of_lt_of_le hk h.1.size) h1 (by omega)).trans (h.2 k hk h1 h2)⟩
theorem Two.lift {B : Nat} (h : Two f g w w1) (hB : B ≤ w.heap.size) (hf : B ≤ f) (hg : B ≤ g) : Below B w w1 := ⟨h.1.os, h.1.tape, h.1.output, h.1.size, fun k hk => h.2 k (by omega) (by omega) (by omega)⟩
theorem Bset.two {x : Nat} {F : Nat → Bool} (h : Bset x F w) (ht : Two f g w w1) (h1 : x ≠ f) (h2 : x ≠ g) : Bset x F w1 := h.same (ht.2 x h.lt h1 h2)
/-- The list's block is none of the two. -/
def Far2 (n : Nat) (a : Option Addr) (f g : Nat) : Prop := 0 < n → ∀ b off, a = some ⟨b, off, none⟩ → b ≠ f ∧ b ≠ g
theorem row_two {a : Option Addr} {B : List Sm} (h : StRow w a n B) (ht : Two f g w w1) (hfar : Far2 n a f g) : StRow w1 a n B := ⟨h.1, fun k hk => by
  obtain ⟨b, off, s, ha, hlt, hs, hr⟩ := h.2 k hk
  have h9 := ht.2 b hlt (hfar (by omega) b off ha).1 (hfar (by omega) b off ha).2
  exact ⟨b, off, s, ha, Nat.lt_of_lt_of_le hlt ht.1.size, hs, fun j v hj => (World.cell?_of_block h9).trans (hr j v hj)⟩⟩
end
theorem row_lt {w : World} {n k : Nat} {B : List Sm} {b off : Nat} (h : StRow w (some ⟨b, off, none⟩) n B) (hk : k < n) : b < w.heap.size := by
  obtain ⟨b', off', s, ha, hlt, _⟩ := h.2 k hk
  cases ha; exact hlt
theorem end_open {B : List Sm} {i p e : Nat} (h : IsEnd B i e) (h' : IsEnd B p e) : i = p := by
  rcases Nat.lt_trichotomy i p with hlt | rfl | hlt
  · have := end_in h' h hlt (by have := h'.1; omega); omega
  · rfl
  · have := end_in h h' hlt (by have := h.1; omega); omega
theorem Is.neg {f : Nat → Bool} {p : Nat → Prop} (h : Is f p) {v : Nat} (hv : v < 8) : f v = false ↔ ¬ p v := by
  rw [← h v hv]; simp
/-- The set of what has been read first, one statement on, where the statement reads. -/
theorem Is.note {F F' W : Nat → Bool} {B : List Sm} {p : Nat} {s : Sm} (hs : B[p]? = some s) (hr : rds s) (hF : Is F (FAt B p)) (hW : Is W (WAt B p)) (hF' : Is F' (fun v => F v = true ∨ ((v : Int) ∈ rd s.a s.b 8 ∧ W v = false))) : Is F' (FAt B (p + 1)) := fun v hv => by
  refine (hF' v hv).trans ?_
  rw [fAt_succ]
  refine or_congr (hF v hv) (and_congr ⟨fun h => ⟨s, hs, hr, h⟩, fun ⟨t, ht, _, h⟩ => ?_⟩ (hW.neg hv))
  rw [hs] at ht; cases ht; exact h
theorem Is.still {F : Nat → Bool} {B : List Sm} {p : Nat} (hn : ∀ v, ¬ RdAt B p v) (hF : Is F (FAt B p)) : Is F (FAt B (p + 1)) := hF.congr (fun _ => by
  rw [fAt_succ]
  exact ⟨fun h => h.resolve_right (fun h => hn _ h.1), .inl⟩)
theorem rdAt_no {B : List Sm} {p v : Nat} {s : Sm} (hs : B[p]? = some s) (hr : ¬ rds s) : ¬ RdAt B p v := fun ⟨t, ht, h, _⟩ => by
  rw [hs] at ht; cases ht; exact hr h
theorem Is.wstill {W : Nat → Bool} {B : List Sm} {p : Nat} {s : Sm} (hs : B[p]? = some s) (hw : ¬ wr s) (hp : ∀ i t, B[i]? = some t → t.k = 4 → ¬ IsEnd B i p) (hW : Is W (WAt B p)) : Is W (WAt B (p + 1)) := hW.congr (fun _ => by
  rw [wAt_succ hp]
  exact ⟨fun h => h.resolve_right (wrAt_no hs hw), .inl⟩)
theorem Is.wput {W : Nat → Bool} {B : List Sm} {p u : Nat} {s : Sm} (hs : B[p]? = some s) (hw : wr s) (hu : s.v = u) (hp : ∀ i t, B[i]? = some t → t.k = 4 → ¬ IsEnd B i p) (hW : Is W (WAt B p)) : Is (fun v => decide (v = u) || W v) (WAt B (p + 1)) :=
  hW.put (fun _ => (wAt_succ hp).trans (or_congr Iff.rfl (wrAt_iff hs hw hu)))
theorem st_expr {s : Sm} (h : stOk s = true) (hr : rds s) : exprOk s.o s.a s.b = true := by
  rcases hr with e | e | e <;> simp [stOk, e] at h
  · exact h.2.2
  · exact h.2.2
  · exact h.2.2
theorem st_kind {s : Sm} (h : stOk s = true) : s.k = 1 ∨ s.k = 2 ∨ s.k = 3 ∨ s.k = 4 ∨ s.k = 5 ∨ s.k = 6 := by
  by_cases h1 : s.k = 1
  · exact .inl h1
  by_cases h2 : s.k = 2
  · exact .inr (.inl h2)
  by_cases h3 : s.k = 3
  · exact .inr (.inr (.inl h3))
  by_cases h4 : s.k = 4
  · exact .inr (.inr (.inr (.inl h4)))
  by_cases h5 : s.k = 5
  · exact .inr (.inr (.inr (.inr (.inl h5))))
  by_cases h6 : s.k = 6
  · exact .inr (.inr (.inr (.inr (.inr h6))))
  exact absurd h (by simp [stOk, h1, h2, h3, h4, h5, h6])
theorem infoBool : (Tryz.prog.info? 4).map (fun i => (i.zero, i.size, i.bytes)) = some (some (.bool false), 1, 1) := by kernel_rfl
/-- The eight cells of a set. -/
def eight (W : Nat → Bool) : List Value := [.bool (W 0), .bool (W 1), .bool (W 2), .bool (W 3), .bool (W 4), .bool (W 5), .bool (W 6), .bool (W 7)]
theorem eight_at (W : Nat → Bool) {v : Nat} (h : v < 8) : (eight W)[v]? = some (.bool (W v)) := by
  have : v = 0 ∨ v = 1 ∨ v = 2 ∨ v = 3 ∨ v = 4 ∨ v = 5 ∨ v = 6 ∨ v = 7 := by omega
  rcases this with rfl | rfl | rfl | rfl | rfl | rfl | rfl | rfl <;> rfl
theorem Bset.news {g : Nat} {W : Nat → Bool} {w : World} (h : Bset g W w) : ∀ j u, (eight W)[j]? = some u → w.cell? ((⟨g, 0, none⟩ : Addr).add j) = some u := fun j u hu => by
  have hj : j < 8 := by have := (List.getElem?_eq_some_iff.1 hu).1; simpa [eight] using this
  rw [eight_at W hj] at hu
  cases hu
  have hadd : (⟨g, 0, none⟩ : Addr).add j = ⟨g, j, none⟩ := by unfold Addr.add; split <;> simp_all
  rw [hadd]
  exact h.cell hj
theorem Bset.of_own {base g c n : Nat} {e : TypeId} {W : Nat → Bool} {w : World} (h : w.ownsRow base e 1 (.slice (some ⟨g, 0, none⟩) n c) n (eight W)) : Bset g W w := by
  rcases h.2 with ⟨h1, _⟩ | ⟨q, cap, cur, h1, _, h3, _, _, _, h6⟩
  · cases h1
  · cases h1
    refine ⟨cur, e, h3, fun v hv => ?_⟩
    have h7 : (cur.toList.take (n * 1))[v]? = some (.bool (W v)) := by rw [h6]; exact eight_at W hv
    rw [List.getElem?_take] at h7
    split at h7
    · simpa using h7
    · cases h7
/-- What carrying the sets from 'a' to 'b' leaves. -/
def Passed (gf gw : Nat) (B : List Sm) (b : Nat) (w : World) (e : Ending) (w' : World) : Prop :=
  e = .returned (.tuple #[]) ∧ Two gf gw w w' ∧ ∃ F W : Nat → Bool, Hid (Bset gf F w' ∧ Is F (FAt B b)) ∧ Hid (Bset gw W w' ∧ Is W (WAt B b))
abbrev zero6 : Array Value := #[.int .i64 0, .int .i64 0, .int .i64 0, .int .i64 0, .int .i64 0, .int .i64 0]
end Go.Proofs.YtekdnhhmiabngaaGreat.sets

/- The model's MayReadFirst and HasVar; nothing that was there is written. -/
namespace Go.Proofs.YtekdnhhmiabngaaGreat.sets
open Go Go.ChangeShapes Go.WideShapes Go.ChangeAt Go.RowKit Go.Proofs.YtekdnhhmiabngaaGreat.row Go.Proofs.YtekdnhhmiabngaaGreat.val Go.Proofs.YtekdnhhmiabngaaGreat.stm Go.Proofs.YtekdnhhmiabngaaGreat.blk Go.Proofs.YtekdnhhmiabngaaGreat.expr Go.Proofs.YtekdnhhmiabngaaGreat.prg

/-- What a task can read before it is written. -/
def FirstP (t : Tk) (v : Nat) : Prop := (IsBlk t.b ∧ exprOk t.o t.x t.y = true) ∧ (FAt t.b t.b.length v ∨ ((v : Int) ∈ rd t.x t.y 8 ∧ ¬ WAt t.b t.b.length v))
theorem far_new {w : World} {a : Option Addr} {n f g : Nat} {B : List Sm} (h : StRow w a n B) (hf : w.heap.size ≤ f) (hg : w.heap.size ≤ g) : Far2 n a f g := fun hn b off ha => by
  obtain ⟨b', off', s, ha', hlt, _⟩ := h.2 0 hn
  rw [ha] at ha'; cases ha'
  exact ⟨by omega, by omega⟩
end Go.Proofs.YtekdnhhmiabngaaGreat.sets
