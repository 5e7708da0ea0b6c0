/- Several texts in one: QBlkW QDrawG. -/
import Derived.Test.YtmgeecdgebemdaaGreatDoorGSigQ47
import Derived.Test.YtmgeecdgebemdaaGreatDoorGSigQ3
import Derived.Test.YtmgeecdgebemdaaGreatDoorGSigQ2
import Derived.Test.YtmgeecdgebemdaaGreatDoorGSigQ11
import Derived.Deep.AppendLies
import Derived.Deep.RegionLaw

/- A drawn block is valid: heights of a block that was built; the model's DrawBlock. -/
namespace Go.Proofs.YtmgeecdgebemdaaGreatDoor.blk
open Go Go.ChangeShapes Go.WideShapes Go.ChangeAt Go.RowKit Go.Proofs.YtmgeecdgebemdaaGreatDoor.row Go.Proofs.YtmgeecdgebemdaaGreatDoor.val Go.Proofs.YtmgeecdgebemdaaGreatDoor.expr Go.Proofs.YtmgeecdgebemdaaGreatDoor.stm Go.Proofs.YtmgeecdgebemdaaGreatDoor.cur
abbrev T := Go.Proofs.YtmgeecdgebemdaaGreatDoor.stm.St
theorem hAt_cons (s : T) (L : List T) (k : Nat) : hAt (s :: L) (k + 1) = dlt s + hAt L k := by unfold hAt ht; simp
theorem hAt_left {A : List T} (B : List T) {k : Nat} (h : k ≤ A.length) : hAt (A ++ B) k = hAt A k := by unfold hAt; rw [List.take_append_of_le_length h]
theorem hAt_right (A B : List T) (k : Nat) : hAt (A ++ B) (A.length + k) = hAt A A.length + hAt B k := by
  unfold hAt ht
  rw [List.take_length_add_append, List.take_of_length_le (Nat.le_refl A.length), List.map_append, List.sum_append]
theorem blk_flat {s : T} (h1 : 1 ≤ s.k) (h3 : s.k ≤ 3) : dlt s = 0 := by unfold dlt; rw [if_neg (by omega), if_neg (by omega)]
theorem blk_heights {d : Nat} {L : List T} (h : Blk d L) : hAt L L.length = 0 ∧ (∀ k, k ≤ L.length → 0 ≤ hAt L k ∧ hAt L k ≤ d) ∧ ∀ s ∈ L, stOk s = true := by
  induction h with
  | nil d => exact ⟨rfl, fun k hk => by rw [show hAt [] k = 0 by unfold hAt ht; simp]; omega, fun s hs => by simp at hs⟩
  | one d s rest hs h1 h3 hr ih =>
    obtain ⟨i1, i2, i3⟩ := ih
    have hd := blk_flat h1 h3
    refine ⟨by rw [List.length_cons, hAt_cons, hd, i1]; rfl, fun k hk => ?_, fun t ht => ?_⟩
    · cases k with
      | zero => rw [hAt_zero]; omega
      | succ k => rw [hAt_cons, hd]; have := i2 k (by simpa using hk); omega
    · rcases List.mem_cons.1 ht with rfl | ht
      · exact hs
      · exact i3 t ht
  | nest d s body rest hs hk hb hr ih1 ih2 =>
    obtain ⟨b1, b2, b3⟩ := ih1
    obtain ⟨r1, r2, r3⟩ := ih2
    have hd : dlt s = 1 := by unfold dlt; rw [if_pos hk]
    have he : dlt endSt = -1 := by decide
    have hin : ∀ k, hAt (body ++ endSt :: rest) (body.length + (k + 1)) = hAt rest k - 1 := fun k => by
      rw [hAt_right, b1, hAt_cons, he]; omega
    refine ⟨?_, fun k hk2 => ?_, fun t ht => ?_⟩
    · rw [List.length_cons, hAt_cons, hd, List.length_append, List.length_cons, hin, r1]; rfl
    · cases k with
      | zero => rw [hAt_zero]; omega
      | succ k =>
        rw [hAt_cons, hd]
        by_cases hkb : k ≤ body.length
        · rw [hAt_left _ hkb]; have := b2 k hkb; omega
        · obtain ⟨j, rfl⟩ : ∃ j, k = body.length + (j + 1) := ⟨k - body.length - 1, by omega⟩
          rw [hin]
          have := r2 j (by simp at hk2; omega)
          omega
    · rcases List.mem_cons.1 ht with rfl | ht
      · exact hs
      · rcases List.mem_append.1 ht with ht | ht
        · exact b3 t ht
        · rcases List.mem_cons.1 ht with rfl | ht
          · exact stOk_end
          · exact r3 t ht
theorem isBlk_of {d : Nat} {L : List T} (h : Blk d L) (hd : d ≤ 3) (hl : L.length ≤ 24) : IsBlk L := by
  obtain ⟨h1, h2, h3⟩ := blk_heights h
  exact ⟨fun j s hj hs => ⟨h3 s (List.mem_of_getElem? hs), (h2 (j + 1) hj).1, by have := (h2 (j + 1) hj).2; omega⟩, h1, hl⟩
end Go.Proofs.YtmgeecdgebemdaaGreatDoor.blk

/- The draws of programs: one to three tasks, each a valid block and a valid expression, in new memory; nothing that was there is written. -/
namespace Go.Proofs.YtmgeecdgebemdaaGreatDoor.cur
open Go Go.ChangeShapes Go.WideShapes Go.ChangeAt Go.RowKit Go.Proofs.YtmgeecdgebemdaaGreatDoor.row Go.Proofs.YtmgeecdgebemdaaGreatDoor.val Go.Proofs.YtmgeecdgebemdaaGreatDoor.expr Go.Proofs.YtmgeecdgebemdaaGreatDoor.stm Go.Proofs.YtmgeecdgebemdaaGreatDoor.blk Go.Proofs.YtmgeecdgebemdaaGreatDoor.prg
/-- The cells 'xs' of a row of tasks read as the list 'P', each task's statements in a block of their own. -/
def Bod (base : Nat) (w : World) (v : Value) (xs : List Value) (P : List Tk) : Prop :=
  xs.length = P.length * 4 ∧ ∀ j t, P[j]? = some t → ∃ gb nb c : Nat, (∀ i u, (tkC (some ⟨gb, 0, none⟩) nb c t)[i]? = some u → xs[j * 4 + i]? = some u) ∧ nb ≤ c ∧ base ≤ gb ∧ gb < w.heap.size ∧ v.ownBlock ≠ some gb ∧ StRow w (some ⟨gb, 0, none⟩) nb t.b
theorem Bod.nil (base : Nat) (w : World) (v : Value) : Bod base w v [] [] := ⟨rfl, fun j t h => by simp at h⟩
theorem Bod.low {base : Nat} {w w' : World} {v : Value} {xs : List Value} {P : List Tk} {b : Nat} (h : Bod base w v xs P) (hg : w.grownBy w' (some b)) (hb : b < base) : Bod base w' v xs P :=
  ⟨h.1, fun j t ht => by
    obtain ⟨gb, nb, c, h1, h2, h3, h4, h5, h6⟩ := h.2 j t ht
    exact ⟨gb, nb, c, h1, h2, h3, Nat.lt_of_lt_of_le h4 hg.size, h5, StRow.grown_box h6 hg (fun e => by have := Option.some.inj e; omega)⟩⟩
theorem Bod.alloc {base : Nat} {w : World} {v : Value} {xs : List Value} {P : List Tk} (h : Bod base w v xs P) (o : Obj) : Bod base (w.alloc o) v xs P :=
  ⟨h.1, fun j t ht => by
    obtain ⟨gb, nb, c, h1, h2, h3, h4, h5, h6⟩ := h.2 j t ht
    exact ⟨gb, nb, c, h1, h2, h3, by simp; omega, h5, h6.below (below_new w o)⟩⟩
theorem Bod.app {base : Nat} {w w' : World} {v : Value} {xs : List Value} {P : List Tk} {g k cap gb nb c H : Nat} {t : Tk} (h : Bod base w v xs P) (hg : w.grownBy w' v.ownBlock) (hat : v.ownBlock = some g ∨ g = H) (hH : w.heap.size = H)
    (hbc : nb ≤ c) (hb : base ≤ gb) (hl : gb < w.heap.size) (hne : v.ownBlock ≠ some gb) (hr : StRow w (some ⟨gb, 0, none⟩) nb t.b) : Bod base w' (.slice (some ⟨g, 0, none⟩) (k + 1) cap) (xs ++ tkC (some ⟨gb, 0, none⟩) nb c t) (P ++ [t]) := by
  have no : ∀ q, q < w.heap.size → v.ownBlock ≠ some q → some g ≠ some q := fun q hq hn e => by
    rcases hat with h1 | h1
    · rw [h1] at hn; exact hn e
    · have := Option.some.inj e; omega
  refine ⟨by simp [h.1, tkC]; omega, fun j t' ht => ?_⟩
  by_cases hj : j < P.length
  · rw [List.getElem?_append_left hj] at ht
    obtain ⟨gb', nb', c', h1, h2, h3, h4, h5, h6⟩ := h.2 j t' ht
    refine ⟨gb', nb', c', fun i u hu => ?_, h2, h3, Nat.lt_of_lt_of_le h4 hg.size, no gb' h4 h5, StRow.grown_box h6 hg (fun e => h5 e.symm)⟩
    have hi : i < 4 := by have := (List.getElem?_eq_some_iff.1 hu).1; simpa [tkC] using this
    rw [List.getElem?_append_left (by rw [h.1]; omega)]; exact h1 i u hu
  · have hjl := (List.getElem?_eq_some_iff.1 ht).1
    simp at hjl
    obtain rfl : j = P.length := by omega
    simp at ht
    subst ht
    refine ⟨gb, nb, c, fun i u hu => ?_, hbc, hb, Nat.lt_of_lt_of_le hl hg.size, no gb hl hne, StRow.grown_box hr hg (fun e => hne e.symm)⟩
    rw [List.getElem?_append_right (by rw [h.1]; omega), h.1, show P.length * 4 + i - P.length * 4 = i by omega]; exact hu
theorem Bod.row {base : Nat} {w : World} {a : Option Addr} {n cap : Nat} {xs : List Value} {P : List Tk} {e : TypeId} (h : Bod base w (.slice a n cap) xs P) (ho : w.ownsRow base e 4 (.slice a n cap) n xs) : TkFrom base w a n P := by
  have hl : P.length = n := by have := ho.1; have := h.1; omega
  refine ⟨hl, fun k hk => ?_⟩
  obtain ⟨g, c, hv, hbg, hg⟩ := ho.form (by omega)
  injection hv with h1 h2 h3
  subst h1
  obtain ⟨t, ht⟩ : ∃ t, P[k]? = some t := ⟨P[k], by simp [hl, hk]⟩
  obtain ⟨gb, nb, c', k1, k2, k3, _, _, k6⟩ := h.2 k t ht
  refine ⟨g, t, gb, nb, c', rfl, hbg, hg, ht, fun i u hu => ?_, k2, k3, k6⟩
  have hi : i < 4 := by have := (List.getElem?_eq_some_iff.1 hu).1; simpa [tkC] using this
  rw [ho.cellAt (k * 4 + i) (by omega)]; exact k1 i u hu
theorem own_low {w : World} {base size n b : Nat} {e : TypeId} {v : Value} {xs : List Value} (h : w.ownsRow base e size v n xs) (hb : b < base) : v.ownBlock ≠ some b := fun e => by have := (h.lt b e).1; omega
/-- A drawn task. -/
def TkOk (t : Tk) : Prop := IsBlk t.b ∧ t.b.length ≤ 20 ∧ exprOk t.o t.x t.y = true
/-- A drawn program in new memory; the cursor stays one. -/
def PrgOut (cb : Nat) (a : Option Addr) (len cap : Nat) (w : World) (e : Ending) (w' : World) : Prop :=
  ∃ (ad : Option Addr) (n c : Nat) (P : List Tk), e = .returned (.agg #[.slice ad n c]) ∧ 1 ≤ n ∧ n ≤ 3 ∧ n ≤ c ∧ Hid (∀ t ∈ P, TkOk t) ∧ Hid (TkFrom (w.heap.size + 2) w' ad n P) ∧ Cur cb a len cap w' ∧ w.grownBy w' (some cb)
theorem infoTaskZ : (Tryz.prog.info? 96).map (fun i => (i.zero, i.size, i.bytes)) = some (some (tkV none 0 0 ⟨[], 0, 0, 0⟩), 4, 48) := by kernel_rfl
set_option maxHeartbeats 8000000 in
set_option maxRecDepth 100000 in
theorem l06program_any (cb : Nat) (a : Option Addr) (len cap : Nat) (w : World) (hc : Cur cb a len cap w) :
    Calls Tryz.prog 51 #[.pointer (some ⟨cb, 0, none⟩)] w (PrgOut cb a len cap w) := by
  obtain ⟨i0, hi, hz0, hz1, hz2⟩ := info_parts infoTaskZ
  have hcb := hc.lt
  obtain ⟨W, hW⟩ : ∃ W, W = (w.alloc (.cells #[.slice none 0 0] 26)).alloc (.cells #[.slice none 0 0] 26) := ⟨_, rfl⟩
  have hs : W.heap.size = w.heap.size + 2 := by rw [hW]; simp
  have e1 : ∀ x : Obj, (w.alloc x).heap.size = w.heap.size + 1 := fun x => by simp
  have b0 : Box w.heap.size #[.slice none 0 0] 26 W := by rw [hW]; exact (Box.new w _ _).alloc _
  have b1 : Box (w.heap.size + 1) #[.slice none 0 0] 26 W := by
    have h9 := Box.new (w.alloc (.cells #[.slice none 0 0] 26)) #[.slice none 0 0] 26
    rw [e1] at h9; rw [hW]; exact h9
  have hcW : Cur cb a len cap W := by rw [hW]; exact (hc.alloc _).alloc _
  have hgW : w.grownBy W (some cb) := by rw [hW]; exact grownBy_trans (World.grownBy_alloc _ _ _) (World.grownBy_alloc _ _ _)
  have H0 := Lib.hid (And.intro b0 (And.intro b1 (And.intro hcW hgW)))
  have HS := Lib.hid hs
  have HW := Lib.hid hW.symm
  clear hW hs e1 b0 b1 hcW hgW hc
  go_enter Tryz.func51, Tryz.ntmps51
  go_wp2
  rw [HW.out]
  go_loopw [4] (fun i wr => ∃ (k : Nat) (v : Value) (xs : List Value) (P : List Tk), k ≤ 3 ∧ i = .int .i64 k ∧ Box (w.heap.size + 1) #[v] 26 wr ∧ Hid (Box w.heap.size #[.slice none 0 0] 26 wr ∧ P.length = k ∧ wr.ownsRow (w.heap.size + 2) 96 4 v k xs ∧ Bod (w.heap.size + 2) wr v xs P ∧ (∀ t ∈ P, TkOk t) ∧ Cur cb a len cap wr ∧ w.grownBy wr (some cb))) (fun i _ => 3 - (intOf i).toNat)
  case atStart => exact ⟨0, _, [], [], Nat.zero_le _, rfl, H0.out.2.1, H0.out.1, rfl, World.ownsRow_nil _ _ _ _, Bod.nil _ _ _, fun t ht => (by cases ht), H0.out.2.2.1, H0.out.2.2.2⟩
  case round =>
    obtain ⟨k, v, xs, P, hk, rfl, hbp, HI⟩ := hrel
    have HBP := Lib.hid hbp
    clear hbp
    go_wp2_with (go_at_call 55; (with_reducible refine (below_any cb a len cap 3 (by omega) _ HI.out.2.2.2.2.2.1).mono ?_); rintro e w1 ⟨z, rfl, hz0', hz1', hc1, hg1⟩; refine Hid.out ?_)
    have hsz1 := HI.out.2.2.2.2.2.2.size
    have H1 := Lib.hid (show Box (w.heap.size + 1) #[v] 26 w1 ∧ Box w.heap.size #[.slice none 0 0] 26 w1 ∧ w1.ownsRow (w.heap.size + 2) 96 4 v k xs ∧ Bod (w.heap.size + 2) w1 v xs P ∧ Cur cb a len cap w1 ∧ w.grownBy w1 (some cb) from
      ⟨HBP.out.grown hg1 (by intro e; have := Option.some.inj e; omega), HI.out.1.grown hg1 (by intro e; have := Option.some.inj e; omega), HI.out.2.2.1.kept hg1 (Or.inr (own_low HI.out.2.2.1 (by omega))), HI.out.2.2.2.1.low hg1 (by omega), hc1, grownBy_trans HI.out.2.2.2.2.2.2 hg1⟩)
    clear hg1 hc1 hsz1
    by_cases hlt : (k : Int) < 1 + z
    · have bx1 : Box (w.heap.size + 1) #[v] 26 w1.drew := H1.out.1
      have hvc : v.ownBlock ≠ some cb := own_low H1.out.2.2.1 (by omega)
      have hvp : v.ownBlock ≠ some (w.heap.size + 1) := own_low H1.out.2.2.1 (by omega)
      have hs1 : w.heap.size + 2 ≤ w1.heap.size := by have := H1.out.1.lt; omega
      have HO1 : w1.drew.ownsRow (w.heap.size + 2) 96 4 v k xs := H1.out.2.2.1
      have k1 : w1.drew.cell? ⟨w.heap.size + 1, 0, none⟩ = some v := bx1.cell 0
      have HC1 : Cur cb a len cap w1.drew := H1.out.2.2.2.2.1
      refine Lib.hid ?_
      go_wp2
      go_region_law (first
        | (go_simp; go_at_call 111; refine (case_any cb a len cap _ HC1).mono ?_; rintro e w2 ⟨g, m, c, L, rfl, HB, hm, hbs⟩; have hsz2 : w1.heap.size ≤ w2.heap.size := hbs.2.2.size; have bx2 := bx1.grown hbs.2.2 (by intro e; have := Option.some.inj e; omega); have k2 := bx2.cell 0)
        | (go_simp; go_at_call 112; refine (expr_from _ _ a len cap _ hbs.2.1 (grownBy_refl _ _)).mono ?_; rintro e w3 ⟨o, x, y, rfl, hok, hc3, hg3⟩; have bx3 := bx2.grown hg3 (by intro e; have := Option.some.inj e; omega); have k3 := bx3.cell 0; have bx4 := bx3.alloc (.cells #[.slice (some ⟨g, 0, none⟩) m c, .int .i64 o, .int .i64 x, .int .i64 y] 96); have k4 := bx4.cell 0; have hsz3 := hg3.size; have ho4 := ((HO1.kept hbs.2.2 (Or.inr hvc)).kept hg3 (Or.inr hvc)).alloc (.cells #[.slice (some ⟨g, 0, none⟩) m c, .int .i64 o, .int .i64 x, .int .i64 y] 96))
        | ((refine step_append_lies _ (by rfl) _ _ _ (by rfl) (w.heap.size + 2) 96 i0 _ 4 48 Tryz.underlying24 hi hz0 hz1 hz2 rfl (by omega) _ k _ (by rfl) ho4 ⟨w3.heap.size, 0, none⟩ 1 1 [.slice (some ⟨g, 0, none⟩) m c, .int .i64 o, .int .i64 x, .int .i64 y] (by rfl) (by rfl) (World.news_of_block (cs := #[.slice (some ⟨g, 0, none⟩) m c, .int .i64 o, .int .i64 x, .int .i64 y]) (t := 96) (fr := (0, 0)) (heap_alloc_new w3 _)) (by simp [Value.oneCell']) (by omega) (by unfold maxLen; omega) (by omega) (by simp; omega) (w3.heap.size + 1) (by simp) ?_); intro gg cap' w5 hown5 hgrow5 hat5 hlt5; have bx5 := bx4.grown hgrow5 (fun e => hvp e.symm); have k5 := bx5.cell 0; have f5 := bx5.frozen 0))
      all_goals
        have hgl : w1.heap.size ≤ g ∧ g < w2.heap.size := hbs.lo
        have hvl : ∀ q, v.ownBlock = some q → w.heap.size + 2 ≤ q ∧ q < w1.heap.size := HO1.lt
        have hgs := grown_setCell w5 (w.heap.size + 1) 0 (.slice (some ⟨gg, 0, none⟩) (k + 1) cap')
        have hgg := (hown5.lt gg rfl).1
        have hst := (StRow.grown_box (StRow.of_own hbs.1) hg3 (by intro e; have := Option.some.inj e; omega)).below (below_new w3 (.cells #[.slice (some ⟨g, 0, none⟩) m c, .int .i64 o, .int .i64 x, .int .i64 y] 96))
        have hbod := ((((((show Bod (w.heap.size + 2) w1.drew v xs P from H1.out.2.2.2.1).low hbs.2.2 (by omega)).low hg3 (by omega)).alloc (.cells #[.slice (some ⟨g, 0, none⟩) m c, .int .i64 o, .int .i64 x, .int .i64 y] 96)).app (k := k) (cap := cap') (t := ⟨L, o, x, y⟩) hgrow5 hat5 (by simp) (own_le hbs.1) (by omega) (by simp; omega) (fun e => by have := (hvl g e).2; omega) hst).low hgs (by omega))
        have hbr := ((((((show Box w.heap.size #[.slice none 0 0] 26 w1.drew from H1.out.2.1).grown hbs.2.2 (by intro e; have := Option.some.inj e; omega)).grown hg3 (by intro e; have := Option.some.inj e; omega)).alloc (.cells #[.slice (some ⟨g, 0, none⟩) m c, .int .i64 o, .int .i64 x, .int .i64 y] 96)).grown hgrow5 (fun e => by have := (hvl _ e.symm).1; omega)).grown hgs (by intro e; have := Option.some.inj e; omega))
        have hcur := ((hc3.alloc (.cells #[.slice (some ⟨g, 0, none⟩) m c, .int .i64 o, .int .i64 x, .int .i64 y] 96)).keep hgrow5 (fun q hq => by have := (hvl q hq).1; omega)).keep hgs (fun q hq => by cases hq; omega)
        have hgw := grownBy_own (grownBy_own (grownBy_trans (grownBy_trans (grownBy_trans (show w.grownBy w1.drew (some cb) from ⟨H1.out.2.2.2.2.2.os, H1.out.2.2.2.2.2.tape, H1.out.2.2.2.2.2.output, H1.out.2.2.2.2.2.size, H1.out.2.2.2.2.2.block⟩) hbs.2.2) hg3) (World.grownBy_alloc w3 (.cells #[.slice (some ⟨g, 0, none⟩) m c, .int .i64 o, .int .i64 x, .int .i64 y] 96) _)) hgrow5 (fun q hq => by have := (hvl q hq).1; omega)) hgs (fun q hq => by cases hq; omega)
        have hok5 : ∀ t ∈ P ++ [(⟨L, o, x, y⟩ : Tk)], TkOk t := fun t ht => by
          rcases List.mem_append.1 ht with h | h
          · exact HI.out.2.2.2.2.1 t h
          · simp at h; subst h
            exact ⟨isBlk_of HB.out (by omega) (by rw [hbs.length_]; omega), by rw [hbs.length_]; exact hm, hok⟩
        have H6 := Lib.hid (And.intro (bx5.set 0 (.slice (some ⟨gg, 0, none⟩) (k + 1) cap')) (And.intro hbr (And.intro (show (P ++ [(⟨L, o, x, y⟩ : Tk)]).length = k + 1 by simp [HI.out.2.1]) (And.intro (hown5.kept hgs (Or.inr (by simp only [Value.ownBlock]; intro e; have := Option.some.inj e; omega))) (And.intro hbod (And.intro hok5 (And.intro hcur hgw)))))))
        clear hgl hvl hgs hgg hst hbod hbr hcur hgw hok5 bx1 bx2 bx3 bx4 bx5 k1 k2 k3 k4 k5 f5 ho4 HO1 hown5 hgrow5 hat5 hlt5 hg3 hc3 hbs hsz2 hsz3 HC1 hvc hvp
        obtain ⟨W5, hW5⟩ : ∃ W5, w5.setCell ⟨w.heap.size + 1, 0, none⟩ (.slice (some ⟨gg, 0, none⟩) (k + 1) cap') = W5 := ⟨_, rfl⟩
        rw [hW5] at H6 ⊢
        clear hW5
        go_wp2
        go_roundw
        case rel => exact ⟨k + 1, _, _, _, by omega, by go_num, H6.out.1, H6.out.2⟩
        case measure => simp [intOf]; omega
    · have hk1 : 1 ≤ k := by omega
      have hkl : P.length = k := HI.out.2.1
      obtain ⟨g, c, hv, _, hgl⟩ := H1.out.2.2.1.form (by omega)
      subst hv
      have HF := Lib.hid (And.intro H1.out.1 (And.intro H1.out.2.1 (And.intro (And.intro H1.out.2.2.2.1 H1.out.2.2.1) (And.intro H1.out.2.2.2.2.1 H1.out.2.2.2.2.2))))
      have hcc := own_le H1.out.2.2.1
      have HOK := Lib.hid HI.out.2.2.2.2.1
      clear HI HBP
      refine Lib.hid ?_
      go_wp2_with (first
        | (refine wpList_load_row rfl 26 _ rfl (w.heap.size + 1) rfl _ _ _ _ HF.out.1 Tryz.underlying26 rfl (by kernel_rfl) ?_)
        | ((refine wpList_store_box rfl 26 _ _ rfl w.heap.size _ _ HF.out.2.1 #[.slice (some ⟨g, 0, none⟩) k c] rfl rfl rfl (by kernel_rfl) (by simp [Value.oneCell']) ?_); intro w4 hx4 hg4; refine Hid.out ?_))
      have hown4 := HF.out.2.2.1.2.kept hg4 (Or.inr (own_low HF.out.2.2.1.2 (by omega)))
      have H4 := Lib.hid (And.intro hx4 (And.intro ((HF.out.2.2.1.1.low hg4 (by omega)).row hown4) (And.intro (HF.out.2.2.2.1.keep hg4 (fun q hq => by cases hq; omega)) (grownBy_own HF.out.2.2.2.2 hg4 (fun q hq => by cases hq; omega)))))
      clear hx4 hg4 hown4
      refine Lib.hid ?_
      go_wp2
      exact bodyPost_ret (v := .agg #[.slice (some ⟨g, 0, none⟩) k c]) (results_cell_row rfl _ _ w.heap.size _ _ _ _ rfl H4.out.1 Tryz.underlying26 rfl (by kernel_rfl)) rfl ⟨_, k, c, P, rfl, hk1, hk, hcc, HOK, H4.out.2.1, H4.out.2.2.1, H4.out.2.2.2⟩
end Go.Proofs.YtmgeecdgebemdaaGreatDoor.cur
