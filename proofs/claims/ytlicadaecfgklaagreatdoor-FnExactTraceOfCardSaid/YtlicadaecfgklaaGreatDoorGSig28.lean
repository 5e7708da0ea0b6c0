/- Several texts in one: JrnC JrnD. -/
import Derived.Test.YtlicadaecfgklaaGreatDoorGSig27
import Derived.Deep.RegionLaw
import Derived.Deep.RegionHeld3

/- Chapter 14 of the program: the writes of a statement that is told, the steps that are added; nothing else that was there is written. -/
namespace Go.Proofs.YtlicadaecfgklaaGreatDoor.trc
open Go Go.ChangeShapes Go.WideShapes Go.ChangeAt Go.RowKit Go.Proofs.YtlicadaecfgklaaGreatDoor.row Go.Proofs.YtlicadaecfgklaaGreatDoor.val Go.Proofs.YtlicadaecfgklaaGreatDoor.expr Go.Proofs.YtlicadaecfgklaaGreatDoor.stm Go.Proofs.YtlicadaecfgklaaGreatDoor.blk Go.Proofs.YtlicadaecfgklaaGreatDoor.prg Go.Proofs.YtlicadaecfgklaaGreatDoor.exe Go.Proofs.YtlicadaecfgklaaGreatDoor.grow Go.Proofs.YtlicadaecfgklaaGreatDoor.rss Go.Proofs.YtlicadaecfgklaaGreatDoor.ctl Go.Proofs.YtlicadaecfgklaaGreatDoor.sets Go.Proofs.YtlicadaecfgklaaGreatDoor.wrt Go.Proofs.YtlicadaecfgklaaGreatDoor.mem
theorem wr_iff (s : Sm) : wr s ↔ (s.k = 1 ∨ s.k = 2) := Iff.rfl
set_option maxHeartbeats 8000000 in
set_option maxRecDepth 100000 in
/-- The writes of a statement that is told. -/
theorem impl_stmtwrites (B gj : Nat) (a : Option Addr) (m c : Nat) (D : List Int) (tk tl : Int) (L : List Int) (w : World) (h : JnAt B gj a m c D tk tl L w) (hD : Vrs D) (hDl : D.length ≤ 8) (hL : LogInv D L) (htl : 0 ≤ tl ∧ tl ≤ 24)
    (gv cv : Nat) (a1 : Option Addr) (n1 c1 : Nat) (a2 : Option Addr) (n2 c2 : Nat) (fk1 fk2 : Fn) (fc1 fc2 : Array Value) (x : Sx) (hV : Row w (some ⟨gv, 0, none⟩) 8 x.V) (hS : x.S.length = n1) (hn1 : n1 ≤ 100000) (s : Sm) (hs : stOk s = true) (v : Int) :
    Calls Tryz.prog 50 #[.pointer (some ⟨gj, 0, none⟩), .agg #[.slice (some ⟨gv, 0, none⟩) 8 cv, .slice a1 n1 c1, .slice a2 n2 c2, .func fk1 #[] fc1, .func fk2 #[] fc2], .agg (stmA s), .int .i64 v] w (AsgOut B gj a m c D tk tl (addL D s L) (addP D tk tl s x v L) w) := by
  obtain ⟨W, hW⟩ : ∃ W, (w.alloc (.cells #[.slice (some ⟨gv, 0, none⟩) 8 cv, .slice a1 n1 c1, .slice a2 n2 c2, .func fk1 #[] fc1, .func fk2 #[] fc2] 87)).alloc (.cells (stmA s) 89) = W := ⟨_, rfl⟩
  have hbW : Below w.heap.size w W := by rw [← hW]; exact below_then (below_new w _) (below_new _ _)
  have hx1 : Box w.heap.size #[.slice (some ⟨gv, 0, none⟩) 8 cv, .slice a1 n1 c1, .slice a2 n2 c2, .func fk1 #[] fc1, .func fk2 #[] fc2] 87 W := by rw [← hW]; exact (Box.new w _ _).alloc _
  have hx2 : Box (w.heap.size + 1) (stmA s) 89 W := by
    have h9 := Box.new (w.alloc (.cells #[.slice (some ⟨gv, 0, none⟩) 8 cv, .slice a1 n1 c1, .slice a2 n2 c2, .func fk1 #[] fc1, .func fk2 #[] fc2] 87)) (stmA s) 89
    rw [World.size_alloc] at h9
    rw [← hW]; exact h9
  obtain ⟨rw0, hrw⟩ : ∃ r : Bool, r = true ↔ wr s := by
    rcases Classical.em (wr s) with h | h
    · exact ⟨true, by simp [h]⟩
    · exact ⟨false, by simp [h]⟩
  have HWR := Lib.hid (show ∀ w', Calls Tryz.prog 99 #[.agg (stmA s)] w' (BelB w' rw0) from fun w' => impl_writes s rw0 hrw w')
  have H0 := Lib.hid (And.intro hx1 (And.intro hx2 (And.intro hbW (h.below hbW))))
  cases rw0
  · have hno : ¬ (s.k = 1 ∨ s.k = 2) := fun e => by have := hrw.2 e; cases this
    have HL2 := Lib.hid (show addL D s L = L by unfold addL; rw [if_neg hno])
    by_cases h3 : s.k = 3
    · obtain ⟨Q, hQ⟩ : ∃ Q : List Wt, (if tl + (n1 : Int) < 24 then [⟨25 + (tl + n1), v⟩] else []) = Q := ⟨_, rfl⟩
      have HP2 := Lib.hid (show addP D tk tl s x v L = Q by unfold addP; rw [if_neg hno, if_pos h3, hS, hQ])
      have HSE := Lib.hid (show ∀ w', JnAt B gj a m c D tk tl L w' → Calls Tryz.prog 101 #[.pointer (some ⟨gj, 0, none⟩), .int .i64 n1, .int .i64 v] w' (AsgOut B gj a m c D tk tl L Q w') from fun w' hj => by rw [← hQ]; exact impl_sending B gj a m c D tk tl L w' hj htl n1 hn1 v)
      have k0 : W.cell? ⟨w.heap.size + 1, 0, none⟩ = some (.int .i64 3) := by rw [← h3]; exact hx2.cell 0
      have HB0 := Lib.hid hbW
      clear hQ h hD hDl hL htl hV hS hn1 hs hbW hx1 hrw hno h3
      rw [HL2.out, HP2.out]
      go_enter Tryz.func50, Tryz.ntmps50
      go_wp2_with (first
        | (refine wpList_load_row rfl 89 _ rfl (w.heap.size + 1) rfl _ _ _ _ H0.out.2.1 Tryz.underlying89 rfl (by kernel_rfl) ?_)
        | (go_at_call 99; (with_reducible refine (HWR.out _).mono ?_); rintro e w2 ⟨rfl, hb2⟩; refine Hid.out ?_))
      have k02 : w2.cell? ⟨w.heap.size + 1, 0, none⟩ = some (.int .i64 3) := (hb2.cell (p := ⟨w.heap.size + 1, 0, none⟩) hx2.lt).trans k0
      have k12 : w2.cell? ⟨w.heap.size, 1, none⟩ = some (.slice a1 n1 c1) := (H0.out.1.below hb2).cell 1
      have H2 := Lib.hid (And.intro (H0.out.2.2.2.below hb2) (below_then' HB0.out hb2))
      clear hb2 k0
      refine Lib.hid ?_
      go_wp2_with (go_at_call 101; (with_reducible refine (HSE.out _ H2.out.1).mono ?_); rintro e w3 ⟨al, nl, cl, a', m', c', rfl, ho3, hj3, hm3⟩; refine Hid.out ?_)
      have H3 := Lib.hid (And.intro (ho3.mono H2.out.2.size) (And.intro hj3 ((Mv.of_below (jnB gj a m c) H2.out.2).trans hm3)))
      clear ho3 hj3 hm3
      refine Lib.hid ?_
      go_wp2
      go_ret
      exact ⟨_, _, _, _, _, _, rfl, H3.out⟩
    · have HP2 := Lib.hid (show addP D tk tl s x v L = [] by unfold addP; rw [if_neg hno, if_neg h3])
      have k0 : W.cell? ⟨w.heap.size + 1, 0, none⟩ = some (.int .i64 s.k) := hx2.cell 0
      have h3b : (s.k == 3) = false := by simpa using h3
      have HB0 := Lib.hid hbW
      clear h hD hDl hL htl hV hS hn1 hs hbW hx1 hrw hno h3
      rw [HL2.out, HP2.out]
      go_enter Tryz.func50, Tryz.ntmps50
      go_wp2_with (first
        | (refine wpList_load_row rfl 89 _ rfl (w.heap.size + 1) rfl _ _ _ _ H0.out.2.1 Tryz.underlying89 rfl (by kernel_rfl) ?_)
        | (go_at_call 99; (with_reducible refine (HWR.out _).mono ?_); rintro e w2 ⟨rfl, hb2⟩; refine Hid.out ?_))
      have k02 : w2.cell? ⟨w.heap.size + 1, 0, none⟩ = some (.int .i64 s.k) := (hb2.cell (p := ⟨w.heap.size + 1, 0, none⟩) hx2.lt).trans k0
      have H2 := Lib.hid (And.intro (H0.out.2.2.2.below hb2) (below_then' HB0.out hb2))
      clear hb2 k0
      refine Lib.hid ?_
      go_wp2
      go_ret
      exact ⟨_, _, _, _, _, _, rfl, World.ownsRow_nil _ _ _ _, H2.out.1, Mv.of_below _ H2.out.2⟩
  · have hyes : s.k = 1 ∨ s.k = 2 := hrw.1 rfl
    have HL2 := Lib.hid (show addL D s L = asgL D s.v L by unfold addL; rw [if_pos hyes])
    obtain ⟨u, hu, hu8⟩ : ∃ u : Nat, s.v = u ∧ u < 8 := by have := st_var hs hyes; exact ⟨s.v.toNat, by omega, by omega⟩
    obtain ⟨ow, how⟩ : ∃ ow, x.V.getD u 0 = ow := ⟨_, rfl⟩
    have HP2 := Lib.hid (show addP D tk tl s x v L = asgP D tk tl ow u v L by unfold addP; rw [if_pos hyes, hu, show ((u : Int)).toNat = u by omega, how])
    have HAS := Lib.hid (show ∀ w', JnAt B gj a m c D tk tl L w' → Calls Tryz.prog 100 #[.pointer (some ⟨gj, 0, none⟩), .int .i64 u, .int .i64 ow, .int .i64 v] w' (AsgOut B gj a m c D tk tl (asgL D u L) (asgP D tk tl ow u v L) w') from fun w' hj => impl_assignment B gj a m c D tk tl L w' hj hD hDl hL u ow v)
    obtain ⟨b, off, y, he, hbl, hy, hcy⟩ := hV.2 u hu8
    cases he
    obtain rfl : y = ow := by rw [← how, List.getD_eq_getElem?_getD, hy]; rfl
    have hv2 : Below w.heap.size w W := hbW
    have cv0 : W.cell? ⟨gv, 0 + u, none⟩ = some (.int .i64 y) := (hbW.cell (p := ⟨gv, 0 + u, none⟩) hbl).trans hcy
    rw [Nat.zero_add] at cv0
    have hu0 : (0 : Int) ≤ (u : Int) := by omega
    have hu9 : (u : Int) < 8 := by omega
    have hgvl : gv < W.heap.size := Nat.lt_of_lt_of_le hbl hbW.size
    have HB0 := Lib.hid hbW
    have HUE := Lib.hid hu
    clear h hD hDl hL htl hV hS hn1 hs hbW hx1 hrw hyes hy hcy hv2 how
    rw [HL2.out, HP2.out, hu]
    clear hu
    go_enter Tryz.func50, Tryz.ntmps50
    go_wp2_with (first
      | (refine wpList_load_row rfl 89 _ rfl (w.heap.size + 1) rfl _ _ _ _ H0.out.2.1 Tryz.underlying89 rfl (by kernel_rfl) ?_)
      | (go_at_call 99; (with_reducible refine (HWR.out _).mono ?_); rintro e w2 ⟨rfl, hb2⟩; refine Hid.out ?_))
    have k12 : w2.drew.cell? ⟨w.heap.size + 1, 1, none⟩ = some (.int .i64 (u : Int)) := by rw [← HUE.out]; exact (H0.out.2.1.below hb2).cell 1
    have k02 : w2.drew.cell? ⟨w.heap.size, 0, none⟩ = some (.slice (some ⟨gv, 0, none⟩) 8 cv) := (H0.out.1.below hb2).cell 0
    have kv2 : w2.drew.cell? ⟨gv, u, none⟩ = some (.int .i64 y) := (hb2.cell (p := ⟨gv, u, none⟩) hgvl).trans cv0
    have hbD := below_then hb2 (Below.drew (Below.refl _ w2))
    have H2 := Lib.hid (And.intro (H0.out.2.2.2.below hbD) (below_then' HB0.out hbD))
    clear hb2 hbD cv0
    refine Lib.hid ?_
    go_wp2
    go_region_law (first
      | (go_simp; go_at_call 100; (with_reducible refine (HAS.out _ H2.out.1).mono ?_); rintro e w3 ⟨al, nl, cl, a', m', c', rfl, ho3, hj3, hm3⟩))
    all_goals
      have H3 := Lib.hid (And.intro (ho3.mono H2.out.2.size) (And.intro hj3 ((Mv.of_below (jnB gj a m c) H2.out.2).trans hm3)))
      clear ho3 hj3 hm3
      refine Lib.hid ?_
      go_wp2
      go_ret
      exact ⟨_, _, _, _, _, _, rfl, H3.out⟩
theorem wrow_moved {w w' : World} {a : Option Addr} {n : Nat} {L : List Wt} (h : WriteRow w a n L) (hs : w.heap.size ≤ w'.heap.size) (hk : ∀ b off, a = some ⟨b, off, none⟩ → w'.heap[b]? = w.heap[b]?) : WriteRow w' a n L :=
  ⟨h.1, fun k hkn => by
    obtain ⟨b, off, s, rfl, hlt, hs', hr⟩ := h.2 k hkn
    exact ⟨b, off, s, rfl, Nat.lt_of_lt_of_le hlt hs, hs', fun j v hv => (World.cell?_of_block (a := ⟨b, off + k * 2 + j, none⟩) (hk b off rfl)).trans (hr j v hv)⟩⟩
def stepsOf (cost : Int) (L : List Wt) : List Mic := ⟨cost, -1, 0⟩ :: L.map fun p => wrM p.p p.v
theorem stepsOf_snoc {cost : Int} {L : List Wt} {k : Nat} {p : Wt} (h : L[k]? = some p) : stepsOf cost (L.take (k + 1)) = stepsOf cost (L.take k) ++ [wrM p.p p.v] := by
  unfold stepsOf
  rw [List.take_add_one, h]
  simp
/-- The steps are these now. -/
def AddOut (B gs : Nat) (a : Option Addr) (m c : Nat) (M : List Mic) (w : World) (e : Ending) (w' : World) : Prop :=
  e = .returned (.tuple #[]) ∧ ∃ g' c' m', StAt B gs (some ⟨g', 0, none⟩) m' c' M w' ∧ Mv (jnB gs a m c) w (jnB gs (some ⟨g', 0, none⟩) m' c') w'
set_option maxHeartbeats 8000000 in
set_option maxRecDepth 100000 in
/-- The steps of a statement are added: its own, and one for each write. -/
theorem impl_add (B gs : Nat) (a : Option Addr) (m c : Nat) (M : List Mic) (w : World) (h : StAt B gs a m c M w) (hM : M.length ≤ 90000) (cost : Int) (al : Option Addr) (nl cl : Nat) (L : List Wt) (hL : WriteRow w al nl L) (hl : nl ≤ 8) (hfar : ∀ b off, al = some ⟨b, off, none⟩ → ∀ j : Nat, (jnB gs a m c)[j]? ≠ some (some b)) :
    Calls Tryz.prog 45 #[.int .i64 cost, .slice al nl cl, .pointer (some ⟨gs, 0, none⟩)] w
      (AddOut B gs a m c (M ++ stepsOf cost L) w) := by
  obtain ⟨i0, hi, hz0, hz1, hz2⟩ := info_parts infoMic
  have hm := h.len
  have hm9 : m ≤ 90000 := by omega
  have hB := h.low
  have c0 : w.cell? ⟨gs, 0, none⟩ = some (.slice a m c) := h.box.cell 0
  have ho : w.ownsRow B 76 3 (.slice a m c) m (microsC M) := h.rows.own 0 _ rfl
  have HO := Lib.hid ho
  have H := Lib.hid (And.intro h (And.intro hL hfar))
  clear h hL hfar ho
  go_enter Tryz.func45, Tryz.ntmps45
  go_wp2_with (at_builtin; refine wpList_append_own_at _ rfl _ _ 31 rfl B 76 i0 (.agg #[.int .i64 0, .int .i64 0, .int .i64 0]) 3 24 Tryz.underlying31 hi hz0 hz1 hz2 rfl (by decide) _ m _ rfl (HO.out.kept (World.grownBy_alloc w _ none) (by cases a <;> simp [Value.ownBlock])) ⟨w.heap.size, 0, none⟩ 1 1 [.int .i64 cost, .int .i64 (-1), .int .i64 0] rfl rfl (World.news_of_block (cs := #[.int .i64 cost, .int .i64 (-1), .int .i64 0]) (t := 76) (fr := (0, 0)) (heap_alloc_new w _)) (by simp [Value.oneCell']) (by unfold maxLen; omega) (by omega) (by simp; omega) ?_; intro v4 w4 hown4 hgrow4 _ hat4; refine Hid.out ?_)
  obtain ⟨g4, c4, rfl, hx4, hs4, hm4⟩ := H.out.1.step (x := ⟨cost, -1, 0⟩) hown4 hgrow4 hat4
  have d0 : w4.cell? ⟨gs, 0, none⟩ = some (.slice a m c) := hx4.cell 0
  have f0 : w4.frozen? ⟨gs, 0, none⟩ = false := hx4.frozen 0
  obtain ⟨W5, hW5⟩ : ∃ W5, w4.setCell ⟨gs, 0, none⟩ (.slice (some ⟨g4, 0, none⟩) (m + 1) c4) = W5 := ⟨_, rfl⟩
  rw [hW5] at hs4 hm4
  have H5 := Lib.hid (show StAt B gs (some ⟨g4, 0, none⟩) (m + 1) c4 (M ++ stepsOf cost (L.take 0)) W5 ∧ Mv (jnB gs a m c) w (jnB gs (some ⟨g4, 0, none⟩) (m + 1) c4) W5 from ⟨hs4, hm4⟩)
  clear hown4 hgrow4 hat4 hx4 hs4 hm4 c0
  refine Lib.hid ?_
  go_wp2
  clear hW5 d0 f0
  go_loopw [6, 14] (fun _ i wr => ∃ (k g' c' : Nat), k ≤ nl ∧ i = .int .i64 k ∧ Hid (StAt B gs (some ⟨g', 0, none⟩) (m + 1 + k) c' (M ++ stepsOf cost (L.take k)) wr) ∧ Hid (Mv (jnB gs a m c) w (jnB gs (some ⟨g', 0, none⟩) (m + 1 + k) c') wr)) (fun _ i _ => nl - (intOf i).toNat)
  case atStart => exact ⟨0, g4, c4, Nat.zero_le _, rfl, H5.out.1, H5.out.2⟩
  case round =>
    obtain ⟨k, g', c', hk, rfl, HS, HM⟩ := hrel
    by_cases hlt : k < nl
    · have hI : (k : Int) < nl := by omega
      have hfar2 := H.out.2.2
      obtain ⟨b, off, p, rfl, hlb, hp, hr⟩ := (wrow_moved H.out.2.1 HM.out.size (fun b off e => HM.out.block b (by
        obtain ⟨b', off', _, e', hl', _⟩ := H.out.2.1.2 k hlt
        rw [e] at e'; cases e'; exact hl') (H.out.2.2 b off e))).2 k hlt
      have HP := Lib.hid (stepsOf_snoc (cost := cost) hp)
      obtain ⟨pp, pv⟩ := p
      have HR := Lib.hid hr
      have HOK := Lib.hid (show wr.ownsRow B 76 3 (.slice (some ⟨g', 0, none⟩) (m + 1 + k) c') (m + 1 + k) (microsC (M ++ stepsOf cost (L.take k))) from HS.out.rows.own 0 _ rfl)
      have c0 : wr.cell? ⟨gs, 0, none⟩ = some (.slice (some ⟨g', 0, none⟩) (m + 1 + k) c') := HS.out.box.cell 0
      have hgl : gs < wr.heap.size := HS.out.rows.lt
      have hBw := HS.out.low
      clear hr hp hfar2
      go_wp2_with (first
        | (refine wpList_load_mid rfl 78 _ rfl b (off + k * 2) rfl (writeC ⟨pp, pv⟩) _ HR.out Tryz.underlying78 rfl (by kernel_rfl) ?_)
        | (refine wpList_store_box rfl 78 _ _ rfl wr.heap.size _ _ (Box.new wr _ _) #[.int .i64 pp, .int .i64 pv] rfl rfl rfl (by kernel_rfl) (by simp [Value.oneCell']) ?_; intro w2 hx2 hg2; refine Hid.out ?_))
      have hb2 : Below wr.heap.size wr w2 := (below_new wr _).grown hg2 (by simp) (fun j hj => by cases hj; exact Nat.le_refl _)
      have q0 : w2.cell? ⟨wr.heap.size, 0, none⟩ = some (.int .i64 pp) := hx2.cell 0
      have q1 : w2.cell? ⟨wr.heap.size, 1, none⟩ = some (.int .i64 pv) := hx2.cell 1
      have c2 : w2.cell? ⟨gs, 0, none⟩ = some (.slice (some ⟨g', 0, none⟩) (m + 1 + k) c') := (hb2.cell (p := ⟨gs, 0, none⟩) hgl).trans c0
      have HS2 := Lib.hid (And.intro (HS.out.below hb2) (HM.out.trans (Mv.of_below _ hb2)))
      have HO2 := Lib.hid (show w2.ownsRow B 76 3 (.slice (some ⟨g', 0, none⟩) (m + 1 + k) c') (m + 1 + k) (microsC (M ++ stepsOf cost (L.take k))) from HS2.out.1.rows.own 0 _ rfl)
      have hBw2 := HS2.out.1.low
      clear hx2 hg2 hb2 c0
      refine Lib.hid ?_
      go_wp2_with (at_builtin; refine wpList_append_own_at _ rfl _ _ 31 rfl B 76 i0 (.agg #[.int .i64 0, .int .i64 0, .int .i64 0]) 3 24 Tryz.underlying31 hi hz0 hz1 hz2 rfl (by decide) _ (m + 1 + k) _ rfl (HO2.out.kept (World.grownBy_alloc w2 _ none) (.inr (by simp [Value.ownBlock]))) ⟨w2.heap.size, 0, none⟩ 1 1 [.int .i64 3, .int .i64 pp, .int .i64 pv] rfl rfl (World.news_of_block (cs := #[.int .i64 3, .int .i64 pp, .int .i64 pv]) (t := 76) (fr := (0, 0)) (heap_alloc_new w2 _)) (by simp [Value.oneCell']) (by unfold maxLen; omega) (by omega) (by simp; omega) ?_; intro v6 w6 hown6 hgrow6 _ hat6; refine Hid.out ?_)
      obtain ⟨g6, c6, rfl, hx6, hs6, hm6⟩ := HS2.out.1.step (x := wrM pp pv) hown6 hgrow6 hat6
      have d6 : w6.cell? ⟨gs, 0, none⟩ = some (.slice (some ⟨g', 0, none⟩) (m + 1 + k) c') := hx6.cell 0
      have f6 : w6.frozen? ⟨gs, 0, none⟩ = false := hx6.frozen 0
      obtain ⟨W7, hW7⟩ : ∃ W7, w6.setCell ⟨gs, 0, none⟩ (.slice (some ⟨g6, 0, none⟩) (m + 1 + k + 1) c6) = W7 := ⟨_, rfl⟩
      rw [hW7, List.append_assoc, ← HP.out] at hs6
      rw [hW7] at hm6
      have H7 := Lib.hid (And.intro hs6 (HS2.out.2.trans hm6))
      clear hown6 hgrow6 hat6 hx6 hs6 hm6 c2 q0 q1
      refine Lib.hid ?_
      go_wp2
      go_roundw
      case rel => exact ⟨k + 1, g6, c6, by omega, by go_num, H7.out.1, H7.out.2⟩
      case measure => simp [intOf]; omega
    · obtain rfl : k = nl := by omega
      have hI : ¬ (k : Int) < k := by omega
      have H9 := Lib.hid (show StAt B gs (some ⟨g', 0, none⟩) (m + 1 + k) c' (M ++ stepsOf cost L) wr by
        have h9 := HS.out
        rw [List.take_of_length_le (by have := H.out.2.1.1; omega)] at h9
        exact h9)
      go_wp2
      exact bodyPost_ret (results_none rfl _ _ _) rfl ⟨rfl, g', c', _, H9.out, HM.out⟩
end Go.Proofs.YtlicadaecfgklaaGreatDoor.trc

/- Chapter 14 of the program: the observer that makes a trace of what it is told; nothing else that was there is written. -/
namespace Go.Proofs.YtlicadaecfgklaaGreatDoor.trc
open Go Go.ChangeShapes Go.WideShapes Go.ChangeAt Go.RowKit Go.Proofs.YtlicadaecfgklaaGreatDoor.row Go.Proofs.YtlicadaecfgklaaGreatDoor.val Go.Proofs.YtlicadaecfgklaaGreatDoor.expr Go.Proofs.YtlicadaecfgklaaGreatDoor.stm Go.Proofs.YtlicadaecfgklaaGreatDoor.blk Go.Proofs.YtlicadaecfgklaaGreatDoor.prg Go.Proofs.YtlicadaecfgklaaGreatDoor.exe Go.Proofs.YtlicadaecfgklaaGreatDoor.grow Go.Proofs.YtlicadaecfgklaaGreatDoor.rss Go.Proofs.YtlicadaecfgklaaGreatDoor.ctl Go.Proofs.YtlicadaecfgklaaGreatDoor.sets Go.Proofs.YtlicadaecfgklaaGreatDoor.wrt Go.Proofs.YtlicadaecfgklaaGreatDoor.mem Go.Proofs.YtlicadaecfgklaaGreatDoor.cst
theorem StAt.stays {B gs : Nat} {a : Option Addr} {m c : Nat} {M : List Mic} {w w' : World} (h : StAt B gs a m c M w) (hs : w.heap.size ≤ w'.heap.size) (hk : ∀ (j b : Nat), (jnB gs a m c)[j]? = some (some b) → w'.heap[b]? = w.heap[b]?) : StAt B gs a m c M w' :=
  ⟨(hk 0 gs rfl).trans h.box, rs_stays h.rows hs hk⟩
theorem JnAt.stays {B gj : Nat} {a : Option Addr} {m c : Nat} {D : List Int} {tk tl : Int} {L : List Int} {w w' : World} (h : JnAt B gj a m c D tk tl L w) (hs : w.heap.size ≤ w'.heap.size) (hk : ∀ (j b : Nat), (jnB gj a m c)[j]? = some (some b) → w'.heap[b]? = w.heap[b]?) : JnAt B gj a m c D tk tl L w' :=
  ⟨(hk 0 gj rfl).trans h.box, rs_stays h.rows hs hk⟩
/-- The trace so far: the steps, the journal, the function that adds steps; each apart. -/
structure TrP (B gs ga gj : Nat) (a : Option Addr) (m c : Nat) (a' : Option Addr) (m' c' : Nat) (D : List Int) (tk tl : Int) (M : List Mic) (L : List Int) (w : World) : Prop where
  st : StAt B gs a m c M w
  jn : JnAt B gj a' m' c' D tk tl L w
  low : B ≤ ga
  bx : ∃ ft, Box ga #[.func (.func 45) #[] #[.pointer (some ⟨gs, 0, none⟩)]] ft w
  d1 : Dj (jnB gs a m c) (jnB gj a' m' c')
  d2 : Dj (jnB gs a m c) [some ga]
  d3 : Dj (jnB gj a' m' c') [some ga]
  inv : LogInv D L
abbrev trF (gs ga gj : Nat) (a : Option Addr) (m c : Nat) (a' : Option Addr) (m' c' : Nat) : List (Option Nat) := jnB gs a m c ++ jnB gj a' m' c' ++ [some ga]
theorem trF_j {gs ga gj : Nat} {a : Option Addr} {m c : Nat} {a' : Option Addr} {m' c' : Nat} {j b : Nat} (h : (jnB gj a' m' c')[j]? = some (some b)) : ∃ i : Nat, (trF gs ga gj a m c a' m' c')[i]? = some (some b) := by
  have := List.mem_iff_getElem?.2 ⟨j, h⟩
  refine List.mem_iff_getElem?.1 ?_
  rw [List.mem_append, List.mem_append]; exact .inl (.inr this)
theorem trF_s {gs ga gj : Nat} {a : Option Addr} {m c : Nat} {a' : Option Addr} {m' c' : Nat} {j b : Nat} (h : (jnB gs a m c)[j]? = some (some b)) : ∃ i : Nat, (trF gs ga gj a m c a' m' c')[i]? = some (some b) := by
  have := List.mem_iff_getElem?.2 ⟨j, h⟩
  refine List.mem_iff_getElem?.1 ?_
  rw [List.mem_append, List.mem_append]; exact .inl (.inl this)
theorem TrP.ga_lt {B gs ga gj : Nat} {a : Option Addr} {m c : Nat} {a' : Option Addr} {m' c' : Nat} {D : List Int} {tk tl : Int} {M : List Mic} {L : List Int} {w : World} (h : TrP B gs ga gj a m c a' m' c' D tk tl M L w) : ga < w.heap.size := by
  obtain ⟨ft, hx⟩ := h.bx
  exact hx.lt
theorem TrP.one_lt {B gs ga gj : Nat} {a : Option Addr} {m c : Nat} {a' : Option Addr} {m' c' : Nat} {D : List Int} {tk tl : Int} {M : List Mic} {L : List Int} {w : World} (h : TrP B gs ga gj a m c a' m' c' D tk tl M L w) : ∀ (j b : Nat), ([some ga] : List (Option Nat))[j]? = some (some b) → b < w.heap.size
  | 0, b, e => by
    have e2 : some ga = some b := Option.some.inj e
    cases e2; exact h.ga_lt
  | j + 1, b, e => by simp at e
theorem TrP.base {B gs ga gj : Nat} {a : Option Addr} {m c : Nat} {a' : Option Addr} {m' c' : Nat} {D : List Int} {tk tl : Int} {M : List Mic} {L : List Int} {w : World} (h : TrP B gs ga gj a m c a' m' c' D tk tl M L w) : ∀ (j b : Nat), (trF gs ga gj a m c a' m' c')[j]? = some (some b) → B ≤ b ∧ b < w.heap.size := by
  intro j b e
  have hm : some b ∈ trF gs ga gj a m c a' m' c' := List.mem_iff_getElem?.2 ⟨j, e⟩
  rw [List.mem_append, List.mem_append] at hm
  rcases hm with (hm | hm) | hm
  · obtain ⟨i, hi⟩ := List.mem_iff_getElem?.1 hm
    exact ⟨h.st.rows.base i b hi, h.st.rows.bound i b hi⟩
  · obtain ⟨i, hi⟩ := List.mem_iff_getElem?.1 hm
    exact ⟨h.jn.rows.base i b hi, h.jn.rows.bound i b hi⟩
  · have : b = ga := by simpa using hm
    subst this
    exact ⟨h.low, h.ga_lt⟩
theorem TrP.stays {B gs ga gj : Nat} {a : Option Addr} {m c : Nat} {a' : Option Addr} {m' c' : Nat} {D : List Int} {tk tl : Int} {M : List Mic} {L : List Int} {w w' : World} (h : TrP B gs ga gj a m c a' m' c' D tk tl M L w) (hs : w.heap.size ≤ w'.heap.size) (hk : ∀ (j b : Nat), (trF gs ga gj a m c a' m' c')[j]? = some (some b) → w'.heap[b]? = w.heap[b]?) : TrP B gs ga gj a m c a' m' c' D tk tl M L w' := by
  have hk2 : ∀ b, some b ∈ trF gs ga gj a m c a' m' c' → w'.heap[b]? = w.heap[b]? := fun b hb => by
    obtain ⟨j, hj⟩ := List.mem_iff_getElem?.1 hb
    exact hk j b hj
  obtain ⟨ft, hx⟩ := h.bx
  refine ⟨h.st.stays hs (fun j b e => hk2 b ?_), h.jn.stays hs (fun j b e => hk2 b ?_), h.low, ⟨ft, (hk2 ga (by simp [trF])).trans hx⟩, h.d1, h.d2, h.d3, h.inv⟩
  · have := List.mem_iff_getElem?.2 ⟨j, e⟩
    rw [List.mem_append, List.mem_append]; exact .inl (.inl this)
  · have := List.mem_iff_getElem?.2 ⟨j, e⟩
    rw [List.mem_append, List.mem_append]; exact .inl (.inr this)
theorem TrP.below {B gs ga gj : Nat} {a : Option Addr} {m c : Nat} {a' : Option Addr} {m' c' : Nat} {D : List Int} {tk tl : Int} {M : List Mic} {L : List Int} {w w' : World} (h : TrP B gs ga gj a m c a' m' c' D tk tl M L w) (hb : Below w.heap.size w w') : TrP B gs ga gj a m c a' m' c' D tk tl M L w' := h.stays hb.size (fun j b e => hb.block b (h.base j b e).2)
theorem TrP.jn_moved {B gs ga gj : Nat} {a : Option Addr} {m c : Nat} {a' : Option Addr} {m' c' : Nat} {a2 : Option Addr} {m2 c2 : Nat} {D : List Int} {tk tl : Int} {M : List Mic} {L L2 : List Int} {w w' : World} (h : TrP B gs ga gj a m c a' m' c' D tk tl M L w) (mv : Mv (jnB gj a' m' c') w (jnB gj a2 m2 c2) w') (hj : JnAt B gj a2 m2 c2 D tk tl L2 w') (hi : LogInv D L2) :
    TrP B gs ga gj a m c a2 m2 c2 D tk tl M L2 w' ∧ Mv (trF gs ga gj a m c a' m' c') w (trF gs ga gj a m c a2 m2 c2) w' := by
  obtain ⟨ft, hx⟩ := h.bx
  refine ⟨⟨h.st.stays mv.size (mv_keeps mv h.d1.symm h.st.rows.bound), hj, h.low, ⟨ft, (mv_keeps mv h.d3 h.one_lt 0 ga rfl).trans hx⟩, h.d1.right mv h.st.rows.bound, h.d2, h.d3.left mv h.one_lt, hi⟩, mv_part mv (jnB gs a m c) [some ga]⟩
theorem TrP.st_moved {B gs ga gj : Nat} {a : Option Addr} {m c : Nat} {a' : Option Addr} {m' c' : Nat} {a2 : Option Addr} {m2 c2 : Nat} {D : List Int} {tk tl : Int} {M M2 : List Mic} {L : List Int} {w w' : World} (h : TrP B gs ga gj a m c a' m' c' D tk tl M L w) (mv : Mv (jnB gs a m c) w (jnB gs a2 m2 c2) w') (hs : StAt B gs a2 m2 c2 M2 w') :
    TrP B gs ga gj a2 m2 c2 a' m' c' D tk tl M2 L w' ∧ Mv (trF gs ga gj a m c a' m' c') w (trF gs ga gj a2 m2 c2 a' m' c') w' := by
  obtain ⟨ft, hx⟩ := h.bx
  refine ⟨⟨hs, h.jn.stays mv.size (mv_keeps mv h.d1 h.jn.rows.bound), h.low, ⟨ft, (mv_keeps mv h.d2 h.one_lt 0 ga rfl).trans hx⟩, h.d1.left mv h.jn.rows.bound, h.d2.left mv h.one_lt, h.d3, h.inv⟩, ?_⟩
  have h9 := mv_part mv [] (jnB gj a' m' c' ++ [some ga])
  simpa [trF] using h9
def trAt (B gs ga gj : Nat) (D : List Int) (tk tl : Int) (t : Tt) (F : List (Option Nat)) (w : World) : Prop :=
  ∃ a m c a' m' c', F = trF gs ga gj a m c a' m' c' ∧ TrP B gs ga gj a m c a' m' c' D tk tl t.M t.L w
set_option maxRecDepth 100000 in
/-- The program's observer. -/
def traceObs (B gs ga gj g : Nat) (D : List Int) (tk tl : Int) : Obs B where
  toObm := traceO D tk tl
  k := 48
  fc := #[.pointer (some ⟨ga, 0, none⟩), .pointer (some ⟨gj, 0, none⟩), .pointer (some ⟨g, 0, none⟩)]
  ent := fun _ _ => by kernel_rfl
  At := trAt B gs ga gj D tk tl
  base := fun t F w h j b e => by
    obtain ⟨a, m, c, a', m', c', rfl, hp⟩ := h
    exact hp.base j b e
  stay := fun t F w w' h hs hk => by
    obtain ⟨a, m, c, a', m', c', rfl, hp⟩ := h
    exact ⟨a, m, c, a', m', c', rfl, hp.stays hs hk⟩
theorem keep12 {w w' : World} {ga gs b g : Nat} {s : Sm} {x0 x1 x2 x3 x4 : Value} (ha : w'.heap[ga]? = w.heap[ga]?) (hb : w'.heap[b]? = w.heap[b]?) (hg : w'.heap[g]? = w.heap[g]?) (h : w.cell? ⟨ga, 0, none⟩ = some (.func (.func 45) #[] #[.pointer (some ⟨gs, 0, none⟩)]) ∧ w.cell? ⟨b, 0, none⟩ = some (.int .i64 s.k) ∧ w.cell? ⟨b, 1, none⟩ = some (.int .i64 s.v) ∧ w.cell? ⟨b, 2, none⟩ = some (.int .i64 s.n) ∧ w.cell? ⟨b, 3, none⟩ = some (.int .i64 s.o) ∧ w.cell? ⟨b, 3 + 1, none⟩ = some (.int .i64 s.a) ∧ w.cell? ⟨b, 3 + 2, none⟩ = some (.int .i64 s.b) ∧ w.cell? ⟨g, 0, none⟩ = some x0 ∧ w.cell? ⟨g, 1, none⟩ = some x1 ∧ w.cell? ⟨g, 2, none⟩ = some x2 ∧ w.cell? ⟨g, 3, none⟩ = some x3 ∧ w.cell? ⟨g, 4, none⟩ = some x4) :
    w'.cell? ⟨ga, 0, none⟩ = some (.func (.func 45) #[] #[.pointer (some ⟨gs, 0, none⟩)]) ∧ w'.cell? ⟨b, 0, none⟩ = some (.int .i64 s.k) ∧ w'.cell? ⟨b, 1, none⟩ = some (.int .i64 s.v) ∧ w'.cell? ⟨b, 2, none⟩ = some (.int .i64 s.n) ∧ w'.cell? ⟨b, 3, none⟩ = some (.int .i64 s.o) ∧ w'.cell? ⟨b, 3 + 1, none⟩ = some (.int .i64 s.a) ∧ w'.cell? ⟨b, 3 + 2, none⟩ = some (.int .i64 s.b) ∧ w'.cell? ⟨g, 0, none⟩ = some x0 ∧ w'.cell? ⟨g, 1, none⟩ = some x1 ∧ w'.cell? ⟨g, 2, none⟩ = some x2 ∧ w'.cell? ⟨g, 3, none⟩ = some x3 ∧ w'.cell? ⟨g, 4, none⟩ = some x4 := by
  have e : ∀ (q j : Nat), w'.heap[q]? = w.heap[q]? → w'.cell? ⟨q, j, none⟩ = w.cell? ⟨q, j, none⟩ := fun q j h => World.cell?_of_block (a := ⟨q, j, none⟩) h
  rw [e ga 0 ha, e b 0 hb, e b 1 hb, e b 2 hb, e b 3 hb, e b (3 + 1) hb, e b (3 + 2) hb, e g 0 hg, e g 1 hg, e g 2 hg, e g 3 hg, e g 4 hg]
  exact h
theorem nl_small {w : World} {B nl cl : Nat} {al : Option Addr} {Q : List Wt} (h : w.ownsRow B 78 2 (.slice al nl cl) nl (writesC Q)) (hq : Q.length ≤ 4) : nl ≤ 8 := by
  have h1 := h.1
  rw [writesC_len] at h1; omega
theorem far_of {w w5 w6 : World} {nl cl N : Nat} {al : Option Addr} {Q : List Wt} {gs ga gj : Nat} {a : Option Addr} {m c : Nat} {a' : Option Addr} {m' c' : Nat} (h : w6.ownsRow w5.heap.size 78 2 (.slice al nl cl) nl (writesC Q)) (hN : N ≤ w5.heap.size) (hw : w.heap.size ≤ N) (hl : ∀ (j b : Nat), (trF gs ga gj a m c a' m' c')[j]? = some (some b) → b < w.heap.size) :
    ∀ b off, al = some ⟨b, off, none⟩ → ∀ j : Nat, (jnB gs a m c)[j]? ≠ some (some b) := by
  intro b off e j hj
  subst e
  have h1 := (h.lt b rfl).1
  obtain ⟨i, hi⟩ := trF_s (ga := ga) (gj := gj) (a' := a') (m' := m') (c' := c') hj
  have := hl i b hi
  omega
/-- What the observer's call makes. -/
def TellOut (B gs ga gj : Nat) (a : Option Addr) (m c : Nat) (a' : Option Addr) (m' c' : Nat) (D : List Int) (tk tl : Int) (M : List Mic) (L : List Int) (w : World) (e : Ending) (w' : World) : Prop :=
  e = .returned (.tuple #[]) ∧ ∃ a2 m2 c2 a3 m3 c3, TrP B gs ga gj a2 m2 c2 a3 m3 c3 D tk tl M L w' ∧ Mv (trF gs ga gj a m c a' m' c') w (trF gs ga gj a2 m2 c2 a3 m3 c3) w'
set_option maxHeartbeats 16000000 in
set_option maxRecDepth 100000 in
theorem impl_tell (B gs ga gj g : Nat) (a : Option Addr) (m c0 : Nat) (a' : Option Addr) (m' c' : Nat) (D : List Int) (tk tl : Int) (M : List Mic) (L : List Int) (w : World) (h : TrP B gs ga gj a m c0 a' m' c' D tk tl M L w) (hD : Vrs D) (hDl : D.length ≤ 8) (htl : 0 ≤ tl ∧ tl ≤ 24) (hM : M.length ≤ 60000)
    (c : PCf) (gv cv : Nat) (a1 : Option Addr) (n1 c1 : Nat) (a2 : Option Addr) (n2 c2 : Nat) (x : Sx) (hV : Row w (some ⟨gv, 0, none⟩) 8 x.V) (hS : x.S.length = n1) (hn1 : n1 ≤ 100000)
    (hx : Box g #[.slice (some ⟨gv, 0, none⟩) 8 cv, .slice a1 n1 c1, .slice a2 n2 c2, fnS c.gu c.gz, .func (.func 48) #[] #[.pointer (some ⟨ga, 0, none⟩), .pointer (some ⟨gj, 0, none⟩), .pointer (some ⟨g, 0, none⟩)]] 87 w) (hgF : ∀ j : Nat, (trF gs ga gj a m c0 a' m' c')[j]? ≠ some (some g))
    (hvF : ∀ j : Nat, (trF gs ga gj a m c0 a' m' c')[j]? ≠ some (some gv)) (s : Sm) (hs : stOk s = true) (v : Int) (HCT : CostTab w) :
    Calls Tryz.prog 48 #[.agg (stmA s), .int .i64 v, .pointer (some ⟨ga, 0, none⟩), .pointer (some ⟨gj, 0, none⟩), .pointer (some ⟨g, 0, none⟩)] w
      (TellOut B gs ga gj a m c0 a' m' c' D tk tl (M ++ stepsOf (kindT s.k) (addP D tk tl s x v L)) (addL D s L) w) := by
  obtain ⟨W, hW⟩ : ∃ W, w.alloc (.cells (stmA s) 89) = W := ⟨_, rfl⟩
  have hbW : Below w.heap.size w W := by rw [← hW]; exact below_new w _
  have hbx : Box w.heap.size (stmA s) 89 W := by rw [← hW]; exact Box.new w _ _
  have hbD : Below w.heap.size w W.drew := hbW.drew
  have HW := Lib.hid hW
  have hgl := hx.lt
  have hal := h.ga_lt
  obtain ⟨ft, hax⟩ := h.bx
  have hxD := hx.below hbD
  have haD := hax.below hbD
  have hbD2 : Box w.heap.size (stmA s) 89 W.drew := hbx
  have hlD := hbD2.lt
  have cS : W.drew.cell? ⟨ga, 0, none⟩ = some (.func (.func 45) #[] #[.pointer (some ⟨gs, 0, none⟩)]) ∧ W.drew.cell? ⟨w.heap.size, 0, none⟩ = some (.int .i64 s.k) ∧ W.drew.cell? ⟨w.heap.size, 1, none⟩ = some (.int .i64 s.v) ∧ W.drew.cell? ⟨w.heap.size, 2, none⟩ = some (.int .i64 s.n) ∧ W.drew.cell? ⟨w.heap.size, 3, none⟩ = some (.int .i64 s.o) ∧ W.drew.cell? ⟨w.heap.size, 3 + 1, none⟩ = some (.int .i64 s.a) ∧ W.drew.cell? ⟨w.heap.size, 3 + 2, none⟩ = some (.int .i64 s.b) ∧ W.drew.cell? ⟨g, 0, none⟩ = some (.slice (some ⟨gv, 0, none⟩) 8 cv) ∧ W.drew.cell? ⟨g, 1, none⟩ = some (.slice a1 n1 c1) ∧ W.drew.cell? ⟨g, 2, none⟩ = some (.slice a2 n2 c2) ∧ W.drew.cell? ⟨g, 3, none⟩ = some (fnS c.gu c.gz) ∧ W.drew.cell? ⟨g, 4, none⟩ = some (.func (.func 48) #[] #[.pointer (some ⟨ga, 0, none⟩), .pointer (some ⟨gj, 0, none⟩), .pointer (some ⟨g, 0, none⟩)]) :=
    ⟨haD.cell 0, hbD2.cell 0, hbD2.cell 1, hbD2.cell 2, hbD2.cell 3, hbD2.cell 4, hbD2.cell 5, hxD.cell 0, hxD.cell 1, hxD.cell 2, hxD.cell 3, hxD.cell 4⟩
  have HCO := Lib.hid (show ∀ w', Below w.heap.size w w' → Calls Tryz.prog 49 #[.agg (stmA s)] w' (BelI w' (kindT s.k)) from fun w' hb => by
    have h9 := impl_stmtcost s w' (HCT.below hb)
    rw [show costF s = kindT s.k by unfold costF; rw [if_pos hs]; rfl] at h9
    exact h9)
  have HP := Lib.hid (h.below hbD)
  have HBD := Lib.hid hbD
  have HV := Lib.hid (hV.below hbD)
  have HSW := Lib.hid (show ∀ w', JnAt B gj a' m' c' D tk tl L w' → Row w' (some ⟨gv, 0, none⟩) 8 x.V → Calls Tryz.prog 50 #[.pointer (some ⟨gj, 0, none⟩), .agg #[.slice (some ⟨gv, 0, none⟩) 8 cv, .slice a1 n1 c1, .slice a2 n2 c2, fnS c.gu c.gz, .func (.func 48) #[] #[.pointer (some ⟨ga, 0, none⟩), .pointer (some ⟨gj, 0, none⟩), .pointer (some ⟨g, 0, none⟩)]], .agg (stmA s), .int .i64 v] w' (AsgOut B gj a' m' c' D tk tl (addL D s L) (addP D tk tl s x v L) w') from
    fun w' hj hr => impl_stmtwrites B gj a' m' c' D tk tl L w' hj hD hDl h.inv htl gv cv a1 n1 c1 a2 n2 c2 _ _ _ _ x hr hS hn1 s hs v)
  have HAD := Lib.hid (show ∀ w' al nl cl, StAt B gs a m c0 M w' → WriteRow w' al nl (addP D tk tl s x v L) → nl ≤ 8 → (∀ b off, al = some ⟨b, off, none⟩ → ∀ j : Nat, (jnB gs a m c0)[j]? ≠ some (some b)) → Calls Tryz.prog 45 #[.int .i64 (kindT s.k), .slice al nl cl, .pointer (some ⟨gs, 0, none⟩)] w' (AddOut B gs a m c0 (M ++ stepsOf (kindT s.k) (addP D tk tl s x v L)) w') from
    fun w' al nl cl hst hwr hnl hf => impl_add B gs a m c0 M w' hst (by omega) (kindT s.k) al nl cl _ hwr hnl hf)
  have HIN := Lib.hid (add_inv h.inv s)
  have HF := Lib.hid (And.intro hgF hvF)
  have HLT := Lib.hid (show ∀ (j b : Nat), (trF gs ga gj a m c0 a' m' c')[j]? = some (some b) → b < w.heap.size from fun j b e => (h.base j b e).2)
  have HPL := Lib.hid (addP_len D tk tl s x v L)
  clear h hD hDl htl hM hV hS hn1 hx hgF hvF hs HCT hW hbW hbx hbD hax hxD haD hbD2
  go_enter Tryz.func48, Tryz.ntmps48
  go_wp2
  rw [HW.out]
  go_region_held3 (fun w' => w'.cell? ⟨ga, 0, none⟩ = some (.func (.func 45) #[] #[.pointer (some ⟨gs, 0, none⟩)]) ∧ w'.cell? ⟨w.heap.size, 0, none⟩ = some (.int .i64 s.k) ∧ w'.cell? ⟨w.heap.size, 1, none⟩ = some (.int .i64 s.v) ∧ w'.cell? ⟨w.heap.size, 2, none⟩ = some (.int .i64 s.n) ∧ w'.cell? ⟨w.heap.size, 3, none⟩ = some (.int .i64 s.o) ∧ w'.cell? ⟨w.heap.size, 3 + 1, none⟩ = some (.int .i64 s.a) ∧ w'.cell? ⟨w.heap.size, 3 + 2, none⟩ = some (.int .i64 s.b) ∧ w'.cell? ⟨g, 0, none⟩ = some (.slice (some ⟨gv, 0, none⟩) 8 cv) ∧ w'.cell? ⟨g, 1, none⟩ = some (.slice a1 n1 c1) ∧ w'.cell? ⟨g, 2, none⟩ = some (.slice a2 n2 c2) ∧ w'.cell? ⟨g, 3, none⟩ = some (fnS c.gu c.gz) ∧ w'.cell? ⟨g, 4, none⟩ = some (.func (.func 48) #[] #[.pointer (some ⟨ga, 0, none⟩), .pointer (some ⟨gj, 0, none⟩), .pointer (some ⟨g, 0, none⟩)]))
    (first
      | (exact cS)
      | (exact sA)
      | (exact sB)
      | (exact sC))
    (first
      | (go_at_call 49; (with_reducible refine (HCO.out _ HBD.out).mono ?_); rintro e w5 ⟨rfl, hb5⟩; have sA := keep12 (hb5.block ga (by have := HBD.out.size; omega)) (hb5.block w.heap.size hlD) (hb5.block g (by have := HBD.out.size; omega)) cS; have H5 := Lib.hid hb5)
      | (go_at_call 50; ((with_reducible refine (HSW.out _ (HP.out.jn.below H5.out) (HV.out.below H5.out)).mono ?_); rintro e w6 ⟨al, nl, cl, a3, m3, c3, rfl, ho6, hj6, hm6⟩; have H6 := Lib.hid (And.intro ho6 ((HP.out.below H5.out).jn_moved hm6 hj6 HIN.out)); have hs65 := hm6.size; have sB := keep12 (mv_keeps hm6 (HP.out.below H5.out).d3 (HP.out.below H5.out).one_lt 0 ga rfl) (hm6.block w.heap.size (Nat.lt_of_lt_of_le hlD H5.out.size) (fun j e => by obtain ⟨i, hi⟩ := trF_j (gs := gs) (ga := ga) (a := a) (m := m) (c := c0) e; have := HLT.out i w.heap.size hi; omega)) (hm6.block g (by have := HBD.out.size; have := H5.out.size; omega) (fun j e => by obtain ⟨i, hi⟩ := trF_j (gs := gs) (ga := ga) (a := a) (m := m) (c := c0) e; exact HF.out.1 i hi)) sA))
      | (go_at_call 45; ((with_reducible refine (HAD.out _ al nl cl H6.out.2.1.st (GRow.of_own writeC_len (by decide) H6.out.1) (nl_small H6.out.1 HPL.out) (far_of H6.out.1 H5.out.size HBD.out.size HLT.out)).mono ?_); rintro e w7 ⟨rfl, g2, c2', m2, hst7, hm7⟩; have H7 := Lib.hid (H6.out.2.1.st_moved hm7 hst7); have sC := keep12 (mv_keeps hm7 H6.out.2.1.d2 H6.out.2.1.one_lt 0 ga rfl) (hm7.block w.heap.size (Nat.lt_of_lt_of_le (Nat.lt_of_lt_of_le hlD H5.out.size) hs65) (fun j e => by obtain ⟨i, hi⟩ := trF_s (ga := ga) (gj := gj) (a' := a') (m' := m') (c' := c') e; have := HLT.out i w.heap.size hi; omega)) (hm7.block g (by have := HBD.out.size; have := H5.out.size; omega) (fun j e => by obtain ⟨i, hi⟩ := trF_s (ga := ga) (gj := gj) (a' := a') (m' := m') (c' := c') e; exact HF.out.1 i hi)) sB)))
  all_goals
    have H9 := Lib.hid (And.intro H7.out.1 ((Mv.of_below (trF gs ga gj a m c0 a' m' c') (below_then HBD.out H5.out)).trans (H6.out.2.2.trans H7.out.2)))
    clear hst7 hm7 hm6 ho6 hj6 sA sB sC cS
    refine Lib.hid ?_
    go_wp2
    exact ⟨_, results_none rfl _ _ _, rfl, _, _, _, _, _, _, H9.out.1, H9.out.2⟩
end Go.Proofs.YtlicadaecfgklaaGreatDoor.trc
