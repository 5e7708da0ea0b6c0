/- Several texts in one: VJrnC. -/
import Derived.Test.YtmgeecdgebemdaaGreatDoorGSigV42
import Derived.Test.YtmgeecdgebemdaaGreatDoorGSigV35
import Derived.Deep.RegionLaw
import Derived.Deep.RegionHeld3

/- Chapter 14 of the program: the writes of a statement that is told, the steps that are added; nothing else that was there is written. -/
namespace Go.Proofs.YtmgeecdgebemdaaGreatDoor.trc
open Go Go.ChangeShapes Go.WideShapes Go.ChangeAt Go.RowKit Go.Proofs.YtmgeecdgebemdaaGreatDoor.row Go.Proofs.YtmgeecdgebemdaaGreatDoor.val Go.Proofs.YtmgeecdgebemdaaGreatDoor.expr Go.Proofs.YtmgeecdgebemdaaGreatDoor.stm Go.Proofs.YtmgeecdgebemdaaGreatDoor.blk Go.Proofs.YtmgeecdgebemdaaGreatDoor.prg Go.Proofs.YtmgeecdgebemdaaGreatDoor.exe Go.Proofs.YtmgeecdgebemdaaGreatDoor.grow Go.Proofs.YtmgeecdgebemdaaGreatDoor.rss Go.Proofs.YtmgeecdgebemdaaGreatDoor.ctl Go.Proofs.YtmgeecdgebemdaaGreatDoor.sets Go.Proofs.YtmgeecdgebemdaaGreatDoor.wrt Go.Proofs.YtmgeecdgebemdaaGreatDoor.mem
set_option maxHeartbeats 8000000 in
set_option maxRecDepth 100000 in
/-- The writes of a statement that is told. -/
theorem impl_stmtwrites (B gj : Nat) (a : Option Addr) (m c : Nat) (D : List Int) (tk tl : Int) (L : List Int) (w : World) (h : JnAt B gj a m c D tk tl L w) (hD : Vrs D) (hDl : D.length ≤ 8) (hL : LogInv D L) (htl : 0 ≤ tl ∧ tl ≤ 24)
    (gv cv : Nat) (a1 : Option Addr) (n1 c1 : Nat) (a2 : Option Addr) (n2 c2 : Nat) (fk1 fk2 : Fn) (fc1 fc2 : Array Value) (x : Sx) (hV : Row w (some ⟨gv, 0, none⟩) 8 x.V) (hS : x.S.length = n1) (hn1 : n1 ≤ 100000) (s : Sm) (hs : stOk s = true) (v : Int) :
    Calls Tryz.prog 83 #[.pointer (some ⟨gj, 0, none⟩), .agg #[.slice (some ⟨gv, 0, none⟩) 8 cv, .slice a1 n1 c1, .slice a2 n2 c2, .func fk1 #[] fc1, .func fk2 #[] fc2], .agg (stmA s), .int .i64 v] w (AsgOut B gj a m c D tk tl (addL D s L) (addP D tk tl s x v L) w) := by
  obtain ⟨W, hW⟩ : ∃ W, (w.alloc (.cells #[.slice (some ⟨gv, 0, none⟩) 8 cv, .slice a1 n1 c1, .slice a2 n2 c2, .func fk1 #[] fc1, .func fk2 #[] fc2] 110)).alloc (.cells (stmA s) 112) = W := ⟨_, rfl⟩
  have hbW : Below w.heap.size w W := by rw [← hW]; exact below_then (below_new w _) (below_new _ _)
  have hx1 : Box w.heap.size #[.slice (some ⟨gv, 0, none⟩) 8 cv, .slice a1 n1 c1, .slice a2 n2 c2, .func fk1 #[] fc1, .func fk2 #[] fc2] 110 W := by rw [← hW]; exact (Box.new w _ _).alloc _
  have hx2 : Box (w.heap.size + 1) (stmA s) 112 W := by
    have h9 := Box.new (w.alloc (.cells #[.slice (some ⟨gv, 0, none⟩) 8 cv, .slice a1 n1 c1, .slice a2 n2 c2, .func fk1 #[] fc1, .func fk2 #[] fc2] 110)) (stmA s) 112
    rw [World.size_alloc] at h9
    rw [← hW]; exact h9
  obtain ⟨rw0, hrw⟩ : ∃ r : Bool, r = true ↔ wr s := by
    rcases Classical.em (wr s) with h | h
    · exact ⟨true, by simp [h]⟩
    · exact ⟨false, by simp [h]⟩
  have HWR := Lib.hid (show ∀ w', Calls Tryz.prog 142 #[.agg (stmA s)] w' (BelB w' rw0) from fun w' => impl_writes s rw0 hrw w')
  have H0 := Lib.hid (And.intro hx1 (And.intro hx2 (And.intro hbW (h.below hbW))))
  cases rw0
  · have hno : ¬ (s.k = 1 ∨ s.k = 2) := fun e => by have := hrw.2 e; cases this
    have HL2 := Lib.hid (show addL D s L = L by unfold addL; rw [if_neg hno])
    by_cases h3 : s.k = 3
    · obtain ⟨Q, hQ⟩ : ∃ Q : List Wt, (if tl + (n1 : Int) < 24 then [⟨25 + (tl + n1), v⟩] else []) = Q := ⟨_, rfl⟩
      have HP2 := Lib.hid (show addP D tk tl s x v L = Q by unfold addP; rw [if_neg hno, if_pos h3, hS, hQ])
      have HSE := Lib.hid (show ∀ w', JnAt B gj a m c D tk tl L w' → Calls Tryz.prog 144 #[.pointer (some ⟨gj, 0, none⟩), .int .i64 n1, .int .i64 v] w' (AsgOut B gj a m c D tk tl L Q w') from fun w' hj => by rw [← hQ]; exact impl_sending B gj a m c D tk tl L w' hj htl n1 hn1 v)
      have k0 : W.cell? ⟨w.heap.size + 1, 0, none⟩ = some (.int .i64 3) := by rw [← h3]; exact hx2.cell 0
      have HB0 := Lib.hid hbW
      clear hQ h hD hDl hL htl hV hS hn1 hs hbW hx1 hrw hno h3
      rw [HL2.out, HP2.out]
      go_enter Tryz.func83, Tryz.ntmps83
      go_wp2_with (first
        | (refine wpList_load_row rfl 112 _ rfl (w.heap.size + 1) rfl _ _ _ _ H0.out.2.1 Tryz.underlying112 rfl (by kernel_rfl) ?_)
        | (go_at_call 142; (with_reducible refine (HWR.out _).mono ?_); rintro e w2 ⟨rfl, hb2⟩; refine Hid.out ?_))
      have k02 : w2.cell? ⟨w.heap.size + 1, 0, none⟩ = some (.int .i64 3) := (hb2.cell (p := ⟨w.heap.size + 1, 0, none⟩) hx2.lt).trans k0
      have k12 : w2.cell? ⟨w.heap.size, 1, none⟩ = some (.slice a1 n1 c1) := (H0.out.1.below hb2).cell 1
      have H2 := Lib.hid (And.intro (H0.out.2.2.2.below hb2) (below_then' HB0.out hb2))
      clear hb2 k0
      refine Lib.hid ?_
      go_wp2_with (go_at_call 144; (with_reducible refine (HSE.out _ H2.out.1).mono ?_); rintro e w3 ⟨al, nl, cl, a', m', c', rfl, ho3, hj3, hm3⟩; refine Hid.out ?_)
      have H3 := Lib.hid (And.intro (ho3.mono H2.out.2.size) (And.intro hj3 ((Mv.of_below (jnB gj a m c) H2.out.2).trans hm3)))
      clear ho3 hj3 hm3
      refine Lib.hid ?_
      go_wp2
      go_ret
      exact ⟨_, _, _, _, _, _, rfl, H3.out⟩
    · have HP2 := Lib.hid (show addP D tk tl s x v L = [] by unfold addP; rw [if_neg hno, if_neg h3])
      have k0 : W.cell? ⟨w.heap.size + 1, 0, none⟩ = some (.int .i64 s.k) := hx2.cell 0
      have h3b : (s.k == 3) = false := by simpa using h3
      have HB0 := Lib.hid hbW
      clear h hD hDl hL htl hV hS hn1 hs hbW hx1 hrw hno h3
      rw [HL2.out, HP2.out]
      go_enter Tryz.func83, Tryz.ntmps83
      go_wp2_with (first
        | (refine wpList_load_row rfl 112 _ rfl (w.heap.size + 1) rfl _ _ _ _ H0.out.2.1 Tryz.underlying112 rfl (by kernel_rfl) ?_)
        | (go_at_call 142; (with_reducible refine (HWR.out _).mono ?_); rintro e w2 ⟨rfl, hb2⟩; refine Hid.out ?_))
      have k02 : w2.cell? ⟨w.heap.size + 1, 0, none⟩ = some (.int .i64 s.k) := (hb2.cell (p := ⟨w.heap.size + 1, 0, none⟩) hx2.lt).trans k0
      have H2 := Lib.hid (And.intro (H0.out.2.2.2.below hb2) (below_then' HB0.out hb2))
      clear hb2 k0
      refine Lib.hid ?_
      go_wp2
      go_ret
      exact ⟨_, _, _, _, _, _, rfl, World.ownsRow_nil _ _ _ _, H2.out.1, Mv.of_below _ H2.out.2⟩
  · have hyes : s.k = 1 ∨ s.k = 2 := hrw.1 rfl
    have HL2 := Lib.hid (show addL D s L = asgL D s.v L by unfold addL; rw [if_pos hyes])
    obtain ⟨u, hu, hu8⟩ : ∃ u : Nat, s.v = u ∧ u < 8 := by have := st_var hs hyes; exact ⟨s.v.toNat, by omega, by omega⟩
    obtain ⟨ow, how⟩ : ∃ ow, x.V.getD u 0 = ow := ⟨_, rfl⟩
    have HP2 := Lib.hid (show addP D tk tl s x v L = asgP D tk tl ow u v L by unfold addP; rw [if_pos hyes, hu, show ((u : Int)).toNat = u by omega, how])
    have HAS := Lib.hid (show ∀ w', JnAt B gj a m c D tk tl L w' → Calls Tryz.prog 143 #[.pointer (some ⟨gj, 0, none⟩), .int .i64 u, .int .i64 ow, .int .i64 v] w' (AsgOut B gj a m c D tk tl (asgL D u L) (asgP D tk tl ow u v L) w') from fun w' hj => impl_assignment B gj a m c D tk tl L w' hj hD hDl hL u ow v)
    obtain ⟨b, off, y, he, hbl, hy, hcy⟩ := hV.2 u hu8
    cases he
    obtain rfl : y = ow := by rw [← how, List.getD_eq_getElem?_getD, hy]; rfl
    have hv2 : Below w.heap.size w W := hbW
    have cv0 : W.cell? ⟨gv, 0 + u, none⟩ = some (.int .i64 y) := (hbW.cell (p := ⟨gv, 0 + u, none⟩) hbl).trans hcy
    rw [Nat.zero_add] at cv0
    have hu0 : (0 : Int) ≤ (u : Int) := by omega
    have hu9 : (u : Int) < 8 := by omega
    have hgvl : gv < W.heap.size := Nat.lt_of_lt_of_le hbl hbW.size
    have HB0 := Lib.hid hbW
    have HUE := Lib.hid hu
    clear h hD hDl hL htl hV hS hn1 hs hbW hx1 hrw hyes hy hcy hv2 how
    rw [HL2.out, HP2.out, hu]
    clear hu
    go_enter Tryz.func83, Tryz.ntmps83
    go_wp2_with (first
      | (refine wpList_load_row rfl 112 _ rfl (w.heap.size + 1) rfl _ _ _ _ H0.out.2.1 Tryz.underlying112 rfl (by kernel_rfl) ?_)
      | (go_at_call 142; (with_reducible refine (HWR.out _).mono ?_); rintro e w2 ⟨rfl, hb2⟩; refine Hid.out ?_))
    have k12 : w2.drew.cell? ⟨w.heap.size + 1, 1, none⟩ = some (.int .i64 (u : Int)) := by rw [← HUE.out]; exact (H0.out.2.1.below hb2).cell 1
    have k02 : w2.drew.cell? ⟨w.heap.size, 0, none⟩ = some (.slice (some ⟨gv, 0, none⟩) 8 cv) := (H0.out.1.below hb2).cell 0
    have kv2 : w2.drew.cell? ⟨gv, u, none⟩ = some (.int .i64 y) := (hb2.cell (p := ⟨gv, u, none⟩) hgvl).trans cv0
    have hbD := below_then hb2 (Below.drew (Below.refl _ w2))
    have H2 := Lib.hid (And.intro (H0.out.2.2.2.below hbD) (below_then' HB0.out hbD))
    clear hb2 hbD cv0
    refine Lib.hid ?_
    go_wp2
    go_region_law (first
      | (go_simp; go_at_call 143; (with_reducible refine (HAS.out _ H2.out.1).mono ?_); rintro e w3 ⟨al, nl, cl, a', m', c', rfl, ho3, hj3, hm3⟩))
    all_goals
      have H3 := Lib.hid (And.intro (ho3.mono H2.out.2.size) (And.intro hj3 ((Mv.of_below (jnB gj a m c) H2.out.2).trans hm3)))
      clear ho3 hj3 hm3
      refine Lib.hid ?_
      go_wp2
      go_ret
      exact ⟨_, _, _, _, _, _, rfl, H3.out⟩
theorem wrow_moved {w w' : World} {a : Option Addr} {n : Nat} {L : List Wt} (h : WriteRow w a n L) (hs : w.heap.size ≤ w'.heap.size) (hk : ∀ b off, a = some ⟨b, off, none⟩ → w'.heap[b]? = w.heap[b]?) : WriteRow w' a n L :=
  ⟨h.1, fun k hkn => by
    obtain ⟨b, off, s, rfl, hlt, hs', hr⟩ := h.2 k hkn
    exact ⟨b, off, s, rfl, Nat.lt_of_lt_of_le hlt hs, hs', fun j v hv => (World.cell?_of_block (a := ⟨b, off + k * 2 + j, none⟩) (hk b off rfl)).trans (hr j v hv)⟩⟩
def stepsOf (cost : Int) (L : List Wt) : List Mic := ⟨cost, -1, 0⟩ :: L.map fun p => wrM p.p p.v
theorem stepsOf_snoc {cost : Int} {L : List Wt} {k : Nat} {p : Wt} (h : L[k]? = some p) : stepsOf cost (L.take (k + 1)) = stepsOf cost (L.take k) ++ [wrM p.p p.v] := by
  unfold stepsOf
  rw [List.take_add_one, h]
  simp
/-- The steps are these now. -/
def AddOut (B gs : Nat) (a : Option Addr) (m c : Nat) (M : List Mic) (w : World) (e : Ending) (w' : World) : Prop :=
  e = .returned (.tuple #[]) ∧ ∃ g' c' m', StAt B gs (some ⟨g', 0, none⟩) m' c' M w' ∧ Mv (jnB gs a m c) w (jnB gs (some ⟨g', 0, none⟩) m' c') w'
set_option maxHeartbeats 8000000 in
set_option maxRecDepth 100000 in
/-- The steps of a statement are added: its own, and one for each write. -/
theorem impl_add (B gs : Nat) (a : Option Addr) (m c : Nat) (M : List Mic) (w : World) (h : StAt B gs a m c M w) (hM : M.length ≤ 90000) (cost : Int) (al : Option Addr) (nl cl : Nat) (L : List Wt) (hL : WriteRow w al nl L) (hl : nl ≤ 8) (hfar : ∀ b off, al = some ⟨b, off, none⟩ → ∀ j : Nat, (jnB gs a m c)[j]? ≠ some (some b)) :
    Calls Tryz.prog 77 #[.int .i64 cost, .slice al nl cl, .pointer (some ⟨gs, 0, none⟩)] w
      (AddOut B gs a m c (M ++ stepsOf cost L) w) := by
  obtain ⟨i0, hi, hz0, hz1, hz2⟩ := info_parts infoMic
  have hm := h.len
  have hm9 : m ≤ 90000 := by omega
  have hB := h.low
  have c0 : w.cell? ⟨gs, 0, none⟩ = some (.slice a m c) := h.box.cell 0
  have ho : w.ownsRow B 98 3 (.slice a m c) m (microsC M) := h.rows.own 0 _ rfl
  have HO := Lib.hid ho
  have H := Lib.hid (And.intro h (And.intro hL hfar))
  clear h hL hfar ho
  go_enter Tryz.func77, Tryz.ntmps77
  go_wp2_with (at_builtin; refine wpList_append_own_at _ rfl _ _ 52 rfl B 98 i0 (.agg #[.int .i64 0, .int .i64 0, .int .i64 0]) 3 24 Tryz.underlying52 hi hz0 hz1 hz2 rfl (by decide) _ m _ rfl (HO.out.kept (World.grownBy_alloc w _ none) (by cases a <;> simp [Value.ownBlock])) ⟨w.heap.size, 0, none⟩ 1 1 [.int .i64 cost, .int .i64 (-1), .int .i64 0] rfl rfl (World.news_of_block (cs := #[.int .i64 cost, .int .i64 (-1), .int .i64 0]) (t := 98) (fr := (0, 0)) (heap_alloc_new w _)) (by simp [Value.oneCell']) (by unfold maxLen; omega) (by omega) (by simp; omega) ?_; intro v4 w4 hown4 hgrow4 _ hat4; refine Hid.out ?_)
  obtain ⟨g4, c4, rfl, hx4, hs4, hm4⟩ := H.out.1.step (x := ⟨cost, -1, 0⟩) hown4 hgrow4 hat4
  have d0 : w4.cell? ⟨gs, 0, none⟩ = some (.slice a m c) := hx4.cell 0
  have f0 : w4.frozen? ⟨gs, 0, none⟩ = false := hx4.frozen 0
  obtain ⟨W5, hW5⟩ : ∃ W5, w4.setCell ⟨gs, 0, none⟩ (.slice (some ⟨g4, 0, none⟩) (m + 1) c4) = W5 := ⟨_, rfl⟩
  rw [hW5] at hs4 hm4
  have H5 := Lib.hid (show StAt B gs (some ⟨g4, 0, none⟩) (m + 1) c4 (M ++ stepsOf cost (L.take 0)) W5 ∧ Mv (jnB gs a m c) w (jnB gs (some ⟨g4, 0, none⟩) (m + 1) c4) W5 from ⟨hs4, hm4⟩)
  clear hown4 hgrow4 hat4 hx4 hs4 hm4 c0
  refine Lib.hid ?_
  go_wp2
  clear hW5 d0 f0
  go_loopw [6, 14] (fun _ i wr => ∃ (k g' c' : Nat), k ≤ nl ∧ i = .int .i64 k ∧ Hid (StAt B gs (some ⟨g', 0, none⟩) (m + 1 + k) c' (M ++ stepsOf cost (L.take k)) wr) ∧ Hid (Mv (jnB gs a m c) w (jnB gs (some ⟨g', 0, none⟩) (m + 1 + k) c') wr)) (fun _ i _ => nl - (intOf i).toNat)
  case atStart => exact ⟨0, g4, c4, Nat.zero_le _, rfl, H5.out.1, H5.out.2⟩
  case round =>
    obtain ⟨k, g', c', hk, rfl, HS, HM⟩ := hrel
    by_cases hlt : k < nl
    · have hI : (k : Int) < nl := by omega
      have hfar2 := H.out.2.2
      obtain ⟨b, off, p, rfl, hlb, hp, hr⟩ := (wrow_moved H.out.2.1 HM.out.size (fun b off e => HM.out.block b (by
        obtain ⟨b', off', _, e', hl', _⟩ := H.out.2.1.2 k hlt
        rw [e] at e'; cases e'; exact hl') (H.out.2.2 b off e))).2 k hlt
      have HP := Lib.hid (stepsOf_snoc (cost := cost) hp)
      obtain ⟨pp, pv⟩ := p
      have HR := Lib.hid hr
      have HOK := Lib.hid (show wr.ownsRow B 98 3 (.slice (some ⟨g', 0, none⟩) (m + 1 + k) c') (m + 1 + k) (microsC (M ++ stepsOf cost (L.take k))) from HS.out.rows.own 0 _ rfl)
      have c0 : wr.cell? ⟨gs, 0, none⟩ = some (.slice (some ⟨g', 0, none⟩) (m + 1 + k) c') := HS.out.box.cell 0
      have hgl : gs < wr.heap.size := HS.out.rows.lt
      have hBw := HS.out.low
      clear hr hp hfar2
      go_wp2_with (first
        | (refine wpList_load_mid rfl 100 _ rfl b (off + k * 2) rfl (writeC ⟨pp, pv⟩) _ HR.out Tryz.underlying100 rfl (by kernel_rfl) ?_)
        | (refine wpList_store_box rfl 100 _ _ rfl wr.heap.size _ _ (Box.new wr _ _) #[.int .i64 pp, .int .i64 pv] rfl rfl rfl (by kernel_rfl) (by simp [Value.oneCell']) ?_; intro w2 hx2 hg2; refine Hid.out ?_))
      have hb2 : Below wr.heap.size wr w2 := (below_new wr _).grown hg2 (by simp) (fun j hj => by cases hj; exact Nat.le_refl _)
      have hgl2 : gs < w2.heap.size := Nat.lt_of_lt_of_le hgl hb2.size
      have q0 : w2.drew.cell? ⟨wr.heap.size, 0, none⟩ = some (.int .i64 pp) := hx2.cell 0
      have q1 : w2.drew.cell? ⟨wr.heap.size, 1, none⟩ = some (.int .i64 pv) := hx2.cell 1
      have c2 : w2.drew.cell? ⟨gs, 0, none⟩ = some (.slice (some ⟨g', 0, none⟩) (m + 1 + k) c') := (hb2.cell (p := ⟨gs, 0, none⟩) hgl).trans c0
      have HS2 := Lib.hid (And.intro (HS.out.below hb2) (HM.out.trans (Mv.of_below _ hb2)))
      have HW := Lib.hid (show ∀ w', Calls Tryz.prog 78 #[.agg #[.int .i64 pp, .int .i64 pv]] w' (fun e w'' => e = .returned (.agg #[.int .i64 3, .int .i64 pp, .int .i64 pv]) ∧ Below w'.heap.size w' w'') from fun w' => impl_wstep pp pv w')
      have HK3 := Lib.hid (show ∀ w3, Below w2.drew.heap.size w2.drew w3 → w3.cell? ⟨gs, 0, none⟩ = some (.slice (some ⟨g', 0, none⟩) (m + 1 + k) c') ∧ (w3.alloc (.cells #[.int .i64 3, .int .i64 pp, .int .i64 pv] 98)).cell? ⟨gs, 0, none⟩ = some (.slice (some ⟨g', 0, none⟩) (m + 1 + k) c') from fun w3 hb => ⟨(hb.cell (p := ⟨gs, 0, none⟩) hgl2).trans c2, ((below_then hb (below_new w3 _)).cell (p := ⟨gs, 0, none⟩) hgl2).trans c2⟩)
      have HO3 := Lib.hid (show ∀ w3, Below w2.drew.heap.size w2.drew w3 → (w3.alloc (.cells #[.int .i64 3, .int .i64 pp, .int .i64 pv] 98)).ownsRow B 98 3 (.slice (some ⟨g', 0, none⟩) (m + 1 + k) c') (m + 1 + k) (microsC (M ++ stepsOf cost (L.take k))) from fun w3 hb => (((HS2.out.1.below (Below.drew (Below.refl _ w2))).below hb).rows.own 0 _ rfl).kept (World.grownBy_alloc w3 _ none) (.inr (by simp [Value.ownBlock])))
      have HBw := Lib.hid (show ∀ w3, Below w2.drew.heap.size w2.drew w3 → B ≤ (w3.alloc (.cells #[.int .i64 3, .int .i64 pp, .int .i64 pv] 98)).heap.size from fun w3 hb => Nat.le_trans (((HS2.out.1.below (Below.drew (Below.refl _ w2))).below hb).low) (below_new w3 _).size)
      have HN3 := Lib.hid (show ∀ w3, Below w2.drew.heap.size w2.drew w3 → ∀ (gN cN : Nat) (w6 : World), w6.ownsRow B 98 3 (.slice (some ⟨gN, 0, none⟩) (m + 1 + k + 1) cN) (m + 1 + k + 1) (microsC (M ++ stepsOf cost (L.take k)) ++ [.int .i64 3, .int .i64 pp, .int .i64 pv]) → (w3.alloc (.cells #[.int .i64 3, .int .i64 pp, .int .i64 pv] 98)).grownBy w6 (Value.slice (some ⟨g', 0, none⟩) (m + 1 + k) c').ownBlock → ((Value.slice (some ⟨g', 0, none⟩) (m + 1 + k) c').ownBlock = some gN ∨ gN = (w3.alloc (.cells #[.int .i64 3, .int .i64 pp, .int .i64 pv] 98)).heap.size) →
          w6.cell? ⟨gs, 0, none⟩ = some (.slice (some ⟨g', 0, none⟩) (m + 1 + k) c') ∧ w6.frozen? ⟨gs, 0, none⟩ = false ∧ StAt B gs (some ⟨gN, 0, none⟩) (m + 1 + (k + 1)) cN (M ++ stepsOf cost (L.take (k + 1))) (w6.setCell ⟨gs, 0, none⟩ (.slice (some ⟨gN, 0, none⟩) (m + 1 + k + 1) cN)) ∧ Mv (jnB gs a m c) w (jnB gs (some ⟨gN, 0, none⟩) (m + 1 + (k + 1)) cN) (w6.setCell ⟨gs, 0, none⟩ (.slice (some ⟨gN, 0, none⟩) (m + 1 + k + 1) cN)) from fun w3 hb gN cN w6 ho hg hat => by
        have hb9 := below_then (Below.drew (Below.refl _ w2)) hb
        obtain ⟨g6, c6, e6, hx6, hs6, hm6⟩ := (HS2.out.1.below hb9).step (x := wrM pp pv) ho hg (hat.imp (fun e => e.symm) (fun e => by rw [e]; rfl))
        cases e6
        rw [List.append_assoc, ← HP.out] at hs6
        exact ⟨hx6.cell 0, hx6.frozen 0, hs6, (HS2.out.2.trans (Mv.of_below _ hb9)).trans hm6⟩)
      have hlen6 : m + 1 + k + 1 ≤ maxLen := by unfold maxLen; omega
      have hbyt6 : (m + 1 + k + 1) * 24 ≤ 140737488355328 := by omega
      clear hx2 hg2 hb2 c0
      refine Lib.hid ?_
      go_wp2
      go_region_law (first
        | (go_simp; go_at_call 78; (with_reducible refine (HW.out _).mono ?_); rintro e w3 ⟨rfl, hb3⟩; obtain ⟨d3, d4⟩ := HK3.out w3 hb3)
        | (refine step_append_lies _ (by rfl) _ _ 52 (by rfl) B 98 i0 (.agg #[.int .i64 0, .int .i64 0, .int .i64 0]) 3 24 Tryz.underlying52 hi hz0 hz1 hz2 rfl (by decide) _ (m + 1 + k) _ (by rfl) (HO3.out w3 hb3) ⟨w3.heap.size, 0, none⟩ 1 1 [.int .i64 3, .int .i64 pp, .int .i64 pv] (by rfl) (by rfl) (World.news_of_block (cs := #[.int .i64 3, .int .i64 pp, .int .i64 pv]) (t := 98) (fr := (0, 0)) (heap_alloc_new w3 _)) (by simp [Value.oneCell']) (by decide) hlen6 hbyt6 (HBw.out w3 hb3) _ rfl ?_; intro g6 c6 w6 ho6 hg6 hat6 _; obtain ⟨d6, f6, hs6, hm6⟩ := HN3.out w3 hb3 g6 c6 w6 ho6 hg6 hat6))
      all_goals
        have H7 := Lib.hid (And.intro hs6 hm6)
        clear hs6 hm6 ho6 hg6 hat6 d3 d4 hb3 c2 q0 q1
        refine Lib.hid ?_
        go_wp2
        go_roundw
        case rel => exact ⟨k + 1, g6, c6, by omega, by go_num, H7.out.1, H7.out.2⟩
        case measure => simp [intOf]; omega
    · obtain rfl : k = nl := by omega
      have hI : ¬ (k : Int) < k := by omega
      have H9 := Lib.hid (show StAt B gs (some ⟨g', 0, none⟩) (m + 1 + k) c' (M ++ stepsOf cost L) wr by
        have h9 := HS.out
        rw [List.take_of_length_le (by have := H.out.2.1.1; omega)] at h9
        exact h9)
      go_wp2
      exact bodyPost_ret (results_none rfl _ _ _) rfl ⟨rfl, g', c', _, H9.out, HM.out⟩
end Go.Proofs.YtmgeecdgebemdaaGreatDoor.trc
