/- Several texts in one: VExeU VExeV. -/
import Derived.Test.YtmgeecdgebemdaaGreatDoorGSigV38
import Derived.Test.YtmgeecdgebemdaaGreatDoorGSigV16
import Derived.Test.YtmgeecdgebemdaaGreatDoorGSigV12
import Derived.Deep.RegionLaw
import Derived.Deep.RegionHeld3
import Derived.BigQuiet

/- Chapter 12 of the program: ReadSensor, and the functions that yield the readings; nothing that was there is written. -/
namespace Go.Proofs.YtmgeecdgebemdaaGreatDoor.exe
open Go Go.ChangeShapes Go.WideShapes Go.ChangeAt Go.RowKit Go.Proofs.YtmgeecdgebemdaaGreatDoor.row Go.Proofs.YtmgeecdgebemdaaGreatDoor.val Go.Proofs.YtmgeecdgebemdaaGreatDoor.expr Go.Proofs.YtmgeecdgebemdaaGreatDoor.stm Go.Proofs.YtmgeecdgebemdaaGreatDoor.blk Go.Proofs.YtmgeecdgebemdaaGreatDoor.sets
set_option maxRecDepth 100000 in
set_option maxHeartbeats 2000000 in
theorem impl_readsensorR (w : World) (a : Option Addr) (n cap : Nat) (R : List Int) (hn : (n : Int) ≤ 1048576) (h : Row w a n R) (q m : Int) :
    Calls Tryz.prog 140 #[.slice a n cap, .int .i64 q, .int .i64 m] w (Ret w (readS R q m)) := by
  have hl := h.1
  by_cases h0 : n = 0
  · subst h0
    have HV := Lib.hid (readS_no (R := R) (q := q) (n := m) (.inl hl))
    go_enter Tryz.func140, Tryz.ntmps140
    go_wp2
    go_ret
    exact ⟨ret_i HV.out.symm, rfl⟩
  · have hpos : ¬ (n : Int) = 0 := by omega
    cases hq : (decide (0 ≤ q) && decide (q ≤ 3))
    · have HQ := Lib.hid hq
      have HV := Lib.hid (readS_no (R := R) (q := q) (n := m) (by simp at hq; omega))
      clear hq
      go_enter Tryz.func140, Tryz.ntmps140
      go_wp2_with (go_at_call 183; (with_reducible refine (sensnum q _ HQ.out _).mono ?_); rintro e w3 ⟨rfl, rfl⟩)
      go_ret
      exact ⟨ret_i HV.out.symm, rfl⟩
    · have HQ := Lib.hid hq
      have hq2 : 0 ≤ q ∧ q ≤ 3 := by simpa using hq
      clear hq
      by_cases hm : m < 0
      · have HV := Lib.hid (readS_no (R := R) (q := q) (n := m) (by omega))
        go_enter Tryz.func140, Tryz.ntmps140
        go_wp2_with (go_at_call 183; (with_reducible refine (sensnum q _ HQ.out _).mono ?_); rintro e w3 ⟨rfl, rfl⟩)
        go_ret
        exact ⟨ret_i HV.out.symm, rfl⟩
      · have hmd : decide (m < 0) = false := by simp; omega
        have ht : m.tmod n = m % n := Int.tmod_eq_emod_of_nonneg (by omega)
        have hr0 : 0 ≤ m % n := Int.emod_nonneg m (by omega)
        have hr1 : m % n < n := Int.emod_lt_of_pos m (by omega)
        obtain ⟨k, hk⟩ : ∃ k : Nat, m % n = k := ⟨(m % n).toNat, by omega⟩
        obtain ⟨b, off, x, rfl, _, hx, hc⟩ := h.2 k (by omega)
        have HV := Lib.hid (show readS R q m = sat (sat x + sat (100 * q)) by
          rw [readS_ok (by omega) hq2.1 (by omega) (by omega), hl, hk, List.getD_eq_getElem?_getD, show ((k : Int)).toNat = k by omega, hx]; rfl)
        rw [hk] at ht hr0 hr1
        have hm0 : 0 ≤ m := by omega
        clear hx h hk hm
        go_enter Tryz.func140, Tryz.ntmps140
        go_wp2_with (first
          | (go_at_call 183; (with_reducible refine (sensnum q _ HQ.out _).mono ?_); rintro e w3 ⟨rfl, rfl⟩)
          | (go_at_call 184; refine (impl_add _ _ _).mono ?_; rintro e w4 ⟨rfl, rfl⟩))
        go_ret
        exact ⟨ret_i HV.out.symm, rfl⟩
set_option maxRecDepth 100000 in
set_option maxHeartbeats 2000000 in
theorem rd_live (w : World) (c : PCf) (hlv : c.lv = true) (hS : PCfS c w) (h : CapAt c w) (q : Int) (n : Nat) (hn : n ≤ 100000) (v : Int) (hv : c.src q n = v) :
    Calls Tryz.prog 139 #[.int .i64 q, .int .i64 n, .pointer (some ⟨c.gu, 0, none⟩), .pointer (some ⟨c.gz, 0, none⟩)] w (Ret w v) := by
  obtain ⟨lv, gu, gz, al, nl, cl, Y, z⟩ := c
  simp only at hlv
  subst hlv
  obtain ⟨⟨_, c0⟩, h1, _⟩ := h
  obtain ⟨hY, hnl, hz, _⟩ := hS
  have c1 := (h1 rfl).2.2
  dsimp only at c0 c1 hY hnl hz
  have hv2 : readS Y q (z + n) = v := hv
  have hn0 : 0 ≤ z + n ∧ z + n ≤ 2000000 := by omega
  have HR := Lib.hid (impl_readsensorR w al nl cl Y hnl hY q (z + n))
  rw [hv2] at HR
  clear hv hv2 hY h1
  go_enter Tryz.func139, Tryz.ntmps139
  go_wp2_with (go_at_call 140; (with_reducible refine HR.out.mono ?_); rintro e w3 ⟨rfl, rfl⟩)
  go_ret
  exact ⟨rfl, rfl⟩
set_option maxRecDepth 100000 in
/-- The function that yields the readings, with what it has captured. -/
theorem impl_sensorsfrom (ar : Option Addr) (nr cr : Nat) (z : Int) (w : World) : Calls Tryz.prog 80 #[.slice ar nr cr, .int .i64 z] w
    (fun e w' => e = .returned (fnS w.heap.size (w.heap.size + 1)) ∧ Below w.heap.size w w' ∧ Box w.heap.size #[.slice ar nr cr] 27 w' ∧ Box (w.heap.size + 1) #[.int .i64 z] 3 w') := by
  have hmf : ∀ (fn : Fn) (first cap : Array Value) (w : World), (Instr.makeFunc fn first cap).run Tryz.prog w = .ok (.func fn first cap) w := fun _ _ _ _ => rfl
  go_enter Tryz.func80, Tryz.ntmps80
  go_wp2
  go_ret
  refine ⟨rfl, below_then (below_new w _) (below_new _ _), (Box.new w _ _).alloc _, ?_⟩
  have h9 := Box.new (w.alloc (.cells #[.slice ar nr cr] 27)) #[.int .i64 z] 3
  rw [World.size_alloc] at h9
  exact h9
theorem impl_first (z : Int) (r : Bool) (hr : (decide (0 ≤ z) && decide (z ≤ 1000000)) = r) (w : World) : Calls Tryz.prog 135 #[.int .i64 z] w (RetB w r) := by
  subst hr
  by_cases h : 0 ≤ z
  · simp only [h, decide_true, Bool.true_and]
    go_enter Tryz.func135, Tryz.ntmps135
    go_wp2
    go_ret
    exact ⟨rfl, rfl⟩
  · simp only [h, decide_false, Bool.false_and]
    go_enter Tryz.func135, Tryz.ntmps135
    go_wp2
    go_ret
    exact ⟨rfl, rfl⟩
end Go.Proofs.YtmgeecdgebemdaaGreatDoor.exe

/- Chapter 12 of the program: the methods assign, set, sense and send of an execution: one step, told to the observer; nothing else that was there is written. -/
namespace Go.Proofs.YtmgeecdgebemdaaGreatDoor.exe
open Go Go.ChangeShapes Go.WideShapes Go.ChangeAt Go.RowKit Go.Proofs.YtmgeecdgebemdaaGreatDoor.row Go.Proofs.YtmgeecdgebemdaaGreatDoor.val Go.Proofs.YtmgeecdgebemdaaGreatDoor.expr Go.Proofs.YtmgeecdgebemdaaGreatDoor.stm Go.Proofs.YtmgeecdgebemdaaGreatDoor.blk Go.Proofs.YtmgeecdgebemdaaGreatDoor.sets Go.Proofs.YtmgeecdgebemdaaGreatDoor.rss
theorem cell_putP {w : World} {b q o k : Nat} {u : Value} (h : b ≠ q) : (w.setCell ⟨q, k, none⟩ u).cell? ⟨b, o, none⟩ = w.cell? ⟨b, o, none⟩ :=
  World.cell?_of_block (w := w) (a := ⟨b, o, none⟩) (heap_setCell_other w ⟨q, k, none⟩ b u h)
theorem p_put2d {w : World} {g b q k : Nat} {x0 x1 u : Value} (h1 : q ≠ g) (h2 : q ≠ b) (h : w.cell? ⟨g, 0, none⟩ = some x0 ∧ w.cell? ⟨b, 1, none⟩ = some x1) : (w.setCell ⟨q, k, none⟩ u).drew.cell? ⟨g, 0, none⟩ = some x0 ∧ (w.setCell ⟨q, k, none⟩ u).drew.cell? ⟨b, 1, none⟩ = some x1 :=
  ⟨(cell_putP (Ne.symm h1)).trans h.1, (cell_putP (Ne.symm h2)).trans h.2⟩
theorem p_keep4 {w w' : World} {g b : Nat} {x0 x1 x2 x3 : Value} (hb : Below w.heap.size w w') (hg : g < w.heap.size) (hbb : b < w.heap.size) (h : w.cell? ⟨g, 0, none⟩ = some x0 ∧ w.cell? ⟨b, 3, none⟩ = some x1 ∧ w.cell? ⟨b, 3 + 1, none⟩ = some x2 ∧ w.cell? ⟨b, 3 + 2, none⟩ = some x3) : w'.cell? ⟨g, 0, none⟩ = some x0 ∧ w'.cell? ⟨b, 3, none⟩ = some x1 ∧ w'.cell? ⟨b, 3 + 1, none⟩ = some x2 ∧ w'.cell? ⟨b, 3 + 2, none⟩ = some x3 :=
  ⟨(hb.cell (p := ⟨g, 0, none⟩) hg).trans h.1, (hb.cell (p := ⟨b, 3, none⟩) hbb).trans h.2.1, (hb.cell (p := ⟨b, 3 + 1, none⟩) hbb).trans h.2.2.1, (hb.cell (p := ⟨b, 3 + 2, none⟩) hbb).trans h.2.2.2⟩
theorem keep7 {w w' : World} {g k b : Nat} {x0 x1 x2 x3 x4 x5 x6 : Value} (hb : Below w.heap.size w w') (hg : g < w.heap.size) (hbb : b < w.heap.size) (h : w.cell? ⟨g, k, none⟩ = some x0 ∧ w.cell? ⟨b, 0, none⟩ = some x1 ∧ w.cell? ⟨b, 1, none⟩ = some x2 ∧ w.cell? ⟨b, 2, none⟩ = some x3 ∧ w.cell? ⟨b, 3, none⟩ = some x4 ∧ w.cell? ⟨b, 3 + 1, none⟩ = some x5 ∧ w.cell? ⟨b, 3 + 2, none⟩ = some x6) :
    w'.cell? ⟨g, k, none⟩ = some x0 ∧ w'.cell? ⟨b, 0, none⟩ = some x1 ∧ w'.cell? ⟨b, 1, none⟩ = some x2 ∧ w'.cell? ⟨b, 2, none⟩ = some x3 ∧ w'.cell? ⟨b, 3, none⟩ = some x4 ∧ w'.cell? ⟨b, 3 + 1, none⟩ = some x5 ∧ w'.cell? ⟨b, 3 + 2, none⟩ = some x6 := by
  have e : ∀ j, w'.cell? ⟨b, j, none⟩ = w.cell? ⟨b, j, none⟩ := fun j => hb.cell (p := ⟨b, j, none⟩) hbb
  have e2 : w'.cell? ⟨g, k, none⟩ = w.cell? ⟨g, k, none⟩ := hb.cell (p := ⟨g, k, none⟩) hg
  rw [e2, e 0, e 1, e 2, e 3, e (3 + 1), e (3 + 2)]
  exact h
/-- The six cells of a statement and one cell beside them. -/
theorem box7 {w : World} {g k b : Nat} {f : Value} {s : Sm} (hf : w.cell? ⟨g, k, none⟩ = some f) (hb : Box b (stmA s) 112 w) :
    w.cell? ⟨g, k, none⟩ = some f ∧ w.cell? ⟨b, 0, none⟩ = some (.int .i64 s.k) ∧ w.cell? ⟨b, 1, none⟩ = some (.int .i64 s.v) ∧ w.cell? ⟨b, 2, none⟩ = some (.int .i64 s.n) ∧ w.cell? ⟨b, 3, none⟩ = some (.int .i64 s.o) ∧ w.cell? ⟨b, 3 + 1, none⟩ = some (.int .i64 s.a) ∧ w.cell? ⟨b, 3 + 2, none⟩ = some (.int .i64 s.b) :=
  ⟨hf, hb.cell 0, hb.cell 1, hb.cell 2, hb.cell 3, hb.cell 4, hb.cell 5⟩
/-- The execution behind the pointer has come to the state 'z'. -/
def MOut (w0 : World) (g : Nat) (c : PCf) (o : Obs w0.heap.size) (z : o.Z) (e : Ending) (w' : World) : Prop := e = .returned (.tuple #[]) ∧ Below w0.heap.size w0 w' ∧ Px w0.heap.size g c o z w'
theorem eval_isP (w : World) (ad : Option Addr) (n cap : Nat) (V : List Int) (hn : (n : Int) ≤ 1048576) (h : Row w ad n V) (o a b q : Int) (hq : evalV V o a b = q) :
    Calls Tryz.prog 149 #[.slice ad n cap, ev o a b] w (BelI w q) := by
  rw [← hq]; exact impl_evalExpr w ad n cap V hn h o a b
/-- A statement that lies in a new block is not the observer's. -/
theorem PxAt.not_new {B g : Nat} {p : Pp} {c : PCf} {o : Obs B} {x : Sx} {t : o.τ} {F : List (Option Nat)} {w : World} (h : PxAt B g p c o x t F w) : ∀ j : Nat, F[j]? ≠ some (some w.heap.size) := fun j e => by
  have := (o.base t F w h.ob j _ e).2; omega
set_option maxHeartbeats 8000000 in
set_option maxRecDepth 100000 in
theorem impl_assign (w0 w : World) (c : PCf) (o : Obs w0.heap.size) (g : Nat) (HT : Tells w0 c o g) (p : Pp) (F : List (Option Nat)) (x : Sx) (t : o.τ) (s : Sm) (u : Nat) (v : Int) (hs : stOk s = true) (h6 : s.k ≠ 6) (hx : varsOk x.V = true) (hu : s.v = u) (hu8 : u < 8) (hv : v = valS c.src s x) (ht : totZ (o := o.toObm) (x, t) ≤ 50000) (hB : Below w0.heap.size w0 w) (hR : PxAt w0.heap.size g p c o x t F w) :
    Calls Tryz.prog 224 #[.pointer (some ⟨g, 0, none⟩), .agg (stmA s), .int .i64 v] w (fun e w' => e = .returned (.tuple #[]) ∧ Below w0.heap.size w0 w' ∧ ∃ F', PxAt w0.heap.size g p c o ⟨x.V.set u v, x.S, x.U⟩ (o.nxt t x s v) F' w') := by
  obtain ⟨gv, cv, a1, n1, c1, a2, n2, c2⟩ := p
  obtain ⟨W, hW⟩ : ∃ W, w.alloc (.cells (stmA s) 112) = W := ⟨_, rfl⟩
  have hbW : Below w.heap.size w W := by rw [← hW]; exact below_new w _
  have hbx : Box w.heap.size (stmA s) 112 W := by rw [← hW]; exact Box.new w _ _
  have hvl : w0.heap.size ≤ gv ∧ gv < w.heap.size := hR.gvB
  have hvg : gv ≠ g := hR.vg
  have HNF := Lib.hid hR.not_new
  have HW := Lib.hid hW
  have HRD := Lib.hid ((hR.below hbW).below (Below.drew (Below.refl _ W)))
  have HBD := Lib.hid ((hB.trans (hbW.mono hB.size)).trans ((Below.drew (Below.refl _ W)).mono (hB.trans (hbW.mono hB.size)).size))
  have HC := Lib.hid (HT W.drew _ F x t s v hs h6 hx hv ht HBD.out HRD.out)
  have HBX := Lib.hid (show Box w.heap.size (stmA s) 112 W.drew from hbx)
  obtain ⟨q4, e0, e1, e2, e3, e4, e5⟩ := box7 (w := W.drew) (HRD.out.box.cell 4) hbx
  have hlb : w.heap.size < W.drew.heap.size := hbx.lt
  obtain ⟨ok, ho⟩ : ∃ ok, o.k = ok := ⟨_, rfl⟩
  obtain ⟨ofc, hc⟩ : ∃ ofc, o.fc = ofc := ⟨_, rfl⟩
  have HOK := Lib.hid (And.intro ho hc)
  have hent := o.ent
  rw [ho] at hent
  rw [ho, hc] at HC
  have q4' : W.drew.cell? ⟨g, 4, none⟩ = some (.func (.func ok) #[] ofc) := by rw [q4]; show some (Value.func (.func o.k) #[] o.fc) = _; rw [ho, hc]
  have hvb : gv ≠ w.heap.size := by omega
  have hu0 : (0 : Int) ≤ (u : Int) := by omega
  have hu9 : (u : Int) < 8 := by omega
  have HU := Lib.hid hu
  clear hs h6 hx hv ht hB hR hW hbW hbx hu q4 ho hc
  go_enter Tryz.func224, Tryz.ntmps224
  go_wp2
  rw [HW.out]
  go_region_law (first
    | (go_simp; (with_reducible refine HC.out.mono ?_); rintro e w6 ⟨rfl, F', ho6, hm6⟩))
  all_goals
    have hR6 := HRD.out.told ho6 hm6
    have hB6 := HBD.out.trans (HRD.out.told_below hm6 HBD.out.size)
    have hx6 := hm6.box HBX.out HNF.out
    have H6 := Lib.hid (And.intro hB6 hR6)
    obtain ⟨X, hX⟩ : ∃ X, (ivs x.V)[u]? = some (.int .i64 X) := ⟨x.V[u]'(by have := own_len hR6.vars; omega), by simp [ivs, show u < x.V.length by have := own_len hR6.vars; omega]⟩
    have cS0 : w6.cell? ⟨g, 0, none⟩ = some (.slice (some ⟨gv, 0, none⟩) 8 cv) ∧ w6.cell? ⟨w.heap.size, 1, none⟩ = some (.int .i64 (u : Int)) := ⟨hR6.box.cell 0, by rw [← HU.out]; exact hx6.cell 1⟩
    have cS : w6.drew.cell? ⟨g, 0, none⟩ = some (.slice (some ⟨gv, 0, none⟩) 8 cv) ∧ w6.drew.cell? ⟨w.heap.size, 1, none⟩ = some (.int .i64 (u : Int)) := cS0
    have cX : w6.cell? ⟨gv, u, none⟩ = some (.int .i64 X) := (hR6.vars.cellAt u (by simpa using hu8)).trans hX
    have fX : w6.frozen? ⟨gv, u, none⟩ = false := hR6.vars.frozenAt u
    clear hR6 hB6 hx6 hm6 ho6 q4' e0 e1 e2 e3 e4 e5 hlb
    refine Lib.hid ?_
    go_wp2
    go_region_held3 (fun w' => w'.cell? ⟨g, 0, none⟩ = some (.slice (some ⟨gv, 0, none⟩) 8 cv) ∧ w'.cell? ⟨w.heap.size, 1, none⟩ = some (.int .i64 (u : Int)))
      (first
        | (with_reducible exact p_put2d hvg hvb cS0)
        | (with_reducible exact cS)
        | (with_reducible exact cS0))
      (fail)
    all_goals
      have hNew := (H6.out.2.set u v).below (Below.drew (Below.refl _ _))
      have hBn := (H6.out.2.set_below u (.int .i64 v) H6.out.1 H6.out.1.size).drew
      obtain ⟨W9, hW9⟩ : ∃ W9, (w6.setCell ⟨gv, u, none⟩ (.int .i64 v)).drew = W9 := ⟨_, rfl⟩
      have hBn2 : Below w0.heap.size w0 W9 := by rw [← hW9]; exact hBn
      have hNew2 : PxAt w0.heap.size g ⟨gv, cv, a1, n1, c1, a2, n2, c2⟩ c o ⟨x.V.set u v, x.S, x.U⟩ (o.nxt t x s v) F' W9 := by rw [← hW9]; exact hNew
      rw [hW9]
      have H9 := Lib.hid (And.intro hBn2 hNew2)
      clear hW9 hBn hNew hBn2 hNew2 cX fX cS cS0 hX
      refine Lib.hid ?_
      go_wp2
      exact ⟨_, results_none rfl _ _ _, rfl, H9.out.1, F', H9.out.2⟩
set_option maxHeartbeats 8000000 in
set_option maxRecDepth 100000 in
theorem impl_set (w0 w : World) (c : PCf) (o : Obs w0.heap.size) (g : Nat) (ht0 : Tells w0 c o g) (z : o.Z) (s : Sm) (hs : stOk s = true) (hk : s.k = 1) (hx : varsOk z.1.V = true) (ht : totZ z ≤ 50000) (hB : Below w0.heap.size w0 w) (hR : Px w0.heap.size g c o z w) (ab : Option Addr) (nb cb : Nat) :
    Calls Tryz.prog 190 #[.pointer (some ⟨g, 0, none⟩), .agg (stmA s), .slice ab nb cb] w (MOut w0 g c o (stepZ c.src o.toObm s z)) := by
  obtain ⟨x, t⟩ := z
  obtain ⟨⟨gv, cv, a1, n1, c1, a2, n2, c2⟩, F, hr⟩ := hR
  dsimp only at hx hr
  obtain ⟨W, hW⟩ : ∃ W, w.alloc (.cells (stmA s) 112) = W := ⟨_, rfl⟩
  have hbW : Below w.heap.size w W := by rw [← hW]; exact below_new w _
  have hbx : Box w.heap.size (stmA s) 112 W := by rw [← hW]; exact Box.new w _ _
  have hgl := hr.lt
  have hvl : w0.heap.size ≤ gv ∧ gv < w.heap.size := hr.gvB
  have hvg : gv ≠ g := hr.vg
  have HNF := Lib.hid hr.not_new
  have HW := Lib.hid hW
  obtain ⟨q, hq⟩ : ∃ q, evalV x.V s.o s.a s.b = q := ⟨_, rfl⟩
  have HEV := Lib.hid (show ∀ w', Row w' (some ⟨gv, 0, none⟩) 8 x.V → Calls Tryz.prog 149 #[.slice (some ⟨gv, 0, none⟩) 8 cv, ev s.o s.a s.b] w' (BelI w' q) from fun w' h => eval_isP w' _ 8 cv x.V (by decide) h _ _ _ q hq)
  obtain ⟨u, hu, hu8⟩ : ∃ u : Nat, s.v = u ∧ u < 8 := by have := st_var hs (.inl hk); exact ⟨s.v.toNat, by omega, by omega⟩
  have hval : q = valS c.src s x := by rw [valS_eval (.inl hk)]; exact hq.symm
  have HST := Lib.hid (show stepZ c.src o.toObm s (x, t) = (⟨x.V.set u q, x.S, x.U⟩, o.nxt t x s q) by unfold stepZ; rw [step_set _ hk, hq, hu, ← hval]; rfl)
  have HRD := Lib.hid ((hr.below hbW).below (Below.drew (Below.refl _ W)))
  have HBD := Lib.hid ((hB.trans (hbW.mono hB.size)).trans ((Below.drew (Below.refl _ W)).mono (hB.trans (hbW.mono hB.size)).size))
  have HBX := Lib.hid (show Box w.heap.size (stmA s) 112 W.drew from hbx)
  have HAS := Lib.hid (show ∀ w', Below W.drew.heap.size W.drew w' → Calls Tryz.prog 224 #[.pointer (some ⟨g, 0, none⟩), .agg (stmA s), .int .i64 q] w' (fun e w2 => e = .returned (.tuple #[]) ∧ Below w0.heap.size w0 w2 ∧ ∃ F', PxAt w0.heap.size g ⟨gv, cv, a1, n1, c1, a2, n2, c2⟩ c o ⟨x.V.set u q, x.S, x.U⟩ (o.nxt t x s q) F' w2) from
    fun w' hb => impl_assign w0 w' c o g ht0 _ F x t s u q hs (by omega) hx hu hu8 hval ht (HBD.out.trans (hb.mono HBD.out.size)) (HRD.out.below hb))
  have cS := box7 (w := W.drew) (HRD.out.box.cell 0) hbx
  have hq5 : w.heap.size < W.drew.heap.size := hbx.lt
  have hqg : g < W.drew.heap.size := Nat.lt_of_lt_of_le hgl hbW.size
  clear hs hk hx ht hB hr hW hbW hbx hq hu hval ht0
  obtain ⟨s0, s1, s2, s3, s4, s5, s6⟩ := id cS
  go_enter Tryz.func190, Tryz.ntmps190
  go_wp2
  rw [HW.out]
  go_region_law (first
    | (go_simp; go_at_call 149; (with_reducible refine (HEV.out _ HRD.out.vrow).mono ?_); rintro e w6 ⟨rfl, hb6⟩; obtain ⟨t0, t1, t2, t3, t4, t5, t6⟩ := keep7 hb6 hqg hq5 cS; have hl6 := Nat.lt_of_lt_of_le hq5 hb6.size; have HB6 := Lib.hid hb6; clear hb6)
    | (go_simp; go_at_call 224; (with_reducible refine (HAS.out _ HB6.out).mono ?_); rintro e w7 ⟨rfl, hb7, F', hr7⟩))
  all_goals
    have H9 := Lib.hid (And.intro hb7 hr7)
    clear hb7 hr7 s0 s1 s2 s3 s4 s5 s6 t0 t1 t2 t3 t4 t5 t6 cS
    refine Lib.hid ?_
    go_wp2
    exact ⟨_, results_none rfl _ _ _, rfl, H9.out.1, by rw [HST.out]; exact ⟨_, F', H9.out.2⟩⟩
set_option maxHeartbeats 8000000 in
set_option maxRecDepth 100000 in
theorem impl_sense (w0 w : World) (c : PCf) (o : Obs w0.heap.size) (g : Nat) (ht0 : Tells w0 c o g) (z : o.Z) (s : Sm) (hs : stOk s = true) (hcS : PCfS c w0) (hk : s.k = 2) (hn : z.1.U.length ≤ 100000) (hx : varsOk z.1.V = true) (ht : totZ z ≤ 50000) (hB : Below w0.heap.size w0 w) (hR : Px w0.heap.size g c o z w) (ab : Option Addr) (nb cb : Nat) :
    Calls Tryz.prog 191 #[.pointer (some ⟨g, 0, none⟩), .agg (stmA s), .slice ab nb cb] w (MOut w0 g c o (stepZ c.src o.toObm s z)) := by
  obtain ⟨i0, hi, hz0, hz1, hz2⟩ := info_parts row.infoInt
  obtain ⟨x, t⟩ := z
  obtain ⟨⟨gv, cv, a1, n1, c1, a2, n2, c2⟩, F, hr⟩ := hR
  dsimp only at hx hr
  obtain ⟨W, hW⟩ : ∃ W, w.alloc (.cells (stmA s) 112) = W := ⟨_, rfl⟩
  have hbW : Below w.heap.size w W := by rw [← hW]; exact below_new w _
  have hbx : Box w.heap.size (stmA s) 112 W := by rw [← hW]; exact Box.new w _ _
  have hgl := hr.lt
  have hvl : w0.heap.size ≤ gv ∧ gv < w.heap.size := hr.gvB
  have hvg : gv ≠ g := hr.vg
  have HNF := Lib.hid hr.not_new
  have HW := Lib.hid hW
  obtain ⟨q, hq0⟩ : ∃ q, c.src s.n x.U.length = q := ⟨_, rfl⟩
  obtain ⟨u, hu, hu8⟩ : ∃ u : Nat, s.v = u ∧ u < 8 := by have := st_var hs (.inr hk); exact ⟨s.v.toNat, by omega, by omega⟩
  have hval : q = valS c.src s x := by rw [valS_src hk]; exact hq0.symm
  have HST := Lib.hid (show stepZ c.src o.toObm s (x, t) = (⟨x.V.set u q, x.S, x.U ++ [q]⟩, o.nxt t x s q) by unfold stepZ; rw [step_sense _ hk, hq0, hu, ← hval]; rfl)
  have hul : x.U.length = n2 := hr.ulen
  have hn2 : n2 ≤ 100000 := by dsimp only at hn; omega
  have hq : c.src s.n n2 = q := by rw [← hul]; exact hq0
  have HRW := Lib.hid (hr.below hbW)
  have HBW := Lib.hid (hB.trans (hbW.mono hB.size))
  have HBX := Lib.hid hbx
  have hcW := HRW.out.cap
  have hcS := hcS.below (show Below w0.heap.size w0 W from HBW.out)
  have HAS := Lib.hid (show ∀ w', Below W.heap.size W w' → Calls Tryz.prog 224 #[.pointer (some ⟨g, 0, none⟩), .agg (stmA s), .int .i64 q] w' (fun e w2 => e = .returned (.tuple #[]) ∧ Below w0.heap.size w0 w2 ∧ ∃ F', PxAt w0.heap.size g ⟨gv, cv, a1, n1, c1, a2, n2, c2⟩ c o ⟨x.V.set u q, x.S, x.U⟩ (o.nxt t x s q) F' w2) from
    fun w' hb => impl_assign w0 w' c o g ht0 _ F x t s u q hs (by omega) hx hu hu8 hval ht (HBW.out.trans (hb.mono HBW.out.size)) (HRW.out.below hb))
  have ck1 : W.cell? ⟨w.heap.size, 2, none⟩ = some (.int .i64 s.n) := hbx.cell 2
  have ck2 : W.cell? ⟨g, 2, none⟩ = some (.slice a2 n2 c2) := HRW.out.box.cell 2
  clear hs hk hx ht hB hr hW hbW hbx hu hval ht0 hq0 hul hn
  cases hlv : c.lv
  · exact ((hcW.2.2 hlv) : False).elim
  · skip
    have hfn : c.fn = fnS c.gu c.gz := by unfold PCf.fn; rw [hlv]; rfl
    have ck3 : W.cell? ⟨g, 3, none⟩ = some (fnS c.gu c.gz) := by rw [← hfn]; exact HRW.out.box.cell 3
    have HQ := Lib.hid (show ∀ m, Calls Tryz.prog 139 #[.int .i64 s.n, .int .i64 n2, .pointer (some ⟨c.gu, 0, none⟩), .pointer (some ⟨c.gz, 0, none⟩)] (W.drewN m) fun e w' => e = .returned (.int .i64 q) ∧ w' = W.drewN m from fun m => (rd_live (W.drewN m) c hlv (hcS.below (below_drewN (Below.refl _ W) m)) (hcW.below (below_drewN (Below.refl _ W) m)) s.n n2 hn2 q hq).mono fun _ _ ⟨h1, h2⟩ => ⟨h1, h2.symm⟩)
    clear hfn hlv hq hcW hcS
    go_enter Tryz.func191, Tryz.ntmps191
    go_wp2
    rw [HW.out]
    go_quiet ((first | (go_at_call 139; with_reducible exact Calls.quiet_of_same (HQ.out _))))
    clear ck1 ck2 ck3
    go_wp2_with (first
      | (refine wpList_load_row rfl 112 _ rfl w.heap.size rfl _ _ _ _ (Box.drewN HBX.out _) Tryz.underlying112 rfl (by kernel_rfl) ?_)
      | (go_at_call 224; (with_reducible refine (HAS.out _ (below_drewN (Below.refl _ W) _)).mono ?_); rintro e w6 ⟨rfl, hb6, F', hr6⟩; refine Hid.out ?_))
    have H6 := Lib.hid (And.intro hb6 hr6)
    have HO6 := Lib.hid (show w6.ownsRow w0.heap.size 3 1 (.slice a2 n2 c2) n2 (ivs x.U) from hr6.used)
    have k2 : w6.cell? ⟨g, 2, none⟩ = some (.slice a2 n2 c2) := hr6.box.cell 2
    have hs6 := hb6.size
    clear hb6 hr6
    refine Lib.hid ?_
    go_wp2_with (at_builtin; refine wpList_append_own_at _ rfl _ _ 27 rfl w0.heap.size 3 i0 (.int .i64 0) 1 8 Tryz.underlying27 hi hz0 hz1 hz2 rfl (by decide) _ _ _ rfl (HO6.out.alloc _) ⟨w6.heap.size, 0, none⟩ 1 1 [.int .i64 q] rfl rfl (World.news_of_block (cs := #[.int .i64 q]) (t := 3) (fr := (0, 0)) (heap_alloc_new w6 _)) (by simp [Value.oneCell']) (by unfold maxLen; omega) (by omega) (by simp; omega) ?_; intro v4 w4 hown4 hgrow4 _ hat4; refine Hid.out ?_)
    rw [ivs_snoc] at hown4
    obtain ⟨g4, cp4, rfl, hg4, _⟩ := hown4.form (by omega)
    obtain ⟨hP, hBl, hbx4⟩ := H6.out.2.sense (q := q) hown4 ((World.grownBy_alloc w6 _ _).trans hgrow4) (hat4.imp (fun e => e) (fun e b hb => by rw [e] at hb; have := Option.some.inj hb; simp at this; omega))
    have d2 : w4.cell? ⟨g, 2, none⟩ = some (.slice a2 n2 c2) := hbx4.cell 2
    have f2 : w4.frozen? ⟨g, 2, none⟩ = false := hbx4.frozen 2
    obtain ⟨W9, hW9⟩ : ∃ W9, w4.setCell ⟨g, 2, none⟩ (.slice (some ⟨g4, 0, none⟩) (n2 + 1) cp4) = W9 := ⟨_, rfl⟩
    rw [hW9] at hP hBl
    have H9 := Lib.hid (And.intro (H6.out.1.trans hBl) hP)
    clear hown4 hgrow4 hat4 hbx4 hP hBl k2
    refine Lib.hid ?_
    go_wp2
    rw [HST.out]
    exact bodyPost_ret (results_none rfl _ _ _) rfl ⟨rfl, H9.out.1, _, F', H9.out.2⟩
set_option maxHeartbeats 8000000 in
set_option maxRecDepth 100000 in
theorem impl_send (w0 w : World) (c : PCf) (o : Obs w0.heap.size) (g : Nat) (ht0 : Tells w0 c o g) (z : o.Z) (s : Sm) (hs : stOk s = true) (hk : s.k = 3) (hn : z.1.S.length ≤ 100000) (hx : varsOk z.1.V = true) (ht : totZ z ≤ 50000) (hB : Below w0.heap.size w0 w) (hR : Px w0.heap.size g c o z w) (ab : Option Addr) (nb cb : Nat) :
    Calls Tryz.prog 192 #[.pointer (some ⟨g, 0, none⟩), .agg (stmA s), .slice ab nb cb] w (MOut w0 g c o (stepZ c.src o.toObm s z)) := by
  obtain ⟨i0, hi, hz0, hz1, hz2⟩ := info_parts row.infoInt
  obtain ⟨x, t⟩ := z
  obtain ⟨⟨gv, cv, a1, n1, c1, a2, n2, c2⟩, F, hr⟩ := hR
  dsimp only at hx hr
  obtain ⟨W, hW⟩ : ∃ W, w.alloc (.cells (stmA s) 112) = W := ⟨_, rfl⟩
  have hbW : Below w.heap.size w W := by rw [← hW]; exact below_new w _
  have hbx : Box w.heap.size (stmA s) 112 W := by rw [← hW]; exact Box.new w _ _
  have hgl := hr.lt
  have hvl : w0.heap.size ≤ gv ∧ gv < w.heap.size := hr.gvB
  have hvg : gv ≠ g := hr.vg
  have HNF := Lib.hid hr.not_new
  have HW := Lib.hid hW
  obtain ⟨q, hq⟩ : ∃ q, evalV x.V s.o s.a s.b = q := ⟨_, rfl⟩
  have HEV := Lib.hid (show ∀ w', Row w' (some ⟨gv, 0, none⟩) 8 x.V → Calls Tryz.prog 149 #[.slice (some ⟨gv, 0, none⟩) 8 cv, ev s.o s.a s.b] w' (BelI w' q) from fun w' h => eval_isP w' _ 8 cv x.V (by decide) h _ _ _ q hq)
  have hval : q = valS c.src s x := by rw [valS_eval (.inr hk)]; exact hq.symm
  have HST := Lib.hid (show stepZ c.src o.toObm s (x, t) = (⟨x.V, x.S ++ [q], x.U⟩, o.nxt t x s q) by unfold stepZ; rw [step_send _ hk, hq, ← hval])
  have hsl : x.S.length = n1 := hr.slen
  have hn1 : n1 ≤ 100000 := by dsimp only at hn; omega
  have HRD := Lib.hid ((hr.below hbW).below (Below.drew (Below.refl _ W)))
  have HBD := Lib.hid ((hB.trans (hbW.mono hB.size)).trans ((Below.drew (Below.refl _ W)).mono (hB.trans (hbW.mono hB.size)).size))
  have HBX := Lib.hid (show Box w.heap.size (stmA s) 112 W.drew from hbx)
  obtain ⟨ok, ho⟩ : ∃ ok, o.k = ok := ⟨_, rfl⟩
  obtain ⟨ofc, hc⟩ : ∃ ofc, o.fc = ofc := ⟨_, rfl⟩
  have HOK := Lib.hid (And.intro ho hc)
  have hent := o.ent
  rw [ho] at hent
  have HS := Lib.hid (show stOk s = true ∧ s.k ≠ 6 ∧ varsOk x.V = true ∧ q = valS c.src s x ∧ totZ (o := o.toObm) (x, t) ≤ 50000 from ⟨hs, by omega, hx, hval, ht⟩)
  have HT := Lib.hid ht0
  obtain ⟨cS0, _, _, _, cS4, cS5, cS6⟩ := box7 (w := W.drew) (HRD.out.box.cell 0) hbx
  have cS : W.drew.cell? ⟨g, 0, none⟩ = some (.slice (some ⟨gv, 0, none⟩) 8 cv) ∧ W.drew.cell? ⟨w.heap.size, 3, none⟩ = some (.int .i64 s.o) ∧ W.drew.cell? ⟨w.heap.size, 3 + 1, none⟩ = some (.int .i64 s.a) ∧ W.drew.cell? ⟨w.heap.size, 3 + 2, none⟩ = some (.int .i64 s.b) := ⟨cS0, cS4, cS5, cS6⟩
  have hq5 : w.heap.size < W.drew.heap.size := hbx.lt
  have hqg : g < W.drew.heap.size := Nat.lt_of_lt_of_le hgl hbW.size
  clear hs hk hx ht hB hr hW hbW hbx hq hval ht0 ho hc cS0 cS4 cS5 cS6 hn hsl
  go_enter Tryz.func192, Tryz.ntmps192
  go_wp2
  rw [HW.out]
  go_region_held3 (fun w' => w'.cell? ⟨g, 0, none⟩ = some (.slice (some ⟨gv, 0, none⟩) 8 cv) ∧ w'.cell? ⟨w.heap.size, 3, none⟩ = some (.int .i64 s.o) ∧ w'.cell? ⟨w.heap.size, 3 + 1, none⟩ = some (.int .i64 s.a) ∧ w'.cell? ⟨w.heap.size, 3 + 2, none⟩ = some (.int .i64 s.b))
    (first
      | (with_reducible exact cS)
      | (with_reducible exact sX))
    (first
      | (go_at_call 149; (with_reducible refine (HEV.out _ HRD.out.vrow).mono ?_); rintro e w6 ⟨rfl, hb6⟩; have sX := p_keep4 hb6 hqg hq5 cS))
  all_goals
    have hbD := below_then hb6 (Below.drew (Below.refl _ w6))
    have HR6 := Lib.hid (HRD.out.below hbD)
    have HB6 := Lib.hid (HBD.out.trans (hbD.mono HBD.out.size))
    have HX6 := Lib.hid (HBX.out.below hbD)
    have HC2 := Lib.hid (HT.out w6.drew _ F x t s q HS.out.1 HS.out.2.1 HS.out.2.2.1 HS.out.2.2.2.1 HS.out.2.2.2.2 HB6.out HR6.out)
    obtain ⟨q4, e0, e1, e2, e3, e4, e5⟩ := box7 (w := w6.drew) (HR6.out.box.cell 4) HX6.out
    have hlb : w.heap.size < w6.drew.heap.size := HX6.out.lt
    rw [HOK.out.1, HOK.out.2] at HC2
    have q4' : w6.drew.cell? ⟨g, 4, none⟩ = some (.func (.func ok) #[] ofc) := by rw [q4]; show some (Value.func (.func o.k) #[] o.fc) = _; rw [HOK.out.1, HOK.out.2]
    clear q4
    clear cS sX hbD
    refine Lib.hid ?_
    go_wp2
    go_region_law (first
      | (go_simp; (with_reducible refine HC2.out.mono ?_); rintro e w7 ⟨rfl, F', ho7, hm7⟩))
    all_goals
      have hR7 := HR6.out.told ho7 hm7
      have hB7 := HB6.out.trans (HR6.out.told_below hm7 HB6.out.size)
      have H7 := Lib.hid (And.intro hB7 hR7)
      have HO7 := Lib.hid (show w7.ownsRow w0.heap.size 3 1 (.slice a1 n1 c1) n1 (ivs x.S) from hR7.sent)
      have k1 : w7.cell? ⟨g, 1, none⟩ = some (.slice a1 n1 c1) := hR7.box.cell 1
      have hs7 := hB7.size
      clear hR7 hB7 hm7 ho7 q4' e0 e1 e2 e3 e4 e5 hlb
      refine Lib.hid ?_
      go_wp2_with (at_builtin; refine wpList_append_own_at _ rfl _ _ 27 rfl w0.heap.size 3 i0 (.int .i64 0) 1 8 Tryz.underlying27 hi hz0 hz1 hz2 rfl (by decide) _ _ _ rfl (HO7.out.alloc _) ⟨w7.heap.size, 0, none⟩ 1 1 [.int .i64 q] rfl rfl (World.news_of_block (cs := #[.int .i64 q]) (t := 3) (fr := (0, 0)) (heap_alloc_new w7 _)) (by simp [Value.oneCell']) (by unfold maxLen; omega) (by omega) (by simp; omega) ?_; intro v4 w4 hown4 hgrow4 _ hat4; refine Hid.out ?_)
      rw [ivs_snoc] at hown4
      obtain ⟨g4, cp4, rfl, hg4, _⟩ := hown4.form (by omega)
      obtain ⟨hP, hBl, hbx4⟩ := H7.out.2.send (q := q) hown4 ((World.grownBy_alloc w7 _ _).trans hgrow4) (hat4.imp (fun e => e) (fun e b hb => by rw [e] at hb; have := Option.some.inj hb; simp at this; omega))
      have d2 : w4.cell? ⟨g, 1, none⟩ = some (.slice a1 n1 c1) := hbx4.cell 1
      have f2 : w4.frozen? ⟨g, 1, none⟩ = false := hbx4.frozen 1
      obtain ⟨W9, hW9⟩ : ∃ W9, w4.setCell ⟨g, 1, none⟩ (.slice (some ⟨g4, 0, none⟩) (n1 + 1) cp4) = W9 := ⟨_, rfl⟩
      rw [hW9] at hP hBl
      have H9 := Lib.hid (And.intro (H7.out.1.trans hBl) hP)
      clear hown4 hgrow4 hat4 hbx4 hP hBl k1
      refine Lib.hid ?_
      go_wp2
      rw [HST.out]
      exact bodyPost_ret (results_none rfl _ _ _) rfl ⟨rfl, H9.out.1, _, F', H9.out.2⟩
end Go.Proofs.YtmgeecdgebemdaaGreatDoor.exe
