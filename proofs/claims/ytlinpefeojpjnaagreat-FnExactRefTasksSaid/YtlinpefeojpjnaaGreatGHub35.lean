/- Several texts in one: ExeV. -/
import Derived.Test.YtlinpefeojpjnaaGreatGHub34
import Derived.Deep.RegionLaw
import Derived.Deep.RegionHeld3
import Derived.BigQuiet

/- Chapter 12 of the program: the methods set, sense and send of an execution: one step; nothing else that was there is written. -/
namespace Go.Proofs.YtlinpefeojpjnaaGreat.exe
open Go Go.ChangeShapes Go.WideShapes Go.ChangeAt Go.RowKit Go.Proofs.YtlinpefeojpjnaaGreat.row Go.Proofs.YtlinpefeojpjnaaGreat.val Go.Proofs.YtlinpefeojpjnaaGreat.expr Go.Proofs.YtlinpefeojpjnaaGreat.stm Go.Proofs.YtlinpefeojpjnaaGreat.blk Go.Proofs.YtlinpefeojpjnaaGreat.sets
theorem cell_putP {w : World} {b q o k : Nat} {u : Value} (h : b ≠ q) : (w.setCell ⟨q, k, none⟩ u).cell? ⟨b, o, none⟩ = w.cell? ⟨b, o, none⟩ :=
  World.cell?_of_block (w := w) (a := ⟨b, o, none⟩) (heap_setCell_other w ⟨q, k, none⟩ b u h)
theorem p_keep5 {w w' : World} {g b : Nat} {x0 x1 x2 x3 x4 : Value} (hb : Below w.heap.size w w') (hg : g < w.heap.size) (hbb : b < w.heap.size) (h : w.cell? ⟨g, 0, none⟩ = some x0 ∧ w.cell? ⟨b, 1, none⟩ = some x1 ∧ w.cell? ⟨b, 3, none⟩ = some x2 ∧ w.cell? ⟨b, 3 + 1, none⟩ = some x3 ∧ w.cell? ⟨b, 3 + 2, none⟩ = some x4) : w'.cell? ⟨g, 0, none⟩ = some x0 ∧ w'.cell? ⟨b, 1, none⟩ = some x1 ∧ w'.cell? ⟨b, 3, none⟩ = some x2 ∧ w'.cell? ⟨b, 3 + 1, none⟩ = some x3 ∧ w'.cell? ⟨b, 3 + 2, none⟩ = some x4 :=
  ⟨(hb.cell (p := ⟨g, 0, none⟩) hg).trans h.1, (hb.cell (p := ⟨b, 1, none⟩) hbb).trans h.2.1, (hb.cell (p := ⟨b, 3, none⟩) hbb).trans h.2.2.1, (hb.cell (p := ⟨b, 3 + 1, none⟩) hbb).trans h.2.2.2.1, (hb.cell (p := ⟨b, 3 + 2, none⟩) hbb).trans h.2.2.2.2⟩
theorem p_put5 {w : World} {g b q k : Nat} {x0 x1 x2 x3 x4 u : Value} (h1 : q ≠ g) (h2 : q ≠ b) (h : w.cell? ⟨g, 0, none⟩ = some x0 ∧ w.cell? ⟨b, 1, none⟩ = some x1 ∧ w.cell? ⟨b, 3, none⟩ = some x2 ∧ w.cell? ⟨b, 3 + 1, none⟩ = some x3 ∧ w.cell? ⟨b, 3 + 2, none⟩ = some x4) : (w.setCell ⟨q, k, none⟩ u).cell? ⟨g, 0, none⟩ = some x0 ∧ (w.setCell ⟨q, k, none⟩ u).cell? ⟨b, 1, none⟩ = some x1 ∧ (w.setCell ⟨q, k, none⟩ u).cell? ⟨b, 3, none⟩ = some x2 ∧ (w.setCell ⟨q, k, none⟩ u).cell? ⟨b, 3 + 1, none⟩ = some x3 ∧ (w.setCell ⟨q, k, none⟩ u).cell? ⟨b, 3 + 2, none⟩ = some x4 :=
  ⟨(cell_putP (Ne.symm h1)).trans h.1, (cell_putP (Ne.symm h2)).trans h.2.1, (cell_putP (Ne.symm h2)).trans h.2.2.1, (cell_putP (Ne.symm h2)).trans h.2.2.2.1, (cell_putP (Ne.symm h2)).trans h.2.2.2.2⟩
theorem p_put2 {w : World} {g b q k : Nat} {x0 x1 u : Value} (h1 : q ≠ g) (h2 : q ≠ b) (h : w.cell? ⟨g, 0, none⟩ = some x0 ∧ w.cell? ⟨b, 1, none⟩ = some x1) : (w.setCell ⟨q, k, none⟩ u).cell? ⟨g, 0, none⟩ = some x0 ∧ (w.setCell ⟨q, k, none⟩ u).cell? ⟨b, 1, none⟩ = some x1 :=
  ⟨(cell_putP (Ne.symm h1)).trans h.1, (cell_putP (Ne.symm h2)).trans h.2⟩
theorem p_put2d {w : World} {g b q k : Nat} {x0 x1 u : Value} (h1 : q ≠ g) (h2 : q ≠ b) (h : w.cell? ⟨g, 0, none⟩ = some x0 ∧ w.cell? ⟨b, 1, none⟩ = some x1) : (w.setCell ⟨q, k, none⟩ u).drew.cell? ⟨g, 0, none⟩ = some x0 ∧ (w.setCell ⟨q, k, none⟩ u).drew.cell? ⟨b, 1, none⟩ = some x1 := p_put2 h1 h2 h
theorem p_keep6 {w w' : World} {g b : Nat} {x0 x1 x2 x3 x4 : Value} (hb : Below w.heap.size w w') (hg : g < w.heap.size) (hbb : b < w.heap.size) (h : w.cell? ⟨g, 0, none⟩ = some x0 ∧ w.cell? ⟨g, 1, none⟩ = some x1 ∧ w.cell? ⟨b, 3, none⟩ = some x2 ∧ w.cell? ⟨b, 3 + 1, none⟩ = some x3 ∧ w.cell? ⟨b, 3 + 2, none⟩ = some x4) : w'.cell? ⟨g, 0, none⟩ = some x0 ∧ w'.cell? ⟨g, 1, none⟩ = some x1 ∧ w'.cell? ⟨b, 3, none⟩ = some x2 ∧ w'.cell? ⟨b, 3 + 1, none⟩ = some x3 ∧ w'.cell? ⟨b, 3 + 2, none⟩ = some x4 :=
  ⟨(hb.cell (p := ⟨g, 0, none⟩) hg).trans h.1, (hb.cell (p := ⟨g, 1, none⟩) hg).trans h.2.1, (hb.cell (p := ⟨b, 3, none⟩) hbb).trans h.2.2.1, (hb.cell (p := ⟨b, 3 + 1, none⟩) hbb).trans h.2.2.2.1, (hb.cell (p := ⟨b, 3 + 2, none⟩) hbb).trans h.2.2.2.2⟩
theorem p_keepg {w w' : World} {g b : Nat} {r : Option Nat} {x0 x1 x2 x3 x4 : Value} (hgr : w.grownBy w' r) (h1 : r ≠ some g) (h2 : r ≠ some b) (hg : g < w.heap.size) (hbb : b < w.heap.size) (h : w.cell? ⟨g, 0, none⟩ = some x0 ∧ w.cell? ⟨g, 1, none⟩ = some x1 ∧ w.cell? ⟨b, 3, none⟩ = some x2 ∧ w.cell? ⟨b, 3 + 1, none⟩ = some x3 ∧ w.cell? ⟨b, 3 + 2, none⟩ = some x4) : w'.cell? ⟨g, 0, none⟩ = some x0 ∧ w'.cell? ⟨g, 1, none⟩ = some x1 ∧ w'.cell? ⟨b, 3, none⟩ = some x2 ∧ w'.cell? ⟨b, 3 + 1, none⟩ = some x3 ∧ w'.cell? ⟨b, 3 + 2, none⟩ = some x4 :=
  ⟨(World.cell?_of_block (a := ⟨g, 0, none⟩) (hgr.block g hg (fun e => h1 e.symm))).trans h.1, (World.cell?_of_block (a := ⟨g, 1, none⟩) (hgr.block g hg (fun e => h1 e.symm))).trans h.2.1, (World.cell?_of_block (a := ⟨b, 3, none⟩) (hgr.block b hbb (fun e => h2 e.symm))).trans h.2.2.1, (World.cell?_of_block (a := ⟨b, 3 + 1, none⟩) (hgr.block b hbb (fun e => h2 e.symm))).trans h.2.2.2.1, (World.cell?_of_block (a := ⟨b, 3 + 2, none⟩) (hgr.block b hbb (fun e => h2 e.symm))).trans h.2.2.2.2⟩
abbrev stmA (s : Sm) : Array Value := #[.int .i64 s.k, .int .i64 s.v, .int .i64 s.n, .int .i64 s.o, .int .i64 s.a, .int .i64 s.b]
/-- The execution behind the pointer has come to the state 'y'. -/
def MOut (w0 : World) (g : Nat) (c : PCf) (y : Sx) (e : Ending) (w' : World) : Prop := e = .returned (.tuple #[]) ∧ Below w0.heap.size w0 w' ∧ Px w0.heap.size g c y w'
theorem eval_isP (w : World) (ad : Option Addr) (n cap : Nat) (V : List Int) (hn : (n : Int) ≤ 1048576) (h : Row w ad n V) (o a b q : Int) (hq : evalV V o a b = q) :
    Calls Tryz.prog 76 #[.slice ad n cap, ev o a b] w (BelI w q) := by
  rw [← hq]; exact impl_evalExpr w ad n cap V hn h o a b
set_option maxHeartbeats 4000000 in
set_option maxRecDepth 100000 in
theorem impl_set (w0 w : World) (c : PCf) (g : Nat) (x : Sx) (s : Sm) (hs : stOk s = true) (hk : s.k = 1) (hB : Below w0.heap.size w0 w) (hR : Px w0.heap.size g c x w) (ab : Option Addr) (nb cb : Nat) :
    Calls Tryz.prog 97 #[.pointer (some ⟨g, 0, none⟩), .agg (stmA s), .slice ab nb cb] w (MOut w0 g c (step1 c.src s x)) := by
  obtain ⟨gv, cv, a1, n1, c1, a2, n2, c2, hr⟩ := hR
  obtain ⟨W, hW⟩ : ∃ W, w.alloc (.cells (stmA s) 100) = W := ⟨_, rfl⟩
  have hbW : Below w.heap.size w W := by rw [← hW]; exact below_new w _
  have hbx : Box w.heap.size (stmA s) 100 W := by rw [← hW]; exact Box.new w _ _
  have hgl := hr.box.lt
  have hvl := hr.gvB
  have HW := Lib.hid hW
  obtain ⟨u, hu, hu8⟩ : ∃ u : Nat, s.v = u ∧ u < 8 := by have := st_var hs (.inl hk); exact ⟨s.v.toNat, by omega, by omega⟩
  obtain ⟨q, hq⟩ : ∃ q, evalV x.V s.o s.a s.b = q := ⟨_, rfl⟩
  have HEV := Lib.hid (show ∀ w', Row w' (some ⟨gv, 0, none⟩) 8 x.V → Calls Tryz.prog 76 #[.slice (some ⟨gv, 0, none⟩) 8 cv, ev s.o s.a s.b] w' (BelI w' q) from fun w' h => eval_isP w' _ 8 cv x.V (by decide) h _ _ _ q hq)
  have HST := Lib.hid (show step1 c.src s x = ⟨x.V.set u q, x.S, x.U⟩ by rw [step_set _ hk, hq, hu]; rfl)
  have HRD := Lib.hid ((hr.below hbW).below (Below.drew (Below.refl _ W)))
  have HBD := Lib.hid ((hB.trans (hbW.mono hB.size)).trans ((Below.drew (Below.refl _ W)).mono (hB.trans (hbW.mono hB.size)).size))
  have cS : W.drew.cell? ⟨g, 0, none⟩ = some (.slice (some ⟨gv, 0, none⟩) 8 cv) ∧ W.drew.cell? ⟨w.heap.size, 1, none⟩ = some (.int .i64 (u : Int)) ∧ W.drew.cell? ⟨w.heap.size, 3, none⟩ = some (.int .i64 s.o) ∧ W.drew.cell? ⟨w.heap.size, 3 + 1, none⟩ = some (.int .i64 s.a) ∧ W.drew.cell? ⟨w.heap.size, 3 + 2, none⟩ = some (.int .i64 s.b) :=
    ⟨HRD.out.box.cell 0, by rw [← hu]; exact hbx.cell 1, hbx.cell 3, hbx.cell 4, hbx.cell 5⟩
  have hq5 : w.heap.size < W.drew.heap.size := hbx.lt
  have hqg : g < W.drew.heap.size := Nat.lt_of_lt_of_le hgl hbW.size
  obtain ⟨X, hX⟩ : ∃ X, (ivs x.V)[u]? = some (.int .i64 X) := ⟨x.V[u]'(by have := own_len HRD.out.vars; omega), by simp [ivs, show u < x.V.length by have := own_len HRD.out.vars; omega]⟩
  have hvg : gv ≠ g := HRD.out.vg
  have hvb : gv ≠ w.heap.size := by omega
  have hu0 : (0 : Int) ≤ (u : Int) := by omega
  have hu9 : (u : Int) < 8 := by omega
  clear hs hk hB hr hW hbW hbx hu hq
  go_enter Tryz.func97, Tryz.ntmps97
  go_wp2
  rw [HW.out]
  go_region_held3 (fun w' => w'.cell? ⟨g, 0, none⟩ = some (.slice (some ⟨gv, 0, none⟩) 8 cv) ∧ w'.cell? ⟨w.heap.size, 1, none⟩ = some (.int .i64 (u : Int)) ∧ w'.cell? ⟨w.heap.size, 3, none⟩ = some (.int .i64 s.o) ∧ w'.cell? ⟨w.heap.size, 3 + 1, none⟩ = some (.int .i64 s.a) ∧ w'.cell? ⟨w.heap.size, 3 + 2, none⟩ = some (.int .i64 s.b))
    (first
      | (with_reducible exact p_put5 hvg hvb sX)
      | (with_reducible exact cS)
      | (with_reducible exact sX))
    (first
      | (go_at_call 76; (with_reducible refine (HEV.out _ HRD.out.vrow).mono ?_); rintro e w6 ⟨rfl, hb6⟩; have sX := p_keep5 hb6 hqg hq5 cS; have hR6 := HRD.out.below hb6; have cX := (hR6.vars.cellAt u (by simpa using hu8)).trans hX; have fX := hR6.vars.frozenAt u))
  all_goals
    have hNew := hR6.set u q
    have hBn := (HBD.out.trans (hb6.mono HBD.out.size)).grown (grown_setCell w6 gv u (.int .i64 q)) (Nat.le_trans HBD.out.size hb6.size) (fun k hk9 => by cases hk9; exact HRD.out.gvB.1)
    obtain ⟨W9, hW9⟩ : ∃ W9, w6.setCell ⟨gv, u, none⟩ (.int .i64 q) = W9 := ⟨_, rfl⟩
    rw [hW9] at hNew hBn ⊢
    have H9 := Lib.hid (And.intro hBn hNew)
    clear hW9 hBn hNew hR6 cX fX sX cS hb6 hX
    refine Lib.hid ?_
    go_wp2
    exact ⟨_, results_none rfl _ _ _, rfl, H9.out.1, by rw [HST.out]; exact ⟨_, _, _, _, _, _, _, _, H9.out.2⟩⟩
set_option maxHeartbeats 8000000 in
set_option maxRecDepth 100000 in
theorem impl_sense (w0 w : World) (c : PCf) (hc : PCfAt c w0) (g : Nat) (x : Sx) (s : Sm) (hs : stOk s = true) (hk : s.k = 2) (hn : x.U.length ≤ 100000) (hB : Below w0.heap.size w0 w) (hR : Px w0.heap.size g c x w) (ab : Option Addr) (nb cb : Nat) :
    Calls Tryz.prog 98 #[.pointer (some ⟨g, 0, none⟩), .agg (stmA s), .slice ab nb cb] w (MOut w0 g c (step1 c.src s x)) := by
  obtain ⟨i0, hi, hz0, hz1, hz2⟩ := info_parts row.infoInt
  obtain ⟨gv, cv, a1, n1, c1, a2, n2, c2, hr⟩ := hR
  obtain ⟨W, hW⟩ : ∃ W, w.alloc (.cells (stmA s) 100) = W := ⟨_, rfl⟩
  have hbW : Below w.heap.size w W := by rw [← hW]; exact below_new w _
  have hbx0 : Box w.heap.size (stmA s) 100 W := by rw [← hW]; exact Box.new w _ _
  have hgl := hr.box.lt
  have hvl := hr.gvB
  have hul : ∀ k, (Value.slice a2 n2 c2).ownBlock = some k → k < w.heap.size := fun k hk => (own_block hr.used k hk).2
  have HW := Lib.hid hW
  obtain ⟨u, hu, hu8⟩ : ∃ u : Nat, s.v = u ∧ u < 8 := by have := st_var hs (.inr hk); exact ⟨s.v.toNat, by omega, by omega⟩
  obtain ⟨q, hq⟩ : ∃ q, c.src s.n n2 = q := ⟨_, rfl⟩
  have hun : x.U.length = n2 := hr.ulen
  have hn2 : n2 ≤ 100000 := by omega
  have HST := Lib.hid (show step1 c.src s x = ⟨x.V.set u q, x.S, x.U ++ [q]⟩ by rw [step_sense _ hk, hun, hq, hu]; rfl)
  have HRW := Lib.hid (hr.below hbW)
  have hBW : Below w0.heap.size w0 W := hB.trans (hbW.mono hB.size)
  have hcW : PCfAt c W := hc.below hBW
  have hBw : w0.heap.size ≤ W.heap.size := hBW.size
  have hgW : g < W.heap.size := Nat.lt_of_lt_of_le hgl hbW.size
  obtain ⟨X, hX⟩ : ∃ X, (ivs x.V)[u]? = some (.int .i64 X) := ⟨x.V[u]'(by have := own_len HRW.out.vars; omega), by simp [ivs, show u < x.V.length by have := own_len HRW.out.vars; omega]⟩
  have hvg : gv ≠ g := HRW.out.vg
  have hvb : gv ≠ w.heap.size := by omega
  have hbg : w.heap.size ≠ g := by omega
  have hbu : (Value.slice a2 n2 c2).ownBlock ≠ some w.heap.size := fun e => by have := hul _ e; omega
  have hu0 : (0 : Int) ≤ (u : Int) := by omega
  have hu9 : (u : Int) < 8 := by omega
  have ck1 : W.cell? ⟨w.heap.size, 2, none⟩ = some (.int .i64 s.n) := hbx0.cell 2
  have ck2 : W.cell? ⟨g, 2, none⟩ = some (.slice a2 n2 c2) := HRW.out.box.cell 2
  have fin : Hid (∀ (W' : World) (a3 : Option Addr) (c3 : Nat), (∃ (d : Nat) (o : Obj), W'.ownsRow w0.heap.size 3 1 (.slice a3 (n2 + 1) c3) (n2 + 1) (ivs (x.U ++ [q])) ∧ (W.drewN d |>.alloc o).grownBy W' (Value.slice a2 n2 c2).ownBlock ∧ ((Value.slice a3 (n2 + 1) c3).ownBlock = (Value.slice a2 n2 c2).ownBlock ∨ (Value.slice a3 (n2 + 1) c3).ownBlock = some (W.heap.size + 1))) →
      Box g (pxC gv cv a1 n1 c1 a2 n2 c2 c) 95 W' ∧
      (Below w0.heap.size w0 (W'.setCell ⟨g, 2, none⟩ (.slice a3 (n2 + 1) c3)) ∧ PxAt w0.heap.size g gv cv a1 n1 c1 a3 (n2 + 1) c3 c ⟨x.V, x.S, x.U ++ [q]⟩ (W'.setCell ⟨g, 2, none⟩ (.slice a3 (n2 + 1) c3)) ∧ Box w.heap.size (stmA s) 100 (W'.setCell ⟨g, 2, none⟩ (.slice a3 (n2 + 1) c3)))) := by
    rintro W' a3 c3 ⟨d, o, ho, hg, hat⟩
    have hg2 : W.grownBy W' (Value.slice a2 n2 c2).ownBlock := (World.grownBy.trans (show W.grownBy (W.drewN d) _ from ⟨rfl, rfl, rfl, Nat.le_refl _, fun _ _ _ => rfl⟩) (World.grownBy_alloc (W.drewN d) o _)).trans hg
    have hr := HRW.out.sense (q := q) ho hg2 (hat.imp id (fun e b hb => by rw [e] at hb; cases hb; omega))
    have h1 : Below w0.heap.size w0 W' := hBW.grown hg2 hBw (fun k hk => (own_block HRW.out.used k hk).1)
    exact ⟨HRW.out.box.grown hg2 (fun e => HRW.out.ug e.symm), h1.grown (grown_setCell W' g 2 _) (Nat.le_trans hBw hg2.size) (fun k hk => by cases hk; exact HRW.out.low), hr, (hbx0.grown hg2 (fun e => hbu e.symm)).grown (grown_setCell W' g 2 _) (fun e => hbg (Option.some.inj e))⟩
  clear hs hk hB hr hW hbW hbx0 hun hBW hn hc hul
  cases hlv : c.lv
  · have hfn : c.fn = fnT c.gu := by unfold PCf.fn; rw [hlv]; rfl
    have ck3 : W.cell? ⟨g, 3, none⟩ = some (fnT c.gu) := by rw [← hfn]; exact HRW.out.box.cell 3
    have HQ := Lib.hid (show ∀ m, Calls Tryz.prog 62 #[.int .i64 s.n, .int .i64 n2, .pointer (some ⟨c.gu, 0, none⟩)] (W.drewN m) fun e w' => e = .returned (.int .i64 q) ∧ w' = W.drewN m from fun m => (rd_list (W.drewN m) c hlv (hcW.below (below_drewN (Below.refl _ W) m)) s.n n2 q hq).mono fun _ _ ⟨h1, h2⟩ => ⟨h1, h2.symm⟩)
    clear hfn hlv hq hcW
    go_enter Tryz.func98, Tryz.ntmps98
    go_wp2
    rw [HW.out]
    go_quiet ((first | (go_at_call 62; with_reducible exact Calls.quiet_of_same (HQ.out _))))
    clear ck1 ck3
    go_wp2_with (at_builtin; refine wpList_append_own_at _ rfl _ _ 25 rfl w0.heap.size 3 i0 (.int .i64 0) 1 8 Tryz.underlying25 hi hz0 hz1 hz2 rfl (by decide) _ _ _ rfl ((HRW.out.used.kept (grown_below (below_drewN (Below.refl _ W) _) none) (by cases a2 <;> simp [Value.ownBlock])).alloc _) ⟨W.heap.size, 0, none⟩ 1 1 [.int .i64 q] rfl rfl (World.news_of_block (cs := #[.int .i64 q]) (t := 3) (fr := (0, 0)) (heap_alloc_new (W.drewN _) _)) (by simp [Value.oneCell']) (by unfold maxLen; omega) (by omega) (by simp; omega) ?_; intro v4 w4 hown4 hgrow4 _ hat4; refine Hid.out ?_)
    rw [ivs_snoc] at hown4
    obtain ⟨g4, cp4, rfl, hg4, _⟩ := hown4.form (by omega)
    obtain ⟨hbx, hfin⟩ := fin.out w4 _ _ ⟨_, _, hown4, hgrow4, hat4.imp (fun e => e) (fun e => by simpa using e)⟩
    have d2 : w4.cell? ⟨g, 2, none⟩ = some (.slice a2 n2 c2) := hbx.cell 2
    have f2 : w4.frozen? ⟨g, 2, none⟩ = false := hbx.frozen 2
    have HF := Lib.hid hfin
    clear hown4 hgrow4 hat4 hbx hfin fin
    refine Lib.hid ?_
    go_wp2
    obtain ⟨W5, hW5⟩ : ∃ W5, w4.setCell ⟨g, 2, none⟩ (.slice (some ⟨g4, 0, none⟩) (n2 + 1) cp4) = W5 := ⟨_, rfl⟩
    have h5 := HF.out
    rw [hW5] at h5 ⊢
    have H5 := Lib.hid h5
    clear h5 hW5 d2 f2 HF ck2
    have hR5 := H5.out.2.1
    have cS0 : W5.cell? ⟨g, 0, none⟩ = some (.slice (some ⟨gv, 0, none⟩) 8 cv) ∧ W5.cell? ⟨w.heap.size, 1, none⟩ = some (.int .i64 (u : Int)) := ⟨hR5.box.cell 0, by rw [← hu]; exact H5.out.2.2.cell 1⟩
    have cS : W5.drew.cell? ⟨g, 0, none⟩ = some (.slice (some ⟨gv, 0, none⟩) 8 cv) ∧ W5.drew.cell? ⟨w.heap.size, 1, none⟩ = some (.int .i64 (u : Int)) := cS0
    have cX : W5.cell? ⟨gv, u, none⟩ = some (.int .i64 X) := (hR5.vars.cellAt u (by simpa using hu8)).trans hX
    have fX : W5.frozen? ⟨gv, u, none⟩ = false := hR5.vars.frozenAt u
    go_region_held3 (fun w' => w'.cell? ⟨g, 0, none⟩ = some (.slice (some ⟨gv, 0, none⟩) 8 cv) ∧ w'.cell? ⟨w.heap.size, 1, none⟩ = some (.int .i64 (u : Int)))
      (first
        | (with_reducible exact p_put2d hvg hvb cS0)
        | (with_reducible exact cS)
        | (with_reducible exact cS0))
      (fail)
    all_goals
      have hNew := (hR5.set u q).below (Below.drew (Below.refl _ _))
      have hBn := (H5.out.1.grown (grown_setCell W5 gv u (.int .i64 q)) H5.out.1.size (fun k hk9 => by cases hk9; exact hR5.gvB.1)).drew
      obtain ⟨W9, hW9⟩ : ∃ W9, (W5.setCell ⟨gv, u, none⟩ (.int .i64 q)).drew = W9 := ⟨_, rfl⟩
      rw [hW9] at hNew hBn ⊢
      have H9 := Lib.hid (And.intro hBn hNew)
      clear hW9 hBn hNew hR5 cX fX cS cS0 hX
      refine Lib.hid ?_
      go_wp2
      exact ⟨_, results_none rfl _ _ _, rfl, H9.out.1, by rw [HST.out]; exact ⟨_, _, _, _, _, _, _, _, H9.out.2⟩⟩
  · exact ((hcW.2.1 hlv).1 : False).elim
set_option maxHeartbeats 8000000 in
set_option maxRecDepth 100000 in
theorem impl_send (w0 w : World) (c : PCf) (g : Nat) (x : Sx) (s : Sm) (hk : s.k = 3) (hn : x.S.length ≤ 100000) (hB : Below w0.heap.size w0 w) (hR : Px w0.heap.size g c x w) (ab : Option Addr) (nb cb : Nat) :
    Calls Tryz.prog 99 #[.pointer (some ⟨g, 0, none⟩), .agg (stmA s), .slice ab nb cb] w (MOut w0 g c (step1 c.src s x)) := by
  obtain ⟨i0, hi, hz0, hz1, hz2⟩ := info_parts row.infoInt
  obtain ⟨gv, cv, a1, n1, c1, a2, n2, c2, hr⟩ := hR
  obtain ⟨W, hW⟩ : ∃ W, w.alloc (.cells (stmA s) 100) = W := ⟨_, rfl⟩
  have hbW : Below w.heap.size w W := by rw [← hW]; exact below_new w _
  have hbx : Box w.heap.size (stmA s) 100 W := by rw [← hW]; exact Box.new w _ _
  have hgl := hr.box.lt
  have hsl : ∀ k, (Value.slice a1 n1 c1).ownBlock = some k → k < w.heap.size := fun k hk => (own_block hr.sent k hk).2
  have HW := Lib.hid hW
  obtain ⟨q, hq⟩ : ∃ q, evalV x.V s.o s.a s.b = q := ⟨_, rfl⟩
  have HEV := Lib.hid (show ∀ w', Row w' (some ⟨gv, 0, none⟩) 8 x.V → Calls Tryz.prog 76 #[.slice (some ⟨gv, 0, none⟩) 8 cv, ev s.o s.a s.b] w' (BelI w' q) from fun w' h => eval_isP w' _ 8 cv x.V (by decide) h _ _ _ q hq)
  have HST := Lib.hid (show step1 c.src s x = ⟨x.V, x.S ++ [q], x.U⟩ by rw [step_send _ hk, hq])
  have hsn : x.S.length = n1 := hr.slen
  have hn1 : n1 ≤ 100000 := by omega
  have HRD := Lib.hid ((hr.below hbW).below (Below.drew (Below.refl _ W)))
  have HBD := Lib.hid ((hB.trans (hbW.mono hB.size)).trans ((Below.drew (Below.refl _ W)).mono (hB.trans (hbW.mono hB.size)).size))
  have cS : W.drew.cell? ⟨g, 0, none⟩ = some (.slice (some ⟨gv, 0, none⟩) 8 cv) ∧ W.drew.cell? ⟨g, 1, none⟩ = some (.slice a1 n1 c1) ∧ W.drew.cell? ⟨w.heap.size, 3, none⟩ = some (.int .i64 s.o) ∧ W.drew.cell? ⟨w.heap.size, 3 + 1, none⟩ = some (.int .i64 s.a) ∧ W.drew.cell? ⟨w.heap.size, 3 + 2, none⟩ = some (.int .i64 s.b) :=
    ⟨HRD.out.box.cell 0, HRD.out.box.cell 1, hbx.cell 3, hbx.cell 4, hbx.cell 5⟩
  have hq5 : w.heap.size < W.drew.heap.size := hbx.lt
  have hqg : g < W.drew.heap.size := Nat.lt_of_lt_of_le hgl hbW.size
  have hsg : (Value.slice a1 n1 c1).ownBlock ≠ some g := HRD.out.sg
  have hsb : (Value.slice a1 n1 c1).ownBlock ≠ some w.heap.size := fun e => by have := hsl _ e; omega
  have hBw5 : w0.heap.size ≤ W.drew.heap.size := HBD.out.size
  obtain ⟨sw0, sw1, sw2, sw3, sw4⟩ := id cS
  clear hk hB hr hW hbW hbx hq hn hsl
  go_enter Tryz.func99, Tryz.ntmps99
  go_wp2
  rw [HW.out]
  go_region_law (first
      | (go_simp; go_at_call 76; (with_reducible refine (HEV.out _ HRD.out.vrow).mono ?_); rintro e w6 ⟨rfl, hb6⟩; obtain ⟨sx0, sx1, sx2, sx3, sx4⟩ := p_keep6 hb6 hqg hq5 cS; have sX := p_keep6 hb6 hqg hq5 cS; have hR6 := HRD.out.below hb6; have hs6 := hb6.size; obtain ⟨sy0, sy1, sy2, sy3, sy4⟩ := p_keep6 (below_new w6 (.cells #[.int .i64 q] 3)) (Nat.lt_of_lt_of_le hqg hs6) (Nat.lt_of_lt_of_le hq5 hs6) sX; have sY := p_keep6 (below_new w6 (.cells #[.int .i64 q] 3)) (Nat.lt_of_lt_of_le hqg hs6) (Nat.lt_of_lt_of_le hq5 hs6) sX)
      | ((refine step_append_lies _ (by rfl) _ _ _ (by rfl) w0.heap.size 3 i0 (.int .i64 0) 1 8 Tryz.underlying25 hi hz0 hz1 hz2 rfl (by decide) _ n1 _ (by rfl) (hR6.sent.alloc (.cells #[.int .i64 q] 3)) ⟨w6.heap.size, 0, none⟩ 1 1 [.int .i64 q] (by rfl) (by rfl) (World.news_of_block (cs := #[.int .i64 q]) (t := 3) (fr := (0, 0)) (heap_alloc_new w6 _)) (by simp [Value.oneCell']) (by omega) (by unfold maxLen; omega) (by omega) (by simp; omega) (w6.heap.size + 1) (by simp) ?_); intro g7 c7 w7 hown7 hgrow7 hat7 hlt7; obtain ⟨sz0, sz1, sz2, sz3, sz4⟩ := p_keepg hgrow7 hsg hsb (by simp; omega) (by simp; omega) sY; have sZ := p_keepg hgrow7 hsg hsb (by simp; omega) (by simp; omega) sY; have fZ := ((hR6.box.alloc (.cells #[.int .i64 q] 3)).grown hgrow7 (fun e => hsg e.symm)).frozen 1))
  all_goals
    have hNew := (hR6.below (below_new w6 (.cells #[.int .i64 q] 3))).send (q := q) (a3 := some ⟨g7, 0, none⟩) (c3 := c7) (by have h9 := hown7; rw [ivs_snoc] at h9; exact h9) hgrow7 (hat7.imp (fun e => e.symm) (fun e b hb => by have h8 : some g7 = some b := hb; have h9 := Option.some.inj h8; simp; omega))
    have hBn := (((HBD.out.trans (hb6.mono HBD.out.size)).trans ((below_new w6 (.cells #[.int .i64 q] 3)).mono (Nat.le_trans HBD.out.size hb6.size))).grown hgrow7 (by simp; omega) (fun k hk9 => (own_block HRD.out.sent k hk9).1)).grown (grown_setCell w7 g 1 (.slice (some ⟨g7, 0, none⟩) (n1 + 1) c7)) (by have h8 := hgrow7.size; simp at h8; omega) (fun k hk9 => by cases hk9; exact HRD.out.low)
    obtain ⟨W9, hW9⟩ : ∃ W9, w7.setCell ⟨g, 1, none⟩ (.slice (some ⟨g7, 0, none⟩) (n1 + 1) c7) = W9 := ⟨_, rfl⟩
    rw [hW9] at hNew hBn ⊢
    have H9 := Lib.hid (And.intro hBn hNew)
    clear hW9 hBn hNew hR6 hown7 hgrow7 hat7 hlt7 sX sY sZ fZ sw0 sw1 sw2 sw3 sw4 sx0 sx1 sx2 sx3 sx4 sy0 sy1 sy2 sy3 sy4 sz0 sz1 sz2 sz3 sz4 cS hb6
    refine Lib.hid ?_
    go_wp2
    exact ⟨_, results_none rfl _ _ _, rfl, H9.out.1, by rw [HST.out]; exact ⟨_, _, _, _, _, _, _, _, H9.out.2⟩⟩
end Go.Proofs.YtlinpefeojpjnaaGreat.exe
