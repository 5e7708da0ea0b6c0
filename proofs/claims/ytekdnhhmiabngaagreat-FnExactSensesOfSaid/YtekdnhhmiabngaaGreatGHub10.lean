/- Several texts in one: ExeR ExeS BlkE BlkC. -/
import Derived.Test.YtekdnhhmiabngaaGreatGHub9
import Derived.Deep.AppendLies
import Derived.BigQuiet
import Derived.Test.YtekdnhhmiabngaaGreatGHub8
import Derived.Test.YtekdnhhmiabngaaGreatGHub3
import Derived.Test.YtekdnhhmiabngaaGreatGHub2

/- The state of an execution in memory: a struct that holds three rows of its own (the variables, what is sent, what is sensed); nothing else that was there is written. -/
namespace Go.Proofs.YtekdnhhmiabngaaGreat.exe
open Go Go.ChangeShapes Go.WideShapes Go.ChangeAt Go.RowKit Go.Proofs.YtekdnhhmiabngaaGreat.row Go.Proofs.YtekdnhhmiabngaaGreat.val Go.Proofs.YtekdnhhmiabngaaGreat.expr Go.Proofs.YtekdnhhmiabngaaGreat.stm Go.Proofs.YtekdnhhmiabngaaGreat.blk Go.Proofs.YtekdnhhmiabngaaGreat.prg

/-- What an execution is given: the senses, or the readings and the number of the first one. -/
structure Cfg where
  (al : Option Addr) (nl cl : Nat) (Y : List Int)
  (ar : Option Addr) (nr cr : Nat) (R : List Int)
  (z : Int) (lv : Bool)
def Cfg.src (c : Cfg) : Int → Nat → Int := if c.lv then liveSrc c.R c.z else listSrc c.Y
/-- The rows that it is given are there, and the senses are values. -/
def CfgAt (c : Cfg) (w : World) : Prop := Row w c.al c.nl c.Y ∧ Row w c.ar c.nr c.R ∧ (c.nl : Int) ≤ 1048576 ∧ (c.nr : Int) ≤ 1048576 ∧ (0 ≤ c.z ∧ c.z ≤ 1000000) ∧ allV c.Y = true
theorem CfgAt.below {c : Cfg} {w w' : World} (h : CfgAt c w) (hb : Below w.heap.size w w') : CfgAt c w' := ⟨h.1.below hb, h.2.1.below hb, h.2.2⟩
theorem Cfg.src_val {c : Cfg} {w : World} (h : CfgAt c w) (q : Int) (n : Nat) : isVal (c.src q n) = true := by
  unfold Cfg.src
  split
  · exact liveSrc_val _ _ _ _
  · exact listSrc_val h.2.2.2.2.2 _ _
def rnC (gv cv : Nat) (a1 : Option Addr) (n1 c1 : Nat) (a2 : Option Addr) (n2 c2 : Nat) (c : Cfg) : Array Value :=
  #[.slice (some ⟨gv, 0, none⟩) 8 cv, .slice a1 n1 c1, .slice a2 n2 c2, .slice c.al c.nl c.cl, .slice c.ar c.nr c.cr, .int .i64 c.z, .bool c.lv]
/-- The block 'g' holds the state 'x'; its rows lie in new memory. -/
structure RnAt (B g gv cv : Nat) (a1 : Option Addr) (n1 c1 : Nat) (a2 : Option Addr) (n2 c2 : Nat) (c : Cfg) (x : Sx) (w : World) : Prop where
  box : Box g (rnC gv cv a1 n1 c1 a2 n2 c2 c) 102 w
  low : B ≤ g
  vars : w.ownsRow B 3 1 (.slice (some ⟨gv, 0, none⟩) 8 cv) 8 (ivs x.V)
  sent : w.ownsRow B 3 1 (.slice a1 n1 c1) n1 (ivs x.S)
  used : w.ownsRow B 3 1 (.slice a2 n2 c2) n2 (ivs x.U)
  vg : gv ≠ g
  sg : (Value.slice a1 n1 c1).ownBlock ≠ some g
  ug : (Value.slice a2 n2 c2).ownBlock ≠ some g
  sv : (Value.slice a1 n1 c1).ownBlock ≠ some gv
  uv : (Value.slice a2 n2 c2).ownBlock ≠ some gv
  su : (Value.slice a1 n1 c1).ownBlock = none ∨ (Value.slice a1 n1 c1).ownBlock ≠ (Value.slice a2 n2 c2).ownBlock
def Rn (B g : Nat) (c : Cfg) (x : Sx) (w : World) : Prop := ∃ (gv cv : Nat) (a1 : Option Addr) (n1 c1 : Nat) (a2 : Option Addr) (n2 c2 : Nat), RnAt B g gv cv a1 n1 c1 a2 n2 c2 c x w
theorem ne_or {v : Value} {q : Nat} (h : v.ownBlock ≠ some q) : v.ownBlock = none ∨ v.ownBlock ≠ some q := .inr h
theorem RnAt.below {B g gv cv : Nat} {a1 : Option Addr} {n1 c1 : Nat} {a2 : Option Addr} {n2 c2 : Nat} {c : Cfg} {x : Sx} {w w' : World} (h : RnAt B g gv cv a1 n1 c1 a2 n2 c2 c x w) (hb : Below w.heap.size w w') : RnAt B g gv cv a1 n1 c1 a2 n2 c2 c x w' :=
  ⟨h.box.below hb, h.low, h.vars.kept (grown_below hb none) (.inr (by simp [Value.ownBlock])), h.sent.kept (grown_below hb none) (by cases a1 <;> simp [Value.ownBlock]), h.used.kept (grown_below hb none) (by cases a2 <;> simp [Value.ownBlock]), h.vg, h.sg, h.ug, h.sv, h.uv, h.su⟩
theorem RnAt.vrow {B g gv cv : Nat} {a1 : Option Addr} {n1 c1 : Nat} {a2 : Option Addr} {n2 c2 : Nat} {c : Cfg} {x : Sx} {w : World} (h : RnAt B g gv cv a1 n1 c1 a2 n2 c2 c x w) : Row w (some ⟨gv, 0, none⟩) 8 x.V := Row.of_own h.vars
theorem RnAt.slen {B g gv cv : Nat} {a1 : Option Addr} {n1 c1 : Nat} {a2 : Option Addr} {n2 c2 : Nat} {c : Cfg} {x : Sx} {w : World} (h : RnAt B g gv cv a1 n1 c1 a2 n2 c2 c x w) : x.S.length = n1 := own_len h.sent
theorem RnAt.ulen {B g gv cv : Nat} {a1 : Option Addr} {n1 c1 : Nat} {a2 : Option Addr} {n2 c2 : Nat} {c : Cfg} {x : Sx} {w : World} (h : RnAt B g gv cv a1 n1 c1 a2 n2 c2 c x w) : x.U.length = n2 := own_len h.used
/-- A variable is set. -/
theorem RnAt.set {B g gv cv : Nat} {a1 : Option Addr} {n1 c1 : Nat} {a2 : Option Addr} {n2 c2 : Nat} {c : Cfg} {x : Sx} {w : World} (h : RnAt B g gv cv a1 n1 c1 a2 n2 c2 c x w) (k : Nat) (q : Int) :
    RnAt B g gv cv a1 n1 c1 a2 n2 c2 c ⟨x.V.set k q, x.S, x.U⟩ (w.setCell ⟨gv, k, none⟩ (.int .i64 q)) where
  box := h.box.grown (grown_setCell w gv k _) (fun e => h.vg (Option.some.inj e).symm)
  low := h.low
  vars := by have := (h.vars.stored k (.int .i64 q)).1; rw [ivs_set] at this; exact this
  sent := h.sent.kept (grown_setCell w gv k _) (ne_or h.sv)
  used := h.used.kept (grown_setCell w gv k _) (ne_or h.uv)
  vg := h.vg
  sg := h.sg
  ug := h.ug
  sv := h.sv
  uv := h.uv
  su := h.su
theorem RnAt.gvB {B g gv cv : Nat} {a1 : Option Addr} {n1 c1 : Nat} {a2 : Option Addr} {n2 c2 : Nat} {c : Cfg} {x : Sx} {w : World} (h : RnAt B g gv cv a1 n1 c1 a2 n2 c2 c x w) : B ≤ gv ∧ gv < w.heap.size := own_block h.vars gv rfl
/-- Sent: the row of sent values has grown to a row 'v', and the struct holds it. -/
theorem RnAt.send {B g gv cv : Nat} {a1 : Option Addr} {n1 c1 : Nat} {a2 : Option Addr} {n2 c2 : Nat} {c : Cfg} {x : Sx} {w w' : World} (h : RnAt B g gv cv a1 n1 c1 a2 n2 c2 c x w) {q : Int} {a3 : Option Addr} {c3 : Nat}
    (ho : w'.ownsRow B 3 1 (.slice a3 (n1 + 1) c3) (n1 + 1) (ivs (x.S ++ [q]))) (hg : w.grownBy w' (Value.slice a1 n1 c1).ownBlock) (hat : (Value.slice a3 (n1 + 1) c3).ownBlock = (Value.slice a1 n1 c1).ownBlock ∨ ∀ b, (Value.slice a3 (n1 + 1) c3).ownBlock = some b → w.heap.size ≤ b) :
    RnAt B g gv cv a3 (n1 + 1) c3 a2 n2 c2 c ⟨x.V, x.S ++ [q], x.U⟩ (w'.setCell ⟨g, 1, none⟩ (.slice a3 (n1 + 1) c3)) := by
  have hgs := h.box.lt
  have hne : ∀ b, b < w.heap.size → (Value.slice a1 n1 c1).ownBlock ≠ some b → (Value.slice a3 (n1 + 1) c3).ownBlock ≠ some b := fun b hb hn e => by
    rcases hat with h1 | h1
    · exact hn (h1 ▸ e)
    · have := h1 b e; omega
  have hbx : Box g (rnC gv cv a1 n1 c1 a2 n2 c2 c) 102 w' := h.box.grown hg (fun e => h.sg e.symm)
  refine ⟨hbx.set 1 _, h.low, ?_, ?_, ?_, h.vg, hne g hgs h.sg, h.ug, hne gv h.gvB.2 h.sv, h.uv, ?_⟩
  · exact (h.vars.kept hg (.inr (fun e => h.sv e.symm))).kept (grown_setCell w' g 1 _) (.inr (fun e => h.vg (Option.some.inj e)))
  · exact ho.kept (grown_setCell w' g 1 _) (ne_or (hne g hgs h.sg))
  · refine (h.used.kept hg ?_).kept (grown_setCell w' g 1 _) (ne_or h.ug)
    rcases h.su with h1 | h1
    · rw [h1]; cases hq : (Value.slice a2 n2 c2).ownBlock with
      | none => exact .inl rfl
      | some b => exact .inr (by simp)
    · exact .inr (fun e => h1 e.symm)
  · cases hq : (Value.slice a2 n2 c2).ownBlock with
    | none =>
      cases hq3 : (Value.slice a3 (n1 + 1) c3).ownBlock with
      | none => exact .inl rfl
      | some b => exact .inr (by simp)
    | some b =>
      right
      refine hne b (own_block h.used b hq).2 ?_
      rcases h.su with h1 | h1
      · rw [h1]; simp
      · rw [hq] at h1; exact h1
/-- Sensed: the row of used values has grown to a row, and the struct holds it. -/
theorem RnAt.sense {B g gv cv : Nat} {a1 : Option Addr} {n1 c1 : Nat} {a2 : Option Addr} {n2 c2 : Nat} {c : Cfg} {x : Sx} {w w' : World} (h : RnAt B g gv cv a1 n1 c1 a2 n2 c2 c x w) {q : Int} {a3 : Option Addr} {c3 : Nat}
    (ho : w'.ownsRow B 3 1 (.slice a3 (n2 + 1) c3) (n2 + 1) (ivs (x.U ++ [q]))) (hg : w.grownBy w' (Value.slice a2 n2 c2).ownBlock) (hat : (Value.slice a3 (n2 + 1) c3).ownBlock = (Value.slice a2 n2 c2).ownBlock ∨ ∀ b, (Value.slice a3 (n2 + 1) c3).ownBlock = some b → w.heap.size ≤ b) :
    RnAt B g gv cv a1 n1 c1 a3 (n2 + 1) c3 c ⟨x.V, x.S, x.U ++ [q]⟩ (w'.setCell ⟨g, 2, none⟩ (.slice a3 (n2 + 1) c3)) := by
  have hgs := h.box.lt
  have hne : ∀ b, b < w.heap.size → (Value.slice a2 n2 c2).ownBlock ≠ some b → (Value.slice a3 (n2 + 1) c3).ownBlock ≠ some b := fun b hb hn e => by
    rcases hat with h1 | h1
    · exact hn (h1 ▸ e)
    · have := h1 b e; omega
  have hbx : Box g (rnC gv cv a1 n1 c1 a2 n2 c2 c) 102 w' := h.box.grown hg (fun e => h.ug e.symm)
  refine ⟨hbx.set 2 _, h.low, ?_, ?_, ?_, h.vg, h.sg, hne g hgs h.ug, h.sv, hne gv h.gvB.2 h.uv, ?_⟩
  · exact (h.vars.kept hg (.inr (fun e => h.uv e.symm))).kept (grown_setCell w' g 2 _) (.inr (fun e => h.vg (Option.some.inj e)))
  · refine (h.sent.kept hg ?_).kept (grown_setCell w' g 2 _) (ne_or h.sg)
    exact h.su
  · exact ho.kept (grown_setCell w' g 2 _) (ne_or (hne g hgs h.ug))
  · cases hq : (Value.slice a1 n1 c1).ownBlock with
    | none => exact .inl rfl
    | some b =>
      right
      intro e
      refine hne b (own_block h.sent b hq).2 ?_ e.symm
      rcases h.su with h1 | h1
      · rw [hq] at h1; cases h1
      · rw [hq] at h1; exact fun e => h1 e.symm
end Go.Proofs.YtekdnhhmiabngaaGreat.exe

/- The model's l12Sense: the next sensed value; the state grows by it; nothing else that was there is written. -/
namespace Go.Proofs.YtekdnhhmiabngaaGreat.exe
open Go Go.ChangeShapes Go.WideShapes Go.ChangeAt Go.RowKit Go.Proofs.YtekdnhhmiabngaaGreat.row Go.Proofs.YtekdnhhmiabngaaGreat.val Go.Proofs.YtekdnhhmiabngaaGreat.expr Go.Proofs.YtekdnhhmiabngaaGreat.stm Go.Proofs.YtekdnhhmiabngaaGreat.blk Go.Proofs.YtekdnhhmiabngaaGreat.prg
theorem readsensor_q (w : World) (a : Option Addr) (n cap : Nat) (R : List Int) (hn : (n : Int) ≤ 1048576) (h : Row w a n R) (q m v : Int) (hv : readS R q m = v) (k : Nat) :
    Calls Tryz.prog 152 #[.slice a n cap, .int .i64 q, .int .i64 m] (w.drewN k) fun e w' => e = .returned (.int .i64 v) ∧ w' = w.drewN k := by
  subst hv
  exact (spec_readsensor (w.drewN k) a n cap R hn (h.drewN k) q m).mono fun _ _ ⟨h1, h2⟩ => ⟨h1, h2.symm⟩
theorem list_in {Y : List Int} {n : Nat} {x : Int} (h : Y[n]? = some x) (q : Int) : listSrc Y q n = x := by
  unfold listSrc; rw [List.getD_eq_getElem?_getD, h]; rfl
theorem list_out {Y : List Int} {n : Nat} (h : Y.length ≤ n) (q : Int) : listSrc Y q n = 0 := by
  unfold listSrc; rw [List.getD_eq_getElem?_getD, List.getElem?_eq_none h]; rfl
def SenseOut (w0 w : World) (g gv cv : Nat) (a1 : Option Addr) (n1 c1 : Nat) (a2 : Option Addr) (n2 c2 : Nat) (c : Cfg) (x : Sx) (v : Int) (e : Ending) (w' : World) : Prop :=
  e = .returned (.int .i64 v) ∧ Below w0.heap.size w0 w' ∧ (∀ k, k < w.heap.size → k ≠ g → (Value.slice a2 n2 c2).ownBlock ≠ some k → w'.heap[k]? = w.heap[k]?) ∧ w.heap.size ≤ w'.heap.size ∧
  ∃ a3 c3, RnAt w0.heap.size g gv cv a1 n1 c1 a3 (n2 + 1) c3 c ⟨x.V, x.S, x.U ++ [v]⟩ w'
set_option maxHeartbeats 4000000 in
set_option maxRecDepth 100000 in
theorem spec_sense (w0 w : World) (g gv cv : Nat) (a1 : Option Addr) (n1 c1 : Nat) (a2 : Option Addr) (n2 c2 : Nat) (c : Cfg) (x : Sx) (hB : Below w0.heap.size w0 w) (hc : CfgAt c w0) (h : RnAt w0.heap.size g gv cv a1 n1 c1 a2 n2 c2 c x w)
    (hn : n2 ≤ 100000) (q : Int) (v : Int) (hv : c.src q n2 = v) :
    Calls Tryz.prog 117 #[.pointer (some ⟨g, 0, none⟩), .int .i64 q] w (SenseOut w0 w g gv cv a1 n1 c1 a2 n2 c2 c x v) := by
  obtain ⟨i0, hi, hz0, hz1, hz2⟩ := info_parts row.infoInt
  obtain ⟨al, nl, cl, Y, ar, nr, cr, R, z, lv⟩ := c
  have hcw := hc.below hB
  obtain ⟨hY, hR, hnl, hnr, hz, hYv⟩ := hcw
  dsimp only at hY hR hnl hnr hz hYv
  have H := Lib.hid h
  have HB := Lib.hid hB
  have c2' : w.cell? ⟨g, 2, none⟩ = some (.slice a2 n2 c2) := h.box.cell 2
  have c3' : w.cell? ⟨g, 3, none⟩ = some (.slice al nl cl) := h.box.cell 3
  have c4' : w.cell? ⟨g, 4, none⟩ = some (.slice ar nr cr) := h.box.cell 4
  have c5' : w.cell? ⟨g, 5, none⟩ = some (.int .i64 z) := h.box.cell 5
  have c6' : w.cell? ⟨g, 6, none⟩ = some (.bool lv) := h.box.cell 6
  have hBw : w0.heap.size ≤ w.heap.size := hB.size
  have fin : Hid (∀ (W : World) (a3 : Option Addr) (c3 : Nat), (∃ (d : Nat) (o : Obj), W.ownsRow w0.heap.size 3 1 (.slice a3 (n2 + 1) c3) (n2 + 1) (ivs (x.U ++ [v])) ∧ (w.drewN d |>.alloc o).grownBy W (Value.slice a2 n2 c2).ownBlock ∧ ((Value.slice a3 (n2 + 1) c3).ownBlock = (Value.slice a2 n2 c2).ownBlock ∨ (Value.slice a3 (n2 + 1) c3).ownBlock = some (w.heap.size + 1))) →
      Box g (rnC gv cv a1 n1 c1 a2 n2 c2 ⟨al, nl, cl, Y, ar, nr, cr, R, z, lv⟩) 102 W ∧
      SenseOut w0 w g gv cv a1 n1 c1 a2 n2 c2 ⟨al, nl, cl, Y, ar, nr, cr, R, z, lv⟩ x v (.returned (.int .i64 v)) (W.setCell ⟨g, 2, none⟩ (.slice a3 (n2 + 1) c3))) := by
    rintro W a3 c3 ⟨d, o, ho, hg, hat⟩
    have hg2 : w.grownBy W (Value.slice a2 n2 c2).ownBlock := (World.grownBy.trans (show w.grownBy (w.drewN d) _ from ⟨rfl, rfl, rfl, Nat.le_refl _, fun _ _ _ => rfl⟩) (World.grownBy_alloc (w.drewN d) o _)).trans hg
    have hr := h.sense (q := v) ho hg2 (hat.imp id (fun e b hb => by rw [e] at hb; cases hb; omega))
    refine ⟨h.box.grown hg2 (fun e => h.ug e.symm), rfl, ?_, fun k hk hkg hku => ?_, by simpa using hg2.size, a3, c3, hr⟩
    rotate_left
    · rw [heap_setCell_other W _ k _ (fun e => hkg e)]
      exact hg2.block k hk (fun e => hku e.symm)
    have h1 : Below w0.heap.size w0 W := hB.grown hg2 hBw (fun k hk => (own_block h.used k hk).1)
    exact h1.grown (grown_setCell W g 2 _) (Nat.le_trans hBw hg2.size) (fun k hk => by cases hk; exact h.low)
  clear hB hc
  cases lv
  · clear c4' c5'
    by_cases hlt : n2 < nl
    · have hI : (n2 : Int) < nl := by omega
      obtain ⟨b, off, y, rfl, hlb, hy, hcy⟩ := hY.2 n2 hlt
      obtain rfl : y = v := by rw [← hv]; exact (list_in hy q).symm
      have HV := Lib.hid hv
      clear hv hy hY hR
      go_enter Tryz.func117, Tryz.ntmps117
      go_wp2_with (at_builtin; refine wpList_append_own_at _ rfl _ _ 28 rfl w0.heap.size 3 i0 (.int .i64 0) 1 8 Tryz.underlying28 hi hz0 hz1 hz2 rfl (by decide) _ _ _ rfl (H.out.used.alloc _) ⟨w.heap.size, 0, none⟩ 1 1 [.int .i64 y] rfl rfl (World.news_of_block (cs := #[.int .i64 y]) (t := 3) (fr := (0, 0)) (heap_alloc_new w _)) (by simp [Value.oneCell']) (by unfold maxLen; omega) (by omega) (by simp; omega) ?_; intro v4 w4 hown4 hgrow4 _ hat4; refine Hid.out ?_)
      rw [ivs_snoc] at hown4
      obtain ⟨g4, cp4, rfl, hg4, _⟩ := hown4.form (by omega)
      obtain ⟨hbx, hfin⟩ := fin.out w4 _ _ ⟨0, _, hown4, hgrow4, hat4.imp (fun e => e) (fun e => by simpa using e)⟩
      have d2 : w4.cell? ⟨g, 2, none⟩ = some (.slice a2 n2 c2) := hbx.cell 2
      have f2 : w4.frozen? ⟨g, 2, none⟩ = false := hbx.frozen 2
      have HF := Lib.hid hfin
      clear hown4 hgrow4 hat4 hbx hfin fin
      refine Lib.hid ?_
      go_wp2
      go_ret
      exact HF.out
    · have hI : ¬ (n2 : Int) < nl := by omega
      obtain rfl : (0 : Int) = v := by rw [← hv]; exact (list_out (by rw [hY.1]; omega) q).symm
      have HV := Lib.hid hv
      clear hv hY hR
      go_enter Tryz.func117, Tryz.ntmps117
      go_wp2_with (at_builtin; refine wpList_append_own_at _ rfl _ _ 28 rfl w0.heap.size 3 i0 (.int .i64 0) 1 8 Tryz.underlying28 hi hz0 hz1 hz2 rfl (by decide) _ _ _ rfl (H.out.used.alloc _) ⟨w.heap.size, 0, none⟩ 1 1 [.int .i64 0] rfl rfl (World.news_of_block (cs := #[.int .i64 0]) (t := 3) (fr := (0, 0)) (heap_alloc_new w _)) (by simp [Value.oneCell']) (by unfold maxLen; omega) (by omega) (by simp; omega) ?_; intro v4 w4 hown4 hgrow4 _ hat4; refine Hid.out ?_)
      rw [ivs_snoc] at hown4
      obtain ⟨g4, cp4, rfl, hg4, _⟩ := hown4.form (by omega)
      obtain ⟨hbx, hfin⟩ := fin.out w4 _ _ ⟨0, _, hown4, hgrow4, hat4.imp (fun e => e) (fun e => by simpa using e)⟩
      have d2 : w4.cell? ⟨g, 2, none⟩ = some (.slice a2 n2 c2) := hbx.cell 2
      have f2 : w4.frozen? ⟨g, 2, none⟩ = false := hbx.frozen 2
      have HF := Lib.hid hfin
      clear hown4 hgrow4 hat4 hbx hfin fin
      refine Lib.hid ?_
      go_wp2
      go_ret
      exact HF.out
  · have hn0 : 0 ≤ z + n2 ∧ z + n2 ≤ 2000000 := by omega
    have hv2 : readS R q (z + n2) = v := hv
    have HQ := Lib.hid (readsensor_q w ar nr cr R hnr hR q (z + n2) v hv2)
    have HV := Lib.hid hv
    clear hv hv2 hY hR
    go_enter Tryz.func117, Tryz.ntmps117
    go_wp2
    go_quiet ((first | (go_at_call 152; with_reducible exact Calls.quiet_of_same (HQ.out _))))
    go_wp2_with (at_builtin; refine wpList_append_own_at _ rfl _ _ 28 rfl w0.heap.size 3 i0 (.int .i64 0) 1 8 Tryz.underlying28 hi hz0 hz1 hz2 rfl (by decide) _ _ _ rfl ((H.out.used.kept (grown_below (below_drewN (Below.refl _ w) _) none) (by cases a2 <;> simp [Value.ownBlock])).alloc _) ⟨w.heap.size, 0, none⟩ 1 1 [.int .i64 v] rfl rfl (World.news_of_block (cs := #[.int .i64 v]) (t := 3) (fr := (0, 0)) (heap_alloc_new (w.drewN _) _)) (by simp [Value.oneCell']) (by unfold maxLen; omega) (by omega) (by simp; omega) ?_; intro v4 w4 hown4 hgrow4 _ hat4; refine Hid.out ?_)
    rw [ivs_snoc] at hown4
    obtain ⟨g4, cp4, rfl, hg4, _⟩ := hown4.form (by omega)
    obtain ⟨hbx, hfin⟩ := fin.out w4 _ _ ⟨_, _, hown4, hgrow4, hat4.imp (fun e => e) (fun e => by simpa using e)⟩
    have d2 : w4.cell? ⟨g, 2, none⟩ = some (.slice a2 n2 c2) := hbx.cell 2
    have f2 : w4.frozen? ⟨g, 2, none⟩ = false := hbx.frozen 2
    have HF := Lib.hid hfin
    clear hown4 hgrow4 hat4 hbx hfin fin
    refine Lib.hid ?_
    go_wp2
    go_ret
    exact HF.out
end Go.Proofs.YtekdnhhmiabngaaGreat.exe

/- Chapter 5's model: what opens, the matching end, EndOf, DepthOf: what the plain relations say; nothing that was there is written. -/
namespace Go.Proofs.YtekdnhhmiabngaaGreat.blk
open Go Go.ChangeShapes Go.WideShapes Go.ChangeAt Go.RowKit Go.Proofs.YtekdnhhmiabngaaGreat.row Go.Proofs.YtekdnhhmiabngaaGreat.val Go.Proofs.YtekdnhhmiabngaaGreat.expr Go.Proofs.YtekdnhhmiabngaaGreat.stm

theorem spec_opens (s : Go.Proofs.YtekdnhhmiabngaaGreat.stm.St) (r : Bool) (hr : opn s = r) (w : World) : Calls Tryz.prog 153 #[stV s] w (BelB w r) := by
  subst hr
  by_cases h4 : s.k = 4
  · have HE := Lib.hid (show opn s = true by unfold opn; rw [h4]; rfl)
    have hq : (s.k == 4) = true := by rw [h4]; rfl
    clear h4
    go_enter Tryz.func153, Tryz.ntmps153
    go_wp2
    go_ret
    exact ⟨by rw [HE.out]; rfl, below_new w _⟩
  · have hq : (s.k == 4) = false := by rw [beq_eq_false_iff_ne]; exact h4
    by_cases h5 : s.k = 5
    · have HE := Lib.hid (show opn s = true by unfold opn; rw [h5]; rfl)
      have hq5 : (s.k == 5) = true := by rw [h5]; rfl
      clear h4 h5
      go_enter Tryz.func153, Tryz.ntmps153
      go_wp2
      go_ret
      exact ⟨by rw [HE.out]; rfl, below_new w _⟩
    · have hq5 : (s.k == 5) = false := by rw [beq_eq_false_iff_ne]; exact h5
      have HE := Lib.hid (show opn s = false by unfold opn; rw [hq, hq5]; rfl)
      clear h4 h5
      go_enter Tryz.func153, Tryz.ntmps153
      go_wp2
      go_ret
      exact ⟨by rw [HE.out]; rfl, below_new w _⟩
set_option maxHeartbeats 4000000 in
set_option maxRecDepth 100000 in
theorem spec_end (a : Option Addr) (n cap : Nat) (L : List Go.Proofs.YtekdnhhmiabngaaGreat.stm.St) (w : World) (h : StRow w a n L) (hb : IsBlk L) (i e : Nat) (he : IsEnd L i e) (X : Int) (hX : X = e) :
    Calls Tryz.prog 118 #[.slice a n cap, .int .i64 i] w (BelI w X) := by
  have HL := Lib.hid h
  have HB := Lib.hid hb
  have HE := Lib.hid he
  have hie := he.1
  have hel : e < n := by have := he.2.1; rw [h.1] at this; exact this
  have hn24 : n ≤ 24 := by have := hb.2.2; rw [h.1] at this; exact this
  have HX := Lib.hid hX
  clear h hb he hX
  go_enter Tryz.func118, Tryz.ntmps118
  go_wp2
  go_loopw [5, 6] (fun o k' wr => ∃ (k : Nat) (x : Int), i ≤ k ∧ k ≤ e ∧ k' = .int .i64 k ∧ o = .int .i64 x ∧ -3 ≤ x ∧ x ≤ 3 ∧ Hid (x = hAt L k - hAt L i) ∧ Below w.heap.size w wr) (fun _ k' _ => e + 1 - (intOf k').toNat)
  case atStart => exact ⟨i, 0, Nat.le_refl _, by omega, rfl, rfl, by omega, by omega, show (0 : Int) = hAt L i - hAt L i by omega, Below.refl _ _⟩
  case round =>
    obtain ⟨k, x, hik, hke, rfl, rfl, hx0, hx3, hH, hbel⟩ := hrel
    obtain ⟨b, off, s, rfl, hlb, hs, hrg⟩ := (HL.out.below hbel).2 k (by omega)
    have HS := Lib.hid (And.intro hrg (And.intro hs hbel))
    have hI : (k : Int) < n := by omega
    have hnx := hAt_succ hs
    have hbd := blk_bounds HB.out (k + 1)
    have hbi := blk_bounds HB.out i
    obtain ⟨d, hd⟩ : ∃ d, dlt s = d := ⟨_, rfl⟩
    rw [hd] at hnx
    have hHo := hH.out
    have hend : k = e → s.k = 6 ∧ x + d = 0 := fun hk => by
      subst hk
      obtain ⟨t, ht, h6⟩ := HE.out.kind
      rw [hs] at ht; cases ht
      exact ⟨h6, by have := HE.out.2.2.1; omega⟩
    have hmid : k < e → 0 < x + d := fun hk => by have := HE.out.2.2.2 (k + 1) (by omega) (by omega); omega
    have HH := Lib.hid (show x + d = hAt L (k + 1) - hAt L i by omega)
    have hxd : -3 ≤ x + d ∧ x + d ≤ 3 := by omega
    clear hrg hs hbel hnx hbd hbi hHo
    rcases (show (opn s = true ∧ s.k ≠ 6 ∧ d = 1) ∨ (opn s = false ∧ s.k = 6 ∧ d = -1) ∨ (opn s = false ∧ s.k ≠ 6 ∧ d = 0) by rw [← hd]; exact dlt_cases s) with ⟨ho, h6, rfl⟩ | ⟨ho, h6, rfl⟩ | ⟨ho, h6, rfl⟩
    · have hlt : k < e := by
        rcases Nat.lt_or_ge k e with h | h
        · exact h
        · exact absurd (hend (by omega)).1 h6
      have hq6 : (s.k == 6) = false := by rw [beq_eq_false_iff_ne]; exact h6
      have HO := Lib.hid ho
      clear ho h6 hd hend hmid
      go_wp2_with (first
        | (refine wpList_load_mid rfl 77 _ rfl b (off + k * 6) rfl (stC s) _ HS.out.1 Tryz.underlying77 rfl (by kernel_rfl) ?_)
        | (go_at_call 153; refine (spec_opens s true HO.out _).mono ?_; rintro e w2 ⟨rfl, hb2⟩; refine Hid.out ?_))
      have hc2 := (hb2.cell (p := ⟨b, off + k * 6, none⟩) hlb).trans (range6 HS.out.1).1
      have HB2 := Lib.hid (below_then HS.out.2.2 hb2)
      clear hb2
      refine Lib.hid ?_
      go_wp2
      go_roundw
      case rel => exact ⟨k + 1, x + 1, by omega, by omega, by go_num, rfl, by omega, by omega, HH, HB2.out⟩
      case measure => simp [intOf]; omega
    · have hq6 : (s.k == 6) = true := by rw [h6]; rfl
      have HO := Lib.hid ho
      by_cases hk : k = e
      · have hz := (hend hk).2
        have hxe : x = 1 := by omega
        have HXK := Lib.hid (show X = (k : Int) by rw [HX.out, hk])
        subst hxe
        clear ho h6 hd hend hmid hz hk
        go_wp2_with (first
          | (refine wpList_load_mid rfl 77 _ rfl b (off + k * 6) rfl (stC s) _ HS.out.1 Tryz.underlying77 rfl (by kernel_rfl) ?_)
          | (go_at_call 153; refine (spec_opens s false HO.out _).mono ?_; rintro e w2 ⟨rfl, hb2⟩; refine Hid.out ?_))
        have hc2 := (hb2.cell (p := ⟨b, off + k * 6, none⟩) hlb).trans (range6 HS.out.1).1
        have HB2 := Lib.hid (below_then HS.out.2.2 hb2)
        clear hb2
        refine Lib.hid ?_
        go_wp2
        go_ret
        exact ⟨by rw [HXK.out]; rfl, HB2.out⟩
      · have hm := hmid (by omega)
        have hz : (x - 1 == 0) = false := by rw [beq_eq_false_iff_ne]; omega
        clear ho h6 hd hend hmid
        go_wp2_with (first
          | (refine wpList_load_mid rfl 77 _ rfl b (off + k * 6) rfl (stC s) _ HS.out.1 Tryz.underlying77 rfl (by kernel_rfl) ?_)
          | (go_at_call 153; refine (spec_opens s false HO.out _).mono ?_; rintro e w2 ⟨rfl, hb2⟩; refine Hid.out ?_))
        have hc2 := (hb2.cell (p := ⟨b, off + k * 6, none⟩) hlb).trans (range6 HS.out.1).1
        have HB2 := Lib.hid (below_then HS.out.2.2 hb2)
        clear hb2
        refine Lib.hid ?_
        go_wp2
        go_roundw
        case rel => exact ⟨k + 1, x - 1, by omega, by omega, by go_num, rfl, by omega, by omega, HH, HB2.out⟩
        case measure => simp [intOf]; omega
    · have hlt : k < e := by
        rcases Nat.lt_or_ge k e with h | h
        · exact h
        · exact absurd (hend (by omega)).1 h6
      have hq6 : (s.k == 6) = false := by rw [beq_eq_false_iff_ne]; exact h6
      have HO := Lib.hid ho
      have HH2 := Lib.hid (show x = hAt L (k + 1) - hAt L i by have := HH.out; omega)
      clear ho h6 hd hend hmid
      go_wp2_with (first
        | (refine wpList_load_mid rfl 77 _ rfl b (off + k * 6) rfl (stC s) _ HS.out.1 Tryz.underlying77 rfl (by kernel_rfl) ?_)
        | (go_at_call 153; refine (spec_opens s false HO.out _).mono ?_; rintro e w2 ⟨rfl, hb2⟩; refine Hid.out ?_))
      have hc2 := (hb2.cell (p := ⟨b, off + k * 6, none⟩) hlb).trans (range6 HS.out.1).1
      have HB2 := Lib.hid (below_then HS.out.2.2 hb2)
      clear hb2
      refine Lib.hid ?_
      go_wp2
      go_roundw
      case rel => exact ⟨k + 1, x, by omega, by omega, by go_num, rfl, by omega, by omega, HH2, HB2.out⟩
      case measure => simp [intOf]; omega
theorem endIs_not {L : List Go.Proofs.YtekdnhhmiabngaaGreat.stm.St} {i x : Int} (h : EndIs L i x) (hn : ¬ IsBlk L ∨ i < 0 ∨ (L.length : Int) ≤ i) : x = -1 := by
  rcases h with ⟨j, e, rfl, hb, he, rfl⟩ | ⟨rfl, _⟩
  · rcases hn with hn | hn | hn
    · exact absurd hb hn
    · omega
    · have := he.1; have := he.2.1; omega
  · rfl
theorem endIs_flat {L : List Go.Proofs.YtekdnhhmiabngaaGreat.stm.St} {j : Nat} {x : Int} {s : Go.Proofs.YtekdnhhmiabngaaGreat.stm.St} (h : EndIs L j x) (hs : L[j]? = some s) (ho : opn s = false) : x = -1 := by
  rcases h with ⟨j', e, hj, hb, he, rfl⟩ | ⟨rfl, _⟩
  · obtain rfl : j = j' := by omega
    obtain ⟨t, ht, hot⟩ := he.opens
    rw [hs] at ht; cases ht; rw [ho] at hot; cases hot
  · rfl
theorem endIs_yes {L : List Go.Proofs.YtekdnhhmiabngaaGreat.stm.St} {j e : Nat} {x : Int} (h : EndIs L j x) (hb : IsBlk L) (he : IsEnd L j e) : x = e := h.unique (.inl ⟨j, e, rfl, hb, he, rfl⟩)
end Go.Proofs.YtekdnhhmiabngaaGreat.blk

/- Parts of a block: a stretch at one height is a valid block of its own; what runs in the part runs in the whole. Plain mathematics. -/
namespace Go.Proofs.YtekdnhhmiabngaaGreat.blk
open Go Go.ChangeShapes Go.WideShapes Go.ChangeAt Go.RowKit Go.Proofs.YtekdnhhmiabngaaGreat.row Go.Proofs.YtekdnhhmiabngaaGreat.stm

/-- The part of 'm' statements from 'c' on. -/
def part (L : List Go.Proofs.YtekdnhhmiabngaaGreat.stm.St) (c m : Nat) : List Go.Proofs.YtekdnhhmiabngaaGreat.stm.St := (L.drop c).take m
theorem part_len {L : List Go.Proofs.YtekdnhhmiabngaaGreat.stm.St} {c m : Nat} (h : c + m ≤ L.length) : (part L c m).length = m := by
  unfold part; rw [List.length_take, List.length_drop]; omega
theorem part_at {L : List Go.Proofs.YtekdnhhmiabngaaGreat.stm.St} {c m j : Nat} (h : j < m) : (part L c m)[j]? = L[c + j]? := by
  unfold part; rw [List.getElem?_take, if_pos h, List.getElem?_drop]
theorem part_ht {L : List Go.Proofs.YtekdnhhmiabngaaGreat.stm.St} {c m : Nat} (h : c + m ≤ L.length) : ∀ t, t ≤ m → hAt (part L c m) t = hAt L (c + t) - hAt L c := by
  intro t
  induction t with
  | zero => intro _; rw [hAt_zero, Nat.add_zero]; omega
  | succ t ih =>
    intro ht
    obtain ⟨s, hs⟩ := at_lt (show c + t < L.length by omega)
    have h1 := hAt_succ hs
    have h2 := hAt_succ (show (part L c m)[t]? = some s by rw [part_at (by omega)]; exact hs)
    rw [h2, ih (by omega), show c + (t + 1) = c + t + 1 by omega, h1]; omega
theorem part_end {L : List Go.Proofs.YtekdnhhmiabngaaGreat.stm.St} {c m i e : Nat} (h : c + m ≤ L.length) (hE : IsEnd (part L c m) i e) : IsEnd L (c + i) (c + e) := by
  obtain ⟨h1, h2, h3, h4⟩ := hE
  rw [part_len h] at h2
  have k1 := part_ht h (e + 1) (by omega)
  have k2 := part_ht h i (by omega)
  refine ⟨by omega, by omega, by rw [show c + e + 1 = c + (e + 1) by omega]; omega, fun j hj hje => ?_⟩
  obtain ⟨t, rfl⟩ : ∃ t, j = c + t := ⟨j - c, by omega⟩
  have := h4 t (by omega) (by omega)
  have := part_ht h t (by omega)
  omega
theorem part_runs {L : List Go.Proofs.YtekdnhhmiabngaaGreat.stm.St} {c m a b : Nat} {x : Int} (h : c + m ≤ L.length) (hr : Runs (part L c m) a b x) : b ≤ m → Runs L (c + a) (c + b) x := by
  induction hr with
  | nil a => intro _; exact .nil _
  | one a b x s hs ho h6 hr ih =>
    intro hb
    have hl := hr.le
    refine .one _ _ _ s (by rw [← part_at (show a < m by omega)]; exact hs) ho h6 ?_
    have := ih hb
    rw [show c + (a + 1) = c + a + 1 by omega] at this; exact this
  | nest a e b x y s hs he hbb hr ih1 ih2 =>
    intro hb
    have hl := hr.le
    have hae := he.1
    have h1 := ih1 (by omega)
    have h2 := ih2 hb
    rw [show c + (a + 1) = c + a + 1 by omega] at h1
    rw [show c + (e + 1) = c + e + 1 by omega] at h2
    exact .nest _ (c + e) _ _ _ s (by rw [← part_at (show a < m by omega)]; exact hs) (part_end h he) h1 h2
theorem part_blk {L : List Go.Proofs.YtekdnhhmiabngaaGreat.stm.St} {c m : Nat} (hb : IsBlk L) (hF : Flat L c (c + m)) : IsBlk (part L c m) := by
  obtain ⟨_, h2, h3, h4⟩ := hF
  have hl := part_len h2
  refine ⟨fun j s hj hs => ?_, ?_, by rw [hl]; have := hb.2.2; omega⟩
  · rw [hl] at hj
    have hs' : L[c + j]? = some s := by rw [← part_at hj]; exact hs
    have k1 := part_ht h2 (j + 1) (by omega)
    have k2 := h4 (c + (j + 1)) (by omega) (by omega)
    have k3 := (blk_bounds hb (c + (j + 1))).2
    have k4 := (blk_bounds hb c).1
    exact ⟨blk_stOk hb hs', by omega, by omega⟩
  · rw [hl, part_ht h2 m (Nat.le_refl _)]; omega
/-- The body of a statement that opens, at the head of a block. -/
theorem body_blk {L : List Go.Proofs.YtekdnhhmiabngaaGreat.stm.St} (hb : IsBlk L) {e : Nat} (he : IsEnd L 0 e) : IsBlk (part L 1 (e - 1)) := by
  have := flat_body he
  have h0 := he.1
  rw [show e = 1 + (e - 1) by omega] at this
  exact part_blk hb this
/-- What stands behind a place at height 0. -/
theorem rest_blk {L : List Go.Proofs.YtekdnhhmiabngaaGreat.stm.St} (hb : IsBlk L) {c : Nat} (hc : c ≤ L.length) (h0 : hAt L c = 0) : IsBlk (part L c (L.length - c)) := by
  refine part_blk hb ⟨by omega, by omega, ?_, fun t _ _ => by rw [h0]; exact (blk_bounds hb t).1⟩
  rw [show c + (L.length - c) = L.length by omega, hb.2.1, h0]
/-- A block that begins with a statement that neither opens nor ends. -/
theorem runs_flat {L : List Go.Proofs.YtekdnhhmiabngaaGreat.stm.St} {s : Go.Proofs.YtekdnhhmiabngaaGreat.stm.St} {y : Int} (hl : 1 ≤ L.length) (hs : L[0]? = some s) (ho : opn s = false) (h6 : s.k ≠ 6) (h : Runs (part L 1 (L.length - 1)) 0 (part L 1 (L.length - 1)).length y) : Runs L 0 L.length (1 + y) := by
  have hp : 1 + (L.length - 1) ≤ L.length := by omega
  rw [part_len hp] at h
  have h1 := part_runs hp h (Nat.le_refl _)
  rw [Nat.add_zero, show 1 + (L.length - 1) = L.length by omega] at h1
  exact .one 0 _ y s hs ho h6 h1
/-- A block that begins with a statement that opens. -/
theorem runs_nest {L : List Go.Proofs.YtekdnhhmiabngaaGreat.stm.St} {s : Go.Proofs.YtekdnhhmiabngaaGreat.stm.St} {e : Nat} {x y : Int} (hs : L[0]? = some s) (he : IsEnd L 0 e) (hx : Runs (part L 1 (e - 1)) 0 (part L 1 (e - 1)).length x) (h : Runs (part L (e + 1) (L.length - (e + 1))) 0 (part L (e + 1) (L.length - (e + 1))).length y) :
    Runs L 0 L.length (max 1 s.n * x + y) := by
  have h0 := he.1
  have h1 := he.2.1
  have hp : 1 + (e - 1) ≤ L.length := by omega
  have hq : (e + 1) + (L.length - (e + 1)) ≤ L.length := by omega
  rw [part_len hp] at hx
  rw [part_len hq] at h
  have k1 := part_runs hp hx (Nat.le_refl _)
  have k2 := part_runs hq h (Nat.le_refl _)
  rw [Nat.add_zero, show 1 + (e - 1) = e by omega] at k1
  rw [Nat.add_zero, show (e + 1) + (L.length - (e + 1)) = L.length by omega] at k2
  exact .nest 0 e _ x y s hs he k1 k2
/-- How often the body of a valid statement that opens runs. -/
theorem n_if {s : Go.Proofs.YtekdnhhmiabngaaGreat.stm.St} (h : stOk s = true) (h4 : s.k = 4) : max 1 s.n = 1 := by
  unfold stOk at h
  rw [if_neg (by omega), if_neg (by omega), if_neg (by omega), if_pos h4] at h
  simp at h; omega
theorem n_loop {s : Go.Proofs.YtekdnhhmiabngaaGreat.stm.St} (h : stOk s = true) (h5 : s.k = 5) : max 1 s.n = s.n := by
  unfold stOk at h
  rw [if_neg (by omega), if_neg (by omega), if_neg (by omega), if_neg (by omega), if_pos h5] at h
  simp at h; omega
/-- A part of a slice. -/
theorem StRow.cut {w : World} {a A : Option Addr} {n : Nat} {L : List Go.Proofs.YtekdnhhmiabngaaGreat.stm.St} (h : StRow w a n L) (c m : Nat) (hcm : c + m ≤ n) (hA : ∀ b off, a = some ⟨b, off, none⟩ → 0 < m → A = some ⟨b, off + c * 6, none⟩) : StRow w A m (part L c m) :=
  ⟨part_len (by rw [h.1]; exact hcm), fun k hk => by
    obtain ⟨b, off, s, ha, hlt, hs, hr⟩ := h.2 (c + k) (by omega)
    refine ⟨b, off + c * 6, s, hA b off ha (by omega), hlt, by rw [part_at hk]; exact hs, ?_⟩
    rw [show off + c * 6 + k * 6 = off + (c + k) * 6 by omega]; exact hr⟩
theorem own_le {w : World} {base n cap : Nat} {a : Option Addr} {t : TypeId} {z : Nat} {xs : List Value} (h : w.ownsRow base t z (.slice a n cap) n xs) : n ≤ cap := by
  rcases h.2 with ⟨hv, h0⟩ | ⟨g, c, cur, hv, _, _, hle, _⟩
  · omega
  · simp only [Value.slice.injEq] at hv; omega
end Go.Proofs.YtekdnhhmiabngaaGreat.blk
