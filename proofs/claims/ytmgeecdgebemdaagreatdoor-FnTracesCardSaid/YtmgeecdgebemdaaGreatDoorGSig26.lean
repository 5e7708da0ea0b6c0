/- Several texts in one: ExeM ExeR ExeS. -/
import Derived.Test.YtmgeecdgebemdaaGreatDoorGSig7
import Derived.Deep.AppendLies
import Derived.BigQuiet

/- Chapter 12 of the model: ReadSensor, and whether every element is a value; nothing that was there is written. -/
namespace Go.Proofs.YtmgeecdgebemdaaGreatDoor.exe
open Go Go.ChangeShapes Go.WideShapes Go.ChangeAt Go.RowKit Go.Proofs.YtmgeecdgebemdaaGreatDoor.row Go.Proofs.YtmgeecdgebemdaaGreatDoor.val Go.Proofs.YtmgeecdgebemdaaGreatDoor.expr Go.Proofs.YtmgeecdgebemdaaGreatDoor.stm Go.Proofs.YtmgeecdgebemdaaGreatDoor.blk Go.Proofs.YtmgeecdgebemdaaGreatDoor.prg

theorem all_bad' {L : List Int} {k : Nat} {x : Int} (hx : L[k]? = some x) (hv : isVal x = false) : L.all isVal = false := by
  rw [← Bool.not_eq_true, List.all_eq_true]
  intro h
  have := h x (List.mem_of_getElem? hx)
  rw [hv] at this; cases this
theorem all_step' {L : List Int} {k : Nat} {x : Int} (hx : L[k]? = some x) (h : ∀ y ∈ L.take k, isVal y = true) (hv : isVal x = true) : ∀ y ∈ L.take (k + 1), isVal y = true := fun y hy => by
  rw [List.take_add_one, hx] at hy
  rcases List.mem_append.1 hy with h1 | h1
  · exact h y h1
  · simp at h1; rw [h1]; exact hv
set_option maxRecDepth 100000 in
set_option maxHeartbeats 400000 in
theorem spec_vals (w : World) (a : Option Addr) (n cap : Nat) (L : List Int) (hn : (n : Int) ≤ 1048576) (h : Row w a n L) (r : Bool) (hr : allV L = r) :
    Calls Tryz.prog 89 #[.slice a n cap] w (RetB w r) := by
  subst hr
  have HL := Lib.hid h.1
  have HC : Hid (∀ k, k < n → ∃ (b off : Nat) (x : Int), a = some ⟨b, off, none⟩ ∧ L[k]? = some x ∧ w.cell? ⟨b, off + k, none⟩ = some (.int .i64 x)) := fun k hk => by
    obtain ⟨b, off, x, e, _, hx, hc⟩ := h.2 k hk
    exact ⟨b, off, x, e, hx, hc⟩
  clear h
  go_enter Tryz.func89, Tryz.ntmps89
  go_wp2
  go_loop [3] (fun i => ∃ k : Nat, k ≤ n ∧ i = .int .i64 k ∧ Hid (∀ y ∈ L.take k, isVal y = true)) (fun i => n - (intOf i).toNat)
  case atStart => exact ⟨0, Nat.zero_le _, rfl, by simp [Hid]⟩
  case round =>
    obtain ⟨k, hk, rfl, hA⟩ := hrel
    by_cases hlt : k < n
    · obtain ⟨b, off, x, rfl, hx, hc⟩ := HC.out k hlt
      have hI : (k : Int) < n := by omega
      have HX := Lib.hid hx
      clear hx
      cases hv : isVal x
      · have HF := Lib.hid (show allV L = false from all_bad' HX.out hv)
        go_wp2_with (go_at_call 152; refine (spec_isval _ _).mono ?_; rintro e w1 ⟨rfl, rfl⟩)
        go_ret
        exact ⟨by rw [HF.out]; rfl, rfl⟩
      · have HA2 := Lib.hid (all_step' HX.out hA.out hv)
        go_wp2_with (go_at_call 152; refine (spec_isval _ _).mono ?_; rintro e w1 ⟨rfl, rfl⟩)
        go_round
        case rel => exact ⟨k + 1, by omega, by go_num, HA2⟩
        case measure => simp [intOf]; omega
    · have hkn : k = n := by omega
      subst hkn
      have HF := Lib.hid (show allV L = true by
        rw [allV_iff]
        have h1 := hA.out
        rw [List.take_of_length_le (by rw [HL.out]; exact Nat.le_refl _)] at h1
        exact h1)
      go_wp2
      go_ret
      exact ⟨by rw [HF.out]; rfl, rfl⟩
set_option maxRecDepth 100000 in
set_option maxHeartbeats 2000000 in
theorem spec_readsensor (w : World) (a : Option Addr) (n cap : Nat) (R : List Int) (hn : (n : Int) ≤ 1048576) (h : Row w a n R) (q m : Int) :
    Calls Tryz.prog 215 #[.slice a n cap, .int .i64 q, .int .i64 m] w (Ret w (readS R q m)) := by
  have hl := h.1
  by_cases h0 : n = 0
  · subst h0
    have HV := Lib.hid (readS_no (R := R) (q := q) (n := m) (.inl hl))
    go_enter Tryz.func215, Tryz.ntmps215
    go_wp2
    go_ret
    exact ⟨ret_int HV.out.symm, rfl⟩
  · have hpos : ¬ (n : Int) = 0 := by omega
    cases hq : (decide (0 ≤ q) && decide (q ≤ 3))
    · have HQ := Lib.hid hq
      have HV := Lib.hid (readS_no (R := R) (q := q) (n := m) (by simp at hq; omega))
      clear hq
      go_enter Tryz.func215, Tryz.ntmps215
      go_wp2_with (go_at_call 63; (with_reducible refine (in_any q 0 3 _ HQ.out _).mono ?_); rintro e w3 ⟨rfl, rfl⟩)
      go_ret
      exact ⟨ret_int HV.out.symm, rfl⟩
    · have HQ := Lib.hid hq
      have hq2 : 0 ≤ q ∧ q ≤ 3 := by simpa using hq
      clear hq
      by_cases hm : m < 0
      · have HV := Lib.hid (readS_no (R := R) (q := q) (n := m) (by omega))
        go_enter Tryz.func215, Tryz.ntmps215
        go_wp2_with (go_at_call 63; (with_reducible refine (in_any q 0 3 _ HQ.out _).mono ?_); rintro e w3 ⟨rfl, rfl⟩)
        go_ret
        exact ⟨ret_int HV.out.symm, rfl⟩
      · have hmd : decide (m < 0) = false := by simp; omega
        have ht : m.tmod n = m % n := Int.tmod_eq_emod_of_nonneg (by omega)
        have hr0 : 0 ≤ m % n := Int.emod_nonneg m (by omega)
        have hr1 : m % n < n := Int.emod_lt_of_pos m (by omega)
        obtain ⟨k, hk⟩ : ∃ k : Nat, m % n = k := ⟨(m % n).toNat, by omega⟩
        obtain ⟨b, off, x, rfl, _, hx, hc⟩ := h.2 k (by omega)
        have HV := Lib.hid (show readS R q m = sat (sat x + sat (100 * q)) by
          rw [readS_ok (by omega) hq2.1 hq2.2 (by omega), hl, hk, List.getD_eq_getElem?_getD, show ((k : Int)).toNat = k by omega, hx]; rfl)
        rw [hk] at ht hr0 hr1
        have hm0 : 0 ≤ m := by omega
        clear hx h hk hm
        go_enter Tryz.func215, Tryz.ntmps215
        go_wp2_with (first
          | (go_at_call 63; (with_reducible refine (in_any q 0 3 _ HQ.out _).mono ?_); rintro e w3 ⟨rfl, rfl⟩)
          | (go_at_call 212; refine (spec_add _ _ _).mono ?_; rintro e w4 ⟨rfl, rfl⟩))
        go_ret
        exact ⟨ret_int HV.out.symm, rfl⟩
end Go.Proofs.YtmgeecdgebemdaaGreatDoor.exe

/- The state of an execution in memory: a struct that holds three rows of its own (the variables, what is sent, what is sensed); nothing else that was there is written. -/
namespace Go.Proofs.YtmgeecdgebemdaaGreatDoor.exe
open Go Go.ChangeShapes Go.WideShapes Go.ChangeAt Go.RowKit Go.Proofs.YtmgeecdgebemdaaGreatDoor.row Go.Proofs.YtmgeecdgebemdaaGreatDoor.val Go.Proofs.YtmgeecdgebemdaaGreatDoor.expr Go.Proofs.YtmgeecdgebemdaaGreatDoor.stm Go.Proofs.YtmgeecdgebemdaaGreatDoor.blk Go.Proofs.YtmgeecdgebemdaaGreatDoor.prg

/-- What an execution is given: the senses, or the readings and the number of the first one. -/
structure Cfg where
  (al : Option Addr) (nl cl : Nat) (Y : List Int)
  (ar : Option Addr) (nr cr : Nat) (R : List Int)
  (z : Int) (lv : Bool)
def Cfg.src (c : Cfg) : Int → Nat → Int := if c.lv then liveSrc c.R c.z else listSrc c.Y
/-- The rows that it is given are there, and the senses are values. -/
def CfgAt (c : Cfg) (w : World) : Prop := Row w c.al c.nl c.Y ∧ Row w c.ar c.nr c.R ∧ (c.nl : Int) ≤ 1048576 ∧ (c.nr : Int) ≤ 1048576 ∧ (0 ≤ c.z ∧ c.z ≤ 1000000) ∧ allV c.Y = true
theorem CfgAt.below {c : Cfg} {w w' : World} (h : CfgAt c w) (hb : Below w.heap.size w w') : CfgAt c w' := ⟨h.1.below hb, h.2.1.below hb, h.2.2⟩
theorem Cfg.src_val {c : Cfg} {w : World} (h : CfgAt c w) (q : Int) (n : Nat) : isVal (c.src q n) = true := by
  unfold Cfg.src
  split
  · exact liveSrc_val _ _ _ _
  · exact listSrc_val h.2.2.2.2.2 _ _
def rnC (gv cv : Nat) (a1 : Option Addr) (n1 c1 : Nat) (a2 : Option Addr) (n2 c2 : Nat) (c : Cfg) : Array Value :=
  #[.slice (some ⟨gv, 0, none⟩) 8 cv, .slice a1 n1 c1, .slice a2 n2 c2, .slice c.al c.nl c.cl, .slice c.ar c.nr c.cr, .int .i64 c.z, .bool c.lv]
/-- The block 'g' holds the state 'x'; its rows lie in new memory. -/
structure RnAt (B g gv cv : Nat) (a1 : Option Addr) (n1 c1 : Nat) (a2 : Option Addr) (n2 c2 : Nat) (c : Cfg) (x : Sx) (w : World) : Prop where
  box : Box g (rnC gv cv a1 n1 c1 a2 n2 c2 c) 157 w
  low : B ≤ g
  vars : w.ownsRow B 3 1 (.slice (some ⟨gv, 0, none⟩) 8 cv) 8 (ivs x.V)
  sent : w.ownsRow B 3 1 (.slice a1 n1 c1) n1 (ivs x.S)
  used : w.ownsRow B 3 1 (.slice a2 n2 c2) n2 (ivs x.U)
  vg : gv ≠ g
  sg : (Value.slice a1 n1 c1).ownBlock ≠ some g
  ug : (Value.slice a2 n2 c2).ownBlock ≠ some g
  sv : (Value.slice a1 n1 c1).ownBlock ≠ some gv
  uv : (Value.slice a2 n2 c2).ownBlock ≠ some gv
  su : (Value.slice a1 n1 c1).ownBlock = none ∨ (Value.slice a1 n1 c1).ownBlock ≠ (Value.slice a2 n2 c2).ownBlock
def Rn (B g : Nat) (c : Cfg) (x : Sx) (w : World) : Prop := ∃ (gv cv : Nat) (a1 : Option Addr) (n1 c1 : Nat) (a2 : Option Addr) (n2 c2 : Nat), RnAt B g gv cv a1 n1 c1 a2 n2 c2 c x w
theorem ne_or {v : Value} {q : Nat} (h : v.ownBlock ≠ some q) : v.ownBlock = none ∨ v.ownBlock ≠ some q := .inr h
theorem RnAt.below {B g gv cv : Nat} {a1 : Option Addr} {n1 c1 : Nat} {a2 : Option Addr} {n2 c2 : Nat} {c : Cfg} {x : Sx} {w w' : World} (h : RnAt B g gv cv a1 n1 c1 a2 n2 c2 c x w) (hb : Below w.heap.size w w') : RnAt B g gv cv a1 n1 c1 a2 n2 c2 c x w' :=
  ⟨h.box.below hb, h.low, h.vars.kept (grown_below hb none) (.inr (by simp [Value.ownBlock])), h.sent.kept (grown_below hb none) (by cases a1 <;> simp [Value.ownBlock]), h.used.kept (grown_below hb none) (by cases a2 <;> simp [Value.ownBlock]), h.vg, h.sg, h.ug, h.sv, h.uv, h.su⟩
theorem RnAt.vrow {B g gv cv : Nat} {a1 : Option Addr} {n1 c1 : Nat} {a2 : Option Addr} {n2 c2 : Nat} {c : Cfg} {x : Sx} {w : World} (h : RnAt B g gv cv a1 n1 c1 a2 n2 c2 c x w) : Row w (some ⟨gv, 0, none⟩) 8 x.V := Row.of_own h.vars
theorem RnAt.slen {B g gv cv : Nat} {a1 : Option Addr} {n1 c1 : Nat} {a2 : Option Addr} {n2 c2 : Nat} {c : Cfg} {x : Sx} {w : World} (h : RnAt B g gv cv a1 n1 c1 a2 n2 c2 c x w) : x.S.length = n1 := own_len h.sent
theorem RnAt.ulen {B g gv cv : Nat} {a1 : Option Addr} {n1 c1 : Nat} {a2 : Option Addr} {n2 c2 : Nat} {c : Cfg} {x : Sx} {w : World} (h : RnAt B g gv cv a1 n1 c1 a2 n2 c2 c x w) : x.U.length = n2 := own_len h.used
/-- A variable is set. -/
theorem RnAt.set {B g gv cv : Nat} {a1 : Option Addr} {n1 c1 : Nat} {a2 : Option Addr} {n2 c2 : Nat} {c : Cfg} {x : Sx} {w : World} (h : RnAt B g gv cv a1 n1 c1 a2 n2 c2 c x w) (k : Nat) (q : Int) :
    RnAt B g gv cv a1 n1 c1 a2 n2 c2 c ⟨x.V.set k q, x.S, x.U⟩ (w.setCell ⟨gv, k, none⟩ (.int .i64 q)) where
  box := h.box.grown (grown_setCell w gv k _) (fun e => h.vg (Option.some.inj e).symm)
  low := h.low
  vars := by have := (h.vars.stored k (.int .i64 q)).1; rw [ivs_set] at this; exact this
  sent := h.sent.kept (grown_setCell w gv k _) (ne_or h.sv)
  used := h.used.kept (grown_setCell w gv k _) (ne_or h.uv)
  vg := h.vg
  sg := h.sg
  ug := h.ug
  sv := h.sv
  uv := h.uv
  su := h.su
theorem RnAt.gvB {B g gv cv : Nat} {a1 : Option Addr} {n1 c1 : Nat} {a2 : Option Addr} {n2 c2 : Nat} {c : Cfg} {x : Sx} {w : World} (h : RnAt B g gv cv a1 n1 c1 a2 n2 c2 c x w) : B ≤ gv ∧ gv < w.heap.size := own_block h.vars gv rfl
/-- Sent: the row of sent values has grown to a row 'v', and the struct holds it. -/
theorem RnAt.send {B g gv cv : Nat} {a1 : Option Addr} {n1 c1 : Nat} {a2 : Option Addr} {n2 c2 : Nat} {c : Cfg} {x : Sx} {w w' : World} (h : RnAt B g gv cv a1 n1 c1 a2 n2 c2 c x w) {q : Int} {a3 : Option Addr} {c3 : Nat}
    (ho : w'.ownsRow B 3 1 (.slice a3 (n1 + 1) c3) (n1 + 1) (ivs (x.S ++ [q]))) (hg : w.grownBy w' (Value.slice a1 n1 c1).ownBlock) (hat : (Value.slice a3 (n1 + 1) c3).ownBlock = (Value.slice a1 n1 c1).ownBlock ∨ ∀ b, (Value.slice a3 (n1 + 1) c3).ownBlock = some b → w.heap.size ≤ b) :
    RnAt B g gv cv a3 (n1 + 1) c3 a2 n2 c2 c ⟨x.V, x.S ++ [q], x.U⟩ (w'.setCell ⟨g, 1, none⟩ (.slice a3 (n1 + 1) c3)) := by
  have hgs := h.box.lt
  have hne : ∀ b, b < w.heap.size → (Value.slice a1 n1 c1).ownBlock ≠ some b → (Value.slice a3 (n1 + 1) c3).ownBlock ≠ some b := fun b hb hn e => by
    rcases hat with h1 | h1
    · exact hn (h1 ▸ e)
    · have := h1 b e; omega
  have hbx : Box g (rnC gv cv a1 n1 c1 a2 n2 c2 c) 157 w' := h.box.grown hg (fun e => h.sg e.symm)
  refine ⟨hbx.set 1 _, h.low, ?_, ?_, ?_, h.vg, hne g hgs h.sg, h.ug, hne gv h.gvB.2 h.sv, h.uv, ?_⟩
  · exact (h.vars.kept hg (.inr (fun e => h.sv e.symm))).kept (grown_setCell w' g 1 _) (.inr (fun e => h.vg (Option.some.inj e)))
  · exact ho.kept (grown_setCell w' g 1 _) (ne_or (hne g hgs h.sg))
  · refine (h.used.kept hg ?_).kept (grown_setCell w' g 1 _) (ne_or h.ug)
    rcases h.su with h1 | h1
    · rw [h1]; cases hq : (Value.slice a2 n2 c2).ownBlock with
      | none => exact .inl rfl
      | some b => exact .inr (by simp)
    · exact .inr (fun e => h1 e.symm)
  · cases hq : (Value.slice a2 n2 c2).ownBlock with
    | none =>
      cases hq3 : (Value.slice a3 (n1 + 1) c3).ownBlock with
      | none => exact .inl rfl
      | some b => exact .inr (by simp)
    | some b =>
      right
      refine hne b (own_block h.used b hq).2 ?_
      rcases h.su with h1 | h1
      · rw [h1]; simp
      · rw [hq] at h1; exact h1
/-- Sensed: the row of used values has grown to a row, and the struct holds it. -/
theorem RnAt.sense {B g gv cv : Nat} {a1 : Option Addr} {n1 c1 : Nat} {a2 : Option Addr} {n2 c2 : Nat} {c : Cfg} {x : Sx} {w w' : World} (h : RnAt B g gv cv a1 n1 c1 a2 n2 c2 c x w) {q : Int} {a3 : Option Addr} {c3 : Nat}
    (ho : w'.ownsRow B 3 1 (.slice a3 (n2 + 1) c3) (n2 + 1) (ivs (x.U ++ [q]))) (hg : w.grownBy w' (Value.slice a2 n2 c2).ownBlock) (hat : (Value.slice a3 (n2 + 1) c3).ownBlock = (Value.slice a2 n2 c2).ownBlock ∨ ∀ b, (Value.slice a3 (n2 + 1) c3).ownBlock = some b → w.heap.size ≤ b) :
    RnAt B g gv cv a1 n1 c1 a3 (n2 + 1) c3 c ⟨x.V, x.S, x.U ++ [q]⟩ (w'.setCell ⟨g, 2, none⟩ (.slice a3 (n2 + 1) c3)) := by
  have hgs := h.box.lt
  have hne : ∀ b, b < w.heap.size → (Value.slice a2 n2 c2).ownBlock ≠ some b → (Value.slice a3 (n2 + 1) c3).ownBlock ≠ some b := fun b hb hn e => by
    rcases hat with h1 | h1
    · exact hn (h1 ▸ e)
    · have := h1 b e; omega
  have hbx : Box g (rnC gv cv a1 n1 c1 a2 n2 c2 c) 157 w' := h.box.grown hg (fun e => h.ug e.symm)
  refine ⟨hbx.set 2 _, h.low, ?_, ?_, ?_, h.vg, h.sg, hne g hgs h.ug, h.sv, hne gv h.gvB.2 h.uv, ?_⟩
  · exact (h.vars.kept hg (.inr (fun e => h.uv e.symm))).kept (grown_setCell w' g 2 _) (.inr (fun e => h.vg (Option.some.inj e)))
  · refine (h.sent.kept hg ?_).kept (grown_setCell w' g 2 _) (ne_or h.sg)
    exact h.su
  · exact ho.kept (grown_setCell w' g 2 _) (ne_or (hne g hgs h.ug))
  · cases hq : (Value.slice a1 n1 c1).ownBlock with
    | none => exact .inl rfl
    | some b =>
      right
      intro e
      refine hne b (own_block h.sent b hq).2 ?_ e.symm
      rcases h.su with h1 | h1
      · rw [hq] at h1; cases h1
      · rw [hq] at h1; exact fun e => h1 e.symm
end Go.Proofs.YtmgeecdgebemdaaGreatDoor.exe

/- The model's l12Sense: the next sensed value; the state grows by it; nothing else that was there is written. -/
namespace Go.Proofs.YtmgeecdgebemdaaGreatDoor.exe
open Go Go.ChangeShapes Go.WideShapes Go.ChangeAt Go.RowKit Go.Proofs.YtmgeecdgebemdaaGreatDoor.row Go.Proofs.YtmgeecdgebemdaaGreatDoor.val Go.Proofs.YtmgeecdgebemdaaGreatDoor.expr Go.Proofs.YtmgeecdgebemdaaGreatDoor.stm Go.Proofs.YtmgeecdgebemdaaGreatDoor.blk Go.Proofs.YtmgeecdgebemdaaGreatDoor.prg
theorem readsensor_q (w : World) (a : Option Addr) (n cap : Nat) (R : List Int) (hn : (n : Int) ≤ 1048576) (h : Row w a n R) (q m v : Int) (hv : readS R q m = v) (k : Nat) :
    Calls Tryz.prog 215 #[.slice a n cap, .int .i64 q, .int .i64 m] (w.drewN k) fun e w' => e = .returned (.int .i64 v) ∧ w' = w.drewN k := by
  subst hv
  exact (spec_readsensor (w.drewN k) a n cap R hn (h.drewN k) q m).mono fun _ _ ⟨h1, h2⟩ => ⟨h1, h2.symm⟩
theorem list_in {Y : List Int} {n : Nat} {x : Int} (h : Y[n]? = some x) (q : Int) : listSrc Y q n = x := by
  unfold listSrc; rw [List.getD_eq_getElem?_getD, h]; rfl
theorem list_out {Y : List Int} {n : Nat} (h : Y.length ≤ n) (q : Int) : listSrc Y q n = 0 := by
  unfold listSrc; rw [List.getD_eq_getElem?_getD, List.getElem?_eq_none h]; rfl
def SenseOut (w0 w : World) (g gv cv : Nat) (a1 : Option Addr) (n1 c1 : Nat) (a2 : Option Addr) (n2 c2 : Nat) (c : Cfg) (x : Sx) (v : Int) (e : Ending) (w' : World) : Prop :=
  e = .returned (.int .i64 v) ∧ Below w0.heap.size w0 w' ∧ (∀ k, k < w.heap.size → k ≠ g → (Value.slice a2 n2 c2).ownBlock ≠ some k → w'.heap[k]? = w.heap[k]?) ∧ w.heap.size ≤ w'.heap.size ∧
  ∃ a3 c3, RnAt w0.heap.size g gv cv a1 n1 c1 a3 (n2 + 1) c3 c ⟨x.V, x.S, x.U ++ [v]⟩ w'
set_option maxHeartbeats 4000000 in
set_option maxRecDepth 100000 in
theorem spec_sense (w0 w : World) (g gv cv : Nat) (a1 : Option Addr) (n1 c1 : Nat) (a2 : Option Addr) (n2 c2 : Nat) (c : Cfg) (x : Sx) (hB : Below w0.heap.size w0 w) (hc : CfgAt c w0) (h : RnAt w0.heap.size g gv cv a1 n1 c1 a2 n2 c2 c x w)
    (hn : n2 ≤ 100000) (q : Int) (v : Int) (hv : c.src q n2 = v) :
    Calls Tryz.prog 177 #[.pointer (some ⟨g, 0, none⟩), .int .i64 q] w (SenseOut w0 w g gv cv a1 n1 c1 a2 n2 c2 c x v) := by
  obtain ⟨i0, hi, hz0, hz1, hz2⟩ := info_parts row.infoInt
  obtain ⟨al, nl, cl, Y, ar, nr, cr, R, z, lv⟩ := c
  have hcw := hc.below hB
  obtain ⟨hY, hR, hnl, hnr, hz, hYv⟩ := hcw
  dsimp only at hY hR hnl hnr hz hYv
  have H := Lib.hid h
  have HB := Lib.hid hB
  have c2' : w.cell? ⟨g, 2, none⟩ = some (.slice a2 n2 c2) := h.box.cell 2
  have c3' : w.cell? ⟨g, 3, none⟩ = some (.slice al nl cl) := h.box.cell 3
  have c4' : w.cell? ⟨g, 4, none⟩ = some (.slice ar nr cr) := h.box.cell 4
  have c5' : w.cell? ⟨g, 5, none⟩ = some (.int .i64 z) := h.box.cell 5
  have c6' : w.cell? ⟨g, 6, none⟩ = some (.bool lv) := h.box.cell 6
  have hBw : w0.heap.size ≤ w.heap.size := hB.size
  have fin : Hid (∀ (W : World) (a3 : Option Addr) (c3 : Nat), (∃ (d : Nat) (o : Obj), W.ownsRow w0.heap.size 3 1 (.slice a3 (n2 + 1) c3) (n2 + 1) (ivs (x.U ++ [v])) ∧ (w.drewN d |>.alloc o).grownBy W (Value.slice a2 n2 c2).ownBlock ∧ ((Value.slice a3 (n2 + 1) c3).ownBlock = (Value.slice a2 n2 c2).ownBlock ∨ (Value.slice a3 (n2 + 1) c3).ownBlock = some (w.heap.size + 1))) →
      Box g (rnC gv cv a1 n1 c1 a2 n2 c2 ⟨al, nl, cl, Y, ar, nr, cr, R, z, lv⟩) 157 W ∧
      SenseOut w0 w g gv cv a1 n1 c1 a2 n2 c2 ⟨al, nl, cl, Y, ar, nr, cr, R, z, lv⟩ x v (.returned (.int .i64 v)) (W.setCell ⟨g, 2, none⟩ (.slice a3 (n2 + 1) c3))) := by
    rintro W a3 c3 ⟨d, o, ho, hg, hat⟩
    have hg2 : w.grownBy W (Value.slice a2 n2 c2).ownBlock := (World.grownBy.trans (show w.grownBy (w.drewN d) _ from ⟨rfl, rfl, rfl, Nat.le_refl _, fun _ _ _ => rfl⟩) (World.grownBy_alloc (w.drewN d) o _)).trans hg
    have hr := h.sense (q := v) ho hg2 (hat.imp id (fun e b hb => by rw [e] at hb; cases hb; omega))
    refine ⟨h.box.grown hg2 (fun e => h.ug e.symm), rfl, ?_, fun k hk hkg hku => ?_, by simpa using hg2.size, a3, c3, hr⟩
    rotate_left
    · rw [heap_setCell_other W _ k _ (fun e => hkg e)]
      exact hg2.block k hk (fun e => hku e.symm)
    have h1 : Below w0.heap.size w0 W := hB.grown hg2 hBw (fun k hk => (own_block h.used k hk).1)
    exact h1.grown (grown_setCell W g 2 _) (Nat.le_trans hBw hg2.size) (fun k hk => by cases hk; exact h.low)
  clear hB hc
  cases lv
  · clear c4' c5'
    by_cases hlt : n2 < nl
    · have hI : (n2 : Int) < nl := by omega
      obtain ⟨b, off, y, rfl, hlb, hy, hcy⟩ := hY.2 n2 hlt
      obtain rfl : y = v := by rw [← hv]; exact (list_in hy q).symm
      have HV := Lib.hid hv
      clear hv hy hY hR
      go_enter Tryz.func177, Tryz.ntmps177
      go_wp2_with (at_builtin; refine wpList_append_own_at _ rfl _ _ 27 rfl w0.heap.size 3 i0 (.int .i64 0) 1 8 Tryz.underlying27 hi hz0 hz1 hz2 rfl (by decide) _ _ _ rfl (H.out.used.alloc _) ⟨w.heap.size, 0, none⟩ 1 1 [.int .i64 y] rfl rfl (World.news_of_block (cs := #[.int .i64 y]) (t := 3) (fr := (0, 0)) (heap_alloc_new w _)) (by simp [Value.oneCell']) (by unfold maxLen; omega) (by omega) (by simp; omega) ?_; intro v4 w4 hown4 hgrow4 _ hat4; refine Hid.out ?_)
      rw [ivs_snoc] at hown4
      obtain ⟨g4, cp4, rfl, hg4, _⟩ := hown4.form (by omega)
      obtain ⟨hbx, hfin⟩ := fin.out w4 _ _ ⟨0, _, hown4, hgrow4, hat4.imp (fun e => e) (fun e => by simpa using e)⟩
      have d2 : w4.cell? ⟨g, 2, none⟩ = some (.slice a2 n2 c2) := hbx.cell 2
      have f2 : w4.frozen? ⟨g, 2, none⟩ = false := hbx.frozen 2
      have HF := Lib.hid hfin
      clear hown4 hgrow4 hat4 hbx hfin fin
      refine Lib.hid ?_
      go_wp2
      go_ret
      exact HF.out
    · have hI : ¬ (n2 : Int) < nl := by omega
      obtain rfl : (0 : Int) = v := by rw [← hv]; exact (list_out (by rw [hY.1]; omega) q).symm
      have HV := Lib.hid hv
      clear hv hY hR
      go_enter Tryz.func177, Tryz.ntmps177
      go_wp2_with (at_builtin; refine wpList_append_own_at _ rfl _ _ 27 rfl w0.heap.size 3 i0 (.int .i64 0) 1 8 Tryz.underlying27 hi hz0 hz1 hz2 rfl (by decide) _ _ _ rfl (H.out.used.alloc _) ⟨w.heap.size, 0, none⟩ 1 1 [.int .i64 0] rfl rfl (World.news_of_block (cs := #[.int .i64 0]) (t := 3) (fr := (0, 0)) (heap_alloc_new w _)) (by simp [Value.oneCell']) (by unfold maxLen; omega) (by omega) (by simp; omega) ?_; intro v4 w4 hown4 hgrow4 _ hat4; refine Hid.out ?_)
      rw [ivs_snoc] at hown4
      obtain ⟨g4, cp4, rfl, hg4, _⟩ := hown4.form (by omega)
      obtain ⟨hbx, hfin⟩ := fin.out w4 _ _ ⟨0, _, hown4, hgrow4, hat4.imp (fun e => e) (fun e => by simpa using e)⟩
      have d2 : w4.cell? ⟨g, 2, none⟩ = some (.slice a2 n2 c2) := hbx.cell 2
      have f2 : w4.frozen? ⟨g, 2, none⟩ = false := hbx.frozen 2
      have HF := Lib.hid hfin
      clear hown4 hgrow4 hat4 hbx hfin fin
      refine Lib.hid ?_
      go_wp2
      go_ret
      exact HF.out
  · have hn0 : 0 ≤ z + n2 ∧ z + n2 ≤ 2000000 := by omega
    have hv2 : readS R q (z + n2) = v := hv
    have HQ := Lib.hid (readsensor_q w ar nr cr R hnr hR q (z + n2) v hv2)
    have HV := Lib.hid hv
    clear hv hv2 hY hR
    go_enter Tryz.func177, Tryz.ntmps177
    go_wp2
    go_quiet ((first | (go_at_call 215; with_reducible exact Calls.quiet_of_same (HQ.out _))))
    go_wp2_with (at_builtin; refine wpList_append_own_at _ rfl _ _ 27 rfl w0.heap.size 3 i0 (.int .i64 0) 1 8 Tryz.underlying27 hi hz0 hz1 hz2 rfl (by decide) _ _ _ rfl ((H.out.used.kept (grown_below (below_drewN (Below.refl _ w) _) none) (by cases a2 <;> simp [Value.ownBlock])).alloc _) ⟨w.heap.size, 0, none⟩ 1 1 [.int .i64 v] rfl rfl (World.news_of_block (cs := #[.int .i64 v]) (t := 3) (fr := (0, 0)) (heap_alloc_new (w.drewN _) _)) (by simp [Value.oneCell']) (by unfold maxLen; omega) (by omega) (by simp; omega) ?_; intro v4 w4 hown4 hgrow4 _ hat4; refine Hid.out ?_)
    rw [ivs_snoc] at hown4
    obtain ⟨g4, cp4, rfl, hg4, _⟩ := hown4.form (by omega)
    obtain ⟨hbx, hfin⟩ := fin.out w4 _ _ ⟨_, _, hown4, hgrow4, hat4.imp (fun e => e) (fun e => by simpa using e)⟩
    have d2 : w4.cell? ⟨g, 2, none⟩ = some (.slice a2 n2 c2) := hbx.cell 2
    have f2 : w4.frozen? ⟨g, 2, none⟩ = false := hbx.frozen 2
    have HF := Lib.hid hfin
    clear hown4 hgrow4 hat4 hbx hfin fin
    refine Lib.hid ?_
    go_wp2
    go_ret
    exact HF.out
end Go.Proofs.YtmgeecdgebemdaaGreatDoor.exe
