/- Several texts in one: ReadC RefP ExeM ExeR. -/
import Derived.Test.YtlinpefeojpjnaaGreatGHub2
import Derived.Test.YtlinpefeojpjnaaGreatGHub11
import Derived.Deep.AppendLies
import Derived.WalkSpells
import Derived.Test.YtlinpefeojpjnaaGreatGHub16
import Derived.Test.YtlinpefeojpjnaaGreatGHub10

/- Chapter 3's ReadsOf of the model: the numbers of the variables that a valid expression names, in ascending order, in new memory; nothing that was there is written. -/
namespace Go.Proofs.YtlinpefeojpjnaaGreat.expr
open Go.ChangeShapes Go.WideShapes Go.ChangeAt Go.RowKit Go.Proofs.YtlinpefeojpjnaaGreat.row Go.Proofs.YtlinpefeojpjnaaGreat.val

def readsV (o a b : Int) : List Int := if exprOk o a b then rd a b 8 else []
/-- A new row of these numbers. -/
def NewInts (w : World) (L : List Int) (e : Ending) (w' : World) : Prop :=
  ∃ ad n cap, e = .returned (.slice ad n cap) ∧ w'.ownsRow w.heap.size 3 1 (.slice ad n cap) n (ivs L) ∧ Below w.heap.size w w'

end Go.Proofs.YtlinpefeojpjnaaGreat.expr

/- A reference as a value, and in new memory; what the program's RefRun, RefTasks and SameRef are to give: the shapes of their contracts. -/
namespace Go.Proofs.YtlinpefeojpjnaaGreat.ref
open Go Go.ChangeShapes Go.WideShapes Go.ChangeAt Go.RowKit Go.Proofs.YtlinpefeojpjnaaGreat.row Go.Proofs.YtlinpefeojpjnaaGreat.val Go.Proofs.YtlinpefeojpjnaaGreat.expr Go.Proofs.YtlinpefeojpjnaaGreat.stm Go.Proofs.YtlinpefeojpjnaaGreat.blk Go.Proofs.YtlinpefeojpjnaaGreat.prg Go.Proofs.YtlinpefeojpjnaaGreat.exe Go.Proofs.YtlinpefeojpjnaaGreat.srow

abbrev refV (a1 : Option Addr) (n1 c1 : Nat) (a2 : Option Addr) (n2 c2 : Nat) (R : Rf) : Value := .agg #[.slice a1 n1 c1, .slice a2 n2 c2, .int .i64 R.T]
/-- The reference in new memory. -/
def RefMem (B : Nat) (a1 : Option Addr) (n1 c1 : Nat) (a2 : Option Addr) (n2 c2 : Nat) (R : Rf) (w' : World) : Prop :=
  w'.ownsRow B 3 1 (.slice a1 n1 c1) n1 (ivs R.V) ∧ w'.ownsRow B 3 1 (.slice a2 n2 c2) n2 (ivs R.S) ∧ ((Value.slice a1 n1 c1).ownBlock = none ∨ (Value.slice a1 n1 c1).ownBlock ≠ (Value.slice a2 n2 c2).ownBlock)
def NewRef (w : World) (R : Rf) (e : Ending) (w' : World) : Prop :=
  ∃ a1 n1 c1 a2 n2 c2, e = .returned (refV a1 n1 c1 a2 n2 c2 R) ∧ RefMem w.heap.size a1 n1 c1 a2 n2 c2 R w' ∧ Below w.heap.size w w'
def NewRefB (w : World) (r : Bool) (R : Rf) (e : Ending) (w' : World) : Prop :=
  ∃ a1 n1 c1 a2 n2 c2, e = .returned (.tuple #[refV a1 n1 c1 a2 n2 c2 R, .bool r]) ∧ RefMem w.heap.size a1 n1 c1 a2 n2 c2 R w' ∧ Below w.heap.size w w'
abbrev zero3R : Array Value := #[.slice none 0 0, .slice none 0 0, .int .i64 0]
abbrev RrC : Prop := ∀ (a : Option Addr) (n cap : Nat) (P : List Tk) (_ : Sizes P) (_ : n ≤ cap) (w : World) (_ : TkRow w a n P) (ad : Option Addr) (nv cv : Nat) (V : List Int) (_ : (nv : Int) ≤ 1048576) (_ : nv ≤ cv) (_ : Row w ad nv V) (au : Option Addr) (nu cu : Nat) (UU : List (List Int)) (_ : SSizes UU) (_ : nu ≤ cu) (_ : SRow w au nu UU)
    (i : Int) (r : Bool) (R : Rf) (_ : RefIs P V UU i r R), Calls Tryz.prog 11 #[.agg #[.slice a n cap], .int .i64 i, .slice ad nv cv, .slice au nu cu] w (NewRefB w r R)
abbrev RtC : Prop := ∀ (a : Option Addr) (n cap : Nat) (P : List Tk) (_ : Sizes P) (_ : n ≤ cap) (w : World) (_ : TkRow w a n P) (ad : Option Addr) (nv cv : Nat) (V : List Int) (_ : (nv : Int) ≤ 1048576) (_ : nv ≤ cv) (_ : Row w ad nv V) (au : Option Addr) (nu cu : Nat) (UU : List (List Int)) (_ : SSizes UU) (_ : nu ≤ cu) (_ : SRow w au nu UU)
    (i : Int) (L : List Int) (_ : TasksIs P V UU i L), Calls Tryz.prog 22 #[.agg #[.slice a n cap], .int .i64 i, .slice ad nv cv, .slice au nu cu] w (NewInts w L)
end Go.Proofs.YtlinpefeojpjnaaGreat.ref

/- Chapter 12 of the model: ReadSensor, and whether every element is a value; nothing that was there is written. -/
namespace Go.Proofs.YtlinpefeojpjnaaGreat.exe
open Go Go.ChangeShapes Go.WideShapes Go.ChangeAt Go.RowKit Go.Proofs.YtlinpefeojpjnaaGreat.row Go.Proofs.YtlinpefeojpjnaaGreat.val Go.Proofs.YtlinpefeojpjnaaGreat.expr Go.Proofs.YtlinpefeojpjnaaGreat.stm Go.Proofs.YtlinpefeojpjnaaGreat.blk Go.Proofs.YtlinpefeojpjnaaGreat.prg

theorem all_bad' {L : List Int} {k : Nat} {x : Int} (hx : L[k]? = some x) (hv : isVal x = false) : L.all isVal = false := by
  rw [← Bool.not_eq_true, List.all_eq_true]
  intro h
  have := h x (List.mem_of_getElem? hx)
  rw [hv] at this; cases this
theorem all_step' {L : List Int} {k : Nat} {x : Int} (hx : L[k]? = some x) (h : ∀ y ∈ L.take k, isVal y = true) (hv : isVal x = true) : ∀ y ∈ L.take (k + 1), isVal y = true := fun y hy => by
  rw [List.take_add_one, hx] at hy
  rcases List.mem_append.1 hy with h1 | h1
  · exact h y h1
  · simp at h1; rw [h1]; exact hv
set_option maxRecDepth 100000 in
set_option maxHeartbeats 400000 in
theorem spec_vals (w : World) (a : Option Addr) (n cap : Nat) (L : List Int) (hn : (n : Int) ≤ 1048576) (h : Row w a n L) (r : Bool) (hr : allV L = r) :
    Calls Tryz.prog 40 #[.slice a n cap] w (RetB w r) := by
  subst hr
  have HL := Lib.hid h.1
  have HC : Hid (∀ k, k < n → ∃ (b off : Nat) (x : Int), a = some ⟨b, off, none⟩ ∧ L[k]? = some x ∧ w.cell? ⟨b, off + k, none⟩ = some (.int .i64 x)) := fun k hk => by
    obtain ⟨b, off, x, e, _, hx, hc⟩ := h.2 k hk
    exact ⟨b, off, x, e, hx, hc⟩
  clear h
  go_enter Tryz.func40, Tryz.ntmps40
  go_wp2
  go_loop [3] (fun i => ∃ k : Nat, k ≤ n ∧ i = .int .i64 k ∧ Hid (∀ y ∈ L.take k, isVal y = true)) (fun i => n - (intOf i).toNat)
  case atStart => exact ⟨0, Nat.zero_le _, rfl, by simp [Hid]⟩
  case round =>
    obtain ⟨k, hk, rfl, hA⟩ := hrel
    by_cases hlt : k < n
    · obtain ⟨b, off, x, rfl, hx, hc⟩ := HC.out k hlt
      have hI : (k : Int) < n := by omega
      have HX := Lib.hid hx
      clear hx
      cases hv : isVal x
      · have HF := Lib.hid (show allV L = false from all_bad' HX.out hv)
        go_wp2_with (go_at_call 54; refine (spec_isval _ _).mono ?_; rintro e w1 ⟨rfl, rfl⟩)
        go_ret
        exact ⟨by rw [HF.out]; rfl, rfl⟩
      · have HA2 := Lib.hid (all_step' HX.out hA.out hv)
        go_wp2_with (go_at_call 54; refine (spec_isval _ _).mono ?_; rintro e w1 ⟨rfl, rfl⟩)
        go_round
        case rel => exact ⟨k + 1, by omega, by go_num, HA2⟩
        case measure => simp [intOf]; omega
    · have hkn : k = n := by omega
      subst hkn
      have HF := Lib.hid (show allV L = true by
        rw [allV_iff]
        have h1 := hA.out
        rw [List.take_of_length_le (by rw [HL.out]; exact Nat.le_refl _)] at h1
        exact h1)
      go_wp2
      go_ret
      exact ⟨by rw [HF.out]; rfl, rfl⟩
set_option maxRecDepth 100000 in
set_option maxHeartbeats 2000000 in
theorem spec_readsensor (w : World) (a : Option Addr) (n cap : Nat) (R : List Int) (hn : (n : Int) ≤ 1048576) (h : Row w a n R) (q m : Int) :
    Calls Tryz.prog 82 #[.slice a n cap, .int .i64 q, .int .i64 m] w (Ret w (readS R q m)) := by
  have hl := h.1
  by_cases h0 : n = 0
  · subst h0
    have HV := Lib.hid (readS_no (R := R) (q := q) (n := m) (.inl hl))
    go_enter Tryz.func82, Tryz.ntmps82
    go_wp2
    go_ret
    exact ⟨ret_int HV.out.symm, rfl⟩
  · have hpos : ¬ (n : Int) = 0 := by omega
    cases hq : (decide (0 ≤ q) && decide (q ≤ 3))
    · have HQ := Lib.hid hq
      have HV := Lib.hid (readS_no (R := R) (q := q) (n := m) (by simp at hq; omega))
      clear hq
      go_enter Tryz.func82, Tryz.ntmps82
      go_wp2_with (go_at_call 39; (with_reducible refine (in_any q 0 3 _ HQ.out _).mono ?_); rintro e w3 ⟨rfl, rfl⟩)
      go_ret
      exact ⟨ret_int HV.out.symm, rfl⟩
    · have HQ := Lib.hid hq
      have hq2 : 0 ≤ q ∧ q ≤ 3 := by simpa using hq
      clear hq
      by_cases hm : m < 0
      · have HV := Lib.hid (readS_no (R := R) (q := q) (n := m) (by omega))
        go_enter Tryz.func82, Tryz.ntmps82
        go_wp2_with (go_at_call 39; (with_reducible refine (in_any q 0 3 _ HQ.out _).mono ?_); rintro e w3 ⟨rfl, rfl⟩)
        go_ret
        exact ⟨ret_int HV.out.symm, rfl⟩
      · have hmd : decide (m < 0) = false := by simp; omega
        have ht : m.tmod n = m % n := Int.tmod_eq_emod_of_nonneg (by omega)
        have hr0 : 0 ≤ m % n := Int.emod_nonneg m (by omega)
        have hr1 : m % n < n := Int.emod_lt_of_pos m (by omega)
        obtain ⟨k, hk⟩ : ∃ k : Nat, m % n = k := ⟨(m % n).toNat, by omega⟩
        obtain ⟨b, off, x, rfl, _, hx, hc⟩ := h.2 k (by omega)
        have HV := Lib.hid (show readS R q m = sat (sat x + sat (100 * q)) by
          rw [readS_ok (by omega) hq2.1 hq2.2 (by omega), hl, hk, List.getD_eq_getElem?_getD, show ((k : Int)).toNat = k by omega, hx]; rfl)
        rw [hk] at ht hr0 hr1
        have hm0 : 0 ≤ m := by omega
        clear hx h hk hm
        go_enter Tryz.func82, Tryz.ntmps82
        go_wp2_with (first
          | (go_at_call 39; (with_reducible refine (in_any q 0 3 _ HQ.out _).mono ?_); rintro e w3 ⟨rfl, rfl⟩)
          | (go_at_call 79; refine (spec_add _ _ _).mono ?_; rintro e w4 ⟨rfl, rfl⟩))
        go_ret
        exact ⟨ret_int HV.out.symm, rfl⟩
end Go.Proofs.YtlinpefeojpjnaaGreat.exe

/- The state of an execution in memory: a struct that holds three rows of its own (the variables, what is sent, what is sensed); nothing else that was there is written. -/
namespace Go.Proofs.YtlinpefeojpjnaaGreat.exe
open Go Go.ChangeShapes Go.WideShapes Go.ChangeAt Go.RowKit Go.Proofs.YtlinpefeojpjnaaGreat.row Go.Proofs.YtlinpefeojpjnaaGreat.val Go.Proofs.YtlinpefeojpjnaaGreat.expr Go.Proofs.YtlinpefeojpjnaaGreat.stm Go.Proofs.YtlinpefeojpjnaaGreat.blk Go.Proofs.YtlinpefeojpjnaaGreat.prg

/-- What an execution is given: the senses, or the readings and the number of the first one. -/
structure Cfg where
  (al : Option Addr) (nl cl : Nat) (Y : List Int)
  (ar : Option Addr) (nr cr : Nat) (R : List Int)
  (z : Int) (lv : Bool)
def Cfg.src (c : Cfg) : Int → Nat → Int := if c.lv then liveSrc c.R c.z else listSrc c.Y
/-- The rows that it is given are there, and the senses are values. -/
def CfgAt (c : Cfg) (w : World) : Prop := Row w c.al c.nl c.Y ∧ Row w c.ar c.nr c.R ∧ (c.nl : Int) ≤ 1048576 ∧ (c.nr : Int) ≤ 1048576 ∧ (0 ≤ c.z ∧ c.z ≤ 1000000) ∧ allV c.Y = true
theorem CfgAt.below {c : Cfg} {w w' : World} (h : CfgAt c w) (hb : Below w.heap.size w w') : CfgAt c w' := ⟨h.1.below hb, h.2.1.below hb, h.2.2⟩
theorem Cfg.src_val {c : Cfg} {w : World} (h : CfgAt c w) (q : Int) (n : Nat) : isVal (c.src q n) = true := by
  unfold Cfg.src
  split
  · exact liveSrc_val _ _ _ _
  · exact listSrc_val h.2.2.2.2.2 _ _
def rnC (gv cv : Nat) (a1 : Option Addr) (n1 c1 : Nat) (a2 : Option Addr) (n2 c2 : Nat) (c : Cfg) : Array Value :=
  #[.slice (some ⟨gv, 0, none⟩) 8 cv, .slice a1 n1 c1, .slice a2 n2 c2, .slice c.al c.nl c.cl, .slice c.ar c.nr c.cr, .int .i64 c.z, .bool c.lv]
/-- The block 'g' holds the state 'x'; its rows lie in new memory. -/
structure RnAt (B g gv cv : Nat) (a1 : Option Addr) (n1 c1 : Nat) (a2 : Option Addr) (n2 c2 : Nat) (c : Cfg) (x : Sx) (w : World) : Prop where
  box : Box g (rnC gv cv a1 n1 c1 a2 n2 c2 c) 82 w
  low : B ≤ g
  vars : w.ownsRow B 3 1 (.slice (some ⟨gv, 0, none⟩) 8 cv) 8 (ivs x.V)
  sent : w.ownsRow B 3 1 (.slice a1 n1 c1) n1 (ivs x.S)
  used : w.ownsRow B 3 1 (.slice a2 n2 c2) n2 (ivs x.U)
  vg : gv ≠ g
  sg : (Value.slice a1 n1 c1).ownBlock ≠ some g
  ug : (Value.slice a2 n2 c2).ownBlock ≠ some g
  sv : (Value.slice a1 n1 c1).ownBlock ≠ some gv
  uv : (Value.slice a2 n2 c2).ownBlock ≠ some gv
  su : (Value.slice a1 n1 c1).ownBlock = none ∨ (Value.slice a1 n1 c1).ownBlock ≠ (Value.slice a2 n2 c2).ownBlock
def Rn (B g : Nat) (c : Cfg) (x : Sx) (w : World) : Prop := ∃ (gv cv : Nat) (a1 : Option Addr) (n1 c1 : Nat) (a2 : Option Addr) (n2 c2 : Nat), RnAt B g gv cv a1 n1 c1 a2 n2 c2 c x w
theorem ne_or {v : Value} {q : Nat} (h : v.ownBlock ≠ some q) : v.ownBlock = none ∨ v.ownBlock ≠ some q := .inr h
theorem RnAt.below {B g gv cv : Nat} {a1 : Option Addr} {n1 c1 : Nat} {a2 : Option Addr} {n2 c2 : Nat} {c : Cfg} {x : Sx} {w w' : World} (h : RnAt B g gv cv a1 n1 c1 a2 n2 c2 c x w) (hb : Below w.heap.size w w') : RnAt B g gv cv a1 n1 c1 a2 n2 c2 c x w' :=
  ⟨h.box.below hb, h.low, h.vars.kept (grown_below hb none) (.inr (by simp [Value.ownBlock])), h.sent.kept (grown_below hb none) (by cases a1 <;> simp [Value.ownBlock]), h.used.kept (grown_below hb none) (by cases a2 <;> simp [Value.ownBlock]), h.vg, h.sg, h.ug, h.sv, h.uv, h.su⟩
theorem RnAt.vrow {B g gv cv : Nat} {a1 : Option Addr} {n1 c1 : Nat} {a2 : Option Addr} {n2 c2 : Nat} {c : Cfg} {x : Sx} {w : World} (h : RnAt B g gv cv a1 n1 c1 a2 n2 c2 c x w) : Row w (some ⟨gv, 0, none⟩) 8 x.V := Row.of_own h.vars
theorem RnAt.slen {B g gv cv : Nat} {a1 : Option Addr} {n1 c1 : Nat} {a2 : Option Addr} {n2 c2 : Nat} {c : Cfg} {x : Sx} {w : World} (h : RnAt B g gv cv a1 n1 c1 a2 n2 c2 c x w) : x.S.length = n1 := own_len h.sent
theorem RnAt.ulen {B g gv cv : Nat} {a1 : Option Addr} {n1 c1 : Nat} {a2 : Option Addr} {n2 c2 : Nat} {c : Cfg} {x : Sx} {w : World} (h : RnAt B g gv cv a1 n1 c1 a2 n2 c2 c x w) : x.U.length = n2 := own_len h.used
/-- A variable is set. -/
theorem RnAt.set {B g gv cv : Nat} {a1 : Option Addr} {n1 c1 : Nat} {a2 : Option Addr} {n2 c2 : Nat} {c : Cfg} {x : Sx} {w : World} (h : RnAt B g gv cv a1 n1 c1 a2 n2 c2 c x w) (k : Nat) (q : Int) :
    RnAt B g gv cv a1 n1 c1 a2 n2 c2 c ⟨x.V.set k q, x.S, x.U⟩ (w.setCell ⟨gv, k, none⟩ (.int .i64 q)) where
  box := h.box.grown (grown_setCell w gv k _) (fun e => h.vg (Option.some.inj e).symm)
  low := h.low
  vars := by have := (h.vars.stored k (.int .i64 q)).1; rw [ivs_set] at this; exact this
  sent := h.sent.kept (grown_setCell w gv k _) (ne_or h.sv)
  used := h.used.kept (grown_setCell w gv k _) (ne_or h.uv)
  vg := h.vg
  sg := h.sg
  ug := h.ug
  sv := h.sv
  uv := h.uv
  su := h.su
theorem RnAt.gvB {B g gv cv : Nat} {a1 : Option Addr} {n1 c1 : Nat} {a2 : Option Addr} {n2 c2 : Nat} {c : Cfg} {x : Sx} {w : World} (h : RnAt B g gv cv a1 n1 c1 a2 n2 c2 c x w) : B ≤ gv ∧ gv < w.heap.size := own_block h.vars gv rfl
/-- Sent: the row of sent values has grown to a row 'v', and the struct holds it. -/
theorem RnAt.send {B g gv cv : Nat} {a1 : Option Addr} {n1 c1 : Nat} {a2 : Option Addr} {n2 c2 : Nat} {c : Cfg} {x : Sx} {w w' : World} (h : RnAt B g gv cv a1 n1 c1 a2 n2 c2 c x w) {q : Int} {a3 : Option Addr} {c3 : Nat}
    (ho : w'.ownsRow B 3 1 (.slice a3 (n1 + 1) c3) (n1 + 1) (ivs (x.S ++ [q]))) (hg : w.grownBy w' (Value.slice a1 n1 c1).ownBlock) (hat : (Value.slice a3 (n1 + 1) c3).ownBlock = (Value.slice a1 n1 c1).ownBlock ∨ ∀ b, (Value.slice a3 (n1 + 1) c3).ownBlock = some b → w.heap.size ≤ b) :
    RnAt B g gv cv a3 (n1 + 1) c3 a2 n2 c2 c ⟨x.V, x.S ++ [q], x.U⟩ (w'.setCell ⟨g, 1, none⟩ (.slice a3 (n1 + 1) c3)) := by
  have hgs := h.box.lt
  have hne : ∀ b, b < w.heap.size → (Value.slice a1 n1 c1).ownBlock ≠ some b → (Value.slice a3 (n1 + 1) c3).ownBlock ≠ some b := fun b hb hn e => by
    rcases hat with h1 | h1
    · exact hn (h1 ▸ e)
    · have := h1 b e; omega
  have hbx : Box g (rnC gv cv a1 n1 c1 a2 n2 c2 c) 82 w' := h.box.grown hg (fun e => h.sg e.symm)
  refine ⟨hbx.set 1 _, h.low, ?_, ?_, ?_, h.vg, hne g hgs h.sg, h.ug, hne gv h.gvB.2 h.sv, h.uv, ?_⟩
  · exact (h.vars.kept hg (.inr (fun e => h.sv e.symm))).kept (grown_setCell w' g 1 _) (.inr (fun e => h.vg (Option.some.inj e)))
  · exact ho.kept (grown_setCell w' g 1 _) (ne_or (hne g hgs h.sg))
  · refine (h.used.kept hg ?_).kept (grown_setCell w' g 1 _) (ne_or h.ug)
    rcases h.su with h1 | h1
    · rw [h1]; cases hq : (Value.slice a2 n2 c2).ownBlock with
      | none => exact .inl rfl
      | some b => exact .inr (by simp)
    · exact .inr (fun e => h1 e.symm)
  · cases hq : (Value.slice a2 n2 c2).ownBlock with
    | none =>
      cases hq3 : (Value.slice a3 (n1 + 1) c3).ownBlock with
      | none => exact .inl rfl
      | some b => exact .inr (by simp)
    | some b =>
      right
      refine hne b (own_block h.used b hq).2 ?_
      rcases h.su with h1 | h1
      · rw [h1]; simp
      · rw [hq] at h1; exact h1
/-- Sensed: the row of used values has grown to a row, and the struct holds it. -/
theorem RnAt.sense {B g gv cv : Nat} {a1 : Option Addr} {n1 c1 : Nat} {a2 : Option Addr} {n2 c2 : Nat} {c : Cfg} {x : Sx} {w w' : World} (h : RnAt B g gv cv a1 n1 c1 a2 n2 c2 c x w) {q : Int} {a3 : Option Addr} {c3 : Nat}
    (ho : w'.ownsRow B 3 1 (.slice a3 (n2 + 1) c3) (n2 + 1) (ivs (x.U ++ [q]))) (hg : w.grownBy w' (Value.slice a2 n2 c2).ownBlock) (hat : (Value.slice a3 (n2 + 1) c3).ownBlock = (Value.slice a2 n2 c2).ownBlock ∨ ∀ b, (Value.slice a3 (n2 + 1) c3).ownBlock = some b → w.heap.size ≤ b) :
    RnAt B g gv cv a1 n1 c1 a3 (n2 + 1) c3 c ⟨x.V, x.S, x.U ++ [q]⟩ (w'.setCell ⟨g, 2, none⟩ (.slice a3 (n2 + 1) c3)) := by
  have hgs := h.box.lt
  have hne : ∀ b, b < w.heap.size → (Value.slice a2 n2 c2).ownBlock ≠ some b → (Value.slice a3 (n2 + 1) c3).ownBlock ≠ some b := fun b hb hn e => by
    rcases hat with h1 | h1
    · exact hn (h1 ▸ e)
    · have := h1 b e; omega
  have hbx : Box g (rnC gv cv a1 n1 c1 a2 n2 c2 c) 82 w' := h.box.grown hg (fun e => h.ug e.symm)
  refine ⟨hbx.set 2 _, h.low, ?_, ?_, ?_, h.vg, h.sg, hne g hgs h.ug, h.sv, hne gv h.gvB.2 h.uv, ?_⟩
  · exact (h.vars.kept hg (.inr (fun e => h.uv e.symm))).kept (grown_setCell w' g 2 _) (.inr (fun e => h.vg (Option.some.inj e)))
  · refine (h.sent.kept hg ?_).kept (grown_setCell w' g 2 _) (ne_or h.sg)
    exact h.su
  · exact ho.kept (grown_setCell w' g 2 _) (ne_or (hne g hgs h.ug))
  · cases hq : (Value.slice a1 n1 c1).ownBlock with
    | none => exact .inl rfl
    | some b =>
      right
      intro e
      refine hne b (own_block h.sent b hq).2 ?_ e.symm
      rcases h.su with h1 | h1
      · rw [hq] at h1; cases h1
      · rw [hq] at h1; exact fun e => h1 e.symm
end Go.Proofs.YtlinpefeojpjnaaGreat.exe
