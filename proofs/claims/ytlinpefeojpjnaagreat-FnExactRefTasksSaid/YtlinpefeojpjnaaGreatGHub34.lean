/- Several texts in one: ExeT ExeU. -/
import Derived.Test.YtlinpefeojpjnaaGreatGHub20
import Derived.Test.YtlinpefeojpjnaaGreatGHub18
import Derived.Test.YtlinpefeojpjnaaGreatGHub17
import Derived.Deep.AppendLies
import Derived.Test.YtlinpefeojpjnaaGreatGHub31
import Derived.Test.YtlinpefeojpjnaaGreatGHub27

/- Executions by parts of a block; the program's state of an execution in memory: a struct that holds three rows of its own and the function that yields the readings; nothing else that was there is written. -/
namespace Go.Proofs.YtlinpefeojpjnaaGreat.exe
open Go Go.ChangeShapes Go.WideShapes Go.ChangeAt Go.RowKit Go.Proofs.YtlinpefeojpjnaaGreat.row Go.Proofs.YtlinpefeojpjnaaGreat.val Go.Proofs.YtlinpefeojpjnaaGreat.expr Go.Proofs.YtlinpefeojpjnaaGreat.stm Go.Proofs.YtlinpefeojpjnaaGreat.blk Go.Proofs.YtlinpefeojpjnaaGreat.sets

theorem part_par {L : List Sm} {c m a b : Nat} {T : Fst} (h : c + m ≤ L.length) (hr : Par (blk.part L c m) a b T) : b ≤ m → Par L (c + a) (c + b) T := by
  induction hr with
  | nil a => intro _; exact .nil _
  | one a b T s hs ho h6 hr ih =>
    intro hb
    have hl := hr.le
    refine .one _ _ _ s (by rw [← part_at (show a < m by omega)]; exact hs) ho h6 ?_
    have := ih hb
    rw [show c + (a + 1) = c + a + 1 by omega] at this; exact this
  | nest a e b B T s hs he hbb hr ih1 ih2 =>
    intro hb
    have hl := hr.le
    have hae := he.1
    have h1 := ih1 (by omega)
    have h2 := ih2 hb
    rw [show c + (a + 1) = c + a + 1 by omega] at h1
    rw [show c + (e + 1) = c + e + 1 by omega] at h2
    exact .nest _ (c + e) _ _ _ s (by rw [← part_at (show a < m by omega)]; exact hs) (part_end h he) h1 h2
theorem par_flat {L : List Sm} {s : Sm} {T : Fst} (hl : 1 ≤ L.length) (hs : L[0]? = some s) (ho : opn s = false) (h6 : s.k ≠ 6) (h : Par (blk.part L 1 (L.length - 1)) 0 (blk.part L 1 (L.length - 1)).length T) : Par L 0 L.length (.one s T) := by
  have hp : 1 + (L.length - 1) ≤ L.length := by omega
  rw [part_len hp] at h
  have h1 := part_par hp h (Nat.le_refl _)
  rw [Nat.add_zero, show 1 + (L.length - 1) = L.length by omega] at h1
  exact .one 0 _ T s hs ho h6 h1
theorem par_nest {L : List Sm} {s : Sm} {e : Nat} {B T : Fst} (hs : L[0]? = some s) (he : IsEnd L 0 e) (hx : Par (blk.part L 1 (e - 1)) 0 (blk.part L 1 (e - 1)).length B) (h : Par (blk.part L (e + 1) (L.length - (e + 1))) 0 (blk.part L (e + 1) (L.length - (e + 1))).length T) :
    Par L 0 L.length (.nest s B T) := by
  have h0 := he.1
  have h1 := he.2.1
  have hp : 1 + (e - 1) ≤ L.length := by omega
  have hq : (e + 1) + (L.length - (e + 1)) ≤ L.length := by omega
  rw [part_len hp] at hx
  rw [part_len hq] at h
  have k1 := part_par hp hx (Nat.le_refl _)
  have k2 := part_par hq h (Nat.le_refl _)
  rw [Nat.add_zero, show 1 + (e - 1) = e by omega] at k1
  rw [Nat.add_zero, show (e + 1) + (L.length - (e + 1)) = L.length by omega] at k2
  exact .nest 0 e _ B T s hs he k1 k2
/-- The state 'x' has been reached, and 'M' is still to run. -/
def RestE (src : Int → Nat → Int) (L : List Sm) (x0 : Sx) (M : List Sm) (x : Sx) : Prop := ∀ T, Par M 0 M.length T → ∃ T0, Par L 0 L.length T0 ∧ exec src T0 x0 = exec src T x ∧ tot x + cnt T ≤ tot x0 + cnt T0
theorem RestE.start (src : Int → Nat → Int) (L : List Sm) (x0 : Sx) : RestE src L x0 L x0 := fun T h => ⟨T, h, rfl, Int.le_refl _⟩
theorem RestE.done {src : Int → Nat → Int} {L : List Sm} {x0 x : Sx} (h : RestE src L x0 [] x) {T0 : Fst} (hT : Par L 0 L.length T0) : exec src T0 x0 = x := by
  obtain ⟨T, h1, h2, _⟩ := h .nil (.nil 0)
  rw [hT.unique h1, h2]; rfl
theorem RestE.one {src : Int → Nat → Int} {L M : List Sm} {x0 x : Sx} {n : Nat} {s : Sm} (h : RestE src L x0 M x) (hb : IsBlk M) (hn : M.length = n) (hs : M[0]? = some s) (ho : opn s = false) :
    IsBlk (blk.part M (0 + 1) (n - (0 + 1))) ∧ RestE src L x0 (blk.part M (0 + 1) (n - (0 + 1))) (step1 src s x) := by
  subst hn
  have hlt := (List.getElem?_eq_some_iff.1 hs).1
  have h1 := hAt_succ hs
  rw [hAt_zero] at h1
  have h6 : s.k ≠ 6 := fun h6 => by
    rw [dlt_end h6] at h1
    have := (blk_bounds hb (0 + 1)).1; omega
  rw [dlt_flat ho h6] at h1
  refine ⟨rest_blk hb (by omega) (by omega), fun T hT => ?_⟩
  obtain ⟨T0, k1, k2, k3⟩ := h _ (par_flat (by omega) hs ho h6 hT)
  refine ⟨T0, k1, k2, ?_⟩
  have := tot_step src s x
  simp only [cnt] at k3
  omega
theorem RestE.nest {src : Int → Nat → Int} {L M : List Sm} {x0 x : Sx} {B : Fst} {n e : Nat} {s : Sm} (h : RestE src L x0 M x) (hb : IsBlk M) (hn : M.length = n) (hs : M[0]? = some s) (he : IsEnd M 0 e) (hB : Par (blk.part M 1 (e - 1)) 0 (blk.part M 1 (e - 1)).length B) :
    IsBlk (blk.part M (e + 1) (n - (e + 1))) ∧ RestE src L x0 (blk.part M (e + 1) (n - (e + 1))) (rep (exec src B) (its s x) x) := by
  subst hn
  have h1 := he.2.1
  refine ⟨rest_blk hb (by omega) (by rw [he.2.2.1, hAt_zero]), fun T hT => ?_⟩
  obtain ⟨T0, k1, k2, k3⟩ := h _ (par_nest hs he hB hT)
  refine ⟨T0, k1, k2, ?_⟩
  have h2 := rep_tot (fun y => exec_tot src B y) (its s x) x
  have h3 : (its s x : Int) * cnt B ≤ max 1 s.n * cnt B := Int.mul_le_mul_of_nonneg_right (its_le s x) (cnt_nonneg B)
  simp only [cnt] at k3
  omega
/-- What has been sent and sensed stays below the bound of the whole. -/
theorem RestE.small {src : Int → Nat → Int} {L M : List Sm} {x0 x : Sx} {m : Int} (h : RestE src L x0 M x) (hm : ∀ T0, Par L 0 L.length T0 → tot x0 + cnt T0 ≤ m) : ∀ T, Par M 0 M.length T → tot x + cnt T ≤ m := fun T hT => by
  obtain ⟨T0, k1, _, k3⟩ := h T hT
  have := hm T0 k1
  omega
theorem RestE.tot {src : Int → Nat → Int} {L M : List Sm} {x0 x : Sx} {m : Int} (h : RestE src L x0 M x) (hM : IsBlk M) (hm : ∀ T0, Par L 0 L.length T0 → tot x0 + cnt T0 ≤ m) : tot x ≤ m := by
  obtain ⟨T, hT⟩ := par_ex hM
  have := h.small hm T hT
  have := cnt_nonneg T
  omega
theorem step_varsP {src : Int → Nat → Int} (hsrc : ∀ q n, isVal (src q n) = true) (s : Sm) {x : Sx} (h : varsOk x.V = true) : varsOk (step1 src s x).V = true := by
  rcases step_cases src s x with ⟨_, e⟩ | ⟨_, e⟩ | ⟨_, e⟩ | ⟨_, _, e⟩ <;> rw [e]
  · exact vars_set h (evalV_val _ _ _ _) _
  · exact vars_set h (hsrc _ _) _
  · exact h
  · exact h
theorem exec_varsP {src : Int → Nat → Int} (hsrc : ∀ q n, isVal (src q n) = true) : ∀ (T : Fst) {x : Sx}, varsOk x.V = true → varsOk (exec src T x).V = true
  | .nil, _, h => h
  | .one s r, _, h => exec_varsP hsrc r (step_varsP hsrc s h)
  | .nest _ b r, x, h => exec_varsP hsrc r (rep_ind (P := fun y => varsOk y.V = true) (fun _ hy => exec_varsP hsrc b hy) _ x h)

/-- What the program's execution is given: where the function that yields the readings finds its list, and the number of the first one. -/
structure PCf where
  (lv : Bool) (gu gz : Nat) (al : Option Addr) (nl cl : Nat) (Y : List Int) (z : Int)
def PCf.src (c : PCf) : Int → Nat → Int := if c.lv then liveSrc c.Y c.z else listSrc c.Y
abbrev fnS (_ _ : Nat) : Value := .nilFunc
def liveOk : Prop := False
abbrev fnT (gu : Nat) : Value := .func (.func 62) #[] #[.pointer (some ⟨gu, 0, none⟩)]
def PCf.fn (c : PCf) : Value := if c.lv then fnS c.gu c.gz else fnT c.gu
/-- The variables that the function has captured are there, and the readings are values. -/
def PCfAt (c : PCf) (w : World) : Prop := (c.gu < w.heap.size ∧ w.cell? ⟨c.gu, 0, none⟩ = some (.slice c.al c.nl c.cl)) ∧ (c.lv = true → liveOk ∧ c.gz < w.heap.size ∧ w.cell? ⟨c.gz, 0, none⟩ = some (.int .i64 c.z)) ∧ Row w c.al c.nl c.Y ∧ (c.nl : Int) ≤ 1048576 ∧ (0 ≤ c.z ∧ c.z ≤ 1000000) ∧ allV c.Y = true
theorem PCfAt.below {c : PCf} {w w' : World} (h : PCfAt c w) (hb : Below w.heap.size w w') : PCfAt c w' :=
  ⟨⟨Nat.lt_of_lt_of_le h.1.1 hb.size, (hb.cell (p := ⟨c.gu, 0, none⟩) h.1.1).trans h.1.2⟩, fun e => ⟨(h.2.1 e).1, Nat.lt_of_lt_of_le (h.2.1 e).2.1 hb.size, (hb.cell (p := ⟨c.gz, 0, none⟩) (h.2.1 e).2.1).trans (h.2.1 e).2.2⟩, h.2.2.1.below hb, h.2.2.2⟩
theorem PCf.src_val {c : PCf} {w : World} (h : PCfAt c w) (q : Int) (n : Nat) : isVal (c.src q n) = true := by
  unfold PCf.src
  split
  · exact liveSrc_val _ _ _ _
  · exact listSrc_val h.2.2.2.2.2 _ _
def pxC (gv cv : Nat) (a1 : Option Addr) (n1 c1 : Nat) (a2 : Option Addr) (n2 c2 : Nat) (c : PCf) : Array Value :=
  #[.slice (some ⟨gv, 0, none⟩) 8 cv, .slice a1 n1 c1, .slice a2 n2 c2, c.fn]
/-- The block 'g' holds the state 'x'; its rows lie in new memory. -/
structure PxAt (B g gv cv : Nat) (a1 : Option Addr) (n1 c1 : Nat) (a2 : Option Addr) (n2 c2 : Nat) (c : PCf) (x : Sx) (w : World) : Prop where
  box : Box g (pxC gv cv a1 n1 c1 a2 n2 c2 c) 95 w
  low : B ≤ g
  vars : w.ownsRow B 3 1 (.slice (some ⟨gv, 0, none⟩) 8 cv) 8 (ivs x.V)
  sent : w.ownsRow B 3 1 (.slice a1 n1 c1) n1 (ivs x.S)
  used : w.ownsRow B 3 1 (.slice a2 n2 c2) n2 (ivs x.U)
  vg : gv ≠ g
  sg : (Value.slice a1 n1 c1).ownBlock ≠ some g
  ug : (Value.slice a2 n2 c2).ownBlock ≠ some g
  sv : (Value.slice a1 n1 c1).ownBlock ≠ some gv
  uv : (Value.slice a2 n2 c2).ownBlock ≠ some gv
  su : (Value.slice a1 n1 c1).ownBlock = none ∨ (Value.slice a1 n1 c1).ownBlock ≠ (Value.slice a2 n2 c2).ownBlock
def Px (B g : Nat) (c : PCf) (x : Sx) (w : World) : Prop := ∃ (gv cv : Nat) (a1 : Option Addr) (n1 c1 : Nat) (a2 : Option Addr) (n2 c2 : Nat), PxAt B g gv cv a1 n1 c1 a2 n2 c2 c x w
theorem ne_orP {v : Value} {q : Nat} (h : v.ownBlock ≠ some q) : v.ownBlock = none ∨ v.ownBlock ≠ some q := .inr h
theorem PxAt.below {B g gv cv : Nat} {a1 : Option Addr} {n1 c1 : Nat} {a2 : Option Addr} {n2 c2 : Nat} {c : PCf} {x : Sx} {w w' : World} (h : PxAt B g gv cv a1 n1 c1 a2 n2 c2 c x w) (hb : Below w.heap.size w w') : PxAt B g gv cv a1 n1 c1 a2 n2 c2 c x w' :=
  ⟨h.box.below hb, h.low, h.vars.kept (grown_below hb none) (.inr (by simp [Value.ownBlock])), h.sent.kept (grown_below hb none) (by cases a1 <;> simp [Value.ownBlock]), h.used.kept (grown_below hb none) (by cases a2 <;> simp [Value.ownBlock]), h.vg, h.sg, h.ug, h.sv, h.uv, h.su⟩
theorem PxAt.vrow {B g gv cv : Nat} {a1 : Option Addr} {n1 c1 : Nat} {a2 : Option Addr} {n2 c2 : Nat} {c : PCf} {x : Sx} {w : World} (h : PxAt B g gv cv a1 n1 c1 a2 n2 c2 c x w) : Row w (some ⟨gv, 0, none⟩) 8 x.V := Row.of_own h.vars
theorem PxAt.slen {B g gv cv : Nat} {a1 : Option Addr} {n1 c1 : Nat} {a2 : Option Addr} {n2 c2 : Nat} {c : PCf} {x : Sx} {w : World} (h : PxAt B g gv cv a1 n1 c1 a2 n2 c2 c x w) : x.S.length = n1 := own_len h.sent
theorem PxAt.ulen {B g gv cv : Nat} {a1 : Option Addr} {n1 c1 : Nat} {a2 : Option Addr} {n2 c2 : Nat} {c : PCf} {x : Sx} {w : World} (h : PxAt B g gv cv a1 n1 c1 a2 n2 c2 c x w) : x.U.length = n2 := own_len h.used
/-- A variable is set. -/
theorem PxAt.set {B g gv cv : Nat} {a1 : Option Addr} {n1 c1 : Nat} {a2 : Option Addr} {n2 c2 : Nat} {c : PCf} {x : Sx} {w : World} (h : PxAt B g gv cv a1 n1 c1 a2 n2 c2 c x w) (k : Nat) (q : Int) :
    PxAt B g gv cv a1 n1 c1 a2 n2 c2 c ⟨x.V.set k q, x.S, x.U⟩ (w.setCell ⟨gv, k, none⟩ (.int .i64 q)) where
  box := h.box.grown (grown_setCell w gv k _) (fun e => h.vg (Option.some.inj e).symm)
  low := h.low
  vars := by have := (h.vars.stored k (.int .i64 q)).1; rw [ivs_set] at this; exact this
  sent := h.sent.kept (grown_setCell w gv k _) (ne_orP h.sv)
  used := h.used.kept (grown_setCell w gv k _) (ne_orP h.uv)
  vg := h.vg
  sg := h.sg
  ug := h.ug
  sv := h.sv
  uv := h.uv
  su := h.su
theorem PxAt.gvB {B g gv cv : Nat} {a1 : Option Addr} {n1 c1 : Nat} {a2 : Option Addr} {n2 c2 : Nat} {c : PCf} {x : Sx} {w : World} (h : PxAt B g gv cv a1 n1 c1 a2 n2 c2 c x w) : B ≤ gv ∧ gv < w.heap.size := own_block h.vars gv rfl
/-- Sent: the row of sent values has grown to a row 'v', and the struct holds it. -/
theorem PxAt.send {B g gv cv : Nat} {a1 : Option Addr} {n1 c1 : Nat} {a2 : Option Addr} {n2 c2 : Nat} {c : PCf} {x : Sx} {w w' : World} (h : PxAt B g gv cv a1 n1 c1 a2 n2 c2 c x w) {q : Int} {a3 : Option Addr} {c3 : Nat}
    (ho : w'.ownsRow B 3 1 (.slice a3 (n1 + 1) c3) (n1 + 1) (ivs (x.S ++ [q]))) (hg : w.grownBy w' (Value.slice a1 n1 c1).ownBlock) (hat : (Value.slice a3 (n1 + 1) c3).ownBlock = (Value.slice a1 n1 c1).ownBlock ∨ ∀ b, (Value.slice a3 (n1 + 1) c3).ownBlock = some b → w.heap.size ≤ b) :
    PxAt B g gv cv a3 (n1 + 1) c3 a2 n2 c2 c ⟨x.V, x.S ++ [q], x.U⟩ (w'.setCell ⟨g, 1, none⟩ (.slice a3 (n1 + 1) c3)) := by
  have hgs := h.box.lt
  have hne : ∀ b, b < w.heap.size → (Value.slice a1 n1 c1).ownBlock ≠ some b → (Value.slice a3 (n1 + 1) c3).ownBlock ≠ some b := fun b hb hn e => by
    rcases hat with h1 | h1
    · exact hn (h1 ▸ e)
    · have := h1 b e; omega
  have hbx : Box g (pxC gv cv a1 n1 c1 a2 n2 c2 c) 95 w' := h.box.grown hg (fun e => h.sg e.symm)
  refine ⟨hbx.set 1 _, h.low, ?_, ?_, ?_, h.vg, hne g hgs h.sg, h.ug, hne gv h.gvB.2 h.sv, h.uv, ?_⟩
  · exact (h.vars.kept hg (.inr (fun e => h.sv e.symm))).kept (grown_setCell w' g 1 _) (.inr (fun e => h.vg (Option.some.inj e)))
  · exact ho.kept (grown_setCell w' g 1 _) (ne_orP (hne g hgs h.sg))
  · refine (h.used.kept hg ?_).kept (grown_setCell w' g 1 _) (ne_orP h.ug)
    rcases h.su with h1 | h1
    · rw [h1]; cases hq : (Value.slice a2 n2 c2).ownBlock with
      | none => exact .inl rfl
      | some b => exact .inr (by simp)
    · exact .inr (fun e => h1 e.symm)
  · cases hq : (Value.slice a2 n2 c2).ownBlock with
    | none =>
      cases hq3 : (Value.slice a3 (n1 + 1) c3).ownBlock with
      | none => exact .inl rfl
      | some b => exact .inr (by simp)
    | some b =>
      right
      refine hne b (own_block h.used b hq).2 ?_
      rcases h.su with h1 | h1
      · rw [h1]; simp
      · rw [hq] at h1; exact h1
/-- Sensed: the row of used values has grown to a row, and the struct holds it. -/
theorem PxAt.sense {B g gv cv : Nat} {a1 : Option Addr} {n1 c1 : Nat} {a2 : Option Addr} {n2 c2 : Nat} {c : PCf} {x : Sx} {w w' : World} (h : PxAt B g gv cv a1 n1 c1 a2 n2 c2 c x w) {q : Int} {a3 : Option Addr} {c3 : Nat}
    (ho : w'.ownsRow B 3 1 (.slice a3 (n2 + 1) c3) (n2 + 1) (ivs (x.U ++ [q]))) (hg : w.grownBy w' (Value.slice a2 n2 c2).ownBlock) (hat : (Value.slice a3 (n2 + 1) c3).ownBlock = (Value.slice a2 n2 c2).ownBlock ∨ ∀ b, (Value.slice a3 (n2 + 1) c3).ownBlock = some b → w.heap.size ≤ b) :
    PxAt B g gv cv a1 n1 c1 a3 (n2 + 1) c3 c ⟨x.V, x.S, x.U ++ [q]⟩ (w'.setCell ⟨g, 2, none⟩ (.slice a3 (n2 + 1) c3)) := by
  have hgs := h.box.lt
  have hne : ∀ b, b < w.heap.size → (Value.slice a2 n2 c2).ownBlock ≠ some b → (Value.slice a3 (n2 + 1) c3).ownBlock ≠ some b := fun b hb hn e => by
    rcases hat with h1 | h1
    · exact hn (h1 ▸ e)
    · have := h1 b e; omega
  have hbx : Box g (pxC gv cv a1 n1 c1 a2 n2 c2 c) 95 w' := h.box.grown hg (fun e => h.ug e.symm)
  refine ⟨hbx.set 2 _, h.low, ?_, ?_, ?_, h.vg, h.sg, hne g hgs h.ug, h.sv, hne gv h.gvB.2 h.uv, ?_⟩
  · exact (h.vars.kept hg (.inr (fun e => h.uv e.symm))).kept (grown_setCell w' g 2 _) (.inr (fun e => h.vg (Option.some.inj e)))
  · refine (h.sent.kept hg ?_).kept (grown_setCell w' g 2 _) (ne_orP h.sg)
    exact h.su
  · exact ho.kept (grown_setCell w' g 2 _) (ne_orP (hne g hgs h.ug))
  · cases hq : (Value.slice a1 n1 c1).ownBlock with
    | none => exact .inl rfl
    | some b =>
      right
      intro e
      refine hne b (own_block h.sent b hq).2 ?_ e.symm
      rcases h.su with h1 | h1
      · rw [hq] at h1; cases h1
      · rw [hq] at h1; exact fun e => h1 e.symm
theorem Px.below {B g : Nat} {c : PCf} {x : Sx} {w w' : World} (h : Px B g c x w) (hb : Below w.heap.size w w') : Px B g c x w' := by
  obtain ⟨gv, cv, a1, n1, c1, a2, n2, c2, h⟩ := h
  exact ⟨gv, cv, a1, n1, c1, a2, n2, c2, h.below hb⟩
end Go.Proofs.YtlinpefeojpjnaaGreat.exe

/- Chapter 12 of the program: ReadSensor, and the functions that yield the readings; nothing that was there is written. -/
namespace Go.Proofs.YtlinpefeojpjnaaGreat.exe
open Go Go.ChangeShapes Go.WideShapes Go.ChangeAt Go.RowKit Go.Proofs.YtlinpefeojpjnaaGreat.row Go.Proofs.YtlinpefeojpjnaaGreat.val Go.Proofs.YtlinpefeojpjnaaGreat.expr Go.Proofs.YtlinpefeojpjnaaGreat.stm Go.Proofs.YtlinpefeojpjnaaGreat.blk Go.Proofs.YtlinpefeojpjnaaGreat.sets
theorem list_inP {Y : List Int} {n : Nat} {x : Int} (h : Y[n]? = some x) (q : Int) : listSrc Y q n = x := by
  unfold listSrc; rw [List.getD_eq_getElem?_getD, h]; rfl
theorem list_outP {Y : List Int} {n : Nat} (h : Y.length ≤ n) (q : Int) : listSrc Y q n = 0 := by
  unfold listSrc; rw [List.getD_eq_getElem?_getD, List.getElem?_eq_none h]; rfl
set_option maxRecDepth 100000 in
set_option maxHeartbeats 2000000 in
theorem rd_list (w : World) (c : PCf) (hlv : c.lv = false) (h : PCfAt c w) (q : Int) (n : Nat) (v : Int) (hv : c.src q n = v) :
    Calls Tryz.prog 62 #[.int .i64 q, .int .i64 n, .pointer (some ⟨c.gu, 0, none⟩)] w (Ret w v) := by
  obtain ⟨lv, gu, gz, al, nl, cl, Y, z⟩ := c
  simp only at hlv
  subst hlv
  obtain ⟨⟨_, c0⟩, _, hY, hnl, _, _⟩ := h
  dsimp only at c0 hY hnl
  have hv2 : listSrc Y q n = v := hv
  by_cases hlt : n < nl
  · have hI : (n : Int) < nl := by omega
    obtain ⟨b, off, y, rfl, hlb, hy, hcy⟩ := hY.2 n hlt
    obtain rfl : y = v := by rw [← hv2]; exact (list_inP hy q).symm
    clear hv hv2 hy hY
    go_enter Tryz.func62, Tryz.ntmps62
    go_wp2
    go_ret
    exact ⟨rfl, rfl⟩
  · have hI : ¬ (n : Int) < nl := by omega
    obtain rfl : (0 : Int) = v := by rw [← hv2]; exact (list_outP (by rw [hY.1]; omega) q).symm
    clear hv hv2 hY
    go_enter Tryz.func62, Tryz.ntmps62
    go_wp2
    go_ret
    exact ⟨rfl, rfl⟩
end Go.Proofs.YtlinpefeojpjnaaGreat.exe
