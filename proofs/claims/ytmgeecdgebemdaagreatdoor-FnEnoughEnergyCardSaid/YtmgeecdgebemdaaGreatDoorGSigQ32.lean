/- Several texts in one: QObsA. -/
import Derived.Test.YtmgeecdgebemdaaGreatDoorGSigQ3
import Derived.Test.YtmgeecdgebemdaaGreatDoorGSigQ11
import Derived.Test.YtmgeecdgebemdaaGreatDoorGSigQ6

/- Executions that tell an observer each statement ahead of its effect, with the value that it assigns or sends. Plain mathematics. -/
namespace Go.Proofs.YtmgeecdgebemdaaGreatDoor.exe
open Go Go.ChangeShapes Go.WideShapes Go.ChangeAt Go.RowKit Go.Proofs.YtmgeecdgebemdaaGreatDoor.row Go.Proofs.YtmgeecdgebemdaaGreatDoor.val Go.Proofs.YtmgeecdgebemdaaGreatDoor.expr Go.Proofs.YtmgeecdgebemdaaGreatDoor.stm Go.Proofs.YtmgeecdgebemdaaGreatDoor.blk Go.Proofs.YtmgeecdgebemdaaGreatDoor.sets
theorem part_par {L : List Sm} {c m a b : Nat} {T : Fst} (h : c + m ≤ L.length) (hr : Par (blk.part L c m) a b T) : b ≤ m → Par L (c + a) (c + b) T := by
  induction hr with
  | nil a => intro _; exact .nil _
  | one a b T s hs ho h6 hr ih =>
    intro hb
    have hl := hr.le
    refine .one _ _ _ s (by rw [← part_at (show a < m by omega)]; exact hs) ho h6 ?_
    have := ih hb
    rw [show c + (a + 1) = c + a + 1 by omega] at this; exact this
  | nest a e b B T s hs he hbb hr ih1 ih2 =>
    intro hb
    have hl := hr.le
    have hae := he.1
    have h1 := ih1 (by omega)
    have h2 := ih2 hb
    rw [show c + (a + 1) = c + a + 1 by omega] at h1
    rw [show c + (e + 1) = c + e + 1 by omega] at h2
    exact .nest _ (c + e) _ _ _ s (by rw [← part_at (show a < m by omega)]; exact hs) (part_end h he) h1 h2
theorem par_flat {L : List Sm} {s : Sm} {T : Fst} (hl : 1 ≤ L.length) (hs : L[0]? = some s) (ho : opn s = false) (h6 : s.k ≠ 6) (h : Par (blk.part L 1 (L.length - 1)) 0 (blk.part L 1 (L.length - 1)).length T) : Par L 0 L.length (.one s T) := by
  have hp : 1 + (L.length - 1) ≤ L.length := by omega
  rw [part_len hp] at h
  have h1 := part_par hp h (Nat.le_refl _)
  rw [Nat.add_zero, show 1 + (L.length - 1) = L.length by omega] at h1
  exact .one 0 _ T s hs ho h6 h1
theorem par_nest {L : List Sm} {s : Sm} {e : Nat} {B T : Fst} (hs : L[0]? = some s) (he : IsEnd L 0 e) (hx : Par (blk.part L 1 (e - 1)) 0 (blk.part L 1 (e - 1)).length B) (h : Par (blk.part L (e + 1) (L.length - (e + 1))) 0 (blk.part L (e + 1) (L.length - (e + 1))).length T) :
    Par L 0 L.length (.nest s B T) := by
  have h0 := he.1
  have h1 := he.2.1
  have hp : 1 + (e - 1) ≤ L.length := by omega
  have hq : (e + 1) + (L.length - (e + 1)) ≤ L.length := by omega
  rw [part_len hp] at hx
  rw [part_len hq] at h
  have k1 := part_par hp hx (Nat.le_refl _)
  have k2 := part_par hq h (Nat.le_refl _)
  rw [Nat.add_zero, show 1 + (e - 1) = e by omega] at k1
  rw [Nat.add_zero, show (e + 1) + (L.length - (e + 1)) = L.length by omega] at k2
  exact .nest 0 e _ B T s hs he k1 k2
/-- The value that a statement assigns or sends. -/
def valS (src : Int → Nat → Int) (s : Sm) (x : Sx) : Int := if s.k = 1 ∨ s.k = 3 then evalV x.V s.o s.a s.b else if s.k = 2 then src s.n x.U.length else 0
theorem valS_eval {src : Int → Nat → Int} {s : Sm} {x : Sx} (h : s.k = 1 ∨ s.k = 3) : valS src s x = evalV x.V s.o s.a s.b := by unfold valS; rw [if_pos h]
theorem valS_src {src : Int → Nat → Int} {s : Sm} {x : Sx} (h : s.k = 2) : valS src s x = src s.n x.U.length := by unfold valS; rw [if_neg (by omega), if_pos h]
theorem valS_no {src : Int → Nat → Int} {s : Sm} {x : Sx} (h : s.k = 4 ∨ s.k = 5) : valS src s x = 0 := by unfold valS; rw [if_neg (by omega), if_neg (by omega)]
/-- What an observer makes of what it is told; a measure of it. -/
structure Obm where
  (τ : Type) (nxt : τ → Sx → Sm → Int → τ) (len : τ → Int)
  (grow : ∀ t x s v, len (nxt t x s v) ≤ len t + 5)
  (pos : ∀ t, 0 ≤ len t)
abbrev Obm.Z (o : Obm) : Type := Sx × o.τ
section
variable (src : Int → Nat → Int) (o : Obm)
def stepZ (s : Sm) (z : o.Z) : o.Z := (step1 src s z.1, o.nxt z.2 z.1 s (valS src s z.1))
def tellZ (s : Sm) (z : o.Z) : o.Z := (z.1, o.nxt z.2 z.1 s (valS src s z.1))
def repZ (f : o.Z → o.Z) : Nat → o.Z → o.Z
  | 0, z => z
  | n + 1, z => repZ f n (f z)
def execZ : Fst → o.Z → o.Z
  | .nil, z => z
  | .one s r, z => execZ r (stepZ src o s z)
  | .nest s b r, z => execZ r (repZ o (execZ b) (its s z.1) (tellZ src o s z))
end
section
variable {src : Int → Nat → Int} {o : Obm}
theorem repZ_zero (f : o.Z → o.Z) (z : o.Z) : repZ o f 0 z = z := rfl
theorem repZ_succ (f : o.Z → o.Z) (n : Nat) (z : o.Z) : repZ o f (n + 1) z = repZ o f n (f z) := rfl
theorem repZ_last (f : o.Z → o.Z) : ∀ (n : Nat) (z : o.Z), repZ o f (n + 1) z = f (repZ o f n z)
  | 0, _ => rfl
  | n + 1, z => by rw [repZ_succ, repZ_last f n (f z), repZ_succ]
theorem repZ_ind {f : o.Z → o.Z} {P : o.Z → Prop} (h : ∀ z, P z → P (f z)) : ∀ (n : Nat) (z : o.Z), P z → P (repZ o f n z)
  | 0, _, hz => hz
  | n + 1, z, hz => repZ_ind h n (f z) (h z hz)
theorem repZ_fst {b : Fst} (h : ∀ z, (execZ src o b z).1 = exec src b z.1) : ∀ (n : Nat) (z : o.Z), (repZ o (execZ src o b) n z).1 = rep (exec src b) n z.1
  | 0, _ => rfl
  | n + 1, z => by rw [repZ_succ, repZ_fst h n, h, rep_succ]
/-- An observer changes nothing of what is executed. -/
theorem execZ_fst : ∀ (T : Fst) (z : o.Z), (execZ src o T z).1 = exec src T z.1
  | .nil, _ => rfl
  | .one s r, z => by simp only [execZ, exec]; rw [execZ_fst r]; rfl
  | .nest s b r, z => by simp only [execZ, exec]; rw [execZ_fst r, repZ_fst (fun y => execZ_fst b y)]; rfl
/-- How much is sent, sensed and told at most. -/
def cntZ : Fst → Int
  | .nil => 0
  | .one _ r => 6 + cntZ r
  | .nest s b r => 6 + max 1 s.n * cntZ b + cntZ r
theorem cntZ_nonneg : ∀ T : Fst, 0 ≤ cntZ T
  | .nil => by simp [cntZ]
  | .one _ r => by have := cntZ_nonneg r; simp only [cntZ]; omega
  | .nest s b r => by
    have h1 := cntZ_nonneg b
    have h2 := cntZ_nonneg r
    have h3 : 0 ≤ max 1 s.n * cntZ b := Int.mul_nonneg (by omega) h1
    simp only [cntZ]; omega
theorem cntZ_bound {L : List Sm} (hb : IsBlk L) {a b : Nat} {T : Fst} (h : Par L a b T) : ∀ H : Int, hAt L a = H → cntZ T ≤ (b - a : Int) * (6 * p5 H) := by
  induction h with
  | nil a => intro H _; simp [cntZ]
  | one a b T s hs ho h6 hr ih =>
    intro H hH
    have h1 := hAt_succ hs
    rw [dlt_flat ho h6] at h1
    have h2 := ih H (by omega)
    have : (1 : Int) ≤ p5 H := by unfold p5; split <;> (try split) <;> (try split) <;> omega
    have e : ((b : Int) - a) * (6 * p5 H) = ((b : Int) - ((a + 1 : Nat) : Int)) * (6 * p5 H) + 6 * p5 H := by
      rw [show (b : Int) - a = ((b : Int) - ((a + 1 : Nat) : Int)) + 1 by omega, Int.add_mul, Int.one_mul]
    rw [e]; simp only [cntZ]; omega
  | nest a e b B T s hs he hbb hr ih1 ih2 =>
    intro H hH
    obtain ⟨s2, hs2, ho2⟩ := he.opens
    have h1 := hAt_succ hs2
    rw [dlt_opn ho2] at h1
    have h2 := (blk_bounds hb (a + 1)).2
    have h3 := (blk_bounds hb a).1
    have hx := ih1 (H + 1) (by omega)
    have hx0 := cntZ_nonneg B
    have hy := ih2 H (by rw [he.2.2.1, hH])
    have hn := n_le (blk_stOk hb hs)
    have hae := he.1
    have hle := hr.le
    obtain ⟨m, hm⟩ : ∃ m, max 1 s.n = m := ⟨_, rfl⟩
    have hm1 : 1 ≤ m ∧ m ≤ 5 := by omega
    simp only [cntZ]
    rw [hm]
    have hmx5 : m * cntZ B ≤ 5 * cntZ B := Int.mul_le_mul_of_nonneg_right hm1.2 hx0
    rcases (show H = 0 ∨ H = 1 ∨ H = 2 by omega) with rfl | rfl | rfl
    · simp only [p5] at hx hy ⊢; simp at hx hy ⊢; omega
    · simp only [p5] at hx hy ⊢; simp at hx hy ⊢; omega
    · simp only [p5] at hx hy ⊢; simp at hx hy ⊢; omega
theorem cntZ_small {L : List Sm} (hb : IsBlk L) {T : Fst} (h : Par L 0 L.length T) : cntZ T ≤ 18000 := by
  have h1 := cntZ_bound hb h (hAt L 0) rfl
  have h2 : p5 (hAt L 0) ≤ 125 ∧ 0 ≤ p5 (hAt L 0) := by unfold p5; split <;> (try split) <;> (try split) <;> omega
  have h4 := hb.2.2
  have h5 : ((L.length : Int) - (0 : Nat)) * (6 * p5 (hAt L 0)) ≤ ((L.length : Int) - (0 : Nat)) * 750 := Int.mul_le_mul_of_nonneg_left (by omega) (by omega)
  omega
def totZ (z : o.Z) : Int := tot z.1 + o.len z.2
theorem totZ_step (s : Sm) (z : o.Z) : totZ (stepZ src o s z) ≤ totZ z + 6 := by
  have h1 := tot_step src s z.1
  have h2 := o.grow z.2 z.1 s (valS src s z.1)
  unfold totZ stepZ; dsimp only; omega
theorem totZ_tell (s : Sm) (z : o.Z) : totZ (tellZ src o s z) ≤ totZ z + 6 := by
  have h2 := o.grow z.2 z.1 s (valS src s z.1)
  unfold totZ tellZ; dsimp only; omega
theorem repZ_tot {f : o.Z → o.Z} {c : Int} (h : ∀ z, totZ (f z) ≤ totZ z + c) : ∀ (n : Nat) (z : o.Z), totZ (repZ o f n z) ≤ totZ z + n * c
  | 0, z => by rw [repZ_zero]; simp
  | n + 1, z => by
    rw [repZ_succ]
    have h1 := repZ_tot h n (f z)
    have h2 := h z
    have h3 : ((n + 1 : Nat) : Int) * c = n * c + c := by rw [Int.natCast_add, Int.add_mul]; simp
    omega
theorem execZ_tot : ∀ (T : Fst) (z : o.Z), totZ (execZ src o T z) ≤ totZ z + cntZ T
  | .nil, z => by simp [execZ, cntZ]
  | .one s r, z => by
    have h1 := execZ_tot r (stepZ src o s z)
    have h2 := totZ_step (src := src) s z
    simp only [execZ, cntZ]; omega
  | .nest s b r, z => by
    have h1 := execZ_tot r (repZ o (execZ src o b) (its s z.1) (tellZ src o s z))
    have h2 := repZ_tot (fun y => execZ_tot b y) (its s z.1) (tellZ src o s z)
    have h3 : (its s z.1 : Int) * cntZ b ≤ max 1 s.n * cntZ b := Int.mul_le_mul_of_nonneg_right (its_le s z.1) (cntZ_nonneg b)
    have h4 := totZ_tell (src := src) s z
    simp only [execZ, cntZ]; omega
/-- The state 'z' has been reached, and 'M' is still to run. -/
def RestZ (src : Int → Nat → Int) (o : Obm) (L : List Sm) (z0 : o.Z) (M : List Sm) (z : o.Z) : Prop := ∀ T, Par M 0 M.length T → ∃ T0, Par L 0 L.length T0 ∧ execZ src o T0 z0 = execZ src o T z ∧ totZ z + cntZ T ≤ totZ z0 + cntZ T0
theorem RestZ.start (src : Int → Nat → Int) (o : Obm) (L : List Sm) (z0 : o.Z) : RestZ src o L z0 L z0 := fun T h => ⟨T, h, rfl, Int.le_refl _⟩
theorem RestZ.done {L : List Sm} {z0 z : o.Z} (h : RestZ src o L z0 [] z) {T0 : Fst} (hT : Par L 0 L.length T0) : execZ src o T0 z0 = z := by
  obtain ⟨T, h1, h2, _⟩ := h .nil (.nil 0)
  rw [hT.unique h1, h2]; rfl
theorem RestZ.one {L M : List Sm} {z0 z : o.Z} {n : Nat} {s : Sm} (h : RestZ src o L z0 M z) (hb : IsBlk M) (hn : M.length = n) (hs : M[0]? = some s) (ho : opn s = false) :
    IsBlk (blk.part M (0 + 1) (n - (0 + 1))) ∧ RestZ src o L z0 (blk.part M (0 + 1) (n - (0 + 1))) (stepZ src o s z) := by
  subst hn
  have hlt := (List.getElem?_eq_some_iff.1 hs).1
  have h1 := hAt_succ hs
  rw [hAt_zero] at h1
  have h6 : s.k ≠ 6 := fun h6 => by
    rw [dlt_end h6] at h1
    have := (blk_bounds hb (0 + 1)).1; omega
  rw [dlt_flat ho h6] at h1
  refine ⟨rest_blk hb (by omega) (by omega), fun T hT => ?_⟩
  obtain ⟨T0, k1, k2, k3⟩ := h _ (par_flat (by omega) hs ho h6 hT)
  refine ⟨T0, k1, k2, ?_⟩
  have := totZ_step (src := src) s z
  simp only [cntZ] at k3
  omega
theorem RestZ.nest {L M : List Sm} {z0 z : o.Z} {B : Fst} {n e : Nat} {s : Sm} (h : RestZ src o L z0 M z) (hb : IsBlk M) (hn : M.length = n) (hs : M[0]? = some s) (he : IsEnd M 0 e) (hB : Par (blk.part M 1 (e - 1)) 0 (blk.part M 1 (e - 1)).length B) :
    IsBlk (blk.part M (e + 1) (n - (e + 1))) ∧ RestZ src o L z0 (blk.part M (e + 1) (n - (e + 1))) (repZ o (execZ src o B) (its s z.1) (tellZ src o s z)) := by
  subst hn
  have h1 := he.2.1
  refine ⟨rest_blk hb (by omega) (by rw [he.2.2.1, hAt_zero]), fun T hT => ?_⟩
  obtain ⟨T0, k1, k2, k3⟩ := h _ (par_nest hs he hB hT)
  refine ⟨T0, k1, k2, ?_⟩
  have h2 := repZ_tot (fun y => execZ_tot (src := src) B y) (its s z.1) (tellZ src o s z)
  have h3 : (its s z.1 : Int) * cntZ B ≤ max 1 s.n * cntZ B := Int.mul_le_mul_of_nonneg_right (its_le s z.1) (cntZ_nonneg B)
  have h4 := totZ_tell (src := src) s z
  simp only [cntZ] at k3
  omega
/-- What has been sent, sensed and told stays below the bound of the whole. -/
theorem RestZ.small {L M : List Sm} {z0 z : o.Z} {m : Int} (h : RestZ src o L z0 M z) (hm : ∀ T0, Par L 0 L.length T0 → totZ z0 + cntZ T0 ≤ m) : ∀ T, Par M 0 M.length T → totZ z + cntZ T ≤ m := fun T hT => by
  obtain ⟨T0, k1, _, k3⟩ := h T hT
  have := hm T0 k1
  omega
theorem RestZ.tot {L M : List Sm} {z0 z : o.Z} {m : Int} (h : RestZ src o L z0 M z) (hM : IsBlk M) (hm : ∀ T0, Par L 0 L.length T0 → totZ z0 + cntZ T0 ≤ m) : totZ z ≤ m := by
  obtain ⟨T, hT⟩ := par_ex hM
  have := h.small hm T hT
  have := cntZ_nonneg T
  omega
end
theorem step_varsP {src : Int → Nat → Int} (hsrc : ∀ q n, isVal (src q n) = true) (s : Sm) {x : Sx} (h : varsOk x.V = true) : varsOk (step1 src s x).V = true := by
  rcases step_cases src s x with ⟨_, e⟩ | ⟨_, e⟩ | ⟨_, e⟩ | ⟨_, _, e⟩ <;> rw [e]
  · exact vars_set h (evalV_val _ _ _ _) _
  · exact vars_set h (hsrc _ _) _
  · exact h
  · exact h
theorem exec_varsP {src : Int → Nat → Int} (hsrc : ∀ q n, isVal (src q n) = true) : ∀ (T : Fst) {x : Sx}, varsOk x.V = true → varsOk (exec src T x).V = true
  | .nil, _, h => h
  | .one s r, _, h => exec_varsP hsrc r (step_varsP hsrc s h)
  | .nest _ b r, x, h => exec_varsP hsrc r (rep_ind (P := fun y => varsOk y.V = true) (fun _ hy => exec_varsP hsrc b hy) _ x h)
theorem execZ_vars {src : Int → Nat → Int} {o : Obm} (hsrc : ∀ q n, isVal (src q n) = true) (T : Fst) {z : o.Z} (h : varsOk z.1.V = true) : varsOk (execZ src o T z).1.V = true := by
  rw [execZ_fst]; exact exec_varsP hsrc T h
end Go.Proofs.YtmgeecdgebemdaaGreatDoor.exe
