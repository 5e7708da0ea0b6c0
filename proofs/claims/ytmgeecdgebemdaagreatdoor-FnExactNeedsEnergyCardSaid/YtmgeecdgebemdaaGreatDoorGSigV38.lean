/- Several texts in one: VObsA VExeT. -/
import Derived.Test.YtmgeecdgebemdaaGreatDoorGSigV6
import Derived.Test.YtmgeecdgebemdaaGreatDoorGSigV13
import Derived.Test.YtmgeecdgebemdaaGreatDoorGSigV10
import Derived.Test.YtmgeecdgebemdaaGreatDoorGSigV32
import Derived.Test.YtmgeecdgebemdaaGreatDoorGSigV22
import Derived.Deep.AppendLies

/- Executions that tell an observer each statement ahead of its effect, with the value that it assigns or sends. Plain mathematics. -/
namespace Go.Proofs.YtmgeecdgebemdaaGreatDoor.exe
open Go Go.ChangeShapes Go.WideShapes Go.ChangeAt Go.RowKit Go.Proofs.YtmgeecdgebemdaaGreatDoor.row Go.Proofs.YtmgeecdgebemdaaGreatDoor.val Go.Proofs.YtmgeecdgebemdaaGreatDoor.expr Go.Proofs.YtmgeecdgebemdaaGreatDoor.stm Go.Proofs.YtmgeecdgebemdaaGreatDoor.blk Go.Proofs.YtmgeecdgebemdaaGreatDoor.sets
theorem part_par {L : List Sm} {c m a b : Nat} {T : Fst} (h : c + m ≤ L.length) (hr : Par (blk.part L c m) a b T) : b ≤ m → Par L (c + a) (c + b) T := by
  induction hr with
  | nil a => intro _; exact .nil _
  | one a b T s hs ho h6 hr ih =>
    intro hb
    have hl := hr.le
    refine .one _ _ _ s (by rw [← part_at (show a < m by omega)]; exact hs) ho h6 ?_
    have := ih hb
    rw [show c + (a + 1) = c + a + 1 by omega] at this; exact this
  | nest a e b B T s hs he hbb hr ih1 ih2 =>
    intro hb
    have hl := hr.le
    have hae := he.1
    have h1 := ih1 (by omega)
    have h2 := ih2 hb
    rw [show c + (a + 1) = c + a + 1 by omega] at h1
    rw [show c + (e + 1) = c + e + 1 by omega] at h2
    exact .nest _ (c + e) _ _ _ s (by rw [← part_at (show a < m by omega)]; exact hs) (part_end h he) h1 h2
theorem par_flat {L : List Sm} {s : Sm} {T : Fst} (hl : 1 ≤ L.length) (hs : L[0]? = some s) (ho : opn s = false) (h6 : s.k ≠ 6) (h : Par (blk.part L 1 (L.length - 1)) 0 (blk.part L 1 (L.length - 1)).length T) : Par L 0 L.length (.one s T) := by
  have hp : 1 + (L.length - 1) ≤ L.length := by omega
  rw [part_len hp] at h
  have h1 := part_par hp h (Nat.le_refl _)
  rw [Nat.add_zero, show 1 + (L.length - 1) = L.length by omega] at h1
  exact .one 0 _ T s hs ho h6 h1
theorem par_nest {L : List Sm} {s : Sm} {e : Nat} {B T : Fst} (hs : L[0]? = some s) (he : IsEnd L 0 e) (hx : Par (blk.part L 1 (e - 1)) 0 (blk.part L 1 (e - 1)).length B) (h : Par (blk.part L (e + 1) (L.length - (e + 1))) 0 (blk.part L (e + 1) (L.length - (e + 1))).length T) :
    Par L 0 L.length (.nest s B T) := by
  have h0 := he.1
  have h1 := he.2.1
  have hp : 1 + (e - 1) ≤ L.length := by omega
  have hq : (e + 1) + (L.length - (e + 1)) ≤ L.length := by omega
  rw [part_len hp] at hx
  rw [part_len hq] at h
  have k1 := part_par hp hx (Nat.le_refl _)
  have k2 := part_par hq h (Nat.le_refl _)
  rw [Nat.add_zero, show 1 + (e - 1) = e by omega] at k1
  rw [Nat.add_zero, show (e + 1) + (L.length - (e + 1)) = L.length by omega] at k2
  exact .nest 0 e _ B T s hs he k1 k2
/-- The value that a statement assigns or sends. -/
def valS (src : Int → Nat → Int) (s : Sm) (x : Sx) : Int := if s.k = 1 ∨ s.k = 3 then evalV x.V s.o s.a s.b else if s.k = 2 then src s.n x.U.length else 0
theorem valS_eval {src : Int → Nat → Int} {s : Sm} {x : Sx} (h : s.k = 1 ∨ s.k = 3) : valS src s x = evalV x.V s.o s.a s.b := by unfold valS; rw [if_pos h]
theorem valS_src {src : Int → Nat → Int} {s : Sm} {x : Sx} (h : s.k = 2) : valS src s x = src s.n x.U.length := by unfold valS; rw [if_neg (by omega), if_pos h]
theorem valS_no {src : Int → Nat → Int} {s : Sm} {x : Sx} (h : s.k = 4 ∨ s.k = 5) : valS src s x = 0 := by unfold valS; rw [if_neg (by omega), if_neg (by omega)]
/-- What an observer makes of what it is told; a measure of it. -/
structure Obm where
  (τ : Type) (nxt : τ → Sx → Sm → Int → τ) (len : τ → Int)
  (grow : ∀ t x s v, len (nxt t x s v) ≤ len t + 5)
  (pos : ∀ t, 0 ≤ len t)
abbrev Obm.Z (o : Obm) : Type := Sx × o.τ
section
variable (src : Int → Nat → Int) (o : Obm)
def stepZ (s : Sm) (z : o.Z) : o.Z := (step1 src s z.1, o.nxt z.2 z.1 s (valS src s z.1))
def tellZ (s : Sm) (z : o.Z) : o.Z := (z.1, o.nxt z.2 z.1 s (valS src s z.1))
def repZ (f : o.Z → o.Z) : Nat → o.Z → o.Z
  | 0, z => z
  | n + 1, z => repZ f n (f z)
def execZ : Fst → o.Z → o.Z
  | .nil, z => z
  | .one s r, z => execZ r (stepZ src o s z)
  | .nest s b r, z => execZ r (repZ o (execZ b) (its s z.1) (tellZ src o s z))
end
section
variable {src : Int → Nat → Int} {o : Obm}
theorem repZ_zero (f : o.Z → o.Z) (z : o.Z) : repZ o f 0 z = z := rfl
theorem repZ_succ (f : o.Z → o.Z) (n : Nat) (z : o.Z) : repZ o f (n + 1) z = repZ o f n (f z) := rfl
theorem repZ_last (f : o.Z → o.Z) : ∀ (n : Nat) (z : o.Z), repZ o f (n + 1) z = f (repZ o f n z)
  | 0, _ => rfl
  | n + 1, z => by rw [repZ_succ, repZ_last f n (f z), repZ_succ]
theorem repZ_ind {f : o.Z → o.Z} {P : o.Z → Prop} (h : ∀ z, P z → P (f z)) : ∀ (n : Nat) (z : o.Z), P z → P (repZ o f n z)
  | 0, _, hz => hz
  | n + 1, z, hz => repZ_ind h n (f z) (h z hz)
theorem repZ_fst {b : Fst} (h : ∀ z, (execZ src o b z).1 = exec src b z.1) : ∀ (n : Nat) (z : o.Z), (repZ o (execZ src o b) n z).1 = rep (exec src b) n z.1
  | 0, _ => rfl
  | n + 1, z => by rw [repZ_succ, repZ_fst h n, h, rep_succ]
/-- An observer changes nothing of what is executed. -/
theorem execZ_fst : ∀ (T : Fst) (z : o.Z), (execZ src o T z).1 = exec src T z.1
  | .nil, _ => rfl
  | .one s r, z => by simp only [execZ, exec]; rw [execZ_fst r]; rfl
  | .nest s b r, z => by simp only [execZ, exec]; rw [execZ_fst r, repZ_fst (fun y => execZ_fst b y)]; rfl
/-- How much is sent, sensed and told at most. -/
def cntZ : Fst → Int
  | .nil => 0
  | .one _ r => 6 + cntZ r
  | .nest s b r => 6 + max 1 s.n * cntZ b + cntZ r
theorem cntZ_nonneg : ∀ T : Fst, 0 ≤ cntZ T
  | .nil => by simp [cntZ]
  | .one _ r => by have := cntZ_nonneg r; simp only [cntZ]; omega
  | .nest s b r => by
    have h1 := cntZ_nonneg b
    have h2 := cntZ_nonneg r
    have h3 : 0 ≤ max 1 s.n * cntZ b := Int.mul_nonneg (by omega) h1
    simp only [cntZ]; omega
theorem cntZ_bound {L : List Sm} (hb : IsBlk L) {a b : Nat} {T : Fst} (h : Par L a b T) : ∀ H : Int, hAt L a = H → cntZ T ≤ (b - a : Int) * (6 * p5 H) := by
  induction h with
  | nil a => intro H _; simp [cntZ]
  | one a b T s hs ho h6 hr ih =>
    intro H hH
    have h1 := hAt_succ hs
    rw [dlt_flat ho h6] at h1
    have h2 := ih H (by omega)
    have : (1 : Int) ≤ p5 H := by unfold p5; split <;> (try split) <;> (try split) <;> omega
    have e : ((b : Int) - a) * (6 * p5 H) = ((b : Int) - ((a + 1 : Nat) : Int)) * (6 * p5 H) + 6 * p5 H := by
      rw [show (b : Int) - a = ((b : Int) - ((a + 1 : Nat) : Int)) + 1 by omega, Int.add_mul, Int.one_mul]
    rw [e]; simp only [cntZ]; omega
  | nest a e b B T s hs he hbb hr ih1 ih2 =>
    intro H hH
    obtain ⟨s2, hs2, ho2⟩ := he.opens
    have h1 := hAt_succ hs2
    rw [dlt_opn ho2] at h1
    have h2 := (blk_bounds hb (a + 1)).2
    have h3 := (blk_bounds hb a).1
    have hx := ih1 (H + 1) (by omega)
    have hx0 := cntZ_nonneg B
    have hy := ih2 H (by rw [he.2.2.1, hH])
    have hn := n_le (blk_stOk hb hs)
    have hae := he.1
    have hle := hr.le
    obtain ⟨m, hm⟩ : ∃ m, max 1 s.n = m := ⟨_, rfl⟩
    have hm1 : 1 ≤ m ∧ m ≤ 5 := by omega
    simp only [cntZ]
    rw [hm]
    have hmx5 : m * cntZ B ≤ 5 * cntZ B := Int.mul_le_mul_of_nonneg_right hm1.2 hx0
    rcases (show H = 0 ∨ H = 1 ∨ H = 2 by omega) with rfl | rfl | rfl
    · simp only [p5] at hx hy ⊢; simp at hx hy ⊢; omega
    · simp only [p5] at hx hy ⊢; simp at hx hy ⊢; omega
    · simp only [p5] at hx hy ⊢; simp at hx hy ⊢; omega
theorem cntZ_small {L : List Sm} (hb : IsBlk L) {T : Fst} (h : Par L 0 L.length T) : cntZ T ≤ 18000 := by
  have h1 := cntZ_bound hb h (hAt L 0) rfl
  have h2 : p5 (hAt L 0) ≤ 125 ∧ 0 ≤ p5 (hAt L 0) := by unfold p5; split <;> (try split) <;> (try split) <;> omega
  have h4 := hb.2.2
  have h5 : ((L.length : Int) - (0 : Nat)) * (6 * p5 (hAt L 0)) ≤ ((L.length : Int) - (0 : Nat)) * 750 := Int.mul_le_mul_of_nonneg_left (by omega) (by omega)
  omega
def totZ (z : o.Z) : Int := tot z.1 + o.len z.2
theorem totZ_step (s : Sm) (z : o.Z) : totZ (stepZ src o s z) ≤ totZ z + 6 := by
  have h1 := tot_step src s z.1
  have h2 := o.grow z.2 z.1 s (valS src s z.1)
  unfold totZ stepZ; dsimp only; omega
theorem totZ_tell (s : Sm) (z : o.Z) : totZ (tellZ src o s z) ≤ totZ z + 6 := by
  have h2 := o.grow z.2 z.1 s (valS src s z.1)
  unfold totZ tellZ; dsimp only; omega
theorem repZ_tot {f : o.Z → o.Z} {c : Int} (h : ∀ z, totZ (f z) ≤ totZ z + c) : ∀ (n : Nat) (z : o.Z), totZ (repZ o f n z) ≤ totZ z + n * c
  | 0, z => by rw [repZ_zero]; simp
  | n + 1, z => by
    rw [repZ_succ]
    have h1 := repZ_tot h n (f z)
    have h2 := h z
    have h3 : ((n + 1 : Nat) : Int) * c = n * c + c := by rw [Int.natCast_add, Int.add_mul]; simp
    omega
theorem execZ_tot : ∀ (T : Fst) (z : o.Z), totZ (execZ src o T z) ≤ totZ z + cntZ T
  | .nil, z => by simp [execZ, cntZ]
  | .one s r, z => by
    have h1 := execZ_tot r (stepZ src o s z)
    have h2 := totZ_step (src := src) s z
    simp only [execZ, cntZ]; omega
  | .nest s b r, z => by
    have h1 := execZ_tot r (repZ o (execZ src o b) (its s z.1) (tellZ src o s z))
    have h2 := repZ_tot (fun y => execZ_tot b y) (its s z.1) (tellZ src o s z)
    have h3 : (its s z.1 : Int) * cntZ b ≤ max 1 s.n * cntZ b := Int.mul_le_mul_of_nonneg_right (its_le s z.1) (cntZ_nonneg b)
    have h4 := totZ_tell (src := src) s z
    simp only [execZ, cntZ]; omega
/-- The state 'z' has been reached, and 'M' is still to run. -/
def RestZ (src : Int → Nat → Int) (o : Obm) (L : List Sm) (z0 : o.Z) (M : List Sm) (z : o.Z) : Prop := ∀ T, Par M 0 M.length T → ∃ T0, Par L 0 L.length T0 ∧ execZ src o T0 z0 = execZ src o T z ∧ totZ z + cntZ T ≤ totZ z0 + cntZ T0
theorem RestZ.start (src : Int → Nat → Int) (o : Obm) (L : List Sm) (z0 : o.Z) : RestZ src o L z0 L z0 := fun T h => ⟨T, h, rfl, Int.le_refl _⟩
theorem RestZ.done {L : List Sm} {z0 z : o.Z} (h : RestZ src o L z0 [] z) {T0 : Fst} (hT : Par L 0 L.length T0) : execZ src o T0 z0 = z := by
  obtain ⟨T, h1, h2, _⟩ := h .nil (.nil 0)
  rw [hT.unique h1, h2]; rfl
theorem RestZ.one {L M : List Sm} {z0 z : o.Z} {n : Nat} {s : Sm} (h : RestZ src o L z0 M z) (hb : IsBlk M) (hn : M.length = n) (hs : M[0]? = some s) (ho : opn s = false) :
    IsBlk (blk.part M (0 + 1) (n - (0 + 1))) ∧ RestZ src o L z0 (blk.part M (0 + 1) (n - (0 + 1))) (stepZ src o s z) := by
  subst hn
  have hlt := (List.getElem?_eq_some_iff.1 hs).1
  have h1 := hAt_succ hs
  rw [hAt_zero] at h1
  have h6 : s.k ≠ 6 := fun h6 => by
    rw [dlt_end h6] at h1
    have := (blk_bounds hb (0 + 1)).1; omega
  rw [dlt_flat ho h6] at h1
  refine ⟨rest_blk hb (by omega) (by omega), fun T hT => ?_⟩
  obtain ⟨T0, k1, k2, k3⟩ := h _ (par_flat (by omega) hs ho h6 hT)
  refine ⟨T0, k1, k2, ?_⟩
  have := totZ_step (src := src) s z
  simp only [cntZ] at k3
  omega
theorem RestZ.nest {L M : List Sm} {z0 z : o.Z} {B : Fst} {n e : Nat} {s : Sm} (h : RestZ src o L z0 M z) (hb : IsBlk M) (hn : M.length = n) (hs : M[0]? = some s) (he : IsEnd M 0 e) (hB : Par (blk.part M 1 (e - 1)) 0 (blk.part M 1 (e - 1)).length B) :
    IsBlk (blk.part M (e + 1) (n - (e + 1))) ∧ RestZ src o L z0 (blk.part M (e + 1) (n - (e + 1))) (repZ o (execZ src o B) (its s z.1) (tellZ src o s z)) := by
  subst hn
  have h1 := he.2.1
  refine ⟨rest_blk hb (by omega) (by rw [he.2.2.1, hAt_zero]), fun T hT => ?_⟩
  obtain ⟨T0, k1, k2, k3⟩ := h _ (par_nest hs he hB hT)
  refine ⟨T0, k1, k2, ?_⟩
  have h2 := repZ_tot (fun y => execZ_tot (src := src) B y) (its s z.1) (tellZ src o s z)
  have h3 : (its s z.1 : Int) * cntZ B ≤ max 1 s.n * cntZ B := Int.mul_le_mul_of_nonneg_right (its_le s z.1) (cntZ_nonneg B)
  have h4 := totZ_tell (src := src) s z
  simp only [cntZ] at k3
  omega
/-- What has been sent, sensed and told stays below the bound of the whole. -/
theorem RestZ.small {L M : List Sm} {z0 z : o.Z} {m : Int} (h : RestZ src o L z0 M z) (hm : ∀ T0, Par L 0 L.length T0 → totZ z0 + cntZ T0 ≤ m) : ∀ T, Par M 0 M.length T → totZ z + cntZ T ≤ m := fun T hT => by
  obtain ⟨T0, k1, _, k3⟩ := h T hT
  have := hm T0 k1
  omega
theorem RestZ.tot {L M : List Sm} {z0 z : o.Z} {m : Int} (h : RestZ src o L z0 M z) (hM : IsBlk M) (hm : ∀ T0, Par L 0 L.length T0 → totZ z0 + cntZ T0 ≤ m) : totZ z ≤ m := by
  obtain ⟨T, hT⟩ := par_ex hM
  have := h.small hm T hT
  have := cntZ_nonneg T
  omega
end
theorem step_varsP {src : Int → Nat → Int} (hsrc : ∀ q n, isVal (src q n) = true) (s : Sm) {x : Sx} (h : varsOk x.V = true) : varsOk (step1 src s x).V = true := by
  rcases step_cases src s x with ⟨_, e⟩ | ⟨_, e⟩ | ⟨_, e⟩ | ⟨_, _, e⟩ <;> rw [e]
  · exact vars_set h (evalV_val _ _ _ _) _
  · exact vars_set h (hsrc _ _) _
  · exact h
  · exact h
theorem exec_varsP {src : Int → Nat → Int} (hsrc : ∀ q n, isVal (src q n) = true) : ∀ (T : Fst) {x : Sx}, varsOk x.V = true → varsOk (exec src T x).V = true
  | .nil, _, h => h
  | .one s r, _, h => exec_varsP hsrc r (step_varsP hsrc s h)
  | .nest _ b r, x, h => exec_varsP hsrc r (rep_ind (P := fun y => varsOk y.V = true) (fun _ hy => exec_varsP hsrc b hy) _ x h)
theorem execZ_vars {src : Int → Nat → Int} {o : Obm} (hsrc : ∀ q n, isVal (src q n) = true) (T : Fst) {z : o.Z} (h : varsOk z.1.V = true) : varsOk (execZ src o T z).1.V = true := by
  rw [execZ_fst]; exact exec_varsP hsrc T h
end Go.Proofs.YtmgeecdgebemdaaGreatDoor.exe

/- The program's state of an execution in memory: a struct that holds three rows of its own, the function that yields the readings and the observer; the observer's own memory lies apart; nothing else that was there is written. -/
namespace Go.Proofs.YtmgeecdgebemdaaGreatDoor.exe
open Go Go.ChangeShapes Go.WideShapes Go.ChangeAt Go.RowKit Go.Proofs.YtmgeecdgebemdaaGreatDoor.row Go.Proofs.YtmgeecdgebemdaaGreatDoor.val Go.Proofs.YtmgeecdgebemdaaGreatDoor.expr Go.Proofs.YtmgeecdgebemdaaGreatDoor.stm Go.Proofs.YtmgeecdgebemdaaGreatDoor.blk Go.Proofs.YtmgeecdgebemdaaGreatDoor.sets Go.Proofs.YtmgeecdgebemdaaGreatDoor.rss
/-- No block stands in both. -/
def Dj (l k : List (Option Nat)) : Prop := ∀ (i j b : Nat), l[i]? = some (some b) → k[j]? ≠ some (some b)
theorem Dj.left {l l' k : List (Option Nat)} {w w' : World} (h : Dj l k) (m : Mv l w l' w') (hk : ∀ (j b : Nat), k[j]? = some (some b) → b < w.heap.size) : Dj l' k := fun i j b hi hj => by
  obtain ⟨i', hi'⟩ := m.sub i b hi (hk j b hj)
  exact h i' j b hi' hj
theorem Dj.symm {l k : List (Option Nat)} (h : Dj l k) : Dj k l := fun i j b hi hj => h j i b hj hi
theorem Dj.right {l k k' : List (Option Nat)} {w w' : World} (h : Dj l k) (m : Mv k w k' w') (hl : ∀ (j b : Nat), l[j]? = some (some b) → b < w.heap.size) : Dj l k' := (h.symm.left m hl).symm
theorem Dj.nil (l : List (Option Nat)) : Dj l [] := fun _ j _ _ hj => by simp at hj
/-- What is not moved stays. -/
theorem mv_keeps {l l' k : List (Option Nat)} {w w' : World} (m : Mv l w l' w') (h : Dj l k) (hk : ∀ (j b : Nat), k[j]? = some (some b) → b < w.heap.size) : ∀ (j b : Nat), k[j]? = some (some b) → w'.heap[b]? = w.heap[b]? := fun j b hj => m.block b (hk j b hj) (fun i hi => h i j b hi hj)
theorem own_stays {w w' : World} {B n s : Nat} {e : TypeId} {v : Value} {xs : List Value} (h : w.ownsRow B e s v n xs) (hk : ∀ b, v.ownBlock = some b → w'.heap[b]? = w.heap[b]?) : w'.ownsRow B e s v n xs := by
  refine ⟨h.1, ?_⟩
  rcases h.2 with hn | ⟨g, cap, cur, rfl, hb, hgg, rest⟩
  · exact .inl hn
  · exact .inr ⟨g, cap, cur, rfl, hb, (hk g rfl).trans hgg, rest⟩
theorem rs_stays {B g : Nat} {l : List RS} {w w' : World} (h : RsAt B g l w) (hs : w.heap.size ≤ w'.heap.size) (hk : ∀ (j b : Nat), (blks g l)[j]? = some (some b) → w'.heap[b]? = w.heap[b]?) : RsAt B g l w' := by
  refine ⟨h.low, Nat.lt_of_lt_of_le h.lt hs, fun j r hr => ?_, h.sep⟩
  exact own_stays (h.own j r hr) (fun b hb => hk (j + 1) b (by rw [blks_at hr, hb]))

/-- What the program's execution is given: where the function that yields the readings finds its list, and the number of the first one. -/
structure PCf where
  (lv : Bool) (gu gz : Nat) (al : Option Addr) (nl cl : Nat) (Y : List Int) (z : Int)
def PCf.src (c : PCf) : Int → Nat → Int := if c.lv then liveSrc c.Y c.z else listSrc c.Y
/-- The variables that the function has captured. -/
def PCf.cap (c : PCf) : List (Option Nat) := [some c.gu, if c.lv then some c.gz else none]
abbrev fnS (gu gz : Nat) : Value := .func (.func 139) #[] #[.pointer (some ⟨gu, 0, none⟩), .pointer (some ⟨gz, 0, none⟩)]
def liveOk : Prop := True
abbrev fnT (_ : Nat) : Value := .nilFunc
def listOk : Prop := False
def PCf.fn (c : PCf) : Value := if c.lv then fnS c.gu c.gz else fnT c.gu
/-- The readings are there, and they are values. -/
def PCfS (c : PCf) (w : World) : Prop := Row w c.al c.nl c.Y ∧ (c.nl : Int) ≤ 1048576 ∧ (0 ≤ c.z ∧ c.z ≤ 1000000) ∧ allV c.Y = true
/-- The variables that the function has captured are there. -/
def CapAt (c : PCf) (w : World) : Prop := (c.gu < w.heap.size ∧ w.cell? ⟨c.gu, 0, none⟩ = some (.slice c.al c.nl c.cl)) ∧ (c.lv = true → liveOk ∧ c.gz < w.heap.size ∧ w.cell? ⟨c.gz, 0, none⟩ = some (.int .i64 c.z)) ∧ (c.lv = false → listOk)
theorem PCfS.below {c : PCf} {w w' : World} (h : PCfS c w) (hb : Below w.heap.size w w') : PCfS c w' := ⟨h.1.below hb, h.2⟩
theorem CapAt.lt {c : PCf} {w : World} (h : CapAt c w) : ∀ (j b : Nat), c.cap[j]? = some (some b) → b < w.heap.size
  | 0, b, e => by
    have e2 : some c.gu = some b := Option.some.inj e
    cases e2; exact h.1.1
  | 1, b, e => by
    have e2 : (if c.lv then some c.gz else none) = some b := Option.some.inj e
    split at e2
    · cases e2; exact (h.2.1 (by assumption)).2.1
    · cases e2
  | j + 2, b, e => by simp [PCf.cap] at e
theorem CapAt.stays {c : PCf} {w w' : World} (h : CapAt c w) (hs : w.heap.size ≤ w'.heap.size) (hk : ∀ (j b : Nat), c.cap[j]? = some (some b) → w'.heap[b]? = w.heap[b]?) : CapAt c w' := by
  refine ⟨⟨Nat.lt_of_lt_of_le h.1.1 hs, (World.cell?_of_block (a := ⟨c.gu, 0, none⟩) (hk 0 c.gu rfl)).trans h.1.2⟩, fun e => ?_, h.2.2⟩
  obtain ⟨h1, h2, h3⟩ := h.2.1 e
  exact ⟨h1, Nat.lt_of_lt_of_le h2 hs, (World.cell?_of_block (a := ⟨c.gz, 0, none⟩) (hk 1 c.gz (by simp [PCf.cap, e]))).trans h3⟩
theorem CapAt.below {c : PCf} {w w' : World} (h : CapAt c w) (hb : Below w.heap.size w w') : CapAt c w' := h.stays hb.size (fun j b hj => hb.block b (h.lt j b hj))
theorem PCf.src_val {c : PCf} {w : World} (h : PCfS c w) (q : Int) (n : Nat) : isVal (c.src q n) = true := by
  unfold PCf.src
  split
  · exact liveSrc_val _ _ _ _
  · exact listSrc_val h.2.2.2 _ _
/-- An observer: the function, and what holds of its own memory. -/
structure Obs (B : Nat) extends Obm where
  (k : FuncId) (fc : Array Value)
  (ent : ∀ (args : Array Value) (w : World), (callFunc k args).run Tryz.prog w = .ok (.enter k args) w)
  (At : τ → List (Option Nat) → World → Prop)
  (base : ∀ t F w, At t F w → ∀ (j b : Nat), F[j]? = some (some b) → B ≤ b ∧ b < w.heap.size)
  (stay : ∀ t F w w', At t F w → w.heap.size ≤ w'.heap.size → (∀ (j b : Nat), F[j]? = some (some b) → w'.heap[b]? = w.heap[b]?) → At t F w')
/-- Where the rows lie. -/
structure Pp where
  (gv cv : Nat) (a1 : Option Addr) (n1 c1 : Nat) (a2 : Option Addr) (n2 c2 : Nat)
abbrev Obs.fn {B : Nat} (o : Obs B) : Value := .func (.func o.k) #[] o.fc
abbrev pxC {B : Nat} (p : Pp) (c : PCf) (o : Obs B) : Array Value :=
  #[.slice (some ⟨p.gv, 0, none⟩) 8 p.cv, .slice p.a1 p.n1 p.c1, .slice p.a2 p.n2 p.c2, c.fn, .func (.func o.k) #[] o.fc]
abbrev pxL (p : Pp) (x : Sx) : List RS := [⟨.slice (some ⟨p.gv, 0, none⟩) 8 p.cv, 8, ivs x.V, 3, 1⟩, ⟨.slice p.a1 p.n1 p.c1, p.n1, ivs x.S, 3, 1⟩, ⟨.slice p.a2 p.n2 p.c2, p.n2, ivs x.U, 3, 1⟩]
abbrev pxB (g : Nat) (p : Pp) (x : Sx) : List (Option Nat) := blks g (pxL p x)
/-- The block 'g' holds the state 'x', the observer's memory its state 't'. -/
structure PxAt (B g : Nat) (p : Pp) (c : PCf) (o : Obs B) (x : Sx) (t : o.τ) (F : List (Option Nat)) (w : World) : Prop where
  box : Box g (pxC p c o) 110 w
  rows : RsAt B g (pxL p x) w
  cap : CapAt c w
  ob : o.At t F w
  d1 : Dj (pxB g p x) F
  d2 : Dj (pxB g p x) c.cap
  d3 : Dj F c.cap
def Px (B g : Nat) (c : PCf) (o : Obs B) (z : o.Z) (w : World) : Prop := ∃ (p : Pp) (F : List (Option Nat)), PxAt B g p c o z.1 z.2 F w
theorem PxAt.lt {B g : Nat} {p : Pp} {c : PCf} {o : Obs B} {x : Sx} {t : o.τ} {F : List (Option Nat)} {w : World} (h : PxAt B g p c o x t F w) : g < w.heap.size := h.rows.lt
theorem PxAt.vars {B g : Nat} {p : Pp} {c : PCf} {o : Obs B} {x : Sx} {t : o.τ} {F : List (Option Nat)} {w : World} (h : PxAt B g p c o x t F w) : w.ownsRow B 3 1 (.slice (some ⟨p.gv, 0, none⟩) 8 p.cv) 8 (ivs x.V) := h.rows.own 0 _ rfl
theorem PxAt.sent {B g : Nat} {p : Pp} {c : PCf} {o : Obs B} {x : Sx} {t : o.τ} {F : List (Option Nat)} {w : World} (h : PxAt B g p c o x t F w) : w.ownsRow B 3 1 (.slice p.a1 p.n1 p.c1) p.n1 (ivs x.S) := h.rows.own 1 _ rfl
theorem PxAt.used {B g : Nat} {p : Pp} {c : PCf} {o : Obs B} {x : Sx} {t : o.τ} {F : List (Option Nat)} {w : World} (h : PxAt B g p c o x t F w) : w.ownsRow B 3 1 (.slice p.a2 p.n2 p.c2) p.n2 (ivs x.U) := h.rows.own 2 _ rfl
theorem PxAt.vrow {B g : Nat} {p : Pp} {c : PCf} {o : Obs B} {x : Sx} {t : o.τ} {F : List (Option Nat)} {w : World} (h : PxAt B g p c o x t F w) : Row w (some ⟨p.gv, 0, none⟩) 8 x.V := Row.of_own h.vars
theorem PxAt.slen {B g : Nat} {p : Pp} {c : PCf} {o : Obs B} {x : Sx} {t : o.τ} {F : List (Option Nat)} {w : World} (h : PxAt B g p c o x t F w) : x.S.length = p.n1 := own_len h.sent
theorem PxAt.ulen {B g : Nat} {p : Pp} {c : PCf} {o : Obs B} {x : Sx} {t : o.τ} {F : List (Option Nat)} {w : World} (h : PxAt B g p c o x t F w) : x.U.length = p.n2 := own_len h.used
theorem PxAt.vg {B g : Nat} {p : Pp} {c : PCf} {o : Obs B} {x : Sx} {t : o.τ} {F : List (Option Nat)} {w : World} (h : PxAt B g p c o x t F w) : p.gv ≠ g := fun e => h.rows.ne_g (j := 0) rfl (by rw [← e]; rfl)
theorem PxAt.gvB {B g : Nat} {p : Pp} {c : PCf} {o : Obs B} {x : Sx} {t : o.τ} {F : List (Option Nat)} {w : World} (h : PxAt B g p c o x t F w) : B ≤ p.gv ∧ p.gv < w.heap.size := own_block h.vars p.gv rfl
theorem PxAt.stays {B g : Nat} {p : Pp} {c : PCf} {o : Obs B} {x : Sx} {t : o.τ} {F : List (Option Nat)} {w w' : World} (h : PxAt B g p c o x t F w) (hb : Below w.heap.size w w') : PxAt B g p c o x t F w' :=
  ⟨h.box.below hb, h.rows.below hb, h.cap.below hb, o.stay t F w w' h.ob hb.size (fun j b hj => hb.block b (o.base t F w h.ob j b hj).2), h.d1, h.d2, h.d3⟩
theorem PxAt.below {B g : Nat} {p : Pp} {c : PCf} {o : Obs B} {x : Sx} {t : o.τ} {F : List (Option Nat)} {w w' : World} (h : PxAt B g p c o x t F w) (hb : Below w.heap.size w w') : PxAt B g p c o x t F w' := h.stays hb
/-- The observer has been told something: its memory alone has moved. -/
theorem PxAt.told {B g : Nat} {p : Pp} {c : PCf} {o : Obs B} {x : Sx} {t t' : o.τ} {F F' : List (Option Nat)} {w w' : World} (h : PxAt B g p c o x t F w) (ho : o.At t' F' w') (m : Mv F w F' w') : PxAt B g p c o x t' F' w' :=
  ⟨(m.block g h.lt (fun j e => h.d1 0 j g rfl e)).trans h.box, rs_stays h.rows m.size (mv_keeps m h.d1.symm h.rows.bound), h.cap.stays m.size (mv_keeps m h.d3 h.cap.lt), ho, h.d1.right m h.rows.bound, h.d2, h.d3.left m h.cap.lt⟩
theorem PxAt.told_below {B g : Nat} {p : Pp} {c : PCf} {o : Obs B} {x : Sx} {t : o.τ} {F F' : List (Option Nat)} {w w' : World} (h : PxAt B g p c o x t F w) (m : Mv F w F' w') (hB : B ≤ w.heap.size) : Below B w w' := m.below (fun j b e => (o.base t F w h.ob j b e).1) hB
/-- The execution's own memory has moved. -/
theorem PxAt.moved {B g : Nat} {p p' : Pp} {c : PCf} {o : Obs B} {x x' : Sx} {t : o.τ} {F : List (Option Nat)} {w w' : World} (h : PxAt B g p c o x t F w) (hx : Box g (pxC p' c o) 110 w') (hr : RsAt B g (pxL p' x') w') (m : Mv (pxB g p x) w (pxB g p' x') w') : PxAt B g p' c o x' t F w' :=
  ⟨hx, hr, h.cap.stays m.size (mv_keeps m h.d2 h.cap.lt), o.stay t F w w' h.ob m.size (mv_keeps m h.d1 (fun j b e => (o.base t F w h.ob j b e).2)), h.d1.left m (fun j b e => (o.base t F w h.ob j b e).2), h.d2.left m h.cap.lt, h.d3⟩
/-- A variable is set. -/
theorem PxAt.set {B g : Nat} {p : Pp} {c : PCf} {o : Obs B} {x : Sx} {t : o.τ} {F : List (Option Nat)} {w : World} (h : PxAt B g p c o x t F w) (k : Nat) (q : Int) :
    PxAt B g p c o ⟨x.V.set k q, x.S, x.U⟩ t F (w.setCell ⟨p.gv, k, none⟩ (.int .i64 q)) := by
  have hs := (h.vars.stored k (.int .i64 q)).1
  rw [ivs_set] at hs
  obtain ⟨hr, hbx, hmv⟩ := h.rows.cellset h.box (i := 0) rfl (grown_setCell w p.gv k (.int .i64 q)) (r' := ⟨.slice (some ⟨p.gv, 0, none⟩) 8 p.cv, 8, ivs (x.V.set k q), 3, 1⟩) hs rfl
  exact h.moved hbx hr hmv
theorem PxAt.set_below {B g : Nat} {p : Pp} {c : PCf} {o : Obs B} {x : Sx} {t : o.τ} {F : List (Option Nat)} {w w0 : World} (h : PxAt B g p c o x t F w) (k : Nat) (v : Value) (hB : Below B w0 w) (h0 : B ≤ w.heap.size) : Below B w0 (w.setCell ⟨p.gv, k, none⟩ v) :=
  hB.grown (grown_setCell w p.gv k v) h0 (fun j e => by cases e; exact h.gvB.1)
theorem PxAt.base {B g : Nat} {p : Pp} {c : PCf} {o : Obs B} {x : Sx} {t : o.τ} {F : List (Option Nat)} {w : World} (h : PxAt B g p c o x t F w) : B ≤ w.heap.size := Nat.le_trans h.rows.low (Nat.le_of_lt h.lt)
/-- Sent: the row of sent values has grown to a row, and the struct holds it. -/
theorem PxAt.send {B g : Nat} {p : Pp} {c : PCf} {o : Obs B} {x : Sx} {t : o.τ} {F : List (Option Nat)} {w w' : World} (h : PxAt B g p c o x t F w) {q : Int} {a3 : Option Addr} {c3 : Nat}
    (ho : w'.ownsRow B 3 1 (.slice a3 (p.n1 + 1) c3) (p.n1 + 1) (ivs (x.S ++ [q]))) (hg : w.grownBy w' (Value.slice p.a1 p.n1 p.c1).ownBlock) (hat : (Value.slice a3 (p.n1 + 1) c3).ownBlock = (Value.slice p.a1 p.n1 p.c1).ownBlock ∨ ∀ b, (Value.slice a3 (p.n1 + 1) c3).ownBlock = some b → w.heap.size ≤ b) :
    PxAt B g ⟨p.gv, p.cv, a3, p.n1 + 1, c3, p.a2, p.n2, p.c2⟩ c o ⟨x.V, x.S ++ [q], x.U⟩ t F (w'.setCell ⟨g, 1, none⟩ (.slice a3 (p.n1 + 1) c3)) ∧ Below B w (w'.setCell ⟨g, 1, none⟩ (.slice a3 (p.n1 + 1) c3)) ∧ Box g (pxC p c o) 110 w' := by
  obtain ⟨hr, hbx, hmv, hx⟩ := h.rows.app h.box (i := 1) rfl hg (r' := ⟨.slice a3 (p.n1 + 1) c3, p.n1 + 1, ivs (x.S ++ [q]), 3, 1⟩) ho hat 1 (.slice a3 (p.n1 + 1) c3)
  exact ⟨h.moved hbx hr hmv, hmv.below h.rows.base h.base, hx⟩
/-- Sensed: the row of used values has grown to a row, and the struct holds it. -/
theorem PxAt.sense {B g : Nat} {p : Pp} {c : PCf} {o : Obs B} {x : Sx} {t : o.τ} {F : List (Option Nat)} {w w' : World} (h : PxAt B g p c o x t F w) {q : Int} {a3 : Option Addr} {c3 : Nat}
    (ho : w'.ownsRow B 3 1 (.slice a3 (p.n2 + 1) c3) (p.n2 + 1) (ivs (x.U ++ [q]))) (hg : w.grownBy w' (Value.slice p.a2 p.n2 p.c2).ownBlock) (hat : (Value.slice a3 (p.n2 + 1) c3).ownBlock = (Value.slice p.a2 p.n2 p.c2).ownBlock ∨ ∀ b, (Value.slice a3 (p.n2 + 1) c3).ownBlock = some b → w.heap.size ≤ b) :
    PxAt B g ⟨p.gv, p.cv, p.a1, p.n1, p.c1, a3, p.n2 + 1, c3⟩ c o ⟨x.V, x.S, x.U ++ [q]⟩ t F (w'.setCell ⟨g, 2, none⟩ (.slice a3 (p.n2 + 1) c3)) ∧ Below B w (w'.setCell ⟨g, 2, none⟩ (.slice a3 (p.n2 + 1) c3)) ∧ Box g (pxC p c o) 110 w' := by
  obtain ⟨hr, hbx, hmv, hx⟩ := h.rows.app h.box (i := 2) rfl hg (r' := ⟨.slice a3 (p.n2 + 1) c3, p.n2 + 1, ivs (x.U ++ [q]), 3, 1⟩) ho hat 2 (.slice a3 (p.n2 + 1) c3)
  exact ⟨h.moved hbx hr hmv, hmv.below h.rows.base h.base, hx⟩
theorem Px.below {B g : Nat} {c : PCf} {o : Obs B} {z : o.Z} {w w' : World} (h : Px B g c o z w) (hb : Below w.heap.size w w') : Px B g c o z w' := by
  obtain ⟨p, F, h⟩ := h
  exact ⟨p, F, h.below hb⟩
abbrev stmA (s : Sm) : Array Value := #[.int .i64 s.k, .int .i64 s.v, .int .i64 s.n, .int .i64 s.o, .int .i64 s.a, .int .i64 s.b]
/-- What the observer does when it is told a statement. -/
def Tells (w0 : World) (c : PCf) (o : Obs w0.heap.size) (g : Nat) : Prop :=
  ∀ (w : World) (p : Pp) (F : List (Option Nat)) (x : Sx) (t : o.τ) (s : Sm) (v : Int), stOk s = true → s.k ≠ 6 → varsOk x.V = true → v = valS c.src s x → totZ (o := o.toObm) (x, t) ≤ 50000 → Below w0.heap.size w0 w → PxAt w0.heap.size g p c o x t F w →
    Calls Tryz.prog o.k (#[.agg (stmA s), .int .i64 v] ++ o.fc) w (fun e w' => e = .returned (.tuple #[]) ∧ ∃ F', o.At (o.nxt t x s v) F' w' ∧ Mv F w F' w')
end Go.Proofs.YtmgeecdgebemdaaGreatDoor.exe
