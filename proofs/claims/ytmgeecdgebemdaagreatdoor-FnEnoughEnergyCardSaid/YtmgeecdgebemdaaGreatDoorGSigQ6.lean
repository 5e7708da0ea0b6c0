/- Several texts in one: QTrcA QReadC. -/
import Derived.Test.YtmgeecdgebemdaaGreatDoorGSigQ0
import Derived.Test.YtmgeecdgebemdaaGreatDoorGSigQ4
import Derived.Test.YtmgeecdgebemdaaGreatDoorGSigQ5
import Derived.Test.YtmgeecdgebemdaaGreatDoorGSigQ1
import Derived.Deep.AppendLies
import Derived.WalkSpells

/- Chapter 14, plain mathematics: the steps of a task; all their writes together do what the task means. -/
namespace Go.Proofs.YtmgeecdgebemdaaGreatDoor.trc
open Go Go.Proofs.YtmgeecdgebemdaaGreatDoor.stm Go.Proofs.YtmgeecdgebemdaaGreatDoor.blk Go.Proofs.YtmgeecdgebemdaaGreatDoor.expr Go.Proofs.YtmgeecdgebemdaaGreatDoor.sets Go.Proofs.YtmgeecdgebemdaaGreatDoor.val Go.Proofs.YtmgeecdgebemdaaGreatDoor.prg Go.Proofs.YtmgeecdgebemdaaGreatDoor.exe Go.Proofs.YtmgeecdgebemdaaGreatDoor.wrt Go.Proofs.YtmgeecdgebemdaaGreatDoor.ctl
/-- The state of an execution with its steps and the variables that it has logged. -/
structure Tx where
  (x : Sx) (M : List Mic) (L : List Int)
/-- What an assignment writes; what has been logged behind it. -/
def asgM (D : List Int) (tk tl : Int) (V : List Int) (k q : Int) (L : List Int) : List Mic :=
  if k ∈ D ∧ k ∉ L then [wrM (9 + 2 * L.length) k, wrM (10 + 2 * L.length) (V.getD k.toNat 0), wrM 8 (packV tk (L.length + 1) tl), wrM k q] else [wrM k q]
def asgL (D : List Int) (k : Int) (L : List Int) : List Int := if k ∈ D ∧ k ∉ L then L ++ [k] else L
/-- What a statement without a body adds behind its own step. -/
def addM (src : Int → Nat → Int) (D : List Int) (tk tl : Int) (s : Sm) (y : Tx) : List Mic :=
  if s.k = 1 then asgM D tk tl y.x.V s.v (evalV y.x.V s.o s.a s.b) y.L
  else if s.k = 2 then asgM D tk tl y.x.V s.v (src s.n y.x.U.length) y.L
  else if s.k = 3 then (if tl + y.x.S.length < 24 then [wrM (25 + (tl + y.x.S.length)) (evalV y.x.V s.o s.a s.b)] else []) else []
def addL (D : List Int) (s : Sm) (L : List Int) : List Int := if s.k = 1 ∨ s.k = 2 then asgL D s.v L else L
def tstep (src : Int → Nat → Int) (D : List Int) (tk tl : Int) (s : Sm) (y : Tx) : Tx := ⟨step1 src s y.x, y.M ++ (stepM s.k :: addM src D tk tl s y), addL D s y.L⟩
def trep (f : Tx → Tx) : Nat → Tx → Tx
  | 0, y => y
  | n + 1, y => trep f n (f y)
def texec (src : Int → Nat → Int) (D : List Int) (tk tl : Int) : Fst → Tx → Tx
  | .nil, y => y
  | .one s r, y => texec src D tk tl r (tstep src D tk tl s y)
  | .nest s b r, y => texec src D tk tl r (trep (texec src D tk tl b) (its s y.x) ⟨y.x, y.M ++ [stepM s.k], y.L⟩)
theorem trep_zero (f : Tx → Tx) (y : Tx) : trep f 0 y = y := rfl
theorem trep_succ (f : Tx → Tx) (n : Nat) (y : Tx) : trep f (n + 1) y = trep f n (f y) := rfl
theorem trep_ind {f : Tx → Tx} {p : Tx → Prop} (h : ∀ y, p y → p (f y)) : ∀ (n : Nat) (y : Tx), p y → p (trep f n y)
  | 0, _, hy => hy
  | n + 1, y, hy => trep_ind h n (f y) (h y hy)
section
variable {src : Int → Nat → Int} {D : List Int} {tk tl : Int}
theorem trep_x {b : Fst} (h : ∀ y, (texec src D tk tl b y).x = exec src b y.x) : ∀ (n : Nat) (y : Tx), (trep (texec src D tk tl b) n y).x = rep (exec src b) n y.x
  | 0, _ => rfl
  | n + 1, y => by rw [trep_succ, trep_x h n, h, rep_succ]
/-- With its steps an execution does what it does without. -/
theorem texec_x : ∀ (T : Fst) (y : Tx), (texec src D tk tl T y).x = exec src T y.x
  | .nil, _ => rfl
  | .one s r, y => by simp only [texec, exec]; rw [texec_x r]; rfl
  | .nest s b r, y => by simp only [texec, exec]; rw [texec_x r, trep_x (fun z => texec_x b z)]
end
/-- Every single statement of a tree is so, every nesting one so. -/
def AllS (q1 q2 : Sm → Prop) : Fst → Prop
  | .nil => True
  | .one s r => q1 s ∧ AllS q1 q2 r
  | .nest s b r => q2 s ∧ AllS q1 q2 b ∧ AllS q1 q2 r
abbrev One (s : Sm) : Prop := stOk s = true ∧ opn s = false ∧ s.k ≠ 6
abbrev Nst (s : Sm) : Prop := stOk s = true ∧ (s.k = 4 ∨ s.k = 5)
theorem par_allS {L : List Sm} (hL : IsBlk L) {a b : Nat} {T : Fst} (h : Par L a b T) : AllS One Nst T := by
  induction h with
  | nil a => exact trivial
  | one a b T s hs ho h6 hr ih => exact ⟨⟨blk_stOk hL hs, ho, h6⟩, ih⟩
  | nest a e b B T s hs he hb hr ih1 ih2 =>
    obtain ⟨s2, hs2, ho2⟩ := he.opens
    rw [hs] at hs2; cases hs2
    exact ⟨⟨blk_stOk hL hs, by unfold opn at ho2; simpa using ho2⟩, ih1, ih2⟩
section
variable {src : Int → Nat → Int} {D : List Int} {tk tl : Int}
theorem exec_keeps {p : Tx → Prop} {q1 q2 : Sm → Prop} (h1 : ∀ s y, q1 s → p y → p (tstep src D tk tl s y)) (h2 : ∀ (s : Sm) y, q2 s → p y → p ⟨y.x, y.M ++ [stepM s.k], y.L⟩) : ∀ (T : Fst), AllS q1 q2 T → ∀ y, p y → p (texec src D tk tl T y)
  | .nil, _, _, hy => hy
  | .one s r, hv, y, hy => by
    simp only [texec]
    exact exec_keeps h1 h2 r hv.2 _ (h1 s y hv.1 hy)
  | .nest s b r, hv, y, hy => by
    simp only [texec]
    exact exec_keeps h1 h2 r hv.2.2 _ (trep_ind (fun z hz => exec_keeps h1 h2 b hv.2.1 z hz) _ _ (h2 s y hv.1 hy))
/-- What has been logged: different variables of those that must be. -/
def LogInv (D : List Int) (L : List Int) : Prop := L.Nodup ∧ ∀ k ∈ L, k ∈ D
theorem asg_inv {L : List Int} (h : LogInv D L) (k : Int) : LogInv D (asgL D k L) := by
  unfold asgL
  split
  · rename_i h1
    refine ⟨?_, fun j hj => ?_⟩
    · rw [List.nodup_append]
      exact ⟨h.1, by simp, fun a ha b hb => by rw [List.mem_singleton] at hb; rintro rfl; rw [hb] at ha; exact h1.2 ha⟩
    · rcases List.mem_append.1 hj with h' | h'
      · exact h.2 j h'
      · rw [List.mem_singleton.1 h']; exact h1.1
  · exact h
end
theorem nodup_small : ∀ (n : Nat) (L : List Int), L.Nodup → (∀ k ∈ L, 0 ≤ k ∧ k < n) → L.length ≤ n
  | 0, L, _, h => by
    cases L with
    | nil => simp
    | cons a L => have := h a (by simp); omega
  | n + 1, L, hd, h => by
    by_cases hn : (n : Int) ∈ L
    · have h1 := nodup_small n (L.erase n) (hd.erase _) (fun k hk => by
        have h2 := h k (List.mem_of_mem_erase hk)
        have h3 : k ≠ n := fun e => by rw [e] at hk; exact hd.not_mem_erase hk
        omega)
      rw [List.length_erase_of_mem hn] at h1
      omega
    · have h1 := nodup_small n L hd (fun k hk => by
        have h2 := h k hk
        have h3 : k ≠ n := fun e => hn (e ▸ hk)
        omega)
      omega
/-- The variables that must be logged are variables. -/
def Vrs (D : List Int) : Prop := ∀ k ∈ D, 0 ≤ k ∧ k < 8
theorem lst_vrs (f : Nat → Bool) : Vrs (lst f 8) := fun k hk => by
  obtain ⟨j, hj, rfl⟩ := List.mem_map.1 hk
  have := List.mem_range.1 (List.mem_filter.1 hj).1
  omega
theorem LogInv.le {D L : List Int} (h : LogInv D L) (hD : Vrs D) : L.length ≤ 8 := nodup_small 8 L h.1 (fun k hk => hD k (h.2 k hk))
theorem LogInv.lt {D L : List Int} {k : Int} (h : LogInv D L) (hD : Vrs D) (hk : k ∈ D ∧ k ∉ L) : L.length ≤ 7 := by
  have h1 := (asg_inv h k).le hD
  unfold asgL at h1
  rw [if_pos hk] at h1
  simp at h1
  omega
theorem add_inv {D L : List Int} (h : LogInv D L) (s : Sm) : LogInv D (addL D s L) := by
  unfold addL
  split
  · exact asg_inv h _
  · exact h
/-! The number of steps. -/
def cntS : Fst → Int
  | .nil => 0
  | .one _ r => 5 + cntS r
  | .nest s b r => 1 + max 1 s.n * cntS b + cntS r
theorem cntS_nonneg : ∀ T : Fst, 0 ≤ cntS T
  | .nil => by simp [cntS]
  | .one _ r => by have := cntS_nonneg r; simp only [cntS]; omega
  | .nest s b r => by
    have h1 := cntS_nonneg b
    have h2 := cntS_nonneg r
    have h3 : 0 ≤ max 1 s.n * cntS b := Int.mul_nonneg (by omega) h1
    simp only [cntS]; omega
theorem cntS_bound {L : List Sm} (hb : IsBlk L) {a b : Nat} {T : Fst} (h : Par L a b T) : ∀ H : Int, hAt L a = H → cntS T ≤ (b - a : Int) * (5 * p5 H) := by
  induction h with
  | nil a => intro H _; simp [cntS]
  | one a b T s hs ho h6 hr ih =>
    intro H hH
    have h1 := hAt_succ hs
    rw [dlt_flat ho h6] at h1
    have h2 := ih H (by omega)
    have : (1 : Int) ≤ p5 H := by unfold p5; split <;> (try split) <;> (try split) <;> omega
    have e : ((b : Int) - a) * (5 * p5 H) = ((b : Int) - ((a + 1 : Nat) : Int)) * (5 * p5 H) + 5 * p5 H := by
      rw [show (b : Int) - a = ((b : Int) - ((a + 1 : Nat) : Int)) + 1 by omega, Int.add_mul, Int.one_mul]
    rw [e]; simp only [cntS]; omega
  | nest a e b B T s hs he hbb hr ih1 ih2 =>
    intro H hH
    obtain ⟨s2, hs2, ho2⟩ := he.opens
    have h1 := hAt_succ hs2
    rw [dlt_opn ho2] at h1
    have h2 := (blk_bounds hb (a + 1)).2
    have h3 := (blk_bounds hb a).1
    have hx := ih1 (H + 1) (by omega)
    have hx0 := cntS_nonneg B
    have hy := ih2 H (by rw [he.2.2.1, hH])
    have hn := n_le (blk_stOk hb hs)
    have hae := he.1
    have hle := hr.le
    obtain ⟨m, hm⟩ : ∃ m, max 1 s.n = m := ⟨_, rfl⟩
    have hm1 : 1 ≤ m ∧ m ≤ 5 := by omega
    simp only [cntS]
    rw [hm]
    have hmx5 : m * cntS B ≤ 5 * cntS B := Int.mul_le_mul_of_nonneg_right hm1.2 hx0
    rcases (show H = 0 ∨ H = 1 ∨ H = 2 by omega) with rfl | rfl | rfl
    · simp only [p5] at hx hy ⊢; simp at hx hy ⊢; omega
    · simp only [p5] at hx hy ⊢; simp at hx hy ⊢; omega
    · simp only [p5] at hx hy ⊢; simp at hx hy ⊢; omega
theorem cntS_small {L : List Sm} (hb : IsBlk L) {T : Fst} (h : Par L 0 L.length T) : cntS T ≤ 15000 := by
  have h1 := cntS_bound hb h (hAt L 0) rfl
  have h2 : p5 (hAt L 0) ≤ 125 ∧ 0 ≤ p5 (hAt L 0) := by unfold p5; split <;> (try split) <;> (try split) <;> omega
  have h4 := hb.2.2
  have h5 : ((L.length : Int) - (0 : Nat)) * (5 * p5 (hAt L 0)) ≤ ((L.length : Int) - (0 : Nat)) * 625 := Int.mul_le_mul_of_nonneg_left (by omega) (by omega)
  omega
theorem asgM_len (D : List Int) (tk tl : Int) (V : List Int) (k q : Int) (L : List Int) : (asgM D tk tl V k q L).length ≤ 4 := by unfold asgM; split <;> simp
theorem addM_len (src : Int → Nat → Int) (D : List Int) (tk tl : Int) (s : Sm) (y : Tx) : (addM src D tk tl s y).length ≤ 4 := by
  unfold addM
  split
  · exact asgM_len ..
  split
  · exact asgM_len ..
  split
  · split <;> simp
  · simp
theorem trep_len {f : Tx → Tx} {c : Int} (h : ∀ y, ((f y).M.length : Int) ≤ y.M.length + c) : ∀ (n : Nat) (y : Tx), ((trep f n y).M.length : Int) ≤ y.M.length + n * c
  | 0, y => by rw [trep_zero]; simp
  | n + 1, y => by
    rw [trep_succ]
    have h1 := trep_len h n (f y)
    have h2 := h y
    have h3 : ((n + 1 : Nat) : Int) * c = n * c + c := by rw [Int.natCast_add, Int.add_mul]; simp
    omega
theorem texec_len (src : Int → Nat → Int) (D : List Int) (tk tl : Int) : ∀ (T : Fst) (y : Tx), ((texec src D tk tl T y).M.length : Int) ≤ y.M.length + cntS T
  | .nil, y => by simp [texec, cntS]
  | .one s r, y => by
    have h1 := texec_len src D tk tl r (tstep src D tk tl s y)
    have h2 := addM_len src D tk tl s y
    have h3 : (tstep src D tk tl s y).M.length = y.M.length + (1 + (addM src D tk tl s y).length) := by simp [tstep]; omega
    simp only [texec, cntS]; omega
  | .nest s b r, y => by
    have h1 := texec_len src D tk tl r (trep (texec src D tk tl b) (its s y.x) ⟨y.x, y.M ++ [stepM s.k], y.L⟩)
    have h2 := trep_len (fun z => texec_len src D tk tl b z) (its s y.x) ⟨y.x, y.M ++ [stepM s.k], y.L⟩
    have h3 : (its s y.x : Int) * cntS b ≤ max 1 s.n * cntS b := Int.mul_le_mul_of_nonneg_right (its_le s y.x) (cntS_nonneg b)
    simp at h2
    simp only [texec, cntS]; omega
theorem put_mid {W : List Int} (hW : W.length = 49) {p v : Int} (h1 : 8 ≤ p) (h2 : p ≤ 24) : (put1 W ⟨p, v⟩).take 8 = W.take 8 ∧ ∀ j, (put1 W ⟨p, v⟩)[25 + j]? = W[25 + j]? := by
  refine ⟨List.ext_getElem? fun j => ?_, fun j => put1_other (by show p ≠ ((25 + j : Nat) : Int); omega)⟩
  by_cases hj : j < 8
  · rw [List.getElem?_take_of_lt hj, List.getElem?_take_of_lt hj, put1_other (by show p ≠ (j : Int); omega)]
  · rw [List.getElem?_eq_none (by simp; omega), List.getElem?_eq_none (by simp; omega)]
theorem put_var {W : List Int} (hW : W.length = 49) {k q : Int} (h1 : 0 ≤ k) (h2 : k < 8) : (put1 W ⟨k, q⟩).take 8 = (W.take 8).set k.toNat q ∧ ∀ j, (put1 W ⟨k, q⟩)[25 + j]? = W[25 + j]? := by
  refine ⟨?_, fun j => put1_other (by show k ≠ ((25 + j : Nat) : Int); omega)⟩
  rw [put1_in (k := k.toNat) (by show k = _; omega) (by omega), List.take_set]
theorem put_box {W : List Int} (hW : W.length = 49) {t : Nat} {q : Int} (h : t < 24) : (put1 W ⟨25 + (t : Int), q⟩).take 8 = W.take 8 ∧ ∀ j, (put1 W ⟨25 + (t : Int), q⟩)[25 + j]? = if j = t then some q else W[25 + j]? := by
  refine ⟨List.ext_getElem? fun j => ?_, fun j => ?_⟩
  · by_cases hj : j < 8
    · rw [List.getElem?_take_of_lt hj, List.getElem?_take_of_lt hj, put1_other (by show 25 + (t : Int) ≠ (j : Int); omega)]
    · rw [List.getElem?_eq_none (by simp; omega), List.getElem?_eq_none (by simp; omega)]
  · rw [put1_in (k := 25 + t) (by show 25 + (t : Int) = _; omega) (by omega)]
    by_cases hj : j = t
    · subst hj; rw [if_pos rfl, List.getElem?_set_self (by omega)]
    · rw [if_neg hj, List.getElem?_set_ne (by omega)]
/-- The outbox of a memory whose first 'tl' words stay and behind which these values have been sent. -/
def boxAt (Mem S : List Int) (tl j : Nat) : Option Int := if tl ≤ j ∧ j < tl + S.length ∧ j < 24 then S[j - tl]? else Mem[25 + j]?
theorem boxAt_nil (Mem : List Int) (tl j : Nat) : boxAt Mem [] tl j = Mem[25 + j]? := by
  unfold boxAt; rw [if_neg (by simp; omega)]
theorem boxAt_old {Mem S : List Int} {q : Int} {tl j : Nat} (h : j ≠ tl + S.length ∨ 24 ≤ j) : boxAt Mem (S ++ [q]) tl j = boxAt Mem S tl j := by
  unfold boxAt
  by_cases hc : tl ≤ j ∧ j < tl + S.length ∧ j < 24
  · rw [if_pos hc, if_pos ⟨hc.1, by simp; omega, hc.2.2⟩, List.getElem?_append_left (by omega)]
  · rw [if_neg hc, if_neg (by simp; omega)]
theorem boxAt_new {Mem S : List Int} {q : Int} {tl : Nat} (h : tl + S.length < 24) : boxAt Mem (S ++ [q]) tl (tl + S.length) = some q := by
  unfold boxAt
  rw [if_pos ⟨by omega, by simp, by omega⟩, show tl + S.length - tl = S.length by omega]
  simp
/-- What the writes so far have made of the memory. -/
def MemInv (D Mem : List Int) (tl : Nat) (y : Tx) : Prop :=
  LogInv D y.L ∧ (putAll Mem (wrs y.M)).length = 49 ∧ (putAll Mem (wrs y.M)).take 8 = y.x.V ∧ ∀ j, (putAll Mem (wrs y.M))[25 + j]? = boxAt Mem y.x.S tl j
theorem asg_mem {D : List Int} (hD : Vrs D) {W : List Int} (hW : W.length = 49) (tk tl : Int) (V : List Int) {k q : Int} (h0 : 0 ≤ k) (h7 : k ≤ 7) {L : List Int} (hL : LogInv D L) :
    (putAll W (wrs (asgM D tk tl V k q L))).length = 49 ∧ (putAll W (wrs (asgM D tk tl V k q L))).take 8 = (W.take 8).set k.toNat q ∧ ∀ j, (putAll W (wrs (asgM D tk tl V k q L)))[25 + j]? = W[25 + j]? := by
  unfold asgM
  split
  · rename_i h
    have hl := hL.lt hD h
    rw [wrs_wr (by omega), wrs_wr (by omega), wrs_wr (by omega), wrs_wr h0]
    show (putAll W (_ :: _ :: _ :: _ :: wrs [])).length = 49 ∧ _
    rw [show wrs [] = [] from rfl, putAll_cons, putAll_cons, putAll_cons, putAll_cons, putAll_nil]
    have l1 : (put1 W ⟨9 + 2 * (L.length : Int), k⟩).length = 49 := by rw [put1_len, hW]
    have l2 : (put1 (put1 W ⟨9 + 2 * (L.length : Int), k⟩) ⟨10 + 2 * (L.length : Int), V.getD k.toNat 0⟩).length = 49 := by rw [put1_len, l1]
    have l3 : (put1 (put1 (put1 W ⟨9 + 2 * (L.length : Int), k⟩) ⟨10 + 2 * (L.length : Int), V.getD k.toNat 0⟩) ⟨8, packV tk ((L.length : Int) + 1) tl⟩).length = 49 := by rw [put1_len, l2]
    have e1 := put_mid hW (p := 9 + 2 * (L.length : Int)) (v := k) (by omega) (by omega)
    have e2 := put_mid l1 (p := 10 + 2 * (L.length : Int)) (v := V.getD k.toNat 0) (by omega) (by omega)
    have e3 := put_mid l2 (p := 8) (v := packV tk ((L.length : Int) + 1) tl) (by omega) (by omega)
    have e4 := put_var l3 (k := k) (q := q) h0 (by omega)
    refine ⟨by rw [put1_len, l3], ?_, fun j => ?_⟩
    · rw [e4.1, e3.1, e2.1, e1.1]
    · rw [e4.2, e3.2, e2.2, e1.2]
  · rw [wrs_wr h0]
    rw [show wrs [] = [] from rfl, putAll_cons, putAll_nil]
    have e4 := put_var hW (k := k) (q := q) h0 (by omega)
    exact ⟨by rw [put1_len, hW], e4.1, e4.2⟩
theorem step_mem {src : Int → Nat → Int} {D Mem : List Int} (hD : Vrs D) {tk : Int} {tl : Nat} {s : Sm} (hs : stOk s = true) {y : Tx} (h : MemInv D Mem tl y) : MemInv D Mem tl (tstep src D tk tl s y) := by
  obtain ⟨h1, h2, h3, h4⟩ := h
  have hw : putAll Mem (wrs (tstep src D tk tl s y).M) = putAll (putAll Mem (wrs y.M)) (wrs (addM src D tk tl s y)) := by
    simp only [tstep]
    rw [wrs_app, putAll_app, wrs_cons_step]
  refine ⟨add_inv h1 s, ?_⟩
  rw [hw]
  rcases step_cases src s y.x with ⟨hk, e⟩ | ⟨hk, e⟩ | ⟨hk, e⟩ | ⟨hn, h3k, e⟩
  · have hv := st_var hs (.inl hk)
    have hm := asg_mem hD h2 tk tl y.x.V (q := evalV y.x.V s.o s.a s.b) hv.1 hv.2 h1
    have ha : addM src D tk tl s y = asgM D tk tl y.x.V s.v (evalV y.x.V s.o s.a s.b) y.L := by unfold addM; rw [if_pos hk]
    rw [ha]
    refine ⟨hm.1, ?_, fun j => ?_⟩
    · rw [hm.2.1, h3]; show _ = (step1 src s y.x).V; rw [e]
    · rw [hm.2.2, h4]; show _ = boxAt Mem (step1 src s y.x).S tl j; rw [e]
  · have hv := st_var hs (.inr hk)
    have hm := asg_mem hD h2 tk tl y.x.V (q := src s.n y.x.U.length) hv.1 hv.2 h1
    have ha : addM src D tk tl s y = asgM D tk tl y.x.V s.v (src s.n y.x.U.length) y.L := by unfold addM; rw [if_neg (by omega), if_pos hk]
    rw [ha]
    refine ⟨hm.1, ?_, fun j => ?_⟩
    · rw [hm.2.1, h3]; show _ = (step1 src s y.x).V; rw [e]
    · rw [hm.2.2, h4]; show _ = boxAt Mem (step1 src s y.x).S tl j; rw [e]
  · have ha : addM src D tk tl s y = if (tl : Int) + y.x.S.length < 24 then [wrM (25 + ((tl : Int) + y.x.S.length)) (evalV y.x.V s.o s.a s.b)] else [] := by unfold addM; rw [if_neg (by omega), if_neg (by omega), if_pos hk]
    rw [ha]
    have hx : (tstep src D tk tl s y).x = ⟨y.x.V, y.x.S ++ [evalV y.x.V s.o s.a s.b], y.x.U⟩ := by simp only [tstep]; rw [e]
    rw [hx]
    split
    · rename_i ht
      rw [wrs_wr (by omega), show wrs [] = [] from rfl, putAll_cons, putAll_nil]
      have hb := put_box h2 (t := tl + y.x.S.length) (q := evalV y.x.V s.o s.a s.b) (by omega)
      rw [show (25 + (((tl + y.x.S.length : Nat)) : Int)) = 25 + ((tl : Int) + y.x.S.length) by omega] at hb
      refine ⟨by rw [put1_len, h2], by rw [hb.1, h3], fun j => ?_⟩
      rw [hb.2 j]
      by_cases hj : j = tl + y.x.S.length
      · subst hj
        rw [if_pos rfl]
        exact (boxAt_new (by omega)).symm
      · rw [if_neg hj, h4 j]
        exact (boxAt_old (.inl hj)).symm
    · rename_i ht
      rw [show wrs [] = [] from rfl, putAll_nil]
      refine ⟨h2, h3, fun j => ?_⟩
      rw [h4 j]
      exact (boxAt_old (by omega)).symm
  · have ha : addM src D tk tl s y = [] := by unfold addM; rw [if_neg (fun e => hn (.inl e)), if_neg (fun e => hn (.inr e)), if_neg h3k]
    rw [ha, show wrs [] = [] from rfl, putAll_nil]
    refine ⟨h2, ?_, fun j => ?_⟩
    · rw [h3]; show _ = (step1 src s y.x).V; rw [e]
    · rw [h4]; show _ = boxAt Mem (step1 src s y.x).S tl j; rw [e]
theorem texec_mem {src : Int → Nat → Int} {D Mem : List Int} (hD : Vrs D) {tk : Int} {tl : Nat} (T : Fst) (hv : AllS One Nst T) (y : Tx) (h : MemInv D Mem tl y) : MemInv D Mem tl (texec src D tk tl T y) :=
  exec_keeps (p := MemInv D Mem tl) (fun _ _ hs h => step_mem hD hs.1 h) (fun s y _ h => by
    obtain ⟨h1, h2, h3, h4⟩ := h
    refine ⟨h1, ?_⟩
    show (putAll Mem (wrs (y.M ++ [stepM s.k]))).length = 49 ∧ _
    rw [wrs_app, wrs_step, List.append_nil]
    exact ⟨h2, h3, h4⟩) T hv y h
theorem st_kind {s : Sm} (h : stOk s = true) : 1 ≤ s.k ∧ s.k ≤ 6 := by
  unfold stOk at h
  split at h
  · omega
  split at h
  · omega
  split at h
  · omega
  split at h
  · omega
  split at h
  · omega
  split at h
  · omega
  · cases h
theorem add_cost (src : Int → Nat → Int) (D : List Int) (tk tl : Int) (s : Sm) (y : Tx) : CostOk (addM src D tk tl s y) := by
  have ha : ∀ k q, CostOk (asgM D tk tl y.x.V k q y.L) := fun k q => by
    unfold asgM
    split
    · exact wr_cost (wr_cost (wr_cost (wr_cost nil_cost _ _) _ _) _ _) _ _
    · exact wr_cost nil_cost _ _
  unfold addM
  split
  · exact ha _ _
  split
  · exact ha _ _
  split
  · split
    · exact wr_cost nil_cost _ _
    · exact nil_cost
  · exact nil_cost
theorem texec_cost {src : Int → Nat → Int} {D : List Int} {tk tl : Int} (T : Fst) (hv : AllS One Nst T) (y : Tx) (h : CostOk y.M) : CostOk (texec src D tk tl T y).M :=
  exec_keeps (p := fun y => CostOk y.M) (fun s y hs h => by
    have := st_kind hs.1
    have h6 := hs.2.2
    show CostOk (y.M ++ ([stepM s.k] ++ addM src D tk tl s y))
    exact h.app ((step_cost this.1 (by omega)).app (add_cost src D tk tl s y))) (fun s y hs h => by
    have := hs.2
    exact h.app (step_cost (by omega) (by omega))) T hv y h
end Go.Proofs.YtmgeecdgebemdaaGreatDoor.trc

/- Chapter 3's ReadsOf of the model: the numbers of the variables that a valid expression names, in ascending order, in new memory; nothing that was there is written. -/
namespace Go.Proofs.YtmgeecdgebemdaaGreatDoor.expr
open Go.ChangeShapes Go.WideShapes Go.ChangeAt Go.RowKit Go.Proofs.YtmgeecdgebemdaaGreatDoor.row Go.Proofs.YtmgeecdgebemdaaGreatDoor.val
def readsV (o a b : Int) : List Int := if exprOk o a b then rd a b 8 else []
/-- A new row of these numbers. -/
def NewInts (w : World) (L : List Int) (e : Ending) (w' : World) : Prop :=
  ∃ ad n cap, e = .returned (.slice ad n cap) ∧ w'.ownsRow w.heap.size 3 1 (.slice ad n cap) n (ivs L) ∧ Below w.heap.size w w'

end Go.Proofs.YtmgeecdgebemdaaGreatDoor.expr
