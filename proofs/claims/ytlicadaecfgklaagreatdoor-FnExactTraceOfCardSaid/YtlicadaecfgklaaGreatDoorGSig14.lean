/- Several texts in one: TrcA Mem. -/
import Derived.Test.YtlicadaecfgklaaGreatDoorGSig13
import Derived.Test.YtlicadaecfgklaaGreatDoorGSig6
import Derived.Test.YtlicadaecfgklaaGreatDoorGSig3
import Derived.Laws.CopyOwn
import Derived.Lib.SliceRun
import Derived.Deep.Onto

/- Chapter 14, plain mathematics: the steps of a task; all their writes together do what the task means. -/
namespace Go.Proofs.YtlicadaecfgklaaGreatDoor.trc
open Go Go.Proofs.YtlicadaecfgklaaGreatDoor.stm Go.Proofs.YtlicadaecfgklaaGreatDoor.blk Go.Proofs.YtlicadaecfgklaaGreatDoor.expr Go.Proofs.YtlicadaecfgklaaGreatDoor.sets Go.Proofs.YtlicadaecfgklaaGreatDoor.val Go.Proofs.YtlicadaecfgklaaGreatDoor.prg Go.Proofs.YtlicadaecfgklaaGreatDoor.exe Go.Proofs.YtlicadaecfgklaaGreatDoor.wrt Go.Proofs.YtlicadaecfgklaaGreatDoor.ctl

/-- The state of an execution with its steps and the variables that it has logged. -/
structure Tx where
  (x : Sx) (M : List Mic) (L : List Int)
/-- What an assignment writes; what has been logged behind it. -/
def asgM (D : List Int) (tk tl : Int) (V : List Int) (k q : Int) (L : List Int) : List Mic :=
  if k ∈ D ∧ k ∉ L then [wrM (9 + 2 * L.length) k, wrM (10 + 2 * L.length) (V.getD k.toNat 0), wrM 8 (packV tk (L.length + 1) tl), wrM k q] else [wrM k q]
def asgL (D : List Int) (k : Int) (L : List Int) : List Int := if k ∈ D ∧ k ∉ L then L ++ [k] else L
/-- What a statement without a body adds behind its own step. -/
def addM (src : Int → Nat → Int) (D : List Int) (tk tl : Int) (s : Sm) (y : Tx) : List Mic :=
  if s.k = 1 then asgM D tk tl y.x.V s.v (evalV y.x.V s.o s.a s.b) y.L
  else if s.k = 2 then asgM D tk tl y.x.V s.v (src s.n y.x.U.length) y.L
  else if s.k = 3 then (if tl + y.x.S.length < 24 then [wrM (25 + (tl + y.x.S.length)) (evalV y.x.V s.o s.a s.b)] else []) else []
def addL (D : List Int) (s : Sm) (L : List Int) : List Int := if s.k = 1 ∨ s.k = 2 then asgL D s.v L else L
def tstep (src : Int → Nat → Int) (D : List Int) (tk tl : Int) (s : Sm) (y : Tx) : Tx := ⟨step1 src s y.x, y.M ++ (stepM s.k :: addM src D tk tl s y), addL D s y.L⟩
def trep (f : Tx → Tx) : Nat → Tx → Tx
  | 0, y => y
  | n + 1, y => trep f n (f y)
def texec (src : Int → Nat → Int) (D : List Int) (tk tl : Int) : Fst → Tx → Tx
  | .nil, y => y
  | .one s r, y => texec src D tk tl r (tstep src D tk tl s y)
  | .nest s b r, y => texec src D tk tl r (trep (texec src D tk tl b) (its s y.x) ⟨y.x, y.M ++ [stepM s.k], y.L⟩)
theorem trep_zero (f : Tx → Tx) (y : Tx) : trep f 0 y = y := rfl
theorem trep_succ (f : Tx → Tx) (n : Nat) (y : Tx) : trep f (n + 1) y = trep f n (f y) := rfl
theorem trep_ind {f : Tx → Tx} {p : Tx → Prop} (h : ∀ y, p y → p (f y)) : ∀ (n : Nat) (y : Tx), p y → p (trep f n y)
  | 0, _, hy => hy
  | n + 1, y, hy => trep_ind h n (f y) (h y hy)
theorem trep_last (f : Tx → Tx) : ∀ (n : Nat) (y : Tx), trep f (n + 1) y = f (trep f n y)
  | 0, _ => rfl
  | n + 1, y => by rw [trep_succ, trep_last f n (f y), trep_succ]
section
variable {src : Int → Nat → Int} {D : List Int} {tk tl : Int}
theorem trep_x {b : Fst} (h : ∀ y, (texec src D tk tl b y).x = exec src b y.x) : ∀ (n : Nat) (y : Tx), (trep (texec src D tk tl b) n y).x = rep (exec src b) n y.x
  | 0, _ => rfl
  | n + 1, y => by rw [trep_succ, trep_x h n, h, rep_succ]
/-- With its steps an execution does what it does without. -/
theorem texec_x : ∀ (T : Fst) (y : Tx), (texec src D tk tl T y).x = exec src T y.x
  | .nil, _ => rfl
  | .one s r, y => by simp only [texec, exec]; rw [texec_x r]; rfl
  | .nest s b r, y => by simp only [texec, exec]; rw [texec_x r, trep_x (fun z => texec_x b z)]
end
/-- Every single statement of a tree is so, every nesting one so. -/
def AllS (q1 q2 : Sm → Prop) : Fst → Prop
  | .nil => True
  | .one s r => q1 s ∧ AllS q1 q2 r
  | .nest s b r => q2 s ∧ AllS q1 q2 b ∧ AllS q1 q2 r
abbrev One (s : Sm) : Prop := stOk s = true ∧ opn s = false ∧ s.k ≠ 6
abbrev Nst (s : Sm) : Prop := stOk s = true ∧ (s.k = 4 ∨ s.k = 5)
theorem par_allS {L : List Sm} (hL : IsBlk L) {a b : Nat} {T : Fst} (h : Par L a b T) : AllS One Nst T := by
  induction h with
  | nil a => exact trivial
  | one a b T s hs ho h6 hr ih => exact ⟨⟨blk_stOk hL hs, ho, h6⟩, ih⟩
  | nest a e b B T s hs he hb hr ih1 ih2 =>
    obtain ⟨s2, hs2, ho2⟩ := he.opens
    rw [hs] at hs2; cases hs2
    exact ⟨⟨blk_stOk hL hs, by unfold opn at ho2; simpa using ho2⟩, ih1, ih2⟩
section
variable {src : Int → Nat → Int} {D : List Int} {tk tl : Int}
theorem exec_keeps {p : Tx → Prop} {q1 q2 : Sm → Prop} (h1 : ∀ s y, q1 s → p y → p (tstep src D tk tl s y)) (h2 : ∀ (s : Sm) y, q2 s → p y → p ⟨y.x, y.M ++ [stepM s.k], y.L⟩) : ∀ (T : Fst), AllS q1 q2 T → ∀ y, p y → p (texec src D tk tl T y)
  | .nil, _, _, hy => hy
  | .one s r, hv, y, hy => by
    simp only [texec]
    exact exec_keeps h1 h2 r hv.2 _ (h1 s y hv.1 hy)
  | .nest s b r, hv, y, hy => by
    simp only [texec]
    exact exec_keeps h1 h2 r hv.2.2 _ (trep_ind (fun z hz => exec_keeps h1 h2 b hv.2.1 z hz) _ _ (h2 s y hv.1 hy))
/-- What has been logged: different variables of those that must be. -/
def LogInv (D : List Int) (L : List Int) : Prop := L.Nodup ∧ ∀ k ∈ L, k ∈ D
theorem asg_inv {L : List Int} (h : LogInv D L) (k : Int) : LogInv D (asgL D k L) := by
  unfold asgL
  split
  · rename_i h1
    refine ⟨?_, fun j hj => ?_⟩
    · rw [List.nodup_append]
      exact ⟨h.1, by simp, fun a ha b hb => by rw [List.mem_singleton] at hb; rintro rfl; rw [hb] at ha; exact h1.2 ha⟩
    · rcases List.mem_append.1 hj with h' | h'
      · exact h.2 j h'
      · rw [List.mem_singleton.1 h']; exact h1.1
  · exact h
end
theorem nodup_small : ∀ (n : Nat) (L : List Int), L.Nodup → (∀ k ∈ L, 0 ≤ k ∧ k < n) → L.length ≤ n
  | 0, L, _, h => by
    cases L with
    | nil => simp
    | cons a L => have := h a (by simp); omega
  | n + 1, L, hd, h => by
    by_cases hn : (n : Int) ∈ L
    · have h1 := nodup_small n (L.erase n) (hd.erase _) (fun k hk => by
        have h2 := h k (List.mem_of_mem_erase hk)
        have h3 : k ≠ n := fun e => by rw [e] at hk; exact hd.not_mem_erase hk
        omega)
      rw [List.length_erase_of_mem hn] at h1
      omega
    · have h1 := nodup_small n L hd (fun k hk => by
        have h2 := h k hk
        have h3 : k ≠ n := fun e => hn (e ▸ hk)
        omega)
      omega
/-- The variables that must be logged are variables. -/
def Vrs (D : List Int) : Prop := ∀ k ∈ D, 0 ≤ k ∧ k < 8
theorem lst_vrs (f : Nat → Bool) : Vrs (lst f 8) := fun k hk => by
  obtain ⟨j, hj, rfl⟩ := List.mem_map.1 hk
  have := List.mem_range.1 (List.mem_filter.1 hj).1
  omega
theorem LogInv.le {D L : List Int} (h : LogInv D L) (hD : Vrs D) : L.length ≤ 8 := nodup_small 8 L h.1 (fun k hk => hD k (h.2 k hk))
theorem LogInv.lt {D L : List Int} {k : Int} (h : LogInv D L) (hD : Vrs D) (hk : k ∈ D ∧ k ∉ L) : L.length ≤ 7 := by
  have h1 := (asg_inv h k).le hD
  unfold asgL at h1
  rw [if_pos hk] at h1
  simp at h1
  omega
theorem add_inv {D L : List Int} (h : LogInv D L) (s : Sm) : LogInv D (addL D s L) := by
  unfold addL
  split
  · exact asg_inv h _
  · exact h
theorem texec_inv {src : Int → Nat → Int} {D : List Int} {tk tl : Int} (T : Fst) (hv : AllS One Nst T) (y : Tx) (h : LogInv D y.L) : LogInv D (texec src D tk tl T y).L :=
  exec_keeps (p := fun y => LogInv D y.L) (fun s _ _ h => add_inv h s) (fun _ _ _ h => h) T hv y h
/-! The number of steps. -/
def cntS : Fst → Int
  | .nil => 0
  | .one _ r => 5 + cntS r
  | .nest s b r => 1 + max 1 s.n * cntS b + cntS r
theorem cntS_nonneg : ∀ T : Fst, 0 ≤ cntS T
  | .nil => by simp [cntS]
  | .one _ r => by have := cntS_nonneg r; simp only [cntS]; omega
  | .nest s b r => by
    have h1 := cntS_nonneg b
    have h2 := cntS_nonneg r
    have h3 : 0 ≤ max 1 s.n * cntS b := Int.mul_nonneg (by omega) h1
    simp only [cntS]; omega
theorem cntS_bound {L : List Sm} (hb : IsBlk L) {a b : Nat} {T : Fst} (h : Par L a b T) : ∀ H : Int, hAt L a = H → cntS T ≤ (b - a : Int) * (5 * p5 H) := by
  induction h with
  | nil a => intro H _; simp [cntS]
  | one a b T s hs ho h6 hr ih =>
    intro H hH
    have h1 := hAt_succ hs
    rw [dlt_flat ho h6] at h1
    have h2 := ih H (by omega)
    have : (1 : Int) ≤ p5 H := by unfold p5; split <;> (try split) <;> (try split) <;> omega
    have e : ((b : Int) - a) * (5 * p5 H) = ((b : Int) - ((a + 1 : Nat) : Int)) * (5 * p5 H) + 5 * p5 H := by
      rw [show (b : Int) - a = ((b : Int) - ((a + 1 : Nat) : Int)) + 1 by omega, Int.add_mul, Int.one_mul]
    rw [e]; simp only [cntS]; omega
  | nest a e b B T s hs he hbb hr ih1 ih2 =>
    intro H hH
    obtain ⟨s2, hs2, ho2⟩ := he.opens
    have h1 := hAt_succ hs2
    rw [dlt_opn ho2] at h1
    have h2 := (blk_bounds hb (a + 1)).2
    have h3 := (blk_bounds hb a).1
    have hx := ih1 (H + 1) (by omega)
    have hx0 := cntS_nonneg B
    have hy := ih2 H (by rw [he.2.2.1, hH])
    have hn := n_le (blk_stOk hb hs)
    have hae := he.1
    have hle := hr.le
    obtain ⟨m, hm⟩ : ∃ m, max 1 s.n = m := ⟨_, rfl⟩
    have hm1 : 1 ≤ m ∧ m ≤ 5 := by omega
    simp only [cntS]
    rw [hm]
    have hmx5 : m * cntS B ≤ 5 * cntS B := Int.mul_le_mul_of_nonneg_right hm1.2 hx0
    rcases (show H = 0 ∨ H = 1 ∨ H = 2 by omega) with rfl | rfl | rfl
    · simp only [p5] at hx hy ⊢; simp at hx hy ⊢; omega
    · simp only [p5] at hx hy ⊢; simp at hx hy ⊢; omega
    · simp only [p5] at hx hy ⊢; simp at hx hy ⊢; omega
theorem cntS_small {L : List Sm} (hb : IsBlk L) {T : Fst} (h : Par L 0 L.length T) : cntS T ≤ 15000 := by
  have h1 := cntS_bound hb h (hAt L 0) rfl
  have h2 : p5 (hAt L 0) ≤ 125 ∧ 0 ≤ p5 (hAt L 0) := by unfold p5; split <;> (try split) <;> (try split) <;> omega
  have h4 := hb.2.2
  have h5 : ((L.length : Int) - (0 : Nat)) * (5 * p5 (hAt L 0)) ≤ ((L.length : Int) - (0 : Nat)) * 625 := Int.mul_le_mul_of_nonneg_left (by omega) (by omega)
  omega
theorem asgM_len (D : List Int) (tk tl : Int) (V : List Int) (k q : Int) (L : List Int) : (asgM D tk tl V k q L).length ≤ 4 := by unfold asgM; split <;> simp
theorem addM_len (src : Int → Nat → Int) (D : List Int) (tk tl : Int) (s : Sm) (y : Tx) : (addM src D tk tl s y).length ≤ 4 := by
  unfold addM
  split
  · exact asgM_len ..
  split
  · exact asgM_len ..
  split
  · split <;> simp
  · simp
theorem trep_len {f : Tx → Tx} {c : Int} (h : ∀ y, ((f y).M.length : Int) ≤ y.M.length + c) : ∀ (n : Nat) (y : Tx), ((trep f n y).M.length : Int) ≤ y.M.length + n * c
  | 0, y => by rw [trep_zero]; simp
  | n + 1, y => by
    rw [trep_succ]
    have h1 := trep_len h n (f y)
    have h2 := h y
    have h3 : ((n + 1 : Nat) : Int) * c = n * c + c := by rw [Int.natCast_add, Int.add_mul]; simp
    omega
theorem texec_len (src : Int → Nat → Int) (D : List Int) (tk tl : Int) : ∀ (T : Fst) (y : Tx), ((texec src D tk tl T y).M.length : Int) ≤ y.M.length + cntS T
  | .nil, y => by simp [texec, cntS]
  | .one s r, y => by
    have h1 := texec_len src D tk tl r (tstep src D tk tl s y)
    have h2 := addM_len src D tk tl s y
    have h3 : (tstep src D tk tl s y).M.length = y.M.length + (1 + (addM src D tk tl s y).length) := by simp [tstep]; omega
    simp only [texec, cntS]; omega
  | .nest s b r, y => by
    have h1 := texec_len src D tk tl r (trep (texec src D tk tl b) (its s y.x) ⟨y.x, y.M ++ [stepM s.k], y.L⟩)
    have h2 := trep_len (fun z => texec_len src D tk tl b z) (its s y.x) ⟨y.x, y.M ++ [stepM s.k], y.L⟩
    have h3 : (its s y.x : Int) * cntS b ≤ max 1 s.n * cntS b := Int.mul_le_mul_of_nonneg_right (its_le s y.x) (cntS_nonneg b)
    simp at h2
    simp only [texec, cntS]; omega
theorem put_mid {W : List Int} (hW : W.length = 49) {p v : Int} (h1 : 8 ≤ p) (h2 : p ≤ 24) : (put1 W ⟨p, v⟩).take 8 = W.take 8 ∧ ∀ j, (put1 W ⟨p, v⟩)[25 + j]? = W[25 + j]? := by
  refine ⟨List.ext_getElem? fun j => ?_, fun j => put1_other (by show p ≠ ((25 + j : Nat) : Int); omega)⟩
  by_cases hj : j < 8
  · rw [List.getElem?_take_of_lt hj, List.getElem?_take_of_lt hj, put1_other (by show p ≠ (j : Int); omega)]
  · rw [List.getElem?_eq_none (by simp; omega), List.getElem?_eq_none (by simp; omega)]
theorem put_var {W : List Int} (hW : W.length = 49) {k q : Int} (h1 : 0 ≤ k) (h2 : k < 8) : (put1 W ⟨k, q⟩).take 8 = (W.take 8).set k.toNat q ∧ ∀ j, (put1 W ⟨k, q⟩)[25 + j]? = W[25 + j]? := by
  refine ⟨?_, fun j => put1_other (by show k ≠ ((25 + j : Nat) : Int); omega)⟩
  rw [put1_in (k := k.toNat) (by show k = _; omega) (by omega), List.take_set]
theorem put_box {W : List Int} (hW : W.length = 49) {t : Nat} {q : Int} (h : t < 24) : (put1 W ⟨25 + (t : Int), q⟩).take 8 = W.take 8 ∧ ∀ j, (put1 W ⟨25 + (t : Int), q⟩)[25 + j]? = if j = t then some q else W[25 + j]? := by
  refine ⟨List.ext_getElem? fun j => ?_, fun j => ?_⟩
  · by_cases hj : j < 8
    · rw [List.getElem?_take_of_lt hj, List.getElem?_take_of_lt hj, put1_other (by show 25 + (t : Int) ≠ (j : Int); omega)]
    · rw [List.getElem?_eq_none (by simp; omega), List.getElem?_eq_none (by simp; omega)]
  · rw [put1_in (k := 25 + t) (by show 25 + (t : Int) = _; omega) (by omega)]
    by_cases hj : j = t
    · subst hj; rw [if_pos rfl, List.getElem?_set_self (by omega)]
    · rw [if_neg hj, List.getElem?_set_ne (by omega)]
/-- The outbox of a memory whose first 'tl' words stay and behind which these values have been sent. -/
def boxAt (Mem S : List Int) (tl j : Nat) : Option Int := if tl ≤ j ∧ j < tl + S.length ∧ j < 24 then S[j - tl]? else Mem[25 + j]?
theorem boxAt_nil (Mem : List Int) (tl j : Nat) : boxAt Mem [] tl j = Mem[25 + j]? := by
  unfold boxAt; rw [if_neg (by simp; omega)]
theorem boxAt_old {Mem S : List Int} {q : Int} {tl j : Nat} (h : j ≠ tl + S.length ∨ 24 ≤ j) : boxAt Mem (S ++ [q]) tl j = boxAt Mem S tl j := by
  unfold boxAt
  by_cases hc : tl ≤ j ∧ j < tl + S.length ∧ j < 24
  · rw [if_pos hc, if_pos ⟨hc.1, by simp; omega, hc.2.2⟩, List.getElem?_append_left (by omega)]
  · rw [if_neg hc, if_neg (by simp; omega)]
theorem boxAt_new {Mem S : List Int} {q : Int} {tl : Nat} (h : tl + S.length < 24) : boxAt Mem (S ++ [q]) tl (tl + S.length) = some q := by
  unfold boxAt
  rw [if_pos ⟨by omega, by simp, by omega⟩, show tl + S.length - tl = S.length by omega]
  simp
/-- What the writes so far have made of the memory. -/
def MemInv (D Mem : List Int) (tl : Nat) (y : Tx) : Prop :=
  LogInv D y.L ∧ (putAll Mem (wrs y.M)).length = 49 ∧ (putAll Mem (wrs y.M)).take 8 = y.x.V ∧ ∀ j, (putAll Mem (wrs y.M))[25 + j]? = boxAt Mem y.x.S tl j
theorem asg_mem {D : List Int} (hD : Vrs D) {W : List Int} (hW : W.length = 49) (tk tl : Int) (V : List Int) {k q : Int} (h0 : 0 ≤ k) (h7 : k ≤ 7) {L : List Int} (hL : LogInv D L) :
    (putAll W (wrs (asgM D tk tl V k q L))).length = 49 ∧ (putAll W (wrs (asgM D tk tl V k q L))).take 8 = (W.take 8).set k.toNat q ∧ ∀ j, (putAll W (wrs (asgM D tk tl V k q L)))[25 + j]? = W[25 + j]? := by
  unfold asgM
  split
  · rename_i h
    have hl := hL.lt hD h
    rw [wrs_wr (by omega), wrs_wr (by omega), wrs_wr (by omega), wrs_wr h0]
    show (putAll W (_ :: _ :: _ :: _ :: wrs [])).length = 49 ∧ _
    rw [show wrs [] = [] from rfl, putAll_cons, putAll_cons, putAll_cons, putAll_cons, putAll_nil]
    have l1 : (put1 W ⟨9 + 2 * (L.length : Int), k⟩).length = 49 := by rw [put1_len, hW]
    have l2 : (put1 (put1 W ⟨9 + 2 * (L.length : Int), k⟩) ⟨10 + 2 * (L.length : Int), V.getD k.toNat 0⟩).length = 49 := by rw [put1_len, l1]
    have l3 : (put1 (put1 (put1 W ⟨9 + 2 * (L.length : Int), k⟩) ⟨10 + 2 * (L.length : Int), V.getD k.toNat 0⟩) ⟨8, packV tk ((L.length : Int) + 1) tl⟩).length = 49 := by rw [put1_len, l2]
    have e1 := put_mid hW (p := 9 + 2 * (L.length : Int)) (v := k) (by omega) (by omega)
    have e2 := put_mid l1 (p := 10 + 2 * (L.length : Int)) (v := V.getD k.toNat 0) (by omega) (by omega)
    have e3 := put_mid l2 (p := 8) (v := packV tk ((L.length : Int) + 1) tl) (by omega) (by omega)
    have e4 := put_var l3 (k := k) (q := q) h0 (by omega)
    refine ⟨by rw [put1_len, l3], ?_, fun j => ?_⟩
    · rw [e4.1, e3.1, e2.1, e1.1]
    · rw [e4.2, e3.2, e2.2, e1.2]
  · rw [wrs_wr h0]
    rw [show wrs [] = [] from rfl, putAll_cons, putAll_nil]
    have e4 := put_var hW (k := k) (q := q) h0 (by omega)
    exact ⟨by rw [put1_len, hW], e4.1, e4.2⟩
theorem step_mem {src : Int → Nat → Int} {D Mem : List Int} (hD : Vrs D) {tk : Int} {tl : Nat} {s : Sm} (hs : stOk s = true) {y : Tx} (h : MemInv D Mem tl y) : MemInv D Mem tl (tstep src D tk tl s y) := by
  obtain ⟨h1, h2, h3, h4⟩ := h
  have hw : putAll Mem (wrs (tstep src D tk tl s y).M) = putAll (putAll Mem (wrs y.M)) (wrs (addM src D tk tl s y)) := by
    simp only [tstep]
    rw [wrs_app, putAll_app, wrs_cons_step]
  refine ⟨add_inv h1 s, ?_⟩
  rw [hw]
  rcases step_cases src s y.x with ⟨hk, e⟩ | ⟨hk, e⟩ | ⟨hk, e⟩ | ⟨hn, h3k, e⟩
  · have hv := st_var hs (.inl hk)
    have hm := asg_mem hD h2 tk tl y.x.V (q := evalV y.x.V s.o s.a s.b) hv.1 hv.2 h1
    have ha : addM src D tk tl s y = asgM D tk tl y.x.V s.v (evalV y.x.V s.o s.a s.b) y.L := by unfold addM; rw [if_pos hk]
    rw [ha]
    refine ⟨hm.1, ?_, fun j => ?_⟩
    · rw [hm.2.1, h3]; show _ = (step1 src s y.x).V; rw [e]
    · rw [hm.2.2, h4]; show _ = boxAt Mem (step1 src s y.x).S tl j; rw [e]
  · have hv := st_var hs (.inr hk)
    have hm := asg_mem hD h2 tk tl y.x.V (q := src s.n y.x.U.length) hv.1 hv.2 h1
    have ha : addM src D tk tl s y = asgM D tk tl y.x.V s.v (src s.n y.x.U.length) y.L := by unfold addM; rw [if_neg (by omega), if_pos hk]
    rw [ha]
    refine ⟨hm.1, ?_, fun j => ?_⟩
    · rw [hm.2.1, h3]; show _ = (step1 src s y.x).V; rw [e]
    · rw [hm.2.2, h4]; show _ = boxAt Mem (step1 src s y.x).S tl j; rw [e]
  · have ha : addM src D tk tl s y = if (tl : Int) + y.x.S.length < 24 then [wrM (25 + ((tl : Int) + y.x.S.length)) (evalV y.x.V s.o s.a s.b)] else [] := by unfold addM; rw [if_neg (by omega), if_neg (by omega), if_pos hk]
    rw [ha]
    have hx : (tstep src D tk tl s y).x = ⟨y.x.V, y.x.S ++ [evalV y.x.V s.o s.a s.b], y.x.U⟩ := by simp only [tstep]; rw [e]
    rw [hx]
    split
    · rename_i ht
      rw [wrs_wr (by omega), show wrs [] = [] from rfl, putAll_cons, putAll_nil]
      have hb := put_box h2 (t := tl + y.x.S.length) (q := evalV y.x.V s.o s.a s.b) (by omega)
      rw [show (25 + (((tl + y.x.S.length : Nat)) : Int)) = 25 + ((tl : Int) + y.x.S.length) by omega] at hb
      refine ⟨by rw [put1_len, h2], by rw [hb.1, h3], fun j => ?_⟩
      rw [hb.2 j]
      by_cases hj : j = tl + y.x.S.length
      · subst hj
        rw [if_pos rfl]
        exact (boxAt_new (by omega)).symm
      · rw [if_neg hj, h4 j]
        exact (boxAt_old (.inl hj)).symm
    · rename_i ht
      rw [show wrs [] = [] from rfl, putAll_nil]
      refine ⟨h2, h3, fun j => ?_⟩
      rw [h4 j]
      exact (boxAt_old (by omega)).symm
  · have ha : addM src D tk tl s y = [] := by unfold addM; rw [if_neg (fun e => hn (.inl e)), if_neg (fun e => hn (.inr e)), if_neg h3k]
    rw [ha, show wrs [] = [] from rfl, putAll_nil]
    refine ⟨h2, ?_, fun j => ?_⟩
    · rw [h3]; show _ = (step1 src s y.x).V; rw [e]
    · rw [h4]; show _ = boxAt Mem (step1 src s y.x).S tl j; rw [e]
theorem texec_mem {src : Int → Nat → Int} {D Mem : List Int} (hD : Vrs D) {tk : Int} {tl : Nat} (T : Fst) (hv : AllS One Nst T) (y : Tx) (h : MemInv D Mem tl y) : MemInv D Mem tl (texec src D tk tl T y) :=
  exec_keeps (p := MemInv D Mem tl) (fun _ _ hs h => step_mem hD hs.1 h) (fun s y _ h => by
    obtain ⟨h1, h2, h3, h4⟩ := h
    refine ⟨h1, ?_⟩
    show (putAll Mem (wrs (y.M ++ [stepM s.k]))).length = 49 ∧ _
    rw [wrs_app, wrs_step, List.append_nil]
    exact ⟨h2, h3, h4⟩) T hv y h
theorem st_kind {s : Sm} (h : stOk s = true) : 1 ≤ s.k ∧ s.k ≤ 6 := by
  unfold stOk at h
  split at h
  · omega
  split at h
  · omega
  split at h
  · omega
  split at h
  · omega
  split at h
  · omega
  split at h
  · omega
  · cases h
theorem add_cost (src : Int → Nat → Int) (D : List Int) (tk tl : Int) (s : Sm) (y : Tx) : CostOk (addM src D tk tl s y) := by
  have ha : ∀ k q, CostOk (asgM D tk tl y.x.V k q y.L) := fun k q => by
    unfold asgM
    split
    · exact wr_cost (wr_cost (wr_cost (wr_cost nil_cost _ _) _ _) _ _) _ _
    · exact wr_cost nil_cost _ _
  unfold addM
  split
  · exact ha _ _
  split
  · exact ha _ _
  split
  · split
    · exact wr_cost nil_cost _ _
    · exact nil_cost
  · exact nil_cost
theorem texec_cost {src : Int → Nat → Int} {D : List Int} {tk tl : Int} (T : Fst) (hv : AllS One Nst T) (y : Tx) (h : CostOk y.M) : CostOk (texec src D tk tl T y).M :=
  exec_keeps (p := fun y => CostOk y.M) (fun s y hs h => by
    have := st_kind hs.1
    have h6 := hs.2.2
    show CostOk (y.M ++ ([stepM s.k] ++ addM src D tk tl s y))
    exact h.app ((step_cost this.1 (by omega)).app (add_cost src D tk tl s y))) (fun s y hs h => by
    have := hs.2
    exact h.app (step_cost (by omega) (by omega))) T hv y h
end Go.Proofs.YtlicadaecfgklaaGreatDoor.trc

/- Chapter 9's memory, of the program: the words as an array, the parts of it as new rows; nothing that was there is written. -/
namespace Go.Proofs.YtlicadaecfgklaaGreatDoor.mem
open Go.ChangeShapes Go.WideShapes Go.ChangeAt Go.RowKit Go.Proofs.YtlicadaecfgklaaGreatDoor.row Go.Proofs.YtlicadaecfgklaaGreatDoor.val Go.Proofs.YtlicadaecfgklaaGreatDoor.expr Go.Proofs.YtlicadaecfgklaaGreatDoor.ctl

/-- The words of a memory as one value. -/
abbrev memV (L : List Int) : Value := .agg (ivs L).toArray
theorem row_range {w : World} {b off n : Nat} {L : List Int} (h : Row w (some ⟨b, off, none⟩) n L) : w.rangeAt b off (ivs L) := by
  intro j v hj
  have hjl : j < n := by have := (List.getElem?_eq_some_iff.1 hj).1; rw [ivs_length] at this; have := h.1; omega
  obtain ⟨b', off', x, e, _, hx, hc⟩ := h.2 j hjl
  cases e
  rw [hc]
  simp [ivs, hx] at hj
  rw [hj]
theorem row_some {w : World} {a : Option Addr} {n : Nat} {L : List Int} (h : Row w a n L) (hn : 0 < n) : ∃ b off, a = some ⟨b, off, none⟩ := by
  obtain ⟨b, off, _, e, _⟩ := h.2 0 hn
  exact ⟨b, off, e⟩
/-- Zeros. -/
abbrev nul (n : Nat) : List Int := List.replicate n 0
theorem ivs_one (L : List Int) : ∀ v ∈ ivs L, v.oneCell' = true := by intro v hv; obtain ⟨x, _, rfl⟩ := List.mem_map.1 hv; rfl
theorem row_box {w : World} {g o n : Nat} {L : List Int} {t : TypeId} (h : Box g (ivs L).toArray t w) (hn : o + n ≤ L.length) : Row w (some ⟨g, o, none⟩) n ((L.drop o).take n) := by
  refine ⟨by simp; omega, fun k hk => ⟨g, o, L[o + k]'(by omega), rfl, h.lt, ?_, ?_⟩⟩
  · rw [List.getElem?_take_of_lt hk, List.getElem?_drop, List.getElem?_eq_getElem]
  · rw [h.cell]; simp [ivs, show o + k < L.length by omega]
theorem box_own {w : World} {B g : Nat} {L : List Int} {t : TypeId} (h : Box g (ivs L).toArray t w) (hB : B ≤ g) (hn : L.length ≤ maxLen) : w.ownsRow B t 1 (.slice (some ⟨g, 0, none⟩) L.length L.length) L.length (ivs L) :=
  ⟨by simp [ivs], .inr ⟨g, L.length, (ivs L).toArray, rfl, hB, h, Nat.le_refl _, hn, by simp [ivs], by rw [Nat.mul_one]; exact List.take_of_length_le (by simp [ivs])⟩⟩

section program
set_option maxRecDepth 100000 in
set_option maxHeartbeats 1000000 in
theorem clone_any (w : World) (a : Option Addr) (n cap : Nat) (L : List Int) (hn : (n : Int) ≤ 1048576) (h : Row w a n L) :
    Calls Tryz.prog 74 #[.slice a n cap] w (NewInts w L) := by
  have q : ∀ (w : World) (a : Option Addr) (n c n' c' : Nat), (binOp .eql 27 (.slice a n c) (.slice none n' c')).run Tryz.prog w = .ok (.bool a.isNone) w := fun w a n c n' c' => Lib.run_eql_slice_nil w _ _ a n c n' c' Tryz.underlying27
  obtain ⟨i0, hi, hz0, hz1, hz2⟩ := info_parts infoInt
  cases a with
  | none =>
    have hn0 : n = 0 := by
      rcases Nat.eq_zero_or_pos n with h0 | h0
      · exact h0
      · obtain ⟨_, _, e⟩ := row_some h h0; cases e
    have hL : L = [] := List.eq_nil_of_length_eq_zero (by rw [h.1, hn0])
    subst hL
    clear h hn0
    go_enter Tryz.func74, Tryz.ntmps74
    go_wp2
    go_ret
    exact ⟨_, _, _, rfl, World.ownsRow_nil _ _ _ _, Below.refl _ _⟩
  | some ad =>
    have HL := Lib.hid (show (ivs L).length = n * 1 by rw [ivs_length, h.1]; omega)
    have HN : Hid (∀ j u, (ivs L)[j]? = some u → (w.alloc (.cells #[] 3)).cell? (ad.add j) = some u) := by
      intro j u hj
      have hjl : j < n := by have := (List.getElem?_eq_some_iff.1 hj).1; rw [ivs_length] at this; have := h.1; omega
      obtain ⟨b, off, e⟩ := row_some h (by omega)
      cases e
      rw [Addr.add_mid]
      exact World.rangeAt_alloc (row_range h) _ j u hj
    have H1 := Lib.hid (ivs_one L)
    clear h
    go_enter Tryz.func74, Tryz.ntmps74
    go_wp2_with (at_builtin; refine wpList_append_own _ rfl _ _ 27 rfl w.heap.size 3 i0 (.int .i64 0) 1 8 Tryz.underlying27 hi hz0 hz1 hz2 rfl (by decide) _ _ _ rfl (World.ownsRow_made w #[] 0 (Nat.le_refl _) (Nat.zero_le _) rfl) ad n cap (ivs L) rfl HL.out HN.out H1.out (by unfold maxLen; omega) (by omega) (by simp) ?_; intro v' w1 hown hgrow _; refine Hid.out ?_)
    have hb : Below w.heap.size w w1 := ((Below.refl _ w).alloc (Nat.le_refl _) _).grown hgrow (by simp) (fun k hk => by cases hk; exact Nat.le_refl _)
    have hown1 : w1.ownsRow w.heap.size 3 1 v' n (ivs L) := by simpa using hown
    have hv : ∃ ad n' cap, v' = .slice ad n' cap ∧ n' = n := by
      rcases hown1.2 with ⟨e, e0⟩ | ⟨g, c, _, e, _⟩
      · exact ⟨_, _, _, e, e0.symm⟩
      · exact ⟨_, _, _, e, rfl⟩
    obtain ⟨ad', n', cap', rfl, rfl⟩ := hv
    have HF := Lib.hid (And.intro hown1 hb)
    clear hown hgrow hb hown1
    refine Lib.hid ?_
    go_wp2
    go_ret
    exact ⟨_, _, _, rfl, HF.out.1, HF.out.2⟩
abbrev TM : TypeId := 100
theorem infoMem : (Tryz.prog.info? TM).map (·.size) = some 49 := by kernel_rfl
theorem mem_info {L : List Int} (h : L.length = 49) : (Tryz.prog.info? TM).map (·.size) = some (ivs L).toArray.size := by rw [infoMem]; simp [ivs, h]
theorem mem_all (L : List Int) : (ivs L).toArray.all (·.oneCell') = true := all_oneCell_toArray (ivs_one L)
/-- The memory at address 'a' of 49 words is read as an array's. -/
theorem run_arrayAt (b off c : Nat) (w : World) : (Instr.arrayAt TM (.slice (some ⟨b, off, none⟩) 49 c)).run Tryz.prog w = .ok (.pointer (some ⟨b, off, none⟩)) w := by kernel_rfl

theorem arrMem : Tryz.prog.underlying TM = some (.array (Tryz.prog.arrayLen TM) (Tryz.prog.elem TM)) := by kernel_rfl
theorem lenMem : Tryz.prog.arrayLen TM = 49 := by kernel_rfl
theorem sizeMem (w : World) : (sizeOf (Tryz.prog.elem TM)).run Tryz.prog w = .ok 1 w := by kernel_rfl
theorem run_slice_lh (g n : Nat) (hn : (n : Int) ≤ 24) (w : World) : (Instr.sliceAt TM (.pointer (some ⟨g, 0, none⟩)) (some (.int .i64 25)) (some (.int .i64 (25 + (n : Int)))) none).run Tryz.prog w = .ok (.slice (some ⟨g, 25, none⟩) n 24) w := by
  rw [run_sliceAt_array_lh w TM _ arrMem _ _ _ _ (by omega) (by omega) (by rw [lenMem]; omega), sizeMem, lenMem]
  simp only [Result.andThen, slicedAt]
  rw [show (25 + (n : Int)).toNat - (25 : Int).toNat = n by omega]
  rfl
theorem run_slice_8 (g : Nat) (w : World) : (Instr.sliceAt TM (.pointer (some ⟨g, 0, none⟩)) none (some (.int .i64 8)) none).run Tryz.prog w = .ok (.slice (some ⟨g, 0, none⟩) 8 49) w := by
  rw [run_sliceAt_array_h w TM _ arrMem _ _ (by omega) (by rw [lenMem]; omega), sizeMem, lenMem]
  rfl
theorem run_slice_all (g : Nat) (w : World) : (Instr.sliceAt TM (.pointer (some ⟨g, 0, none⟩)) none none none).run Tryz.prog w = .ok (.slice (some ⟨g, 0, none⟩) 49 49) w := by
  rw [run_sliceAt_array_all w TM _ arrMem, sizeMem, lenMem]
  rfl

set_option maxRecDepth 100000 in
set_option maxHeartbeats 1000000 in
theorem impl_memoryof_yes (w : World) (b off cap : Nat) (L : List Int) (h : Row w (some ⟨b, off, none⟩) 49 L) :
    Calls Tryz.prog 61 #[.slice (some ⟨b, off, none⟩) 49 cap] w fun e w' => e = .returned (.tuple #[memV L, .bool true]) ∧ Below w.heap.size w w' := by
  have hAP := run_arrayAt
  have HR := Lib.hid (row_range h)
  have HI := Lib.hid (mem_info h.1)
  have HB : Hid (∀ cs : Array Value, cs.size = 49 → (ivs L).toArray.size = cs.size) := fun cs hc => by rw [List.size_toArray, ivs_length, h.1, hc]
  clear h
  go_enter Tryz.func61, Tryz.ntmps61
  go_wp2_with (first
    | (refine wpList_load_mid rfl TM _ rfl b off rfl (ivs L) _ (World.rangeAt_alloc HR.out _) Tryz.underlying100 rfl HI.out ?_)
    | (refine wpList_store_box rfl TM _ _ rfl w.heap.size _ _ (Box.new w _ _) (ivs L).toArray rfl rfl (HB.out _ rfl) HI.out (mem_all L) ?_; intro w2 hx2 hg2))
  refine bodyPost_ret (v := .tuple #[memV L, .bool true]) (results_box2 (p := 2) (u := 3) rfl _ _ w.heap.size _ (ivs L).toArray _ (.bool true) rfl rfl hx2 Tryz.underlying100 rfl HI.out) rfl ?_
  exact ⟨rfl, (below_new w _).grown hg2 (by simp) (fun k hk => by cases hk; exact Nat.le_refl _)⟩
set_option maxRecDepth 100000 in
set_option maxHeartbeats 1000000 in
theorem impl_memoryof_no (w : World) (a : Option Addr) (n cap : Nat) (h : ¬ n = 49) :
    Calls Tryz.prog 61 #[.slice a n cap] w fun e w' => e = .returned (.tuple #[memV (nul 49), .bool false]) ∧ Below w.heap.size w w' := by
  have hq : ¬ (n : Int) = 49 := by omega
  have HI := Lib.hid (mem_info (L := nul 49) (by simp))
  have HB : Hid (∀ cs : Array Value, cs.size = 49 → (ivs (nul 49)).toArray.size = cs.size) := fun cs hc => by rw [hc]; simp [ivs]
  clear h
  go_enter Tryz.func61, Tryz.ntmps61
  go_wp2_with (first
    | (refine wpList_store_box rfl TM _ _ rfl w.heap.size _ _ (Box.new w _ _) (ivs (nul 49)).toArray rfl rfl (HB.out _ rfl) HI.out (mem_all _) ?_; intro w2 hx2 hg2))
  refine bodyPost_ret (v := .tuple #[memV (nul 49), .bool false]) (results_box2 (p := 2) (u := 3) rfl _ _ w.heap.size _ (ivs (nul 49)).toArray _ (.bool false) rfl rfl hx2 Tryz.underlying100 rfl HI.out) rfl ?_
  exact ⟨rfl, (below_new w _).grown hg2 (by simp) (fun k hk => by cases hk; exact Nat.le_refl _)⟩
set_option maxRecDepth 100000 in
set_option maxHeartbeats 1000000 in
theorem impl_sent (w : World) (L : List Int) (hL : L.length = 49) (n : Nat) (hn : n ≤ 24) :
    Calls Tryz.prog 62 #[memV L, .int .i64 n] w (NewInts w ((L.drop 25).take n)) := by
  have hb : Box w.heap.size (ivs L).toArray TM (w.alloc (.cells (ivs L).toArray TM)) := Box.new _ _ _
  have HR := Lib.hid (row_box (o := 25) (n := n) hb (by omega))
  have HB := Lib.hid (below_new w (.cells (ivs L).toArray TM))
  have hn' : (n : Int) ≤ 24 := by omega
  have hsl := run_slice_lh w.heap.size n hn'
  clear hb hn
  go_enter Tryz.func62, Tryz.ntmps62
  go_wp2_with (go_at_call 74; refine (clone_any _ _ n _ _ (by omega) HR.out).mono ?_; rintro e w1 ⟨ad, n1, c1, rfl, ho, hb1⟩; refine Hid.out ?_)
  have HF := Lib.hid (And.intro (ho.mono (show w.heap.size ≤ _ by simp)) (below_then HB.out hb1))
  clear ho hb1
  refine Lib.hid ?_
  go_wp2
  go_ret
  exact ⟨_, _, _, rfl, HF.out.1, HF.out.2⟩
set_option maxRecDepth 100000 in
set_option maxHeartbeats 1000000 in
theorem impl_memvars_yes (w : World) (b off cap : Nat) (L : List Int) (h : Row w (some ⟨b, off, none⟩) 49 L) :
    Calls Tryz.prog 25 #[.slice (some ⟨b, off, none⟩) 49 cap] w (NewInts w (L.take 8)) := by
  have hsl := run_slice_8
  have hl := h.1
  have HI := Lib.hid (mem_info hl)
  have HL : Hid (∀ cs : Array Value, cs.size = 49 → (ivs L).toArray.size = cs.size) := fun cs hc => by rw [List.size_toArray, ivs_length, h.1, hc]
  have HK := Lib.hid (show ∀ (w' : World) (g : Nat), Box g (ivs L).toArray TM w' → Row w' (some ⟨g, 0, none⟩) 8 (L.take 8) from fun w' g hb => by simpa using row_box (o := 0) (n := 8) hb (by omega))
  clear hl
  go_enter Tryz.func25, Tryz.ntmps25
  go_wp2_with (first
    | (go_at_call 61; refine (impl_memoryof_yes _ b off cap L h).mono ?_; rintro e w1 ⟨rfl, hb1⟩)
    | (refine wpList_store_box rfl TM _ _ rfl w1.heap.size _ _ (Box.new w1 _ _) (ivs L).toArray rfl rfl (HL.out _ rfl) HI.out (mem_all L) ?_; intro w2 hx2 hg2)
    | (go_at_call 74; refine (clone_any _ _ 8 _ _ (by omega) (HK.out _ _ hx2)).mono ?_; rintro e w3 ⟨ad, n3, c3, rfl, ho, hb3⟩; refine Hid.out ?_))
  have hb2 := ((below_then hb1 (below_new w1 _)).grown hg2 (show w.heap.size ≤ _ by have := hb1.size; simp; omega) (fun k hk => by cases hk; exact hb1.size))
  have HF := Lib.hid (And.intro (ho.mono hb2.size) (below_then hb2 hb3))
  clear ho hb3 hb2
  refine Lib.hid ?_
  go_wp2
  go_ret
  exact ⟨_, _, _, rfl, HF.out.1, HF.out.2⟩
set_option maxRecDepth 100000 in
set_option maxHeartbeats 1000000 in
theorem impl_memvars_no (w : World) (a : Option Addr) (n cap : Nat) (h : ¬ n = 49) :
    Calls Tryz.prog 25 #[.slice a n cap] w (NewInts w []) := by
  have HI := Lib.hid (mem_info (L := nul 49) (by simp))
  have HL : Hid (∀ cs : Array Value, cs.size = 49 → (ivs (nul 49)).toArray.size = cs.size) := fun cs hc => by rw [hc]; simp [ivs]
  go_enter Tryz.func25, Tryz.ntmps25
  go_wp2_with (first
    | (go_at_call 61; refine (impl_memoryof_no _ a n cap h).mono ?_; rintro e w1 ⟨rfl, hb1⟩)
    | (refine wpList_store_box rfl TM _ _ rfl w1.heap.size _ _ (Box.new w1 _ _) (ivs (nul 49)).toArray rfl rfl (HL.out _ rfl) HI.out (mem_all _) ?_; intro w2 hx2 hg2))
  go_ret
  exact ⟨_, _, _, rfl, World.ownsRow_nil _ _ _ _, (below_then hb1 (below_new w1 _)).grown hg2 (show w.heap.size ≤ _ by have := hb1.size; simp; omega) (fun k hk => by cases hk; exact hb1.size)⟩
/-- What a memory says was sent. -/
def sentV (L : List Int) : List Int := if wOk (L.getD 8 0) then (L.drop 25).take (wN (L.getD 8 0)).toNat else []
theorem sentV_no {L : List Int} {x : Int} (hx : L[8]? = some x) (h : wOk x = false) : sentV L = [] := by simp [sentV, List.getD_eq_getElem?_getD, hx, h]
theorem sentV_yes {L : List Int} {x : Int} {n : Nat} (hx : L[8]? = some x) (h : wOk x = true) (hn : unN x = n) : sentV L = (L.drop 25).take n := by
  have e : wN x = n := by rw [← hn]; simp [unN, h]
  simp [sentV, List.getD_eq_getElem?_getD, hx, h, e]
theorem sentV_len (L : List Int) : (sentV L).length ≤ 24 := by
  unfold sentV; split
  · rename_i h
    have hb := (ctlOk_iff _ _ _).1 h
    have := List.length_take_le (wN (L.getD 8 0)).toNat (L.drop 25)
    omega
  · simp
set_option maxRecDepth 100000 in
set_option maxHeartbeats 1000000 in
theorem impl_memsent_yes (w : World) (b off cap : Nat) (L : List Int) (h : Row w (some ⟨b, off, none⟩) 49 L) (hw : ∀ x ∈ L, -9223372036854775808 ≤ x ∧ x ≤ 9223372036854775807) :
    Calls Tryz.prog 19 #[.slice (some ⟨b, off, none⟩) 49 cap] w (NewInts w (sentV L)) := by
  have HLL := Lib.hid h.1
  have HI := Lib.hid (mem_info h.1)
  have HL : Hid (∀ cs : Array Value, cs.size = 49 → (ivs L).toArray.size = cs.size) := fun cs hc => by rw [List.size_toArray, ivs_length, h.1, hc]
  obtain ⟨x, hx⟩ : ∃ x, L[8]? = some x := ⟨L[8]'(by have := h.1; omega), by simp [h.1]⟩
  have hxw := hw x (List.mem_of_getElem? hx)
  have HC := Lib.hid (show ∀ (w' : World) (g : Nat), Box g (ivs L).toArray TM w' → w'.cell? ⟨g, 8, none⟩ = some (.int .i64 x) from fun w' g hb => by rw [hb.cell]; simp [ivs, hx])
  have HX := Lib.hid hx
  clear hx hw
  cases ho : wOk x
  · have HU := Lib.hid (un_no ho)
    have HS := Lib.hid (sentV_no HX.out ho)
    clear ho
    go_enter Tryz.func19, Tryz.ntmps19
    go_wp2_with (first
      | (go_at_call 61; refine (impl_memoryof_yes _ b off cap L h).mono ?_; rintro e w1 ⟨rfl, hb1⟩)
      | (refine wpList_store_box rfl TM _ _ rfl w1.heap.size _ _ (Box.new w1 _ _) (ivs L).toArray rfl rfl (HL.out _ rfl) HI.out (mem_all L) ?_; intro w2 hx2 hg2; have hc2 := HC.out _ _ hx2)
      | (go_at_call 24; refine (impl_unpack_is x _ _ _ hxw HU.out _).mono ?_; rintro e w3 ⟨rfl, rfl⟩))
    go_ret
    refine ⟨_, _, _, rfl, ?_, (below_then hb1 (below_new w1 _)).grown hg2 (show w.heap.size ≤ _ by have := hb1.size; simp; omega) (fun k hk => by cases hk; exact hb1.size)⟩
    rw [HS.out]; exact World.ownsRow_nil _ _ _ _
  · obtain ⟨t, c, n, ht, hc, hn, e1, e2, e3⟩ := un_yes ho
    have HU := Lib.hid (show unT x = t ∧ unC x = c ∧ unN x = n from ⟨e1, e2, e3⟩)
    have HS := Lib.hid (sentV_yes HX.out ho e3)
    clear ho e1 e2 e3
    go_enter Tryz.func19, Tryz.ntmps19
    go_wp2_with (first
      | (go_at_call 61; refine (impl_memoryof_yes _ b off cap L h).mono ?_; rintro e w1 ⟨rfl, hb1⟩)
      | (refine wpList_store_box rfl TM _ _ rfl w1.heap.size _ _ (Box.new w1 _ _) (ivs L).toArray rfl rfl (HL.out _ rfl) HI.out (mem_all L) ?_; intro w2 hx2 hg2; have hc2 := HC.out _ _ hx2)
      | (go_at_call 24; refine (impl_unpack_is x _ _ _ hxw HU.out _).mono ?_; rintro e w3 ⟨rfl, rfl⟩)
      | (refine wpList_load_row rfl TM _ rfl w1.heap.size rfl _ (ivs L).toArray _ _ hx2 Tryz.underlying100 rfl HI.out ?_)
      | (go_at_call 62; refine (impl_sent _ L HLL.out n hn).mono ?_; rintro e w4 ⟨ad, n4, c4, rfl, ho4, hb4⟩; refine Hid.out ?_))
    have hb2 := ((below_then hb1 (below_new w1 _)).grown hg2 (show w.heap.size ≤ _ by have := hb1.size; simp; omega) (fun k hk => by cases hk; exact hb1.size))
    have HF := Lib.hid (And.intro (ho4.mono hb2.size) (below_then hb2 hb4))
    clear ho4 hb4 hb2
    refine Lib.hid ?_
    go_wp2
    go_ret
    refine ⟨_, _, _, rfl, ?_, HF.out.2⟩
    rw [HS.out]; exact HF.out.1
set_option maxRecDepth 100000 in
set_option maxHeartbeats 1000000 in
theorem impl_memsent_no (w : World) (a : Option Addr) (n cap : Nat) (h : ¬ n = 49) :
    Calls Tryz.prog 19 #[.slice a n cap] w (NewInts w []) := by
  have HI := Lib.hid (mem_info (L := nul 49) (by simp))
  have HL : Hid (∀ cs : Array Value, cs.size = 49 → (ivs (nul 49)).toArray.size = cs.size) := fun cs hc => by rw [hc]; simp [ivs]
  go_enter Tryz.func19, Tryz.ntmps19
  go_wp2_with (first
    | (go_at_call 61; refine (impl_memoryof_no _ a n cap h).mono ?_; rintro e w1 ⟨rfl, hb1⟩)
    | (refine wpList_store_box rfl TM _ _ rfl w1.heap.size _ _ (Box.new w1 _ _) (ivs (nul 49)).toArray rfl rfl (HL.out _ rfl) HI.out (mem_all _) ?_; intro w2 hx2 hg2))
  go_ret
  exact ⟨_, _, _, rfl, World.ownsRow_nil _ _ _ _, (below_then hb1 (below_new w1 _)).grown hg2 (show w.heap.size ≤ _ by have := hb1.size; simp; omega) (fun k hk => by cases hk; exact hb1.size)⟩
/-- The words of a new memory. -/
def newV (L : List Int) : List Int := if varsOk L then L ++ nul 41 else []
/-- A new row of these words, and whether they were to be had. -/
def NewMem (w : World) (ty : TypeId) (M : List Int) (r : Bool) (e : Ending) (w' : World) : Prop :=
  ∃ ad n cap, e = .returned (.tuple #[.slice ad n cap, .bool r]) ∧ w'.ownsRow w.heap.size ty 1 (.slice ad n cap) n (ivs M) ∧ Below w.heap.size w w'
theorem newV_yes {L : List Int} (h : varsOk L = true) : newV L = L ++ nul 41 ∧ (newV L).length = 49 ∧ L.length = 8 := by
  have h8 := ((varsOk_iff L).1 h).1
  have e : newV L = L ++ nul 41 := by simp [newV, h]
  refine ⟨e, ?_, h8⟩
  rw [e]; simp [h8]
theorem newV_no {L : List Int} (h : varsOk L = false) : newV L = [] := by simp [newV, h]
theorem splice_new {L : List Int} (h : L.length = 8) : splice (ivs (nul 49)) 0 (ivs L) = ivs (L ++ nul 41) := by
  simp [splice, ivs, h]
end program
end Go.Proofs.YtlicadaecfgklaaGreatDoor.mem
