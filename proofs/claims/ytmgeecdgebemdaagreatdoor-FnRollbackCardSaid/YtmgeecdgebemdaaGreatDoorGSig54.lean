/- Several texts in one: RecA RecE RecB WtN. -/
import Derived.Test.YtmgeecdgebemdaaGreatDoorGSig24
import Derived.Test.YtmgeecdgebemdaaGreatDoorGSig35
import Derived.Test.YtmgeecdgebemdaaGreatDoorGSig21
import Derived.Test.YtmgeecdgebemdaaGreatDoorGSig47
import Derived.Deep.RegionHeld3

/- Chapter 15, plain mathematics: the recovery; an execution that is interrupted anywhere is undone. -/
namespace Go.Proofs.YtmgeecdgebemdaaGreatDoor.rcv
open Go Go.Proofs.YtmgeecdgebemdaaGreatDoor.stm Go.Proofs.YtmgeecdgebemdaaGreatDoor.blk Go.Proofs.YtmgeecdgebemdaaGreatDoor.expr Go.Proofs.YtmgeecdgebemdaaGreatDoor.sets Go.Proofs.YtmgeecdgebemdaaGreatDoor.val Go.Proofs.YtmgeecdgebemdaaGreatDoor.prg Go.Proofs.YtmgeecdgebemdaaGreatDoor.exe Go.Proofs.YtmgeecdgebemdaaGreatDoor.wrt Go.Proofs.YtmgeecdgebemdaaGreatDoor.ctl Go.Proofs.YtmgeecdgebemdaaGreatDoor.mem Go.Proofs.YtmgeecdgebemdaaGreatDoor.trc

/-- Behind each of the first writes, from none to all. -/
def Pre (p : List Int → Prop) (W : List Int) (ws : List Wt) : Prop := ∀ n, p (putAll W (ws.take n))
theorem pre_nil {p : List Int → Prop} {W : List Int} (h : p W) : Pre p W [] := fun n => by rw [List.take_nil]; exact h
theorem pre_cons {p : List Int → Prop} {W : List Int} {a : Wt} {ws : List Wt} (h0 : p W) (h : Pre p (put1 W a) ws) : Pre p W (a :: ws) := fun n => by
  cases n with
  | zero => exact h0
  | succ n => rw [List.take_succ_cons, putAll_cons]; exact h n
theorem pre_app {p : List Int → Prop} {W : List Int} {A B : List Wt} (h1 : Pre p W A) (h2 : Pre p (putAll W A) B) : Pre p W (A ++ B) := fun n => by
  by_cases hn : n ≤ A.length
  · rw [List.take_append_of_le_length hn]; exact h1 n
  · have h3 := h2 (n - A.length)
    rw [List.take_append, List.take_of_length_le (by omega), putAll_app]
    exact h3
section
variable (D Mem : List Int) (May : Int → Prop) (tk : Int) (tl : Nat)
/-- A memory in which an execution stands that began with 'Mem' and has logged 'L'. -/
def Rb (L W : List Int) : Prop :=
  LogInv D L ∧ W.length = 49 ∧ W[8]? = some (packV tk (L.length : Nat) tl) ∧
    (∀ i : Nat, i < L.length → ∃ k, L[i]? = some k ∧ W[9 + 2 * i]? = some k ∧ W[10 + 2 * i]? = Mem[k.toNat]?) ∧
    (∀ v : Nat, v < 8 → ¬ (v : Int) ∈ L → ((v : Int) ∈ D ∨ ¬ May v) → W[v]? = Mem[v]?) ∧
    (∀ v : Nat, v < 8 → ∃ q, W[v]? = some q ∧ isVal q = true) ∧ (∀ j : Nat, j < tl → W[25 + j]? = Mem[25 + j]?)
def Und (W : List Int) : Prop := ∃ L, Rb D Mem May tk tl L W
end
section
variable {D Mem : List Int} {May : Int → Prop} {tk : Int} {tl : Nat}
theorem rb_beyond {L W : List Int} {p : Int} (h : Rb D Mem May tk tl L W) (h1 : 9 + 2 * (L.length : Int) ≤ p) (h2 : p ≤ 24) (v : Int) : Rb D Mem May tk tl L (put1 W ⟨p, v⟩) := by
  obtain ⟨a, b, c, d, e, f, g⟩ := h
  have o : ∀ j : Nat, (j : Int) ≠ p → (put1 W ⟨p, v⟩)[j]? = W[j]? := fun j hj => put1_other (by show p ≠ (j : Int); omega)
  refine ⟨a, by rw [put1_len, b], by rw [o 8 (by omega)]; exact c, fun i hi => ?_, fun v hv h9 h10 => ?_, fun v hv => ?_, fun j hj => ?_⟩
  · obtain ⟨k, k1, k2, k3⟩ := d i hi
    exact ⟨k, k1, by rw [o _ (by omega)]; exact k2, by rw [o _ (by omega)]; exact k3⟩
  · rw [o v (by omega)]; exact e v hv h9 h10
  · rw [o v (by omega)]; exact f v hv
  · rw [o _ (by omega)]; exact g j hj
theorem rb_box {L W : List Int} {p : Int} (h : Rb D Mem May tk tl L W) (hL : L.length ≤ 8) (h1 : 25 + (tl : Int) ≤ p) (v : Int) : Rb D Mem May tk tl L (put1 W ⟨p, v⟩) := by
  obtain ⟨a, b, c, d, e, f, g⟩ := h
  have o : ∀ j : Nat, (j : Int) ≠ p → (put1 W ⟨p, v⟩)[j]? = W[j]? := fun j hj => put1_other (by show p ≠ (j : Int); omega)
  refine ⟨a, by rw [put1_len, b], by rw [o 8 (by omega)]; exact c, fun i hi => ?_, fun v hv h9 h10 => ?_, fun v hv => ?_, fun j hj => ?_⟩
  · obtain ⟨k, k1, k2, k3⟩ := d i hi
    exact ⟨k, k1, by rw [o _ (by omega)]; exact k2, by rw [o _ (by omega)]; exact k3⟩
  · rw [o v (by omega)]; exact e v hv h9 h10
  · rw [o v (by omega)]; exact f v hv
  · rw [o _ (by omega)]; exact g j hj
theorem rb_var {L W : List Int} {k : Nat} (h : Rb D Mem May tk tl L W) (hk : k < 8) {q : Int} (hq : isVal q = true) (hf : (k : Int) ∈ L ∨ (¬ (k : Int) ∈ D ∧ May k)) : Rb D Mem May tk tl L (put1 W ⟨(k : Int), q⟩) := by
  obtain ⟨a, b, c, d, e, f, g⟩ := h
  have o : ∀ j : Nat, j ≠ k → (put1 W ⟨(k : Int), q⟩)[j]? = W[j]? := fun j hj => put1_other (by show (k : Int) ≠ (j : Int); omega)
  refine ⟨a, by rw [put1_len, b], by rw [o 8 (by omega)]; exact c, fun i hi => ?_, fun v hv h9 h10 => ?_, fun v hv => ?_, fun j hj => ?_⟩
  · obtain ⟨k', k1, k2, k3⟩ := d i hi
    exact ⟨k', k1, by rw [o _ (by omega)]; exact k2, by rw [o _ (by omega)]; exact k3⟩
  · by_cases hvk : v = k
    · subst hvk
      rcases hf with hf | ⟨h1, h2⟩
      · exact absurd hf h9
      · rcases h10 with h10 | h10
        · exact absurd h10 h1
        · exact absurd h2 h10
    · rw [o v hvk]; exact e v hv h9 h10
  · by_cases hvk : v = k
    · subst hvk
      exact ⟨q, by rw [put1_in (k := v) rfl (by omega), List.getElem?_set_self (by omega)], hq⟩
    · rw [o v hvk]; exact f v hv
  · rw [o _ (by omega)]; exact g j hj
theorem rb_log {L W : List Int} {k : Int} (h : Rb D Mem May tk tl L W) (hk : k ∈ D ∧ ¬ k ∈ L) (h1 : W[9 + 2 * L.length]? = some k) (h2 : W[10 + 2 * L.length]? = Mem[k.toNat]?) :
    Rb D Mem May tk tl (L ++ [k]) (put1 W ⟨8, packV tk ((L.length : Int) + 1) tl⟩) := by
  obtain ⟨a, b, c, d, e, f, g⟩ := h
  have o : ∀ j : Nat, j ≠ 8 → (put1 W ⟨8, packV tk ((L.length : Int) + 1) tl⟩)[j]? = W[j]? := fun j hj => put1_other (by show (8 : Int) ≠ (j : Int); omega)
  have ha := asg_inv a k
  unfold asgL at ha
  rw [if_pos hk] at ha
  refine ⟨ha, by rw [put1_len, b], ?_, fun i hi => ?_, fun v hv h9 h10 => ?_, fun v hv => ?_, fun j hj => ?_⟩
  · rw [put1_in (k := 8) rfl (by omega), List.getElem?_set_self (by omega)]
    rw [show (((L ++ [k]).length : Nat) : Int) = (L.length : Int) + 1 by simp]
  · rw [o _ (by omega), o _ (by omega)]
    rw [List.length_append, List.length_singleton] at hi
    by_cases hi2 : i < L.length
    · obtain ⟨k', k1, k2, k3⟩ := d i hi2
      exact ⟨k', by rw [List.getElem?_append_left hi2]; exact k1, k2, k3⟩
    · obtain rfl : i = L.length := by omega
      exact ⟨k, by simp, h1, h2⟩
  · rw [o v (by omega)]
    exact e v hv (fun h => h9 (List.mem_append.2 (.inl h))) h10
  · rw [o v (by omega)]; exact f v hv
  · rw [o _ (by omega)]; exact g j hj
theorem asg_rb (hD : Vrs D) {L W V : List Int} (h : Rb D Mem May tk tl L W) (hV : W.take 8 = V) {k : Int} (h0 : 0 ≤ k) (h7 : k ≤ 7) (hm : May k) {q : Int} (hq : isVal q = true) :
    Pre (Und D Mem May tk tl) W (wrs (asgM D tk tl V k q L)) ∧ Rb D Mem May tk tl (asgL D k L) (putAll W (wrs (asgM D tk tl V k q L))) := by
  obtain ⟨j, rfl⟩ : ∃ j : Nat, k = j := ⟨k.toNat, by omega⟩
  by_cases hc : (j : Int) ∈ D ∧ ¬ (j : Int) ∈ L
  · have e1 : asgM D tk tl V j q L = [wrM (9 + 2 * L.length) j, wrM (10 + 2 * L.length) (V.getD (j : Int).toNat 0), wrM 8 (packV tk (L.length + 1) tl), wrM j q] := by unfold asgM; rw [if_pos hc]
    have e2 : asgL D j L = L ++ [(j : Int)] := by unfold asgL; rw [if_pos hc]
    have hl := h.1.lt hD hc
    obtain ⟨q0, hq0, _⟩ := h.2.2.2.2.2.1 j (by omega)
    have hMk : W[j]? = Mem[j]? := h.2.2.2.2.1 j (by omega) hc.2 (.inl hc.1)
    have hv0 : V.getD (j : Int).toNat 0 = q0 := by
      rw [← hV, List.getD_eq_getElem?_getD, Int.toNat_natCast, List.getElem?_take_of_lt (by omega), hq0]; rfl
    rw [e1, e2, hv0, wrs_wr (by omega), wrs_wr (by omega), wrs_wr (by omega), wrs_wr h0, show wrs [] = [] from rfl]
    have r1 := rb_beyond (p := 9 + 2 * (L.length : Int)) h (by omega) (by omega) j
    have r2 := rb_beyond (p := 10 + 2 * (L.length : Int)) r1 (by omega) (by omega) q0
    have hb1 : (put1 W ⟨9 + 2 * (L.length : Int), (j : Int)⟩).length = 49 := r1.2.1
    have r3 := rb_log (k := (j : Int)) r2 hc
      (by rw [put1_other (by show 10 + 2 * (L.length : Int) ≠ ((9 + 2 * L.length : Nat) : Int); omega), put1_in (k := 9 + 2 * L.length) (by show 9 + 2 * (L.length : Int) = _; omega) (by rw [h.2.1]; omega), List.getElem?_set_self (by rw [h.2.1]; omega)])
      (by rw [put1_in (k := 10 + 2 * L.length) (by show 10 + 2 * (L.length : Int) = _; omega) (by rw [hb1]; omega), List.getElem?_set_self (by rw [hb1]; omega), Int.toNat_natCast, ← hMk, hq0])
    have r4 := rb_var (k := j) r3 (by omega) hq (.inl (by simp))
    exact ⟨pre_cons ⟨_, h⟩ (pre_cons ⟨_, r1⟩ (pre_cons ⟨_, r2⟩ (pre_cons ⟨_, r3⟩ (pre_nil ⟨_, r4⟩)))), r4⟩
  · have e1 : asgM D tk tl V j q L = [wrM j q] := by unfold asgM; rw [if_neg hc]
    have e2 : asgL D j L = L := by unfold asgL; rw [if_neg hc]
    rw [e1, e2, wrs_wr h0, show wrs [] = [] from rfl]
    have r4 := rb_var (k := j) h (by omega) hq (by
      by_cases hd : (j : Int) ∈ D
      · exact .inl (Classical.byContradiction fun hn => hc ⟨hd, hn⟩)
      · exact .inr ⟨hd, hm⟩)
    exact ⟨pre_cons ⟨_, h⟩ (pre_nil ⟨_, r4⟩), r4⟩
/-- What holds behind each statement. -/
def RInv (D Mem : List Int) (May : Int → Prop) (tk : Int) (tl : Nat) (y : Tx) : Prop :=
  MemInv D Mem tl y ∧ exe.Good y.x ∧ Rb D Mem May tk tl y.L (putAll Mem (wrs y.M)) ∧ Pre (Und D Mem May tk tl) Mem (wrs y.M)
theorem step_rinv {src : Int → Nat → Int} (hsrc : ∀ q n, isVal (src q n) = true) (hD : Vrs D) {s : Sm} (hs : stOk s = true) (hw : wr s → May s.v) {y : Tx} (h : RInv D Mem May tk tl y) : RInv D Mem May tk tl (tstep src D tk tl s y) := by
  obtain ⟨h1, h2, h3, h4⟩ := h
  have hL8 := h1.1.le hD
  have ew : wrs (tstep src D tk tl s y).M = wrs y.M ++ wrs (addM src D tk tl s y) := by
    simp only [tstep]
    rw [wrs_app, wrs_cons_step]
  have key : Pre (Und D Mem May tk tl) (putAll Mem (wrs y.M)) (wrs (addM src D tk tl s y)) ∧ Rb D Mem May tk tl (addL D s y.L) (putAll (putAll Mem (wrs y.M)) (wrs (addM src D tk tl s y))) := by
    rcases step_cases src s y.x with ⟨hk, e⟩ | ⟨hk, e⟩ | ⟨hk, e⟩ | ⟨hn, h3k, e⟩
    · have hv := st_var hs (.inl hk)
      have ha : addM src D tk tl s y = asgM D tk tl y.x.V s.v (evalV y.x.V s.o s.a s.b) y.L := by unfold addM; rw [if_pos hk]
      have hl : addL D s y.L = asgL D s.v y.L := by unfold addL; rw [if_pos (.inl hk)]
      rw [ha, hl]
      exact asg_rb hD h3 h1.2.2.1 hv.1 hv.2 (hw (.inl hk)) (evalV_val _ _ _ _)
    · have hv := st_var hs (.inr hk)
      have ha : addM src D tk tl s y = asgM D tk tl y.x.V s.v (src s.n y.x.U.length) y.L := by unfold addM; rw [if_neg (by omega), if_pos hk]
      have hl : addL D s y.L = asgL D s.v y.L := by unfold addL; rw [if_pos (.inr hk)]
      rw [ha, hl]
      exact asg_rb hD h3 h1.2.2.1 hv.1 hv.2 (hw (.inr hk)) (hsrc _ _)
    · have ha : addM src D tk tl s y = if (tl : Int) + y.x.S.length < 24 then [wrM (25 + ((tl : Int) + y.x.S.length)) (evalV y.x.V s.o s.a s.b)] else [] := by unfold addM; rw [if_neg (by omega), if_neg (by omega), if_pos hk]
      have hl : addL D s y.L = y.L := by unfold addL; rw [if_neg (by omega)]
      rw [ha, hl]
      split
      · rw [wrs_wr (by omega), show wrs [] = [] from rfl]
        have r := rb_box (p := 25 + ((tl : Int) + y.x.S.length)) h3 hL8 (by omega) (evalV y.x.V s.o s.a s.b)
        exact ⟨pre_cons ⟨_, h3⟩ (pre_nil ⟨_, r⟩), r⟩
      · rw [show wrs [] = [] from rfl]
        exact ⟨pre_nil ⟨_, h3⟩, h3⟩
    · have ha : addM src D tk tl s y = [] := by unfold addM; rw [if_neg (fun e => hn (.inl e)), if_neg (fun e => hn (.inr e)), if_neg h3k]
      have hl : addL D s y.L = y.L := by unfold addL; exact if_neg hn
      rw [ha, hl, show wrs [] = [] from rfl]
      exact ⟨pre_nil ⟨_, h3⟩, h3⟩
  refine ⟨step_mem hD hs h1, step_good hsrc s h2, ?_, ?_⟩
  · rw [ew, putAll_app]; exact key.2
  · rw [ew]; exact pre_app h4 key.1
theorem texec_rinv {src : Int → Nat → Int} (hsrc : ∀ q n, isVal (src q n) = true) (hD : Vrs D) (T : Fst) (hv : AllS (fun s => One s ∧ (wr s → May s.v)) Nst T) (y : Tx) (h : RInv D Mem May tk tl y) : RInv D Mem May tk tl (texec src D tk tl T y) :=
  exec_keeps (p := RInv D Mem May tk tl) (fun _ _ hs h => step_rinv hsrc hD hs.1.1 hs.2 h) (fun s y _ h => by
    obtain ⟨h1, h2, h3, h4⟩ := h
    have e : wrs (y.M ++ [stepM s.k]) = wrs y.M := by rw [wrs_app, wrs_step, List.append_nil]
    refine ⟨⟨h1.1, ?_⟩, h2, ?_, ?_⟩
    · show (putAll Mem (wrs (y.M ++ [stepM s.k]))).length = 49 ∧ _
      rw [e]; exact h1.2
    · show Rb D Mem May tk tl y.L (putAll Mem (wrs (y.M ++ [stepM s.k])))
      rw [e]; exact h3
    · show Pre _ Mem (wrs (y.M ++ [stepM s.k]))
      rw [e]; exact h4) T hv y h
end
/-- The statements of a tree stand in the block. -/
theorem par_may {L : List Sm} (hL : IsBlk L) {a b : Nat} {T : Fst} (h : Par L a b T) : AllS (fun s => One s ∧ (wr s → ∃ v : Nat, s.v = v ∧ MayTo L L.length v)) Nst T := by
  induction h with
  | nil a => exact trivial
  | one a b T s hs ho h6 hr ih =>
    refine ⟨⟨⟨blk_stOk hL hs, ho, h6⟩, fun hw => ?_⟩, ih⟩
    have hv := st_var (blk_stOk hL hs) hw
    have ha := (List.getElem?_eq_some_iff.1 hs).1
    exact ⟨s.v.toNat, by omega, a, ha, s, hs, hw, by omega⟩
  | nest a e b B T s hs he hb hr ih1 ih2 =>
    obtain ⟨s2, hs2, ho2⟩ := he.opens
    rw [hs] at hs2; cases hs2
    exact ⟨⟨blk_stOk hL hs, by unfold opn at ho2; simpa using ho2⟩, ih1, ih2⟩
/-- The variables that a task may write. -/
def MayV (t : Tk) (k : Int) : Prop := ∃ v : Nat, k = v ∧ MayTo t.b t.b.length v
theorem mem_rb {P : List Tk} {Mem : List Int} (h : MemIs P Mem) (h0 : wC (Mem.getD 8 0) = 0) {tl : Nat} (htl : wN (Mem.getD 8 0) = tl) (D : List Int) (May : Int → Prop) : Rb D Mem May (wT (Mem.getD 8 0)) tl [] Mem := by
  have h8 : Mem[8]? = some (Mem.getD 8 0) := by
    rw [List.getD_eq_getElem?_getD]
    rw [List.getElem?_eq_getElem (show 8 < Mem.length by have := h.2.1; omega)]; rfl
  have hp := pack_parts h.2.2.1
  refine ⟨⟨List.nodup_nil, fun k hk => by cases hk⟩, h.2.1, ?_, fun i hi => absurd hi (by simp), fun _ _ _ _ => rfl, fun v hv => ?_, fun _ _ => rfl⟩
  · rw [h8, ← htl]
    rw [packV_yes (show ctlOk (wT (Mem.getD 8 0)) ((([] : List Int).length : Nat) : Int) (wN (Mem.getD 8 0)) = true by have := h.2.2.1; unfold wOk at this; rw [h0] at this; exact this)]
    congr 1
    simp only [List.length_nil, Int.natCast_zero] at hp ⊢
    omega
  · have hl : v < Mem.length := by have := h.2.1; omega
    refine ⟨Mem[v], List.getElem?_eq_getElem hl, ?_⟩
    exact List.all_eq_true.1 h.2.2.2.2.1 _ (List.mem_iff_getElem?.2 ⟨v, by rw [List.getElem?_take_of_lt hv]; exact List.getElem?_eq_getElem hl⟩)
/-- Wherever a trace is interrupted ahead of its last write, the execution can be undone. -/
theorem trace_und {P : List Tk} {Mem R U : List Int} {z : Int} {M : List Mic} (h : TraceIs P Mem R z true M U) {tl : Nat} (htl : wN (Mem.getD 8 0) = tl) :
    ∃ t T, TaskAt P (Mem.take 8) R (wT (Mem.getD 8 0)) t T ∧ 0 < (wrs M).length ∧ ∀ n, n < (wrs M).length → Und (lst (logF t) 8) Mem (MayV t) (wT (Mem.getD 8 0)) tl (putAll Mem ((wrs M).take n)) := by
  rcases h with ⟨e, _⟩ | ⟨_, hok, t, T, hT, rfl, rfl⟩
  · cases e
  obtain ⟨hb, hp⟩ := task_par hT
  obtain ⟨y, hy⟩ : ∃ y, trRun Mem R z t T = y := ⟨_, rfl⟩
  have hinv : RInv (lst (logF t) 8) Mem (MayV t) (wT (Mem.getD 8 0)) tl y := by
    rw [← hy]
    unfold trRun
    rw [htl]
    have hr := mem_rb hok.1 hok.2.1 htl (lst (logF t) 8) (MayV t)
    refine texec_rinv (liveSrc_val R z) (lst_vrs _) T (par_may hb hp) _ ⟨⟨⟨List.nodup_nil, fun k hk => by cases hk⟩, hok.1.2.1, rfl, fun j => (boxAt_nil _ _ _).symm⟩, ⟨mem_vars hok.1, ⟨fun q (hq : q ∈ ([] : List Int)) => (List.not_mem_nil hq).elim, fun q (hq : q ∈ ([] : List Int)) => (List.not_mem_nil hq).elim⟩⟩, hr, pre_nil ⟨_, hr⟩⟩
  rw [hy]
  have ew : ∃ c, wrs (y.M ++ endM P t (wN (Mem.getD 8 0)) y) = wrs y.M ++ [⟨8, c⟩] := ⟨packV (nx (evalV y.x.V t.o t.x t.y) P.length) 0 (min 24 (wN (Mem.getD 8 0) + y.x.S.length)), by rw [wrs_app]; rfl⟩
  obtain ⟨c, ew⟩ := ew
  refine ⟨t, T, hT, by rw [ew]; simp, fun n hn => ?_⟩
  rw [ew] at hn ⊢
  rw [List.length_append, List.length_singleton] at hn
  rw [List.take_append_of_le_length (by omega)]
  exact hinv.2.2.2 n
section
variable {D Mem W : List Int} {May : Int → Prop} {tk : Int} {tl : Nat} {P : List Tk}
/-- What the recovery makes of an interrupted execution. -/
theorem und_rec (hD : Vrs D) (hm : MemIs P Mem) (ht : 0 ≤ tk ∧ tk ≤ 5) (hl : tl ≤ 24) (h : Und D Mem May tk tl W) {Q : List Wt} (hQ : RecIs W Q) :
    (putAll W Q).length = 49 ∧ (putAll W Q)[8]? = some (packV tk 0 tl) ∧ (∀ v : Nat, v < 8 → ((v : Int) ∈ D ∨ ¬ May v) → (putAll W Q)[v]? = Mem[v]?) ∧ (∀ j : Nat, j < tl → (putAll W Q)[25 + j]? = Mem[25 + j]?) := by
  obtain ⟨L, a, b, c, d, e, f, g⟩ := h
  have hL8 := a.le hD
  have hco : ctlOk tk ((L.length : Nat) : Int) tl = true := (ctlOk_iff _ _ _).2 (by omega)
  have hpp := parts_pack hco
  have h8 : W.getD 8 0 = packV tk (L.length : Nat) tl := by rw [List.getD_eq_getElem?_getD, c]; rfl
  have hwok : wOk (W.getD 8 0) = true := by rw [h8]; unfold wOk; rw [hpp.1, hpp.2.1, hpp.2.2]; exact hco
  have hent : ∀ i, i < L.length → varOk (W.getD (9 + 2 * i) 0) = true := fun i hi => by
    obtain ⟨k, k1, k2, _⟩ := d i hi
    have hk := hD k (a.2 k (List.mem_of_getElem? k1))
    rw [List.getD_eq_getElem?_getD, k2]
    show varOk k = true
    simp [varOk]; omega
  have hC : (wC (W.getD 8 0)).toNat = L.length := by rw [h8, hpp.2.1]; omega
  by_cases h0 : L.length = 0
  · obtain rfl : L = [] := List.eq_nil_of_length_eq_zero h0
    have hn : ¬ RecOk W := fun hr => by have := hr.2.2.1; rw [h8, hpp.2.1] at this; simp at this
    obtain rfl : Q = [] := by
      rcases hQ with ⟨h1, _⟩ | ⟨_, h1⟩
      · exact absurd h1 hn
      · exact h1
    rw [putAll_nil]
    exact ⟨b, c, fun v hv h9 => e v hv (by simp) h9, g⟩
  · have hr : RecOk W := ⟨b, hwok, by rw [h8, hpp.2.1]; omega, fun i hi => hent i (by rw [hC] at hi; exact hi)⟩
    obtain rfl : Q = recEnt W L.length ++ [⟨8, packV tk 0 tl⟩] := by
      rcases hQ with ⟨_, h1⟩ | ⟨h1, _⟩
      · rw [h1, hC, h8, hpp.1, hpp.2.2]
      · exact absurd hr h1
    have hK : ∀ x ∈ recEnt W L.length, ∃ v : Nat, v < 8 ∧ x.p = v ∧ Mem[v]? = some x.v := fun x hx => by
      obtain ⟨i, hi, rfl⟩ := List.mem_map.1 hx
      rw [List.mem_reverse, List.mem_range] at hi
      obtain ⟨k, k1, k2, k3⟩ := d i hi
      have hk := hD k (a.2 k (List.mem_of_getElem? k1))
      refine ⟨k.toNat, by omega, ?_, ?_⟩
      · show W.getD (9 + 2 * i) 0 = _
        rw [List.getD_eq_getElem?_getD, k2]; show k = _; omega
      · show _ = some (W.getD (10 + 2 * i) 0)
        have hlt : k.toNat < Mem.length := by have := hm.2.1; omega
        rw [List.getD_eq_getElem?_getD, k3, List.getElem?_eq_getElem hlt]; rfl
    obtain ⟨p1, p2, p3⟩ := put_back Mem (recEnt W L.length) W b hK
    rw [putAll_app, putAll_cons, putAll_nil]
    have o : ∀ j : Nat, j ≠ 8 → (put1 (putAll W (recEnt W L.length)) ⟨8, packV tk 0 tl⟩)[j]? = (putAll W (recEnt W L.length))[j]? := fun j hj => put1_other (by show (8 : Int) ≠ (j : Int); omega)
    refine ⟨by rw [put1_len, p1], by rw [put1_in (k := 8) rfl (by omega), List.getElem?_set_self (by omega)], fun v hv h9 => ?_, fun j hj => by rw [o _ (by omega), p2 _ (by omega)]; exact g j hj⟩
    rw [o v (by omega)]
    rcases p3 v with h1 | ⟨h1, h2⟩
    · exact h1
    · rw [h1]
      refine e v hv (fun hin => ?_) h9
      obtain ⟨i, hi, hiv⟩ := List.mem_iff_getElem.1 hin
      obtain ⟨k, k1, k2, _⟩ := d i hi
      have hkv : k = (v : Int) := by rw [List.getElem?_eq_getElem hi] at k1; cases k1; exact hiv
      refine h2 ⟨W.getD (9 + 2 * i) 0, W.getD (10 + 2 * i) 0⟩ (List.mem_map.2 ⟨i, by rw [List.mem_reverse, List.mem_range]; exact hi, rfl⟩) ?_
      show W.getD (9 + 2 * i) 0 = _
      rw [List.getD_eq_getElem?_getD, k2]; exact hkv
/-- An interrupted memory is still a memory of the program. -/
theorem und_mem (hD : Vrs D) (hm : MemIs P Mem) (htk : wT (Mem.getD 8 0) = tk) (htl : wN (Mem.getD 8 0) = tl) (h : Und D Mem May tk tl W) : MemIs P W := by
  obtain ⟨L, a, b, c, d, e, f, g⟩ := h
  have hL8 := a.le hD
  have hc0 := mem_ctl hm
  have hc1 := (ctlOk_iff _ _ _).1 hm.2.2.1
  have hco : ctlOk tk ((L.length : Nat) : Int) tl = true := (ctlOk_iff _ _ _).2 (by omega)
  have hpp := parts_pack hco
  have h8 : W.getD 8 0 = packV tk (L.length : Nat) tl := by rw [List.getD_eq_getElem?_getD, c]; rfl
  have hMv : ∀ v : Nat, v < 8 → ∃ q, Mem[v]? = some q ∧ isVal q = true := fun v hv => by
    have hl : v < Mem.length := by have := hm.2.1; omega
    exact ⟨Mem[v], List.getElem?_eq_getElem hl, List.all_eq_true.1 hm.2.2.2.2.1 _ (List.mem_iff_getElem?.2 ⟨v, by rw [List.getElem?_take_of_lt hv]; exact List.getElem?_eq_getElem hl⟩)⟩
  refine ⟨hm.1, b, by rw [h8]; unfold wOk; rw [hpp.1, hpp.2.1, hpp.2.2]; exact hco, by rw [h8, hpp.1]; omega, ?_, ?_, ?_⟩
  · rw [List.all_eq_true]
    intro x hx
    obtain ⟨v, hv⟩ := List.mem_iff_getElem?.1 hx
    have hv8 : v < 8 := by have := (List.getElem?_eq_some_iff.1 hv).1; rw [List.length_take] at this; omega
    rw [List.getElem?_take_of_lt hv8] at hv
    obtain ⟨q, q1, q2⟩ := f v hv8
    rw [hv] at q1; cases q1; exact q2
  · rw [h8, hpp.2.2, show ((tl : Int)).toNat = tl by omega]
    have hbox := hm.2.2.2.2.2.1
    rw [htl, show ((tl : Int)).toNat = tl by omega] at hbox
    rw [List.all_eq_true] at hbox ⊢
    intro x hx
    obtain ⟨j, hj⟩ := List.mem_iff_getElem?.1 hx
    have hjl : j < tl := by have := (List.getElem?_eq_some_iff.1 hj).1; rw [List.length_take] at this; omega
    rw [List.getElem?_take_of_lt hjl, List.getElem?_drop, g j hjl] at hj
    exact hbox x (List.mem_iff_getElem?.2 ⟨j, by rw [List.getElem?_take_of_lt hjl, List.getElem?_drop]; exact hj⟩)
  · rw [h8, hpp.2.1, show (((L.length : Nat) : Int)).toNat = L.length by omega]
    intro i hi
    obtain ⟨k, k1, k2, k3⟩ := d i hi
    have hk := hD k (a.2 k (List.mem_of_getElem? k1))
    obtain ⟨q, q1, q2⟩ := hMv k.toNat (by omega)
    refine ⟨?_, ?_⟩
    · rw [List.getD_eq_getElem?_getD, k2]; show varOk k = true; simp [varOk]; omega
    · rw [List.getD_eq_getElem?_getD, k3, q1]; exact q2
end
end Go.Proofs.YtmgeecdgebemdaaGreatDoor.rcv

/- Chapter 15, plain mathematics: what DirtyVars must give. -/
namespace Go.Proofs.YtmgeecdgebemdaaGreatDoor.rcv
open Go Go.ChangeShapes Go.WideShapes Go.ChangeAt Go.RowKit Go.Proofs.YtmgeecdgebemdaaGreatDoor.row Go.Proofs.YtmgeecdgebemdaaGreatDoor.stm Go.Proofs.YtmgeecdgebemdaaGreatDoor.blk Go.Proofs.YtmgeecdgebemdaaGreatDoor.expr Go.Proofs.YtmgeecdgebemdaaGreatDoor.sets Go.Proofs.YtmgeecdgebemdaaGreatDoor.val Go.Proofs.YtmgeecdgebemdaaGreatDoor.prg Go.Proofs.YtmgeecdgebemdaaGreatDoor.ctl Go.Proofs.YtmgeecdgebemdaaGreatDoor.mem
/-- Written by the current task, and not logged. -/
def DirtyP (P : List Tk) (V : List Int) (v : Nat) : Prop := MemIs P V ∧ ∃ t, P[(wT (V.getD 8 0)).toNat]? = some t ∧ MayTo t.b t.b.length v ∧ ¬ LogP t v
def DirtyIs (P : List Tk) (V U : List Int) : Prop := ∃ f, Is f (DirtyP P V) ∧ lst f 8 = U
theorem dirtyIs_ex (P : List Tk) (V : List Int) : ∃ U, DirtyIs P V U := by
  obtain ⟨f, hf⟩ := is_ex (DirtyP P V)
  exact ⟨_, f, hf, rfl⟩
theorem DirtyIs.size {P : List Tk} {V U : List Int} (h : DirtyIs P V U) : U.length ≤ 8 := by
  obtain ⟨f, _, rfl⟩ := h
  exact lst_len f 8
theorem dirty_none {P : List Tk} {V : List Int} (h : ¬ MemIs P V) {f : Nat → Bool} (hf : Is f (DirtyP P V)) : lst f 8 = [] := by
  rw [lst_congr (g := fun _ => false) (fun v hv => by rw [← Bool.not_eq_true]; exact fun e => h ((hf v hv).1 e).1)]
  exact lst_nil (fun _ => rfl) 8
theorem dirty_list {P : List Tk} {V : List Int} {t : Tk} (h : MemIs P V) (ht : P[(wT (V.getD 8 0)).toNat]? = some t) {f fm fl : Nat → Bool} (hf : Is f (DirtyP P V)) (hm : Is fm (fun v => IsBlk t.b ∧ MayTo t.b t.b.length v)) (hl : Is fl (LogP t)) :
    (lst fm 8).filter (fun x => !decide (x ∈ lst fl 8)) = lst f 8 := by
  refine lst_filter 8 fun v hv => ?_
  have hb : IsBlk t.b := (h.1.2.2 t (List.mem_of_getElem? ht)).1
  rw [Bool.eq_iff_iff, hf v hv, Bool.and_eq_true, hm v hv, Bool.not_eq_true', decide_eq_false_iff_not, lst_mem, hl v hv]
  unfold DirtyP
  constructor
  · rintro ⟨_, t', ht', h1, h2⟩
    rw [ht] at ht'; cases ht'
    exact ⟨⟨hb, h1⟩, fun h3 => h2 h3.2⟩
  · rintro ⟨⟨_, h1⟩, h2⟩
    exact ⟨h, t, ht, h1, fun h3 => h2 ⟨hv, h3⟩⟩
abbrev DvC : Prop := ∀ (a : Option Addr) (n cap : Nat) (P : List Tk) (_ : Sizes P) (_ : n ≤ cap) (w : World) (_ : TkRow w a n P) (ad : Option Addr) (nv cv : Nat) (V : List Int) (_ : (nv : Int) ≤ 1048576) (_ : nv ≤ cv) (_ : Row w ad nv V) (_ : -9223372036854775808 ≤ V.getD 8 0 ∧ V.getD 8 0 ≤ 9223372036854775807) (U : List Int) (_ : DirtyIs P V U),
    Calls Tryz.prog 46 #[.agg #[.slice a n cap], .slice ad nv cv] w (NewInts w U)
end Go.Proofs.YtmgeecdgebemdaaGreatDoor.rcv

/- Chapter 15, plain mathematics: all that FnRollback asks of an execution that was interrupted and recovered. -/
namespace Go.Proofs.YtmgeecdgebemdaaGreatDoor.rcv
open Go Go.Proofs.YtmgeecdgebemdaaGreatDoor.stm Go.Proofs.YtmgeecdgebemdaaGreatDoor.blk Go.Proofs.YtmgeecdgebemdaaGreatDoor.expr Go.Proofs.YtmgeecdgebemdaaGreatDoor.sets Go.Proofs.YtmgeecdgebemdaaGreatDoor.val Go.Proofs.YtmgeecdgebemdaaGreatDoor.prg Go.Proofs.YtmgeecdgebemdaaGreatDoor.exe Go.Proofs.YtmgeecdgebemdaaGreatDoor.wrt Go.Proofs.YtmgeecdgebemdaaGreatDoor.ctl Go.Proofs.YtmgeecdgebemdaaGreatDoor.mem Go.Proofs.YtmgeecdgebemdaaGreatDoor.trc
theorem rollback {P : List Tk} {Mem R U : List Int} {z : Int} {M : List Mic} (hT : TraceIs P Mem R z true M U) {n : Nat} (hn : n < (wrs M).length) {Q : List Wt} (hQ : RecIs (putAll Mem ((wrs M).take n)) Q) {F : List Int} (hF : DirtyIs P Mem F) :
    (putAll (putAll Mem ((wrs M).take n)) Q).length = 49 ∧ (∀ k : Nat, k < 8 → ¬ (k : Int) ∈ F → (putAll (putAll Mem ((wrs M).take n)) Q)[k]? = Mem[k]?) ∧ cleanB (putAll (putAll Mem ((wrs M).take n)) Q) = true ∧
      (putAll (putAll Mem ((wrs M).take n)) Q)[8]? = Mem[8]? ∧ sentV (putAll (putAll Mem ((wrs M).take n)) Q) = sentV Mem ∧ MemIs P (putAll Mem ((wrs M).take n)) := by
  obtain ⟨hok, h0⟩ : MemIs P Mem ∧ wC (Mem.getD 8 0) = 0 := by
    rcases hT with ⟨e, _⟩ | ⟨_, h, _⟩
    · cases e
    · exact ⟨h.1, h.2.1⟩
  have hc := mem_ctl hok
  have hct := (ctlOk_iff _ _ _).1 hok.2.2.1
  obtain ⟨tl, htl⟩ : ∃ tl : Nat, wN (Mem.getD 8 0) = tl := ⟨(wN (Mem.getD 8 0)).toNat, by omega⟩
  obtain ⟨t, T, hTA, _, hU⟩ := trace_und hT htl
  have hu := hU n hn
  have hPt : P[(wT (Mem.getD 8 0)).toNat]? = some t := by
    obtain ⟨_, _, _, j, hj, hPj, _⟩ := hTA
    first
      | (rw [hj]; exact hPj)
      | (rw [hPj]; exact hj)
  obtain ⟨r1, r2, r3, r4⟩ := und_rec (lst_vrs _) hok (by omega) (by omega) hu hQ
  have h8M : Mem[8]? = some (Mem.getD 8 0) := by
    rw [List.getD_eq_getElem?_getD, List.getElem?_eq_getElem (show 8 < Mem.length by have := hok.2.1; omega)]; rfl
  have hpk : packV (wT (Mem.getD 8 0)) 0 tl = Mem.getD 8 0 := by
    rw [← htl, packV_yes (show ctlOk (wT (Mem.getD 8 0)) 0 (wN (Mem.getD 8 0)) = true by have := hok.2.2.1; unfold wOk at this; rw [h0] at this; exact this)]
    have h9 := (pack_parts hok.2.2.1).1
    rw [h0] at h9
    exact h9
  have h8 : (putAll (putAll Mem ((wrs M).take n)) Q).getD 8 0 = Mem.getD 8 0 := by rw [List.getD_eq_getElem?_getD, r2, hpk]; rfl
  refine ⟨r1, fun k hk hkF => r3 k hk ?_, ?_, by rw [r2, hpk, h8M], ?_, und_mem (lst_vrs _) hok rfl htl hu⟩
  · obtain ⟨f, hf, rfl⟩ := hF
    by_cases hd : (k : Int) ∈ lst (logF t) 8
    · exact .inl hd
    · right
      rintro ⟨v, hv, hm⟩
      obtain rfl : k = v := by omega
      refine hkF (lst_mem.2 ⟨hk, (hf k hk).2 ⟨hok, t, hPt, hm, fun hl => hd (lst_mem.2 ⟨hk, ((logF_is t) k hk).2 hl⟩)⟩⟩)
  · unfold cleanB
    rw [r1, h8, hok.2.2.1, h0]
    rfl
  · unfold sentV
    rw [h8, hok.2.2.1, if_pos rfl, if_pos rfl, htl, show ((tl : Int)).toNat = tl by omega]
    refine List.ext_getElem? fun j => ?_
    by_cases hj : j < tl
    · rw [List.getElem?_take_of_lt hj, List.getElem?_take_of_lt hj, List.getElem?_drop, List.getElem?_drop, r4 j hj]
    · rw [List.getElem?_eq_none (by rw [List.length_take]; omega), List.getElem?_eq_none (by rw [List.length_take]; omega)]
end Go.Proofs.YtmgeecdgebemdaaGreatDoor.rcv

/- Chapter 10 of the model: ApplyWrites; a new row; nothing that was there is written. -/
namespace Go.Proofs.YtmgeecdgebemdaaGreatDoor.wrt
open Go Go.ChangeShapes Go.WideShapes Go.ChangeAt Go.RowKit Go.Proofs.YtmgeecdgebemdaaGreatDoor.row Go.Proofs.YtmgeecdgebemdaaGreatDoor.val Go.Proofs.YtmgeecdgebemdaaGreatDoor.expr Go.Proofs.YtmgeecdgebemdaaGreatDoor.grow

theorem kept2 {w w' : World} {b o : Nat} {x y : Value} (hb : Below w.heap.size w w') (hg : b < w.heap.size) (h : w.cell? ⟨b, o, none⟩ = some x ∧ w.cell? ⟨b, o + 1, none⟩ = some y) : w'.cell? ⟨b, o, none⟩ = some x ∧ w'.cell? ⟨b, o + 1, none⟩ = some y :=
  ⟨(hb.cell (p := ⟨b, o, none⟩) hg).trans h.1, (hb.cell (p := ⟨b, o + 1, none⟩) hg).trans h.2⟩
set_option maxHeartbeats 2000000 in
set_option maxRecDepth 100000 in
theorem spec_apply (w : World) (b off n cap : Nat) (M : List Int) (lb : Option Addr) (k kc : Nat) (L : List Wt) (c : Int) (hn : (n : Int) ≤ 1048576) (hk : (k : Int) ≤ 1048576) (hM : Row w (some ⟨b, off, none⟩) n M) (hL : WriteRow w lb k L) :
    Calls Tryz.prog 124 #[.slice (some ⟨b, off, none⟩) n cap, .slice lb k kc, .int .i64 c] w (NewInts w (appW M L c)) := by
  obtain ⟨i0, hi, hz0, hz1, hz2⟩ := info_parts infoInt
  have hml := hM.1
  have HL1 := Lib.hid (show (ivs M).length = n * 1 by rw [ivs_length, hml]; omega)
  have HN := Lib.hid (show ∀ j u, (ivs M)[j]? = some u → (w.alloc (.cells #[] 3)).cell? ((⟨b, off, none⟩ : Addr).add j) = some u from fun j u hj => by rw [Addr.add_mid]; exact row_range (hM.below (below_new _ _)) j u hj)
  have H1 := Lib.hid (ivs_one M)
  have HL := Lib.hid hL
  obtain ⟨q, hq⟩ : ∃ q, cntW c k = q := ⟨_, rfl⟩
  have HQ := Lib.hid (show L.take q = L.take c.toNat by rw [← hq, ← hL.1]; exact take_cnt L c)
  have HI := Lib.hid (show q ≤ k ∧ (∀ j : Nat, j < q → (j : Int) < c) ∧ (∀ j : Nat, j ≤ q → ¬ j < q → j < k → ¬ (j : Int) < c) by unfold cntW at hq; refine ⟨by omega, fun j hj => by omega, fun j h1 h2 h3 => by omega⟩)
  clear hM hL hq
  go_enter Tryz.func124, Tryz.ntmps124
  go_wp2_with (at_builtin; refine wpList_append_own _ rfl _ _ 27 rfl w.heap.size 3 i0 (.int .i64 0) 1 8 Tryz.underlying27 hi hz0 hz1 hz2 rfl (by decide) _ _ _ rfl (made_at _ w.heap.size w.heap.size rfl (Nat.le_refl _) _) ⟨b, off, none⟩ n cap (ivs M) rfl HL1.out HN.out H1.out (by unfold maxLen; omega) (by omega) (by simp) ?_; intro v' w1 hown hgrow _; refine Hid.out ?_)
  have hb := (below_new w (.cells #[] 3)).grown hgrow (by simp) (fun k hk => by cases hk; exact Nat.le_refl _)
  rw [Nat.zero_add, List.nil_append] at hown
  obtain ⟨ad, cc, rfl⟩ := own_slice hown
  have HF := Lib.hid (And.intro hown hb)
  clear hown hgrow hb
  refine Lib.hid ?_
  go_wp2
  go_loopw [8] (fun i wr => ∃ j : Nat, j ≤ q ∧ i = .int .i64 j ∧ wr.ownsRow w.heap.size 3 1 (.slice ad n cc) n (ivs (putAll M (L.take j))) ∧ Below w.heap.size w wr) (fun i _ => q - (intOf i).toNat)
  case atStart => exact ⟨0, Nat.zero_le _, rfl, HF.out.1, HF.out.2⟩
  case round =>
    obtain ⟨j, hj, rfl, hown, hbel⟩ := hrel
    by_cases hlt : j < q
    · have hI1 : (j : Int) < k := by have := HI.out.1; omega
      have hI2 : (j : Int) < c := HI.out.2.1 j hlt
      obtain ⟨b0, off0, s, rfl, hlb, hs, hr0⟩ := HL.out.2 j (by omega)
      have hr := range_below hr0 hlb hbel
      have HS := Lib.hid (putAll_snoc (M := M) hs)
      obtain ⟨p, v⟩ := s
      have r0 : wr.drew.cell? ⟨b0, off0 + j * 2, none⟩ = some (.int .i64 p) ∧ wr.drew.cell? ⟨b0, off0 + j * 2 + 1, none⟩ = some (.int .i64 v) := range2 hr
      have c0 : wr.cell? ⟨b0, off0 + j * 2, none⟩ = some (.int .i64 p) := r0.1
      have hpl : (putAll M (L.take j)).length = n := by rw [putAll_len]; exact hml
      have HR := Lib.hid (And.intro hown hbel)
      clear hr hr0 hown hbel hs
      by_cases hin : 0 ≤ p ∧ p < n
      · obtain ⟨m, rfl⟩ : ∃ m : Nat, p = m := ⟨p.toNat, by omega⟩
        have hmn : m < n := by omega
        have HD := Lib.hid (word_in (p := (m : Int)) rfl hmn)
        have HP := Lib.hid (put1_in (M := putAll M (L.take j)) (x := ⟨m, v⟩) rfl (by rw [hpl]; exact hmn))
        obtain ⟨g, X, rfl, hg1, hg2, hX, hfz⟩ := own_store HR.out.1 hmn
        have hX2 : wr.drew.cell? ⟨g, m, none⟩ = some (.int .i64 X) := hX
        have hfz2 : wr.drew.frozen? ⟨g, m, none⟩ = false := hfz
        have hmI : (m : Int) < n := by omega
        have hne : some b0 ≠ some g := fun e => by have := Option.some.inj e; omega
        have r1 : ∀ u : Value, (wr.setCell ⟨g, m, none⟩ u).drew.cell? ⟨b0, off0 + j * 2, none⟩ = some (.int .i64 m) ∧ (wr.setCell ⟨g, m, none⟩ u).drew.cell? ⟨b0, off0 + j * 2 + 1, none⟩ = some (.int .i64 v) := fun u => ⟨(grown_setCell wr g m u).cell r0.1 hne, (grown_setCell wr g m u).cell r0.2 hne⟩
        clear hin hpl
        go_wp2_with (go_at_call 63; refine (in_any _ _ _ true HD.out _).mono ?_; rintro e w2 ⟨rfl, rfl⟩)
        go_region_held3 (fun w' => w'.cell? ⟨b0, off0 + j * 2, none⟩ = some (.int .i64 m) ∧ w'.cell? ⟨b0, off0 + j * 2 + 1, none⟩ = some (.int .i64 v)) (first | (exact r0) | (exact r1 _)) (fail)
        go_wp2
        go_roundw
        case rel => exact ⟨j + 1, by omega, by go_num, by rw [HS.out, HP.out]; exact stored_put HR.out.1, Below.drew (HR.out.2.grown (grown_setCell _ g m _) HR.out.2.size (fun j hj => by cases hj; exact hg1))⟩
        case measure => simp [intOf]; omega
      · have HD := Lib.hid (word_out (p := p) (n := n) hin)
        have HP := Lib.hid (put1_out (M := putAll M (L.take j)) (x := ⟨p, v⟩) (by rw [hpl]; exact hin))
        clear hin hpl
        go_wp2_with (go_at_call 63; refine (in_any _ _ _ false HD.out _).mono ?_; rintro e w2 ⟨rfl, rfl⟩)
        go_roundw
        case rel => exact ⟨j + 1, by omega, by go_num, by rw [HS.out, HP.out]; exact HR.out.1, HR.out.2⟩
        case measure => simp [intOf]; omega
    · have HB := Lib.hid (And.intro hown hbel)
      clear hown hbel
      obtain rfl : j = q := by omega
      have HFIN := Lib.hid (show NewInts w (appW M L c) (.returned (.slice ad n cc)) wr from ⟨_, _, _, rfl, by show wr.ownsRow _ _ _ _ _ (ivs (putAll M (L.take c.toNat))); rw [← HQ.out]; exact HB.out.1, HB.out.2⟩)
      by_cases hjk : (j : Int) < k
      · have hI : ¬ (j : Int) < c := by have := HI.out.2.2 j (Nat.le_refl _) (by omega) (by omega); omega
        go_wp2
        go_ret
        exact HFIN.out
      · go_wp2
        go_ret
        exact HFIN.out
end Go.Proofs.YtmgeecdgebemdaaGreatDoor.wrt
