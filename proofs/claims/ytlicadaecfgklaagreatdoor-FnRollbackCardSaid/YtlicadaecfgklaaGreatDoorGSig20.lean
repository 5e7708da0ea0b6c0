/- Several texts in one: TrcB GRow Open MicR WtR TrcV. -/
import Derived.Test.YtlicadaecfgklaaGreatDoorGSig14
import Derived.Test.YtlicadaecfgklaaGreatDoorGSig17
import Derived.Test.YtlicadaecfgklaaGreatDoorGSig19
import Derived.Test.YtlicadaecfgklaaGreatDoorGSig3
import Derived.Test.YtlicadaecfgklaaGreatDoorRows
import Derived.WalkKit
import Derived.ProofKit
import Derived.OpenShut
import Derived.Lib.SmallJoins
import Derived.Test.YtlicadaecfgklaaGreatDoorGSig13
import Derived.Test.YtlicadaecfgklaaGreatDoorGSig0
import Derived.Deep.Slices
import Derived.Deep.RegionHeld3

/- Chapter 14, plain mathematics: what TraceOf must give; all writes of a trace together do what the task means. -/
namespace Go.Proofs.YtlicadaecfgklaaGreatDoor.trc
open Go Go.Proofs.YtlicadaecfgklaaGreatDoor.stm Go.Proofs.YtlicadaecfgklaaGreatDoor.blk Go.Proofs.YtlicadaecfgklaaGreatDoor.expr Go.Proofs.YtlicadaecfgklaaGreatDoor.sets Go.Proofs.YtlicadaecfgklaaGreatDoor.val Go.Proofs.YtlicadaecfgklaaGreatDoor.prg Go.Proofs.YtlicadaecfgklaaGreatDoor.exe Go.Proofs.YtlicadaecfgklaaGreatDoor.wrt Go.Proofs.YtlicadaecfgklaaGreatDoor.ctl Go.Proofs.YtlicadaecfgklaaGreatDoor.mem

/-- The arguments of TraceOf are valid. -/
def TrOk (P : List Tk) (Mem R : List Int) (z : Int) : Prop := MemIs P Mem ∧ wC (Mem.getD 8 0) = 0 ∧ (0 ≤ z ∧ z ≤ 1000000) ∧ allV R = true
/-- The execution of the current task with its steps. -/
noncomputable def trRun (Mem R : List Int) (z : Int) (t : Tk) (T : Fst) : Tx := texec (liveSrc R z) (lst (logF t) 8) (wT (Mem.getD 8 0)) (wN (Mem.getD 8 0)) T ⟨⟨Mem.take 8, [], []⟩, [], []⟩
/-- The last step. -/
def endM (P : List Tk) (t : Tk) (tl : Int) (y : Tx) : List Mic := [⟨1, -1, 0⟩, wrM 8 (packV (nx (evalV y.x.V t.o t.x t.y) P.length) 0 (min 24 (tl + y.x.S.length)))]
/-- What TraceOf must give. -/
def TraceIs (P : List Tk) (Mem R : List Int) (z : Int) (r : Bool) (M : List Mic) (U : List Int) : Prop :=
  (r = false ∧ M = [] ∧ U = [] ∧ ¬ TrOk P Mem R z) ∨
    (r = true ∧ TrOk P Mem R z ∧ ∃ t T, TaskAt P (Mem.take 8) R (wT (Mem.getD 8 0)) t T ∧ M = (trRun Mem R z t T).M ++ endM P t (wN (Mem.getD 8 0)) (trRun Mem R z t T) ∧ U = (trRun Mem R z t T).x.U)
theorem mem_vars {P : List Tk} {Mem : List Int} (h : MemIs P Mem) : varsOk (Mem.take 8) = true := (varsOk_iff _).2 ⟨by rw [List.length_take, h.2.1]; rfl, fun x hx => List.all_eq_true.1 h.2.2.2.2.1 x hx⟩
theorem mem_ctl {P : List Tk} {Mem : List Int} (h : MemIs P Mem) : 0 ≤ wT (Mem.getD 8 0) ∧ wT (Mem.getD 8 0) < P.length ∧ 0 ≤ wC (Mem.getD 8 0) ∧ wC (Mem.getD 8 0) ≤ 8 ∧ 0 ≤ wN (Mem.getD 8 0) ∧ wN (Mem.getD 8 0) ≤ 24 := by
  have h1 := (ctlOk_iff _ _ _).1 h.2.2.1
  have h2 := h.2.2.2.1
  omega
theorem trOk_task {P : List Tk} {Mem R : List Int} {z : Int} (h : TrOk P Mem R z) : ∃ t T, TaskAt P (Mem.take 8) R (wT (Mem.getD 8 0)) t T := by
  have hc := mem_ctl h.1
  obtain ⟨j, hj⟩ : ∃ j : Nat, wT (Mem.getD 8 0) = j := ⟨(wT (Mem.getD 8 0)).toNat, by omega⟩
  rw [hj]
  obtain ⟨t, T, _, hT⟩ := taskAt_ex (j := j) h.1.1 (mem_vars h.1) h.2.2.2 (by omega)
  exact ⟨t, T, hT⟩
theorem trOk_dec (P : List Tk) (Mem R : List Int) (z : Int) : ∃ r : Bool, r = true ↔ TrOk P Mem R z := by
  rcases Classical.em (TrOk P Mem R z) with h | h
  · exact ⟨true, by simp [h]⟩
  · exact ⟨false, by simp [h]⟩
theorem traceIs_ex (P : List Tk) (Mem R : List Int) (z : Int) : ∃ r M U, TraceIs P Mem R z r M U := by
  rcases Classical.em (TrOk P Mem R z) with h | h
  · obtain ⟨t, T, hT⟩ := trOk_task h
    exact ⟨true, _, _, .inr ⟨rfl, h, t, T, hT, rfl, rfl⟩⟩
  · exact ⟨false, [], [], .inl ⟨rfl, rfl, rfl, h⟩⟩
theorem task_par {P : List Tk} {V Y : List Int} {i : Int} {t : Tk} {T : Fst} (h : TaskAt P V Y i t T) : IsBlk t.b ∧ Par t.b 0 t.b.length T := by
  have hb := h.blk.1
  obtain ⟨_, _, _, j, _, _, hp⟩ := h
  exact ⟨hb, hp⟩
theorem trRun_x (Mem R : List Int) (z : Int) (t : Tk) (T : Fst) : (trRun Mem R z t T).x = exec (liveSrc R z) T ⟨Mem.take 8, [], []⟩ := texec_x T _
theorem trRun_len {P : List Tk} {V Y : List Int} {i : Int} {t : Tk} {T : Fst} (h : TaskAt P V Y i t T) (Mem R : List Int) (z : Int) : (trRun Mem R z t T).M.length ≤ 15000 := by
  obtain ⟨hb, hp⟩ := task_par h
  have h1 : ((trRun Mem R z t T).M.length : Int) ≤ ((0 : Nat) : Int) + cntS T := texec_len (liveSrc R z) (lst (logF t) 8) (wT (Mem.getD 8 0)) (wN (Mem.getD 8 0)) T ⟨⟨Mem.take 8, [], []⟩, [], []⟩
  have h2 := cntS_small hb hp
  omega
theorem TraceIs.size {P : List Tk} {Mem R : List Int} {z : Int} {r : Bool} {M : List Mic} {U : List Int} (h : TraceIs P Mem R z r M U) : M.length ≤ 15002 ∧ U.length ≤ 3000 := by
  rcases h with ⟨_, rfl, rfl, _⟩ | ⟨_, _, t, T, hT, rfl, rfl⟩
  · simp
  · have h1 := trRun_len hT Mem R z
    have h2 := hT.small (liveSrc R z)
    rw [trRun_x]
    refine ⟨by simp [endM]; omega, by omega⟩
/-- The steps cost something, and not much. -/
theorem TraceIs.cost {P : List Tk} {Mem R : List Int} {z : Int} {M : List Mic} {U : List Int} (h : TraceIs P Mem R z true M U) : CostOk M ∧ M ≠ [] := by
  rcases h with ⟨e, _⟩ | ⟨_, _, t, T, hT, rfl, _⟩
  · cases e
  · obtain ⟨hb, hp⟩ := task_par hT
    refine ⟨(texec_cost T (par_allS hb hp) _ nil_cost).app ?_, by simp [endM]⟩
    intro m hm
    rcases List.mem_cons.1 hm with rfl | hm
    · decide
    · rw [List.mem_singleton.1 hm]; simp [wrM]
theorem sent_at {Mem : List Int} {tl : Nat} {S : List Int} (hl : Mem.length = 49) (h24 : tl ≤ 24) {X : List Int} (hb : ∀ j, X[25 + j]? = boxAt Mem S tl j) {e : Nat} (he : e = min 24 (tl + S.length)) : (X.drop 25).take e = ((Mem.drop 25).take tl ++ S).take 24 := by
  refine List.ext_getElem? fun j => ?_
  have hlen : ((Mem.drop 25).take tl).length = tl := by rw [List.length_take, List.length_drop, hl]; omega
  by_cases hj : j < e
  · rw [List.getElem?_take_of_lt hj, List.getElem?_drop, hb j, List.getElem?_take_of_lt (by omega)]
    unfold boxAt
    by_cases hc : tl ≤ j
    · rw [if_pos ⟨hc, by omega, by omega⟩, List.getElem?_append_right (by omega), hlen]
    · rw [if_neg (by omega), List.getElem?_append_left (by omega), List.getElem?_take_of_lt (by omega), List.getElem?_drop]
  · rw [List.getElem?_eq_none (by rw [List.length_take]; omega), List.getElem?_eq_none (by rw [List.length_take, List.length_append, hlen]; omega)]
/-- All writes of a trace together do what the task means. -/
theorem trace_does {P : List Tk} {Mem R U : List Int} {z : Int} {M : List Mic} (h : TraceIs P Mem R z true M U) {r : Bool} {E : Eff} (hE : EffIs P (Mem.take 8) U (wT (Mem.getD 8 0)) r E) :
    r = true ∧ E.U = U.length ∧ (putAll Mem (wrs M)).length = 49 ∧ (putAll Mem (wrs M)).take 8 = E.V ∧
      (wOk ((putAll Mem (wrs M)).getD 8 0) = true ∧ wT ((putAll Mem (wrs M)).getD 8 0) = E.N ∧ wC ((putAll Mem (wrs M)).getD 8 0) = 0 ∧ wN ((putAll Mem (wrs M)).getD 8 0) = min 24 (wN (Mem.getD 8 0) + E.S.length)) ∧
      sentV (putAll Mem (wrs M)) = (sentV Mem ++ E.S).take 24 := by
  rcases h with ⟨e, _⟩ | ⟨_, hok, t, T, hT, rfl, rfl⟩
  · cases e
  obtain ⟨hb, hp⟩ := task_par hT
  have hc := mem_ctl hok.1
  obtain ⟨tl, htl⟩ : ∃ tl : Nat, wN (Mem.getD 8 0) = tl := ⟨(wN (Mem.getD 8 0)).toNat, by omega⟩
  obtain ⟨y, hy⟩ : ∃ y, trRun Mem R z t T = y := ⟨_, rfl⟩
  have hyx : y.x = exec (liveSrc R z) T ⟨Mem.take 8, [], []⟩ := by rw [← hy]; exact trRun_x ..
  have hg := hT.good (liveSrc_val R z)
  rw [← hyx] at hg
  have hT2 : TaskAt P (Mem.take 8) y.x.U (wT (Mem.getD 8 0)) t T := ⟨hT.1, hT.2.1, (allV_iff _).2 hg.2.2, hT.2.2.2⟩
  have hsrc : exec (listSrc y.x.U) T ⟨Mem.take 8, [], []⟩ = y.x := by
    rw [hyx]; exact exec_src T _ (List.prefix_refl _)
  rw [hy] at hE ⊢
  obtain ⟨rfl, rfl⟩ : r = true ∧ E = effOf P t y.x := by
    rcases hE with ⟨_, _, h⟩ | ⟨h1, t', T', h, h2⟩
    · exact (hT2.not h).elim
    · obtain ⟨rfl, rfl⟩ := hT2.unique h
      exact ⟨h1, by rw [h2, hsrc]⟩
  have hinv : MemInv (lst (logF t) 8) Mem tl y := by
    rw [← hy]
    unfold trRun
    rw [htl]
    refine texec_mem (lst_vrs _) T (par_allS hb hp) _ ⟨⟨List.nodup_nil, fun k hk => by cases hk⟩, hok.1.2.1, rfl, fun j => (boxAt_nil _ _ _).symm⟩
  obtain ⟨_, i2, i3, i4⟩ := hinv
  have hw : putAll Mem (wrs (y.M ++ endM P t (wN (Mem.getD 8 0)) y)) = put1 (putAll Mem (wrs y.M)) ⟨8, packV (nx (evalV y.x.V t.o t.x t.y) P.length) 0 (min 24 (wN (Mem.getD 8 0) + y.x.S.length))⟩ := by
    rw [wrs_app, putAll_app]
    rfl
  rw [hw]
  obtain ⟨c, hcv⟩ : ∃ c, packV (nx (evalV y.x.V t.o t.x t.y) P.length) 0 (min 24 (wN (Mem.getD 8 0) + y.x.S.length)) = c := ⟨_, rfl⟩
  rw [hcv]
  have hm := put_mid i2 (p := 8) (v := c) (by omega) (by omega)
  have hP := hT.1.1
  have hP6 := hT.1.2.1
  have hnx := nx_range (v := evalV y.x.V t.o t.x t.y) (n := P.length) (by omega)
  have hco : ctlOk (nx (evalV y.x.V t.o t.x t.y) P.length) 0 (min 24 (wN (Mem.getD 8 0) + y.x.S.length)) = true := (ctlOk_iff _ _ _).2 (by omega)
  have hpp := parts_pack hco
  rw [hcv] at hpp
  have h8 : (put1 (putAll Mem (wrs y.M)) ⟨8, c⟩).getD 8 0 = c := by
    rw [put1_in (k := 8) rfl (by omega), List.getD_eq_getElem?_getD, List.getElem?_set_self (by omega)]
    rfl
  have hwok : wOk c = true := by unfold wOk; rw [hpp.1, hpp.2.1, hpp.2.2]; exact hco
  refine ⟨rfl, rfl, by rw [put1_len, i2], by rw [hm.1, i3]; rfl, ⟨by rw [h8]; exact hwok, by rw [h8]; exact hpp.1, by rw [h8]; exact hpp.2.1, by rw [h8]; exact hpp.2.2⟩, ?_⟩
  unfold sentV
  rw [h8, if_pos hwok, if_pos hok.1.2.2.1, hpp.2.2, htl, show ((tl : Int)).toNat = tl by omega]
  exact sent_at (S := y.x.S) hok.1.2.1 (by omega) (fun j => by rw [hm.2 j, i4 j]) (by omega)
end Go.Proofs.YtlicadaecfgklaaGreatDoor.trc

/- Rows of structs of 'm' cells each: what it is for a slice to read as a list of them, for every kind of struct at once. -/
namespace Go.Proofs.YtlicadaecfgklaaGreatDoor.grow
open Go Go.ChangeShapes Go.WideShapes Go.ChangeAt Go.RowKit Go.Proofs.YtlicadaecfgklaaGreatDoor.row

/-- The slice at 'a' of 'n' elements of 'm' cells each reads as the list 'L'. -/
def GRow {α : Type} (C : α → List Value) (m : Nat) (w : World) (a : Option Addr) (n : Nat) (L : List α) : Prop :=
  L.length = n ∧ ∀ k, k < n → ∃ (b off : Nat) (s : α), a = some ⟨b, off, none⟩ ∧ b < w.heap.size ∧ L[k]? = some s ∧ w.rangeAt b (off + k * m) (C s)
theorem GRow.below {α : Type} {C : α → List Value} {m : Nat} {w w' : World} {a : Option Addr} {n : Nat} {L : List α} (h : GRow C m w a n L) (hb : Below w.heap.size w w') : GRow C m w' a n L :=
  ⟨h.1, fun k hk => by
    obtain ⟨b, off, s, rfl, hlt, hs, hr⟩ := h.2 k hk
    exact ⟨b, off, s, rfl, Nat.lt_of_lt_of_le hlt hb.size, hs, fun j v hv => (hb.cell (p := ⟨b, off + k * m + j, none⟩) hlt).trans (hr j v hv)⟩⟩
theorem GRow.grown {α : Type} {C : α → List Value} {m : Nat} {w w' : World} {r : Option Nat} {a : Option Addr} {n : Nat} {L : List α} (h : GRow C m w a n L) (hg : w.grownBy w' r) (hne : ∀ b off, a = some ⟨b, off, none⟩ → some b ≠ r) : GRow C m w' a n L :=
  ⟨h.1, fun k hk => by
    obtain ⟨b, off, s, rfl, hlt, hs, hr⟩ := h.2 k hk
    exact ⟨b, off, s, rfl, Nat.lt_of_lt_of_le hlt hg.size, hs, fun j v hv => hg.cell (hr j v hv) (hne b off rfl)⟩⟩
theorem GRow.nil {α : Type} (C : α → List Value) (m : Nat) (w : World) (a : Option Addr) : GRow C m w a 0 ([] : List α) := ⟨rfl, fun k hk => by omega⟩
theorem GRow.take {α : Type} {C : α → List Value} {m : Nat} {w : World} {a : Option Addr} {n : Nat} {L : List α} (h : GRow C m w a n L) (k : Nat) (hk : k ≤ n) : GRow C m w a k (L.take k) :=
  ⟨by rw [List.length_take, h.1]; omega, fun j hj => by
    obtain ⟨b, off, s, e, hlt, hs, hr⟩ := h.2 j (by omega)
    exact ⟨b, off, s, e, hlt, by rw [List.getElem?_take, if_pos hj]; exact hs, hr⟩⟩
theorem GRow.drop {α : Type} {C : α → List Value} {m : Nat} {w : World} {b off n : Nat} {L : List α} (h : GRow C m w (some ⟨b, off, none⟩) n L) (o : Nat) (ho : o ≤ n) : GRow C m w (some ⟨b, off + o * m, none⟩) (n - o) (L.drop o) :=
  ⟨by rw [List.length_drop, h.1], fun j hj => by
    obtain ⟨b', off', s, e, hlt, hs, hr⟩ := h.2 (o + j) (by omega)
    cases e
    exact ⟨b, off + o * m, s, rfl, hlt, by rw [List.getElem?_drop]; exact hs, by rw [show off + o * m + j * m = off + (o + j) * m by rw [Nat.add_mul]; omega]; exact hr⟩⟩

/-- The cells of a list of structs. -/
def gcs {α : Type} (C : α → List Value) (L : List α) : List Value := L.flatMap C
theorem gcs_len {α : Type} {C : α → List Value} {m : Nat} (hC : ∀ s, (C s).length = m) (L : List α) : (gcs C L).length = L.length * m := by
  induction L with
  | nil => simp [gcs]
  | cons s L ih => simp only [gcs, List.flatMap_cons, List.length_append, List.length_cons] at *; rw [ih, hC, Nat.add_mul]; omega
theorem gcs_app {α : Type} (C : α → List Value) (L M : List α) : gcs C (L ++ M) = gcs C L ++ gcs C M := by simp [gcs]
theorem gcs_one {α : Type} (C : α → List Value) (s : α) : gcs C [s] = C s := by simp [gcs]
theorem gcs_at {α : Type} {C : α → List Value} {m : Nat} (hC : ∀ s, (C s).length = m) {L : List α} {i : Nat} {s : α} (h : L[i]? = some s) (j : Nat) (hj : j < m) : (gcs C L)[i * m + j]? = (C s)[j]? := by
  induction L generalizing i with
  | nil => simp at h
  | cons t L ih =>
    have e : gcs C (t :: L) = C t ++ gcs C L := by simp [gcs]
    have lm : (C t).length = m := hC t
    cases i with
    | zero =>
      simp at h; subst h
      rw [e, List.getElem?_append_left (by omega)]; congr 1; omega
    | succ i =>
      simp at h
      rw [e, List.getElem?_append_right (by rw [lm, Nat.add_mul]; omega), lm, show (i + 1) * m + j - m = i * m + j by rw [Nat.add_mul]; omega]
      exact ih h
theorem GRow.of_box {α : Type} {C : α → List Value} {m : Nat} (hC : ∀ s, (C s).length = m) {w : World} {g n : Nat} {L : List α} {t : TypeId} (h : Box g (gcs C L).toArray t w) (hl : L.length = n) : GRow C m w (some ⟨g, 0, none⟩) n L :=
  ⟨hl, fun k hk => ⟨g, 0, L[k]'(by omega), rfl, h.lt, by simp [show k < L.length by omega], fun j v hv => by
    have hj : j < m := by have := (List.getElem?_eq_some_iff.1 hv).1; rwa [hC] at this
    have h2 := gcs_at hC (L := L) (i := k) (s := L[k]'(by omega)) (by simp [show k < L.length by omega]) j hj
    rw [show 0 + k * m + j = k * m + j by omega, h.cell, List.getElem?_toArray, h2, hv]⟩⟩
theorem GRow.of_own {α : Type} {C : α → List Value} {m : Nat} (hC : ∀ s, (C s).length = m) {w : World} {base : Nat} {a : Option Addr} {n cap : Nat} {L : List α} {t : TypeId} (hm : 0 < m) (h : w.ownsRow base t m (.slice a n cap) n (gcs C L)) : GRow C m w a n L := by
  have hl : L.length = n := by have := h.1; rw [gcs_len hC] at this; exact Nat.eq_of_mul_eq_mul_right hm this
  refine ⟨hl, fun k hk => ?_⟩
  obtain ⟨g, c, hv, _, hg⟩ := h.form (by omega)
  injection hv with h1 h2 h3
  subst h1
  refine ⟨g, 0, L[k], rfl, hg, by simp [hl, hk], fun j v hjv => ?_⟩
  have hj : j < m := by have := (List.getElem?_eq_some_iff.1 hjv).1; rwa [hC] at this
  have h4 := gcs_at hC (L := L) (i := k) (s := L[k]) (by simp [hl, hk]) j hj
  have hlt : k * m + j < n * m := by
    have : (k + 1) * m ≤ n * m := Nat.mul_le_mul_right m hk
    rw [Nat.add_mul] at this; omega
  rw [show 0 + k * m + j = k * m + j by omega, h.cellAt (k * m + j) hlt, h4, hjv]
theorem setAll_mid : ∀ (vs A B C : List Value), B.length = vs.length → setAll (A ++ (B ++ C)).toArray A.length vs = (A ++ (vs ++ C)).toArray
  | [], A, B, C, h => by
    obtain rfl : B = [] := List.eq_nil_of_length_eq_zero h
    rfl
  | v :: r, A, b :: B, C, h => by
    have e : (A ++ (b :: B ++ C)).toArray.setIfInBounds A.length v = ((A ++ [v]) ++ (B ++ C)).toArray := by
      simp [List.setIfInBounds_toArray, List.set_append_right]
    show setAll ((A ++ (b :: B ++ C)).toArray.setIfInBounds A.length v) (A.length + 1) r = _
    rw [e]
    have := setAll_mid r (A ++ [v]) B C (by simpa using h)
    rw [List.length_append, List.length_singleton] at this
    rw [this]; simp
  | _ :: _, _, [], _, h => by simp at h
theorem copy_next {α : Type} {C : α → List Value} {m : Nat} (hC : ∀ s, (C s).length = m) {L : List α} {n k : Nat} {s : α} (z : Value) (hl : L.length = n) (hk : k < n) (hs : L[k]? = some s) :
    setAll (gcs C (L.take k) ++ List.replicate ((n - k) * m) z).toArray (k * m) (C s) = (gcs C (L.take (k + 1)) ++ List.replicate ((n - (k + 1)) * m) z).toArray := by
  have e1 : (n - k) * m = m + (n - (k + 1)) * m := by rw [show n - k = (n - (k + 1)) + 1 by omega, Nat.add_mul]; omega
  have e2 : k * m = (gcs C (L.take k)).length := by rw [gcs_len hC, List.length_take, Nat.min_eq_left (by omega)]
  rw [e1, ← List.replicate_append_replicate, e2, setAll_mid _ _ _ _ (by simp [hC])]
  rw [List.take_add_one, hs, gcs_app]
  simp [gcs]
theorem own_box {w : World} {base g n m : Nat} {t : TypeId} {xs : List Value} (h : w.ownsRow base t m (.slice (some ⟨g, 0, none⟩) n n) n xs) : Box g xs.toArray t w := by
  rcases h.2 with ⟨h0, _⟩ | ⟨g', cap, cur, hv, _, hg, _, _, hs, ht⟩
  · simp at h0
  · simp only [Value.slice.injEq, Option.some.injEq, Addr.mk.injEq, and_true, true_and] at hv
    obtain ⟨rfl, rfl⟩ := hv
    have e : xs = cur.toList := by rw [← ht]; exact List.take_of_length_le (by rw [Array.length_toList, hs]; exact Nat.le_refl _)
    unfold Box
    rw [e, Array.toArray_toList]; exact hg
theorem made_same {zs : Array Value} {z : Value} (hm : 0 < zs.size) (hz : ∀ i, i < zs.size → zs[i]! = z) (n : Nat) : (madeCells zs n).toList = List.replicate n z := by
  apply List.ext_getElem?
  intro j
  by_cases hj : j < n
  · rw [List.getElem?_replicate, if_pos hj]
    simp only [madeCells, Array.toList_map, List.getElem?_map, Array.toList_range, List.getElem?_range hj, Option.map_some]
    rw [hz _ (Nat.mod_lt _ hm)]
  · rw [List.getElem?_eq_none (by rw [Array.length_toList, size_madeCells]; omega), List.getElem?_eq_none (by rw [List.length_replicate]; omega)]
theorem range_lt {w : World} {g o : Nat} {cs : List Value} (h : w.rangeAt g o cs) (hp : 0 < cs.length) : g < w.heap.size :=
  World.block_lt_of_cell? w ⟨g, o + 0, none⟩ (h 0 _ (by rw [List.getElem?_eq_getElem hp]))
theorem range_below {w w' : World} {g o : Nat} {cs : List Value} (h : w.rangeAt g o cs) (hg : g < w.heap.size) (hb : Below w.heap.size w w') : w'.rangeAt g o cs :=
  fun j v hv => (hb.cell (p := ⟨g, o + j, none⟩) hg).trans (h j v hv)
theorem setAll_size : ∀ (vs : List Value) (cs : Array Value) (o : Nat), (setAll cs o vs).size = cs.size
  | [], _, _ => rfl
  | v :: r, cs, o => by show (setAll (cs.setIfInBounds o v) (o + 1) r).size = _; rw [setAll_size r]; simp
theorem setAll_out : ∀ (vs : List Value) (cs : Array Value) (o j : Nat), j < o ∨ o + vs.length ≤ j → (setAll cs o vs)[j]? = cs[j]?
  | [], _, _, _, _ => rfl
  | v :: r, cs, o, j, h => by
    show (setAll (cs.setIfInBounds o v) (o + 1) r)[j]? = _
    rw [setAll_out r _ _ _ (by simp at h; omega)]
    rw [Array.getElem?_setIfInBounds_ne (by simp at h; omega)]
theorem setAll_in : ∀ (vs : List Value) (cs : Array Value) (o i : Nat), i < vs.length → o + vs.length ≤ cs.size → (setAll cs o vs)[o + i]? = vs[i]?
  | [], _, _, _, h, _ => by simp at h
  | v :: r, cs, o, 0, _, hs => by
    show (setAll (cs.setIfInBounds o v) (o + 1) r)[o + 0]? = _
    rw [setAll_out r _ _ _ (by omega)]
    simp at hs
    simp [show o < cs.size by omega]
  | v :: r, cs, o, i + 1, h, hs => by
    show (setAll (cs.setIfInBounds o v) (o + 1) r)[o + (i + 1)]? = _
    have := setAll_in r (cs.setIfInBounds o v) (o + 1) i (by simpa using h) (by simp at hs ⊢; omega)
    rw [show o + (i + 1) = o + 1 + i by omega, this]; simp
/-- The cells from 0 to 'q' hold the numbers from 'k' on. -/
def Nums (cs : Array Value) (k : Int) (q : Nat) : Prop := ∀ j : Nat, j < q → cs[j]? = some (.int .i64 (k + j))
theorem list_of {α : Type} {P : Nat → α → Prop} : ∀ n, (∀ i, i < n → ∃ s, P i s) → ∃ L : List α, L.length = n ∧ ∀ i s, L[i]? = some s → P i s
  | 0, _ => ⟨[], rfl, fun i s h => by simp at h⟩
  | n + 1, h => by
    obtain ⟨L, hl, hL⟩ := list_of n (fun i hi => h i (by omega))
    obtain ⟨s, hs⟩ := h n (by omega)
    refine ⟨L ++ [s], by simp [hl], fun i t ht => ?_⟩
    by_cases hi : i < L.length
    · rw [List.getElem?_append_left hi] at ht; exact hL i t ht
    · have hil := (List.getElem?_eq_some_iff.1 ht).1
      simp at hil
      obtain rfl : i = n := by omega
      rw [List.getElem?_append_right (by omega), hl, Nat.sub_self] at ht
      simp at ht; subst ht; exact hs
end Go.Proofs.YtlicadaecfgklaaGreatDoor.grow

/- What a law's argument is made of, by its type: a struct of numbers is its fields. -/
namespace Go.Proofs.YtlicadaecfgklaaGreatDoor.opn
open Go.ChangeShapes Go.WideShapes Go.ChangeAt Go.RowKit Go.Joins Go.Deep

/-- An expression that came in: three numbers. -/
def IsExpr (_ : World) (v : Value) : Prop := ∃ o a b : Int, v = .agg #[.int .i64 o, .int .i64 a, .int .i64 b] ∧ (Lit.int .i64 o).wf = true ∧ (Lit.int .i64 a).wf = true ∧ (Lit.int .i64 b).wf = true
set_option maxRecDepth 100000 in
theorem open_Expr {H : Type} {enc : TypeId × Value → H} {w w' : World} {base : Nat} {spare : Nat → Bool} {held : Bool} {r : Reach} {b0 : Nat} {v : Value} {d : DataW H} {p : List MemPlace}
    (hv : Value.okWide Tryz.prog w r b0 162 v) (h : DataW.Trod enc Tryz.prog w base spare held 162 v d p) : IsExpr w' v := by
  obtain ⟨v0, v1, v2, y0, y1, y2, n, rfl, _, _, h0, h1, h2⟩ := open_agg3 Tryz.underlying162 (by kernel_rfl) (by kernel_rfl) hv h
  obtain ⟨o, e0, _, w0⟩ := DataW.trod_int Tryz.underlying3 h0
  obtain ⟨a, e1, _, w1⟩ := DataW.trod_int Tryz.underlying3 h1
  obtain ⟨b, e2, _, w2⟩ := DataW.trod_int Tryz.underlying3 h2
  simp at e0 e1 e2
  subst e0 e1 e2
  exact ⟨o, a, b, rfl, w0, w1, w2⟩
/-- A statement that came in: six numbers. -/
def IsStmt (_ : World) (v : Value) : Prop := ∃ k x n o a b : Int, v = .agg #[.int .i64 k, .int .i64 x, .int .i64 n, .int .i64 o, .int .i64 a, .int .i64 b] ∧
  (Lit.int .i64 k).wf = true ∧ (Lit.int .i64 x).wf = true ∧ (Lit.int .i64 n).wf = true ∧ (Lit.int .i64 o).wf = true ∧ (Lit.int .i64 a).wf = true ∧ (Lit.int .i64 b).wf = true
set_option maxRecDepth 100000 in
theorem open_Stmt {H : Type} {enc : TypeId × Value → H} {w w' : World} {base : Nat} {spare : Nat → Bool} {held : Bool} {r : Reach} {b0 : Nat} {v : Value} {d : DataW H} {p : List MemPlace}
    (hv : Value.okWide Tryz.prog w r b0 216 v) (h : DataW.Trod enc Tryz.prog w base spare held 216 v d p) : IsStmt w' v := by
  obtain ⟨⟨cs⟩, rfl, hsz⟩ := okWide_struct Tryz.underlying216 hv
  obtain ⟨fuel, hf⟩ := h
  have hC : Tryz.prog.cellsOf 216 = 6 := by kernel_rfl
  have hI : Tryz.prog.cellsOf 3 = 1 := by kernel_rfl
  have hE : Tryz.prog.cellsOf 162 = 3 := by kernel_rfl
  rw [hC] at hsz
  match cs, hsz, hf with
  | [c0, c1, c2, c3, c4, c5], _, hf =>
    obtain ⟨y0, y1, y2, y3, m, _, _, h0, h1, h2, h3⟩ := trod_struct4 Tryz.underlying216 hf
    simp [Value.cells, hI, hE] at h0 h1 h2 h3
    obtain ⟨z0, z1, z2, m2, _, _, h4, h5, h6⟩ := trod_struct3 Tryz.underlying162 h3
    simp [hI] at h4 h5 h6
    obtain ⟨k, e0, _, w0⟩ := DataW.trod_int Tryz.underlying3 h0
    obtain ⟨x, e1, _, w1⟩ := DataW.trod_int Tryz.underlying3 h1
    obtain ⟨n, e2, _, w2⟩ := DataW.trod_int Tryz.underlying3 h2
    obtain ⟨o, e3, _, w3⟩ := DataW.trod_int Tryz.underlying3 h4
    obtain ⟨a, e4, _, w4⟩ := DataW.trod_int Tryz.underlying3 h5
    obtain ⟨b, e5, _, w5⟩ := DataW.trod_int Tryz.underlying3 h6
    simp at e0 e1 e2 e3 e4 e5
    subst e0 e1 e2 e3 e4 e5
    exact ⟨k, x, n, o, a, b, rfl, w0, w1, w2, w3, w4, w5⟩
end Go.Proofs.YtlicadaecfgklaaGreatDoor.opn

/- The struct Micro as plain data, and rows of it: the law's own copy, size, comparison, marks of such a value and of such a row; what a law's argument of these types is. -/
namespace Go.Proofs.YtlicadaecfgklaaGreatDoor.trc
open Go Go.ChangeShapes Go.WideShapes Go.ChangeAt Go.RowKit Go.Joins Go.Deep Go.Proofs.YtlicadaecfgklaaGreatDoor.row Go.Proofs.YtlicadaecfgklaaGreatDoor.val Go.Proofs.YtlicadaecfgklaaGreatDoor.expr Go.Proofs.YtlicadaecfgklaaGreatDoor.grow

/-- The cells of one, its value, the cells of a list of them. -/
def microC (s : Mic) : List Value := [.int .i64 s.c, .int .i64 s.a, .int .i64 s.v]
theorem microC_len (s : Mic) : (microC s).length = 3 := rfl
abbrev microV (s : Mic) : Value := .agg #[.int .i64 s.c, .int .i64 s.a, .int .i64 s.v]
abbrev microsC (L : List Mic) : List Value := gcs microC L
theorem microsC_len (L : List Mic) : (microsC L).length = L.length * 3 := gcs_len microC_len L
/-- The slice reads as this list. -/
abbrev MicroRow (w : World) (a : Option Addr) (n : Nat) (L : List Mic) : Prop := GRow microC 3 w a n L
/-- The call returns this value; nothing that was there is written. -/
def BelMicro (w : World) (s : Mic) (e : Ending) (w' : World) : Prop := e = .returned (microV s) ∧ Below w.heap.size w w'
theorem drew_below {w w' : World} (h : Below w.drew.heap.size w.drew w') : Below w.heap.size w w' := (Below.drew (Below.refl _ w)).trans h
set_option maxRecDepth 100000 in
theorem eqMicro_same (s : Mic) (w : World) : Calls Tryz.prog 128 #[microV s, microV s] w (BelB w true) := by
  go_enter Tryz.func128, Tryz.ntmps128
  go_wp2
  go_ret
  exact ⟨rfl, ((Below.refl _ w).alloc (Nat.le_refl _) _).alloc (by simp) _⟩
/-- A copy of the row in new memory. -/
def MadeMicros (w : World) (n : Nat) (L : List Mic) (e : Ending) (w' : World) : Prop :=
  e = .returned (.slice (some ⟨w.heap.size, 0, none⟩) n n) ∧ Box w.heap.size (microsC L).toArray 76 w' ∧ Below w.heap.size w w'
theorem zeros_micro : ∀ i, i < (Value.agg #[.int .i64 0, .int .i64 0, .int .i64 0]).cells.size → (Value.agg #[.int .i64 0, .int .i64 0, .int .i64 0]).cells[i]! = .int .i64 0 := by
  intro i hi
  have : i < 3 := hi
  match i, this with
  | 0, _ => rfl
  | 1, _ => rfl
  | 2, _ => rfl
theorem infoMicro : (Tryz.prog.info? 76).map (fun i => (i.zero, i.size, i.bytes)) = some (some (.agg #[.int .i64 0, .int .i64 0, .int .i64 0]), 3, 24) := by kernel_rfl
theorem held3o {w w' : World} {g o : Nat} {x0 x1 x2 : Value} (hb : Below w.heap.size w w') (hg : g < w.heap.size)
    (h : w.cell? ⟨g, o, none⟩ = some (x0) ∧ w.cell? ⟨g, o + 1, none⟩ = some (x1) ∧ w.cell? ⟨g, o + 2, none⟩ = some (x2)) :
    w'.cell? ⟨g, o, none⟩ = some (x0) ∧ w'.cell? ⟨g, o + 1, none⟩ = some (x1) ∧ w'.cell? ⟨g, o + 2, none⟩ = some (x2) :=
  ⟨(hb.cell (p := ⟨g, o, none⟩) hg).trans h.1, (hb.cell (p := ⟨g, o + 1, none⟩) hg).trans h.2.1, (hb.cell (p := ⟨g, o + 2, none⟩) hg).trans h.2.2⟩
/-- The cells of one that lies in a row. -/
theorem range3 {w : World} {g o : Nat} {s : Mic} (h : w.rangeAt g o (microC s)) : w.cell? ⟨g, o, none⟩ = some (.int .i64 s.c) ∧ w.cell? ⟨g, o + 1, none⟩ = some (.int .i64 s.a) ∧ w.cell? ⟨g, o + 2, none⟩ = some (.int .i64 s.v) :=
  ⟨h 0 _ rfl, h 1 _ rfl, h 2 _ rfl⟩
set_option maxHeartbeats 2000000 in
set_option maxRecDepth 100000 in
theorem eqMicros_any (w : World) (a a' : Option Addr) (n cap cap' : Nat) (L : List Mic) (hn : (n : Int) ≤ 1048576) (h1 : MicroRow w a n L) (h2 : MicroRow w a' n L) :
    Calls Tryz.prog 82 #[.slice a n cap, .slice a' n cap'] w (BelB w true) := by
  have HC : Hid (∀ wr : World, Below w.heap.size w wr → ∀ k, k < n → ∃ (g o g' o' : Nat) (s : Mic), a = some ⟨g, o, none⟩ ∧ a' = some ⟨g', o', none⟩ ∧ wr.rangeAt g (o + k * 3) (microC s) ∧ wr.rangeAt g' (o' + k * 3) (microC s)) := by
    intro wr hb k hk
    obtain ⟨g, o, X, e1, _, x1, c1⟩ := (h1.below hb).2 k hk
    obtain ⟨g', o', X', e2, _, x2, c2⟩ := (h2.below hb).2 k hk
    obtain rfl : X = X' := by rw [x1] at x2; exact Option.some.inj x2
    exact ⟨g, o, g', o', X, e1, e2, c1, c2⟩
  clear h1 h2
  go_enter Tryz.func82, Tryz.ntmps82
  go_wp2
  go_loopw [5] (fun i wr => ∃ k : Nat, k ≤ n ∧ i = .int .i64 k ∧ Below w.heap.size w wr) (fun i _ => n - (intOf i).toNat)
  case atStart => exact ⟨0, Nat.zero_le _, rfl, Below.refl _ _⟩
  case round =>
    obtain ⟨k, hk, rfl, hbel⟩ := hrel
    by_cases hlt : k < n
    · obtain ⟨g, o, g', o', s, rfl, rfl, c1, c2⟩ := HC.out wr hbel k hlt
      have hI : (k : Int) < n := by omega
      have HB := Lib.hid hbel
      have hgl := range_lt c1 (show 0 < 3 by decide)
      have hgl' := range_lt c2 (show 0 < 3 by decide)
      have r0 : wr.drew.cell? ⟨g, o + k * 3, none⟩ = some (.int .i64 s.c) ∧ wr.drew.cell? ⟨g, o + k * 3 + 1, none⟩ = some (.int .i64 s.a) ∧ wr.drew.cell? ⟨g, o + k * 3 + 2, none⟩ = some (.int .i64 s.v) := range3 c1
      have t0 : wr.drew.cell? ⟨g', o' + k * 3, none⟩ = some (.int .i64 s.c) ∧ wr.drew.cell? ⟨g', o' + k * 3 + 1, none⟩ = some (.int .i64 s.a) ∧ wr.drew.cell? ⟨g', o' + k * 3 + 2, none⟩ = some (.int .i64 s.v) := range3 c2
      clear c1 c2 hbel
      go_wp2
      go_region_held3 (fun w' => (w'.cell? ⟨g, o + k * 3, none⟩ = some (.int .i64 s.c) ∧ w'.cell? ⟨g, o + k * 3 + 1, none⟩ = some (.int .i64 s.a) ∧ w'.cell? ⟨g, o + k * 3 + 2, none⟩ = some (.int .i64 s.v)) ∧ (w'.cell? ⟨g', o' + k * 3, none⟩ = some (.int .i64 s.c) ∧ w'.cell? ⟨g', o' + k * 3 + 1, none⟩ = some (.int .i64 s.a) ∧ w'.cell? ⟨g', o' + k * 3 + 2, none⟩ = some (.int .i64 s.v)))
        (first | (exact ⟨r0, t0⟩) | (exact ⟨held3o (drew_below hb2) hgl r0, held3o (drew_below hb2) hgl' t0⟩))
        (first
          | (go_at_call 128; refine (eqMicro_same s _).mono ?_; rintro e w2 ⟨rfl, hb2⟩))
      have hb3 := Lib.hid (HB.out.trans ((drew_below hb2).mono HB.out.size))
      clear hb2 r0 t0
      go_wp2
      go_roundw
      case rel => exact ⟨k + 1, by omega, by go_num, hb3.out⟩
      case measure => simp [intOf]; omega
    · have hI : ¬ (k : Int) < n := by omega
      have HB := Lib.hid hbel
      clear hbel
      go_wp2
      go_ret
      exact ⟨rfl, HB.out⟩
theorem nums_next {cs : Array Value} {k K : Int} {q : Nat} (h : Nums cs k (q * 3)) (hs : q * 3 + 3 ≤ cs.size) (hK : K = k + 3 * q) :
    Nums (setAll cs (q * 3) [.int .i64 K, .int .i64 (K + 1), .int .i64 (K + 1 + 1)]) k ((q + 1) * 3) := by
  intro j hj
  by_cases hlt : j < q * 3
  · rw [setAll_out _ _ _ _ (by left; exact hlt)]; exact h j hlt
  · obtain ⟨i, rfl⟩ : ∃ i, j = q * 3 + i := ⟨j - q * 3, by omega⟩
    rw [setAll_in _ _ _ i (by simp; omega) (by simp; omega)]
    have hi : i < 3 := by omega
    have : i = 0 ∨ i = 1 ∨ i = 2 := by omega
    rcases this with rfl | rfl | rfl <;> simp <;> omega
/-- What the marks leave. -/
def MarkMicros (w : World) (g n : Nat) (t : TypeId) (z : Nat) (k : Int) (e : Ending) (w' : World) : Prop :=
  e = .returned (.int .i64 (k + 3 * n)) ∧ w.grownBy w' (some g) ∧ ∃ cs', Box g cs' t w' ∧ cs'.size = z ∧ Nums cs' k (n * 3)
set_option maxHeartbeats 4000000 in
set_option maxRecDepth 100000 in
theorem markMicros_any (w : World) (g n cap : Nat) (cs : Array Value) (t : TypeId) (hb : Box g cs t w) (hs : n * 3 ≤ cs.size) (k : Int) (hk0 : 0 ≤ k) (hk1 : k ≤ 1000000000) (hn : n ≤ 1048576) :
    Calls Tryz.prog 85 #[.slice (some ⟨g, 0, none⟩) n cap, .int .i64 k] w (MarkMicros w g n t cs.size k) := by
  have HB := Lib.hid hb
  clear hb
  go_enter Tryz.func85, Tryz.ntmps85
  go_wp2
  go_loopw [1, 5] (fun kk i wr => ∃ (q : Nat) (K : Int) (cs' : Array Value), q ≤ n ∧ i = .int .i64 q ∧ kk = .int .i64 K ∧ K = k + 3 * q ∧ Hid (w.grownBy wr (some g) ∧ Box g cs' t wr ∧ cs'.size = cs.size ∧ Nums cs' k (q * 3))) (fun _ i _ => n - (intOf i).toNat)
  case atStart => exact ⟨0, k, cs, Nat.zero_le _, rfl, rfl, by simp, grown_refl _ _, HB.out, rfl, fun j h => absurd h (by omega)⟩
  case round =>
    obtain ⟨q, K, cs', hm, rfl, rfl, hK, HI⟩ := hrel
    by_cases hlt : q < n
    · have hI : (q : Int) < n := by omega
      have hsz : q * 3 + 3 ≤ cs'.size := by have := HI.out.2.2.1; omega
      have HSZ := Lib.hid hsz
      have cell : ∀ i, i < 3 → ∃ x, wr.cell? ⟨g, q * 3 + i, none⟩ = some x := fun i hi => ⟨cs'[q * 3 + i]'(by omega), by rw [HI.out.2.1.cell]; simp⟩
      obtain ⟨x0, c0⟩ := cell 0 (by omega)
      obtain ⟨x1, c1⟩ := cell 1 (by omega)
      obtain ⟨x2, c2⟩ := cell 2 (by omega)
      have f0 : wr.frozen? ⟨g, q * 3, none⟩ = false := HI.out.2.1.frozen _
      have f1 : wr.frozen? ⟨g, q * 3 + 1, none⟩ = false := HI.out.2.1.frozen _
      have f2 : wr.frozen? ⟨g, q * 3 + 2, none⟩ = false := HI.out.2.1.frozen _
      rw [Nat.add_zero] at c0
      have HK := Lib.hid hK
      have hK0 : 0 ≤ K := by omega
      have hK1 : K ≤ 1100000000 := by omega
      clear cell hsz hK
      go_wp2
      go_roundw
      case rel => exact ⟨q + 1, _, setAll cs' (q * 3) [.int .i64 K, .int .i64 (K + 1), .int .i64 (K + 1 + 1)], by omega, by go_num, rfl, by have := HK.out; omega,
        (grown_trans (grown_trans (grown_trans HI.out.1 (grown_setCell _ g _ _)) (grown_setCell _ g _ _)) (grown_setCell _ g _ _)),
        (((HI.out.2.1.set (q * 3) _).set (q * 3 + 1) _).set (q * 3 + 2) _),
        by rw [setAll_size]; exact HI.out.2.2.1, nums_next HI.out.2.2.2 HSZ.out HK.out⟩
      case measure => simp [intOf]; omega
    · obtain rfl : q = n := by omega
      have hI : ¬ (q : Int) < q := by omega
      go_wp2
      go_ret
      exact ⟨rfl, HI.out.1, _, HI.out.2.1, HI.out.2.2.1, HI.out.2.2.2⟩
set_option maxHeartbeats 4000000 in
set_option maxRecDepth 100000 in
theorem heldMicros_any (w : World) (g n cap : Nat) (cs : Array Value) (t : TypeId) (hb : Box g cs t w) (k : Int) (hN : Nums cs k (n * 3)) (hk0 : 0 ≤ k) (hk1 : k ≤ 1000000000) (hn : n ≤ 1048576) :
    Calls Tryz.prog 86 #[.slice (some ⟨g, 0, none⟩) n cap, .int .i64 k] w fun e w' => e = .returned (.int .i64 (k + 3 * n)) ∧ w' = w := by
  have HB := Lib.hid (And.intro hb hN)
  clear hb hN
  go_enter Tryz.func86, Tryz.ntmps86
  go_wp2
  go_loopw [1, 5] (fun kk i wr => ∃ (q : Nat) (K : Int), q ≤ n ∧ i = .int .i64 q ∧ kk = .int .i64 K ∧ K = k + 3 * q ∧ wr = w) (fun _ i _ => n - (intOf i).toNat)
  case atStart => exact ⟨0, k, Nat.zero_le _, rfl, rfl, by simp, rfl⟩
  case round =>
    obtain ⟨q, K, hm, rfl, rfl, hK, rfl⟩ := hrel
    by_cases hlt : q < n
    · have hI : (q : Int) < n := by omega
      have cell : ∀ i : Nat, i < 3 → wr.cell? ⟨g, q * 3 + i, none⟩ = some (.int .i64 (K + i)) := fun i hi => by
        rw [HB.out.1.cell, HB.out.2 (q * 3 + i) (by omega)]
        simp; omega
      have c0 : wr.cell? ⟨g, q * 3, none⟩ = some (.int .i64 K) := by have := cell 0 (by omega); simpa using this
      have c1 : wr.cell? ⟨g, q * 3 + 1, none⟩ = some (.int .i64 (K + 1)) := by have := cell 1 (by omega); simpa using this
      have c2 : wr.cell? ⟨g, q * 3 + 2, none⟩ = some (.int .i64 (K + 1 + 1)) := by have := cell 2 (by omega); rw [show K + 1 + 1 = K + 2 by omega]; simpa using this
      have HK := Lib.hid hK
      have hK0 : 0 ≤ K := by omega
      have hK1 : K ≤ 1100000000 := by omega
      clear cell hK
      go_wp2
      go_roundw
      case rel => exact ⟨q + 1, _, by omega, by go_num, rfl, by have := HK.out; omega, trivial⟩
      case measure => simp [intOf]; omega
    · obtain rfl : q = n := by omega
      have hI : ¬ (q : Int) < q := by omega
      go_wp2
      go_ret
      exact ⟨rfl, rfl⟩
end Go.Proofs.YtlicadaecfgklaaGreatDoor.trc
namespace Go.Proofs.YtlicadaecfgklaaGreatDoor.opn
open Go.ChangeShapes Go.WideShapes Go.ChangeAt Go.RowKit Go.Joins Go.Deep Go.Proofs.YtlicadaecfgklaaGreatDoor.trc Go.Proofs.YtlicadaecfgklaaGreatDoor.grow

end Go.Proofs.YtlicadaecfgklaaGreatDoor.opn

/- The struct Write as plain data, and rows of it: the law's own copy, size, comparison, marks of such a value and of such a row; what a law's argument of these types is. -/
namespace Go.Proofs.YtlicadaecfgklaaGreatDoor.wrt
open Go Go.ChangeShapes Go.WideShapes Go.ChangeAt Go.RowKit Go.Joins Go.Deep Go.Proofs.YtlicadaecfgklaaGreatDoor.row Go.Proofs.YtlicadaecfgklaaGreatDoor.val Go.Proofs.YtlicadaecfgklaaGreatDoor.expr Go.Proofs.YtlicadaecfgklaaGreatDoor.grow

/-- The cells of one, its value, the cells of a list of them. -/
def writeC (s : Wt) : List Value := [.int .i64 s.p, .int .i64 s.v]
theorem writeC_len (s : Wt) : (writeC s).length = 2 := rfl
abbrev writeV (s : Wt) : Value := .agg #[.int .i64 s.p, .int .i64 s.v]
abbrev writesC (L : List Wt) : List Value := gcs writeC L
theorem writesC_len (L : List Wt) : (writesC L).length = L.length * 2 := gcs_len writeC_len L
/-- The slice reads as this list. -/
abbrev WriteRow (w : World) (a : Option Addr) (n : Nat) (L : List Wt) : Prop := GRow writeC 2 w a n L
/-- The call returns this value; nothing that was there is written. -/
def BelWrite (w : World) (s : Wt) (e : Ending) (w' : World) : Prop := e = .returned (writeV s) ∧ Below w.heap.size w w'
theorem drew_below {w w' : World} (h : Below w.drew.heap.size w.drew w') : Below w.heap.size w w' := (Below.drew (Below.refl _ w)).trans h
/-- A copy of the row in new memory. -/
def MadeWrites (w : World) (n : Nat) (L : List Wt) (e : Ending) (w' : World) : Prop :=
  e = .returned (.slice (some ⟨w.heap.size, 0, none⟩) n n) ∧ Box w.heap.size (writesC L).toArray 78 w' ∧ Below w.heap.size w w'
theorem zeros_write : ∀ i, i < (Value.agg #[.int .i64 0, .int .i64 0]).cells.size → (Value.agg #[.int .i64 0, .int .i64 0]).cells[i]! = .int .i64 0 := by
  intro i hi
  have : i < 2 := hi
  match i, this with
  | 0, _ => rfl
  | 1, _ => rfl
theorem infoWrite : (Tryz.prog.info? 78).map (fun i => (i.zero, i.size, i.bytes)) = some (some (.agg #[.int .i64 0, .int .i64 0]), 2, 16) := by kernel_rfl
theorem held2o {w w' : World} {g o : Nat} {x0 x1 : Value} (hb : Below w.heap.size w w') (hg : g < w.heap.size)
    (h : w.cell? ⟨g, o, none⟩ = some (x0) ∧ w.cell? ⟨g, o + 1, none⟩ = some (x1)) :
    w'.cell? ⟨g, o, none⟩ = some (x0) ∧ w'.cell? ⟨g, o + 1, none⟩ = some (x1) :=
  ⟨(hb.cell (p := ⟨g, o, none⟩) hg).trans h.1, (hb.cell (p := ⟨g, o + 1, none⟩) hg).trans h.2⟩
/-- The cells of one that lies in a row. -/
theorem range2 {w : World} {g o : Nat} {s : Wt} (h : w.rangeAt g o (writeC s)) : w.cell? ⟨g, o, none⟩ = some (.int .i64 s.p) ∧ w.cell? ⟨g, o + 1, none⟩ = some (.int .i64 s.v) :=
  ⟨h 0 _ rfl, h 1 _ rfl⟩
theorem nums_next {cs : Array Value} {k K : Int} {q : Nat} (h : Nums cs k (q * 2)) (hs : q * 2 + 2 ≤ cs.size) (hK : K = k + 2 * q) :
    Nums (setAll cs (q * 2) [.int .i64 K, .int .i64 (K + 1)]) k ((q + 1) * 2) := by
  intro j hj
  by_cases hlt : j < q * 2
  · rw [setAll_out _ _ _ _ (by left; exact hlt)]; exact h j hlt
  · obtain ⟨i, rfl⟩ : ∃ i, j = q * 2 + i := ⟨j - q * 2, by omega⟩
    rw [setAll_in _ _ _ i (by simp; omega) (by simp; omega)]
    have hi : i < 2 := by omega
    have : i = 0 ∨ i = 1 := by omega
    rcases this with rfl | rfl <;> simp <;> omega
end Go.Proofs.YtlicadaecfgklaaGreatDoor.wrt
namespace Go.Proofs.YtlicadaecfgklaaGreatDoor.opn
open Go.ChangeShapes Go.WideShapes Go.ChangeAt Go.RowKit Go.Joins Go.Deep Go.Proofs.YtlicadaecfgklaaGreatDoor.wrt Go.Proofs.YtlicadaecfgklaaGreatDoor.grow

end Go.Proofs.YtlicadaecfgklaaGreatDoor.opn

/- A trace as a value, and in new memory; what the program's TraceCost, WritesOf and CountSteps are to give: the shapes of their contracts. -/
namespace Go.Proofs.YtlicadaecfgklaaGreatDoor.trc
open Go Go.ChangeShapes Go.WideShapes Go.ChangeAt Go.RowKit Go.Proofs.YtlicadaecfgklaaGreatDoor.row Go.Proofs.YtlicadaecfgklaaGreatDoor.val Go.Proofs.YtlicadaecfgklaaGreatDoor.expr Go.Proofs.YtlicadaecfgklaaGreatDoor.grow Go.Proofs.YtlicadaecfgklaaGreatDoor.wrt

abbrev trV (a1 : Option Addr) (n1 c1 : Nat) (a2 : Option Addr) (n2 c2 : Nat) : Value := .agg #[.slice a1 n1 c1, .slice a2 n2 c2]
/-- The trace in new memory. -/
def TrMem (B : Nat) (a1 : Option Addr) (n1 c1 : Nat) (a2 : Option Addr) (n2 c2 : Nat) (M : List Mic) (U : List Int) (w' : World) : Prop :=
  w'.ownsRow B 76 3 (.slice a1 n1 c1) n1 (microsC M) ∧ w'.ownsRow B 3 1 (.slice a2 n2 c2) n2 (ivs U) ∧ ((Value.slice a1 n1 c1).ownBlock = none ∨ (Value.slice a1 n1 c1).ownBlock ≠ (Value.slice a2 n2 c2).ownBlock)
def NewTr (w : World) (M : List Mic) (U : List Int) (e : Ending) (w' : World) : Prop :=
  ∃ a1 n1 c1 a2 n2 c2, e = .returned (trV a1 n1 c1 a2 n2 c2) ∧ TrMem w.heap.size a1 n1 c1 a2 n2 c2 M U w' ∧ Below w.heap.size w w'
def NewTrB (w : World) (r : Bool) (M : List Mic) (U : List Int) (e : Ending) (w' : World) : Prop :=
  ∃ a1 n1 c1 a2 n2 c2, e = .returned (.tuple #[trV a1 n1 c1 a2 n2 c2, .bool r]) ∧ TrMem w.heap.size a1 n1 c1 a2 n2 c2 M U w' ∧ Below w.heap.size w w'
/-- The trace that came in. -/
def TrRow (w : World) (a1 : Option Addr) (n1 : Nat) (a2 : Option Addr) (n2 : Nat) (M : List Mic) (U : List Int) : Prop := MicroRow w a1 n1 M ∧ Row w a2 n2 U ∧ (n1 : Int) ≤ 1048576 ∧ (n2 : Int) ≤ 1048576
theorem TrRow.below {w w' : World} {a1 : Option Addr} {n1 : Nat} {a2 : Option Addr} {n2 : Nat} {M : List Mic} {U : List Int} (h : TrRow w a1 n1 a2 n2 M U) (hb : Below w.heap.size w w') : TrRow w' a1 n1 a2 n2 M U := ⟨h.1.below hb, h.2.1.below hb, h.2.2⟩
/-- A row of writes in new memory. -/
def NewWts (w : World) (L : List Wt) (e : Ending) (w' : World) : Prop :=
  ∃ a n c, e = .returned (.slice a n c) ∧ w'.ownsRow w.heap.size 78 2 (.slice a n c) n (writesC L) ∧ Below w.heap.size w w'
/-- Every cost is an int. -/
abbrev i64r (x : Int) : Prop := -9223372036854775808 ≤ x ∧ x ≤ 9223372036854775807
def MicOk (M : List Mic) : Prop := ∀ m ∈ M, i64r m.c
abbrev zero2T : Array Value := #[.slice none 0 0, .slice none 0 0]
abbrev TcC : Prop := ∀ (w : World) (a1 : Option Addr) (n1 c1 : Nat) (a2 : Option Addr) (n2 c2 : Nat) (M : List Mic) (U : List Int) (_ : n1 ≤ c1) (_ : TrRow w a1 n1 a2 n2 M U) (_ : MicOk M) (q : Int) (_ : costW (csts M) = q),
    Calls Tryz.prog 27 #[trV a1 n1 c1 a2 n2 c2] w (BelI w q)
abbrev WoC : Prop := ∀ (w : World) (a1 : Option Addr) (n1 c1 : Nat) (a2 : Option Addr) (n2 c2 : Nat) (M : List Mic) (U : List Int) (_ : n1 ≤ c1) (_ : TrRow w a1 n1 a2 n2 M U) (_ : MicOk M) (L : List Wt) (_ : wrs M = L),
    Calls Tryz.prog 11 #[trV a1 n1 c1 a2 n2 c2] w (NewWts w L)
abbrev CsC : Prop := ∀ (w : World) (a1 : Option Addr) (n1 c1 : Nat) (a2 : Option Addr) (n2 c2 : Nat) (M : List Mic) (U : List Int) (_ : n1 ≤ c1) (_ : TrRow w a1 n1 a2 n2 M U) (_ : MicOk M) (e : Int) (_ : i64r e) (q : Nat) (_ : cntE (csts M) e = q),
    Calls Tryz.prog 26 #[trV a1 n1 c1 a2 n2 c2, .int .i64 e] w (BelI w q)
end Go.Proofs.YtlicadaecfgklaaGreatDoor.trc
