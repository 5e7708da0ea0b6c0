/- Several texts in one: QRefA QBotA QBotV. -/
import Derived.Test.YtmgeecdgebemdaaGreatDoorGSigQ4
import Derived.Test.YtmgeecdgebemdaaGreatDoorGSigQ16
import Derived.Test.YtmgeecdgebemdaaGreatDoorGSigQ1

/- Reference runs: what RefRun and RefTasks must give; what the laws ask of it. Plain mathematics. -/
namespace Go.Proofs.YtmgeecdgebemdaaGreatDoor.ref
open Go Go.Proofs.YtmgeecdgebemdaaGreatDoor.stm Go.Proofs.YtmgeecdgebemdaaGreatDoor.blk Go.Proofs.YtmgeecdgebemdaaGreatDoor.expr Go.Proofs.YtmgeecdgebemdaaGreatDoor.sets Go.Proofs.YtmgeecdgebemdaaGreatDoor.val Go.Proofs.YtmgeecdgebemdaaGreatDoor.prg Go.Proofs.YtmgeecdgebemdaaGreatDoor.exe
/-- The outbox has room for 24 values. -/
def box (S M : List Int) : List Int := (S ++ M).take 24
/-- The variables and the task of a state are valid. -/
def Sound (P : List Tk) (V : List Int) (i : Int) : Prop := IsPrg P ∧ varsOk V = true ∧ 0 ≤ i ∧ i < P.length
/-- The next effect exists and leaves a valid state. -/
theorem Sound.step {P : List Tk} {V u : List Int} {i : Int} (h : Sound P V i) (hu : allV u = true) : ∃ E, EffIs P V u i true E ∧ Sound P E.V E.N ∧ E.S.length ≤ 3000 := by
  obtain ⟨hp, hv, h0, h1⟩ := h
  obtain ⟨j, rfl⟩ : ∃ j : Nat, i = j := ⟨i.toNat, by omega⟩
  obtain ⟨t, T, ht, hT⟩ := taskAt_ex (j := j) hp hv hu (by omega)
  refine ⟨_, .inr ⟨rfl, t, T, hT, rfl⟩, ⟨hp, (hT.good (listSrc_val hu)).1, ?_⟩, ?_⟩
  · have := nx_range (v := evalV (exec (listSrc u) T ⟨V, [], []⟩).V t.o t.x t.y) (n := P.length) (by omega)
    exact this
  · have := hT.small (listSrc u); simp only [effOf]; omega
theorem EffIs.sound {P : List Tk} {V u : List Int} {i : Int} {E : Eff} (hE : EffIs P V u i true E) (h : Sound P V i) (hu : allV u = true) : Sound P E.V E.N ∧ E.S.length ≤ 3000 := by
  obtain ⟨E', h1, h2⟩ := h.step hu
  obtain ⟨_, rfl⟩ := hE.unique h1
  exact h2
end Go.Proofs.YtmgeecdgebemdaaGreatDoor.ref

/- Chapter 16, plain mathematics: what a boot must give; what the law of the energy that is needed asks of it. -/
namespace Go.Proofs.YtmgeecdgebemdaaGreatDoor.bot
open Go Go.Proofs.YtmgeecdgebemdaaGreatDoor.stm Go.Proofs.YtmgeecdgebemdaaGreatDoor.blk Go.Proofs.YtmgeecdgebemdaaGreatDoor.expr Go.Proofs.YtmgeecdgebemdaaGreatDoor.sets Go.Proofs.YtmgeecdgebemdaaGreatDoor.val Go.Proofs.YtmgeecdgebemdaaGreatDoor.prg Go.Proofs.YtmgeecdgebemdaaGreatDoor.exe Go.Proofs.YtmgeecdgebemdaaGreatDoor.wrt Go.Proofs.YtmgeecdgebemdaaGreatDoor.ctl Go.Proofs.YtmgeecdgebemdaaGreatDoor.mem Go.Proofs.YtmgeecdgebemdaaGreatDoor.trc Go.Proofs.YtmgeecdgebemdaaGreatDoor.rcv Go.Proofs.YtmgeecdgebemdaaGreatDoor.ref
/-! Memories behind a whole trace, and behind a whole recovery. -/
theorem sent_vals {P : List Tk} {Mem : List Int} (h : MemIs P Mem) : ∀ q ∈ sentV Mem, isVal q = true := by
  intro q hq
  unfold sentV at hq
  rw [if_pos h.2.2.1] at hq
  exact List.all_eq_true.1 h.2.2.2.2.2.1 q hq
theorem trace_mem {P : List Tk} {Mem R U : List Int} {z : Int} {M : List Mic} (h : TraceIs P Mem R z true M U) : MemIs P (putAll Mem (wrs M)) ∧ wC ((putAll Mem (wrs M)).getD 8 0) = 0 ∧ allV U = true := by
  obtain ⟨r, E, hE⟩ := effIs_ex P (Mem.take 8) U (wT (Mem.getD 8 0))
  obtain ⟨rfl, _, x1, x2, ⟨x3, x4, x5, x6⟩, x7⟩ := trace_does h hE
  rcases h with ⟨e, _⟩ | ⟨_, hok, t, T, hT, _, hU⟩
  · cases e
  have hg := hT.good (liveSrc_val R z)
  have hUv : allV U = true := (allV_iff _).2 (by rw [hU, trRun_x]; exact hg.2.2)
  have hc := mem_ctl hok.1
  have hs : Sound P (Mem.take 8) (wT (Mem.getD 8 0)) := ⟨hok.1.1, mem_vars hok.1, hc.1, hc.2.1⟩
  have hsE := (EffIs.sound hE hs hUv).1
  have hES : ∀ q ∈ E.S, isVal q = true := by
    rcases hE with ⟨e, _⟩ | ⟨_, t', T', hT', rfl⟩
    · cases e
    · exact (hT'.good (listSrc_val hUv)).2.1
  refine ⟨⟨hok.1.1, x1, x3, by rw [x4]; exact hsE.2.2.2, ?_, ?_, ?_⟩, x5, hUv⟩
  · rw [x2]; exact List.all_eq_true.2 ((varsOk_iff _).1 hsE.2.1).2
  · have e9 : ((putAll Mem (wrs M)).drop 25).take (wN ((putAll Mem (wrs M)).getD 8 0)).toNat = sentV (putAll Mem (wrs M)) := by unfold sentV; rw [if_pos x3]
    rw [e9, x7, List.all_eq_true]
    intro q hq
    rcases List.mem_append.1 (List.mem_of_mem_take hq) with h9 | h9
    · exact sent_vals hok.1 q h9
    · exact hES q h9
  · rw [x5]; exact LogV.zero _
theorem put_vals : ∀ (K : List Wt) (W : List Int), W.length = 49 → (∀ j : Nat, j < 8 → ∃ q, W[j]? = some q ∧ isVal q = true) → (∀ x ∈ K, ∃ v : Nat, v < 8 ∧ x.p = v ∧ isVal x.v = true) →
    (putAll W K).length = 49 ∧ (∀ j : Nat, 8 ≤ j → (putAll W K)[j]? = W[j]?) ∧ ∀ j : Nat, j < 8 → ∃ q, (putAll W K)[j]? = some q ∧ isVal q = true
  | [], W, h1, h2, _ => ⟨h1, fun _ _ => rfl, h2⟩
  | x :: K, W, h1, h2, h3 => by
    obtain ⟨v, hv, hx, hq⟩ := h3 x (by simp)
    have hl : (put1 W x).length = 49 := by rw [put1_len, h1]
    obtain ⟨i1, i2, i3⟩ := put_vals K (put1 W x) hl (fun j hj => by
      by_cases hjv : j = v
      · subst hjv; exact ⟨x.v, by rw [put1_in hx (by omega), List.getElem?_set_self (by omega)], hq⟩
      · rw [put1_other (by rw [hx]; omega)]; exact h2 j hj) (fun y hy => h3 y (List.mem_cons_of_mem _ hy))
    rw [show putAll W (x :: K) = putAll (put1 W x) K from rfl]
    exact ⟨i1, fun j hj => by rw [i2 j hj, put1_other (by rw [hx]; omega)], i3⟩
theorem mem_at {P : List Tk} {W : List Int} (h : MemIs P W) : ∀ j : Nat, j < 8 → ∃ q, W[j]? = some q ∧ isVal q = true := fun v hv => by
  have hl : v < W.length := by have := h.2.1; omega
  exact ⟨W[v], List.getElem?_eq_getElem hl, List.all_eq_true.1 h.2.2.2.2.1 _ (List.mem_iff_getElem?.2 ⟨v, by rw [List.getElem?_take_of_lt hv]; exact List.getElem?_eq_getElem hl⟩)⟩
theorem rec_mem {P : List Tk} {W : List Int} {Q : List Wt} (h : MemIs P W) (hQ : RecIs W Q) : MemIs P (putAll W Q) ∧ wC ((putAll W Q).getD 8 0) = 0 := by
  have hct := (ctlOk_iff _ _ _).1 h.2.2.1
  rcases hQ with ⟨hr, rfl⟩ | ⟨hn, rfl⟩
  · obtain ⟨c, hcn⟩ : ∃ c : Nat, (wC (W.getD 8 0)).toNat = c := ⟨_, rfl⟩
    have hlog := h.2.2.2.2.2.2
    rw [hcn] at hlog ⊢
    have hco : ctlOk (wT (W.getD 8 0)) 0 (wN (W.getD 8 0)) = true := (ctlOk_iff _ _ _).2 (by omega)
    have hpp := parts_pack hco
    obtain ⟨p1, p2, p3⟩ := put_vals (recEnt W c) W h.2.1 (mem_at h) (fun x hx => by
      obtain ⟨i, hi, rfl⟩ := List.mem_map.1 hx
      rw [List.mem_reverse, List.mem_range] at hi
      obtain ⟨l1, l2⟩ := hlog i hi
      have l3 : 0 ≤ W.getD (9 + 2 * i) 0 ∧ W.getD (9 + 2 * i) 0 ≤ 7 := by simpa [varOk] using l1
      exact ⟨(W.getD (9 + 2 * i) 0).toNat, by omega, by show W.getD (9 + 2 * i) 0 = _; omega, l2⟩)
    rw [putAll_app, show ∀ (A : List Int) (x : Wt), putAll A [x] = put1 A x from fun _ _ => rfl]
    obtain ⟨X, hX⟩ : ∃ X, put1 (putAll W (recEnt W c)) ⟨8, packV (wT (W.getD 8 0)) 0 (wN (W.getD 8 0))⟩ = X := ⟨_, rfl⟩
    have hXl : X.length = 49 := by rw [← hX, put1_len, p1]
    have o : ∀ j : Nat, j ≠ 8 → X[j]? = (putAll W (recEnt W c))[j]? := fun j hj => by rw [← hX]; exact put1_other (by show (8 : Int) ≠ (j : Int); omega)
    have h8 : X.getD 8 0 = packV (wT (W.getD 8 0)) 0 (wN (W.getD 8 0)) := by
      rw [← hX, List.getD_eq_getElem?_getD, put1_in (k := 8) rfl (by omega), List.getElem?_set_self (by omega)]; rfl
    rw [hX]
    refine ⟨⟨h.1, hXl, by rw [h8]; unfold wOk; rw [hpp.1, hpp.2.1, hpp.2.2]; exact hco, by rw [h8, hpp.1]; exact h.2.2.2.1, ?_, ?_, ?_⟩, by rw [h8, hpp.2.1]⟩
    · rw [List.all_eq_true]
      intro x hx
      obtain ⟨v, hv⟩ := List.mem_iff_getElem?.1 hx
      have hv8 : v < 8 := by have := (List.getElem?_eq_some_iff.1 hv).1; rw [List.length_take] at this; omega
      rw [List.getElem?_take_of_lt hv8, o v (by omega)] at hv
      obtain ⟨q, q1, q2⟩ := p3 v hv8
      rw [hv] at q1; cases q1; exact q2
    · rw [h8, hpp.2.2, show X.drop 25 = W.drop 25 from List.ext_getElem? fun j => by rw [List.getElem?_drop, List.getElem?_drop, o _ (by omega), p2 _ (by omega)]]
      exact h.2.2.2.2.2.1
    · rw [h8, hpp.2.1]; exact LogV.zero _
  · rw [putAll_nil]
    refine ⟨h, ?_⟩
    rcases (show wC (W.getD 8 0) = 0 ∨ 0 < wC (W.getD 8 0) by omega) with h0 | h0
    · exact h0
    · exact absurd ⟨h.2.1, h.2.2.1, h0, fun i hi => (h.2.2.2.2.2.2 i hi).1⟩ hn
theorem rec_clean {W : List Int} {Q : List Wt} (h0 : wC (W.getD 8 0) = 0) (hQ : RecIs W Q) : Q = [] := hQ.none (fun hr => by have := hr.2.2.1; omega)
/-! The trace is the only one. -/
theorem TraceIs.unique {P : List Tk} {Mem R : List Int} {z : Int} {r r' : Bool} {M M' : List Mic} {U U' : List Int} (h : TraceIs P Mem R z r M U) (h' : TraceIs P Mem R z r' M' U') : r = r' ∧ M = M' ∧ U = U' := by
  rcases h with ⟨rfl, rfl, rfl, h1⟩ | ⟨rfl, h1, t, T, hT, rfl, rfl⟩ <;> rcases h' with ⟨rfl, rfl, rfl, h2⟩ | ⟨rfl, h2, t', T', hT', rfl, rfl⟩
  · exact ⟨rfl, rfl, rfl⟩
  · exact absurd h2 h1
  · exact absurd h1 h2
  · obtain ⟨rfl, rfl⟩ := hT.unique hT'
    exact ⟨rfl, rfl, rfl⟩
/-! Boots. -/
structure Bt where
  (W : List Int) (z : Int) (U : List (List Int)) (e : Int)
/-- The readings among steps. -/
def snsN (M : List Mic) : Nat := (M.filter fun m => decide (m.a = -1) && decide (m.c = 5)).length
theorem snsN_le (M : List Mic) : snsN M ≤ M.length := List.length_filter_le _ _
/-- The first 'k' steps of a trace are performed. -/
def stepB (s : Bt) (M : List Mic) (k : Nat) : Bt := ⟨putAll s.W (wrs (M.take k)), s.z + snsN (M.take k), s.U, s.e - (csts (M.take k)).sum⟩
def nextB (s : Bt) (M : List Mic) (U : List Int) : Bt := ⟨putAll s.W (wrs M), s.z + snsN M, s.U ++ [U], s.e - (csts M).sum⟩
/-- At most 'n' tasks, from one state to the last one. -/
inductive RunB (P : List Tk) (R : List Int) : Nat → Bt → Bt → Prop
  | zero (s : Bt) : RunB P R 0 s s
  | stop {n : Nat} {s : Bt} {M : List Mic} {U : List Int} : TraceIs P s.W R s.z true M U → cntE (csts M) s.e < M.length → RunB P R (n + 1) s (stepB s M (cntE (csts M) s.e))
  | next {n : Nat} {s s' : Bt} {M : List Mic} {U : List Int} : TraceIs P s.W R s.z true M U → cntE (csts M) s.e = M.length → RunB P R n (nextB s M U) s' → RunB P R (n + 1) s s'
def BtOk (P : List Tk) (R : List Int) (n : Nat) (s : Bt) : Prop := MemIs P s.W ∧ wC (s.W.getD 8 0) = 0 ∧ (0 ≤ s.z ∧ s.z + 15002 * (n : Int) ≤ 1000000) ∧ allV R = true ∧ (0 ≤ s.e ∧ s.e ≤ 100000)
theorem csts_len (M : List Mic) : (csts M).length = M.length := by unfold csts; rw [List.length_map]
theorem cntE_le (M : List Mic) (e : Int) : cntE (csts M) e ≤ M.length := by
  unfold cntE
  split
  · omega
  · have := cntC_le e (csts M) 0; rw [csts_len] at this; exact this
theorem cntC_sum {e : Int} : ∀ (C : List Int) (a : Int), a ≤ e → a + (C.take (cntC e a C)).sum ≤ e
  | [], a, h => by simp; omega
  | c :: C, a, h => by
    unfold cntC
    split
    · rename_i h1
      have := cntC_sum C (a + c) h1
      rw [List.take_succ_cons, List.sum_cons]
      omega
    · simp; omega
theorem cntE_sum {M : List Mic} {e : Int} (h : 0 ≤ e) : (csts (M.take (cntE (csts M) e))).sum ≤ e := by
  have h1 : csts (M.take (cntE (csts M) e)) = (csts M).take (cntE (csts M) e) := by unfold csts; rw [List.map_take]
  rw [h1]
  unfold cntE
  rw [if_neg (by omega)]
  have := cntC_sum (e := e) (csts M) 0 h
  omega
theorem sum_pos {M : List Mic} (h : CostOk M) : 0 ≤ (csts M).sum := by
  have := sum_bounds (csts M) (fun c hc => by obtain ⟨m, hm, rfl⟩ := List.mem_map.1 hc; exact h m hm)
  omega
theorem cost_take {M : List Mic} (h : CostOk M) (k : Nat) : CostOk (M.take k) := fun m hm => h m (List.mem_of_mem_take hm)
theorem BtOk.trace {P : List Tk} {R : List Int} {n : Nat} {s : Bt} (h : BtOk P R n s) : ∃ M U, TraceIs P s.W R s.z true M U := by
  obtain ⟨r, M, U, hT⟩ := traceIs_ex P s.W R s.z
  rcases hT with ⟨_, _, _, h9⟩ | hT
  · exact absurd ⟨h.1, h.2.1, ⟨h.2.2.1.1, by have := h.2.2.1.2; omega⟩, h.2.2.2.1⟩ h9
  · exact ⟨M, U, .inr ⟨rfl, hT.2⟩⟩
theorem BtOk.next {P : List Tk} {R : List Int} {n : Nat} {s : Bt} (h : BtOk P R (n + 1) s) {M : List Mic} {U : List Int} (hT : TraceIs P s.W R s.z true M U) (hc : cntE (csts M) s.e = M.length) : BtOk P R n (nextB s M U) := by
  obtain ⟨m1, m2, m3⟩ := trace_mem hT
  have hl := hT.size.1
  have hs := snsN_le M
  have h1 := cntE_sum (M := M) h.2.2.2.2.1
  rw [hc, List.take_length] at h1
  have h2 := sum_pos hT.cost.1
  obtain ⟨_, _, ⟨z1, z2⟩, v, e1, e2⟩ := h
  refine ⟨m1, m2, ⟨?_, ?_⟩, v, ?_, ?_⟩
  · show 0 ≤ s.z + (snsN M : Int); omega
  · show s.z + (snsN M : Int) + 15002 * (n : Int) ≤ 1000000; push_cast at z2; omega
  · show 0 ≤ s.e - (csts M).sum; omega
  · show s.e - (csts M).sum ≤ 100000; omega
theorem runB_ex {P : List Tk} {R : List Int} : ∀ (n : Nat) (s : Bt), BtOk P R n s → ∃ s', RunB P R n s s'
  | 0, s, _ => ⟨s, .zero s⟩
  | n + 1, s, h => by
    obtain ⟨M, U, hT⟩ := h.trace
    rcases Nat.lt_or_ge (cntE (csts M) s.e) M.length with h1 | h1
    · exact ⟨_, .stop hT h1⟩
    · have h2 : cntE (csts M) s.e = M.length := Nat.le_antisymm (cntE_le M s.e) h1
      obtain ⟨s', hs'⟩ := runB_ex n _ (h.next hT h2)
      exact ⟨s', .next hT h2 hs'⟩
theorem RunB.keeps {P : List Tk} {R : List Int} {n : Nat} {s s' : Bt} (h : RunB P R n s s') : BtOk P R n s → s.U.length ≤ s'.U.length ∧ 0 ≤ s'.e ∧ s.z ≤ s'.z ∧ s'.W.length = 49 ∧ s'.U.length ≤ s.U.length + n := by
  induction h with
  | zero s => intro h; exact ⟨Nat.le_refl _, h.2.2.2.2.1, Int.le_refl _, h.1.2.1, Nat.le_refl _⟩
  | @stop n s M U hT hc =>
    intro h
    have h1 := cntE_sum (M := M) h.2.2.2.2.1
    have h9 := h.1.2.1
    refine ⟨Nat.le_refl _, ?_, ?_, ?_, by show s.U.length ≤ _; omega⟩
    · show 0 ≤ s.e - _; omega
    · show s.z ≤ s.z + _; omega
    · show (putAll s.W _).length = 49; rw [putAll_len]; exact h9
  | @next n s s' M U hT hc _ ih =>
    intro h
    obtain ⟨i1, i2, i3, i4, i5⟩ := ih (h.next hT hc)
    have h1 : (nextB s M U).U.length = s.U.length + 1 := by show (s.U ++ [U]).length = _; simp
    have h2 : (nextB s M U).z = s.z + snsN M := rfl
    rw [h1] at i1 i5
    rw [h2] at i3
    exact ⟨by omega, i2, by omega, i4, by omega⟩
/-- With the energy that a task needs it is completed, with less none. -/
theorem enough {P : List Tk} {R : List Int} {W : List Int} {z A : Int} {M : List Mic} {U : List Int} (hT : TraceIs P W R z true M U) (hA : costW (csts M) = A) {n : Nat} {B B' : Bt} (hb : BtOk P R (n + 1) ⟨W, z, [], A⟩)
    (h : RunB P R (n + 1) ⟨W, z, [], A⟩ B) (h' : RunB P R (n + 1) ⟨W, z, [], A - 1⟩ B') : 1 ≤ A ∧ 1 ≤ B.U.length ∧ B'.U.length = 0 ∧ 0 ≤ B.e ∧ z ≤ B.z := by
  obtain ⟨hco, hne⟩ := hT.cost
  have hl := hT.size.1
  have hcc : ∀ c ∈ csts M, 1 ≤ c ∧ c ≤ 5 := fun c hc => by obtain ⟨m, hm, rfl⟩ := List.mem_map.1 hc; exact hco m hm
  have hle : (csts M).length ≤ 100000 := by rw [csts_len]; omega
  have hcne : csts M ≠ [] := by simp [csts]; exact hne
  obtain ⟨_, c2, c3, _⟩ := counted hcc hle hcne 0
  rw [hA, csts_len] at c2 c3
  have hs := cost_sum hcc hle
  have hsb := sum_bounds (csts M) hcc
  have hpos : 0 < M.length := by cases M with | nil => exact absurd rfl hne | cons => simp
  rw [hA] at hs
  rw [csts_len] at hsb
  obtain ⟨k1, k2, k3, _, _⟩ := h.keeps hb
  refine ⟨by omega, ?_, ?_, k2, k3⟩
  · cases h with
    | stop hT2 hc2 =>
      obtain ⟨_, rfl, _⟩ := TraceIs.unique hT hT2
      have : cntE (csts M) A < M.length := hc2
      omega
    | next hT2 hc2 hr =>
      have i1 := (hr.keeps (hb.next hT2 hc2)).1
      refine Nat.le_trans ?_ i1
      show 1 ≤ (([] : List (List Int)) ++ [_]).length
      simp
  · cases h' with
    | stop hT2 hc2 => rfl
    | next hT2 hc2 hr =>
      obtain ⟨_, rfl, _⟩ := TraceIs.unique hT hT2
      have : cntE (csts M) (A - 1) = M.length := hc2
      omega
/-- The arguments of BootOnce but the energy are valid. -/
def BotOk (P : List Tk) (Mem R : List Int) (z : Int) : Prop := MemIs P Mem ∧ allV R = true ∧ (0 ≤ z ∧ z ≤ 500000)
theorem botOk_dec (P : List Tk) (Mem R : List Int) (z : Int) : ∃ r : Bool, r = true ↔ BotOk P Mem R z := by
  rcases Classical.em (BotOk P Mem R z) with h | h
  · exact ⟨true, by simp [h]⟩
  · exact ⟨false, by simp [h]⟩
def zeroBt : Bt := ⟨[], 0, [], 0⟩
/-- What BootOnce must give. -/
def BootIs (P : List Tk) (Mem R : List Int) (z e : Int) (r : Bool) (B : Bt) : Prop :=
  (r = false ∧ B = zeroBt ∧ ¬ (BotOk P Mem R z ∧ 0 ≤ e ∧ e ≤ 100000)) ∨
    (r = true ∧ (BotOk P Mem R z ∧ 0 ≤ e ∧ e ≤ 100000) ∧ ∃ Q, RecIs Mem Q ∧
      ((e / 3 < Q.length ∧ B = ⟨putAll Mem (Q.take (e / 3).toNat), z, [], e - 3 * (e / 3)⟩) ∨ ((Q.length : Int) ≤ e / 3 ∧ RunB P R 10 ⟨putAll Mem Q, z, [], e - 3 * Q.length⟩ B)))
theorem bootIs_start {P : List Tk} {Mem R : List Int} {z e : Int} {Q : List Wt} (h : BotOk P Mem R z ∧ 0 ≤ e ∧ e ≤ 100000) (hQ : RecIs Mem Q) (hl : (Q.length : Int) ≤ e / 3) : BtOk P R 10 ⟨putAll Mem Q, z, [], e - 3 * Q.length⟩ := by
  obtain ⟨m1, m2⟩ := rec_mem h.1.1 hQ
  refine ⟨m1, m2, ⟨h.1.2.2.1, ?_⟩, h.1.2.1, ?_, ?_⟩
  · have := h.1.2.2.2; show z + 15002 * ((10 : Nat) : Int) ≤ 1000000; omega
  · show 0 ≤ e - 3 * (Q.length : Int); omega
  · show e - 3 * (Q.length : Int) ≤ 100000; omega
theorem bootIs_ex (P : List Tk) (Mem R : List Int) (z e : Int) : ∃ r B, BootIs P Mem R z e r B := by
  rcases Classical.em (BotOk P Mem R z ∧ 0 ≤ e ∧ e ≤ 100000) with h | h
  · obtain ⟨Q, hQ⟩ := recIs_ex Mem
    rcases (show e / 3 < Q.length ∨ (Q.length : Int) ≤ e / 3 by omega) with h1 | h1
    · exact ⟨true, _, .inr ⟨rfl, h, Q, hQ, .inl ⟨h1, rfl⟩⟩⟩
    · obtain ⟨B, hB⟩ := runB_ex 10 _ (bootIs_start h hQ h1)
      exact ⟨true, B, .inr ⟨rfl, h, Q, hQ, .inr ⟨h1, hB⟩⟩⟩
  · exact ⟨false, _, .inl ⟨rfl, rfl, h⟩⟩
/-- What NeedsEnergy must give. -/
def NeedIs (P : List Tk) (Mem R : List Int) (z : Int) (x : Int) : Prop :=
  (¬ BotOk P Mem R z ∧ x = -1) ∨ (BotOk P Mem R z ∧ ∃ Q M U, RecIs Mem Q ∧ TraceIs P (putAll Mem Q) R z true M U ∧ x = 3 * (Q.length : Int) + costW (csts M))
theorem needIs_ex (P : List Tk) (Mem R : List Int) (z : Int) : ∃ x, NeedIs P Mem R z x := by
  rcases Classical.em (BotOk P Mem R z) with h | h
  · obtain ⟨Q, hQ⟩ := recIs_ex Mem
    obtain ⟨m1, m2⟩ := rec_mem h.1 hQ
    obtain ⟨r, M, U, hT⟩ := traceIs_ex P (putAll Mem Q) R z
    rcases hT with ⟨_, _, _, h9⟩ | hT
    · exact absurd ⟨m1, m2, ⟨h.2.2.1, by have := h.2.2.2; omega⟩, h.2.1⟩ h9
    · exact ⟨_, .inr ⟨h, Q, M, U, hQ, .inr ⟨rfl, hT.2⟩, rfl⟩⟩
  · exact ⟨-1, .inl ⟨h, rfl⟩⟩
/-! The words that a trace writes. -/
def AdrOk (M : List Mic) : Prop := ∀ m ∈ M, m.a = -1 ∨ (0 ≤ m.a ∧ m.a < 49)
theorem AdrOk.app {M N : List Mic} (h : AdrOk M) (k : AdrOk N) : AdrOk (M ++ N) := fun m hm => (List.mem_append.1 hm).elim (h m) (k m)
theorem adr_step (k : Int) : AdrOk [stepM k] := fun m hm => by rw [List.mem_singleton.1 hm]; exact .inl rfl
theorem adr_wr {M : List Mic} (h : AdrOk M) {a : Int} (h0 : 0 ≤ a) (h1 : a < 49) (v : Int) : AdrOk (wrM a v :: M) := fun m hm => by
  rcases List.mem_cons.1 hm with rfl | hm
  · exact .inr ⟨h0, h1⟩
  · exact h m hm
theorem adr_nil : AdrOk [] := fun m hm => by cases hm
theorem adr_asg {D : List Int} (hD : Vrs D) {L : List Int} (hL : LogInv D L) (tk tl : Int) (V : List Int) {k : Int} (h0 : 0 ≤ k) (h7 : k ≤ 7) (q : Int) : AdrOk (asgM D tk tl V k q L) := by
  unfold asgM
  split
  · rename_i h
    have := hL.lt hD h
    exact adr_wr (adr_wr (adr_wr (adr_wr adr_nil h0 (by omega) _) (by decide) (by decide) _) (by omega) (by omega) _) (by omega) (by omega) _
  · exact adr_wr adr_nil h0 (by omega) _
theorem texec_adr {src : Int → Nat → Int} {D : List Int} (hD : Vrs D) {tk tl : Int} (ht : 0 ≤ tl) (T : Fst) (hv : AllS One Nst T) (y : Tx) (h : AdrOk y.M ∧ LogInv D y.L) : AdrOk (texec src D tk tl T y).M ∧ LogInv D (texec src D tk tl T y).L :=
  exec_keeps (p := fun y => AdrOk y.M ∧ LogInv D y.L) (fun s y hs h => by
    refine ⟨?_, add_inv h.2 s⟩
    show AdrOk (y.M ++ ([stepM s.k] ++ addM src D tk tl s y))
    refine h.1.app ((adr_step s.k).app ?_)
    unfold addM
    split
    · rename_i hk
      have hv := st_var hs.1 (.inl hk)
      exact adr_asg hD h.2 tk tl _ hv.1 hv.2 _
    split
    · rename_i hk
      have hv := st_var hs.1 (.inr hk)
      exact adr_asg hD h.2 tk tl _ hv.1 hv.2 _
    split
    · split
      · exact adr_wr adr_nil (by omega) (by omega) _
      · exact adr_nil
    · exact adr_nil) (fun s y hs h => ⟨h.1.app (adr_step s.k), h.2⟩) T hv y h
theorem trace_adr {P : List Tk} {Mem R U : List Int} {z : Int} {M : List Mic} (h : TraceIs P Mem R z true M U) : AdrOk M := by
  rcases h with ⟨e, _⟩ | ⟨_, hok, t, T, hT, rfl, _⟩
  · cases e
  obtain ⟨hb, hp⟩ := task_par hT
  have hc := mem_ctl hok.1
  refine (texec_adr (lst_vrs _) (by omega) T (par_allS hb hp) _ ⟨adr_nil, ⟨List.nodup_nil, fun k hk => by cases hk⟩⟩).1.app ?_
  intro m hm
  rcases List.mem_cons.1 hm with rfl | hm
  · exact .inl rfl
  · rw [List.mem_singleton.1 hm]; exact .inr ⟨show (0 : Int) ≤ 8 by decide, show (8 : Int) < 49 by decide⟩
theorem snsN_snoc {M : List Mic} {k : Nat} {m : Mic} (h : M[k]? = some m) : snsN (M.take (k + 1)) = snsN (M.take k) + if (decide (m.a = -1) && decide (m.c = 5)) = true then 1 else 0 := by
  rw [List.take_add_one, h]
  unfold snsN
  rw [List.filter_append, List.length_append]
  cases h1 : (decide (m.a = -1) && decide (m.c = 5)) <;> simp [h1]
theorem sum_snoc {M : List Mic} {k : Nat} {m : Mic} (h : M[k]? = some m) : (csts (M.take (k + 1))).sum = (csts (M.take k)).sum + m.c := by
  rw [List.take_add_one, h]
  simp [csts]
/-- What the law asks, of a clean memory. -/
theorem need_boot {P : List Tk} {Mem R : List Int} {z x : Int} (hok : BotOk P Mem R z) (h0 : wC (Mem.getD 8 0) = 0) (hx : NeedIs P Mem R z x) (hle : x ≤ 100000) {r r' : Bool} {B B' : Bt} (h : BootIs P Mem R z x r B) (h' : BootIs P Mem R z (x - 1) r' B') :
    1 ≤ x ∧ r = true ∧ r' = true ∧ 1 ≤ B.U.length ∧ B'.U.length = 0 ∧ 0 ≤ B.e ∧ z ≤ B.z := by
  rcases hx with ⟨h9, _⟩ | ⟨_, Q, M, U, hQ, hT, rfl⟩
  · exact absurd hok h9
  obtain rfl := rec_clean h0 hQ
  rw [putAll_nil] at hT
  simp only [List.length_nil, Int.natCast_zero, Int.mul_zero, Int.zero_add] at h h' hle ⊢
  obtain ⟨A, hA⟩ : ∃ A, costW (csts M) = A := ⟨_, rfl⟩
  rw [hA] at h h' hle ⊢
  have hpos : 1 ≤ A := by
    obtain ⟨hco, hne⟩ := hT.cost
    have hcc : ∀ c ∈ csts M, 1 ≤ c ∧ c ≤ 5 := fun c hc => by obtain ⟨m, hm, rfl⟩ := List.mem_map.1 hc; exact hco m hm
    have hs := cost_sum hcc (by rw [csts_len]; have := hT.size.1; omega)
    have hsb := sum_bounds (csts M) hcc
    rw [csts_len] at hsb
    have hp : 0 < M.length := by cases M with | nil => exact absurd rfl hne | cons => simp
    omega
  rcases h with ⟨_, _, h9⟩ | ⟨rfl, hb, Q1, hQ1, h1⟩
  · exact absurd ⟨hok, by omega, hle⟩ h9
  rcases h' with ⟨_, _, h9⟩ | ⟨rfl, hb', Q2, hQ2, h2⟩
  · exact absurd ⟨hok, by omega, by omega⟩ h9
  obtain rfl := rec_clean h0 hQ1
  obtain rfl := rec_clean h0 hQ2
  rcases h1 with ⟨h9, _⟩ | ⟨_, h1⟩
  · exfalso; simp at h9; omega
  rcases h2 with ⟨h9, _⟩ | ⟨_, h2⟩
  · exfalso; simp at h9; omega
  rw [putAll_nil] at h1 h2
  simp only [List.length_nil, Int.natCast_zero, Int.mul_zero, Int.sub_zero] at h1 h2
  have hbo := bootIs_start hb hQ1 (by simp; omega)
  rw [putAll_nil] at hbo
  simp only [List.length_nil, Int.natCast_zero, Int.mul_zero, Int.sub_zero] at hbo
  obtain ⟨q1, q2, q3, q4, q5⟩ := enough hT hA hbo h1 h2
  exact ⟨q1, rfl, rfl, q2, q3, q4, q5⟩
end Go.Proofs.YtmgeecdgebemdaaGreatDoor.bot

/- Chapter 16: a boot as a value. -/
namespace Go.Proofs.YtmgeecdgebemdaaGreatDoor.bot
open Go
abbrev botV (am : Option Addr) (nm cm : Nat) (z : Int) (au : Option Addr) (nu cu : Nat) (e : Int) : Value := .agg #[.slice am nm cm, .int .i64 z, .slice au nu cu, .int .i64 e]
abbrev zero4B : Array Value := #[.slice none 0 0, .int .i64 0, .slice none 0 0, .int .i64 0]
end Go.Proofs.YtmgeecdgebemdaaGreatDoor.bot
