/- Several texts in one: QBotX QBotS QRss QExeM QExeR QExeS QTrcM QTrcN QTrcO. -/
import Derived.Test.YtmgeecdgebemdaaGreatDoorGSigQ21
import Derived.Test.YtmgeecdgebemdaaGreatDoorGSigQ22
import Derived.Test.YtmgeecdgebemdaaGreatDoorGSigQ24
import Derived.Test.YtmgeecdgebemdaaGreatDoorGSigQ23
import Derived.Test.YtmgeecdgebemdaaGreatDoorGSigQ17
import Derived.Test.YtmgeecdgebemdaaGreatDoorGSigQ18
import Derived.Test.YtmgeecdgebemdaaGreatDoorGSigQ16
import Derived.Test.YtmgeecdgebemdaaGreatDoorGSigQ0
import Derived.Test.YtmgeecdgebemdaaGreatDoorGSigQ3
import Derived.Laws.AppendOwn
import Derived.Test.YtmgeecdgebemdaaGreatDoorGSigQ4
import Derived.Deep.AppendLies
import Derived.BigQuiet
import Derived.Test.YtmgeecdgebemdaaGreatDoorGSigQ6
import Derived.Test.YtmgeecdgebemdaaGreatDoorGSigQ5

/- Chapter 16 of the program: which arguments are refused; the recovery is performed. -/
namespace Go.Proofs.YtmgeecdgebemdaaGreatDoor.bot
open Go Go.ChangeShapes Go.WideShapes Go.ChangeAt Go.RowKit Go.Proofs.YtmgeecdgebemdaaGreatDoor.row Go.Proofs.YtmgeecdgebemdaaGreatDoor.val Go.Proofs.YtmgeecdgebemdaaGreatDoor.expr Go.Proofs.YtmgeecdgebemdaaGreatDoor.stm Go.Proofs.YtmgeecdgebemdaaGreatDoor.blk Go.Proofs.YtmgeecdgebemdaaGreatDoor.prg Go.Proofs.YtmgeecdgebemdaaGreatDoor.exe Go.Proofs.YtmgeecdgebemdaaGreatDoor.ctl Go.Proofs.YtmgeecdgebemdaaGreatDoor.mem Go.Proofs.YtmgeecdgebemdaaGreatDoor.grow Go.Proofs.YtmgeecdgebemdaaGreatDoor.wrt Go.Proofs.YtmgeecdgebemdaaGreatDoor.trc Go.Proofs.YtmgeecdgebemdaaGreatDoor.rcv
theorem impl_isenergy (z : Int) (r : Bool) (hr : (decide (0 ≤ z) && decide (z ≤ 100000)) = r) (w : World) : Calls Tryz.prog 58 #[.int .i64 z] w (RetB w r) := by
  subst hr
  by_cases h : 0 ≤ z
  · simp only [h, decide_true, Bool.true_and]
    go_enter Tryz.func58, Tryz.ntmps58
    go_wp2
    go_ret
    exact ⟨rfl, rfl⟩
  · simp only [h, decide_false, Bool.false_and]
    go_enter Tryz.func58, Tryz.ntmps58
    go_wp2
    go_ret
    exact ⟨rfl, rfl⟩
set_option maxHeartbeats 4000000 in
set_option maxRecDepth 100000 in
theorem impl_canboot (a : Option Addr) (n cap : Nat) (P : List Tk) (hz : Sizes P) (hcap : n ≤ cap) (w : World) (h : TkRow w a n P) (am : Option Addr) (nm cm : Nat) (Mem : List Int) (hM : Row w am nm Mem) (ar : Option Addr) (nr cr : Nat) (R : List Int) (hnr : (nr : Int) ≤ 1048576) (hR : Row w ar nr R) (z : Int) (h8 : i64r (Mem.getD 8 0)) (r : Bool) (hr : r = true ↔ BotOk P Mem R z) :
    Calls Tryz.prog 56 #[.agg #[.slice a n cap], .slice am nm cm, .slice ar nr cr, .int .i64 z] w (BelB w r) := by
  obtain ⟨W, hW⟩ : ∃ W, w.alloc (.cells #[.slice a n cap] 26) = W := ⟨_, rfl⟩
  have hBW : Below w.heap.size w W := by rw [← hW]; exact below_new w _
  have hpx : Box w.heap.size #[.slice a n cap] 26 W := by rw [← hW]; exact Box.new w _ _
  have c0 : W.cell? ⟨w.heap.size, 0, none⟩ = some (.slice a n cap) := hpx.cell 0
  obtain ⟨rm, hrm⟩ := mem_dec P Mem
  have HMO := Lib.hid (impl_memok8 a n cap P hz hcap W (h.below hBW) am nm cm Mem (hM.below hBW) h8 rm hrm)
  obtain ⟨rv, hrv⟩ : ∃ rv : Bool, allV R = rv := ⟨_, rfl⟩
  have HVA := Lib.hid (show ∀ w', Below W.heap.size W w' → Calls Tryz.prog 109 #[.slice ar nr cr] w' (RetB w' rv) from fun w' hb => impl_are w' ar nr cr R hnr (hR.below (hBW.trans (hb.mono hBW.size))) rv hrv)
  have H0 := Lib.hid hBW
  have hre : r = (rm && rv && decide (0 ≤ z) && decide (z ≤ 500000)) := by
    rw [Bool.eq_iff_iff, hr]
    unfold BotOk
    rw [← hrm, ← hrv]
    simp [and_assoc]
  subst hre
  clear hr hrm hrv hpx hBW h hM hR h8
  cases rm <;> cases rv <;> by_cases h1 : 0 ≤ z
  all_goals
    simp only [h1, decide_true, decide_false, Bool.true_and, Bool.false_and, Bool.and_false, Bool.and_true]
    go_enter Tryz.func56, Tryz.ntmps56
    go_wp2_with (first
      | (go_at_call 49; (with_reducible refine HMO.out.mono ?_); rintro e w2 ⟨rfl, hb2⟩)
      | (go_at_call 109; (with_reducible refine (HVA.out _ hb2).mono ?_); rintro e w5 ⟨rfl, rfl⟩))
    go_ret
    exact ⟨rfl, H0.out.trans (hb2.mono H0.out.size)⟩
theorem rec_adr {W : List Int} {Q : List Wt} (h : RecIs W Q) : ∀ q ∈ Q, 0 ≤ q.p ∧ q.p < 49 := by
  rcases h with ⟨h1, rfl⟩ | ⟨_, rfl⟩
  · intro q hq
    rcases List.mem_append.1 hq with hq | hq
    · obtain ⟨i, hi, rfl⟩ := List.mem_map.1 hq
      rw [List.mem_reverse, List.mem_range] at hi
      have h2 := h1.2.2.2 i hi
      have h3 : 0 ≤ W.getD (9 + 2 * i) 0 ∧ W.getD (9 + 2 * i) 0 ≤ 7 := by simpa [varOk] using h2
      show 0 ≤ W.getD (9 + 2 * i) 0 ∧ W.getD (9 + 2 * i) 0 < 49
      omega
    · rw [List.mem_singleton.1 hq]
      exact ⟨show (0 : Int) ≤ 8 by decide, show (8 : Int) < 49 by decide⟩
  · intro q hq; cases hq
/-- The first 'k' writes of a recovery are performed. -/
def undoB (s : Bt) (Q : List Wt) (k : Nat) : Bt := ⟨putAll s.W (Q.take k), s.z, s.U, s.e - 3 * (k : Int)⟩
theorem undoB_next {s : Bt} {Q : List Wt} {k : Nat} {p v : Int} (h : Q[k]? = some ⟨p, v⟩) (hp : 0 ≤ p ∧ p < 49) (hl : s.W.length = 49) : perB (undoB s Q k) ⟨3, p, v⟩ = undoB s Q (k + 1) := by
  have h1 : putAll s.W (Q.take (k + 1)) = (putAll s.W (Q.take k)).set p.toNat v := by
    rw [List.take_add_one, h, putAll_app]
    show put1 _ ⟨p, v⟩ = _
    exact put1_in (show p = ((p.toNat : Nat) : Int) by omega) (by rw [putAll_len, hl]; omega)
  unfold undoB perB
  refine (Bt.mk.injEq ..).mpr ⟨?_, ?_, rfl, ?_⟩
  · rw [if_neg (by show ¬ p = -1; omega), h1]
  · show s.z + (if (decide (p = -1) && decide ((3 : Int) = 5)) = true then 1 else 0) = s.z
    rw [if_neg (by simp)]; omega
  · show s.e - 3 * (k : Int) - 3 = s.e - 3 * ((k + 1 : Nat) : Int); push_cast; omega
/-- What the recovery of a boot must give. -/
def UndoR (w0 : World) (gb gm lu cm : Nat) (au : Option Addr) (nu cu : Nat) (CS : List Value) (s : Bt) (Q : List Wt) (w : World) (e : Ending) (w' : World) : Prop :=
  ((e = .returned (.tuple #[]) ∧ (Q.length : Int) ≤ s.e / 3 ∧ Hid (BAt w0 gb gm lu cm au nu cu CS (undoB s Q Q.length) w')) ∨ (e = .panicked [{ v := PF, recovered := false }] ∧ s.e / 3 < Q.length ∧ Hid (BAt w0 gb gm lu cm au nu cu CS (undoB s Q (s.e / 3).toNat) w'))) ∧ Hid (Pair gb gm w w')
set_option maxHeartbeats 8000000 in
set_option maxRecDepth 100000 in
theorem impl_undo (w0 : World) (gb gm lu cm : Nat) (au : Option Addr) (nu cu : Nat) (CS : List Value) (s : Bt) (w : World) (h : BAt w0 gb gm lu cm au nu cu CS s w) (hl : s.W.length = 49) (h8 : i64r (s.W.getD 8 0)) (Q : List Wt) (hQ : RecIs s.W Q) (her : 0 ≤ s.e ∧ s.e ≤ 100000) (hzr : 0 ≤ s.z ∧ s.z ≤ 1000000) :
    Calls Tryz.prog 120 #[.pointer (some ⟨gb, 0, none⟩)] w (UndoR w0 gb gm lu cm au nu cu CS s Q w) := by
  have hgb : gb < w.heap.size := h.1.lt
  have hgm : gm < w.heap.size := by have := h.2.1; omega
  have HRW := Lib.hid (impl_recw w (some ⟨gm, 0, none⟩) 49 cm s.W (by decide) h.2.1.2.2.2.2.2.2 (Row.of_own h.2.2.1) h8 Q hQ)
  have b0 : w.cell? ⟨gb, 0, none⟩ = some (.slice (some ⟨gm, 0, none⟩) 49 cm) := h.1.cell 0
  have HB := Lib.hid h
  have HQ := Lib.hid (And.intro (rec_adr hQ) (And.intro hl (Go.Proofs.YtmgeecdgebemdaaGreatDoor.rcv.RecIs.len hQ)))
  clear h hQ h8 hl
  go_enter Tryz.func120, Tryz.ntmps120
  go_wp2_with (go_at_call 57; (with_reducible refine HRW.out.mono ?_); rintro e9 w2 ⟨q, nq, cq, rfl, hq, hb2⟩; refine Hid.out ?_)
  obtain rfl : Q.length = nq := by have h9 := hq.1; rw [writesC_len] at h9; omega
  have hnq : Q.length ≤ 9 := HQ.out.2.2
  have H2 := Lib.hid (And.intro (HB.out.below hb2) (And.intro (Pair.of_below (f := gb) (g := gm) hb2) hq))
  clear hq hb2 b0 HRW
  refine Lib.hid ?_
  go_wp2
  go_loopw [3, 10] (fun _ i wr => ∃ k : Nat, k ≤ Q.length ∧ i = .int .i64 k ∧ 3 * (k : Int) ≤ s.e ∧ Hid (BAt w0 gb gm lu cm au nu cu CS (undoB s Q k) wr) ∧ Hid (Pair gb gm w wr ∧ wr.ownsRow w.heap.size 100 2 (.slice q Q.length cq) Q.length (writesC Q))) (fun _ i _ => Q.length - (Go.RowKit.intOf i).toNat)
  case atStart =>
    refine ⟨0, Nat.zero_le _, rfl, by omega, ?_, H2.out.2⟩
    show BAt w0 gb gm lu cm au nu cu CS ⟨putAll s.W (Q.take 0), s.z, s.U, s.e - 3 * ((0 : Nat) : Int)⟩ w2
    simpa [putAll] using H2.out.1
  case round =>
    obtain ⟨k, hk, rfl, hke, HBk, HPk⟩ := hrel
    by_cases hlt : k < Q.length
    · have hI : (k : Int) < Q.length := by omega
      obtain ⟨b, off, p, rfl, hlb, hp, hr⟩ := (wrow_own HPk.out.2 rfl).2 k hlt
      obtain ⟨pp, pv⟩ := p
      have hpr := HQ.out.1 _ (List.mem_of_getElem? hp)
      have HN := Lib.hid (undoB_next (s := s) hp hpr HQ.out.2.1)
      have HR := Lib.hid hr
      clear hr hp
      go_wp2_with (first
        | (refine wpList_load_mid rfl 100 _ rfl b (off + k * 2) rfl (writeC ⟨pp, pv⟩) _ HR.out Tryz.underlying100 rfl (by kernel_rfl) ?_)
        | (refine wpList_store_box rfl 100 _ _ rfl wr.heap.size _ _ (Box.new wr _ _) #[.int .i64 pp, .int .i64 pv] rfl rfl rfl (by kernel_rfl) (by simp [Value.oneCell']) ?_; intro w3 hx3 hg3; refine Hid.out ?_))
      have hb3 : Below wr.heap.size wr w3 := (below_new wr _).grown hg3 (by simp) (fun j hj => by cases hj; exact Nat.le_refl _)
      have H3 := Lib.hid (And.intro hx3 (And.intro (HBk.out.below hb3) (And.intro (HPk.out.1.trans (Pair.of_below hb3)) ((Pair.of_below (f := gb) (g := gm) hb3).own HPk.out.2 hgb hgm))))
      clear hx3 hg3 hb3
      by_cases h3 : 3 ≤ s.e - 3 * (k : Int)
      · have HPF := Lib.hid (show ∀ w', Below w3.heap.size w3 w' → Calls Tryz.prog 163 #[.pointer (some ⟨gb, 0, none⟩), .agg #[.int .i64 3, .int .i64 pp, .int .i64 pv]] w' fun e w'' => e = .returned (.tuple #[]) ∧ Hid (BAt w0 gb gm lu cm au nu cu CS (undoB s Q (k + 1)) w'' ∧ Pair gb gm w' w'') from fun w' hb => by
          rw [← HN.out]
          exact impl_perform_ok w0 gb gm lu cm au nu cu CS (undoB s Q k) w' (H3.out.2.1.below hb) ⟨3, pp, pv⟩ h3 ⟨show (1 : Int) ≤ 3 by decide, show (3 : Int) ≤ 5 by decide⟩ (.inr hpr) ⟨by show 0 ≤ s.e - 3 * (k : Int); omega, by show s.e - 3 * (k : Int) ≤ 100000; omega⟩ hzr)
        refine Lib.hid ?_
        go_wp2_with (first
          | (refine wpList_load_row rfl 100 _ rfl wr.heap.size rfl _ _ _ _ H3.out.1 Tryz.underlying100 rfl (by kernel_rfl) ?_)
          | (go_at_call 78; (with_reducible refine (impl_wstep pp pv _).mono ?_); rintro e8 w4 ⟨rfl, hb4⟩)
          | (go_at_call 163; (with_reducible refine (HPF.out _ hb4).mono ?_); rintro e7 w5 ⟨rfl, hm5⟩; refine Hid.out ?_))
        have H5 := Lib.hid (And.intro hm5.out.1 (And.intro ((H3.out.2.2.1.trans (Pair.of_below hb4)).trans hm5.out.2) (hm5.out.2.own ((Pair.of_below (f := gb) (g := gm) hb4).own H3.out.2.2.2 hgb hgm) hgb hgm)))
        clear hm5 hb4
        refine Lib.hid ?_
        go_wp2
        go_roundw
        case rel => exact ⟨k + 1, by omega, by go_num, by push_cast; omega, H5.out.1, H5.out.2⟩
        case measure => simp [Go.RowKit.intOf]; omega
      · have hke2 : (s.e / 3).toNat = k := by omega
        have HPF := Lib.hid (show ∀ w', Below w3.heap.size w3 w' → Calls Tryz.prog 163 #[.pointer (some ⟨gb, 0, none⟩), .agg #[.int .i64 3, .int .i64 pp, .int .i64 pv]] w' fun e w'' => e = .panicked [{ v := PF, recovered := false }] ∧ Hid (BAt w0 gb gm lu cm au nu cu CS (undoB s Q k) w'') ∧ Below w'.heap.size w' w'' from fun w' hb =>
          impl_perform_no w0 gb gm lu cm au nu cu CS (undoB s Q k) w' (H3.out.2.1.below hb) ⟨3, pp, pv⟩ (show s.e - 3 * (k : Int) < 3 by omega))
        refine Lib.hid ?_
        go_wp2_with (first
          | (refine wpList_load_row rfl 100 _ rfl wr.heap.size rfl _ _ _ _ H3.out.1 Tryz.underlying100 rfl (by kernel_rfl) ?_)
          | (go_at_call 78; (with_reducible refine (impl_wstep pp pv _).mono ?_); rintro e8 w4 ⟨rfl, hb4⟩)
          | (go_at_call 163; (with_reducible refine (HPF.out _ hb4).mono ?_); rintro e7 w5 ⟨rfl, hm5, hb5⟩; refine Hid.out ?_))
        have H9 := Lib.hid (And.intro hm5.out ((H3.out.2.2.1.trans (Pair.of_below hb4)).trans (Pair.of_below hb5)))
        clear hm5 hb4 hb5
        exact Lib.hid ⟨rfl, .inr ⟨rfl, by omega, by rw [hke2]; exact H9.out.1⟩, H9.out.2⟩
    · obtain rfl : k = Q.length := by omega
      have hI : ¬ ((Q.length : Nat) : Int) < Q.length := by omega
      go_wp2
      exact ⟨rfl, _, results_none rfl _ _ _, .inl ⟨rfl, by omega, HBk.out⟩, HPk.out.1⟩
end Go.Proofs.YtmgeecdgebemdaaGreatDoor.bot

/- Chapter 16 of the model: l16Senses, l16Ok: nothing that was there is written. -/
namespace Go.Proofs.YtmgeecdgebemdaaGreatDoor.bot
open Go Go.ChangeShapes Go.WideShapes Go.ChangeAt Go.RowKit Go.Proofs.YtmgeecdgebemdaaGreatDoor.row Go.Proofs.YtmgeecdgebemdaaGreatDoor.val Go.Proofs.YtmgeecdgebemdaaGreatDoor.expr Go.Proofs.YtmgeecdgebemdaaGreatDoor.stm Go.Proofs.YtmgeecdgebemdaaGreatDoor.blk Go.Proofs.YtmgeecdgebemdaaGreatDoor.prg Go.Proofs.YtmgeecdgebemdaaGreatDoor.exe Go.Proofs.YtmgeecdgebemdaaGreatDoor.ctl Go.Proofs.YtmgeecdgebemdaaGreatDoor.mem Go.Proofs.YtmgeecdgebemdaaGreatDoor.grow Go.Proofs.YtmgeecdgebemdaaGreatDoor.wrt Go.Proofs.YtmgeecdgebemdaaGreatDoor.trc
end Go.Proofs.YtmgeecdgebemdaaGreatDoor.bot

/- A struct in one block that holds rows of its own, each in new memory and apart from the others: what stays, and what turns, where one of them is written. -/
namespace Go.Proofs.YtmgeecdgebemdaaGreatDoor.rss
open Go Go.ChangeShapes Go.WideShapes Go.ChangeAt Go.RowKit Go.Proofs.YtmgeecdgebemdaaGreatDoor.row
/-- A row: the slice, how many elements, the cells, the element's type and size. -/
structure RS where
  (v : Value) (n : Nat) (xs : List Value) (e : TypeId) (s : Nat)
abbrev Own (r : RS) (B : Nat) (w : World) : Prop := w.ownsRow B r.e r.s r.v r.n r.xs
/-- No block stands in two places. -/
def Sep (l : List (Option Nat)) : Prop := ∀ (i j b : Nat), l[i]? = some (some b) → l[j]? = some (some b) → i = j
theorem Sep.set {l : List (Option Nat)} (h : Sep l) {N : Nat} (hb : ∀ (j b : Nat), l[j]? = some (some b) → b < N) (i : Nat) {x : Option Nat} (hx : l[i]? = some x ∨ ∀ b, x = some b → N ≤ b) : Sep (l.set i x) := by
  intro p q b hp hq
  rw [List.getElem?_set] at hp hq
  by_cases h1 : i = p <;> by_cases h2 : i = q
  · omega
  · rw [if_pos h1] at hp; rw [if_neg h2] at hq
    split at hp
    · have hxb : x = some b := Option.some.inj hp
      rcases hx with hx | hx
      · rw [hxb] at hx; have := h i q b hx hq; omega
      · have := hx b hxb; have := hb q b hq; omega
    · cases hp
  · rw [if_neg h1] at hp; rw [if_pos h2] at hq
    split at hq
    · have hxb : x = some b := Option.some.inj hq
      rcases hx with hx | hx
      · rw [hxb] at hx; have := h p i b hp hx; omega
      · have := hx b hxb; have := hb p b hp; omega
    · cases hq
  · rw [if_neg h1] at hp; rw [if_neg h2] at hq
    exact h p q b hp hq
abbrev blks (g : Nat) (l : List RS) : List (Option Nat) := some g :: l.map fun r => r.v.ownBlock
structure RsAt (B g : Nat) (l : List RS) (w : World) : Prop where
  low : B ≤ g
  lt : g < w.heap.size
  own : ∀ (j : Nat) (r : RS), l[j]? = some r → Own r B w
  sep : Sep (blks g l)
theorem blks_at {g : Nat} {l : List RS} {j : Nat} {r : RS} (h : l[j]? = some r) : (blks g l)[j + 1]? = some r.v.ownBlock := by simp [h]
theorem RsAt.bound {B g : Nat} {l : List RS} {w : World} (h : RsAt B g l w) : ∀ (j b : Nat), (blks g l)[j]? = some (some b) → b < w.heap.size
  | 0, b, e => by
    have : some g = some b := Option.some.inj e
    cases this; exact h.lt
  | j + 1, b, e => by
    have e' : (l.map fun r => r.v.ownBlock)[j]? = some (some b) := e
    rw [List.getElem?_map] at e'
    cases hr : l[j]? with
    | none => rw [hr] at e'; cases e'
    | some r =>
      rw [hr] at e'
      exact ((h.own j r hr).lt b (Option.some.inj e')).2
theorem RsAt.ne_g {B g : Nat} {l : List RS} {w : World} (h : RsAt B g l w) {j : Nat} {r : RS} (hr : l[j]? = some r) : r.v.ownBlock ≠ some g := fun e => by
  have := h.sep 0 (j + 1) g rfl (by rw [blks_at hr, e])
  omega
theorem RsAt.apart {B g : Nat} {l : List RS} {w : World} (h : RsAt B g l w) {i j : Nat} {r r' : RS} (hr : l[i]? = some r) (hr' : l[j]? = some r') (hij : i ≠ j) : r.v.ownBlock = none ∨ r.v.ownBlock ≠ r'.v.ownBlock := by
  cases e : r.v.ownBlock with
  | none => exact .inl rfl
  | some b =>
    right
    intro e2
    have := h.sep (i + 1) (j + 1) b (by rw [blks_at hr, e]) (by rw [blks_at hr', ← e2])
    omega
theorem RsAt.below {B g : Nat} {l : List RS} {w w' : World} (h : RsAt B g l w) (hb : Below w.heap.size w w') : RsAt B g l w' :=
  ⟨h.low, Nat.lt_of_lt_of_le h.lt hb.size, fun j r hr => (h.own j r hr).kept (grown_below hb none) (by cases r.v.ownBlock <;> simp), h.sep⟩
/-- The block itself is written. -/
theorem RsAt.put {B g : Nat} {l : List RS} {w w' : World} (h : RsAt B g l w) (hg : w.grownBy w' (some g)) : RsAt B g l w' :=
  ⟨h.low, Nat.lt_of_lt_of_le h.lt hg.size, fun j r hr => (h.own j r hr).kept hg (.inr (h.ne_g hr)), h.sep⟩
/-- One row is written or has moved. -/
theorem RsAt.grow {B g : Nat} {l : List RS} {w w' : World} (h : RsAt B g l w) {i : Nat} {r r' : RS} (hi : l[i]? = some r) (hg : w.grownBy w' r.v.ownBlock) (ho : Own r' B w') (hat : r'.v.ownBlock = r.v.ownBlock ∨ ∀ b, r'.v.ownBlock = some b → w.heap.size ≤ b) : RsAt B g (l.set i r') w' := by
  have hil := (List.getElem?_eq_some_iff.1 hi).1
  refine ⟨h.low, Nat.lt_of_lt_of_le h.lt hg.size, fun j q hq => ?_, ?_⟩
  · rw [List.getElem?_set] at hq
    by_cases hij : i = j
    · rw [if_pos hij, if_pos hil] at hq
      cases hq; exact ho
    · rw [if_neg hij] at hq
      exact (h.own j q hq).kept hg (h.apart hq hi (fun e => hij e.symm))
  · have e : blks g (l.set i r') = (blks g l).set (i + 1) r'.v.ownBlock := by simp [blks, List.map_set]
    rw [e]
    exact h.sep.set h.bound (i + 1) (hat.imp (fun e => by rw [blks_at hi, e]) id)
/-- From 'w' to 'w'' only these blocks and new ones are written; the blocks that are held then are of these or new. -/
structure Mv (l : List (Option Nat)) (w : World) (l' : List (Option Nat)) (w' : World) : Prop where
  os : w'.os = w.os
  tape : w'.tape = w.tape
  output : w'.output = w.output
  size : w.heap.size ≤ w'.heap.size
  block : ∀ b, b < w.heap.size → (∀ j : Nat, l[j]? ≠ some (some b)) → w'.heap[b]? = w.heap[b]?
  sub : ∀ (j b : Nat), l'[j]? = some (some b) → b < w.heap.size → ∃ i : Nat, l[i]? = some (some b)
theorem Mv.refl (l : List (Option Nat)) (w : World) : Mv l w l w := ⟨rfl, rfl, rfl, Nat.le_refl _, fun _ _ _ => rfl, fun j _ h _ => ⟨j, h⟩⟩
theorem Mv.trans {l l' l2 : List (Option Nat)} {w w' w2 : World} (h : Mv l w l' w') (k : Mv l' w' l2 w2) : Mv l w l2 w2 :=
  ⟨k.os.trans h.os, k.tape.trans h.tape, k.output.trans h.output, Nat.le_trans h.size k.size,
    fun b hb hn => (k.block b (Nat.lt_of_lt_of_le hb h.size) (fun j e => by obtain ⟨i, hi⟩ := h.sub j b e hb; exact hn i hi)).trans (h.block b hb hn),
    fun j b e hb => by obtain ⟨i, hi⟩ := k.sub j b e (Nat.lt_of_lt_of_le hb h.size); exact h.sub i b hi hb⟩
theorem Mv.of_below {w w' : World} (l : List (Option Nat)) (hb : Below w.heap.size w w') : Mv l w l w' := ⟨hb.os, hb.tape, hb.output, hb.size, fun b h _ => hb.block b h, fun j _ h _ => ⟨j, h⟩⟩
theorem Mv.of_grown {l : List (Option Nat)} {w w' : World} {i : Nat} {o : Option Nat} (hi : l[i]? = some o) (hg : w.grownBy w' o) {x : Option Nat} (hx : x = o ∨ ∀ b, x = some b → w.heap.size ≤ b) : Mv l w (l.set i x) w' :=
  ⟨hg.os, hg.tape, hg.output, hg.size, fun b hb hn => hg.block b hb (fun e => hn i (by rw [hi, ← e])), fun j b e hb => by
    rw [List.getElem?_set] at e
    by_cases hij : i = j
    · rw [if_pos hij] at e
      split at e
      · have hxb : x = some b := Option.some.inj e
        rcases hx with hx | hx
        · exact ⟨i, by rw [hi, ← hx, hxb]⟩
        · have := hx b hxb; omega
      · cases e
    · rw [if_neg hij] at e; exact ⟨j, e⟩⟩
theorem Mv.below {l l' : List (Option Nat)} {w w' : World} (h : Mv l w l' w') {B : Nat} (hl : ∀ (j b : Nat), l[j]? = some (some b) → B ≤ b) (hB : B ≤ w.heap.size) : Below B w w' :=
  ⟨h.os, h.tape, h.output, h.size, fun b hb => h.block b (by omega) (fun j e => by have := hl j b e; omega)⟩
theorem RsAt.base {B g : Nat} {l : List RS} {w : World} (h : RsAt B g l w) : ∀ (j b : Nat), (blks g l)[j]? = some (some b) → B ≤ b
  | 0, b, e => by
    have : some g = some b := Option.some.inj e
    cases this; exact h.low
  | j + 1, b, e => by
    have e' : (l.map fun r => r.v.ownBlock)[j]? = some (some b) := e
    rw [List.getElem?_map] at e'
    cases hr : l[j]? with
    | none => rw [hr] at e'; cases e'
    | some r =>
      rw [hr] at e'
      exact ((h.own j r hr).lt b (Option.some.inj e')).1
/-- A block that is none of these stays. -/
theorem Mv.box {l l' : List (Option Nat)} {w w' : World} (h : Mv l w l' w') {q : Nat} {cs : Array Value} {t : TypeId} (hx : Box q cs t w) (hn : ∀ j : Nat, l[j]? ≠ some (some q)) : Box q cs t w' := (h.block q hx.lt hn).trans hx
/-- A block that lay before stays apart. -/
theorem Mv.out {l l' : List (Option Nat)} {w w' : World} (h : Mv l w l' w') {q : Nat} (hq : q < w.heap.size) (hn : ∀ j : Nat, l[j]? ≠ some (some q)) : ∀ j : Nat, l'[j]? ≠ some (some q) := fun j e => by
  obtain ⟨i, hi⟩ := h.sub j q e hq
  exact hn i hi
/-- One row is written or has moved, and then the block: what the struct holds. -/
theorem RsAt.app {B g : Nat} {l : List RS} {w w' : World} {cs : Array Value} {t : TypeId} (h : RsAt B g l w) (hx : Box g cs t w) {i : Nat} {r r' : RS} (hi : l[i]? = some r) (hg : w.grownBy w' r.v.ownBlock) (ho : Own r' B w') (hat : r'.v.ownBlock = r.v.ownBlock ∨ ∀ b, r'.v.ownBlock = some b → w.heap.size ≤ b) (c : Nat) (u : Value) :
    RsAt B g (l.set i r') (w'.setCell ⟨g, c, none⟩ u) ∧ Box g (cs.setIfInBounds c u) t (w'.setCell ⟨g, c, none⟩ u) ∧ Mv (blks g l) w (blks g (l.set i r')) (w'.setCell ⟨g, c, none⟩ u) ∧ Box g cs t w' := by
  have hx' := hx.grown hg (fun e => h.ne_g hi e.symm)
  have e : blks g (l.set i r') = (blks g l).set (i + 1) r'.v.ownBlock := by simp [blks, List.map_set]
  refine ⟨(h.grow hi hg ho hat).put (grown_setCell w' g c u), hx'.set c u, ?_, hx'⟩
  have m1 : Mv (blks g l) w (blks g (l.set i r')) w' := by rw [e]; exact Mv.of_grown (blks_at hi) hg hat
  have m2 := Mv.of_grown (l := blks g (l.set i r')) (i := 0) (o := some g) rfl (grown_setCell w' g c u) (x := some g) (.inl rfl)
  exact m1.trans m2
/-- A cell of a row is written. -/
theorem RsAt.cellset {B g : Nat} {l : List RS} {w w' : World} {cs : Array Value} {t : TypeId} (h : RsAt B g l w) (hx : Box g cs t w) {i : Nat} {r r' : RS} (hi : l[i]? = some r) (hg : w.grownBy w' r.v.ownBlock) (ho : Own r' B w') (hv : r'.v = r.v) :
    RsAt B g (l.set i r') w' ∧ Box g cs t w' ∧ Mv (blks g l) w (blks g (l.set i r')) w' := by
  have e : blks g (l.set i r') = (blks g l).set (i + 1) r'.v.ownBlock := by simp [blks, List.map_set]
  refine ⟨h.grow hi hg ho (.inl (by rw [hv])), hx.grown hg (fun e => h.ne_g hi e.symm), ?_⟩
  rw [e]
  exact Mv.of_grown (blks_at hi) hg (.inl (by rw [hv]))
end Go.Proofs.YtmgeecdgebemdaaGreatDoor.rss

/- Chapter 12 of the model: ReadSensor, and whether every element is a value; nothing that was there is written. -/
namespace Go.Proofs.YtmgeecdgebemdaaGreatDoor.exe
open Go Go.ChangeShapes Go.WideShapes Go.ChangeAt Go.RowKit Go.Proofs.YtmgeecdgebemdaaGreatDoor.row Go.Proofs.YtmgeecdgebemdaaGreatDoor.val Go.Proofs.YtmgeecdgebemdaaGreatDoor.expr Go.Proofs.YtmgeecdgebemdaaGreatDoor.stm Go.Proofs.YtmgeecdgebemdaaGreatDoor.blk Go.Proofs.YtmgeecdgebemdaaGreatDoor.prg
end Go.Proofs.YtmgeecdgebemdaaGreatDoor.exe

/- The state of an execution in memory: a struct that holds three rows of its own (the variables, what is sent, what is sensed); nothing else that was there is written. -/
namespace Go.Proofs.YtmgeecdgebemdaaGreatDoor.exe
open Go Go.ChangeShapes Go.WideShapes Go.ChangeAt Go.RowKit Go.Proofs.YtmgeecdgebemdaaGreatDoor.row Go.Proofs.YtmgeecdgebemdaaGreatDoor.val Go.Proofs.YtmgeecdgebemdaaGreatDoor.expr Go.Proofs.YtmgeecdgebemdaaGreatDoor.stm Go.Proofs.YtmgeecdgebemdaaGreatDoor.blk Go.Proofs.YtmgeecdgebemdaaGreatDoor.prg
end Go.Proofs.YtmgeecdgebemdaaGreatDoor.exe

/- The model's l12Sense: the next sensed value; the state grows by it; nothing else that was there is written. -/
namespace Go.Proofs.YtmgeecdgebemdaaGreatDoor.exe
open Go Go.ChangeShapes Go.WideShapes Go.ChangeAt Go.RowKit Go.Proofs.YtmgeecdgebemdaaGreatDoor.row Go.Proofs.YtmgeecdgebemdaaGreatDoor.val Go.Proofs.YtmgeecdgebemdaaGreatDoor.expr Go.Proofs.YtmgeecdgebemdaaGreatDoor.stm Go.Proofs.YtmgeecdgebemdaaGreatDoor.blk Go.Proofs.YtmgeecdgebemdaaGreatDoor.prg
end Go.Proofs.YtmgeecdgebemdaaGreatDoor.exe

/- Chapter 14 of the model: the state of an execution with its steps in memory; l14Step, l14Write, l12Sense within it, the costs, a variable in a list. -/
namespace Go.Proofs.YtmgeecdgebemdaaGreatDoor.trc
open Go Go.ChangeShapes Go.WideShapes Go.ChangeAt Go.RowKit Go.Proofs.YtmgeecdgebemdaaGreatDoor.row Go.Proofs.YtmgeecdgebemdaaGreatDoor.val Go.Proofs.YtmgeecdgebemdaaGreatDoor.expr Go.Proofs.YtmgeecdgebemdaaGreatDoor.stm Go.Proofs.YtmgeecdgebemdaaGreatDoor.blk Go.Proofs.YtmgeecdgebemdaaGreatDoor.prg Go.Proofs.YtmgeecdgebemdaaGreatDoor.exe Go.Proofs.YtmgeecdgebemdaaGreatDoor.grow Go.Proofs.YtmgeecdgebemdaaGreatDoor.rss
theorem infoMic : (Tryz.prog.info? 98).map (fun i => (i.zero, i.size, i.bytes)) = some (some (.agg #[.int .i64 0, .int .i64 0, .int .i64 0]), 3, 24) := by kernel_rfl
theorem microsC_snoc (M : List Mic) (m : Mic) : microsC M ++ [.int .i64 m.c, .int .i64 m.a, .int .i64 m.v] = microsC (M ++ [m]) := by simp [microsC, gcs, microC]
end Go.Proofs.YtmgeecdgebemdaaGreatDoor.trc

/- Chapter 14 of the model: l14Assign: a log entry where one is needed, the variable, the steps of both; nothing else that was there is written. -/
namespace Go.Proofs.YtmgeecdgebemdaaGreatDoor.trc
open Go Go.ChangeShapes Go.WideShapes Go.ChangeAt Go.RowKit Go.Proofs.YtmgeecdgebemdaaGreatDoor.row Go.Proofs.YtmgeecdgebemdaaGreatDoor.val Go.Proofs.YtmgeecdgebemdaaGreatDoor.expr Go.Proofs.YtmgeecdgebemdaaGreatDoor.stm Go.Proofs.YtmgeecdgebemdaaGreatDoor.blk Go.Proofs.YtmgeecdgebemdaaGreatDoor.prg Go.Proofs.YtmgeecdgebemdaaGreatDoor.exe Go.Proofs.YtmgeecdgebemdaaGreatDoor.grow Go.Proofs.YtmgeecdgebemdaaGreatDoor.rss Go.Proofs.YtmgeecdgebemdaaGreatDoor.ctl
end Go.Proofs.YtmgeecdgebemdaaGreatDoor.trc

/- Chapter 14, plain mathematics: the bounds under which an execution with its steps goes on. -/
namespace Go.Proofs.YtmgeecdgebemdaaGreatDoor.trc
open Go Go.Proofs.YtmgeecdgebemdaaGreatDoor.stm Go.Proofs.YtmgeecdgebemdaaGreatDoor.blk Go.Proofs.YtmgeecdgebemdaaGreatDoor.expr Go.Proofs.YtmgeecdgebemdaaGreatDoor.sets Go.Proofs.YtmgeecdgebemdaaGreatDoor.val Go.Proofs.YtmgeecdgebemdaaGreatDoor.prg Go.Proofs.YtmgeecdgebemdaaGreatDoor.exe Go.Proofs.YtmgeecdgebemdaaGreatDoor.wrt Go.Proofs.YtmgeecdgebemdaaGreatDoor.ctl
section
variable {src : Int → Nat → Int} {D : List Int} {tk tl : Int}
end
end Go.Proofs.YtmgeecdgebemdaaGreatDoor.trc
