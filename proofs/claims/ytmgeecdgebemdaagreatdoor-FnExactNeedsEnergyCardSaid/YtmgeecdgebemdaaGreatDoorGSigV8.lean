/- Several texts in one: VPrgW VExeC. -/
import Derived.Test.YtmgeecdgebemdaaGreatDoorGSigV5
import Derived.Test.YtmgeecdgebemdaaGreatDoorGSigV7
import Derived.Test.YtmgeecdgebemdaaGreatDoorGSigV6
import Derived.Deep.RegionHeld3
import Derived.IntWalk

/- Chapter 6's model: ProgramOk, NextTask: what the plain relations say; nothing that was there is written. -/
namespace Go.Proofs.YtmgeecdgebemdaaGreatDoor.prg
open Go Go.ChangeShapes Go.WideShapes Go.ChangeAt Go.RowKit Go.Proofs.YtmgeecdgebemdaaGreatDoor.row Go.Proofs.YtmgeecdgebemdaaGreatDoor.val Go.Proofs.YtmgeecdgebemdaaGreatDoor.expr Go.Proofs.YtmgeecdgebemdaaGreatDoor.stm Go.Proofs.YtmgeecdgebemdaaGreatDoor.blk
/-- Each task ahead of 'k' is valid. -/
def OkTasks (P : List Tk) (k : Nat) : Prop := ∀ j t, j < k → P[j]? = some t → IsBlk t.b ∧ exprOk t.o t.x t.y = true
theorem OkTasks.zero (P : List Tk) : OkTasks P 0 := fun j t h => by omega
theorem OkTasks.next {P : List Tk} {k : Nat} {t : Tk} (h : OkTasks P k) (ht : P[k]? = some t) (hb : IsBlk t.b) (he : exprOk t.o t.x t.y = true) : OkTasks P (k + 1) := fun j t' hj ht' => by
  by_cases e : j = k
  · subst e; rw [ht] at ht'; cases ht'; exact ⟨hb, he⟩
  · exact h j t' (by omega) ht'
theorem isPrg_iff {P : List Tk} : IsPrg P ↔ (1 ≤ P.length ∧ P.length ≤ 6) ∧ OkTasks P P.length := by
  refine ⟨fun h => ⟨⟨h.1, h.2.1⟩, fun j t _ ht => h.2.2 t (mem_at ht)⟩, fun h => ⟨h.1.1, h.1.2, fun t ht => ?_⟩⟩
  obtain ⟨j, hj⟩ := List.mem_iff_getElem?.1 ht
  exact h.2 j t (List.getElem?_eq_some_iff.1 hj).1 hj
theorem not_prg {P : List Tk} {k : Nat} {t : Tk} (ht : P[k]? = some t) (h : ¬ IsBlk t.b ∨ exprOk t.o t.x t.y = false) : ¬ IsPrg P := fun hp => by
  have := hp.2.2 t (mem_at ht)
  rcases h with h | h
  · exact h this.1
  · rw [h] at this; exact absurd this.2 (by decide)
theorem prg_dec (P : List Tk) : ∃ r : Bool, r = true ↔ IsPrg P := by
  rcases Classical.em (IsPrg P) with h | h
  · exact ⟨true, fun _ => h, fun _ => rfl⟩
  · exact ⟨false, fun e => (by cases e), fun e => absurd e h⟩
/-- The program's argument: its block, and what lies behind. -/
abbrev PrgW (w W : World) (a : Option Addr) (n cap : Nat) (P : List Tk) : Prop :=
  W.cell? ⟨w.heap.size, 0, none⟩ = some (.slice a n cap) ∧ TkRow W a n P ∧ Below w.heap.size w W ∧ W.heap.size = w.heap.size + 1
theorem prgW_new (w : World) (a : Option Addr) (n cap : Nat) (P : List Tk) (t : TypeId) (h : TkRow w a n P) : PrgW w (w.alloc (.cells #[.slice a n cap] t)) a n cap P :=
  ⟨(Box.new w #[.slice a n cap] t).cell 0, h.below (below_new w _), below_new w _, by simp⟩
set_option maxHeartbeats 4000000 in
set_option maxRecDepth 100000 in
theorem spec_programok (a : Option Addr) (n cap : Nat) (P : List Tk) (hz : Sizes P) (w : World) (h : TkRow w a n P) (r : Bool) (hr : r = true ↔ IsPrg P) :
    Calls Tryz.prog 87 #[.agg #[.slice a n cap]] w (BelB w r) := by
  obtain ⟨W, hW⟩ : ∃ W, W = w.alloc (.cells #[.slice a n cap] 26) := ⟨_, rfl⟩
  have HP := Lib.hid (show PrgW w W a n cap P from by rw [hW]; exact prgW_new w a n cap P _ h)
  have HW := Lib.hid hW.symm
  have HR := Lib.hid hr
  have HZ := Lib.hid hz
  have hlen := h.1
  have hn : (n : Int) ≤ 1048576 := by have := hz.1; omega
  have HLN := Lib.hid hlen
  have hwl : w.heap.size < W.heap.size := by rw [hW]; simp
  clear h hr hz hW hlen
  go_enter Tryz.func87, Tryz.ntmps87
  go_wp2
  rw [HW.out]
  go_loopw [3] (fun i wr => ∃ k : Nat, k ≤ n ∧ i = .int .i64 k ∧ Hid (OkTasks P k) ∧ Below W.heap.size W wr) (fun i _ => n - (intOf i).toNat)
  case atStart => exact ⟨0, Nat.zero_le _, rfl, OkTasks.zero P, Below.refl _ _⟩
  case round =>
    obtain ⟨k, hk, rfl, hO, hbel⟩ := hrel
    have c0 : wr.cell? ⟨w.heap.size, 0, none⟩ = some (.slice a n cap) := (hbel.cell (p := ⟨w.heap.size, 0, none⟩) hwl).trans HP.out.1
    by_cases hlt : k < n
    · obtain ⟨g, off, t, rfl, hlb, ht, ab, nb, cb, hrg, hbc, hrow⟩ := (HP.out.2.1.below hbel).2 k hlt
      have hI : (k : Int) < n := by omega
      have hnb : (nb : Int) ≤ 1048576 := by have := HZ.out.2 t (mem_at ht); rw [hrow.1] at this; omega
      have q0 := (range4 hrg).1
      have HT := Lib.hid (And.intro ht (And.intro hrow (And.intro hbel hrg)))
      have hwl2 := Nat.lt_of_lt_of_le hwl hbel.size
      clear ht hrow hrg
      obtain ⟨rb, hrb⟩ := blk_dec t.b
      have HRB := Lib.hid hrb
      clear hbel
      cases rb
      · have hrf : r = false := by
          rw [← Bool.not_eq_true]; intro e; exact not_prg HT.out.1 (.inl (fun hb => by have := hrb.2 hb; cases this)) (HR.out.1 e)
        clear hrb
        subst hrf
        go_wp2_with (go_at_call 150; (with_reducible refine (spec_blockok ab nb cb t.b hnb _ HT.out.2.1 false HRB.out).mono ?_); rintro e w2 ⟨rfl, hb2⟩)
        go_ret
        exact ⟨rfl, HP.out.2.2.1.trans ((below_then HT.out.2.2.1 hb2).mono (Nat.le_of_lt hwl))⟩
      · have HBK := Lib.hid (hrb.1 rfl)
        clear hrb
        go_wp2_with (go_at_call 150; (with_reducible refine (spec_blockok ab nb cb t.b hnb _ HT.out.2.1 true HRB.out).mono ?_); rintro e w2 ⟨rfl, hb2⟩; refine Hid.out ?_)
        have d0 : w2.cell? ⟨w.heap.size, 0, none⟩ = some (.slice (some ⟨g, off, none⟩) n cap) := (hb2.cell (p := ⟨w.heap.size, 0, none⟩) hwl2).trans c0
        have d := held4o hb2 hlb (range4 HT.out.2.2.2)
        have d1 := d.2.1
        have d2 := d.2.2.1
        have d3 := d.2.2.2
        have HB2 := Lib.hid (below_then HT.out.2.2.1 hb2)
        clear hb2 d
        cases he : exprOk t.o t.x t.y
        · have hrf : r = false := by
            rw [← Bool.not_eq_true]; intro e; exact not_prg HT.out.1 (.inr he) (HR.out.1 e)
          have HE := Lib.hid he
          clear he
          subst hrf
          refine Lib.hid ?_
          go_wp2_with (go_at_call 151; (with_reducible refine (spec_exprok t.o t.x t.y false HE.out _).mono ?_); rintro e w3 ⟨rfl, hb3⟩)
          go_ret
          exact ⟨rfl, HP.out.2.2.1.trans ((below_then HB2.out hb3).mono (Nat.le_of_lt hwl))⟩
        · have HE := Lib.hid he
          clear he
          refine Lib.hid ?_
          go_wp2_with (go_at_call 151; (with_reducible refine (spec_exprok t.o t.x t.y true HE.out _).mono ?_); rintro e w3 ⟨rfl, hb3⟩; refine Hid.out ?_)
          have HB3 := Lib.hid (below_then HB2.out hb3)
          clear hb3
          refine Lib.hid ?_
          go_wp2
          go_roundw
          case rel => exact ⟨k + 1, by omega, by go_num, hO.out.next HT.out.1 HBK.out HE.out, HB3.out⟩
          case measure => simp [intOf]; omega
    · obtain rfl : k = n := by omega
      have hI : ¬ (k : Int) < k := by omega
      have HBB := Lib.hid hbel
      have hlk := HLN.out
      have HIN := Lib.hid (show (decide ((1 : Int) ≤ k) && decide ((k : Int) ≤ 6)) = r by
        have h1 := isPrg_iff (P := P)
        rw [hlk] at h1
        have h2 := HR.out
        cases r
        · simp only [Bool.and_eq_false_iff, decide_eq_false_iff_not]
          rcases (show ¬ (1 : Int) ≤ k ∨ ¬ (k : Int) ≤ 6 ∨ (1 ≤ k ∧ k ≤ 6) by omega) with h | h | h
          · exact .inl h
          · exact .inr h
          · have := h2.2 (h1.2 ⟨h, hO.out⟩); cases this
        · have := (h1.1 (h2.1 rfl)).1
          simp; omega)
      clear hbel hlk
      go_wp2_with (go_at_call 63; (with_reducible refine (in_any _ 1 6 _ HIN.out _).mono ?_); rintro e w3 ⟨rfl, rfl⟩)
      go_ret
      exact ⟨rfl, HP.out.2.2.1.trans (HBB.out.mono (Nat.le_of_lt hwl))⟩
/-- The remainder from 0 on. -/
def nx (v : Int) (n : Nat) : Int := if v.tmod n < 0 then v.tmod n + n else v.tmod n
theorem tmod_bds {v : Int} {n : Nat} (hn : 0 < n) : -(n : Int) < v.tmod n ∧ v.tmod n < n := ⟨Int.lt_tmod_of_pos v (by omega), Int.tmod_lt_of_pos v (by omega)⟩
theorem nx_range {v : Int} {n : Nat} (hn : 0 < n) : 0 ≤ nx v n ∧ nx v n < n := by
  have := tmod_bds (v := v) hn
  unfold nx; split <;> omega
/-- What NextTask must give. -/
def NextIs (P : List Tk) (V : List Int) (i x : Int) : Prop :=
  (∃ (j : Nat) (t : Tk), i = j ∧ P[j]? = some t ∧ IsPrg P ∧ varsOk V = true ∧ x = nx (evalV V t.o t.x t.y) P.length) ∨ (x = -1 ∧ (¬ IsPrg P ∨ varsOk V = false ∨ i < 0 ∨ (P.length : Int) ≤ i))
theorem NextIs.not {P : List Tk} {V : List Int} {i x : Int} (h : NextIs P V i x) (hn : ¬ IsPrg P ∨ varsOk V = false ∨ i < 0 ∨ (P.length : Int) ≤ i) : x = -1 := by
  rcases h with ⟨j, t, rfl, ht, hp, hv, rfl⟩ | ⟨rfl, _⟩
  · have := (List.getElem?_eq_some_iff.1 ht).1
    rcases hn with h | h | h | h
    · exact absurd hp h
    · rw [h] at hv; cases hv
    · omega
    · omega
  · rfl
theorem NextIs.yes {P : List Tk} {V : List Int} {j : Nat} {x : Int} {t : Tk} (h : NextIs P V j x) (hp : IsPrg P) (hv : varsOk V = true) (ht : P[j]? = some t) : x = nx (evalV V t.o t.x t.y) P.length := by
  have := (List.getElem?_eq_some_iff.1 ht).1
  rcases h with ⟨j', t', hj, ht', _, _, rfl⟩ | ⟨_, h⟩
  · obtain rfl : j = j' := by omega
    rw [ht] at ht'; cases ht'; rfl
  · rcases h with h | h | h | h
    · exact absurd hp h
    · rw [h] at hv; cases hv
    · omega
    · omega
theorem ev_small (V : List Int) (o a b : Int) : -1000000 ≤ evalV V o a b ∧ evalV V o a b ≤ 1000000 := by
  have := evalV_val V o a b
  unfold isVal at this
  simp at this
  exact this
set_option maxHeartbeats 4000000 in
set_option maxRecDepth 100000 in
theorem spec_next (a : Option Addr) (n cap : Nat) (P : List Tk) (hz : Sizes P) (w : World) (h : TkRow w a n P) (ad : Option Addr) (nv cv : Nat) (V : List Int) (hV : Row w ad nv V) (hv : varsOk V = true) (j : Nat) (t : Tk) (ht : P[j]? = some t) (he : exprOk t.o t.x t.y = true) (X : Int) (hX : X = nx (evalV V t.o t.x t.y) n) :
    Calls Tryz.prog 134 #[.agg #[.slice a n cap], .slice ad nv cv, .int .i64 j] w (BelI w X) := by
  obtain ⟨W, hW⟩ : ∃ W, W = w.alloc (.cells #[.slice a n cap] 26) := ⟨_, rfl⟩
  have hpw : PrgW w W a n cap P := by rw [hW]; exact prgW_new w a n cap P _ h
  have hjn : j < n := by have := (List.getElem?_eq_some_iff.1 ht).1; have := h.1; omega
  have hn : (n : Int) ≤ 1048576 := by have := hz.1; have := h.1; omega
  obtain ⟨g, off, t', ha, hlb, ht', ab, nb, cb, hrg, hbc, hrow⟩ := hpw.2.1.2 j hjn
  obtain rfl : t' = t := by rw [ht] at ht'; exact (Option.some.inj ht').symm
  subst ha
  obtain ⟨v, hvv⟩ : ∃ v, evalV V t'.o t'.x t'.y = v := ⟨_, rfl⟩
  have hsm := ev_small V t'.o t'.x t'.y
  rw [hvv] at hsm hX
  have HV := Lib.hid (show evalOf t'.o (Go.Proofs.YtmgeecdgebemdaaGreatDoor.expr.valOf V t'.x) (Go.Proofs.YtmgeecdgebemdaaGreatDoor.expr.valOf V t'.y) = v by rw [← evalV_ok hv he]; exact hvv)
  have HVR := Lib.hid (And.intro (hV.below hpw.2.2.1) hv)
  have HEX := Lib.hid ((exprOk_iff _ _ _).1 he)
  have hwl : w.heap.size < W.heap.size := by rw [hW]; simp
  have hbx : Box w.heap.size #[.slice (some ⟨g, off, none⟩) n cap] 26 W := by rw [hW]; exact Box.new _ _ _
  have c0 : W.drew.cell? ⟨w.heap.size, 0, none⟩ = some (.slice (some ⟨g, off, none⟩) n cap) := hpw.1
  have c0' : W.cell? ⟨w.heap.size, 0, none⟩ = some (.slice (some ⟨g, off, none⟩) n cap) := hpw.1
  have q := range4 hrg
  have q1 : W.drew.cell? ⟨g, off + j * 4 + 1, none⟩ = some (.int .i64 t'.o) := q.2.1
  have q2 : W.drew.cell? ⟨g, off + j * 4 + 2, none⟩ = some (.int .i64 t'.x) := q.2.2.1
  have q3 : W.drew.cell? ⟨g, off + j * 4 + 3, none⟩ = some (.int .i64 t'.y) := q.2.2.2
  have HX := Lib.hid hX
  have HW := Lib.hid hW.symm
  have HBW := Lib.hid hpw.2.2.1
  have hI : (j : Int) < n := by omega
  have hnz : (n == 0) = false := by rw [beq_eq_false_iff_ne]; omega
  have hnz2 : ¬ n = 0 := by omega
  have hnz3 : ((n : Int) == 0) = false := by rw [beq_eq_false_iff_ne]; omega
  have hwt : IntKind.i64.wrap (v.tmod n) = v.tmod n := IntWalk.i64_in _ (by have := tmod_bds (v := v) (show 0 < n by omega); omega)
  have htm := tmod_bds (v := v) (show 0 < n by omega)
  have htm0 := htm.1
  have htm1 := htm.2
  have hv0 := hsm.1
  have hv1 := hsm.2
  clear hpw h hV hv ht ht' he hvv hsm q hrg hrow hX hW htm hbx hbc
  go_enter Tryz.func134, Tryz.ntmps134
  go_wp2
  rw [HW.out]
  go_region_held3 (fun w' => w'.cell? ⟨w.heap.size, 0, none⟩ = some (.slice (some ⟨g, off, none⟩) n cap) ∧ w'.cell? ⟨g, off + j * 4 + 1, none⟩ = some (.int .i64 t'.o) ∧ w'.cell? ⟨g, off + j * 4 + 2, none⟩ = some (.int .i64 t'.x) ∧ w'.cell? ⟨g, off + j * 4 + 3, none⟩ = some (.int .i64 t'.y))
    (first | (exact ⟨c0, q1, q2, q3⟩) | (exact ⟨(drew_below hb2).cell (p := ⟨w.heap.size, 0, none⟩) hwl |>.trans c0, (drew_below hb2).cell (p := ⟨g, off + j * 4 + 1, none⟩) hlb |>.trans q1, (drew_below hb2).cell (p := ⟨g, off + j * 4 + 2, none⟩) hlb |>.trans q2, (drew_below hb2).cell (p := ⟨g, off + j * 4 + 3, none⟩) hlb |>.trans q3⟩))
    (first
      | (go_at_call 176; refine (spec_eval _ ad nv cv V (HVR.out.1.below (Below.drew (Below.refl _ W))) HVR.out.2 t'.o t'.x t'.y HEX.out.1 HEX.out.2.1 HEX.out.2.2).mono ?_; rw [HV.out]; rintro e w2 ⟨rfl, hb2⟩))
  have HB2 := Lib.hid (HBW.out.trans ((drew_below hb2).mono HBW.out.size))
  have d0 : w2.cell? ⟨w.heap.size, 0, none⟩ = some (.slice (some ⟨g, off, none⟩) n cap) := ((drew_below hb2).cell (p := ⟨w.heap.size, 0, none⟩) hwl).trans c0'
  clear hb2 c0 q1 q2 q3 c0'
  by_cases hneg : v.tmod n < 0
  · have HN := Lib.hid (show X = v.tmod n + n by rw [HX.out]; unfold nx; rw [if_pos hneg])
    refine Lib.hid ?_
    go_wp2
    go_ret
    exact ⟨by rw [HN.out]; rfl, HB2.out⟩
  · have HN := Lib.hid (show X = v.tmod n by rw [HX.out]; unfold nx; rw [if_neg hneg])
    refine Lib.hid ?_
    go_wp2
    go_ret
    exact ⟨by rw [HN.out]; rfl, HB2.out⟩
end Go.Proofs.YtmgeecdgebemdaaGreatDoor.prg

/- What TaskEffect, SensesOf and ReadSensor must give; what the laws ask of it. Plain mathematics. -/
namespace Go.Proofs.YtmgeecdgebemdaaGreatDoor.exe
open Go Go.Proofs.YtmgeecdgebemdaaGreatDoor.stm Go.Proofs.YtmgeecdgebemdaaGreatDoor.blk Go.Proofs.YtmgeecdgebemdaaGreatDoor.expr Go.Proofs.YtmgeecdgebemdaaGreatDoor.sets Go.Proofs.YtmgeecdgebemdaaGreatDoor.val Go.Proofs.YtmgeecdgebemdaaGreatDoor.prg
/-- Every element is a value of the range. -/
def allV (Y : List Int) : Bool := Y.all isVal
theorem allV_iff (Y : List Int) : allV Y = true ↔ ∀ q ∈ Y, isVal q = true := by simp [allV]
/-- The reading number 'n' by the sensor 'q'. -/
def readS (R : List Int) (q n : Int) : Int := if R.length = 0 ∨ q < 0 ∨ 3 < q ∨ n < 0 then 0 else sat (sat (R.getD (n % R.length).toNat 0) + sat (100 * q))
theorem readS_no {R : List Int} {q n : Int} (h : R.length = 0 ∨ q < 0 ∨ 3 < q ∨ n < 0) : readS R q n = 0 := by unfold readS; rw [if_pos h]
theorem readS_ok {R : List Int} {q n : Int} (h : R.length ≠ 0) (h1 : 0 ≤ q) (h2 : q ≤ 3) (h3 : 0 ≤ n) : readS R q n = sat (sat (R.getD (n % R.length).toNat 0) + sat (100 * q)) := by
  unfold readS; rw [if_neg (by omega)]
theorem isVal_sat (n : Int) : isVal (sat n) = true := isVal_in (sat_bd n).1 (sat_bd n).2
theorem isVal_zero : isVal 0 = true := by decide
theorem readS_val (R : List Int) (q n : Int) : isVal (readS R q n) = true := by
  unfold readS
  split
  · exact isVal_zero
  · exact isVal_sat _
/-- Senses come from the readings, the first one from the number 'at'. -/
def liveSrc (R : List Int) (z : Int) : Int → Nat → Int := fun q n => readS R q (z + n)
theorem liveSrc_val (R : List Int) (z q : Int) (n : Nat) : isVal (liveSrc R z q n) = true := readS_val _ _ _
theorem listSrc_val {Y : List Int} (h : allV Y = true) (q : Int) (n : Nat) : isVal (listSrc Y q n) = true := by
  unfold listSrc
  rw [List.getD_eq_getElem?_getD]
  cases hn : Y[n]? with
  | none => exact isVal_zero
  | some v => exact (allV_iff Y).1 h v (List.mem_of_getElem? hn)
/-- The arguments of TaskEffect and SensesOf are valid, and this is the task and its tree. -/
def TaskAt (P : List Tk) (V Y : List Int) (i : Int) (t : Tk) (T : Fst) : Prop := IsPrg P ∧ varsOk V = true ∧ allV Y = true ∧ ∃ j : Nat, i = j ∧ P[j]? = some t ∧ Par t.b 0 t.b.length T
theorem TaskAt.unique {P : List Tk} {V Y : List Int} {i : Int} {t t' : Tk} {T T' : Fst} (h : TaskAt P V Y i t T) (h' : TaskAt P V Y i t' T') : t = t' ∧ T = T' := by
  obtain ⟨_, _, _, j, rfl, h1, h2⟩ := h
  obtain ⟨_, _, _, j', e, h3, h4⟩ := h'
  obtain rfl : j = j' := by omega
  rw [h1] at h3; cases h3
  exact ⟨rfl, h2.unique h4⟩
theorem TaskAt.blk {P : List Tk} {V Y : List Int} {i : Int} {t : Tk} {T : Fst} (h : TaskAt P V Y i t T) : IsBlk t.b ∧ exprOk t.o t.x t.y = true := by
  obtain ⟨hp, _, _, j, _, h1, _⟩ := h
  exact hp.2.2 t (List.mem_of_getElem? h1)
theorem taskAt_ex {P : List Tk} {V Y : List Int} {j : Nat} (hp : IsPrg P) (hV : varsOk V = true) (hY : allV Y = true) (hj : j < P.length) : ∃ t T, P[j]? = some t ∧ TaskAt P V Y j t T := by
  obtain ⟨t, ht⟩ : ∃ t, P[j]? = some t := ⟨P[j], by simp [hj]⟩
  obtain ⟨T, hT⟩ := par_ex (hp.2.2 t (List.mem_of_getElem? ht)).1
  exact ⟨t, T, ht, hp, hV, hY, j, rfl, ht, hT⟩
def NotAt (P : List Tk) (V Y : List Int) (i : Int) : Prop := ¬ IsPrg P ∨ varsOk V = false ∨ allV Y = false ∨ i < 0 ∨ (P.length : Int) ≤ i
theorem TaskAt.not {P : List Tk} {V Y : List Int} {i : Int} {t : Tk} {T : Fst} (h : TaskAt P V Y i t T) (hn : NotAt P V Y i) : False := by
  obtain ⟨h1, h2, h3, j, rfl, h4, _⟩ := h
  have hl := (List.getElem?_eq_some_iff.1 h4).1
  rcases hn with e | e | e | e | e
  · exact e h1
  · rw [h2] at e; cases e
  · rw [h3] at e; cases e
  · omega
  · omega
/-- An execution of a valid block sends and senses no more than 3000 values. -/
theorem exec_small {src : Int → Nat → Int} {L : List Sm} (hL : IsBlk L) {T : Fst} (hT : Par L 0 L.length T) (V : List Int) : (exec src T ⟨V, [], []⟩).S.length + (exec src T ⟨V, [], []⟩).U.length ≤ 3000 := by
  have h1 := exec_tot src T ⟨V, [], []⟩
  have h2 := runs_small hL hT.runs (Nat.le_refl _)
  simp [tot] at h1
  omega
theorem TaskAt.small {P : List Tk} {V Y : List Int} {i : Int} {t : Tk} {T : Fst} (h : TaskAt P V Y i t T) (src : Int → Nat → Int) : (exec src T ⟨V, [], []⟩).S.length + (exec src T ⟨V, [], []⟩).U.length ≤ 3000 := by
  have hb := h.blk.1
  obtain ⟨_, _, _, j, _, _, hT⟩ := h
  exact exec_small hb hT V
theorem TaskAt.good {P : List Tk} {V Y : List Int} {i : Int} {t : Tk} {T : Fst} (h : TaskAt P V Y i t T) {src : Int → Nat → Int} (hs : ∀ q n, isVal (src q n) = true) : Good (exec src T ⟨V, [], []⟩) := by
  obtain ⟨_, hV, _⟩ := h
  exact exec_good hs T ⟨hV, (fun q hq => by cases hq), (fun q hq => by cases hq)⟩

/-! What the laws ask. -/
end Go.Proofs.YtmgeecdgebemdaaGreatDoor.exe
