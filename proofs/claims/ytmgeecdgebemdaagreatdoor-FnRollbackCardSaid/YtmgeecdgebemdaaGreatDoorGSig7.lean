/- Several texts in one: PrgW ExeC ExeN BlkC. -/
import Derived.Test.YtmgeecdgebemdaaGreatDoorGSig6
import Derived.Test.YtmgeecdgebemdaaGreatDoorGSig3
import Derived.Deep.RegionHeld3
import Derived.IntWalk
import Derived.Test.YtmgeecdgebemdaaGreatDoorGSig2
import Derived.Test.YtmgeecdgebemdaaGreatDoorGSig4

/- Chapter 6's model: ProgramOk, NextTask: what the plain relations say; nothing that was there is written. -/
namespace Go.Proofs.YtmgeecdgebemdaaGreatDoor.prg
open Go Go.ChangeShapes Go.WideShapes Go.ChangeAt Go.RowKit Go.Proofs.YtmgeecdgebemdaaGreatDoor.row Go.Proofs.YtmgeecdgebemdaaGreatDoor.val Go.Proofs.YtmgeecdgebemdaaGreatDoor.expr Go.Proofs.YtmgeecdgebemdaaGreatDoor.stm Go.Proofs.YtmgeecdgebemdaaGreatDoor.blk

/-- Each task ahead of 'k' is valid. -/
def OkTasks (P : List Tk) (k : Nat) : Prop := ∀ j t, j < k → P[j]? = some t → IsBlk t.b ∧ exprOk t.o t.x t.y = true
theorem OkTasks.zero (P : List Tk) : OkTasks P 0 := fun j t h => by omega
theorem OkTasks.next {P : List Tk} {k : Nat} {t : Tk} (h : OkTasks P k) (ht : P[k]? = some t) (hb : IsBlk t.b) (he : exprOk t.o t.x t.y = true) : OkTasks P (k + 1) := fun j t' hj ht' => by
  by_cases e : j = k
  · subst e; rw [ht] at ht'; cases ht'; exact ⟨hb, he⟩
  · exact h j t' (by omega) ht'
theorem isPrg_iff {P : List Tk} : IsPrg P ↔ (1 ≤ P.length ∧ P.length ≤ 6) ∧ OkTasks P P.length := by
  refine ⟨fun h => ⟨⟨h.1, h.2.1⟩, fun j t _ ht => h.2.2 t (mem_at ht)⟩, fun h => ⟨h.1.1, h.1.2, fun t ht => ?_⟩⟩
  obtain ⟨j, hj⟩ := List.mem_iff_getElem?.1 ht
  exact h.2 j t (List.getElem?_eq_some_iff.1 hj).1 hj
theorem not_prg {P : List Tk} {k : Nat} {t : Tk} (ht : P[k]? = some t) (h : ¬ IsBlk t.b ∨ exprOk t.o t.x t.y = false) : ¬ IsPrg P := fun hp => by
  have := hp.2.2 t (mem_at ht)
  rcases h with h | h
  · exact h this.1
  · rw [h] at this; exact absurd this.2 (by decide)
theorem prg_dec (P : List Tk) : ∃ r : Bool, r = true ↔ IsPrg P := by
  rcases Classical.em (IsPrg P) with h | h
  · exact ⟨true, fun _ => h, fun _ => rfl⟩
  · exact ⟨false, fun e => (by cases e), fun e => absurd e h⟩
/-- The program's argument: its block, and what lies behind. -/
abbrev PrgW (w W : World) (a : Option Addr) (n cap : Nat) (P : List Tk) : Prop :=
  W.cell? ⟨w.heap.size, 0, none⟩ = some (.slice a n cap) ∧ TkRow W a n P ∧ Below w.heap.size w W ∧ W.heap.size = w.heap.size + 1
theorem prgW_new (w : World) (a : Option Addr) (n cap : Nat) (P : List Tk) (t : TypeId) (h : TkRow w a n P) : PrgW w (w.alloc (.cells #[.slice a n cap] t)) a n cap P :=
  ⟨(Box.new w #[.slice a n cap] t).cell 0, h.below (below_new w _), below_new w _, by simp⟩
set_option maxHeartbeats 4000000 in
set_option maxRecDepth 100000 in
theorem spec_programok (a : Option Addr) (n cap : Nat) (P : List Tk) (hz : Sizes P) (w : World) (h : TkRow w a n P) (r : Bool) (hr : r = true ↔ IsPrg P) :
    Calls Tryz.prog 87 #[.agg #[.slice a n cap]] w (BelB w r) := by
  obtain ⟨W, hW⟩ : ∃ W, W = w.alloc (.cells #[.slice a n cap] 26) := ⟨_, rfl⟩
  have HP := Lib.hid (show PrgW w W a n cap P from by rw [hW]; exact prgW_new w a n cap P _ h)
  have HW := Lib.hid hW.symm
  have HR := Lib.hid hr
  have HZ := Lib.hid hz
  have hlen := h.1
  have hn : (n : Int) ≤ 1048576 := by have := hz.1; omega
  have HLN := Lib.hid hlen
  have hwl : w.heap.size < W.heap.size := by rw [hW]; simp
  clear h hr hz hW hlen
  go_enter Tryz.func87, Tryz.ntmps87
  go_wp2
  rw [HW.out]
  go_loopw [3] (fun i wr => ∃ k : Nat, k ≤ n ∧ i = .int .i64 k ∧ Hid (OkTasks P k) ∧ Below W.heap.size W wr) (fun i _ => n - (intOf i).toNat)
  case atStart => exact ⟨0, Nat.zero_le _, rfl, OkTasks.zero P, Below.refl _ _⟩
  case round =>
    obtain ⟨k, hk, rfl, hO, hbel⟩ := hrel
    have c0 : wr.cell? ⟨w.heap.size, 0, none⟩ = some (.slice a n cap) := (hbel.cell (p := ⟨w.heap.size, 0, none⟩) hwl).trans HP.out.1
    by_cases hlt : k < n
    · obtain ⟨g, off, t, rfl, hlb, ht, ab, nb, cb, hrg, hbc, hrow⟩ := (HP.out.2.1.below hbel).2 k hlt
      have hI : (k : Int) < n := by omega
      have hnb : (nb : Int) ≤ 1048576 := by have := HZ.out.2 t (mem_at ht); rw [hrow.1] at this; omega
      have q0 := (range4 hrg).1
      have HT := Lib.hid (And.intro ht (And.intro hrow (And.intro hbel hrg)))
      have hwl2 := Nat.lt_of_lt_of_le hwl hbel.size
      clear ht hrow hrg
      obtain ⟨rb, hrb⟩ := blk_dec t.b
      have HRB := Lib.hid hrb
      clear hbel
      cases rb
      · have hrf : r = false := by
          rw [← Bool.not_eq_true]; intro e; exact not_prg HT.out.1 (.inl (fun hb => by have := hrb.2 hb; cases this)) (HR.out.1 e)
        clear hrb
        subst hrf
        go_wp2_with (go_at_call 150; (with_reducible refine (spec_blockok ab nb cb t.b hnb _ HT.out.2.1 false HRB.out).mono ?_); rintro e w2 ⟨rfl, hb2⟩)
        go_ret
        exact ⟨rfl, HP.out.2.2.1.trans ((below_then HT.out.2.2.1 hb2).mono (Nat.le_of_lt hwl))⟩
      · have HBK := Lib.hid (hrb.1 rfl)
        clear hrb
        go_wp2_with (go_at_call 150; (with_reducible refine (spec_blockok ab nb cb t.b hnb _ HT.out.2.1 true HRB.out).mono ?_); rintro e w2 ⟨rfl, hb2⟩; refine Hid.out ?_)
        have d0 : w2.cell? ⟨w.heap.size, 0, none⟩ = some (.slice (some ⟨g, off, none⟩) n cap) := (hb2.cell (p := ⟨w.heap.size, 0, none⟩) hwl2).trans c0
        have d := held4o hb2 hlb (range4 HT.out.2.2.2)
        have d1 := d.2.1
        have d2 := d.2.2.1
        have d3 := d.2.2.2
        have HB2 := Lib.hid (below_then HT.out.2.2.1 hb2)
        clear hb2 d
        cases he : exprOk t.o t.x t.y
        · have hrf : r = false := by
            rw [← Bool.not_eq_true]; intro e; exact not_prg HT.out.1 (.inr he) (HR.out.1 e)
          have HE := Lib.hid he
          clear he
          subst hrf
          refine Lib.hid ?_
          go_wp2_with (go_at_call 151; (with_reducible refine (spec_exprok t.o t.x t.y false HE.out _).mono ?_); rintro e w3 ⟨rfl, hb3⟩)
          go_ret
          exact ⟨rfl, HP.out.2.2.1.trans ((below_then HB2.out hb3).mono (Nat.le_of_lt hwl))⟩
        · have HE := Lib.hid he
          clear he
          refine Lib.hid ?_
          go_wp2_with (go_at_call 151; (with_reducible refine (spec_exprok t.o t.x t.y true HE.out _).mono ?_); rintro e w3 ⟨rfl, hb3⟩; refine Hid.out ?_)
          have HB3 := Lib.hid (below_then HB2.out hb3)
          clear hb3
          refine Lib.hid ?_
          go_wp2
          go_roundw
          case rel => exact ⟨k + 1, by omega, by go_num, hO.out.next HT.out.1 HBK.out HE.out, HB3.out⟩
          case measure => simp [intOf]; omega
    · obtain rfl : k = n := by omega
      have hI : ¬ (k : Int) < k := by omega
      have HBB := Lib.hid hbel
      have hlk := HLN.out
      have HIN := Lib.hid (show (decide ((1 : Int) ≤ k) && decide ((k : Int) ≤ 6)) = r by
        have h1 := isPrg_iff (P := P)
        rw [hlk] at h1
        have h2 := HR.out
        cases r
        · simp only [Bool.and_eq_false_iff, decide_eq_false_iff_not]
          rcases (show ¬ (1 : Int) ≤ k ∨ ¬ (k : Int) ≤ 6 ∨ (1 ≤ k ∧ k ≤ 6) by omega) with h | h | h
          · exact .inl h
          · exact .inr h
          · have := h2.2 (h1.2 ⟨h, hO.out⟩); cases this
        · have := (h1.1 (h2.1 rfl)).1
          simp; omega)
      clear hbel hlk
      go_wp2_with (go_at_call 63; (with_reducible refine (in_any _ 1 6 _ HIN.out _).mono ?_); rintro e w3 ⟨rfl, rfl⟩)
      go_ret
      exact ⟨rfl, HP.out.2.2.1.trans (HBB.out.mono (Nat.le_of_lt hwl))⟩
/-- The remainder from 0 on. -/
def nx (v : Int) (n : Nat) : Int := if v.tmod n < 0 then v.tmod n + n else v.tmod n
theorem tmod_bds {v : Int} {n : Nat} (hn : 0 < n) : -(n : Int) < v.tmod n ∧ v.tmod n < n := ⟨Int.lt_tmod_of_pos v (by omega), Int.tmod_lt_of_pos v (by omega)⟩
theorem nx_range {v : Int} {n : Nat} (hn : 0 < n) : 0 ≤ nx v n ∧ nx v n < n := by
  have := tmod_bds (v := v) hn
  unfold nx; split <;> omega
theorem nx_emod {v : Int} {n : Nat} (hn : 0 < n) : nx v n = v % (n : Int) := by
  have h1 := nx_range (v := v) hn
  have h2 : nx v n = (nx v n) % (n : Int) := (Int.emod_eq_of_lt h1.1 h1.2).symm
  rw [h2]
  have h3 : v = (n : Int) * v.tdiv n + v.tmod n := (Int.mul_tdiv_add_tmod v n).symm
  unfold nx
  split
  · rw [Int.add_emod_right]; conv => rhs; rw [h3]
    rw [Int.add_comm, Int.add_mul_emod_self_left]
  · conv => rhs; rw [h3]
    rw [Int.add_comm, Int.add_mul_emod_self_left]
/-- What NextTask must give. -/
def NextIs (P : List Tk) (V : List Int) (i x : Int) : Prop :=
  (∃ (j : Nat) (t : Tk), i = j ∧ P[j]? = some t ∧ IsPrg P ∧ varsOk V = true ∧ x = nx (evalV V t.o t.x t.y) P.length) ∨ (x = -1 ∧ (¬ IsPrg P ∨ varsOk V = false ∨ i < 0 ∨ (P.length : Int) ≤ i))
theorem nextIs_ex (P : List Tk) (V : List Int) (i : Int) : ∃ x, NextIs P V i x := by
  rcases Classical.em (IsPrg P) with hp | hp
  · cases hv : varsOk V
    · exact ⟨-1, .inr ⟨rfl, .inr (.inl hv)⟩⟩
    · rcases (show i < 0 ∨ (P.length : Int) ≤ i ∨ (0 ≤ i ∧ i < P.length) by omega) with h | h | h
      · exact ⟨-1, .inr ⟨rfl, .inr (.inr (.inl h))⟩⟩
      · exact ⟨-1, .inr ⟨rfl, .inr (.inr (.inr h))⟩⟩
      · obtain ⟨j, rfl⟩ : ∃ j : Nat, i = j := ⟨i.toNat, by omega⟩
        obtain ⟨t, ht⟩ := prg_at (show j < P.length by omega)
        exact ⟨_, .inl ⟨j, t, rfl, ht, hp, hv, rfl⟩⟩
  · exact ⟨-1, .inr ⟨rfl, .inl hp⟩⟩
theorem NextIs.not {P : List Tk} {V : List Int} {i x : Int} (h : NextIs P V i x) (hn : ¬ IsPrg P ∨ varsOk V = false ∨ i < 0 ∨ (P.length : Int) ≤ i) : x = -1 := by
  rcases h with ⟨j, t, rfl, ht, hp, hv, rfl⟩ | ⟨rfl, _⟩
  · have := (List.getElem?_eq_some_iff.1 ht).1
    rcases hn with h | h | h | h
    · exact absurd hp h
    · rw [h] at hv; cases hv
    · omega
    · omega
  · rfl
theorem NextIs.yes {P : List Tk} {V : List Int} {j : Nat} {x : Int} {t : Tk} (h : NextIs P V j x) (hp : IsPrg P) (hv : varsOk V = true) (ht : P[j]? = some t) : x = nx (evalV V t.o t.x t.y) P.length := by
  have := (List.getElem?_eq_some_iff.1 ht).1
  rcases h with ⟨j', t', hj, ht', _, _, rfl⟩ | ⟨_, h⟩
  · obtain rfl : j = j' := by omega
    rw [ht] at ht'; cases ht'; rfl
  · rcases h with h | h | h | h
    · exact absurd hp h
    · rw [h] at hv; cases hv
    · omega
    · omega
theorem ev_small (V : List Int) (o a b : Int) : -1000000 ≤ evalV V o a b ∧ evalV V o a b ≤ 1000000 := by
  have := evalV_val V o a b
  unfold isVal at this
  simp at this
  exact this
set_option maxHeartbeats 4000000 in
set_option maxRecDepth 100000 in
theorem spec_next (a : Option Addr) (n cap : Nat) (P : List Tk) (hz : Sizes P) (w : World) (h : TkRow w a n P) (ad : Option Addr) (nv cv : Nat) (V : List Int) (hV : Row w ad nv V) (hv : varsOk V = true) (j : Nat) (t : Tk) (ht : P[j]? = some t) (he : exprOk t.o t.x t.y = true) (X : Int) (hX : X = nx (evalV V t.o t.x t.y) n) :
    Calls Tryz.prog 134 #[.agg #[.slice a n cap], .slice ad nv cv, .int .i64 j] w (BelI w X) := by
  obtain ⟨W, hW⟩ : ∃ W, W = w.alloc (.cells #[.slice a n cap] 26) := ⟨_, rfl⟩
  have hpw : PrgW w W a n cap P := by rw [hW]; exact prgW_new w a n cap P _ h
  have hjn : j < n := by have := (List.getElem?_eq_some_iff.1 ht).1; have := h.1; omega
  have hn : (n : Int) ≤ 1048576 := by have := hz.1; have := h.1; omega
  obtain ⟨g, off, t', ha, hlb, ht', ab, nb, cb, hrg, hbc, hrow⟩ := hpw.2.1.2 j hjn
  obtain rfl : t' = t := by rw [ht] at ht'; exact (Option.some.inj ht').symm
  subst ha
  obtain ⟨v, hvv⟩ : ∃ v, evalV V t'.o t'.x t'.y = v := ⟨_, rfl⟩
  have hsm := ev_small V t'.o t'.x t'.y
  rw [hvv] at hsm hX
  have HV := Lib.hid (show evalOf t'.o (Go.Proofs.YtmgeecdgebemdaaGreatDoor.expr.valOf V t'.x) (Go.Proofs.YtmgeecdgebemdaaGreatDoor.expr.valOf V t'.y) = v by rw [← evalV_ok hv he]; exact hvv)
  have HVR := Lib.hid (And.intro (hV.below hpw.2.2.1) hv)
  have HEX := Lib.hid ((exprOk_iff _ _ _).1 he)
  have hwl : w.heap.size < W.heap.size := by rw [hW]; simp
  have hbx : Box w.heap.size #[.slice (some ⟨g, off, none⟩) n cap] 26 W := by rw [hW]; exact Box.new _ _ _
  have c0 : W.drew.cell? ⟨w.heap.size, 0, none⟩ = some (.slice (some ⟨g, off, none⟩) n cap) := hpw.1
  have c0' : W.cell? ⟨w.heap.size, 0, none⟩ = some (.slice (some ⟨g, off, none⟩) n cap) := hpw.1
  have q := range4 hrg
  have q1 : W.drew.cell? ⟨g, off + j * 4 + 1, none⟩ = some (.int .i64 t'.o) := q.2.1
  have q2 : W.drew.cell? ⟨g, off + j * 4 + 2, none⟩ = some (.int .i64 t'.x) := q.2.2.1
  have q3 : W.drew.cell? ⟨g, off + j * 4 + 3, none⟩ = some (.int .i64 t'.y) := q.2.2.2
  have HX := Lib.hid hX
  have HW := Lib.hid hW.symm
  have HBW := Lib.hid hpw.2.2.1
  have hI : (j : Int) < n := by omega
  have hnz : (n == 0) = false := by rw [beq_eq_false_iff_ne]; omega
  have hnz2 : ¬ n = 0 := by omega
  have hnz3 : ((n : Int) == 0) = false := by rw [beq_eq_false_iff_ne]; omega
  have hwt : IntKind.i64.wrap (v.tmod n) = v.tmod n := IntWalk.i64_in _ (by have := tmod_bds (v := v) (show 0 < n by omega); omega)
  have htm := tmod_bds (v := v) (show 0 < n by omega)
  have htm0 := htm.1
  have htm1 := htm.2
  have hv0 := hsm.1
  have hv1 := hsm.2
  clear hpw h hV hv ht ht' he hvv hsm q hrg hrow hX hW htm hbx hbc
  go_enter Tryz.func134, Tryz.ntmps134
  go_wp2
  rw [HW.out]
  go_region_held3 (fun w' => w'.cell? ⟨w.heap.size, 0, none⟩ = some (.slice (some ⟨g, off, none⟩) n cap) ∧ w'.cell? ⟨g, off + j * 4 + 1, none⟩ = some (.int .i64 t'.o) ∧ w'.cell? ⟨g, off + j * 4 + 2, none⟩ = some (.int .i64 t'.x) ∧ w'.cell? ⟨g, off + j * 4 + 3, none⟩ = some (.int .i64 t'.y))
    (first | (exact ⟨c0, q1, q2, q3⟩) | (exact ⟨(drew_below hb2).cell (p := ⟨w.heap.size, 0, none⟩) hwl |>.trans c0, (drew_below hb2).cell (p := ⟨g, off + j * 4 + 1, none⟩) hlb |>.trans q1, (drew_below hb2).cell (p := ⟨g, off + j * 4 + 2, none⟩) hlb |>.trans q2, (drew_below hb2).cell (p := ⟨g, off + j * 4 + 3, none⟩) hlb |>.trans q3⟩))
    (first
      | (go_at_call 176; refine (spec_eval _ ad nv cv V (HVR.out.1.below (Below.drew (Below.refl _ W))) HVR.out.2 t'.o t'.x t'.y HEX.out.1 HEX.out.2.1 HEX.out.2.2).mono ?_; rw [HV.out]; rintro e w2 ⟨rfl, hb2⟩))
  have HB2 := Lib.hid (HBW.out.trans ((drew_below hb2).mono HBW.out.size))
  have d0 : w2.cell? ⟨w.heap.size, 0, none⟩ = some (.slice (some ⟨g, off, none⟩) n cap) := ((drew_below hb2).cell (p := ⟨w.heap.size, 0, none⟩) hwl).trans c0'
  clear hb2 c0 q1 q2 q3 c0'
  by_cases hneg : v.tmod n < 0
  · have HN := Lib.hid (show X = v.tmod n + n by rw [HX.out]; unfold nx; rw [if_pos hneg])
    refine Lib.hid ?_
    go_wp2
    go_ret
    exact ⟨by rw [HN.out]; rfl, HB2.out⟩
  · have HN := Lib.hid (show X = v.tmod n by rw [HX.out]; unfold nx; rw [if_neg hneg])
    refine Lib.hid ?_
    go_wp2
    go_ret
    exact ⟨by rw [HN.out]; rfl, HB2.out⟩
end Go.Proofs.YtmgeecdgebemdaaGreatDoor.prg

/- What TaskEffect, SensesOf and ReadSensor must give; what the laws ask of it. Plain mathematics. -/
namespace Go.Proofs.YtmgeecdgebemdaaGreatDoor.exe
open Go Go.Proofs.YtmgeecdgebemdaaGreatDoor.stm Go.Proofs.YtmgeecdgebemdaaGreatDoor.blk Go.Proofs.YtmgeecdgebemdaaGreatDoor.expr Go.Proofs.YtmgeecdgebemdaaGreatDoor.sets Go.Proofs.YtmgeecdgebemdaaGreatDoor.val Go.Proofs.YtmgeecdgebemdaaGreatDoor.prg

/-- Every element is a value of the range. -/
def allV (Y : List Int) : Bool := Y.all isVal
theorem allV_iff (Y : List Int) : allV Y = true ↔ ∀ q ∈ Y, isVal q = true := by simp [allV]
/-- The reading number 'n' by the sensor 'q'. -/
def readS (R : List Int) (q n : Int) : Int := if R.length = 0 ∨ q < 0 ∨ 3 < q ∨ n < 0 then 0 else sat (sat (R.getD (n % R.length).toNat 0) + sat (100 * q))
theorem readS_no {R : List Int} {q n : Int} (h : R.length = 0 ∨ q < 0 ∨ 3 < q ∨ n < 0) : readS R q n = 0 := by unfold readS; rw [if_pos h]
theorem readS_ok {R : List Int} {q n : Int} (h : R.length ≠ 0) (h1 : 0 ≤ q) (h2 : q ≤ 3) (h3 : 0 ≤ n) : readS R q n = sat (sat (R.getD (n % R.length).toNat 0) + sat (100 * q)) := by
  unfold readS; rw [if_neg (by omega)]
theorem isVal_sat (n : Int) : isVal (sat n) = true := isVal_in (sat_bd n).1 (sat_bd n).2
theorem isVal_zero : isVal 0 = true := by decide
theorem readS_val (R : List Int) (q n : Int) : isVal (readS R q n) = true := by
  unfold readS
  split
  · exact isVal_zero
  · exact isVal_sat _
/-- Senses come from the readings, the first one from the number 'at'. -/
def liveSrc (R : List Int) (z : Int) : Int → Nat → Int := fun q n => readS R q (z + n)
theorem liveSrc_val (R : List Int) (z q : Int) (n : Nat) : isVal (liveSrc R z q n) = true := readS_val _ _ _
theorem listSrc_val {Y : List Int} (h : allV Y = true) (q : Int) (n : Nat) : isVal (listSrc Y q n) = true := by
  unfold listSrc
  rw [List.getD_eq_getElem?_getD]
  cases hn : Y[n]? with
  | none => exact isVal_zero
  | some v => exact (allV_iff Y).1 h v (List.mem_of_getElem? hn)
/-- The arguments of TaskEffect and SensesOf are valid, and this is the task and its tree. -/
def TaskAt (P : List Tk) (V Y : List Int) (i : Int) (t : Tk) (T : Fst) : Prop := IsPrg P ∧ varsOk V = true ∧ allV Y = true ∧ ∃ j : Nat, i = j ∧ P[j]? = some t ∧ Par t.b 0 t.b.length T
theorem TaskAt.unique {P : List Tk} {V Y : List Int} {i : Int} {t t' : Tk} {T T' : Fst} (h : TaskAt P V Y i t T) (h' : TaskAt P V Y i t' T') : t = t' ∧ T = T' := by
  obtain ⟨_, _, _, j, rfl, h1, h2⟩ := h
  obtain ⟨_, _, _, j', e, h3, h4⟩ := h'
  obtain rfl : j = j' := by omega
  rw [h1] at h3; cases h3
  exact ⟨rfl, h2.unique h4⟩
theorem TaskAt.blk {P : List Tk} {V Y : List Int} {i : Int} {t : Tk} {T : Fst} (h : TaskAt P V Y i t T) : IsBlk t.b ∧ exprOk t.o t.x t.y = true := by
  obtain ⟨hp, _, _, j, _, h1, _⟩ := h
  exact hp.2.2 t (List.mem_of_getElem? h1)
theorem taskAt_ex {P : List Tk} {V Y : List Int} {j : Nat} (hp : IsPrg P) (hV : varsOk V = true) (hY : allV Y = true) (hj : j < P.length) : ∃ t T, P[j]? = some t ∧ TaskAt P V Y j t T := by
  obtain ⟨t, ht⟩ : ∃ t, P[j]? = some t := ⟨P[j], by simp [hj]⟩
  obtain ⟨T, hT⟩ := par_ex (hp.2.2 t (List.mem_of_getElem? ht)).1
  exact ⟨t, T, ht, hp, hV, hY, j, rfl, ht, hT⟩
/-- The effect of a task. -/
structure Eff where
  (V S : List Int)
  (N U : Int)
def zeroEff : Eff := ⟨[], [], 0, 0⟩
def effOf (P : List Tk) (t : Tk) (x : Sx) : Eff := ⟨x.V, x.S, nx (evalV x.V t.o t.x t.y) P.length, x.U.length⟩
def NotAt (P : List Tk) (V Y : List Int) (i : Int) : Prop := ¬ IsPrg P ∨ varsOk V = false ∨ allV Y = false ∨ i < 0 ∨ (P.length : Int) ≤ i
theorem at_or (P : List Tk) (V Y : List Int) (i : Int) : NotAt P V Y i ∨ ∃ t T, TaskAt P V Y i t T := by
  rcases Classical.em (NotAt P V Y i) with h | h
  · exact .inl h
  · right
    have h1 : IsPrg P := Classical.byContradiction fun e => h (.inl e)
    have h2 : varsOk V = true := by cases e : varsOk V; exact absurd (.inr (.inl e)) h; rfl
    have h3 : allV Y = true := by cases e : allV Y; exact absurd (.inr (.inr (.inl e))) h; rfl
    have h4 : 0 ≤ i := Int.not_lt.1 fun e => h (.inr (.inr (.inr (.inl e))))
    have h5 : i < P.length := Int.not_le.1 fun e => h (.inr (.inr (.inr (.inr e))))
    obtain ⟨j, rfl⟩ : ∃ j : Nat, i = j := ⟨i.toNat, by omega⟩
    obtain ⟨t, T, _, hT⟩ := taskAt_ex h1 h2 h3 (show j < P.length by omega)
    exact ⟨t, T, hT⟩
theorem TaskAt.not {P : List Tk} {V Y : List Int} {i : Int} {t : Tk} {T : Fst} (h : TaskAt P V Y i t T) (hn : NotAt P V Y i) : False := by
  obtain ⟨h1, h2, h3, j, rfl, h4, _⟩ := h
  have hl := (List.getElem?_eq_some_iff.1 h4).1
  rcases hn with e | e | e | e | e
  · exact e h1
  · rw [h2] at e; cases e
  · rw [h3] at e; cases e
  · omega
  · omega
/-- What TaskEffect must give. -/
def EffIs (P : List Tk) (V Y : List Int) (i : Int) (r : Bool) (E : Eff) : Prop :=
  (r = false ∧ E = zeroEff ∧ NotAt P V Y i) ∨ (r = true ∧ ∃ t T, TaskAt P V Y i t T ∧ E = effOf P t (exec (listSrc Y) T ⟨V, [], []⟩))
theorem effIs_ex (P : List Tk) (V Y : List Int) (i : Int) : ∃ r E, EffIs P V Y i r E := by
  rcases at_or P V Y i with h | ⟨t, T, h⟩
  · exact ⟨false, zeroEff, .inl ⟨rfl, rfl, h⟩⟩
  · exact ⟨true, _, .inr ⟨rfl, t, T, h, rfl⟩⟩
theorem EffIs.unique {P : List Tk} {V Y : List Int} {i : Int} {r r' : Bool} {E E' : Eff} (h : EffIs P V Y i r E) (h' : EffIs P V Y i r' E') : r = r' ∧ E = E' := by
  rcases h with ⟨rfl, rfl, h⟩ | ⟨rfl, t, T, h, rfl⟩ <;> rcases h' with ⟨rfl, rfl, h'⟩ | ⟨rfl, t', T', h', rfl⟩
  · exact ⟨rfl, rfl⟩
  · exact (h'.not h).elim
  · exact (h.not h').elim
  · obtain ⟨rfl, rfl⟩ := h.unique h'; exact ⟨rfl, rfl⟩
/-- What SensesOf must give. -/
def SensIs (P : List Tk) (V R : List Int) (i z : Int) (U : List Int) : Prop :=
  (U = [] ∧ (NotAt P V R i ∨ z < 0 ∨ 1000000 < z)) ∨ ((0 ≤ z ∧ z ≤ 1000000) ∧ ∃ t T, TaskAt P V R i t T ∧ U = (exec (liveSrc R z) T ⟨V, [], []⟩).U)
theorem sensIs_ex (P : List Tk) (V R : List Int) (i z : Int) : ∃ U, SensIs P V R i z U := by
  by_cases hz : 0 ≤ z ∧ z ≤ 1000000
  · rcases at_or P V R i with h | ⟨t, T, h⟩
    · exact ⟨[], .inl ⟨rfl, .inl h⟩⟩
    · exact ⟨_, .inr ⟨hz, t, T, h, rfl⟩⟩
  · exact ⟨[], .inl ⟨rfl, .inr (by omega)⟩⟩
theorem SensIs.unique {P : List Tk} {V R : List Int} {i z : Int} {U U' : List Int} (h : SensIs P V R i z U) (h' : SensIs P V R i z U') : U = U' := by
  rcases h with ⟨rfl, h⟩ | ⟨hz, t, T, h, rfl⟩ <;> rcases h' with ⟨rfl, h'⟩ | ⟨hz', t', T', h', rfl⟩
  · rfl
  · rcases h with h | h | h
    · exact (h'.not h).elim
    · omega
    · omega
  · rcases h' with h' | h' | h'
    · exact (h.not h').elim
    · omega
    · omega
  · obtain ⟨rfl, rfl⟩ := h.unique h'; rfl
/-- An execution of a valid block sends and senses no more than 3000 values. -/
theorem exec_small {src : Int → Nat → Int} {L : List Sm} (hL : IsBlk L) {T : Fst} (hT : Par L 0 L.length T) (V : List Int) : (exec src T ⟨V, [], []⟩).S.length + (exec src T ⟨V, [], []⟩).U.length ≤ 3000 := by
  have h1 := exec_tot src T ⟨V, [], []⟩
  have h2 := runs_small hL hT.runs (Nat.le_refl _)
  simp [tot] at h1
  omega
theorem TaskAt.small {P : List Tk} {V Y : List Int} {i : Int} {t : Tk} {T : Fst} (h : TaskAt P V Y i t T) (src : Int → Nat → Int) : (exec src T ⟨V, [], []⟩).S.length + (exec src T ⟨V, [], []⟩).U.length ≤ 3000 := by
  have hb := h.blk.1
  obtain ⟨_, _, _, j, _, _, hT⟩ := h
  exact exec_small hb hT V
theorem TaskAt.good {P : List Tk} {V Y : List Int} {i : Int} {t : Tk} {T : Fst} (h : TaskAt P V Y i t T) {src : Int → Nat → Int} (hs : ∀ q n, isVal (src q n) = true) : Good (exec src T ⟨V, [], []⟩) := by
  obtain ⟨_, hV, _⟩ := h
  exact exec_good hs T ⟨hV, (fun q hq => by cases hq), (fun q hq => by cases hq)⟩

/-! What the laws ask. -/
/-- A task that senses the same values does the same, whatever stands behind them. -/
theorem senses_same {P : List Tk} {V R U W : List Int} {z : Int} (hp : IsPrg P) (hV : varsOk V = true) (hU : SensIs P V R 0 z U) (hz : 0 ≤ z ∧ z ≤ 1000000) (hR : allV R = true) (hW : allV W = true) {r : Bool} {E : Eff} (hE : EffIs P V (U ++ W) 0 r E) :
    r = true ∧ E.U = U.length ∧ allV U = true ∧ ∀ r' E', EffIs P V U 0 r' E' → E' = E := by
  obtain ⟨t, T, ht, hT⟩ := taskAt_ex (j := 0) hp hV hR (by have := hp.1; omega)
  have hUv : allV U = true ∧ U = (exec (liveSrc R z) T ⟨V, [], []⟩).U := by
    rcases hU with ⟨_, h⟩ | ⟨_, t', T', h, rfl⟩
    · rcases h with h | h | h
      · exact (hT.not h).elim
      · omega
      · omega
    · obtain ⟨rfl, rfl⟩ := hT.unique h
      exact ⟨(allV_iff _).2 (hT.good (liveSrc_val R z)).2.2, rfl⟩
  have key : ∀ X : List Int, allV X = true → ∀ r' E', EffIs P V (U ++ X) 0 r' E' → r' = true ∧ E' = effOf P t (exec (liveSrc R z) T ⟨V, [], []⟩) := by
    intro X hX r' E' h
    have hUX : allV (U ++ X) = true := (allV_iff _).2 fun q hq => (List.mem_append.1 hq).elim ((allV_iff _).1 hUv.1 q) ((allV_iff _).1 hX q)
    have hT2 : TaskAt P V (U ++ X) 0 t T := ⟨hp, hV, hUX, hT.2.2.2⟩
    rcases h with ⟨_, _, h⟩ | ⟨rfl, t', T', h, rfl⟩
    · exact (hT2.not h).elim
    · obtain ⟨rfl, rfl⟩ := hT2.unique h
      rw [exec_src T ⟨V, [], []⟩ (show (exec (liveSrc R z) T ⟨V, [], []⟩).U <+: U ++ X by rw [← hUv.2]; exact List.prefix_append _ _)]
      exact ⟨rfl, rfl⟩
  obtain ⟨h1, h2⟩ := key W hW r E hE
  refine ⟨h1, ?_, hUv.1, fun r' E' h' => ?_⟩
  · rw [h2, hUv.2]; rfl
  · have := key [] rfl r' E' (by rw [List.append_nil]; exact h')
    rw [this.2, h2]
/-- An effect of valid arguments. -/
theorem EffIs.at {P : List Tk} {V Y : List Int} {j : Nat} {t : Tk} {T : Fst} (h : TaskAt P V Y j t T) {r : Bool} {E : Eff} (hE : EffIs P V Y j r E) : r = true ∧ E = effOf P t (exec (listSrc Y) T ⟨V, [], []⟩) := by
  rcases hE with ⟨_, _, e⟩ | ⟨rfl, t', T', h', rfl⟩
  · exact (h.not e).elim
  · obtain ⟨rfl, rfl⟩ := h.unique h'; exact ⟨rfl, rfl⟩
/-- Variables that may not be written keep their value. -/
theorem eff_writes {P : List Tk} {V Y : List Int} {j : Nat} {t : Tk} {T : Fst} (h : TaskAt P V Y j t T) {r : Bool} {E : Eff} (hE : EffIs P V Y j r E) : r = true ∧ E.V.length = 8 ∧ ∀ v : Nat, ¬ MayTo t.b t.b.length v → E.V[v]? = V[v]? := by
  obtain ⟨rfl, rfl⟩ := hE.at h
  have hb := h.blk.1
  obtain ⟨_, hV, _, k, _, _, hT⟩ := h
  refine ⟨rfl, ?_, fun v hv => ?_⟩
  · show (exec (listSrc Y) T ⟨V, [], []⟩).V.length = 8
    rw [exec_vlen]; exact ((varsOk_iff V).1 hV).1
  · show (exec (listSrc Y) T ⟨V, [], []⟩).V[v]? = V[v]?
    refine exec_unwritten _ T _ (hT.vld hb) v fun hw => hv ?_
    obtain ⟨i, _, h2, h3⟩ := hT.wrT hw
    exact ⟨i, h2, h3⟩
/-- No execution sends or senses more than the longest run has statements. -/
theorem eff_longest {P : List Tk} {V Y : List Int} {j : Nat} {t : Tk} {T : Fst} (h : TaskAt P V Y j t T) {r : Bool} {E : Eff} (hE : EffIs P V Y j r E) {x : Int} (hx : LongIs t.b x) : r = true ∧ (E.S.length : Int) + E.U ≤ x := by
  obtain ⟨rfl, rfl⟩ := hE.at h
  have hb := h.blk
  obtain ⟨_, hV, _, k, _, _, hT⟩ := h
  refine ⟨rfl, ?_⟩
  rcases hx with ⟨_, hx⟩ | ⟨_, hx⟩
  · rw [hx.unique hT.runs]
    have := exec_tot (listSrc Y) T ⟨V, [], []⟩
    simp [tot] at this
    exact this
  · exact absurd hb.1 hx
end Go.Proofs.YtmgeecdgebemdaaGreatDoor.exe

/- An effect as a value, and in new memory. -/
namespace Go.Proofs.YtmgeecdgebemdaaGreatDoor.exe
open Go Go.ChangeShapes Go.WideShapes Go.ChangeAt Go.RowKit Go.Proofs.YtmgeecdgebemdaaGreatDoor.row Go.Proofs.YtmgeecdgebemdaaGreatDoor.val Go.Proofs.YtmgeecdgebemdaaGreatDoor.expr

abbrev effV (a1 : Option Addr) (n1 c1 : Nat) (a2 : Option Addr) (n2 c2 : Nat) (E : Eff) : Value := .agg #[.slice a1 n1 c1, .slice a2 n2 c2, .int .i64 E.N, .int .i64 E.U]
/-- The effect in new memory. -/
def EffMem (B : Nat) (a1 : Option Addr) (n1 c1 : Nat) (a2 : Option Addr) (n2 c2 : Nat) (E : Eff) (w' : World) : Prop :=
  w'.ownsRow B 3 1 (.slice a1 n1 c1) n1 (ivs E.V) ∧ w'.ownsRow B 3 1 (.slice a2 n2 c2) n2 (ivs E.S) ∧ ((Value.slice a1 n1 c1).ownBlock = none ∨ (Value.slice a1 n1 c1).ownBlock ≠ (Value.slice a2 n2 c2).ownBlock)
def NewEff (w : World) (E : Eff) (e : Ending) (w' : World) : Prop :=
  ∃ a1 n1 c1 a2 n2 c2, e = .returned (effV a1 n1 c1 a2 n2 c2 E) ∧ EffMem w.heap.size a1 n1 c1 a2 n2 c2 E w' ∧ Below w.heap.size w w'
def NewEffB (w : World) (r : Bool) (E : Eff) (e : Ending) (w' : World) : Prop :=
  ∃ a1 n1 c1 a2 n2 c2, e = .returned (.tuple #[effV a1 n1 c1 a2 n2 c2 E, .bool r]) ∧ EffMem w.heap.size a1 n1 c1 a2 n2 c2 E w' ∧ Below w.heap.size w w'
abbrev zero4E : Array Value := #[.slice none 0 0, .slice none 0 0, .int .i64 0, .int .i64 0]
end Go.Proofs.YtmgeecdgebemdaaGreatDoor.exe

/- Parts of a block: a stretch at one height is a valid block of its own; what runs in the part runs in the whole. Plain mathematics. -/
namespace Go.Proofs.YtmgeecdgebemdaaGreatDoor.blk
open Go Go.ChangeShapes Go.WideShapes Go.ChangeAt Go.RowKit Go.Proofs.YtmgeecdgebemdaaGreatDoor.row Go.Proofs.YtmgeecdgebemdaaGreatDoor.stm

/-- The part of 'm' statements from 'c' on. -/
def part (L : List Go.Proofs.YtmgeecdgebemdaaGreatDoor.stm.St) (c m : Nat) : List Go.Proofs.YtmgeecdgebemdaaGreatDoor.stm.St := (L.drop c).take m
theorem part_len {L : List Go.Proofs.YtmgeecdgebemdaaGreatDoor.stm.St} {c m : Nat} (h : c + m ≤ L.length) : (part L c m).length = m := by
  unfold part; rw [List.length_take, List.length_drop]; omega
theorem part_at {L : List Go.Proofs.YtmgeecdgebemdaaGreatDoor.stm.St} {c m j : Nat} (h : j < m) : (part L c m)[j]? = L[c + j]? := by
  unfold part; rw [List.getElem?_take, if_pos h, List.getElem?_drop]
theorem part_ht {L : List Go.Proofs.YtmgeecdgebemdaaGreatDoor.stm.St} {c m : Nat} (h : c + m ≤ L.length) : ∀ t, t ≤ m → hAt (part L c m) t = hAt L (c + t) - hAt L c := by
  intro t
  induction t with
  | zero => intro _; rw [hAt_zero, Nat.add_zero]; omega
  | succ t ih =>
    intro ht
    obtain ⟨s, hs⟩ := at_lt (show c + t < L.length by omega)
    have h1 := hAt_succ hs
    have h2 := hAt_succ (show (part L c m)[t]? = some s by rw [part_at (by omega)]; exact hs)
    rw [h2, ih (by omega), show c + (t + 1) = c + t + 1 by omega, h1]; omega
theorem part_end {L : List Go.Proofs.YtmgeecdgebemdaaGreatDoor.stm.St} {c m i e : Nat} (h : c + m ≤ L.length) (hE : IsEnd (part L c m) i e) : IsEnd L (c + i) (c + e) := by
  obtain ⟨h1, h2, h3, h4⟩ := hE
  rw [part_len h] at h2
  have k1 := part_ht h (e + 1) (by omega)
  have k2 := part_ht h i (by omega)
  refine ⟨by omega, by omega, by rw [show c + e + 1 = c + (e + 1) by omega]; omega, fun j hj hje => ?_⟩
  obtain ⟨t, rfl⟩ : ∃ t, j = c + t := ⟨j - c, by omega⟩
  have := h4 t (by omega) (by omega)
  have := part_ht h t (by omega)
  omega
theorem part_runs {L : List Go.Proofs.YtmgeecdgebemdaaGreatDoor.stm.St} {c m a b : Nat} {x : Int} (h : c + m ≤ L.length) (hr : Runs (part L c m) a b x) : b ≤ m → Runs L (c + a) (c + b) x := by
  induction hr with
  | nil a => intro _; exact .nil _
  | one a b x s hs ho h6 hr ih =>
    intro hb
    have hl := hr.le
    refine .one _ _ _ s (by rw [← part_at (show a < m by omega)]; exact hs) ho h6 ?_
    have := ih hb
    rw [show c + (a + 1) = c + a + 1 by omega] at this; exact this
  | nest a e b x y s hs he hbb hr ih1 ih2 =>
    intro hb
    have hl := hr.le
    have hae := he.1
    have h1 := ih1 (by omega)
    have h2 := ih2 hb
    rw [show c + (a + 1) = c + a + 1 by omega] at h1
    rw [show c + (e + 1) = c + e + 1 by omega] at h2
    exact .nest _ (c + e) _ _ _ s (by rw [← part_at (show a < m by omega)]; exact hs) (part_end h he) h1 h2
theorem part_blk {L : List Go.Proofs.YtmgeecdgebemdaaGreatDoor.stm.St} {c m : Nat} (hb : IsBlk L) (hF : Flat L c (c + m)) : IsBlk (part L c m) := by
  obtain ⟨_, h2, h3, h4⟩ := hF
  have hl := part_len h2
  refine ⟨fun j s hj hs => ?_, ?_, by rw [hl]; have := hb.2.2; omega⟩
  · rw [hl] at hj
    have hs' : L[c + j]? = some s := by rw [← part_at hj]; exact hs
    have k1 := part_ht h2 (j + 1) (by omega)
    have k2 := h4 (c + (j + 1)) (by omega) (by omega)
    have k3 := (blk_bounds hb (c + (j + 1))).2
    have k4 := (blk_bounds hb c).1
    exact ⟨blk_stOk hb hs', by omega, by omega⟩
  · rw [hl, part_ht h2 m (Nat.le_refl _)]; omega
/-- The body of a statement that opens, at the head of a block. -/
theorem body_blk {L : List Go.Proofs.YtmgeecdgebemdaaGreatDoor.stm.St} (hb : IsBlk L) {e : Nat} (he : IsEnd L 0 e) : IsBlk (part L 1 (e - 1)) := by
  have := flat_body he
  have h0 := he.1
  rw [show e = 1 + (e - 1) by omega] at this
  exact part_blk hb this
/-- What stands behind a place at height 0. -/
theorem rest_blk {L : List Go.Proofs.YtmgeecdgebemdaaGreatDoor.stm.St} (hb : IsBlk L) {c : Nat} (hc : c ≤ L.length) (h0 : hAt L c = 0) : IsBlk (part L c (L.length - c)) := by
  refine part_blk hb ⟨by omega, by omega, ?_, fun t _ _ => by rw [h0]; exact (blk_bounds hb t).1⟩
  rw [show c + (L.length - c) = L.length by omega, hb.2.1, h0]
/-- A block that begins with a statement that neither opens nor ends. -/
theorem runs_flat {L : List Go.Proofs.YtmgeecdgebemdaaGreatDoor.stm.St} {s : Go.Proofs.YtmgeecdgebemdaaGreatDoor.stm.St} {y : Int} (hl : 1 ≤ L.length) (hs : L[0]? = some s) (ho : opn s = false) (h6 : s.k ≠ 6) (h : Runs (part L 1 (L.length - 1)) 0 (part L 1 (L.length - 1)).length y) : Runs L 0 L.length (1 + y) := by
  have hp : 1 + (L.length - 1) ≤ L.length := by omega
  rw [part_len hp] at h
  have h1 := part_runs hp h (Nat.le_refl _)
  rw [Nat.add_zero, show 1 + (L.length - 1) = L.length by omega] at h1
  exact .one 0 _ y s hs ho h6 h1
/-- A block that begins with a statement that opens. -/
theorem runs_nest {L : List Go.Proofs.YtmgeecdgebemdaaGreatDoor.stm.St} {s : Go.Proofs.YtmgeecdgebemdaaGreatDoor.stm.St} {e : Nat} {x y : Int} (hs : L[0]? = some s) (he : IsEnd L 0 e) (hx : Runs (part L 1 (e - 1)) 0 (part L 1 (e - 1)).length x) (h : Runs (part L (e + 1) (L.length - (e + 1))) 0 (part L (e + 1) (L.length - (e + 1))).length y) :
    Runs L 0 L.length (max 1 s.n * x + y) := by
  have h0 := he.1
  have h1 := he.2.1
  have hp : 1 + (e - 1) ≤ L.length := by omega
  have hq : (e + 1) + (L.length - (e + 1)) ≤ L.length := by omega
  rw [part_len hp] at hx
  rw [part_len hq] at h
  have k1 := part_runs hp hx (Nat.le_refl _)
  have k2 := part_runs hq h (Nat.le_refl _)
  rw [Nat.add_zero, show 1 + (e - 1) = e by omega] at k1
  rw [Nat.add_zero, show (e + 1) + (L.length - (e + 1)) = L.length by omega] at k2
  exact .nest 0 e _ x y s hs he k1 k2
/-- How often the body of a valid statement that opens runs. -/
theorem n_if {s : Go.Proofs.YtmgeecdgebemdaaGreatDoor.stm.St} (h : stOk s = true) (h4 : s.k = 4) : max 1 s.n = 1 := by
  unfold stOk at h
  rw [if_neg (by omega), if_neg (by omega), if_neg (by omega), if_pos h4] at h
  simp at h; omega
theorem n_loop {s : Go.Proofs.YtmgeecdgebemdaaGreatDoor.stm.St} (h : stOk s = true) (h5 : s.k = 5) : max 1 s.n = s.n := by
  unfold stOk at h
  rw [if_neg (by omega), if_neg (by omega), if_neg (by omega), if_neg (by omega), if_pos h5] at h
  simp at h; omega
/-- A part of a slice. -/
theorem StRow.cut {w : World} {a A : Option Addr} {n : Nat} {L : List Go.Proofs.YtmgeecdgebemdaaGreatDoor.stm.St} (h : StRow w a n L) (c m : Nat) (hcm : c + m ≤ n) (hA : ∀ b off, a = some ⟨b, off, none⟩ → 0 < m → A = some ⟨b, off + c * 6, none⟩) : StRow w A m (part L c m) :=
  ⟨part_len (by rw [h.1]; exact hcm), fun k hk => by
    obtain ⟨b, off, s, ha, hlt, hs, hr⟩ := h.2 (c + k) (by omega)
    refine ⟨b, off + c * 6, s, hA b off ha (by omega), hlt, by rw [part_at hk]; exact hs, ?_⟩
    rw [show off + c * 6 + k * 6 = off + (c + k) * 6 by omega]; exact hr⟩
theorem own_le {w : World} {base n cap : Nat} {a : Option Addr} {t : TypeId} {z : Nat} {xs : List Value} (h : w.ownsRow base t z (.slice a n cap) n xs) : n ≤ cap := by
  rcases h.2 with ⟨hv, h0⟩ | ⟨g, c, cur, hv, _, _, hle, _⟩
  · omega
  · simp only [Value.slice.injEq] at hv; omega
end Go.Proofs.YtmgeecdgebemdaaGreatDoor.blk
