/- Several texts in one: BlkS EvalB EvalE PrgW. -/
import Derived.Test.YtlicadaecfgklaaGreatGHub3
import Derived.Test.YtlicadaecfgklaaGreatGHub13
import Derived.Test.YtlicadaecfgklaaGreatGHub4
import Derived.Test.YtlicadaecfgklaaGreatGHub1
import Derived.Laws.EntriesVeiled
import Derived.Test.YtlicadaecfgklaaGreatGHub8
import Derived.Deep.RegionHeld3
import Derived.IntWalk

/- Chapter 5's model: BlockOk, the matching end, EndOf, DepthOf, LongestRun: what the plain relations say, for every list of statements; nothing that was there is written. -/
namespace Go.Proofs.YtlicadaecfgklaaGreat.blk
open Go Go.ChangeShapes Go.WideShapes Go.ChangeAt Go.RowKit Go.Proofs.YtlicadaecfgklaaGreat.row Go.Proofs.YtlicadaecfgklaaGreat.val Go.Proofs.YtlicadaecfgklaaGreat.expr Go.Proofs.YtlicadaecfgklaaGreat.stm

theorem stm_below {w w1 w2 : World} (h : Below w.heap.size w w1) (h2 : Below w1.heap.size w1 w2) : Below w.heap.size w w2 := below_then h h2
set_option maxHeartbeats 4000000 in
set_option maxRecDepth 100000 in
theorem spec_blockok (a : Option Addr) (n cap : Nat) (L : List Go.Proofs.YtlicadaecfgklaaGreat.stm.St) (hn : (n : Int) ≤ 1048576) (w : World) (h : StRow w a n L) (r : Bool) (hr : r = true ↔ IsBlk L) :
    Calls Tryz.prog 34 #[.slice a n cap] w (BelB w r) := by
  have HL := Lib.hid h
  have HR := Lib.hid hr
  clear h hr
  go_enter Tryz.func34, Tryz.ntmps34
  go_wp2
  go_loopw [3, 4] (fun o i wr => ∃ (k : Nat) (x : Int), k ≤ n ∧ i = .int .i64 k ∧ o = .int .i64 x ∧ 0 ≤ x ∧ x ≤ 3 ∧ Hid (x = hAt L k) ∧ Hid (OkTo L k) ∧ Below w.heap.size w wr) (fun _ i _ => n - (intOf i).toNat)
  case atStart => exact ⟨0, 0, Nat.zero_le _, rfl, rfl, by omega, by omega, rfl, okTo_zero L, Below.refl _ _⟩
  case round =>
    obtain ⟨k, x, hk, rfl, rfl, hx0, hx3, hH, hO, hbel⟩ := hrel
    by_cases hlt : k < n
    · obtain ⟨b, off, s, rfl, hlb, hs, hrg⟩ := (HL.out.below hbel).2 k hlt
      have HS := Lib.hid (And.intro hrg (And.intro hs hbel))
      have hI : (k : Int) < n := by omega
      clear hrg hs hbel
      cases hst : stOk s
      · have hrf : r = false := by
          rw [← Bool.not_eq_true]; intro e; exact not_blk_at HS.out.2.1 (.inl hst) (HR.out.1 e)
        have HST := Lib.hid hst
        clear hst
        subst hrf
        go_wp2_with (first
          | (refine wpList_load_mid rfl 68 _ rfl b (off + k * 6) rfl (stC s) _ HS.out.1 Tryz.underlying68 rfl (by kernel_rfl) ?_)
          | (go_at_call 60; refine (spec_stmtok s false HST.out _).mono ?_; rintro e w2 ⟨rfl, hb2⟩))
        go_ret
        exact ⟨rfl, below_then HS.out.2.2 hb2⟩
      · have HST := Lib.hid hst
        clear hst
        go_wp2_with (first
          | (refine wpList_load_mid rfl 68 _ rfl b (off + k * 6) rfl (stC s) _ HS.out.1 Tryz.underlying68 rfl (by kernel_rfl) ?_)
          | (go_at_call 60; refine (spec_stmtok s true HST.out _).mono ?_; rintro e w2 ⟨rfl, hb2⟩; refine Hid.out ?_))
        have hc2 := (hb2.cell (p := ⟨b, off + k * 6, none⟩) hlb).trans (range6 HS.out.1).1
        have HB2 := Lib.hid (below_then HS.out.2.2 hb2)
        have hnx := hAt_succ HS.out.2.1
        obtain ⟨d, hd⟩ : ∃ d, dlt s = d := ⟨_, rfl⟩
        rw [hd, ← hH.out] at hnx
        clear hb2
        rcases (show (s.k = 4 ∧ d = 1) ∨ (s.k = 5 ∧ d = 1) ∨ (s.k = 6 ∧ d = -1) ∨ (s.k ≠ 4 ∧ s.k ≠ 5 ∧ s.k ≠ 6 ∧ d = 0) by
          rw [← hd]; unfold dlt; split
          · omega
          · split <;> omega) with ⟨hk4, rfl⟩ | ⟨hk4, rfl⟩ | ⟨hk4, rfl⟩ | ⟨hk4, hk5, hk6, rfl⟩
        · have hq : (s.k == 4) = true := by rw [hk4]; rfl
          have hq5 : (s.k == 5) = false := by rw [hk4]; rfl
          clear hd hk4
          by_cases hx : x + 1 ≤ 3
          · skip
            have HIN := Lib.hid (show (decide (0 ≤ (x + 1)) && decide ((x + 1) ≤ 3)) = true by simp; omega)
            have HO2 := Lib.hid (okTo_succ hO.out HS.out.2.1 HST.out (by omega) (by omega))
            have HX2 := Lib.hid (show (x + 1) = hAt L (k + 1) by omega)
            refine Lib.hid ?_
            go_wp2_with (go_at_call 31; (with_reducible refine (in_any _ 0 3 _ HIN.out _).mono ?_); rintro e w3 ⟨rfl, rfl⟩)
            go_roundw
            case rel => exact ⟨k + 1, (x + 1), by omega, by go_num, rfl, by omega, by omega, HX2, HO2, HB2.out⟩
            case measure => simp [intOf]; omega
          · skip
            have HIN := Lib.hid (show (decide (0 ≤ (x + 1)) && decide ((x + 1) ≤ 3)) = false by simp; omega)
            have hrf : r = false := by
              rw [← Bool.not_eq_true]; intro e; exact not_blk_at HS.out.2.1 (.inr (by omega)) (HR.out.1 e)
            subst hrf
            refine Lib.hid ?_
            go_wp2_with (go_at_call 31; (with_reducible refine (in_any _ 0 3 _ HIN.out _).mono ?_); rintro e w3 ⟨rfl, rfl⟩)
            go_ret
            exact ⟨rfl, HB2.out⟩
        · have hq : (s.k == 4) = false := by rw [hk4]; rfl
          have hq5 : (s.k == 5) = true := by rw [hk4]; rfl
          clear hd hk4
          by_cases hx : x + 1 ≤ 3
          · skip
            have HIN := Lib.hid (show (decide (0 ≤ (x + 1)) && decide ((x + 1) ≤ 3)) = true by simp; omega)
            have HO2 := Lib.hid (okTo_succ hO.out HS.out.2.1 HST.out (by omega) (by omega))
            have HX2 := Lib.hid (show (x + 1) = hAt L (k + 1) by omega)
            refine Lib.hid ?_
            go_wp2_with (go_at_call 31; (with_reducible refine (in_any _ 0 3 _ HIN.out _).mono ?_); rintro e w3 ⟨rfl, rfl⟩)
            go_roundw
            case rel => exact ⟨k + 1, (x + 1), by omega, by go_num, rfl, by omega, by omega, HX2, HO2, HB2.out⟩
            case measure => simp [intOf]; omega
          · skip
            have HIN := Lib.hid (show (decide (0 ≤ (x + 1)) && decide ((x + 1) ≤ 3)) = false by simp; omega)
            have hrf : r = false := by
              rw [← Bool.not_eq_true]; intro e; exact not_blk_at HS.out.2.1 (.inr (by omega)) (HR.out.1 e)
            subst hrf
            refine Lib.hid ?_
            go_wp2_with (go_at_call 31; (with_reducible refine (in_any _ 0 3 _ HIN.out _).mono ?_); rintro e w3 ⟨rfl, rfl⟩)
            go_ret
            exact ⟨rfl, HB2.out⟩
        · have hq : (s.k == 4) = false := by rw [hk4]; rfl
          have hq5 : (s.k == 5) = false := by rw [hk4]; rfl
          have hq6 : (s.k == 6) = true := by rw [hk4]; rfl
          clear hd hk4
          by_cases hx : 0 ≤ x - 1
          · skip
            have HIN := Lib.hid (show (decide (0 ≤ (x - 1)) && decide ((x - 1) ≤ 3)) = true by simp; omega)
            have HO2 := Lib.hid (okTo_succ hO.out HS.out.2.1 HST.out (by omega) (by omega))
            have HX2 := Lib.hid (show (x - 1) = hAt L (k + 1) by omega)
            refine Lib.hid ?_
            go_wp2_with (go_at_call 31; (with_reducible refine (in_any _ 0 3 _ HIN.out _).mono ?_); rintro e w3 ⟨rfl, rfl⟩)
            go_roundw
            case rel => exact ⟨k + 1, (x - 1), by omega, by go_num, rfl, by omega, by omega, HX2, HO2, HB2.out⟩
            case measure => simp [intOf]; omega
          · skip
            have HIN := Lib.hid (show (decide (0 ≤ (x - 1)) && decide ((x - 1) ≤ 3)) = false by simp; omega)
            have hrf : r = false := by
              rw [← Bool.not_eq_true]; intro e; exact not_blk_at HS.out.2.1 (.inr (by omega)) (HR.out.1 e)
            subst hrf
            refine Lib.hid ?_
            go_wp2_with (go_at_call 31; (with_reducible refine (in_any _ 0 3 _ HIN.out _).mono ?_); rintro e w3 ⟨rfl, rfl⟩)
            go_ret
            exact ⟨rfl, HB2.out⟩
        · have hq : (s.k == 4) = false := by rw [beq_eq_false_iff_ne]; exact hk4
          have hq5 : (s.k == 5) = false := by rw [beq_eq_false_iff_ne]; exact hk5
          have hq6 : (s.k == 6) = false := by rw [beq_eq_false_iff_ne]; exact hk6
          clear hd hk4 hk5 hk6
          have HIN := Lib.hid (show (decide (0 ≤ x) && decide (x ≤ 3)) = true by simp; omega)
          have HO2 := Lib.hid (okTo_succ hO.out HS.out.2.1 HST.out (by omega) (by omega))
          have HX2 := Lib.hid (show x = hAt L (k + 1) by omega)
          refine Lib.hid ?_
          go_wp2_with (go_at_call 31; (with_reducible refine (in_any _ 0 3 _ HIN.out _).mono ?_); rintro e w3 ⟨rfl, rfl⟩)
          go_roundw
          case rel => exact ⟨k + 1, x, by omega, by go_num, rfl, by omega, by omega, HX2, HO2, HB2.out⟩
          case measure => simp [intOf]; omega
    · obtain rfl : k = n := by omega
      have hI : ¬ (k : Int) < k := by omega
      have hlen := HL.out.1
      have hOK := hO.out
      have hHX := hH.out
      rcases (show x ≠ 0 ∨ (x = 0 ∧ 24 < k) ∨ (x = 0 ∧ k ≤ 24) by omega) with hx | ⟨hx, h24⟩ | ⟨hx, h24⟩
      · have hrf : r = false := by
          rw [← Bool.not_eq_true]; intro e; have := (HR.out.1 e).2.1; rw [hlen] at this; omega
        have hxb : (x == 0) = false := by rw [beq_eq_false_iff_ne]; exact hx
        have HB := Lib.hid hbel
        clear hOK hHX hbel
        subst hrf
        go_wp2
        go_ret
        exact ⟨rfl, HB.out⟩
      · have hrf : r = false := by
          rw [← Bool.not_eq_true]; intro e; have := (HR.out.1 e).2.2; omega
        have hxb : (x == 0) = true := by rw [hx]; rfl
        have h24I : (24 : Int) < k := by omega
        have HB := Lib.hid hbel
        clear hOK hHX hbel hx
        subst hrf
        go_wp2
        go_ret
        exact ⟨by simp; try omega, HB.out⟩
      · have hrt : r = true := HR.out.2 ⟨by rw [hlen]; exact hOK, by rw [hlen]; omega, by omega⟩
        have hxb : (x == 0) = true := by rw [hx]; rfl
        have h24I : (k : Int) ≤ 24 := by omega
        have HB := Lib.hid hbel
        clear hOK hHX hbel hx
        subst hrt
        go_wp2
        go_ret
        exact ⟨by simp; try omega, HB.out⟩
end Go.Proofs.YtlicadaecfgklaaGreat.blk

/- Chapter 3's EvalExpr, of the program and of the model: the plain function 'evalV'; nothing that was there is written. -/
namespace Go.Proofs.YtlicadaecfgklaaGreat.expr
open Go.ChangeShapes Go.WideShapes Go.ChangeAt Go.RowKit Go.Proofs.YtlicadaecfgklaaGreat.row Go.Proofs.YtlicadaecfgklaaGreat.val

def bit (b : Bool) : Int := if b then 1 else 0
def evalOf (o A B : Int) : Int :=
  if o = 1 then sat (sat A + sat B) else if o = 2 then sat (sat A - sat B) else if o = 3 then sat (sat A * sat B)
  else if o = 4 then min A B else if o = 5 then max A B else if o = 6 then bit (decide (A < B)) else bit (decide (A = B))
def evalV (L : List Int) (o a b : Int) : Int := if varsOk L && exprOk o a b then evalOf o (valOf L a) (valOf L b) else 0
theorem evalV_no {L : List Int} {o a b : Int} (h : varsOk L = false ∨ exprOk o a b = false) : evalV L o a b = 0 := by
  rcases h with h | h <;> simp [evalV, h]
theorem evalV_ok {L : List Int} {o a b : Int} (h : varsOk L = true) (h2 : exprOk o a b = true) : evalV L o a b = evalOf o (valOf L a) (valOf L b) := by simp [evalV, h, h2]
theorem exprOk_iff (o a b : Int) : exprOk o a b = true ↔ (1 ≤ o ∧ o ≤ 7) ∧ opndOk a = true ∧ opndOk b = true := by simp [exprOk, opOk]

theorem ev1 (A B : Int) : evalOf 1 A B = sat (sat A + sat B) := by simp [evalOf]
theorem ev2 (A B : Int) : evalOf 2 A B = sat (sat A - sat B) := by simp [evalOf]
theorem ev3 (A B : Int) : evalOf 3 A B = sat (sat A * sat B) := by simp [evalOf]
theorem ev4 (A B : Int) : evalOf 4 A B = min A B := by simp [evalOf]
theorem ev5 (A B : Int) : evalOf 5 A B = max A B := by simp [evalOf]
theorem ev6 (A B : Int) : evalOf 6 A B = bit (decide (A < B)) := by simp [evalOf]
theorem ev7 (A B : Int) : evalOf 7 A B = bit (decide (A = B)) := by simp [evalOf]
section model
end model

section program
end program
end Go.Proofs.YtlicadaecfgklaaGreat.expr

/- The value of an expression is a value. Plain mathematics. -/
namespace Go.Proofs.YtlicadaecfgklaaGreat.expr
open Go.ChangeShapes Go.WideShapes Go.ChangeAt Go.RowKit Go.Proofs.YtlicadaecfgklaaGreat.row Go.Proofs.YtlicadaecfgklaaGreat.val

theorem sat_val (n : Int) : isVal (sat n) = true := isVal_in (sat_bd n).1 (sat_bd n).2
theorem bit_val (b : Bool) : isVal (bit b) = true := by cases b <;> rfl
theorem valOf_val {L : List Int} (h : varsOk L = true) {m : Int} (hm : opndOk m = true) : isVal (valOf L m) = true := by
  have hb := (opndOk_iff m).1 hm
  unfold valOf
  split
  · rename_i h0
    obtain ⟨h1, _⟩ := opnd_at h hm h0
    rw [List.getD_eq_getElem?_getD, List.getElem?_eq_getElem h1]
    exact ((varsOk_iff L).1 h).2 _ (List.getElem_mem h1)
  · exact isVal_in (by omega) (by omega)
theorem evalOf_val {o A B : Int} (hA : isVal A = true) (hB : isVal B = true) : isVal (evalOf o A B) = true := by
  have a := (isVal_iff A).1 hA
  have b := (isVal_iff B).1 hB
  unfold evalOf
  split
  · exact sat_val _
  split
  · exact sat_val _
  split
  · exact sat_val _
  split
  · exact isVal_in (by omega) (by omega)
  split
  · exact isVal_in (by omega) (by omega)
  split
  · exact bit_val _
  · exact bit_val _
theorem evalV_val (L : List Int) (o a b : Int) : isVal (evalV L o a b) = true := by
  unfold evalV
  split
  · rename_i h
    rw [Bool.and_eq_true] at h
    obtain ⟨_, ha, hb⟩ := (exprOk_iff o a b).1 h.2
    exact evalOf_val (valOf_val h.1 ha) (valOf_val h.1 hb)
  · rfl
end Go.Proofs.YtlicadaecfgklaaGreat.expr

/- Chapter 6's model: ProgramOk, NextTask: what the plain relations say; nothing that was there is written. -/
namespace Go.Proofs.YtlicadaecfgklaaGreat.prg
open Go Go.ChangeShapes Go.WideShapes Go.ChangeAt Go.RowKit Go.Proofs.YtlicadaecfgklaaGreat.row Go.Proofs.YtlicadaecfgklaaGreat.val Go.Proofs.YtlicadaecfgklaaGreat.expr Go.Proofs.YtlicadaecfgklaaGreat.stm Go.Proofs.YtlicadaecfgklaaGreat.blk

/-- Each task ahead of 'k' is valid. -/
def OkTasks (P : List Tk) (k : Nat) : Prop := ∀ j t, j < k → P[j]? = some t → IsBlk t.b ∧ exprOk t.o t.x t.y = true
theorem OkTasks.zero (P : List Tk) : OkTasks P 0 := fun j t h => by omega
theorem OkTasks.next {P : List Tk} {k : Nat} {t : Tk} (h : OkTasks P k) (ht : P[k]? = some t) (hb : IsBlk t.b) (he : exprOk t.o t.x t.y = true) : OkTasks P (k + 1) := fun j t' hj ht' => by
  by_cases e : j = k
  · subst e; rw [ht] at ht'; cases ht'; exact ⟨hb, he⟩
  · exact h j t' (by omega) ht'
theorem isPrg_iff {P : List Tk} : IsPrg P ↔ (1 ≤ P.length ∧ P.length ≤ 6) ∧ OkTasks P P.length := by
  refine ⟨fun h => ⟨⟨h.1, h.2.1⟩, fun j t _ ht => h.2.2 t (mem_at ht)⟩, fun h => ⟨h.1.1, h.1.2, fun t ht => ?_⟩⟩
  obtain ⟨j, hj⟩ := List.mem_iff_getElem?.1 ht
  exact h.2 j t (List.getElem?_eq_some_iff.1 hj).1 hj
theorem not_prg {P : List Tk} {k : Nat} {t : Tk} (ht : P[k]? = some t) (h : ¬ IsBlk t.b ∨ exprOk t.o t.x t.y = false) : ¬ IsPrg P := fun hp => by
  have := hp.2.2 t (mem_at ht)
  rcases h with h | h
  · exact h this.1
  · rw [h] at this; exact absurd this.2 (by decide)
theorem prg_dec (P : List Tk) : ∃ r : Bool, r = true ↔ IsPrg P := by
  rcases Classical.em (IsPrg P) with h | h
  · exact ⟨true, fun _ => h, fun _ => rfl⟩
  · exact ⟨false, fun e => (by cases e), fun e => absurd e h⟩
/-- The program's argument: its block, and what lies behind. -/
abbrev PrgW (w W : World) (a : Option Addr) (n cap : Nat) (P : List Tk) : Prop :=
  W.cell? ⟨w.heap.size, 0, none⟩ = some (.slice a n cap) ∧ TkRow W a n P ∧ Below w.heap.size w W ∧ W.heap.size = w.heap.size + 1
theorem prgW_new (w : World) (a : Option Addr) (n cap : Nat) (P : List Tk) (t : TypeId) (h : TkRow w a n P) : PrgW w (w.alloc (.cells #[.slice a n cap] t)) a n cap P :=
  ⟨(Box.new w #[.slice a n cap] t).cell 0, h.below (below_new w _), below_new w _, by simp⟩
set_option maxHeartbeats 4000000 in
set_option maxRecDepth 100000 in
theorem spec_programok (a : Option Addr) (n cap : Nat) (P : List Tk) (hz : Sizes P) (w : World) (h : TkRow w a n P) (r : Bool) (hr : r = true ↔ IsPrg P) :
    Calls Tryz.prog 29 #[.agg #[.slice a n cap]] w (BelB w r) := by
  obtain ⟨W, hW⟩ : ∃ W, W = w.alloc (.cells #[.slice a n cap] 30) := ⟨_, rfl⟩
  have HP := Lib.hid (show PrgW w W a n cap P from by rw [hW]; exact prgW_new w a n cap P _ h)
  have HW := Lib.hid hW.symm
  have HR := Lib.hid hr
  have HZ := Lib.hid hz
  have hlen := h.1
  have hn : (n : Int) ≤ 1048576 := by have := hz.1; omega
  have HLN := Lib.hid hlen
  have hwl : w.heap.size < W.heap.size := by rw [hW]; simp
  clear h hr hz hW hlen
  go_enter Tryz.func29, Tryz.ntmps29
  go_wp2
  rw [HW.out]
  go_loopw [3] (fun i wr => ∃ k : Nat, k ≤ n ∧ i = .int .i64 k ∧ Hid (OkTasks P k) ∧ Below W.heap.size W wr) (fun i _ => n - (intOf i).toNat)
  case atStart => exact ⟨0, Nat.zero_le _, rfl, OkTasks.zero P, Below.refl _ _⟩
  case round =>
    obtain ⟨k, hk, rfl, hO, hbel⟩ := hrel
    have c0 : wr.cell? ⟨w.heap.size, 0, none⟩ = some (.slice a n cap) := (hbel.cell (p := ⟨w.heap.size, 0, none⟩) hwl).trans HP.out.1
    by_cases hlt : k < n
    · obtain ⟨g, off, t, rfl, hlb, ht, ab, nb, cb, hrg, hbc, hrow⟩ := (HP.out.2.1.below hbel).2 k hlt
      have hI : (k : Int) < n := by omega
      have hnb : (nb : Int) ≤ 1048576 := by have := HZ.out.2 t (mem_at ht); rw [hrow.1] at this; omega
      have q0 := (range4 hrg).1
      have HT := Lib.hid (And.intro ht (And.intro hrow (And.intro hbel hrg)))
      have hwl2 := Nat.lt_of_lt_of_le hwl hbel.size
      clear ht hrow hrg
      obtain ⟨rb, hrb⟩ := blk_dec t.b
      have HRB := Lib.hid hrb
      clear hbel
      cases rb
      · have hrf : r = false := by
          rw [← Bool.not_eq_true]; intro e; exact not_prg HT.out.1 (.inl (fun hb => by have := hrb.2 hb; cases this)) (HR.out.1 e)
        clear hrb
        subst hrf
        go_wp2_with (go_at_call 34; (with_reducible refine (spec_blockok ab nb cb t.b hnb _ HT.out.2.1 false HRB.out).mono ?_); rintro e w2 ⟨rfl, hb2⟩)
        go_ret
        exact ⟨rfl, HP.out.2.2.1.trans ((below_then HT.out.2.2.1 hb2).mono (Nat.le_of_lt hwl))⟩
      · have HBK := Lib.hid (hrb.1 rfl)
        clear hrb
        go_wp2_with (go_at_call 34; (with_reducible refine (spec_blockok ab nb cb t.b hnb _ HT.out.2.1 true HRB.out).mono ?_); rintro e w2 ⟨rfl, hb2⟩; refine Hid.out ?_)
        have d0 : w2.cell? ⟨w.heap.size, 0, none⟩ = some (.slice (some ⟨g, off, none⟩) n cap) := (hb2.cell (p := ⟨w.heap.size, 0, none⟩) hwl2).trans c0
        have d := held4o hb2 hlb (range4 HT.out.2.2.2)
        have d1 := d.2.1
        have d2 := d.2.2.1
        have d3 := d.2.2.2
        have HB2 := Lib.hid (below_then HT.out.2.2.1 hb2)
        clear hb2 d
        cases he : exprOk t.o t.x t.y
        · have hrf : r = false := by
            rw [← Bool.not_eq_true]; intro e; exact not_prg HT.out.1 (.inr he) (HR.out.1 e)
          have HE := Lib.hid he
          clear he
          subst hrf
          refine Lib.hid ?_
          go_wp2_with (go_at_call 59; (with_reducible refine (spec_exprok t.o t.x t.y false HE.out _).mono ?_); rintro e w3 ⟨rfl, hb3⟩)
          go_ret
          exact ⟨rfl, HP.out.2.2.1.trans ((below_then HB2.out hb3).mono (Nat.le_of_lt hwl))⟩
        · have HE := Lib.hid he
          clear he
          refine Lib.hid ?_
          go_wp2_with (go_at_call 59; (with_reducible refine (spec_exprok t.o t.x t.y true HE.out _).mono ?_); rintro e w3 ⟨rfl, hb3⟩; refine Hid.out ?_)
          have HB3 := Lib.hid (below_then HB2.out hb3)
          clear hb3
          refine Lib.hid ?_
          go_wp2
          go_roundw
          case rel => exact ⟨k + 1, by omega, by go_num, hO.out.next HT.out.1 HBK.out HE.out, HB3.out⟩
          case measure => simp [intOf]; omega
    · obtain rfl : k = n := by omega
      have hI : ¬ (k : Int) < k := by omega
      have HBB := Lib.hid hbel
      have hlk := HLN.out
      have HIN := Lib.hid (show (decide ((1 : Int) ≤ k) && decide ((k : Int) ≤ 6)) = r by
        have h1 := isPrg_iff (P := P)
        rw [hlk] at h1
        have h2 := HR.out
        cases r
        · simp only [Bool.and_eq_false_iff, decide_eq_false_iff_not]
          rcases (show ¬ (1 : Int) ≤ k ∨ ¬ (k : Int) ≤ 6 ∨ (1 ≤ k ∧ k ≤ 6) by omega) with h | h | h
          · exact .inl h
          · exact .inr h
          · have := h2.2 (h1.2 ⟨h, hO.out⟩); cases this
        · have := (h1.1 (h2.1 rfl)).1
          simp; omega)
      clear hbel hlk
      go_wp2_with (go_at_call 31; (with_reducible refine (in_any _ 1 6 _ HIN.out _).mono ?_); rintro e w3 ⟨rfl, rfl⟩)
      go_ret
      exact ⟨rfl, HP.out.2.2.1.trans (HBB.out.mono (Nat.le_of_lt hwl))⟩
/-- The remainder from 0 on. -/
def nx (v : Int) (n : Nat) : Int := if v.tmod n < 0 then v.tmod n + n else v.tmod n
theorem tmod_bds {v : Int} {n : Nat} (hn : 0 < n) : -(n : Int) < v.tmod n ∧ v.tmod n < n := ⟨Int.lt_tmod_of_pos v (by omega), Int.tmod_lt_of_pos v (by omega)⟩
theorem nx_range {v : Int} {n : Nat} (hn : 0 < n) : 0 ≤ nx v n ∧ nx v n < n := by
  have := tmod_bds (v := v) hn
  unfold nx; split <;> omega
theorem nx_emod {v : Int} {n : Nat} (hn : 0 < n) : nx v n = v % (n : Int) := by
  have h1 := nx_range (v := v) hn
  have h2 : nx v n = (nx v n) % (n : Int) := (Int.emod_eq_of_lt h1.1 h1.2).symm
  rw [h2]
  have h3 : v = (n : Int) * v.tdiv n + v.tmod n := (Int.mul_tdiv_add_tmod v n).symm
  unfold nx
  split
  · rw [Int.add_emod_right]; conv => rhs; rw [h3]
    rw [Int.add_comm, Int.add_mul_emod_self_left]
  · conv => rhs; rw [h3]
    rw [Int.add_comm, Int.add_mul_emod_self_left]
/-- What NextTask must give. -/
def NextIs (P : List Tk) (V : List Int) (i x : Int) : Prop :=
  (∃ (j : Nat) (t : Tk), i = j ∧ P[j]? = some t ∧ IsPrg P ∧ varsOk V = true ∧ x = nx (evalV V t.o t.x t.y) P.length) ∨ (x = -1 ∧ (¬ IsPrg P ∨ varsOk V = false ∨ i < 0 ∨ (P.length : Int) ≤ i))
theorem nextIs_ex (P : List Tk) (V : List Int) (i : Int) : ∃ x, NextIs P V i x := by
  rcases Classical.em (IsPrg P) with hp | hp
  · cases hv : varsOk V
    · exact ⟨-1, .inr ⟨rfl, .inr (.inl hv)⟩⟩
    · rcases (show i < 0 ∨ (P.length : Int) ≤ i ∨ (0 ≤ i ∧ i < P.length) by omega) with h | h | h
      · exact ⟨-1, .inr ⟨rfl, .inr (.inr (.inl h))⟩⟩
      · exact ⟨-1, .inr ⟨rfl, .inr (.inr (.inr h))⟩⟩
      · obtain ⟨j, rfl⟩ : ∃ j : Nat, i = j := ⟨i.toNat, by omega⟩
        obtain ⟨t, ht⟩ := prg_at (show j < P.length by omega)
        exact ⟨_, .inl ⟨j, t, rfl, ht, hp, hv, rfl⟩⟩
  · exact ⟨-1, .inr ⟨rfl, .inl hp⟩⟩
theorem NextIs.not {P : List Tk} {V : List Int} {i x : Int} (h : NextIs P V i x) (hn : ¬ IsPrg P ∨ varsOk V = false ∨ i < 0 ∨ (P.length : Int) ≤ i) : x = -1 := by
  rcases h with ⟨j, t, rfl, ht, hp, hv, rfl⟩ | ⟨rfl, _⟩
  · have := (List.getElem?_eq_some_iff.1 ht).1
    rcases hn with h | h | h | h
    · exact absurd hp h
    · rw [h] at hv; cases hv
    · omega
    · omega
  · rfl
theorem NextIs.yes {P : List Tk} {V : List Int} {j : Nat} {x : Int} {t : Tk} (h : NextIs P V j x) (hp : IsPrg P) (hv : varsOk V = true) (ht : P[j]? = some t) : x = nx (evalV V t.o t.x t.y) P.length := by
  have := (List.getElem?_eq_some_iff.1 ht).1
  rcases h with ⟨j', t', hj, ht', _, _, rfl⟩ | ⟨_, h⟩
  · obtain rfl : j = j' := by omega
    rw [ht] at ht'; cases ht'; rfl
  · rcases h with h | h | h | h
    · exact absurd hp h
    · rw [h] at hv; cases hv
    · omega
    · omega
theorem ev_small (V : List Int) (o a b : Int) : -1000000 ≤ evalV V o a b ∧ evalV V o a b ≤ 1000000 := by
  have := evalV_val V o a b
  unfold isVal at this
  simp at this
  exact this
end Go.Proofs.YtlicadaecfgklaaGreat.prg
