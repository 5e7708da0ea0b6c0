/- Several texts in one: BlkS EvalB EvalE. -/
import Derived.Test.YtlicadaecfgklaaGHub18
import Derived.Test.YtlicadaecfgklaaGHub25
import Derived.Test.YtlicadaecfgklaaGHub20
import Derived.Test.YtlicadaecfgklaaGHub8
import Derived.Laws.EntriesVeiled

/- Chapter 5's model: BlockOk, the matching end, EndOf, DepthOf, LongestRun: what the plain relations say, for every list of statements; nothing that was there is written. -/
namespace Go.Proofs.Ytlicadaecfgklaa.blk
open Go Go.ChangeShapes Go.WideShapes Go.ChangeAt Go.RowKit Go.Proofs.Ytlicadaecfgklaa.row Go.Proofs.Ytlicadaecfgklaa.val Go.Proofs.Ytlicadaecfgklaa.expr Go.Proofs.Ytlicadaecfgklaa.stm

theorem stm_below {w w1 w2 : World} (h : Below w.heap.size w w1) (h2 : Below w1.heap.size w1 w2) : Below w.heap.size w w2 := below_then h h2
set_option maxHeartbeats 4000000 in
set_option maxRecDepth 100000 in
theorem spec_blockok (a : Option Addr) (n cap : Nat) (L : List Go.Proofs.Ytlicadaecfgklaa.stm.St) (hn : (n : Int) ≤ 1048576) (w : World) (h : StRow w a n L) (r : Bool) (hr : r = true ↔ IsBlk L) :
    Calls Try.prog 53 #[.slice a n cap] w (BelB w r) := by
  have HL := Lib.hid h
  have HR := Lib.hid hr
  clear h hr
  go_enter Try.func53, Try.ntmps53
  go_wp2
  go_loopw [3, 4] (fun o i wr => ∃ (k : Nat) (x : Int), k ≤ n ∧ i = .int .i64 k ∧ o = .int .i64 x ∧ 0 ≤ x ∧ x ≤ 3 ∧ Hid (x = hAt L k) ∧ Hid (OkTo L k) ∧ Below w.heap.size w wr) (fun _ i _ => n - (intOf i).toNat)
  case atStart => exact ⟨0, 0, Nat.zero_le _, rfl, rfl, by omega, by omega, rfl, okTo_zero L, Below.refl _ _⟩
  case round =>
    obtain ⟨k, x, hk, rfl, rfl, hx0, hx3, hH, hO, hbel⟩ := hrel
    by_cases hlt : k < n
    · obtain ⟨b, off, s, rfl, hlb, hs, hrg⟩ := (HL.out.below hbel).2 k hlt
      have HS := Lib.hid (And.intro hrg (And.intro hs hbel))
      have hI : (k : Int) < n := by omega
      clear hrg hs hbel
      cases hst : stOk s
      · have hrf : r = false := by
          rw [← Bool.not_eq_true]; intro e; exact not_blk_at HS.out.2.1 (.inl hst) (HR.out.1 e)
        have HST := Lib.hid hst
        clear hst
        subst hrf
        go_wp2_with (first
          | (refine wpList_load_mid rfl 82 _ rfl b (off + k * 6) rfl (stC s) _ HS.out.1 Try.underlying82 rfl (by kernel_rfl) ?_)
          | (go_at_call 61; refine (spec_stmtok s false HST.out _).mono ?_; rintro e w2 ⟨rfl, hb2⟩))
        go_ret
        exact ⟨rfl, below_then HS.out.2.2 hb2⟩
      · have HST := Lib.hid hst
        clear hst
        go_wp2_with (first
          | (refine wpList_load_mid rfl 82 _ rfl b (off + k * 6) rfl (stC s) _ HS.out.1 Try.underlying82 rfl (by kernel_rfl) ?_)
          | (go_at_call 61; refine (spec_stmtok s true HST.out _).mono ?_; rintro e w2 ⟨rfl, hb2⟩; refine Hid.out ?_))
        have hc2 := (hb2.cell (p := ⟨b, off + k * 6, none⟩) hlb).trans (range6 HS.out.1).1
        have HB2 := Lib.hid (below_then HS.out.2.2 hb2)
        have hnx := hAt_succ HS.out.2.1
        obtain ⟨d, hd⟩ : ∃ d, dlt s = d := ⟨_, rfl⟩
        rw [hd, ← hH.out] at hnx
        clear hb2
        rcases (show (s.k = 4 ∧ d = 1) ∨ (s.k = 5 ∧ d = 1) ∨ (s.k = 6 ∧ d = -1) ∨ (s.k ≠ 4 ∧ s.k ≠ 5 ∧ s.k ≠ 6 ∧ d = 0) by
          rw [← hd]; unfold dlt; split
          · omega
          · split <;> omega) with ⟨hk4, rfl⟩ | ⟨hk4, rfl⟩ | ⟨hk4, rfl⟩ | ⟨hk4, hk5, hk6, rfl⟩
        · have hq : (s.k == 4) = true := by rw [hk4]; rfl
          have hq5 : (s.k == 5) = false := by rw [hk4]; rfl
          clear hd hk4
          by_cases hx : x + 1 ≤ 3
          · skip
            have HIN := Lib.hid (show (decide (0 ≤ (x + 1)) && decide ((x + 1) ≤ 3)) = true by simp; omega)
            have HO2 := Lib.hid (okTo_succ hO.out HS.out.2.1 HST.out (by omega) (by omega))
            have HX2 := Lib.hid (show (x + 1) = hAt L (k + 1) by omega)
            refine Lib.hid ?_
            go_wp2_with (go_at_call 26; (with_reducible refine (in_any _ 0 3 _ HIN.out _).mono ?_); rintro e w3 ⟨rfl, rfl⟩)
            go_roundw
            case rel => exact ⟨k + 1, (x + 1), by omega, by go_num, rfl, by omega, by omega, HX2, HO2, HB2.out⟩
            case measure => simp [intOf]; omega
          · skip
            have HIN := Lib.hid (show (decide (0 ≤ (x + 1)) && decide ((x + 1) ≤ 3)) = false by simp; omega)
            have hrf : r = false := by
              rw [← Bool.not_eq_true]; intro e; exact not_blk_at HS.out.2.1 (.inr (by omega)) (HR.out.1 e)
            subst hrf
            refine Lib.hid ?_
            go_wp2_with (go_at_call 26; (with_reducible refine (in_any _ 0 3 _ HIN.out _).mono ?_); rintro e w3 ⟨rfl, rfl⟩)
            go_ret
            exact ⟨rfl, HB2.out⟩
        · have hq : (s.k == 4) = false := by rw [hk4]; rfl
          have hq5 : (s.k == 5) = true := by rw [hk4]; rfl
          clear hd hk4
          by_cases hx : x + 1 ≤ 3
          · skip
            have HIN := Lib.hid (show (decide (0 ≤ (x + 1)) && decide ((x + 1) ≤ 3)) = true by simp; omega)
            have HO2 := Lib.hid (okTo_succ hO.out HS.out.2.1 HST.out (by omega) (by omega))
            have HX2 := Lib.hid (show (x + 1) = hAt L (k + 1) by omega)
            refine Lib.hid ?_
            go_wp2_with (go_at_call 26; (with_reducible refine (in_any _ 0 3 _ HIN.out _).mono ?_); rintro e w3 ⟨rfl, rfl⟩)
            go_roundw
            case rel => exact ⟨k + 1, (x + 1), by omega, by go_num, rfl, by omega, by omega, HX2, HO2, HB2.out⟩
            case measure => simp [intOf]; omega
          · skip
            have HIN := Lib.hid (show (decide (0 ≤ (x + 1)) && decide ((x + 1) ≤ 3)) = false by simp; omega)
            have hrf : r = false := by
              rw [← Bool.not_eq_true]; intro e; exact not_blk_at HS.out.2.1 (.inr (by omega)) (HR.out.1 e)
            subst hrf
            refine Lib.hid ?_
            go_wp2_with (go_at_call 26; (with_reducible refine (in_any _ 0 3 _ HIN.out _).mono ?_); rintro e w3 ⟨rfl, rfl⟩)
            go_ret
            exact ⟨rfl, HB2.out⟩
        · have hq : (s.k == 4) = false := by rw [hk4]; rfl
          have hq5 : (s.k == 5) = false := by rw [hk4]; rfl
          have hq6 : (s.k == 6) = true := by rw [hk4]; rfl
          clear hd hk4
          by_cases hx : 0 ≤ x - 1
          · skip
            have HIN := Lib.hid (show (decide (0 ≤ (x - 1)) && decide ((x - 1) ≤ 3)) = true by simp; omega)
            have HO2 := Lib.hid (okTo_succ hO.out HS.out.2.1 HST.out (by omega) (by omega))
            have HX2 := Lib.hid (show (x - 1) = hAt L (k + 1) by omega)
            refine Lib.hid ?_
            go_wp2_with (go_at_call 26; (with_reducible refine (in_any _ 0 3 _ HIN.out _).mono ?_); rintro e w3 ⟨rfl, rfl⟩)
            go_roundw
            case rel => exact ⟨k + 1, (x - 1), by omega, by go_num, rfl, by omega, by omega, HX2, HO2, HB2.out⟩
            case measure => simp [intOf]; omega
          · skip
            have HIN := Lib.hid (show (decide (0 ≤ (x - 1)) && decide ((x - 1) ≤ 3)) = false by simp; omega)
            have hrf : r = false := by
              rw [← Bool.not_eq_true]; intro e; exact not_blk_at HS.out.2.1 (.inr (by omega)) (HR.out.1 e)
            subst hrf
            refine Lib.hid ?_
            go_wp2_with (go_at_call 26; (with_reducible refine (in_any _ 0 3 _ HIN.out _).mono ?_); rintro e w3 ⟨rfl, rfl⟩)
            go_ret
            exact ⟨rfl, HB2.out⟩
        · have hq : (s.k == 4) = false := by rw [beq_eq_false_iff_ne]; exact hk4
          have hq5 : (s.k == 5) = false := by rw [beq_eq_false_iff_ne]; exact hk5
          have hq6 : (s.k == 6) = false := by rw [beq_eq_false_iff_ne]; exact hk6
          clear hd hk4 hk5 hk6
          have HIN := Lib.hid (show (decide (0 ≤ x) && decide (x ≤ 3)) = true by simp; omega)
          have HO2 := Lib.hid (okTo_succ hO.out HS.out.2.1 HST.out (by omega) (by omega))
          have HX2 := Lib.hid (show x = hAt L (k + 1) by omega)
          refine Lib.hid ?_
          go_wp2_with (go_at_call 26; (with_reducible refine (in_any _ 0 3 _ HIN.out _).mono ?_); rintro e w3 ⟨rfl, rfl⟩)
          go_roundw
          case rel => exact ⟨k + 1, x, by omega, by go_num, rfl, by omega, by omega, HX2, HO2, HB2.out⟩
          case measure => simp [intOf]; omega
    · obtain rfl : k = n := by omega
      have hI : ¬ (k : Int) < k := by omega
      have hlen := HL.out.1
      have hOK := hO.out
      have hHX := hH.out
      rcases (show x ≠ 0 ∨ (x = 0 ∧ 24 < k) ∨ (x = 0 ∧ k ≤ 24) by omega) with hx | ⟨hx, h24⟩ | ⟨hx, h24⟩
      · have hrf : r = false := by
          rw [← Bool.not_eq_true]; intro e; have := (HR.out.1 e).2.1; rw [hlen] at this; omega
        have hxb : (x == 0) = false := by rw [beq_eq_false_iff_ne]; exact hx
        have HB := Lib.hid hbel
        clear hOK hHX hbel
        subst hrf
        go_wp2
        go_ret
        exact ⟨rfl, HB.out⟩
      · have hrf : r = false := by
          rw [← Bool.not_eq_true]; intro e; have := (HR.out.1 e).2.2; omega
        have hxb : (x == 0) = true := by rw [hx]; rfl
        have h24I : (24 : Int) < k := by omega
        have HB := Lib.hid hbel
        clear hOK hHX hbel hx
        subst hrf
        go_wp2
        go_ret
        exact ⟨by simp; try omega, HB.out⟩
      · have hrt : r = true := HR.out.2 ⟨by rw [hlen]; exact hOK, by rw [hlen]; omega, by omega⟩
        have hxb : (x == 0) = true := by rw [hx]; rfl
        have h24I : (k : Int) ≤ 24 := by omega
        have HB := Lib.hid hbel
        clear hOK hHX hbel hx
        subst hrt
        go_wp2
        go_ret
        exact ⟨by simp; try omega, HB.out⟩
end Go.Proofs.Ytlicadaecfgklaa.blk

/- Chapter 3's EvalExpr, of the program and of the model: the plain function 'evalV'; nothing that was there is written. -/
namespace Go.Proofs.Ytlicadaecfgklaa.expr
open Go.ChangeShapes Go.WideShapes Go.ChangeAt Go.RowKit Go.Proofs.Ytlicadaecfgklaa.row Go.Proofs.Ytlicadaecfgklaa.val

def bit (b : Bool) : Int := if b then 1 else 0
def evalOf (o A B : Int) : Int :=
  if o = 1 then sat (sat A + sat B) else if o = 2 then sat (sat A - sat B) else if o = 3 then sat (sat A * sat B)
  else if o = 4 then min A B else if o = 5 then max A B else if o = 6 then bit (decide (A < B)) else bit (decide (A = B))
def evalV (L : List Int) (o a b : Int) : Int := if varsOk L && exprOk o a b then evalOf o (valOf L a) (valOf L b) else 0
theorem evalV_no {L : List Int} {o a b : Int} (h : varsOk L = false ∨ exprOk o a b = false) : evalV L o a b = 0 := by
  rcases h with h | h <;> simp [evalV, h]
theorem evalV_ok {L : List Int} {o a b : Int} (h : varsOk L = true) (h2 : exprOk o a b = true) : evalV L o a b = evalOf o (valOf L a) (valOf L b) := by simp [evalV, h, h2]
theorem exprOk_iff (o a b : Int) : exprOk o a b = true ↔ (1 ≤ o ∧ o ≤ 7) ∧ opndOk a = true ∧ opndOk b = true := by simp [exprOk, opOk]

theorem ev1 (A B : Int) : evalOf 1 A B = sat (sat A + sat B) := by simp [evalOf]
theorem ev2 (A B : Int) : evalOf 2 A B = sat (sat A - sat B) := by simp [evalOf]
theorem ev3 (A B : Int) : evalOf 3 A B = sat (sat A * sat B) := by simp [evalOf]
theorem ev4 (A B : Int) : evalOf 4 A B = min A B := by simp [evalOf]
theorem ev5 (A B : Int) : evalOf 5 A B = max A B := by simp [evalOf]
theorem ev6 (A B : Int) : evalOf 6 A B = bit (decide (A < B)) := by simp [evalOf]
theorem ev7 (A B : Int) : evalOf 7 A B = bit (decide (A = B)) := by simp [evalOf]
section model
end model

section program
end program
end Go.Proofs.Ytlicadaecfgklaa.expr

/- The value of an expression is a value. Plain mathematics. -/
namespace Go.Proofs.Ytlicadaecfgklaa.expr
open Go.ChangeShapes Go.WideShapes Go.ChangeAt Go.RowKit Go.Proofs.Ytlicadaecfgklaa.row Go.Proofs.Ytlicadaecfgklaa.val

theorem sat_val (n : Int) : isVal (sat n) = true := isVal_in (sat_bd n).1 (sat_bd n).2
theorem bit_val (b : Bool) : isVal (bit b) = true := by cases b <;> rfl
theorem valOf_val {L : List Int} (h : varsOk L = true) {m : Int} (hm : opndOk m = true) : isVal (valOf L m) = true := by
  have hb := (opndOk_iff m).1 hm
  unfold valOf
  split
  · rename_i h0
    obtain ⟨h1, _⟩ := opnd_at h hm h0
    rw [List.getD_eq_getElem?_getD, List.getElem?_eq_getElem h1]
    exact ((varsOk_iff L).1 h).2 _ (List.getElem_mem h1)
  · exact isVal_in (by omega) (by omega)
theorem evalOf_val {o A B : Int} (hA : isVal A = true) (hB : isVal B = true) : isVal (evalOf o A B) = true := by
  have a := (isVal_iff A).1 hA
  have b := (isVal_iff B).1 hB
  unfold evalOf
  split
  · exact sat_val _
  split
  · exact sat_val _
  split
  · exact sat_val _
  split
  · exact isVal_in (by omega) (by omega)
  split
  · exact isVal_in (by omega) (by omega)
  split
  · exact bit_val _
  · exact bit_val _
theorem evalV_val (L : List Int) (o a b : Int) : isVal (evalV L o a b) = true := by
  unfold evalV
  split
  · rename_i h
    rw [Bool.and_eq_true] at h
    obtain ⟨_, ha, hb⟩ := (exprOk_iff o a b).1 h.2
    exact evalOf_val (valOf_val h.1 ha) (valOf_val h.1 hb)
  · rfl
end Go.Proofs.Ytlicadaecfgklaa.expr
