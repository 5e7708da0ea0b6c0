/- Several texts in one: Eval ReadC WtI RecP. -/
import Derived.Test.YtlicadaecfgklaaGHub1
import Derived.WalkLawsBesides
import Derived.Deep.RegionHeld3
import Derived.Test.YtlicadaecfgklaaGHub2
import Derived.Deep.AppendLies
import Derived.WalkSpells
import Derived.Test.YtlicadaecfgklaaGHub7
import Derived.Laws.CopyOwn
import Derived.Lib.SliceRun
import Derived.Deep.Onto
import Derived.Test.YtlicadaecfgklaaGHub5

/- Chapter 3's OperandValue, ExprOk and EvalExpr, of the program and of the model: the plain functions of the text before; nothing that was there is written. -/
namespace Go.Proofs.Ytlicadaecfgklaa.expr
open Go.ChangeShapes Go.WideShapes Go.ChangeAt Go.RowKit Go.Proofs.Ytlicadaecfgklaa.row Go.Proofs.Ytlicadaecfgklaa.val

theorem opndVal_ok {L : List Int} {m : Int} (h : opndOk m = true) (h2 : varsOk L = true) : opndVal L m = valOf L m := by simp [opndVal, h, h2]
theorem opndVal_no {L : List Int} {m : Int} (h : opndOk m = false ∨ varsOk L = false) : opndVal L m = 0 := by
  rcases h with h | h <;> simp [opndVal, h]
section values
end values

section expressions
theorem in_op (o : Int) (r : Bool) (h : opOk o = r) : (decide (1 ≤ o) && decide (o ≤ 7)) = r := h
theorem spec_exprok (o a b : Int) (r : Bool) (hr : exprOk o a b = r) (w : World) : Calls Try.prog 54 #[ev o a b] w (BelB w r) := by
  cases h1 : opOk o <;> cases h2 : opndOk a <;> cases h3 : opndOk b
  all_goals
    obtain rfl : _ = r := hr
    have HE := Lib.hid (show exprOk o a b = (opOk o && (opndOk a && opndOk b)) from rfl)
    rw [h1, h2, h3] at HE
    go_enter Try.func54, Try.ntmps54
    go_wp2_with (first
      | (go_at_call 26; refine (in_any _ _ _ _ (in_op _ _ h1) _).mono ?_; rintro e w1 ⟨rfl, rfl⟩)
      | (go_at_call 62; (with_reducible refine (spec_opnd a _ h2 _).mono ?_); rintro e w1 ⟨rfl, rfl⟩)
      | (go_at_call 62; (with_reducible refine (spec_opnd b _ h3 _).mono ?_); rintro e w1 ⟨rfl, rfl⟩))
    go_ret
    exact ⟨by rw [HE.out]; rfl, (Below.refl _ _).alloc (Nat.le_refl _) _⟩
theorem impl_exprok (o a b : Int) (r : Bool) (hr : exprOk o a b = r) (w : World) : Calls Try.prog 66 #[ev o a b] w (BelB w r) := by
  by_cases h0 : 1 ≤ o <;> by_cases h1 : o ≤ 7 <;> cases h2 : opndOk a <;> cases h3 : opndOk b
  all_goals first | (exfalso; omega) | skip
  all_goals
    obtain rfl : _ = r := hr
    have HE := Lib.hid (show exprOk o a b = (decide (1 ≤ o) && decide (o ≤ 7) && (opndOk a && opndOk b)) from rfl)
    rw [h2, h3] at HE
    simp only [h0, h1, decide_true, decide_false] at HE
    first | have hd : decide (o ≤ 7) = true := by simpa using h1 | have hd : decide (o ≤ 7) = false := by simpa using h1
    first | have hd0 : decide (1 ≤ o) = true := by simpa using h0 | have hd0 : decide (1 ≤ o) = false := by simpa using h0
    go_enter Try.func66, Try.ntmps66
    go_wp2_with (first
      | (go_at_call 73; (with_reducible refine (impl_opnd a _ h2 _).mono ?_); rintro e w1 ⟨rfl, rfl⟩)
      | (go_at_call 73; (with_reducible refine (impl_opnd b _ h3 _).mono ?_); rintro e w1 ⟨rfl, rfl⟩))
    go_ret
    exact ⟨by rw [HE.out]; first | rfl | simp [hd], (Below.refl _ _).alloc (Nat.le_refl _) _⟩
/-- A struct is copied field by field. -/
def SameE (w : World) (o a b : Int) (e : Ending) (w' : World) : Prop := e = .returned (ev o a b) ∧ Below w.heap.size w w'
theorem toExpr_any (o a b : Int) (w : World) : Calls Try.prog 64 #[ev o a b] w (SameE w o a b) := by
  go_enter Try.func64, Try.ntmps64
  go_wp2
  refine bodyPost_ret (v := ev o a b) (by simp [results, Try.results64, go_sem, ev]) rfl ⟨rfl, ?_⟩
  exact (((Below.refl _ _).alloc (Nat.le_refl _) _).alloc (by simp) _).alloc (by simp; omega) _
end expressions
end Go.Proofs.Ytlicadaecfgklaa.expr

/- Chapter 3's ReadsOf of the model: the numbers of the variables that a valid expression names, in ascending order, in new memory; nothing that was there is written. -/
namespace Go.Proofs.Ytlicadaecfgklaa.expr
open Go.ChangeShapes Go.WideShapes Go.ChangeAt Go.RowKit Go.Proofs.Ytlicadaecfgklaa.row Go.Proofs.Ytlicadaecfgklaa.val

def readsV (o a b : Int) : List Int := if exprOk o a b then rd a b 8 else []
/-- A new row of these numbers. -/
def NewInts (w : World) (L : List Int) (e : Ending) (w' : World) : Prop :=
  ∃ ad n cap, e = .returned (.slice ad n cap) ∧ w'.ownsRow w.heap.size 3 1 (.slice ad n cap) n (ivs L) ∧ Below w.heap.size w w'

end Go.Proofs.Ytlicadaecfgklaa.expr

/- Chapter 10 of the program: writes applied to a copy of the memory, the first difference, the places in ascending order; nothing that was there is written. -/
namespace Go.Proofs.Ytlicadaecfgklaa.wrt
open Go Go.ChangeShapes Go.WideShapes Go.ChangeAt Go.RowKit Go.Proofs.Ytlicadaecfgklaa.row Go.Proofs.Ytlicadaecfgklaa.val Go.Proofs.Ytlicadaecfgklaa.expr Go.Proofs.Ytlicadaecfgklaa.grow

theorem row_range {w : World} {b off n : Nat} {L : List Int} (h : Row w (some ⟨b, off, none⟩) n L) : w.rangeAt b off (ivs L) := by
  intro j v hj
  have hjl : j < n := by have := (List.getElem?_eq_some_iff.1 hj).1; rw [ivs_length] at this; have := h.1; omega
  obtain ⟨b', off', x, e, _, hx, hc⟩ := h.2 j hjl
  cases e
  rw [hc]
  simp [ivs, hx] at hj
  rw [hj]
theorem row_some {w : World} {a : Option Addr} {n : Nat} {L : List Int} (h : Row w a n L) (hn : 0 < n) : ∃ b off, a = some ⟨b, off, none⟩ := by
  obtain ⟨b, off, _, e, _⟩ := h.2 0 hn
  exact ⟨b, off, e⟩
theorem ivs_one (L : List Int) : ∀ v ∈ ivs L, v.oneCell' = true := by intro v hv; obtain ⟨x, _, rfl⟩ := List.mem_map.1 hv; rfl
theorem box_row {w : World} {g n : Nat} {L : List Int} {t : TypeId} (h : Box g (ivs L).toArray t w) (hn : L.length = n) : Row w (some ⟨g, 0, none⟩) n L :=
  ⟨hn, fun k hk => ⟨g, 0, L[k]'(by omega), rfl, h.lt, by simp [show k < L.length by omega], by rw [h.cell]; simp [ivs, show k < L.length by omega]⟩⟩
theorem box_own {w : World} {B g n : Nat} {L : List Int} {t : TypeId} (h : Box g (ivs L).toArray t w) (hB : B ≤ g) (hl : L.length = n) (hn : n ≤ maxLen) : w.ownsRow B t 1 (.slice (some ⟨g, 0, none⟩) n n) n (ivs L) :=
  ⟨by simp [ivs, hl], .inr ⟨g, n, (ivs L).toArray, rfl, hB, h, Nat.le_refl _, hn, by simp [ivs, hl], by rw [Nat.mul_one]; exact List.take_of_length_le (by simp [ivs, hl])⟩⟩
/-- A new row of 'n' words in the first new block. -/
def NewAt (w : World) (n : Nat) (L : List Int) (e : Ending) (w' : World) : Prop :=
  ∃ g, e = .returned (.slice (some ⟨g, 0, none⟩) n n) ∧ w.heap.size ≤ g ∧ Box g (ivs L).toArray 3 w' ∧ Below w.heap.size w w'
theorem NewAt.ints {w : World} {n : Nat} {L : List Int} {e : Ending} {w' : World} (h : NewAt w n L e w') (hl : L.length = n) (hn : (n : Int) ≤ 1048576) : NewInts w L e w' := by
  obtain ⟨g, h1, h2, h3, h4⟩ := h
  exact ⟨_, _, _, h1, box_own h3 h2 hl (by unfold maxLen; omega), h4⟩
theorem splice_all {n : Nat} {L : List Int} (hl : L.length = n) : splice (ivs (List.replicate n 0)) 0 (ivs L) = ivs L := by simp [splice, ivs, hl]

set_option maxHeartbeats 1000000 in
set_option maxRecDepth 100000 in
theorem impl_copyof (w : World) (a : Option Addr) (n cap : Nat) (L : List Int) (hn : (n : Int) ≤ 1048576) (h : Row w a n L) :
    Calls Try.prog 49 #[.slice a n cap] w (NewAt w n L) := by
  obtain ⟨i0, hi, hz0, hz1, hz2⟩ := info_parts infoInt
  have HL := Lib.hid (show (ivs L).length = Nat.min n n by rw [ivs_length, h.1]; simp)
  have HF := Lib.hid (show 0 + (ivs L).length ≤ (ivs (List.replicate n 0)).length by simp [ivs, h.1])
  have HP : Hid (∀ w' : World, Below w.heap.size w w' → 0 < (ivs L).length → ∃ ad, a = some ad ∧ ∀ j v, (ivs L)[j]? = some v → w'.cell? (ad.add j) = some v) := fun w' hb h0 => by
    obtain ⟨b, off, rfl⟩ := row_some h (by rw [ivs_length, h.1] at h0; exact h0)
    exact ⟨_, rfl, fun j v hj => by rw [Addr.add_mid]; exact row_range (h.below hb) j v hj⟩
  have H1 := Lib.hid (ivs_one L)
  have HS := Lib.hid (splice_all h.1)
  clear h
  go_enter Try.func49, Try.ntmps49
  go_wp2_with ((refine wpList_make_full _ rfl _ _ 22 rfl w.heap.size 3 i0 _ 1 Try.underlying22 hi hz0 hz1 .i64 .i64 _ _ n rfl rfl rfl rfl (by rw [hz2]; omega) (by unfold maxLen; omega) (Nat.le_refl _) ?_); intro w1 hown1 hg1; refine Hid.out ?_)
  rw [made_zeros] at hown1
  have HX := Lib.hid (And.intro (own_box hown1) (below_grown hg1))
  clear hown1 hg1
  refine Lib.hid ?_
  go_wp2_with (refine wpList_copy_splice rfl _ _ 22 22 rfl 3 Try.underlying22 (by kernel_rfl) _ _ n n n cap rfl rfl w.heap.size 0 (ivs (List.replicate n 0)) 3 HX.out.1 (ivs L) HL.out (fun h0 => ⟨rfl, HP.out _ HX.out.2 h0⟩) HF.out H1.out w.heap.size w HX.out.2 (Nat.le_refl _) ?_; intro w3 hx3 hb3)
  go_ret
  exact ⟨w.heap.size, rfl, Nat.le_refl _, by have := hx3.out; rw [HS.out] at this; exact this, hb3⟩
set_option maxRecDepth 100000 in
theorem impl_isword (a : Option Addr) (n cap : Nat) (q : Int) (r : Bool) (hr : (decide (0 ≤ q) && decide (q < n)) = r) (w : World) : Calls Try.prog 51 #[.slice a n cap, .int .i64 q] w (RetB w r) := by
  subst hr
  by_cases h : 0 ≤ q
  · simp only [h, decide_true, Bool.true_and]
    go_enter Try.func51, Try.ntmps51
    go_wp2
    go_ret
    exact ⟨rfl, rfl⟩
  · simp only [h, decide_false, Bool.false_and]
    go_enter Try.func51, Try.ntmps51
    go_wp2
    go_ret
    exact ⟨rfl, rfl⟩
/-- How many of 'n' writes happen. -/
def cntW (c : Int) (n : Nat) : Nat := min c.toNat n
theorem cntW_le (c : Int) (n : Nat) : cntW c n ≤ n := Nat.min_le_right _ _
theorem take_cnt {α : Type} (L : List α) (c : Int) : L.take (cntW c L.length) = L.take c.toNat := by
  unfold cntW
  rcases Nat.le_total c.toNat L.length with h | h
  · rw [Nat.min_eq_left h]
  · rw [Nat.min_eq_right h, List.take_length, List.take_of_length_le h]
theorem impl_cut (c : Int) (n : Nat) (hn : (n : Int) ≤ 1048576) (w : World) : Calls Try.prog 50 #[.int .i64 c, .int .i64 0, .int .i64 n] w (Ret w (cntW c n)) := by
  rcases (show c < 0 ∨ (n : Int) < c ∧ 0 ≤ c ∨ (0 ≤ c ∧ c ≤ n) by omega) with h | ⟨h, h2⟩ | ⟨h, h2⟩
  · have HV := Lib.hid (show ((cntW c n : Nat) : Int) = 0 by unfold cntW; omega)
    go_enter Try.func50, Try.ntmps50
    go_wp2
    go_ret
    exact ⟨ret_i HV.out.symm, rfl⟩
  · have HV := Lib.hid (show ((cntW c n : Nat) : Int) = n by unfold cntW; omega)
    go_enter Try.func50, Try.ntmps50
    go_wp2
    go_ret
    exact ⟨ret_i HV.out.symm, rfl⟩
  · have HV := Lib.hid (show ((cntW c n : Nat) : Int) = c by unfold cntW; omega)
    go_enter Try.func50, Try.ntmps50
    go_wp2
    go_ret
    exact ⟨ret_i HV.out.symm, rfl⟩
theorem elemW : Try.prog.underlying 23 = some (.slice (Try.prog.elem 23)) := by kernel_rfl
theorem sizeW (w : World) : (sizeOf (Try.prog.elem 23)).run Try.prog w = .ok 2 w := by kernel_rfl
theorem cut_h (a : Option Addr) (n cap q : Nat) (hs : ∀ x, a = some x → x.spot = none) (hc : q ≤ cap) (w : World) : (Instr.sliceAt 23 (.slice a n cap) none (some (.int .i64 q)) none).run Try.prog w = .ok (.slice a q cap) w := by
  rw [run_sliceAt_slice w _ _ _ _ _ elemW, Go.run_slice_h w _ _ _ _ elemW _ _ (by omega) (by omega), sizeW]
  simp only [Result.andThen, sliced]
  rw [Nat.sub_zero, show ((q : Int)).toNat = q by omega]
  cases a with
  | none => simp
  | some x =>
    obtain ⟨b, off, spot⟩ := x
    have := hs _ rfl
    simp only at this; subst this
    rw [Nat.zero_mul, Option.map_some, Addr.add_mid, Nat.add_zero, ite_self, Nat.sub_zero]
theorem spot_none {w : World} {a : Option Addr} {n : Nat} {L : List Wt} (h : WriteRow w a n L) (hn : 0 < n) : ∀ x, a = some x → x.spot = none := by
  obtain ⟨b, off, s, rfl, _⟩ := h.2 0 hn
  intro x hx; cases hx; rfl
end Go.Proofs.Ytlicadaecfgklaa.wrt

/- Chapter 15: what the program's RecoveryWrites, Recovered, IsClean and DirtyVars are to give: the shapes of their contracts. -/
namespace Go.Proofs.Ytlicadaecfgklaa.rcv
open Go Go.ChangeShapes Go.WideShapes Go.ChangeAt Go.RowKit Go.Proofs.Ytlicadaecfgklaa.row Go.Proofs.Ytlicadaecfgklaa.val Go.Proofs.Ytlicadaecfgklaa.expr Go.Proofs.Ytlicadaecfgklaa.ctl Go.Proofs.Ytlicadaecfgklaa.grow Go.Proofs.Ytlicadaecfgklaa.wrt
/-- A row of writes in new memory. -/
def NewWs (w : World) (Q : List Wt) (e : Ending) (w' : World) : Prop :=
  ∃ a n c, e = .returned (.slice a n c) ∧ w'.ownsRow w.heap.size 46 2 (.slice a n c) n (writesC Q) ∧ Below w.heap.size w w'
theorem w8_of {L : List Int} (h : ∀ x ∈ L, -9223372036854775808 ≤ x ∧ x ≤ 9223372036854775807) : -9223372036854775808 ≤ L.getD 8 0 ∧ L.getD 8 0 ≤ 9223372036854775807 := by
  rw [List.getD_eq_getElem?_getD]
  cases hq : L[8]? with
  | none => exact ⟨by decide, by decide⟩
  | some x => exact h x (List.mem_of_getElem? hq)
/-- What IsClean must say. -/
def cleanB (L : List Int) : Bool := decide (L.length = 49) && (wOk (L.getD 8 0) && decide (wC (L.getD 8 0) = 0))
abbrev RwC : Prop := ∀ (w : World) (a : Option Addr) (n cap : Nat) (L : List Int) (_ : (n : Int) ≤ 1048576) (_ : n ≤ cap) (_ : Row w a n L) (_ : -9223372036854775808 ≤ L.getD 8 0 ∧ L.getD 8 0 ≤ 9223372036854775807) (Q : List Wt) (_ : RecIs L Q),
    Calls Try.prog 9 #[.slice a n cap] w (NewWs w Q)
abbrev RcC : Prop := ∀ (w : World) (a : Option Addr) (n cap : Nat) (L : List Int) (_ : (n : Int) ≤ 1048576) (_ : n ≤ cap) (_ : Row w a n L) (_ : -9223372036854775808 ≤ L.getD 8 0 ∧ L.getD 8 0 ≤ 9223372036854775807) (Q : List Wt) (_ : RecIs L Q),
    Calls Try.prog 16 #[.slice a n cap] w (NewInts w (putAll L Q))
abbrev IcC : Prop := ∀ (w : World) (a : Option Addr) (n cap : Nat) (L : List Int) (_ : (n : Int) ≤ 1048576) (_ : n ≤ cap) (_ : Row w a n L) (_ : -9223372036854775808 ≤ L.getD 8 0 ∧ L.getD 8 0 ≤ 9223372036854775807) (r : Bool) (_ : cleanB L = r),
    Calls Try.prog 19 #[.slice a n cap] w (BelB w r)
end Go.Proofs.Ytlicadaecfgklaa.rcv
