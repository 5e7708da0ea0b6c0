/- Several texts in one: QTrcP QBotP QWtI QWtM QSsA. -/
import Derived.Test.YtmgeecdgebemdaaGreatDoorGSigQ16
import Derived.Test.YtmgeecdgebemdaaGreatDoorGSigQ18
import Derived.Test.YtmgeecdgebemdaaGreatDoorGSigQ17
import Derived.Test.YtmgeecdgebemdaaGreatDoorGSigQ6
import Derived.Laws.CopyOwn
import Derived.Lib.SliceRun
import Derived.Deep.Onto
import Derived.Laws.AppendOwn
import Derived.Test.YtmgeecdgebemdaaGreatDoorGSigQ1
import Derived.Deep.RegionHeld3

/- What the program's TraceOf is to give: the shape of its contract. -/
namespace Go.Proofs.YtmgeecdgebemdaaGreatDoor.trc
open Go Go.ChangeShapes Go.WideShapes Go.ChangeAt Go.RowKit Go.Proofs.YtmgeecdgebemdaaGreatDoor.row Go.Proofs.YtmgeecdgebemdaaGreatDoor.val Go.Proofs.YtmgeecdgebemdaaGreatDoor.expr Go.Proofs.YtmgeecdgebemdaaGreatDoor.stm Go.Proofs.YtmgeecdgebemdaaGreatDoor.blk Go.Proofs.YtmgeecdgebemdaaGreatDoor.prg Go.Proofs.YtmgeecdgebemdaaGreatDoor.exe Go.Proofs.YtmgeecdgebemdaaGreatDoor.grow Go.Proofs.YtmgeecdgebemdaaGreatDoor.wrt
abbrev TrC : Prop := ∀ (a : Option Addr) (n cap : Nat) (P : List Tk) (_ : Sizes P) (_ : n ≤ cap) (w : World) (_ : TkRow w a n P) (am : Option Addr) (nm cm : Nat) (Mem : List Int) (_ : (nm : Int) ≤ 1048576) (_ : nm ≤ cm) (_ : Row w am nm Mem) (ar : Option Addr) (nr cr : Nat) (R : List Int) (_ : (nr : Int) ≤ 1048576) (_ : nr ≤ cr) (_ : Row w ar nr R)
    (z : Int) (r : Bool) (M : List Mic) (U : List Int) (_ : TraceIs P Mem R z r M U) (_ : i64r (Mem.getD 8 0)) (_ : Go.Proofs.YtmgeecdgebemdaaGreatDoor.cst.CostTab w), Calls Tryz.prog 29 #[.agg #[.slice a n cap], .slice am nm cm, .slice ar nr cr, .int .i64 z] w (NewTrB w r M U)
end Go.Proofs.YtmgeecdgebemdaaGreatDoor.trc

/- Chapter 16: what the program's BootOnce, BootTasks and NeedsEnergy are to give: the shapes of their contracts. -/
namespace Go.Proofs.YtmgeecdgebemdaaGreatDoor.bot
open Go Go.ChangeShapes Go.WideShapes Go.ChangeAt Go.RowKit Go.Proofs.YtmgeecdgebemdaaGreatDoor.row Go.Proofs.YtmgeecdgebemdaaGreatDoor.val Go.Proofs.YtmgeecdgebemdaaGreatDoor.expr Go.Proofs.YtmgeecdgebemdaaGreatDoor.stm Go.Proofs.YtmgeecdgebemdaaGreatDoor.blk Go.Proofs.YtmgeecdgebemdaaGreatDoor.prg Go.Proofs.YtmgeecdgebemdaaGreatDoor.exe Go.Proofs.YtmgeecdgebemdaaGreatDoor.ctl Go.Proofs.YtmgeecdgebemdaaGreatDoor.mem Go.Proofs.YtmgeecdgebemdaaGreatDoor.grow Go.Proofs.YtmgeecdgebemdaaGreatDoor.wrt Go.Proofs.YtmgeecdgebemdaaGreatDoor.trc Go.Proofs.YtmgeecdgebemdaaGreatDoor.cst
/-- Rows of numbers, each in memory of its own. -/
def UsedAt (lo : Nat) (w : World) (CS : List Value) (U : List (List Int)) : Prop :=
  U.length = CS.length ∧ ∀ (j : Nat) (L : List Int), U[j]? = some L → ∃ a n c, CS[j]? = some (.slice a n c) ∧ n ≤ c ∧ w.ownsRow lo 3 1 (.slice a n c) n (ivs L)
/-- No two of them lie in one block. -/
def Apart (vs : List Value) : Prop := ∀ (i j b : Nat) (v u : Value), i < j → vs[i]? = some v → vs[j]? = some u → v.ownBlock = some b → u.ownBlock ≠ some b
def BotMem (lo : Nat) (am : Option Addr) (nm cm : Nat) (au : Option Addr) (nu cu : Nat) (B : Bt) (w : World) : Prop :=
  w.ownsRow lo 3 1 (.slice am nm cm) nm (ivs B.W) ∧ ∃ CS, w.ownsRow lo 27 1 (.slice au nu cu) nu CS ∧ UsedAt lo w CS B.U ∧ Apart (.slice am nm cm :: .slice au nu cu :: CS)
def NewBot (w : World) (r : Bool) (B : Bt) (e : Ending) (w' : World) : Prop :=
  ∃ am nm cm au nu cu, e = .returned (.tuple #[botV am nm cm B.z au nu cu B.e, .bool r]) ∧ Hid (BotMem w.heap.size am nm cm au nu cu B w') ∧ Below w.heap.size w w'
theorem BotMem.used {lo : Nat} {am : Option Addr} {nm cm : Nat} {au : Option Addr} {nu cu : Nat} {B : Bt} {w : World} (h : BotMem lo am nm cm au nu cu B w) : B.U.length = nu := by
  obtain ⟨_, CS, h1, h2, _⟩ := h
  have h9 := h1.1
  rw [h2.1]; omega
abbrev NeC : Prop := ∀ (a : Option Addr) (n cap : Nat) (P : List Tk) (_ : Sizes P) (_ : n ≤ cap) (w : World) (_ : TkRow w a n P) (am : Option Addr) (nm cm : Nat) (Mem : List Int) (_ : (nm : Int) ≤ 1048576) (_ : nm ≤ cm) (_ : Row w am nm Mem) (ar : Option Addr) (nr cr : Nat) (R : List Int) (_ : (nr : Int) ≤ 1048576) (_ : nr ≤ cr) (_ : Row w ar nr R)
    (z : Int) (x : Int) (_ : NeedIs P Mem R z x) (_ : i64r (Mem.getD 8 0)) (_ : CostTab w),
    Calls Tryz.prog 14 #[.agg #[.slice a n cap], .slice am nm cm, .slice ar nr cr, .int .i64 z] w (BelI w x)
abbrev BoC : Prop := ∀ (a : Option Addr) (n cap : Nat) (P : List Tk) (_ : Sizes P) (_ : n ≤ cap) (w : World) (_ : TkRow w a n P) (am : Option Addr) (nm cm : Nat) (Mem : List Int) (_ : (nm : Int) ≤ 1048576) (_ : nm ≤ cm) (_ : Row w am nm Mem) (ar : Option Addr) (nr cr : Nat) (R : List Int) (_ : (nr : Int) ≤ 1048576) (_ : nr ≤ cr) (_ : Row w ar nr R)
    (z en : Int) (r : Bool) (B : Bt) (_ : BootIs P Mem R z en r B) (_ : i64r (Mem.getD 8 0)) (_ : CostTab w),
    Calls Tryz.prog 15 #[.agg #[.slice a n cap], .slice am nm cm, .slice ar nr cr, .int .i64 z, .int .i64 en] w (NewBot w r B)
end Go.Proofs.YtmgeecdgebemdaaGreatDoor.bot

/- Chapter 10 of the program: writes applied to a copy of the memory, the first difference, the places in ascending order; nothing that was there is written. -/
namespace Go.Proofs.YtmgeecdgebemdaaGreatDoor.wrt
open Go Go.ChangeShapes Go.WideShapes Go.ChangeAt Go.RowKit Go.Proofs.YtmgeecdgebemdaaGreatDoor.row Go.Proofs.YtmgeecdgebemdaaGreatDoor.val Go.Proofs.YtmgeecdgebemdaaGreatDoor.expr Go.Proofs.YtmgeecdgebemdaaGreatDoor.grow
theorem row_range {w : World} {b off n : Nat} {L : List Int} (h : Row w (some ⟨b, off, none⟩) n L) : w.rangeAt b off (ivs L) := by
  intro j v hj
  have hjl : j < n := by have := (List.getElem?_eq_some_iff.1 hj).1; rw [ivs_length] at this; have := h.1; omega
  obtain ⟨b', off', x, e, _, hx, hc⟩ := h.2 j hjl
  cases e
  rw [hc]
  simp [ivs, hx] at hj
  rw [hj]
theorem row_some {w : World} {a : Option Addr} {n : Nat} {L : List Int} (h : Row w a n L) (hn : 0 < n) : ∃ b off, a = some ⟨b, off, none⟩ := by
  obtain ⟨b, off, _, e, _⟩ := h.2 0 hn
  exact ⟨b, off, e⟩
theorem ivs_one (L : List Int) : ∀ v ∈ ivs L, v.oneCell' = true := by intro v hv; obtain ⟨x, _, rfl⟩ := List.mem_map.1 hv; rfl
theorem box_own {w : World} {B g n : Nat} {L : List Int} {t : TypeId} (h : Box g (ivs L).toArray t w) (hB : B ≤ g) (hl : L.length = n) (hn : n ≤ maxLen) : w.ownsRow B t 1 (.slice (some ⟨g, 0, none⟩) n n) n (ivs L) :=
  ⟨by simp [ivs, hl], .inr ⟨g, n, (ivs L).toArray, rfl, hB, h, Nat.le_refl _, hn, by simp [ivs, hl], by rw [Nat.mul_one]; exact List.take_of_length_le (by simp [ivs, hl])⟩⟩
/-- A new row of 'n' words in the first new block. -/
def NewAt (w : World) (n : Nat) (L : List Int) (e : Ending) (w' : World) : Prop :=
  ∃ g, e = .returned (.slice (some ⟨g, 0, none⟩) n n) ∧ w.heap.size ≤ g ∧ Box g (ivs L).toArray 3 w' ∧ Below w.heap.size w w'
theorem NewAt.ints {w : World} {n : Nat} {L : List Int} {e : Ending} {w' : World} (h : NewAt w n L e w') (hl : L.length = n) (hn : (n : Int) ≤ 1048576) : NewInts w L e w' := by
  obtain ⟨g, h1, h2, h3, h4⟩ := h
  exact ⟨_, _, _, h1, box_own h3 h2 hl (by unfold maxLen; omega), h4⟩
theorem splice_all {n : Nat} {L : List Int} (hl : L.length = n) : splice (ivs (List.replicate n 0)) 0 (ivs L) = ivs L := by simp [splice, ivs, hl]

set_option maxHeartbeats 1000000 in
set_option maxRecDepth 100000 in
theorem impl_copyof (w : World) (a : Option Addr) (n cap : Nat) (L : List Int) (hn : (n : Int) ≤ 1048576) (h : Row w a n L) :
    Calls Tryz.prog 59 #[.slice a n cap] w (NewAt w n L) := by
  obtain ⟨i0, hi, hz0, hz1, hz2⟩ := info_parts infoInt
  have HL := Lib.hid (show (ivs L).length = Nat.min n n by rw [ivs_length, h.1]; simp)
  have HF := Lib.hid (show 0 + (ivs L).length ≤ (ivs (List.replicate n 0)).length by simp [ivs, h.1])
  have HP : Hid (∀ w' : World, Below w.heap.size w w' → 0 < (ivs L).length → ∃ ad, a = some ad ∧ ∀ j v, (ivs L)[j]? = some v → w'.cell? (ad.add j) = some v) := fun w' hb h0 => by
    obtain ⟨b, off, rfl⟩ := row_some h (by rw [ivs_length, h.1] at h0; exact h0)
    exact ⟨_, rfl, fun j v hj => by rw [Addr.add_mid]; exact row_range (h.below hb) j v hj⟩
  have H1 := Lib.hid (ivs_one L)
  have HS := Lib.hid (splice_all h.1)
  clear h
  go_enter Tryz.func59, Tryz.ntmps59
  go_wp2_with ((refine wpList_make_full _ rfl _ _ 27 rfl w.heap.size 3 i0 _ 1 Tryz.underlying27 hi hz0 hz1 .i64 .i64 _ _ n rfl rfl rfl rfl (by rw [hz2]; omega) (by unfold maxLen; omega) (Nat.le_refl _) ?_); intro w1 hown1 hg1; refine Hid.out ?_)
  rw [made_zeros] at hown1
  have HX := Lib.hid (And.intro (own_box hown1) (below_grown hg1))
  clear hown1 hg1
  refine Lib.hid ?_
  go_wp2_with (refine wpList_copy_splice rfl _ _ 27 27 rfl 3 Tryz.underlying27 (by kernel_rfl) _ _ n n n cap rfl rfl w.heap.size 0 (ivs (List.replicate n 0)) 3 HX.out.1 (ivs L) HL.out (fun h0 => ⟨rfl, HP.out _ HX.out.2 h0⟩) HF.out H1.out w.heap.size w HX.out.2 (Nat.le_refl _) ?_; intro w3 hx3 hb3)
  go_ret
  exact ⟨w.heap.size, rfl, Nat.le_refl _, by have := hx3.out; rw [HS.out] at this; exact this, hb3⟩
set_option maxRecDepth 100000 in
theorem impl_isword (a : Option Addr) (n cap : Nat) (q : Int) (r : Bool) (hr : (decide (0 ≤ q) && decide (q < n)) = r) (w : World) : Calls Tryz.prog 92 #[.slice a n cap, .int .i64 q] w (RetB w r) := by
  subst hr
  by_cases h : 0 ≤ q
  · simp only [h, decide_true, Bool.true_and]
    go_enter Tryz.func92, Tryz.ntmps92
    go_wp2
    go_ret
    exact ⟨rfl, rfl⟩
  · simp only [h, decide_false, Bool.false_and]
    go_enter Tryz.func92, Tryz.ntmps92
    go_wp2
    go_ret
    exact ⟨rfl, rfl⟩
/-- How many of 'n' writes happen. -/
def cntW (c : Int) (n : Nat) : Nat := min c.toNat n
theorem cntW_le (c : Int) (n : Nat) : cntW c n ≤ n := Nat.min_le_right _ _
theorem take_cnt {α : Type} (L : List α) (c : Int) : L.take (cntW c L.length) = L.take c.toNat := by
  unfold cntW
  rcases Nat.le_total c.toNat L.length with h | h
  · rw [Nat.min_eq_left h]
  · rw [Nat.min_eq_right h, List.take_length, List.take_of_length_le h]
theorem impl_cut (c : Int) (n : Nat) (hn : (n : Int) ≤ 1048576) (w : World) : Calls Tryz.prog 91 #[.int .i64 c, .int .i64 0, .int .i64 n] w (Ret w (cntW c n)) := by
  rcases (show c < 0 ∨ (n : Int) < c ∧ 0 ≤ c ∨ (0 ≤ c ∧ c ≤ n) by omega) with h | ⟨h, h2⟩ | ⟨h, h2⟩
  · have HV := Lib.hid (show ((cntW c n : Nat) : Int) = 0 by unfold cntW; omega)
    go_enter Tryz.func91, Tryz.ntmps91
    go_wp2
    go_ret
    exact ⟨ret_i HV.out.symm, rfl⟩
  · have HV := Lib.hid (show ((cntW c n : Nat) : Int) = n by unfold cntW; omega)
    go_enter Tryz.func91, Tryz.ntmps91
    go_wp2
    go_ret
    exact ⟨ret_i HV.out.symm, rfl⟩
  · have HV := Lib.hid (show ((cntW c n : Nat) : Int) = c by unfold cntW; omega)
    go_enter Tryz.func91, Tryz.ntmps91
    go_wp2
    go_ret
    exact ⟨ret_i HV.out.symm, rfl⟩
theorem elemW : Tryz.prog.underlying 63 = some (.slice (Tryz.prog.elem 63)) := by kernel_rfl
theorem sizeW (w : World) : (sizeOf (Tryz.prog.elem 63)).run Tryz.prog w = .ok 2 w := by kernel_rfl
theorem cut_h (a : Option Addr) (n cap q : Nat) (hs : ∀ x, a = some x → x.spot = none) (hc : q ≤ cap) (w : World) : (Instr.sliceAt 63 (.slice a n cap) none (some (.int .i64 q)) none).run Tryz.prog w = .ok (.slice a q cap) w := by
  rw [run_sliceAt_slice w _ _ _ _ _ elemW, Go.run_slice_h w _ _ _ _ elemW _ _ (by omega) (by omega), sizeW]
  simp only [Result.andThen, sliced]
  rw [Nat.sub_zero, show ((q : Int)).toNat = q by omega]
  cases a with
  | none => simp
  | some x =>
    obtain ⟨b, off, spot⟩ := x
    have := hs _ rfl
    simp only at this; subst this
    rw [Nat.zero_mul, Option.map_some, Addr.add_mid, Nat.add_zero, ite_self, Nat.sub_zero]
end Go.Proofs.YtmgeecdgebemdaaGreatDoor.wrt

/- Chapter 10 of the model: WriteWord, ApplyWrites; new rows; nothing that was there is written. -/
namespace Go.Proofs.YtmgeecdgebemdaaGreatDoor.wrt
open Go Go.ChangeShapes Go.WideShapes Go.ChangeAt Go.RowKit Go.Proofs.YtmgeecdgebemdaaGreatDoor.row Go.Proofs.YtmgeecdgebemdaaGreatDoor.val Go.Proofs.YtmgeecdgebemdaaGreatDoor.expr Go.Proofs.YtmgeecdgebemdaaGreatDoor.grow
theorem own_slice {w : World} {B : Nat} {ty : TypeId} {v : Value} {n : Nat} {xs : List Value} (h : w.ownsRow B ty 1 v n xs) : ∃ ad cap, v = .slice ad n cap := by
  rcases h.2 with ⟨e, e0⟩ | ⟨g, c, _, e, _⟩
  · exact ⟨_, _, by rw [e, e0]⟩
  · exact ⟨_, _, e⟩
theorem stored_put {w : World} {B g n c m : Nat} {P : List Int} {v : Int} (h : w.ownsRow B 3 1 (.slice (some ⟨g, 0, none⟩) n c) n (ivs P)) : (w.setCell ⟨g, m, none⟩ (.int .i64 v)).ownsRow B 3 1 (.slice (some ⟨g, 0, none⟩) n c) n (ivs (P.set m v)) := by
  have := (h.stored m (.int .i64 v)).1
  rw [ivs_set] at this; exact this
end Go.Proofs.YtmgeecdgebemdaaGreatDoor.wrt

/- Rows of rows of numbers: a slice of slices that reads as a list of lists; the law's own copy, size and comparison of such a slice. -/
namespace Go.Proofs.YtmgeecdgebemdaaGreatDoor.srow
open Go Go.ChangeShapes Go.WideShapes Go.ChangeAt Go.RowKit Go.Proofs.YtmgeecdgebemdaaGreatDoor.row Go.Proofs.YtmgeecdgebemdaaGreatDoor.val Go.Proofs.YtmgeecdgebemdaaGreatDoor.expr
/-- The slice at 'a' of 'n' slices reads as the list 'LL'. -/
def SRow (w : World) (a : Option Addr) (n : Nat) (LL : List (List Int)) : Prop :=
  LL.length = n ∧ ∀ k, k < n → ∃ (g off : Nat) (L : List Int) (ab : Option Addr) (nb cb : Nat), a = some ⟨g, off, none⟩ ∧ g < w.heap.size ∧ LL[k]? = some L ∧ w.cell? ⟨g, off + k, none⟩ = some (.slice ab nb cb) ∧ nb ≤ cb ∧ Row w ab nb L
theorem SRow.below {w w' : World} {a : Option Addr} {n : Nat} {LL : List (List Int)} (h : SRow w a n LL) (hb : Below w.heap.size w w') : SRow w' a n LL :=
  ⟨h.1, fun k hk => by
    obtain ⟨g, off, L, ab, nb, cb, e, hlt, hL, hc, hle, hr⟩ := h.2 k hk
    exact ⟨g, off, L, ab, nb, cb, e, Nat.lt_of_lt_of_le hlt hb.size, hL, (hb.cell (p := ⟨g, off + k, none⟩) hlt).trans hc, hle, hr.below hb⟩⟩
theorem SRow.nil (w : World) (a : Option Addr) : SRow w a 0 [] := ⟨rfl, fun k hk => by omega⟩
theorem row_box {w : World} {g n : Nat} {L : List Int} {t : TypeId} (h : Box g (ivs L).toArray t w) (hn : L.length = n) : Row w (some ⟨g, 0, none⟩) n L :=
  ⟨hn, fun k hk => ⟨g, 0, L[k]'(by omega), rfl, h.lt, by simp [show k < L.length by omega], by rw [h.cell]; simp [ivs, show k < L.length by omega]⟩⟩
theorem infoInts : (Tryz.prog.info? 27).map (fun i => (i.zero, i.size, i.bytes)) = some (some (.slice none 0 0), 1, 24) := by kernel_rfl
end Go.Proofs.YtmgeecdgebemdaaGreatDoor.srow
