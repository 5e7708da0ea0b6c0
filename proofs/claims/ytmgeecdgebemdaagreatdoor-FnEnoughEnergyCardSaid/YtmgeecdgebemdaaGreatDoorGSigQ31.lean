/- Several texts in one: QSetI QLogB QExeN QExeE QMemV QApS QTrcT QTrcQ QBotN. -/
import Derived.Test.YtmgeecdgebemdaaGreatDoorGSigQ30
import Derived.Test.YtmgeecdgebemdaaGreatDoorGSigQ16
import Derived.Test.YtmgeecdgebemdaaGreatDoorGSigQ15
import Derived.Test.YtmgeecdgebemdaaGreatDoorGSigQ29
import Derived.Test.YtmgeecdgebemdaaGreatDoorGSigQ4
import Derived.Test.YtmgeecdgebemdaaGreatDoorGSigQ26
import Derived.Laws.Rows
import Derived.Test.YtmgeecdgebemdaaGreatDoorGSigQ7
import Derived.Test.YtmgeecdgebemdaaGreatDoorGSigQ6
import Derived.Maps.AppendAt
import Derived.Laws.AppendOwnNone
import Derived.Lib.SliceRun
import Derived.RegionTactic
import Derived.Test.YtmgeecdgebemdaaGreatDoorGSigQ19
import Derived.Test.YtmgeecdgebemdaaGreatDoorGSigQ18
import Derived.Deep.RegionLaw
import Derived.Deep.AppendLies
import Derived.Test.YtmgeecdgebemdaaGreatDoorGSigQ25
import Derived.Test.YtmgeecdgebemdaaGreatDoorGSigQ23
import Derived.Deep.RegionHeld3

/- The program's MustWrite, MayReadFirst and HasVar, and the model's HasVar: what the plain relations say; nothing that was there is written. -/
namespace Go.Proofs.YtmgeecdgebemdaaGreatDoor.sets
open Go Go.ChangeShapes Go.WideShapes Go.ChangeAt Go.RowKit Go.Maps Go.Proofs.YtmgeecdgebemdaaGreatDoor.row Go.Proofs.YtmgeecdgebemdaaGreatDoor.val Go.Proofs.YtmgeecdgebemdaaGreatDoor.stm Go.Proofs.YtmgeecdgebemdaaGreatDoor.blk Go.Proofs.YtmgeecdgebemdaaGreatDoor.expr Go.Proofs.YtmgeecdgebemdaaGreatDoor.prg
set_option maxHeartbeats 2000000 in
set_option maxRecDepth 100000 in
theorem impl_mustwrite (a : Option Addr) (n cap : Nat) (B : List Sm) (hn : (n : Int) ≤ 1048576) (_ : n ≤ cap) (w : World) (h : StRow w a n B) (f : Nat → Bool) (hf : Is f (fun v => IsBlk B ∧ WAt B n v)) :
    Calls Tryz.prog 137 #[.slice a n cap] w (NewInts w (lst f 8)) := by
  have HL := Lib.hid h
  have HF := Lib.hid hf
  have hlen := h.1
  clear h hf
  rcases Classical.em (IsBlk B) with hb | hb
  · have HB := Lib.hid hb
    clear hb
    go_enter Tryz.func137, Tryz.ntmps137
    go_wp2_with (go_at_call 157; (with_reducible refine (impl_blockok _ n cap B hn _ HL.out true ⟨fun _ => HB.out, fun _ => rfl⟩).mono ?_); rintro e w2 ⟨rfl, hb2⟩; refine Hid.out ?_)
    have H2 := Lib.hid (And.intro (HL.out.below hb2) hb2)
    clear hb2
    refine Lib.hid ?_
    go_wp2_with (go_at_call 181; (with_reducible refine (impl_pass _ n cap B hn HB.out _ H2.out.1).mono ?_); rintro e w3 ⟨q, r, W, G, rfl, _, _, _, hW, _, hb3⟩; refine Hid.out ?_)
    have H3 := Lib.hid (And.intro hW.out (below_then H2.out.2 hb3.out))
    clear hW hb3
    have HFL := Lib.hid (show lst W 8 = lst f 8 from lst_congr (Is.eq H3.out.1.2 (HF.out.congr (fun u => by rw [hlen]; exact ⟨fun h => ⟨HB.out, h⟩, fun h => h.2⟩))))
    refine Lib.hid ?_
    go_wp2_with (go_at_call 158; (with_reducible refine (impl_ascending q W _ H3.out.1.1).mono ?_); rintro e w5 ⟨ad, m, c5, rfl, hown, hb5⟩)
    go_ret
    exact ⟨ad, m, c5, rfl, by rw [← HFL.out]; exact hown.mono H3.out.2.size, below_then H3.out.2 hb5⟩
  · have HB := Lib.hid hb
    have HFL := Lib.hid (isFalse HF.out hb)
    clear hb
    go_enter Tryz.func137, Tryz.ntmps137
    go_wp2_with (go_at_call 157; (with_reducible refine (impl_blockok _ n cap B hn _ HL.out false ⟨fun h => (by cases h), fun h => absurd h HB.out⟩).mono ?_); rintro e w2 ⟨rfl, hb2⟩)
    go_ret
    exact ⟨none, 0, 0, rfl, by rw [HFL.out]; exact World.ownsRow_nil _ _ _ _, hb2⟩
set_option maxHeartbeats 4000000 in
set_option maxRecDepth 100000 in
theorem impl_mayread (ab : Option Addr) (nb cb : Nat) (t : Tk) (hn : (nb : Int) ≤ 1048576) (w : World) (h : StRow w ab nb t.b) (f : Nat → Bool) (hf : Is f (FirstP t)) :
    Calls Tryz.prog 138 #[tkV ab nb cb t] w (NewInts w (lst f 8)) := by
  obtain ⟨r, hr⟩ := tsk_dec t
  have HTO := Lib.hid (show ∀ w', StRow w' ab nb t.b → Calls Tryz.prog 136 #[tkV ab nb cb t] w' (BelB w' r) from fun w' h' => impl_taskok ab nb cb t hn w' h' r hr)
  obtain ⟨B, o, x, y⟩ := t
  obtain ⟨W, hW⟩ : ∃ W, w.alloc (.cells #[.slice ab nb cb, .int .i64 o, .int .i64 x, .int .i64 y] 96) = W := ⟨_, rfl⟩
  have hbx : Box w.heap.size #[.slice ab nb cb, .int .i64 o, .int .i64 x, .int .i64 y] 96 W := by rw [← hW]; exact Box.new _ _ _
  have hBW : Below w.heap.size w W := by rw [← hW]; exact below_new _ _
  have H := Lib.hid (And.intro hbx (And.intro hBW (h.below hBW)))
  have HF := Lib.hid hf
  have hlen : B.length = nb := h.1
  clear h hbx hBW hf
  cases r
  · have HFL := Lib.hid (show lst f 8 = [] by
      rw [lst_congr (g := fun _ => false) (fun v hv => by
        cases h9 : f v
        · rfl
        · exact absurd (hr.2 ((HF.out v hv).1 h9).1) (by simp))]
      exact lst_nil (fun _ => rfl) 8)
    clear hr
    go_enter Tryz.func138, Tryz.ntmps138
    go_wp2_with (first
      | (refine wpList_load_row rfl 96 _ rfl w.heap.size rfl _ _ _ _ H.out.1 Tryz.underlying96 rfl (by kernel_rfl) ?_)
      | (go_at_call 136; (with_reducible refine (HTO.out _ H.out.2.2).mono ?_); rintro e w2 ⟨rfl, hb2⟩))
    go_ret
    exact ⟨none, 0, 0, rfl, by rw [HFL.out]; exact World.ownsRow_nil _ _ _ _, below_then H.out.2.1 hb2⟩
  · have HBE := Lib.hid (hr.1 rfl)
    clear hr
    go_enter Tryz.func138, Tryz.ntmps138
    go_wp2_with (first
      | (refine wpList_load_row rfl 96 _ rfl w.heap.size rfl _ _ _ _ H.out.1 Tryz.underlying96 rfl (by kernel_rfl) ?_)
      | (go_at_call 136; (with_reducible refine (HTO.out _ H.out.2.2).mono ?_); rintro e w2 ⟨rfl, hb2⟩; refine Hid.out ?_))
    have H2 := Lib.hid (And.intro (H.out.1.below hb2) (And.intro (below_then H.out.2.1 hb2) (H.out.2.2.below hb2)))
    clear hb2 hW
    have c0 : w2.cell? ⟨w.heap.size, 0, none⟩ = some (.slice ab nb cb) := H2.out.1.cell 0
    refine Lib.hid ?_
    go_wp2_with (go_at_call 181; (with_reducible refine (impl_pass ab nb cb B hn HBE.out.1 _ H2.out.2.2).mono ?_); rintro e w3 ⟨q, r, W3, G3, rfl, hqr, _, hrb, hW3, hG3, hb3⟩; refine Hid.out ?_)
    have H3 := Lib.hid (And.intro (H2.out.1.below hb3.out) (And.intro hW3.out (And.intro hG3.out (below_then H2.out.2.1 hb3.out))))
    have hrw : w.heap.size ≤ r := Nat.le_trans H2.out.2.1.size hrb
    have k1 : w3.cell? ⟨w.heap.size, 1, none⟩ = some (.int .i64 o) := H3.out.1.cell 1
    have k2 : w3.cell? ⟨w.heap.size, 1 + 1, none⟩ = some (.int .i64 x) := H3.out.1.cell 2
    have k3 : w3.cell? ⟨w.heap.size, 1 + 2, none⟩ = some (.int .i64 y) := H3.out.1.cell 3
    have HADD := Lib.hid (impl_addfirst r q G3 W3 (Ne.symm hqr) o x y w3 H3.out.2.2.1.1 H3.out.2.1.1)
    clear hW3 hG3 hb3 c0 hqr
    refine Lib.hid ?_
    go_wp2_with (go_at_call 182; (with_reducible refine HADD.out.mono ?_); rintro e w4 ⟨rfl, hg4, G4, hG4⟩; refine Hid.out ?_)
    have H4 := Lib.hid (And.intro hG4.out.1 (H3.out.2.2.2.grown hg4 H3.out.2.2.2.size (fun j hj => by cases hj; exact hrw)))
    have HFL := Lib.hid (show lst G4 8 = lst f 8 from lst_congr (Is.eq (p := FirstP ⟨B, o, x, y⟩) (fun v hv => by
      refine (hG4.out.2 v hv).trans ?_
      have hrd : readsV o x y = rd x y 8 := if_pos HBE.out.2
      rw [hrd]
      unfold FirstP
      constructor
      · rintro (h | ⟨h1, h2⟩)
        · exact ⟨HBE.out, .inl ((H3.out.2.2.1.2 v hv).1 h)⟩
        · exact ⟨HBE.out, .inr ⟨h1, (H3.out.2.1.2.neg hv).1 h2⟩⟩
      · rintro ⟨_, h | ⟨h1, h2⟩⟩
        · exact .inl ((H3.out.2.2.1.2 v hv).2 h)
        · exact .inr ⟨h1, (H3.out.2.1.2.neg hv).2 h2⟩) HF.out))
    clear hg4 hG4 k1 k2 k3
    refine Lib.hid ?_
    go_wp2_with (go_at_call 158; (with_reducible refine (impl_ascending r G4 _ H4.out.1).mono ?_); rintro e w5 ⟨ad, m, c5, rfl, hown, hb5⟩)
    go_ret
    exact ⟨ad, m, c5, rfl, by rw [← HFL.out]; exact hown.mono H4.out.2.size, below_then H4.out.2 hb5⟩
theorem row_cells {w : World} {a : Option Addr} {n : Nat} {L : List Int} (h : Row w a n L) (hn : 0 < n) : ∃ b off, a = some ⟨b, off, none⟩ ∧ ∀ j, j < L.length → w.cell? ⟨b, off + j, none⟩ = some (.int .i64 (L.getD j 0)) := by
  obtain ⟨b, off, x, ha, _⟩ := h.2 0 hn
  refine ⟨b, off, ha, fun j hj => ?_⟩
  obtain ⟨b', off', x', ha', _, hx, hc⟩ := h.2 j (by have := h.1; omega)
  rw [ha] at ha'
  cases ha'
  rw [hc]; simp [List.getD, hx]
theorem contains_any (w : World) (a : Option Addr) (n cap : Nat) (L : List Int) (q : Int) (r : Bool) (hn : (n : Int) ≤ 1048576) (h : Row w a n L) (hr : decide (q ∈ L) = r) :
    Calls Tryz.prog 156 #[.slice a n cap, .int .i64 q] w fun e w' => e = .returned (.bool r) ∧ w' = w := by
  rcases Nat.eq_zero_or_pos n with h0 | h0
  · subst h0
    have hL : L = [] := List.length_eq_zero_iff.1 h.1
    subst hL
    have hrf : r = false := by rw [← hr]; simp
    rw [hrf]
    exact Any.slices_Contains_int_empty Tryz.lays107 a cap q w
  · obtain ⟨b, off, rfl, hc⟩ := row_cells h h0
    have h9 := Any.slices_Contains_int Tryz.lays107 b off n cap L q w (by have := h.1; omega) (by omega) hc
    rw [List.take_of_length_le (by have := h.1; omega)] at h9
    have h8 : L.contains q = r := by
      rw [← hr, Bool.eq_iff_iff]
      simp
    rw [h8] at h9
    exact h9
theorem impl_hasvar (w : World) (a : Option Addr) (n cap : Nat) (L : List Int) (q : Int) (r : Bool) (hn : (n : Int) ≤ 1048576) (h : Row w a n L) (hr : decide (q ∈ L) = r) :
    Calls Tryz.prog 186 #[.slice a n cap, .int .i64 q] w (RetB w r) := by
  have HC := Lib.hid (contains_any w a n cap L q r hn h hr)
  clear h hr
  go_enter Tryz.func186, Tryz.ntmps186
  go_wp2_with (go_at_call 156; (with_reducible refine HC.out.mono ?_); rintro e w' ⟨rfl, rfl⟩)
  go_ret
  exact ⟨rfl, rfl⟩
end Go.Proofs.YtmgeecdgebemdaaGreatDoor.sets

/- The model's MustLog, NeedsLog, IsRestartable, LogRoom: what the plain relations say; nothing that was there is written. -/
namespace Go.Proofs.YtmgeecdgebemdaaGreatDoor.sets
open Go Go.ChangeShapes Go.WideShapes Go.ChangeAt Go.RowKit Go.Proofs.YtmgeecdgebemdaaGreatDoor.row Go.Proofs.YtmgeecdgebemdaaGreatDoor.val Go.Proofs.YtmgeecdgebemdaaGreatDoor.stm Go.Proofs.YtmgeecdgebemdaaGreatDoor.blk Go.Proofs.YtmgeecdgebemdaaGreatDoor.expr Go.Proofs.YtmgeecdgebemdaaGreatDoor.prg
theorem tf_yes {L : List Int} {k : Nat} {x : Int} {p : Int → Bool} (hx : L[k]? = some x) (hp : p x = true) : (L.take (k + 1)).filter p = (L.take k).filter p ++ [x] := by
  rw [List.take_add_one, hx]; simp [List.filter_append, hp]
theorem tf_no {L : List Int} {k : Nat} {x : Int} {p : Int → Bool} (hx : L[k]? = some x) (hp : p x = false) : (L.take (k + 1)).filter p = (L.take k).filter p := by
  rw [List.take_add_one, hx]; simp [List.filter_append, hp]
theorem tf_len (L : List Int) (k : Nat) (p : Int → Bool) : ((L.take k).filter p).length ≤ L.length := Nat.le_trans (List.length_filter_le _ _) (by rw [List.length_take]; omega)
end Go.Proofs.YtmgeecdgebemdaaGreatDoor.sets

/- An effect as a value, and in new memory. -/
namespace Go.Proofs.YtmgeecdgebemdaaGreatDoor.exe
open Go Go.ChangeShapes Go.WideShapes Go.ChangeAt Go.RowKit Go.Proofs.YtmgeecdgebemdaaGreatDoor.row Go.Proofs.YtmgeecdgebemdaaGreatDoor.val Go.Proofs.YtmgeecdgebemdaaGreatDoor.expr
end Go.Proofs.YtmgeecdgebemdaaGreatDoor.exe

/- The model's l12Effect, TaskEffect, SensesOf: what the plain relations say, in new memory; nothing that was there is written. -/
namespace Go.Proofs.YtmgeecdgebemdaaGreatDoor.exe
open Go Go.ChangeShapes Go.WideShapes Go.ChangeAt Go.RowKit Go.Proofs.YtmgeecdgebemdaaGreatDoor.row Go.Proofs.YtmgeecdgebemdaaGreatDoor.val Go.Proofs.YtmgeecdgebemdaaGreatDoor.expr Go.Proofs.YtmgeecdgebemdaaGreatDoor.stm Go.Proofs.YtmgeecdgebemdaaGreatDoor.blk Go.Proofs.YtmgeecdgebemdaaGreatDoor.prg Go.Proofs.YtmgeecdgebemdaaGreatDoor.sets
end Go.Proofs.YtmgeecdgebemdaaGreatDoor.exe

/- Chapter 9's MemVars, MemSent and MemNew at every row of numbers: the program's and the model's answers are the same lists. -/
namespace Go.Proofs.YtmgeecdgebemdaaGreatDoor.mem
open Go.ChangeShapes Go.WideShapes Go.ChangeAt Go.RowKit Go.Proofs.YtmgeecdgebemdaaGreatDoor.row Go.Proofs.YtmgeecdgebemdaaGreatDoor.val Go.Proofs.YtmgeecdgebemdaaGreatDoor.expr Go.Proofs.YtmgeecdgebemdaaGreatDoor.ctl
end Go.Proofs.YtmgeecdgebemdaaGreatDoor.mem

/- append of a slice that the caller owns, nil or not; the head of a row of numbers; the load of a struct behind a test that holds. -/
namespace Go.Proofs.YtmgeecdgebemdaaGreatDoor.aps
open Go Go.ChangeShapes Go.WideShapes Go.ChangeAt Go.RowKit Go.Proofs.YtmgeecdgebemdaaGreatDoor.row
section
variable {P : Program} (w : World)
end
theorem ivs_one (A : List Int) : ∀ u ∈ ivs A, u.oneCell' = true := by
  intro u hu
  obtain ⟨x, _, rfl⟩ := List.mem_map.1 hu
  rfl
/-- The load of a whole struct behind a test that holds. -/
theorem load_on {P : Program} {ops : Array Oper} {rest : List Oper} {o : Oper} {a : Act} {w : World} {Q : Exit → Act → World → Prop} (hw : Region.wanted o (yielded ops a.tmps) = true) (ty : TypeId) (x : Operand) (ho : o.op = .load ty x)
    (g : Nat) (hx : a.eval x = .pointer (some ⟨g, 0, none⟩)) (t : TypeId) (cs : Array Value) (fr : Nat × Nat) (d : TypeDesc) (hg : w.heap[g]? = some (.cells cs t fr))
    (hu : P.underlying ty = some d) (hd : (match d with | .struct _ | .array _ _ => true | _ => false) = true) (hi : (P.info? ty).map (·.size) = some cs.size)
    (h : wpList P ops Q rest (a.put o.dst (.agg cs)) w) : wpList P ops Q (o :: rest) a w :=
  wpList_step fun K hK => by
    rw [if_pos hw]
    exact wp_load_row ty x ho g hx t cs fr d hg hu hd hi (hK _ _ h)
end Go.Proofs.YtmgeecdgebemdaaGreatDoor.aps

/- Chapter 14 of the model: l14Trace: the trace of the current task, in new memory; nothing that was there is written. -/
namespace Go.Proofs.YtmgeecdgebemdaaGreatDoor.trc
open Go Go.ChangeShapes Go.WideShapes Go.ChangeAt Go.RowKit Go.Proofs.YtmgeecdgebemdaaGreatDoor.row Go.Proofs.YtmgeecdgebemdaaGreatDoor.val Go.Proofs.YtmgeecdgebemdaaGreatDoor.expr Go.Proofs.YtmgeecdgebemdaaGreatDoor.stm Go.Proofs.YtmgeecdgebemdaaGreatDoor.blk Go.Proofs.YtmgeecdgebemdaaGreatDoor.prg Go.Proofs.YtmgeecdgebemdaaGreatDoor.exe Go.Proofs.YtmgeecdgebemdaaGreatDoor.grow Go.Proofs.YtmgeecdgebemdaaGreatDoor.rss Go.Proofs.YtmgeecdgebemdaaGreatDoor.ctl Go.Proofs.YtmgeecdgebemdaaGreatDoor.sets Go.Proofs.YtmgeecdgebemdaaGreatDoor.mem
end Go.Proofs.YtmgeecdgebemdaaGreatDoor.trc

/- Chapter 14 of the model: TraceCost, WritesOf, CountSteps; nothing that was there is written. -/
namespace Go.Proofs.YtmgeecdgebemdaaGreatDoor.trc
open Go Go.ChangeShapes Go.WideShapes Go.ChangeAt Go.RowKit Go.Proofs.YtmgeecdgebemdaaGreatDoor.row Go.Proofs.YtmgeecdgebemdaaGreatDoor.val Go.Proofs.YtmgeecdgebemdaaGreatDoor.expr Go.Proofs.YtmgeecdgebemdaaGreatDoor.grow Go.Proofs.YtmgeecdgebemdaaGreatDoor.wrt
theorem csts_snoc {M : List Mic} {k : Nat} {m : Mic} (h : M[k]? = some m) : costW (csts (M.take (k + 1))) = IntKind.i64.wrap (costW (csts (M.take k)) + m.c) := by
  rw [List.take_add_one, h]
  simp [csts, costW]
end Go.Proofs.YtmgeecdgebemdaaGreatDoor.trc

/- Chapter 16 of the model: NeedsEnergy; nothing that was there is written. -/
namespace Go.Proofs.YtmgeecdgebemdaaGreatDoor.bot
open Go Go.ChangeShapes Go.WideShapes Go.ChangeAt Go.RowKit Go.Proofs.YtmgeecdgebemdaaGreatDoor.row Go.Proofs.YtmgeecdgebemdaaGreatDoor.val Go.Proofs.YtmgeecdgebemdaaGreatDoor.expr Go.Proofs.YtmgeecdgebemdaaGreatDoor.stm Go.Proofs.YtmgeecdgebemdaaGreatDoor.blk Go.Proofs.YtmgeecdgebemdaaGreatDoor.prg Go.Proofs.YtmgeecdgebemdaaGreatDoor.exe Go.Proofs.YtmgeecdgebemdaaGreatDoor.ctl Go.Proofs.YtmgeecdgebemdaaGreatDoor.mem Go.Proofs.YtmgeecdgebemdaaGreatDoor.grow Go.Proofs.YtmgeecdgebemdaaGreatDoor.wrt Go.Proofs.YtmgeecdgebemdaaGreatDoor.trc Go.Proofs.YtmgeecdgebemdaaGreatDoor.rcv
theorem mrowB {w : World} {B : Nat} {a : Option Addr} {n c : Nat} {M : List Mic} (h : w.ownsRow B 98 3 (.slice a n c) n (microsC M)) : MicroRow w a n M := by
  have hl : M.length = n := by have h1 := h.1; rw [microsC_len] at h1; omega
  refine ⟨hl, fun k hk => ?_⟩
  obtain ⟨g, c', e, _, hlt⟩ := h.form (by omega)
  cases e
  refine ⟨g, 0, M[k]'(by omega), rfl, hlt, by simp [show k < M.length by omega], fun j v hv => ?_⟩
  have hj : j < 3 := by have := (List.getElem?_eq_some_iff.1 hv).1; rw [microC_len] at this; exact this
  have h1 := h.cells (g := g) rfl (k * 3 + j) v (by rw [gcs_at microC_len (s := M[k]'(by omega)) (by simp [show k < M.length by omega]) j hj]; exact hv)
  rw [Addr.add_mid] at h1
  rw [show 0 + k * 3 + j = 0 + (k * 3 + j) by omega]
  exact h1
end Go.Proofs.YtmgeecdgebemdaaGreatDoor.bot
