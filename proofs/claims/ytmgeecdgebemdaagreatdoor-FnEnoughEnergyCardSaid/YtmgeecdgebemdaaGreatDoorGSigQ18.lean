/- Several texts in one: QGRow QOpen QMicR QWtR QTrcV QCstT. -/
import Derived.Test.YtmgeecdgebemdaaGreatDoorGSigQ3
import Derived.Test.YtmgeecdgebemdaaGreatDoorRows
import Derived.WalkKit
import Derived.ProofKit
import Derived.OpenShut
import Derived.Lib.SmallJoins
import Derived.Test.YtmgeecdgebemdaaGreatDoorGSigQ0
import Derived.Test.YtmgeecdgebemdaaGreatDoorGSigQ1
import Derived.Deep.Slices
import Derived.Deep.RegionHeld3
import Derived.Test.YtmgeecdgebemdaaGreatDoorGSigQ4
import Derived.Test.YtmgeecdgebemdaaGreatDoorGSigQ10
import Derived.ChangeSame
import Derived.Deep.Strs
import Derived.Laws.Rows
import Derived.KernelRfl

/- Rows of structs of 'm' cells each: what it is for a slice to read as a list of them, for every kind of struct at once. -/
namespace Go.Proofs.YtmgeecdgebemdaaGreatDoor.grow
open Go Go.ChangeShapes Go.WideShapes Go.ChangeAt Go.RowKit Go.Proofs.YtmgeecdgebemdaaGreatDoor.row
/-- The slice at 'a' of 'n' elements of 'm' cells each reads as the list 'L'. -/
def GRow {α : Type} (C : α → List Value) (m : Nat) (w : World) (a : Option Addr) (n : Nat) (L : List α) : Prop :=
  L.length = n ∧ ∀ k, k < n → ∃ (b off : Nat) (s : α), a = some ⟨b, off, none⟩ ∧ b < w.heap.size ∧ L[k]? = some s ∧ w.rangeAt b (off + k * m) (C s)
theorem GRow.below {α : Type} {C : α → List Value} {m : Nat} {w w' : World} {a : Option Addr} {n : Nat} {L : List α} (h : GRow C m w a n L) (hb : Below w.heap.size w w') : GRow C m w' a n L :=
  ⟨h.1, fun k hk => by
    obtain ⟨b, off, s, rfl, hlt, hs, hr⟩ := h.2 k hk
    exact ⟨b, off, s, rfl, Nat.lt_of_lt_of_le hlt hb.size, hs, fun j v hv => (hb.cell (p := ⟨b, off + k * m + j, none⟩) hlt).trans (hr j v hv)⟩⟩
theorem GRow.grown {α : Type} {C : α → List Value} {m : Nat} {w w' : World} {r : Option Nat} {a : Option Addr} {n : Nat} {L : List α} (h : GRow C m w a n L) (hg : w.grownBy w' r) (hne : ∀ b off, a = some ⟨b, off, none⟩ → some b ≠ r) : GRow C m w' a n L :=
  ⟨h.1, fun k hk => by
    obtain ⟨b, off, s, rfl, hlt, hs, hr⟩ := h.2 k hk
    exact ⟨b, off, s, rfl, Nat.lt_of_lt_of_le hlt hg.size, hs, fun j v hv => hg.cell (hr j v hv) (hne b off rfl)⟩⟩
theorem GRow.nil {α : Type} (C : α → List Value) (m : Nat) (w : World) (a : Option Addr) : GRow C m w a 0 ([] : List α) := ⟨rfl, fun k hk => by omega⟩
theorem GRow.take {α : Type} {C : α → List Value} {m : Nat} {w : World} {a : Option Addr} {n : Nat} {L : List α} (h : GRow C m w a n L) (k : Nat) (hk : k ≤ n) : GRow C m w a k (L.take k) :=
  ⟨by rw [List.length_take, h.1]; omega, fun j hj => by
    obtain ⟨b, off, s, e, hlt, hs, hr⟩ := h.2 j (by omega)
    exact ⟨b, off, s, e, hlt, by rw [List.getElem?_take, if_pos hj]; exact hs, hr⟩⟩
theorem GRow.drop {α : Type} {C : α → List Value} {m : Nat} {w : World} {b off n : Nat} {L : List α} (h : GRow C m w (some ⟨b, off, none⟩) n L) (o : Nat) (ho : o ≤ n) : GRow C m w (some ⟨b, off + o * m, none⟩) (n - o) (L.drop o) :=
  ⟨by rw [List.length_drop, h.1], fun j hj => by
    obtain ⟨b', off', s, e, hlt, hs, hr⟩ := h.2 (o + j) (by omega)
    cases e
    exact ⟨b, off + o * m, s, rfl, hlt, by rw [List.getElem?_drop]; exact hs, by rw [show off + o * m + j * m = off + (o + j) * m by rw [Nat.add_mul]; omega]; exact hr⟩⟩

/-- The cells of a list of structs. -/
def gcs {α : Type} (C : α → List Value) (L : List α) : List Value := L.flatMap C
theorem gcs_len {α : Type} {C : α → List Value} {m : Nat} (hC : ∀ s, (C s).length = m) (L : List α) : (gcs C L).length = L.length * m := by
  induction L with
  | nil => simp [gcs]
  | cons s L ih => simp only [gcs, List.flatMap_cons, List.length_append, List.length_cons] at *; rw [ih, hC, Nat.add_mul]; omega
theorem gcs_at {α : Type} {C : α → List Value} {m : Nat} (hC : ∀ s, (C s).length = m) {L : List α} {i : Nat} {s : α} (h : L[i]? = some s) (j : Nat) (hj : j < m) : (gcs C L)[i * m + j]? = (C s)[j]? := by
  induction L generalizing i with
  | nil => simp at h
  | cons t L ih =>
    have e : gcs C (t :: L) = C t ++ gcs C L := by simp [gcs]
    have lm : (C t).length = m := hC t
    cases i with
    | zero =>
      simp at h; subst h
      rw [e, List.getElem?_append_left (by omega)]; congr 1; omega
    | succ i =>
      simp at h
      rw [e, List.getElem?_append_right (by rw [lm, Nat.add_mul]; omega), lm, show (i + 1) * m + j - m = i * m + j by rw [Nat.add_mul]; omega]
      exact ih h
theorem GRow.of_box {α : Type} {C : α → List Value} {m : Nat} (hC : ∀ s, (C s).length = m) {w : World} {g n : Nat} {L : List α} {t : TypeId} (h : Box g (gcs C L).toArray t w) (hl : L.length = n) : GRow C m w (some ⟨g, 0, none⟩) n L :=
  ⟨hl, fun k hk => ⟨g, 0, L[k]'(by omega), rfl, h.lt, by simp [show k < L.length by omega], fun j v hv => by
    have hj : j < m := by have := (List.getElem?_eq_some_iff.1 hv).1; rwa [hC] at this
    have h2 := gcs_at hC (L := L) (i := k) (s := L[k]'(by omega)) (by simp [show k < L.length by omega]) j hj
    rw [show 0 + k * m + j = k * m + j by omega, h.cell, List.getElem?_toArray, h2, hv]⟩⟩
theorem GRow.of_own {α : Type} {C : α → List Value} {m : Nat} (hC : ∀ s, (C s).length = m) {w : World} {base : Nat} {a : Option Addr} {n cap : Nat} {L : List α} {t : TypeId} (hm : 0 < m) (h : w.ownsRow base t m (.slice a n cap) n (gcs C L)) : GRow C m w a n L := by
  have hl : L.length = n := by have := h.1; rw [gcs_len hC] at this; exact Nat.eq_of_mul_eq_mul_right hm this
  refine ⟨hl, fun k hk => ?_⟩
  obtain ⟨g, c, hv, _, hg⟩ := h.form (by omega)
  injection hv with h1 h2 h3
  subst h1
  refine ⟨g, 0, L[k], rfl, hg, by simp [hl, hk], fun j v hjv => ?_⟩
  have hj : j < m := by have := (List.getElem?_eq_some_iff.1 hjv).1; rwa [hC] at this
  have h4 := gcs_at hC (L := L) (i := k) (s := L[k]) (by simp [hl, hk]) j hj
  have hlt : k * m + j < n * m := by
    have : (k + 1) * m ≤ n * m := Nat.mul_le_mul_right m hk
    rw [Nat.add_mul] at this; omega
  rw [show 0 + k * m + j = k * m + j by omega, h.cellAt (k * m + j) hlt, h4, hjv]
theorem own_box {w : World} {base g n m : Nat} {t : TypeId} {xs : List Value} (h : w.ownsRow base t m (.slice (some ⟨g, 0, none⟩) n n) n xs) : Box g xs.toArray t w := by
  rcases h.2 with ⟨h0, _⟩ | ⟨g', cap, cur, hv, _, hg, _, _, hs, ht⟩
  · simp at h0
  · simp only [Value.slice.injEq, Option.some.injEq, Addr.mk.injEq, and_true, true_and] at hv
    obtain ⟨rfl, rfl⟩ := hv
    have e : xs = cur.toList := by rw [← ht]; exact List.take_of_length_le (by rw [Array.length_toList, hs]; exact Nat.le_refl _)
    unfold Box
    rw [e, Array.toArray_toList]; exact hg
theorem range_below {w w' : World} {g o : Nat} {cs : List Value} (h : w.rangeAt g o cs) (hg : g < w.heap.size) (hb : Below w.heap.size w w') : w'.rangeAt g o cs :=
  fun j v hv => (hb.cell (p := ⟨g, o + j, none⟩) hg).trans (h j v hv)
end Go.Proofs.YtmgeecdgebemdaaGreatDoor.grow

/- What a law's argument is made of, by its type: a struct of numbers is its fields. -/
namespace Go.Proofs.YtmgeecdgebemdaaGreatDoor.opn
open Go.ChangeShapes Go.WideShapes Go.ChangeAt Go.RowKit Go.Joins Go.Deep
end Go.Proofs.YtmgeecdgebemdaaGreatDoor.opn

/- The struct Micro as plain data, and rows of it: the law's own copy, size, comparison, marks of such a value and of such a row; what a law's argument of these types is. -/
namespace Go.Proofs.YtmgeecdgebemdaaGreatDoor.trc
open Go Go.ChangeShapes Go.WideShapes Go.ChangeAt Go.RowKit Go.Joins Go.Deep Go.Proofs.YtmgeecdgebemdaaGreatDoor.row Go.Proofs.YtmgeecdgebemdaaGreatDoor.val Go.Proofs.YtmgeecdgebemdaaGreatDoor.expr Go.Proofs.YtmgeecdgebemdaaGreatDoor.grow
/-- The cells of one, its value, the cells of a list of them. -/
def microC (s : Mic) : List Value := [.int .i64 s.c, .int .i64 s.a, .int .i64 s.v]
theorem microC_len (s : Mic) : (microC s).length = 3 := rfl
abbrev microsC (L : List Mic) : List Value := gcs microC L
theorem microsC_len (L : List Mic) : (microsC L).length = L.length * 3 := gcs_len microC_len L
/-- The slice reads as this list. -/
abbrev MicroRow (w : World) (a : Option Addr) (n : Nat) (L : List Mic) : Prop := GRow microC 3 w a n L
theorem drew_below {w w' : World} (h : Below w.drew.heap.size w.drew w') : Below w.heap.size w w' := (Below.drew (Below.refl _ w)).trans h
end Go.Proofs.YtmgeecdgebemdaaGreatDoor.trc
namespace Go.Proofs.YtmgeecdgebemdaaGreatDoor.opn
open Go.ChangeShapes Go.WideShapes Go.ChangeAt Go.RowKit Go.Joins Go.Deep Go.Proofs.YtmgeecdgebemdaaGreatDoor.trc Go.Proofs.YtmgeecdgebemdaaGreatDoor.grow
end Go.Proofs.YtmgeecdgebemdaaGreatDoor.opn

/- The struct Write as plain data, and rows of it: the law's own copy, size, comparison, marks of such a value and of such a row; what a law's argument of these types is. -/
namespace Go.Proofs.YtmgeecdgebemdaaGreatDoor.wrt
open Go Go.ChangeShapes Go.WideShapes Go.ChangeAt Go.RowKit Go.Joins Go.Deep Go.Proofs.YtmgeecdgebemdaaGreatDoor.row Go.Proofs.YtmgeecdgebemdaaGreatDoor.val Go.Proofs.YtmgeecdgebemdaaGreatDoor.expr Go.Proofs.YtmgeecdgebemdaaGreatDoor.grow
/-- The cells of one, its value, the cells of a list of them. -/
def writeC (s : Wt) : List Value := [.int .i64 s.p, .int .i64 s.v]
theorem writeC_len (s : Wt) : (writeC s).length = 2 := rfl
abbrev writeV (s : Wt) : Value := .agg #[.int .i64 s.p, .int .i64 s.v]
abbrev writesC (L : List Wt) : List Value := gcs writeC L
theorem writesC_len (L : List Wt) : (writesC L).length = L.length * 2 := gcs_len writeC_len L
/-- The slice reads as this list. -/
abbrev WriteRow (w : World) (a : Option Addr) (n : Nat) (L : List Wt) : Prop := GRow writeC 2 w a n L
theorem drew_below {w w' : World} (h : Below w.drew.heap.size w.drew w') : Below w.heap.size w w' := (Below.drew (Below.refl _ w)).trans h
theorem infoWrite : (Tryz.prog.info? 100).map (fun i => (i.zero, i.size, i.bytes)) = some (some (.agg #[.int .i64 0, .int .i64 0]), 2, 16) := by kernel_rfl
end Go.Proofs.YtmgeecdgebemdaaGreatDoor.wrt
namespace Go.Proofs.YtmgeecdgebemdaaGreatDoor.opn
open Go.ChangeShapes Go.WideShapes Go.ChangeAt Go.RowKit Go.Joins Go.Deep Go.Proofs.YtmgeecdgebemdaaGreatDoor.wrt Go.Proofs.YtmgeecdgebemdaaGreatDoor.grow
end Go.Proofs.YtmgeecdgebemdaaGreatDoor.opn

/- A trace as a value, and in new memory; what the program's TraceCost, WritesOf and CountSteps are to give: the shapes of their contracts. -/
namespace Go.Proofs.YtmgeecdgebemdaaGreatDoor.trc
open Go Go.ChangeShapes Go.WideShapes Go.ChangeAt Go.RowKit Go.Proofs.YtmgeecdgebemdaaGreatDoor.row Go.Proofs.YtmgeecdgebemdaaGreatDoor.val Go.Proofs.YtmgeecdgebemdaaGreatDoor.expr Go.Proofs.YtmgeecdgebemdaaGreatDoor.grow Go.Proofs.YtmgeecdgebemdaaGreatDoor.wrt
abbrev trV (a1 : Option Addr) (n1 c1 : Nat) (a2 : Option Addr) (n2 c2 : Nat) : Value := .agg #[.slice a1 n1 c1, .slice a2 n2 c2]
/-- The trace in new memory. -/
def TrMem (B : Nat) (a1 : Option Addr) (n1 c1 : Nat) (a2 : Option Addr) (n2 c2 : Nat) (M : List Mic) (U : List Int) (w' : World) : Prop :=
  w'.ownsRow B 98 3 (.slice a1 n1 c1) n1 (microsC M) ∧ w'.ownsRow B 3 1 (.slice a2 n2 c2) n2 (ivs U) ∧ ((Value.slice a1 n1 c1).ownBlock = none ∨ (Value.slice a1 n1 c1).ownBlock ≠ (Value.slice a2 n2 c2).ownBlock)
def NewTrB (w : World) (r : Bool) (M : List Mic) (U : List Int) (e : Ending) (w' : World) : Prop :=
  ∃ a1 n1 c1 a2 n2 c2, e = .returned (.tuple #[trV a1 n1 c1 a2 n2 c2, .bool r]) ∧ TrMem w.heap.size a1 n1 c1 a2 n2 c2 M U w' ∧ Below w.heap.size w w'
/-- The trace that came in. -/
def TrRow (w : World) (a1 : Option Addr) (n1 : Nat) (a2 : Option Addr) (n2 : Nat) (M : List Mic) (U : List Int) : Prop := MicroRow w a1 n1 M ∧ Row w a2 n2 U ∧ (n1 : Int) ≤ 1048576 ∧ (n2 : Int) ≤ 1048576
theorem TrRow.below {w w' : World} {a1 : Option Addr} {n1 : Nat} {a2 : Option Addr} {n2 : Nat} {M : List Mic} {U : List Int} (h : TrRow w a1 n1 a2 n2 M U) (hb : Below w.heap.size w w') : TrRow w' a1 n1 a2 n2 M U := ⟨h.1.below hb, h.2.1.below hb, h.2.2⟩
/-- Every cost is an int. -/
abbrev i64r (x : Int) : Prop := -9223372036854775808 ≤ x ∧ x ≤ 9223372036854775807
def MicOk (M : List Mic) : Prop := ∀ m ∈ M, i64r m.c
abbrev zero2T : Array Value := #[.slice none 0 0, .slice none 0 0]
abbrev TcC : Prop := ∀ (w : World) (a1 : Option Addr) (n1 c1 : Nat) (a2 : Option Addr) (n2 c2 : Nat) (M : List Mic) (U : List Int) (_ : n1 ≤ c1) (_ : TrRow w a1 n1 a2 n2 M U) (_ : MicOk M) (q : Int) (_ : costW (csts M) = q),
    Calls Tryz.prog 40 #[trV a1 n1 c1 a2 n2 c2] w (BelI w q)
end Go.Proofs.YtmgeecdgebemdaaGreatDoor.trc

/- Costs: what the program's table of costs holds, from what the card lists; the program's StmtCost over it, and the model's. -/
namespace Go.Proofs.YtmgeecdgebemdaaGreatDoor.cst
open Go Go.ChangeShapes Go.WideShapes Go.ChangeAt Go.RowKit Go.Deep Go.Proofs.YtmgeecdgebemdaaGreatDoor.row Go.Proofs.YtmgeecdgebemdaaGreatDoor.val Go.Proofs.YtmgeecdgebemdaaGreatDoor.stm Go.Proofs.YtmgeecdgebemdaaGreatDoor.expr
section table
variable {H : Type} {enc : TypeId × Value → H} {w : World} {base : Nat} {sp : Nat → Bool} {held : Bool} {fuel : Nat} {cs : List Value} {p : List MemPlace}
theorem cellsI : Tryz.prog.cellsOf 3 = 1 := by kernel_rfl
theorem cellsE : Tryz.prog.cellsOf 94 = 3 := by kernel_rfl
theorem cellsS : Tryz.prog.cellsOf 112 = 6 := by kernel_rfl
theorem cellsR : Tryz.prog.cellsOf 168 = 7 := by kernel_rfl
theorem cellsT : Tryz.prog.cellsOf 169 = 35 := by kernel_rfl
theorem int1 {z : Int} (h : DataW.trod enc Tryz.prog w base sp held fuel 3 cs = some (.lit (.int .i64 z), p)) : cs = [.int .i64 z] := by
  obtain ⟨z', hc, he, _⟩ := DataW.trod_int Tryz.underlying3 h
  have := (Prod.mk.inj he).1
  simp only [DataW.lit.injEq, Lit.int.injEq, true_and] at this
  subst this
  exact hc
set_option maxRecDepth 100000 in
theorem expr3 {a b c : Int} (h : DataW.trod enc Tryz.prog w base sp held fuel 94 cs = some (.agg [.lit (.int .i64 a), .lit (.int .i64 b), .lit (.int .i64 c)], p)) :
    cs = [.int .i64 a, .int .i64 b, .int .i64 c] := by
  obtain ⟨⟨d0, p0⟩, ⟨d1, p1⟩, ⟨d2, p2⟩, n, he, hl, h0, h1, h2⟩ := trod_struct3 Tryz.underlying94 h
  rw [cellsE] at hl
  have e := (Prod.mk.inj he).1
  simp only [DataW.agg.injEq, List.cons.injEq, and_true] at e
  obtain ⟨e0, e1, e2⟩ := e
  subst e0 e1 e2
  match cs, hl with
  | [c0, c1, c2], _ =>
    have k0 := int1 h0
    have k1 := int1 h1
    have k2 := int1 h2
    rw [cellsI] at k0 k1 k2
    simp at k0 k1 k2
    rw [k0, k1, k2]
set_option maxRecDepth 100000 in
theorem stmt6 {k x m a b c : Int} (h : DataW.trod enc Tryz.prog w base sp held fuel 112 cs = some (.agg [.lit (.int .i64 k), .lit (.int .i64 x), .lit (.int .i64 m), .agg [.lit (.int .i64 a), .lit (.int .i64 b), .lit (.int .i64 c)]], p)) :
    cs = [.int .i64 k, .int .i64 x, .int .i64 m, .int .i64 a, .int .i64 b, .int .i64 c] := by
  obtain ⟨xs, n, _, he, hl, hlen, hf⟩ := DataW.trod_struct Tryz.underlying112 h
  rw [cellsS] at hl
  match xs, hlen with
  | [⟨d0, p0⟩, ⟨d1, p1⟩, ⟨d2, p2⟩, ⟨d3, p3⟩], _ =>
    have e := (Prod.mk.inj he).1
    simp only [DataW.agg.injEq, List.map_cons, List.map_nil, List.cons.injEq, and_true] at e
    obtain ⟨e0, e1, e2, e3⟩ := e
    subst e0 e1 e2 e3
    match cs, hl with
    | [c0, c1, c2, c3, c4, c5], _ =>
      have k0 := int1 (hf 0 _ rfl)
      have k1 := int1 (hf 1 _ rfl)
      have k2 := int1 (hf 2 _ rfl)
      have k3 := expr3 (hf 3 _ rfl)
      change List.take (Tryz.prog.cellsOf 3) (List.drop 0 [c0, c1, c2, c3, c4, c5]) = _ at k0
      change List.take (Tryz.prog.cellsOf 3) (List.drop 1 [c0, c1, c2, c3, c4, c5]) = _ at k1
      change List.take (Tryz.prog.cellsOf 3) (List.drop 2 [c0, c1, c2, c3, c4, c5]) = _ at k2
      change List.take (Tryz.prog.cellsOf 94) (List.drop 3 [c0, c1, c2, c3, c4, c5]) = _ at k3
      rw [cellsI] at k0 k1 k2
      rw [cellsE] at k3
      simp at k0 k1 k2 k3
      obtain ⟨k3, k4, k5⟩ := k3
      rw [k0, k1, k2, k3, k4, k5]
set_option maxRecDepth 100000 in
theorem row7 {k r : Int} (h : DataW.trod enc Tryz.prog w base sp held fuel 168 cs = some (.agg [.agg [.lit (.int .i64 k), .lit (.int .i64 0), .lit (.int .i64 0), .agg [.lit (.int .i64 0), .lit (.int .i64 0), .lit (.int .i64 0)]], .lit (.int .i64 r)], p)) :
    cs = [.int .i64 k, .int .i64 0, .int .i64 0, .int .i64 0, .int .i64 0, .int .i64 0, .int .i64 r] := by
  obtain ⟨⟨d0, p0⟩, ⟨d1, p1⟩, n, he, hl, h0, h1⟩ := trod_struct2 Tryz.underlying168 h
  rw [cellsR] at hl
  have e := (Prod.mk.inj he).1
  simp only [DataW.agg.injEq, List.cons.injEq, and_true] at e
  obtain ⟨e0, e1⟩ := e
  subst e0 e1
  match cs, hl with
  | [c0, c1, c2, c3, c4, c5, c6], _ =>
    have k0 := stmt6 h0
    have k1 := int1 h1
    rw [cellsS] at k0
    rw [cellsI] at k1
    simp at k0 k1
    obtain ⟨k0, k2, k3, k4, k5, k6⟩ := k0
    rw [k0, k1, k2, k3, k4, k5, k6]
end table
/-- The table's cells: the statement of which only the kind is left, and its cost, five times. -/
def costCells : List Value := [.int .i64 1, .int .i64 0, .int .i64 0, .int .i64 0, .int .i64 0, .int .i64 0, .int .i64 2,
  .int .i64 2, .int .i64 0, .int .i64 0, .int .i64 0, .int .i64 0, .int .i64 0, .int .i64 5,
  .int .i64 3, .int .i64 0, .int .i64 0, .int .i64 0, .int .i64 0, .int .i64 0, .int .i64 4,
  .int .i64 4, .int .i64 0, .int .i64 0, .int .i64 0, .int .i64 0, .int .i64 0, .int .i64 1,
  .int .i64 5, .int .i64 0, .int .i64 0, .int .i64 0, .int .i64 0, .int .i64 0, .int .i64 1]
theorem drop_seg {cs a : List Value} {k : Nat} (h : (cs.drop (k * 7)).take 7 = a) : cs.drop (k * 7) = a ++ cs.drop ((k + 1) * 7) := by
  rw [← h, show (k + 1) * 7 = k * 7 + 7 by omega, ← List.drop_drop, List.take_append_drop]
theorem gTab : Tryz.prog.globalNamed "loop.example/g00983/impl.stmtCosts" = some 0 := by kernel_rfl
theorem tTab : (Tryz.prog.globals[0]?).map (·.type) = some 169 := by kernel_rfl
/-- The block of the table. -/
def CostTab (w : World) : Prop := ∃ t fr, w.heap[(0 : Nat)]? = some (.cells costCells.toArray t fr)
set_option maxRecDepth 100000 in
theorem costs_of {W : World} {r : List (String × DataW Unit)} (h : laidMet Tryz.prog (("loop.example/g00983/impl.stmtCosts", Rows.laid_loop_example_g00983_impl_stmtCosts) :: r) W) : CostTab W := by
  obtain ⟨ps, ⟨g, t, cs, fuel, p, q, hg, ht, hv, hd, _, _⟩, _⟩ := h
  obtain rfl := Option.some.inj (gTab.symm.trans hg)
  obtain rfl := Option.some.inj (tTab.symm.trans ht)
  have hcs : cs.toList = costCells := by
    obtain ⟨xs, m, _, ex, hlen, hl, hel⟩ := DataW.trod_array Tryz.underlying169 hd
    rw [cellsT] at hlen
    match xs, hl with
    | [⟨d0, p0⟩, ⟨d1, p1⟩, ⟨d2, p2⟩, ⟨d3, p3⟩, ⟨d4, p4⟩], _ =>
      have e := (Prod.mk.inj ex).1
      simp only [Rows.laid_loop_example_g00983_impl_stmtCosts, DataW.agg.injEq, List.map_cons, List.map_nil, List.cons.injEq, and_true] at e
      obtain ⟨e0, e1, e2, e3, e4⟩ := e
      subst e0 e1 e2 e3 e4
      have k0 := hel 0 (by omega)
      have k1 := hel 1 (by omega)
      have k2 := hel 2 (by omega)
      have k3 := hel 3 (by omega)
      have k4 := hel 4 (by omega)
      rw [cellsR] at k0 k1 k2 k3 k4
      have s0 := drop_seg (row7 k0)
      have s1 := drop_seg (row7 k1)
      have s2 := drop_seg (row7 k2)
      have s3 := drop_seg (row7 k3)
      have s4 := drop_seg (row7 k4)
      have s5 : cs.toList.drop (5 * 7) = [] := List.drop_eq_nil_of_le (by omega)
      rw [show cs.toList = cs.toList.drop (0 * 7) by simp, s0, s1, s2, s3, s4, s5]
      rfl
  unfold World.var? at hv
  rw [gTab] at hv
  simp only [Option.bind_some] at hv
  split at hv
  · rename_i c2 t2 f2 hh
    have : c2 = cs := Option.some.inj hv
    refine ⟨t2, f2, ?_⟩
    rw [hh, this, ← hcs, Array.toArray_toList]
  · cases hv
/-- What a statement of this kind costs. -/
def kindC (k : Int) : Int := if k = 1 then 2 else if k = 2 then 5 else if k = 3 then 4 else if k = 4 then 1 else if k = 5 then 1 else 0
/-- What a statement costs: nothing where it is not valid. -/
def costF (s : St) : Int := if stOk s = true then kindC s.k else 0
theorem CostTab.below {w w' : World} (h : CostTab w) (hb : Below w.heap.size w w') : CostTab w' := by
  obtain ⟨t, fr, h⟩ := h
  exact ⟨t, fr, (hb.block _ (Array.getElem?_eq_some_iff.1 h).1).trans h⟩
theorem idx_any (j : Int) (h0 : 0 ≤ j) (h5 : j < 5) (w : World) : (Instr.index 169 (.agg costCells.toArray) (.int .i64 j)).run Tryz.prog w = .ok (.agg #[.int .i64 (j + 1), .int .i64 0, .int .i64 0, .int .i64 0, .int .i64 0, .int .i64 0, .int .i64 (kindC (j + 1))]) w := by
  rcases (show j = 0 ∨ j = 1 ∨ j = 2 ∨ j = 3 ∨ j = 4 by omega) with rfl | rfl | rfl | rfl | rfl <;> kernel_rfl
theorem eqKey (a b : Int) : eqSt ⟨a, 0, 0, 0, 0, 0⟩ ⟨b, 0, 0, 0, 0, 0⟩ = decide (a = b) := by
  rw [Bool.eq_iff_iff]; simp [eqSt]
theorem kindC_none {k j : Int} (hj : j = 5) (h : ¬ (1 ≤ k ∧ k ≤ j)) : kindC k = 0 := by
  unfold kindC
  rw [if_neg (by omega), if_neg (by omega), if_neg (by omega), if_neg (by omega), if_neg (by omega)]
set_option maxHeartbeats 8000000 in
set_option maxRecDepth 100000 in
theorem impl_stmtcost (s : St) (w : World) (hT : CostTab w) : Calls Tryz.prog 82 #[stV s] w (BelI w (costF s)) := by
  cases hs : stOk s
  · have HS := Lib.hid hs
    have HV := Lib.hid (show costF s = 0 by unfold costF; rw [hs]; rfl)
    clear hs
    go_enter Tryz.func82, Tryz.ntmps82
    go_wp2_with (go_at_call 141; (with_reducible refine (impl_stmtok s false HS.out _).mono ?_); rintro e w1 ⟨rfl, hb1⟩)
    have HB := Lib.hid (below_then (below_new w _) hb1)
    clear hb1
    go_wp2
    go_ret
    exact ⟨ret_int HV.out.symm, HB.out⟩
  · have HS := Lib.hid hs
    have HV := Lib.hid (show costF s = kindC s.k by unfold costF; rw [hs]; rfl)
    clear hs
    obtain ⟨k, v, n, o, a, b⟩ := s
    have hx := Box.new w #[.int .i64 k, .int .i64 v, .int .i64 n, .int .i64 o, .int .i64 a, .int .i64 b] 112
    go_enter Tryz.func82, Tryz.ntmps82
    go_wp2_with (go_at_call 141; (with_reducible refine (impl_stmtok ⟨k, v, n, o, a, b⟩ true HS.out _).mono ?_); rintro e w1 ⟨rfl, hb1⟩; refine Hid.out ?_)
    have H1 := Lib.hid (And.intro (hx.below hb1) (And.intro (below_then (below_new w _) hb1) ((hT.below (below_new w _)).below hb1)))
    clear hb1 hx hT
    have c0 : w1.cell? ⟨w.heap.size, 0, none⟩ = some (.int .i64 k) := H1.out.1.cell 0
    have hl1 : w.heap.size < w1.heap.size := H1.out.1.lt
    obtain ⟨W1, hW1⟩ : ∃ W1, w1.alloc (.cells #[.int .i64 0, .int .i64 0, .int .i64 0, .int .i64 0, .int .i64 0, .int .i64 0] 112) = W1 := ⟨_, rfl⟩
    have HBN := Lib.hid (show Below w1.heap.size w1 W1 by rw [← hW1]; exact below_new _ _)
    have HZ := Lib.hid (show Box w1.heap.size #[.int .i64 0, .int .i64 0, .int .i64 0, .int .i64 0, .int .i64 0, .int .i64 0] 112 W1 by rw [← hW1]; exact Box.new _ _ _)
    refine Lib.hid ?_
    go_wp2_with ((refine wpList_store_box rfl 112 _ _ rfl w1.heap.size _ _ HZ.out #[.int .i64 k, .int .i64 0, .int .i64 0, .int .i64 0, .int .i64 0, .int .i64 0] rfl rfl rfl (by kernel_rfl) (by simp [Value.oneCell']) ?_); intro w2 hx2 hg2; refine Hid.out ?_)
    have hb2 : Below w1.heap.size w1 w2 := HBN.out.grown hg2 HBN.out.size (fun j hj => by cases hj; exact Nat.le_refl _)
    have H2 := Lib.hid (And.intro hx2 (And.intro (below_then H1.out.2.1 hb2) (H1.out.2.2.below hb2)))
    clear hx2 hg2 hb2 c0 hW1
    obtain ⟨tt, fr, hTab⟩ := H2.out.2.2
    have HT := Lib.hid hTab
    clear hTab
    refine Lib.hid ?_
    go_wp2_with (refine wpList_load_row rfl 169 _ rfl 0 rfl _ _ _ _ HT.out Tryz.underlying169 rfl (by kernel_rfl) ?_)
    go_loopw [13] (fun i wr => ∃ (j : Int), 0 ≤ j ∧ j ≤ 5 ∧ i = .int .i64 j ∧ ¬ (1 ≤ k ∧ k ≤ j) ∧ Hid (Below w2.heap.size w2 wr)) (fun i _ => (5 - Go.RowKit.intOf i).toNat)
    case atStart => exact ⟨0, by omega, by omega, rfl, by omega, Below.refl _ _⟩
    case round =>
      obtain ⟨j, hj0, hj5, rfl, hkj, HR⟩ := hrel
      by_cases hlt : j < 5
      · have hidx := idx_any j hj0 hlt
        obtain ⟨W3, hW3⟩ : ∃ W3, wr.alloc (.cells #[.int .i64 0, .int .i64 0, .int .i64 0, .int .i64 0, .int .i64 0, .int .i64 0, .int .i64 0] 168) = W3 := ⟨_, rfl⟩
        have HBN3 := Lib.hid (show Below wr.heap.size wr W3 by rw [← hW3]; exact below_new _ _)
        have HZ3 := Lib.hid (show Box wr.heap.size #[.int .i64 0, .int .i64 0, .int .i64 0, .int .i64 0, .int .i64 0, .int .i64 0, .int .i64 0] 168 W3 by rw [← hW3]; exact Box.new _ _ _)
        go_wp2_with ((refine wpList_store_box rfl 168 _ _ rfl wr.heap.size _ _ HZ3.out #[.int .i64 (j + 1), .int .i64 0, .int .i64 0, .int .i64 0, .int .i64 0, .int .i64 0, .int .i64 (kindC (j + 1))] rfl rfl rfl (by kernel_rfl) (by simp [Value.oneCell']) ?_); intro w4 hx4 hg4; refine Hid.out ?_)
        have hb4 : Below wr.heap.size wr w4 := HBN3.out.grown hg4 HBN3.out.size (fun j hj => by cases hj; exact Nat.le_refl _)
        have H4 := Lib.hid (And.intro ((H2.out.1.below HR.out).below hb4) (And.intro (below_then HR.out hb4) hx4))
        have d0 : w4.cell? ⟨wr.heap.size, 0, none⟩ = some (.int .i64 (j + 1)) := hx4.cell 0
        have d1 : w4.cell? ⟨wr.heap.size, 1, none⟩ = some (.int .i64 0) := hx4.cell 1
        have d2 : w4.cell? ⟨wr.heap.size, 2, none⟩ = some (.int .i64 0) := hx4.cell 2
        have d3 : w4.cell? ⟨wr.heap.size, 3, none⟩ = some (.int .i64 0) := hx4.cell 3
        have d4 : w4.cell? ⟨wr.heap.size, 4, none⟩ = some (.int .i64 0) := hx4.cell 4
        have d5 : w4.cell? ⟨wr.heap.size, 5, none⟩ = some (.int .i64 0) := hx4.cell 5
        have d6 : w4.cell? ⟨wr.heap.size, 6, none⟩ = some (.int .i64 (kindC (j + 1))) := hx4.cell 6
        have hq := run_eqSt ⟨j + 1, 0, 0, 0, 0, 0⟩ ⟨k, 0, 0, 0, 0, 0⟩
        clear hb4 hx4 hg4 hW3
        by_cases hk : j + 1 = k
        · have hqb : eqSt ⟨j + 1, 0, 0, 0, 0, 0⟩ ⟨k, 0, 0, 0, 0, 0⟩ = true := by rw [eqKey]; simpa using hk
          have HK := Lib.hid hk
          clear hk
          refine Lib.hid ?_
          go_wp2_with (refine wpList_load_row rfl 112 _ rfl w1.heap.size rfl _ _ _ _ H4.out.1 Tryz.underlying112 rfl (by kernel_rfl) ?_)
          go_ret
          exact ⟨ret_int (show kindC (j + 1) = costF ⟨k, v, n, o, a, b⟩ by rw [HV.out, HK.out]), below_then H2.out.2.1 H4.out.2.1⟩
        · have hqb : eqSt ⟨j + 1, 0, 0, 0, 0, 0⟩ ⟨k, 0, 0, 0, 0, 0⟩ = false := by rw [eqKey]; simpa using hk
          refine Lib.hid ?_
          go_wp2_with (refine wpList_load_row rfl 112 _ rfl w1.heap.size rfl _ _ _ _ H4.out.1 Tryz.underlying112 rfl (by kernel_rfl) ?_)
          go_roundw
          case rel => exact ⟨j + 1, by omega, by omega, rfl, by omega, H4.out.2.1⟩
          case measure => simp [Go.RowKit.intOf]; omega
      · have HV0 := Lib.hid (show kindC k = 0 from kindC_none (by omega) hkj)
        go_wp2
        go_ret
        exact ⟨ret_int (show (0 : Int) = costF ⟨k, v, n, o, a, b⟩ by rw [HV.out, HV0.out]), below_then H2.out.2.1 HR.out⟩
end Go.Proofs.YtmgeecdgebemdaaGreatDoor.cst
