/- Several texts in one: VGRow VMicR VWtR VTrcV VBotS VRss. -/
import Derived.Test.YtmgeecdgebemdaaGreatDoorGSigV2
import Derived.Test.YtmgeecdgebemdaaGreatDoorGSigV6
import Derived.Test.YtmgeecdgebemdaaGreatDoorGSigV0
import Derived.Test.YtmgeecdgebemdaaGreatDoorGSigV1
import Derived.Test.YtmgeecdgebemdaaGreatDoorGSigV5
import Derived.Deep.Slices
import Derived.Deep.RegionHeld3
import Derived.Test.YtmgeecdgebemdaaGreatDoorGSigV21
import Derived.Test.YtmgeecdgebemdaaGreatDoorGSigV18
import Derived.Laws.AppendOwn

/- Rows of structs of 'm' cells each: what it is for a slice to read as a list of them, for every kind of struct at once. -/
namespace Go.Proofs.YtmgeecdgebemdaaGreatDoor.grow
open Go Go.ChangeShapes Go.WideShapes Go.ChangeAt Go.RowKit Go.Proofs.YtmgeecdgebemdaaGreatDoor.row
/-- The slice at 'a' of 'n' elements of 'm' cells each reads as the list 'L'. -/
def GRow {α : Type} (C : α → List Value) (m : Nat) (w : World) (a : Option Addr) (n : Nat) (L : List α) : Prop :=
  L.length = n ∧ ∀ k, k < n → ∃ (b off : Nat) (s : α), a = some ⟨b, off, none⟩ ∧ b < w.heap.size ∧ L[k]? = some s ∧ w.rangeAt b (off + k * m) (C s)
theorem GRow.below {α : Type} {C : α → List Value} {m : Nat} {w w' : World} {a : Option Addr} {n : Nat} {L : List α} (h : GRow C m w a n L) (hb : Below w.heap.size w w') : GRow C m w' a n L :=
  ⟨h.1, fun k hk => by
    obtain ⟨b, off, s, rfl, hlt, hs, hr⟩ := h.2 k hk
    exact ⟨b, off, s, rfl, Nat.lt_of_lt_of_le hlt hb.size, hs, fun j v hv => (hb.cell (p := ⟨b, off + k * m + j, none⟩) hlt).trans (hr j v hv)⟩⟩
theorem GRow.grown {α : Type} {C : α → List Value} {m : Nat} {w w' : World} {r : Option Nat} {a : Option Addr} {n : Nat} {L : List α} (h : GRow C m w a n L) (hg : w.grownBy w' r) (hne : ∀ b off, a = some ⟨b, off, none⟩ → some b ≠ r) : GRow C m w' a n L :=
  ⟨h.1, fun k hk => by
    obtain ⟨b, off, s, rfl, hlt, hs, hr⟩ := h.2 k hk
    exact ⟨b, off, s, rfl, Nat.lt_of_lt_of_le hlt hg.size, hs, fun j v hv => hg.cell (hr j v hv) (hne b off rfl)⟩⟩
theorem GRow.nil {α : Type} (C : α → List Value) (m : Nat) (w : World) (a : Option Addr) : GRow C m w a 0 ([] : List α) := ⟨rfl, fun k hk => by omega⟩
theorem GRow.take {α : Type} {C : α → List Value} {m : Nat} {w : World} {a : Option Addr} {n : Nat} {L : List α} (h : GRow C m w a n L) (k : Nat) (hk : k ≤ n) : GRow C m w a k (L.take k) :=
  ⟨by rw [List.length_take, h.1]; omega, fun j hj => by
    obtain ⟨b, off, s, e, hlt, hs, hr⟩ := h.2 j (by omega)
    exact ⟨b, off, s, e, hlt, by rw [List.getElem?_take, if_pos hj]; exact hs, hr⟩⟩
theorem GRow.drop {α : Type} {C : α → List Value} {m : Nat} {w : World} {b off n : Nat} {L : List α} (h : GRow C m w (some ⟨b, off, none⟩) n L) (o : Nat) (ho : o ≤ n) : GRow C m w (some ⟨b, off + o * m, none⟩) (n - o) (L.drop o) :=
  ⟨by rw [List.length_drop, h.1], fun j hj => by
    obtain ⟨b', off', s, e, hlt, hs, hr⟩ := h.2 (o + j) (by omega)
    cases e
    exact ⟨b, off + o * m, s, rfl, hlt, by rw [List.getElem?_drop]; exact hs, by rw [show off + o * m + j * m = off + (o + j) * m by rw [Nat.add_mul]; omega]; exact hr⟩⟩

/-- The cells of a list of structs. -/
def gcs {α : Type} (C : α → List Value) (L : List α) : List Value := L.flatMap C
theorem gcs_len {α : Type} {C : α → List Value} {m : Nat} (hC : ∀ s, (C s).length = m) (L : List α) : (gcs C L).length = L.length * m := by
  induction L with
  | nil => simp [gcs]
  | cons s L ih => simp only [gcs, List.flatMap_cons, List.length_append, List.length_cons] at *; rw [ih, hC, Nat.add_mul]; omega
theorem gcs_app {α : Type} (C : α → List Value) (L M : List α) : gcs C (L ++ M) = gcs C L ++ gcs C M := by simp [gcs]
theorem gcs_at {α : Type} {C : α → List Value} {m : Nat} (hC : ∀ s, (C s).length = m) {L : List α} {i : Nat} {s : α} (h : L[i]? = some s) (j : Nat) (hj : j < m) : (gcs C L)[i * m + j]? = (C s)[j]? := by
  induction L generalizing i with
  | nil => simp at h
  | cons t L ih =>
    have e : gcs C (t :: L) = C t ++ gcs C L := by simp [gcs]
    have lm : (C t).length = m := hC t
    cases i with
    | zero =>
      simp at h; subst h
      rw [e, List.getElem?_append_left (by omega)]; congr 1; omega
    | succ i =>
      simp at h
      rw [e, List.getElem?_append_right (by rw [lm, Nat.add_mul]; omega), lm, show (i + 1) * m + j - m = i * m + j by rw [Nat.add_mul]; omega]
      exact ih h
theorem GRow.of_box {α : Type} {C : α → List Value} {m : Nat} (hC : ∀ s, (C s).length = m) {w : World} {g n : Nat} {L : List α} {t : TypeId} (h : Box g (gcs C L).toArray t w) (hl : L.length = n) : GRow C m w (some ⟨g, 0, none⟩) n L :=
  ⟨hl, fun k hk => ⟨g, 0, L[k]'(by omega), rfl, h.lt, by simp [show k < L.length by omega], fun j v hv => by
    have hj : j < m := by have := (List.getElem?_eq_some_iff.1 hv).1; rwa [hC] at this
    have h2 := gcs_at hC (L := L) (i := k) (s := L[k]'(by omega)) (by simp [show k < L.length by omega]) j hj
    rw [show 0 + k * m + j = k * m + j by omega, h.cell, List.getElem?_toArray, h2, hv]⟩⟩
theorem GRow.of_own {α : Type} {C : α → List Value} {m : Nat} (hC : ∀ s, (C s).length = m) {w : World} {base : Nat} {a : Option Addr} {n cap : Nat} {L : List α} {t : TypeId} (hm : 0 < m) (h : w.ownsRow base t m (.slice a n cap) n (gcs C L)) : GRow C m w a n L := by
  have hl : L.length = n := by have := h.1; rw [gcs_len hC] at this; exact Nat.eq_of_mul_eq_mul_right hm this
  refine ⟨hl, fun k hk => ?_⟩
  obtain ⟨g, c, hv, _, hg⟩ := h.form (by omega)
  injection hv with h1 h2 h3
  subst h1
  refine ⟨g, 0, L[k], rfl, hg, by simp [hl, hk], fun j v hjv => ?_⟩
  have hj : j < m := by have := (List.getElem?_eq_some_iff.1 hjv).1; rwa [hC] at this
  have h4 := gcs_at hC (L := L) (i := k) (s := L[k]) (by simp [hl, hk]) j hj
  have hlt : k * m + j < n * m := by
    have : (k + 1) * m ≤ n * m := Nat.mul_le_mul_right m hk
    rw [Nat.add_mul] at this; omega
  rw [show 0 + k * m + j = k * m + j by omega, h.cellAt (k * m + j) hlt, h4, hjv]
theorem setAll_mid : ∀ (vs A B C : List Value), B.length = vs.length → setAll (A ++ (B ++ C)).toArray A.length vs = (A ++ (vs ++ C)).toArray
  | [], A, B, C, h => by
    obtain rfl : B = [] := List.eq_nil_of_length_eq_zero h
    rfl
  | v :: r, A, b :: B, C, h => by
    have e : (A ++ (b :: B ++ C)).toArray.setIfInBounds A.length v = ((A ++ [v]) ++ (B ++ C)).toArray := by
      simp [List.setIfInBounds_toArray, List.set_append_right]
    show setAll ((A ++ (b :: B ++ C)).toArray.setIfInBounds A.length v) (A.length + 1) r = _
    rw [e]
    have := setAll_mid r (A ++ [v]) B C (by simpa using h)
    rw [List.length_append, List.length_singleton] at this
    rw [this]; simp
  | _ :: _, _, [], _, h => by simp at h
theorem copy_next {α : Type} {C : α → List Value} {m : Nat} (hC : ∀ s, (C s).length = m) {L : List α} {n k : Nat} {s : α} (z : Value) (hl : L.length = n) (hk : k < n) (hs : L[k]? = some s) :
    setAll (gcs C (L.take k) ++ List.replicate ((n - k) * m) z).toArray (k * m) (C s) = (gcs C (L.take (k + 1)) ++ List.replicate ((n - (k + 1)) * m) z).toArray := by
  have e1 : (n - k) * m = m + (n - (k + 1)) * m := by rw [show n - k = (n - (k + 1)) + 1 by omega, Nat.add_mul]; omega
  have e2 : k * m = (gcs C (L.take k)).length := by rw [gcs_len hC, List.length_take, Nat.min_eq_left (by omega)]
  rw [e1, ← List.replicate_append_replicate, e2, setAll_mid _ _ _ _ (by simp [hC])]
  rw [List.take_add_one, hs, gcs_app]
  simp [gcs]
theorem own_box {w : World} {base g n m : Nat} {t : TypeId} {xs : List Value} (h : w.ownsRow base t m (.slice (some ⟨g, 0, none⟩) n n) n xs) : Box g xs.toArray t w := by
  rcases h.2 with ⟨h0, _⟩ | ⟨g', cap, cur, hv, _, hg, _, _, hs, ht⟩
  · simp at h0
  · simp only [Value.slice.injEq, Option.some.injEq, Addr.mk.injEq, and_true, true_and] at hv
    obtain ⟨rfl, rfl⟩ := hv
    have e : xs = cur.toList := by rw [← ht]; exact List.take_of_length_le (by rw [Array.length_toList, hs]; exact Nat.le_refl _)
    unfold Box
    rw [e, Array.toArray_toList]; exact hg
theorem range_lt {w : World} {g o : Nat} {cs : List Value} (h : w.rangeAt g o cs) (hp : 0 < cs.length) : g < w.heap.size :=
  World.block_lt_of_cell? w ⟨g, o + 0, none⟩ (h 0 _ (by rw [List.getElem?_eq_getElem hp]))
theorem range_below {w w' : World} {g o : Nat} {cs : List Value} (h : w.rangeAt g o cs) (hg : g < w.heap.size) (hb : Below w.heap.size w w') : w'.rangeAt g o cs :=
  fun j v hv => (hb.cell (p := ⟨g, o + j, none⟩) hg).trans (h j v hv)
theorem setAll_size : ∀ (vs : List Value) (cs : Array Value) (o : Nat), (setAll cs o vs).size = cs.size
  | [], _, _ => rfl
  | v :: r, cs, o => by show (setAll (cs.setIfInBounds o v) (o + 1) r).size = _; rw [setAll_size r]; simp
theorem setAll_out : ∀ (vs : List Value) (cs : Array Value) (o j : Nat), j < o ∨ o + vs.length ≤ j → (setAll cs o vs)[j]? = cs[j]?
  | [], _, _, _, _ => rfl
  | v :: r, cs, o, j, h => by
    show (setAll (cs.setIfInBounds o v) (o + 1) r)[j]? = _
    rw [setAll_out r _ _ _ (by simp at h; omega)]
    rw [Array.getElem?_setIfInBounds_ne (by simp at h; omega)]
theorem setAll_in : ∀ (vs : List Value) (cs : Array Value) (o i : Nat), i < vs.length → o + vs.length ≤ cs.size → (setAll cs o vs)[o + i]? = vs[i]?
  | [], _, _, _, h, _ => by simp at h
  | v :: r, cs, o, 0, _, hs => by
    show (setAll (cs.setIfInBounds o v) (o + 1) r)[o + 0]? = _
    rw [setAll_out r _ _ _ (by omega)]
    simp at hs
    simp [show o < cs.size by omega]
  | v :: r, cs, o, i + 1, h, hs => by
    show (setAll (cs.setIfInBounds o v) (o + 1) r)[o + (i + 1)]? = _
    have := setAll_in r (cs.setIfInBounds o v) (o + 1) i (by simpa using h) (by simp at hs ⊢; omega)
    rw [show o + (i + 1) = o + 1 + i by omega, this]; simp
end Go.Proofs.YtmgeecdgebemdaaGreatDoor.grow

/- The struct Micro as plain data, and rows of it: the law's own copy, size, comparison, marks of such a value and of such a row; what a law's argument of these types is. -/
namespace Go.Proofs.YtmgeecdgebemdaaGreatDoor.trc
open Go Go.ChangeShapes Go.WideShapes Go.ChangeAt Go.RowKit Go.Joins Go.Deep Go.Proofs.YtmgeecdgebemdaaGreatDoor.row Go.Proofs.YtmgeecdgebemdaaGreatDoor.val Go.Proofs.YtmgeecdgebemdaaGreatDoor.expr Go.Proofs.YtmgeecdgebemdaaGreatDoor.grow
/-- The cells of one, its value, the cells of a list of them. -/
def microC (s : Mic) : List Value := [.int .i64 s.c, .int .i64 s.a, .int .i64 s.v]
theorem microC_len (s : Mic) : (microC s).length = 3 := rfl
abbrev microsC (L : List Mic) : List Value := gcs microC L
theorem microsC_len (L : List Mic) : (microsC L).length = L.length * 3 := gcs_len microC_len L
/-- The slice reads as this list. -/
abbrev MicroRow (w : World) (a : Option Addr) (n : Nat) (L : List Mic) : Prop := GRow microC 3 w a n L
theorem drew_below {w w' : World} (h : Below w.drew.heap.size w.drew w') : Below w.heap.size w w' := (Below.drew (Below.refl _ w)).trans h
/-- The cells of one that lies in a row. -/
theorem range3 {w : World} {g o : Nat} {s : Mic} (h : w.rangeAt g o (microC s)) : w.cell? ⟨g, o, none⟩ = some (.int .i64 s.c) ∧ w.cell? ⟨g, o + 1, none⟩ = some (.int .i64 s.a) ∧ w.cell? ⟨g, o + 2, none⟩ = some (.int .i64 s.v) :=
  ⟨h 0 _ rfl, h 1 _ rfl, h 2 _ rfl⟩
end Go.Proofs.YtmgeecdgebemdaaGreatDoor.trc
namespace Go.Proofs.YtmgeecdgebemdaaGreatDoor.opn
open Go.ChangeShapes Go.WideShapes Go.ChangeAt Go.RowKit Go.Joins Go.Deep Go.Proofs.YtmgeecdgebemdaaGreatDoor.trc Go.Proofs.YtmgeecdgebemdaaGreatDoor.grow
end Go.Proofs.YtmgeecdgebemdaaGreatDoor.opn

/- The struct Write as plain data, and rows of it: the law's own copy, size, comparison, marks of such a value and of such a row; what a law's argument of these types is. -/
namespace Go.Proofs.YtmgeecdgebemdaaGreatDoor.wrt
open Go Go.ChangeShapes Go.WideShapes Go.ChangeAt Go.RowKit Go.Joins Go.Deep Go.Proofs.YtmgeecdgebemdaaGreatDoor.row Go.Proofs.YtmgeecdgebemdaaGreatDoor.val Go.Proofs.YtmgeecdgebemdaaGreatDoor.expr Go.Proofs.YtmgeecdgebemdaaGreatDoor.grow
/-- The cells of one, its value, the cells of a list of them. -/
def writeC (s : Wt) : List Value := [.int .i64 s.p, .int .i64 s.v]
theorem writeC_len (s : Wt) : (writeC s).length = 2 := rfl
abbrev writeV (s : Wt) : Value := .agg #[.int .i64 s.p, .int .i64 s.v]
abbrev writesC (L : List Wt) : List Value := gcs writeC L
theorem writesC_len (L : List Wt) : (writesC L).length = L.length * 2 := gcs_len writeC_len L
/-- The slice reads as this list. -/
abbrev WriteRow (w : World) (a : Option Addr) (n : Nat) (L : List Wt) : Prop := GRow writeC 2 w a n L
theorem drew_below {w w' : World} (h : Below w.drew.heap.size w.drew w') : Below w.heap.size w w' := (Below.drew (Below.refl _ w)).trans h
theorem infoWrite : (Tryz.prog.info? 100).map (fun i => (i.zero, i.size, i.bytes)) = some (some (.agg #[.int .i64 0, .int .i64 0]), 2, 16) := by kernel_rfl
/-- The cells of one that lies in a row. -/
theorem range2 {w : World} {g o : Nat} {s : Wt} (h : w.rangeAt g o (writeC s)) : w.cell? ⟨g, o, none⟩ = some (.int .i64 s.p) ∧ w.cell? ⟨g, o + 1, none⟩ = some (.int .i64 s.v) :=
  ⟨h 0 _ rfl, h 1 _ rfl⟩
end Go.Proofs.YtmgeecdgebemdaaGreatDoor.wrt
namespace Go.Proofs.YtmgeecdgebemdaaGreatDoor.opn
open Go.ChangeShapes Go.WideShapes Go.ChangeAt Go.RowKit Go.Joins Go.Deep Go.Proofs.YtmgeecdgebemdaaGreatDoor.wrt Go.Proofs.YtmgeecdgebemdaaGreatDoor.grow
end Go.Proofs.YtmgeecdgebemdaaGreatDoor.opn

/- A trace as a value, and in new memory; what the program's TraceCost, WritesOf and CountSteps are to give: the shapes of their contracts. -/
namespace Go.Proofs.YtmgeecdgebemdaaGreatDoor.trc
open Go Go.ChangeShapes Go.WideShapes Go.ChangeAt Go.RowKit Go.Proofs.YtmgeecdgebemdaaGreatDoor.row Go.Proofs.YtmgeecdgebemdaaGreatDoor.val Go.Proofs.YtmgeecdgebemdaaGreatDoor.expr Go.Proofs.YtmgeecdgebemdaaGreatDoor.grow Go.Proofs.YtmgeecdgebemdaaGreatDoor.wrt
abbrev trV (a1 : Option Addr) (n1 c1 : Nat) (a2 : Option Addr) (n2 c2 : Nat) : Value := .agg #[.slice a1 n1 c1, .slice a2 n2 c2]
/-- The trace in new memory. -/
def TrMem (B : Nat) (a1 : Option Addr) (n1 c1 : Nat) (a2 : Option Addr) (n2 c2 : Nat) (M : List Mic) (U : List Int) (w' : World) : Prop :=
  w'.ownsRow B 98 3 (.slice a1 n1 c1) n1 (microsC M) ∧ w'.ownsRow B 3 1 (.slice a2 n2 c2) n2 (ivs U) ∧ ((Value.slice a1 n1 c1).ownBlock = none ∨ (Value.slice a1 n1 c1).ownBlock ≠ (Value.slice a2 n2 c2).ownBlock)
def NewTr (w : World) (M : List Mic) (U : List Int) (e : Ending) (w' : World) : Prop :=
  ∃ a1 n1 c1 a2 n2 c2, e = .returned (trV a1 n1 c1 a2 n2 c2) ∧ TrMem w.heap.size a1 n1 c1 a2 n2 c2 M U w' ∧ Below w.heap.size w w'
def NewTrB (w : World) (r : Bool) (M : List Mic) (U : List Int) (e : Ending) (w' : World) : Prop :=
  ∃ a1 n1 c1 a2 n2 c2, e = .returned (.tuple #[trV a1 n1 c1 a2 n2 c2, .bool r]) ∧ TrMem w.heap.size a1 n1 c1 a2 n2 c2 M U w' ∧ Below w.heap.size w w'
/-- The trace that came in. -/
def TrRow (w : World) (a1 : Option Addr) (n1 : Nat) (a2 : Option Addr) (n2 : Nat) (M : List Mic) (U : List Int) : Prop := MicroRow w a1 n1 M ∧ Row w a2 n2 U ∧ (n1 : Int) ≤ 1048576 ∧ (n2 : Int) ≤ 1048576
theorem TrRow.below {w w' : World} {a1 : Option Addr} {n1 : Nat} {a2 : Option Addr} {n2 : Nat} {M : List Mic} {U : List Int} (h : TrRow w a1 n1 a2 n2 M U) (hb : Below w.heap.size w w') : TrRow w' a1 n1 a2 n2 M U := ⟨h.1.below hb, h.2.1.below hb, h.2.2⟩
/-- Every cost is an int. -/
abbrev i64r (x : Int) : Prop := -9223372036854775808 ≤ x ∧ x ≤ 9223372036854775807
def MicOk (M : List Mic) : Prop := ∀ m ∈ M, i64r m.c
abbrev zero2T : Array Value := #[.slice none 0 0, .slice none 0 0]
abbrev TcC : Prop := ∀ (w : World) (a1 : Option Addr) (n1 c1 : Nat) (a2 : Option Addr) (n2 c2 : Nat) (M : List Mic) (U : List Int) (_ : n1 ≤ c1) (_ : TrRow w a1 n1 a2 n2 M U) (_ : MicOk M) (q : Int) (_ : costW (csts M) = q),
    Calls Tryz.prog 40 #[trV a1 n1 c1 a2 n2 c2] w (BelI w q)
end Go.Proofs.YtmgeecdgebemdaaGreatDoor.trc

/- Chapter 16 of the model: l16Senses, l16Ok: nothing that was there is written. -/
namespace Go.Proofs.YtmgeecdgebemdaaGreatDoor.bot
open Go Go.ChangeShapes Go.WideShapes Go.ChangeAt Go.RowKit Go.Proofs.YtmgeecdgebemdaaGreatDoor.row Go.Proofs.YtmgeecdgebemdaaGreatDoor.val Go.Proofs.YtmgeecdgebemdaaGreatDoor.expr Go.Proofs.YtmgeecdgebemdaaGreatDoor.stm Go.Proofs.YtmgeecdgebemdaaGreatDoor.blk Go.Proofs.YtmgeecdgebemdaaGreatDoor.prg Go.Proofs.YtmgeecdgebemdaaGreatDoor.exe Go.Proofs.YtmgeecdgebemdaaGreatDoor.ctl Go.Proofs.YtmgeecdgebemdaaGreatDoor.mem Go.Proofs.YtmgeecdgebemdaaGreatDoor.grow Go.Proofs.YtmgeecdgebemdaaGreatDoor.wrt Go.Proofs.YtmgeecdgebemdaaGreatDoor.trc
set_option maxHeartbeats 4000000 in
set_option maxRecDepth 100000 in
theorem spec_botok (a : Option Addr) (n cap : Nat) (P : List Tk) (hz : Sizes P) (w : World) (h : TkRow w a n P) (am : Option Addr) (nm cm : Nat) (Mem : List Int) (hnm : (nm : Int) ≤ 1048576) (hcm : nm ≤ cm) (hM : Row w am nm Mem) (ar : Option Addr) (nr cr : Nat) (R : List Int) (hnr : (nr : Int) ≤ 1048576) (hR : Row w ar nr R) (z : Int) (r : Bool) (hr : r = true ↔ BotOk P Mem R z) :
    Calls Tryz.prog 62 #[.agg #[.slice a n cap], .slice am nm cm, .slice ar nr cr, .int .i64 z] w (BelB w r) := by
  obtain ⟨W, hW⟩ : ∃ W, w.alloc (.cells #[.slice a n cap] 26) = W := ⟨_, rfl⟩
  have hBW : Below w.heap.size w W := by rw [← hW]; exact below_new w _
  have hpx : Box w.heap.size #[.slice a n cap] 26 W := by rw [← hW]; exact Box.new w _ _
  have c0 : W.cell? ⟨w.heap.size, 0, none⟩ = some (.slice a n cap) := hpx.cell 0
  obtain ⟨rm, hrm⟩ := mem_dec P Mem
  obtain ⟨rv, hrv⟩ : ∃ rv : Bool, allV R = rv := ⟨_, rfl⟩
  obtain ⟨ri, hri⟩ : ∃ ri : Bool, (decide (0 ≤ z) && decide (z ≤ 500000)) = ri := ⟨_, rfl⟩
  have HMO := Lib.hid (spec_memok a n cap P hz W (h.below hBW) am nm cm Mem hnm hcm (hM.below hBW) rm hrm)
  have HVA := Lib.hid (show ∀ w', Below W.heap.size W w' → Calls Tryz.prog 89 #[.slice ar nr cr] w' (RetB w' rv) from fun w' hb => spec_are w' ar nr cr R hnr (hR.below (hBW.trans (hb.mono hBW.size))) rv hrv)
  have HIN := Lib.hid (show ∀ w', Calls Tryz.prog 63 #[.int .i64 z, .int .i64 0, .int .i64 500000] w' (RetB w' ri) from fun w' => in_any z 0 500000 ri hri w')
  have H0 := Lib.hid hBW
  have hre : r = (rm && rv && ri) := by
    rw [Bool.eq_iff_iff, hr]
    unfold BotOk
    rw [← hrm, ← hrv, ← hri]
    simp [and_assoc]
  subst hre
  clear hr hrm hrv hri hpx hBW h hM hR
  cases rm <;> cases rv <;> cases ri
  all_goals
    go_enter Tryz.func62, Tryz.ntmps62
    go_wp2_with (first
      | (go_at_call 123; (with_reducible refine HMO.out.mono ?_); rintro e w2 ⟨rfl, hb2⟩)
      | (go_at_call 89; (with_reducible refine (HVA.out _ hb2).mono ?_); rintro e w3 ⟨rfl, rfl⟩)
      | (go_at_call 63; (with_reducible refine (HIN.out _).mono ?_); rintro e w4 ⟨rfl, rfl⟩))
    go_ret
    exact ⟨rfl, H0.out.trans (hb2.mono H0.out.size)⟩
end Go.Proofs.YtmgeecdgebemdaaGreatDoor.bot

/- A struct in one block that holds rows of its own, each in new memory and apart from the others: what stays, and what turns, where one of them is written. -/
namespace Go.Proofs.YtmgeecdgebemdaaGreatDoor.rss
open Go Go.ChangeShapes Go.WideShapes Go.ChangeAt Go.RowKit Go.Proofs.YtmgeecdgebemdaaGreatDoor.row
/-- A row: the slice, how many elements, the cells, the element's type and size. -/
structure RS where
  (v : Value) (n : Nat) (xs : List Value) (e : TypeId) (s : Nat)
abbrev Own (r : RS) (B : Nat) (w : World) : Prop := w.ownsRow B r.e r.s r.v r.n r.xs
/-- No block stands in two places. -/
def Sep (l : List (Option Nat)) : Prop := ∀ (i j b : Nat), l[i]? = some (some b) → l[j]? = some (some b) → i = j
theorem Sep.set {l : List (Option Nat)} (h : Sep l) {N : Nat} (hb : ∀ (j b : Nat), l[j]? = some (some b) → b < N) (i : Nat) {x : Option Nat} (hx : l[i]? = some x ∨ ∀ b, x = some b → N ≤ b) : Sep (l.set i x) := by
  intro p q b hp hq
  rw [List.getElem?_set] at hp hq
  by_cases h1 : i = p <;> by_cases h2 : i = q
  · omega
  · rw [if_pos h1] at hp; rw [if_neg h2] at hq
    split at hp
    · have hxb : x = some b := Option.some.inj hp
      rcases hx with hx | hx
      · rw [hxb] at hx; have := h i q b hx hq; omega
      · have := hx b hxb; have := hb q b hq; omega
    · cases hp
  · rw [if_neg h1] at hp; rw [if_pos h2] at hq
    split at hq
    · have hxb : x = some b := Option.some.inj hq
      rcases hx with hx | hx
      · rw [hxb] at hx; have := h p i b hp hx; omega
      · have := hx b hxb; have := hb p b hp; omega
    · cases hq
  · rw [if_neg h1] at hp; rw [if_neg h2] at hq
    exact h p q b hp hq
abbrev blks (g : Nat) (l : List RS) : List (Option Nat) := some g :: l.map fun r => r.v.ownBlock
structure RsAt (B g : Nat) (l : List RS) (w : World) : Prop where
  low : B ≤ g
  lt : g < w.heap.size
  own : ∀ (j : Nat) (r : RS), l[j]? = some r → Own r B w
  sep : Sep (blks g l)
theorem blks_at {g : Nat} {l : List RS} {j : Nat} {r : RS} (h : l[j]? = some r) : (blks g l)[j + 1]? = some r.v.ownBlock := by simp [h]
theorem RsAt.bound {B g : Nat} {l : List RS} {w : World} (h : RsAt B g l w) : ∀ (j b : Nat), (blks g l)[j]? = some (some b) → b < w.heap.size
  | 0, b, e => by
    have : some g = some b := Option.some.inj e
    cases this; exact h.lt
  | j + 1, b, e => by
    have e' : (l.map fun r => r.v.ownBlock)[j]? = some (some b) := e
    rw [List.getElem?_map] at e'
    cases hr : l[j]? with
    | none => rw [hr] at e'; cases e'
    | some r =>
      rw [hr] at e'
      exact ((h.own j r hr).lt b (Option.some.inj e')).2
theorem RsAt.ne_g {B g : Nat} {l : List RS} {w : World} (h : RsAt B g l w) {j : Nat} {r : RS} (hr : l[j]? = some r) : r.v.ownBlock ≠ some g := fun e => by
  have := h.sep 0 (j + 1) g rfl (by rw [blks_at hr, e])
  omega
theorem RsAt.apart {B g : Nat} {l : List RS} {w : World} (h : RsAt B g l w) {i j : Nat} {r r' : RS} (hr : l[i]? = some r) (hr' : l[j]? = some r') (hij : i ≠ j) : r.v.ownBlock = none ∨ r.v.ownBlock ≠ r'.v.ownBlock := by
  cases e : r.v.ownBlock with
  | none => exact .inl rfl
  | some b =>
    right
    intro e2
    have := h.sep (i + 1) (j + 1) b (by rw [blks_at hr, e]) (by rw [blks_at hr', ← e2])
    omega
theorem RsAt.below {B g : Nat} {l : List RS} {w w' : World} (h : RsAt B g l w) (hb : Below w.heap.size w w') : RsAt B g l w' :=
  ⟨h.low, Nat.lt_of_lt_of_le h.lt hb.size, fun j r hr => (h.own j r hr).kept (grown_below hb none) (by cases r.v.ownBlock <;> simp), h.sep⟩
/-- The block itself is written. -/
theorem RsAt.put {B g : Nat} {l : List RS} {w w' : World} (h : RsAt B g l w) (hg : w.grownBy w' (some g)) : RsAt B g l w' :=
  ⟨h.low, Nat.lt_of_lt_of_le h.lt hg.size, fun j r hr => (h.own j r hr).kept hg (.inr (h.ne_g hr)), h.sep⟩
/-- One row is written or has moved. -/
theorem RsAt.grow {B g : Nat} {l : List RS} {w w' : World} (h : RsAt B g l w) {i : Nat} {r r' : RS} (hi : l[i]? = some r) (hg : w.grownBy w' r.v.ownBlock) (ho : Own r' B w') (hat : r'.v.ownBlock = r.v.ownBlock ∨ ∀ b, r'.v.ownBlock = some b → w.heap.size ≤ b) : RsAt B g (l.set i r') w' := by
  have hil := (List.getElem?_eq_some_iff.1 hi).1
  refine ⟨h.low, Nat.lt_of_lt_of_le h.lt hg.size, fun j q hq => ?_, ?_⟩
  · rw [List.getElem?_set] at hq
    by_cases hij : i = j
    · rw [if_pos hij, if_pos hil] at hq
      cases hq; exact ho
    · rw [if_neg hij] at hq
      exact (h.own j q hq).kept hg (h.apart hq hi (fun e => hij e.symm))
  · have e : blks g (l.set i r') = (blks g l).set (i + 1) r'.v.ownBlock := by simp [blks, List.map_set]
    rw [e]
    exact h.sep.set h.bound (i + 1) (hat.imp (fun e => by rw [blks_at hi, e]) id)
/-- From 'w' to 'w'' only these blocks and new ones are written; the blocks that are held then are of these or new. -/
structure Mv (l : List (Option Nat)) (w : World) (l' : List (Option Nat)) (w' : World) : Prop where
  os : w'.os = w.os
  tape : w'.tape = w.tape
  output : w'.output = w.output
  size : w.heap.size ≤ w'.heap.size
  block : ∀ b, b < w.heap.size → (∀ j : Nat, l[j]? ≠ some (some b)) → w'.heap[b]? = w.heap[b]?
  sub : ∀ (j b : Nat), l'[j]? = some (some b) → b < w.heap.size → ∃ i : Nat, l[i]? = some (some b)
theorem Mv.refl (l : List (Option Nat)) (w : World) : Mv l w l w := ⟨rfl, rfl, rfl, Nat.le_refl _, fun _ _ _ => rfl, fun j _ h _ => ⟨j, h⟩⟩
theorem Mv.trans {l l' l2 : List (Option Nat)} {w w' w2 : World} (h : Mv l w l' w') (k : Mv l' w' l2 w2) : Mv l w l2 w2 :=
  ⟨k.os.trans h.os, k.tape.trans h.tape, k.output.trans h.output, Nat.le_trans h.size k.size,
    fun b hb hn => (k.block b (Nat.lt_of_lt_of_le hb h.size) (fun j e => by obtain ⟨i, hi⟩ := h.sub j b e hb; exact hn i hi)).trans (h.block b hb hn),
    fun j b e hb => by obtain ⟨i, hi⟩ := k.sub j b e (Nat.lt_of_lt_of_le hb h.size); exact h.sub i b hi hb⟩
theorem Mv.of_below {w w' : World} (l : List (Option Nat)) (hb : Below w.heap.size w w') : Mv l w l w' := ⟨hb.os, hb.tape, hb.output, hb.size, fun b h _ => hb.block b h, fun j _ h _ => ⟨j, h⟩⟩
theorem Mv.of_grown {l : List (Option Nat)} {w w' : World} {i : Nat} {o : Option Nat} (hi : l[i]? = some o) (hg : w.grownBy w' o) {x : Option Nat} (hx : x = o ∨ ∀ b, x = some b → w.heap.size ≤ b) : Mv l w (l.set i x) w' :=
  ⟨hg.os, hg.tape, hg.output, hg.size, fun b hb hn => hg.block b hb (fun e => hn i (by rw [hi, ← e])), fun j b e hb => by
    rw [List.getElem?_set] at e
    by_cases hij : i = j
    · rw [if_pos hij] at e
      split at e
      · have hxb : x = some b := Option.some.inj e
        rcases hx with hx | hx
        · exact ⟨i, by rw [hi, ← hx, hxb]⟩
        · have := hx b hxb; omega
      · cases e
    · rw [if_neg hij] at e; exact ⟨j, e⟩⟩
theorem Mv.below {l l' : List (Option Nat)} {w w' : World} (h : Mv l w l' w') {B : Nat} (hl : ∀ (j b : Nat), l[j]? = some (some b) → B ≤ b) (hB : B ≤ w.heap.size) : Below B w w' :=
  ⟨h.os, h.tape, h.output, h.size, fun b hb => h.block b (by omega) (fun j e => by have := hl j b e; omega)⟩
theorem RsAt.base {B g : Nat} {l : List RS} {w : World} (h : RsAt B g l w) : ∀ (j b : Nat), (blks g l)[j]? = some (some b) → B ≤ b
  | 0, b, e => by
    have : some g = some b := Option.some.inj e
    cases this; exact h.low
  | j + 1, b, e => by
    have e' : (l.map fun r => r.v.ownBlock)[j]? = some (some b) := e
    rw [List.getElem?_map] at e'
    cases hr : l[j]? with
    | none => rw [hr] at e'; cases e'
    | some r =>
      rw [hr] at e'
      exact ((h.own j r hr).lt b (Option.some.inj e')).1
/-- A block that is none of these stays. -/
theorem Mv.box {l l' : List (Option Nat)} {w w' : World} (h : Mv l w l' w') {q : Nat} {cs : Array Value} {t : TypeId} (hx : Box q cs t w) (hn : ∀ j : Nat, l[j]? ≠ some (some q)) : Box q cs t w' := (h.block q hx.lt hn).trans hx
/-- A block that lay before stays apart. -/
theorem Mv.out {l l' : List (Option Nat)} {w w' : World} (h : Mv l w l' w') {q : Nat} (hq : q < w.heap.size) (hn : ∀ j : Nat, l[j]? ≠ some (some q)) : ∀ j : Nat, l'[j]? ≠ some (some q) := fun j e => by
  obtain ⟨i, hi⟩ := h.sub j q e hq
  exact hn i hi
/-- One row is written or has moved, and then the block: what the struct holds. -/
theorem RsAt.app {B g : Nat} {l : List RS} {w w' : World} {cs : Array Value} {t : TypeId} (h : RsAt B g l w) (hx : Box g cs t w) {i : Nat} {r r' : RS} (hi : l[i]? = some r) (hg : w.grownBy w' r.v.ownBlock) (ho : Own r' B w') (hat : r'.v.ownBlock = r.v.ownBlock ∨ ∀ b, r'.v.ownBlock = some b → w.heap.size ≤ b) (c : Nat) (u : Value) :
    RsAt B g (l.set i r') (w'.setCell ⟨g, c, none⟩ u) ∧ Box g (cs.setIfInBounds c u) t (w'.setCell ⟨g, c, none⟩ u) ∧ Mv (blks g l) w (blks g (l.set i r')) (w'.setCell ⟨g, c, none⟩ u) ∧ Box g cs t w' := by
  have hx' := hx.grown hg (fun e => h.ne_g hi e.symm)
  have e : blks g (l.set i r') = (blks g l).set (i + 1) r'.v.ownBlock := by simp [blks, List.map_set]
  refine ⟨(h.grow hi hg ho hat).put (grown_setCell w' g c u), hx'.set c u, ?_, hx'⟩
  have m1 : Mv (blks g l) w (blks g (l.set i r')) w' := by rw [e]; exact Mv.of_grown (blks_at hi) hg hat
  have m2 := Mv.of_grown (l := blks g (l.set i r')) (i := 0) (o := some g) rfl (grown_setCell w' g c u) (x := some g) (.inl rfl)
  exact m1.trans m2
/-- A cell of a row is written. -/
theorem RsAt.cellset {B g : Nat} {l : List RS} {w w' : World} {cs : Array Value} {t : TypeId} (h : RsAt B g l w) (hx : Box g cs t w) {i : Nat} {r r' : RS} (hi : l[i]? = some r) (hg : w.grownBy w' r.v.ownBlock) (ho : Own r' B w') (hv : r'.v = r.v) :
    RsAt B g (l.set i r') w' ∧ Box g cs t w' ∧ Mv (blks g l) w (blks g (l.set i r')) w' := by
  have e : blks g (l.set i r') = (blks g l).set (i + 1) r'.v.ownBlock := by simp [blks, List.map_set]
  refine ⟨h.grow hi hg ho (.inl (by rw [hv])), hx.grown hg (fun e => h.ne_g hi e.symm), ?_⟩
  rw [e]
  exact Mv.of_grown (blks_at hi) hg (.inl (by rw [hv]))
end Go.Proofs.YtmgeecdgebemdaaGreatDoor.rss
