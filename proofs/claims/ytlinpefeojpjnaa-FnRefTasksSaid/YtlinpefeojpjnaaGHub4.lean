/- Several texts in one: TkA OpenP GRow. -/
import Derived.Test.YtlinpefeojpjnaaGHub2
import Derived.Test.YtlinpefeojpjnaaGHub3

/- Tasks and programs: plain data; a slice that reads as a list of tasks; the law's own copy, size and comparison of such a slice. -/
namespace Go.Proofs.Ytlinpefeojpjnaa.prg
open Go Go.ChangeShapes Go.WideShapes Go.ChangeAt Go.RowKit Go.Proofs.Ytlinpefeojpjnaa.row Go.Proofs.Ytlinpefeojpjnaa.val Go.Proofs.Ytlinpefeojpjnaa.expr Go.Proofs.Ytlinpefeojpjnaa.stm Go.Proofs.Ytlinpefeojpjnaa.blk

/-- A task: its statements and the three numbers of its expression. -/
structure Tk where
  b : List Go.Proofs.Ytlinpefeojpjnaa.stm.St
  (o x y : Int)
def tkC (a : Option Addr) (n c : Nat) (t : Tk) : List Value := [.slice a n c, .int .i64 t.o, .int .i64 t.x, .int .i64 t.y]
abbrev tkV (a : Option Addr) (n c : Nat) (t : Tk) : Value := .agg #[.slice a n c, .int .i64 t.o, .int .i64 t.x, .int .i64 t.y]
/-- A valid program. -/
def IsPrg (P : List Tk) : Prop := 1 ≤ P.length ∧ P.length ≤ 6 ∧ ∀ t ∈ P, IsBlk t.b ∧ exprOk t.o t.x t.y = true
/-- The task that lies at this place. -/
def TkAt (w : World) (g o : Nat) (t : Tk) : Prop := ∃ (ab : Option Addr) (nb cb : Nat), w.rangeAt g o (tkC ab nb cb t) ∧ nb ≤ cb ∧ StRow w ab nb t.b
theorem TkAt.below {w w' : World} {g o : Nat} {t : Tk} (h : TkAt w g o t) (hg : g < w.heap.size) (hb : Below w.heap.size w w') : TkAt w' g o t := by
  obtain ⟨ab, nb, cb, h1, h2, h3⟩ := h
  exact ⟨ab, nb, cb, fun j v hj => (hb.cell (p := ⟨g, o + j, none⟩) hg).trans (h1 j v hj), h2, h3.below hb⟩
/-- The slice at 'a' of 'n' tasks reads as the list 'P'. -/
def TkRow (w : World) (a : Option Addr) (n : Nat) (P : List Tk) : Prop :=
  P.length = n ∧ ∀ k, k < n → ∃ (g off : Nat) (t : Tk), a = some ⟨g, off, none⟩ ∧ g < w.heap.size ∧ P[k]? = some t ∧ TkAt w g (off + k * 4) t
theorem TkRow.below {w w' : World} {a : Option Addr} {n : Nat} {P : List Tk} (h : TkRow w a n P) (hb : Below w.heap.size w w') : TkRow w' a n P :=
  ⟨h.1, fun k hk => by
    obtain ⟨g, off, t, rfl, hlt, ht, hT⟩ := h.2 k hk
    exact ⟨g, off, t, rfl, Nat.lt_of_lt_of_le hlt hb.size, ht, hT.below hlt hb⟩⟩
theorem TkRow.nil (w : World) (a : Option Addr) : TkRow w a 0 [] := ⟨rfl, fun k hk => by omega⟩
theorem range4 {w : World} {g o : Nat} {a : Option Addr} {n c : Nat} {t : Tk} (h : w.rangeAt g o (tkC a n c t)) :
    w.cell? ⟨g, o, none⟩ = some (.slice a n c) ∧ w.cell? ⟨g, o + 1, none⟩ = some (.int .i64 t.o) ∧ w.cell? ⟨g, o + 2, none⟩ = some (.int .i64 t.x) ∧ w.cell? ⟨g, o + 3, none⟩ = some (.int .i64 t.y) :=
  ⟨h 0 _ rfl, h 1 _ rfl, h 2 _ rfl, h 3 _ rfl⟩
/-- No list is longer than this. -/
def Sizes (P : List Tk) : Prop := P.length ≤ 1048576 ∧ ∀ t ∈ P, t.b.length ≤ 1048576
abbrev zeroTk : Array Value := #[.slice none 0 0, .int .i64 0, .int .i64 0, .int .i64 0]

/-- A row of statements in one block stands as long as that block is not written. -/
theorem StRow.grown_box {w w' : World} {g o n : Nat} {L : List Go.Proofs.Ytlinpefeojpjnaa.stm.St} {r : Option Nat} (h : StRow w (some ⟨g, o, none⟩) n L) (hg : w.grownBy w' r) (hne : some g ≠ r) : StRow w' (some ⟨g, o, none⟩) n L :=
  ⟨h.1, fun k hk => by
    obtain ⟨b, off, s, e, hlt, hs, hr⟩ := h.2 k hk
    simp only [Option.some.injEq, Addr.mk.injEq, and_true] at e
    obtain ⟨rfl, rfl⟩ := e
    exact ⟨g, o, s, rfl, Nat.lt_of_lt_of_le hlt hg.size, hs, fun j v hv => hg.cell (hr j v hv) hne⟩⟩
/-- A copy of the task: its statements in new memory. -/
def MadeTk (w : World) (t : Tk) (e : Ending) (w' : World) : Prop :=
  ∃ (g n : Nat), e = .returned (tkV (some ⟨g, 0, none⟩) n n t) ∧ w.heap.size ≤ g ∧ Hid (StRow w' (some ⟨g, 0, none⟩) n t.b) ∧ Below w.heap.size w w'
/-- .. and the statements' block is known whole. -/
def MadeTkX (w : World) (t : Tk) (e : Ending) (w' : World) : Prop :=
  ∃ (g n : Nat), e = .returned (tkV (some ⟨g, 0, none⟩) n n t) ∧ w.heap.size ≤ g ∧ Hid (t.b.length = n ∧ Box g (stsC t.b).toArray 87 w') ∧ Below w.heap.size w w'
theorem setAll_size : ∀ (vs : List Value) (o : Nat) (cs : Array Value), (setAll cs o vs).size = cs.size
  | [], _, _ => rfl
  | v :: r, o, cs => by show (setAll (cs.setIfInBounds o v) (o + 1) r).size = _; rw [setAll_size r]; simp
theorem setAll_out : ∀ (vs : List Value) (o : Nat) (cs : Array Value) (i : Nat), i < o ∨ o + vs.length ≤ i → (setAll cs o vs)[i]? = cs[i]?
  | [], _, _, _, _ => rfl
  | v :: r, o, cs, i, h => by
    show (setAll (cs.setIfInBounds o v) (o + 1) r)[i]? = _
    simp only [List.length_cons] at h
    rw [setAll_out r (o + 1) _ i (by omega), Array.getElem?_setIfInBounds, if_neg (by omega)]
theorem setAll_in : ∀ (vs : List Value) (o : Nat) (cs : Array Value) (j : Nat), j < vs.length → o + j < cs.size → (setAll cs o vs)[o + j]? = vs[j]?
  | [], _, _, _, h, _ => by simp at h
  | v :: r, o, cs, 0, _, h2 => by
    show (setAll (cs.setIfInBounds o v) (o + 1) r)[o + 0]? = _
    rw [setAll_out r (o + 1) _ _ (by omega), Nat.add_zero, Array.getElem?_setIfInBounds, if_pos rfl, if_pos (by omega)]; rfl
  | v :: r, o, cs, j + 1, h1, h2 => by
    show (setAll (cs.setIfInBounds o v) (o + 1) r)[o + (j + 1)]? = _
    have := setAll_in r (o + 1) (cs.setIfInBounds o v) j (by simpa using h1) (by simp; omega)
    rw [show o + 1 + j = o + (j + 1) by omega] at this
    rw [this]; simp
/-- The first 'k' tasks lie in these cells, their statements in other blocks than 'G'. -/
def Pref (w : World) (P : List Tk) (G : Nat) (cs : Array Value) (k : Nat) : Prop :=
  ∀ j, j < k → ∃ (t : Tk) (g nb : Nat), P[j]? = some t ∧ (∀ i v, (tkC (some ⟨g, 0, none⟩) nb nb t)[i]? = some v → cs[j * 4 + i]? = some v) ∧ G < g ∧ StRow w (some ⟨g, 0, none⟩) nb t.b
theorem Pref.zero (w : World) (P : List Tk) (G : Nat) (cs : Array Value) : Pref w P G cs 0 := fun j h => by omega
theorem Pref.below {w w' : World} {P : List Tk} {G : Nat} {cs : Array Value} {k : Nat} (h : Pref w P G cs k) (hb : Below w.heap.size w w') : Pref w' P G cs k := fun j hj => by
  obtain ⟨t, g, nb, h1, h2, h3, h4⟩ := h j hj
  exact ⟨t, g, nb, h1, h2, h3, h4.below hb⟩
theorem Pref.grown {w w' : World} {P : List Tk} {G : Nat} {cs : Array Value} {k : Nat} (h : Pref w P G cs k) (hg : w.grownBy w' (some G)) : Pref w' P G cs k := fun j hj => by
  obtain ⟨t, g, nb, h1, h2, h3, h4⟩ := h j hj
  exact ⟨t, g, nb, h1, h2, h3, StRow.grown_box h4 hg (fun e => by have := Option.some.inj e; omega)⟩
theorem Pref.next {w : World} {P : List Tk} {G : Nat} {cs : Array Value} {k g nb : Nat} {t : Tk} (h : Pref w P G cs k) (ht : P[k]? = some t) (hs : k * 4 + 4 ≤ cs.size) (hne : G < g) (hr : StRow w (some ⟨g, 0, none⟩) nb t.b) :
    Pref w P G (setAll cs (k * 4) (tkC (some ⟨g, 0, none⟩) nb nb t)) (k + 1) := fun j hj => by
  by_cases e : j = k
  · subst e
    refine ⟨t, g, nb, ht, fun i v hv => ?_, hne, hr⟩
    have hi : i < 4 := by have := (List.getElem?_eq_some_iff.1 hv).1; simpa [tkC] using this
    rw [setAll_in _ _ _ i (by simpa [tkC] using hi) (by omega)]; exact hv
  · obtain ⟨t', g', nb', h1, h2, h3, h4⟩ := h j (by omega)
    refine ⟨t', g', nb', h1, fun i v hv => ?_, h3, h4⟩
    have hi : i < 4 := by have := (List.getElem?_eq_some_iff.1 hv).1; simpa [tkC] using this
    rw [setAll_out _ _ _ _ (by left; omega)]; exact h2 i v hv
/-- A list of tasks in blocks from 'lo' on. -/
def TkFrom (lo : Nat) (w : World) (a : Option Addr) (n : Nat) (P : List Tk) : Prop :=
  P.length = n ∧ ∀ k, k < n → ∃ (g : Nat) (t : Tk) (gb nb c : Nat), a = some ⟨g, 0, none⟩ ∧ lo ≤ g ∧ g < w.heap.size ∧ P[k]? = some t ∧ w.rangeAt g (k * 4) (tkC (some ⟨gb, 0, none⟩) nb c t) ∧ nb ≤ c ∧ lo ≤ gb ∧ StRow w (some ⟨gb, 0, none⟩) nb t.b
theorem TkFrom.row {lo : Nat} {w : World} {a : Option Addr} {n : Nat} {P : List Tk} (h : TkFrom lo w a n P) : TkRow w a n P :=
  ⟨h.1, fun k hk => by
    obtain ⟨g, t, gb, nb, c, h1, _, h3, h4, h5, h5c, _, h7⟩ := h.2 k hk
    exact ⟨g, 0, t, h1, h3, h4, _, nb, c, by rw [Nat.zero_add]; exact h5, h5c, h7⟩⟩
theorem TkFrom.mono {lo lo' : Nat} {w : World} {a : Option Addr} {n : Nat} {P : List Tk} (h : TkFrom lo w a n P) (hl : lo' ≤ lo) : TkFrom lo' w a n P :=
  ⟨h.1, fun k hk => by
    obtain ⟨g, t, gb, nb, c, h1, h2, h3, h4, h5, h5c, h6, h7⟩ := h.2 k hk
    exact ⟨g, t, gb, nb, c, h1, by omega, h3, h4, h5, h5c, by omega, h7⟩⟩
theorem TkFrom.grown {lo : Nat} {w w' : World} {a : Option Addr} {n G : Nat} {P : List Tk} (h : TkFrom lo w a n P) (hg : w.grownBy w' (some G)) (hG : G < lo) : TkFrom lo w' a n P :=
  ⟨h.1, fun k hk => by
    obtain ⟨g, t, gb, nb, c, h1, h2, h3, h4, h5, h5c, h6, h7⟩ := h.2 k hk
    exact ⟨g, t, gb, nb, c, h1, h2, Nat.lt_of_lt_of_le h3 hg.size, h4, fun j v hv => hg.cell (h5 j v hv) (fun e => by have : g = G := Option.some.inj e; omega), h5c, h6, StRow.grown_box h7 hg (fun e => by have := Option.some.inj e; omega)⟩⟩
theorem TkFrom.below {lo : Nat} {w w' : World} {a : Option Addr} {n : Nat} {P : List Tk} (h : TkFrom lo w a n P) (hb : Below w.heap.size w w') : TkFrom lo w' a n P :=
  ⟨h.1, fun k hk => by
    obtain ⟨g, t, gb, nb, c, h1, h2, h3, h4, h5, h5c, h6, h7⟩ := h.2 k hk
    exact ⟨g, t, gb, nb, c, h1, h2, Nat.lt_of_lt_of_le h3 hb.size, h4, fun j v hv => (hb.cell (p := ⟨g, k * 4 + j, none⟩) h3).trans (h5 j v hv), h5c, h6, h7.below hb⟩⟩
theorem Pref.row {w : World} {P : List Tk} {cs : Array Value} {g n : Nat} {ty : TypeId} (h : Pref w P g cs n) (hl : P.length = n) (hb : Box g cs ty w) : TkFrom g w (some ⟨g, 0, none⟩) n P :=
  ⟨hl, fun k hk => by
    obtain ⟨t, g', nb, h1, h2, h3, h4⟩ := h k hk
    exact ⟨g, t, g', nb, nb, rfl, Nat.le_refl _, hb.lt, h1, fun j v hj => by rw [hb.cell]; exact h2 j v hj, Nat.le_refl _, Nat.le_of_lt h3, h4⟩⟩
theorem own_boxz {w : World} {base g n z : Nat} {t : TypeId} {xs : List Value} (h : w.ownsRow base t z (.slice (some ⟨g, 0, none⟩) n n) n xs) : Box g xs.toArray t w := by
  rcases h.2 with ⟨h0, _⟩ | ⟨g', cap, cur, hv, _, hg, _, _, hs, ht⟩
  · simp at h0
  · simp only [Value.slice.injEq, Option.some.injEq, Addr.mk.injEq, and_true, true_and] at hv
    obtain ⟨rfl, rfl⟩ := hv
    have e : xs = cur.toList := by rw [← ht]; exact List.take_of_length_le (by rw [Array.length_toList, hs]; exact Nat.le_refl _)
    unfold Box
    rw [e, Array.toArray_toList]; exact hg
end Go.Proofs.Ytlinpefeojpjnaa.prg

/- What a law's argument is made of: a program is a slice of tasks, each with a slice of statements. -/
namespace Go.Proofs.Ytlinpefeojpjnaa.opn
open Go.ChangeShapes Go.WideShapes Go.ChangeAt Go.RowKit Go.Joins Go.Deep Go.Proofs.Ytlinpefeojpjnaa.stm Go.Proofs.Ytlinpefeojpjnaa.prg

theorem list_ofG {α : Type} {P : Nat → α → Prop} : ∀ n, (∀ i, i < n → ∃ s, P i s) → ∃ L : List α, L.length = n ∧ ∀ i s, L[i]? = some s → P i s
  | 0, _ => ⟨[], rfl, fun i s h => by simp at h⟩
  | n + 1, h => by
    obtain ⟨L, hl, hL⟩ := list_ofG n (fun i hi => h i (by omega))
    obtain ⟨s, hs⟩ := h n (by omega)
    refine ⟨L ++ [s], by simp [hl], fun i t ht => ?_⟩
    by_cases hi : i < L.length
    · rw [List.getElem?_append_left hi] at ht; exact hL i t ht
    · have hil := (List.getElem?_eq_some_iff.1 ht).1
      simp at hil
      obtain rfl : i = n := by omega
      rw [List.getElem?_append_right (by omega), hl, Nat.sub_self] at ht
      simp at ht; subst ht; exact hs
end Go.Proofs.Ytlinpefeojpjnaa.opn

/- Rows of structs of 'm' cells each: what it is for a slice to read as a list of them, for every kind of struct at once. -/
namespace Go.Proofs.Ytlinpefeojpjnaa.grow
open Go Go.ChangeShapes Go.WideShapes Go.ChangeAt Go.RowKit Go.Proofs.Ytlinpefeojpjnaa.row

/-- The slice at 'a' of 'n' elements of 'm' cells each reads as the list 'L'. -/
def GRow {α : Type} (C : α → List Value) (m : Nat) (w : World) (a : Option Addr) (n : Nat) (L : List α) : Prop :=
  L.length = n ∧ ∀ k, k < n → ∃ (b off : Nat) (s : α), a = some ⟨b, off, none⟩ ∧ b < w.heap.size ∧ L[k]? = some s ∧ w.rangeAt b (off + k * m) (C s)
theorem GRow.below {α : Type} {C : α → List Value} {m : Nat} {w w' : World} {a : Option Addr} {n : Nat} {L : List α} (h : GRow C m w a n L) (hb : Below w.heap.size w w') : GRow C m w' a n L :=
  ⟨h.1, fun k hk => by
    obtain ⟨b, off, s, rfl, hlt, hs, hr⟩ := h.2 k hk
    exact ⟨b, off, s, rfl, Nat.lt_of_lt_of_le hlt hb.size, hs, fun j v hv => (hb.cell (p := ⟨b, off + k * m + j, none⟩) hlt).trans (hr j v hv)⟩⟩
theorem GRow.grown {α : Type} {C : α → List Value} {m : Nat} {w w' : World} {r : Option Nat} {a : Option Addr} {n : Nat} {L : List α} (h : GRow C m w a n L) (hg : w.grownBy w' r) (hne : ∀ b off, a = some ⟨b, off, none⟩ → some b ≠ r) : GRow C m w' a n L :=
  ⟨h.1, fun k hk => by
    obtain ⟨b, off, s, rfl, hlt, hs, hr⟩ := h.2 k hk
    exact ⟨b, off, s, rfl, Nat.lt_of_lt_of_le hlt hg.size, hs, fun j v hv => hg.cell (hr j v hv) (hne b off rfl)⟩⟩
theorem GRow.nil {α : Type} (C : α → List Value) (m : Nat) (w : World) (a : Option Addr) : GRow C m w a 0 ([] : List α) := ⟨rfl, fun k hk => by omega⟩
theorem GRow.take {α : Type} {C : α → List Value} {m : Nat} {w : World} {a : Option Addr} {n : Nat} {L : List α} (h : GRow C m w a n L) (k : Nat) (hk : k ≤ n) : GRow C m w a k (L.take k) :=
  ⟨by rw [List.length_take, h.1]; omega, fun j hj => by
    obtain ⟨b, off, s, e, hlt, hs, hr⟩ := h.2 j (by omega)
    exact ⟨b, off, s, e, hlt, by rw [List.getElem?_take, if_pos hj]; exact hs, hr⟩⟩
theorem GRow.drop {α : Type} {C : α → List Value} {m : Nat} {w : World} {b off n : Nat} {L : List α} (h : GRow C m w (some ⟨b, off, none⟩) n L) (o : Nat) (ho : o ≤ n) : GRow C m w (some ⟨b, off + o * m, none⟩) (n - o) (L.drop o) :=
  ⟨by rw [List.length_drop, h.1], fun j hj => by
    obtain ⟨b', off', s, e, hlt, hs, hr⟩ := h.2 (o + j) (by omega)
    cases e
    exact ⟨b, off + o * m, s, rfl, hlt, by rw [List.getElem?_drop]; exact hs, by rw [show off + o * m + j * m = off + (o + j) * m by rw [Nat.add_mul]; omega]; exact hr⟩⟩

/-- The cells of a list of structs. -/
def gcs {α : Type} (C : α → List Value) (L : List α) : List Value := L.flatMap C
theorem gcs_len {α : Type} {C : α → List Value} {m : Nat} (hC : ∀ s, (C s).length = m) (L : List α) : (gcs C L).length = L.length * m := by
  induction L with
  | nil => simp [gcs]
  | cons s L ih => simp only [gcs, List.flatMap_cons, List.length_append, List.length_cons] at *; rw [ih, hC, Nat.add_mul]; omega
theorem gcs_app {α : Type} (C : α → List Value) (L M : List α) : gcs C (L ++ M) = gcs C L ++ gcs C M := by simp [gcs]
theorem gcs_one {α : Type} (C : α → List Value) (s : α) : gcs C [s] = C s := by simp [gcs]
theorem gcs_at {α : Type} {C : α → List Value} {m : Nat} (hC : ∀ s, (C s).length = m) {L : List α} {i : Nat} {s : α} (h : L[i]? = some s) (j : Nat) (hj : j < m) : (gcs C L)[i * m + j]? = (C s)[j]? := by
  induction L generalizing i with
  | nil => simp at h
  | cons t L ih =>
    have e : gcs C (t :: L) = C t ++ gcs C L := by simp [gcs]
    have lm : (C t).length = m := hC t
    cases i with
    | zero =>
      simp at h; subst h
      rw [e, List.getElem?_append_left (by omega)]; congr 1; omega
    | succ i =>
      simp at h
      rw [e, List.getElem?_append_right (by rw [lm, Nat.add_mul]; omega), lm, show (i + 1) * m + j - m = i * m + j by rw [Nat.add_mul]; omega]
      exact ih h
theorem GRow.of_box {α : Type} {C : α → List Value} {m : Nat} (hC : ∀ s, (C s).length = m) {w : World} {g n : Nat} {L : List α} {t : TypeId} (h : Box g (gcs C L).toArray t w) (hl : L.length = n) : GRow C m w (some ⟨g, 0, none⟩) n L :=
  ⟨hl, fun k hk => ⟨g, 0, L[k]'(by omega), rfl, h.lt, by simp [show k < L.length by omega], fun j v hv => by
    have hj : j < m := by have := (List.getElem?_eq_some_iff.1 hv).1; rwa [hC] at this
    have h2 := gcs_at hC (L := L) (i := k) (s := L[k]'(by omega)) (by simp [show k < L.length by omega]) j hj
    rw [show 0 + k * m + j = k * m + j by omega, h.cell, List.getElem?_toArray, h2, hv]⟩⟩
theorem GRow.of_own {α : Type} {C : α → List Value} {m : Nat} (hC : ∀ s, (C s).length = m) {w : World} {base : Nat} {a : Option Addr} {n cap : Nat} {L : List α} {t : TypeId} (hm : 0 < m) (h : w.ownsRow base t m (.slice a n cap) n (gcs C L)) : GRow C m w a n L := by
  have hl : L.length = n := by have := h.1; rw [gcs_len hC] at this; exact Nat.eq_of_mul_eq_mul_right hm this
  refine ⟨hl, fun k hk => ?_⟩
  obtain ⟨g, c, hv, _, hg⟩ := h.form (by omega)
  injection hv with h1 h2 h3
  subst h1
  refine ⟨g, 0, L[k], rfl, hg, by simp [hl, hk], fun j v hjv => ?_⟩
  have hj : j < m := by have := (List.getElem?_eq_some_iff.1 hjv).1; rwa [hC] at this
  have h4 := gcs_at hC (L := L) (i := k) (s := L[k]) (by simp [hl, hk]) j hj
  have hlt : k * m + j < n * m := by
    have : (k + 1) * m ≤ n * m := Nat.mul_le_mul_right m hk
    rw [Nat.add_mul] at this; omega
  rw [show 0 + k * m + j = k * m + j by omega, h.cellAt (k * m + j) hlt, h4, hjv]
theorem setAll_mid : ∀ (vs A B C : List Value), B.length = vs.length → setAll (A ++ (B ++ C)).toArray A.length vs = (A ++ (vs ++ C)).toArray
  | [], A, B, C, h => by
    obtain rfl : B = [] := List.eq_nil_of_length_eq_zero h
    rfl
  | v :: r, A, b :: B, C, h => by
    have e : (A ++ (b :: B ++ C)).toArray.setIfInBounds A.length v = ((A ++ [v]) ++ (B ++ C)).toArray := by
      simp [List.setIfInBounds_toArray, List.set_append_right]
    show setAll ((A ++ (b :: B ++ C)).toArray.setIfInBounds A.length v) (A.length + 1) r = _
    rw [e]
    have := setAll_mid r (A ++ [v]) B C (by simpa using h)
    rw [List.length_append, List.length_singleton] at this
    rw [this]; simp
  | _ :: _, _, [], _, h => by simp at h
theorem copy_next {α : Type} {C : α → List Value} {m : Nat} (hC : ∀ s, (C s).length = m) {L : List α} {n k : Nat} {s : α} (z : Value) (hl : L.length = n) (hk : k < n) (hs : L[k]? = some s) :
    setAll (gcs C (L.take k) ++ List.replicate ((n - k) * m) z).toArray (k * m) (C s) = (gcs C (L.take (k + 1)) ++ List.replicate ((n - (k + 1)) * m) z).toArray := by
  have e1 : (n - k) * m = m + (n - (k + 1)) * m := by rw [show n - k = (n - (k + 1)) + 1 by omega, Nat.add_mul]; omega
  have e2 : k * m = (gcs C (L.take k)).length := by rw [gcs_len hC, List.length_take, Nat.min_eq_left (by omega)]
  rw [e1, ← List.replicate_append_replicate, e2, setAll_mid _ _ _ _ (by simp [hC])]
  rw [List.take_add_one, hs, gcs_app]
  simp [gcs]
theorem own_box {w : World} {base g n m : Nat} {t : TypeId} {xs : List Value} (h : w.ownsRow base t m (.slice (some ⟨g, 0, none⟩) n n) n xs) : Box g xs.toArray t w := by
  rcases h.2 with ⟨h0, _⟩ | ⟨g', cap, cur, hv, _, hg, _, _, hs, ht⟩
  · simp at h0
  · simp only [Value.slice.injEq, Option.some.injEq, Addr.mk.injEq, and_true, true_and] at hv
    obtain ⟨rfl, rfl⟩ := hv
    have e : xs = cur.toList := by rw [← ht]; exact List.take_of_length_le (by rw [Array.length_toList, hs]; exact Nat.le_refl _)
    unfold Box
    rw [e, Array.toArray_toList]; exact hg
theorem made_same {zs : Array Value} {z : Value} (hm : 0 < zs.size) (hz : ∀ i, i < zs.size → zs[i]! = z) (n : Nat) : (madeCells zs n).toList = List.replicate n z := by
  apply List.ext_getElem?
  intro j
  by_cases hj : j < n
  · rw [List.getElem?_replicate, if_pos hj]
    simp only [madeCells, Array.toList_map, List.getElem?_map, Array.toList_range, List.getElem?_range hj, Option.map_some]
    rw [hz _ (Nat.mod_lt _ hm)]
  · rw [List.getElem?_eq_none (by rw [Array.length_toList, size_madeCells]; omega), List.getElem?_eq_none (by rw [List.length_replicate]; omega)]
theorem range_lt {w : World} {g o : Nat} {cs : List Value} (h : w.rangeAt g o cs) (hp : 0 < cs.length) : g < w.heap.size :=
  World.block_lt_of_cell? w ⟨g, o + 0, none⟩ (h 0 _ (by rw [List.getElem?_eq_getElem hp]))
theorem range_below {w w' : World} {g o : Nat} {cs : List Value} (h : w.rangeAt g o cs) (hg : g < w.heap.size) (hb : Below w.heap.size w w') : w'.rangeAt g o cs :=
  fun j v hv => (hb.cell (p := ⟨g, o + j, none⟩) hg).trans (h j v hv)
theorem setAll_size : ∀ (vs : List Value) (cs : Array Value) (o : Nat), (setAll cs o vs).size = cs.size
  | [], _, _ => rfl
  | v :: r, cs, o => by show (setAll (cs.setIfInBounds o v) (o + 1) r).size = _; rw [setAll_size r]; simp
theorem setAll_out : ∀ (vs : List Value) (cs : Array Value) (o j : Nat), j < o ∨ o + vs.length ≤ j → (setAll cs o vs)[j]? = cs[j]?
  | [], _, _, _, _ => rfl
  | v :: r, cs, o, j, h => by
    show (setAll (cs.setIfInBounds o v) (o + 1) r)[j]? = _
    rw [setAll_out r _ _ _ (by simp at h; omega)]
    rw [Array.getElem?_setIfInBounds_ne (by simp at h; omega)]
theorem setAll_in : ∀ (vs : List Value) (cs : Array Value) (o i : Nat), i < vs.length → o + vs.length ≤ cs.size → (setAll cs o vs)[o + i]? = vs[i]?
  | [], _, _, _, h, _ => by simp at h
  | v :: r, cs, o, 0, _, hs => by
    show (setAll (cs.setIfInBounds o v) (o + 1) r)[o + 0]? = _
    rw [setAll_out r _ _ _ (by omega)]
    simp at hs
    simp [show o < cs.size by omega]
  | v :: r, cs, o, i + 1, h, hs => by
    show (setAll (cs.setIfInBounds o v) (o + 1) r)[o + (i + 1)]? = _
    have := setAll_in r (cs.setIfInBounds o v) (o + 1) i (by simpa using h) (by simp at hs ⊢; omega)
    rw [show o + (i + 1) = o + 1 + i by omega, this]; simp
/-- The cells from 0 to 'q' hold the numbers from 'k' on. -/
def Nums (cs : Array Value) (k : Int) (q : Nat) : Prop := ∀ j : Nat, j < q → cs[j]? = some (.int .i64 (k + j))
theorem list_of {α : Type} {P : Nat → α → Prop} : ∀ n, (∀ i, i < n → ∃ s, P i s) → ∃ L : List α, L.length = n ∧ ∀ i s, L[i]? = some s → P i s
  | 0, _ => ⟨[], rfl, fun i s h => by simp at h⟩
  | n + 1, h => by
    obtain ⟨L, hl, hL⟩ := list_of n (fun i hi => h i (by omega))
    obtain ⟨s, hs⟩ := h n (by omega)
    refine ⟨L ++ [s], by simp [hl], fun i t ht => ?_⟩
    by_cases hi : i < L.length
    · rw [List.getElem?_append_left hi] at ht; exact hL i t ht
    · have hil := (List.getElem?_eq_some_iff.1 ht).1
      simp at hil
      obtain rfl : i = n := by omega
      rw [List.getElem?_append_right (by omega), hl, Nat.sub_self] at ht
      simp at ht; subst ht; exact hs
end Go.Proofs.Ytlinpefeojpjnaa.grow
