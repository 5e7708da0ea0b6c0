/- Several texts in one: TkA TkB TkC TkD StmW BlkS PrgW. -/
import Derived.Test.YtekdnhhmiabngaaGHub7
import Derived.Test.YtekdnhhmiabngaaGHub4
import Derived.Deep.RegionHeld3
import Derived.Test.YtekdnhhmiabngaaGHub3
import Derived.Test.YtekdnhhmiabngaaGHub5
import Derived.IntWalk

/- Tasks and programs: plain data; a slice that reads as a list of tasks; the law's own copy, size and comparison of such a slice. -/
namespace Go.Proofs.Ytekdnhhmiabngaa.prg
open Go Go.ChangeShapes Go.WideShapes Go.ChangeAt Go.RowKit Go.Proofs.Ytekdnhhmiabngaa.row Go.Proofs.Ytekdnhhmiabngaa.val Go.Proofs.Ytekdnhhmiabngaa.expr Go.Proofs.Ytekdnhhmiabngaa.stm Go.Proofs.Ytekdnhhmiabngaa.blk

/-- A task: its statements and the three numbers of its expression. -/
structure Tk where
  b : List Go.Proofs.Ytekdnhhmiabngaa.stm.St
  (o x y : Int)
def tkC (a : Option Addr) (n c : Nat) (t : Tk) : List Value := [.slice a n c, .int .i64 t.o, .int .i64 t.x, .int .i64 t.y]
abbrev tkV (a : Option Addr) (n c : Nat) (t : Tk) : Value := .agg #[.slice a n c, .int .i64 t.o, .int .i64 t.x, .int .i64 t.y]
/-- A valid program. -/
def IsPrg (P : List Tk) : Prop := 1 ≤ P.length ∧ P.length ≤ 6 ∧ ∀ t ∈ P, IsBlk t.b ∧ exprOk t.o t.x t.y = true
/-- The task that lies at this place. -/
def TkAt (w : World) (g o : Nat) (t : Tk) : Prop := ∃ (ab : Option Addr) (nb cb : Nat), w.rangeAt g o (tkC ab nb cb t) ∧ nb ≤ cb ∧ StRow w ab nb t.b
theorem TkAt.below {w w' : World} {g o : Nat} {t : Tk} (h : TkAt w g o t) (hg : g < w.heap.size) (hb : Below w.heap.size w w') : TkAt w' g o t := by
  obtain ⟨ab, nb, cb, h1, h2, h3⟩ := h
  exact ⟨ab, nb, cb, fun j v hj => (hb.cell (p := ⟨g, o + j, none⟩) hg).trans (h1 j v hj), h2, h3.below hb⟩
/-- The slice at 'a' of 'n' tasks reads as the list 'P'. -/
def TkRow (w : World) (a : Option Addr) (n : Nat) (P : List Tk) : Prop :=
  P.length = n ∧ ∀ k, k < n → ∃ (g off : Nat) (t : Tk), a = some ⟨g, off, none⟩ ∧ g < w.heap.size ∧ P[k]? = some t ∧ TkAt w g (off + k * 4) t
theorem TkRow.below {w w' : World} {a : Option Addr} {n : Nat} {P : List Tk} (h : TkRow w a n P) (hb : Below w.heap.size w w') : TkRow w' a n P :=
  ⟨h.1, fun k hk => by
    obtain ⟨g, off, t, rfl, hlt, ht, hT⟩ := h.2 k hk
    exact ⟨g, off, t, rfl, Nat.lt_of_lt_of_le hlt hb.size, ht, hT.below hlt hb⟩⟩
theorem TkRow.nil (w : World) (a : Option Addr) : TkRow w a 0 [] := ⟨rfl, fun k hk => by omega⟩
theorem range4 {w : World} {g o : Nat} {a : Option Addr} {n c : Nat} {t : Tk} (h : w.rangeAt g o (tkC a n c t)) :
    w.cell? ⟨g, o, none⟩ = some (.slice a n c) ∧ w.cell? ⟨g, o + 1, none⟩ = some (.int .i64 t.o) ∧ w.cell? ⟨g, o + 2, none⟩ = some (.int .i64 t.x) ∧ w.cell? ⟨g, o + 3, none⟩ = some (.int .i64 t.y) :=
  ⟨h 0 _ rfl, h 1 _ rfl, h 2 _ rfl, h 3 _ rfl⟩
/-- No list is longer than this. -/
def Sizes (P : List Tk) : Prop := P.length ≤ 1048576 ∧ ∀ t ∈ P, t.b.length ≤ 1048576
abbrev zeroTk : Array Value := #[.slice none 0 0, .int .i64 0, .int .i64 0, .int .i64 0]

/-- A row of statements in one block stands as long as that block is not written. -/
theorem StRow.grown_box {w w' : World} {g o n : Nat} {L : List Go.Proofs.Ytekdnhhmiabngaa.stm.St} {r : Option Nat} (h : StRow w (some ⟨g, o, none⟩) n L) (hg : w.grownBy w' r) (hne : some g ≠ r) : StRow w' (some ⟨g, o, none⟩) n L :=
  ⟨h.1, fun k hk => by
    obtain ⟨b, off, s, e, hlt, hs, hr⟩ := h.2 k hk
    simp only [Option.some.injEq, Addr.mk.injEq, and_true] at e
    obtain ⟨rfl, rfl⟩ := e
    exact ⟨g, o, s, rfl, Nat.lt_of_lt_of_le hlt hg.size, hs, fun j v hv => hg.cell (hr j v hv) hne⟩⟩
/-- A copy of the task: its statements in new memory. -/
def MadeTk (w : World) (t : Tk) (e : Ending) (w' : World) : Prop :=
  ∃ (g n : Nat), e = .returned (tkV (some ⟨g, 0, none⟩) n n t) ∧ w.heap.size ≤ g ∧ Hid (StRow w' (some ⟨g, 0, none⟩) n t.b) ∧ Below w.heap.size w w'
/-- .. and the statements' block is known whole. -/
def MadeTkX (w : World) (t : Tk) (e : Ending) (w' : World) : Prop :=
  ∃ (g n : Nat), e = .returned (tkV (some ⟨g, 0, none⟩) n n t) ∧ w.heap.size ≤ g ∧ Hid (t.b.length = n ∧ Box g (stsC t.b).toArray 80 w') ∧ Below w.heap.size w w'
theorem setAll_size : ∀ (vs : List Value) (o : Nat) (cs : Array Value), (setAll cs o vs).size = cs.size
  | [], _, _ => rfl
  | v :: r, o, cs => by show (setAll (cs.setIfInBounds o v) (o + 1) r).size = _; rw [setAll_size r]; simp
theorem setAll_out : ∀ (vs : List Value) (o : Nat) (cs : Array Value) (i : Nat), i < o ∨ o + vs.length ≤ i → (setAll cs o vs)[i]? = cs[i]?
  | [], _, _, _, _ => rfl
  | v :: r, o, cs, i, h => by
    show (setAll (cs.setIfInBounds o v) (o + 1) r)[i]? = _
    simp only [List.length_cons] at h
    rw [setAll_out r (o + 1) _ i (by omega), Array.getElem?_setIfInBounds, if_neg (by omega)]
theorem setAll_in : ∀ (vs : List Value) (o : Nat) (cs : Array Value) (j : Nat), j < vs.length → o + j < cs.size → (setAll cs o vs)[o + j]? = vs[j]?
  | [], _, _, _, h, _ => by simp at h
  | v :: r, o, cs, 0, _, h2 => by
    show (setAll (cs.setIfInBounds o v) (o + 1) r)[o + 0]? = _
    rw [setAll_out r (o + 1) _ _ (by omega), Nat.add_zero, Array.getElem?_setIfInBounds, if_pos rfl, if_pos (by omega)]; rfl
  | v :: r, o, cs, j + 1, h1, h2 => by
    show (setAll (cs.setIfInBounds o v) (o + 1) r)[o + (j + 1)]? = _
    have := setAll_in r (o + 1) (cs.setIfInBounds o v) j (by simpa using h1) (by simp; omega)
    rw [show o + 1 + j = o + (j + 1) by omega] at this
    rw [this]; simp
/-- The first 'k' tasks lie in these cells, their statements in other blocks than 'G'. -/
def Pref (w : World) (P : List Tk) (G : Nat) (cs : Array Value) (k : Nat) : Prop :=
  ∀ j, j < k → ∃ (t : Tk) (g nb : Nat), P[j]? = some t ∧ (∀ i v, (tkC (some ⟨g, 0, none⟩) nb nb t)[i]? = some v → cs[j * 4 + i]? = some v) ∧ G < g ∧ StRow w (some ⟨g, 0, none⟩) nb t.b
theorem Pref.zero (w : World) (P : List Tk) (G : Nat) (cs : Array Value) : Pref w P G cs 0 := fun j h => by omega
theorem Pref.below {w w' : World} {P : List Tk} {G : Nat} {cs : Array Value} {k : Nat} (h : Pref w P G cs k) (hb : Below w.heap.size w w') : Pref w' P G cs k := fun j hj => by
  obtain ⟨t, g, nb, h1, h2, h3, h4⟩ := h j hj
  exact ⟨t, g, nb, h1, h2, h3, h4.below hb⟩
theorem Pref.grown {w w' : World} {P : List Tk} {G : Nat} {cs : Array Value} {k : Nat} (h : Pref w P G cs k) (hg : w.grownBy w' (some G)) : Pref w' P G cs k := fun j hj => by
  obtain ⟨t, g, nb, h1, h2, h3, h4⟩ := h j hj
  exact ⟨t, g, nb, h1, h2, h3, StRow.grown_box h4 hg (fun e => by have := Option.some.inj e; omega)⟩
theorem Pref.next {w : World} {P : List Tk} {G : Nat} {cs : Array Value} {k g nb : Nat} {t : Tk} (h : Pref w P G cs k) (ht : P[k]? = some t) (hs : k * 4 + 4 ≤ cs.size) (hne : G < g) (hr : StRow w (some ⟨g, 0, none⟩) nb t.b) :
    Pref w P G (setAll cs (k * 4) (tkC (some ⟨g, 0, none⟩) nb nb t)) (k + 1) := fun j hj => by
  by_cases e : j = k
  · subst e
    refine ⟨t, g, nb, ht, fun i v hv => ?_, hne, hr⟩
    have hi : i < 4 := by have := (List.getElem?_eq_some_iff.1 hv).1; simpa [tkC] using this
    rw [setAll_in _ _ _ i (by simpa [tkC] using hi) (by omega)]; exact hv
  · obtain ⟨t', g', nb', h1, h2, h3, h4⟩ := h j (by omega)
    refine ⟨t', g', nb', h1, fun i v hv => ?_, h3, h4⟩
    have hi : i < 4 := by have := (List.getElem?_eq_some_iff.1 hv).1; simpa [tkC] using this
    rw [setAll_out _ _ _ _ (by left; omega)]; exact h2 i v hv
/-- A list of tasks in blocks from 'lo' on. -/
def TkFrom (lo : Nat) (w : World) (a : Option Addr) (n : Nat) (P : List Tk) : Prop :=
  P.length = n ∧ ∀ k, k < n → ∃ (g : Nat) (t : Tk) (gb nb c : Nat), a = some ⟨g, 0, none⟩ ∧ lo ≤ g ∧ g < w.heap.size ∧ P[k]? = some t ∧ w.rangeAt g (k * 4) (tkC (some ⟨gb, 0, none⟩) nb c t) ∧ nb ≤ c ∧ lo ≤ gb ∧ StRow w (some ⟨gb, 0, none⟩) nb t.b
theorem TkFrom.row {lo : Nat} {w : World} {a : Option Addr} {n : Nat} {P : List Tk} (h : TkFrom lo w a n P) : TkRow w a n P :=
  ⟨h.1, fun k hk => by
    obtain ⟨g, t, gb, nb, c, h1, _, h3, h4, h5, h5c, _, h7⟩ := h.2 k hk
    exact ⟨g, 0, t, h1, h3, h4, _, nb, c, by rw [Nat.zero_add]; exact h5, h5c, h7⟩⟩
theorem TkFrom.mono {lo lo' : Nat} {w : World} {a : Option Addr} {n : Nat} {P : List Tk} (h : TkFrom lo w a n P) (hl : lo' ≤ lo) : TkFrom lo' w a n P :=
  ⟨h.1, fun k hk => by
    obtain ⟨g, t, gb, nb, c, h1, h2, h3, h4, h5, h5c, h6, h7⟩ := h.2 k hk
    exact ⟨g, t, gb, nb, c, h1, by omega, h3, h4, h5, h5c, by omega, h7⟩⟩
theorem TkFrom.grown {lo : Nat} {w w' : World} {a : Option Addr} {n G : Nat} {P : List Tk} (h : TkFrom lo w a n P) (hg : w.grownBy w' (some G)) (hG : G < lo) : TkFrom lo w' a n P :=
  ⟨h.1, fun k hk => by
    obtain ⟨g, t, gb, nb, c, h1, h2, h3, h4, h5, h5c, h6, h7⟩ := h.2 k hk
    exact ⟨g, t, gb, nb, c, h1, h2, Nat.lt_of_lt_of_le h3 hg.size, h4, fun j v hv => hg.cell (h5 j v hv) (fun e => by have : g = G := Option.some.inj e; omega), h5c, h6, StRow.grown_box h7 hg (fun e => by have := Option.some.inj e; omega)⟩⟩
theorem TkFrom.below {lo : Nat} {w w' : World} {a : Option Addr} {n : Nat} {P : List Tk} (h : TkFrom lo w a n P) (hb : Below w.heap.size w w') : TkFrom lo w' a n P :=
  ⟨h.1, fun k hk => by
    obtain ⟨g, t, gb, nb, c, h1, h2, h3, h4, h5, h5c, h6, h7⟩ := h.2 k hk
    exact ⟨g, t, gb, nb, c, h1, h2, Nat.lt_of_lt_of_le h3 hb.size, h4, fun j v hv => (hb.cell (p := ⟨g, k * 4 + j, none⟩) h3).trans (h5 j v hv), h5c, h6, h7.below hb⟩⟩
theorem Pref.row {w : World} {P : List Tk} {cs : Array Value} {g n : Nat} {ty : TypeId} (h : Pref w P g cs n) (hl : P.length = n) (hb : Box g cs ty w) : TkFrom g w (some ⟨g, 0, none⟩) n P :=
  ⟨hl, fun k hk => by
    obtain ⟨t, g', nb, h1, h2, h3, h4⟩ := h k hk
    exact ⟨g, t, g', nb, nb, rfl, Nat.le_refl _, hb.lt, h1, fun j v hj => by rw [hb.cell]; exact h2 j v hj, Nat.le_refl _, Nat.le_of_lt h3, h4⟩⟩
theorem own_boxz {w : World} {base g n z : Nat} {t : TypeId} {xs : List Value} (h : w.ownsRow base t z (.slice (some ⟨g, 0, none⟩) n n) n xs) : Box g xs.toArray t w := by
  rcases h.2 with ⟨h0, _⟩ | ⟨g', cap, cur, hv, _, hg, _, _, hs, ht⟩
  · simp at h0
  · simp only [Value.slice.injEq, Option.some.injEq, Addr.mk.injEq, and_true, true_and] at hv
    obtain ⟨rfl, rfl⟩ := hv
    have e : xs = cur.toList := by rw [← ht]; exact List.take_of_length_le (by rw [Array.length_toList, hs]; exact Nat.le_refl _)
    unfold Box
    rw [e, Array.toArray_toList]; exact hg
end Go.Proofs.Ytekdnhhmiabngaa.prg

/- The law's own copy, size and comparison of a list of tasks and of a program; nothing that was there is written. -/
namespace Go.Proofs.Ytekdnhhmiabngaa.prg
open Go Go.ChangeShapes Go.WideShapes Go.ChangeAt Go.RowKit Go.Proofs.Ytekdnhhmiabngaa.row Go.Proofs.Ytekdnhhmiabngaa.val Go.Proofs.Ytekdnhhmiabngaa.expr Go.Proofs.Ytekdnhhmiabngaa.stm Go.Proofs.Ytekdnhhmiabngaa.blk

theorem infoTask : (Try.prog.info? 34).map (fun i => (i.zero, i.size, i.bytes)) = some (some (tkV none 0 0 ⟨[], 0, 0, 0⟩), 4, 48) := by kernel_rfl
theorem prg_at {P : List Tk} {k : Nat} (h : k < P.length) : ∃ t, P[k]? = some t := ⟨P[k], by simp [h]⟩
theorem mem_at {P : List Tk} {k : Nat} {t : Tk} (h : P[k]? = some t) : t ∈ P := List.mem_of_getElem? h
/-- A copy of the list of tasks in new memory. -/
def MadeTks (w : World) (n : Nat) (P : List Tk) (e : Ending) (w' : World) : Prop :=
  ∃ a' : Option Addr, e = .returned (.slice a' n n) ∧ Hid (TkFrom w.heap.size w' a' n P) ∧ Below w.heap.size w w'
/-- A copy of the program in new memory. -/
def MadePrg (w : World) (n : Nat) (P : List Tk) (e : Ending) (w' : World) : Prop :=
  ∃ a' : Option Addr, e = .returned (.agg #[.slice a' n n]) ∧ Hid (TkFrom w.heap.size w' a' n P) ∧ Below w.heap.size w w'
end Go.Proofs.Ytekdnhhmiabngaa.prg

/- The law's own copy of a program, the sizes and the comparison of lists of tasks and of programs; nothing that was there is written. -/
namespace Go.Proofs.Ytekdnhhmiabngaa.prg
open Go Go.ChangeShapes Go.WideShapes Go.ChangeAt Go.RowKit Go.Proofs.Ytekdnhhmiabngaa.row Go.Proofs.Ytekdnhhmiabngaa.val Go.Proofs.Ytekdnhhmiabngaa.expr Go.Proofs.Ytekdnhhmiabngaa.stm Go.Proofs.Ytekdnhhmiabngaa.blk

/-- What is left of a size, or less than nothing; the sizes are then bounded. -/
def SzOut (w : World) (x : Int) (S : Prop) (e : Ending) (w' : World) : Prop := ∃ r : Int, e = .returned (.int .i64 r) ∧ -1 ≤ r ∧ r ≤ x ∧ Hid (0 ≤ r → S) ∧ Below w.heap.size w w'
end Go.Proofs.Ytekdnhhmiabngaa.prg

/- The law's own comparison of tasks and programs; nothing that was there is written. -/
namespace Go.Proofs.Ytekdnhhmiabngaa.prg
open Go Go.ChangeShapes Go.WideShapes Go.ChangeAt Go.RowKit Go.Proofs.Ytekdnhhmiabngaa.row Go.Proofs.Ytekdnhhmiabngaa.val Go.Proofs.Ytekdnhhmiabngaa.expr Go.Proofs.Ytekdnhhmiabngaa.stm Go.Proofs.Ytekdnhhmiabngaa.blk

end Go.Proofs.Ytekdnhhmiabngaa.prg

/- Chapter 4's StmtOk of the model: what the plain function says, for every statement; nothing that was there is written. -/
namespace Go.Proofs.Ytekdnhhmiabngaa.stm
open Go.ChangeShapes Go.WideShapes Go.ChangeAt Go.RowKit Go.Proofs.Ytekdnhhmiabngaa.row Go.Proofs.Ytekdnhhmiabngaa.val Go.Proofs.Ytekdnhhmiabngaa.expr

end Go.Proofs.Ytekdnhhmiabngaa.stm

/- Chapter 5's model: BlockOk, the matching end, EndOf, DepthOf, LongestRun: what the plain relations say, for every list of statements; nothing that was there is written. -/
namespace Go.Proofs.Ytekdnhhmiabngaa.blk
open Go Go.ChangeShapes Go.WideShapes Go.ChangeAt Go.RowKit Go.Proofs.Ytekdnhhmiabngaa.row Go.Proofs.Ytekdnhhmiabngaa.val Go.Proofs.Ytekdnhhmiabngaa.expr Go.Proofs.Ytekdnhhmiabngaa.stm

theorem stm_below {w w1 w2 : World} (h : Below w.heap.size w w1) (h2 : Below w1.heap.size w1 w2) : Below w.heap.size w w2 := below_then h h2
end Go.Proofs.Ytekdnhhmiabngaa.blk

/- Chapter 6's model: ProgramOk, NextTask: what the plain relations say; nothing that was there is written. -/
namespace Go.Proofs.Ytekdnhhmiabngaa.prg
open Go Go.ChangeShapes Go.WideShapes Go.ChangeAt Go.RowKit Go.Proofs.Ytekdnhhmiabngaa.row Go.Proofs.Ytekdnhhmiabngaa.val Go.Proofs.Ytekdnhhmiabngaa.expr Go.Proofs.Ytekdnhhmiabngaa.stm Go.Proofs.Ytekdnhhmiabngaa.blk

/-- Each task ahead of 'k' is valid. -/
def OkTasks (P : List Tk) (k : Nat) : Prop := ∀ j t, j < k → P[j]? = some t → IsBlk t.b ∧ exprOk t.o t.x t.y = true
theorem OkTasks.zero (P : List Tk) : OkTasks P 0 := fun j t h => by omega
theorem OkTasks.next {P : List Tk} {k : Nat} {t : Tk} (h : OkTasks P k) (ht : P[k]? = some t) (hb : IsBlk t.b) (he : exprOk t.o t.x t.y = true) : OkTasks P (k + 1) := fun j t' hj ht' => by
  by_cases e : j = k
  · subst e; rw [ht] at ht'; cases ht'; exact ⟨hb, he⟩
  · exact h j t' (by omega) ht'
theorem isPrg_iff {P : List Tk} : IsPrg P ↔ (1 ≤ P.length ∧ P.length ≤ 6) ∧ OkTasks P P.length := by
  refine ⟨fun h => ⟨⟨h.1, h.2.1⟩, fun j t _ ht => h.2.2 t (mem_at ht)⟩, fun h => ⟨h.1.1, h.1.2, fun t ht => ?_⟩⟩
  obtain ⟨j, hj⟩ := List.mem_iff_getElem?.1 ht
  exact h.2 j t (List.getElem?_eq_some_iff.1 hj).1 hj
theorem not_prg {P : List Tk} {k : Nat} {t : Tk} (ht : P[k]? = some t) (h : ¬ IsBlk t.b ∨ exprOk t.o t.x t.y = false) : ¬ IsPrg P := fun hp => by
  have := hp.2.2 t (mem_at ht)
  rcases h with h | h
  · exact h this.1
  · rw [h] at this; exact absurd this.2 (by decide)
theorem prg_dec (P : List Tk) : ∃ r : Bool, r = true ↔ IsPrg P := by
  rcases Classical.em (IsPrg P) with h | h
  · exact ⟨true, fun _ => h, fun _ => rfl⟩
  · exact ⟨false, fun e => (by cases e), fun e => absurd e h⟩
/-- The program's argument: its block, and what lies behind. -/
abbrev PrgW (w W : World) (a : Option Addr) (n cap : Nat) (P : List Tk) : Prop :=
  W.cell? ⟨w.heap.size, 0, none⟩ = some (.slice a n cap) ∧ TkRow W a n P ∧ Below w.heap.size w W ∧ W.heap.size = w.heap.size + 1
theorem prgW_new (w : World) (a : Option Addr) (n cap : Nat) (P : List Tk) (t : TypeId) (h : TkRow w a n P) : PrgW w (w.alloc (.cells #[.slice a n cap] t)) a n cap P :=
  ⟨(Box.new w #[.slice a n cap] t).cell 0, h.below (below_new w _), below_new w _, by simp⟩
/-- The remainder from 0 on. -/
def nx (v : Int) (n : Nat) : Int := if v.tmod n < 0 then v.tmod n + n else v.tmod n
theorem tmod_bds {v : Int} {n : Nat} (hn : 0 < n) : -(n : Int) < v.tmod n ∧ v.tmod n < n := ⟨Int.lt_tmod_of_pos v (by omega), Int.tmod_lt_of_pos v (by omega)⟩
theorem nx_range {v : Int} {n : Nat} (hn : 0 < n) : 0 ≤ nx v n ∧ nx v n < n := by
  have := tmod_bds (v := v) hn
  unfold nx; split <;> omega
theorem nx_emod {v : Int} {n : Nat} (hn : 0 < n) : nx v n = v % (n : Int) := by
  have h1 := nx_range (v := v) hn
  have h2 : nx v n = (nx v n) % (n : Int) := (Int.emod_eq_of_lt h1.1 h1.2).symm
  rw [h2]
  have h3 : v = (n : Int) * v.tdiv n + v.tmod n := (Int.mul_tdiv_add_tmod v n).symm
  unfold nx
  split
  · rw [Int.add_emod_right]; conv => rhs; rw [h3]
    rw [Int.add_comm, Int.add_mul_emod_self_left]
  · conv => rhs; rw [h3]
    rw [Int.add_comm, Int.add_mul_emod_self_left]
/-- What NextTask must give. -/
def NextIs (P : List Tk) (V : List Int) (i x : Int) : Prop :=
  (∃ (j : Nat) (t : Tk), i = j ∧ P[j]? = some t ∧ IsPrg P ∧ varsOk V = true ∧ x = nx (evalV V t.o t.x t.y) P.length) ∨ (x = -1 ∧ (¬ IsPrg P ∨ varsOk V = false ∨ i < 0 ∨ (P.length : Int) ≤ i))
theorem nextIs_ex (P : List Tk) (V : List Int) (i : Int) : ∃ x, NextIs P V i x := by
  rcases Classical.em (IsPrg P) with hp | hp
  · cases hv : varsOk V
    · exact ⟨-1, .inr ⟨rfl, .inr (.inl hv)⟩⟩
    · rcases (show i < 0 ∨ (P.length : Int) ≤ i ∨ (0 ≤ i ∧ i < P.length) by omega) with h | h | h
      · exact ⟨-1, .inr ⟨rfl, .inr (.inr (.inl h))⟩⟩
      · exact ⟨-1, .inr ⟨rfl, .inr (.inr (.inr h))⟩⟩
      · obtain ⟨j, rfl⟩ : ∃ j : Nat, i = j := ⟨i.toNat, by omega⟩
        obtain ⟨t, ht⟩ := prg_at (show j < P.length by omega)
        exact ⟨_, .inl ⟨j, t, rfl, ht, hp, hv, rfl⟩⟩
  · exact ⟨-1, .inr ⟨rfl, .inl hp⟩⟩
theorem NextIs.not {P : List Tk} {V : List Int} {i x : Int} (h : NextIs P V i x) (hn : ¬ IsPrg P ∨ varsOk V = false ∨ i < 0 ∨ (P.length : Int) ≤ i) : x = -1 := by
  rcases h with ⟨j, t, rfl, ht, hp, hv, rfl⟩ | ⟨rfl, _⟩
  · have := (List.getElem?_eq_some_iff.1 ht).1
    rcases hn with h | h | h | h
    · exact absurd hp h
    · rw [h] at hv; cases hv
    · omega
    · omega
  · rfl
theorem NextIs.yes {P : List Tk} {V : List Int} {j : Nat} {x : Int} {t : Tk} (h : NextIs P V j x) (hp : IsPrg P) (hv : varsOk V = true) (ht : P[j]? = some t) : x = nx (evalV V t.o t.x t.y) P.length := by
  have := (List.getElem?_eq_some_iff.1 ht).1
  rcases h with ⟨j', t', hj, ht', _, _, rfl⟩ | ⟨_, h⟩
  · obtain rfl : j = j' := by omega
    rw [ht] at ht'; cases ht'; rfl
  · rcases h with h | h | h | h
    · exact absurd hp h
    · rw [h] at hv; cases hv
    · omega
    · omega
theorem ev_small (V : List Int) (o a b : Int) : -1000000 ≤ evalV V o a b ∧ evalV V o a b ≤ 1000000 := by
  have := evalV_val V o a b
  unfold isVal at this
  simp at this
  exact this
end Go.Proofs.Ytekdnhhmiabngaa.prg
