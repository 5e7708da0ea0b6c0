/- Several texts in one: TkA. -/
import Derived.Test.YtlicadaecfgklaaGHub18
import Derived.Test.YtlicadaecfgklaaGHub20

/- Tasks and programs: plain data; a slice that reads as a list of tasks; the law's own copy, size and comparison of such a slice. -/
namespace Go.Proofs.Ytlicadaecfgklaa.prg
open Go Go.ChangeShapes Go.WideShapes Go.ChangeAt Go.RowKit Go.Proofs.Ytlicadaecfgklaa.row Go.Proofs.Ytlicadaecfgklaa.val Go.Proofs.Ytlicadaecfgklaa.expr Go.Proofs.Ytlicadaecfgklaa.stm Go.Proofs.Ytlicadaecfgklaa.blk

/-- A task: its statements and the three numbers of its expression. -/
structure Tk where
  b : List Go.Proofs.Ytlicadaecfgklaa.stm.St
  (o x y : Int)
def tkC (a : Option Addr) (n c : Nat) (t : Tk) : List Value := [.slice a n c, .int .i64 t.o, .int .i64 t.x, .int .i64 t.y]
abbrev tkV (a : Option Addr) (n c : Nat) (t : Tk) : Value := .agg #[.slice a n c, .int .i64 t.o, .int .i64 t.x, .int .i64 t.y]
/-- A valid program. -/
def IsPrg (P : List Tk) : Prop := 1 ≤ P.length ∧ P.length ≤ 6 ∧ ∀ t ∈ P, IsBlk t.b ∧ exprOk t.o t.x t.y = true
/-- The task that lies at this place. -/
def TkAt (w : World) (g o : Nat) (t : Tk) : Prop := ∃ (ab : Option Addr) (nb cb : Nat), w.rangeAt g o (tkC ab nb cb t) ∧ nb ≤ cb ∧ StRow w ab nb t.b
theorem TkAt.below {w w' : World} {g o : Nat} {t : Tk} (h : TkAt w g o t) (hg : g < w.heap.size) (hb : Below w.heap.size w w') : TkAt w' g o t := by
  obtain ⟨ab, nb, cb, h1, h2, h3⟩ := h
  exact ⟨ab, nb, cb, fun j v hj => (hb.cell (p := ⟨g, o + j, none⟩) hg).trans (h1 j v hj), h2, h3.below hb⟩
/-- The slice at 'a' of 'n' tasks reads as the list 'P'. -/
def TkRow (w : World) (a : Option Addr) (n : Nat) (P : List Tk) : Prop :=
  P.length = n ∧ ∀ k, k < n → ∃ (g off : Nat) (t : Tk), a = some ⟨g, off, none⟩ ∧ g < w.heap.size ∧ P[k]? = some t ∧ TkAt w g (off + k * 4) t
theorem TkRow.below {w w' : World} {a : Option Addr} {n : Nat} {P : List Tk} (h : TkRow w a n P) (hb : Below w.heap.size w w') : TkRow w' a n P :=
  ⟨h.1, fun k hk => by
    obtain ⟨g, off, t, rfl, hlt, ht, hT⟩ := h.2 k hk
    exact ⟨g, off, t, rfl, Nat.lt_of_lt_of_le hlt hb.size, ht, hT.below hlt hb⟩⟩
theorem TkRow.nil (w : World) (a : Option Addr) : TkRow w a 0 [] := ⟨rfl, fun k hk => by omega⟩
theorem range4 {w : World} {g o : Nat} {a : Option Addr} {n c : Nat} {t : Tk} (h : w.rangeAt g o (tkC a n c t)) :
    w.cell? ⟨g, o, none⟩ = some (.slice a n c) ∧ w.cell? ⟨g, o + 1, none⟩ = some (.int .i64 t.o) ∧ w.cell? ⟨g, o + 2, none⟩ = some (.int .i64 t.x) ∧ w.cell? ⟨g, o + 3, none⟩ = some (.int .i64 t.y) :=
  ⟨h 0 _ rfl, h 1 _ rfl, h 2 _ rfl, h 3 _ rfl⟩
/-- No list is longer than this. -/
def Sizes (P : List Tk) : Prop := P.length ≤ 1048576 ∧ ∀ t ∈ P, t.b.length ≤ 1048576
abbrev zeroTk : Array Value := #[.slice none 0 0, .int .i64 0, .int .i64 0, .int .i64 0]

/-- A row of statements in one block stands as long as that block is not written. -/
theorem StRow.grown_box {w w' : World} {g o n : Nat} {L : List Go.Proofs.Ytlicadaecfgklaa.stm.St} {r : Option Nat} (h : StRow w (some ⟨g, o, none⟩) n L) (hg : w.grownBy w' r) (hne : some g ≠ r) : StRow w' (some ⟨g, o, none⟩) n L :=
  ⟨h.1, fun k hk => by
    obtain ⟨b, off, s, e, hlt, hs, hr⟩ := h.2 k hk
    simp only [Option.some.injEq, Addr.mk.injEq, and_true] at e
    obtain ⟨rfl, rfl⟩ := e
    exact ⟨g, o, s, rfl, Nat.lt_of_lt_of_le hlt hg.size, hs, fun j v hv => hg.cell (hr j v hv) hne⟩⟩
/-- A copy of the task: its statements in new memory. -/
def MadeTk (w : World) (t : Tk) (e : Ending) (w' : World) : Prop :=
  ∃ (g n : Nat), e = .returned (tkV (some ⟨g, 0, none⟩) n n t) ∧ w.heap.size ≤ g ∧ Hid (StRow w' (some ⟨g, 0, none⟩) n t.b) ∧ Below w.heap.size w w'
/-- .. and the statements' block is known whole. -/
def MadeTkX (w : World) (t : Tk) (e : Ending) (w' : World) : Prop :=
  ∃ (g n : Nat), e = .returned (tkV (some ⟨g, 0, none⟩) n n t) ∧ w.heap.size ≤ g ∧ Hid (t.b.length = n ∧ Box g (stsC t.b).toArray 82 w') ∧ Below w.heap.size w w'
set_option maxHeartbeats 2000000 in
set_option maxRecDepth 100000 in
theorem totask_box (t : Tk) (ab : Option Addr) (nb cb : Nat) (w : World) (hn : (nb : Int) ≤ 1048576) (h : StRow w ab nb t.b) :
    Calls Try.prog 55 #[tkV ab nb cb t] w (MadeTkX w t) := by
  obtain ⟨B, o, x, y⟩ := t
  obtain ⟨W, hW⟩ : ∃ W, W = ((w.alloc (.cells #[.slice ab nb cb, .int .i64 o, .int .i64 x, .int .i64 y] 69)).alloc (.cells zeroTk 74)).alloc (.cells zeroTk 74) := ⟨_, rfl⟩
  have hs : W.heap.size = w.heap.size + 3 := by rw [hW]; simp
  have e1 : ∀ x : Obj, (w.alloc x).heap.size = w.heap.size + 1 := fun x => by simp
  have e2 : ∀ x y : Obj, ((w.alloc x).alloc y).heap.size = w.heap.size + 2 := fun x y => by simp
  have b0 : Box w.heap.size #[.slice ab nb cb, .int .i64 o, .int .i64 x, .int .i64 y] 69 W := by
    rw [hW]; exact ((Box.new w _ _).alloc _).alloc _
  have b1 : Box (w.heap.size + 1) zeroTk 74 W := by
    have h9 := (Box.new (w.alloc (.cells #[.slice ab nb cb, .int .i64 o, .int .i64 x, .int .i64 y] 69)) zeroTk 74).alloc (.cells zeroTk 74)
    rw [e1] at h9; rw [hW]; exact h9
  have b2 : Box (w.heap.size + 2) zeroTk 74 W := by
    have h9 := Box.new ((w.alloc (.cells #[.slice ab nb cb, .int .i64 o, .int .i64 x, .int .i64 y] 69)).alloc (.cells zeroTk 74)) zeroTk 74
    rw [e2] at h9; rw [hW]; exact h9
  have hb : Below w.heap.size w W := by
    rw [hW]; exact (((Below.refl _ _).alloc (Nat.le_refl _) _).alloc (by simp) _).alloc (by simp; omega) _
  have H0 := Lib.hid (And.intro b0 (And.intro b1 (And.intro b2 (And.intro hb (h.below hb)))))
  have HS := Lib.hid hs
  have HW := Lib.hid hW
  clear b0 b1 b2 hb hs hW e1 e2 h
  go_enter Try.func55, Try.ntmps55
  go_wp2_with (go_at_call 63; rw [← HW.out]; refine (toStmts_any W ab nb cb B hn H0.out.2.2.2.2).mono ?_; rintro e w1 ⟨rfl, hx1, hb1⟩; refine Hid.out ?_)
  have b0 := H0.out.1.below hb1
  have b2 := H0.out.2.2.1.below hb1
  have c : w1.cell? ⟨w.heap.size + 2, 0, none⟩ = some (.slice none 0 0) := b2.cell 0
  have f : w1.frozen? ⟨w.heap.size + 2, 0, none⟩ = false := b2.frozen 0
  have r1 : w1.cell? ⟨w.heap.size, 1, none⟩ = some (.int .i64 o) := b0.cell 1
  have r2 : w1.cell? ⟨w.heap.size, 2, none⟩ = some (.int .i64 x) := b0.cell 2
  have r3 : w1.cell? ⟨w.heap.size, 3, none⟩ = some (.int .i64 y) := b0.cell 3
  have hbw := H0.out.2.2.2.1.trans (hb1.mono (by have := HS.out; omega))
  have H1 := Lib.hid (And.intro hx1 (And.intro b2 (And.intro (H0.out.2.1.below hb1) hbw)))
  have HS1 := Lib.hid hb1.size
  clear b0 b2 hx1 hb1 hbw
  refine Lib.hid ?_
  go_wp2_with (go_at_call 64; refine (toExpr_any o x y _).mono ?_; rintro e w2 ⟨rfl, hb2⟩; refine Hid.out ?_)
  have hbs := hb2.size
  have hB2 : Box (w.heap.size + 2) #[.slice (some ⟨W.heap.size, 0, none⟩) nb nb, .int .i64 0, .int .i64 0, .int .i64 0] 74 w2 := (H1.out.2.1.set 0 _).below hb2
  have hB1 : Box (w.heap.size + 1) zeroTk 74 w2 := (H1.out.2.2.1.set_other (by simp) _).below hb2
  have hBW : Below w.heap.size w w2 := (H1.out.2.2.2.setCell (by show w.heap.size ≤ w.heap.size + 2; omega) _).trans (hb2.mono (by have := HS1.out; have := HS.out; simp; omega))
  have hST : Box W.heap.size (stsC B).toArray 82 w2 := (H1.out.1.set_other (by have := HS.out; simp; omega) _).below hb2
  have H2 := Lib.hid (And.intro hB2 (And.intro hB1 (And.intro hBW hST)))
  clear hB2 hB1 hBW hST hb2 c f r1 r2 r3 hbs
  refine Lib.hid ?_
  go_wp2_with ((refine wpList_store_part rfl 72 _ _ rfl (w.heap.size + 2) 1 _ _ H2.out.1 #[.int .i64 o, .int .i64 x, .int .i64 y] rfl rfl (by simp) (by kernel_rfl) (by simp [Value.oneCell']) ?_); intro w3 hx3 hg3; refine Hid.out ?_)
  have hr3 := H2.out.2.1.grown hg3 (by simp)
  have hs3 := H2.out.2.2.2.grown hg3 (by have := HS.out; simp; omega)
  have H3 := Lib.hid (And.intro (show Box (w.heap.size + 2) #[.slice (some ⟨W.heap.size, 0, none⟩) nb nb, .int .i64 o, .int .i64 x, .int .i64 y] 74 w3 from hx3) (And.intro hr3 (And.intro (H2.out.2.2.1.grown hg3 H2.out.2.2.1.size (fun j hj => by cases hj; omega)) hs3)))
  clear hx3 hg3 hr3 hs3
  refine Lib.hid ?_
  go_wp2_with (first
    | (refine wpList_load_row rfl 74 _ rfl (w.heap.size + 2) rfl _ _ _ _ H3.out.1 Try.underlying74 rfl (by kernel_rfl) ?_)
    | ((refine wpList_store_box rfl 74 _ _ rfl (w.heap.size + 1) _ _ H3.out.2.1 #[.slice (some ⟨W.heap.size, 0, none⟩) nb nb, .int .i64 o, .int .i64 x, .int .i64 y] rfl rfl rfl (by kernel_rfl) (by simp [Value.oneCell']) ?_); intro w4 hx4 hg4; refine Hid.out ?_))
  have hs4 := H3.out.2.2.2.grown hg4 (by have := HS.out; simp; omega)
  have H4 := Lib.hid (And.intro hx4 (And.intro (H3.out.2.2.1.grown hg4 H3.out.2.2.1.size (fun j hj => by cases hj; omega)) hs4))
  clear hx4 hg4 hs4
  refine Lib.hid ?_
  go_wp2
  exact bodyPost_ret (v := tkV (some ⟨W.heap.size, 0, none⟩) nb nb ⟨B, o, x, y⟩) (results_cell_row rfl _ _ (w.heap.size + 1) _ _ _ _ rfl H4.out.1 Try.underlying74 rfl (by kernel_rfl)) rfl ⟨_, nb, rfl, by have := HS.out; omega, ⟨H0.out.2.2.2.2.1, H4.out.2.2⟩, H4.out.2.1⟩
theorem totask_any (t : Tk) (ab : Option Addr) (nb cb : Nat) (w : World) (hn : (nb : Int) ≤ 1048576) (h : StRow w ab nb t.b) :
    Calls Try.prog 55 #[tkV ab nb cb t] w (MadeTk w t) := by
  refine (totask_box t ab nb cb w hn h).mono ?_
  rintro e w' ⟨g, n, rfl, hg, hx, hb⟩
  exact ⟨g, n, rfl, hg, StRow.of_box' hx.out.2 hx.out.1, hb⟩
theorem setAll_size : ∀ (vs : List Value) (o : Nat) (cs : Array Value), (setAll cs o vs).size = cs.size
  | [], _, _ => rfl
  | v :: r, o, cs => by show (setAll (cs.setIfInBounds o v) (o + 1) r).size = _; rw [setAll_size r]; simp
theorem setAll_out : ∀ (vs : List Value) (o : Nat) (cs : Array Value) (i : Nat), i < o ∨ o + vs.length ≤ i → (setAll cs o vs)[i]? = cs[i]?
  | [], _, _, _, _ => rfl
  | v :: r, o, cs, i, h => by
    show (setAll (cs.setIfInBounds o v) (o + 1) r)[i]? = _
    simp only [List.length_cons] at h
    rw [setAll_out r (o + 1) _ i (by omega), Array.getElem?_setIfInBounds, if_neg (by omega)]
theorem setAll_in : ∀ (vs : List Value) (o : Nat) (cs : Array Value) (j : Nat), j < vs.length → o + j < cs.size → (setAll cs o vs)[o + j]? = vs[j]?
  | [], _, _, _, h, _ => by simp at h
  | v :: r, o, cs, 0, _, h2 => by
    show (setAll (cs.setIfInBounds o v) (o + 1) r)[o + 0]? = _
    rw [setAll_out r (o + 1) _ _ (by omega), Nat.add_zero, Array.getElem?_setIfInBounds, if_pos rfl, if_pos (by omega)]; rfl
  | v :: r, o, cs, j + 1, h1, h2 => by
    show (setAll (cs.setIfInBounds o v) (o + 1) r)[o + (j + 1)]? = _
    have := setAll_in r (o + 1) (cs.setIfInBounds o v) j (by simpa using h1) (by simp; omega)
    rw [show o + 1 + j = o + (j + 1) by omega] at this
    rw [this]; simp
/-- The first 'k' tasks lie in these cells, their statements in other blocks than 'G'. -/
def Pref (w : World) (P : List Tk) (G : Nat) (cs : Array Value) (k : Nat) : Prop :=
  ∀ j, j < k → ∃ (t : Tk) (g nb : Nat), P[j]? = some t ∧ (∀ i v, (tkC (some ⟨g, 0, none⟩) nb nb t)[i]? = some v → cs[j * 4 + i]? = some v) ∧ G < g ∧ StRow w (some ⟨g, 0, none⟩) nb t.b
theorem Pref.zero (w : World) (P : List Tk) (G : Nat) (cs : Array Value) : Pref w P G cs 0 := fun j h => by omega
theorem Pref.below {w w' : World} {P : List Tk} {G : Nat} {cs : Array Value} {k : Nat} (h : Pref w P G cs k) (hb : Below w.heap.size w w') : Pref w' P G cs k := fun j hj => by
  obtain ⟨t, g, nb, h1, h2, h3, h4⟩ := h j hj
  exact ⟨t, g, nb, h1, h2, h3, h4.below hb⟩
theorem Pref.grown {w w' : World} {P : List Tk} {G : Nat} {cs : Array Value} {k : Nat} (h : Pref w P G cs k) (hg : w.grownBy w' (some G)) : Pref w' P G cs k := fun j hj => by
  obtain ⟨t, g, nb, h1, h2, h3, h4⟩ := h j hj
  exact ⟨t, g, nb, h1, h2, h3, StRow.grown_box h4 hg (fun e => by have := Option.some.inj e; omega)⟩
theorem Pref.next {w : World} {P : List Tk} {G : Nat} {cs : Array Value} {k g nb : Nat} {t : Tk} (h : Pref w P G cs k) (ht : P[k]? = some t) (hs : k * 4 + 4 ≤ cs.size) (hne : G < g) (hr : StRow w (some ⟨g, 0, none⟩) nb t.b) :
    Pref w P G (setAll cs (k * 4) (tkC (some ⟨g, 0, none⟩) nb nb t)) (k + 1) := fun j hj => by
  by_cases e : j = k
  · subst e
    refine ⟨t, g, nb, ht, fun i v hv => ?_, hne, hr⟩
    have hi : i < 4 := by have := (List.getElem?_eq_some_iff.1 hv).1; simpa [tkC] using this
    rw [setAll_in _ _ _ i (by simpa [tkC] using hi) (by omega)]; exact hv
  · obtain ⟨t', g', nb', h1, h2, h3, h4⟩ := h j (by omega)
    refine ⟨t', g', nb', h1, fun i v hv => ?_, h3, h4⟩
    have hi : i < 4 := by have := (List.getElem?_eq_some_iff.1 hv).1; simpa [tkC] using this
    rw [setAll_out _ _ _ _ (by left; omega)]; exact h2 i v hv
/-- A list of tasks in blocks from 'lo' on. -/
def TkFrom (lo : Nat) (w : World) (a : Option Addr) (n : Nat) (P : List Tk) : Prop :=
  P.length = n ∧ ∀ k, k < n → ∃ (g : Nat) (t : Tk) (gb nb c : Nat), a = some ⟨g, 0, none⟩ ∧ lo ≤ g ∧ g < w.heap.size ∧ P[k]? = some t ∧ w.rangeAt g (k * 4) (tkC (some ⟨gb, 0, none⟩) nb c t) ∧ nb ≤ c ∧ lo ≤ gb ∧ StRow w (some ⟨gb, 0, none⟩) nb t.b
theorem TkFrom.row {lo : Nat} {w : World} {a : Option Addr} {n : Nat} {P : List Tk} (h : TkFrom lo w a n P) : TkRow w a n P :=
  ⟨h.1, fun k hk => by
    obtain ⟨g, t, gb, nb, c, h1, _, h3, h4, h5, h5c, _, h7⟩ := h.2 k hk
    exact ⟨g, 0, t, h1, h3, h4, _, nb, c, by rw [Nat.zero_add]; exact h5, h5c, h7⟩⟩
theorem TkFrom.mono {lo lo' : Nat} {w : World} {a : Option Addr} {n : Nat} {P : List Tk} (h : TkFrom lo w a n P) (hl : lo' ≤ lo) : TkFrom lo' w a n P :=
  ⟨h.1, fun k hk => by
    obtain ⟨g, t, gb, nb, c, h1, h2, h3, h4, h5, h5c, h6, h7⟩ := h.2 k hk
    exact ⟨g, t, gb, nb, c, h1, by omega, h3, h4, h5, h5c, by omega, h7⟩⟩
theorem TkFrom.grown {lo : Nat} {w w' : World} {a : Option Addr} {n G : Nat} {P : List Tk} (h : TkFrom lo w a n P) (hg : w.grownBy w' (some G)) (hG : G < lo) : TkFrom lo w' a n P :=
  ⟨h.1, fun k hk => by
    obtain ⟨g, t, gb, nb, c, h1, h2, h3, h4, h5, h5c, h6, h7⟩ := h.2 k hk
    exact ⟨g, t, gb, nb, c, h1, h2, Nat.lt_of_lt_of_le h3 hg.size, h4, fun j v hv => hg.cell (h5 j v hv) (fun e => by have : g = G := Option.some.inj e; omega), h5c, h6, StRow.grown_box h7 hg (fun e => by have := Option.some.inj e; omega)⟩⟩
theorem TkFrom.below {lo : Nat} {w w' : World} {a : Option Addr} {n : Nat} {P : List Tk} (h : TkFrom lo w a n P) (hb : Below w.heap.size w w') : TkFrom lo w' a n P :=
  ⟨h.1, fun k hk => by
    obtain ⟨g, t, gb, nb, c, h1, h2, h3, h4, h5, h5c, h6, h7⟩ := h.2 k hk
    exact ⟨g, t, gb, nb, c, h1, h2, Nat.lt_of_lt_of_le h3 hb.size, h4, fun j v hv => (hb.cell (p := ⟨g, k * 4 + j, none⟩) h3).trans (h5 j v hv), h5c, h6, h7.below hb⟩⟩
theorem Pref.row {w : World} {P : List Tk} {cs : Array Value} {g n : Nat} {ty : TypeId} (h : Pref w P g cs n) (hl : P.length = n) (hb : Box g cs ty w) : TkFrom g w (some ⟨g, 0, none⟩) n P :=
  ⟨hl, fun k hk => by
    obtain ⟨t, g', nb, h1, h2, h3, h4⟩ := h k hk
    exact ⟨g, t, g', nb, nb, rfl, Nat.le_refl _, hb.lt, h1, fun j v hj => by rw [hb.cell]; exact h2 j v hj, Nat.le_refl _, Nat.le_of_lt h3, h4⟩⟩
theorem own_boxz {w : World} {base g n z : Nat} {t : TypeId} {xs : List Value} (h : w.ownsRow base t z (.slice (some ⟨g, 0, none⟩) n n) n xs) : Box g xs.toArray t w := by
  rcases h.2 with ⟨h0, _⟩ | ⟨g', cap, cur, hv, _, hg, _, _, hs, ht⟩
  · simp at h0
  · simp only [Value.slice.injEq, Option.some.injEq, Addr.mk.injEq, and_true, true_and] at hv
    obtain ⟨rfl, rfl⟩ := hv
    have e : xs = cur.toList := by rw [← ht]; exact List.take_of_length_le (by rw [Array.length_toList, hs]; exact Nat.le_refl _)
    unfold Box
    rw [e, Array.toArray_toList]; exact hg
end Go.Proofs.Ytlicadaecfgklaa.prg
