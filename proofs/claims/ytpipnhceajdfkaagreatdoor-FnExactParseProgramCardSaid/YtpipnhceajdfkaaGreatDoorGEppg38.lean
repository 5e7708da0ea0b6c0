/- Several texts in one: PrgQ PrgO. -/
import Derived.Test.YtpipnhceajdfkaaGreatDoorGEppg27
import Derived.Test.YtpipnhceajdfkaaGreatDoorGEppg33
import Derived.Test.YtpipnhceajdfkaaGreatDoorGEppg2
import Derived.Deep.AppendLies

/- The program that the model's parser builds: a row of tasks, each task's statements in a row of their own, no two rows in one block. -/
namespace Go.Proofs.YtpipnhceajdfkaaGreatDoor.prg
open Go Go.ChangeShapes Go.WideShapes Go.ChangeAt Go.RowKit Go.Proofs.YtpipnhceajdfkaaGreatDoor.row Go.Proofs.YtpipnhceajdfkaaGreatDoor.val Go.Proofs.YtpipnhceajdfkaaGreatDoor.expr Go.Proofs.YtpipnhceajdfkaaGreatDoor.stm Go.Proofs.YtpipnhceajdfkaaGreatDoor.blk Go.Proofs.YtpipnhceajdfkaaGreatDoor.tex

/-- The row 'v' of tasks with the cells 'xs', the rows 'bv j' of their statements. -/
def Fam (base : Nat) (w : World) (v : Value) (n : Nat) (xs : List Value) (bv : Nat → Value) (P : List Tk) (tt ts : TypeId) : Prop :=
  P.length = n ∧ w.ownsRow base tt 4 v n xs ∧
  (∀ j t, P[j]? = some t → w.ownsRow base ts 6 (bv j) t.b.length (stsC t.b) ∧ ∀ i u, ([bv j, .int .i64 t.o, .int .i64 t.x, .int .i64 t.y] : List Value)[i]? = some u → xs[j * 4 + i]? = some u) ∧
  (∀ j, j < n → ∀ g, (bv j).ownBlock = some g → v.ownBlock ≠ some g) ∧
  (∀ j k, j < n → k < n → j ≠ k → ∀ g, (bv j).ownBlock = some g → (bv k).ownBlock ≠ some g)
def put (bv : Nat → Value) (m : Nat) (b : Value) (j : Nat) : Value := if j = m then b else bv j
theorem put_at {bv : Nat → Value} {m : Nat} {b : Value} {j : Nat} (h : j = m) : put bv m b j = b := if_pos h
theorem put_ne {bv : Nat → Value} {m : Nat} {b : Value} {j : Nat} (h : ¬ j = m) : put bv m b j = bv j := if_neg h
section
variable {base n : Nat} {w w' : World} {v : Value} {xs : List Value} {bv : Nat → Value} {P : List Tk} {tt ts : TypeId}
theorem Fam.nil (base : Nat) (w : World) (bv : Nat → Value) (tt ts : TypeId) : Fam base w (.slice none 0 0) 0 [] bv [] tt ts :=
  ⟨rfl, World.ownsRow_nil _ _ _ _, fun j t h => by simp at h, fun j hj => by omega, fun j k hj => by omega⟩
theorem apart_of {a r : Option Nat} (h : ∀ g, a = some g → r ≠ some g) : a = none ∨ a ≠ r := by
  cases a with
  | none => exact .inl rfl
  | some g => exact .inr (fun e => h g rfl e.symm)
theorem Fam.kept {r : Option Nat} (h : Fam base w v n xs bv P tt ts) (hg : w.grownBy w' r) (hr : ∀ g, r = some g → g < base) : Fam base w' v n xs bv P tt ts := by
  obtain ⟨h1, h2, h3, h4, h5⟩ := h
  have ne : ∀ {e : TypeId} {z m : Nat} {u : Value} {ys : List Value}, w.ownsRow base e z u m ys → u.ownBlock = none ∨ u.ownBlock ≠ r := fun ho =>
    apart_of (fun g hv e => by have := (ho.lt g hv).1; have := hr g e; omega)
  exact ⟨h1, h2.kept hg (ne h2), fun j t ht => ⟨(h3 j t ht).1.kept hg (ne (h3 j t ht).1), (h3 j t ht).2⟩, h4, h5⟩
theorem Fam.at (h : Fam base w v n xs bv P tt ts) {j : Nat} (hj : j < n) : ∃ t, P[j]? = some t := ⟨P[j]'(by rw [h.1]; exact hj), by simp [h.1, hj]⟩
theorem Fam.small (h : Fam base w v n xs bv P tt ts) {j : Nat} (hj : j < n) {g : Nat} (hg : (bv j).ownBlock = some g) : g < w.heap.size := by
  obtain ⟨t, ht⟩ := h.at hj
  exact ((h.2.2.1 j t ht).1.lt g hg).2
/-- A task more, without statements. -/
theorem Fam.head {v' : Value} {o x y : Int} (h : Fam base w v n xs bv P tt ts) (ho : w'.ownsRow base tt 4 v' (n + 1) (xs ++ tkC none 0 0 ⟨[], o, x, y⟩)) (hg : w.grownBy w' v.ownBlock)
    (hat : v'.ownBlock = v.ownBlock ∨ ∃ q, v'.ownBlock = some q ∧ w.heap.size ≤ q) :
    Fam base w' v' (n + 1) (xs ++ tkC none 0 0 ⟨[], o, x, y⟩) (put bv n (.slice none 0 0)) (P ++ [⟨[], o, x, y⟩]) tt ts := by
  have hs := @Fam.small _ _ _ _ _ _ _ _ _ h
  obtain ⟨h1, h2, h3, h4, h5⟩ := h
  refine ⟨by simp [h1], ho, fun j t ht => ?_, fun j hj g hb => ?_, fun j k hj hk hne g hb => ?_⟩
  · by_cases hj : j < n
    · rw [List.getElem?_append_left (by omega)] at ht
      have h9 := h3 j t ht
      rw [put_ne (show ¬ j = n by omega)]
      refine ⟨h9.1.kept hg (apart_of (h4 j hj)), fun i u hu => ?_⟩
      have hi : i < 4 := by have := (List.getElem?_eq_some_iff.1 hu).1; simpa using this
      rw [List.getElem?_append_left (by rw [h2.1]; omega)]
      exact h9.2 i u hu
    · have hjl := (List.getElem?_eq_some_iff.1 ht).1
      simp at hjl
      obtain rfl : j = n := by omega
      rw [List.getElem?_append_right (by omega), h1, Nat.sub_self] at ht
      obtain rfl := Option.some.inj ht
      rw [put_at rfl]
      refine ⟨World.ownsRow_nil _ _ _ _, fun i u hu => ?_⟩
      rw [List.getElem?_append_right (by rw [h2.1]; omega), h2.1, show j * 4 + i - j * 4 = i by omega]
      exact hu
  · by_cases hjn : j = n
    · rw [put_at hjn] at hb; cases hb
    · rw [put_ne hjn] at hb
      rcases hat with e | ⟨q, e, hq⟩
      · rw [e]; exact h4 j (by omega) g hb
      · rw [e]; intro e2; have := Option.some.inj e2; have := hs (by omega) hb; omega
  · by_cases hjn : j = n
    · rw [put_at hjn] at hb; cases hb
    · rw [put_ne hjn] at hb
      by_cases hkn : k = n
      · rw [put_at hkn]; intro e; cases e
      · rw [put_ne hkn]; exact h5 j k (by omega) (by omega) hne g hb
/-- A statement more in the last task. -/
theorem Fam.st {g cap m : Nat} {t : Tk} {s : Go.Proofs.YtpipnhceajdfkaaGreatDoor.stm.St} {b' : Value} (h : Fam base w (.slice (some ⟨g, 0, none⟩) (m + 1) cap) (m + 1) xs bv (P ++ [t]) tt ts)
    (ho : w'.ownsRow base ts 6 b' (t.b.length + 1) (stsC t.b ++ stC s)) (hg : w.grownBy w' (bv m).ownBlock) (hat : b'.ownBlock = (bv m).ownBlock ∨ ∃ q, b'.ownBlock = some q ∧ w.heap.size ≤ q) :
    Fam base (w'.setCell ⟨g, m * 4, none⟩ b') (.slice (some ⟨g, 0, none⟩) (m + 1) cap) (m + 1) (xs.set (m * 4) b') (put bv m b') (addSt (P ++ [t]) s) tt ts := by
  have hs := @Fam.small _ _ _ _ _ _ _ _ _ h
  obtain ⟨h1, h2, h3, h4, h5⟩ := h
  have hP : P.length = m := by simp at h1; exact h1
  have hgs : g < w.heap.size := (h2.lt g rfl).2
  have hgm : ∀ q, (bv m).ownBlock = some q → q ≠ g := fun q hq e => h4 m (by omega) q hq (by rw [e]; rfl)
  have hbg : b'.ownBlock ≠ some g := by
    rcases hat with e | ⟨q, e, hq⟩
    · rw [e]; exact fun e2 => hgm g e2 rfl
    · rw [e]; intro e2; have := Option.some.inj e2; omega
  have k2 := h2.kept hg (apart_of (fun q hq e => hgm q e (Option.some.inj hq).symm))
  have k3 := k2.stored (m * 4) b'
  rw [addSt_snoc]
  refine ⟨by simp [hP], k3.1, fun j u hu => ?_, fun j hj q hb => ?_, fun j k hj hk hne q hb => ?_⟩
  · by_cases hj : j < m
    · rw [List.getElem?_append_left (by omega)] at hu
      have h9 := h3 j u (by rw [List.getElem?_append_left (by omega)]; exact hu)
      rw [put_ne (show ¬ j = m by omega)]
      have k9 := h9.1.kept hg (apart_of (h5 j m (by omega) (by omega) (by omega)))
      refine ⟨k9.kept k3.2 (apart_of (fun q hq e => h4 j (by omega) q hq (by rw [← e]; rfl))), fun i z hz => ?_⟩
      have hi : i < 4 := by have := (List.getElem?_eq_some_iff.1 hz).1; simpa using this
      rw [List.getElem?_set_ne (by omega)]
      exact h9.2 i z hz
    · have hjl := (List.getElem?_eq_some_iff.1 hu).1
      simp at hjl
      obtain rfl : j = m := by omega
      rw [List.getElem?_append_right (by omega), hP, Nat.sub_self] at hu
      obtain rfl := Option.some.inj hu
      have h9 := h3 j t (by rw [List.getElem?_append_right (by omega), hP, Nat.sub_self]; rfl)
      rw [put_at rfl]
      refine ⟨?_, fun i z hz => ?_⟩
      · have := ho.kept k3.2 (.inr hbg)
        simpa [stsC] using this
      · have hi : i < 4 := by have := (List.getElem?_eq_some_iff.1 hz).1; simpa using this
        by_cases hi0 : i = 0
        · subst hi0
          rw [Nat.add_zero, List.getElem?_set_self (by rw [h2.1]; omega)]
          exact hz
        · rw [List.getElem?_set_ne (by omega)]
          refine h9.2 i z ?_
          have : i = 1 ∨ i = 2 ∨ i = 3 := by omega
          rcases this with rfl | rfl | rfl <;> exact hz
  · by_cases hjm : j = m
    · rw [put_at hjm] at hb
      intro e
      exact hbg (by rw [hb, ← e]; rfl)
    · rw [put_ne hjm] at hb; exact h4 j hj q hb
  · have big : ∀ i, i < m + 1 → ¬ i = m → ∀ q, (bv i).ownBlock = some q → b'.ownBlock ≠ some q := fun i hi him q hq => by
      rcases hat with e | ⟨r, e, hr⟩
      · rw [e]; exact h5 i m hi (by omega) him q hq
      · rw [e]; intro e2; have := Option.some.inj e2; have := hs hi hq; omega
    by_cases hjm : j = m
    · rw [put_at hjm] at hb
      have hkm : ¬ k = m := by omega
      rw [put_ne hkm]
      exact fun e => big k hk hkm q e hb
    · rw [put_ne hjm] at hb
      by_cases hkm : k = m
      · rw [put_at hkm]; exact big j hj hjm q hb
      · rw [put_ne hkm]; exact h5 j k hj hk hne q hb
theorem Fam.row {a : Option Addr} {cap : Nat} (h : Fam base w (.slice a n cap) n xs bv P tt ts) : TkRow w a n P := by
  refine ⟨h.1, fun k hk => ?_⟩
  obtain ⟨t, ht⟩ := h.at hk
  obtain ⟨h1, h2, h3, h4, h5⟩ := h
  obtain ⟨g, c, hv, hb, hg⟩ := h2.form (by omega)
  injection hv with e1 e2 e3
  subst e1
  obtain ⟨k1, k2⟩ := h3 k t ht
  have hf : ∃ (ab : Option Addr) (nb cb : Nat), bv k = .slice ab nb cb ∧ nb ≤ cb ∧ StRow w ab nb t.b := by
    rcases k1.2 with ⟨hv', h0⟩ | ⟨g', c', cur, hv', _, _, hle, _⟩
    · rw [hv'] at k1 ⊢
      exact ⟨none, 0, 0, rfl, Nat.le_refl _, by rw [h0] at k1; exact StRow.of_own k1⟩
    · rw [hv'] at k1 ⊢
      exact ⟨_, _, _, rfl, hle, StRow.of_own k1⟩
  obtain ⟨ab, nb, cb, e, hle, hst⟩ := hf
  refine ⟨g, 0, t, rfl, hg, ht, ab, nb, cb, fun i u hu => ?_, hle, hst⟩
  have hi : i < 4 := by have := (List.getElem?_eq_some_iff.1 hu).1; simpa [tkC] using this
  rw [Nat.zero_add, h2.cellAt (k * 4 + i) (by omega)]
  exact k2 i u (by rw [e]; exact hu)
end
end Go.Proofs.YtpipnhceajdfkaaGreatDoor.prg

/- The parser's program while it is built: the pointer's block and the rows behind it. -/
namespace Go.Proofs.YtpipnhceajdfkaaGreatDoor.prg
open Go Go.ChangeShapes Go.WideShapes Go.ChangeAt Go.RowKit Go.Proofs.YtpipnhceajdfkaaGreatDoor.row Go.Proofs.YtpipnhceajdfkaaGreatDoor.val Go.Proofs.YtpipnhceajdfkaaGreatDoor.expr Go.Proofs.YtpipnhceajdfkaaGreatDoor.stm Go.Proofs.YtpipnhceajdfkaaGreatDoor.blk Go.Proofs.YtpipnhceajdfkaaGreatDoor.tex Go.Proofs.YtpipnhceajdfkaaGreatDoor.spl

theorem grown_of_below {w w' : World} (h : Below w.heap.size w w') : w.grownBy w' none := ⟨h.os, h.tape, h.output, h.size, fun k hk _ => h.block k hk⟩
/-- The program at the pointer's block 'pb': the row 'v' of tasks and what lies behind it, all at blocks from 'base' on. -/
def Bag (pb base : Nat) (w : World) (v : Value) (n : Nat) (xs : List Value) (bv : Nat → Value) (P : List Tk) : Prop :=
  pb < base ∧ Box pb #[v] 26 w ∧ Fam base w v n xs bv P 42 45
/-- Nothing ahead of the rows is written but the pointer's block. -/
def Keep (pb base : Nat) (w w' : World) : Prop := ∀ g, g < base → g ≠ pb → w'.heap[g]? = w.heap[g]?
theorem Keep.refl (pb base : Nat) (w : World) : Keep pb base w w := fun _ _ _ => rfl
theorem Keep.of_below {pb base : Nat} {w w' : World} (h : Below w.heap.size w w') (hb : base ≤ w.heap.size) : Keep pb base w w' := fun g hg _ => h.block g (by omega)
theorem Keep.trans {pb base : Nat} {w w1 w2 : World} (h : Keep pb base w w1) (h' : Keep pb base w1 w2) : Keep pb base w w2 := fun g hg hn => (h' g hg hn).trans (h g hg hn)
section
variable {pb base n : Nat} {w wr w1 w4 w5 : World} {v : Value} {xs : List Value} {bv : Nat → Value} {P : List Tk}
theorem Bag.below (h : Bag pb base wr v n xs bv P) (hb : Below wr.heap.size wr w1) : Bag pb base w1 v n xs bv P :=
  ⟨h.1, h.2.1.below hb, h.2.2.kept (grown_of_below hb) (fun g e => by cases e)⟩
theorem Bag.cell (h : Bag pb base wr v n xs bv P) : wr.cell? ⟨pb, 0, none⟩ = some v := h.2.1.cell 0
theorem Bag.slice (h : Bag pb base wr v n xs bv P) : ∃ (a : Option Addr) (c : Nat), v = .slice a n c ∧ n ≤ c := by
  rcases h.2.2.2.1.2 with ⟨h1, h2⟩ | ⟨g, c, cur, h1, _, _, hle, _⟩
  · exact ⟨none, 0, by rw [h1, h2], by omega⟩
  · exact ⟨_, c, h1, hle⟩
theorem Bag.push {v4 : Value} {o x y : Int} (h : Bag pb base wr v n xs bv P) (hbs : base ≤ wr.heap.size) (ho : w4.ownsRow base 42 4 v4 (n + 1) (xs ++ [.slice none 0 0, .int .i64 o, .int .i64 x, .int .i64 y])) (hg : wr.grownBy w4 v.ownBlock)
    (hat : v4.ownBlock = v.ownBlock ∨ ∃ q, v4.ownBlock = some q ∧ wr.heap.size ≤ q) :
    (w4.cell? ⟨pb, 0, none⟩ = some v ∧ w4.frozen? ⟨pb, 0, none⟩ = false) ∧ Bag pb base (w4.setCell ⟨pb, 0, none⟩ v4) v4 (n + 1) (xs ++ tkC none 0 0 ⟨[], o, x, y⟩) (put bv n (.slice none 0 0)) (P ++ [⟨[], o, x, y⟩]) ∧ Below pb wr (w4.setCell ⟨pb, 0, none⟩ v4) ∧ Keep pb base wr (w4.setCell ⟨pb, 0, none⟩ v4) := by
  obtain ⟨h1, h3, h4⟩ := h
  have hv := h4.2.1.lt
  have hl := h3.lt
  have low : ∀ b, b < base → some b ≠ v.ownBlock := fun b hb e => by have := (hv b e.symm).1; omega
  have k3 := h3.grown hg (low _ h1)
  have k4 := h4.head ho hg hat
  have k5 : Below pb wr w4 := (Below.refl pb wr).grown hg (by omega) (fun q hq => by have := (hv q hq).1; omega)
  have hs := grown_setCell w4 pb 0 v4
  exact ⟨⟨k3.cell 0, k3.frozen 0⟩, ⟨h1, k3.set 0 v4, k4.kept hs (fun g e => by have := Option.some.inj e; omega)⟩, k5.setCell (p := ⟨pb, 0, none⟩) (Nat.le_refl pb) v4, fun g hgb hne => (heap_setCell_other w4 _ g v4 (by intro e; exact hne e)).trans (hg.block g (by omega) (low g hgb))⟩
theorem Bag.more {g cap m : Nat} {t : Tk} {st : Go.Proofs.YtpipnhceajdfkaaGreatDoor.stm.St} {b' : Value} (h : Bag pb base wr (.slice (some ⟨g, 0, none⟩) (m + 1) cap) (m + 1) xs bv (P ++ [t])) (hbs : base ≤ wr.heap.size)
    (ho : w5.ownsRow base 45 6 b' (t.b.length + 1) (stsC t.b ++ stC st)) (hg : wr.grownBy w5 (bv m).ownBlock) (hat : b'.ownBlock = (bv m).ownBlock ∨ ∃ q, b'.ownBlock = some q ∧ wr.heap.size ≤ q) :
    (w5.cell? ⟨g, m * 4, none⟩ = some (bv m) ∧ w5.frozen? ⟨g, m * 4, none⟩ = false ∧ w5.cell? ⟨pb, 0, none⟩ = some (.slice (some ⟨g, 0, none⟩) (m + 1) cap)) ∧ Bag pb base (w5.setCell ⟨g, m * 4, none⟩ b') (.slice (some ⟨g, 0, none⟩) (m + 1) cap) (m + 1) (xs.set (m * 4) b') (put bv m b') (addSt (P ++ [t]) st) ∧ Below pb wr (w5.setCell ⟨g, m * 4, none⟩ b') ∧ Keep pb base wr (w5.setCell ⟨g, m * 4, none⟩ b') := by
  obtain ⟨h1, h3, h4⟩ := h
  have hP : P.length = m := by have := h4.1; simpa using this
  have hbm := h4.2.2.1 m t (by rw [List.getElem?_append_right (by omega), hP, Nat.sub_self]; rfl)
  have hv := hbm.1.lt
  have hgg := (h4.2.1.lt g rfl).1
  have hl := h3.lt
  have low : ∀ b, b < base → some b ≠ (bv m).ownBlock := fun b hb e => by have := (hv b e.symm).1; omega
  have k3 := h3.grown hg (low _ h1)
  have kr := h4.2.1.kept hg (apart_of (fun q hq e => by cases hq; exact h4.2.2.2.1 m (by omega) g e rfl))
  have k4 := h4.st ho hg hat
  have k5 : Below pb wr w5 := (Below.refl pb wr).grown hg (by omega) (fun q hq => by have := (hv q hq).1; omega)
  have hs := grown_setCell w5 g (m * 4) b'
  have ng : ∀ b, b < base → some b ≠ some g := fun b hb e => by have := Option.some.inj e; omega
  refine ⟨⟨?_, kr.frozenAt _, k3.cell 0⟩, ⟨h1, k3.grown hs (ng _ h1), k4⟩, k5.setCell (p := ⟨g, m * 4, none⟩) (show pb ≤ g by omega) b', fun q hqb hne => (heap_setCell_other w5 _ q b' (by intro e; have e2 : q = g := e; omega)).trans (hg.block q (by omega) (low q hqb))⟩
  rw [kr.cellAt (m * 4) (by omega)]
  exact hbm.2 0 (bv m) rfl
theorem Bag.last {g cap m : Nat} {t : Tk} (h : Bag pb base wr (.slice (some ⟨g, 0, none⟩) (m + 1) cap) (m + 1) xs bv (P ++ [t])) :
    wr.cell? ⟨g, m * 4, none⟩ = some (bv m) ∧ wr.ownsRow base 45 6 (bv m) t.b.length (stsC t.b) ∧ base ≤ g ∧ g < wr.heap.size := by
  obtain ⟨h1, h3, h4⟩ := h
  have hP : P.length = m := by have := h4.1; simpa using this
  have hbm := h4.2.2.1 m t (by rw [List.getElem?_append_right (by omega), hP, Nat.sub_self]; rfl)
  exact ⟨by rw [h4.2.1.cellAt (m * 4) (by omega)]; exact hbm.2 0 (bv m) rfl, hbm.1, (h4.2.1.lt g rfl).1, (h4.2.1.lt g rfl).2⟩
end
theorem cellsS {w : World} {g : Nat} {t : TypeId} {x0 x1 x2 x3 x4 x5 : Value} (h : Box g #[x0, x1, x2, x3, x4, x5] t w) : w.cell? ⟨g, 0, none⟩ = some x0 ∧ w.cell? ⟨g, 1, none⟩ = some x1 ∧ w.cell? ⟨g, 2, none⟩ = some x2 ∧ w.cell? ⟨g, 3, none⟩ = some x3 ∧ w.cell? ⟨g, 4, none⟩ = some x4 ∧ w.cell? ⟨g, 5, none⟩ = some x5 := ⟨h.cell 0, h.cell 1, h.cell 2, h.cell 3, h.cell 4, h.cell 5⟩
theorem infoTaskP : (Tryz.prog.info? 42).map (fun i => (i.zero, i.size, i.bytes)) = some (some (tkV none 0 0 ⟨[], 0, 0, 0⟩), 4, 48) := by kernel_rfl
/-- What a line does to the program. -/
def AddIs (l : List UInt8) (P Q : List Tk) : Prop := (∃ o x y, HeadIs l o x y ∧ Q = P ++ [⟨[], o, x, y⟩]) ∨ (∃ s, StIs l s ∧ Q = addSt P s)
theorem AddIs.built {A : List (List UInt8)} {l : List UInt8} {P Q : List Tk} (h : AddIs l P Q) (hB : Built A P) : Built (A ++ [l]) Q := by
  rcases h with ⟨o, x, y, h, rfl⟩ | ⟨s, h, rfl⟩
  · exact .head hB h
  · exact .st hB h
end Go.Proofs.YtpipnhceajdfkaaGreatDoor.prg
