/- Several texts in one: QBotE. -/
import Derived.Test.YtmgeecdgebemdaaGreatDoorGSigQ19

/- Chapter 16: what stays in memory while a boot goes on, of the program and of the model: the variable of the boot, its memory, what has been used, each in memory of its own. -/
namespace Go.Proofs.YtmgeecdgebemdaaGreatDoor.bot
open Go Go.ChangeShapes Go.WideShapes Go.ChangeAt Go.RowKit Go.Proofs.YtmgeecdgebemdaaGreatDoor.row Go.Proofs.YtmgeecdgebemdaaGreatDoor.val Go.Proofs.YtmgeecdgebemdaaGreatDoor.expr Go.Proofs.YtmgeecdgebemdaaGreatDoor.stm Go.Proofs.YtmgeecdgebemdaaGreatDoor.blk Go.Proofs.YtmgeecdgebemdaaGreatDoor.prg Go.Proofs.YtmgeecdgebemdaaGreatDoor.exe Go.Proofs.YtmgeecdgebemdaaGreatDoor.ctl Go.Proofs.YtmgeecdgebemdaaGreatDoor.mem Go.Proofs.YtmgeecdgebemdaaGreatDoor.grow Go.Proofs.YtmgeecdgebemdaaGreatDoor.wrt Go.Proofs.YtmgeecdgebemdaaGreatDoor.trc
theorem own_not {lo g z : Nat} {w : World} {e : TypeId} {v : Value} {n : Nat} {xs : List Value} (h : w.ownsRow lo e z v n xs) (hg : g < lo) : v.ownBlock = none ∨ v.ownBlock ≠ some g := by
  cases hq : v.ownBlock with
  | none => exact .inl rfl
  | some q => right; intro e; have := (h.lt q hq).1; have := Option.some.inj e; omega
theorem own_noneB (v : Value) : v.ownBlock = none ∨ v.ownBlock ≠ none := by
  cases v.ownBlock with
  | none => exact .inl rfl
  | some q => exact .inr (by simp)
theorem mcapM {w : World} {B : Nat} {a : Option Addr} {n c s : Nat} {e : TypeId} {xs : List Value} (h : w.ownsRow B e s (.slice a n c) n xs) : n ≤ c := by
  rcases h.2 with ⟨e, e0⟩ | ⟨g', c', cur, e, _, _, h9, _⟩
  · cases e; omega
  · cases e; exact h9
/-- Of what was there only blocks 'f' and 'g' have turned. -/
def Pair (f g : Nat) (w w' : World) : Prop := Below 0 w w' ∧ ∀ k, k < w.heap.size → k ≠ f → k ≠ g → w'.heap[k]? = w.heap[k]?
theorem Pair.refl (f g : Nat) (w : World) : Pair f g w w := ⟨Below.refl 0 w, fun _ _ _ _ => rfl⟩
theorem Pair.trans {f g : Nat} {w w1 w2 : World} (h : Pair f g w w1) (h' : Pair f g w1 w2) : Pair f g w w2 := ⟨h.1.trans h'.1, fun k hk h1 h2 => (h'.2 k (Nat.lt_of_lt_of_le hk h.1.size) h1 h2).trans (h.2 k hk h1 h2)⟩
theorem Pair.of_grown {f g r : Nat} {w w1 : World} (h : w.grownBy w1 (some r)) (hr : r = f ∨ r = g) : Pair f g w w1 := ⟨⟨h.os, h.tape, h.output, h.size, fun k hk => by omega⟩, fun k hk h1 h2 => h.block k hk (fun e => by have := Option.some.inj e; omega)⟩
theorem Pair.of_below {f g : Nat} {w w1 : World} (h : Below w.heap.size w w1) : Pair f g w w1 := ⟨h.mono (Nat.zero_le _), fun k hk _ _ => h.block k hk⟩
theorem Pair.box {f g x : Nat} {cs : Array Value} {t : TypeId} {w w' : World} (h : Pair f g w w') (hb : Box x cs t w) (h1 : x ≠ f) (h2 : x ≠ g) : Box x cs t w' := (h.2 x hb.lt h1 h2).trans hb
theorem Pair.own {f g lo z : Nat} {w w' : World} {e : TypeId} {v : Value} {n : Nat} {xs : List Value} (h : Pair f g w w') (ho : w.ownsRow lo e z v n xs) (h1 : f < lo) (h2 : g < lo) : w'.ownsRow lo e z v n xs := by
  refine ⟨ho.1, ?_⟩
  rcases ho.2 with e | ⟨b, c, cur, e, hb, hh, h3⟩
  · exact .inl e
  · exact .inr ⟨b, c, cur, e, hb, by rw [h.2 b (Array.getElem?_eq_some_iff.1 hh).1 (by omega) (by omega)]; exact hh, h3⟩
theorem Pair.low {f g B : Nat} {w w' : World} (h : Pair f g w w') (hB : B ≤ w.heap.size) (hf : B ≤ f) (hg : B ≤ g) : Below B w w' := ⟨h.1.os, h.1.tape, h.1.output, h.1.size, fun k hk => h.2 k (by omega) (by omega) (by omega)⟩
/-- Below 'l' only blocks 'f' and 'g' have turned. -/
def Kp (l f g : Nat) (w w' : World) : Prop := Below 0 w w' ∧ ∀ k, k < l → k ≠ f → k ≠ g → w'.heap[k]? = w.heap[k]?
theorem Kp.refl (l f g : Nat) (w : World) : Kp l f g w w := ⟨Below.refl 0 w, fun _ _ _ _ => rfl⟩
theorem Kp.trans {l f g : Nat} {w w1 w2 : World} (h : Kp l f g w w1) (h' : Kp l f g w1 w2) : Kp l f g w w2 := ⟨h.1.trans h'.1, fun k hk h1 h2 => (h'.2 k hk h1 h2).trans (h.2 k hk h1 h2)⟩
theorem Kp.of_pair {l f g : Nat} {w w1 : World} (h : Pair f g w w1) (hl : l ≤ w.heap.size) : Kp l f g w w1 := ⟨h.1, fun k hk h1 h2 => h.2 k (by omega) h1 h2⟩
theorem Kp.of_below {l f g : Nat} {w w1 : World} (h : Below w.heap.size w w1) (hl : l ≤ w.heap.size) : Kp l f g w w1 := Kp.of_pair (Pair.of_below h) hl
theorem Kp.of_grown {l f g : Nat} {w w1 : World} {r : Option Nat} (h : w.grownBy w1 r) (hl : l ≤ w.heap.size) (hr : ∀ b, r = some b → b = f ∨ b = g ∨ l ≤ b) : Kp l f g w w1 :=
  ⟨⟨h.os, h.tape, h.output, h.size, fun k hk => by omega⟩, fun k hk h1 h2 => h.block k (by omega) (fun e => by have := hr k e.symm; omega)⟩
theorem Kp.box {l f g x : Nat} {cs : Array Value} {t : TypeId} {w w' : World} (h : Kp l f g w w') (hb : Box x cs t w) (hx : x < l) (h1 : x ≠ f) (h2 : x ≠ g) : Box x cs t w' := (h.2 x hx h1 h2).trans hb
/-- Rows of numbers in memory from block 'lo' on, each with a block of its own, none of them block 'r'. -/
def ElO (lo : Nat) (w : World) (r : Option Nat) (CS : List Value) (LL : List (List Int)) : Prop :=
  LL.length = CS.length ∧ (∀ j, j < CS.length → ∃ L ab nb cb, LL[j]? = some L ∧ CS[j]? = some (.slice ab nb cb) ∧ nb ≤ cb ∧ w.ownsRow lo 3 1 (.slice ab nb cb) nb (ivs L) ∧ ∀ g, (Value.slice ab nb cb).ownBlock = some g → r ≠ some g) ∧
    ∀ (i j b : Nat) (v u : Value), i < j → CS[i]? = some v → CS[j]? = some u → v.ownBlock = some b → u.ownBlock ≠ some b
theorem ElO.nil (lo : Nat) (w : World) (r : Option Nat) : ElO lo w r [] [] := ⟨rfl, fun j h => by simp at h, fun i j b v u _ h => by simp at h⟩
theorem ElO.grown {lo : Nat} {w w' : World} {r q : Option Nat} {CS : List Value} {LL : List (List Int)} (h : ElO lo w r CS LL) (hg : w.grownBy w' q) (hq : ∀ b, q = some b → b < lo ∨ r = some b) : ElO lo w' r CS LL :=
  ⟨h.1, fun j hj => by
    obtain ⟨L, ab, nb, cb, h1, h2, h3, h4, h5⟩ := h.2.1 j hj
    refine ⟨L, ab, nb, cb, h1, h2, h3, h4.kept hg ?_, h5⟩
    cases hv : (Value.slice ab nb cb).ownBlock with
    | none => exact .inl rfl
    | some b =>
      right
      intro e
      rcases hq b e.symm with h8 | h8
      · have := (h4.lt b hv).1; omega
      · exact h5 b hv h8, h.2.2⟩
theorem ElO.below {lo : Nat} {w w' : World} {r : Option Nat} {CS : List Value} {LL : List (List Int)} (h : ElO lo w r CS LL) (hb : Below w.heap.size w w') : ElO lo w' r CS LL :=
  h.grown (grown_below hb none) (fun b e => by cases e)
/-- A row more; all that was there lies below block 'B', the new row behind it, and the table where it was or behind the new row. -/
theorem ElO.next {lo B : Nat} {w : World} {r r' : Option Nat} {CS : List Value} {LL : List (List Int)} (h : ElO lo w r CS LL) (hlt : ∀ (j : Nat) (v : Value) (g : Nat), CS[j]? = some v → v.ownBlock = some g → g < B) (hr : r' = r ∨ ∃ b, r' = some b ∧ B ≤ b) {L : List Int} {ab : Option Addr} {nb cb : Nat} (hc : nb ≤ cb) (hR : w.ownsRow lo 3 1 (.slice ab nb cb) nb (ivs L))
    (hab : ∀ g, (Value.slice ab nb cb).ownBlock = some g → B ≤ g ∧ r' ≠ some g) : ElO lo w r' (CS ++ [.slice ab nb cb]) (LL ++ [L]) := by
  refine ⟨by simp [h.1], fun j hj => ?_, fun i j b v u hij hv hu hb => ?_⟩
  · rw [List.length_append, List.length_singleton] at hj
    by_cases hjl : j < CS.length
    · obtain ⟨L', ab', nb', cb', h1, h2, h3, h4, h5⟩ := h.2.1 j hjl
      refine ⟨L', ab', nb', cb', by rw [List.getElem?_append_left (by rw [h.1]; exact hjl)]; exact h1, by rw [List.getElem?_append_left hjl]; exact h2, h3, h4, fun g e => ?_⟩
      rcases hr with rfl | ⟨b, rfl, hb⟩
      · exact h5 g e
      · intro e2; have := hlt j _ g h2 e; have := Option.some.inj e2; omega
    · obtain rfl : j = CS.length := by omega
      exact ⟨L, ab, nb, cb, by rw [← h.1]; simp, by simp, hc, hR, fun g e => (hab g e).2⟩
  · have hj : j < CS.length + 1 := by have h9 := (List.getElem?_eq_some_iff.1 hu).1; rw [List.length_append, List.length_singleton] at h9; exact h9
    by_cases hjl : j < CS.length
    · rw [List.getElem?_append_left (by omega)] at hv
      rw [List.getElem?_append_left hjl] at hu
      exact h.2.2 i j b v u hij hv hu hb
    · obtain rfl : j = CS.length := by omega
      rw [List.getElem?_append_left hij] at hv
      obtain rfl : Value.slice ab nb cb = u := by simpa using hu
      intro e
      have h1 := hlt i v b hv hb
      have h2 := (hab b e).1
      omega
/-- What a boot keeps: its variable in block 'gb', its memory in block 'gm', what has been used in memory from block 'lu' on. -/
def BAt (w0 : World) (gb gm lu cm : Nat) (au : Option Addr) (nu cu : Nat) (CS : List Value) (s : Bt) (w : World) : Prop :=
  Box gb #[.slice (some ⟨gm, 0, none⟩) 49 cm, .int .i64 s.z, .slice au nu cu, .int .i64 s.e] 34 w ∧ (w0.heap.size ≤ gb ∧ w0.heap.size ≤ gm ∧ gb ≠ gm ∧ gb < lu ∧ gm < lu ∧ lu ≤ w.heap.size ∧ 49 ≤ cm) ∧
    w.ownsRow w0.heap.size 3 1 (.slice (some ⟨gm, 0, none⟩) 49 cm) 49 (ivs s.W) ∧ w.ownsRow lu 27 1 (.slice au nu cu) nu CS ∧ ElO lu w (Value.slice au nu cu).ownBlock CS s.U ∧ Below w0.heap.size w0 w
theorem not_gm {gm q n c : Nat} (h : gm ≠ q) : (Value.slice (some ⟨gm, 0, none⟩) n c).ownBlock = none ∨ (Value.slice (some ⟨gm, 0, none⟩) n c).ownBlock ≠ some q := .inr (by intro e; exact h (Option.some.inj e))
theorem BAt.grown {w0 : World} {gb gm lu cm : Nat} {au : Option Addr} {nu cu : Nat} {CS : List Value} {s : Bt} {w w' : World} (h : BAt w0 gb gm lu cm au nu cu CS s w) {r : Option Nat} (hg : w.grownBy w' r) (hr : ∀ b, r = some b → w0.heap.size ≤ b ∧ b ≠ gb ∧ b ≠ gm ∧ b < lu) : BAt w0 gb gm lu cm au nu cu CS s w' := by
  obtain ⟨h1, ⟨h2, h3, h4, h5, h6, h7, h8⟩, k6, k7, k8, k9⟩ := h
  have hne : ∀ v : Value, (∀ q, v.ownBlock = some q → q = gm ∨ lu ≤ q) → v.ownBlock = none ∨ v.ownBlock ≠ r := fun v hv => by
    cases hq : v.ownBlock with
    | none => exact .inl rfl
    | some q => right; intro e; have := hr q e.symm; have := hv q hq; omega
  exact ⟨h1.grown hg (fun e => (hr gb e.symm).2.1 rfl), ⟨h2, h3, h4, h5, h6, Nat.le_trans h7 hg.size, h8⟩, k6.kept hg (hne _ fun q hq => .inl (Option.some.inj hq).symm), k7.kept hg (hne _ fun q hq => .inr (k7.lt q hq).1), k8.grown hg (fun b e => .inl (hr b e).2.2.2), k9.grown hg k9.size (fun k hk => (hr k hk).1)⟩
theorem BAt.below {w0 : World} {gb gm lu cm : Nat} {au : Option Addr} {nu cu : Nat} {CS : List Value} {s : Bt} {w w' : World} (h : BAt w0 gb gm lu cm au nu cu CS s w) (hb : Below w.heap.size w w') : BAt w0 gb gm lu cm au nu cu CS s w' :=
  h.grown (grown_below hb none) (fun b e => by cases e)
theorem BAt.low {w0 : World} {gb gm lu cm : Nat} {au : Option Addr} {nu cu : Nat} {CS : List Value} {s : Bt} {w w' : World} (h : BAt w0 gb gm lu cm au nu cu CS s w) {g : Nat} (hg : w.grownBy w' (some g)) (h1 : g ≠ gb) (h3 : g ≠ gm) (h4 : g < lu) (h2 : w0.heap.size ≤ g) : BAt w0 gb gm lu cm au nu cu CS s w' :=
  h.grown hg (fun b e => by cases e; exact ⟨h2, h1, h3, h4⟩)
/-- The rows of what has been used may be said to begin later, as long as nothing has been used. -/
theorem BAt.rise {w0 : World} {gb gm lu cm : Nat} {z e : Int} {W : List Int} {w : World} (h : BAt w0 gb gm lu cm none 0 0 [] ⟨W, z, [], e⟩ w) {lu' : Nat} (h1 : lu ≤ lu') (h2 : lu' ≤ w.heap.size) : BAt w0 gb gm lu' cm none 0 0 [] ⟨W, z, [], e⟩ w := by
  obtain ⟨k1, ⟨k2, k3, k4, k5, k6, k7, k8⟩, m6, m7, m8, m9⟩ := h
  exact ⟨k1, ⟨k2, k3, k4, by omega, by omega, h2, k8⟩, m6, World.ownsRow_nil _ _ _ _, ElO.nil _ _ _, m9⟩
/-- What has been used is one row longer. -/
theorem BAt.push {w0 : World} {gb gm lu cm : Nat} {au : Option Addr} {nu cu : Nat} {CS : List Value} {s : Bt} {w w' : World} (h : BAt w0 gb gm lu cm au nu cu CS s w) {ab : Option Addr} {nb cb B : Nat} {L : List Int} {o : Obj} {v : Value} (hc : nb ≤ cb) (hR : w.ownsRow B 3 1 (.slice ab nb cb) nb (ivs L)) (hB : lu ≤ B) (hBs : B ≤ w.heap.size)
    (hold : ∀ (j : Nat) (v : Value) (g : Nat), CS[j]? = some v → v.ownBlock = some g → g < B) (hold2 : ∀ g, (Value.slice au nu cu).ownBlock = some g → g < B)
    (hown : w'.ownsRow lu 27 1 v (nu + 1) (CS ++ [.slice ab nb cb])) (hg : (w.alloc o).grownBy w' (Value.slice au nu cu).ownBlock) (hat : v.ownBlock = (Value.slice au nu cu).ownBlock ∨ v.ownBlock = some (w.alloc o).heap.size) :
    ∃ au' cu', v = .slice au' (nu + 1) cu' ∧ Box gb #[.slice (some ⟨gm, 0, none⟩) 49 cm, .int .i64 s.z, .slice au nu cu, .int .i64 s.e] 34 w' ∧
      BAt w0 gb gm lu cm au' (nu + 1) cu' (CS ++ [.slice ab nb cb]) ⟨s.W, s.z, s.U ++ [L], s.e⟩ (w'.setCell ⟨gb, 2, none⟩ v) ∧ (∀ g, (Value.slice au' (nu + 1) cu').ownBlock = some g → g < w'.heap.size) := by
  have hBw : ∀ g, (Value.slice ab nb cb).ownBlock = some g → B ≤ g ∧ g < w.heap.size := fun g e => hR.lt g e
  obtain ⟨h1, ⟨h2, h3, h4, h5, h6, h7, h8⟩, k6, k7, k8, k9⟩ := h.below (below_new w o)
  have hRn := hR.kept (grown_below (below_new w o) none) (own_noneB _)
  obtain ⟨au', cu', rfl⟩ : ∃ ad cap, v = .slice ad (nu + 1) cap := by
    rcases hown.2 with ⟨e, e0⟩ | ⟨g, c, _, e, _⟩
    · exact absurd e0 (by omega)
    · exact ⟨_, _, e⟩
  have hr : ∀ g, g < lu → some g ≠ (Value.slice au nu cu).ownBlock := fun g hgl e => by have := (k7.lt g e.symm).1; omega
  have q1 := h1.grown hg (hr gb h5)
  have q6 := k6.kept hg (.inr (by intro e; exact hr gm h6 (by rw [← e]; simp [Value.ownBlock])))
  have qR := hRn.kept hg (by
    cases hv : (Value.slice ab nb cb).ownBlock with
    | none => exact .inl rfl
    | some b => right; intro e; have := hold2 b e.symm; have := (hBw b hv).1; omega)
  have qR2 := qR.mono hB
  have q8 := ElO.next (B := B) (r' := (Value.slice au' (nu + 1) cu').ownBlock) (k8.grown hg (fun b e => .inr e)) hold (by
    rcases hat with e | e
    · exact .inl e
    · right
      refine ⟨_, e, ?_⟩
      exact Nat.le_trans hBs (below_new w o).size) hc qR2 (fun g e => ⟨(hBw g e).1, by
      rcases hat with e9 | e9
      · rw [e9]; intro e2; have := hold2 g e2; have := (hBw g e).1; omega
      · rw [e9]; intro e2; have := Option.some.inj e2; have := (hBw g e).2; have := (below_new w o).size; omega⟩)
  have hs := grown_setCell w' gb 2 (.slice au' (nu + 1) cu')
  have q9 : Below w0.heap.size w0 w' := k9.grown hg k9.size (fun k hk => by have := (k7.lt k hk).1; omega)
  exact ⟨au', cu', rfl, q1, ⟨q1.set 2 _, ⟨h2, h3, h4, h5, h6, Nat.le_trans h7 (Nat.le_trans hg.size hs.size), h8⟩, q6.kept hs (not_gm (Ne.symm h4)), hown.kept hs (own_not hown h5), q8.grown hs (fun b e => by cases e; exact .inl h5), q9.grown hs q9.size (fun k hk => by cases hk; exact h2)⟩, fun g e => (hown.lt g e).2⟩
theorem BAt.setE {w0 : World} {gb gm lu cm : Nat} {au : Option Addr} {nu cu : Nat} {CS : List Value} {s : Bt} {w : World} (h : BAt w0 gb gm lu cm au nu cu CS s w) (e' : Int) : BAt w0 gb gm lu cm au nu cu CS ⟨s.W, s.z, s.U, e'⟩ (w.setCell ⟨gb, 3, none⟩ (.int .i64 e')) := by
  obtain ⟨h1, ⟨h2, h3, h4, h5, h6, h7, h8⟩, k6, k7, k8, k9⟩ := h
  have hg := grown_setCell w gb 3 (.int .i64 e')
  exact ⟨h1.set 3 _, ⟨h2, h3, h4, h5, h6, Nat.le_trans h7 hg.size, h8⟩, k6.kept hg (not_gm (Ne.symm h4)), k7.kept hg (own_not k7 h5), k8.grown hg (fun b e => by cases e; exact .inl h5), k9.grown hg k9.size (fun k hk => by cases hk; exact h2)⟩
theorem BAt.setZ {w0 : World} {gb gm lu cm : Nat} {au : Option Addr} {nu cu : Nat} {CS : List Value} {s : Bt} {w : World} (h : BAt w0 gb gm lu cm au nu cu CS s w) (z' : Int) : BAt w0 gb gm lu cm au nu cu CS ⟨s.W, z', s.U, s.e⟩ (w.setCell ⟨gb, 1, none⟩ (.int .i64 z')) := by
  obtain ⟨h1, ⟨h2, h3, h4, h5, h6, h7, h8⟩, k6, k7, k8, k9⟩ := h
  have hg := grown_setCell w gb 1 (.int .i64 z')
  exact ⟨h1.set 1 _, ⟨h2, h3, h4, h5, h6, Nat.le_trans h7 hg.size, h8⟩, k6.kept hg (not_gm (Ne.symm h4)), k7.kept hg (own_not k7 h5), k8.grown hg (fun b e => by cases e; exact .inl h5), k9.grown hg k9.size (fun k hk => by cases hk; exact h2)⟩
theorem BAt.setW {w0 : World} {gb gm lu cm : Nat} {au : Option Addr} {nu cu : Nat} {CS : List Value} {s : Bt} {w : World} (h : BAt w0 gb gm lu cm au nu cu CS s w) (m : Nat) (v : Int) : BAt w0 gb gm lu cm au nu cu CS ⟨s.W.set m v, s.z, s.U, s.e⟩ (w.setCell ⟨gm, m, none⟩ (.int .i64 v)) := by
  obtain ⟨h1, ⟨h2, h3, h4, h5, h6, h7, h8⟩, k6, k7, k8, k9⟩ := h
  have hg := grown_setCell w gm m (.int .i64 v)
  exact ⟨h1.set_other (show gb ≠ gm from h4) _, ⟨h2, h3, h4, h5, h6, Nat.le_trans h7 hg.size, h8⟩, stored_put k6, k7.kept hg (own_not k7 h6), k8.grown hg (fun b e => by cases e; exact .inl h6), k9.grown hg k9.size (fun k hk => by cases hk; exact h3)⟩
theorem BAt.srow {w0 : World} {gb gm lu cm : Nat} {au : Option Addr} {nu cu : Nat} {CS : List Value} {s : Bt} {w : World} (h : BAt w0 gb gm lu cm au nu cu CS s w) : Go.Proofs.YtmgeecdgebemdaaGreatDoor.srow.SRow w au nu s.U ∧ nu ≤ cu := by
  obtain ⟨_, _, _, k7, k8, _⟩ := h
  have hl : CS.length = nu := by have := k7.1; omega
  refine ⟨⟨by rw [k8.1, hl], fun k hk => ?_⟩, mcapM k7⟩
  obtain ⟨g, c', e, _, hgl⟩ := k7.form (by omega)
  cases e
  obtain ⟨L, ab, nb, cb, p1, p2, p3, p4, _⟩ := k8.2.1 k (by omega)
  refine ⟨g, 0, L, ab, nb, cb, rfl, hgl, p1, ?_, p3, Row.of_own p4⟩
  have h1 := k7.cells (g := g) rfl k _ p2
  rw [Addr.add_mid] at h1
  exact h1
theorem BAt.used_lt {w0 : World} {gb gm lu cm : Nat} {au : Option Addr} {nu cu : Nat} {CS : List Value} {s : Bt} {w : World} (h : BAt w0 gb gm lu cm au nu cu CS s w) : (∀ (j : Nat) (v : Value) (g : Nat), CS[j]? = some v → v.ownBlock = some g → g < w.heap.size) ∧ ∀ g, (Value.slice au nu cu).ownBlock = some g → g < w.heap.size := by
  obtain ⟨_, _, _, k7, k8, _⟩ := h
  refine ⟨fun j v g hv hg => ?_, fun g hg => (k7.lt g hg).2⟩
  have hj := (List.getElem?_eq_some_iff.1 hv).1
  obtain ⟨L, ab, nb, cb, p1, p2, p3, p4, _⟩ := k8.2.1 j hj
  rw [hv] at p2; cases p2
  exact (p4.lt g hg).2
/-- What a boot's caller gets. -/
theorem BAt.mem {w0 : World} {gb gm lu cm : Nat} {au : Option Addr} {nu cu : Nat} {CS : List Value} {s : Bt} {w : World} (h : BAt w0 gb gm lu cm au nu cu CS s w) : BotMem w0.heap.size (some ⟨gm, 0, none⟩) 49 cm au nu cu s w := by
  obtain ⟨_, ⟨h2, h3, h4, h5, h6, h7, h8⟩, k6, k7, k8, _⟩ := h
  have hlu : w0.heap.size ≤ lu := by omega
  refine ⟨k6, CS, k7.mono hlu, ⟨k8.1, fun j L hL => ?_⟩, ?_⟩
  · obtain ⟨L', ab, nb, cb, p1, p2, p3, p4, _⟩ := k8.2.1 j (by rw [← k8.1]; exact (List.getElem?_eq_some_iff.1 hL).1)
    rw [hL] at p1; cases p1
    exact ⟨ab, nb, cb, p2, p3, p4.mono hlu⟩
  · intro i j b v u hij hv hu hb
    have hel : ∀ (x : Nat) (y : Value) (g : Nat), CS[x]? = some y → y.ownBlock = some g → lu ≤ g ∧ (Value.slice au nu cu).ownBlock ≠ some g := fun x y g hy hg => by
      obtain ⟨L', ab, nb, cb, p1, p2, p3, p4, p5⟩ := k8.2.1 x (List.getElem?_eq_some_iff.1 hy).1
      rw [hy] at p2; cases p2
      exact ⟨(p4.lt g hg).1, p5 g hg⟩
    match i, j with
    | 0, 0 => omega
    | 0, 1 =>
      cases hv; cases hu
      obtain rfl : gm = b := Option.some.inj hb
      intro e; have := (k7.lt _ e).1; omega
    | 0, j + 2 =>
      cases hv
      obtain rfl : gm = b := Option.some.inj hb
      rw [List.getElem?_cons_succ, List.getElem?_cons_succ] at hu
      intro e; have := (hel j u _ hu e).1; omega
    | 1, 0 => omega
    | 1, 1 => omega
    | 1, j + 2 =>
      rw [List.getElem?_cons_succ, List.getElem?_cons_zero] at hv
      cases hv
      rw [List.getElem?_cons_succ, List.getElem?_cons_succ] at hu
      intro e; exact (hel j u b hu e).2 hb
    | i + 2, 0 => omega
    | i + 2, 1 => omega
    | i + 2, j + 2 =>
      rw [List.getElem?_cons_succ, List.getElem?_cons_succ] at hv hu
      exact k8.2.2 i j b v u (by omega) hv hu hb
theorem BotMem.grown {lo lo' g : Nat} {am : Option Addr} {nm cm : Nat} {au : Option Addr} {nu cu : Nat} {B : Bt} {w w' : World} (h : BotMem lo am nm cm au nu cu B w) (hg : w.grownBy w' (some g)) (hlt : g < lo) (hl : lo' ≤ lo) : BotMem lo' am nm cm au nu cu B w' := by
  obtain ⟨h1, CS, h2, ⟨h3, h4⟩, h5⟩ := h
  refine ⟨(h1.kept hg (own_not h1 hlt)).mono hl, CS, (h2.kept hg (own_not h2 hlt)).mono hl, ⟨h3, fun j L hL => ?_⟩, h5⟩
  obtain ⟨a, n, c, q1, q2, q3⟩ := h4 j L hL
  exact ⟨a, n, c, q1, q2, (q3.kept hg (own_not q3 hlt)).mono hl⟩
theorem BotMem.none {lo : Nat} {am : Option Addr} {nm cm : Nat} {W : List Int} {z e : Int} {w : World} (h : w.ownsRow lo 3 1 (.slice am nm cm) nm (ivs W)) : BotMem lo am nm cm none 0 0 ⟨W, z, [], e⟩ w := by
  refine ⟨h, [], World.ownsRow_nil _ _ _ _, ⟨rfl, fun j L hL => by simp at hL⟩, fun i j b v u hij hv hu hb => ?_⟩
  match i, j with
  | 0, 0 => omega
  | 0, 1 => cases hu; simp [Value.ownBlock]
  | 0, j + 2 => simp at hu
  | i + 1, 0 => omega
  | i + 1, j + 1 => have h9 := (List.getElem?_eq_some_iff.1 hu).1; simp at h9; omega
theorem wrs_snocB {M : List Mic} {k : Nat} {m : Mic} (h : M[k]? = some m) : wrs (M.take (k + 1)) = if m.a = -1 then wrs (M.take k) else wrs (M.take k) ++ [⟨m.a, m.v⟩] := by
  rw [List.take_add_one, h]
  simp only [Option.toList_some, wrs_app]
  split
  · rename_i h1; simp [wrs, h1]
  · rename_i h1; simp [wrs, h1]
theorem RunB.split {P : List Tk} {R : List Int} {N : Nat} {s B : Bt} (h : RunB P R (N + 1) s B) : ∃ M U, TraceIs P s.W R s.z true M U ∧ ((cntE (csts M) s.e < M.length ∧ B = stepB s M (cntE (csts M) s.e)) ∨ (cntE (csts M) s.e = M.length ∧ RunB P R N (nextB s M U) B)) := by
  cases h with
  | stop hT hc => exact ⟨_, _, hT, .inl ⟨hc, rfl⟩⟩
  | next hT hc hr => exact ⟨_, _, hT, .inr ⟨hc, hr⟩⟩
end Go.Proofs.YtmgeecdgebemdaaGreatDoor.bot
