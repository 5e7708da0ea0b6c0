/- Several texts in one: GRow Copy ExeY ExeP BlkD BlkH. -/
import Derived.Test.YtekdnhhmiabngaaGreatGHub2
import Derived.Test.YtekdnhhmiabngaaGreatGHub0
import Derived.Test.YtekdnhhmiabngaaGreatGHub1
import Derived.Test.YtekdnhhmiabngaaGreatGHub12
import Derived.Laws.CopyOwn
import Derived.Lib.SliceRun
import Derived.Deep.Onto
import Derived.Test.YtekdnhhmiabngaaGreatGHub20
import Derived.Laws.Rows
import Derived.Test.YtekdnhhmiabngaaGreatGHub10
import Derived.Test.YtekdnhhmiabngaaGreatGHub18

/- Rows of structs of 'm' cells each: what it is for a slice to read as a list of them, for every kind of struct at once. -/
namespace Go.Proofs.YtekdnhhmiabngaaGreat.grow
open Go Go.ChangeShapes Go.WideShapes Go.ChangeAt Go.RowKit Go.Proofs.YtekdnhhmiabngaaGreat.row

/-- The slice at 'a' of 'n' elements of 'm' cells each reads as the list 'L'. -/
def GRow {α : Type} (C : α → List Value) (m : Nat) (w : World) (a : Option Addr) (n : Nat) (L : List α) : Prop :=
  L.length = n ∧ ∀ k, k < n → ∃ (b off : Nat) (s : α), a = some ⟨b, off, none⟩ ∧ b < w.heap.size ∧ L[k]? = some s ∧ w.rangeAt b (off + k * m) (C s)
theorem GRow.below {α : Type} {C : α → List Value} {m : Nat} {w w' : World} {a : Option Addr} {n : Nat} {L : List α} (h : GRow C m w a n L) (hb : Below w.heap.size w w') : GRow C m w' a n L :=
  ⟨h.1, fun k hk => by
    obtain ⟨b, off, s, rfl, hlt, hs, hr⟩ := h.2 k hk
    exact ⟨b, off, s, rfl, Nat.lt_of_lt_of_le hlt hb.size, hs, fun j v hv => (hb.cell (p := ⟨b, off + k * m + j, none⟩) hlt).trans (hr j v hv)⟩⟩
theorem GRow.grown {α : Type} {C : α → List Value} {m : Nat} {w w' : World} {r : Option Nat} {a : Option Addr} {n : Nat} {L : List α} (h : GRow C m w a n L) (hg : w.grownBy w' r) (hne : ∀ b off, a = some ⟨b, off, none⟩ → some b ≠ r) : GRow C m w' a n L :=
  ⟨h.1, fun k hk => by
    obtain ⟨b, off, s, rfl, hlt, hs, hr⟩ := h.2 k hk
    exact ⟨b, off, s, rfl, Nat.lt_of_lt_of_le hlt hg.size, hs, fun j v hv => hg.cell (hr j v hv) (hne b off rfl)⟩⟩
theorem GRow.nil {α : Type} (C : α → List Value) (m : Nat) (w : World) (a : Option Addr) : GRow C m w a 0 ([] : List α) := ⟨rfl, fun k hk => by omega⟩
theorem GRow.take {α : Type} {C : α → List Value} {m : Nat} {w : World} {a : Option Addr} {n : Nat} {L : List α} (h : GRow C m w a n L) (k : Nat) (hk : k ≤ n) : GRow C m w a k (L.take k) :=
  ⟨by rw [List.length_take, h.1]; omega, fun j hj => by
    obtain ⟨b, off, s, e, hlt, hs, hr⟩ := h.2 j (by omega)
    exact ⟨b, off, s, e, hlt, by rw [List.getElem?_take, if_pos hj]; exact hs, hr⟩⟩
theorem GRow.drop {α : Type} {C : α → List Value} {m : Nat} {w : World} {b off n : Nat} {L : List α} (h : GRow C m w (some ⟨b, off, none⟩) n L) (o : Nat) (ho : o ≤ n) : GRow C m w (some ⟨b, off + o * m, none⟩) (n - o) (L.drop o) :=
  ⟨by rw [List.length_drop, h.1], fun j hj => by
    obtain ⟨b', off', s, e, hlt, hs, hr⟩ := h.2 (o + j) (by omega)
    cases e
    exact ⟨b, off + o * m, s, rfl, hlt, by rw [List.getElem?_drop]; exact hs, by rw [show off + o * m + j * m = off + (o + j) * m by rw [Nat.add_mul]; omega]; exact hr⟩⟩

/-- The cells of a list of structs. -/
def gcs {α : Type} (C : α → List Value) (L : List α) : List Value := L.flatMap C
theorem gcs_len {α : Type} {C : α → List Value} {m : Nat} (hC : ∀ s, (C s).length = m) (L : List α) : (gcs C L).length = L.length * m := by
  induction L with
  | nil => simp [gcs]
  | cons s L ih => simp only [gcs, List.flatMap_cons, List.length_append, List.length_cons] at *; rw [ih, hC, Nat.add_mul]; omega
theorem gcs_app {α : Type} (C : α → List Value) (L M : List α) : gcs C (L ++ M) = gcs C L ++ gcs C M := by simp [gcs]
theorem gcs_one {α : Type} (C : α → List Value) (s : α) : gcs C [s] = C s := by simp [gcs]
theorem gcs_at {α : Type} {C : α → List Value} {m : Nat} (hC : ∀ s, (C s).length = m) {L : List α} {i : Nat} {s : α} (h : L[i]? = some s) (j : Nat) (hj : j < m) : (gcs C L)[i * m + j]? = (C s)[j]? := by
  induction L generalizing i with
  | nil => simp at h
  | cons t L ih =>
    have e : gcs C (t :: L) = C t ++ gcs C L := by simp [gcs]
    have lm : (C t).length = m := hC t
    cases i with
    | zero =>
      simp at h; subst h
      rw [e, List.getElem?_append_left (by omega)]; congr 1; omega
    | succ i =>
      simp at h
      rw [e, List.getElem?_append_right (by rw [lm, Nat.add_mul]; omega), lm, show (i + 1) * m + j - m = i * m + j by rw [Nat.add_mul]; omega]
      exact ih h
theorem GRow.of_box {α : Type} {C : α → List Value} {m : Nat} (hC : ∀ s, (C s).length = m) {w : World} {g n : Nat} {L : List α} {t : TypeId} (h : Box g (gcs C L).toArray t w) (hl : L.length = n) : GRow C m w (some ⟨g, 0, none⟩) n L :=
  ⟨hl, fun k hk => ⟨g, 0, L[k]'(by omega), rfl, h.lt, by simp [show k < L.length by omega], fun j v hv => by
    have hj : j < m := by have := (List.getElem?_eq_some_iff.1 hv).1; rwa [hC] at this
    have h2 := gcs_at hC (L := L) (i := k) (s := L[k]'(by omega)) (by simp [show k < L.length by omega]) j hj
    rw [show 0 + k * m + j = k * m + j by omega, h.cell, List.getElem?_toArray, h2, hv]⟩⟩
theorem GRow.of_own {α : Type} {C : α → List Value} {m : Nat} (hC : ∀ s, (C s).length = m) {w : World} {base : Nat} {a : Option Addr} {n cap : Nat} {L : List α} {t : TypeId} (hm : 0 < m) (h : w.ownsRow base t m (.slice a n cap) n (gcs C L)) : GRow C m w a n L := by
  have hl : L.length = n := by have := h.1; rw [gcs_len hC] at this; exact Nat.eq_of_mul_eq_mul_right hm this
  refine ⟨hl, fun k hk => ?_⟩
  obtain ⟨g, c, hv, _, hg⟩ := h.form (by omega)
  injection hv with h1 h2 h3
  subst h1
  refine ⟨g, 0, L[k], rfl, hg, by simp [hl, hk], fun j v hjv => ?_⟩
  have hj : j < m := by have := (List.getElem?_eq_some_iff.1 hjv).1; rwa [hC] at this
  have h4 := gcs_at hC (L := L) (i := k) (s := L[k]) (by simp [hl, hk]) j hj
  have hlt : k * m + j < n * m := by
    have : (k + 1) * m ≤ n * m := Nat.mul_le_mul_right m hk
    rw [Nat.add_mul] at this; omega
  rw [show 0 + k * m + j = k * m + j by omega, h.cellAt (k * m + j) hlt, h4, hjv]
theorem setAll_mid : ∀ (vs A B C : List Value), B.length = vs.length → setAll (A ++ (B ++ C)).toArray A.length vs = (A ++ (vs ++ C)).toArray
  | [], A, B, C, h => by
    obtain rfl : B = [] := List.eq_nil_of_length_eq_zero h
    rfl
  | v :: r, A, b :: B, C, h => by
    have e : (A ++ (b :: B ++ C)).toArray.setIfInBounds A.length v = ((A ++ [v]) ++ (B ++ C)).toArray := by
      simp [List.setIfInBounds_toArray, List.set_append_right]
    show setAll ((A ++ (b :: B ++ C)).toArray.setIfInBounds A.length v) (A.length + 1) r = _
    rw [e]
    have := setAll_mid r (A ++ [v]) B C (by simpa using h)
    rw [List.length_append, List.length_singleton] at this
    rw [this]; simp
  | _ :: _, _, [], _, h => by simp at h
theorem copy_next {α : Type} {C : α → List Value} {m : Nat} (hC : ∀ s, (C s).length = m) {L : List α} {n k : Nat} {s : α} (z : Value) (hl : L.length = n) (hk : k < n) (hs : L[k]? = some s) :
    setAll (gcs C (L.take k) ++ List.replicate ((n - k) * m) z).toArray (k * m) (C s) = (gcs C (L.take (k + 1)) ++ List.replicate ((n - (k + 1)) * m) z).toArray := by
  have e1 : (n - k) * m = m + (n - (k + 1)) * m := by rw [show n - k = (n - (k + 1)) + 1 by omega, Nat.add_mul]; omega
  have e2 : k * m = (gcs C (L.take k)).length := by rw [gcs_len hC, List.length_take, Nat.min_eq_left (by omega)]
  rw [e1, ← List.replicate_append_replicate, e2, setAll_mid _ _ _ _ (by simp [hC])]
  rw [List.take_add_one, hs, gcs_app]
  simp [gcs]
theorem own_box {w : World} {base g n m : Nat} {t : TypeId} {xs : List Value} (h : w.ownsRow base t m (.slice (some ⟨g, 0, none⟩) n n) n xs) : Box g xs.toArray t w := by
  rcases h.2 with ⟨h0, _⟩ | ⟨g', cap, cur, hv, _, hg, _, _, hs, ht⟩
  · simp at h0
  · simp only [Value.slice.injEq, Option.some.injEq, Addr.mk.injEq, and_true, true_and] at hv
    obtain ⟨rfl, rfl⟩ := hv
    have e : xs = cur.toList := by rw [← ht]; exact List.take_of_length_le (by rw [Array.length_toList, hs]; exact Nat.le_refl _)
    unfold Box
    rw [e, Array.toArray_toList]; exact hg
theorem made_same {zs : Array Value} {z : Value} (hm : 0 < zs.size) (hz : ∀ i, i < zs.size → zs[i]! = z) (n : Nat) : (madeCells zs n).toList = List.replicate n z := by
  apply List.ext_getElem?
  intro j
  by_cases hj : j < n
  · rw [List.getElem?_replicate, if_pos hj]
    simp only [madeCells, Array.toList_map, List.getElem?_map, Array.toList_range, List.getElem?_range hj, Option.map_some]
    rw [hz _ (Nat.mod_lt _ hm)]
  · rw [List.getElem?_eq_none (by rw [Array.length_toList, size_madeCells]; omega), List.getElem?_eq_none (by rw [List.length_replicate]; omega)]
theorem range_lt {w : World} {g o : Nat} {cs : List Value} (h : w.rangeAt g o cs) (hp : 0 < cs.length) : g < w.heap.size :=
  World.block_lt_of_cell? w ⟨g, o + 0, none⟩ (h 0 _ (by rw [List.getElem?_eq_getElem hp]))
theorem range_below {w w' : World} {g o : Nat} {cs : List Value} (h : w.rangeAt g o cs) (hg : g < w.heap.size) (hb : Below w.heap.size w w') : w'.rangeAt g o cs :=
  fun j v hv => (hb.cell (p := ⟨g, o + j, none⟩) hg).trans (h j v hv)
theorem setAll_size : ∀ (vs : List Value) (cs : Array Value) (o : Nat), (setAll cs o vs).size = cs.size
  | [], _, _ => rfl
  | v :: r, cs, o => by show (setAll (cs.setIfInBounds o v) (o + 1) r).size = _; rw [setAll_size r]; simp
theorem setAll_out : ∀ (vs : List Value) (cs : Array Value) (o j : Nat), j < o ∨ o + vs.length ≤ j → (setAll cs o vs)[j]? = cs[j]?
  | [], _, _, _, _ => rfl
  | v :: r, cs, o, j, h => by
    show (setAll (cs.setIfInBounds o v) (o + 1) r)[j]? = _
    rw [setAll_out r _ _ _ (by simp at h; omega)]
    rw [Array.getElem?_setIfInBounds_ne (by simp at h; omega)]
theorem setAll_in : ∀ (vs : List Value) (cs : Array Value) (o i : Nat), i < vs.length → o + vs.length ≤ cs.size → (setAll cs o vs)[o + i]? = vs[i]?
  | [], _, _, _, h, _ => by simp at h
  | v :: r, cs, o, 0, _, hs => by
    show (setAll (cs.setIfInBounds o v) (o + 1) r)[o + 0]? = _
    rw [setAll_out r _ _ _ (by omega)]
    simp at hs
    simp [show o < cs.size by omega]
  | v :: r, cs, o, i + 1, h, hs => by
    show (setAll (cs.setIfInBounds o v) (o + 1) r)[o + (i + 1)]? = _
    have := setAll_in r (cs.setIfInBounds o v) (o + 1) i (by simpa using h) (by simp at hs ⊢; omega)
    rw [show o + (i + 1) = o + 1 + i by omega, this]; simp
/-- The cells from 0 to 'q' hold the numbers from 'k' on. -/
def Nums (cs : Array Value) (k : Int) (q : Nat) : Prop := ∀ j : Nat, j < q → cs[j]? = some (.int .i64 (k + j))
theorem list_of {α : Type} {P : Nat → α → Prop} : ∀ n, (∀ i, i < n → ∃ s, P i s) → ∃ L : List α, L.length = n ∧ ∀ i s, L[i]? = some s → P i s
  | 0, _ => ⟨[], rfl, fun i s h => by simp at h⟩
  | n + 1, h => by
    obtain ⟨L, hl, hL⟩ := list_of n (fun i hi => h i (by omega))
    obtain ⟨s, hs⟩ := h n (by omega)
    refine ⟨L ++ [s], by simp [hl], fun i t ht => ?_⟩
    by_cases hi : i < L.length
    · rw [List.getElem?_append_left hi] at ht; exact hL i t ht
    · have hil := (List.getElem?_eq_some_iff.1 ht).1
      simp at hil
      obtain rfl : i = n := by omega
      rw [List.getElem?_append_right (by omega), hl, Nat.sub_self] at ht
      simp at ht; subst ht; exact hs
end Go.Proofs.YtekdnhhmiabngaaGreat.grow

/- A copy of a row of numbers in new memory: the program's copyOf; nothing that was there is written. -/
namespace Go.Proofs.YtekdnhhmiabngaaGreat.cop
open Go Go.ChangeShapes Go.WideShapes Go.ChangeAt Go.RowKit Go.Proofs.YtekdnhhmiabngaaGreat.row Go.Proofs.YtekdnhhmiabngaaGreat.val Go.Proofs.YtekdnhhmiabngaaGreat.expr Go.Proofs.YtekdnhhmiabngaaGreat.grow

theorem row_range {w : World} {b off n : Nat} {L : List Int} (h : Row w (some ⟨b, off, none⟩) n L) : w.rangeAt b off (ivs L) := by
  intro j v hj
  have hjl : j < n := by have := (List.getElem?_eq_some_iff.1 hj).1; rw [ivs_length] at this; have := h.1; omega
  obtain ⟨b', off', x, e, _, hx, hc⟩ := h.2 j hjl
  cases e
  rw [hc]
  simp [ivs, hx] at hj
  rw [hj]
theorem row_some {w : World} {a : Option Addr} {n : Nat} {L : List Int} (h : Row w a n L) (hn : 0 < n) : ∃ b off, a = some ⟨b, off, none⟩ := by
  obtain ⟨b, off, _, e, _⟩ := h.2 0 hn
  exact ⟨b, off, e⟩
theorem ivs_one (L : List Int) : ∀ v ∈ ivs L, v.oneCell' = true := by intro v hv; obtain ⟨x, _, rfl⟩ := List.mem_map.1 hv; rfl
theorem box_row {w : World} {g n : Nat} {L : List Int} {t : TypeId} (h : Box g (ivs L).toArray t w) (hn : L.length = n) : Row w (some ⟨g, 0, none⟩) n L :=
  ⟨hn, fun k hk => ⟨g, 0, L[k]'(by omega), rfl, h.lt, by simp [show k < L.length by omega], by rw [h.cell]; simp [ivs, show k < L.length by omega]⟩⟩
theorem box_own {w : World} {B g n : Nat} {L : List Int} {t : TypeId} (h : Box g (ivs L).toArray t w) (hB : B ≤ g) (hl : L.length = n) (hn : n ≤ maxLen) : w.ownsRow B t 1 (.slice (some ⟨g, 0, none⟩) n n) n (ivs L) :=
  ⟨by simp [ivs, hl], .inr ⟨g, n, (ivs L).toArray, rfl, hB, h, Nat.le_refl _, hn, by simp [ivs, hl], by rw [Nat.mul_one]; exact List.take_of_length_le (by simp [ivs, hl])⟩⟩
/-- A new row of 'n' words in the first new block. -/
def NewAt (w : World) (n : Nat) (L : List Int) (e : Ending) (w' : World) : Prop :=
  ∃ g, e = .returned (.slice (some ⟨g, 0, none⟩) n n) ∧ w.heap.size ≤ g ∧ Box g (ivs L).toArray 3 w' ∧ Below w.heap.size w w'
theorem NewAt.ints {w : World} {n : Nat} {L : List Int} {e : Ending} {w' : World} (h : NewAt w n L e w') (hl : L.length = n) (hn : (n : Int) ≤ 1048576) : NewInts w L e w' := by
  obtain ⟨g, h1, h2, h3, h4⟩ := h
  exact ⟨_, _, _, h1, box_own h3 h2 hl (by unfold maxLen; omega), h4⟩
theorem splice_all {n : Nat} {L : List Int} (hl : L.length = n) : splice (ivs (List.replicate n 0)) 0 (ivs L) = ivs L := by simp [splice, ivs, hl]

set_option maxHeartbeats 1000000 in
set_option maxRecDepth 100000 in
theorem impl_copyof (w : World) (a : Option Addr) (n cap : Nat) (L : List Int) (hn : (n : Int) ≤ 1048576) (h : Row w a n L) :
    Calls Tryz.prog 83 #[.slice a n cap] w (NewAt w n L) := by
  obtain ⟨i0, hi, hz0, hz1, hz2⟩ := info_parts infoInt
  have HL := Lib.hid (show (ivs L).length = Nat.min n n by rw [ivs_length, h.1]; simp)
  have HF := Lib.hid (show 0 + (ivs L).length ≤ (ivs (List.replicate n 0)).length by simp [ivs, h.1])
  have HP : Hid (∀ w' : World, Below w.heap.size w w' → 0 < (ivs L).length → ∃ ad, a = some ad ∧ ∀ j v, (ivs L)[j]? = some v → w'.cell? (ad.add j) = some v) := fun w' hb h0 => by
    obtain ⟨b, off, rfl⟩ := row_some h (by rw [ivs_length, h.1] at h0; exact h0)
    exact ⟨_, rfl, fun j v hj => by rw [Addr.add_mid]; exact row_range (h.below hb) j v hj⟩
  have H1 := Lib.hid (ivs_one L)
  have HS := Lib.hid (splice_all h.1)
  clear h
  go_enter Tryz.func83, Tryz.ntmps83
  go_wp2_with ((refine wpList_make_full _ rfl _ _ 28 rfl w.heap.size 3 i0 _ 1 Tryz.underlying28 hi hz0 hz1 .i64 .i64 _ _ n rfl rfl rfl rfl (by rw [hz2]; omega) (by unfold maxLen; omega) (Nat.le_refl _) ?_); intro w1 hown1 hg1; refine Hid.out ?_)
  rw [made_zeros] at hown1
  have HX := Lib.hid (And.intro (own_box hown1) (below_grown hg1))
  clear hown1 hg1
  refine Lib.hid ?_
  go_wp2_with (refine wpList_copy_splice rfl _ _ 28 28 rfl 3 Tryz.underlying28 (by kernel_rfl) _ _ n n n cap rfl rfl w.heap.size 0 (ivs (List.replicate n 0)) 3 HX.out.1 (ivs L) HL.out (fun h0 => ⟨rfl, HP.out _ HX.out.2 h0⟩) HF.out H1.out w.heap.size w HX.out.2 (Nat.le_refl _) ?_; intro w3 hx3 hb3)
  go_ret
  exact ⟨w.heap.size, rfl, Nat.le_refl _, by have := hx3.out; rw [HS.out] at this; exact this, hb3⟩
end Go.Proofs.YtekdnhhmiabngaaGreat.cop

/- Chapter 12 of the program: executionOf: a valid block executed from given variables, in new memory; nothing that was there is written. -/
namespace Go.Proofs.YtekdnhhmiabngaaGreat.exe
open Go Go.ChangeShapes Go.WideShapes Go.ChangeAt Go.RowKit Go.Proofs.YtekdnhhmiabngaaGreat.row Go.Proofs.YtekdnhhmiabngaaGreat.val Go.Proofs.YtekdnhhmiabngaaGreat.expr Go.Proofs.YtekdnhhmiabngaaGreat.stm Go.Proofs.YtekdnhhmiabngaaGreat.blk Go.Proofs.YtekdnhhmiabngaaGreat.sets Go.Proofs.YtekdnhhmiabngaaGreat.rss
/-- The rows of an execution that has come to the state 'y', in new memory. -/
structure PxR (B gv cv : Nat) (a1 : Option Addr) (n1 c1 : Nat) (a2 : Option Addr) (n2 c2 : Nat) (y : Sx) (w : World) : Prop where
  vars : w.ownsRow B 3 1 (.slice (some ⟨gv, 0, none⟩) 8 cv) 8 (ivs y.V)
  sent : w.ownsRow B 3 1 (.slice a1 n1 c1) n1 (ivs y.S)
  used : w.ownsRow B 3 1 (.slice a2 n2 c2) n2 (ivs y.U)
  sv : (Value.slice a1 n1 c1).ownBlock ≠ some gv
  uv : (Value.slice a2 n2 c2).ownBlock ≠ some gv
  su : (Value.slice a1 n1 c1).ownBlock = none ∨ (Value.slice a1 n1 c1).ownBlock ≠ (Value.slice a2 n2 c2).ownBlock
theorem PxR.below {B gv cv : Nat} {a1 : Option Addr} {n1 c1 : Nat} {a2 : Option Addr} {n2 c2 : Nat} {y : Sx} {w w' : World} (h : PxR B gv cv a1 n1 c1 a2 n2 c2 y w) (hb : Below w.heap.size w w') : PxR B gv cv a1 n1 c1 a2 n2 c2 y w' :=
  ⟨h.vars.kept (grown_below hb none) (.inr (by simp [Value.ownBlock])), h.sent.kept (grown_below hb none) (by cases a1 <;> simp [Value.ownBlock]), h.used.kept (grown_below hb none) (by cases a2 <;> simp [Value.ownBlock]), h.sv, h.uv, h.su⟩
/-- A block below the base is written: the rows stay. -/
theorem PxR.under {B C q gv cv : Nat} {a1 : Option Addr} {n1 c1 : Nat} {a2 : Option Addr} {n2 c2 : Nat} {y : Sx} {w w' : World} (h : PxR B gv cv a1 n1 c1 a2 n2 c2 y w) (hg : w.grownBy w' (some q)) (hq : q < B) (hC : C ≤ B) : PxR C gv cv a1 n1 c1 a2 n2 c2 y w' :=
  ⟨(h.vars.kept hg (.inr (fun e => by have := (h.vars.lt _ e).1; omega))).mono hC, (h.sent.kept hg (.inr (fun e => by have := (h.sent.lt _ e).1; omega))).mono hC, (h.used.kept hg (.inr (fun e => by have := (h.used.lt _ e).1; omega))).mono hC, h.sv, h.uv, h.su⟩
theorem PxR.vrow {B gv cv : Nat} {a1 : Option Addr} {n1 c1 : Nat} {a2 : Option Addr} {n2 c2 : Nat} {y : Sx} {w : World} (h : PxR B gv cv a1 n1 c1 a2 n2 c2 y w) : Row w (some ⟨gv, 0, none⟩) 8 y.V := Row.of_own h.vars
theorem PxR.ulen {B gv cv : Nat} {a1 : Option Addr} {n1 c1 : Nat} {a2 : Option Addr} {n2 c2 : Nat} {y : Sx} {w : World} (h : PxR B gv cv a1 n1 c1 a2 n2 c2 y w) : y.U.length = n2 := own_len h.used
abbrev zero4P : Array Value := #[.slice none 0 0, .slice none 0 0, .slice none 0 0, .nilFunc, .nilFunc]
abbrev fnQ : Value := .func (.func 100) #[] #[]
theorem PxAt.parts {B g : Nat} {p : Pp} {c : PCf} {o : Obs B} {y : Sx} {t : o.τ} {F : List (Option Nat)} {w : World} (h : PxAt B g p c o y t F w) : PxR B p.gv p.cv p.a1 p.n1 p.c1 p.a2 p.n2 p.c2 y w :=
  ⟨h.vars, h.sent, h.used, fun e => by
      rcases h.rows.apart (i := 1) (j := 0) rfl rfl (by decide) with h1 | h1
      · rw [e] at h1; cases h1
      · exact h1 e,
    fun e => by
      rcases h.rows.apart (i := 2) (j := 0) rfl rfl (by decide) with h1 | h1
      · rw [e] at h1; cases h1
      · exact h1 e,
    h.rows.apart (i := 1) (j := 2) rfl rfl (by decide)⟩
theorem fn_func (c : PCf) {w : World} (h : CapAt c w) : ∃ (fk : Fn) (fc : Array Value), c.fn = .func fk #[] fc := by
  unfold PCf.fn
  split
  · have h9 := (h.2.1 (by assumption)).1
    first
      | exact ⟨_, _, rfl⟩
      | exact (h9 : False).elim
  · have h9 := h.2.2 (by simpa using (by assumption : ¬ c.lv = true))
    first
      | exact ⟨_, _, rfl⟩
      | exact (h9 : False).elim
theorem sep_start {g gv : Nat} (h : gv ≠ g) : Sep [some g, some gv, none, none] := by
  have key : ∀ (i b : Nat), ([some g, some gv, none, none] : List (Option Nat))[i]? = some (some b) → (i = 0 ∧ b = g) ∨ (i = 1 ∧ b = gv) := by
    intro i b h
    match i, h with
    | 0, h => exact .inl ⟨rfl, (Option.some.inj (Option.some.inj h)).symm⟩
    | 1, h => exact .inr ⟨rfl, (Option.some.inj (Option.some.inj h)).symm⟩
    | 2, h => simp at h
    | 3, h => simp at h
    | i + 4, h => simp at h
  intro i j b hi hj
  rcases key i b hi with ⟨e1, e2⟩ | ⟨e1, e2⟩ <;> rcases key j b hj with ⟨f1, f2⟩ | ⟨f1, f2⟩ <;> omega
set_option maxRecDepth 100000 in
/-- The observer that nothing is done in. -/
def quietO (B : Nat) : Obs B where
  toObm := deaf
  k := 100
  fc := #[]
  ent := fun _ _ => by kernel_rfl
  At := fun _ F _ => F = []
  base := fun _ F _ h j b e => by rw [h] at e; simp at e
  stay := fun _ _ _ _ h _ _ => h
def QuietOut (w : World) (e : Ending) (w' : World) : Prop := e = .returned (.tuple #[]) ∧ Below w.heap.size w w'
set_option maxRecDepth 100000 in
theorem impl_quiet (s : Sm) (v : Int) (w : World) : Calls Tryz.prog 100 #[.agg (stmA s), .int .i64 v] w (QuietOut w) := by
  go_enter Tryz.func100, Tryz.ntmps100
  go_wp2
  exact bodyPost_ret (results_none rfl _ _ _) rfl ⟨rfl, below_new w _⟩
theorem quiet_tells (w0 : World) (c : PCf) (g : Nat) : Tells w0 c (quietO w0.heap.size) g := by
  intro w p F x t s v _ _ _ _ _ _ h
  have hF : F = [] := h.ob
  have e : (#[Value.agg (stmA s), .int .i64 v] ++ (quietO w0.heap.size).fc) = #[.agg (stmA s), .int .i64 v] := by simp [quietO]
  rw [e]
  refine (impl_quiet s v w).mono ?_
  rintro e w' ⟨rfl, hb⟩
  exact ⟨rfl, [], rfl, by rw [hF]; exact Mv.of_below _ hb⟩
/-- The call returns the state 'y', in new memory. -/
def ExOf (w : World) (c : PCf) (y : Sx) (e : Ending) (w' : World) : Prop :=
  ∃ (gv cv : Nat) (a1 : Option Addr) (n1 c1 : Nat) (a2 : Option Addr) (n2 c2 : Nat), e = .returned (.agg #[.slice (some ⟨gv, 0, none⟩) 8 cv, .slice a1 n1 c1, .slice a2 n2 c2, c.fn, fnQ]) ∧ Hid (PxR w.heap.size gv cv a1 n1 c1 a2 n2 c2 y w') ∧ Below w.heap.size w w'
set_option maxHeartbeats 8000000 in
set_option maxRecDepth 100000 in
theorem impl_execof (w : World) (c : PCf) (hcS : PCfS c w) (hc : CapAt c w) (aL : Option Addr) (n cap : Nat) (L : List Sm) (hcap : n ≤ cap) (hL : StRow w aL n L) (hb : IsBlk L) (T : Fst) (hT : Par L 0 L.length T) (ad : Option Addr) (nv cv : Nat) (V : List Int) (hnv : (nv : Int) ≤ 1048576) (hV : Row w ad nv V) (hvo : varsOk V = true) (y : Sx) (hy : exec c.src T ⟨V, [], []⟩ = y) :
    Calls Tryz.prog 59 #[.slice aL n cap, .slice ad nv cv, c.fn] w (ExOf w c y) := by
  obtain ⟨W, hW⟩ : ∃ W, w.alloc (.cells zero4P 87) = W := ⟨_, rfl⟩
  have hbW : Below w.heap.size w W := by rw [← hW]; exact below_new w _
  have hbx : Box w.heap.size zero4P 87 W := by rw [← hW]; exact Box.new w _ _
  have hWl : w.heap.size < W.heap.size := hbx.lt
  have HW := Lib.hid hW
  obtain ⟨fk, fc, hfv⟩ := fn_func c hc
  have H0 := Lib.hid (And.intro hbx (And.intro hbW (And.intro (And.intro (hcS.below hbW) (hc.below hbW)) (And.intro (hL.below hbW) (hV.below hbW)))))
  have HBK := Lib.hid (And.intro hb (And.intro hT hvo))
  have hV8 := ((varsOk_iff V).1 hvo).1
  obtain rfl : nv = 8 := by have := hV.1; omega
  have htot : totZ (o := (quietO W.heap.size).toObm) (⟨V, [], []⟩, ()) + cntZ T ≤ 50000 := by
    have := cntZ_small hb hT
    simp [totZ, tot, quietO, deaf]; omega
  have HF := Lib.hid hfv
  have HY := Lib.hid hy
  have HCL := Lib.hid (show ∀ (j b : Nat), c.cap[j]? = some (some b) → b < w.heap.size from hc.lt)
  clear hc hcS hL hb hT hV hvo hW hbW hbx hy hfv
  rw [HF.out]
  go_enter Tryz.func59, Tryz.ntmps59
  go_wp2_with (go_at_call 83; rw [HW.out]; (with_reducible refine (cop.impl_copyof _ ad 8 cv V hnv H0.out.2.2.2.2).mono ?_); rintro e w1 ⟨g1, rfl, hg1, hx1, hb1⟩; refine Hid.out ?_)
  have H1 := Lib.hid (And.intro hx1 hb1)
  have hg1l : g1 < w1.heap.size := hx1.lt
  have HX := Lib.hid (And.intro (Box.new w1 zero4P 87) (below_new w1 (.cells zero4P 87)))
  clear hx1 hb1
  refine Lib.hid ?_
  go_wp2_with ((refine wpList_store_box rfl 87 _ _ rfl w1.heap.size _ _ HX.out.1 #[.slice (some ⟨g1, 0, none⟩) 8 8, .slice none 0 0, .slice none 0 0, .func fk #[] fc, fnQ] rfl rfl rfl (by kernel_rfl) (by simp [Value.oneCell']) ?_); intro w3 hx3 hg3; refine Hid.out ?_)
  have hb3 : Below w1.heap.size w1 w3 := HX.out.2.grown hg3 HX.out.2.size (fun k hk => by cases hk; exact Nat.le_refl _)
  have hWw := H1.out.2.size
  have hPx : PxAt W.heap.size w1.heap.size ⟨g1, 8, none, 0, 0, none, 0, 0⟩ c (quietO W.heap.size) ⟨V, [], []⟩ () [] w3 := by
    refine ⟨?_, ⟨by omega, hx3.lt, ?_, sep_start (gv := g1) (by omega)⟩, H0.out.2.2.1.2.below (below_then H1.out.2 hb3), rfl, Dj.nil _, ?_, (Dj.nil _).symm⟩
    · show Box _ #[_, _, _, c.fn, _] _ _
      rw [HF.out]; exact hx3
    · intro j r hr
      match j, hr with
      | 0, hr => cases hr; exact (cop.box_own (H1.out.1) hg1 hV8 (by unfold maxLen; omega)).kept (grown_below hb3 none) (.inr (by simp [Value.ownBlock]))
      | 1, hr => cases hr; exact World.ownsRow_nil _ _ _ _
      | 2, hr => cases hr; exact World.ownsRow_nil _ _ _ _
      | j + 3, hr => simp [pxL] at hr
    · intro i j b hi hj
      have h1 := HCL.out j b hj
      have h2 : b = w1.heap.size ∨ b = g1 := by
        match i, hi with
        | 0, hi => exact .inl (Option.some.inj (Option.some.inj hi)).symm
        | 1, hi => exact .inr (Option.some.inj (Option.some.inj hi)).symm
        | 2, hi => simp [pxB, blks, pxL, Value.ownBlock] at hi
        | 3, hi => simp [pxB, blks, pxL, Value.ownBlock] at hi
        | i + 4, hi => simp [pxB, blks, pxL] at hi
      omega
  have HBW3 := Lib.hid (H1.out.2.trans (hb3.mono H1.out.2.size))
  have HRUN := Lib.hid (impl_run W c (quietO W.heap.size) H0.out.2.2.1.1 w1.heap.size (quiet_tells W c _) n aL n cap L T (⟨V, [], []⟩, ()) w3 (Nat.le_refl _) hcap H0.out.2.2.2.1 HBK.out.1 HBK.out.2.1 HBK.out.2.2 htot HBW3.out ⟨_, _, hPx⟩)
  clear hx3 hg3 hb3 hPx
  refine Lib.hid ?_
  go_wp2_with (go_at_call 101; (with_reducible refine HRUN.out.mono ?_); rintro e w4 ⟨rfl, hb4, ⟨gv, cv4, a1, n1, c1, a2, n2, c2⟩, F4, hr4⟩; refine Hid.out ?_)
  have hx4 : Box w1.heap.size #[.slice (some ⟨gv, 0, none⟩) 8 cv4, .slice a1 n1 c1, .slice a2 n2 c2, .func fk #[] fc, fnQ] 87 w4 := by
    have := hr4.box
    unfold pxC at this; dsimp only at this; rw [HF.out] at this; exact this
  have hr4y := hr4.parts
  rw [execZ_fst, HY.out] at hr4y
  have H4 := Lib.hid (And.intro hx4 (And.intro (show Box w.heap.size zero4P 87 w4 from (hb4.block _ hWl).trans H0.out.1) (And.intro hr4y (H0.out.2.1.trans (hb4.mono (Nat.le_of_lt hWl))))))
  clear hb4 hr4 hx4 hr4y
  refine Lib.hid ?_
  go_wp2_with (first
    | (refine wpList_load_row rfl 87 _ rfl w1.heap.size rfl _ _ _ _ H4.out.1 Tryz.underlying87 rfl (by kernel_rfl) ?_)
    | ((refine wpList_store_box rfl 87 _ _ rfl w.heap.size _ _ H4.out.2.1 #[.slice (some ⟨gv, 0, none⟩) 8 cv4, .slice a1 n1 c1, .slice a2 n2 c2, .func fk #[] fc, fnQ] rfl rfl rfl (by kernel_rfl) (by simp [Value.oneCell']) ?_); intro w5 hx5 hg5; refine Hid.out ?_))
  have H5 := Lib.hid (And.intro hx5 (And.intro (H4.out.2.2.1.under hg5 hWl (Nat.le_of_lt hWl)) (H4.out.2.2.2.grown hg5 H4.out.2.2.2.size (fun k hk => by cases hk; exact Nat.le_refl _))))
  clear hx5 hg5
  refine Lib.hid ?_
  go_wp2
  refine bodyPost_ret (v := .agg #[.slice (some ⟨gv, 0, none⟩) 8 cv4, .slice a1 n1 c1, .slice a2 n2 c2, .func fk #[] fc, fnQ]) (results_cell_row rfl _ _ w.heap.size _ _ _ _ rfl H5.out.1 Tryz.underlying87 rfl (by kernel_rfl)) rfl ?_
  exact ⟨gv, cv4, a1, n1, c1, a2, n2, c2, by rw [HF.out], H5.out.2.1, H5.out.2.2⟩
end Go.Proofs.YtekdnhhmiabngaaGreat.exe

/- What the program's ReadSensor, TaskEffect and SensesOf are to give: the shapes of their contracts. -/
namespace Go.Proofs.YtekdnhhmiabngaaGreat.exe
open Go Go.ChangeShapes Go.WideShapes Go.ChangeAt Go.RowKit Go.Proofs.YtekdnhhmiabngaaGreat.row Go.Proofs.YtekdnhhmiabngaaGreat.val Go.Proofs.YtekdnhhmiabngaaGreat.expr Go.Proofs.YtekdnhhmiabngaaGreat.stm Go.Proofs.YtekdnhhmiabngaaGreat.blk Go.Proofs.YtekdnhhmiabngaaGreat.prg
abbrev RsC : Prop := ∀ (w : World) (a : Option Addr) (n cap : Nat) (R : List Int) (_ : (n : Int) ≤ 1048576) (_ : Row w a n R) (q m : Int), Calls Tryz.prog 121 #[.slice a n cap, .int .i64 q, .int .i64 m] w (BelI w (readS R q m))
abbrev TeC : Prop := ∀ (a : Option Addr) (n cap : Nat) (P : List Tk) (_ : Sizes P) (_ : n ≤ cap) (w : World) (_ : TkRow w a n P) (ad : Option Addr) (nv cv : Nat) (V : List Int) (_ : (nv : Int) ≤ 1048576) (_ : nv ≤ cv) (_ : Row w ad nv V) (ay : Option Addr) (ny cy : Nat) (Y : List Int) (_ : (ny : Int) ≤ 1048576) (_ : ny ≤ cy) (_ : Row w ay ny Y)
    (i : Int) (r : Bool) (E : Eff) (_ : EffIs P V Y i r E), Calls Tryz.prog 16 #[.agg #[.slice a n cap], .int .i64 i, .slice ad nv cv, .slice ay ny cy] w (NewEffB w r E)
abbrev SoC : Prop := ∀ (a : Option Addr) (n cap : Nat) (P : List Tk) (_ : Sizes P) (_ : n ≤ cap) (w : World) (_ : TkRow w a n P) (ad : Option Addr) (nv cv : Nat) (V : List Int) (_ : (nv : Int) ≤ 1048576) (_ : nv ≤ cv) (_ : Row w ad nv V) (ar : Option Addr) (nr cr : Nat) (R : List Int) (_ : (nr : Int) ≤ 1048576) (_ : nr ≤ cr) (_ : Row w ar nr R)
    (i z : Int) (U : List Int) (_ : SensIs P V R i z U), Calls Tryz.prog 36 #[.agg #[.slice a n cap], .int .i64 i, .slice ad nv cv, .slice ar nr cr, .int .i64 z] w (NewInts w U)
end Go.Proofs.YtekdnhhmiabngaaGreat.exe

/- Chapter 5's model: DepthOf: the height ahead of the statement; nothing that was there is written. -/
namespace Go.Proofs.YtekdnhhmiabngaaGreat.blk
open Go Go.ChangeShapes Go.WideShapes Go.ChangeAt Go.RowKit Go.Proofs.YtekdnhhmiabngaaGreat.row Go.Proofs.YtekdnhhmiabngaaGreat.val Go.Proofs.YtekdnhhmiabngaaGreat.expr Go.Proofs.YtekdnhhmiabngaaGreat.stm

theorem depthIs_not {L : List Go.Proofs.YtekdnhhmiabngaaGreat.stm.St} {i x : Int} (h : DepthIs L i x) (hn : ¬ IsBlk L ∨ i < 0 ∨ (L.length : Int) ≤ i) : x = -1 := by
  rcases h with ⟨j, rfl, hl, hb, rfl⟩ | ⟨rfl, _⟩
  · rcases hn with hn | hn | hn
    · exact absurd hb hn
    · omega
    · omega
  · rfl
theorem depthIs_yes {L : List Go.Proofs.YtekdnhhmiabngaaGreat.stm.St} {j : Nat} {x : Int} (h : DepthIs L j x) (hb : IsBlk L) (hl : j < L.length) : x = hAt L j := h.unique (.inl ⟨j, rfl, hl, hb, rfl⟩)
end Go.Proofs.YtekdnhhmiabngaaGreat.blk

/- Chapter 5's program: DepthOf: the height ahead of the statement; nothing that was there is written. -/
namespace Go.Proofs.YtekdnhhmiabngaaGreat.blk
open Go Go.ChangeShapes Go.WideShapes Go.ChangeAt Go.RowKit Go.Proofs.YtekdnhhmiabngaaGreat.row Go.Proofs.YtekdnhhmiabngaaGreat.val Go.Proofs.YtekdnhhmiabngaaGreat.expr Go.Proofs.YtekdnhhmiabngaaGreat.stm

end Go.Proofs.YtekdnhhmiabngaaGreat.blk
