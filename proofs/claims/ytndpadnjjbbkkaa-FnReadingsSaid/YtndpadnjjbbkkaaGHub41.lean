/- Several texts in one: ReadB ReadD. -/
import Derived.Test.YtndpadnjjbbkkaaShelf
import Derived.Test.YtndpadnjjbbkkaaGHub0
import Derived.Test.YtndpadnjjbbkkaaGHub6
import Derived.Shelf.Sort.Plain
import Derived.Shelf.Slices.CompactI
import Derived.Sort.OwnSortedInts
import Derived.Lib.OwnBridge
import Derived.Test.YtndpadnjjbbkkaaGHub19
import Derived.Test.YtndpadnjjbbkkaaGHub7
import Derived.Laws.Rows
import Derived.Maps.AppendAt

/- The library's slices.Sort and slices.Compact over a row of numbers of the call's own: the sorted row, then the row of the single ones; no condition but the row's length. -/
namespace Go.Proofs.Ytndpadnjjbbkkaa.expr
open Go.ChangeShapes Go.WideShapes Go.ChangeAt Go.RowKit Go.Sort Go.Proofs.Ytndpadnjjbbkkaa.row

/-- A row of the call's own, at the head of its block. -/
def Own (B g n cap : Nat) (L : List Int) (w : World) : Prop := B ≤ g ∧ w.ownsRow B 3 1 (.slice (some ⟨g, 0, none⟩) n cap) n (ivs L)

theorem own_parts {B g n cap : Nat} {L : List Int} {w : World} (h : Own B g n cap L w) :
    ∃ cur, w.heap[g]? = some (.cells cur 3 (0, 0)) ∧ n ≤ cap ∧ cap ≤ maxLen ∧ cur.size = cap * 1 ∧ L.length = n ∧ Holds (Value.int .i64) w g 0 L.toArray ∧ g < w.heap.size := by
  have hl := own_len h.2
  rcases h.2.2 with ⟨h0, _⟩ | ⟨g', cap', cur, hv, _, hb, h1, h2, h3, h4⟩
  · cases h0
  · cases hv
    refine ⟨cur, hb, h1, h2, h3, hl, holds_of_blockI hb ?_, (Array.getElem?_eq_some_iff.1 hb).1⟩
    rw [hl]; rw [Nat.mul_one] at h4; exact h4

/-- What the sort leaves. -/
def SortOut (B g n cap : Nat) (L : List Int) (w : World) (e : Ending) (w' : World) : Prop := e = .returned (.tuple #[]) ∧ Own B g n cap (srt L) w' ∧ w.grownBy w' (some g)
theorem sort_any {B g n cap : Nat} {L : List Int} (w : World) (h : Own B g n cap L w) (hn : (n : Int) ≤ 1048576) :
    Calls Try.prog 58 #[.slice (some ⟨g, 0, none⟩) n cap] w (SortOut B g n cap L w) := by
  obtain ⟨cur, hb, h1, h2, h3, hl, hH, hlt⟩ := own_parts h
  subst hl
  have hs := Any.slices_Sort_int Try.lays189 g 0 cap L w hH hlt (by omega)
  refine (show Calls Try.prog 58 _ _ _ from hs).mono ?_
  rintro e w' ⟨rfl, q, os, rfl⟩
  exact ⟨rfl, ⟨h.1, by
    have hlen : (srt L).length = L.length := List.length_mergeSort L
    exact ownsRow_sortedI (n := q) (os := os) (ss := L) (ts := srt L) hlen h.1 hb h1 h2 h3⟩, grownBy_sortedI _⟩
/-- What the compaction leaves. -/
def CompOut (B g cap : Nat) (L : List Int) (w : World) (e : Ending) (w' : World) : Prop := e = .returned (.slice (some ⟨g, 0, none⟩) (Lib.compact L).length cap) ∧ Own B g (Lib.compact L).length cap (Lib.compact L) w' ∧ w.grownBy w' (some g)
theorem grown_putRow {w : World} {g q : Nat} (d : Array Int) : w.grownBy (putRow (Value.int .i64) (Sort.ahead w q) g 0 d) (some g) := by
  have h := grownBy_sortedI (w := w) (g := g) (n := q) (os := #[]) d
  simpa using h
theorem comp_any {B g n cap : Nat} {L : List Int} (w : World) (h : Own B g n cap L w) (hn : (n : Int) ≤ 1048576) :
    Calls Try.prog 59 #[.slice (some ⟨g, 0, none⟩) n cap] w (CompOut B g cap L w) := by
  obtain ⟨cur, hb, h1, h2, h3, hl, hH, hlt⟩ := own_parts h
  subst hl
  have hs := Any.slices_Compact_int Try.laysNm220 g 0 cap L w hH (by omega) h1
  have hle := Lib.compact_length_le L
  refine (show Calls Try.prog 59 _ _ _ from hs).mono ?_
  rintro e w' ⟨rfl, q, rfl⟩
  refine ⟨rfl, ⟨h.1, ?_⟩, grown_putRow _⟩
  have hc := Lib.ownsRow_putRow (enc := Value.int .i64) (q := q) (k := (Lib.compact L).length) (ys := Lib.compact L ++ List.replicate (L.length - (Lib.compact L).length) 0) h.2 (by simp; omega) hle
  rw [List.take_left] at hc
  exact hc
end Go.Proofs.Ytndpadnjjbbkkaa.expr

/- Chapter 3's ReadsOf of the program: the same numbers as the model's, in new memory; nothing that was there is written. -/
namespace Go.Proofs.Ytndpadnjjbbkkaa.expr
open Go.ChangeShapes Go.WideShapes Go.ChangeAt Go.RowKit Go.Proofs.Ytndpadnjjbbkkaa.row Go.Proofs.Ytndpadnjjbbkkaa.val

theorem vk_step0 (a b : Int) : (vk a ++ vk b) = vk a ++ vk b := rfl
/-- What has been collected after 'k' operands. -/
def got (a b : Int) (k : Nat) : List Int := if k = 0 then [] else if k = 1 then vk a else vk a ++ vk b
theorem got_len (a b : Int) (k : Nat) : (got a b k).length ≤ k := by
  have h : ∀ x, (vk x).length ≤ 1 := fun x => by unfold vk; split <;> simp
  have := h a; have := h b
  unfold got; split
  · simp
  · split
    · omega
    · rw [List.length_append]; omega
theorem got_yes {a b : Int} {k : Nat} (hk : k < 2) {x : Int} (hx : x = if k = 0 then a else b) (h : x < 0) : got a b (k + 1) = got a b k ++ [-1 - x] := by
  rcases (show k = 0 ∨ k = 1 by omega) with rfl | rfl
  · simp at hx; subst hx; simp [got, vk_neg h]
  · simp at hx; subst hx; simp [got, vk_neg h]
theorem got_no {a b : Int} {k : Nat} (hk : k < 2) {x : Int} (hx : x = if k = 0 then a else b) (h : ¬ x < 0) : got a b (k + 1) = got a b k := by
  rcases (show k = 0 ∨ k = 1 by omega) with rfl | rfl
  · simp at hx; subst hx; simp [got, vk_pos h]
  · simp at hx; subst hx; simp [got, vk_pos h]

set_option maxHeartbeats 1000000 in
set_option maxRecDepth 100000 in
theorem impl_reads_no (w : World) (o a b : Int) (he : exprOk o a b = false) :
    Calls Try.prog 28 #[ev o a b] w (NewInts w []) := by
  have hn := below_new w (.cells #[.int .i64 o, .int .i64 a, .int .i64 b] 42)
  go_enter Try.func28, Try.ntmps28
  go_wp2_with (go_at_call 55; refine (impl_exprok _ _ _ _ he _).mono ?_; rintro e w2 ⟨rfl, hb2⟩)
  go_ret
  exact ⟨_, _, _, rfl, World.ownsRow_nil _ _ _ _, below_then hn hb2⟩

set_option maxHeartbeats 2000000 in
set_option maxRecDepth 100000 in
theorem impl_reads_ok (w : World) (o a b : Int) (he : exprOk o a b = true) :
    Calls Try.prog 28 #[ev o a b] w (NewInts w (rd a b 8)) := by
  obtain ⟨i0, hi, hz0, hz1, hz2⟩ := info_parts infoInt
  have hb := (exprOk_iff o a b).1 he
  have hba := (opndOk_iff a).1 hb.2.1
  have hbb := (opndOk_iff b).1 hb.2.2
  have HS := Lib.hid (reads_same a b hba.1 hbb.1)
  have hx := Box.new w #[.int .i64 o, .int .i64 a, .int .i64 b] 42
  have hn := below_new w (.cells #[.int .i64 o, .int .i64 a, .int .i64 b] 42)
  clear hb
  go_enter Try.func28, Try.ntmps28
  go_wp2_with (go_at_call 55; refine (impl_exprok _ _ _ _ he _).mono ?_; rintro e w2 ⟨rfl, hb2⟩; refine Hid.out ?_)
  have hx2 := hx.below hb2
  have hn2 := below_then hn hb2
  have c0 := hx2.cell 0
  have c1 := hx2.cell 1
  have c2 := hx2.cell 2
  have hlt2 := hx2.lt
  have HX := Lib.hid (And.intro hx2 hn2)
  clear hx hn hb2 hx2 hn2 he
  refine Lib.hid ?_
  go_wp2
  go_loopw [3, 5, 16] (fun v _ i wr => ∃ (k n g cap : Nat), k ≤ 2 ∧ i = .int .i64 k ∧ v = .slice (some ⟨g, 0, none⟩) n cap ∧ n ≤ k ∧ g ≠ w2.heap.size + 1 ∧ w2.heap.size + 2 ≤ wr.heap.size ∧ Own w2.heap.size g n cap (got a b k) wr ∧ Box (w2.heap.size + 1) #[.int .i64 a, .int .i64 b] 3 wr ∧ Below w2.heap.size w2 wr) (fun _ _ i _ => 2 - (intOf i).toNat)
  case atStart =>
    have h1 := World.ownsRow_made (base := w2.heap.size) (e := 3) (size := 1) w2 #[] 0 (Nat.le_refl _) (by decide) rfl
    have h2 := Box.new (w2.alloc (.cells #[] 3)) #[.int .i64 a, .int .i64 b] 3
    have hs : (w2.alloc (.cells #[] 3)).heap.size = w2.heap.size + 1 := by simp
    rw [hs] at h2
    exact ⟨0, 0, w2.heap.size, 0, Nat.zero_le _, rfl, rfl, Nat.le_refl _, by omega, by simp, ⟨Nat.le_refl _, h1.alloc _⟩, h2, below_then (below_new _ _) (below_new _ _)⟩
  case round =>
    obtain ⟨k, n, g, cap, hk, rfl, rfl, hnk, hg, hws, hown, hbox, hbel⟩ := hrel
    by_cases hlt : k < 2
    · have hI : (k : Int) < 2 := by omega
      obtain ⟨x, hx⟩ : ∃ x : Int, x = if k = 0 then a else b := ⟨_, rfl⟩
      have hc : wr.cell? ⟨w2.heap.size + 1, k, none⟩ = some (.int .i64 x) := by
        rw [hbox.cell k]
        rcases (show k = 0 ∨ k = 1 by omega) with h | h <;> subst h <;> simp at hx <;> simp [hx]
      have hxb : -8 ≤ x ∧ x ≤ 999 := by rw [hx]; split <;> omega
      by_cases hneg : x < 0
      · have HG := Lib.hid (got_yes hlt hx hneg)
        have H2 := Lib.hid (And.intro hown (And.intro hbox hbel))
        have hgl : g < wr.heap.size := (hown.2.lt g rfl).2
        clear hx hown hbox hbel
        go_wp2_with (first
          | (go_at_call 56; refine (impl_isvar _ _).mono ?_; rintro e w1 ⟨rfl, rfl⟩)
          | (go_at_call 57; refine (impl_varof _ (by omega) (by omega) _).mono ?_; rintro e w1 ⟨rfl, rfl⟩)
          | (at_builtin; refine wpList_append_own_at _ rfl _ _ 22 rfl w2.heap.size 3 i0 (.int .i64 0) 1 8 Try.underlying22 hi hz0 hz1 hz2 rfl (by decide) _ _ _ rfl (H2.out.1.2.alloc _) ⟨wr.heap.size, 0, none⟩ 1 1 [.int .i64 (-1 - x)] rfl rfl (World.news_of_block (cs := #[.int .i64 (-1 - x)]) (t := 3) (fr := (0, 0)) (heap_alloc_new wr _)) (by simp [Value.oneCell']) (by unfold maxLen; omega) (by omega) (by simp; omega) ?_; intro v3 w3 hown3 hgrow3 _ hat3; refine Hid.out ?_))
        rw [ivs_snoc, ← HG.out] at hown3
        have hbox3 := (H2.out.2.1.alloc (.cells #[.int .i64 (-1 - x)] 3)).grown hgrow3 (by simp only [Value.ownBlock]; intro e; exact hg (Option.some.inj e).symm)
        have hbel3 := (below_then H2.out.2.2 (below_new wr (.cells #[.int .i64 (-1 - x)] 3))).grown hgrow3 (by have := H2.out.2.2.size; simp; omega) (fun j hj => by cases hj; exact H2.out.1.1)
        obtain ⟨g3, cap3, rfl, hg3, _⟩ := hown3.form (by omega)
        have hgne : g3 ≠ w2.heap.size + 1 := by
          rcases hat3 with h | h
          · have e3 : g3 = g := Option.some.inj h
            omega
          · have e3 : g3 = (wr.alloc (.cells #[.int .i64 (-1 - x)] 3)).heap.size := Option.some.inj h
            rw [show (wr.alloc (.cells #[.int .i64 (-1 - x)] 3)).heap.size = wr.heap.size + 1 by simp] at e3
            omega
        have hws3 : w2.heap.size + 2 ≤ w3.heap.size := by have := hgrow3.size; simp at this; omega
        have HR := Lib.hid (And.intro (And.intro hg3 hown3) (And.intro hbox3 hbel3))
        clear hown3 hbox3 hbel3 hgrow3 hat3 hc
        refine Lib.hid ?_
        go_wp2
        go_roundw
        case rel => exact ⟨k + 1, n + 1, g3, cap3, by omega, by go_num, rfl, by omega, hgne, hws3, HR.out.1, HR.out.2.1, HR.out.2.2⟩
        case measure => simp [intOf]; omega
      · have HG := Lib.hid (got_no hlt hx hneg)
        rw [← HG.out] at hown
        have H2 := Lib.hid (And.intro hown (And.intro hbox hbel))
        clear hx hown hbox hbel
        go_wp2_with (go_at_call 56; refine (impl_isvar _ _).mono ?_; rintro e w1 ⟨rfl, rfl⟩)
        go_roundw
        case rel => exact ⟨k + 1, n, g, cap, by omega, by go_num, rfl, by omega, hg, hws, H2.out.1, H2.out.2.1, H2.out.2.2⟩
        case measure => simp [intOf]; omega
    · have hk2 : k = 2 := by omega
      subst hk2
      have H2 := Lib.hid (And.intro hown hbel)
      clear hown hbox hbel
      go_wp2_with (go_at_call 58; refine (sort_any _ H2.out.1 (by omega)).mono ?_; rintro e w4 ⟨rfl, ho4, hg4⟩; refine Hid.out ?_)
      have H4 := Lib.hid (And.intro ho4 (H2.out.2.grown hg4 H2.out.2.size (fun j hj => by cases hj; exact H2.out.1.1)))
      clear ho4 hg4
      refine Lib.hid ?_
      go_wp2_with (go_at_call 59; refine (comp_any _ H4.out.1 (by omega)).mono ?_; rintro e w5 ⟨rfl, ho5, hg5⟩; refine Hid.out ?_)
      have hb5 := H4.out.2.grown hg5 H4.out.2.size (fun j hj => by cases hj; exact H4.out.1.1)
      have hfin : NewInts w (rd a b 8) (.returned (.slice (some ⟨g, 0, none⟩) (Lib.compact (srt (got a b 2))).length cap)) w5 := by
        have e : Lib.compact (srt (got a b 2)) = rd a b 8 := HS.out
        rw [e] at ho5 ⊢
        exact ⟨_, _, _, rfl, ho5.2.mono HX.out.2.size, HX.out.2.trans (hb5.mono HX.out.2.size)⟩
      have HF := Lib.hid hfin
      clear ho5 hg5 hb5 hfin
      refine Lib.hid ?_
      go_wp2
      go_ret
      exact HF.out
theorem impl_reads (w : World) (o a b : Int) : Calls Try.prog 28 #[ev o a b] w (NewInts w (readsV o a b)) := by
  cases he : exprOk o a b
  · simpa [readsV, he] using impl_reads_no w o a b he
  · simpa [readsV, he] using impl_reads_ok w o a b he
end Go.Proofs.Ytndpadnjjbbkkaa.expr
