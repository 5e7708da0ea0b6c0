/- The library's slices.Sort and slices.Compact over a row of numbers of the call's own: the sorted row, then the row of the single ones; no condition but the row's length. -/
import Derived.Test.YtmanplejhcjnaaaShelf
import Derived.Test.YtmanplejhcjnaaaInts
import Derived.Test.YtmanplejhcjnaaaReadA
import Derived.Shelf.Sort.Plain
import Derived.Shelf.Slices.CompactI
import Derived.Sort.OwnSortedInts
import Derived.Lib.OwnBridge
namespace Go.Proofs.Ytmanplejhcjnaaa.expr
open Go.ChangeShapes Go.WideShapes Go.ChangeAt Go.RowKit Go.Sort Go.Proofs.Ytmanplejhcjnaaa.row

/-- A row of the call's own, at the head of its block. -/
def Own (B g n cap : Nat) (L : List Int) (w : World) : Prop := B ≤ g ∧ w.ownsRow B 3 1 (.slice (some ⟨g, 0, none⟩) n cap) n (ivs L)

theorem own_parts {B g n cap : Nat} {L : List Int} {w : World} (h : Own B g n cap L w) :
    ∃ cur, w.heap[g]? = some (.cells cur 3 (0, 0)) ∧ n ≤ cap ∧ cap ≤ maxLen ∧ cur.size = cap * 1 ∧ L.length = n ∧ Holds (Value.int .i64) w g 0 L.toArray ∧ g < w.heap.size := by
  have hl := own_len h.2
  rcases h.2.2 with ⟨h0, _⟩ | ⟨g', cap', cur, hv, _, hb, h1, h2, h3, h4⟩
  · cases h0
  · cases hv
    refine ⟨cur, hb, h1, h2, h3, hl, holds_of_blockI hb ?_, (Array.getElem?_eq_some_iff.1 hb).1⟩
    rw [hl]; rw [Nat.mul_one] at h4; exact h4

/-- What the sort leaves. -/
def SortOut (B g n cap : Nat) (L : List Int) (w : World) (e : Ending) (w' : World) : Prop := e = .returned (.tuple #[]) ∧ Own B g n cap (srt L) w' ∧ w.grownBy w' (some g)
theorem sort_any {B g n cap : Nat} {L : List Int} (w : World) (h : Own B g n cap L w) (hn : (n : Int) ≤ 1048576) :
    Calls Try.prog 36 #[.slice (some ⟨g, 0, none⟩) n cap] w (SortOut B g n cap L w) := by
  obtain ⟨cur, hb, h1, h2, h3, hl, hH, hlt⟩ := own_parts h
  subst hl
  have hs := Any.slices_Sort_int Try.lays189 g 0 cap L w hH hlt (by omega)
  refine (show Calls Try.prog 36 _ _ _ from hs).mono ?_
  rintro e w' ⟨rfl, q, os, rfl⟩
  exact ⟨rfl, ⟨h.1, by
    have hlen : (srt L).length = L.length := List.length_mergeSort L
    exact ownsRow_sortedI (n := q) (os := os) (ss := L) (ts := srt L) hlen h.1 hb h1 h2 h3⟩, grownBy_sortedI _⟩
/-- What the compaction leaves. -/
def CompOut (B g cap : Nat) (L : List Int) (w : World) (e : Ending) (w' : World) : Prop := e = .returned (.slice (some ⟨g, 0, none⟩) (Lib.compact L).length cap) ∧ Own B g (Lib.compact L).length cap (Lib.compact L) w' ∧ w.grownBy w' (some g)
theorem grown_putRow {w : World} {g q : Nat} (d : Array Int) : w.grownBy (putRow (Value.int .i64) (Sort.ahead w q) g 0 d) (some g) := by
  have h := grownBy_sortedI (w := w) (g := g) (n := q) (os := #[]) d
  simpa using h
theorem comp_any {B g n cap : Nat} {L : List Int} (w : World) (h : Own B g n cap L w) (hn : (n : Int) ≤ 1048576) :
    Calls Try.prog 37 #[.slice (some ⟨g, 0, none⟩) n cap] w (CompOut B g cap L w) := by
  obtain ⟨cur, hb, h1, h2, h3, hl, hH, hlt⟩ := own_parts h
  subst hl
  have hs := Any.slices_Compact_int Try.laysNm220 g 0 cap L w hH (by omega) h1
  have hle := Lib.compact_length_le L
  refine (show Calls Try.prog 37 _ _ _ from hs).mono ?_
  rintro e w' ⟨rfl, q, rfl⟩
  refine ⟨rfl, ⟨h.1, ?_⟩, grown_putRow _⟩
  have hc := Lib.ownsRow_putRow (enc := Value.int .i64) (q := q) (k := (Lib.compact L).length) (ys := Lib.compact L ++ List.replicate (L.length - (Lib.compact L).length) 0) h.2 (by simp; omega) hle
  rw [List.take_left] at hc
  exact hc
end Go.Proofs.Ytmanplejhcjnaaa.expr
