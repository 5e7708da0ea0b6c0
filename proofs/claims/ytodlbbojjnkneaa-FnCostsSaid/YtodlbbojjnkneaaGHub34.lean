/- Several texts in one: SetP ReadB. -/
import Derived.Test.YtodlbbojjnkneaaGHub33
import Derived.Test.YtodlbbojjnkneaaGHub28
import Derived.Test.YtodlbbojjnkneaaShelf
import Derived.Test.YtodlbbojjnkneaaGHub0
import Derived.Test.YtodlbbojjnkneaaGHub7
import Derived.Shelf.Sort.Plain
import Derived.Shelf.Slices.CompactI
import Derived.Sort.OwnSortedInts
import Derived.Lib.OwnBridge

/- The program's writes and MayWrite: what the plain relations say; nothing that was there is written. -/
namespace Go.Proofs.Ytodlbbojjnkneaa.sets
open Go Go.ChangeShapes Go.WideShapes Go.ChangeAt Go.RowKit Go.Maps Go.Proofs.Ytodlbbojjnkneaa.row Go.Proofs.Ytodlbbojjnkneaa.val Go.Proofs.Ytodlbbojjnkneaa.stm Go.Proofs.Ytodlbbojjnkneaa.blk Go.Proofs.Ytodlbbojjnkneaa.expr

theorem clone_set (q : Nat) (f : Nat → Bool) (w : World) (h : Mset q f w) : Calls Try.prog 71 #[.map (some q)] w fun e w' => e = .returned (.map (some w.heap.size)) ∧ Mset w.heap.size f w' ∧ Below w.heap.size w w' := by
  obtain ⟨D, hown, hs⟩ := h
  have hc := AnyW.maps_Clone_owns Try.cloneS 3 boolEl q _ D w hown
  refine (show Calls Try.prog 71 _ _ _ from hc).mono ?_
  rintro e w' ⟨rfl, h1, _, hb⟩
  exact ⟨rfl, ⟨D, h1, hs⟩, hb⟩
theorem impl_writes (s : Sm) (r : Bool) (hr : r = true ↔ wr s) (w : World) : Calls Try.prog 63 #[stV s] w (BelB w r) := by
  have c0 : (w.alloc (.cells #[.int .i64 s.k, .int .i64 s.v, .int .i64 s.n, .int .i64 s.o, .int .i64 s.a, .int .i64 s.b] 69)).cell? ⟨w.heap.size, 0, none⟩ = some (.int .i64 s.k) := (Box.new w #[.int .i64 s.k, .int .i64 s.v, .int .i64 s.n, .int .i64 s.o, .int .i64 s.a, .int .i64 s.b] _).cell 0
  have HR := Lib.hid hr
  by_cases h1 : s.k = 1
  · have hrt : r = true := hr.2 (.inl h1)
    subst hrt
    rw [h1] at c0
    clear hr
    go_enter Try.func63, Try.ntmps63
    go_wp2
    go_ret
    exact ⟨rfl, below_new _ _⟩
  · by_cases h2 : s.k = 2
    · have hrt : r = true := hr.2 (.inr h2)
      subst hrt
      rw [h2] at c0
      clear hr
      go_enter Try.func63, Try.ntmps63
      go_wp2
      go_ret
      exact ⟨rfl, below_new _ _⟩
    · have hrf : r = false := by rw [← Bool.not_eq_true]; intro e; rcases hr.1 e with h | h <;> omega
      subst hrf
      clear hr
      have b1 : (s.k == 1) = false := by simpa using h1
      have b2 : (s.k == 2) = false := by simpa using h2
      go_enter Try.func63, Try.ntmps63
      go_wp2
      go_ret
      exact ⟨rfl, below_new _ _⟩
theorem isFalse {f : Nat → Bool} {B : List Sm} {p : Nat → Prop} (hf : Is f (fun v => IsBlk B ∧ p v)) (hb : ¬ IsBlk B) : lst f 8 = [] := by
  rw [lst_congr (g := fun _ => false) (fun v hv => by
    cases h : f v
    · rfl
    · exact absurd ((hf v hv).1 h).1 hb)]
  exact lst_nil (fun _ => rfl) 8
set_option maxHeartbeats 4000000 in
set_option maxRecDepth 100000 in
theorem impl_maywrite (a : Option Addr) (n cap : Nat) (B : List Sm) (hn : (n : Int) ≤ 1048576) (_ : n ≤ cap) (w : World) (h : StRow w a n B) (f : Nat → Bool) (hf : Is f (fun v => IsBlk B ∧ MayTo B n v)) :
    Calls Try.prog 45 #[.slice a n cap] w (NewInts w (lst f 8)) := by
  have hmm := @run_makeMap Try.prog
  have HL := Lib.hid h
  have HF := Lib.hid hf
  have hlen := h.1
  clear h hf
  rcases Classical.em (IsBlk B) with hb | hb
  · have HB := Lib.hid hb
    clear hb
    go_enter Try.func45, Try.ntmps45
    go_wp2_with (go_at_call 39; (with_reducible refine (impl_blockok _ n cap B hn _ HL.out true ⟨fun _ => HB.out, fun _ => rfl⟩).mono ?_); rintro e w2 ⟨rfl, hb2⟩; refine Hid.out ?_)
    obtain ⟨W, hW⟩ : ∃ W, w2.alloc (.map #[] 0) = W := ⟨_, rfl⟩
    have HW := Lib.hid (And.intro (show Mset w2.heap.size (fun _ => false) W by rw [← hW]; exact Mset.made w2) (show Below w.heap.size w W by rw [← hW]; exact below_then hb2 (below_new w2 _)))
    have hbs := hb2.size
    clear hb2
    refine Lib.hid ?_
    go_wp2
    clear hW hmm
    go_loopw [12] (fun i wr => ∃ (k : Nat) (fk : Nat → Bool), k ≤ n ∧ i = .int .i64 k ∧ Hid (Is fk (MayTo B k)) ∧ Hid (Mset w2.heap.size fk wr) ∧ Hid (Below w.heap.size w wr)) (fun i _ => n - (intOf i).toNat)
    case atStart => exact ⟨0, _, Nat.zero_le _, rfl, fun v _ => ⟨fun e => (by cases e), fun e => absurd e mayTo_zero⟩, HW.out.1, HW.out.2⟩
    case round =>
      obtain ⟨k, fk, hk, rfl, HFK, HS, HR⟩ := hrel
      by_cases hlt : k < n
      · have hI : (k : Int) < n := by omega
        obtain ⟨g, off, s, rfl, hlb, hs, hrs⟩ := (HL.out.below HR.out).2 k hlt
        obtain ⟨r, hr⟩ := wr_dec s
        have HT := Lib.hid (And.intro hrs (And.intro hs hr))
        have HX := Lib.hid (And.intro (Box.new wr zero6 69) (below_new wr (.cells zero6 69)))
        clear hrs hs
        go_wp2_with (first
          | (refine wpList_load_mid rfl 69 _ rfl g (off + k * 6) rfl (stC s) _ HT.out.1 Try.underlying69 rfl (by kernel_rfl) ?_)
          | ((refine wpList_store_box rfl 69 _ _ rfl wr.heap.size _ _ HX.out.1 #[.int .i64 s.k, .int .i64 s.v, .int .i64 s.n, .int .i64 s.o, .int .i64 s.a, .int .i64 s.b] rfl rfl rfl (by kernel_rfl) (by simp [Value.oneCell']) ?_); intro w5 hx5 hg5; refine Hid.out ?_))
        have hb5 : Below wr.heap.size wr w5 := HX.out.2.grown hg5 HX.out.2.size (fun j hj => by cases hj; exact Nat.le_refl _)
        have H5 := Lib.hid (And.intro hx5 (And.intro (HS.out.below hb5) (below_then HR.out hb5)))
        have hrs := HR.out.size
        clear hx5 hg5 hb5
        refine Lib.hid ?_
        go_wp2_with (first
          | (refine wpList_load_row rfl 69 _ rfl wr.heap.size rfl _ _ _ _ H5.out.1 Try.underlying69 rfl (by kernel_rfl) ?_)
          | (go_at_call 63; (with_reducible refine (impl_writes s r HT.out.2.2 _).mono ?_); rintro e w6 ⟨rfl, hb6⟩; refine Hid.out ?_))
        have H6 := Lib.hid (And.intro (H5.out.1.below hb6) (And.intro (H5.out.2.1.below hb6) (below_then H5.out.2.2 hb6)))
        clear hb6
        cases r
        · have HF1 := Lib.hid (show Is fk (MayTo B (k + 1)) from HFK.out.congr (fun u => ⟨fun h => (mayTo_succ.1 h).resolve_right (wrAt_no HT.out.2.1 (fun h => by have := HT.out.2.2.2 h; cases this)), fun h => mayTo_succ.2 (.inl h)⟩))
          clear hr
          refine Lib.hid ?_
          go_wp2
          go_roundw
          case rel => exact ⟨k + 1, fk, by omega, by go_num, HF1, H6.out.2.1, H6.out.2.2⟩
          case measure => simp [intOf]; omega
        · have hw := HT.out.2.2.1 rfl
          obtain ⟨u, hu, hu8⟩ := wr_var (blk_stOk HB.out HT.out.2.1) hw
          have HF1 := Lib.hid (show Is (fun v => decide (v = u) || fk v) (MayTo B (k + 1)) from HFK.out.put (fun v => mayTo_succ.trans (or_congr Iff.rfl (wrAt_iff HT.out.2.1 hw hu))))
          have d1 : w6.cell? ⟨wr.heap.size, 1, none⟩ = some (.int .i64 (u : Int)) := by rw [← hu]; exact H6.out.1.cell 1
          clear hr hw hu
          refine Lib.hid ?_
          go_wp2_with (at_mapUpdate; (refine wpList_put_set _ rfl _ _ _ rfl w2.heap.size fk rfl H6.out.2.1 u hu8 rfl rfl ?_); intro w7 hm7 hg7; refine Hid.out ?_)
          have H7 := Lib.hid (And.intro hm7 (H6.out.2.2.grown hg7 H6.out.2.2.size (fun j hj => by cases hj; exact hbs)))
          clear hm7 hg7
          refine Lib.hid ?_
          go_wp2
          go_roundw
          case rel => exact ⟨k + 1, _, by omega, by go_num, HF1, H7.out.1, H7.out.2⟩
          case measure => simp [intOf]; omega
      · obtain rfl : k = n := by omega
        have hI : ¬ (k : Int) < k := by omega
        have HFL := Lib.hid (show lst fk 8 = lst f 8 from lst_congr (Is.eq HFK.out (HF.out.congr (fun u => ⟨fun h => ⟨HB.out, h⟩, fun h => h.2⟩))))
        go_wp2_with (go_at_call 61; (with_reducible refine (impl_ascending w2.heap.size fk _ HS.out).mono ?_); rintro e w5 ⟨ad, m, c5, rfl, hown, hb5⟩)
        go_ret
        exact ⟨ad, m, c5, rfl, by rw [← HFL.out]; exact hown.mono HR.out.size, below_then HR.out hb5⟩
  · have HB := Lib.hid hb
    have HFL := Lib.hid (isFalse HF.out hb)
    clear hb hmm
    go_enter Try.func45, Try.ntmps45
    go_wp2_with (go_at_call 39; (with_reducible refine (impl_blockok _ n cap B hn _ HL.out false ⟨fun h => (by cases h), fun h => absurd h HB.out⟩).mono ?_); rintro e w2 ⟨rfl, hb2⟩)
    go_ret
    exact ⟨none, 0, 0, rfl, by rw [HFL.out]; exact World.ownsRow_nil _ _ _ _, hb2⟩
end Go.Proofs.Ytodlbbojjnkneaa.sets

/- The library's slices.Sort and slices.Compact over a row of numbers of the call's own: the sorted row, then the row of the single ones; no condition but the row's length. -/
namespace Go.Proofs.Ytodlbbojjnkneaa.expr
open Go.ChangeShapes Go.WideShapes Go.ChangeAt Go.RowKit Go.Sort Go.Proofs.Ytodlbbojjnkneaa.row

/-- A row of the call's own, at the head of its block. -/
def Own (B g n cap : Nat) (L : List Int) (w : World) : Prop := B ≤ g ∧ w.ownsRow B 3 1 (.slice (some ⟨g, 0, none⟩) n cap) n (ivs L)

theorem own_parts {B g n cap : Nat} {L : List Int} {w : World} (h : Own B g n cap L w) :
    ∃ cur, w.heap[g]? = some (.cells cur 3 (0, 0)) ∧ n ≤ cap ∧ cap ≤ maxLen ∧ cur.size = cap * 1 ∧ L.length = n ∧ Holds (Value.int .i64) w g 0 L.toArray ∧ g < w.heap.size := by
  have hl := own_len h.2
  rcases h.2.2 with ⟨h0, _⟩ | ⟨g', cap', cur, hv, _, hb, h1, h2, h3, h4⟩
  · cases h0
  · cases hv
    refine ⟨cur, hb, h1, h2, h3, hl, holds_of_blockI hb ?_, (Array.getElem?_eq_some_iff.1 hb).1⟩
    rw [hl]; rw [Nat.mul_one] at h4; exact h4

/-- What the sort leaves. -/
def SortOut (B g n cap : Nat) (L : List Int) (w : World) (e : Ending) (w' : World) : Prop := e = .returned (.tuple #[]) ∧ Own B g n cap (srt L) w' ∧ w.grownBy w' (some g)
theorem sort_any {B g n cap : Nat} {L : List Int} (w : World) (h : Own B g n cap L w) (hn : (n : Int) ≤ 1048576) :
    Calls Try.prog 88 #[.slice (some ⟨g, 0, none⟩) n cap] w (SortOut B g n cap L w) := by
  obtain ⟨cur, hb, h1, h2, h3, hl, hH, hlt⟩ := own_parts h
  subst hl
  have hs := Any.slices_Sort_int Try.lays189 g 0 cap L w hH hlt (by omega)
  refine (show Calls Try.prog 88 _ _ _ from hs).mono ?_
  rintro e w' ⟨rfl, q, os, rfl⟩
  exact ⟨rfl, ⟨h.1, by
    have hlen : (srt L).length = L.length := List.length_mergeSort L
    exact ownsRow_sortedI (n := q) (os := os) (ss := L) (ts := srt L) hlen h.1 hb h1 h2 h3⟩, grownBy_sortedI _⟩
/-- What the compaction leaves. -/
def CompOut (B g cap : Nat) (L : List Int) (w : World) (e : Ending) (w' : World) : Prop := e = .returned (.slice (some ⟨g, 0, none⟩) (Lib.compact L).length cap) ∧ Own B g (Lib.compact L).length cap (Lib.compact L) w' ∧ w.grownBy w' (some g)
theorem grown_putRow {w : World} {g q : Nat} (d : Array Int) : w.grownBy (putRow (Value.int .i64) (Sort.ahead w q) g 0 d) (some g) := by
  have h := grownBy_sortedI (w := w) (g := g) (n := q) (os := #[]) d
  simpa using h
theorem comp_any {B g n cap : Nat} {L : List Int} (w : World) (h : Own B g n cap L w) (hn : (n : Int) ≤ 1048576) :
    Calls Try.prog 92 #[.slice (some ⟨g, 0, none⟩) n cap] w (CompOut B g cap L w) := by
  obtain ⟨cur, hb, h1, h2, h3, hl, hH, hlt⟩ := own_parts h
  subst hl
  have hs := Any.slices_Compact_int Try.laysNm220 g 0 cap L w hH (by omega) h1
  have hle := Lib.compact_length_le L
  refine (show Calls Try.prog 92 _ _ _ from hs).mono ?_
  rintro e w' ⟨rfl, q, rfl⟩
  refine ⟨rfl, ⟨h.1, ?_⟩, grown_putRow _⟩
  have hc := Lib.ownsRow_putRow (enc := Value.int .i64) (q := q) (k := (Lib.compact L).length) (ys := Lib.compact L ++ List.replicate (L.length - (Lib.compact L).length) 0) h.2 (by simp; omega) hle
  rw [List.take_left] at hc
  exact hc
end Go.Proofs.Ytodlbbojjnkneaa.expr
