/- Several texts in one: ExeD ExeQ. -/
import Derived.Test.YtekdnhhmiabngaaGHub4
import Derived.Test.YtekdnhhmiabngaaGHub11
import Derived.BigQuiet

/- Two blocks one after the other: valid if they are short enough, and their runs add up. Plain mathematics. -/
namespace Go.Proofs.Ytekdnhhmiabngaa.exe
open Go Go.Proofs.Ytekdnhhmiabngaa.stm Go.Proofs.Ytekdnhhmiabngaa.blk

abbrev Sq := Go.Proofs.Ytekdnhhmiabngaa.stm.St
theorem ht_app (L M : List Sq) : ht (L ++ M) = ht L + ht M := by unfold ht; rw [List.map_append, List.sum_append]
theorem hAt_left (L M : List Sq) {i : Nat} (h : i ≤ L.length) : hAt (L ++ M) i = hAt L i := by
  unfold hAt; rw [List.take_append_of_le_length h]
theorem hAt_right (L M : List Sq) (i : Nat) : hAt (L ++ M) (L.length + i) = hAt L L.length + hAt M i := by
  unfold hAt
  rw [List.take_append, List.take_of_length_le (show L.length ≤ L.length + i by omega), show L.length + i - L.length = i by omega, ht_app, List.take_length]
theorem get_left {L M : List Sq} {i : Nat} {s : Sq} (h : L[i]? = some s) : (L ++ M)[i]? = some s := by
  rw [List.getElem?_append_left (List.getElem?_eq_some_iff.1 h).1]; exact h
theorem get_right {L M : List Sq} {i : Nat} {s : Sq} (h : M[i]? = some s) : (L ++ M)[L.length + i]? = some s := by
  rw [List.getElem?_append_right (by omega), show L.length + i - L.length = i by omega]; exact h
theorem end_left {L M : List Sq} {i e : Nat} (h : IsEnd L i e) : IsEnd (L ++ M) i e := by
  obtain ⟨h1, h2, h3, h4⟩ := h
  refine ⟨h1, by rw [List.length_append]; omega, ?_, fun j hj hje => ?_⟩
  · rw [hAt_left L M (by omega), hAt_left L M (by omega)]; exact h3
  · rw [hAt_left L M (by omega), hAt_left L M (by omega)]; exact h4 j hj hje
theorem end_right {L M : List Sq} {i e : Nat} (h : IsEnd M i e) : IsEnd (L ++ M) (L.length + i) (L.length + e) := by
  obtain ⟨h1, h2, h3, h4⟩ := h
  refine ⟨by omega, by rw [List.length_append]; omega, ?_, fun j hj hje => ?_⟩
  · rw [Nat.add_assoc, hAt_right, hAt_right, h3]
  · obtain ⟨k, rfl⟩ : ∃ k, j = L.length + k := ⟨j - L.length, by omega⟩
    rw [hAt_right, hAt_right]
    have := h4 k (by omega) (by omega)
    omega
theorem runs_left {L M : List Sq} {a b : Nat} {x : Int} (h : Runs L a b x) : Runs (L ++ M) a b x := by
  induction h with
  | nil a => exact .nil a
  | one a b x s hs ho h6 hr ih => exact .one a b x s (get_left hs) ho h6 ih
  | nest a e b x y s hs he hb hr ih1 ih2 => exact .nest a e b x y s (get_left hs) (end_left he) ih1 ih2
theorem runs_right {L M : List Sq} {a b : Nat} {x : Int} (h : Runs M a b x) : Runs (L ++ M) (L.length + a) (L.length + b) x := by
  induction h with
  | nil a => exact .nil _
  | one a b x s hs ho h6 hr ih => exact .one _ _ x s (get_right hs) ho h6 ih
  | nest a e b x y s hs he hb hr ih1 ih2 => exact .nest _ (L.length + e) _ x y s (get_right hs) (end_right he) ih1 ih2
theorem blk_app {L M : List Sq} (hL : IsBlk L) (hM : IsBlk M) (hl : L.length + M.length ≤ 24) : IsBlk (L ++ M) := by
  refine ⟨fun j s hj hs => ?_, ?_, by rw [List.length_append]; exact hl⟩
  · by_cases h : j < L.length
    · rw [List.getElem?_append_left h] at hs
      obtain ⟨h1, h2, h3⟩ := hL.1 j s h hs
      rw [hAt_left L M (by omega)]; exact ⟨h1, h2, h3⟩
    · rw [List.length_append] at hj
      rw [List.getElem?_append_right (by omega)] at hs
      obtain ⟨h1, h2, h3⟩ := hM.1 (j - L.length) s (by omega) hs
      rw [show j + 1 = L.length + (j - L.length + 1) by omega, hAt_right, hL.2.1]
      exact ⟨h1, by omega, by omega⟩
  · rw [List.length_append, hAt_right, hL.2.1, hM.2.1]; rfl
theorem long_app {L M : List Sq} (hL : IsBlk L) (hM : IsBlk M) (hl : L.length + M.length ≤ 24) {x y z : Int} (hx : LongIs L x) (hy : LongIs M y) (hz : LongIs (L ++ M) z) : z = x + y := by
  have h1 : Runs L 0 L.length x := hx.elim (fun h => h.2) (fun h => absurd hL h.2)
  have h2 : Runs M 0 M.length y := hy.elim (fun h => h.2) (fun h => absurd hM h.2)
  have h3 := (runs_left (M := M) h1).app (runs_right (L := L) h2)
  refine hz.unique (.inl ⟨blk_app hL hM hl, ?_⟩)
  rw [List.length_append]; exact h3
end Go.Proofs.Ytekdnhhmiabngaa.exe

/- The laws' own comparison of two rows of numbers and of two effects, at equal ones; nothing that was there is written. -/
namespace Go.Proofs.Ytekdnhhmiabngaa.exe
open Go Go.ChangeShapes Go.WideShapes Go.ChangeAt Go.RowKit Go.Proofs.Ytekdnhhmiabngaa.row Go.Proofs.Ytekdnhhmiabngaa.val Go.Proofs.Ytekdnhhmiabngaa.expr

set_option maxHeartbeats 1000000 in
theorem same_row (w : World) (a a' : Option Addr) (n cap cap' : Nat) (L : List Int) (hn : (n : Int) ≤ 1048576) (h1 : Row w a n L) (h2 : Row w a' n L) :
    Calls Try.prog 34 #[.slice a n cap, .slice a' n cap'] w fun e w' => e = .returned (.bool true) ∧ w.grownBy w' none := by
  have HC : Hid (∀ k, k < n → ∃ (g o g' o' : Nat) (X : Int), a = some ⟨g, o, none⟩ ∧ a' = some ⟨g', o', none⟩ ∧ w.cell? ⟨g, o + k, none⟩ = some (.int .i64 X) ∧ w.cell? ⟨g', o' + k, none⟩ = some (.int .i64 X)) := by
    intro k hk
    obtain ⟨g, o, X, e1, _, x1, c1⟩ := h1.2 k hk
    obtain ⟨g', o', X', e2, _, x2, c2⟩ := h2.2 k hk
    obtain rfl : X = X' := by rw [x1] at x2; exact Option.some.inj x2
    exact ⟨g, o, g', o', X, e1, e2, c1, c2⟩
  clear h1 h2
  go_enter Try.func34, Try.ntmps34
  go_wp2
  go_loopw [5] (fun i wr => ∃ k : Nat, k ≤ n ∧ i = .int .i64 k ∧ w.grownBy wr none) (fun i _ => n - (intOf i).toNat)
  case atStart => exact ⟨0, Nat.zero_le _, rfl, row.grown_refl _ _⟩
  case round =>
    obtain ⟨k, hk, rfl, hg⟩ := hrel
    by_cases hlt : k < n
    · obtain ⟨g, o, g', o', X, rfl, rfl, c1, c2⟩ := HC.out k hlt
      have d1 := hg.cell c1 (by simp)
      have d2 := hg.cell c2 (by simp)
      have hI : (k : Int) < n := by omega
      clear c1 c2
      go_wp2
      go_quiet (fail)
      go_wp2
      go_roundw
      case rel => exact ⟨k + 1, by omega, by go_num, row.grown_drewN hg _⟩
      case measure => simp [intOf]; omega
    · go_wp2
      go_ret
      exact ⟨rfl, hg⟩
set_option maxHeartbeats 4000000 in
theorem same_eff (w : World) (E : Eff) (a1 : Option Addr) (n1 c1 : Nat) (a2 : Option Addr) (n2 c2 : Nat) (b1 : Option Addr) (d1 : Nat) (b2 : Option Addr) (d2 : Nat) (hn1 : (n1 : Int) ≤ 1048576) (hn2 : (n2 : Int) ≤ 1048576)
    (r1 : Row w a1 n1 E.V) (r2 : Row w a2 n2 E.S) (s1 : Row w b1 n1 E.V) (s2 : Row w b2 n2 E.S) :
    Calls Try.prog 15 #[effV a1 n1 c1 a2 n2 c2 E, effV b1 n1 d1 b2 n2 d2 E] w (BelB w true) := by
  obtain ⟨V, S, N, U⟩ := E
  show Calls Try.prog 15 #[.agg #[.slice a1 n1 c1, .slice a2 n2 c2, .int .i64 N, .int .i64 U], .agg #[.slice b1 n1 d1, .slice b2 n2 d2, .int .i64 N, .int .i64 U]] w (BelB w true)
  obtain ⟨W, hW⟩ : ∃ W, (w.alloc (.cells #[.slice a1 n1 c1, .slice a2 n2 c2, .int .i64 N, .int .i64 U] 37)).alloc (.cells #[.slice b1 n1 d1, .slice b2 n2 d2, .int .i64 N, .int .i64 U] 37) = W := ⟨_, rfl⟩
  have hBW : Below w.heap.size w W := by rw [← hW]; exact below_then (below_new w _) (below_new _ _)
  have hx : Box w.heap.size #[.slice a1 n1 c1, .slice a2 n2 c2, .int .i64 N, .int .i64 U] 37 W := by rw [← hW]; exact (Box.new w _ _).alloc _
  have hy : Box (w.heap.size + 1) #[.slice b1 n1 d1, .slice b2 n2 d2, .int .i64 N, .int .i64 U] 37 W := by
    have h9 := Box.new (w.alloc (.cells #[.slice a1 n1 c1, .slice a2 n2 c2, .int .i64 N, .int .i64 U] 37)) #[.slice b1 n1 d1, .slice b2 n2 d2, .int .i64 N, .int .i64 U] 37
    rw [World.size_alloc] at h9
    rw [← hW]; exact h9
  have H0 := Lib.hid (And.intro hBW (And.intro (r1.below hBW) (And.intro (r2.below hBW) (And.intro (s1.below hBW) (s2.below hBW)))))
  have x0 : W.cell? ⟨w.heap.size, 0, none⟩ = some (.slice a1 n1 c1) := hx.cell 0
  have y0 : W.cell? ⟨w.heap.size + 1, 0, none⟩ = some (.slice b1 n1 d1) := hy.cell 0
  have HX := Lib.hid (And.intro hx hy)
  clear hBW r1 r2 s1 s2 hx hy
  go_enter Try.func15, Try.ntmps15
  go_wp2_with (go_at_call 34; (with_reducible refine (same_row _ a1 b1 n1 c1 d1 V hn1 H0.out.2.1 H0.out.2.2.2.1).mono ?_); rintro e w2 ⟨rfl, hg2⟩; refine Hid.out ?_)
  have hb2 : Below W.heap.size W w2 := (Below.refl _ W).grown hg2 (Nat.le_refl _) (fun k hk => by cases hk)
  have hX2 := HX.out.1.below hb2
  have hY2 := HX.out.2.below hb2
  have H2 := Lib.hid (And.intro (below_then H0.out.1 hb2) (And.intro (H0.out.2.2.1.below hb2) (H0.out.2.2.2.2.below hb2)))
  have x1 : w2.cell? ⟨w.heap.size, 1, none⟩ = some (.slice a2 n2 c2) := hX2.cell 1
  have y1 : w2.cell? ⟨w.heap.size + 1, 1, none⟩ = some (.slice b2 n2 d2) := hY2.cell 1
  have HX2 := Lib.hid (And.intro hX2 hY2)
  clear hg2 hb2 x0 y0 hX2 hY2
  refine Lib.hid ?_
  go_wp2_with (go_at_call 34; (with_reducible refine (same_row _ a2 b2 n2 c2 d2 S hn2 H2.out.2.1 H2.out.2.2).mono ?_); rintro e w3 ⟨rfl, hg3⟩; refine Hid.out ?_)
  have hb3 : Below w2.heap.size w2 w3 := (Below.refl _ w2).grown hg3 (Nat.le_refl _) (fun k hk => by cases hk)
  have hX3 := HX2.out.1.below hb3
  have hY3 := HX2.out.2.below hb3
  have x2 : w3.cell? ⟨w.heap.size, 2, none⟩ = some (.int .i64 N) := hX3.cell 2
  have y2 : w3.cell? ⟨w.heap.size + 1, 2, none⟩ = some (.int .i64 N) := hY3.cell 2
  have x3 : w3.cell? ⟨w.heap.size, 3, none⟩ = some (.int .i64 U) := hX3.cell 3
  have y3 : w3.cell? ⟨w.heap.size + 1, 3, none⟩ = some (.int .i64 U) := hY3.cell 3
  have HB3 := Lib.hid (below_then H2.out.1 hb3)
  clear hg3 hb3 x1 y1 hX3 hY3
  refine Lib.hid ?_
  go_wp2
  go_ret
  exact ⟨rfl, HB3.out⟩
end Go.Proofs.Ytekdnhhmiabngaa.exe
