/- The law's own size and copy of a boot. -/
import Derived.Test.YtmgeecdgebemdaaBotV
import Derived.Test.YtmgeecdgebemdaaSsA
import Derived.Test.YtmgeecdgebemdaaBox
namespace Go.Proofs.Ytmgeecdgebemdaa.bot
open Go Go.ChangeShapes Go.WideShapes Go.ChangeAt Go.RowKit Go.Proofs.Ytmgeecdgebemdaa.row Go.Proofs.Ytmgeecdgebemdaa.val Go.Proofs.Ytmgeecdgebemdaa.expr Go.Proofs.Ytmgeecdgebemdaa.srow
theorem SsX.grown {lo g : Nat} {w w' : World} {a : Option Addr} {n : Nat} {LL : List (List Int)} (h : SsX lo w a n LL) (hg : w.grownBy w' (some g)) (hlt : g < lo) : SsX lo w' a n LL := by
  obtain ⟨h1, G, cs, h2, h3, h4, h5, h6⟩ := h
  refine ⟨h1, G, cs, h2, h3, h4.grown hg (fun e => by have := Option.some.inj e; omega), h5, fun j hj => ?_⟩
  obtain ⟨L, q, q1, q2, q3, q4⟩ := h6 j hj
  exact ⟨L, q, q1, q2, q3, q4.grown hg (fun e => by have := Option.some.inj e; omega)⟩
set_option maxHeartbeats 2000000 in
set_option maxRecDepth 100000 in
theorem szboot_any (w : World) (a1 : Option Addr) (n1 c1 : Nat) (a2 : Option Addr) (n2 c2 : Nat) (z en : Int) (U : List (List Int)) (hn1 : n1 ≤ maxLen) (hn2 : n2 ≤ maxLen) (hm : ∀ L ∈ U, L.length ≤ maxLen) (h : SRow w a2 n2 U) (q : Int) (hq0 : 0 ≤ q) (hq1 : q ≤ 1048576) :
    Calls Try.prog 4 #[.agg #[.slice a1 n1 c1, .int .i64 z, .slice a2 n2 c2, .int .i64 en], .int .i64 q] w fun e w' => ∃ r : Int, e = .returned (.int .i64 r) ∧ -1 ≤ r ∧ r ≤ 1048576 ∧ Hid (0 ≤ r → (n1 : Int) ≤ 1048576 ∧ SSizes U) ∧ Below w.heap.size w w' := by
  obtain ⟨W, hW⟩ : ∃ W, w.alloc (.cells #[.slice a1 n1 c1, .int .i64 z, .slice a2 n2 c2, .int .i64 en] 25) = W := ⟨_, rfl⟩
  have hBW : Below w.heap.size w W := by rw [← hW]; exact below_new w _
  have hx : Box w.heap.size #[.slice a1 n1 c1, .int .i64 z, .slice a2 n2 c2, .int .i64 en] 25 W := by rw [← hW]; exact Box.new w _ _
  have x0 : W.cell? ⟨w.heap.size, 0, none⟩ = some (.slice a1 n1 c1) := hx.cell 0
  have H0 := Lib.hid (And.intro hBW (And.intro hx (h.below hBW)))
  have HM := Lib.hid hm
  clear hBW hx h hm
  go_enter Try.func4, Try.ntmps4
  go_wp2_with (go_at_call 9; (with_reducible refine (szints_any _ a1 n1 c1 hn1 q hq0 hq1).mono ?_); rintro e w2 ⟨r, rfl, hr, hb2⟩; refine Hid.out ?_)
  have H2 := Lib.hid (And.intro (below_then H0.out.1 hb2) (And.intro (H0.out.2.1.below hb2) (H0.out.2.2.below hb2)))
  clear hb2 x0
  rcases hr.out with ⟨rfl, hr1⟩ | ⟨rfl, hr1⟩
  · refine Lib.hid ?_
    go_wp2
    go_ret
    exact ⟨-1, rfl, by omega, by omega, fun h => by omega, H2.out.1⟩
  · have hn : ¬ q - (n1 : Int) < 0 := by omega
    have x2 : w2.cell? ⟨w.heap.size, 2, none⟩ = some (.slice a2 n2 c2) := H2.out.2.1.cell 2
    refine Lib.hid ?_
    go_wp2_with (go_at_call 10; (with_reducible refine (szss_any _ a2 n2 c2 U hn2 HM.out H2.out.2.2 (q - n1) (by omega) (by omega)).mono ?_); rintro e w3 ⟨r, rfl, hr0, hr2, hrS, hb3⟩; refine Hid.out ?_)
    have H3 := Lib.hid (below_then H2.out.1 hb3)
    clear hb3 x2
    by_cases hneg : r < 0
    · refine Lib.hid ?_
      go_wp2
      go_ret
      exact ⟨-1, rfl, by omega, by omega, fun h => by omega, H3.out⟩
    · refine Lib.hid ?_
      go_wp2
      go_ret
      exact ⟨r, rfl, by omega, by omega, fun h => ⟨by omega, hrS.out h⟩, H3.out⟩
/-- A copy of the boot, to be read. -/
def ToBot (w : World) (n1 : Nat) (z : Int) (n2 : Nat) (en : Int) (V : List Int) (U : List (List Int)) (e : Ending) (w' : World) : Prop :=
  ∃ am cm au cu, e = .returned (botV am n1 cm z au n2 cu en) ∧ Hid (Row w' am n1 V ∧ SRow w' au n2 U) ∧ Below w.heap.size w w'
set_option maxHeartbeats 4000000 in
set_option maxRecDepth 100000 in
theorem toboot_any (w : World) (a1 : Option Addr) (n1 c1 : Nat) (a2 : Option Addr) (n2 k2 : Nat) (z en : Int) (V : List Int) (U : List (List Int)) (hn1 : (n1 : Int) ≤ 1048576) (hz : SSizes U) (h1 : Row w a1 n1 V) (h2 : SRow w a2 n2 U) :
    Calls Try.prog 6 #[.agg #[.slice a1 n1 c1, .int .i64 z, .slice a2 n2 k2, .int .i64 en]] w (ToBot w n1 z n2 en V U) := by
  obtain ⟨W, hW⟩ : ∃ W, ((w.alloc (.cells #[.slice a1 n1 c1, .int .i64 z, .slice a2 n2 k2, .int .i64 en] 25)).alloc (.cells zero4B 28)).alloc (.cells zero4B 28) = W := ⟨_, rfl⟩
  have hBW : Below w.heap.size w W := by rw [← hW]; exact below_then (below_then (below_new w _) (below_new _ _)) (below_new _ _)
  have hx : Box w.heap.size #[.slice a1 n1 c1, .int .i64 z, .slice a2 n2 k2, .int .i64 en] 25 W := by rw [← hW]; exact ((Box.new w _ _).alloc _).alloc _
  have hy : Box (w.heap.size + 1) zero4B 28 W := by
    have h9 := Box.new (w.alloc (.cells #[.slice a1 n1 c1, .int .i64 z, .slice a2 n2 k2, .int .i64 en] 25)) zero4B 28
    rw [World.size_alloc] at h9
    rw [← hW]; exact h9.alloc _
  have hq : Box (w.heap.size + 1 + 1) zero4B 28 W := by
    have h9 := Box.new ((w.alloc (.cells #[.slice a1 n1 c1, .int .i64 z, .slice a2 n2 k2, .int .i64 en] 25)).alloc (.cells zero4B 28)) zero4B 28
    rw [World.size_alloc, World.size_alloc] at h9
    rw [← hW]; exact h9
  have x0 : W.cell? ⟨w.heap.size, 0, none⟩ = some (.slice a1 n1 c1) := hx.cell 0
  have H0 := Lib.hid (And.intro hBW (And.intro hx (And.intro hy (And.intro hq (And.intro (h1.below hBW) h2)))))
  have hWl : w.heap.size + 1 + 1 < W.heap.size := hq.lt
  clear hBW hx hy hq h1 h2
  go_enter Try.func6, Try.ntmps6
  go_wp2_with (go_at_call 11; (with_reducible refine (toInts_new _ a1 n1 c1 V hn1 H0.out.2.2.2.2.1).mono ?_); rintro e w2 ⟨g1, rfl, ho, hb⟩; refine Hid.out ?_)
  have hz2 := H0.out.2.2.2.1.below hb
  have q0 : w2.cell? ⟨w.heap.size + 1 + 1, 0, none⟩ = some (.slice none 0 0) := hz2.cell 0
  have f0 : w2.frozen? ⟨w.heap.size + 1 + 1, 0, none⟩ = false := hz2.frozen 0
  have hg3 := grown_setCell w2 (w.heap.size + 1 + 1) 0 (.slice (some ⟨g1, 0, none⟩) n1 n1)
  have hz3 := hz2.set 0 (.slice (some ⟨g1, 0, none⟩) n1 n1)
  have hr3 := (Row.of_own ho).grown hg3 (fun b off e => by cases e; intro e9; have := (ho.lt g1 rfl).1; have := Option.some.inj e9; omega)
  have hb3 := (below_then H0.out.1 hb).grown hg3 (below_then H0.out.1 hb).size (fun q hq => by cases hq; omega)
  have hx3 := (H0.out.2.1.below hb).grown hg3 (fun e => by have := Option.some.inj e; omega)
  have hy3 := (H0.out.2.2.1.below hb).grown hg3 (fun e => by have := Option.some.inj e; omega)
  obtain ⟨w3, hw3⟩ : ∃ w3, w2.setCell ⟨w.heap.size + 1 + 1, 0, none⟩ (.slice (some ⟨g1, 0, none⟩) n1 n1) = w3 := ⟨_, rfl⟩
  rw [hw3] at hg3 hz3 hr3 hb3 hx3 hy3
  have x1 : w3.cell? ⟨w.heap.size, 1, none⟩ = some (.int .i64 z) := hx3.cell 1
  have q1 : w3.cell? ⟨w.heap.size + 1 + 1, 1, none⟩ = some (.int .i64 0) := hz3.cell 1
  have f1 : w3.frozen? ⟨w.heap.size + 1 + 1, 1, none⟩ = false := hz3.frozen 1
  have hg1l : g1 < w3.heap.size := Nat.lt_of_lt_of_le (ho.lt g1 rfl).2 hg3.size
  have hg1w : w.heap.size + 1 + 1 < g1 := Nat.lt_of_lt_of_le hWl (ho.lt g1 rfl).1
  have hg4 := grown_setCell w3 (w.heap.size + 1 + 1) 1 (.int .i64 z)
  have hz4 := hz3.set 1 (.int .i64 z)
  have hr4 := hr3.grown hg4 (fun b off e => by cases e; intro e9; have := Option.some.inj e9; omega)
  have hb4 := hb3.grown hg4 hb3.size (fun q hq => by cases hq; omega)
  have hx4 := hx3.grown hg4 (fun e => by have := Option.some.inj e; omega)
  have hy4 := hy3.grown hg4 (fun e => by have := Option.some.inj e; omega)
  obtain ⟨w4, hw4⟩ : ∃ w4, w3.setCell ⟨w.heap.size + 1 + 1, 1, none⟩ (.int .i64 z) = w4 := ⟨_, rfl⟩
  rw [hw4] at hg4 hz4 hr4 hb4 hx4 hy4
  have x2 : w4.cell? ⟨w.heap.size, 2, none⟩ = some (.slice a2 n2 k2) := hx4.cell 2
  have H4 := Lib.hid (And.intro hb4 (And.intro hx4 (And.intro hy4 (And.intro hz4 (And.intro hr4 (H0.out.2.2.2.2.2.below hb4))))))
  clear hg3 hz3 hr3 hb3 hx3 hy3 hz2 ho hb x0 hg4 hz4 hr4 hb4 hx4 hy4
  refine Lib.hid ?_
  go_wp2_with (go_at_call 12; (with_reducible refine (toss_box _ a2 n2 k2 U hz H4.out.2.2.2.2.2).mono ?_); rintro e w5 ⟨g2, rfl, ho, hb⟩; refine Hid.out ?_)
  have hz5 := H4.out.2.2.2.1.below hb
  have q2 : w5.cell? ⟨w.heap.size + 1 + 1, 2, none⟩ = some (.slice none 0 0) := hz5.cell 2
  have f2 : w5.frozen? ⟨w.heap.size + 1 + 1, 2, none⟩ = false := hz5.frozen 2
  have hg6 := grown_setCell w5 (w.heap.size + 1 + 1) 2 (.slice g2 n2 n2)
  have hz6 := hz5.set 2 (.slice g2 n2 n2)
  have hr6 := (H4.out.2.2.2.2.1.below hb).grown hg6 (fun b off e => by cases e; intro e9; have := Option.some.inj e9; omega)
  have hs4 : w.heap.size + 1 + 1 < w4.heap.size := H4.out.2.2.2.1.lt
  have hs6 := Go.Proofs.Ytmgeecdgebemdaa.bot.SsX.grown ho.out hg6 (show w.heap.size + 1 + 1 < w4.heap.size from hs4)
  have hb6 := (below_then H4.out.1 hb).grown hg6 (below_then H4.out.1 hb).size (fun q hq => by cases hq; omega)
  have hx6 := (H4.out.2.1.below hb).grown hg6 (fun e => by have := Option.some.inj e; omega)
  have hy6 := (H4.out.2.2.1.below hb).grown hg6 (fun e => by have := Option.some.inj e; omega)
  obtain ⟨w6, hw6⟩ : ∃ w4, w5.setCell ⟨w.heap.size + 1 + 1, 2, none⟩ (.slice g2 n2 n2) = w4 := ⟨_, rfl⟩
  rw [hw6] at hg6 hz6 hr6 hs6 hb6 hx6 hy6
  have x3 : w6.cell? ⟨w.heap.size, 3, none⟩ = some (.int .i64 en) := hx6.cell 3
  have q3 : w6.cell? ⟨w.heap.size + 1 + 1, 3, none⟩ = some (.int .i64 0) := hz6.cell 3
  have f3 : w6.frozen? ⟨w.heap.size + 1 + 1, 3, none⟩ = false := hz6.frozen 3
  have hg7 := grown_setCell w6 (w.heap.size + 1 + 1) 3 (.int .i64 en)
  have hz7 := hz6.set 3 (.int .i64 en)
  have hr7 := hr6.grown hg7 (fun b off e => by cases e; intro e9; have := Option.some.inj e9; omega)
  have hs7 := Go.Proofs.Ytmgeecdgebemdaa.bot.SsX.grown hs6 hg7 hs4
  have hb7 := hb6.grown hg7 hb6.size (fun q hq => by cases hq; omega)
  have hy7 := hy6.grown hg7 (fun e => by have := Option.some.inj e; omega)
  obtain ⟨w7, hw7⟩ : ∃ w4, w6.setCell ⟨w.heap.size + 1 + 1, 3, none⟩ (.int .i64 en) = w4 := ⟨_, rfl⟩
  rw [hw7] at hg7 hz7 hr7 hs7 hb7 hy7
  have H7 := Lib.hid (And.intro hb7 (And.intro hy7 (And.intro (show Box (w.heap.size + 1 + 1) #[.slice (some ⟨g1, 0, none⟩) n1 n1, .int .i64 z, .slice g2 n2 n2, .int .i64 en] 28 w7 from hz7) (And.intro hr7 hs7))))
  clear hg6 hz6 hr6 hs6 hb6 hx6 hy6 hg7 hz7 hr7 hs7 hb7 hy7 hz5 ho hb x2
  refine Lib.hid ?_
  go_wp2_with (first
    | (refine wpList_load_row rfl 28 _ rfl (w.heap.size + 1 + 1) rfl _ _ _ _ H7.out.2.2.1 Try.underlying28 rfl (by kernel_rfl) ?_)
    | ((refine wpList_store_box rfl 28 _ _ rfl (w.heap.size + 1) _ _ H7.out.2.1 #[.slice (some ⟨g1, 0, none⟩) n1 n1, .int .i64 z, .slice g2 n2 n2, .int .i64 en] rfl rfl rfl (by kernel_rfl) (by simp [Value.oneCell']) ?_); intro w8 hx8 hg8; refine Hid.out ?_))
  have hb8 := H7.out.1.grown hg8 H7.out.1.size (fun q hq => by cases hq; omega)
  have hr8 := H7.out.2.2.2.1.grown hg8 (fun b off e => by cases e; intro e9; have := Option.some.inj e9; omega)
  have hs8 := Go.Proofs.Ytmgeecdgebemdaa.bot.SsX.grown H7.out.2.2.2.2 hg8 (show w.heap.size + 1 < w4.heap.size by omega)
  have H8 := Lib.hid (And.intro hx8 (And.intro hb8 (And.intro hr8 hs8)))
  clear hx8 hg8 hb8 hr8 hs8
  refine Lib.hid ?_
  go_wp2
  exact bodyPost_ret (v := botV (some ⟨g1, 0, none⟩) n1 n1 z g2 n2 n2 en) (results_cell_row rfl _ _ (w.heap.size + 1) _ _ _ _ rfl H8.out.1 Try.underlying28 rfl (by kernel_rfl)) rfl ⟨_, n1, _, n2, rfl, ⟨H8.out.2.2.1, H8.out.2.2.2.row⟩, H8.out.2.1⟩
set_option maxHeartbeats 4000000 in
set_option maxRecDepth 100000 in
theorem eqboot_any (w : World) (a1 : Option Addr) (n1 c1 : Nat) (a2 : Option Addr) (n2 c2 : Nat) (b1 : Option Addr) (d1 : Nat) (b2 : Option Addr) (d2 : Nat) (z e : Int) (V : List Int) (U : List (List Int)) (hn1 : (n1 : Int) ≤ 1048576) (hz : SSizes U)
    (r1 : Row w a1 n1 V) (r2 : SRow w a2 n2 U) (s1 : Row w b1 n1 V) (s2 : SRow w b2 n2 U) :
    Calls Try.prog 8 #[botV a1 n1 c1 z a2 n2 c2 e, botV b1 n1 d1 z b2 n2 d2 e] w (BelB w true) := by
  obtain ⟨W, hW⟩ : ∃ W, (w.alloc (.cells #[.slice a1 n1 c1, .int .i64 z, .slice a2 n2 c2, .int .i64 e] 28)).alloc (.cells #[.slice b1 n1 d1, .int .i64 z, .slice b2 n2 d2, .int .i64 e] 28) = W := ⟨_, rfl⟩
  have hBW : Below w.heap.size w W := by rw [← hW]; exact below_then (below_new w _) (below_new _ _)
  have hx : Box w.heap.size #[.slice a1 n1 c1, .int .i64 z, .slice a2 n2 c2, .int .i64 e] 28 W := by rw [← hW]; exact (Box.new w _ _).alloc _
  have hy : Box (w.heap.size + 1) #[.slice b1 n1 d1, .int .i64 z, .slice b2 n2 d2, .int .i64 e] 28 W := by
    have h9 := Box.new (w.alloc (.cells #[.slice a1 n1 c1, .int .i64 z, .slice a2 n2 c2, .int .i64 e] 28)) #[.slice b1 n1 d1, .int .i64 z, .slice b2 n2 d2, .int .i64 e] 28
    rw [World.size_alloc] at h9
    rw [← hW]; exact h9
  have H0 := Lib.hid (And.intro hBW (And.intro (r1.below hBW) (And.intro (r2.below hBW) (And.intro (s1.below hBW) (s2.below hBW)))))
  have x0 : W.cell? ⟨w.heap.size, 0, none⟩ = some (.slice a1 n1 c1) := hx.cell 0
  have y0 : W.cell? ⟨w.heap.size + 1, 0, none⟩ = some (.slice b1 n1 d1) := hy.cell 0
  have HX := Lib.hid (And.intro hx hy)
  clear hBW r1 r2 s1 s2 hx hy
  go_enter Try.func8, Try.ntmps8
  go_wp2_with (go_at_call 13; (with_reducible refine (eqInts_any _ a1 b1 n1 c1 d1 V hn1 H0.out.2.1 H0.out.2.2.2.1).mono ?_); rintro e w2 ⟨rfl, hg2⟩; refine Hid.out ?_)
  have hb2 : Below W.heap.size W w2 := (Below.refl _ W).grown hg2 (Nat.le_refl _) (fun k hk => by cases hk)
  have hX2 := HX.out.1.below hb2
  have hY2 := HX.out.2.below hb2
  have H2 := Lib.hid (And.intro (below_then H0.out.1 hb2) (And.intro (H0.out.2.2.1.below hb2) (H0.out.2.2.2.2.below hb2)))
  have x1 : w2.cell? ⟨w.heap.size, 1, none⟩ = some (.int .i64 z) := hX2.cell 1
  have y1 : w2.cell? ⟨w.heap.size + 1, 1, none⟩ = some (.int .i64 z) := hY2.cell 1
  have x2 : w2.cell? ⟨w.heap.size, 2, none⟩ = some (.slice a2 n2 c2) := hX2.cell 2
  have y2 : w2.cell? ⟨w.heap.size + 1, 2, none⟩ = some (.slice b2 n2 d2) := hY2.cell 2
  have HX2 := Lib.hid (And.intro hX2 hY2)
  clear hg2 hb2 x0 y0 hX2 hY2
  refine Lib.hid ?_
  go_wp2_with (go_at_call 14; (with_reducible refine (eqss_any _ a2 b2 n2 c2 d2 U hz H2.out.2.1 H2.out.2.2).mono ?_); rintro e w3 ⟨rfl, hb3⟩; refine Hid.out ?_)
  have hX3 := HX2.out.1.below hb3
  have hY3 := HX2.out.2.below hb3
  have x3 : w3.cell? ⟨w.heap.size, 3, none⟩ = some (.int .i64 e) := hX3.cell 3
  have y3 : w3.cell? ⟨w.heap.size + 1, 3, none⟩ = some (.int .i64 e) := hY3.cell 3
  have HB3 := Lib.hid (below_then H2.out.1 hb3)
  clear hb3 x1 y1 x2 y2 hX3 hY3
  refine Lib.hid ?_
  go_wp2
  go_ret
  exact ⟨rfl, HB3.out⟩
end Go.Proofs.Ytmgeecdgebemdaa.bot
