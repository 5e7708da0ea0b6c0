/- Several texts in one: EvalD ExeQ. -/
import Derived.Test.YtndpadnjjbbkkaaGreatGHub45
import Derived.Test.YtndpadnjjbbkkaaGreatGHub22
import Derived.Test.YtndpadnjjbbkkaaGreatGHub10
import Derived.Test.YtndpadnjjbbkkaaGreatGHub19
import Derived.BigQuiet

/- The value of an expression is a value and depends on its operands alone: plain mathematics over the functions of the texts before; and the law's own search in a row of numbers. -/
namespace Go.Proofs.YtndpadnjjbbkkaaGreat.expr
open Go.ChangeShapes Go.WideShapes Go.ChangeAt Go.RowKit Go.Proofs.YtndpadnjjbbkkaaGreat.row Go.Proofs.YtndpadnjjbbkkaaGreat.val

theorem mem_rd {a b : Int} {k j : Nat} : (j : Int) ∈ rd a b k ↔ j < k ∧ (a = -1 - (j : Int) ∨ b = -1 - (j : Int)) := by
  simp only [rd, List.mem_map, List.mem_filter, List.mem_range, Bool.or_eq_true, decide_eq_true_eq]
  constructor
  · rintro ⟨i, ⟨h1, h2⟩, e⟩
    have : i = j := by omega
    subst this; exact ⟨h1, h2⟩
  · rintro ⟨h1, h2⟩; exact ⟨j, ⟨h1, h2⟩, rfl⟩
theorem varsOk_set {V : List Int} (h : varsOk V = true) {q : Int} (hq : isVal q = true) (j : Nat) : varsOk (V.set j q) = true := by
  obtain ⟨h1, h2⟩ := (varsOk_iff V).1 h
  refine (varsOk_iff _).2 ⟨by simpa using h1, fun x hx => ?_⟩
  rcases List.mem_or_eq_of_mem_set hx with h | h
  · exact h2 x h
  · rw [h]; exact hq
theorem valOf_set {V : List Int} {q m : Int} {j : Nat} (hm : m ≠ -1 - (j : Int)) : valOf (V.set j q) m = valOf V m := by
  unfold valOf
  split
  · rw [List.getD_eq_getElem?_getD, List.getD_eq_getElem?_getD, List.getElem?_set_ne (by omega)]
  · rfl
theorem evalV_set {V : List Int} {q : Int} {j : Nat} {o a b : Int} (h : varsOk V = true) (hq : isVal q = true) (hj : j < 8) (hn : ¬ (j : Int) ∈ rd a b 8) : evalV (V.set j q) o a b = evalV V o a b := by
  have hne : ¬ (a = -1 - (j : Int) ∨ b = -1 - (j : Int)) := fun h => hn (mem_rd.2 ⟨hj, h⟩)
  unfold evalV
  rw [varsOk_set h hq j, h, valOf_set (fun e => hne (Or.inl e)), valOf_set (fun e => hne (Or.inr e))]
theorem rd_short {a b : Int} (ha : opndOk a = true) (hb : opndOk b = true) : (rd a b 8).length ≤ 2 := by
  rw [← reads_same a b ((opndOk_iff a).1 ha).1 ((opndOk_iff b).1 hb).1]
  refine Nat.le_trans (Lib.compact_length_le _) ?_
  have h : ∀ x, (vk x).length ≤ 1 := fun x => by unfold vk; split <;> simp
  have h1 := h a; have h2 := h b
  rw [srt, List.length_mergeSort, List.length_append]; omega

set_option maxRecDepth 100000 in
theorem has_any (w : World) (a : Option Addr) (n cap : Nat) (L : List Int) (q : Int) (r : Bool) (hn : (n : Int) ≤ 1048576) (h : Row w a n L) (hr : decide (q ∈ L) = r) :
    Calls Tryz.prog 29 #[.slice a n cap, .int .i64 q] w (RetB w r) := by
  subst hr
  have HL := Lib.hid h.1
  have HC : Hid (∀ k, k < n → ∃ (b off : Nat) (x : Int), a = some ⟨b, off, none⟩ ∧ L[k]? = some x ∧ w.cell? ⟨b, off + k, none⟩ = some (.int .i64 x)) := fun k hk => by
    obtain ⟨b, off, x, e, _, hx, hc⟩ := h.2 k hk
    exact ⟨b, off, x, e, hx, hc⟩
  clear h
  go_enter Tryz.func29, Tryz.ntmps29
  go_wp2
  go_loop [5] (fun i => ∃ k : Nat, k ≤ n ∧ i = .int .i64 k ∧ Hid (¬ q ∈ L.take k)) (fun i => n - (intOf i).toNat)
  case atStart => exact ⟨0, Nat.zero_le _, rfl, by simp [Hid]⟩
  case round =>
    obtain ⟨k, hk, rfl, hA⟩ := hrel
    by_cases hlt : k < n
    · obtain ⟨b, off, x, rfl, hx, hc⟩ := HC.out k hlt
      have hI : (k : Int) < n := by omega
      by_cases hq : x = q
      · subst hq
        have HF : Hid (decide (x ∈ L) = true) := by
          show _ = _
          rw [decide_eq_true_eq]; exact List.mem_of_getElem? hx
        clear hx
        go_wp2
        go_ret
        exact ⟨by rw [HF.out]; rfl, rfl⟩
      · have hqb : (x == q) = false := by simpa using hq
        have HA2 : Hid (¬ q ∈ L.take (k + 1)) := by
          show ¬ _
          rw [List.take_add_one, hx, List.mem_append]
          rintro (h | h)
          · exact hA.out h
          · simp at h; exact hq h.symm
        clear hx hq
        go_wp2
        go_round
        case rel => exact ⟨k + 1, by omega, by go_num, HA2⟩
        case measure => simp [intOf]; omega
    · have hkn : k = n := by omega
      subst hkn
      have HF : Hid (decide (q ∈ L) = false) := by
        show _ = _
        rw [decide_eq_false_iff_not]
        have := hA.out
        rwa [List.take_of_length_le (by have := HL.out; omega)] at this
      clear hA
      go_wp2
      go_ret
      exact ⟨by rw [HF.out]; rfl, rfl⟩
end Go.Proofs.YtndpadnjjbbkkaaGreat.expr

/- The laws' own comparison of two rows of numbers and of two effects, at equal ones; nothing that was there is written. -/
namespace Go.Proofs.YtndpadnjjbbkkaaGreat.exe
open Go Go.ChangeShapes Go.WideShapes Go.ChangeAt Go.RowKit Go.Proofs.YtndpadnjjbbkkaaGreat.row Go.Proofs.YtndpadnjjbbkkaaGreat.val Go.Proofs.YtndpadnjjbbkkaaGreat.expr

set_option maxHeartbeats 1000000 in
theorem same_row (w : World) (a a' : Option Addr) (n cap cap' : Nat) (L : List Int) (hn : (n : Int) ≤ 1048576) (h1 : Row w a n L) (h2 : Row w a' n L) :
    Calls Tryz.prog 33 #[.slice a n cap, .slice a' n cap'] w fun e w' => e = .returned (.bool true) ∧ w.grownBy w' none := by
  have HC : Hid (∀ k, k < n → ∃ (g o g' o' : Nat) (X : Int), a = some ⟨g, o, none⟩ ∧ a' = some ⟨g', o', none⟩ ∧ w.cell? ⟨g, o + k, none⟩ = some (.int .i64 X) ∧ w.cell? ⟨g', o' + k, none⟩ = some (.int .i64 X)) := by
    intro k hk
    obtain ⟨g, o, X, e1, _, x1, c1⟩ := h1.2 k hk
    obtain ⟨g', o', X', e2, _, x2, c2⟩ := h2.2 k hk
    obtain rfl : X = X' := by rw [x1] at x2; exact Option.some.inj x2
    exact ⟨g, o, g', o', X, e1, e2, c1, c2⟩
  clear h1 h2
  go_enter Tryz.func33, Tryz.ntmps33
  go_wp2
  go_loopw [5] (fun i wr => ∃ k : Nat, k ≤ n ∧ i = .int .i64 k ∧ w.grownBy wr none) (fun i _ => n - (intOf i).toNat)
  case atStart => exact ⟨0, Nat.zero_le _, rfl, row.grown_refl _ _⟩
  case round =>
    obtain ⟨k, hk, rfl, hg⟩ := hrel
    by_cases hlt : k < n
    · obtain ⟨g, o, g', o', X, rfl, rfl, c1, c2⟩ := HC.out k hlt
      have d1 := hg.cell c1 (by simp)
      have d2 := hg.cell c2 (by simp)
      have hI : (k : Int) < n := by omega
      clear c1 c2
      go_wp2
      go_quiet (fail)
      go_wp2
      go_roundw
      case rel => exact ⟨k + 1, by omega, by go_num, row.grown_drewN hg _⟩
      case measure => simp [intOf]; omega
    · go_wp2
      go_ret
      exact ⟨rfl, hg⟩
set_option maxHeartbeats 4000000 in
theorem same_eff (w : World) (E : Eff) (a1 : Option Addr) (n1 c1 : Nat) (a2 : Option Addr) (n2 c2 : Nat) (b1 : Option Addr) (d1 : Nat) (b2 : Option Addr) (d2 : Nat) (hn1 : (n1 : Int) ≤ 1048576) (hn2 : (n2 : Int) ≤ 1048576)
    (r1 : Row w a1 n1 E.V) (r2 : Row w a2 n2 E.S) (s1 : Row w b1 n1 E.V) (s2 : Row w b2 n2 E.S) :
    Calls Tryz.prog 35 #[effV a1 n1 c1 a2 n2 c2 E, effV b1 n1 d1 b2 n2 d2 E] w (BelB w true) := by
  obtain ⟨V, S, N, U⟩ := E
  show Calls Tryz.prog 35 #[.agg #[.slice a1 n1 c1, .slice a2 n2 c2, .int .i64 N, .int .i64 U], .agg #[.slice b1 n1 d1, .slice b2 n2 d2, .int .i64 N, .int .i64 U]] w (BelB w true)
  obtain ⟨W, hW⟩ : ∃ W, (w.alloc (.cells #[.slice a1 n1 c1, .slice a2 n2 c2, .int .i64 N, .int .i64 U] 28)).alloc (.cells #[.slice b1 n1 d1, .slice b2 n2 d2, .int .i64 N, .int .i64 U] 28) = W := ⟨_, rfl⟩
  have hBW : Below w.heap.size w W := by rw [← hW]; exact below_then (below_new w _) (below_new _ _)
  have hx : Box w.heap.size #[.slice a1 n1 c1, .slice a2 n2 c2, .int .i64 N, .int .i64 U] 28 W := by rw [← hW]; exact (Box.new w _ _).alloc _
  have hy : Box (w.heap.size + 1) #[.slice b1 n1 d1, .slice b2 n2 d2, .int .i64 N, .int .i64 U] 28 W := by
    have h9 := Box.new (w.alloc (.cells #[.slice a1 n1 c1, .slice a2 n2 c2, .int .i64 N, .int .i64 U] 28)) #[.slice b1 n1 d1, .slice b2 n2 d2, .int .i64 N, .int .i64 U] 28
    rw [World.size_alloc] at h9
    rw [← hW]; exact h9
  have H0 := Lib.hid (And.intro hBW (And.intro (r1.below hBW) (And.intro (r2.below hBW) (And.intro (s1.below hBW) (s2.below hBW)))))
  have x0 : W.cell? ⟨w.heap.size, 0, none⟩ = some (.slice a1 n1 c1) := hx.cell 0
  have y0 : W.cell? ⟨w.heap.size + 1, 0, none⟩ = some (.slice b1 n1 d1) := hy.cell 0
  have HX := Lib.hid (And.intro hx hy)
  clear hBW r1 r2 s1 s2 hx hy
  go_enter Tryz.func35, Tryz.ntmps35
  go_wp2_with (go_at_call 33; (with_reducible refine (same_row _ a1 b1 n1 c1 d1 V hn1 H0.out.2.1 H0.out.2.2.2.1).mono ?_); rintro e w2 ⟨rfl, hg2⟩; refine Hid.out ?_)
  have hb2 : Below W.heap.size W w2 := (Below.refl _ W).grown hg2 (Nat.le_refl _) (fun k hk => by cases hk)
  have hX2 := HX.out.1.below hb2
  have hY2 := HX.out.2.below hb2
  have H2 := Lib.hid (And.intro (below_then H0.out.1 hb2) (And.intro (H0.out.2.2.1.below hb2) (H0.out.2.2.2.2.below hb2)))
  have x1 : w2.cell? ⟨w.heap.size, 1, none⟩ = some (.slice a2 n2 c2) := hX2.cell 1
  have y1 : w2.cell? ⟨w.heap.size + 1, 1, none⟩ = some (.slice b2 n2 d2) := hY2.cell 1
  have HX2 := Lib.hid (And.intro hX2 hY2)
  clear hg2 hb2 x0 y0 hX2 hY2
  refine Lib.hid ?_
  go_wp2_with (go_at_call 33; (with_reducible refine (same_row _ a2 b2 n2 c2 d2 S hn2 H2.out.2.1 H2.out.2.2).mono ?_); rintro e w3 ⟨rfl, hg3⟩; refine Hid.out ?_)
  have hb3 : Below w2.heap.size w2 w3 := (Below.refl _ w2).grown hg3 (Nat.le_refl _) (fun k hk => by cases hk)
  have hX3 := HX2.out.1.below hb3
  have hY3 := HX2.out.2.below hb3
  have x2 : w3.cell? ⟨w.heap.size, 2, none⟩ = some (.int .i64 N) := hX3.cell 2
  have y2 : w3.cell? ⟨w.heap.size + 1, 2, none⟩ = some (.int .i64 N) := hY3.cell 2
  have x3 : w3.cell? ⟨w.heap.size, 3, none⟩ = some (.int .i64 U) := hX3.cell 3
  have y3 : w3.cell? ⟨w.heap.size + 1, 3, none⟩ = some (.int .i64 U) := hY3.cell 3
  have HB3 := Lib.hid (below_then H2.out.1 hb3)
  clear hg3 hb3 x1 y1 hX3 hY3
  refine Lib.hid ?_
  go_wp2
  go_ret
  exact ⟨rfl, HB3.out⟩
end Go.Proofs.YtndpadnjjbbkkaaGreat.exe
