/- Several texts in one: RefI. -/
import Derived.Test.YtekdnhhmiabngaaGHub31
import Derived.Test.YtekdnhhmiabngaaGHub32
import Derived.Test.YtekdnhhmiabngaaGHub11

/- Chapter 13 of the program: SameRef, over the library's equality of rows of numbers (walked whole); with it RefRun and RefTasks; nothing that was there is written. -/
namespace Go.Proofs.Ytekdnhhmiabngaa.ref
open Go Go.ChangeShapes Go.WideShapes Go.ChangeAt Go.RowKit Go.Proofs.Ytekdnhhmiabngaa.row Go.Proofs.Ytekdnhhmiabngaa.val Go.Proofs.Ytekdnhhmiabngaa.expr Go.Proofs.Ytekdnhhmiabngaa.stm Go.Proofs.Ytekdnhhmiabngaa.blk Go.Proofs.Ytekdnhhmiabngaa.prg Go.Proofs.Ytekdnhhmiabngaa.exe Go.Proofs.Ytekdnhhmiabngaa.srow
set_option maxHeartbeats 4000000 in
set_option maxRecDepth 100000 in
theorem impl_equal (w : World) (a b : Option Addr) (n m cap cap' : Nat) (A B : List Int) (hn : (n : Int) ≤ 1048576) (hm : (m : Int) ≤ 1048576) (hA : Row w a n A) (hB : Row w b m B) (r : Bool) (hr : decide (A = B) = r) :
    Calls Try.prog 40 #[.slice a n cap, .slice b m cap'] w (BelB w r) := by
  have HR := Lib.hid hr
  have hAl := hA.1
  have hBl := hB.1
  have HC : Hid (∀ (wr : World), Below w.heap.size w wr → ∀ j, j < n → j < m → ∃ (g o g' o' : Nat) (x y : Int), a = some ⟨g, o, none⟩ ∧ b = some ⟨g', o', none⟩ ∧ A[j]? = some x ∧ B[j]? = some y ∧ wr.cell? ⟨g, o + j, none⟩ = some (.int .i64 x) ∧ wr.cell? ⟨g', o' + j, none⟩ = some (.int .i64 y)) := by
    intro wr hb j h1 h2
    obtain ⟨g, o, x, e1, _, x1, c1⟩ := (hA.below hb).2 j h1
    obtain ⟨g', o', y, e2, _, x2, c2⟩ := (hB.below hb).2 j h2
    exact ⟨g, o, g', o', x, y, e1, e2, x1, x2, c1, c2⟩
  clear hA hB hr
  by_cases hnm : n = m
  · subst hnm
    have hne : ((n : Int) != n) = false := by simp
    go_enter Try.func40, Try.ntmps40
    go_wp2
    go_loopw [13] (fun i wr => ∃ j : Nat, j ≤ n ∧ i = .int .i64 j ∧ Hid (∀ k, k < j → A[k]? = B[k]?) ∧ Below w.heap.size w wr) (fun i _ => n - (intOf i).toNat)
    case atStart => exact ⟨0, Nat.zero_le _, rfl, fun k hk => absurd hk (by omega), Below.refl _ _⟩
    case round =>
      obtain ⟨j, hj, rfl, HE, hbel⟩ := hrel
      by_cases hlt : j < n
      · have hI : (j : Int) < n := by omega
        obtain ⟨g, o, g', o', x, y, rfl, rfl, x1, x2, c1, c2⟩ := HC.out wr hbel j hlt hlt
        have HX := Lib.hid (And.intro x1 x2)
        have HB := Lib.hid hbel
        clear x1 x2 hbel
        by_cases hxy : x = y
        · subst hxy
          have hb : (x != x) = false := by simp
          have HE2 : Hid (∀ k, k < j + 1 → A[k]? = B[k]?) := fun k hk => by
            rcases (show k < j ∨ k = j by omega) with h | rfl
            · exact HE.out k h
            · rw [HX.out.1, HX.out.2]
          go_wp2
          go_quiet (fail)
          go_wp2
          go_roundw
          case rel => exact ⟨j + 1, by omega, by go_num, HE2, by first | exact HB.out | exact below_drewN HB.out _⟩
          case measure => simp [intOf]; omega
        · have hb : (x != y) = true := by simpa using hxy
          have HRJ := Lib.hid (show r = false by
            rw [← HR.out, decide_eq_false_iff_not]
            rintro rfl
            exact hxy (Option.some.inj (HX.out.1.symm.trans HX.out.2)))
          go_wp2
          go_quiet (fail)
          go_wp2
          go_ret
          exact ⟨by rw [HRJ.out]; rfl, by first | exact HB.out | exact below_drewN HB.out _⟩
      · have HB := Lib.hid hbel
        have hI : ¬ (j : Int) < n := by omega
        have HRJ := Lib.hid (show r = true by
          rw [← HR.out, decide_eq_true_iff]
          refine List.ext_getElem? (fun k => ?_)
          by_cases hk : k < j
          · exact HE.out k hk
          · rw [List.getElem?_eq_none (by omega), List.getElem?_eq_none (by omega)])
        clear hbel
        go_wp2
        go_ret
        exact ⟨by rw [HRJ.out]; rfl, HB.out⟩
  · have hne : ((n : Int) != m) = true := by simp; omega
    have HRJ := Lib.hid (show r = false by
      rw [← HR.out, decide_eq_false_iff_not]
      rintro rfl
      omega)
    clear hnm
    go_enter Try.func40, Try.ntmps40
    go_wp2
    go_ret
    exact ⟨by rw [HRJ.out]; rfl, Below.refl _ _⟩
set_option maxHeartbeats 4000000 in
set_option maxRecDepth 100000 in
theorem impl_sameref0 (w : World) (a1 : Option Addr) (n1 c1 : Nat) (a2 : Option Addr) (n2 c2 : Nat) (A : Rf) (hn1 : (n1 : Int) ≤ 1048576) (hn2 : (n2 : Int) ≤ 1048576) (hA1 : Row w a1 n1 A.V) (hA2 : Row w a2 n2 A.S) (b1 : Option Addr) (m1 d1 : Nat) (b2 : Option Addr) (m2 d2 : Nat) (B : Rf) (hm1 : (m1 : Int) ≤ 1048576) (hm2 : (m2 : Int) ≤ 1048576) (hB1 : Row w b1 m1 B.V) (hB2 : Row w b2 m2 B.S)
    (r : Bool) (hr : sameRf A B = r) : Calls Try.prog 18 #[refV a1 n1 c1 a2 n2 c2 A, refV b1 m1 d1 b2 m2 d2 B] w (BelB w r) := by
  obtain ⟨V, S, T⟩ := A
  obtain ⟨V', S', T'⟩ := B
  show Calls Try.prog 18 #[.agg #[.slice a1 n1 c1, .slice a2 n2 c2, .int .i64 T], .agg #[.slice b1 m1 d1, .slice b2 m2 d2, .int .i64 T']] w (BelB w r)
  dsimp only at hA1 hA2 hB1 hB2
  obtain ⟨W, hW⟩ : ∃ W, (w.alloc (.cells #[.slice a1 n1 c1, .slice a2 n2 c2, .int .i64 T] 45)).alloc (.cells #[.slice b1 m1 d1, .slice b2 m2 d2, .int .i64 T'] 45) = W := ⟨_, rfl⟩
  have hBW : Below w.heap.size w W := by rw [← hW]; exact below_then (below_new w _) (below_new _ _)
  have hx : Box w.heap.size #[.slice a1 n1 c1, .slice a2 n2 c2, .int .i64 T] 45 W := by rw [← hW]; exact (Box.new w _ _).alloc _
  have hy : Box (w.heap.size + 1) #[.slice b1 m1 d1, .slice b2 m2 d2, .int .i64 T'] 45 W := by
    have h9 := Box.new (w.alloc (.cells #[.slice a1 n1 c1, .slice a2 n2 c2, .int .i64 T] 45)) #[.slice b1 m1 d1, .slice b2 m2 d2, .int .i64 T'] 45
    rw [World.size_alloc] at h9
    rw [← hW]; exact h9
  have H0 := Lib.hid (And.intro hBW (And.intro (hA1.below hBW) (And.intro (hA2.below hBW) (And.intro (hB1.below hBW) (hB2.below hBW)))))
  have x0 : W.cell? ⟨w.heap.size, 0, none⟩ = some (.slice a1 n1 c1) := hx.cell 0
  have y0 : W.cell? ⟨w.heap.size + 1, 0, none⟩ = some (.slice b1 m1 d1) := hy.cell 0
  have HX := Lib.hid (And.intro hx hy)
  have HR := Lib.hid hr
  clear hBW hA1 hA2 hB1 hB2 hx hy hr
  cases h1 : decide (V = V')
  · have H1 := Lib.hid h1
    obtain rfl : false = r := by rw [← HR.out]; simp [sameRf, h1]
    clear h1
    go_enter Try.func18, Try.ntmps18
    go_wp2_with (go_at_call 40; (with_reducible refine (impl_equal _ a1 b1 n1 m1 c1 d1 V V' hn1 hm1 H0.out.2.1 H0.out.2.2.2.1 false H1.out).mono ?_); rintro e w2 ⟨rfl, hb2⟩; refine Hid.out ?_)
    have HB := Lib.hid (below_then H0.out.1 hb2)
    clear hb2
    refine Lib.hid ?_
    go_wp2
    go_ret
    exact ⟨rfl, HB.out⟩
  · have H1 := Lib.hid h1
    cases h2 : decide (S = S')
    · have H2 := Lib.hid h2
      obtain rfl : false = r := by rw [← HR.out]; simp [sameRf, h2]
      clear h1 h2
      go_enter Try.func18, Try.ntmps18
      go_wp2_with (go_at_call 40; (with_reducible refine (impl_equal _ a1 b1 n1 m1 c1 d1 V V' hn1 hm1 H0.out.2.1 H0.out.2.2.2.1 true H1.out).mono ?_); rintro e w2 ⟨rfl, hb2⟩; refine Hid.out ?_)
      have x1 : w2.cell? ⟨w.heap.size, 1, none⟩ = some (.slice a2 n2 c2) := (HX.out.1.below hb2).cell 1
      have y1 : w2.cell? ⟨w.heap.size + 1, 1, none⟩ = some (.slice b2 m2 d2) := (HX.out.2.below hb2).cell 1
      have HB := Lib.hid (And.intro (below_then H0.out.1 hb2) (And.intro (H0.out.2.2.1.below hb2) (H0.out.2.2.2.2.below hb2)))
      clear hb2 x0 y0
      refine Lib.hid ?_
      go_wp2_with (go_at_call 40; (with_reducible refine (impl_equal _ a2 b2 n2 m2 c2 d2 S S' hn2 hm2 HB.out.2.1 HB.out.2.2 false H2.out).mono ?_); rintro e w3 ⟨rfl, hb3⟩; refine Hid.out ?_)
      have HB3 := Lib.hid (below_then HB.out.1 hb3)
      clear hb3
      refine Lib.hid ?_
      go_wp2
      go_ret
      exact ⟨rfl, HB3.out⟩
    · have H2 := Lib.hid h2
      have hrT : decide (T = T') = r := by rw [← HR.out]; simp only [sameRf, h1, h2, Bool.true_and]
      have HRT := Lib.hid hrT
      clear h1 h2 hrT
      go_enter Try.func18, Try.ntmps18
      go_wp2_with (go_at_call 40; (with_reducible refine (impl_equal _ a1 b1 n1 m1 c1 d1 V V' hn1 hm1 H0.out.2.1 H0.out.2.2.2.1 true H1.out).mono ?_); rintro e w2 ⟨rfl, hb2⟩; refine Hid.out ?_)
      have x1 : w2.cell? ⟨w.heap.size, 1, none⟩ = some (.slice a2 n2 c2) := (HX.out.1.below hb2).cell 1
      have y1 : w2.cell? ⟨w.heap.size + 1, 1, none⟩ = some (.slice b2 m2 d2) := (HX.out.2.below hb2).cell 1
      have HB := Lib.hid (And.intro (below_then H0.out.1 hb2) (And.intro (H0.out.2.2.1.below hb2) (H0.out.2.2.2.2.below hb2)))
      have HX2 := Lib.hid (And.intro (HX.out.1.below hb2) (HX.out.2.below hb2))
      clear hb2 x0 y0
      refine Lib.hid ?_
      go_wp2_with (go_at_call 40; (with_reducible refine (impl_equal _ a2 b2 n2 m2 c2 d2 S S' hn2 hm2 HB.out.2.1 HB.out.2.2 true H2.out).mono ?_); rintro e w3 ⟨rfl, hb3⟩; refine Hid.out ?_)
      have x2 : w3.cell? ⟨w.heap.size, 2, none⟩ = some (.int .i64 T) := (HX2.out.1.below hb3).cell 2
      have y2 : w3.cell? ⟨w.heap.size + 1, 2, none⟩ = some (.int .i64 T') := (HX2.out.2.below hb3).cell 2
      have HB3 := Lib.hid (below_then HB.out.1 hb3)
      clear hb3 x1 y1
      by_cases hT : T = T'
      · have hb : (T == T') = true := by simpa using hT
        refine Lib.hid ?_
        go_wp2
        go_ret
        exact ⟨by rw [← HRT.out]; simp [hT], HB3.out⟩
      · have hb : (T == T') = false := by simpa using hT
        refine Lib.hid ?_
        go_wp2
        go_ret
        exact ⟨by rw [← HRT.out]; simp [hT], HB3.out⟩
theorem impl_sameref : SrC := fun w a1 n1 c1 a2 n2 c2 A hn1 hn2 hA1 hA2 b1 m1 d1 b2 m2 d2 B hm1 hm2 hB1 hB2 r hr => impl_sameref0 w a1 n1 c1 a2 n2 c2 A hn1 hn2 hA1 hA2 b1 m1 d1 b2 m2 d2 B hm1 hm2 hB1 hB2 r hr
end Go.Proofs.Ytekdnhhmiabngaa.ref
