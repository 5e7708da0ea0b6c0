/- Several texts in one: WtO RefS. -/
import Derived.Test.YtlinpefeojpjnaaGHub12
import Derived.Test.YtlinpefeojpjnaaGHub4
import Derived.Test.YtlinpefeojpjnaaGHub1
import Derived.Deep.QuietTactic
import Derived.BigQuiet
import Derived.Deep.RegionHeld3
import Derived.Test.YtlinpefeojpjnaaGHub10

/- Chapter 10 of the model: FirstDiffering; nothing is written. -/
namespace Go.Proofs.Ytlinpefeojpjnaa.wrt
open Go Go.ChangeShapes Go.WideShapes Go.ChangeAt Go.RowKit Go.Proofs.Ytlinpefeojpjnaa.row Go.Proofs.Ytlinpefeojpjnaa.val Go.Proofs.Ytlinpefeojpjnaa.expr Go.Proofs.Ytlinpefeojpjnaa.grow

set_option maxHeartbeats 2000000 in
set_option maxRecDepth 100000 in
theorem spec_first (w : World) (a b : Option Addr) (n m cap cap' : Nat) (A B : List Int) (r : Int) (hn : (n : Int) ≤ 1048576) (hm : (m : Int) ≤ 1048576) (hA : Row w a n A) (hB : Row w b m B) (hr : FdIs A B r) :
    Calls Try.prog 32 #[.slice a n cap, .slice b m cap'] w (BelI w r) := by
  have HR := Lib.hid hr
  have HL := Lib.hid (And.intro hA.1 hB.1)
  have HC : Hid (∀ (wr : World), Below w.heap.size w wr → ∀ j, j < n → j < m → ∃ (g o g' o' : Nat) (x y : Int), a = some ⟨g, o, none⟩ ∧ b = some ⟨g', o', none⟩ ∧ A[j]? = some x ∧ B[j]? = some y ∧ wr.cell? ⟨g, o + j, none⟩ = some (.int .i64 x) ∧ wr.cell? ⟨g', o' + j, none⟩ = some (.int .i64 y)) := by
    intro wr hb j h1 h2
    obtain ⟨g, o, x, e1, _, x1, c1⟩ := (hA.below hb).2 j h1
    obtain ⟨g', o', y, e2, _, x2, c2⟩ := (hB.below hb).2 j h2
    exact ⟨g, o, g', o', x, y, e1, e2, x1, x2, c1, c2⟩
  clear hA hB hr
  go_enter Try.func32, Try.ntmps32
  go_wp2
  go_loopw [5] (fun i wr => ∃ j : Nat, j ≤ n ∧ j ≤ m ∧ i = .int .i64 j ∧ Hid (∀ k, k < j → A[k]? = B[k]?) ∧ Below w.heap.size w wr) (fun i _ => n - (intOf i).toNat)
  case atStart => exact ⟨0, Nat.zero_le _, Nat.zero_le _, rfl, fun k hk => absurd hk (by omega), Below.refl _ _⟩
  case round =>
    obtain ⟨j, hj1, hj2, rfl, HE, hbel⟩ := hrel
    have HB := Lib.hid hbel
    by_cases h1 : j < n
    · have hI1 : (j : Int) < n := by omega
      have hG1 : decide ((n : Int) ≤ j) = false := by simp; omega
      by_cases h2 : j < m
      · have hI2 : (j : Int) < m := by omega
        have hG2 : decide ((m : Int) ≤ j) = false := by simp; omega
        obtain ⟨g, o, g', o', x, y, rfl, rfl, x1, x2, c1, c2⟩ := HC.out wr hbel j h1 h2
        have HX := Lib.hid (And.intro x1 x2)
        clear x1 x2 hbel
        by_cases hxy : x = y
        · subst hxy
          have HE2 : Hid (∀ k, k < j + 1 → A[k]? = B[k]?) := fun k hk => by
            rcases (show k < j ∨ k = j by omega) with h | rfl
            · exact HE.out k h
            · rw [HX.out.1, HX.out.2]
          go_wp2
          go_quiet (fail)
          go_wp2
          go_roundw
          case rel => exact ⟨j + 1, by omega, by omega, by go_num, HE2, by first | exact HB.out | exact below_drewN HB.out _⟩
          case measure => simp [intOf]; omega
        · have hb : (x != y) = true := by simpa using hxy
          have HRJ := Lib.hid (show r = j from fd_at HR.out HE.out (by rw [HX.out.1, HX.out.2]; intro e; exact hxy (Option.some.inj e)))
          go_wp2
          go_quiet (fail)
          go_wp2
          go_ret
          exact ⟨ret_i HRJ.out.symm, by first | exact HB.out | exact below_drewN HB.out _⟩
      · obtain rfl : j = m := by omega
        have HRJ := Lib.hid (show r = j from fd_at HR.out HE.out (by rw [List.getElem?_eq_none (show B.length ≤ j by rw [HL.out.2]; exact Nat.le_refl _), List.getElem?_eq_getElem (show j < A.length by rw [HL.out.1]; exact h1)]; simp))
        clear hbel
        go_wp2
        refine wp_region_held_drew (S := fun _ => True) (by kernel_rfl) trivial (fun hHeld => ?_)
        refine wpAnyH_take (i := 0) (v := .int .i64 j) rfl (by kernel_rfl) (by kernel_rfl) (by kernel_rfl) (fun _ _ _ h => h) (Or.inl ⟨by rfl, (by intro w' hSw; (try dsimp only at hSw); go_simp)⟩) (by assumption) ?_
        try simp only [Act.put, List.getElem_toArray, List.getElem_cons_zero, List.setIfInBounds_toArray, List.set_cons_zero, List.set_cons_succ]
        refine wpAnyH_take (i := 1) (v := .slice a n cap) rfl (by kernel_rfl) (by kernel_rfl) (by kernel_rfl) (fun _ _ _ h => h) (Or.inl ⟨by rfl, (by intro w' hSw; (try dsimp only at hSw); go_simp)⟩) (by assumption) ?_
        try simp only [Act.put, List.getElem_toArray, List.getElem_cons_zero, List.getElem_cons_succ, List.setIfInBounds_toArray, List.set_cons_zero, List.set_cons_succ]
        refine wpAnyH_take (i := 2) (v := .int .i64 n) rfl (by kernel_rfl) (by kernel_rfl) (by kernel_rfl) (fun _ _ _ h => h) (Or.inl ⟨by rfl, (by intro w' hSw; (try dsimp only at hSw); go_simp)⟩) (by assumption) ?_
        try simp only [Act.put, List.getElem_toArray, List.getElem_cons_zero, List.getElem_cons_succ, List.setIfInBounds_toArray, List.set_cons_zero, List.set_cons_succ]
        refine wpAnyH_take (i := 3) (v := .bool false) rfl (by kernel_rfl) (by kernel_rfl) (by kernel_rfl) (fun _ _ _ h => h) (Or.inl ⟨by rfl, (by intro w' hSw; (try dsimp only at hSw); go_simp)⟩) (by assumption) ?_
        try simp only [Act.put, List.getElem_toArray, List.getElem_cons_zero, List.getElem_cons_succ, List.setIfInBounds_toArray, List.set_cons_zero, List.set_cons_succ]
        refine wpAnyH_take (i := 4) (v := .bool false) rfl (by kernel_rfl) (by kernel_rfl) (by kernel_rfl) (fun _ _ _ h => h) (Or.inl ⟨by rfl, (by intro w' hSw; (try dsimp only at hSw); go_simp)⟩) (by assumption) ?_
        try simp only [Act.put, List.getElem_toArray, List.getElem_cons_zero, List.getElem_cons_succ, List.setIfInBounds_toArray, List.set_cons_zero, List.set_cons_succ]
        refine wpAnyH_take (i := 5) (v := .int .i64 j) rfl (by kernel_rfl) (by kernel_rfl) (by kernel_rfl) (fun _ _ _ h => h) (Or.inl ⟨by rfl, (by intro w' hSw; (try dsimp only at hSw); go_simp)⟩) (by assumption) ?_
        try simp only [Act.put, List.getElem_toArray, List.getElem_cons_zero, List.getElem_cons_succ, List.setIfInBounds_toArray, List.set_cons_zero, List.set_cons_succ]
        refine wpAnyH_take (i := 6) (v := .slice b j cap') rfl (by kernel_rfl) (by kernel_rfl) (by kernel_rfl) (fun _ _ _ h => h) (Or.inl ⟨by rfl, (by intro w' hSw; (try dsimp only at hSw); go_simp)⟩) (by assumption) ?_
        try simp only [Act.put, List.getElem_toArray, List.getElem_cons_zero, List.getElem_cons_succ, List.setIfInBounds_toArray, List.set_cons_zero, List.set_cons_succ]
        refine wpAnyH_take (i := 7) (v := .int .i64 j) rfl (by kernel_rfl) (by kernel_rfl) (by kernel_rfl) (fun _ _ _ h => h) (Or.inl ⟨by rfl, (by intro w' hSw; (try dsimp only at hSw); go_simp)⟩) (by assumption) ?_
        try simp only [Act.put, List.getElem_toArray, List.getElem_cons_zero, List.getElem_cons_succ, List.setIfInBounds_toArray, List.set_cons_zero, List.set_cons_succ]
        refine wpAnyH_take (i := 8) (v := .bool true) rfl (by kernel_rfl) (by kernel_rfl) (by kernel_rfl) (fun _ _ _ h => h) (Or.inl ⟨by rfl, (by intro w' hSw; (try dsimp only at hSw); go_simp)⟩) (by assumption) ?_
        try simp only [Act.put, List.getElem_toArray, List.getElem_cons_zero, List.getElem_cons_succ, List.setIfInBounds_toArray, List.set_cons_zero, List.set_cons_succ]
        refine wpAnyH_take (i := 9) (v := .bool true) rfl (by kernel_rfl) (by kernel_rfl) (by kernel_rfl) (fun _ _ _ h => h) (Or.inl ⟨by rfl, (by intro w' hSw; (try dsimp only at hSw); go_simp)⟩) (by assumption) ?_
        try simp only [Act.put, List.getElem_toArray, List.getElem_cons_zero, List.getElem_cons_succ, List.setIfInBounds_toArray, List.set_cons_zero, List.set_cons_succ]
        refine wpAnyH_take (i := 10) (v := .bool true) rfl (by kernel_rfl) (by kernel_rfl) (by kernel_rfl) (fun _ _ _ h => h) (Or.inl ⟨by rfl, (by intro w' hSw; (try dsimp only at hSw); go_simp)⟩) (by assumption) ?_
        try simp only [Act.put, List.getElem_toArray, List.getElem_cons_zero, List.getElem_cons_succ, List.setIfInBounds_toArray, List.set_cons_zero, List.set_cons_succ]
        refine wpAnyH_take (i := 11) (v := undef) rfl (by kernel_rfl) (by kernel_rfl) (by kernel_rfl) (fun _ _ _ h => h) (Or.inr ⟨by kernel_rfl, rfl⟩) (by assumption) ?_
        try simp only [Act.put, List.getElem_toArray, List.getElem_cons_zero, List.getElem_cons_succ, List.setIfInBounds_toArray, List.set_cons_zero, List.set_cons_succ]
        refine wpAnyH_take (i := 12) (v := undef) rfl (by kernel_rfl) (by kernel_rfl) (by kernel_rfl) (fun _ _ _ h => h) (Or.inr ⟨by kernel_rfl, rfl⟩) (by assumption) ?_
        try simp only [Act.put, List.getElem_toArray, List.getElem_cons_zero, List.getElem_cons_succ, List.setIfInBounds_toArray, List.set_cons_zero, List.set_cons_succ]
        refine wpAnyH_take (i := 13) (v := undef) rfl (by kernel_rfl) (by kernel_rfl) (by kernel_rfl) (fun _ _ _ h => h) (Or.inr ⟨by kernel_rfl, rfl⟩) (by assumption) ?_
        try simp only [Act.put, List.getElem_toArray, List.getElem_cons_zero, List.getElem_cons_succ, List.setIfInBounds_toArray, List.set_cons_zero, List.set_cons_succ]
        refine wpAnyH_take (i := 14) (v := undef) rfl (by kernel_rfl) (by kernel_rfl) (by kernel_rfl) (fun _ _ _ h => h) (Or.inr ⟨by kernel_rfl, rfl⟩) (by assumption) ?_
        try simp only [Act.put, List.getElem_toArray, List.getElem_cons_zero, List.getElem_cons_succ, List.setIfInBounds_toArray, List.set_cons_zero, List.set_cons_succ]
        refine wpAnyH_take (i := 15) (v := undef) rfl (by kernel_rfl) (by kernel_rfl) (by kernel_rfl) (fun _ _ _ h => h) (Or.inr ⟨by kernel_rfl, rfl⟩) (by assumption) ?_
        try simp only [Act.put, List.getElem_toArray, List.getElem_cons_zero, List.getElem_cons_succ, List.setIfInBounds_toArray, List.set_cons_zero, List.set_cons_succ]
        refine wpAnyH_take (i := 16) (v := undef) rfl (by kernel_rfl) (by kernel_rfl) (by kernel_rfl) (fun _ _ _ h => h) (Or.inr ⟨by kernel_rfl, rfl⟩) (by assumption) ?_
        try simp only [Act.put, List.getElem_toArray, List.getElem_cons_zero, List.getElem_cons_succ, List.setIfInBounds_toArray, List.set_cons_zero, List.set_cons_succ]
        refine wpAnyH_take (i := 17) (v := undef) rfl (by kernel_rfl) (by kernel_rfl) (by kernel_rfl) (fun _ _ _ h => h) (Or.inr ⟨by kernel_rfl, rfl⟩) (by assumption) ?_
        try simp only [Act.put, List.getElem_toArray, List.getElem_cons_zero, List.getElem_cons_succ, List.setIfInBounds_toArray, List.set_cons_zero, List.set_cons_succ]
        refine wpAnyH_take (i := 18) (v := undef) rfl (by kernel_rfl) (by kernel_rfl) (by kernel_rfl) (fun _ _ _ h => h) (Or.inr ⟨by kernel_rfl, rfl⟩) (by assumption) ?_
        try simp only [Act.put, List.getElem_toArray, List.getElem_cons_zero, List.getElem_cons_succ, List.setIfInBounds_toArray, List.set_cons_zero, List.set_cons_succ]
        refine wpAnyH_take (i := 19) (v := undef) rfl (by kernel_rfl) (by kernel_rfl) (by kernel_rfl) (fun _ _ _ h => h) (Or.inr ⟨by kernel_rfl, rfl⟩) (by assumption) ?_
        try simp only [Act.put, List.getElem_toArray, List.getElem_cons_zero, List.getElem_cons_succ, List.setIfInBounds_toArray, List.set_cons_zero, List.set_cons_succ]
        refine wpAnyH_take (i := 20) (v := .bool true) rfl (by kernel_rfl) (by kernel_rfl) (by kernel_rfl) (fun _ _ _ h => h) (Or.inl ⟨by rfl, (by intro w' hSw; (try dsimp only at hSw); go_simp)⟩) (by assumption) ?_
        try simp only [Act.put, List.getElem_toArray, List.getElem_cons_zero, List.getElem_cons_succ, List.setIfInBounds_toArray, List.set_cons_zero, List.set_cons_succ]
        refine wpAnyH_done (by kernel_rfl) ?_ _
        go_wp2
        go_ret
        exact ⟨ret_i HRJ.out.symm, by first | exact HB.out | exact below_drewN HB.out _⟩
    · have hI1 : ¬ (j : Int) < n := by omega
      have hG1 : decide ((n : Int) ≤ j) = true := by simp; omega
      by_cases h2 : j < m
      · have hI2 : (j : Int) < m := by omega
        have hG2 : decide ((m : Int) ≤ j) = false := by simp; omega
        have HRJ := Lib.hid (show r = j from fd_at HR.out HE.out (by rw [List.getElem?_eq_none (show A.length ≤ j by rw [HL.out.1]; omega), List.getElem?_eq_getElem (show j < B.length by rw [HL.out.2]; exact h2)]; simp))
        clear hbel
        go_wp2
        go_quiet (fail)
        go_wp2
        go_ret
        exact ⟨ret_i HRJ.out.symm, by first | exact HB.out | exact below_drewN HB.out _⟩
      · have hI2 : ¬ (j : Int) < m := by omega
        have HRJ := Lib.hid (show r = -1 from fd_end HR.out HE.out (by rw [HL.out.1]; omega) (by rw [HL.out.2]; omega))
        clear hbel
        go_wp2
        go_ret
        exact ⟨ret_i HRJ.out.symm, HB.out⟩
end Go.Proofs.Ytlinpefeojpjnaa.wrt

/- Chapter 13 of the model: whether two references are the same; nothing that was there is written. -/
namespace Go.Proofs.Ytlinpefeojpjnaa.ref
open Go Go.ChangeShapes Go.WideShapes Go.ChangeAt Go.RowKit Go.Proofs.Ytlinpefeojpjnaa.row Go.Proofs.Ytlinpefeojpjnaa.val Go.Proofs.Ytlinpefeojpjnaa.expr Go.Proofs.Ytlinpefeojpjnaa.stm Go.Proofs.Ytlinpefeojpjnaa.blk Go.Proofs.Ytlinpefeojpjnaa.prg Go.Proofs.Ytlinpefeojpjnaa.exe Go.Proofs.Ytlinpefeojpjnaa.srow Go.Proofs.Ytlinpefeojpjnaa.wrt
set_option maxHeartbeats 1000000 in
set_option maxRecDepth 100000 in
theorem spec_same (w : World) (a b : Option Addr) (n m cap cap' : Nat) (A B : List Int) (hn : (n : Int) ≤ 1048576) (hm : (m : Int) ≤ 1048576) (hA : Row w a n A) (hB : Row w b m B) (r : Bool) (hr : decide (A = B) = r) :
    Calls Try.prog 19 #[.slice a n cap, .slice b m cap'] w (BelB w r) := by
  obtain ⟨q, hq⟩ := fd_ex A B
  have HQ := Lib.hid hq
  have H0 := Lib.hid (And.intro hA hB)
  have hqr : decide (q < 0) = r := by
    rw [← hr]
    rcases hq with ⟨rfl, h⟩ | ⟨k, rfl, _, h⟩
    · simp [h]
    · have hne : A ≠ B := fun e => h (by rw [e])
      have : ¬ (k : Int) < 0 := by omega
      simp [hne, this]
  clear hq hA hB hr
  have HR := Lib.hid hqr
  go_enter Try.func19, Try.ntmps19
  go_wp2_with (go_at_call 32; (with_reducible refine (spec_first _ a b n m cap cap' A B q hn hm H0.out.1 H0.out.2 HQ.out).mono ?_); rintro e w2 ⟨rfl, hb2⟩; refine Hid.out ?_)
  have HB2 := Lib.hid hb2
  clear hb2
  refine Lib.hid ?_
  go_wp2
  go_ret
  exact ⟨by rw [← HR.out]; rfl, HB2.out⟩
set_option maxHeartbeats 4000000 in
set_option maxRecDepth 100000 in
theorem spec_sameref (w : World) (a1 : Option Addr) (n1 c1 : Nat) (a2 : Option Addr) (n2 c2 : Nat) (A : Rf) (hn1 : (n1 : Int) ≤ 1048576) (hn2 : (n2 : Int) ≤ 1048576) (hA1 : Row w a1 n1 A.V) (hA2 : Row w a2 n2 A.S) (b1 : Option Addr) (m1 d1 : Nat) (b2 : Option Addr) (m2 d2 : Nat) (B : Rf) (hm1 : (m1 : Int) ≤ 1048576) (hm2 : (m2 : Int) ≤ 1048576) (hB1 : Row w b1 m1 B.V) (hB2 : Row w b2 m2 B.S)
    (r : Bool) (hr : sameRf A B = r) : Calls Try.prog 7 #[refV a1 n1 c1 a2 n2 c2 A, refV b1 m1 d1 b2 m2 d2 B] w (BelB w r) := by
  obtain ⟨V, S, T⟩ := A
  obtain ⟨V', S', T'⟩ := B
  show Calls Try.prog 7 #[.agg #[.slice a1 n1 c1, .slice a2 n2 c2, .int .i64 T], .agg #[.slice b1 m1 d1, .slice b2 m2 d2, .int .i64 T']] w (BelB w r)
  dsimp only at hA1 hA2 hB1 hB2
  obtain ⟨W, hW⟩ : ∃ W, (w.alloc (.cells #[.slice a1 n1 c1, .slice a2 n2 c2, .int .i64 T] 27)).alloc (.cells #[.slice b1 m1 d1, .slice b2 m2 d2, .int .i64 T'] 27) = W := ⟨_, rfl⟩
  have hBW : Below w.heap.size w W := by rw [← hW]; exact below_then (below_new w _) (below_new _ _)
  have hx : Box w.heap.size #[.slice a1 n1 c1, .slice a2 n2 c2, .int .i64 T] 27 W := by rw [← hW]; exact (Box.new w _ _).alloc _
  have hy : Box (w.heap.size + 1) #[.slice b1 m1 d1, .slice b2 m2 d2, .int .i64 T'] 27 W := by
    have h9 := Box.new (w.alloc (.cells #[.slice a1 n1 c1, .slice a2 n2 c2, .int .i64 T] 27)) #[.slice b1 m1 d1, .slice b2 m2 d2, .int .i64 T'] 27
    rw [World.size_alloc] at h9
    rw [← hW]; exact h9
  have H0 := Lib.hid (And.intro hBW (And.intro (hA1.below hBW) (And.intro (hA2.below hBW) (And.intro (hB1.below hBW) (hB2.below hBW)))))
  have x0 : W.cell? ⟨w.heap.size, 0, none⟩ = some (.slice a1 n1 c1) := hx.cell 0
  have y0 : W.cell? ⟨w.heap.size + 1, 0, none⟩ = some (.slice b1 m1 d1) := hy.cell 0
  have HX := Lib.hid (And.intro hx hy)
  have HR := Lib.hid hr
  clear hBW hA1 hA2 hB1 hB2 hx hy hr
  cases h1 : decide (V = V')
  · have H1 := Lib.hid h1
    obtain rfl : false = r := by rw [← HR.out]; simp [sameRf, h1]
    clear h1
    go_enter Try.func7, Try.ntmps7
    go_wp2_with (go_at_call 19; (with_reducible refine (spec_same _ a1 b1 n1 m1 c1 d1 V V' hn1 hm1 H0.out.2.1 H0.out.2.2.2.1 false H1.out).mono ?_); rintro e w2 ⟨rfl, hb2⟩; refine Hid.out ?_)
    have HB := Lib.hid (below_then H0.out.1 hb2)
    clear hb2
    refine Lib.hid ?_
    go_wp2
    go_ret
    exact ⟨rfl, HB.out⟩
  · have H1 := Lib.hid h1
    cases h2 : decide (S = S')
    · have H2 := Lib.hid h2
      obtain rfl : false = r := by rw [← HR.out]; simp [sameRf, h2]
      clear h1 h2
      go_enter Try.func7, Try.ntmps7
      go_wp2_with (go_at_call 19; (with_reducible refine (spec_same _ a1 b1 n1 m1 c1 d1 V V' hn1 hm1 H0.out.2.1 H0.out.2.2.2.1 true H1.out).mono ?_); rintro e w2 ⟨rfl, hb2⟩; refine Hid.out ?_)
      have x1 : w2.cell? ⟨w.heap.size, 1, none⟩ = some (.slice a2 n2 c2) := (HX.out.1.below hb2).cell 1
      have y1 : w2.cell? ⟨w.heap.size + 1, 1, none⟩ = some (.slice b2 m2 d2) := (HX.out.2.below hb2).cell 1
      have HB := Lib.hid (And.intro (below_then H0.out.1 hb2) (And.intro (H0.out.2.2.1.below hb2) (H0.out.2.2.2.2.below hb2)))
      clear hb2 x0 y0
      refine Lib.hid ?_
      go_wp2_with (go_at_call 19; (with_reducible refine (spec_same _ a2 b2 n2 m2 c2 d2 S S' hn2 hm2 HB.out.2.1 HB.out.2.2 false H2.out).mono ?_); rintro e w3 ⟨rfl, hb3⟩; refine Hid.out ?_)
      have HB3 := Lib.hid (below_then HB.out.1 hb3)
      clear hb3
      refine Lib.hid ?_
      go_wp2
      go_ret
      exact ⟨rfl, HB3.out⟩
    · have H2 := Lib.hid h2
      have hrT : decide (T = T') = r := by rw [← HR.out]; simp only [sameRf, h1, h2, Bool.true_and]
      have HRT := Lib.hid hrT
      clear h1 h2 hrT
      go_enter Try.func7, Try.ntmps7
      go_wp2_with (go_at_call 19; (with_reducible refine (spec_same _ a1 b1 n1 m1 c1 d1 V V' hn1 hm1 H0.out.2.1 H0.out.2.2.2.1 true H1.out).mono ?_); rintro e w2 ⟨rfl, hb2⟩; refine Hid.out ?_)
      have x1 : w2.cell? ⟨w.heap.size, 1, none⟩ = some (.slice a2 n2 c2) := (HX.out.1.below hb2).cell 1
      have y1 : w2.cell? ⟨w.heap.size + 1, 1, none⟩ = some (.slice b2 m2 d2) := (HX.out.2.below hb2).cell 1
      have HB := Lib.hid (And.intro (below_then H0.out.1 hb2) (And.intro (H0.out.2.2.1.below hb2) (H0.out.2.2.2.2.below hb2)))
      have HX2 := Lib.hid (And.intro (HX.out.1.below hb2) (HX.out.2.below hb2))
      clear hb2 x0 y0
      refine Lib.hid ?_
      go_wp2_with (go_at_call 19; (with_reducible refine (spec_same _ a2 b2 n2 m2 c2 d2 S S' hn2 hm2 HB.out.2.1 HB.out.2.2 true H2.out).mono ?_); rintro e w3 ⟨rfl, hb3⟩; refine Hid.out ?_)
      have x2 : w3.cell? ⟨w.heap.size, 2, none⟩ = some (.int .i64 T) := (HX2.out.1.below hb3).cell 2
      have y2 : w3.cell? ⟨w.heap.size + 1, 2, none⟩ = some (.int .i64 T') := (HX2.out.2.below hb3).cell 2
      have HB3 := Lib.hid (below_then HB.out.1 hb3)
      clear hb3 x1 y1
      by_cases hT : T = T'
      · have hb : (T == T') = true := by simpa using hT
        refine Lib.hid ?_
        go_wp2
        go_ret
        exact ⟨by rw [← HRT.out]; simp [hT], HB3.out⟩
      · have hb : (T == T') = false := by simpa using hT
        refine Lib.hid ?_
        go_wp2
        go_ret
        exact ⟨by rw [← HRT.out]; simp [hT], HB3.out⟩
end Go.Proofs.Ytlinpefeojpjnaa.ref
