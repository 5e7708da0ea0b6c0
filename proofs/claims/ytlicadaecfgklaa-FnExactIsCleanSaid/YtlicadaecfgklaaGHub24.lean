/- Several texts in one: TkD. -/
import Derived.Test.YtlicadaecfgklaaGHub23
import Derived.Deep.RegionHeld3

/- The law's own comparison of tasks and programs; nothing that was there is written. -/
namespace Go.Proofs.Ytlicadaecfgklaa.prg
open Go Go.ChangeShapes Go.WideShapes Go.ChangeAt Go.RowKit Go.Proofs.Ytlicadaecfgklaa.row Go.Proofs.Ytlicadaecfgklaa.val Go.Proofs.Ytlicadaecfgklaa.expr Go.Proofs.Ytlicadaecfgklaa.stm Go.Proofs.Ytlicadaecfgklaa.blk

set_option maxHeartbeats 2000000 in
set_option maxRecDepth 100000 in
theorem eqtask_any (t : Tk) (a a' : Option Addr) (n cap cap' : Nat) (w : World) (hn : (n : Int) ≤ 1048576) (h1 : StRow w a n t.b) (h2 : StRow w a' n t.b) :
    Calls Try.prog 59 #[tkV a n cap t, tkV a' n cap' t] w (BelB w true) := by
  obtain ⟨B, o, x, y⟩ := t
  obtain ⟨W, hW⟩ : ∃ W, W = (w.alloc (.cells #[.slice a n cap, .int .i64 o, .int .i64 x, .int .i64 y] 74)).alloc (.cells #[.slice a' n cap', .int .i64 o, .int .i64 x, .int .i64 y] 74) := ⟨_, rfl⟩
  have e1 : ∀ x : Obj, (w.alloc x).heap.size = w.heap.size + 1 := fun x => by simp
  have b0 : Box w.heap.size #[.slice a n cap, .int .i64 o, .int .i64 x, .int .i64 y] 74 W := by
    rw [hW]; exact (Box.new w _ _).alloc _
  have b1 : Box (w.heap.size + 1) #[.slice a' n cap', .int .i64 o, .int .i64 x, .int .i64 y] 74 W := by
    have h9 := Box.new (w.alloc (.cells #[.slice a n cap, .int .i64 o, .int .i64 x, .int .i64 y] 74)) #[.slice a' n cap', .int .i64 o, .int .i64 x, .int .i64 y] 74
    rw [e1] at h9; rw [hW]; exact h9
  have hb : Below w.heap.size w W := by rw [hW]; exact ((Below.refl _ _).alloc (Nat.le_refl _) _).alloc (by simp) _
  have H0 := Lib.hid (And.intro b0 (And.intro b1 (And.intro hb (And.intro (h1.below hb) (h2.below hb)))))
  have HW := Lib.hid hW
  clear b0 b1 hb hW e1 h1 h2
  go_enter Try.func59, Try.ntmps59
  go_wp2_with (go_at_call 67; rw [← HW.out]; refine (eqStmts_any W a a' n cap cap' B hn H0.out.2.2.2.1 H0.out.2.2.2.2).mono ?_; rintro e w1 ⟨rfl, hb1⟩; refine Hid.out ?_)
  have c0 := H0.out.1.below hb1
  have c1 := H0.out.2.1.below hb1
  have r1 : w1.cell? ⟨w.heap.size, 1, none⟩ = some (.int .i64 o) := c0.cell 1
  have r2 : w1.cell? ⟨w.heap.size, 2, none⟩ = some (.int .i64 x) := c0.cell 2
  have r3 : w1.cell? ⟨w.heap.size, 3, none⟩ = some (.int .i64 y) := c0.cell 3
  have q1 : w1.cell? ⟨w.heap.size + 1, 1, none⟩ = some (.int .i64 o) := c1.cell 1
  have q2 : w1.cell? ⟨w.heap.size + 1, 2, none⟩ = some (.int .i64 x) := c1.cell 2
  have q3 : w1.cell? ⟨w.heap.size + 1, 3, none⟩ = some (.int .i64 y) := c1.cell 3
  have HB := Lib.hid (below_then H0.out.2.2.1 hb1)
  clear hb1 c0 c1
  refine Lib.hid ?_
  go_wp2_with (go_at_call 68; refine (eqexpr_same o x y _).mono ?_; rintro e w2 ⟨rfl, hb2⟩)
  go_ret
  exact ⟨rfl, below_then HB.out hb2⟩
theorem held4o {w w' : World} {g o : Nat} {x0 x1 x2 x3 : Value} (hb : Below w.heap.size w w') (hg : g < w.heap.size)
    (h : w.cell? ⟨g, o, none⟩ = some x0 ∧ w.cell? ⟨g, o + 1, none⟩ = some x1 ∧ w.cell? ⟨g, o + 2, none⟩ = some x2 ∧ w.cell? ⟨g, o + 3, none⟩ = some x3) :
    w'.cell? ⟨g, o, none⟩ = some x0 ∧ w'.cell? ⟨g, o + 1, none⟩ = some x1 ∧ w'.cell? ⟨g, o + 2, none⟩ = some x2 ∧ w'.cell? ⟨g, o + 3, none⟩ = some x3 :=
  ⟨(hb.cell (p := ⟨g, o, none⟩) hg).trans h.1, (hb.cell (p := ⟨g, o + 1, none⟩) hg).trans h.2.1, (hb.cell (p := ⟨g, o + 2, none⟩) hg).trans h.2.2.1, (hb.cell (p := ⟨g, o + 3, none⟩) hg).trans h.2.2.2⟩
set_option maxHeartbeats 2000000 in
set_option maxRecDepth 100000 in
theorem eqtasks_any (w : World) (a a' : Option Addr) (n cap cap' : Nat) (P : List Tk) (hz : Sizes P) (h1 : TkRow w a n P) (h2 : TkRow w a' n P) :
    Calls Try.prog 47 #[.slice a n cap, .slice a' n cap'] w (BelB w true) := by
  have hn : (n : Int) ≤ 1048576 := by have := hz.1; rw [h1.1] at this; omega
  have HC : Hid (∀ wr : World, Below w.heap.size w wr → ∀ k, k < n → ∃ (g o g' o' : Nat) (t : Tk) (m : Nat) (b b' : Option Addr) (c c' : Nat), a = some ⟨g, o, none⟩ ∧ a' = some ⟨g', o', none⟩ ∧ g < wr.heap.size ∧ g' < wr.heap.size ∧
      wr.rangeAt g (o + k * 4) (tkC b m c t) ∧ wr.rangeAt g' (o' + k * 4) (tkC b' m c' t) ∧ (m : Int) ≤ 1048576 ∧ StRow wr b m t.b ∧ StRow wr b' m t.b) := by
    intro wr hb k hk
    obtain ⟨g, o, t, e1, l1, x1, b, m, c, k1, _, k3⟩ := (h1.below hb).2 k hk
    obtain ⟨g', o', t', e2, l2, x2, b', m', c', q1, _, q3⟩ := (h2.below hb).2 k hk
    obtain rfl : t = t' := by rw [x1] at x2; exact Option.some.inj x2
    obtain rfl : m = m' := by have := k3.1; have := q3.1; omega
    exact ⟨g, o, g', o', t, m, b, b', c, c', e1, e2, l1, l2, k1, q1, by have := hz.2 t (mem_at x1); rw [k3.1] at this; omega, k3, q3⟩
  clear h1 h2
  go_enter Try.func47, Try.ntmps47
  go_wp2
  go_loopw [5] (fun i wr => ∃ k : Nat, k ≤ n ∧ i = .int .i64 k ∧ Below w.heap.size w wr) (fun i _ => n - (intOf i).toNat)
  case atStart => exact ⟨0, Nat.zero_le _, rfl, Below.refl _ _⟩
  case round =>
    obtain ⟨k, hk, rfl, hbel⟩ := hrel
    by_cases hlt : k < n
    · obtain ⟨g, o, g', o', t, m, b, b', c, c', rfl, rfl, hgl, hgl', c1, c2, hm, s1, s2⟩ := HC.out wr hbel k hlt
      have hI : (k : Int) < n := by omega
      have HB := Lib.hid (And.intro hbel (And.intro s1 s2))
      have r0 : wr.drew.cell? ⟨g, o + k * 4, none⟩ = some (.slice b m c) ∧ wr.drew.cell? ⟨g, o + k * 4 + 1, none⟩ = some (.int .i64 t.o) ∧ wr.drew.cell? ⟨g, o + k * 4 + 2, none⟩ = some (.int .i64 t.x) ∧ wr.drew.cell? ⟨g, o + k * 4 + 3, none⟩ = some (.int .i64 t.y) := range4 c1
      have t0 : wr.drew.cell? ⟨g', o' + k * 4, none⟩ = some (.slice b' m c') ∧ wr.drew.cell? ⟨g', o' + k * 4 + 1, none⟩ = some (.int .i64 t.o) ∧ wr.drew.cell? ⟨g', o' + k * 4 + 2, none⟩ = some (.int .i64 t.x) ∧ wr.drew.cell? ⟨g', o' + k * 4 + 3, none⟩ = some (.int .i64 t.y) := range4 c2
      clear c1 c2 hbel s1 s2
      go_wp2
      go_region_held3 (fun w' => (w'.cell? ⟨g, o + k * 4, none⟩ = some (.slice b m c) ∧ w'.cell? ⟨g, o + k * 4 + 1, none⟩ = some (.int .i64 t.o) ∧ w'.cell? ⟨g, o + k * 4 + 2, none⟩ = some (.int .i64 t.x) ∧ w'.cell? ⟨g, o + k * 4 + 3, none⟩ = some (.int .i64 t.y)) ∧ (w'.cell? ⟨g', o' + k * 4, none⟩ = some (.slice b' m c') ∧ w'.cell? ⟨g', o' + k * 4 + 1, none⟩ = some (.int .i64 t.o) ∧ w'.cell? ⟨g', o' + k * 4 + 2, none⟩ = some (.int .i64 t.x) ∧ w'.cell? ⟨g', o' + k * 4 + 3, none⟩ = some (.int .i64 t.y)))
        (first | (exact ⟨r0, t0⟩) | (exact ⟨held4o (drew_below hb2) hgl r0, held4o (drew_below hb2) hgl' t0⟩))
        (first
          | (go_at_call 59; refine (eqtask_any t b b' m c c' _ hm (HB.out.2.1.below (Below.drew (Below.refl _ wr))) (HB.out.2.2.below (Below.drew (Below.refl _ wr)))).mono ?_; rintro e w2 ⟨rfl, hb2⟩))
      all_goals
        have hb3 := Lib.hid (HB.out.1.trans ((drew_below hb2).mono HB.out.1.size))
        clear hb2 r0 t0
        go_wp2
        go_roundw
        case rel => exact ⟨k + 1, by omega, by go_num, hb3.out⟩
        case measure => simp [intOf]; omega
    · have hI : ¬ (k : Int) < n := by omega
      have HB := Lib.hid hbel
      clear hbel
      go_wp2
      go_ret
      exact ⟨rfl, HB.out⟩
set_option maxHeartbeats 1000000 in
set_option maxRecDepth 100000 in
theorem eqprogram_any (w : World) (a a' : Option Addr) (n cap cap' : Nat) (P : List Tk) (hz : Sizes P) (h1 : TkRow w a n P) (h2 : TkRow w a' n P) :
    Calls Try.prog 24 #[.agg #[.slice a n cap], .agg #[.slice a' n cap']] w (BelB w true) := by
  have HZ := Lib.hid hz
  have H1 := Lib.hid (And.intro h1 h2)
  clear hz h1 h2
  go_enter Try.func24, Try.ntmps24
  go_wp2_with (go_at_call 47; refine (eqtasks_any _ a a' n cap cap' P HZ.out (H1.out.1.below ((below_new w _).alloc (by simp) _)) (H1.out.2.below ((below_new w _).alloc (by simp) _))).mono ?_; rintro e w2 ⟨rfl, hb2⟩)
  go_ret
  exact ⟨rfl, ((below_new w _).alloc (by simp) _).trans (hb2.mono (by simp; omega))⟩
end Go.Proofs.Ytlicadaecfgklaa.prg
