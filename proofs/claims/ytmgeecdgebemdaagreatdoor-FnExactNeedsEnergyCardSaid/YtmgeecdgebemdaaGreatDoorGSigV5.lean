/- Several texts in one: VMarkW VMarkI VTkD VOpen VOpenB VOpenP VReadA VWtA. -/
import Derived.Test.YtmgeecdgebemdaaGreatDoorGSigV4
import Derived.Deep.RegionHeld3
import Derived.Test.YtmgeecdgebemdaaGreatDoorRows
import Derived.WalkKit
import Derived.ProofKit
import Derived.OpenShut
import Derived.Lib.SmallJoins
import Derived.Test.YtmgeecdgebemdaaGreatDoorGSigV2
import Derived.Deep.Slices
import Derived.Test.YtmgeecdgebemdaaGreatDoorGSigV3
import Derived.Lib.SlicesCompact
import Derived.Lib.RowBridge

/- The law's marks in a program of its own, of any size: which blocks are written, and that the number is no less than nothing. -/
namespace Go.Proofs.YtmgeecdgebemdaaGreatDoor.mrk
open Go Go.ChangeShapes Go.WideShapes Go.ChangeAt Go.RowKit Go.Proofs.YtmgeecdgebemdaaGreatDoor.row Go.Proofs.YtmgeecdgebemdaaGreatDoor.stm Go.Proofs.YtmgeecdgebemdaaGreatDoor.prg
/-- A list of tasks in blocks from 'lo' to 'hi', each known whole: its sizes alone. -/
def MkX (lo hi : Nat) (w : World) (g n : Nat) (L : List Nat) : Prop :=
  L.length = n ∧ lo ≤ g ∧ ∃ cs : Array Value, Box g cs 96 w ∧ cs.size = n * 4 ∧ ∀ j, j < n → ∃ (m b c : Nat) (csb : Array Value), L[j]? = some m ∧ cs[j * 4]? = some (.slice (some ⟨b, 0, none⟩) m c) ∧ lo ≤ b ∧ b ≠ g ∧ b < hi ∧ Box b csb 112 w ∧ m * 6 ≤ csb.size
theorem box_one {g : Nat} {cs cs' : Array Value} {t t' : TypeId} {w : World} (h : Box g cs t w) (h' : Box g cs' t' w) : cs = cs' := by
  unfold Box at h h'
  rw [h] at h'
  injection h' with h'
  injection h'
theorem MkX.below {lo hi g n : Nat} {w w' : World} {L : List Nat} (h : MkX lo hi w g n L) (hb : Below w.heap.size w w') : MkX lo hi w' g n L := by
  obtain ⟨h1, h2, cs, h3, h4, h5⟩ := h
  refine ⟨h1, h2, cs, h3.below hb, h4, fun j hj => ?_⟩
  obtain ⟨m, b, c, csb, q1, q2, q3, q4, q5, q6, q7⟩ := h5 j hj
  exact ⟨m, b, c, csb, q1, q2, q3, q4, q5, q6.below hb, q7⟩
theorem MkX.body {lo hi g n b : Nat} {w w' : World} {L : List Nat} (h : MkX lo hi w g n L) (hg : w.grownBy w' (some b)) (hne : b ≠ g) {csb csb' : Array Value} (h0 : Box b csb 112 w) (h1 : Box b csb' 112 w') (hs : csb'.size = csb.size) : MkX lo hi w' g n L := by
  obtain ⟨q1, q2, cs, q3, q4, q5⟩ := h
  refine ⟨q1, q2, cs, q3.grown hg (fun e => hne (Option.some.inj e).symm), q4, fun j hj => ?_⟩
  obtain ⟨m, b', c, cb', p1, p2, p3, p4, p5, p6, p7⟩ := q5 j hj
  by_cases e : b' = b
  · subst e
    have e2 := box_one p6 h0
    exact ⟨m, b', c, csb', p1, p2, p3, p4, p5, h1, by rw [hs, ← e2]; exact p7⟩
  · exact ⟨m, b', c, cb', p1, p2, p3, p4, p5, p6.grown hg (fun e9 => e (Option.some.inj e9)), p7⟩
theorem MkX.step {lo hi g n m : Nat} {w w' : World} {L : List Nat} {cs : Array Value} {x y z : Value} (h : MkX lo hi w g n L) (h0 : Box g cs 96 w) (hg : w.grownBy w' (some g)) (hb : Box g (setAll cs (m * 4 + 1) [x, y, z]) 96 w') : MkX lo hi w' g n L := by
  obtain ⟨q1, q2, cs', q3, q4, q5⟩ := h
  obtain rfl := box_one q3 h0
  refine ⟨q1, q2, _, hb, by rw [setAll_size]; exact q4, fun j hj => ?_⟩
  obtain ⟨k, b', c, cb', p1, p2, p3, p4, p5, p6, p7⟩ := q5 j hj
  exact ⟨k, b', c, cb', p1, by rw [setAll_out _ _ _ _ (by simp; omega)]; exact p2, p3, p4, p5, p6.grown hg (fun e9 => p4 (Option.some.inj e9)), p7⟩
/-- A copy of the law's own, its blocks in bounds. -/
theorem mk_of {lo n : Nat} {w : World} {a : Option Addr} {P : List Tk} (h : PrgX lo w a n P) : ∃ g, a = some ⟨g, 0, none⟩ ∧ g < w.heap.size ∧ MkX lo w.heap.size w g n (P.map fun t => t.b.length) := by
  obtain ⟨hl, g, cs, rfl, hlo, hb, hs, hP⟩ := h
  refine ⟨g, rfl, hb.lt, by simpa using hl, hlo, cs, hb, hs, fun j hj => ?_⟩
  obtain ⟨t, b, h1, h2, h3, h4⟩ := hP j hj
  exact ⟨t.b.length, b, t.b.length, _, by simp [h1], by have := h2 0 _ (by rfl); simpa using this, by omega, by omega, h4.lt, h4, by simp [stsC_len]⟩
end Go.Proofs.YtmgeecdgebemdaaGreatDoor.mrk

/- The law's marks in a row of numbers, from any number on; what a program's marks leave as it was. -/
namespace Go.Proofs.YtmgeecdgebemdaaGreatDoor.mrk
open Go Go.ChangeShapes Go.WideShapes Go.ChangeAt Go.RowKit Go.Proofs.YtmgeecdgebemdaaGreatDoor.row Go.Proofs.YtmgeecdgebemdaaGreatDoor.stm Go.Proofs.YtmgeecdgebemdaaGreatDoor.prg
end Go.Proofs.YtmgeecdgebemdaaGreatDoor.mrk

/- The law's own comparison of tasks and programs; nothing that was there is written. -/
namespace Go.Proofs.YtmgeecdgebemdaaGreatDoor.prg
open Go Go.ChangeShapes Go.WideShapes Go.ChangeAt Go.RowKit Go.Proofs.YtmgeecdgebemdaaGreatDoor.row Go.Proofs.YtmgeecdgebemdaaGreatDoor.val Go.Proofs.YtmgeecdgebemdaaGreatDoor.expr Go.Proofs.YtmgeecdgebemdaaGreatDoor.stm Go.Proofs.YtmgeecdgebemdaaGreatDoor.blk
set_option maxHeartbeats 2000000 in
set_option maxRecDepth 100000 in
theorem eqtask_any (t : Tk) (a a' : Option Addr) (n cap cap' : Nat) (w : World) (hn : (n : Int) ≤ 1048576) (h1 : StRow w a n t.b) (h2 : StRow w a' n t.b) :
    Calls Tryz.prog 128 #[tkV a n cap t, tkV a' n cap' t] w (BelB w true) := by
  obtain ⟨B, o, x, y⟩ := t
  obtain ⟨W, hW⟩ : ∃ W, W = (w.alloc (.cells #[.slice a n cap, .int .i64 o, .int .i64 x, .int .i64 y] 96)).alloc (.cells #[.slice a' n cap', .int .i64 o, .int .i64 x, .int .i64 y] 96) := ⟨_, rfl⟩
  have e1 : ∀ x : Obj, (w.alloc x).heap.size = w.heap.size + 1 := fun x => by simp
  have b0 : Box w.heap.size #[.slice a n cap, .int .i64 o, .int .i64 x, .int .i64 y] 96 W := by
    rw [hW]; exact (Box.new w _ _).alloc _
  have b1 : Box (w.heap.size + 1) #[.slice a' n cap', .int .i64 o, .int .i64 x, .int .i64 y] 96 W := by
    have h9 := Box.new (w.alloc (.cells #[.slice a n cap, .int .i64 o, .int .i64 x, .int .i64 y] 96)) #[.slice a' n cap', .int .i64 o, .int .i64 x, .int .i64 y] 96
    rw [e1] at h9; rw [hW]; exact h9
  have hb : Below w.heap.size w W := by rw [hW]; exact ((Below.refl _ _).alloc (Nat.le_refl _) _).alloc (by simp) _
  have H0 := Lib.hid (And.intro b0 (And.intro b1 (And.intro hb (And.intro (h1.below hb) (h2.below hb)))))
  have HW := Lib.hid hW
  clear b0 b1 hb hW e1 h1 h2
  go_enter Tryz.func128, Tryz.ntmps128
  go_wp2_with (go_at_call 167; rw [← HW.out]; refine (eqStmts_any W a a' n cap cap' B hn H0.out.2.2.2.1 H0.out.2.2.2.2).mono ?_; rintro e w1 ⟨rfl, hb1⟩; refine Hid.out ?_)
  have c0 := H0.out.1.below hb1
  have c1 := H0.out.2.1.below hb1
  have r1 : w1.cell? ⟨w.heap.size, 1, none⟩ = some (.int .i64 o) := c0.cell 1
  have r2 : w1.cell? ⟨w.heap.size, 2, none⟩ = some (.int .i64 x) := c0.cell 2
  have r3 : w1.cell? ⟨w.heap.size, 3, none⟩ = some (.int .i64 y) := c0.cell 3
  have q1 : w1.cell? ⟨w.heap.size + 1, 1, none⟩ = some (.int .i64 o) := c1.cell 1
  have q2 : w1.cell? ⟨w.heap.size + 1, 2, none⟩ = some (.int .i64 x) := c1.cell 2
  have q3 : w1.cell? ⟨w.heap.size + 1, 3, none⟩ = some (.int .i64 y) := c1.cell 3
  have HB := Lib.hid (below_then H0.out.2.2.1 hb1)
  clear hb1 c0 c1
  refine Lib.hid ?_
  go_wp2_with (go_at_call 168; refine (eqexpr_same o x y _).mono ?_; rintro e w2 ⟨rfl, hb2⟩)
  go_ret
  exact ⟨rfl, below_then HB.out hb2⟩
theorem held4o {w w' : World} {g o : Nat} {x0 x1 x2 x3 : Value} (hb : Below w.heap.size w w') (hg : g < w.heap.size)
    (h : w.cell? ⟨g, o, none⟩ = some x0 ∧ w.cell? ⟨g, o + 1, none⟩ = some x1 ∧ w.cell? ⟨g, o + 2, none⟩ = some x2 ∧ w.cell? ⟨g, o + 3, none⟩ = some x3) :
    w'.cell? ⟨g, o, none⟩ = some x0 ∧ w'.cell? ⟨g, o + 1, none⟩ = some x1 ∧ w'.cell? ⟨g, o + 2, none⟩ = some x2 ∧ w'.cell? ⟨g, o + 3, none⟩ = some x3 :=
  ⟨(hb.cell (p := ⟨g, o, none⟩) hg).trans h.1, (hb.cell (p := ⟨g, o + 1, none⟩) hg).trans h.2.1, (hb.cell (p := ⟨g, o + 2, none⟩) hg).trans h.2.2.1, (hb.cell (p := ⟨g, o + 3, none⟩) hg).trans h.2.2.2⟩
set_option maxHeartbeats 2000000 in
set_option maxRecDepth 100000 in
theorem eqtasks_any (w : World) (a a' : Option Addr) (n cap cap' : Nat) (P : List Tk) (hz : Sizes P) (h1 : TkRow w a n P) (h2 : TkRow w a' n P) :
    Calls Tryz.prog 67 #[.slice a n cap, .slice a' n cap'] w (BelB w true) := by
  have hn : (n : Int) ≤ 1048576 := by have := hz.1; rw [h1.1] at this; omega
  have HC : Hid (∀ wr : World, Below w.heap.size w wr → ∀ k, k < n → ∃ (g o g' o' : Nat) (t : Tk) (m : Nat) (b b' : Option Addr) (c c' : Nat), a = some ⟨g, o, none⟩ ∧ a' = some ⟨g', o', none⟩ ∧ g < wr.heap.size ∧ g' < wr.heap.size ∧
      wr.rangeAt g (o + k * 4) (tkC b m c t) ∧ wr.rangeAt g' (o' + k * 4) (tkC b' m c' t) ∧ (m : Int) ≤ 1048576 ∧ StRow wr b m t.b ∧ StRow wr b' m t.b) := by
    intro wr hb k hk
    obtain ⟨g, o, t, e1, l1, x1, b, m, c, k1, _, k3⟩ := (h1.below hb).2 k hk
    obtain ⟨g', o', t', e2, l2, x2, b', m', c', q1, _, q3⟩ := (h2.below hb).2 k hk
    obtain rfl : t = t' := by rw [x1] at x2; exact Option.some.inj x2
    obtain rfl : m = m' := by have := k3.1; have := q3.1; omega
    exact ⟨g, o, g', o', t, m, b, b', c, c', e1, e2, l1, l2, k1, q1, by have := hz.2 t (mem_at x1); rw [k3.1] at this; omega, k3, q3⟩
  clear h1 h2
  go_enter Tryz.func67, Tryz.ntmps67
  go_wp2
  go_loopw [5] (fun i wr => ∃ k : Nat, k ≤ n ∧ i = .int .i64 k ∧ Below w.heap.size w wr) (fun i _ => n - (intOf i).toNat)
  case atStart => exact ⟨0, Nat.zero_le _, rfl, Below.refl _ _⟩
  case round =>
    obtain ⟨k, hk, rfl, hbel⟩ := hrel
    by_cases hlt : k < n
    · obtain ⟨g, o, g', o', t, m, b, b', c, c', rfl, rfl, hgl, hgl', c1, c2, hm, s1, s2⟩ := HC.out wr hbel k hlt
      have hI : (k : Int) < n := by omega
      have HB := Lib.hid (And.intro hbel (And.intro s1 s2))
      have r0 : wr.drew.cell? ⟨g, o + k * 4, none⟩ = some (.slice b m c) ∧ wr.drew.cell? ⟨g, o + k * 4 + 1, none⟩ = some (.int .i64 t.o) ∧ wr.drew.cell? ⟨g, o + k * 4 + 2, none⟩ = some (.int .i64 t.x) ∧ wr.drew.cell? ⟨g, o + k * 4 + 3, none⟩ = some (.int .i64 t.y) := range4 c1
      have t0 : wr.drew.cell? ⟨g', o' + k * 4, none⟩ = some (.slice b' m c') ∧ wr.drew.cell? ⟨g', o' + k * 4 + 1, none⟩ = some (.int .i64 t.o) ∧ wr.drew.cell? ⟨g', o' + k * 4 + 2, none⟩ = some (.int .i64 t.x) ∧ wr.drew.cell? ⟨g', o' + k * 4 + 3, none⟩ = some (.int .i64 t.y) := range4 c2
      clear c1 c2 hbel s1 s2
      go_wp2
      go_region_held3 (fun w' => (w'.cell? ⟨g, o + k * 4, none⟩ = some (.slice b m c) ∧ w'.cell? ⟨g, o + k * 4 + 1, none⟩ = some (.int .i64 t.o) ∧ w'.cell? ⟨g, o + k * 4 + 2, none⟩ = some (.int .i64 t.x) ∧ w'.cell? ⟨g, o + k * 4 + 3, none⟩ = some (.int .i64 t.y)) ∧ (w'.cell? ⟨g', o' + k * 4, none⟩ = some (.slice b' m c') ∧ w'.cell? ⟨g', o' + k * 4 + 1, none⟩ = some (.int .i64 t.o) ∧ w'.cell? ⟨g', o' + k * 4 + 2, none⟩ = some (.int .i64 t.x) ∧ w'.cell? ⟨g', o' + k * 4 + 3, none⟩ = some (.int .i64 t.y)))
        (first | (exact ⟨r0, t0⟩) | (exact ⟨held4o (drew_below hb2) hgl r0, held4o (drew_below hb2) hgl' t0⟩))
        (first
          | (go_at_call 128; refine (eqtask_any t b b' m c c' _ hm (HB.out.2.1.below (Below.drew (Below.refl _ wr))) (HB.out.2.2.below (Below.drew (Below.refl _ wr)))).mono ?_; rintro e w2 ⟨rfl, hb2⟩))
      all_goals
        have hb3 := Lib.hid (HB.out.1.trans ((drew_below hb2).mono HB.out.1.size))
        clear hb2 r0 t0
        go_wp2
        go_roundw
        case rel => exact ⟨k + 1, by omega, by go_num, hb3.out⟩
        case measure => simp [intOf]; omega
    · have hI : ¬ (k : Int) < n := by omega
      have HB := Lib.hid hbel
      clear hbel
      go_wp2
      go_ret
      exact ⟨rfl, HB.out⟩
set_option maxHeartbeats 1000000 in
set_option maxRecDepth 100000 in
theorem eqprogram_any (w : World) (a a' : Option Addr) (n cap cap' : Nat) (P : List Tk) (hz : Sizes P) (h1 : TkRow w a n P) (h2 : TkRow w a' n P) :
    Calls Tryz.prog 22 #[.agg #[.slice a n cap], .agg #[.slice a' n cap']] w (BelB w true) := by
  have HZ := Lib.hid hz
  have H1 := Lib.hid (And.intro h1 h2)
  clear hz h1 h2
  go_enter Tryz.func22, Tryz.ntmps22
  go_wp2_with (go_at_call 67; refine (eqtasks_any _ a a' n cap cap' P HZ.out (H1.out.1.below ((below_new w _).alloc (by simp) _)) (H1.out.2.below ((below_new w _).alloc (by simp) _))).mono ?_; rintro e w2 ⟨rfl, hb2⟩)
  go_ret
  exact ⟨rfl, ((below_new w _).alloc (by simp) _).trans (hb2.mono (by simp; omega))⟩
end Go.Proofs.YtmgeecdgebemdaaGreatDoor.prg

/- What a law's argument is made of, by its type: a struct of numbers is its fields. -/
namespace Go.Proofs.YtmgeecdgebemdaaGreatDoor.opn
open Go.ChangeShapes Go.WideShapes Go.ChangeAt Go.RowKit Go.Joins Go.Deep
end Go.Proofs.YtmgeecdgebemdaaGreatDoor.opn

/- What a law's argument is made of: a slice of statements reads as a list of statements. -/
namespace Go.Proofs.YtmgeecdgebemdaaGreatDoor.opn
open Go.ChangeShapes Go.WideShapes Go.ChangeAt Go.RowKit Go.Joins Go.Deep Go.Proofs.YtmgeecdgebemdaaGreatDoor.stm
end Go.Proofs.YtmgeecdgebemdaaGreatDoor.opn

/- What a law's argument is made of: a program is a slice of tasks, each with a slice of statements. -/
namespace Go.Proofs.YtmgeecdgebemdaaGreatDoor.opn
open Go.ChangeShapes Go.WideShapes Go.ChangeAt Go.RowKit Go.Joins Go.Deep Go.Proofs.YtmgeecdgebemdaaGreatDoor.stm Go.Proofs.YtmgeecdgebemdaaGreatDoor.prg
theorem list_ofG {α : Type} {P : Nat → α → Prop} : ∀ n, (∀ i, i < n → ∃ s, P i s) → ∃ L : List α, L.length = n ∧ ∀ i s, L[i]? = some s → P i s
  | 0, _ => ⟨[], rfl, fun i s h => by simp at h⟩
  | n + 1, h => by
    obtain ⟨L, hl, hL⟩ := list_ofG n (fun i hi => h i (by omega))
    obtain ⟨s, hs⟩ := h n (by omega)
    refine ⟨L ++ [s], by simp [hl], fun i t ht => ?_⟩
    by_cases hi : i < L.length
    · rw [List.getElem?_append_left hi] at ht; exact hL i t ht
    · have hil := (List.getElem?_eq_some_iff.1 ht).1
      simp at hil
      obtain rfl : i = n := by omega
      rw [List.getElem?_append_right (by omega), hl, Nat.sub_self] at ht
      simp at ht; subst ht; exact hs
set_option maxRecDepth 100000 in
/-- One cell that reads as a slice of statements. -/
theorem stmts_trod {H : Type} {enc : TypeId × Value → H} {w : World} {base : Nat} {spare : Nat → Bool} {held : Bool} {fuel : Nat} {c : Value} {x : DataW H × List MemPlace}
    (hf : DataW.trod enc Tryz.prog w base spare held fuel 149 [c] = some x) : ∃ (a : Option Addr) (len cap : Nat) (L : List St), c = .slice a len cap ∧ len ≤ cap ∧ len ≤ maxLen ∧ StRow w a len L := by
  have hI : Tryz.prog.cellsOf 3 = 1 := by kernel_rfl
  have hE : Tryz.prog.cellsOf 150 = 3 := by kernel_rfl
  have hS : Tryz.prog.cellsOf 222 = 6 := by kernel_rfl
  rcases open_slice Tryz.underlying149 hf with ⟨hcs, _⟩ | ⟨x, l, c', m, n, D, Pl, hcs, _, hl, hm, hmm, _, hx⟩
  · simp at hcs
    subst hcs
    exact ⟨none, 0, 0, [], rfl, Nat.le_refl _, Nat.zero_le _, StRow.nil _ _⟩
  · simp at hcs
    subst hcs
    have hlm : l ≤ m := by rw [hmm]; split <;> omega
    have each : ∀ i, i < l → ∃ s : St, ∀ j t, (stC s)[j]? = some t → w.cell? (x.add (i * 6 + j)) = some t := by
      intro i hi
      obtain ⟨cs, h1, h2⟩ := hx i (by omega)
      rw [hS] at h1
      obtain ⟨_, hlen, hcell⟩ := World.cells?_some h1
      match cs, hlen, h2, hcell with
      | [c0, c1, c2, c3, c4, c5], _, h2, hcell =>
        obtain ⟨y0, y1, y2, y3, m2, _, _, h0, h1', h2', h3⟩ := trod_struct4 Tryz.underlying222 h2
        simp [hI, hE] at h0 h1' h2' h3
        obtain ⟨z0, z1, z2, m3, _, _, h4, h5, h6⟩ := trod_struct3 Tryz.underlying150 h3
        simp [hI] at h4 h5 h6
        obtain ⟨k, e0, _, _⟩ := DataW.trod_int Tryz.underlying3 h0
        obtain ⟨v, e1, _, _⟩ := DataW.trod_int Tryz.underlying3 h1'
        obtain ⟨n', e2, _, _⟩ := DataW.trod_int Tryz.underlying3 h2'
        obtain ⟨o, e3, _, _⟩ := DataW.trod_int Tryz.underlying3 h4
        obtain ⟨a', e4, _, _⟩ := DataW.trod_int Tryz.underlying3 h5
        obtain ⟨b', e5, _, _⟩ := DataW.trod_int Tryz.underlying3 h6
        simp at e0 e1 e2 e3 e4 e5
        subst e0 e1 e2 e3 e4 e5
        refine ⟨⟨k, v, n', o, a', b'⟩, fun j t ht => ?_⟩
        have hj : j < 6 := by have := (List.getElem?_eq_some_iff.1 ht).1; simpa [stC] using this
        have := hcell j hj
        rw [add_add] at this
        rw [this]; exact ht
    obtain ⟨L, hL, hLs⟩ := list_ofG (P := fun i s => ∀ j t, (stC s)[j]? = some t → w.cell? (x.add (i * 6 + j)) = some t) l each
    refine ⟨some x, l, c', L, rfl, hl, by omega, hL, fun k hk => ?_⟩
    have hkL : k < L.length := by omega
    have h0L : 0 < L.length := by omega
    have hs : L[k]? = some L[k] := by simp [hkL]
    have hc := hLs k _ hs
    have hc00 := hLs 0 L[0] (by simp) 0 _ rfl
    obtain ⟨b, off, spot⟩ := x
    have hspot : spot = none := by simpa [Addr.add] using World.cell?_spot hc00
    subst hspot
    refine ⟨b, off, L[k], rfl, ?_, hs, fun j t ht => ?_⟩
    · have h0 := hc 0 _ rfl
      rw [Go.WideShapes.add_plain] at h0
      exact World.block_lt_of_cell? w _ h0
    · have h0 := hc j t ht
      rw [Go.WideShapes.add_plain, ← Nat.add_assoc] at h0
      exact h0
set_option maxRecDepth 100000 in
/-- One cell that reads as a slice of tasks. -/
theorem tasks_trod {H : Type} {enc : TypeId × Value → H} {w : World} {base : Nat} {spare : Nat → Bool} {held : Bool} {fuel : Nat} {c : Value} {x : DataW H × List MemPlace}
    (hf : DataW.trod enc Tryz.prog w base spare held fuel 38 [c] = some x) : ∃ (a : Option Addr) (len cap : Nat) (P : List Tk), c = .slice a len cap ∧ len ≤ cap ∧ len ≤ maxLen ∧ (∀ t ∈ P, t.b.length ≤ maxLen) ∧ TkRow w a len P := by
  have hI : Tryz.prog.cellsOf 3 = 1 := by kernel_rfl
  have hE : Tryz.prog.cellsOf 150 = 3 := by kernel_rfl
  have hL : Tryz.prog.cellsOf 149 = 1 := by kernel_rfl
  have hT : Tryz.prog.cellsOf 152 = 4 := by kernel_rfl
  rcases open_slice Tryz.underlying38 hf with ⟨hcs, _⟩ | ⟨x, l, c', m, n, D, Pl, hcs, _, hl, hm, hmm, _, hx⟩
  · simp at hcs
    subst hcs
    exact ⟨none, 0, 0, [], rfl, Nat.le_refl _, Nat.zero_le _, fun t ht => (by cases ht), TkRow.nil _ _⟩
  · simp at hcs
    subst hcs
    have hlm : l ≤ m := by rw [hmm]; split <;> omega
    have each : ∀ i, i < l → ∃ t : Tk, ∃ (ab : Option Addr) (nb cb : Nat), (∀ j v, (tkC ab nb cb t)[j]? = some v → w.cell? (x.add (i * 4 + j)) = some v) ∧ nb ≤ cb ∧ nb ≤ maxLen ∧ StRow w ab nb t.b := by
      intro i hi
      obtain ⟨cs, h1, h2⟩ := hx i (by omega)
      rw [hT] at h1
      obtain ⟨_, hlen, hcell⟩ := World.cells?_some h1
      match cs, hlen, h2, hcell with
      | [c0, c1, c2, c3], _, h2, hcell =>
        obtain ⟨y0, y1, m2, _, _, h0, h3⟩ := trod_struct2 Tryz.underlying152 h2
        simp [hL, hE] at h0 h3
        obtain ⟨z0, z1, z2, m3, _, _, h4, h5, h6⟩ := trod_struct3 Tryz.underlying150 h3
        simp [hI] at h4 h5 h6
        obtain ⟨ab, nb, cb, B, e0, hbc, hbm, hB⟩ := stmts_trod h0
        obtain ⟨o, e3, _, _⟩ := DataW.trod_int Tryz.underlying3 h4
        obtain ⟨a', e4, _, _⟩ := DataW.trod_int Tryz.underlying3 h5
        obtain ⟨b', e5, _, _⟩ := DataW.trod_int Tryz.underlying3 h6
        simp at e3 e4 e5
        subst e0 e3 e4 e5
        refine ⟨⟨B, o, a', b'⟩, ab, nb, cb, fun j t ht => ?_, hbc, hbm, hB⟩
        have hj : j < 4 := by have := (List.getElem?_eq_some_iff.1 ht).1; simpa [tkC] using this
        have := hcell j hj
        rw [add_add] at this
        rw [this]; exact ht
    obtain ⟨L, hL, hLs⟩ := list_ofG (P := fun i t => ∃ (ab : Option Addr) (nb cb : Nat), (∀ j v, (tkC ab nb cb t)[j]? = some v → w.cell? (x.add (i * 4 + j)) = some v) ∧ nb ≤ cb ∧ nb ≤ maxLen ∧ StRow w ab nb t.b) l each
    refine ⟨some x, l, c', L, rfl, hl, by omega, fun t ht => ?_, hL, fun k hk => ?_⟩
    · obtain ⟨j, hj⟩ := List.mem_iff_getElem?.1 ht
      obtain ⟨_, nb, _, _, _, hnb, hB⟩ := hLs j t hj
      rw [hB.1]; exact hnb
    have hkL : k < L.length := by omega
    have h0L : 0 < L.length := by omega
    have hs : L[k]? = some L[k] := by simp [hkL]
    obtain ⟨ab, nb, cb, hc, hbc, _, hB⟩ := hLs k _ hs
    obtain ⟨ab0, nb0, cb0, hc0, _⟩ := hLs 0 L[0] (by simp)
    have hc00 := hc0 0 _ rfl
    obtain ⟨b, off, spot⟩ := x
    have hspot : spot = none := by simpa [Addr.add] using World.cell?_spot hc00
    subst hspot
    refine ⟨b, off, L[k], rfl, ?_, hs, ab, nb, cb, fun j t ht => ?_, hbc, hB⟩
    · have h0 := hc 0 _ rfl
      rw [Go.WideShapes.add_plain] at h0
      exact World.block_lt_of_cell? w _ h0
    · have h0 := hc j t ht
      rw [Go.WideShapes.add_plain, ← Nat.add_assoc] at h0
      exact h0
/-- A program that came in. -/
def IsPrgV (w : World) (v : Value) : Prop := ∃ (a : Option Addr) (len cap : Nat) (P : List Tk), v = .agg #[.slice a len cap] ∧ len ≤ maxLen ∧ (∀ t ∈ P, t.b.length ≤ maxLen) ∧ TkRow w a len P
set_option maxRecDepth 100000 in
theorem open_Program {H : Type} {enc : TypeId × Value → H} {w : World} {base : Nat} {spare : Nat → Bool} {held : Bool} {r : Reach} {b0 : Nat} {v : Value} {d : DataW H} {p : List MemPlace}
    (hv : Value.okWide Tryz.prog w r b0 40 v) (h : DataW.Trod enc Tryz.prog w base spare held 40 v d p) : IsPrgV w v := by
  obtain ⟨⟨cs⟩, rfl, hsz⟩ := okWide_struct Tryz.underlying40 hv
  obtain ⟨fuel, hf⟩ := h
  have hC : Tryz.prog.cellsOf 40 = 1 := by kernel_rfl
  have hT : Tryz.prog.cellsOf 38 = 1 := by kernel_rfl
  rw [hC] at hsz
  match cs, hsz, hf with
  | [c0], _, hf =>
    obtain ⟨y0, m, _, _, h0⟩ := trod_struct1 Tryz.underlying40 hf
    simp [Value.cells, hT] at h0
    obtain ⟨a, len, cap, P, rfl, _, h1, h2, h3⟩ := tasks_trod h0
    exact ⟨a, len, cap, P, rfl, h1, h2, h3⟩
end Go.Proofs.YtmgeecdgebemdaaGreatDoor.opn

/- The numbers of the variables that two operands name: found by a search from 0 on, or collected, sorted and made single: the same list. Plain mathematics; no condition but that the operands are valid. -/
namespace Go.Proofs.YtmgeecdgebemdaaGreatDoor.expr
/-- The numbers below 'k' that one of the operands names. -/
def rd (a b : Int) (k : Nat) : List Int := ((List.range k).filter fun (j : Nat) => decide (a = -1 - (j : Int)) || decide (b = -1 - (j : Int))).map fun (j : Nat) => (j : Int)
theorem rd_yes {a b : Int} {k : Nat} (h : a = -1 - (k : Int) ∨ b = -1 - (k : Int)) : rd a b (k + 1) = rd a b k ++ [(k : Int)] := by
  have hc : (decide (a = -1 - (k : Int)) || decide (b = -1 - (k : Int))) = true := by simpa using h
  simp [rd, List.range_succ, hc]
theorem rd_no {a b : Int} {k : Nat} (h : ¬ (a = -1 - (k : Int) ∨ b = -1 - (k : Int))) : rd a b (k + 1) = rd a b k := by
  have hc : (decide (a = -1 - (k : Int)) || decide (b = -1 - (k : Int))) = false := by simpa using h
  simp [rd, List.range_succ, hc]
theorem rd_len (a b : Int) (k : Nat) : (rd a b k).length ≤ k := by
  unfold rd; rw [List.length_map]; exact Nat.le_trans (List.length_filter_le _ _) (by simp)
theorem rd_b {a b : Int} (h : 0 ≤ b) (k : Nat) : rd a b k = rd a 0 k := by
  unfold rd; congr 1; apply List.filter_congr; intro j _
  have h1 : ¬ b = -1 - (j : Int) := by omega
  have h2 : ¬ (0 : Int) = -1 - (j : Int) := by omega
  simp only [h1, h2]
theorem rd_a {a b : Int} (h : 0 ≤ a) (k : Nat) : rd a b k = rd 0 b k := by
  unfold rd; congr 1; apply List.filter_congr; intro j _
  have h1 : ¬ a = -1 - (j : Int) := by omega
  have h2 : ¬ (0 : Int) = -1 - (j : Int) := by omega
  simp only [h1, h2]

/-- The variable that an operand names, if it does. -/
def vk (x : Int) : List Int := if x < 0 then [-1 - x] else []
theorem vk_neg {x : Int} (h : x < 0) : vk x = [-1 - x] := by simp [vk, h]
theorem vk_pos {x : Int} (h : ¬ x < 0) : vk x = [] := by simp [vk, h]
theorem compact0 : Lib.compact ([] : List Int) = [] := by simp [Lib.compact, Lib.compactUpTo]
theorem compact1 (x : Int) : Lib.compact [x] = [x] := by simp [Lib.compact, Lib.compactUpTo, Lib.keeps, List.range_succ]
theorem compact2 (x y : Int) : Lib.compact [x, y] = if x = y then [x] else [x, y] := by
  by_cases h : x = y
  · subst h; simp [Lib.compact, Lib.compactUpTo, Lib.keeps, List.range_succ]
  · have h' : ¬ y = x := fun e => h e.symm
    simp [Lib.compact, Lib.compactUpTo, Lib.keeps, List.range_succ, h, h']
def srt (L : List Int) : List Int := L.mergeSort fun x y => decide (x ≤ y)
theorem srt0 : srt [] = [] := by simp [srt]
theorem srt1 (x : Int) : srt [x] = [x] := by simp [srt]
theorem srt2 (x y : Int) : srt [x, y] = if x ≤ y then [x, y] else [y, x] := by
  unfold srt
  by_cases h : x ≤ y <;> simp [List.mergeSort, h]
theorem one_rd (i : Fin 8) : rd (-1 - (i.val : Int)) 0 8 = [(i.val : Int)] ∧ rd 0 (-1 - (i.val : Int)) 8 = [(i.val : Int)] := by
  revert i; decide
theorem two_rd (i j : Fin 8) : rd (-1 - (i.val : Int)) (-1 - (j.val : Int)) 8 = if (i.val : Int) = j.val then [(i.val : Int)] else if (i.val : Int) ≤ j.val then [(i.val : Int), (j.val : Int)] else [(j.val : Int), (i.val : Int)] := by
  revert i j; decide
theorem reads_same (a b : Int) (ha : -8 ≤ a) (hb : -8 ≤ b) : Lib.compact (srt (vk a ++ vk b)) = rd a b 8 := by
  by_cases h1 : a < 0 <;> by_cases h2 : b < 0
  · obtain ⟨i, hi, rfl⟩ : ∃ i : Nat, i < 8 ∧ a = -1 - (i : Int) := ⟨(-1 - a).toNat, by omega, by omega⟩
    obtain ⟨j, hj, rfl⟩ : ∃ j : Nat, j < 8 ∧ b = -1 - (j : Int) := ⟨(-1 - b).toNat, by omega, by omega⟩
    have e := two_rd ⟨i, hi⟩ ⟨j, hj⟩
    simp only at e
    rw [e, vk_neg h1, vk_neg h2, show (-1 - (-1 - (i : Int))) = i by omega, show (-1 - (-1 - (j : Int))) = j by omega]
    show Lib.compact (srt [(i : Int), (j : Int)]) = _
    rw [srt2]
    by_cases hle : (i : Int) ≤ j
    · simp only [if_pos hle, compact2]
    · have he : ¬ (j : Int) = i := by omega
      have he' : ¬ (i : Int) = j := by omega
      simp only [if_neg hle, compact2, if_neg he, if_neg he']
  · obtain ⟨i, hi, rfl⟩ : ∃ i : Nat, i < 8 ∧ a = -1 - (i : Int) := ⟨(-1 - a).toNat, by omega, by omega⟩
    rw [rd_b (by omega), vk_neg h1, vk_pos h2, show (-1 - (-1 - (i : Int))) = i by omega, List.append_nil, srt1, compact1]
    exact (one_rd ⟨i, hi⟩).1.symm
  · obtain ⟨j, hj, rfl⟩ : ∃ j : Nat, j < 8 ∧ b = -1 - (j : Int) := ⟨(-1 - b).toNat, by omega, by omega⟩
    rw [rd_a (by omega), vk_neg h2, vk_pos h1, show (-1 - (-1 - (j : Int))) = j by omega, List.nil_append, srt1, compact1]
    exact (one_rd ⟨j, hj⟩).2.symm
  · rw [rd_a (by omega), rd_b (by omega), vk_pos h1, vk_pos h2, List.nil_append, srt0, compact0]; decide
end Go.Proofs.YtmgeecdgebemdaaGreatDoor.expr

/- Chapter 10, plain mathematics: writes, what applying them makes of a row, the first place where two rows differ, and the places of a list of writes in ascending order, each once. -/
namespace Go.Proofs.YtmgeecdgebemdaaGreatDoor.wrt
open Go.Proofs.YtmgeecdgebemdaaGreatDoor.expr
/-- A write: the place, the value. -/
structure Wt where
  (p v : Int)
deriving DecidableEq
/-- The row behind one write. -/
def put1 (M : List Int) (x : Wt) : List Int := if 0 ≤ x.p ∧ x.p < M.length then M.set x.p.toNat x.v else M
theorem put1_in {M : List Int} {x : Wt} {k : Nat} (hk : x.p = k) (h : k < M.length) : put1 M x = M.set k x.v := by
  unfold put1; rw [if_pos ⟨by omega, by omega⟩, show x.p.toNat = k by omega]
theorem put1_out {M : List Int} {x : Wt} (h : ¬ (0 ≤ x.p ∧ x.p < M.length)) : put1 M x = M := by unfold put1; rw [if_neg h]
theorem put1_len (M : List Int) (x : Wt) : (put1 M x).length = M.length := by unfold put1; split <;> simp
/-- The row behind all these writes. -/
def putAll (M : List Int) (L : List Wt) : List Int := L.foldl put1 M
theorem putAll_len (L : List Wt) : ∀ M, (putAll M L).length = M.length := by
  induction L with
  | nil => intro M; rfl
  | cons x L ih => intro M; show (putAll (put1 M x) L).length = _; rw [ih, put1_len]
theorem putAll_snoc {M : List Int} {L : List Wt} {k : Nat} {x : Wt} (h : L[k]? = some x) : putAll M (L.take (k + 1)) = put1 (putAll M (L.take k)) x := by
  unfold putAll; rw [List.take_add_one, h]; simp
theorem putAll_app (M : List Int) (K L : List Wt) : putAll M (K ++ L) = putAll (putAll M K) L := by unfold putAll; rw [List.foldl_append]
/-- What ApplyWrites answers. -/
def appW (M : List Int) (L : List Wt) (c : Int) : List Int := putAll M (L.take c.toNat)
theorem put1_other {M : List Int} {x : Wt} {k : Nat} (h : x.p ≠ k) : (put1 M x)[k]? = M[k]? := by
  unfold put1
  split
  · rw [List.getElem?_set_ne (by omega)]
  · rfl
end Go.Proofs.YtmgeecdgebemdaaGreatDoor.wrt
