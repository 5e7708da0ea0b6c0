/- Several texts in one: TkC TkD Open ReadA. -/
import Derived.Test.YtcmhiadaebpgmaaGreatDoorGSig3
import Derived.Deep.RegionHeld3
import Derived.Test.YtcmhiadaebpgmaaGreatDoorRows
import Derived.WalkKit
import Derived.ProofKit
import Derived.OpenShut
import Derived.Lib.SmallJoins
import Derived.Lib.SlicesCompact

/- The law's own copy of a program, the sizes and the comparison of lists of tasks and of programs; nothing that was there is written. -/
namespace Go.Proofs.YtcmhiadaebpgmaaGreatDoor.prg
open Go Go.ChangeShapes Go.WideShapes Go.ChangeAt Go.RowKit Go.Proofs.YtcmhiadaebpgmaaGreatDoor.row Go.Proofs.YtcmhiadaebpgmaaGreatDoor.val Go.Proofs.YtcmhiadaebpgmaaGreatDoor.expr Go.Proofs.YtcmhiadaebpgmaaGreatDoor.stm Go.Proofs.YtcmhiadaebpgmaaGreatDoor.blk

set_option maxHeartbeats 2000000 in
set_option maxRecDepth 100000 in
theorem toprogram_any (w : World) (a : Option Addr) (n cap : Nat) (P : List Tk) (hz : Sizes P) (h : TkRow w a n P) : Calls Tryz.prog 24 #[.agg #[.slice a n cap]] w (MadePrg w n P) := by
  obtain ⟨W, hW⟩ : ∃ W, W = ((w.alloc (.cells #[.slice a n cap] 51)).alloc (.cells #[.slice none 0 0] 26)).alloc (.cells #[.slice none 0 0] 26) := ⟨_, rfl⟩
  have hs : W.heap.size = w.heap.size + 3 := by rw [hW]; simp
  have e1 : ∀ x : Obj, (w.alloc x).heap.size = w.heap.size + 1 := fun x => by simp
  have e2 : ∀ x y : Obj, ((w.alloc x).alloc y).heap.size = w.heap.size + 2 := fun x y => by simp
  have b1 : Box (w.heap.size + 1) #[.slice none 0 0] 26 W := by
    have h9 := (Box.new (w.alloc (.cells #[.slice a n cap] 51)) #[.slice none 0 0] 26).alloc (.cells #[.slice none 0 0] 26)
    rw [e1] at h9; rw [hW]; exact h9
  have b2 : Box (w.heap.size + 2) #[.slice none 0 0] 26 W := by
    have h9 := Box.new ((w.alloc (.cells #[.slice a n cap] 51)).alloc (.cells #[.slice none 0 0] 26)) #[.slice none 0 0] 26
    rw [e2] at h9; rw [hW]; exact h9
  have hb : Below w.heap.size w W := by
    rw [hW]; exact (((Below.refl _ _).alloc (Nat.le_refl _) _).alloc (by simp) _).alloc (by simp; omega) _
  have H0 := Lib.hid (And.intro b1 (And.intro b2 (And.intro hb (h.below hb))))
  have HS := Lib.hid hs
  have HW := Lib.hid hW
  have HZ := Lib.hid hz
  clear b1 b2 hb hs hW e1 e2 h hz
  go_enter Tryz.func24, Tryz.ntmps24
  go_wp2_with (go_at_call 67; rw [← HW.out]; refine (totasks_any W a n cap P HZ.out H0.out.2.2.2).mono ?_; rintro e w1 ⟨a1, rfl, hT1, hb1⟩; refine Hid.out ?_)
  have b2 := H0.out.2.1.below hb1
  have c : w1.cell? ⟨w.heap.size + 2, 0, none⟩ = some (.slice none 0 0) := b2.cell 0
  have f : w1.frozen? ⟨w.heap.size + 2, 0, none⟩ = false := b2.frozen 0
  have H1 := Lib.hid (And.intro b2 (And.intro (H0.out.1.below hb1) (And.intro (H0.out.2.2.1.trans (hb1.mono (by have := HS.out; omega))) hT1)))
  have HS1 := Lib.hid hb1.size
  clear b2 hb1
  refine Lib.hid ?_
  go_wp2_with (first
    | (refine wpList_load_row rfl 26 _ rfl (w.heap.size + 2) rfl _ _ _ _ (H1.out.1.set 0 (.slice a1 n n)) Tryz.underlying26 rfl (by kernel_rfl) ?_)
    | ((refine wpList_store_box rfl 26 _ _ rfl (w.heap.size + 1) _ _ (H1.out.2.1.set_other (by simp) _) #[.slice a1 n n] rfl rfl rfl (by kernel_rfl) (by simp [Value.oneCell']) ?_); intro w4 hx4 hg4; refine Hid.out ?_))
  have hT4 := ((H1.out.2.2.2.out).grown (grown_setCell w1 (w.heap.size + 2) 0 (.slice a1 n n)) (by have := HS.out; omega)).grown hg4 (by have := HS.out; omega)
  have hb4 := ((H1.out.2.2.1.setCell (by show w.heap.size ≤ w.heap.size + 2; omega) (.slice a1 n n))).grown hg4 (by have := H1.out.2.2.1.size; simpa using this) (fun j hj => by cases hj; omega)
  have H4 := Lib.hid (And.intro hx4 (And.intro (hT4.mono (show w.heap.size ≤ W.heap.size by have := HS.out; omega)) hb4))
  clear hx4 hg4 hT4 hb4 c f
  refine Lib.hid ?_
  go_wp2
  exact bodyPost_ret (v := .agg #[.slice a1 n n]) (results_cell_row rfl _ _ (w.heap.size + 1) _ _ _ _ rfl H4.out.1 Tryz.underlying26 rfl (by kernel_rfl)) rfl ⟨_, rfl, H4.out.2.1, H4.out.2.2⟩
/-- What is left of a size, or less than nothing; the sizes are then bounded. -/
def SzOut (w : World) (x : Int) (S : Prop) (e : Ending) (w' : World) : Prop := ∃ r : Int, e = .returned (.int .i64 r) ∧ -1 ≤ r ∧ r ≤ x ∧ Hid (0 ≤ r → S) ∧ Below w.heap.size w w'
theorem sztask_any (t : Tk) (ab : Option Addr) (nb cb : Nat) (x : Int) (hn : nb ≤ maxLen) (hx : 0 ≤ x) (hx2 : x ≤ 1048576) (hl : t.b.length = nb) (w : World) :
    Calls Tryz.prog 105 #[tkV ab nb cb t, .int .i64 x] w (SzOut w x (t.b.length ≤ 1048576)) := by
  have hm : (nb : Int) ≤ 9223372036854775807 := by unfold maxLen at hn; omega
  have HL := Lib.hid hl
  clear hl hn
  by_cases h : x - nb < 0
  · have HI := Lib.hid (show (if x - nb < 0 then (-1 : Int) else x - nb) = -1 from if_pos h)
    clear h
    go_enter Tryz.func105, Tryz.ntmps105
    go_wp2_with (go_at_call 149; refine (sz_any _ _ _ _ hm hx (by omega) _).mono ?_; rw [HI.out]; rintro e w1 ⟨rfl, rfl⟩)
    go_ret
    exact ⟨-1, rfl, by omega, by omega, fun h => by omega, below_new w _⟩
  · have HI := Lib.hid (show (if x - nb < 0 then (-1 : Int) else x - nb) = x - nb from if_neg h)
    have h0 : 0 ≤ x - nb := by omega
    have hnb : nb ≤ 1048576 := by omega
    go_enter Tryz.func105, Tryz.ntmps105
    go_wp2_with (go_at_call 149; refine (sz_any _ _ _ _ hm hx (by omega) _).mono ?_; rw [HI.out]; rintro e w1 ⟨rfl, rfl⟩)
    go_ret
    exact ⟨x - nb, rfl, by omega, by omega, fun _ => by rw [HL.out]; exact hnb, below_new w _⟩
set_option maxHeartbeats 2000000 in
set_option maxRecDepth 100000 in
theorem sztasks_any (w : World) (a : Option Addr) (n cap : Nat) (P : List Tk) (hn : n ≤ maxLen) (hm : ∀ t ∈ P, t.b.length ≤ maxLen) (h : TkRow w a n P) :
    Calls Tryz.prog 64 #[.slice a n cap, .int .i64 1048576] w (SzOut w 1048576 (Sizes P)) := by
  have HL := Lib.hid h
  have HM := Lib.hid hm
  have hn2 : (n : Int) ≤ 9223372036854775807 := by unfold maxLen at hn; omega
  clear h hm
  by_cases hb : (1048576 : Int) - n < 0
  · go_enter Tryz.func64, Tryz.ntmps64
    go_wp2
    go_ret
    exact ⟨-1, rfl, by omega, by omega, fun h => by omega, Below.refl _ _⟩
  · have hb0 : 0 ≤ (1048576 : Int) - n := by omega
    go_enter Tryz.func64, Tryz.ntmps64
    go_wp2
    go_loopw [1, 5] (fun l i wr => ∃ (k : Nat) (x : Int), k ≤ n ∧ i = .int .i64 k ∧ l = .int .i64 x ∧ 0 ≤ x ∧ x ≤ 1048576 ∧ Hid (∀ j t, j < k → P[j]? = some t → t.b.length ≤ 1048576) ∧ Below w.heap.size w wr) (fun _ i _ => n - (intOf i).toNat)
    case atStart => exact ⟨0, _, Nat.zero_le _, rfl, rfl, hb0, by omega, fun j t hj => by omega, Below.refl _ _⟩
    case round =>
      obtain ⟨k, x, hk, rfl, rfl, hx0, hx1, hS, hbel⟩ := hrel
      by_cases hlt : k < n
      · obtain ⟨b, off, t, rfl, hlb, ht, ab, nb, cb, hrg, hbc, hrow⟩ := (HL.out.below hbel).2 k hlt
        have hnb : nb ≤ maxLen := by have := HM.out t (mem_at ht); rw [hrow.1] at this; exact this
        have HR := Lib.hid (And.intro hrg (And.intro ht (And.intro hbel hrow)))
        have hI : (k : Int) < n := by omega
        clear hrg ht hbel hrow
        go_wp2_with (first
          | (refine wpList_load_mid rfl 156 _ rfl b (off + k * 4) rfl (tkC ab nb cb t) _ HR.out.1 Tryz.underlying156 rfl (by kernel_rfl) ?_)
          | (go_at_call 105; refine (sztask_any t ab nb cb x hnb hx0 hx1 HR.out.2.2.2.1 _).mono ?_; rintro e w2 ⟨r, rfl, hr0, hr1, hrS, hb2⟩; refine Hid.out ?_))
        have HB2 := Lib.hid (below_then HR.out.2.2.1 hb2)
        clear hb2
        by_cases hrn : r < 0
        · refine Lib.hid ?_
          go_wp2
          go_ret
          exact ⟨-1, rfl, by omega, by omega, fun h => by omega, HB2.out⟩
        · have hr00 : 0 ≤ r := by omega
          have hr01 : r ≤ 1048576 := by omega
          have HS2 := Lib.hid (show ∀ j t, j < k + 1 → P[j]? = some t → t.b.length ≤ 1048576 from fun j t' hj ht' => by
            by_cases e : j = k
            · subst e; have := HR.out.2.1; rw [this] at ht'; cases ht'; exact hrS.out hr00
            · exact hS.out j t' (by omega) ht')
          refine Lib.hid ?_
          go_wp2
          go_roundw
          case rel => exact ⟨k + 1, r, by omega, by go_num, rfl, hr00, hr01, HS2, HB2.out⟩
          case measure => simp [intOf]; omega
      · obtain rfl : k = n := by omega
        have hI : ¬ (k : Int) < k := by omega
        have HB := Lib.hid hbel
        have HSZ := Lib.hid (show Sizes P from ⟨by rw [HL.out.1]; omega, fun t ht => by
          obtain ⟨j, hj⟩ := List.mem_iff_getElem?.1 ht
          exact hS.out j t (by have := (List.getElem?_eq_some_iff.1 hj).1; rw [HL.out.1] at this; exact this) hj⟩)
        clear hbel
        go_wp2
        go_ret
        exact ⟨x, rfl, by omega, hx1, fun _ => HSZ.out, HB.out⟩
set_option maxHeartbeats 1000000 in
theorem szprogram_any (w : World) (a : Option Addr) (n cap : Nat) (P : List Tk) (hn : n ≤ maxLen) (hm : ∀ t ∈ P, t.b.length ≤ maxLen) (h : TkRow w a n P) :
    Calls Tryz.prog 22 #[.agg #[.slice a n cap], .int .i64 1048576] w (SzOut w 1048576 (Sizes P)) := by
  have HL := Lib.hid (And.intro h hm)
  clear h hm
  go_enter Tryz.func22, Tryz.ntmps22
  go_wp2_with (go_at_call 64; refine (sztasks_any _ a n cap P hn HL.out.2 (HL.out.1.below (below_new w _))).mono ?_; rintro e w2 ⟨r, rfl, hr0, hr1, hrS, hb2⟩; refine Hid.out ?_)
  have HB2 := Lib.hid (below_then (below_new w _) hb2)
  clear hb2
  by_cases hrn : r < 0
  · refine Lib.hid ?_
    go_wp2
    go_ret
    exact ⟨-1, rfl, by omega, by omega, fun h => by omega, HB2.out⟩
  · refine Lib.hid ?_
    go_wp2
    go_ret
    exact ⟨r, rfl, hr0, hr1, hrS, HB2.out⟩
end Go.Proofs.YtcmhiadaebpgmaaGreatDoor.prg

/- The law's own comparison of tasks and programs; nothing that was there is written. -/
namespace Go.Proofs.YtcmhiadaebpgmaaGreatDoor.prg
open Go Go.ChangeShapes Go.WideShapes Go.ChangeAt Go.RowKit Go.Proofs.YtcmhiadaebpgmaaGreatDoor.row Go.Proofs.YtcmhiadaebpgmaaGreatDoor.val Go.Proofs.YtcmhiadaebpgmaaGreatDoor.expr Go.Proofs.YtcmhiadaebpgmaaGreatDoor.stm Go.Proofs.YtcmhiadaebpgmaaGreatDoor.blk

set_option maxHeartbeats 2000000 in
set_option maxRecDepth 100000 in
theorem eqtask_any (t : Tk) (a a' : Option Addr) (n cap cap' : Nat) (w : World) (hn : (n : Int) ≤ 1048576) (h1 : StRow w a n t.b) (h2 : StRow w a' n t.b) :
    Calls Tryz.prog 113 #[tkV a n cap t, tkV a' n cap' t] w (BelB w true) := by
  obtain ⟨B, o, x, y⟩ := t
  obtain ⟨W, hW⟩ : ∃ W, W = (w.alloc (.cells #[.slice a n cap, .int .i64 o, .int .i64 x, .int .i64 y] 70)).alloc (.cells #[.slice a' n cap', .int .i64 o, .int .i64 x, .int .i64 y] 70) := ⟨_, rfl⟩
  have e1 : ∀ x : Obj, (w.alloc x).heap.size = w.heap.size + 1 := fun x => by simp
  have b0 : Box w.heap.size #[.slice a n cap, .int .i64 o, .int .i64 x, .int .i64 y] 70 W := by
    rw [hW]; exact (Box.new w _ _).alloc _
  have b1 : Box (w.heap.size + 1) #[.slice a' n cap', .int .i64 o, .int .i64 x, .int .i64 y] 70 W := by
    have h9 := Box.new (w.alloc (.cells #[.slice a n cap, .int .i64 o, .int .i64 x, .int .i64 y] 70)) #[.slice a' n cap', .int .i64 o, .int .i64 x, .int .i64 y] 70
    rw [e1] at h9; rw [hW]; exact h9
  have hb : Below w.heap.size w W := by rw [hW]; exact ((Below.refl _ _).alloc (Nat.le_refl _) _).alloc (by simp) _
  have H0 := Lib.hid (And.intro b0 (And.intro b1 (And.intro hb (And.intro (h1.below hb) (h2.below hb)))))
  have HW := Lib.hid hW
  clear b0 b1 hb hW e1 h1 h2
  go_enter Tryz.func113, Tryz.ntmps113
  go_wp2_with (go_at_call 159; rw [← HW.out]; refine (eqStmts_any W a a' n cap cap' B hn H0.out.2.2.2.1 H0.out.2.2.2.2).mono ?_; rintro e w1 ⟨rfl, hb1⟩; refine Hid.out ?_)
  have c0 := H0.out.1.below hb1
  have c1 := H0.out.2.1.below hb1
  have r1 : w1.cell? ⟨w.heap.size, 1, none⟩ = some (.int .i64 o) := c0.cell 1
  have r2 : w1.cell? ⟨w.heap.size, 2, none⟩ = some (.int .i64 x) := c0.cell 2
  have r3 : w1.cell? ⟨w.heap.size, 3, none⟩ = some (.int .i64 y) := c0.cell 3
  have q1 : w1.cell? ⟨w.heap.size + 1, 1, none⟩ = some (.int .i64 o) := c1.cell 1
  have q2 : w1.cell? ⟨w.heap.size + 1, 2, none⟩ = some (.int .i64 x) := c1.cell 2
  have q3 : w1.cell? ⟨w.heap.size + 1, 3, none⟩ = some (.int .i64 y) := c1.cell 3
  have HB := Lib.hid (below_then H0.out.2.2.1 hb1)
  clear hb1 c0 c1
  refine Lib.hid ?_
  go_wp2_with (go_at_call 160; refine (eqexpr_same o x y _).mono ?_; rintro e w2 ⟨rfl, hb2⟩)
  go_ret
  exact ⟨rfl, below_then HB.out hb2⟩
theorem held4o {w w' : World} {g o : Nat} {x0 x1 x2 x3 : Value} (hb : Below w.heap.size w w') (hg : g < w.heap.size)
    (h : w.cell? ⟨g, o, none⟩ = some x0 ∧ w.cell? ⟨g, o + 1, none⟩ = some x1 ∧ w.cell? ⟨g, o + 2, none⟩ = some x2 ∧ w.cell? ⟨g, o + 3, none⟩ = some x3) :
    w'.cell? ⟨g, o, none⟩ = some x0 ∧ w'.cell? ⟨g, o + 1, none⟩ = some x1 ∧ w'.cell? ⟨g, o + 2, none⟩ = some x2 ∧ w'.cell? ⟨g, o + 3, none⟩ = some x3 :=
  ⟨(hb.cell (p := ⟨g, o, none⟩) hg).trans h.1, (hb.cell (p := ⟨g, o + 1, none⟩) hg).trans h.2.1, (hb.cell (p := ⟨g, o + 2, none⟩) hg).trans h.2.2.1, (hb.cell (p := ⟨g, o + 3, none⟩) hg).trans h.2.2.2⟩
set_option maxHeartbeats 2000000 in
set_option maxRecDepth 100000 in
theorem eqtasks_any (w : World) (a a' : Option Addr) (n cap cap' : Nat) (P : List Tk) (hz : Sizes P) (h1 : TkRow w a n P) (h2 : TkRow w a' n P) :
    Calls Tryz.prog 69 #[.slice a n cap, .slice a' n cap'] w (BelB w true) := by
  have hn : (n : Int) ≤ 1048576 := by have := hz.1; rw [h1.1] at this; omega
  have HC : Hid (∀ wr : World, Below w.heap.size w wr → ∀ k, k < n → ∃ (g o g' o' : Nat) (t : Tk) (m : Nat) (b b' : Option Addr) (c c' : Nat), a = some ⟨g, o, none⟩ ∧ a' = some ⟨g', o', none⟩ ∧ g < wr.heap.size ∧ g' < wr.heap.size ∧
      wr.rangeAt g (o + k * 4) (tkC b m c t) ∧ wr.rangeAt g' (o' + k * 4) (tkC b' m c' t) ∧ (m : Int) ≤ 1048576 ∧ StRow wr b m t.b ∧ StRow wr b' m t.b) := by
    intro wr hb k hk
    obtain ⟨g, o, t, e1, l1, x1, b, m, c, k1, _, k3⟩ := (h1.below hb).2 k hk
    obtain ⟨g', o', t', e2, l2, x2, b', m', c', q1, _, q3⟩ := (h2.below hb).2 k hk
    obtain rfl : t = t' := by rw [x1] at x2; exact Option.some.inj x2
    obtain rfl : m = m' := by have := k3.1; have := q3.1; omega
    exact ⟨g, o, g', o', t, m, b, b', c, c', e1, e2, l1, l2, k1, q1, by have := hz.2 t (mem_at x1); rw [k3.1] at this; omega, k3, q3⟩
  clear h1 h2
  go_enter Tryz.func69, Tryz.ntmps69
  go_wp2
  go_loopw [5] (fun i wr => ∃ k : Nat, k ≤ n ∧ i = .int .i64 k ∧ Below w.heap.size w wr) (fun i _ => n - (intOf i).toNat)
  case atStart => exact ⟨0, Nat.zero_le _, rfl, Below.refl _ _⟩
  case round =>
    obtain ⟨k, hk, rfl, hbel⟩ := hrel
    by_cases hlt : k < n
    · obtain ⟨g, o, g', o', t, m, b, b', c, c', rfl, rfl, hgl, hgl', c1, c2, hm, s1, s2⟩ := HC.out wr hbel k hlt
      have hI : (k : Int) < n := by omega
      have HB := Lib.hid (And.intro hbel (And.intro s1 s2))
      have r0 : wr.drew.cell? ⟨g, o + k * 4, none⟩ = some (.slice b m c) ∧ wr.drew.cell? ⟨g, o + k * 4 + 1, none⟩ = some (.int .i64 t.o) ∧ wr.drew.cell? ⟨g, o + k * 4 + 2, none⟩ = some (.int .i64 t.x) ∧ wr.drew.cell? ⟨g, o + k * 4 + 3, none⟩ = some (.int .i64 t.y) := range4 c1
      have t0 : wr.drew.cell? ⟨g', o' + k * 4, none⟩ = some (.slice b' m c') ∧ wr.drew.cell? ⟨g', o' + k * 4 + 1, none⟩ = some (.int .i64 t.o) ∧ wr.drew.cell? ⟨g', o' + k * 4 + 2, none⟩ = some (.int .i64 t.x) ∧ wr.drew.cell? ⟨g', o' + k * 4 + 3, none⟩ = some (.int .i64 t.y) := range4 c2
      clear c1 c2 hbel s1 s2
      go_wp2
      go_region_held3 (fun w' => (w'.cell? ⟨g, o + k * 4, none⟩ = some (.slice b m c) ∧ w'.cell? ⟨g, o + k * 4 + 1, none⟩ = some (.int .i64 t.o) ∧ w'.cell? ⟨g, o + k * 4 + 2, none⟩ = some (.int .i64 t.x) ∧ w'.cell? ⟨g, o + k * 4 + 3, none⟩ = some (.int .i64 t.y)) ∧ (w'.cell? ⟨g', o' + k * 4, none⟩ = some (.slice b' m c') ∧ w'.cell? ⟨g', o' + k * 4 + 1, none⟩ = some (.int .i64 t.o) ∧ w'.cell? ⟨g', o' + k * 4 + 2, none⟩ = some (.int .i64 t.x) ∧ w'.cell? ⟨g', o' + k * 4 + 3, none⟩ = some (.int .i64 t.y)))
        (first | (exact ⟨r0, t0⟩) | (exact ⟨held4o (drew_below hb2) hgl r0, held4o (drew_below hb2) hgl' t0⟩))
        (first
          | (go_at_call 113; refine (eqtask_any t b b' m c c' _ hm (HB.out.2.1.below (Below.drew (Below.refl _ wr))) (HB.out.2.2.below (Below.drew (Below.refl _ wr)))).mono ?_; rintro e w2 ⟨rfl, hb2⟩))
      all_goals
        have hb3 := Lib.hid (HB.out.1.trans ((drew_below hb2).mono HB.out.1.size))
        clear hb2 r0 t0
        go_wp2
        go_roundw
        case rel => exact ⟨k + 1, by omega, by go_num, hb3.out⟩
        case measure => simp [intOf]; omega
    · have hI : ¬ (k : Int) < n := by omega
      have HB := Lib.hid hbel
      clear hbel
      go_wp2
      go_ret
      exact ⟨rfl, HB.out⟩
set_option maxHeartbeats 1000000 in
set_option maxRecDepth 100000 in
theorem eqprogram_any (w : World) (a a' : Option Addr) (n cap cap' : Nat) (P : List Tk) (hz : Sizes P) (h1 : TkRow w a n P) (h2 : TkRow w a' n P) :
    Calls Tryz.prog 27 #[.agg #[.slice a n cap], .agg #[.slice a' n cap']] w (BelB w true) := by
  have HZ := Lib.hid hz
  have H1 := Lib.hid (And.intro h1 h2)
  clear hz h1 h2
  go_enter Tryz.func27, Tryz.ntmps27
  go_wp2_with (go_at_call 69; refine (eqtasks_any _ a a' n cap cap' P HZ.out (H1.out.1.below ((below_new w _).alloc (by simp) _)) (H1.out.2.below ((below_new w _).alloc (by simp) _))).mono ?_; rintro e w2 ⟨rfl, hb2⟩)
  go_ret
  exact ⟨rfl, ((below_new w _).alloc (by simp) _).trans (hb2.mono (by simp; omega))⟩
end Go.Proofs.YtcmhiadaebpgmaaGreatDoor.prg

/- What a law's argument is made of, by its type: a struct of numbers is its fields. -/
namespace Go.Proofs.YtcmhiadaebpgmaaGreatDoor.opn
open Go.ChangeShapes Go.WideShapes Go.ChangeAt Go.RowKit Go.Joins Go.Deep

/-- An expression that came in: three numbers. -/
def IsExpr (_ : World) (v : Value) : Prop := ∃ o a b : Int, v = .agg #[.int .i64 o, .int .i64 a, .int .i64 b] ∧ (Lit.int .i64 o).wf = true ∧ (Lit.int .i64 a).wf = true ∧ (Lit.int .i64 b).wf = true
set_option maxRecDepth 100000 in
theorem open_Expr {H : Type} {enc : TypeId × Value → H} {w w' : World} {base : Nat} {spare : Nat → Bool} {held : Bool} {r : Reach} {b0 : Nat} {v : Value} {d : DataW H} {p : List MemPlace}
    (hv : Value.okWide Tryz.prog w r b0 154 v) (h : DataW.Trod enc Tryz.prog w base spare held 154 v d p) : IsExpr w' v := by
  obtain ⟨v0, v1, v2, y0, y1, y2, n, rfl, _, _, h0, h1, h2⟩ := open_agg3 Tryz.underlying154 (by kernel_rfl) (by kernel_rfl) hv h
  obtain ⟨o, e0, _, w0⟩ := DataW.trod_int Tryz.underlying3 h0
  obtain ⟨a, e1, _, w1⟩ := DataW.trod_int Tryz.underlying3 h1
  obtain ⟨b, e2, _, w2⟩ := DataW.trod_int Tryz.underlying3 h2
  simp at e0 e1 e2
  subst e0 e1 e2
  exact ⟨o, a, b, rfl, w0, w1, w2⟩
/-- A statement that came in: six numbers. -/
def IsStmt (_ : World) (v : Value) : Prop := ∃ k x n o a b : Int, v = .agg #[.int .i64 k, .int .i64 x, .int .i64 n, .int .i64 o, .int .i64 a, .int .i64 b] ∧
  (Lit.int .i64 k).wf = true ∧ (Lit.int .i64 x).wf = true ∧ (Lit.int .i64 n).wf = true ∧ (Lit.int .i64 o).wf = true ∧ (Lit.int .i64 a).wf = true ∧ (Lit.int .i64 b).wf = true
set_option maxRecDepth 100000 in
theorem open_Stmt {H : Type} {enc : TypeId × Value → H} {w w' : World} {base : Nat} {spare : Nat → Bool} {held : Bool} {r : Reach} {b0 : Nat} {v : Value} {d : DataW H} {p : List MemPlace}
    (hv : Value.okWide Tryz.prog w r b0 211 v) (h : DataW.Trod enc Tryz.prog w base spare held 211 v d p) : IsStmt w' v := by
  obtain ⟨⟨cs⟩, rfl, hsz⟩ := okWide_struct Tryz.underlying211 hv
  obtain ⟨fuel, hf⟩ := h
  have hC : Tryz.prog.cellsOf 211 = 6 := by kernel_rfl
  have hI : Tryz.prog.cellsOf 3 = 1 := by kernel_rfl
  have hE : Tryz.prog.cellsOf 154 = 3 := by kernel_rfl
  rw [hC] at hsz
  match cs, hsz, hf with
  | [c0, c1, c2, c3, c4, c5], _, hf =>
    obtain ⟨y0, y1, y2, y3, m, _, _, h0, h1, h2, h3⟩ := trod_struct4 Tryz.underlying211 hf
    simp [Value.cells, hI, hE] at h0 h1 h2 h3
    obtain ⟨z0, z1, z2, m2, _, _, h4, h5, h6⟩ := trod_struct3 Tryz.underlying154 h3
    simp [hI] at h4 h5 h6
    obtain ⟨k, e0, _, w0⟩ := DataW.trod_int Tryz.underlying3 h0
    obtain ⟨x, e1, _, w1⟩ := DataW.trod_int Tryz.underlying3 h1
    obtain ⟨n, e2, _, w2⟩ := DataW.trod_int Tryz.underlying3 h2
    obtain ⟨o, e3, _, w3⟩ := DataW.trod_int Tryz.underlying3 h4
    obtain ⟨a, e4, _, w4⟩ := DataW.trod_int Tryz.underlying3 h5
    obtain ⟨b, e5, _, w5⟩ := DataW.trod_int Tryz.underlying3 h6
    simp at e0 e1 e2 e3 e4 e5
    subst e0 e1 e2 e3 e4 e5
    exact ⟨k, x, n, o, a, b, rfl, w0, w1, w2, w3, w4, w5⟩
end Go.Proofs.YtcmhiadaebpgmaaGreatDoor.opn

/- The numbers of the variables that two operands name: found by a search from 0 on, or collected, sorted and made single: the same list. Plain mathematics; no condition but that the operands are valid. -/
namespace Go.Proofs.YtcmhiadaebpgmaaGreatDoor.expr

/-- The numbers below 'k' that one of the operands names. -/
def rd (a b : Int) (k : Nat) : List Int := ((List.range k).filter fun (j : Nat) => decide (a = -1 - (j : Int)) || decide (b = -1 - (j : Int))).map fun (j : Nat) => (j : Int)
theorem rd_zero (a b : Int) : rd a b 0 = [] := rfl
theorem rd_yes {a b : Int} {k : Nat} (h : a = -1 - (k : Int) ∨ b = -1 - (k : Int)) : rd a b (k + 1) = rd a b k ++ [(k : Int)] := by
  have hc : (decide (a = -1 - (k : Int)) || decide (b = -1 - (k : Int))) = true := by simpa using h
  simp [rd, List.range_succ, hc]
theorem rd_no {a b : Int} {k : Nat} (h : ¬ (a = -1 - (k : Int) ∨ b = -1 - (k : Int))) : rd a b (k + 1) = rd a b k := by
  have hc : (decide (a = -1 - (k : Int)) || decide (b = -1 - (k : Int))) = false := by simpa using h
  simp [rd, List.range_succ, hc]
theorem rd_len (a b : Int) (k : Nat) : (rd a b k).length ≤ k := by
  unfold rd; rw [List.length_map]; exact Nat.le_trans (List.length_filter_le _ _) (by simp)
theorem rd_b {a b : Int} (h : 0 ≤ b) (k : Nat) : rd a b k = rd a 0 k := by
  unfold rd; congr 1; apply List.filter_congr; intro j _
  have h1 : ¬ b = -1 - (j : Int) := by omega
  have h2 : ¬ (0 : Int) = -1 - (j : Int) := by omega
  simp only [h1, h2]
theorem rd_a {a b : Int} (h : 0 ≤ a) (k : Nat) : rd a b k = rd 0 b k := by
  unfold rd; congr 1; apply List.filter_congr; intro j _
  have h1 : ¬ a = -1 - (j : Int) := by omega
  have h2 : ¬ (0 : Int) = -1 - (j : Int) := by omega
  simp only [h1, h2]

/-- The variable that an operand names, if it does. -/
def vk (x : Int) : List Int := if x < 0 then [-1 - x] else []
theorem vk_neg {x : Int} (h : x < 0) : vk x = [-1 - x] := by simp [vk, h]
theorem vk_pos {x : Int} (h : ¬ x < 0) : vk x = [] := by simp [vk, h]
theorem compact0 : Lib.compact ([] : List Int) = [] := by simp [Lib.compact, Lib.compactUpTo]
theorem compact1 (x : Int) : Lib.compact [x] = [x] := by simp [Lib.compact, Lib.compactUpTo, Lib.keeps, List.range_succ]
theorem compact2 (x y : Int) : Lib.compact [x, y] = if x = y then [x] else [x, y] := by
  by_cases h : x = y
  · subst h; simp [Lib.compact, Lib.compactUpTo, Lib.keeps, List.range_succ]
  · have h' : ¬ y = x := fun e => h e.symm
    simp [Lib.compact, Lib.compactUpTo, Lib.keeps, List.range_succ, h, h']
def srt (L : List Int) : List Int := L.mergeSort fun x y => decide (x ≤ y)
theorem srt0 : srt [] = [] := by simp [srt]
theorem srt1 (x : Int) : srt [x] = [x] := by simp [srt]
theorem srt2 (x y : Int) : srt [x, y] = if x ≤ y then [x, y] else [y, x] := by
  unfold srt
  by_cases h : x ≤ y <;> simp [List.mergeSort, h]
theorem one_rd (i : Fin 8) : rd (-1 - (i.val : Int)) 0 8 = [(i.val : Int)] ∧ rd 0 (-1 - (i.val : Int)) 8 = [(i.val : Int)] := by
  revert i; decide
theorem two_rd (i j : Fin 8) : rd (-1 - (i.val : Int)) (-1 - (j.val : Int)) 8 = if (i.val : Int) = j.val then [(i.val : Int)] else if (i.val : Int) ≤ j.val then [(i.val : Int), (j.val : Int)] else [(j.val : Int), (i.val : Int)] := by
  revert i j; decide
theorem reads_same (a b : Int) (ha : -8 ≤ a) (hb : -8 ≤ b) : Lib.compact (srt (vk a ++ vk b)) = rd a b 8 := by
  by_cases h1 : a < 0 <;> by_cases h2 : b < 0
  · obtain ⟨i, hi, rfl⟩ : ∃ i : Nat, i < 8 ∧ a = -1 - (i : Int) := ⟨(-1 - a).toNat, by omega, by omega⟩
    obtain ⟨j, hj, rfl⟩ : ∃ j : Nat, j < 8 ∧ b = -1 - (j : Int) := ⟨(-1 - b).toNat, by omega, by omega⟩
    have e := two_rd ⟨i, hi⟩ ⟨j, hj⟩
    simp only at e
    rw [e, vk_neg h1, vk_neg h2, show (-1 - (-1 - (i : Int))) = i by omega, show (-1 - (-1 - (j : Int))) = j by omega]
    show Lib.compact (srt [(i : Int), (j : Int)]) = _
    rw [srt2]
    by_cases hle : (i : Int) ≤ j
    · simp only [if_pos hle, compact2]
    · have he : ¬ (j : Int) = i := by omega
      have he' : ¬ (i : Int) = j := by omega
      simp only [if_neg hle, compact2, if_neg he, if_neg he']
  · obtain ⟨i, hi, rfl⟩ : ∃ i : Nat, i < 8 ∧ a = -1 - (i : Int) := ⟨(-1 - a).toNat, by omega, by omega⟩
    rw [rd_b (by omega), vk_neg h1, vk_pos h2, show (-1 - (-1 - (i : Int))) = i by omega, List.append_nil, srt1, compact1]
    exact (one_rd ⟨i, hi⟩).1.symm
  · obtain ⟨j, hj, rfl⟩ : ∃ j : Nat, j < 8 ∧ b = -1 - (j : Int) := ⟨(-1 - b).toNat, by omega, by omega⟩
    rw [rd_a (by omega), vk_neg h2, vk_pos h1, show (-1 - (-1 - (j : Int))) = j by omega, List.nil_append, srt1, compact1]
    exact (one_rd ⟨j, hj⟩).2.symm
  · rw [rd_a (by omega), rd_b (by omega), vk_pos h1, vk_pos h2, List.nil_append, srt0, compact0]; decide
end Go.Proofs.YtcmhiadaebpgmaaGreatDoor.expr
