/- Several texts in one: MarkW MarkI TkD. -/
import Derived.Test.YtlicadaecfgklaaGreatGHub6
import Derived.Test.YtlicadaecfgklaaGreatGHub7
import Derived.Deep.RegionHeld3

/- The law's marks in a program of its own, of any size: which blocks are written, and that the number is no less than nothing. -/
namespace Go.Proofs.YtlicadaecfgklaaGreat.mrk
open Go Go.ChangeShapes Go.WideShapes Go.ChangeAt Go.RowKit Go.Proofs.YtlicadaecfgklaaGreat.row Go.Proofs.YtlicadaecfgklaaGreat.stm Go.Proofs.YtlicadaecfgklaaGreat.prg

/-- A list of tasks in blocks from 'lo' to 'hi', each known whole: its sizes alone. -/
def MkX (lo hi : Nat) (w : World) (g n : Nat) (L : List Nat) : Prop :=
  L.length = n ∧ lo ≤ g ∧ ∃ cs : Array Value, Box g cs 47 w ∧ cs.size = n * 4 ∧ ∀ j, j < n → ∃ (m b c : Nat) (csb : Array Value), L[j]? = some m ∧ cs[j * 4]? = some (.slice (some ⟨b, 0, none⟩) m c) ∧ lo ≤ b ∧ b ≠ g ∧ b < hi ∧ Box b csb 68 w ∧ m * 6 ≤ csb.size
theorem box_one {g : Nat} {cs cs' : Array Value} {t t' : TypeId} {w : World} (h : Box g cs t w) (h' : Box g cs' t' w) : cs = cs' := by
  unfold Box at h h'
  rw [h] at h'
  injection h' with h'
  injection h'
theorem MkX.below {lo hi g n : Nat} {w w' : World} {L : List Nat} (h : MkX lo hi w g n L) (hb : Below w.heap.size w w') : MkX lo hi w' g n L := by
  obtain ⟨h1, h2, cs, h3, h4, h5⟩ := h
  refine ⟨h1, h2, cs, h3.below hb, h4, fun j hj => ?_⟩
  obtain ⟨m, b, c, csb, q1, q2, q3, q4, q5, q6, q7⟩ := h5 j hj
  exact ⟨m, b, c, csb, q1, q2, q3, q4, q5, q6.below hb, q7⟩
theorem MkX.body {lo hi g n b : Nat} {w w' : World} {L : List Nat} (h : MkX lo hi w g n L) (hg : w.grownBy w' (some b)) (hne : b ≠ g) {csb csb' : Array Value} (h0 : Box b csb 68 w) (h1 : Box b csb' 68 w') (hs : csb'.size = csb.size) : MkX lo hi w' g n L := by
  obtain ⟨q1, q2, cs, q3, q4, q5⟩ := h
  refine ⟨q1, q2, cs, q3.grown hg (fun e => hne (Option.some.inj e).symm), q4, fun j hj => ?_⟩
  obtain ⟨m, b', c, cb', p1, p2, p3, p4, p5, p6, p7⟩ := q5 j hj
  by_cases e : b' = b
  · subst e
    have e2 := box_one p6 h0
    exact ⟨m, b', c, csb', p1, p2, p3, p4, p5, h1, by rw [hs, ← e2]; exact p7⟩
  · exact ⟨m, b', c, cb', p1, p2, p3, p4, p5, p6.grown hg (fun e9 => e (Option.some.inj e9)), p7⟩
theorem MkX.step {lo hi g n m : Nat} {w w' : World} {L : List Nat} {cs : Array Value} {x y z : Value} (h : MkX lo hi w g n L) (h0 : Box g cs 47 w) (hg : w.grownBy w' (some g)) (hb : Box g (setAll cs (m * 4 + 1) [x, y, z]) 47 w') : MkX lo hi w' g n L := by
  obtain ⟨q1, q2, cs', q3, q4, q5⟩ := h
  obtain rfl := box_one q3 h0
  refine ⟨q1, q2, _, hb, by rw [setAll_size]; exact q4, fun j hj => ?_⟩
  obtain ⟨k, b', c, cb', p1, p2, p3, p4, p5, p6, p7⟩ := q5 j hj
  exact ⟨k, b', c, cb', p1, by rw [setAll_out _ _ _ _ (by simp; omega)]; exact p2, p3, p4, p5, p6.grown hg (fun e9 => p4 (Option.some.inj e9)), p7⟩
theorem Far.below {lo hi : Nat} {w w' w'' : World} (h : Below lo w w' ∧ Far hi w w') (hb : Below w'.heap.size w' w'') (hlo : lo ≤ w'.heap.size) (hs : w.heap.size ≤ w'.heap.size) : Below lo w w'' ∧ Far hi w w'' :=
  ⟨h.1.trans (hb.mono hlo), fun b hb1 hb2 => (hb.block b (by omega)).trans (h.2 b hb1 hb2)⟩
/-- A copy of the law's own, its blocks in bounds. -/
theorem mk_of {lo n : Nat} {w : World} {a : Option Addr} {P : List Tk} (h : PrgX lo w a n P) : ∃ g, a = some ⟨g, 0, none⟩ ∧ g < w.heap.size ∧ MkX lo w.heap.size w g n (P.map fun t => t.b.length) := by
  obtain ⟨hl, g, cs, rfl, hlo, hb, hs, hP⟩ := h
  refine ⟨g, rfl, hb.lt, by simpa using hl, hlo, cs, hb, hs, fun j hj => ?_⟩
  obtain ⟨t, b, h1, h2, h3, h4⟩ := hP j hj
  exact ⟨t.b.length, b, t.b.length, _, by simp [h1], by have := h2 0 _ (by rfl); simpa using this, by omega, by omega, h4.lt, h4, by simp [stsC_len]⟩
/-- What the marks leave. -/
def MarkW (lo hi : Nat) (w : World) (g n : Nat) (L : List Nat) (k : Int) (e : Ending) (w' : World) : Prop :=
  ∃ r : Int, e = .returned (.int .i64 r) ∧ k ≤ r ∧ r ≤ k + n * 6291459 ∧ (Below lo w w' ∧ Far hi w w') ∧ w.heap.size ≤ w'.heap.size ∧ Hid (MkX lo hi w' g n L)
set_option maxHeartbeats 4000000 in
set_option maxRecDepth 100000 in
theorem marktasks_wide (lo hi : Nat) (w : World) (g n cap : Nat) (L : List Nat) (h : MkX lo hi w g n L) (hL : ∀ m ∈ L, m ≤ 1048576) (hlo : lo ≤ w.heap.size) (hgh : g < hi) (k : Int) (hk0 : 0 ≤ k) (hk1 : k ≤ 1000000000) (hn : n ≤ 1048576) :
    Calls Tryz.prog 27 #[.slice (some ⟨g, 0, none⟩) n cap, .int .i64 k] w (MarkW lo hi w g n L k) := by
  have HT := Lib.hid h
  have HLL := Lib.hid hL
  clear h hL
  go_enter Tryz.func27, Tryz.ntmps27
  go_wp2
  go_loopw [1, 5] (fun kk i wr => ∃ (m : Nat) (K : Int), m ≤ n ∧ i = .int .i64 m ∧ kk = .int .i64 K ∧ k ≤ K ∧ K ≤ k + m * 6291459 ∧ Hid ((Below lo w wr ∧ Far hi w wr) ∧ w.heap.size ≤ wr.heap.size ∧ MkX lo hi wr g n L)) (fun _ i _ => n - (intOf i).toNat)
  case atStart => exact ⟨0, k, Nat.zero_le _, rfl, rfl, Int.le_refl _, by simp, ⟨⟨rfl, rfl, rfl, Nat.le_refl _, fun _ _ => rfl⟩, fun _ _ _ => rfl⟩, Nat.le_refl _, HT.out⟩
  case round =>
    obtain ⟨m, K, hm, rfl, rfl, hKl, hKh, HI⟩ := hrel
    by_cases hlt : m < n
    · have hI : (m : Int) < n := by omega
      obtain ⟨_, hlg, cs', hbx, hcs, hrow⟩ := HI.out.2.2
      obtain ⟨nb, b, cb, csb, hLm, hc, hb1, hb2, hb3, hbb, hbs⟩ := hrow m hlt
      have hnb := HLL.out nb (List.mem_of_getElem? hLm)
      have hnbI : (nb : Int) ≤ 1048576 := by omega
      have hK0 : 0 ≤ K := by omega
      have hK1 : K ≤ 100000000000000 := by omega
      have c0 : wr.cell? ⟨g, m * 4, none⟩ = some (.slice (some ⟨b, 0, none⟩) nb cb) := by rw [hbx.cell]; exact hc
      have HA0 := Lib.hid (And.intro hbx (And.intro hbb (And.intro hb1 (And.intro hb2 hb3))))
      have HS0 := Lib.hid (And.intro hcs hbs)
      have HLG := Lib.hid hlg
      clear hbx hc hb1 hb2 hb3 hbb hbs hrow hLm hcs hlg
      go_wp2_with (go_at_call 57; (with_reducible refine (markstmts_any _ b nb cb csb 68 HA0.out.2.1 HS0.out.2 K hK0 (by omega) (by omega)).mono ?_); rintro e w2 ⟨rfl, hg2, csb', hbx2, hs2, _⟩; refine Hid.out ?_)
      have hx : Box g cs' 47 w2 := HA0.out.1.grown hg2 (fun e => HA0.out.2.2.2.1 (Option.some.inj e).symm)
      have H2 := Lib.hid (And.intro (HI.out.2.2.body hg2 HA0.out.2.2.2.1 HA0.out.2.1 hbx2 hs2) (And.intro (bf_grown HI.out.1 HI.out.2.1 hlo hg2 HA0.out.2.2.1 HA0.out.2.2.2.2) (Nat.le_trans HI.out.2.1 hg2.size)))
      have hz : cs'.size = n * 4 := HS0.out.1
      clear hg2 hbx2 hs2 c0
      obtain ⟨x1, c1⟩ : ∃ x, w2.cell? ⟨g, m * 4 + 1, none⟩ = some x := ⟨cs'[m * 4 + 1]'(by omega), by rw [hx.cell]; simp⟩
      obtain ⟨x2, c2⟩ : ∃ x, w2.cell? ⟨g, m * 4 + 1 + 1, none⟩ = some x := ⟨cs'[m * 4 + 1 + 1]'(by omega), by rw [hx.cell]; simp⟩
      obtain ⟨x3, c3⟩ : ∃ x, w2.cell? ⟨g, m * 4 + 1 + 2, none⟩ = some x := ⟨cs'[m * 4 + 1 + 2]'(by omega), by rw [hx.cell]; simp⟩
      have f1 : w2.frozen? ⟨g, m * 4 + 1, none⟩ = false := hx.frozen _
      have f2 : w2.frozen? ⟨g, m * 4 + 1 + 1, none⟩ = false := hx.frozen _
      have f3 : w2.frozen? ⟨g, m * 4 + 1 + 2, none⟩ = false := hx.frozen _
      have hgs : w2.grownBy (((w2.setCell ⟨g, m * 4 + 1, none⟩ (.int .i64 (K + 6 * (nb : Int)))).setCell ⟨g, m * 4 + 1 + 1, none⟩ (.int .i64 (K + 6 * (nb : Int) + 1))).setCell ⟨g, m * 4 + 1 + 2, none⟩ (.int .i64 (K + 6 * (nb : Int) + 1 + 1))) (some g) := grown_trans (grown_trans (grown_setCell _ g _ _) (grown_setCell _ g _ _)) (grown_setCell _ g _ _)
      have hbx3 : Box g (setAll cs' (m * 4 + 1) [.int .i64 (K + 6 * (nb : Int)), .int .i64 (K + 6 * (nb : Int) + 1), .int .i64 (K + 6 * (nb : Int) + 1 + 1)]) 47 (((w2.setCell ⟨g, m * 4 + 1, none⟩ (.int .i64 (K + 6 * (nb : Int)))).setCell ⟨g, m * 4 + 1 + 1, none⟩ (.int .i64 (K + 6 * (nb : Int) + 1))).setCell ⟨g, m * 4 + 1 + 2, none⟩ (.int .i64 (K + 6 * (nb : Int) + 1 + 1))) := ((hx.set (m * 4 + 1) _).set (m * 4 + 1 + 1) _).set (m * 4 + 1 + 2) _
      have H3 := Lib.hid (And.intro (H2.out.1.step hx hgs hbx3) (bf_grown H2.out.2.1 H2.out.2.2 hlo hgs HLG.out hgh))
      have HS := Lib.hid H2.out.2.2
      clear hx hgs hbx3 hz H2
      refine Lib.hid ?_
      go_wp2
      go_roundw
      case rel => exact ⟨m + 1, K + 6 * (nb : Int) + 1 + 1 + 1, by omega, by go_num, rfl, by omega, by push_cast; omega, H3.out.2, Nat.le_trans HS.out (by simp), H3.out.1⟩
      case measure => simp [intOf]; omega
    · obtain rfl : m = n := by omega
      have hI : ¬ (m : Int) < m := by omega
      go_wp2
      go_ret
      exact ⟨K, rfl, hKl, hKh, HI.out.1, HI.out.2.1, HI.out.2.2⟩
set_option maxHeartbeats 2000000 in
set_option maxRecDepth 100000 in
theorem markprogram_wide (lo hi : Nat) (w : World) (g n cap : Nat) (L : List Nat) (h : MkX lo hi w g n L) (hL : ∀ m ∈ L, m ≤ 1048576) (hlo : lo ≤ w.heap.size) (hgh : g < hi) (k : Int) (hk0 : 0 ≤ k) (hk1 : k ≤ 1000000000) (hn : n ≤ 1048576) :
    Calls Tryz.prog 11 #[.agg #[.slice (some ⟨g, 0, none⟩) n cap], .int .i64 k] w (MarkW lo hi w g n L k) := by
  have hb0 := below_new w (.cells #[.slice (some ⟨g, 0, none⟩) n cap] 30)
  have HH := Lib.hid (h.below hb0)
  have HB := Lib.hid hb0
  have HLO := Lib.hid (show lo ≤ (w.alloc (.cells #[.slice (some ⟨g, 0, none⟩) n cap] 30)).heap.size by simp; omega)
  clear h hb0
  go_enter Tryz.func11, Tryz.ntmps11
  go_wp2_with (go_at_call 27; (with_reducible refine (marktasks_wide lo hi _ g n cap L HH.out hL HLO.out hgh k hk0 hk1 hn).mono ?_); rintro e w2 ⟨r, rfl, hr1, hr2, hb2, hs2, hm2⟩; refine Hid.out ?_)
  have H2 := Lib.hid (And.intro (show Below lo w w2 from (HB.out.mono hlo).trans hb2.1) (And.intro (show Far hi w w2 from fun b hb hbw => (hb2.2 b hb (by simp; omega)).trans (HB.out.block b hbw)) (And.intro (show w.heap.size ≤ w2.heap.size from Nat.le_trans HB.out.size hs2) hm2)))
  clear hb2 hs2 hm2
  refine Lib.hid ?_
  go_wp2
  go_ret
  exact ⟨r, rfl, hr1, hr2, ⟨H2.out.1, H2.out.2.1⟩, H2.out.2.2.1, H2.out.2.2.2⟩
end Go.Proofs.YtlicadaecfgklaaGreat.mrk

/- The law's marks in a row of numbers, from any number on; what a program's marks leave as it was. -/
namespace Go.Proofs.YtlicadaecfgklaaGreat.mrk
open Go Go.ChangeShapes Go.WideShapes Go.ChangeAt Go.RowKit Go.Proofs.YtlicadaecfgklaaGreat.row Go.Proofs.YtlicadaecfgklaaGreat.stm Go.Proofs.YtlicadaecfgklaaGreat.prg

theorem own_far {w w' : World} {base sz n lo hi : Nat} {e : TypeId} {v : Value} {xs : List Value} (h : w.ownsRow base e sz v n xs) (hbf : Below lo w w' ∧ Far hi w w') (hv : ∀ q, v.ownBlock = some q → q < lo ∨ hi ≤ q) : w'.ownsRow base e sz v n xs := by
  refine ⟨h.1, ?_⟩
  rcases h.2 with hn | ⟨g, cap, cur, rfl, hb, hgg, rest⟩
  · exact .inl hn
  · refine .inr ⟨g, cap, cur, rfl, hb, ?_, rest⟩
    have hlt := (Array.getElem?_eq_some_iff.1 hgg).1
    rcases hv g rfl with h1 | h1
    · rw [hbf.1.block g h1]; exact hgg
    · rw [hbf.2 g h1 hlt]; exact hgg
theorem box_far {w w' : World} {g lo hi : Nat} {cs : Array Value} {t : TypeId} (h : Box g cs t w) (hbf : Below lo w w' ∧ Far hi w w') (hv : g < lo ∨ hi ≤ g) : Box g cs t w' := by
  unfold Box at h ⊢
  rcases hv with h1 | h1
  · rw [hbf.1.block g h1]; exact h
  · rw [hbf.2 g h1 (Array.getElem?_eq_some_iff.1 h).1]; exact h
set_option maxHeartbeats 1000000 in
theorem markInts_wide {ty : TypeId} (w : World) (base : Nat) (a : Option Addr) (n cap q : Nat) (L : List Int) (hn : (n : Int) ≤ 1048576) (hq1 : (q : Int) ≤ 1000000000000000)
    (h : w.ownsRow base ty 1 (.slice a n cap) n (ivs L)) :
    Calls Tryz.prog 12 #[.slice a n cap, .int .i64 q] w fun e w' => e = .returned (.int .i64 ((q + n : Nat) : Int)) ∧ w.grownBy w' (Value.slice a n cap).ownBlock ∧ ∃ L', w'.ownsRow base ty 1 (.slice a n cap) n (ivs L') ∧ Marked L' q n := by
  go_enter Tryz.func12, Tryz.ntmps12
  go_wp2
  go_loopw [1, 5] (fun r i wr => ∃ (k p : Nat) (L' : List Int), k ≤ n ∧ i = .int .i64 k ∧ r = .int .i64 p ∧ Hid (p = q + k) ∧ (p : Int) ≤ 1000000002097152 ∧ w.grownBy wr (Value.slice a n cap).ownBlock ∧ wr.ownsRow base ty 1 (.slice a n cap) n (ivs L') ∧ Hid (Marked L' q k)) (fun _ i _ => n - (intOf i).toNat)
  case atStart => exact ⟨0, q, L, Nat.zero_le _, rfl, rfl, rfl, by omega, grown_refl _ _, h, fun i hi => by omega⟩
  case round =>
    obtain ⟨k, p, L', hk, rfl, rfl, hp, hp1, hg, hown, hM⟩ := hrel
    by_cases hlt : k < n
    · obtain ⟨g, X, rfl, hbg, hgs, hcell, hfz⟩ := own_store hown hlt
      have hI : (k : Int) < n := by omega
      have hll := own_len hown
      obtain ⟨hown2, hgrow2⟩ := hown.stored k (.int .i64 (p : Int))
      rw [ivs_set] at hown2
      have hg2 : w.grownBy (wr.setCell ⟨g, k, none⟩ (.int .i64 p)) (some g) := grown_trans hg hgrow2
      have HM2 : Hid (Marked (L'.set k p) q (k + 1)) := by rw [hp.out]; exact marked_set hM.out (by omega)
      have HP2 := Lib.hid (show p + 1 = q + (k + 1) by have := hp.out; omega)
      have hp3 : ((p + 1 : Nat) : Int) ≤ 1000000002097152 := by have := hp.out; omega
      have HO2 := Lib.hid hown2
      have HG2 := Lib.hid hg2
      clear hown2 hown hgrow2 hg2 hg hll
      go_wp2
      go_roundw
      case rel => exact ⟨k + 1, p + 1, _, by omega, by go_num, by go_num, HP2, hp3, HG2.out, HO2.out, HM2⟩
      case measure => simp [intOf]; omega
    · have hkn : k = n := by omega
      subst hkn
      obtain rfl : p = q + k := hp.out
      clear hp
      have HH := Lib.hid hown
      have HG := Lib.hid hg
      clear hown hg
      go_wp2
      go_ret
      exact ⟨ret_i (by omega), HG.out, L', HH.out, hM.out⟩
end Go.Proofs.YtlicadaecfgklaaGreat.mrk

/- The law's own comparison of tasks and programs; nothing that was there is written. -/
namespace Go.Proofs.YtlicadaecfgklaaGreat.prg
open Go Go.ChangeShapes Go.WideShapes Go.ChangeAt Go.RowKit Go.Proofs.YtlicadaecfgklaaGreat.row Go.Proofs.YtlicadaecfgklaaGreat.val Go.Proofs.YtlicadaecfgklaaGreat.expr Go.Proofs.YtlicadaecfgklaaGreat.stm Go.Proofs.YtlicadaecfgklaaGreat.blk

set_option maxHeartbeats 2000000 in
set_option maxRecDepth 100000 in
theorem eqtask_any (t : Tk) (a a' : Option Addr) (n cap cap' : Nat) (w : World) (hn : (n : Int) ≤ 1048576) (h1 : StRow w a n t.b) (h2 : StRow w a' n t.b) :
    Calls Tryz.prog 56 #[tkV a n cap t, tkV a' n cap' t] w (BelB w true) := by
  obtain ⟨B, o, x, y⟩ := t
  obtain ⟨W, hW⟩ : ∃ W, W = (w.alloc (.cells #[.slice a n cap, .int .i64 o, .int .i64 x, .int .i64 y] 47)).alloc (.cells #[.slice a' n cap', .int .i64 o, .int .i64 x, .int .i64 y] 47) := ⟨_, rfl⟩
  have e1 : ∀ x : Obj, (w.alloc x).heap.size = w.heap.size + 1 := fun x => by simp
  have b0 : Box w.heap.size #[.slice a n cap, .int .i64 o, .int .i64 x, .int .i64 y] 47 W := by
    rw [hW]; exact (Box.new w _ _).alloc _
  have b1 : Box (w.heap.size + 1) #[.slice a' n cap', .int .i64 o, .int .i64 x, .int .i64 y] 47 W := by
    have h9 := Box.new (w.alloc (.cells #[.slice a n cap, .int .i64 o, .int .i64 x, .int .i64 y] 47)) #[.slice a' n cap', .int .i64 o, .int .i64 x, .int .i64 y] 47
    rw [e1] at h9; rw [hW]; exact h9
  have hb : Below w.heap.size w W := by rw [hW]; exact ((Below.refl _ _).alloc (Nat.le_refl _) _).alloc (by simp) _
  have H0 := Lib.hid (And.intro b0 (And.intro b1 (And.intro hb (And.intro (h1.below hb) (h2.below hb)))))
  have HW := Lib.hid hW
  clear b0 b1 hb hW e1 h1 h2
  go_enter Tryz.func56, Tryz.ntmps56
  go_wp2_with (go_at_call 78; rw [← HW.out]; refine (eqStmts_any W a a' n cap cap' B hn H0.out.2.2.2.1 H0.out.2.2.2.2).mono ?_; rintro e w1 ⟨rfl, hb1⟩; refine Hid.out ?_)
  have c0 := H0.out.1.below hb1
  have c1 := H0.out.2.1.below hb1
  have r1 : w1.cell? ⟨w.heap.size, 1, none⟩ = some (.int .i64 o) := c0.cell 1
  have r2 : w1.cell? ⟨w.heap.size, 2, none⟩ = some (.int .i64 x) := c0.cell 2
  have r3 : w1.cell? ⟨w.heap.size, 3, none⟩ = some (.int .i64 y) := c0.cell 3
  have q1 : w1.cell? ⟨w.heap.size + 1, 1, none⟩ = some (.int .i64 o) := c1.cell 1
  have q2 : w1.cell? ⟨w.heap.size + 1, 2, none⟩ = some (.int .i64 x) := c1.cell 2
  have q3 : w1.cell? ⟨w.heap.size + 1, 3, none⟩ = some (.int .i64 y) := c1.cell 3
  have HB := Lib.hid (below_then H0.out.2.2.1 hb1)
  clear hb1 c0 c1
  refine Lib.hid ?_
  go_wp2_with (go_at_call 79; refine (eqexpr_same o x y _).mono ?_; rintro e w2 ⟨rfl, hb2⟩)
  go_ret
  exact ⟨rfl, below_then HB.out hb2⟩
theorem held4o {w w' : World} {g o : Nat} {x0 x1 x2 x3 : Value} (hb : Below w.heap.size w w') (hg : g < w.heap.size)
    (h : w.cell? ⟨g, o, none⟩ = some x0 ∧ w.cell? ⟨g, o + 1, none⟩ = some x1 ∧ w.cell? ⟨g, o + 2, none⟩ = some x2 ∧ w.cell? ⟨g, o + 3, none⟩ = some x3) :
    w'.cell? ⟨g, o, none⟩ = some x0 ∧ w'.cell? ⟨g, o + 1, none⟩ = some x1 ∧ w'.cell? ⟨g, o + 2, none⟩ = some x2 ∧ w'.cell? ⟨g, o + 3, none⟩ = some x3 :=
  ⟨(hb.cell (p := ⟨g, o, none⟩) hg).trans h.1, (hb.cell (p := ⟨g, o + 1, none⟩) hg).trans h.2.1, (hb.cell (p := ⟨g, o + 2, none⟩) hg).trans h.2.2.1, (hb.cell (p := ⟨g, o + 3, none⟩) hg).trans h.2.2.2⟩
set_option maxHeartbeats 2000000 in
set_option maxRecDepth 100000 in
theorem eqtasks_any (w : World) (a a' : Option Addr) (n cap cap' : Nat) (P : List Tk) (hz : Sizes P) (h1 : TkRow w a n P) (h2 : TkRow w a' n P) :
    Calls Tryz.prog 26 #[.slice a n cap, .slice a' n cap'] w (BelB w true) := by
  have hn : (n : Int) ≤ 1048576 := by have := hz.1; rw [h1.1] at this; omega
  have HC : Hid (∀ wr : World, Below w.heap.size w wr → ∀ k, k < n → ∃ (g o g' o' : Nat) (t : Tk) (m : Nat) (b b' : Option Addr) (c c' : Nat), a = some ⟨g, o, none⟩ ∧ a' = some ⟨g', o', none⟩ ∧ g < wr.heap.size ∧ g' < wr.heap.size ∧
      wr.rangeAt g (o + k * 4) (tkC b m c t) ∧ wr.rangeAt g' (o' + k * 4) (tkC b' m c' t) ∧ (m : Int) ≤ 1048576 ∧ StRow wr b m t.b ∧ StRow wr b' m t.b) := by
    intro wr hb k hk
    obtain ⟨g, o, t, e1, l1, x1, b, m, c, k1, _, k3⟩ := (h1.below hb).2 k hk
    obtain ⟨g', o', t', e2, l2, x2, b', m', c', q1, _, q3⟩ := (h2.below hb).2 k hk
    obtain rfl : t = t' := by rw [x1] at x2; exact Option.some.inj x2
    obtain rfl : m = m' := by have := k3.1; have := q3.1; omega
    exact ⟨g, o, g', o', t, m, b, b', c, c', e1, e2, l1, l2, k1, q1, by have := hz.2 t (mem_at x1); rw [k3.1] at this; omega, k3, q3⟩
  clear h1 h2
  go_enter Tryz.func26, Tryz.ntmps26
  go_wp2
  go_loopw [5] (fun i wr => ∃ k : Nat, k ≤ n ∧ i = .int .i64 k ∧ Below w.heap.size w wr) (fun i _ => n - (intOf i).toNat)
  case atStart => exact ⟨0, Nat.zero_le _, rfl, Below.refl _ _⟩
  case round =>
    obtain ⟨k, hk, rfl, hbel⟩ := hrel
    by_cases hlt : k < n
    · obtain ⟨g, o, g', o', t, m, b, b', c, c', rfl, rfl, hgl, hgl', c1, c2, hm, s1, s2⟩ := HC.out wr hbel k hlt
      have hI : (k : Int) < n := by omega
      have HB := Lib.hid (And.intro hbel (And.intro s1 s2))
      have r0 : wr.drew.cell? ⟨g, o + k * 4, none⟩ = some (.slice b m c) ∧ wr.drew.cell? ⟨g, o + k * 4 + 1, none⟩ = some (.int .i64 t.o) ∧ wr.drew.cell? ⟨g, o + k * 4 + 2, none⟩ = some (.int .i64 t.x) ∧ wr.drew.cell? ⟨g, o + k * 4 + 3, none⟩ = some (.int .i64 t.y) := range4 c1
      have t0 : wr.drew.cell? ⟨g', o' + k * 4, none⟩ = some (.slice b' m c') ∧ wr.drew.cell? ⟨g', o' + k * 4 + 1, none⟩ = some (.int .i64 t.o) ∧ wr.drew.cell? ⟨g', o' + k * 4 + 2, none⟩ = some (.int .i64 t.x) ∧ wr.drew.cell? ⟨g', o' + k * 4 + 3, none⟩ = some (.int .i64 t.y) := range4 c2
      clear c1 c2 hbel s1 s2
      go_wp2
      go_region_held3 (fun w' => (w'.cell? ⟨g, o + k * 4, none⟩ = some (.slice b m c) ∧ w'.cell? ⟨g, o + k * 4 + 1, none⟩ = some (.int .i64 t.o) ∧ w'.cell? ⟨g, o + k * 4 + 2, none⟩ = some (.int .i64 t.x) ∧ w'.cell? ⟨g, o + k * 4 + 3, none⟩ = some (.int .i64 t.y)) ∧ (w'.cell? ⟨g', o' + k * 4, none⟩ = some (.slice b' m c') ∧ w'.cell? ⟨g', o' + k * 4 + 1, none⟩ = some (.int .i64 t.o) ∧ w'.cell? ⟨g', o' + k * 4 + 2, none⟩ = some (.int .i64 t.x) ∧ w'.cell? ⟨g', o' + k * 4 + 3, none⟩ = some (.int .i64 t.y)))
        (first | (exact ⟨r0, t0⟩) | (exact ⟨held4o (drew_below hb2) hgl r0, held4o (drew_below hb2) hgl' t0⟩))
        (first
          | (go_at_call 56; refine (eqtask_any t b b' m c c' _ hm (HB.out.2.1.below (Below.drew (Below.refl _ wr))) (HB.out.2.2.below (Below.drew (Below.refl _ wr)))).mono ?_; rintro e w2 ⟨rfl, hb2⟩))
      all_goals
        have hb3 := Lib.hid (HB.out.1.trans ((drew_below hb2).mono HB.out.1.size))
        clear hb2 r0 t0
        go_wp2
        go_roundw
        case rel => exact ⟨k + 1, by omega, by go_num, hb3.out⟩
        case measure => simp [intOf]; omega
    · have hI : ¬ (k : Int) < n := by omega
      have HB := Lib.hid hbel
      clear hbel
      go_wp2
      go_ret
      exact ⟨rfl, HB.out⟩
set_option maxHeartbeats 1000000 in
set_option maxRecDepth 100000 in
theorem eqprogram_any (w : World) (a a' : Option Addr) (n cap cap' : Nat) (P : List Tk) (hz : Sizes P) (h1 : TkRow w a n P) (h2 : TkRow w a' n P) :
    Calls Tryz.prog 10 #[.agg #[.slice a n cap], .agg #[.slice a' n cap']] w (BelB w true) := by
  have HZ := Lib.hid hz
  have H1 := Lib.hid (And.intro h1 h2)
  clear hz h1 h2
  go_enter Tryz.func10, Tryz.ntmps10
  go_wp2_with (go_at_call 26; refine (eqtasks_any _ a a' n cap cap' P HZ.out (H1.out.1.below ((below_new w _).alloc (by simp) _)) (H1.out.2.below ((below_new w _).alloc (by simp) _))).mono ?_; rintro e w2 ⟨rfl, hb2⟩)
  go_ret
  exact ⟨rfl, ((below_new w _).alloc (by simp) _).trans (hb2.mono (by simp; omega))⟩
end Go.Proofs.YtlicadaecfgklaaGreat.prg
