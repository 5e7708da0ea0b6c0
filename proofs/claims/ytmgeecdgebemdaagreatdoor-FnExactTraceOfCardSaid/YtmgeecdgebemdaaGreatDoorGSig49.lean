/- Several texts in one: MarkW MarkI OpenB OpenP. -/
import Derived.Test.YtmgeecdgebemdaaGreatDoorGSig48
import Derived.Test.YtmgeecdgebemdaaGreatDoorGSig24
import Derived.Test.YtmgeecdgebemdaaGreatDoorGSig4
import Derived.Deep.Slices
import Derived.Test.YtmgeecdgebemdaaGreatDoorGSig5

/- The law's marks in a program of its own, of any size: which blocks are written, and that the number is no less than nothing. -/
namespace Go.Proofs.YtmgeecdgebemdaaGreatDoor.mrk
open Go Go.ChangeShapes Go.WideShapes Go.ChangeAt Go.RowKit Go.Proofs.YtmgeecdgebemdaaGreatDoor.row Go.Proofs.YtmgeecdgebemdaaGreatDoor.stm Go.Proofs.YtmgeecdgebemdaaGreatDoor.prg

/-- A list of tasks in blocks from 'lo' to 'hi', each known whole: its sizes alone. -/
def MkX (lo hi : Nat) (w : World) (g n : Nat) (L : List Nat) : Prop :=
  L.length = n ∧ lo ≤ g ∧ ∃ cs : Array Value, Box g cs 96 w ∧ cs.size = n * 4 ∧ ∀ j, j < n → ∃ (m b c : Nat) (csb : Array Value), L[j]? = some m ∧ cs[j * 4]? = some (.slice (some ⟨b, 0, none⟩) m c) ∧ lo ≤ b ∧ b ≠ g ∧ b < hi ∧ Box b csb 112 w ∧ m * 6 ≤ csb.size
theorem box_one {g : Nat} {cs cs' : Array Value} {t t' : TypeId} {w : World} (h : Box g cs t w) (h' : Box g cs' t' w) : cs = cs' := by
  unfold Box at h h'
  rw [h] at h'
  injection h' with h'
  injection h'
theorem MkX.below {lo hi g n : Nat} {w w' : World} {L : List Nat} (h : MkX lo hi w g n L) (hb : Below w.heap.size w w') : MkX lo hi w' g n L := by
  obtain ⟨h1, h2, cs, h3, h4, h5⟩ := h
  refine ⟨h1, h2, cs, h3.below hb, h4, fun j hj => ?_⟩
  obtain ⟨m, b, c, csb, q1, q2, q3, q4, q5, q6, q7⟩ := h5 j hj
  exact ⟨m, b, c, csb, q1, q2, q3, q4, q5, q6.below hb, q7⟩
theorem MkX.body {lo hi g n b : Nat} {w w' : World} {L : List Nat} (h : MkX lo hi w g n L) (hg : w.grownBy w' (some b)) (hne : b ≠ g) {csb csb' : Array Value} (h0 : Box b csb 112 w) (h1 : Box b csb' 112 w') (hs : csb'.size = csb.size) : MkX lo hi w' g n L := by
  obtain ⟨q1, q2, cs, q3, q4, q5⟩ := h
  refine ⟨q1, q2, cs, q3.grown hg (fun e => hne (Option.some.inj e).symm), q4, fun j hj => ?_⟩
  obtain ⟨m, b', c, cb', p1, p2, p3, p4, p5, p6, p7⟩ := q5 j hj
  by_cases e : b' = b
  · subst e
    have e2 := box_one p6 h0
    exact ⟨m, b', c, csb', p1, p2, p3, p4, p5, h1, by rw [hs, ← e2]; exact p7⟩
  · exact ⟨m, b', c, cb', p1, p2, p3, p4, p5, p6.grown hg (fun e9 => e (Option.some.inj e9)), p7⟩
theorem MkX.step {lo hi g n m : Nat} {w w' : World} {L : List Nat} {cs : Array Value} {x y z : Value} (h : MkX lo hi w g n L) (h0 : Box g cs 96 w) (hg : w.grownBy w' (some g)) (hb : Box g (setAll cs (m * 4 + 1) [x, y, z]) 96 w') : MkX lo hi w' g n L := by
  obtain ⟨q1, q2, cs', q3, q4, q5⟩ := h
  obtain rfl := box_one q3 h0
  refine ⟨q1, q2, _, hb, by rw [setAll_size]; exact q4, fun j hj => ?_⟩
  obtain ⟨k, b', c, cb', p1, p2, p3, p4, p5, p6, p7⟩ := q5 j hj
  exact ⟨k, b', c, cb', p1, by rw [setAll_out _ _ _ _ (by simp; omega)]; exact p2, p3, p4, p5, p6.grown hg (fun e9 => p4 (Option.some.inj e9)), p7⟩
theorem Far.below {lo hi : Nat} {w w' w'' : World} (h : Below lo w w' ∧ Far hi w w') (hb : Below w'.heap.size w' w'') (hlo : lo ≤ w'.heap.size) (hs : w.heap.size ≤ w'.heap.size) : Below lo w w'' ∧ Far hi w w'' :=
  ⟨h.1.trans (hb.mono hlo), fun b hb1 hb2 => (hb.block b (by omega)).trans (h.2 b hb1 hb2)⟩
/-- A copy of the law's own, its blocks in bounds. -/
theorem mk_of {lo n : Nat} {w : World} {a : Option Addr} {P : List Tk} (h : PrgX lo w a n P) : ∃ g, a = some ⟨g, 0, none⟩ ∧ g < w.heap.size ∧ MkX lo w.heap.size w g n (P.map fun t => t.b.length) := by
  obtain ⟨hl, g, cs, rfl, hlo, hb, hs, hP⟩ := h
  refine ⟨g, rfl, hb.lt, by simpa using hl, hlo, cs, hb, hs, fun j hj => ?_⟩
  obtain ⟨t, b, h1, h2, h3, h4⟩ := hP j hj
  exact ⟨t.b.length, b, t.b.length, _, by simp [h1], by have := h2 0 _ (by rfl); simpa using this, by omega, by omega, h4.lt, h4, by simp [stsC_len]⟩
/-- What the marks leave. -/
def MarkW (lo hi : Nat) (w : World) (g n : Nat) (L : List Nat) (k : Int) (e : Ending) (w' : World) : Prop :=
  ∃ r : Int, e = .returned (.int .i64 r) ∧ k ≤ r ∧ r ≤ k + n * 6291459 ∧ (Below lo w w' ∧ Far hi w w') ∧ w.heap.size ≤ w'.heap.size ∧ Hid (MkX lo hi w' g n L)
set_option maxHeartbeats 4000000 in
set_option maxRecDepth 100000 in
theorem marktasks_wide (lo hi : Nat) (w : World) (g n cap : Nat) (L : List Nat) (h : MkX lo hi w g n L) (hL : ∀ m ∈ L, m ≤ 1048576) (hlo : lo ≤ w.heap.size) (hgh : g < hi) (k : Int) (hk0 : 0 ≤ k) (hk1 : k ≤ 1000000000) (hn : n ≤ 1048576) :
    Calls Tryz.prog 68 #[.slice (some ⟨g, 0, none⟩) n cap, .int .i64 k] w (MarkW lo hi w g n L k) := by
  have HT := Lib.hid h
  have HLL := Lib.hid hL
  clear h hL
  go_enter Tryz.func68, Tryz.ntmps68
  go_wp2
  go_loopw [1, 5] (fun kk i wr => ∃ (m : Nat) (K : Int), m ≤ n ∧ i = .int .i64 m ∧ kk = .int .i64 K ∧ k ≤ K ∧ K ≤ k + m * 6291459 ∧ Hid ((Below lo w wr ∧ Far hi w wr) ∧ w.heap.size ≤ wr.heap.size ∧ MkX lo hi wr g n L)) (fun _ i _ => n - (intOf i).toNat)
  case atStart => exact ⟨0, k, Nat.zero_le _, rfl, rfl, Int.le_refl _, by simp, ⟨⟨rfl, rfl, rfl, Nat.le_refl _, fun _ _ => rfl⟩, fun _ _ _ => rfl⟩, Nat.le_refl _, HT.out⟩
  case round =>
    obtain ⟨m, K, hm, rfl, rfl, hKl, hKh, HI⟩ := hrel
    by_cases hlt : m < n
    · have hI : (m : Int) < n := by omega
      obtain ⟨_, hlg, cs', hbx, hcs, hrow⟩ := HI.out.2.2
      obtain ⟨nb, b, cb, csb, hLm, hc, hb1, hb2, hb3, hbb, hbs⟩ := hrow m hlt
      have hnb := HLL.out nb (List.mem_of_getElem? hLm)
      have hnbI : (nb : Int) ≤ 1048576 := by omega
      have hK0 : 0 ≤ K := by omega
      have hK1 : K ≤ 100000000000000 := by omega
      have c0 : wr.cell? ⟨g, m * 4, none⟩ = some (.slice (some ⟨b, 0, none⟩) nb cb) := by rw [hbx.cell]; exact hc
      have HA0 := Lib.hid (And.intro hbx (And.intro hbb (And.intro hb1 (And.intro hb2 hb3))))
      have HS0 := Lib.hid (And.intro hcs hbs)
      have HLG := Lib.hid hlg
      clear hbx hc hb1 hb2 hb3 hbb hbs hrow hLm hcs hlg
      go_wp2_with (go_at_call 129; (with_reducible refine (markstmts_any _ b nb cb csb 112 HA0.out.2.1 HS0.out.2 K hK0 (by omega) (by omega)).mono ?_); rintro e w2 ⟨rfl, hg2, csb', hbx2, hs2, _⟩; refine Hid.out ?_)
      have hx : Box g cs' 96 w2 := HA0.out.1.grown hg2 (fun e => HA0.out.2.2.2.1 (Option.some.inj e).symm)
      have H2 := Lib.hid (And.intro (HI.out.2.2.body hg2 HA0.out.2.2.2.1 HA0.out.2.1 hbx2 hs2) (And.intro (bf_grown HI.out.1 HI.out.2.1 hlo hg2 HA0.out.2.2.1 HA0.out.2.2.2.2) (Nat.le_trans HI.out.2.1 hg2.size)))
      have hz : cs'.size = n * 4 := HS0.out.1
      clear hg2 hbx2 hs2 c0
      obtain ⟨x1, c1⟩ : ∃ x, w2.cell? ⟨g, m * 4 + 1, none⟩ = some x := ⟨cs'[m * 4 + 1]'(by omega), by rw [hx.cell]; simp⟩
      obtain ⟨x2, c2⟩ : ∃ x, w2.cell? ⟨g, m * 4 + 1 + 1, none⟩ = some x := ⟨cs'[m * 4 + 1 + 1]'(by omega), by rw [hx.cell]; simp⟩
      obtain ⟨x3, c3⟩ : ∃ x, w2.cell? ⟨g, m * 4 + 1 + 2, none⟩ = some x := ⟨cs'[m * 4 + 1 + 2]'(by omega), by rw [hx.cell]; simp⟩
      have f1 : w2.frozen? ⟨g, m * 4 + 1, none⟩ = false := hx.frozen _
      have f2 : w2.frozen? ⟨g, m * 4 + 1 + 1, none⟩ = false := hx.frozen _
      have f3 : w2.frozen? ⟨g, m * 4 + 1 + 2, none⟩ = false := hx.frozen _
      have hgs : w2.grownBy (((w2.setCell ⟨g, m * 4 + 1, none⟩ (.int .i64 (K + 6 * (nb : Int)))).setCell ⟨g, m * 4 + 1 + 1, none⟩ (.int .i64 (K + 6 * (nb : Int) + 1))).setCell ⟨g, m * 4 + 1 + 2, none⟩ (.int .i64 (K + 6 * (nb : Int) + 1 + 1))) (some g) := grown_trans (grown_trans (grown_setCell _ g _ _) (grown_setCell _ g _ _)) (grown_setCell _ g _ _)
      have hbx3 : Box g (setAll cs' (m * 4 + 1) [.int .i64 (K + 6 * (nb : Int)), .int .i64 (K + 6 * (nb : Int) + 1), .int .i64 (K + 6 * (nb : Int) + 1 + 1)]) 96 (((w2.setCell ⟨g, m * 4 + 1, none⟩ (.int .i64 (K + 6 * (nb : Int)))).setCell ⟨g, m * 4 + 1 + 1, none⟩ (.int .i64 (K + 6 * (nb : Int) + 1))).setCell ⟨g, m * 4 + 1 + 2, none⟩ (.int .i64 (K + 6 * (nb : Int) + 1 + 1))) := ((hx.set (m * 4 + 1) _).set (m * 4 + 1 + 1) _).set (m * 4 + 1 + 2) _
      have H3 := Lib.hid (And.intro (H2.out.1.step hx hgs hbx3) (bf_grown H2.out.2.1 H2.out.2.2 hlo hgs HLG.out hgh))
      have HS := Lib.hid H2.out.2.2
      clear hx hgs hbx3 hz H2
      refine Lib.hid ?_
      go_wp2
      go_roundw
      case rel => exact ⟨m + 1, K + 6 * (nb : Int) + 1 + 1 + 1, by omega, by go_num, rfl, by omega, by push_cast; omega, H3.out.2, Nat.le_trans HS.out (by simp), H3.out.1⟩
      case measure => simp [intOf]; omega
    · obtain rfl : m = n := by omega
      have hI : ¬ (m : Int) < m := by omega
      go_wp2
      go_ret
      exact ⟨K, rfl, hKl, hKh, HI.out.1, HI.out.2.1, HI.out.2.2⟩
set_option maxHeartbeats 2000000 in
set_option maxRecDepth 100000 in
theorem markprogram_wide (lo hi : Nat) (w : World) (g n cap : Nat) (L : List Nat) (h : MkX lo hi w g n L) (hL : ∀ m ∈ L, m ≤ 1048576) (hlo : lo ≤ w.heap.size) (hgh : g < hi) (k : Int) (hk0 : 0 ≤ k) (hk1 : k ≤ 1000000000) (hn : n ≤ 1048576) :
    Calls Tryz.prog 24 #[.agg #[.slice (some ⟨g, 0, none⟩) n cap], .int .i64 k] w (MarkW lo hi w g n L k) := by
  have hb0 := below_new w (.cells #[.slice (some ⟨g, 0, none⟩) n cap] 26)
  have HH := Lib.hid (h.below hb0)
  have HB := Lib.hid hb0
  have HLO := Lib.hid (show lo ≤ (w.alloc (.cells #[.slice (some ⟨g, 0, none⟩) n cap] 26)).heap.size by simp; omega)
  clear h hb0
  go_enter Tryz.func24, Tryz.ntmps24
  go_wp2_with (go_at_call 68; (with_reducible refine (marktasks_wide lo hi _ g n cap L HH.out hL HLO.out hgh k hk0 hk1 hn).mono ?_); rintro e w2 ⟨r, rfl, hr1, hr2, hb2, hs2, hm2⟩; refine Hid.out ?_)
  have H2 := Lib.hid (And.intro (show Below lo w w2 from (HB.out.mono hlo).trans hb2.1) (And.intro (show Far hi w w2 from fun b hb hbw => (hb2.2 b hb (by simp; omega)).trans (HB.out.block b hbw)) (And.intro (show w.heap.size ≤ w2.heap.size from Nat.le_trans HB.out.size hs2) hm2)))
  clear hb2 hs2 hm2
  refine Lib.hid ?_
  go_wp2
  go_ret
  exact ⟨r, rfl, hr1, hr2, ⟨H2.out.1, H2.out.2.1⟩, H2.out.2.2.1, H2.out.2.2.2⟩
end Go.Proofs.YtmgeecdgebemdaaGreatDoor.mrk

/- The law's marks in a row of numbers, from any number on; what a program's marks leave as it was. -/
namespace Go.Proofs.YtmgeecdgebemdaaGreatDoor.mrk
open Go Go.ChangeShapes Go.WideShapes Go.ChangeAt Go.RowKit Go.Proofs.YtmgeecdgebemdaaGreatDoor.row Go.Proofs.YtmgeecdgebemdaaGreatDoor.stm Go.Proofs.YtmgeecdgebemdaaGreatDoor.prg

theorem own_far {w w' : World} {base sz n lo hi : Nat} {e : TypeId} {v : Value} {xs : List Value} (h : w.ownsRow base e sz v n xs) (hbf : Below lo w w' ∧ Far hi w w') (hv : ∀ q, v.ownBlock = some q → q < lo ∨ hi ≤ q) : w'.ownsRow base e sz v n xs := by
  refine ⟨h.1, ?_⟩
  rcases h.2 with hn | ⟨g, cap, cur, rfl, hb, hgg, rest⟩
  · exact .inl hn
  · refine .inr ⟨g, cap, cur, rfl, hb, ?_, rest⟩
    have hlt := (Array.getElem?_eq_some_iff.1 hgg).1
    rcases hv g rfl with h1 | h1
    · rw [hbf.1.block g h1]; exact hgg
    · rw [hbf.2 g h1 hlt]; exact hgg
theorem box_far {w w' : World} {g lo hi : Nat} {cs : Array Value} {t : TypeId} (h : Box g cs t w) (hbf : Below lo w w' ∧ Far hi w w') (hv : g < lo ∨ hi ≤ g) : Box g cs t w' := by
  unfold Box at h ⊢
  rcases hv with h1 | h1
  · rw [hbf.1.block g h1]; exact h
  · rw [hbf.2 g h1 (Array.getElem?_eq_some_iff.1 h).1]; exact h
set_option maxHeartbeats 1000000 in
theorem markInts_wide {ty : TypeId} (w : World) (base : Nat) (a : Option Addr) (n cap q : Nat) (L : List Int) (hn : (n : Int) ≤ 1048576) (hq1 : (q : Int) ≤ 1000000000000000)
    (h : w.ownsRow base ty 1 (.slice a n cap) n (ivs L)) :
    Calls Tryz.prog 25 #[.slice a n cap, .int .i64 q] w fun e w' => e = .returned (.int .i64 ((q + n : Nat) : Int)) ∧ w.grownBy w' (Value.slice a n cap).ownBlock ∧ ∃ L', w'.ownsRow base ty 1 (.slice a n cap) n (ivs L') ∧ Marked L' q n := by
  go_enter Tryz.func25, Tryz.ntmps25
  go_wp2
  go_loopw [1, 5] (fun r i wr => ∃ (k p : Nat) (L' : List Int), k ≤ n ∧ i = .int .i64 k ∧ r = .int .i64 p ∧ Hid (p = q + k) ∧ (p : Int) ≤ 1000000002097152 ∧ w.grownBy wr (Value.slice a n cap).ownBlock ∧ wr.ownsRow base ty 1 (.slice a n cap) n (ivs L') ∧ Hid (Marked L' q k)) (fun _ i _ => n - (intOf i).toNat)
  case atStart => exact ⟨0, q, L, Nat.zero_le _, rfl, rfl, rfl, by omega, grown_refl _ _, h, fun i hi => by omega⟩
  case round =>
    obtain ⟨k, p, L', hk, rfl, rfl, hp, hp1, hg, hown, hM⟩ := hrel
    by_cases hlt : k < n
    · obtain ⟨g, X, rfl, hbg, hgs, hcell, hfz⟩ := own_store hown hlt
      have hI : (k : Int) < n := by omega
      have hll := own_len hown
      obtain ⟨hown2, hgrow2⟩ := hown.stored k (.int .i64 (p : Int))
      rw [ivs_set] at hown2
      have hg2 : w.grownBy (wr.setCell ⟨g, k, none⟩ (.int .i64 p)) (some g) := grown_trans hg hgrow2
      have HM2 : Hid (Marked (L'.set k p) q (k + 1)) := by rw [hp.out]; exact marked_set hM.out (by omega)
      have HP2 := Lib.hid (show p + 1 = q + (k + 1) by have := hp.out; omega)
      have hp3 : ((p + 1 : Nat) : Int) ≤ 1000000002097152 := by have := hp.out; omega
      have HO2 := Lib.hid hown2
      have HG2 := Lib.hid hg2
      clear hown2 hown hgrow2 hg2 hg hll
      go_wp2
      go_roundw
      case rel => exact ⟨k + 1, p + 1, _, by omega, by go_num, by go_num, HP2, hp3, HG2.out, HO2.out, HM2⟩
      case measure => simp [intOf]; omega
    · have hkn : k = n := by omega
      subst hkn
      obtain rfl : p = q + k := hp.out
      clear hp
      have HH := Lib.hid hown
      have HG := Lib.hid hg
      clear hown hg
      go_wp2
      go_ret
      exact ⟨ret_i (by omega), HG.out, L', HH.out, hM.out⟩
end Go.Proofs.YtmgeecdgebemdaaGreatDoor.mrk

/- What a law's argument is made of: a slice of statements reads as a list of statements. -/
namespace Go.Proofs.YtmgeecdgebemdaaGreatDoor.opn
open Go.ChangeShapes Go.WideShapes Go.ChangeAt Go.RowKit Go.Joins Go.Deep Go.Proofs.YtmgeecdgebemdaaGreatDoor.stm

/-- A row of statements that came in. -/
def IsStmts (w : World) (v : Value) : Prop := ∃ (a : Option Addr) (len cap : Nat) (L : List St), v = .slice a len cap ∧ len ≤ maxLen ∧ StRow w a len L
theorem list_of {P : Nat → St → Prop} : ∀ n, (∀ i, i < n → ∃ s, P i s) → ∃ L : List St, L.length = n ∧ ∀ i s, L[i]? = some s → P i s
  | 0, _ => ⟨[], rfl, fun i s h => by simp at h⟩
  | n + 1, h => by
    obtain ⟨L, hl, hL⟩ := list_of n (fun i hi => h i (by omega))
    obtain ⟨s, hs⟩ := h n (by omega)
    refine ⟨L ++ [s], by simp [hl], fun i t ht => ?_⟩
    by_cases hi : i < L.length
    · rw [List.getElem?_append_left hi] at ht; exact hL i t ht
    · have hil := (List.getElem?_eq_some_iff.1 ht).1
      simp at hil
      obtain rfl : i = n := by omega
      rw [List.getElem?_append_right (by omega), hl, Nat.sub_self] at ht
      simp at ht; subst ht; exact hs
set_option maxRecDepth 100000 in
theorem open_Stmts {H : Type} {enc : TypeId × Value → H} {w : World} {base : Nat} {spare : Nat → Bool} {held : Bool} {r : Reach} {b0 : Nat} {v : Value} {d : DataW H} {p : List MemPlace}
    (hv : Value.okWide Tryz.prog w r b0 149 v) (h : DataW.Trod enc Tryz.prog w base spare held 149 v d p) : IsStmts w v := by
  obtain ⟨a, len, cap, rfl⟩ := okWide_slice Tryz.underlying149 hv
  obtain ⟨fuel, hf⟩ := h
  have hI : Tryz.prog.cellsOf 3 = 1 := by kernel_rfl
  have hE : Tryz.prog.cellsOf 150 = 3 := by kernel_rfl
  have hS : Tryz.prog.cellsOf 222 = 6 := by kernel_rfl
  rcases open_slice Tryz.underlying149 hf with ⟨hcs, _⟩ | ⟨x, l, c, m, n, D, Pl, hcs, _, hl, hm, hmm, _, hx⟩
  · simp [Value.cells] at hcs
    obtain ⟨rfl, rfl, rfl⟩ := hcs
    exact ⟨none, 0, 0, [], rfl, Nat.zero_le _, StRow.nil _ _⟩
  · simp [Value.cells] at hcs
    obtain ⟨rfl, rfl, rfl⟩ := hcs
    have hlm : len ≤ m := by rw [hmm]; split <;> omega
    have each : ∀ i, i < len → ∃ s : St, ∀ j t, (stC s)[j]? = some t → w.cell? (x.add (i * 6 + j)) = some t := by
      intro i hi
      obtain ⟨cs, h1, h2⟩ := hx i (by omega)
      rw [hS] at h1
      obtain ⟨_, hlen, hcell⟩ := World.cells?_some h1
      match cs, hlen, h2, hcell with
      | [c0, c1, c2, c3, c4, c5], _, h2, hcell =>
        obtain ⟨y0, y1, y2, y3, m2, _, _, h0, h1', h2', h3⟩ := trod_struct4 Tryz.underlying222 h2
        simp [hI, hE] at h0 h1' h2' h3
        obtain ⟨z0, z1, z2, m3, _, _, h4, h5, h6⟩ := trod_struct3 Tryz.underlying150 h3
        simp [hI] at h4 h5 h6
        obtain ⟨k, e0, _, _⟩ := DataW.trod_int Tryz.underlying3 h0
        obtain ⟨v, e1, _, _⟩ := DataW.trod_int Tryz.underlying3 h1'
        obtain ⟨n', e2, _, _⟩ := DataW.trod_int Tryz.underlying3 h2'
        obtain ⟨o, e3, _, _⟩ := DataW.trod_int Tryz.underlying3 h4
        obtain ⟨a', e4, _, _⟩ := DataW.trod_int Tryz.underlying3 h5
        obtain ⟨b', e5, _, _⟩ := DataW.trod_int Tryz.underlying3 h6
        simp at e0 e1 e2 e3 e4 e5
        subst e0 e1 e2 e3 e4 e5
        refine ⟨⟨k, v, n', o, a', b'⟩, fun j t ht => ?_⟩
        have hj : j < 6 := by have := (List.getElem?_eq_some_iff.1 ht).1; simpa [stC] using this
        have := hcell j hj
        rw [add_add] at this
        rw [this]; exact ht
    obtain ⟨L, hL, hLs⟩ := list_of (P := fun i s => ∀ j t, (stC s)[j]? = some t → w.cell? (x.add (i * 6 + j)) = some t) len each
    refine ⟨some x, len, cap, L, rfl, by omega, hL, fun k hk => ?_⟩
    have hkL : k < L.length := by omega
    have h0L : 0 < L.length := by omega
    have hs : L[k]? = some L[k] := by simp [hkL]
    have hc := hLs k _ hs
    have hc00 := hLs 0 L[0] (by simp) 0 _ rfl
    obtain ⟨b, off, spot⟩ := x
    have hspot : spot = none := by simpa [Addr.add] using World.cell?_spot hc00
    subst hspot
    refine ⟨b, off, L[k], rfl, ?_, hs, fun j t ht => ?_⟩
    · have h0 := hc 0 _ rfl
      rw [Go.WideShapes.add_plain] at h0
      exact World.block_lt_of_cell? w _ h0
    · have h0 := hc j t ht
      rw [Go.WideShapes.add_plain, ← Nat.add_assoc] at h0
      exact h0
end Go.Proofs.YtmgeecdgebemdaaGreatDoor.opn

/- What a law's argument is made of: a program is a slice of tasks, each with a slice of statements. -/
namespace Go.Proofs.YtmgeecdgebemdaaGreatDoor.opn
open Go.ChangeShapes Go.WideShapes Go.ChangeAt Go.RowKit Go.Joins Go.Deep Go.Proofs.YtmgeecdgebemdaaGreatDoor.stm Go.Proofs.YtmgeecdgebemdaaGreatDoor.prg

theorem list_ofG {α : Type} {P : Nat → α → Prop} : ∀ n, (∀ i, i < n → ∃ s, P i s) → ∃ L : List α, L.length = n ∧ ∀ i s, L[i]? = some s → P i s
  | 0, _ => ⟨[], rfl, fun i s h => by simp at h⟩
  | n + 1, h => by
    obtain ⟨L, hl, hL⟩ := list_ofG n (fun i hi => h i (by omega))
    obtain ⟨s, hs⟩ := h n (by omega)
    refine ⟨L ++ [s], by simp [hl], fun i t ht => ?_⟩
    by_cases hi : i < L.length
    · rw [List.getElem?_append_left hi] at ht; exact hL i t ht
    · have hil := (List.getElem?_eq_some_iff.1 ht).1
      simp at hil
      obtain rfl : i = n := by omega
      rw [List.getElem?_append_right (by omega), hl, Nat.sub_self] at ht
      simp at ht; subst ht; exact hs
set_option maxRecDepth 100000 in
/-- One cell that reads as a slice of statements. -/
theorem stmts_trod {H : Type} {enc : TypeId × Value → H} {w : World} {base : Nat} {spare : Nat → Bool} {held : Bool} {fuel : Nat} {c : Value} {x : DataW H × List MemPlace}
    (hf : DataW.trod enc Tryz.prog w base spare held fuel 149 [c] = some x) : ∃ (a : Option Addr) (len cap : Nat) (L : List St), c = .slice a len cap ∧ len ≤ cap ∧ len ≤ maxLen ∧ StRow w a len L := by
  have hI : Tryz.prog.cellsOf 3 = 1 := by kernel_rfl
  have hE : Tryz.prog.cellsOf 150 = 3 := by kernel_rfl
  have hS : Tryz.prog.cellsOf 222 = 6 := by kernel_rfl
  rcases open_slice Tryz.underlying149 hf with ⟨hcs, _⟩ | ⟨x, l, c', m, n, D, Pl, hcs, _, hl, hm, hmm, _, hx⟩
  · simp at hcs
    subst hcs
    exact ⟨none, 0, 0, [], rfl, Nat.le_refl _, Nat.zero_le _, StRow.nil _ _⟩
  · simp at hcs
    subst hcs
    have hlm : l ≤ m := by rw [hmm]; split <;> omega
    have each : ∀ i, i < l → ∃ s : St, ∀ j t, (stC s)[j]? = some t → w.cell? (x.add (i * 6 + j)) = some t := by
      intro i hi
      obtain ⟨cs, h1, h2⟩ := hx i (by omega)
      rw [hS] at h1
      obtain ⟨_, hlen, hcell⟩ := World.cells?_some h1
      match cs, hlen, h2, hcell with
      | [c0, c1, c2, c3, c4, c5], _, h2, hcell =>
        obtain ⟨y0, y1, y2, y3, m2, _, _, h0, h1', h2', h3⟩ := trod_struct4 Tryz.underlying222 h2
        simp [hI, hE] at h0 h1' h2' h3
        obtain ⟨z0, z1, z2, m3, _, _, h4, h5, h6⟩ := trod_struct3 Tryz.underlying150 h3
        simp [hI] at h4 h5 h6
        obtain ⟨k, e0, _, _⟩ := DataW.trod_int Tryz.underlying3 h0
        obtain ⟨v, e1, _, _⟩ := DataW.trod_int Tryz.underlying3 h1'
        obtain ⟨n', e2, _, _⟩ := DataW.trod_int Tryz.underlying3 h2'
        obtain ⟨o, e3, _, _⟩ := DataW.trod_int Tryz.underlying3 h4
        obtain ⟨a', e4, _, _⟩ := DataW.trod_int Tryz.underlying3 h5
        obtain ⟨b', e5, _, _⟩ := DataW.trod_int Tryz.underlying3 h6
        simp at e0 e1 e2 e3 e4 e5
        subst e0 e1 e2 e3 e4 e5
        refine ⟨⟨k, v, n', o, a', b'⟩, fun j t ht => ?_⟩
        have hj : j < 6 := by have := (List.getElem?_eq_some_iff.1 ht).1; simpa [stC] using this
        have := hcell j hj
        rw [add_add] at this
        rw [this]; exact ht
    obtain ⟨L, hL, hLs⟩ := list_ofG (P := fun i s => ∀ j t, (stC s)[j]? = some t → w.cell? (x.add (i * 6 + j)) = some t) l each
    refine ⟨some x, l, c', L, rfl, hl, by omega, hL, fun k hk => ?_⟩
    have hkL : k < L.length := by omega
    have h0L : 0 < L.length := by omega
    have hs : L[k]? = some L[k] := by simp [hkL]
    have hc := hLs k _ hs
    have hc00 := hLs 0 L[0] (by simp) 0 _ rfl
    obtain ⟨b, off, spot⟩ := x
    have hspot : spot = none := by simpa [Addr.add] using World.cell?_spot hc00
    subst hspot
    refine ⟨b, off, L[k], rfl, ?_, hs, fun j t ht => ?_⟩
    · have h0 := hc 0 _ rfl
      rw [Go.WideShapes.add_plain] at h0
      exact World.block_lt_of_cell? w _ h0
    · have h0 := hc j t ht
      rw [Go.WideShapes.add_plain, ← Nat.add_assoc] at h0
      exact h0
set_option maxRecDepth 100000 in
/-- One cell that reads as a slice of tasks. -/
theorem tasks_trod {H : Type} {enc : TypeId × Value → H} {w : World} {base : Nat} {spare : Nat → Bool} {held : Bool} {fuel : Nat} {c : Value} {x : DataW H × List MemPlace}
    (hf : DataW.trod enc Tryz.prog w base spare held fuel 38 [c] = some x) : ∃ (a : Option Addr) (len cap : Nat) (P : List Tk), c = .slice a len cap ∧ len ≤ cap ∧ len ≤ maxLen ∧ (∀ t ∈ P, t.b.length ≤ maxLen) ∧ TkRow w a len P := by
  have hI : Tryz.prog.cellsOf 3 = 1 := by kernel_rfl
  have hE : Tryz.prog.cellsOf 150 = 3 := by kernel_rfl
  have hL : Tryz.prog.cellsOf 149 = 1 := by kernel_rfl
  have hT : Tryz.prog.cellsOf 152 = 4 := by kernel_rfl
  rcases open_slice Tryz.underlying38 hf with ⟨hcs, _⟩ | ⟨x, l, c', m, n, D, Pl, hcs, _, hl, hm, hmm, _, hx⟩
  · simp at hcs
    subst hcs
    exact ⟨none, 0, 0, [], rfl, Nat.le_refl _, Nat.zero_le _, fun t ht => (by cases ht), TkRow.nil _ _⟩
  · simp at hcs
    subst hcs
    have hlm : l ≤ m := by rw [hmm]; split <;> omega
    have each : ∀ i, i < l → ∃ t : Tk, ∃ (ab : Option Addr) (nb cb : Nat), (∀ j v, (tkC ab nb cb t)[j]? = some v → w.cell? (x.add (i * 4 + j)) = some v) ∧ nb ≤ cb ∧ nb ≤ maxLen ∧ StRow w ab nb t.b := by
      intro i hi
      obtain ⟨cs, h1, h2⟩ := hx i (by omega)
      rw [hT] at h1
      obtain ⟨_, hlen, hcell⟩ := World.cells?_some h1
      match cs, hlen, h2, hcell with
      | [c0, c1, c2, c3], _, h2, hcell =>
        obtain ⟨y0, y1, m2, _, _, h0, h3⟩ := trod_struct2 Tryz.underlying152 h2
        simp [hL, hE] at h0 h3
        obtain ⟨z0, z1, z2, m3, _, _, h4, h5, h6⟩ := trod_struct3 Tryz.underlying150 h3
        simp [hI] at h4 h5 h6
        obtain ⟨ab, nb, cb, B, e0, hbc, hbm, hB⟩ := stmts_trod h0
        obtain ⟨o, e3, _, _⟩ := DataW.trod_int Tryz.underlying3 h4
        obtain ⟨a', e4, _, _⟩ := DataW.trod_int Tryz.underlying3 h5
        obtain ⟨b', e5, _, _⟩ := DataW.trod_int Tryz.underlying3 h6
        simp at e3 e4 e5
        subst e0 e3 e4 e5
        refine ⟨⟨B, o, a', b'⟩, ab, nb, cb, fun j t ht => ?_, hbc, hbm, hB⟩
        have hj : j < 4 := by have := (List.getElem?_eq_some_iff.1 ht).1; simpa [tkC] using this
        have := hcell j hj
        rw [add_add] at this
        rw [this]; exact ht
    obtain ⟨L, hL, hLs⟩ := list_ofG (P := fun i t => ∃ (ab : Option Addr) (nb cb : Nat), (∀ j v, (tkC ab nb cb t)[j]? = some v → w.cell? (x.add (i * 4 + j)) = some v) ∧ nb ≤ cb ∧ nb ≤ maxLen ∧ StRow w ab nb t.b) l each
    refine ⟨some x, l, c', L, rfl, hl, by omega, fun t ht => ?_, hL, fun k hk => ?_⟩
    · obtain ⟨j, hj⟩ := List.mem_iff_getElem?.1 ht
      obtain ⟨_, nb, _, _, _, hnb, hB⟩ := hLs j t hj
      rw [hB.1]; exact hnb
    have hkL : k < L.length := by omega
    have h0L : 0 < L.length := by omega
    have hs : L[k]? = some L[k] := by simp [hkL]
    obtain ⟨ab, nb, cb, hc, hbc, _, hB⟩ := hLs k _ hs
    obtain ⟨ab0, nb0, cb0, hc0, _⟩ := hLs 0 L[0] (by simp)
    have hc00 := hc0 0 _ rfl
    obtain ⟨b, off, spot⟩ := x
    have hspot : spot = none := by simpa [Addr.add] using World.cell?_spot hc00
    subst hspot
    refine ⟨b, off, L[k], rfl, ?_, hs, ab, nb, cb, fun j t ht => ?_, hbc, hB⟩
    · have h0 := hc 0 _ rfl
      rw [Go.WideShapes.add_plain] at h0
      exact World.block_lt_of_cell? w _ h0
    · have h0 := hc j t ht
      rw [Go.WideShapes.add_plain, ← Nat.add_assoc] at h0
      exact h0
/-- A task that came in. -/
def IsTaskV (w : World) (v : Value) : Prop := ∃ (ab : Option Addr) (nb cb : Nat) (t : Tk), v = tkV ab nb cb t ∧ nb ≤ maxLen ∧ StRow w ab nb t.b
set_option maxRecDepth 100000 in
theorem open_Task {H : Type} {enc : TypeId × Value → H} {w : World} {base : Nat} {spare : Nat → Bool} {held : Bool} {r : Reach} {b0 : Nat} {v : Value} {d : DataW H} {p : List MemPlace}
    (hv : Value.okWide Tryz.prog w r b0 152 v) (h : DataW.Trod enc Tryz.prog w base spare held 152 v d p) : IsTaskV w v := by
  obtain ⟨⟨cs⟩, rfl, hsz⟩ := okWide_struct Tryz.underlying152 hv
  obtain ⟨fuel, hf⟩ := h
  have hI : Tryz.prog.cellsOf 3 = 1 := by kernel_rfl
  have hE : Tryz.prog.cellsOf 150 = 3 := by kernel_rfl
  have hL : Tryz.prog.cellsOf 149 = 1 := by kernel_rfl
  have hC : Tryz.prog.cellsOf 152 = 4 := by kernel_rfl
  rw [hC] at hsz
  match cs, hsz, hf with
  | [c0, c1, c2, c3], _, hf =>
    obtain ⟨y0, y1, m2, _, _, h0, h3⟩ := trod_struct2 Tryz.underlying152 hf
    simp [Value.cells, hL, hE] at h0 h3
    obtain ⟨z0, z1, z2, m3, _, _, h4, h5, h6⟩ := trod_struct3 Tryz.underlying150 h3
    simp [hI] at h4 h5 h6
    obtain ⟨ab, nb, cb, B, e0, _, hbm, hB⟩ := stmts_trod h0
    obtain ⟨o, e3, _, _⟩ := DataW.trod_int Tryz.underlying3 h4
    obtain ⟨a', e4, _, _⟩ := DataW.trod_int Tryz.underlying3 h5
    obtain ⟨b', e5, _, _⟩ := DataW.trod_int Tryz.underlying3 h6
    simp at e3 e4 e5
    subst e0 e3 e4 e5
    exact ⟨ab, nb, cb, ⟨B, o, a', b'⟩, rfl, hbm, hB⟩
/-- A program that came in. -/
def IsPrgV (w : World) (v : Value) : Prop := ∃ (a : Option Addr) (len cap : Nat) (P : List Tk), v = .agg #[.slice a len cap] ∧ len ≤ maxLen ∧ (∀ t ∈ P, t.b.length ≤ maxLen) ∧ TkRow w a len P
set_option maxRecDepth 100000 in
theorem open_Program {H : Type} {enc : TypeId × Value → H} {w : World} {base : Nat} {spare : Nat → Bool} {held : Bool} {r : Reach} {b0 : Nat} {v : Value} {d : DataW H} {p : List MemPlace}
    (hv : Value.okWide Tryz.prog w r b0 40 v) (h : DataW.Trod enc Tryz.prog w base spare held 40 v d p) : IsPrgV w v := by
  obtain ⟨⟨cs⟩, rfl, hsz⟩ := okWide_struct Tryz.underlying40 hv
  obtain ⟨fuel, hf⟩ := h
  have hC : Tryz.prog.cellsOf 40 = 1 := by kernel_rfl
  have hT : Tryz.prog.cellsOf 38 = 1 := by kernel_rfl
  rw [hC] at hsz
  match cs, hsz, hf with
  | [c0], _, hf =>
    obtain ⟨y0, m, _, _, h0⟩ := trod_struct1 Tryz.underlying40 hf
    simp [Value.cells, hT] at h0
    obtain ⟨a, len, cap, P, rfl, _, h1, h2, h3⟩ := tasks_trod h0
    exact ⟨a, len, cap, P, rfl, h1, h2, h3⟩
end Go.Proofs.YtmgeecdgebemdaaGreatDoor.opn
