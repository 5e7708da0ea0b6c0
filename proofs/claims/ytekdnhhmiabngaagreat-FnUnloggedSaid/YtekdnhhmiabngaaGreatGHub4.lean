/- Several texts in one: MarkQ TkB TkC. -/
import Derived.Test.YtekdnhhmiabngaaGreatGHub3

/- The law's marks in a list of tasks and in a program of the answer's own, and its look at them. -/
namespace Go.Proofs.YtekdnhhmiabngaaGreat.mrk
open Go Go.ChangeShapes Go.WideShapes Go.ChangeAt Go.RowKit Go.Proofs.YtekdnhhmiabngaaGreat.row Go.Proofs.YtekdnhhmiabngaaGreat.stm Go.Proofs.YtekdnhhmiabngaaGreat.prg

section
variable {lo g n m : Nat} {w w' : World} {cs : Array Value} {t ts : TypeId} {gb nb : Nat → Nat} {k : Int}
theorem Tks.body_step (h : Tks lo w g n cs t ts gb nb) (hm : m < n) (h0 : nb m ≠ 0) (hg : w.grownBy w' (some (gb m))) {csb : Array Value} (hb : Box (gb m) csb ts w') (hs : nb m * 6 ≤ csb.size) : Tks lo w' g n cs t ts gb nb where
  box := by
    rcases h.body m hm with h1 | h1
    · exact absurd h1 h0
    · exact h.box.grown hg (fun e => h1.2.1 (Option.some.inj e).symm)
  big := h.big
  low := h.low
  row := h.row
  small := h.small
  body := fun j hj => by
    rcases h.body j hj with h1 | ⟨h1, h2, csj, h3, h4⟩
    · exact .inl h1
    · by_cases e : j = m
      · subst e; exact .inr ⟨h1, h2, csb, hb, hs⟩
      · rcases h.apart j m hj hm e with h5 | h5 | h5
        · exact .inl h5
        · exact absurd h5 h0
        · exact .inr ⟨h1, h2, csj, h3.grown hg (fun e => h5 (Option.some.inj e)), h4⟩
  apart := h.apart
theorem Tks.row_step (h : Tks lo w g n cs t ts gb nb) (hg : w.grownBy w' (some g)) {a b c : Value} (hb : Box g (setAll cs (m * 4 + 1) [a, b, c]) t w') : Tks lo w' g n (setAll cs (m * 4 + 1) [a, b, c]) t ts gb nb where
  box := hb
  big := by rw [setAll_size]; exact h.big
  low := h.low
  row := fun j hj => by
    obtain ⟨ab, cb, h1, h2⟩ := h.row j hj
    refine ⟨ab, cb, ?_, h2⟩
    rw [setAll_out _ _ _ _ (by simp; omega)]; exact h1
  small := h.small
  body := fun j hj => by
    rcases h.body j hj with h1 | ⟨h1, h2, csj, h3, h4⟩
    · exact .inl h1
    · exact .inr ⟨h1, h2, csj, h3.grown hg (fun e => h2 (Option.some.inj e)), h4⟩
  apart := h.apart
theorem Mks.zero : Mks w cs ts gb nb k 0 := fun i h => by omega
theorem Mks.body_step (h : Mks w cs ts gb nb k m) (hT : Tks lo w g n cs t ts gb nb) (hm : m < n) (h0 : nb m ≠ 0) (hg : w.grownBy w' (some (gb m))) : Mks w' cs ts gb nb k m := fun i hi => by
  obtain ⟨h1, h2⟩ := h i hi
  refine ⟨?_, h2⟩
  rcases h1 with h1 | ⟨csb, h3, h4⟩
  · exact .inl h1
  · rcases hT.apart i m (by omega) hm (by omega) with h5 | h5 | h5
    · exact .inl h5
    · exact absurd h5 h0
    · exact .inr ⟨csb, h3.grown hg (fun e => h5 (Option.some.inj e)), h4⟩
theorem Mks.next (h : Mks w cs ts gb nb k m) (hT : Tks lo w g n cs t ts gb nb) (hm : m < n) (hnow : nb m = 0 ∨ ∃ csb, Box (gb m) csb ts w ∧ Nums csb (st nb k m) (nb m * 6)) (hg : w.grownBy w' (some g)) :
    Mks w' (setAll cs (m * 4 + 1) [.int .i64 (st nb k m + 6 * nb m), .int .i64 (st nb k m + 6 * nb m + 1), .int .i64 (st nb k m + 6 * nb m + 1 + 1)]) ts gb nb k (m + 1) := fun i hi => by
  have hbig := hT.big
  have hne : ∀ i, i < n → nb i = 0 ∨ gb i ≠ g := fun i hi => by
    rcases hT.body i hi with h1 | h1
    · exact .inl h1
    · exact .inr h1.2.1
  by_cases e : i = m
  · subst e
    refine ⟨?_, ?_, ?_, ?_⟩
    · rcases hnow with h1 | ⟨csb, h1, h2⟩
      · exact .inl h1
      · rcases hne i hm with h3 | h3
        · exact .inl h3
        · exact .inr ⟨csb, h1.grown hg (fun e => h3 (Option.some.inj e)), h2⟩
    · have := setAll_in [Value.int .i64 (st nb k i + 6 * nb i), .int .i64 (st nb k i + 6 * nb i + 1), .int .i64 (st nb k i + 6 * nb i + 1 + 1)] (i * 4 + 1) cs 0 (by simp) (by omega)
      exact this
    · have := setAll_in [Value.int .i64 (st nb k i + 6 * nb i), .int .i64 (st nb k i + 6 * nb i + 1), .int .i64 (st nb k i + 6 * nb i + 1 + 1)] (i * 4 + 1) cs 1 (by simp) (by omega)
      exact this
    · have := setAll_in [Value.int .i64 (st nb k i + 6 * nb i), .int .i64 (st nb k i + 6 * nb i + 1), .int .i64 (st nb k i + 6 * nb i + 1 + 1)] (i * 4 + 1) cs 2 (by simp) (by omega)
      exact this
  · obtain ⟨h1, h2, h3, h4⟩ := h i (by omega)
    refine ⟨?_, by rw [setAll_out _ _ _ _ (by simp; omega)]; exact h2, by rw [setAll_out _ _ _ _ (by simp; omega)]; exact h3, by rw [setAll_out _ _ _ _ (by simp; omega)]; exact h4⟩
    rcases h1 with h1 | ⟨csb, h1, h2⟩
    · exact .inl h1
    · rcases hne i (by omega) with h3 | h3
      · exact .inl h3
      · exact .inr ⟨csb, h1.grown hg (fun e => h3 (Option.some.inj e)), h2⟩
end
/-- What lies behind 'hi' is not written. -/
def Far (hi : Nat) (w w' : World) : Prop := ∀ b, hi ≤ b → b < w.heap.size → w'.heap[b]? = w.heap[b]?
theorem bf_grown {lo hi g : Nat} {w wr w' : World} (h : Below lo w wr ∧ Far hi w wr) (hs : w.heap.size ≤ wr.heap.size) (hlo : lo ≤ w.heap.size) (hg : wr.grownBy w' (some g)) (h1 : lo ≤ g) (h2 : g < hi) : Below lo w w' ∧ Far hi w w' :=
  ⟨h.1.grown hg (Nat.le_trans hlo hs) (fun q hq => by cases hq; exact h1), fun b hb hbw => (hg.block b (by omega) (fun e => by have := Option.some.inj e; omega)).trans (h.2 b hb hbw)⟩
/-- What the marks leave. -/
def MarkTs (lo hi : Nat) (w : World) (g n : Nat) (t ts : TypeId) (gb nb : Nat → Nat) (k : Int) (e : Ending) (w' : World) : Prop :=
  e = .returned (.int .i64 (st nb k n)) ∧ (Below lo w w' ∧ Far hi w w') ∧ ∃ cs', Tks lo w' g n cs' t ts gb nb ∧ Mks w' cs' ts gb nb k n
set_option maxHeartbeats 4000000 in
set_option maxRecDepth 100000 in
theorem marktasks_any (lo hi : Nat) (w : World) (g n cap : Nat) (cs : Array Value) (t ts : TypeId) (gb nb : Nat → Nat) (h : Tks lo w g n cs t ts gb nb) (hlo : lo ≤ w.heap.size) (hgh : g < hi) (hgb : ∀ j, j < n → nb j = 0 ∨ gb j < hi) (k : Int) (hk0 : 0 ≤ k) (hk1 : k ≤ 1000) (hn : n ≤ 1000) :
    Calls Tryz.prog 75 #[.slice (some ⟨g, 0, none⟩) n cap, .int .i64 k] w (MarkTs lo hi w g n t ts gb nb k) := by
  have HT := Lib.hid h
  have HGB := Lib.hid hgb
  clear h hgb
  go_enter Tryz.func75, Tryz.ntmps75
  go_wp2
  go_loopw [1, 5] (fun kk i wr => ∃ m : Nat, m ≤ n ∧ i = .int .i64 m ∧ kk = .int .i64 (st nb k m) ∧ Hid ((Below lo w wr ∧ Far hi w wr) ∧ w.heap.size ≤ wr.heap.size ∧ ∃ cs', Tks lo wr g n cs' t ts gb nb ∧ Mks wr cs' ts gb nb k m)) (fun _ i _ => n - (intOf i).toNat)
  case atStart => exact ⟨0, Nat.zero_le _, rfl, rfl, ⟨⟨rfl, rfl, rfl, Nat.le_refl _, fun _ _ => rfl⟩, fun _ _ _ => rfl⟩, Nat.le_refl _, cs, HT.out, Mks.zero⟩
  case round =>
    obtain ⟨m, hm, rfl, rfl, HI⟩ := hrel
    obtain ⟨hbel, hsz, cs', hT, hM⟩ := HI.out
    have HA0 := Lib.hid (And.intro hT (And.intro hM hbel))
    have HS0 := Lib.hid hsz
    clear HI hbel hsz
    by_cases hlt : m < n
    · have hI : (m : Int) < n := by omega
      obtain ⟨ab, cb, hrow, hab⟩ := hT.row m hlt
      have hbd := st_bound (nb := nb) (k := k) m (fun i hi => hT.small i (by omega))
      have hsm := hT.small m hlt
      have hbody := hT.body m hlt
      have hK0 : 0 ≤ st nb k m := by omega
      have hK1 : st nb k m ≤ 10000000 := by omega
      have HST := Lib.hid (show st nb k (m + 1) = st nb k m + 6 * (nb m : Int) + 3 from rfl)
      have c0 : wr.cell? ⟨g, m * 4, none⟩ = some (.slice ab (nb m) cb) := by rw [hT.box.cell]; exact hrow
      clear hbd hrow hT hM
      by_cases hz : nb m = 0
      · rw [hz] at c0
        have HZ := Lib.hid hz
        have HA := Lib.hid HA0.out
        have HS := Lib.hid HS0.out
        clear hz hbody hab
        go_wp2_with (go_at_call 115; (with_reducible refine (markstmts_nil _ ab cb _).mono ?_); rintro e w2 ⟨rfl, rfl⟩; refine Hid.out ?_)
        have hx : Box g cs' t w2 := HA.out.1.box
        obtain ⟨x1, c1⟩ : ∃ x, w2.cell? ⟨g, m * 4 + 1, none⟩ = some x := ⟨cs'[m * 4 + 1]'(by have := HA.out.1.big; omega), by rw [hx.cell]; simp⟩
        obtain ⟨x2, c2⟩ : ∃ x, w2.cell? ⟨g, m * 4 + 1 + 1, none⟩ = some x := ⟨cs'[m * 4 + 1 + 1]'(by have := HA.out.1.big; omega), by rw [hx.cell]; simp⟩
        obtain ⟨x3, c3⟩ : ∃ x, w2.cell? ⟨g, m * 4 + 1 + 2, none⟩ = some x := ⟨cs'[m * 4 + 1 + 2]'(by have := HA.out.1.big; omega), by rw [hx.cell]; simp⟩
        have f1 : w2.frozen? ⟨g, m * 4 + 1, none⟩ = false := hx.frozen _
        have f2 : w2.frozen? ⟨g, m * 4 + 1 + 1, none⟩ = false := hx.frozen _
        have f3 : w2.frozen? ⟨g, m * 4 + 1 + 2, none⟩ = false := hx.frozen _
        have hgs : w2.grownBy (((w2.setCell ⟨g, m * 4 + 1, none⟩ (.int .i64 (st nb k m))).setCell ⟨g, m * 4 + 1 + 1, none⟩ (.int .i64 (st nb k m + 1))).setCell ⟨g, m * 4 + 1 + 2, none⟩ (.int .i64 (st nb k m + 1 + 1))) (some g) := grown_trans (grown_trans (grown_setCell _ g _ _) (grown_setCell _ g _ _)) (grown_setCell _ g _ _)
        have hbx3 : Box g (setAll cs' (m * 4 + 1) [.int .i64 (st nb k m), .int .i64 (st nb k m + 1), .int .i64 (st nb k m + 1 + 1)]) t (((w2.setCell ⟨g, m * 4 + 1, none⟩ (.int .i64 (st nb k m))).setCell ⟨g, m * 4 + 1 + 1, none⟩ (.int .i64 (st nb k m + 1))).setCell ⟨g, m * 4 + 1 + 2, none⟩ (.int .i64 (st nb k m + 1 + 1))) := ((hx.set (m * 4 + 1) _).set (m * 4 + 1 + 1) _).set (m * 4 + 1 + 2) _
        have hM3 := HA.out.2.1.next HA.out.1 hlt (.inl HZ.out) hgs
        rw [show st nb k m + 6 * (nb m : Int) = st nb k m by rw [HZ.out]; simp] at hM3
        have H3 := Lib.hid (And.intro (HA.out.1.row_step hgs hbx3) (And.intro hM3 (bf_grown HA.out.2.2 HS.out hlo hgs HA.out.1.low hgh)))
        clear hx hgs hbx3 hM3
        refine Lib.hid ?_
        go_wp2
        go_roundw
        case rel => exact ⟨m + 1, by omega, by go_num, by rw [HST.out, HZ.out]; congr 1; simp; omega, H3.out.2.2, Nat.le_trans HS.out (by simp), _, H3.out.1, H3.out.2.1⟩
        case measure => simp [intOf]; omega
      · obtain ⟨hlg, hne, csb, hbb, hbs⟩ : lo ≤ gb m ∧ gb m ≠ g ∧ ∃ csb, Box (gb m) csb ts wr ∧ nb m * 6 ≤ csb.size := by
          rcases hbody with h | h
          · exact absurd h hz
          · exact h
        obtain rfl : ab = some ⟨gb m, 0, none⟩ := by
          rcases hab with h | h
          · exact absurd h hz
          · exact h
        have HZ := Lib.hid hz
        have HGH := Lib.hid (show gb m < hi from (HGB.out m hlt).resolve_left hz)
        have HN := Lib.hid (And.intro hlg (And.intro hne hbs))
        have HBB := Lib.hid hbb
        clear hz hbody hab hlg hne hbb hbs
        go_wp2_with (go_at_call 115; (with_reducible refine (markstmts_any _ (gb m) (nb m) cb csb ts HBB.out HN.out.2.2 _ hK0 (by omega) (by omega)).mono ?_); rintro e w2 ⟨rfl, hg2, csb', hb2, hs2, hn2⟩; refine Hid.out ?_)
        have HA := Lib.hid (And.intro (HA0.out.1.body_step hlt HZ.out hg2 hb2 (by rw [hs2]; exact HN.out.2.2)) (And.intro (HA0.out.2.1.body_step HA0.out.1 hlt HZ.out hg2) (bf_grown HA0.out.2.2 HS0.out hlo hg2 HN.out.1 HGH.out)))
        have HS := Lib.hid (Nat.le_trans HS0.out hg2.size)
        have HNOW := Lib.hid (show nb m = 0 ∨ ∃ csb, Box (gb m) csb ts w2 ∧ Nums csb (st nb k m) (nb m * 6) from .inr ⟨csb', hb2, hn2⟩)
        have hsmI : (nb m : Int) ≤ 1000 := by omega
        clear hg2 hb2 hs2 hn2
        have hx : Box g cs' t w2 := HA.out.1.box
        obtain ⟨x1, c1⟩ : ∃ x, w2.cell? ⟨g, m * 4 + 1, none⟩ = some x := ⟨cs'[m * 4 + 1]'(by have := HA.out.1.big; omega), by rw [hx.cell]; simp⟩
        obtain ⟨x2, c2⟩ : ∃ x, w2.cell? ⟨g, m * 4 + 1 + 1, none⟩ = some x := ⟨cs'[m * 4 + 1 + 1]'(by have := HA.out.1.big; omega), by rw [hx.cell]; simp⟩
        obtain ⟨x3, c3⟩ : ∃ x, w2.cell? ⟨g, m * 4 + 1 + 2, none⟩ = some x := ⟨cs'[m * 4 + 1 + 2]'(by have := HA.out.1.big; omega), by rw [hx.cell]; simp⟩
        have f1 : w2.frozen? ⟨g, m * 4 + 1, none⟩ = false := hx.frozen _
        have f2 : w2.frozen? ⟨g, m * 4 + 1 + 1, none⟩ = false := hx.frozen _
        have f3 : w2.frozen? ⟨g, m * 4 + 1 + 2, none⟩ = false := hx.frozen _
        have hgs : w2.grownBy (((w2.setCell ⟨g, m * 4 + 1, none⟩ (.int .i64 (st nb k m + 6 * (nb m : Int)))).setCell ⟨g, m * 4 + 1 + 1, none⟩ (.int .i64 (st nb k m + 6 * (nb m : Int) + 1))).setCell ⟨g, m * 4 + 1 + 2, none⟩ (.int .i64 (st nb k m + 6 * (nb m : Int) + 1 + 1))) (some g) := grown_trans (grown_trans (grown_setCell _ g _ _) (grown_setCell _ g _ _)) (grown_setCell _ g _ _)
        have hbx3 : Box g (setAll cs' (m * 4 + 1) [.int .i64 (st nb k m + 6 * (nb m : Int)), .int .i64 (st nb k m + 6 * (nb m : Int) + 1), .int .i64 (st nb k m + 6 * (nb m : Int) + 1 + 1)]) t (((w2.setCell ⟨g, m * 4 + 1, none⟩ (.int .i64 (st nb k m + 6 * (nb m : Int)))).setCell ⟨g, m * 4 + 1 + 1, none⟩ (.int .i64 (st nb k m + 6 * (nb m : Int) + 1))).setCell ⟨g, m * 4 + 1 + 2, none⟩ (.int .i64 (st nb k m + 6 * (nb m : Int) + 1 + 1))) := ((hx.set (m * 4 + 1) _).set (m * 4 + 1 + 1) _).set (m * 4 + 1 + 2) _
        have hM3 := HA.out.2.1.next HA.out.1 hlt HNOW.out hgs
        have H3 := Lib.hid (And.intro (HA.out.1.row_step hgs hbx3) (And.intro hM3 (bf_grown HA.out.2.2 HS.out hlo hgs HA.out.1.low hgh)))
        clear hx hgs hbx3 hM3
        refine Lib.hid ?_
        go_wp2
        go_roundw
        case rel => exact ⟨m + 1, by omega, by go_num, by rw [HST.out]; congr 1; omega, H3.out.2.2, Nat.le_trans HS.out (by simp), _, H3.out.1, H3.out.2.1⟩
        case measure => simp [intOf]; omega
    · obtain rfl : m = n := by omega
      have hI : ¬ (m : Int) < m := by omega
      clear hT hM
      go_wp2
      go_ret
      exact ⟨rfl, HA0.out.2.2, cs', HA0.out.1, HA0.out.2.1⟩
end Go.Proofs.YtekdnhhmiabngaaGreat.mrk

/- The law's own copy, size and comparison of a list of tasks and of a program; nothing that was there is written. -/
namespace Go.Proofs.YtekdnhhmiabngaaGreat.prg
open Go Go.ChangeShapes Go.WideShapes Go.ChangeAt Go.RowKit Go.Proofs.YtekdnhhmiabngaaGreat.row Go.Proofs.YtekdnhhmiabngaaGreat.val Go.Proofs.YtekdnhhmiabngaaGreat.expr Go.Proofs.YtekdnhhmiabngaaGreat.stm Go.Proofs.YtekdnhhmiabngaaGreat.blk

theorem infoTask : (Tryz.prog.info? 34).map (fun i => (i.zero, i.size, i.bytes)) = some (some (tkV none 0 0 ⟨[], 0, 0, 0⟩), 4, 48) := by kernel_rfl
theorem prg_at {P : List Tk} {k : Nat} (h : k < P.length) : ∃ t, P[k]? = some t := ⟨P[k], by simp [h]⟩
theorem mem_at {P : List Tk} {k : Nat} {t : Tk} (h : P[k]? = some t) : t ∈ P := List.mem_of_getElem? h
/-- A copy of the list of tasks in new memory. -/
def MadeTks (w : World) (n : Nat) (P : List Tk) (e : Ending) (w' : World) : Prop :=
  ∃ a' : Option Addr, e = .returned (.slice a' n n) ∧ Hid (TkFrom w.heap.size w' a' n P) ∧ Below w.heap.size w w'
/-- A copy of the program in new memory. -/
def MadePrg (w : World) (n : Nat) (P : List Tk) (e : Ending) (w' : World) : Prop :=
  ∃ a' : Option Addr, e = .returned (.agg #[.slice a' n n]) ∧ Hid (TkFrom w.heap.size w' a' n P) ∧ Below w.heap.size w w'
set_option maxHeartbeats 2000000 in
set_option maxRecDepth 100000 in
theorem totasks_any (w : World) (a : Option Addr) (n cap : Nat) (P : List Tk) (hz : Sizes P) (h : TkRow w a n P) : Calls Tryz.prog 73 #[.slice a n cap] w (MadeTks w n P) := by
  obtain ⟨i0, hi, hz0, hz1, hz2⟩ := info_parts infoTask
  have HL := Lib.hid h
  have HZ := Lib.hid hz
  have hn : (n : Int) ≤ 1048576 := by have := hz.1; rw [h.1] at this; omega
  clear h hz
  go_enter Tryz.func73, Tryz.ntmps73
  go_wp2_with ((refine wpList_make_full _ rfl _ _ 24 rfl w.heap.size 34 i0 _ 4 Tryz.underlying24 hi hz0 hz1 .i64 .i64 _ _ n rfl rfl rfl rfl (by rw [hz2]; omega) (by unfold maxLen; omega) (Nat.le_refl _) ?_); intro w1 hown1 hg1; refine Hid.out ?_)
  have hsz1 := hown1.1
  have hx1 := own_boxz hown1
  have hb1 := below_grown hg1
  obtain ⟨cs0, hcs0⟩ : ∃ cs0, (madeCells (tkV none 0 0 ⟨[], 0, 0, 0⟩).cells (n * 4)).toList.toArray = cs0 := ⟨_, rfl⟩
  rw [hcs0] at hx1
  have hs0 : cs0.size = n * 4 := by rw [← hcs0, List.size_toArray]; exact hsz1
  clear hg1 hown1 hsz1 hcs0
  refine Lib.hid ?_
  go_wp2
  go_loopw [4] (fun i wr => ∃ (k : Nat) (cs : Array Value), k ≤ n ∧ i = .int .i64 k ∧ Box w.heap.size cs 34 wr ∧ Hid (cs.size = n * 4 ∧ Pref wr P w.heap.size cs k) ∧ Below w.heap.size w wr) (fun i _ => n - (intOf i).toNat)
  case atStart => exact ⟨0, cs0, Nat.zero_le _, rfl, hx1, ⟨hs0, Pref.zero _ _ _ _⟩, hb1⟩
  case round =>
    obtain ⟨k, cs, hk, rfl, hbx, hPF, hbel⟩ := hrel
    by_cases hlt : k < n
    · obtain ⟨b, off, t, rfl, hlb, ht, ab, nb, cb, hrg, hbc, hrow⟩ := (HL.out.below hbel).2 k hlt
      have hnb : (nb : Int) ≤ 1048576 := by have := HZ.out.2 t (mem_at ht); rw [hrow.1] at this; omega
      have HR := Lib.hid (And.intro hrg (And.intro ht (And.intro hbx (And.intro hbel hrow))))
      have hI : (k : Int) < n := by omega
      clear hrg ht hbx hbel hrow
      go_wp2_with (first
        | (refine wpList_load_mid rfl 136 _ rfl b (off + k * 4) rfl (tkC ab nb cb t) _ HR.out.1 Tryz.underlying136 rfl (by kernel_rfl) ?_)
        | (go_at_call 113; refine (totask_any t ab nb cb _ hnb HR.out.2.2.2.2).mono ?_; rintro e w2 ⟨g2, n2, rfl, hg2, hs2, hb2⟩; refine Hid.out ?_))
      have H2 := Lib.hid (And.intro (HR.out.2.2.1.below hb2) (And.intro (below_then HR.out.2.2.2.1 hb2) (hPF.out.2.below hb2)))
      have HGL := Lib.hid HR.out.2.2.1.lt
      have HNE := Lib.hid (show w.heap.size < g2 by have := HR.out.2.2.1.lt; omega)
      clear hg2
      have HSZ := Lib.hid (show k * 4 + 4 ≤ cs.size by rw [hPF.out.1]; omega)
      clear hb2
      refine Lib.hid ?_
      go_wp2_with ((refine wpList_store_part rfl 34 _ _ rfl w.heap.size (k * 4) _ _ H2.out.1 #[.slice (some ⟨g2, 0, none⟩) n2 n2, .int .i64 t.o, .int .i64 t.x, .int .i64 t.y] rfl rfl HSZ.out (by kernel_rfl) (by simp [Value.oneCell']) ?_); intro w3 hx3 hg3; refine Hid.out ?_)
      have HS3 := StRow.grown_box hs2.out hg3 (fun e => by have := Option.some.inj e; have := HNE.out; omega)
      have H3 := Lib.hid (And.intro (show Box w.heap.size (setAll cs (k * 4) (tkC (some ⟨g2, 0, none⟩) n2 n2 t)) 34 w3 from hx3) (And.intro (And.intro (show (setAll cs (k * 4) (tkC (some ⟨g2, 0, none⟩) n2 n2 t)).size = n * 4 by rw [setAll_size]; exact hPF.out.1) ((H2.out.2.2.grown hg3).next HR.out.2.1 HSZ.out HNE.out HS3)) (H2.out.2.1.grown hg3 H2.out.2.1.size (fun j hj => by cases hj; exact Nat.le_refl _))))
      clear hx3 hg3 HS3
      refine Lib.hid ?_
      go_wp2
      go_roundw
      case rel => exact ⟨k + 1, _, by omega, by go_num, H3.out.1, H3.out.2.1, H3.out.2.2⟩
      case measure => simp [intOf]; omega
    · obtain rfl : k = n := by omega
      have hI : ¬ (k : Int) < k := by omega
      have HB := Lib.hid (And.intro (hPF.out.2.row HL.out.1 hbx) hbel)
      clear hbx hbel
      go_wp2
      go_ret
      exact ⟨_, rfl, HB.out.1, HB.out.2⟩
end Go.Proofs.YtekdnhhmiabngaaGreat.prg

/- The law's own copy of a program, the sizes and the comparison of lists of tasks and of programs; nothing that was there is written. -/
namespace Go.Proofs.YtekdnhhmiabngaaGreat.prg
open Go Go.ChangeShapes Go.WideShapes Go.ChangeAt Go.RowKit Go.Proofs.YtekdnhhmiabngaaGreat.row Go.Proofs.YtekdnhhmiabngaaGreat.val Go.Proofs.YtekdnhhmiabngaaGreat.expr Go.Proofs.YtekdnhhmiabngaaGreat.stm Go.Proofs.YtekdnhhmiabngaaGreat.blk

set_option maxHeartbeats 2000000 in
set_option maxRecDepth 100000 in
theorem toprogram_any (w : World) (a : Option Addr) (n cap : Nat) (P : List Tk) (hz : Sizes P) (h : TkRow w a n P) : Calls Tryz.prog 26 #[.agg #[.slice a n cap]] w (MadePrg w n P) := by
  obtain ⟨W, hW⟩ : ∃ W, W = ((w.alloc (.cells #[.slice a n cap] 46)).alloc (.cells #[.slice none 0 0] 26)).alloc (.cells #[.slice none 0 0] 26) := ⟨_, rfl⟩
  have hs : W.heap.size = w.heap.size + 3 := by rw [hW]; simp
  have e1 : ∀ x : Obj, (w.alloc x).heap.size = w.heap.size + 1 := fun x => by simp
  have e2 : ∀ x y : Obj, ((w.alloc x).alloc y).heap.size = w.heap.size + 2 := fun x y => by simp
  have b1 : Box (w.heap.size + 1) #[.slice none 0 0] 26 W := by
    have h9 := (Box.new (w.alloc (.cells #[.slice a n cap] 46)) #[.slice none 0 0] 26).alloc (.cells #[.slice none 0 0] 26)
    rw [e1] at h9; rw [hW]; exact h9
  have b2 : Box (w.heap.size + 2) #[.slice none 0 0] 26 W := by
    have h9 := Box.new ((w.alloc (.cells #[.slice a n cap] 46)).alloc (.cells #[.slice none 0 0] 26)) #[.slice none 0 0] 26
    rw [e2] at h9; rw [hW]; exact h9
  have hb : Below w.heap.size w W := by
    rw [hW]; exact (((Below.refl _ _).alloc (Nat.le_refl _) _).alloc (by simp) _).alloc (by simp; omega) _
  have H0 := Lib.hid (And.intro b1 (And.intro b2 (And.intro hb (h.below hb))))
  have HS := Lib.hid hs
  have HW := Lib.hid hW
  have HZ := Lib.hid hz
  clear b1 b2 hb hs hW e1 e2 h hz
  go_enter Tryz.func26, Tryz.ntmps26
  go_wp2_with (go_at_call 73; rw [← HW.out]; refine (totasks_any W a n cap P HZ.out H0.out.2.2.2).mono ?_; rintro e w1 ⟨a1, rfl, hT1, hb1⟩; refine Hid.out ?_)
  have b2 := H0.out.2.1.below hb1
  have c : w1.cell? ⟨w.heap.size + 2, 0, none⟩ = some (.slice none 0 0) := b2.cell 0
  have f : w1.frozen? ⟨w.heap.size + 2, 0, none⟩ = false := b2.frozen 0
  have H1 := Lib.hid (And.intro b2 (And.intro (H0.out.1.below hb1) (And.intro (H0.out.2.2.1.trans (hb1.mono (by have := HS.out; omega))) hT1)))
  have HS1 := Lib.hid hb1.size
  clear b2 hb1
  refine Lib.hid ?_
  go_wp2_with (first
    | (refine wpList_load_row rfl 26 _ rfl (w.heap.size + 2) rfl _ _ _ _ (H1.out.1.set 0 (.slice a1 n n)) Tryz.underlying26 rfl (by kernel_rfl) ?_)
    | ((refine wpList_store_box rfl 26 _ _ rfl (w.heap.size + 1) _ _ (H1.out.2.1.set_other (by simp) _) #[.slice a1 n n] rfl rfl rfl (by kernel_rfl) (by simp [Value.oneCell']) ?_); intro w4 hx4 hg4; refine Hid.out ?_))
  have hT4 := ((H1.out.2.2.2.out).grown (grown_setCell w1 (w.heap.size + 2) 0 (.slice a1 n n)) (by have := HS.out; omega)).grown hg4 (by have := HS.out; omega)
  have hb4 := ((H1.out.2.2.1.setCell (by show w.heap.size ≤ w.heap.size + 2; omega) (.slice a1 n n))).grown hg4 (by have := H1.out.2.2.1.size; simpa using this) (fun j hj => by cases hj; omega)
  have H4 := Lib.hid (And.intro hx4 (And.intro (hT4.mono (show w.heap.size ≤ W.heap.size by have := HS.out; omega)) hb4))
  clear hx4 hg4 hT4 hb4 c f
  refine Lib.hid ?_
  go_wp2
  exact bodyPost_ret (v := .agg #[.slice a1 n n]) (results_cell_row rfl _ _ (w.heap.size + 1) _ _ _ _ rfl H4.out.1 Tryz.underlying26 rfl (by kernel_rfl)) rfl ⟨_, rfl, H4.out.2.1, H4.out.2.2⟩
/-- What is left of a size, or less than nothing; the sizes are then bounded. -/
def SzOut (w : World) (x : Int) (S : Prop) (e : Ending) (w' : World) : Prop := ∃ r : Int, e = .returned (.int .i64 r) ∧ -1 ≤ r ∧ r ≤ x ∧ Hid (0 ≤ r → S) ∧ Below w.heap.size w w'
theorem sztask_any (t : Tk) (ab : Option Addr) (nb cb : Nat) (x : Int) (hn : nb ≤ maxLen) (hx : 0 ≤ x) (hx2 : x ≤ 1048576) (hl : t.b.length = nb) (w : World) :
    Calls Tryz.prog 108 #[tkV ab nb cb t, .int .i64 x] w (SzOut w x (t.b.length ≤ 1048576)) := by
  have hm : (nb : Int) ≤ 9223372036854775807 := by unfold maxLen at hn; omega
  have HL := Lib.hid hl
  clear hl hn
  by_cases h : x - nb < 0
  · have HI := Lib.hid (show (if x - nb < 0 then (-1 : Int) else x - nb) = -1 from if_pos h)
    clear h
    go_enter Tryz.func108, Tryz.ntmps108
    go_wp2_with (go_at_call 141; refine (sz_any _ _ _ _ hm hx (by omega) _).mono ?_; rw [HI.out]; rintro e w1 ⟨rfl, rfl⟩)
    go_ret
    exact ⟨-1, rfl, by omega, by omega, fun h => by omega, below_new w _⟩
  · have HI := Lib.hid (show (if x - nb < 0 then (-1 : Int) else x - nb) = x - nb from if_neg h)
    have h0 : 0 ≤ x - nb := by omega
    have hnb : nb ≤ 1048576 := by omega
    go_enter Tryz.func108, Tryz.ntmps108
    go_wp2_with (go_at_call 141; refine (sz_any _ _ _ _ hm hx (by omega) _).mono ?_; rw [HI.out]; rintro e w1 ⟨rfl, rfl⟩)
    go_ret
    exact ⟨x - nb, rfl, by omega, by omega, fun _ => by rw [HL.out]; exact hnb, below_new w _⟩
set_option maxHeartbeats 2000000 in
set_option maxRecDepth 100000 in
theorem sztasks_any (w : World) (a : Option Addr) (n cap : Nat) (P : List Tk) (hn : n ≤ maxLen) (hm : ∀ t ∈ P, t.b.length ≤ maxLen) (h : TkRow w a n P) :
    Calls Tryz.prog 67 #[.slice a n cap, .int .i64 1048576] w (SzOut w 1048576 (Sizes P)) := by
  have HL := Lib.hid h
  have HM := Lib.hid hm
  have hn2 : (n : Int) ≤ 9223372036854775807 := by unfold maxLen at hn; omega
  clear h hm
  by_cases hb : (1048576 : Int) - n < 0
  · go_enter Tryz.func67, Tryz.ntmps67
    go_wp2
    go_ret
    exact ⟨-1, rfl, by omega, by omega, fun h => by omega, Below.refl _ _⟩
  · have hb0 : 0 ≤ (1048576 : Int) - n := by omega
    go_enter Tryz.func67, Tryz.ntmps67
    go_wp2
    go_loopw [1, 5] (fun l i wr => ∃ (k : Nat) (x : Int), k ≤ n ∧ i = .int .i64 k ∧ l = .int .i64 x ∧ 0 ≤ x ∧ x ≤ 1048576 ∧ Hid (∀ j t, j < k → P[j]? = some t → t.b.length ≤ 1048576) ∧ Below w.heap.size w wr) (fun _ i _ => n - (intOf i).toNat)
    case atStart => exact ⟨0, _, Nat.zero_le _, rfl, rfl, hb0, by omega, fun j t hj => by omega, Below.refl _ _⟩
    case round =>
      obtain ⟨k, x, hk, rfl, rfl, hx0, hx1, hS, hbel⟩ := hrel
      by_cases hlt : k < n
      · obtain ⟨b, off, t, rfl, hlb, ht, ab, nb, cb, hrg, hbc, hrow⟩ := (HL.out.below hbel).2 k hlt
        have hnb : nb ≤ maxLen := by have := HM.out t (mem_at ht); rw [hrow.1] at this; exact this
        have HR := Lib.hid (And.intro hrg (And.intro ht (And.intro hbel hrow)))
        have hI : (k : Int) < n := by omega
        clear hrg ht hbel hrow
        go_wp2_with (first
          | (refine wpList_load_mid rfl 136 _ rfl b (off + k * 4) rfl (tkC ab nb cb t) _ HR.out.1 Tryz.underlying136 rfl (by kernel_rfl) ?_)
          | (go_at_call 108; refine (sztask_any t ab nb cb x hnb hx0 hx1 HR.out.2.2.2.1 _).mono ?_; rintro e w2 ⟨r, rfl, hr0, hr1, hrS, hb2⟩; refine Hid.out ?_))
        have HB2 := Lib.hid (below_then HR.out.2.2.1 hb2)
        clear hb2
        by_cases hrn : r < 0
        · refine Lib.hid ?_
          go_wp2
          go_ret
          exact ⟨-1, rfl, by omega, by omega, fun h => by omega, HB2.out⟩
        · have hr00 : 0 ≤ r := by omega
          have hr01 : r ≤ 1048576 := by omega
          have HS2 := Lib.hid (show ∀ j t, j < k + 1 → P[j]? = some t → t.b.length ≤ 1048576 from fun j t' hj ht' => by
            by_cases e : j = k
            · subst e; have := HR.out.2.1; rw [this] at ht'; cases ht'; exact hrS.out hr00
            · exact hS.out j t' (by omega) ht')
          refine Lib.hid ?_
          go_wp2
          go_roundw
          case rel => exact ⟨k + 1, r, by omega, by go_num, rfl, hr00, hr01, HS2, HB2.out⟩
          case measure => simp [intOf]; omega
      · obtain rfl : k = n := by omega
        have hI : ¬ (k : Int) < k := by omega
        have HB := Lib.hid hbel
        have HSZ := Lib.hid (show Sizes P from ⟨by rw [HL.out.1]; omega, fun t ht => by
          obtain ⟨j, hj⟩ := List.mem_iff_getElem?.1 ht
          exact hS.out j t (by have := (List.getElem?_eq_some_iff.1 hj).1; rw [HL.out.1] at this; exact this) hj⟩)
        clear hbel
        go_wp2
        go_ret
        exact ⟨x, rfl, by omega, hx1, fun _ => HSZ.out, HB.out⟩
set_option maxHeartbeats 1000000 in
theorem szprogram_any (w : World) (a : Option Addr) (n cap : Nat) (P : List Tk) (hn : n ≤ maxLen) (hm : ∀ t ∈ P, t.b.length ≤ maxLen) (h : TkRow w a n P) :
    Calls Tryz.prog 24 #[.agg #[.slice a n cap], .int .i64 1048576] w (SzOut w 1048576 (Sizes P)) := by
  have HL := Lib.hid (And.intro h hm)
  clear h hm
  go_enter Tryz.func24, Tryz.ntmps24
  go_wp2_with (go_at_call 67; refine (sztasks_any _ a n cap P hn HL.out.2 (HL.out.1.below (below_new w _))).mono ?_; rintro e w2 ⟨r, rfl, hr0, hr1, hrS, hb2⟩; refine Hid.out ?_)
  have HB2 := Lib.hid (below_then (below_new w _) hb2)
  clear hb2
  by_cases hrn : r < 0
  · refine Lib.hid ?_
    go_wp2
    go_ret
    exact ⟨-1, rfl, by omega, by omega, fun h => by omega, HB2.out⟩
  · refine Lib.hid ?_
    go_wp2
    go_ret
    exact ⟨r, rfl, hr0, hr1, hrS, HB2.out⟩
end Go.Proofs.YtekdnhhmiabngaaGreat.prg
