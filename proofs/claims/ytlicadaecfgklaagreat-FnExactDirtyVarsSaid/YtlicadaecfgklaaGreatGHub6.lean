/- Several texts in one: MarkQ TkB. -/
import Derived.Test.YtlicadaecfgklaaGreatGHub5

/- The law's marks in a list of tasks and in a program of the answer's own, and its look at them. -/
namespace Go.Proofs.YtlicadaecfgklaaGreat.mrk
open Go Go.ChangeShapes Go.WideShapes Go.ChangeAt Go.RowKit Go.Proofs.YtlicadaecfgklaaGreat.row Go.Proofs.YtlicadaecfgklaaGreat.stm Go.Proofs.YtlicadaecfgklaaGreat.prg

section
variable {lo g n m : Nat} {w w' : World} {cs : Array Value} {t ts : TypeId} {gb nb : Nat → Nat} {k : Int}
theorem Tks.body_step (h : Tks lo w g n cs t ts gb nb) (hm : m < n) (h0 : nb m ≠ 0) (hg : w.grownBy w' (some (gb m))) {csb : Array Value} (hb : Box (gb m) csb ts w') (hs : nb m * 6 ≤ csb.size) : Tks lo w' g n cs t ts gb nb where
  box := by
    rcases h.body m hm with h1 | h1
    · exact absurd h1 h0
    · exact h.box.grown hg (fun e => h1.2.1 (Option.some.inj e).symm)
  big := h.big
  low := h.low
  row := h.row
  small := h.small
  body := fun j hj => by
    rcases h.body j hj with h1 | ⟨h1, h2, csj, h3, h4⟩
    · exact .inl h1
    · by_cases e : j = m
      · subst e; exact .inr ⟨h1, h2, csb, hb, hs⟩
      · rcases h.apart j m hj hm e with h5 | h5 | h5
        · exact .inl h5
        · exact absurd h5 h0
        · exact .inr ⟨h1, h2, csj, h3.grown hg (fun e => h5 (Option.some.inj e)), h4⟩
  apart := h.apart
theorem Tks.row_step (h : Tks lo w g n cs t ts gb nb) (hg : w.grownBy w' (some g)) {a b c : Value} (hb : Box g (setAll cs (m * 4 + 1) [a, b, c]) t w') : Tks lo w' g n (setAll cs (m * 4 + 1) [a, b, c]) t ts gb nb where
  box := hb
  big := by rw [setAll_size]; exact h.big
  low := h.low
  row := fun j hj => by
    obtain ⟨ab, cb, h1, h2⟩ := h.row j hj
    refine ⟨ab, cb, ?_, h2⟩
    rw [setAll_out _ _ _ _ (by simp; omega)]; exact h1
  small := h.small
  body := fun j hj => by
    rcases h.body j hj with h1 | ⟨h1, h2, csj, h3, h4⟩
    · exact .inl h1
    · exact .inr ⟨h1, h2, csj, h3.grown hg (fun e => h2 (Option.some.inj e)), h4⟩
  apart := h.apart
theorem Mks.zero : Mks w cs ts gb nb k 0 := fun i h => by omega
theorem Mks.body_step (h : Mks w cs ts gb nb k m) (hT : Tks lo w g n cs t ts gb nb) (hm : m < n) (h0 : nb m ≠ 0) (hg : w.grownBy w' (some (gb m))) : Mks w' cs ts gb nb k m := fun i hi => by
  obtain ⟨h1, h2⟩ := h i hi
  refine ⟨?_, h2⟩
  rcases h1 with h1 | ⟨csb, h3, h4⟩
  · exact .inl h1
  · rcases hT.apart i m (by omega) hm (by omega) with h5 | h5 | h5
    · exact .inl h5
    · exact absurd h5 h0
    · exact .inr ⟨csb, h3.grown hg (fun e => h5 (Option.some.inj e)), h4⟩
theorem Mks.next (h : Mks w cs ts gb nb k m) (hT : Tks lo w g n cs t ts gb nb) (hm : m < n) (hnow : nb m = 0 ∨ ∃ csb, Box (gb m) csb ts w ∧ Nums csb (st nb k m) (nb m * 6)) (hg : w.grownBy w' (some g)) :
    Mks w' (setAll cs (m * 4 + 1) [.int .i64 (st nb k m + 6 * nb m), .int .i64 (st nb k m + 6 * nb m + 1), .int .i64 (st nb k m + 6 * nb m + 1 + 1)]) ts gb nb k (m + 1) := fun i hi => by
  have hbig := hT.big
  have hne : ∀ i, i < n → nb i = 0 ∨ gb i ≠ g := fun i hi => by
    rcases hT.body i hi with h1 | h1
    · exact .inl h1
    · exact .inr h1.2.1
  by_cases e : i = m
  · subst e
    refine ⟨?_, ?_, ?_, ?_⟩
    · rcases hnow with h1 | ⟨csb, h1, h2⟩
      · exact .inl h1
      · rcases hne i hm with h3 | h3
        · exact .inl h3
        · exact .inr ⟨csb, h1.grown hg (fun e => h3 (Option.some.inj e)), h2⟩
    · have := setAll_in [Value.int .i64 (st nb k i + 6 * nb i), .int .i64 (st nb k i + 6 * nb i + 1), .int .i64 (st nb k i + 6 * nb i + 1 + 1)] (i * 4 + 1) cs 0 (by simp) (by omega)
      exact this
    · have := setAll_in [Value.int .i64 (st nb k i + 6 * nb i), .int .i64 (st nb k i + 6 * nb i + 1), .int .i64 (st nb k i + 6 * nb i + 1 + 1)] (i * 4 + 1) cs 1 (by simp) (by omega)
      exact this
    · have := setAll_in [Value.int .i64 (st nb k i + 6 * nb i), .int .i64 (st nb k i + 6 * nb i + 1), .int .i64 (st nb k i + 6 * nb i + 1 + 1)] (i * 4 + 1) cs 2 (by simp) (by omega)
      exact this
  · obtain ⟨h1, h2, h3, h4⟩ := h i (by omega)
    refine ⟨?_, by rw [setAll_out _ _ _ _ (by simp; omega)]; exact h2, by rw [setAll_out _ _ _ _ (by simp; omega)]; exact h3, by rw [setAll_out _ _ _ _ (by simp; omega)]; exact h4⟩
    rcases h1 with h1 | ⟨csb, h1, h2⟩
    · exact .inl h1
    · rcases hne i (by omega) with h3 | h3
      · exact .inl h3
      · exact .inr ⟨csb, h1.grown hg (fun e => h3 (Option.some.inj e)), h2⟩
end
/-- What lies behind 'hi' is not written. -/
def Far (hi : Nat) (w w' : World) : Prop := ∀ b, hi ≤ b → b < w.heap.size → w'.heap[b]? = w.heap[b]?
theorem bf_grown {lo hi g : Nat} {w wr w' : World} (h : Below lo w wr ∧ Far hi w wr) (hs : w.heap.size ≤ wr.heap.size) (hlo : lo ≤ w.heap.size) (hg : wr.grownBy w' (some g)) (h1 : lo ≤ g) (h2 : g < hi) : Below lo w w' ∧ Far hi w w' :=
  ⟨h.1.grown hg (Nat.le_trans hlo hs) (fun q hq => by cases hq; exact h1), fun b hb hbw => (hg.block b (by omega) (fun e => by have := Option.some.inj e; omega)).trans (h.2 b hb hbw)⟩
/-- What the marks leave. -/
def MarkTs (lo hi : Nat) (w : World) (g n : Nat) (t ts : TypeId) (gb nb : Nat → Nat) (k : Int) (e : Ending) (w' : World) : Prop :=
  e = .returned (.int .i64 (st nb k n)) ∧ (Below lo w w' ∧ Far hi w w') ∧ ∃ cs', Tks lo w' g n cs' t ts gb nb ∧ Mks w' cs' ts gb nb k n
set_option maxHeartbeats 4000000 in
set_option maxRecDepth 100000 in
theorem marktasks_any (lo hi : Nat) (w : World) (g n cap : Nat) (cs : Array Value) (t ts : TypeId) (gb nb : Nat → Nat) (h : Tks lo w g n cs t ts gb nb) (hlo : lo ≤ w.heap.size) (hgh : g < hi) (hgb : ∀ j, j < n → nb j = 0 ∨ gb j < hi) (k : Int) (hk0 : 0 ≤ k) (hk1 : k ≤ 1000) (hn : n ≤ 1000) :
    Calls Tryz.prog 27 #[.slice (some ⟨g, 0, none⟩) n cap, .int .i64 k] w (MarkTs lo hi w g n t ts gb nb k) := by
  have HT := Lib.hid h
  have HGB := Lib.hid hgb
  clear h hgb
  go_enter Tryz.func27, Tryz.ntmps27
  go_wp2
  go_loopw [1, 5] (fun kk i wr => ∃ m : Nat, m ≤ n ∧ i = .int .i64 m ∧ kk = .int .i64 (st nb k m) ∧ Hid ((Below lo w wr ∧ Far hi w wr) ∧ w.heap.size ≤ wr.heap.size ∧ ∃ cs', Tks lo wr g n cs' t ts gb nb ∧ Mks wr cs' ts gb nb k m)) (fun _ i _ => n - (intOf i).toNat)
  case atStart => exact ⟨0, Nat.zero_le _, rfl, rfl, ⟨⟨rfl, rfl, rfl, Nat.le_refl _, fun _ _ => rfl⟩, fun _ _ _ => rfl⟩, Nat.le_refl _, cs, HT.out, Mks.zero⟩
  case round =>
    obtain ⟨m, hm, rfl, rfl, HI⟩ := hrel
    obtain ⟨hbel, hsz, cs', hT, hM⟩ := HI.out
    have HA0 := Lib.hid (And.intro hT (And.intro hM hbel))
    have HS0 := Lib.hid hsz
    clear HI hbel hsz
    by_cases hlt : m < n
    · have hI : (m : Int) < n := by omega
      obtain ⟨ab, cb, hrow, hab⟩ := hT.row m hlt
      have hbd := st_bound (nb := nb) (k := k) m (fun i hi => hT.small i (by omega))
      have hsm := hT.small m hlt
      have hbody := hT.body m hlt
      have hK0 : 0 ≤ st nb k m := by omega
      have hK1 : st nb k m ≤ 10000000 := by omega
      have HST := Lib.hid (show st nb k (m + 1) = st nb k m + 6 * (nb m : Int) + 3 from rfl)
      have c0 : wr.cell? ⟨g, m * 4, none⟩ = some (.slice ab (nb m) cb) := by rw [hT.box.cell]; exact hrow
      clear hbd hrow hT hM
      by_cases hz : nb m = 0
      · rw [hz] at c0
        have HZ := Lib.hid hz
        have HA := Lib.hid HA0.out
        have HS := Lib.hid HS0.out
        clear hz hbody hab
        go_wp2_with (go_at_call 57; (with_reducible refine (markstmts_nil _ ab cb _).mono ?_); rintro e w2 ⟨rfl, rfl⟩; refine Hid.out ?_)
        have hx : Box g cs' t w2 := HA.out.1.box
        obtain ⟨x1, c1⟩ : ∃ x, w2.cell? ⟨g, m * 4 + 1, none⟩ = some x := ⟨cs'[m * 4 + 1]'(by have := HA.out.1.big; omega), by rw [hx.cell]; simp⟩
        obtain ⟨x2, c2⟩ : ∃ x, w2.cell? ⟨g, m * 4 + 1 + 1, none⟩ = some x := ⟨cs'[m * 4 + 1 + 1]'(by have := HA.out.1.big; omega), by rw [hx.cell]; simp⟩
        obtain ⟨x3, c3⟩ : ∃ x, w2.cell? ⟨g, m * 4 + 1 + 2, none⟩ = some x := ⟨cs'[m * 4 + 1 + 2]'(by have := HA.out.1.big; omega), by rw [hx.cell]; simp⟩
        have f1 : w2.frozen? ⟨g, m * 4 + 1, none⟩ = false := hx.frozen _
        have f2 : w2.frozen? ⟨g, m * 4 + 1 + 1, none⟩ = false := hx.frozen _
        have f3 : w2.frozen? ⟨g, m * 4 + 1 + 2, none⟩ = false := hx.frozen _
        have hgs : w2.grownBy (((w2.setCell ⟨g, m * 4 + 1, none⟩ (.int .i64 (st nb k m))).setCell ⟨g, m * 4 + 1 + 1, none⟩ (.int .i64 (st nb k m + 1))).setCell ⟨g, m * 4 + 1 + 2, none⟩ (.int .i64 (st nb k m + 1 + 1))) (some g) := grown_trans (grown_trans (grown_setCell _ g _ _) (grown_setCell _ g _ _)) (grown_setCell _ g _ _)
        have hbx3 : Box g (setAll cs' (m * 4 + 1) [.int .i64 (st nb k m), .int .i64 (st nb k m + 1), .int .i64 (st nb k m + 1 + 1)]) t (((w2.setCell ⟨g, m * 4 + 1, none⟩ (.int .i64 (st nb k m))).setCell ⟨g, m * 4 + 1 + 1, none⟩ (.int .i64 (st nb k m + 1))).setCell ⟨g, m * 4 + 1 + 2, none⟩ (.int .i64 (st nb k m + 1 + 1))) := ((hx.set (m * 4 + 1) _).set (m * 4 + 1 + 1) _).set (m * 4 + 1 + 2) _
        have hM3 := HA.out.2.1.next HA.out.1 hlt (.inl HZ.out) hgs
        rw [show st nb k m + 6 * (nb m : Int) = st nb k m by rw [HZ.out]; simp] at hM3
        have H3 := Lib.hid (And.intro (HA.out.1.row_step hgs hbx3) (And.intro hM3 (bf_grown HA.out.2.2 HS.out hlo hgs HA.out.1.low hgh)))
        clear hx hgs hbx3 hM3
        refine Lib.hid ?_
        go_wp2
        go_roundw
        case rel => exact ⟨m + 1, by omega, by go_num, by rw [HST.out, HZ.out]; congr 1; simp; omega, H3.out.2.2, Nat.le_trans HS.out (by simp), _, H3.out.1, H3.out.2.1⟩
        case measure => simp [intOf]; omega
      · obtain ⟨hlg, hne, csb, hbb, hbs⟩ : lo ≤ gb m ∧ gb m ≠ g ∧ ∃ csb, Box (gb m) csb ts wr ∧ nb m * 6 ≤ csb.size := by
          rcases hbody with h | h
          · exact absurd h hz
          · exact h
        obtain rfl : ab = some ⟨gb m, 0, none⟩ := by
          rcases hab with h | h
          · exact absurd h hz
          · exact h
        have HZ := Lib.hid hz
        have HGH := Lib.hid (show gb m < hi from (HGB.out m hlt).resolve_left hz)
        have HN := Lib.hid (And.intro hlg (And.intro hne hbs))
        have HBB := Lib.hid hbb
        clear hz hbody hab hlg hne hbb hbs
        go_wp2_with (go_at_call 57; (with_reducible refine (markstmts_any _ (gb m) (nb m) cb csb ts HBB.out HN.out.2.2 _ hK0 (by omega) (by omega)).mono ?_); rintro e w2 ⟨rfl, hg2, csb', hb2, hs2, hn2⟩; refine Hid.out ?_)
        have HA := Lib.hid (And.intro (HA0.out.1.body_step hlt HZ.out hg2 hb2 (by rw [hs2]; exact HN.out.2.2)) (And.intro (HA0.out.2.1.body_step HA0.out.1 hlt HZ.out hg2) (bf_grown HA0.out.2.2 HS0.out hlo hg2 HN.out.1 HGH.out)))
        have HS := Lib.hid (Nat.le_trans HS0.out hg2.size)
        have HNOW := Lib.hid (show nb m = 0 ∨ ∃ csb, Box (gb m) csb ts w2 ∧ Nums csb (st nb k m) (nb m * 6) from .inr ⟨csb', hb2, hn2⟩)
        have hsmI : (nb m : Int) ≤ 1000 := by omega
        clear hg2 hb2 hs2 hn2
        have hx : Box g cs' t w2 := HA.out.1.box
        obtain ⟨x1, c1⟩ : ∃ x, w2.cell? ⟨g, m * 4 + 1, none⟩ = some x := ⟨cs'[m * 4 + 1]'(by have := HA.out.1.big; omega), by rw [hx.cell]; simp⟩
        obtain ⟨x2, c2⟩ : ∃ x, w2.cell? ⟨g, m * 4 + 1 + 1, none⟩ = some x := ⟨cs'[m * 4 + 1 + 1]'(by have := HA.out.1.big; omega), by rw [hx.cell]; simp⟩
        obtain ⟨x3, c3⟩ : ∃ x, w2.cell? ⟨g, m * 4 + 1 + 2, none⟩ = some x := ⟨cs'[m * 4 + 1 + 2]'(by have := HA.out.1.big; omega), by rw [hx.cell]; simp⟩
        have f1 : w2.frozen? ⟨g, m * 4 + 1, none⟩ = false := hx.frozen _
        have f2 : w2.frozen? ⟨g, m * 4 + 1 + 1, none⟩ = false := hx.frozen _
        have f3 : w2.frozen? ⟨g, m * 4 + 1 + 2, none⟩ = false := hx.frozen _
        have hgs : w2.grownBy (((w2.setCell ⟨g, m * 4 + 1, none⟩ (.int .i64 (st nb k m + 6 * (nb m : Int)))).setCell ⟨g, m * 4 + 1 + 1, none⟩ (.int .i64 (st nb k m + 6 * (nb m : Int) + 1))).setCell ⟨g, m * 4 + 1 + 2, none⟩ (.int .i64 (st nb k m + 6 * (nb m : Int) + 1 + 1))) (some g) := grown_trans (grown_trans (grown_setCell _ g _ _) (grown_setCell _ g _ _)) (grown_setCell _ g _ _)
        have hbx3 : Box g (setAll cs' (m * 4 + 1) [.int .i64 (st nb k m + 6 * (nb m : Int)), .int .i64 (st nb k m + 6 * (nb m : Int) + 1), .int .i64 (st nb k m + 6 * (nb m : Int) + 1 + 1)]) t (((w2.setCell ⟨g, m * 4 + 1, none⟩ (.int .i64 (st nb k m + 6 * (nb m : Int)))).setCell ⟨g, m * 4 + 1 + 1, none⟩ (.int .i64 (st nb k m + 6 * (nb m : Int) + 1))).setCell ⟨g, m * 4 + 1 + 2, none⟩ (.int .i64 (st nb k m + 6 * (nb m : Int) + 1 + 1))) := ((hx.set (m * 4 + 1) _).set (m * 4 + 1 + 1) _).set (m * 4 + 1 + 2) _
        have hM3 := HA.out.2.1.next HA.out.1 hlt HNOW.out hgs
        have H3 := Lib.hid (And.intro (HA.out.1.row_step hgs hbx3) (And.intro hM3 (bf_grown HA.out.2.2 HS.out hlo hgs HA.out.1.low hgh)))
        clear hx hgs hbx3 hM3
        refine Lib.hid ?_
        go_wp2
        go_roundw
        case rel => exact ⟨m + 1, by omega, by go_num, by rw [HST.out]; congr 1; omega, H3.out.2.2, Nat.le_trans HS.out (by simp), _, H3.out.1, H3.out.2.1⟩
        case measure => simp [intOf]; omega
    · obtain rfl : m = n := by omega
      have hI : ¬ (m : Int) < m := by omega
      clear hT hM
      go_wp2
      go_ret
      exact ⟨rfl, HA0.out.2.2, cs', HA0.out.1, HA0.out.2.1⟩
end Go.Proofs.YtlicadaecfgklaaGreat.mrk

/- The law's own copy, size and comparison of a list of tasks and of a program; nothing that was there is written. -/
namespace Go.Proofs.YtlicadaecfgklaaGreat.prg
open Go Go.ChangeShapes Go.WideShapes Go.ChangeAt Go.RowKit Go.Proofs.YtlicadaecfgklaaGreat.row Go.Proofs.YtlicadaecfgklaaGreat.val Go.Proofs.YtlicadaecfgklaaGreat.expr Go.Proofs.YtlicadaecfgklaaGreat.stm Go.Proofs.YtlicadaecfgklaaGreat.blk

theorem infoTask : (Tryz.prog.info? 47).map (fun i => (i.zero, i.size, i.bytes)) = some (some (tkV none 0 0 ⟨[], 0, 0, 0⟩), 4, 48) := by kernel_rfl
theorem prg_at {P : List Tk} {k : Nat} (h : k < P.length) : ∃ t, P[k]? = some t := ⟨P[k], by simp [h]⟩
theorem mem_at {P : List Tk} {k : Nat} {t : Tk} (h : P[k]? = some t) : t ∈ P := List.mem_of_getElem? h
/-- A copy of the list of tasks in new memory. -/
def MadeTks (w : World) (n : Nat) (P : List Tk) (e : Ending) (w' : World) : Prop :=
  ∃ a' : Option Addr, e = .returned (.slice a' n n) ∧ Hid (TkFrom w.heap.size w' a' n P) ∧ Below w.heap.size w w'
/-- A copy of the program in new memory. -/
def MadePrg (w : World) (n : Nat) (P : List Tk) (e : Ending) (w' : World) : Prop :=
  ∃ a' : Option Addr, e = .returned (.agg #[.slice a' n n]) ∧ Hid (TkFrom w.heap.size w' a' n P) ∧ Below w.heap.size w w'
set_option maxHeartbeats 2000000 in
set_option maxRecDepth 100000 in
theorem totasks_any (w : World) (a : Option Addr) (n cap : Nat) (P : List Tk) (hz : Sizes P) (h : TkRow w a n P) : Calls Tryz.prog 20 #[.slice a n cap] w (MadeTks w n P) := by
  obtain ⟨i0, hi, hz0, hz1, hz2⟩ := info_parts infoTask
  have HL := Lib.hid h
  have HZ := Lib.hid hz
  have hn : (n : Int) ≤ 1048576 := by have := hz.1; rw [h.1] at this; omega
  clear h hz
  go_enter Tryz.func20, Tryz.ntmps20
  go_wp2_with ((refine wpList_make_full _ rfl _ _ 28 rfl w.heap.size 47 i0 _ 4 Tryz.underlying28 hi hz0 hz1 .i64 .i64 _ _ n rfl rfl rfl rfl (by rw [hz2]; omega) (by unfold maxLen; omega) (Nat.le_refl _) ?_); intro w1 hown1 hg1; refine Hid.out ?_)
  have hsz1 := hown1.1
  have hx1 := own_boxz hown1
  have hb1 := below_grown hg1
  obtain ⟨cs0, hcs0⟩ : ∃ cs0, (madeCells (tkV none 0 0 ⟨[], 0, 0, 0⟩).cells (n * 4)).toList.toArray = cs0 := ⟨_, rfl⟩
  rw [hcs0] at hx1
  have hs0 : cs0.size = n * 4 := by rw [← hcs0, List.size_toArray]; exact hsz1
  clear hg1 hown1 hsz1 hcs0
  refine Lib.hid ?_
  go_wp2
  go_loopw [4] (fun i wr => ∃ (k : Nat) (cs : Array Value), k ≤ n ∧ i = .int .i64 k ∧ Box w.heap.size cs 47 wr ∧ Hid (cs.size = n * 4 ∧ Pref wr P w.heap.size cs k) ∧ Below w.heap.size w wr) (fun i _ => n - (intOf i).toNat)
  case atStart => exact ⟨0, cs0, Nat.zero_le _, rfl, hx1, ⟨hs0, Pref.zero _ _ _ _⟩, hb1⟩
  case round =>
    obtain ⟨k, cs, hk, rfl, hbx, hPF, hbel⟩ := hrel
    by_cases hlt : k < n
    · obtain ⟨b, off, t, rfl, hlb, ht, ab, nb, cb, hrg, hbc, hrow⟩ := (HL.out.below hbel).2 k hlt
      have hnb : (nb : Int) ≤ 1048576 := by have := HZ.out.2 t (mem_at ht); rw [hrow.1] at this; omega
      have HR := Lib.hid (And.intro hrg (And.intro ht (And.intro hbx (And.intro hbel hrow))))
      have hI : (k : Int) < n := by omega
      clear hrg ht hbx hbel hrow
      go_wp2_with (first
        | (refine wpList_load_mid rfl 58 _ rfl b (off + k * 4) rfl (tkC ab nb cb t) _ HR.out.1 Tryz.underlying58 rfl (by kernel_rfl) ?_)
        | (go_at_call 40; refine (totask_any t ab nb cb _ hnb HR.out.2.2.2.2).mono ?_; rintro e w2 ⟨g2, n2, rfl, hg2, hs2, hb2⟩; refine Hid.out ?_))
      have H2 := Lib.hid (And.intro (HR.out.2.2.1.below hb2) (And.intro (below_then HR.out.2.2.2.1 hb2) (hPF.out.2.below hb2)))
      have HGL := Lib.hid HR.out.2.2.1.lt
      have HNE := Lib.hid (show w.heap.size < g2 by have := HR.out.2.2.1.lt; omega)
      clear hg2
      have HSZ := Lib.hid (show k * 4 + 4 ≤ cs.size by rw [hPF.out.1]; omega)
      clear hb2
      refine Lib.hid ?_
      go_wp2_with ((refine wpList_store_part rfl 47 _ _ rfl w.heap.size (k * 4) _ _ H2.out.1 #[.slice (some ⟨g2, 0, none⟩) n2 n2, .int .i64 t.o, .int .i64 t.x, .int .i64 t.y] rfl rfl HSZ.out (by kernel_rfl) (by simp [Value.oneCell']) ?_); intro w3 hx3 hg3; refine Hid.out ?_)
      have HS3 := StRow.grown_box hs2.out hg3 (fun e => by have := Option.some.inj e; have := HNE.out; omega)
      have H3 := Lib.hid (And.intro (show Box w.heap.size (setAll cs (k * 4) (tkC (some ⟨g2, 0, none⟩) n2 n2 t)) 47 w3 from hx3) (And.intro (And.intro (show (setAll cs (k * 4) (tkC (some ⟨g2, 0, none⟩) n2 n2 t)).size = n * 4 by rw [setAll_size]; exact hPF.out.1) ((H2.out.2.2.grown hg3).next HR.out.2.1 HSZ.out HNE.out HS3)) (H2.out.2.1.grown hg3 H2.out.2.1.size (fun j hj => by cases hj; exact Nat.le_refl _))))
      clear hx3 hg3 HS3
      refine Lib.hid ?_
      go_wp2
      go_roundw
      case rel => exact ⟨k + 1, _, by omega, by go_num, H3.out.1, H3.out.2.1, H3.out.2.2⟩
      case measure => simp [intOf]; omega
    · obtain rfl : k = n := by omega
      have hI : ¬ (k : Int) < k := by omega
      have HB := Lib.hid (And.intro (hPF.out.2.row HL.out.1 hbx) hbel)
      clear hbx hbel
      go_wp2
      go_ret
      exact ⟨_, rfl, HB.out.1, HB.out.2⟩
end Go.Proofs.YtlicadaecfgklaaGreat.prg
