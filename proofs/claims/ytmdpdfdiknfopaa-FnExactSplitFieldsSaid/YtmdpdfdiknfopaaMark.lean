/- The contracts of the laws' own helpers over rows of strings: equal rows are found equal; a marked row is found marked. -/
import Derived.Test.YtmdpdfdiknfopaaSplB
import Derived.Test.YtmdpdfdiknfopaaFmtA
import Derived.Deep.QuietTactic
import Derived.BigQuiet
import Derived.Deep.RegionHeld3
import Derived.Laws.Pointers
import Derived.WalkSpells
namespace Go.Proofs.Ytmdpdfdiknfopaa.mark
open Go.ChangeShapes Go.WideShapes Go.ChangeAt Go.RowKit Go.Proofs.Ytmdpdfdiknfopaa.byt Go.Proofs.Ytmdpdfdiknfopaa.spl Go.Proofs.Ytmdpdfdiknfopaa.dec Go.Proofs.Ytmdpdfdiknfopaa.hex

theorem ret_i {k : IntKind} {a b : Int} (h : a = b) : Ending.returned (.int k a) = .returned (.int k b) := by rw [h]
theorem grown_drewN {w w1 : World} {r : Option Nat} (h : w.grownBy w1 r) (n : Nat) : w.grownBy (w1.drewN n) r := ⟨h.os, h.tape, h.output, h.size, h.block⟩
theorem grown_refl (w : World) (r : Option Nat) : w.grownBy w r := ⟨rfl, rfl, rfl, Nat.le_refl _, fun _ _ _ => rfl⟩
theorem grown_below {w w' : World} (h : Below w.heap.size w w') (r : Option Nat) : w.grownBy w' r := ⟨h.os, h.tape, h.output, h.size, fun k hk _ => h.block k hk⟩
theorem below_grown {w w' : World} (h : w.grownBy w' none) : Below w.heap.size w w' := ⟨h.os, h.tape, h.output, h.size, fun k hk => h.block k hk (by simp)⟩
theorem grown_trans {w w1 w2 : World} {r : Option Nat} (h : w.grownBy w1 r) (h2 : w1.grownBy w2 r) : w.grownBy w2 r :=
  ⟨h2.os.trans h.os, h2.tape.trans h.tape, h2.output.trans h.output, Nat.le_trans h.size h2.size,
    fun k hk hne => (h2.block k (Nat.lt_of_lt_of_le hk h.size) hne).trans (h.block k hk hne)⟩

/-- A row of strings. -/
def strs (L : List ByteArray) : List Value := L.map Value.string
theorem strCells_strs (F : List (List UInt8)) : strCells F = strs (F.map fun f => ⟨f.toArray⟩) := by simp [strCells, strs]

theorem own_at {w : World} {base : Nat} {a : Option Addr} {n cap : Nat} {L : List ByteArray} (h : w.ownsRow base 9 1 (.slice a n cap) n (strs L)) {k : Nat} (hk : k < n) :
    ∃ (g : Nat), a = some ⟨g, 0, none⟩ ∧ base ≤ g ∧ g < w.heap.size ∧ w.cell? ⟨g, k, none⟩ = (L[k]?).map Value.string ∧ k < L.length := by
  have hl : L.length = n := by have := h.1; simp [strs] at this; omega
  obtain ⟨g, c, hv, hb, hg⟩ := h.form (by omega)
  injection hv with h1 h2 h3
  subst h1
  refine ⟨g, rfl, hb, hg, ?_, by omega⟩
  rw [h.cellAt k (by omega)]; simp [strs]

set_option maxHeartbeats 1000000 in
theorem eq_any (w : World) (b1 b2 : Nat) (a a' : Option Addr) (n cap cap' : Nat) (L : List ByteArray) (hn : (n : Int) ≤ 1048576)
    (h1 : w.ownsRow b1 9 1 (.slice a n cap) n (strs L)) (h2 : w.ownsRow b2 9 1 (.slice a' n cap') n (strs L)) :
    Calls Try.prog 17 #[.slice a n cap, .slice a' n cap'] w fun e w' => e = .returned (.bool true) ∧ w.grownBy w' none := by
  have HC : Hid (∀ k, k < n → ∃ (g g' : Nat) (X : ByteArray), a = some ⟨g, 0, none⟩ ∧ a' = some ⟨g', 0, none⟩ ∧ w.cell? ⟨g, k, none⟩ = some (.string X) ∧ w.cell? ⟨g', k, none⟩ = some (.string X)) := by
    intro k hk
    obtain ⟨g, e1, _, _, c1, hl⟩ := own_at h1 hk
    obtain ⟨g', e2, _, _, c2, _⟩ := own_at h2 hk
    exact ⟨g, g', L[k], e1, e2, by rw [c1]; simp [hl], by rw [c2]; simp [hl]⟩
  clear h1 h2
  go_enter Try.func17, Try.ntmps17
  go_wp2
  go_loopw [5] (fun i wr => ∃ k : Nat, k ≤ n ∧ i = .int .i64 k ∧ w.grownBy wr none) (fun i _ => n - (intOf i).toNat)
  case atStart => exact ⟨0, Nat.zero_le _, rfl, grown_refl _ _⟩
  case round =>
    obtain ⟨k, hk, rfl, hg⟩ := hrel
    by_cases hlt : k < n
    · obtain ⟨g, g', X, rfl, rfl, c1, c2⟩ := HC.out k hlt
      have d1 := hg.cell c1 (by simp)
      have d2 := hg.cell c2 (by simp)
      have hI : (k : Int) < n := by omega
      clear c1 c2
      go_wp2
      go_quiet (fail)
      go_wp2
      go_roundw
      case rel => exact ⟨k + 1, by omega, by go_num, grown_drewN hg _⟩
      case measure => simp [intOf]; omega
    · go_wp2
      go_ret
      exact ⟨rfl, hg⟩

/-- The text of a mark. -/
def mtext (k : Nat) : ByteArray := ⟨(109 :: Lib.decDigits k).toArray⟩

theorem left_len20 {n m : Int} {l : List UInt8} (h : dec.Left n m l) (hn0 : 0 ≤ n) (hn : n ≤ 1000000000) : l.length ≤ 10 := by
  have h1 := left_len h
  have h2 : ∀ (k n : Nat), n < 10 ^ (k + 1) → (Lib.decDigits n).length ≤ k + 1 := by
    intro k
    induction k with
    | zero => intro n h; rw [Lib.decDigits, dif_pos (by simpa using h)]; simp
    | succ k ih =>
      intro n h
      rw [Lib.decDigits]
      by_cases h10 : n < 10
      · rw [dif_pos h10]; simp
      · rw [dif_neg h10]
        have := ih (n / 10) (by rw [Nat.pow_succ] at h; omega)
        simp; omega
  have := h2 9 n.natAbs (by omega)
  omega

set_option maxHeartbeats 1000000 in
set_option maxRecDepth 100000 in
theorem text_any (q : Nat) (hq0 : (1 : Int) ≤ q) (hq1 : (q : Int) ≤ 1000000000) (w : World) :
    Calls Try.prog 28 #[.int .i64 q] w fun e w' => e = .returned (.string (mtext q)) ∧ Below w.heap.size w w' := by
  have HLEN : Hid (∀ m l, dec.Left q m l → l.length ≤ 10) := fun m l h => left_len20 h (by omega) hq1
  have HS := Lib.hid (left_start (n := (q : Int)) (by omega))
  go_enter Try.func28, Try.ntmps28
  go_wp2
  go_loopw [0, 3] (fun a s wr => ∃ (m : Int) (l : List UInt8), a = .int .i64 m ∧ s = .string ⟨l.toArray⟩ ∧ 0 ≤ m ∧ m ≤ 1000000000 ∧ Hid (dec.Left q m l) ∧ Below w.heap.size w wr) (fun a _ _ => (intOf a).toNat)
  case atStart => exact ⟨q, [], rfl, rfl, by omega, hq1, HS, Below.refl _ _⟩
  case round =>
    obtain ⟨m, l, rfl, rfl, hm0, hm1, hL, hbel⟩ := hrel
    have hb2 := hbel.size
    by_cases h0 : 0 < m
    · have hstep := left_step hL.out (by omega)
      have hdg : (digit (m.natAbs % 10)).toNat = 48 + m.natAbs % 10 := by rw [digit_ofNat _ (by omega)]; simp; omega
      have hl := HLEN.out _ _ hstep
      rw [show m.tdiv 10 = m / 10 from Int.tdiv_eq_ediv_of_nonneg hm0] at hstep
      have HST := Lib.hid hstep
      have hcv : (convert 22 9 (.slice (some ⟨wr.heap.size, 0, none⟩) 1 1)).run Try.prog (wr.alloc (.cells #[.int .u8 (48 + m % 10)] 5)) = .ok (.string ⟨#[digit (m.natAbs % 10)]⟩) (wr.alloc (.cells #[.int .u8 (48 + m % 10)] 5)) :=
        run_convert_bytes_back (P := Try.prog) (wr.alloc (.cells #[.int .u8 (48 + m % 10)] 5)) 22 9 5 ⟨wr.heap.size, 0, none⟩ 1 [digit (m.natAbs % 10)] Try.underlying22 Try.underlying5 Try.underlying9 (fun j hj => by
          have : j = 0 := by simp at hj; omega
          subst this
          rw [show ((⟨wr.heap.size, 0, none⟩ : Addr).add 0) = ⟨wr.heap.size, 0, none⟩ from rfl, World.cell?_alloc_mark]
          simp only [List.getElem_cons_zero]
          rw [hdg]
          show some (Value.int .u8 (48 + m % 10)) = _
          congr 2; omega)
      have hadd : (Op.stringOp .add ⟨#[digit (m.natAbs % 10)]⟩ ⟨l.toArray⟩).run Try.prog (wr.alloc (.cells #[.int .u8 (48 + m % 10)] 5)) = .ok (.string ⟨(digit (m.natAbs % 10) :: l).toArray⟩) (wr.alloc (.cells #[.int .u8 (48 + m % 10)] 5)) := by
        rw [run_string_add_sum (P := Try.prog) _ ⟨#[digit (m.natAbs % 10)]⟩ ⟨l.toArray⟩ (by simp at hl; simp [ByteArray.size]; omega)]
        rw [show (⟨#[digit (m.natAbs % 10)]⟩ ++ ⟨l.toArray⟩ : ByteArray) = ⟨(digit (m.natAbs % 10) :: l).toArray⟩ from str_app [digit (m.natAbs % 10)] l]
      clear hstep hdg hl
      go_wp2
      go_roundw
      case rel => exact ⟨m / 10, _, rfl, rfl, by omega, by omega, HST, hbel.alloc hb2 _⟩
      case measure => simp [intOf]; omega
    · have hm : m = 0 := by omega
      subst hm
      have hl := HLEN.out _ _ hL.out
      have hE := left_end hL.out
      have hadd := run_string_add_sum (P := Try.prog) wr ⟨#[109]⟩ ⟨l.toArray⟩ (by simp [ByteArray.size]; omega)
      rw [show (⟨#[109]⟩ ++ ⟨l.toArray⟩ : ByteArray) = mtext q by rw [mtext, ← show (q : Int).natAbs = q from rfl, hE]; exact str_app [109] l] at hadd
      clear hE hl
      go_wp2
      go_ret
      exact ⟨rfl, hbel⟩

/-- The first 'k' of the strings are marks, from 'q' on. -/
def Marked (L : List ByteArray) (q k : Nat) : Prop := ∀ i, i < k → L[i]? = some (mtext (q + i))

theorem strs_set (L : List ByteArray) (k : Nat) (x : ByteArray) : (strs L).set k (.string x) = strs (L.set k x) := by simp [strs, List.map_set]
theorem marked_set {L : List ByteArray} {q k : Nat} (h : Marked L q k) (hk : k < L.length) : Marked (L.set k (mtext (q + k))) q (k + 1) := by
  intro i hi
  by_cases e : i = k
  · subst e; simp [hk]
  · rw [List.getElem?_set_ne (by omega)]; exact h i (by omega)

set_option maxHeartbeats 1000000 in
theorem mark_any (w : World) (base : Nat) (a : Option Addr) (n cap q : Nat) (L : List ByteArray) (hn : (n : Int) ≤ 1048576) (hq0 : (1 : Int) ≤ q) (hq1 : (q : Int) ≤ 1048576)
    (h : w.ownsRow base 9 1 (.slice a n cap) n (strs L)) :
    Calls Try.prog 18 #[.slice a n cap, .int .i64 q] w fun e w' => e = .returned (.int .i64 ((q + n : Nat) : Int)) ∧ w.grownBy w' (Value.slice a n cap).ownBlock ∧ ∃ L', w'.ownsRow base 9 1 (.slice a n cap) n (strs L') ∧ Marked L' q n := by
  go_enter Try.func18, Try.ntmps18
  go_wp2
  go_loopw [1, 5] (fun r i wr => ∃ (k p : Nat) (L' : List ByteArray), k ≤ n ∧ i = .int .i64 k ∧ r = .int .i64 p ∧ Hid (p = q + k) ∧ (p : Int) ≤ 2097152 ∧ (1 : Int) ≤ p ∧ w.grownBy wr (Value.slice a n cap).ownBlock ∧ wr.ownsRow base 9 1 (.slice a n cap) n (strs L') ∧ Hid (Marked L' q k)) (fun _ i _ => n - (intOf i).toNat)
  case atStart => exact ⟨0, q, L, Nat.zero_le _, rfl, rfl, rfl, by omega, hq0, grown_refl _ _, h, fun i hi => by omega⟩
  case round =>
    obtain ⟨k, p, L', hk, rfl, rfl, hp, hp1, hp0, hg, hown, hM⟩ := hrel
    by_cases hlt : k < n
    · obtain ⟨g, rfl, hbg, hgs, hcell, hll⟩ := own_at hown hlt
      have hI : (k : Int) < n := by omega
      have HT : Hid (∀ w', Below wr.heap.size wr w' → ∃ X, w'.cell? ⟨g, k, none⟩ = some (.string X)) := fun w' hb => ⟨L'[k], by rw [hb.cell (p := ⟨g, k, none⟩) hgs, hcell]; simp [hll]⟩
      have HF : Hid (∀ w', Below wr.heap.size wr w' → w'.frozen? ⟨g, k, none⟩ = false) := fun w' hb => by rw [hb.frozen (p := ⟨g, k, none⟩) hgs]; exact hown.frozenAt k
      have HO := Lib.hid hown
      have HG := Lib.hid hg
      clear hown hg hcell
      go_wp2_with (go_at_call 28; refine (text_any p hp0 (by omega) _).mono ?_; rintro e w1 ⟨rfl, hb1⟩; obtain ⟨X, hX⟩ := HT.out w1 hb1; have hfz := HF.out w1 hb1)
      have hown1 := HO.out.kept (grown_below hb1 none) (by simp [Value.ownBlock])
      obtain ⟨hown2, hgrow2⟩ := hown1.stored k (.string (mtext p))
      rw [strs_set] at hown2
      have hg2 : w.grownBy (w1.setCell ⟨g, k, none⟩ (.string (mtext p))) (some g) := grown_trans (grown_trans HG.out (grown_below hb1 _)) hgrow2
      have HM2 : Hid (Marked (L'.set k (mtext p)) q (k + 1)) := by rw [hp.out]; exact marked_set hM.out hll
      have HP2 := Lib.hid (show p + 1 = q + (k + 1) by have := hp.out; omega)
      have hp3 : ((p + 1 : Nat) : Int) ≤ 2097152 := by have := hp.out; omega
      have HO2 := Lib.hid hown2
      have HG2 := Lib.hid hg2
      clear hown2 hown1 hgrow2 hg2
      go_roundw
      case rel => exact ⟨k + 1, p + 1, _, by omega, by go_num, by go_num, HP2, hp3, by omega, HG2.out, HO2.out, HM2⟩
      case measure => simp [intOf]; omega
    · have hkn : k = n := by omega
      subst hkn
      obtain rfl : p = q + k := hp.out
      clear hp
      have HH := Lib.hid hown
      have HG := Lib.hid hg
      clear hown hg
      go_wp2
      go_ret
      exact ⟨ret_i (by omega), HG.out, L', HH.out, hM.out⟩

set_option maxHeartbeats 1000000 in
theorem held_any (w : World) (base : Nat) (a : Option Addr) (n cap q : Nat) (L : List ByteArray) (hn : (n : Int) ≤ 1048576) (hq0 : (1 : Int) ≤ q) (hq1 : (q : Int) ≤ 1048576)
    (h : w.ownsRow base 9 1 (.slice a n cap) n (strs L)) (hM : Marked L q n) :
    Calls Try.prog 19 #[.slice a n cap, .int .i64 q] w fun e w' => e = .returned (.int .i64 ((q + n : Nat) : Int)) ∧ Below w.heap.size w w' := by
  have HC : Hid (∀ k, k < n → ∃ g, a = some ⟨g, 0, none⟩ ∧ g < w.heap.size ∧ w.cell? ⟨g, k, none⟩ = some (.string (mtext (q + k)))) := by
    intro k hk
    obtain ⟨g, e1, _, hg, c1, hl⟩ := own_at h hk
    exact ⟨g, e1, hg, by rw [c1, hM k hk]; rfl⟩
  clear h hM
  go_enter Try.func19, Try.ntmps19
  go_wp2
  go_loopw [1, 5] (fun r i wr => ∃ (k p : Nat), k ≤ n ∧ i = .int .i64 k ∧ r = .int .i64 p ∧ Hid (p = q + k) ∧ (p : Int) ≤ 2097152 ∧ (1 : Int) ≤ p ∧ Below w.heap.size w wr) (fun _ i _ => n - (intOf i).toNat)
  case atStart => exact ⟨0, q, Nat.zero_le _, rfl, rfl, rfl, by omega, hq0, Below.refl _ _⟩
  case round =>
    obtain ⟨k, p, hk, rfl, rfl, hp, hp1, hp0, hbel⟩ := hrel
    by_cases hlt : k < n
    · obtain ⟨g, rfl, hgs, hc⟩ := HC.out k hlt
      rw [← hp.out] at hc
      have hI : (k : Int) < n := by omega
      have hc1 : wr.cell? ⟨g, k, none⟩ = some (.string (mtext p)) := (hbel.cell (p := ⟨g, k, none⟩) hgs).trans hc
      have hsz := hbel.size
      have hgs2 : g < wr.heap.size := by omega
      have hp3 : ((p + 1 : Nat) : Int) ≤ 2097152 := by have := hp.out; omega
      have HP2 := Lib.hid (show p + 1 = q + (k + 1) by have := hp.out; omega)
      clear hc
      go_wp2
      go_region_held3 (fun w' => w'.cell? ⟨g, k, none⟩ = some (.string (mtext p))) (first | go_keep | (rw [hb1.cell (by simp; omega)]; assumption))
        (first | (go_at_call 28; refine (text_any p hp0 (by omega) _).mono ?_; rintro e w1 ⟨rfl, hb1⟩))
      have hbel1 : Below w.heap.size w w1 := hbel.trans ((Below.drew (Below.refl _ wr)).trans (hb1.mono hsz))
      clear hc1 hb1
      go_wp2
      go_roundw
      case rel => exact ⟨k + 1, p + 1, by omega, by go_num, by go_num, HP2, hp3, by omega, hbel1⟩
      case measure => simp [intOf]; omega
    · have hkn : k = n := by omega
      subst hkn
      obtain rfl : p = q + k := hp.out
      clear hp
      go_wp2
      go_ret
      exact ⟨ret_i (by omega), hbel⟩
end Go.Proofs.Ytmdpdfdiknfopaa.mark
