/- Several texts in one: QCtl. -/
import Derived.Test.YtmgeecdgebemdaaGreatDoorGSigQ1
import Derived.OwnWalk

/- Chapter 9's control word: what packing and unpacking return, of the model and of the program; nothing is written; no condition but that the word is an int. -/
namespace Go.Proofs.YtmgeecdgebemdaaGreatDoor.ctl
open Go.ChangeShapes Go.WideShapes Go.ChangeAt Go.RowKit Go.Proofs.YtmgeecdgebemdaaGreatDoor.row Go.Proofs.YtmgeecdgebemdaaGreatDoor.val Go.Proofs.YtmgeecdgebemdaaGreatDoor.expr
def ctlOk (t c n : Int) : Bool := decide (0 ≤ t ∧ t ≤ 5 ∧ 0 ≤ c ∧ c ≤ 8 ∧ 0 ≤ n ∧ n ≤ 24)
theorem ctlOk_iff (t c n : Int) : ctlOk t c n = true ↔ 0 ≤ t ∧ t ≤ 5 ∧ 0 ≤ c ∧ c ≤ 8 ∧ 0 ≤ n ∧ n ≤ 24 := by simp [ctlOk]
theorem ctlOk_no {t c n : Int} (h : ¬ (0 ≤ t ∧ t ≤ 5 ∧ 0 ≤ c ∧ c ≤ 8 ∧ 0 ≤ n ∧ n ≤ 24)) : ctlOk t c n = false := by
  rw [← Bool.not_eq_true, ctlOk_iff]; exact h
def packV (t c n : Int) : Int := if ctlOk t c n then t + 8 * (c + 16 * n) else -1
theorem packV_yes {t c n : Int} (h : ctlOk t c n = true) : packV t c n = t + 8 * (c + 16 * n) := if_pos h
theorem packV_no {t c n : Int} (h : ctlOk t c n = false) : packV t c n = -1 := if_neg (by rw [h]; decide)
def wT (w : Int) : Int := w.tmod 8
def wC (w : Int) : Int := (w.tdiv 8).tmod 16
def wN (w : Int) : Int := (w.tdiv 8).tdiv 16
def wOk (w : Int) : Bool := ctlOk (wT w) (wC w) (wN w)
def unT (w : Int) : Int := if wOk w then wT w else -1
def unC (w : Int) : Int := if wOk w then wC w else -1
def unN (w : Int) : Int := if wOk w then wN w else -1
theorem parts_pos {w : Int} (h : 0 ≤ w) : wT w = w % 8 ∧ wC w = w / 8 % 16 ∧ wN w = w / 128 := by
  have e : w.tdiv 8 = w / 8 := Int.tdiv_eq_ediv_of_nonneg h
  have h2 : 0 ≤ w / 8 := by omega
  unfold wT wC wN
  rw [e, Int.tmod_eq_emod_of_nonneg h, Int.tmod_eq_emod_of_nonneg h2, Int.tdiv_eq_ediv_of_nonneg h2]
  omega
theorem parts_neg {w : Int} (h : w < 0) : wOk w = false := by
  have h1 : w.tmod 8 = -((-w) % 8) := by
    have := Int.neg_tmod (a := -w) (b := 8); rw [Int.neg_neg] at this; rw [this, Int.tmod_eq_emod_of_nonneg (by omega)]
  have h2 : w.tdiv 8 = -((-w) / 8) := by
    have := Int.neg_tdiv (a := -w) (b := 8); rw [Int.neg_neg] at this; rw [this, Int.tdiv_eq_ediv_of_nonneg (by omega)]
  have h3 : (w.tdiv 8).tmod 16 = -(((-w) / 8) % 16) := by
    rw [h2, Int.neg_tmod, Int.tmod_eq_emod_of_nonneg (by omega)]
  have h4 : (w.tdiv 8).tdiv 16 = -(((-w) / 8) / 16) := by
    rw [h2, Int.neg_tdiv, Int.tdiv_eq_ediv_of_nonneg (by omega)]
  apply ctlOk_no
  unfold wT wC wN
  rw [h1, h3, h4]
  omega
theorem wOk_pos {w : Int} (h : wOk w = true) : 0 ≤ w := by
  by_cases hw : w < 0
  · rw [parts_neg hw] at h; cases h
  · omega
theorem pack_parts {w : Int} (h : wOk w = true) : wT w + 8 * (wC w + 16 * wN w) = w ∧ 0 ≤ w ∧ w ≤ 3141 := by
  have h0 := wOk_pos h
  obtain ⟨e1, e2, e3⟩ := parts_pos h0
  have hb := (ctlOk_iff _ _ _).1 h
  rw [e1, e2, e3] at *
  omega
theorem parts_pack {t c n : Int} (h : ctlOk t c n = true) : wT (packV t c n) = t ∧ wC (packV t c n) = c ∧ wN (packV t c n) = n := by
  have hb := (ctlOk_iff _ _ _).1 h
  rw [packV_yes h]
  obtain ⟨e1, e2, e3⟩ := parts_pos (w := t + 8 * (c + 16 * n)) (by omega)
  rw [e1, e2, e3]
  omega
/-- The three parts of a word. -/
abbrev tri (x y z : Int) : Value := .tuple #[.int .i64 x, .int .i64 y, .int .i64 z]
def RetT (w : World) (x y z : Int) (e : Ending) (w' : World) : Prop := e = .returned (tri x y z) ∧ w = w'
theorem bd8 (w : Int) : -7 ≤ w.tmod 8 ∧ w.tmod 8 ≤ 7 := by
  have := Int.tmod_lt_of_pos w (show (0 : Int) < 8 by decide)
  have := Int.lt_tmod_of_pos w (show (0 : Int) < 8 by decide)
  omega
theorem bd16 (w : Int) : -15 ≤ w.tmod 16 ∧ w.tmod 16 ≤ 15 := by
  have := Int.tmod_lt_of_pos w (show (0 : Int) < 16 by decide)
  have := Int.lt_tmod_of_pos w (show (0 : Int) < 16 by decide)
  omega
theorem bdq (w : Int) (d : Nat) (hw : -9223372036854775808 ≤ w ∧ w ≤ 9223372036854775807) (hd : 2 ≤ d) : -9223372036854775808 ≤ w.tdiv d ∧ w.tdiv d ≤ 9223372036854775807 := by
  have h1 : (w.tdiv d).natAbs = w.natAbs / d := by rw [Int.natAbs_tdiv]; rfl
  have h2 : w.natAbs / d ≤ w.natAbs / 2 := Nat.div_le_div_left hd (by decide)
  omega

set_option maxRecDepth 100000 in
theorem spec_pack (t c n : Int) (w : World) : Calls Tryz.prog 53 #[.int .i64 t, .int .i64 c, .int .i64 n] w (Ret w (packV t c n)) := by
  cases h1 : (decide (0 ≤ t) && decide (t ≤ 5))
  · have HP := Lib.hid (packV_no (t := t) (c := c) (n := n) (ctlOk_no (by simp at h1; omega)))
    have H1 := Lib.hid h1
    clear h1
    go_enter Tryz.func53, Tryz.ntmps53
    go_wp2_with (go_at_call 63; refine (in_any _ _ _ _ H1.out _).mono ?_; rintro e w1 ⟨rfl, rfl⟩)
    go_ret
    exact ⟨ret_i HP.out.symm, rfl⟩
  · cases h2 : (decide (0 ≤ c) && decide (c ≤ 8))
    · have HP := Lib.hid (packV_no (t := t) (c := c) (n := n) (ctlOk_no (by simp at h2; omega)))
      have H1 := Lib.hid h1
      have H2 := Lib.hid h2
      clear h1 h2
      go_enter Tryz.func53, Tryz.ntmps53
      go_wp2_with (go_at_call 63; refine (in_any _ _ _ _ (by first | exact H1.out | exact H2.out) _).mono ?_; rintro e w1 ⟨rfl, rfl⟩)
      go_ret
      exact ⟨ret_i HP.out.symm, rfl⟩
    · cases h3 : (decide (0 ≤ n) && decide (n ≤ 24))
      · have HP := Lib.hid (packV_no (t := t) (c := c) (n := n) (ctlOk_no (by simp at h3; omega)))
        have H1 := Lib.hid h1
        have H2 := Lib.hid h2
        have H3 := Lib.hid h3
        clear h1 h2 h3
        go_enter Tryz.func53, Tryz.ntmps53
        go_wp2_with (go_at_call 63; refine (in_any _ _ _ _ (by first | exact H1.out | exact H2.out | exact H3.out) _).mono ?_; rintro e w1 ⟨rfl, rfl⟩)
        go_ret
        exact ⟨ret_i HP.out.symm, rfl⟩
      · have HB := (show (0 ≤ t ∧ t ≤ 5) ∧ (0 ≤ c ∧ c ≤ 8) ∧ (0 ≤ n ∧ n ≤ 24) by simp at h1 h2 h3; omega)
        obtain ⟨⟨b1, b2⟩, ⟨b3, b4⟩, b5, b6⟩ := HB
        have HP := Lib.hid (packV_yes (t := t) (c := c) (n := n) ((ctlOk_iff _ _ _).2 (by omega)))
        have H1 := Lib.hid h1
        have H2 := Lib.hid h2
        have H3 := Lib.hid h3
        clear h1 h2 h3
        go_enter Tryz.func53, Tryz.ntmps53
        go_wp2_with (go_at_call 63; refine (in_any _ _ _ _ (by first | exact H1.out | exact H2.out | exact H3.out) _).mono ?_; rintro e w1 ⟨rfl, rfl⟩)
        go_ret
        exact ⟨ret_i HP.out.symm, rfl⟩
set_option maxRecDepth 100000 in
theorem impl_ctlok (t c n : Int) (r : Bool) (hr : ctlOk t c n = r) (w : World) : Calls Tryz.prog 95 #[.int .i64 t, .int .i64 c, .int .i64 n] w (RetB w r) := by
  subst hr
  by_cases h1 : 0 ≤ t
  case neg =>
    rw [ctlOk_no (by omega)]
    go_enter Tryz.func95, Tryz.ntmps95
    go_wp2
    go_ret
    exact ⟨rfl, rfl⟩
  by_cases h2 : t < 6
  case neg =>
    rw [ctlOk_no (by omega)]
    go_enter Tryz.func95, Tryz.ntmps95
    go_wp2
    go_ret
    exact ⟨rfl, rfl⟩
  by_cases h3 : 0 ≤ c
  case neg =>
    rw [ctlOk_no (by omega)]
    go_enter Tryz.func95, Tryz.ntmps95
    go_wp2
    go_ret
    exact ⟨rfl, rfl⟩
  by_cases h4 : c ≤ 8
  case neg =>
    rw [ctlOk_no (by omega)]
    go_enter Tryz.func95, Tryz.ntmps95
    go_wp2
    go_ret
    exact ⟨rfl, rfl⟩
  by_cases h5 : 0 ≤ n
  case neg =>
    rw [ctlOk_no (by omega)]
    go_enter Tryz.func95, Tryz.ntmps95
    go_wp2
    go_ret
    exact ⟨rfl, rfl⟩
  have HB : Hid (ctlOk t c n = decide (n ≤ 24)) := by
    show ctlOk t c n = decide (n ≤ 24)
    by_cases h6 : n ≤ 24
    · rw [(ctlOk_iff _ _ _).2 (by omega), decide_eq_true h6]
    · rw [ctlOk_no (by omega), decide_eq_false h6]
  go_enter Tryz.func95, Tryz.ntmps95
  go_wp2
  go_ret
  exact ⟨by rw [HB.out]; rfl, rfl⟩
set_option maxRecDepth 100000 in
theorem impl_pack (t c n : Int) (w : World) : Calls Tryz.prog 118 #[.int .i64 t, .int .i64 c, .int .i64 n] w (Ret w (packV t c n)) := by
  cases h : ctlOk t c n
  · have HP := Lib.hid (packV_no h)
    have HC := Lib.hid h
    clear h
    go_enter Tryz.func118, Tryz.ntmps118
    go_wp2_with (go_at_call 95; refine (impl_ctlok _ _ _ _ HC.out _).mono ?_; rintro e w1 ⟨rfl, rfl⟩)
    go_ret
    exact ⟨ret_i HP.out.symm, rfl⟩
  · have HP := Lib.hid (packV_yes h)
    obtain ⟨b1, b2, b3, b4, b5, b6⟩ := (ctlOk_iff _ _ _).1 h
    have HC := Lib.hid h
    clear h
    go_enter Tryz.func118, Tryz.ntmps118
    go_wp2_with (go_at_call 95; refine (impl_ctlok _ _ _ _ HC.out _).mono ?_; rintro e w1 ⟨rfl, rfl⟩)
    go_ret
    exact ⟨ret_i HP.out.symm, rfl⟩
set_option maxRecDepth 100000 in
theorem impl_unpack (x : Int) (hw : -9223372036854775808 ≤ x ∧ x ≤ 9223372036854775807) (w : World) : Calls Tryz.prog 36 #[.int .i64 x] w (RetT w (unT x) (unC x) (unN x)) := by
  have hq := bdq x 8 hw (by decide)
  have hd := bdq _ 16 hq (by decide)
  have h8 := bd8 x
  have h16 := bd16 (x.tdiv 8)
  obtain ⟨q, eq⟩ : ∃ q, x.tdiv 8 = q := ⟨_, rfl⟩
  obtain ⟨a, ea⟩ : ∃ a, x.tmod 8 = a := ⟨_, rfl⟩
  rw [show x.tdiv (8 : Nat) = q from eq] at hq hd
  rw [eq] at h16
  rw [ea] at h8
  obtain ⟨c, ec⟩ : ∃ c, q.tmod 16 = c := ⟨_, rfl⟩
  obtain ⟨d, ed⟩ : ∃ d, q.tdiv 16 = d := ⟨_, rfl⟩
  rw [show q.tdiv (16 : Nat) = d from ed] at hd
  rw [ec] at h16
  cases h : wOk x
  · have HT := Lib.hid (show unT x = -1 ∧ unC x = -1 ∧ unN x = -1 by simp [unT, unC, unN, h])
    have HC := Lib.hid (show ctlOk a c d = false by rw [← h]; unfold wOk wT wC wN; rw [eq, ea, ec, ed])
    clear h
    go_enter Tryz.func36, Tryz.ntmps36
    go_wp2_with (go_at_call 95; refine (impl_ctlok _ _ _ _ HC.out _).mono ?_; rintro e w1 ⟨rfl, rfl⟩)
    go_ret3
    exact ⟨by rw [HT.out.1, HT.out.2.1, HT.out.2.2]; rfl, rfl⟩
  · have HT := Lib.hid (show unT x = a ∧ unC x = c ∧ unN x = d by simp only [unT, unC, unN, h, if_true]; unfold wT wC wN; rw [eq, ea, ec, ed]; exact ⟨rfl, rfl, rfl⟩)
    have HC := Lib.hid (show ctlOk a c d = true by rw [← h]; unfold wOk wT wC wN; rw [eq, ea, ec, ed])
    clear h
    go_enter Tryz.func36, Tryz.ntmps36
    go_wp2_with (go_at_call 95; refine (impl_ctlok _ _ _ _ HC.out _).mono ?_; rintro e w1 ⟨rfl, rfl⟩)
    go_ret3
    exact ⟨by rw [HT.out.1, HT.out.2.1, HT.out.2.2]; rfl, rfl⟩
theorem impl_unpack_is (x p q r : Int) (hw : -9223372036854775808 ≤ x ∧ x ≤ 9223372036854775807) (h : unT x = p ∧ unC x = q ∧ unN x = r) (w : World) : Calls Tryz.prog 36 #[.int .i64 x] w (RetT w p q r) := by
  obtain ⟨rfl, rfl, rfl⟩ := h; exact impl_unpack x hw w
set_option maxRecDepth 100000 in
theorem spec_unpack (x : Int) (w : World) : Calls Tryz.prog 30 #[.int .i64 x] w (RetT w (unT x) (unC x) (unN x)) := by
  by_cases hr : x < 0 ∨ 100000 < x
  · have hno : wOk x = false := by
      rcases hr with h | h
      · exact parts_neg h
      · rw [← Bool.not_eq_true]; intro h2; have := pack_parts h2; omega
    have HT := Lib.hid (show unT x = -1 ∧ unC x = -1 ∧ unN x = -1 by simp [unT, unC, unN, hno])
    clear hno
    rcases hr with h | h
    all_goals
      go_enter Tryz.func30, Tryz.ntmps30
      go_wp2
      go_ret3
      exact ⟨by rw [HT.out.1, HT.out.2.1, HT.out.2.2]; rfl, rfl⟩
  · have h0 : 0 ≤ x := by omega
    have h1 : x ≤ 100000 := by omega
    clear hr
    obtain ⟨p1, p2, p3⟩ := parts_pos h0
    have e8 : x.tmod 8 = x % 8 := Int.tmod_eq_emod_of_nonneg h0
    have d8 : x.tdiv 8 = x / 8 := Int.tdiv_eq_ediv_of_nonneg h0
    have d128 : x.tdiv 128 = x / 128 := Int.tdiv_eq_ediv_of_nonneg h0
    have e16 : (x / 8).tmod 16 = x / 8 % 16 := Int.tmod_eq_emod_of_nonneg (by omega)
    have b1 : 0 ≤ x % 8 ∧ x % 8 ≤ 7 := by omega
    have b2 : 0 ≤ x / 8 ∧ x / 8 ≤ 12500 := by omega
    have b3 : 0 ≤ x / 8 % 16 ∧ x / 8 % 16 ≤ 15 := by omega
    have b4 : 0 ≤ x / 128 ∧ x / 128 ≤ 1000 := by omega
    cases h : wOk x
    · have HT := Lib.hid (show unT x = -1 ∧ unC x = -1 ∧ unN x = -1 by simp [unT, unC, unN, h])
      have HP := Lib.hid (show packV (x % 8) (x / 8 % 16) (x / 128) = -1 from packV_no (by rw [← p1, ← p2, ← p3]; exact h))
      have hne : ¬ x = -1 := by omega
      clear h p1 p2 p3
      go_enter Tryz.func30, Tryz.ntmps30
      go_wp2_with (go_at_call 53; refine (spec_pack _ _ _ _).mono ?_; rw [HP.out]; rintro e w1 ⟨rfl, rfl⟩)
      go_ret3
      exact ⟨by rw [HT.out.1, HT.out.2.1, HT.out.2.2]; rfl, rfl⟩
    · have HT := Lib.hid (show unT x = x % 8 ∧ unC x = x / 8 % 16 ∧ unN x = x / 128 by simp only [unT, unC, unN, h, if_true]; exact ⟨p1, p2, p3⟩)
      have HP := Lib.hid (show packV (x % 8) (x / 8 % 16) (x / 128) = x by rw [packV_yes (by rw [← p1, ← p2, ← p3]; exact h), ← p1, ← p2, ← p3]; exact (pack_parts h).1)
      clear h p1 p2 p3
      go_enter Tryz.func30, Tryz.ntmps30
      go_wp2_with (go_at_call 53; refine (spec_pack _ _ _ _).mono ?_; rw [HP.out]; rintro e w1 ⟨rfl, rfl⟩)
      go_ret3
      exact ⟨by rw [HT.out.1, HT.out.2.1, HT.out.2.2]; rfl, rfl⟩
theorem spec_unpack_is (x p q r : Int) (h : unT x = p ∧ unC x = q ∧ unN x = r) (w : World) : Calls Tryz.prog 30 #[.int .i64 x] w (RetT w p q r) := by
  obtain ⟨rfl, rfl, rfl⟩ := h; exact spec_unpack x w
theorem un_no {x : Int} (h : wOk x = false) : unT x = -1 ∧ unC x = -1 ∧ unN x = -1 := by simp [unT, unC, unN, h]
theorem un_yes {x : Int} (h : wOk x = true) : ∃ t c n : Nat, t ≤ 5 ∧ c ≤ 8 ∧ n ≤ 24 ∧ unT x = t ∧ unC x = c ∧ unN x = n := by
  have hb := (ctlOk_iff _ _ _).1 h
  refine ⟨(wT x).toNat, (wC x).toNat, (wN x).toNat, by omega, by omega, by omega, ?_, ?_, ?_⟩
  · simp only [unT, h, if_true]; omega
  · simp only [unC, h, if_true]; omega
  · simp only [unN, h, if_true]; omega
end Go.Proofs.YtmgeecdgebemdaaGreatDoor.ctl
