/- Several texts in one: VCtl VTrcA. -/
import Derived.Test.YtmgeecdgebemdaaGreatDoorGSigV1
import Derived.OwnWalk
import Derived.Test.YtmgeecdgebemdaaGreatDoorGSigV6
import Derived.Test.YtmgeecdgebemdaaGreatDoorGSigV8
import Derived.Test.YtmgeecdgebemdaaGreatDoorGSigV5

/- Chapter 9's control word: what packing and unpacking return, of the model and of the program; nothing is written; no condition but that the word is an int. -/
namespace Go.Proofs.YtmgeecdgebemdaaGreatDoor.ctl
open Go.ChangeShapes Go.WideShapes Go.ChangeAt Go.RowKit Go.Proofs.YtmgeecdgebemdaaGreatDoor.row Go.Proofs.YtmgeecdgebemdaaGreatDoor.val Go.Proofs.YtmgeecdgebemdaaGreatDoor.expr
def ctlOk (t c n : Int) : Bool := decide (0 ≤ t ∧ t ≤ 5 ∧ 0 ≤ c ∧ c ≤ 8 ∧ 0 ≤ n ∧ n ≤ 24)
theorem ctlOk_iff (t c n : Int) : ctlOk t c n = true ↔ 0 ≤ t ∧ t ≤ 5 ∧ 0 ≤ c ∧ c ≤ 8 ∧ 0 ≤ n ∧ n ≤ 24 := by simp [ctlOk]
theorem ctlOk_no {t c n : Int} (h : ¬ (0 ≤ t ∧ t ≤ 5 ∧ 0 ≤ c ∧ c ≤ 8 ∧ 0 ≤ n ∧ n ≤ 24)) : ctlOk t c n = false := by
  rw [← Bool.not_eq_true, ctlOk_iff]; exact h
def packV (t c n : Int) : Int := if ctlOk t c n then t + 8 * (c + 16 * n) else -1
theorem packV_yes {t c n : Int} (h : ctlOk t c n = true) : packV t c n = t + 8 * (c + 16 * n) := if_pos h
theorem packV_no {t c n : Int} (h : ctlOk t c n = false) : packV t c n = -1 := if_neg (by rw [h]; decide)
def wT (w : Int) : Int := w.tmod 8
def wC (w : Int) : Int := (w.tdiv 8).tmod 16
def wN (w : Int) : Int := (w.tdiv 8).tdiv 16
def wOk (w : Int) : Bool := ctlOk (wT w) (wC w) (wN w)
def unT (w : Int) : Int := if wOk w then wT w else -1
def unC (w : Int) : Int := if wOk w then wC w else -1
def unN (w : Int) : Int := if wOk w then wN w else -1
theorem parts_pos {w : Int} (h : 0 ≤ w) : wT w = w % 8 ∧ wC w = w / 8 % 16 ∧ wN w = w / 128 := by
  have e : w.tdiv 8 = w / 8 := Int.tdiv_eq_ediv_of_nonneg h
  have h2 : 0 ≤ w / 8 := by omega
  unfold wT wC wN
  rw [e, Int.tmod_eq_emod_of_nonneg h, Int.tmod_eq_emod_of_nonneg h2, Int.tdiv_eq_ediv_of_nonneg h2]
  omega
theorem parts_neg {w : Int} (h : w < 0) : wOk w = false := by
  have h1 : w.tmod 8 = -((-w) % 8) := by
    have := Int.neg_tmod (a := -w) (b := 8); rw [Int.neg_neg] at this; rw [this, Int.tmod_eq_emod_of_nonneg (by omega)]
  have h2 : w.tdiv 8 = -((-w) / 8) := by
    have := Int.neg_tdiv (a := -w) (b := 8); rw [Int.neg_neg] at this; rw [this, Int.tdiv_eq_ediv_of_nonneg (by omega)]
  have h3 : (w.tdiv 8).tmod 16 = -(((-w) / 8) % 16) := by
    rw [h2, Int.neg_tmod, Int.tmod_eq_emod_of_nonneg (by omega)]
  have h4 : (w.tdiv 8).tdiv 16 = -(((-w) / 8) / 16) := by
    rw [h2, Int.neg_tdiv, Int.tdiv_eq_ediv_of_nonneg (by omega)]
  apply ctlOk_no
  unfold wT wC wN
  rw [h1, h3, h4]
  omega
theorem wOk_pos {w : Int} (h : wOk w = true) : 0 ≤ w := by
  by_cases hw : w < 0
  · rw [parts_neg hw] at h; cases h
  · omega
theorem pack_parts {w : Int} (h : wOk w = true) : wT w + 8 * (wC w + 16 * wN w) = w ∧ 0 ≤ w ∧ w ≤ 3141 := by
  have h0 := wOk_pos h
  obtain ⟨e1, e2, e3⟩ := parts_pos h0
  have hb := (ctlOk_iff _ _ _).1 h
  rw [e1, e2, e3] at *
  omega
theorem parts_pack {t c n : Int} (h : ctlOk t c n = true) : wT (packV t c n) = t ∧ wC (packV t c n) = c ∧ wN (packV t c n) = n := by
  have hb := (ctlOk_iff _ _ _).1 h
  rw [packV_yes h]
  obtain ⟨e1, e2, e3⟩ := parts_pos (w := t + 8 * (c + 16 * n)) (by omega)
  rw [e1, e2, e3]
  omega
/-- The three parts of a word. -/
abbrev tri (x y z : Int) : Value := .tuple #[.int .i64 x, .int .i64 y, .int .i64 z]
def RetT (w : World) (x y z : Int) (e : Ending) (w' : World) : Prop := e = .returned (tri x y z) ∧ w = w'
theorem bd8 (w : Int) : -7 ≤ w.tmod 8 ∧ w.tmod 8 ≤ 7 := by
  have := Int.tmod_lt_of_pos w (show (0 : Int) < 8 by decide)
  have := Int.lt_tmod_of_pos w (show (0 : Int) < 8 by decide)
  omega
theorem bd16 (w : Int) : -15 ≤ w.tmod 16 ∧ w.tmod 16 ≤ 15 := by
  have := Int.tmod_lt_of_pos w (show (0 : Int) < 16 by decide)
  have := Int.lt_tmod_of_pos w (show (0 : Int) < 16 by decide)
  omega
theorem bdq (w : Int) (d : Nat) (hw : -9223372036854775808 ≤ w ∧ w ≤ 9223372036854775807) (hd : 2 ≤ d) : -9223372036854775808 ≤ w.tdiv d ∧ w.tdiv d ≤ 9223372036854775807 := by
  have h1 : (w.tdiv d).natAbs = w.natAbs / d := by rw [Int.natAbs_tdiv]; rfl
  have h2 : w.natAbs / d ≤ w.natAbs / 2 := Nat.div_le_div_left hd (by decide)
  omega

set_option maxRecDepth 100000 in
theorem spec_pack (t c n : Int) (w : World) : Calls Tryz.prog 53 #[.int .i64 t, .int .i64 c, .int .i64 n] w (Ret w (packV t c n)) := by
  cases h1 : (decide (0 ≤ t) && decide (t ≤ 5))
  · have HP := Lib.hid (packV_no (t := t) (c := c) (n := n) (ctlOk_no (by simp at h1; omega)))
    have H1 := Lib.hid h1
    clear h1
    go_enter Tryz.func53, Tryz.ntmps53
    go_wp2_with (go_at_call 63; refine (in_any _ _ _ _ H1.out _).mono ?_; rintro e w1 ⟨rfl, rfl⟩)
    go_ret
    exact ⟨ret_i HP.out.symm, rfl⟩
  · cases h2 : (decide (0 ≤ c) && decide (c ≤ 8))
    · have HP := Lib.hid (packV_no (t := t) (c := c) (n := n) (ctlOk_no (by simp at h2; omega)))
      have H1 := Lib.hid h1
      have H2 := Lib.hid h2
      clear h1 h2
      go_enter Tryz.func53, Tryz.ntmps53
      go_wp2_with (go_at_call 63; refine (in_any _ _ _ _ (by first | exact H1.out | exact H2.out) _).mono ?_; rintro e w1 ⟨rfl, rfl⟩)
      go_ret
      exact ⟨ret_i HP.out.symm, rfl⟩
    · cases h3 : (decide (0 ≤ n) && decide (n ≤ 24))
      · have HP := Lib.hid (packV_no (t := t) (c := c) (n := n) (ctlOk_no (by simp at h3; omega)))
        have H1 := Lib.hid h1
        have H2 := Lib.hid h2
        have H3 := Lib.hid h3
        clear h1 h2 h3
        go_enter Tryz.func53, Tryz.ntmps53
        go_wp2_with (go_at_call 63; refine (in_any _ _ _ _ (by first | exact H1.out | exact H2.out | exact H3.out) _).mono ?_; rintro e w1 ⟨rfl, rfl⟩)
        go_ret
        exact ⟨ret_i HP.out.symm, rfl⟩
      · have HB := (show (0 ≤ t ∧ t ≤ 5) ∧ (0 ≤ c ∧ c ≤ 8) ∧ (0 ≤ n ∧ n ≤ 24) by simp at h1 h2 h3; omega)
        obtain ⟨⟨b1, b2⟩, ⟨b3, b4⟩, b5, b6⟩ := HB
        have HP := Lib.hid (packV_yes (t := t) (c := c) (n := n) ((ctlOk_iff _ _ _).2 (by omega)))
        have H1 := Lib.hid h1
        have H2 := Lib.hid h2
        have H3 := Lib.hid h3
        clear h1 h2 h3
        go_enter Tryz.func53, Tryz.ntmps53
        go_wp2_with (go_at_call 63; refine (in_any _ _ _ _ (by first | exact H1.out | exact H2.out | exact H3.out) _).mono ?_; rintro e w1 ⟨rfl, rfl⟩)
        go_ret
        exact ⟨ret_i HP.out.symm, rfl⟩
set_option maxRecDepth 100000 in
theorem impl_ctlok (t c n : Int) (r : Bool) (hr : ctlOk t c n = r) (w : World) : Calls Tryz.prog 95 #[.int .i64 t, .int .i64 c, .int .i64 n] w (RetB w r) := by
  subst hr
  by_cases h1 : 0 ≤ t
  case neg =>
    rw [ctlOk_no (by omega)]
    go_enter Tryz.func95, Tryz.ntmps95
    go_wp2
    go_ret
    exact ⟨rfl, rfl⟩
  by_cases h2 : t < 6
  case neg =>
    rw [ctlOk_no (by omega)]
    go_enter Tryz.func95, Tryz.ntmps95
    go_wp2
    go_ret
    exact ⟨rfl, rfl⟩
  by_cases h3 : 0 ≤ c
  case neg =>
    rw [ctlOk_no (by omega)]
    go_enter Tryz.func95, Tryz.ntmps95
    go_wp2
    go_ret
    exact ⟨rfl, rfl⟩
  by_cases h4 : c ≤ 8
  case neg =>
    rw [ctlOk_no (by omega)]
    go_enter Tryz.func95, Tryz.ntmps95
    go_wp2
    go_ret
    exact ⟨rfl, rfl⟩
  by_cases h5 : 0 ≤ n
  case neg =>
    rw [ctlOk_no (by omega)]
    go_enter Tryz.func95, Tryz.ntmps95
    go_wp2
    go_ret
    exact ⟨rfl, rfl⟩
  have HB : Hid (ctlOk t c n = decide (n ≤ 24)) := by
    show ctlOk t c n = decide (n ≤ 24)
    by_cases h6 : n ≤ 24
    · rw [(ctlOk_iff _ _ _).2 (by omega), decide_eq_true h6]
    · rw [ctlOk_no (by omega), decide_eq_false h6]
  go_enter Tryz.func95, Tryz.ntmps95
  go_wp2
  go_ret
  exact ⟨by rw [HB.out]; rfl, rfl⟩
set_option maxRecDepth 100000 in
theorem impl_pack (t c n : Int) (w : World) : Calls Tryz.prog 118 #[.int .i64 t, .int .i64 c, .int .i64 n] w (Ret w (packV t c n)) := by
  cases h : ctlOk t c n
  · have HP := Lib.hid (packV_no h)
    have HC := Lib.hid h
    clear h
    go_enter Tryz.func118, Tryz.ntmps118
    go_wp2_with (go_at_call 95; refine (impl_ctlok _ _ _ _ HC.out _).mono ?_; rintro e w1 ⟨rfl, rfl⟩)
    go_ret
    exact ⟨ret_i HP.out.symm, rfl⟩
  · have HP := Lib.hid (packV_yes h)
    obtain ⟨b1, b2, b3, b4, b5, b6⟩ := (ctlOk_iff _ _ _).1 h
    have HC := Lib.hid h
    clear h
    go_enter Tryz.func118, Tryz.ntmps118
    go_wp2_with (go_at_call 95; refine (impl_ctlok _ _ _ _ HC.out _).mono ?_; rintro e w1 ⟨rfl, rfl⟩)
    go_ret
    exact ⟨ret_i HP.out.symm, rfl⟩
set_option maxRecDepth 100000 in
theorem impl_unpack (x : Int) (hw : -9223372036854775808 ≤ x ∧ x ≤ 9223372036854775807) (w : World) : Calls Tryz.prog 36 #[.int .i64 x] w (RetT w (unT x) (unC x) (unN x)) := by
  have hq := bdq x 8 hw (by decide)
  have hd := bdq _ 16 hq (by decide)
  have h8 := bd8 x
  have h16 := bd16 (x.tdiv 8)
  obtain ⟨q, eq⟩ : ∃ q, x.tdiv 8 = q := ⟨_, rfl⟩
  obtain ⟨a, ea⟩ : ∃ a, x.tmod 8 = a := ⟨_, rfl⟩
  rw [show x.tdiv (8 : Nat) = q from eq] at hq hd
  rw [eq] at h16
  rw [ea] at h8
  obtain ⟨c, ec⟩ : ∃ c, q.tmod 16 = c := ⟨_, rfl⟩
  obtain ⟨d, ed⟩ : ∃ d, q.tdiv 16 = d := ⟨_, rfl⟩
  rw [show q.tdiv (16 : Nat) = d from ed] at hd
  rw [ec] at h16
  cases h : wOk x
  · have HT := Lib.hid (show unT x = -1 ∧ unC x = -1 ∧ unN x = -1 by simp [unT, unC, unN, h])
    have HC := Lib.hid (show ctlOk a c d = false by rw [← h]; unfold wOk wT wC wN; rw [eq, ea, ec, ed])
    clear h
    go_enter Tryz.func36, Tryz.ntmps36
    go_wp2_with (go_at_call 95; refine (impl_ctlok _ _ _ _ HC.out _).mono ?_; rintro e w1 ⟨rfl, rfl⟩)
    go_ret3
    exact ⟨by rw [HT.out.1, HT.out.2.1, HT.out.2.2]; rfl, rfl⟩
  · have HT := Lib.hid (show unT x = a ∧ unC x = c ∧ unN x = d by simp only [unT, unC, unN, h, if_true]; unfold wT wC wN; rw [eq, ea, ec, ed]; exact ⟨rfl, rfl, rfl⟩)
    have HC := Lib.hid (show ctlOk a c d = true by rw [← h]; unfold wOk wT wC wN; rw [eq, ea, ec, ed])
    clear h
    go_enter Tryz.func36, Tryz.ntmps36
    go_wp2_with (go_at_call 95; refine (impl_ctlok _ _ _ _ HC.out _).mono ?_; rintro e w1 ⟨rfl, rfl⟩)
    go_ret3
    exact ⟨by rw [HT.out.1, HT.out.2.1, HT.out.2.2]; rfl, rfl⟩
theorem impl_unpack_is (x p q r : Int) (hw : -9223372036854775808 ≤ x ∧ x ≤ 9223372036854775807) (h : unT x = p ∧ unC x = q ∧ unN x = r) (w : World) : Calls Tryz.prog 36 #[.int .i64 x] w (RetT w p q r) := by
  obtain ⟨rfl, rfl, rfl⟩ := h; exact impl_unpack x hw w
set_option maxRecDepth 100000 in
theorem spec_unpack (x : Int) (w : World) : Calls Tryz.prog 30 #[.int .i64 x] w (RetT w (unT x) (unC x) (unN x)) := by
  by_cases hr : x < 0 ∨ 100000 < x
  · have hno : wOk x = false := by
      rcases hr with h | h
      · exact parts_neg h
      · rw [← Bool.not_eq_true]; intro h2; have := pack_parts h2; omega
    have HT := Lib.hid (show unT x = -1 ∧ unC x = -1 ∧ unN x = -1 by simp [unT, unC, unN, hno])
    clear hno
    rcases hr with h | h
    all_goals
      go_enter Tryz.func30, Tryz.ntmps30
      go_wp2
      go_ret3
      exact ⟨by rw [HT.out.1, HT.out.2.1, HT.out.2.2]; rfl, rfl⟩
  · have h0 : 0 ≤ x := by omega
    have h1 : x ≤ 100000 := by omega
    clear hr
    obtain ⟨p1, p2, p3⟩ := parts_pos h0
    have e8 : x.tmod 8 = x % 8 := Int.tmod_eq_emod_of_nonneg h0
    have d8 : x.tdiv 8 = x / 8 := Int.tdiv_eq_ediv_of_nonneg h0
    have d128 : x.tdiv 128 = x / 128 := Int.tdiv_eq_ediv_of_nonneg h0
    have e16 : (x / 8).tmod 16 = x / 8 % 16 := Int.tmod_eq_emod_of_nonneg (by omega)
    have b1 : 0 ≤ x % 8 ∧ x % 8 ≤ 7 := by omega
    have b2 : 0 ≤ x / 8 ∧ x / 8 ≤ 12500 := by omega
    have b3 : 0 ≤ x / 8 % 16 ∧ x / 8 % 16 ≤ 15 := by omega
    have b4 : 0 ≤ x / 128 ∧ x / 128 ≤ 1000 := by omega
    cases h : wOk x
    · have HT := Lib.hid (show unT x = -1 ∧ unC x = -1 ∧ unN x = -1 by simp [unT, unC, unN, h])
      have HP := Lib.hid (show packV (x % 8) (x / 8 % 16) (x / 128) = -1 from packV_no (by rw [← p1, ← p2, ← p3]; exact h))
      have hne : ¬ x = -1 := by omega
      clear h p1 p2 p3
      go_enter Tryz.func30, Tryz.ntmps30
      go_wp2_with (go_at_call 53; refine (spec_pack _ _ _ _).mono ?_; rw [HP.out]; rintro e w1 ⟨rfl, rfl⟩)
      go_ret3
      exact ⟨by rw [HT.out.1, HT.out.2.1, HT.out.2.2]; rfl, rfl⟩
    · have HT := Lib.hid (show unT x = x % 8 ∧ unC x = x / 8 % 16 ∧ unN x = x / 128 by simp only [unT, unC, unN, h, if_true]; exact ⟨p1, p2, p3⟩)
      have HP := Lib.hid (show packV (x % 8) (x / 8 % 16) (x / 128) = x by rw [packV_yes (by rw [← p1, ← p2, ← p3]; exact h), ← p1, ← p2, ← p3]; exact (pack_parts h).1)
      clear h p1 p2 p3
      go_enter Tryz.func30, Tryz.ntmps30
      go_wp2_with (go_at_call 53; refine (spec_pack _ _ _ _).mono ?_; rw [HP.out]; rintro e w1 ⟨rfl, rfl⟩)
      go_ret3
      exact ⟨by rw [HT.out.1, HT.out.2.1, HT.out.2.2]; rfl, rfl⟩
theorem spec_unpack_is (x p q r : Int) (h : unT x = p ∧ unC x = q ∧ unN x = r) (w : World) : Calls Tryz.prog 30 #[.int .i64 x] w (RetT w p q r) := by
  obtain ⟨rfl, rfl, rfl⟩ := h; exact spec_unpack x w
theorem un_no {x : Int} (h : wOk x = false) : unT x = -1 ∧ unC x = -1 ∧ unN x = -1 := by simp [unT, unC, unN, h]
theorem un_yes {x : Int} (h : wOk x = true) : ∃ t c n : Nat, t ≤ 5 ∧ c ≤ 8 ∧ n ≤ 24 ∧ unT x = t ∧ unC x = c ∧ unN x = n := by
  have hb := (ctlOk_iff _ _ _).1 h
  refine ⟨(wT x).toNat, (wC x).toNat, (wN x).toNat, by omega, by omega, by omega, ?_, ?_, ?_⟩
  · simp only [unT, h, if_true]; omega
  · simp only [unC, h, if_true]; omega
  · simp only [unN, h, if_true]; omega
end Go.Proofs.YtmgeecdgebemdaaGreatDoor.ctl

/- Chapter 14, plain mathematics: the steps of a task; all their writes together do what the task means. -/
namespace Go.Proofs.YtmgeecdgebemdaaGreatDoor.trc
open Go Go.Proofs.YtmgeecdgebemdaaGreatDoor.stm Go.Proofs.YtmgeecdgebemdaaGreatDoor.blk Go.Proofs.YtmgeecdgebemdaaGreatDoor.expr Go.Proofs.YtmgeecdgebemdaaGreatDoor.sets Go.Proofs.YtmgeecdgebemdaaGreatDoor.val Go.Proofs.YtmgeecdgebemdaaGreatDoor.prg Go.Proofs.YtmgeecdgebemdaaGreatDoor.exe Go.Proofs.YtmgeecdgebemdaaGreatDoor.wrt Go.Proofs.YtmgeecdgebemdaaGreatDoor.ctl
/-- The state of an execution with its steps and the variables that it has logged. -/
structure Tx where
  (x : Sx) (M : List Mic) (L : List Int)
/-- What an assignment writes; what has been logged behind it. -/
def asgM (D : List Int) (tk tl : Int) (V : List Int) (k q : Int) (L : List Int) : List Mic :=
  if k ∈ D ∧ k ∉ L then [wrM (9 + 2 * L.length) k, wrM (10 + 2 * L.length) (V.getD k.toNat 0), wrM 8 (packV tk (L.length + 1) tl), wrM k q] else [wrM k q]
def asgL (D : List Int) (k : Int) (L : List Int) : List Int := if k ∈ D ∧ k ∉ L then L ++ [k] else L
/-- What a statement without a body adds behind its own step. -/
def addM (src : Int → Nat → Int) (D : List Int) (tk tl : Int) (s : Sm) (y : Tx) : List Mic :=
  if s.k = 1 then asgM D tk tl y.x.V s.v (evalV y.x.V s.o s.a s.b) y.L
  else if s.k = 2 then asgM D tk tl y.x.V s.v (src s.n y.x.U.length) y.L
  else if s.k = 3 then (if tl + y.x.S.length < 24 then [wrM (25 + (tl + y.x.S.length)) (evalV y.x.V s.o s.a s.b)] else []) else []
def addL (D : List Int) (s : Sm) (L : List Int) : List Int := if s.k = 1 ∨ s.k = 2 then asgL D s.v L else L
def tstep (src : Int → Nat → Int) (D : List Int) (tk tl : Int) (s : Sm) (y : Tx) : Tx := ⟨step1 src s y.x, y.M ++ (stepM s.k :: addM src D tk tl s y), addL D s y.L⟩
def trep (f : Tx → Tx) : Nat → Tx → Tx
  | 0, y => y
  | n + 1, y => trep f n (f y)
def texec (src : Int → Nat → Int) (D : List Int) (tk tl : Int) : Fst → Tx → Tx
  | .nil, y => y
  | .one s r, y => texec src D tk tl r (tstep src D tk tl s y)
  | .nest s b r, y => texec src D tk tl r (trep (texec src D tk tl b) (its s y.x) ⟨y.x, y.M ++ [stepM s.k], y.L⟩)
theorem trep_zero (f : Tx → Tx) (y : Tx) : trep f 0 y = y := rfl
theorem trep_succ (f : Tx → Tx) (n : Nat) (y : Tx) : trep f (n + 1) y = trep f n (f y) := rfl
theorem trep_ind {f : Tx → Tx} {p : Tx → Prop} (h : ∀ y, p y → p (f y)) : ∀ (n : Nat) (y : Tx), p y → p (trep f n y)
  | 0, _, hy => hy
  | n + 1, y, hy => trep_ind h n (f y) (h y hy)
theorem trep_last (f : Tx → Tx) : ∀ (n : Nat) (y : Tx), trep f (n + 1) y = f (trep f n y)
  | 0, _ => rfl
  | n + 1, y => by rw [trep_succ, trep_last f n (f y), trep_succ]
section
variable {src : Int → Nat → Int} {D : List Int} {tk tl : Int}
theorem trep_x {b : Fst} (h : ∀ y, (texec src D tk tl b y).x = exec src b y.x) : ∀ (n : Nat) (y : Tx), (trep (texec src D tk tl b) n y).x = rep (exec src b) n y.x
  | 0, _ => rfl
  | n + 1, y => by rw [trep_succ, trep_x h n, h, rep_succ]
/-- With its steps an execution does what it does without. -/
theorem texec_x : ∀ (T : Fst) (y : Tx), (texec src D tk tl T y).x = exec src T y.x
  | .nil, _ => rfl
  | .one s r, y => by simp only [texec, exec]; rw [texec_x r]; rfl
  | .nest s b r, y => by simp only [texec, exec]; rw [texec_x r, trep_x (fun z => texec_x b z)]
end
/-- Every single statement of a tree is so, every nesting one so. -/
def AllS (q1 q2 : Sm → Prop) : Fst → Prop
  | .nil => True
  | .one s r => q1 s ∧ AllS q1 q2 r
  | .nest s b r => q2 s ∧ AllS q1 q2 b ∧ AllS q1 q2 r
abbrev One (s : Sm) : Prop := stOk s = true ∧ opn s = false ∧ s.k ≠ 6
abbrev Nst (s : Sm) : Prop := stOk s = true ∧ (s.k = 4 ∨ s.k = 5)
theorem par_allS {L : List Sm} (hL : IsBlk L) {a b : Nat} {T : Fst} (h : Par L a b T) : AllS One Nst T := by
  induction h with
  | nil a => exact trivial
  | one a b T s hs ho h6 hr ih => exact ⟨⟨blk_stOk hL hs, ho, h6⟩, ih⟩
  | nest a e b B T s hs he hb hr ih1 ih2 =>
    obtain ⟨s2, hs2, ho2⟩ := he.opens
    rw [hs] at hs2; cases hs2
    exact ⟨⟨blk_stOk hL hs, by unfold opn at ho2; simpa using ho2⟩, ih1, ih2⟩
section
variable {src : Int → Nat → Int} {D : List Int} {tk tl : Int}
theorem exec_keeps {p : Tx → Prop} {q1 q2 : Sm → Prop} (h1 : ∀ s y, q1 s → p y → p (tstep src D tk tl s y)) (h2 : ∀ (s : Sm) y, q2 s → p y → p ⟨y.x, y.M ++ [stepM s.k], y.L⟩) : ∀ (T : Fst), AllS q1 q2 T → ∀ y, p y → p (texec src D tk tl T y)
  | .nil, _, _, hy => hy
  | .one s r, hv, y, hy => by
    simp only [texec]
    exact exec_keeps h1 h2 r hv.2 _ (h1 s y hv.1 hy)
  | .nest s b r, hv, y, hy => by
    simp only [texec]
    exact exec_keeps h1 h2 r hv.2.2 _ (trep_ind (fun z hz => exec_keeps h1 h2 b hv.2.1 z hz) _ _ (h2 s y hv.1 hy))
/-- What has been logged: different variables of those that must be. -/
def LogInv (D : List Int) (L : List Int) : Prop := L.Nodup ∧ ∀ k ∈ L, k ∈ D
theorem asg_inv {L : List Int} (h : LogInv D L) (k : Int) : LogInv D (asgL D k L) := by
  unfold asgL
  split
  · rename_i h1
    refine ⟨?_, fun j hj => ?_⟩
    · rw [List.nodup_append]
      exact ⟨h.1, by simp, fun a ha b hb => by rw [List.mem_singleton] at hb; rintro rfl; rw [hb] at ha; exact h1.2 ha⟩
    · rcases List.mem_append.1 hj with h' | h'
      · exact h.2 j h'
      · rw [List.mem_singleton.1 h']; exact h1.1
  · exact h
end
theorem nodup_small : ∀ (n : Nat) (L : List Int), L.Nodup → (∀ k ∈ L, 0 ≤ k ∧ k < n) → L.length ≤ n
  | 0, L, _, h => by
    cases L with
    | nil => simp
    | cons a L => have := h a (by simp); omega
  | n + 1, L, hd, h => by
    by_cases hn : (n : Int) ∈ L
    · have h1 := nodup_small n (L.erase n) (hd.erase _) (fun k hk => by
        have h2 := h k (List.mem_of_mem_erase hk)
        have h3 : k ≠ n := fun e => by rw [e] at hk; exact hd.not_mem_erase hk
        omega)
      rw [List.length_erase_of_mem hn] at h1
      omega
    · have h1 := nodup_small n L hd (fun k hk => by
        have h2 := h k hk
        have h3 : k ≠ n := fun e => hn (e ▸ hk)
        omega)
      omega
/-- The variables that must be logged are variables. -/
def Vrs (D : List Int) : Prop := ∀ k ∈ D, 0 ≤ k ∧ k < 8
theorem lst_vrs (f : Nat → Bool) : Vrs (lst f 8) := fun k hk => by
  obtain ⟨j, hj, rfl⟩ := List.mem_map.1 hk
  have := List.mem_range.1 (List.mem_filter.1 hj).1
  omega
theorem LogInv.le {D L : List Int} (h : LogInv D L) (hD : Vrs D) : L.length ≤ 8 := nodup_small 8 L h.1 (fun k hk => hD k (h.2 k hk))
theorem LogInv.lt {D L : List Int} {k : Int} (h : LogInv D L) (hD : Vrs D) (hk : k ∈ D ∧ k ∉ L) : L.length ≤ 7 := by
  have h1 := (asg_inv h k).le hD
  unfold asgL at h1
  rw [if_pos hk] at h1
  simp at h1
  omega
theorem add_inv {D L : List Int} (h : LogInv D L) (s : Sm) : LogInv D (addL D s L) := by
  unfold addL
  split
  · exact asg_inv h _
  · exact h
theorem texec_inv {src : Int → Nat → Int} {D : List Int} {tk tl : Int} (T : Fst) (hv : AllS One Nst T) (y : Tx) (h : LogInv D y.L) : LogInv D (texec src D tk tl T y).L :=
  exec_keeps (p := fun y => LogInv D y.L) (fun s _ _ h => add_inv h s) (fun _ _ _ h => h) T hv y h
/-! The number of steps. -/
def cntS : Fst → Int
  | .nil => 0
  | .one _ r => 5 + cntS r
  | .nest s b r => 1 + max 1 s.n * cntS b + cntS r
theorem cntS_nonneg : ∀ T : Fst, 0 ≤ cntS T
  | .nil => by simp [cntS]
  | .one _ r => by have := cntS_nonneg r; simp only [cntS]; omega
  | .nest s b r => by
    have h1 := cntS_nonneg b
    have h2 := cntS_nonneg r
    have h3 : 0 ≤ max 1 s.n * cntS b := Int.mul_nonneg (by omega) h1
    simp only [cntS]; omega
theorem cntS_bound {L : List Sm} (hb : IsBlk L) {a b : Nat} {T : Fst} (h : Par L a b T) : ∀ H : Int, hAt L a = H → cntS T ≤ (b - a : Int) * (5 * p5 H) := by
  induction h with
  | nil a => intro H _; simp [cntS]
  | one a b T s hs ho h6 hr ih =>
    intro H hH
    have h1 := hAt_succ hs
    rw [dlt_flat ho h6] at h1
    have h2 := ih H (by omega)
    have : (1 : Int) ≤ p5 H := by unfold p5; split <;> (try split) <;> (try split) <;> omega
    have e : ((b : Int) - a) * (5 * p5 H) = ((b : Int) - ((a + 1 : Nat) : Int)) * (5 * p5 H) + 5 * p5 H := by
      rw [show (b : Int) - a = ((b : Int) - ((a + 1 : Nat) : Int)) + 1 by omega, Int.add_mul, Int.one_mul]
    rw [e]; simp only [cntS]; omega
  | nest a e b B T s hs he hbb hr ih1 ih2 =>
    intro H hH
    obtain ⟨s2, hs2, ho2⟩ := he.opens
    have h1 := hAt_succ hs2
    rw [dlt_opn ho2] at h1
    have h2 := (blk_bounds hb (a + 1)).2
    have h3 := (blk_bounds hb a).1
    have hx := ih1 (H + 1) (by omega)
    have hx0 := cntS_nonneg B
    have hy := ih2 H (by rw [he.2.2.1, hH])
    have hn := n_le (blk_stOk hb hs)
    have hae := he.1
    have hle := hr.le
    obtain ⟨m, hm⟩ : ∃ m, max 1 s.n = m := ⟨_, rfl⟩
    have hm1 : 1 ≤ m ∧ m ≤ 5 := by omega
    simp only [cntS]
    rw [hm]
    have hmx5 : m * cntS B ≤ 5 * cntS B := Int.mul_le_mul_of_nonneg_right hm1.2 hx0
    rcases (show H = 0 ∨ H = 1 ∨ H = 2 by omega) with rfl | rfl | rfl
    · simp only [p5] at hx hy ⊢; simp at hx hy ⊢; omega
    · simp only [p5] at hx hy ⊢; simp at hx hy ⊢; omega
    · simp only [p5] at hx hy ⊢; simp at hx hy ⊢; omega
theorem cntS_small {L : List Sm} (hb : IsBlk L) {T : Fst} (h : Par L 0 L.length T) : cntS T ≤ 15000 := by
  have h1 := cntS_bound hb h (hAt L 0) rfl
  have h2 : p5 (hAt L 0) ≤ 125 ∧ 0 ≤ p5 (hAt L 0) := by unfold p5; split <;> (try split) <;> (try split) <;> omega
  have h4 := hb.2.2
  have h5 : ((L.length : Int) - (0 : Nat)) * (5 * p5 (hAt L 0)) ≤ ((L.length : Int) - (0 : Nat)) * 625 := Int.mul_le_mul_of_nonneg_left (by omega) (by omega)
  omega
theorem asgM_len (D : List Int) (tk tl : Int) (V : List Int) (k q : Int) (L : List Int) : (asgM D tk tl V k q L).length ≤ 4 := by unfold asgM; split <;> simp
theorem addM_len (src : Int → Nat → Int) (D : List Int) (tk tl : Int) (s : Sm) (y : Tx) : (addM src D tk tl s y).length ≤ 4 := by
  unfold addM
  split
  · exact asgM_len ..
  split
  · exact asgM_len ..
  split
  · split <;> simp
  · simp
theorem trep_len {f : Tx → Tx} {c : Int} (h : ∀ y, ((f y).M.length : Int) ≤ y.M.length + c) : ∀ (n : Nat) (y : Tx), ((trep f n y).M.length : Int) ≤ y.M.length + n * c
  | 0, y => by rw [trep_zero]; simp
  | n + 1, y => by
    rw [trep_succ]
    have h1 := trep_len h n (f y)
    have h2 := h y
    have h3 : ((n + 1 : Nat) : Int) * c = n * c + c := by rw [Int.natCast_add, Int.add_mul]; simp
    omega
theorem texec_len (src : Int → Nat → Int) (D : List Int) (tk tl : Int) : ∀ (T : Fst) (y : Tx), ((texec src D tk tl T y).M.length : Int) ≤ y.M.length + cntS T
  | .nil, y => by simp [texec, cntS]
  | .one s r, y => by
    have h1 := texec_len src D tk tl r (tstep src D tk tl s y)
    have h2 := addM_len src D tk tl s y
    have h3 : (tstep src D tk tl s y).M.length = y.M.length + (1 + (addM src D tk tl s y).length) := by simp [tstep]; omega
    simp only [texec, cntS]; omega
  | .nest s b r, y => by
    have h1 := texec_len src D tk tl r (trep (texec src D tk tl b) (its s y.x) ⟨y.x, y.M ++ [stepM s.k], y.L⟩)
    have h2 := trep_len (fun z => texec_len src D tk tl b z) (its s y.x) ⟨y.x, y.M ++ [stepM s.k], y.L⟩
    have h3 : (its s y.x : Int) * cntS b ≤ max 1 s.n * cntS b := Int.mul_le_mul_of_nonneg_right (its_le s y.x) (cntS_nonneg b)
    simp at h2
    simp only [texec, cntS]; omega
theorem st_kind {s : Sm} (h : stOk s = true) : 1 ≤ s.k ∧ s.k ≤ 6 := by
  unfold stOk at h
  split at h
  · omega
  split at h
  · omega
  split at h
  · omega
  split at h
  · omega
  split at h
  · omega
  split at h
  · omega
  · cases h
theorem add_cost (src : Int → Nat → Int) (D : List Int) (tk tl : Int) (s : Sm) (y : Tx) : CostOk (addM src D tk tl s y) := by
  have ha : ∀ k q, CostOk (asgM D tk tl y.x.V k q y.L) := fun k q => by
    unfold asgM
    split
    · exact wr_cost (wr_cost (wr_cost (wr_cost nil_cost _ _) _ _) _ _) _ _
    · exact wr_cost nil_cost _ _
  unfold addM
  split
  · exact ha _ _
  split
  · exact ha _ _
  split
  · split
    · exact wr_cost nil_cost _ _
    · exact nil_cost
  · exact nil_cost
theorem texec_cost {src : Int → Nat → Int} {D : List Int} {tk tl : Int} (T : Fst) (hv : AllS One Nst T) (y : Tx) (h : CostOk y.M) : CostOk (texec src D tk tl T y).M :=
  exec_keeps (p := fun y => CostOk y.M) (fun s y hs h => by
    have := st_kind hs.1
    have h6 := hs.2.2
    show CostOk (y.M ++ ([stepM s.k] ++ addM src D tk tl s y))
    exact h.app ((step_cost this.1 (by omega)).app (add_cost src D tk tl s y))) (fun s y hs h => by
    have := hs.2
    exact h.app (step_cost (by omega) (by omega))) T hv y h
end Go.Proofs.YtmgeecdgebemdaaGreatDoor.trc
