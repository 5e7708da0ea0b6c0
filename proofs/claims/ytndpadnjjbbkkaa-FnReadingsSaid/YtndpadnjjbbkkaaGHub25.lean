/- Several texts in one: ExeU. -/
import Derived.Test.YtndpadnjjbbkkaaGHub20
import Derived.Test.YtndpadnjjbbkkaaGHub21
import Derived.Test.YtndpadnjjbbkkaaGHub24

/- Chapter 12 of the program: ReadSensor, and the functions that yield the readings; nothing that was there is written. -/
namespace Go.Proofs.Ytndpadnjjbbkkaa.exe
open Go Go.ChangeShapes Go.WideShapes Go.ChangeAt Go.RowKit Go.Proofs.Ytndpadnjjbbkkaa.row Go.Proofs.Ytndpadnjjbbkkaa.val Go.Proofs.Ytndpadnjjbbkkaa.expr Go.Proofs.Ytndpadnjjbbkkaa.stm Go.Proofs.Ytndpadnjjbbkkaa.blk Go.Proofs.Ytndpadnjjbbkkaa.sets
set_option maxRecDepth 100000 in
set_option maxHeartbeats 2000000 in
theorem impl_readsensorR (w : World) (a : Option Addr) (n cap : Nat) (R : List Int) (hn : (n : Int) ≤ 1048576) (h : Row w a n R) (q m : Int) :
    Calls Try.prog 11 #[.slice a n cap, .int .i64 q, .int .i64 m] w (Ret w (readS R q m)) := by
  have hl := h.1
  by_cases h0 : n = 0
  · subst h0
    have HV := Lib.hid (readS_no (R := R) (q := q) (n := m) (.inl hl))
    go_enter Try.func11, Try.ntmps11
    go_wp2
    go_ret
    exact ⟨ret_i HV.out.symm, rfl⟩
  · have hpos : ¬ (n : Int) = 0 := by omega
    cases hq : (decide (0 ≤ q) && decide (q ≤ 3))
    · have HQ := Lib.hid hq
      have HV := Lib.hid (readS_no (R := R) (q := q) (n := m) (by simp at hq; omega))
      clear hq
      go_enter Try.func11, Try.ntmps11
      go_wp2_with (go_at_call 31; (with_reducible refine (sensnum q _ HQ.out _).mono ?_); rintro e w3 ⟨rfl, rfl⟩)
      go_ret
      exact ⟨ret_i HV.out.symm, rfl⟩
    · have HQ := Lib.hid hq
      have hq2 : 0 ≤ q ∧ q ≤ 3 := by simpa using hq
      clear hq
      by_cases hm : m < 0
      · have HV := Lib.hid (readS_no (R := R) (q := q) (n := m) (by omega))
        go_enter Try.func11, Try.ntmps11
        go_wp2_with (go_at_call 31; (with_reducible refine (sensnum q _ HQ.out _).mono ?_); rintro e w3 ⟨rfl, rfl⟩)
        go_ret
        exact ⟨ret_i HV.out.symm, rfl⟩
      · have hmd : decide (m < 0) = false := by simp; omega
        have ht : m.tmod n = m % n := Int.tmod_eq_emod_of_nonneg (by omega)
        have hr0 : 0 ≤ m % n := Int.emod_nonneg m (by omega)
        have hr1 : m % n < n := Int.emod_lt_of_pos m (by omega)
        obtain ⟨k, hk⟩ : ∃ k : Nat, m % n = k := ⟨(m % n).toNat, by omega⟩
        obtain ⟨b, off, x, rfl, _, hx, hc⟩ := h.2 k (by omega)
        have HV := Lib.hid (show readS R q m = sat (sat x + sat (100 * q)) by
          rw [readS_ok (by omega) hq2.1 (by omega) (by omega), hl, hk, List.getD_eq_getElem?_getD, show ((k : Int)).toNat = k by omega, hx]; rfl)
        rw [hk] at ht hr0 hr1
        have hm0 : 0 ≤ m := by omega
        clear hx h hk hm
        go_enter Try.func11, Try.ntmps11
        go_wp2_with (first
          | (go_at_call 31; (with_reducible refine (sensnum q _ HQ.out _).mono ?_); rintro e w3 ⟨rfl, rfl⟩)
          | (go_at_call 32; refine (impl_add _ _ _).mono ?_; rintro e w4 ⟨rfl, rfl⟩))
        go_ret
        exact ⟨ret_i HV.out.symm, rfl⟩
theorem impl_readsensor (w : World) (a : Option Addr) (n cap : Nat) (R : List Int) (hn : (n : Int) ≤ 1048576) (h : Row w a n R) (q m : Int) :
    Calls Try.prog 11 #[.slice a n cap, .int .i64 q, .int .i64 m] w (BelI w (readS R q m)) :=
  (impl_readsensorR w a n cap R hn h q m).mono fun _ _ ⟨h1, h2⟩ => ⟨h1, h2 ▸ Below.refl _ _⟩
theorem list_inP {Y : List Int} {n : Nat} {x : Int} (h : Y[n]? = some x) (q : Int) : listSrc Y q n = x := by
  unfold listSrc; rw [List.getD_eq_getElem?_getD, h]; rfl
theorem list_outP {Y : List Int} {n : Nat} (h : Y.length ≤ n) (q : Int) : listSrc Y q n = 0 := by
  unfold listSrc; rw [List.getD_eq_getElem?_getD, List.getElem?_eq_none h]; rfl
set_option maxRecDepth 100000 in
set_option maxHeartbeats 2000000 in
theorem rd_list (w : World) (c : PCf) (hlv : c.lv = false) (h : PCfAt c w) (q : Int) (n : Nat) (v : Int) (hv : c.src q n = v) :
    Calls Try.prog 43 #[.int .i64 q, .int .i64 n, .pointer (some ⟨c.gu, 0, none⟩)] w (Ret w v) := by
  obtain ⟨lv, gu, gz, al, nl, cl, Y, z⟩ := c
  simp only at hlv
  subst hlv
  obtain ⟨⟨_, c0⟩, _, hY, hnl, _, _⟩ := h
  dsimp only at c0 hY hnl
  have hv2 : listSrc Y q n = v := hv
  by_cases hlt : n < nl
  · have hI : (n : Int) < nl := by omega
    obtain ⟨b, off, y, rfl, hlb, hy, hcy⟩ := hY.2 n hlt
    obtain rfl : y = v := by rw [← hv2]; exact (list_inP hy q).symm
    clear hv hv2 hy hY
    go_enter Try.func43, Try.ntmps43
    go_wp2
    go_ret
    exact ⟨rfl, rfl⟩
  · have hI : ¬ (n : Int) < nl := by omega
    obtain rfl : (0 : Int) = v := by rw [← hv2]; exact (list_outP (by rw [hY.1]; omega) q).symm
    clear hv hv2 hY
    go_enter Try.func43, Try.ntmps43
    go_wp2
    go_ret
    exact ⟨rfl, rfl⟩
set_option maxRecDepth 100000 in
set_option maxHeartbeats 2000000 in
theorem rd_live (w : World) (c : PCf) (hlv : c.lv = true) (h : PCfAt c w) (q : Int) (n : Nat) (hn : n ≤ 100000) (v : Int) (hv : c.src q n = v) :
    Calls Try.prog 42 #[.int .i64 q, .int .i64 n, .pointer (some ⟨c.gu, 0, none⟩), .pointer (some ⟨c.gz, 0, none⟩)] w (Ret w v) := by
  obtain ⟨lv, gu, gz, al, nl, cl, Y, z⟩ := c
  simp only at hlv
  subst hlv
  obtain ⟨⟨_, c0⟩, h1, hY, hnl, hz, _⟩ := h
  have c1 := (h1 rfl).2
  dsimp only at c0 c1 hY hnl hz
  have hv2 : readS Y q (z + n) = v := hv
  have hn0 : 0 ≤ z + n ∧ z + n ≤ 2000000 := by omega
  have HR := Lib.hid (impl_readsensorR w al nl cl Y hnl hY q (z + n))
  rw [hv2] at HR
  clear hv hv2 hY h1
  go_enter Try.func42, Try.ntmps42
  go_wp2_with (go_at_call 11; (with_reducible refine HR.out.mono ?_); rintro e w3 ⟨rfl, rfl⟩)
  go_ret
  exact ⟨rfl, rfl⟩
end Go.Proofs.Ytndpadnjjbbkkaa.exe
