/- Chapter 9's memory: the entries of the log that the control word counts, of the program; what makes a memory valid. -/
import Derived.Test.YtekeonenbhmejaaMemW
import Derived.Test.YtekeonenbhmejaaPrgI
import Derived.Deep.RegionHeld3
namespace Go.Proofs.Ytekeonenbhmejaa.mem
open Go.ChangeShapes Go.WideShapes Go.ChangeAt Go.RowKit Go.Proofs.Ytekeonenbhmejaa.row Go.Proofs.Ytekeonenbhmejaa.val Go.Proofs.Ytekeonenbhmejaa.expr Go.Proofs.Ytekeonenbhmejaa.stm Go.Proofs.Ytekeonenbhmejaa.blk Go.Proofs.Ytekeonenbhmejaa.prg Go.Proofs.Ytekeonenbhmejaa.ctl

/-- The first 'k' entries of the log are good. -/
def LogV (L : List Int) (k : Nat) : Prop := ∀ i, i < k → varOk (L.getD (9 + 2 * i) 0) = true ∧ isVal (L.getD (10 + 2 * i) 0) = true
theorem LogV.zero (L : List Int) : LogV L 0 := fun i hi => by omega
theorem LogV.next {L : List Int} {k : Nat} (h : LogV L k) (h1 : varOk (L.getD (9 + 2 * k) 0) = true) (h2 : isVal (L.getD (10 + 2 * k) 0) = true) : LogV L (k + 1) := fun i hi => by
  rcases (show i < k ∨ i = k by omega) with h' | rfl
  · exact h i h'
  · exact ⟨h1, h2⟩
theorem logV_no {L : List Int} {k c : Nat} (hk : k < c) {r : Bool} (hr : r = true ↔ LogV L c) (h : varOk (L.getD (9 + 2 * k) 0) = false ∨ isVal (L.getD (10 + 2 * k) 0) = false) : r = false := by
  rw [← Bool.not_eq_true]; intro e
  have := hr.1 e k hk
  rcases h with h | h
  · rw [this.1] at h; cases h
  · rw [this.2] at h; cases h
theorem word_at {L : List Int} {n j : Nat} (hl : L.length = n) (hj : j < n) : L[j]? = some (L.getD j 0) := by
  rw [List.getD_eq_getElem?_getD, List.getElem?_eq_getElem (by omega)]; rfl
theorem row_word {w : World} {b off n j : Nat} {L : List Int} (h : Row w (some ⟨b, off, none⟩) n L) (hj : j < n) : w.cell? ⟨b, off + j, none⟩ = some (.int .i64 (L.getD j 0)) := by
  obtain ⟨b', off', x, e, _, hx, hc⟩ := h.2 j hj
  cases e
  rw [hc, List.getD_eq_getElem?_getD, hx]; rfl

set_option maxRecDepth 100000 in
set_option maxHeartbeats 2000000 in
theorem impl_logok (w : World) (L : List Int) (hL : L.length = 49) (c : Nat) (hc : c ≤ 8) (r : Bool) (hr : r = true ↔ LogV L c) :
    Calls Try.prog 50 #[memV L, .int .i64 c] w (BelB w r) := by
  have hb : Box w.heap.size (ivs L).toArray TM (w.alloc (.cells (ivs L).toArray TM)) := Box.new _ _ _
  have HC : Hid (∀ j, j < 49 → (w.alloc (.cells (ivs L).toArray TM)).cell? ⟨w.heap.size, j, none⟩ = some (.int .i64 (L.getD j 0))) := fun j hj => by
    rw [hb.cell]; simp [ivs, show j < L.length by omega]
  have HB := Lib.hid (below_new w (.cells (ivs L).toArray TM))
  have HR := Lib.hid hr
  have hc8 : (c : Int) ≤ 8 := by omega
  clear hb hr hc
  go_enter Try.func50, Try.ntmps50
  go_wp2
  go_loop [5, 6, 8] (fun _ _ i => ∃ k : Nat, k ≤ c ∧ i = .int .i64 k ∧ Hid (LogV L k)) (fun _ _ i => c - (intOf i).toNat)
  case atStart => exact ⟨0, Nat.zero_le _, rfl, LogV.zero L⟩
  case round =>
    obtain ⟨k, hk, rfl, hV⟩ := hrel
    by_cases hlt : k < c
    · have hI : (k : Int) < c := by omega
      obtain ⟨p, hp⟩ : ∃ p : Nat, p = 9 + 2 * k := ⟨_, rfl⟩
      have d0 := HC.out (9 + 2 * k) (by omega)
      have d1 := HC.out (10 + 2 * k) (by omega)
      obtain ⟨x, hx⟩ : ∃ x, L.getD (9 + 2 * k) 0 = x := ⟨_, rfl⟩
      obtain ⟨y, hy⟩ : ∃ y, L.getD (10 + 2 * k) 0 = y := ⟨_, rfl⟩
      rw [hx, ← hp] at d0
      rw [hy, show 10 + 2 * k = p + 1 by omega] at d1
      have hpk : (9 : Int) + 2 * (k : Int) = (p : Int) := by omega
      have hpb : (p : Int) ≤ 23 := by omega
      have HN := Lib.hid (And.intro hp (And.intro hx hy))
      clear hp hx hy
      cases h1 : varOk x
      · have HV1 := Lib.hid h1
        have HF := Lib.hid (logV_no hlt HR.out (.inl (by rw [HN.out.2.1]; exact h1)))
        clear h1
        go_wp2_with (go_at_call 60; refine (varnum _ _ HV1.out _).mono ?_; rintro e w2 ⟨rfl, rfl⟩)
        go_ret
        exact ⟨by rw [HF.out]; rfl, HB.out⟩
      · have HV1 := Lib.hid h1
        clear h1
        cases h2 : isVal y
        · have HV2 := Lib.hid (show isVal y = false from h2)
          have HF := Lib.hid (logV_no hlt HR.out (.inr (by rw [HN.out.2.2]; exact h2)))
          go_wp2_with (first
            | (go_at_call 60; refine (varnum _ _ HV1.out _).mono ?_; rintro e w2 ⟨rfl, rfl⟩)
            | (go_at_call 59; refine (impl_isval _ _).mono ?_; rintro e w2 ⟨rfl, rfl⟩))
          go_ret
          exact ⟨by rw [HF.out]; rfl, HB.out⟩
        · have HV2 := Lib.hid (hV.out.next (by rw [HN.out.2.1]; exact HV1.out) (by rw [HN.out.2.2]; exact h2))
          go_wp2_with (first
            | (go_at_call 60; refine (varnum _ _ HV1.out _).mono ?_; rintro e w2 ⟨rfl, rfl⟩)
            | (go_at_call 59; refine (impl_isval _ _).mono ?_; rintro e w2 ⟨rfl, rfl⟩))
          go_round
          case rel => exact ⟨k + 1, by omega, by go_num, HV2⟩
          case measure => simp [intOf]; omega
    · have hkc : k = c := by omega
      subst hkc
      have HF := Lib.hid (HR.out.2 hV.out)
      clear hV
      go_wp2
      go_ret
      exact ⟨by rw [HF.out]; rfl, HB.out⟩
end Go.Proofs.Ytekeonenbhmejaa.mem
