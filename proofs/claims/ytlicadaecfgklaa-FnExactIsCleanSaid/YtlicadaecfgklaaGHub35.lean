/- Several texts in one: MemL. -/
import Derived.Test.YtlicadaecfgklaaGHub16
import Derived.Test.YtlicadaecfgklaaGHub14
import Derived.Test.YtlicadaecfgklaaGHub34
import Derived.Deep.RegionHeld3

/- Chapter 9's memory: the entries of the log that the control word counts, of the program; what makes a memory valid. -/
namespace Go.Proofs.Ytlicadaecfgklaa.mem
open Go.ChangeShapes Go.WideShapes Go.ChangeAt Go.RowKit Go.Proofs.Ytlicadaecfgklaa.row Go.Proofs.Ytlicadaecfgklaa.val Go.Proofs.Ytlicadaecfgklaa.expr Go.Proofs.Ytlicadaecfgklaa.stm Go.Proofs.Ytlicadaecfgklaa.blk Go.Proofs.Ytlicadaecfgklaa.prg Go.Proofs.Ytlicadaecfgklaa.ctl

/-- The first 'k' entries of the log are good. -/
def LogV (L : List Int) (k : Nat) : Prop := ∀ i, i < k → varOk (L.getD (9 + 2 * i) 0) = true ∧ isVal (L.getD (10 + 2 * i) 0) = true
theorem LogV.zero (L : List Int) : LogV L 0 := fun i hi => by omega
theorem LogV.next {L : List Int} {k : Nat} (h : LogV L k) (h1 : varOk (L.getD (9 + 2 * k) 0) = true) (h2 : isVal (L.getD (10 + 2 * k) 0) = true) : LogV L (k + 1) := fun i hi => by
  rcases (show i < k ∨ i = k by omega) with h' | rfl
  · exact h i h'
  · exact ⟨h1, h2⟩
theorem logV_no {L : List Int} {k c : Nat} (hk : k < c) {r : Bool} (hr : r = true ↔ LogV L c) (h : varOk (L.getD (9 + 2 * k) 0) = false ∨ isVal (L.getD (10 + 2 * k) 0) = false) : r = false := by
  rw [← Bool.not_eq_true]; intro e
  have := hr.1 e k hk
  rcases h with h | h
  · rw [this.1] at h; cases h
  · rw [this.2] at h; cases h
theorem word_at {L : List Int} {n j : Nat} (hl : L.length = n) (hj : j < n) : L[j]? = some (L.getD j 0) := by
  rw [List.getD_eq_getElem?_getD, List.getElem?_eq_getElem (by omega)]; rfl
theorem row_word {w : World} {b off n j : Nat} {L : List Int} (h : Row w (some ⟨b, off, none⟩) n L) (hj : j < n) : w.cell? ⟨b, off + j, none⟩ = some (.int .i64 (L.getD j 0)) := by
  obtain ⟨b', off', x, e, _, hx, hc⟩ := h.2 j hj
  cases e
  rw [hc, List.getD_eq_getElem?_getD, hx]; rfl

set_option maxRecDepth 100000 in
set_option maxHeartbeats 2000000 in
theorem impl_logok (w : World) (L : List Int) (hL : L.length = 49) (c : Nat) (hc : c ≤ 8) (r : Bool) (hr : r = true ↔ LogV L c) :
    Calls Try.prog 46 #[memV L, .int .i64 c] w (BelB w r) := by
  have HBX := Lib.hid (show Box w.heap.size (ivs L).toArray TM (w.alloc (.cells (ivs L).toArray TM)) from Box.new _ _ _)
  have HB := Lib.hid (below_new w (.cells (ivs L).toArray TM))
  have HI := Lib.hid (mem_info hL)
  have HR := Lib.hid hr
  have HLL := Lib.hid hL
  have hc8 : (c : Int) ≤ 8 := by omega
  obtain ⟨W, hW⟩ : ∃ W, w.alloc (.cells (ivs L).toArray TM) = W := ⟨_, rfl⟩
  rw [hW] at HBX HB
  have HCC := Lib.hid hc
  clear hr hc hL
  go_enter Try.func46, Try.ntmps46
  (try rw [hW])
  go_wp2
  go_loopw [5, 6, 7, 9] (fun _ _ _ i wr => ∃ k : Nat, k ≤ c ∧ i = .int .i64 k ∧ Hid (LogV L k) ∧ Hid (Box w.heap.size (ivs L).toArray TM wr ∧ Below w.heap.size w wr)) (fun _ _ _ i _ => c - (intOf i).toNat)
  case atStart => exact ⟨0, Nat.zero_le _, rfl, LogV.zero L, HBX.out, HB.out⟩
  case round =>
    obtain ⟨k, hk, rfl, hV, HK⟩ := hrel
    by_cases hlt : k < c
    · have hI : (k : Int) < c := by omega
      obtain ⟨x, hx⟩ : ∃ x, L.getD (9 + 2 * k) 0 = x := ⟨_, rfl⟩
      obtain ⟨y, hy⟩ : ∃ y, L.getD (10 + 2 * k) 0 = y := ⟨_, rfl⟩
      have HEN := Lib.hid (impl_logentry wr L HLL.out k (by have := HCC.out; omega) x y hx hy)
      have HN := Lib.hid (And.intro hx hy)
      clear hx hy
      cases h1 : varOk x
      · have HV1 := Lib.hid h1
        have HF := Lib.hid (logV_no hlt HR.out (.inl (by rw [HN.out.1]; exact h1)))
        clear h1
        go_wp2_with (first
          | (refine wpList_load_row rfl TM _ rfl w.heap.size rfl _ _ _ _ HK.out.1 Try.underlying49 rfl HI.out ?_)
          | (go_at_call 30; (with_reducible refine HEN.out.mono ?_); rintro e w2 ⟨rfl, hb2⟩; refine Hid.out ?_))
        have HB2 := Lib.hid (below_then HK.out.2 hb2)
        clear hb2
        refine Lib.hid ?_
        go_wp2_with (go_at_call 31; refine (varnum _ _ HV1.out _).mono ?_; rintro e w3 ⟨rfl, rfl⟩)
        go_ret
        exact ⟨by rw [HF.out]; rfl, HB2.out⟩
      · have HV1 := Lib.hid h1
        clear h1
        cases h2 : isVal y
        · have HV2 := Lib.hid (show isVal y = false from h2)
          have HF := Lib.hid (logV_no hlt HR.out (.inr (by rw [HN.out.2]; exact h2)))
          go_wp2_with (first
            | (refine wpList_load_row rfl TM _ rfl w.heap.size rfl _ _ _ _ HK.out.1 Try.underlying49 rfl HI.out ?_)
            | (go_at_call 30; (with_reducible refine HEN.out.mono ?_); rintro e w2 ⟨rfl, hb2⟩; refine Hid.out ?_))
          have HB2 := Lib.hid (below_then HK.out.2 hb2)
          clear hb2
          refine Lib.hid ?_
          go_wp2_with (first
            | (go_at_call 31; refine (varnum _ _ HV1.out _).mono ?_; rintro e w3 ⟨rfl, rfl⟩)
            | (go_at_call 57; refine (impl_isval _ _).mono ?_; rintro e w3 ⟨rfl, rfl⟩))
          go_ret
          exact ⟨by rw [HF.out]; rfl, HB2.out⟩
        · have HV2 := Lib.hid (hV.out.next (by rw [HN.out.1]; exact HV1.out) (by rw [HN.out.2]; exact h2))
          go_wp2_with (first
            | (refine wpList_load_row rfl TM _ rfl w.heap.size rfl _ _ _ _ HK.out.1 Try.underlying49 rfl HI.out ?_)
            | (go_at_call 30; (with_reducible refine HEN.out.mono ?_); rintro e w2 ⟨rfl, hb2⟩; refine Hid.out ?_))
          have HB2 := Lib.hid (And.intro (HK.out.1.below hb2) (below_then HK.out.2 hb2))
          clear hb2
          refine Lib.hid ?_
          go_wp2_with (first
            | (go_at_call 31; refine (varnum _ _ HV1.out _).mono ?_; rintro e w3 ⟨rfl, rfl⟩)
            | (go_at_call 57; refine (impl_isval _ _).mono ?_; rintro e w3 ⟨rfl, rfl⟩))
          go_roundw
          case rel => exact ⟨k + 1, by omega, by go_num, HV2, HB2⟩
          case measure => simp [intOf]; omega
    · have hkc : k = c := by omega
      subst hkc
      have HF := Lib.hid (HR.out.2 hV.out)
      clear hV
      go_wp2
      go_ret
      exact ⟨by rw [HF.out]; rfl, HK.out.2⟩
end Go.Proofs.Ytlicadaecfgklaa.mem
