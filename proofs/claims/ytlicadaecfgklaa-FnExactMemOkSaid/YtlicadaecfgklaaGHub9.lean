/- Several texts in one: WtM WtN. -/
import Derived.Test.YtlicadaecfgklaaGHub8
import Derived.Laws.AppendOwn
import Derived.Deep.RegionHeld3

/- Chapter 10 of the model: WriteWord, ApplyWrites; new rows; nothing that was there is written. -/
namespace Go.Proofs.Ytlicadaecfgklaa.wrt
open Go Go.ChangeShapes Go.WideShapes Go.ChangeAt Go.RowKit Go.Proofs.Ytlicadaecfgklaa.row Go.Proofs.Ytlicadaecfgklaa.val Go.Proofs.Ytlicadaecfgklaa.expr Go.Proofs.Ytlicadaecfgklaa.grow

theorem made_at (w : World) (k B : Nat) (hk : w.heap.size = k) (hB : B ≤ k) (e : TypeId) : (w.alloc (.cells #[] e)).ownsRow B e 1 (.slice (some ⟨k, 0, none⟩) 0 0) 0 [] := by
  subst hk; exact World.ownsRow_made w #[] 0 hB (Nat.zero_le _) rfl
theorem own_slice {w : World} {B : Nat} {ty : TypeId} {v : Value} {n : Nat} {xs : List Value} (h : w.ownsRow B ty 1 v n xs) : ∃ ad cap, v = .slice ad n cap := by
  rcases h.2 with ⟨e, e0⟩ | ⟨g, c, _, e, _⟩
  · exact ⟨_, _, by rw [e, e0]⟩
  · exact ⟨_, _, e⟩
theorem stored_put {w : World} {B g n c m : Nat} {P : List Int} {v : Int} (h : w.ownsRow B 3 1 (.slice (some ⟨g, 0, none⟩) n c) n (ivs P)) : (w.setCell ⟨g, m, none⟩ (.int .i64 v)).ownsRow B 3 1 (.slice (some ⟨g, 0, none⟩) n c) n (ivs (P.set m v)) := by
  have := (h.stored m (.int .i64 v)).1
  rw [ivs_set] at this; exact this
theorem word_in {p : Int} {n m : Nat} (hp : p = m) (hm : m < n) : (decide (0 ≤ p) && decide (p ≤ (n : Int) - 1)) = true := by simp; omega
theorem word_out {p : Int} {n : Nat} (h : ¬ (0 ≤ p ∧ p < n)) : (decide (0 ≤ p) && decide (p ≤ (n : Int) - 1)) = false := by
  rw [← Bool.not_eq_true, Bool.and_eq_true, decide_eq_true_eq, decide_eq_true_eq]; omega
end Go.Proofs.Ytlicadaecfgklaa.wrt

/- Chapter 10 of the model: ApplyWrites; a new row; nothing that was there is written. -/
namespace Go.Proofs.Ytlicadaecfgklaa.wrt
open Go Go.ChangeShapes Go.WideShapes Go.ChangeAt Go.RowKit Go.Proofs.Ytlicadaecfgklaa.row Go.Proofs.Ytlicadaecfgklaa.val Go.Proofs.Ytlicadaecfgklaa.expr Go.Proofs.Ytlicadaecfgklaa.grow

theorem kept2 {w w' : World} {b o : Nat} {x y : Value} (hb : Below w.heap.size w w') (hg : b < w.heap.size) (h : w.cell? ⟨b, o, none⟩ = some x ∧ w.cell? ⟨b, o + 1, none⟩ = some y) : w'.cell? ⟨b, o, none⟩ = some x ∧ w'.cell? ⟨b, o + 1, none⟩ = some y :=
  ⟨(hb.cell (p := ⟨b, o, none⟩) hg).trans h.1, (hb.cell (p := ⟨b, o + 1, none⟩) hg).trans h.2⟩
set_option maxHeartbeats 2000000 in
set_option maxRecDepth 100000 in
theorem spec_apply (w : World) (b off n cap : Nat) (M : List Int) (lb : Option Addr) (k kc : Nat) (L : List Wt) (c : Int) (hn : (n : Int) ≤ 1048576) (hk : (k : Int) ≤ 1048576) (hM : Row w (some ⟨b, off, none⟩) n M) (hL : WriteRow w lb k L) :
    Calls Try.prog 34 #[.slice (some ⟨b, off, none⟩) n cap, .slice lb k kc, .int .i64 c] w (NewInts w (appW M L c)) := by
  obtain ⟨i0, hi, hz0, hz1, hz2⟩ := info_parts infoInt
  have hml := hM.1
  have HL1 := Lib.hid (show (ivs M).length = n * 1 by rw [ivs_length, hml]; omega)
  have HN := Lib.hid (show ∀ j u, (ivs M)[j]? = some u → (w.alloc (.cells #[] 3)).cell? ((⟨b, off, none⟩ : Addr).add j) = some u from fun j u hj => by rw [Addr.add_mid]; exact row_range (hM.below (below_new _ _)) j u hj)
  have H1 := Lib.hid (ivs_one M)
  have HL := Lib.hid hL
  obtain ⟨q, hq⟩ : ∃ q, cntW c k = q := ⟨_, rfl⟩
  have HQ := Lib.hid (show L.take q = L.take c.toNat by rw [← hq, ← hL.1]; exact take_cnt L c)
  have HI := Lib.hid (show q ≤ k ∧ (∀ j : Nat, j < q → (j : Int) < c) ∧ (∀ j : Nat, j ≤ q → ¬ j < q → j < k → ¬ (j : Int) < c) by unfold cntW at hq; refine ⟨by omega, fun j hj => by omega, fun j h1 h2 h3 => by omega⟩)
  clear hM hL hq
  go_enter Try.func34, Try.ntmps34
  go_wp2_with (at_builtin; refine wpList_append_own _ rfl _ _ 22 rfl w.heap.size 3 i0 (.int .i64 0) 1 8 Try.underlying22 hi hz0 hz1 hz2 rfl (by decide) _ _ _ rfl (made_at _ w.heap.size w.heap.size rfl (Nat.le_refl _) _) ⟨b, off, none⟩ n cap (ivs M) rfl HL1.out HN.out H1.out (by unfold maxLen; omega) (by omega) (by simp) ?_; intro v' w1 hown hgrow _; refine Hid.out ?_)
  have hb := (below_new w (.cells #[] 3)).grown hgrow (by simp) (fun k hk => by cases hk; exact Nat.le_refl _)
  rw [Nat.zero_add, List.nil_append] at hown
  obtain ⟨ad, cc, rfl⟩ := own_slice hown
  have HF := Lib.hid (And.intro hown hb)
  clear hown hgrow hb
  refine Lib.hid ?_
  go_wp2
  go_loopw [8] (fun i wr => ∃ j : Nat, j ≤ q ∧ i = .int .i64 j ∧ wr.ownsRow w.heap.size 3 1 (.slice ad n cc) n (ivs (putAll M (L.take j))) ∧ Below w.heap.size w wr) (fun i _ => q - (intOf i).toNat)
  case atStart => exact ⟨0, Nat.zero_le _, rfl, HF.out.1, HF.out.2⟩
  case round =>
    obtain ⟨j, hj, rfl, hown, hbel⟩ := hrel
    by_cases hlt : j < q
    · have hI1 : (j : Int) < k := by have := HI.out.1; omega
      have hI2 : (j : Int) < c := HI.out.2.1 j hlt
      obtain ⟨b0, off0, s, rfl, hlb, hs, hr0⟩ := HL.out.2 j (by omega)
      have hr := range_below hr0 hlb hbel
      have HS := Lib.hid (putAll_snoc (M := M) hs)
      obtain ⟨p, v⟩ := s
      have r0 : wr.drew.cell? ⟨b0, off0 + j * 2, none⟩ = some (.int .i64 p) ∧ wr.drew.cell? ⟨b0, off0 + j * 2 + 1, none⟩ = some (.int .i64 v) := range2 hr
      have c0 : wr.cell? ⟨b0, off0 + j * 2, none⟩ = some (.int .i64 p) := r0.1
      have hpl : (putAll M (L.take j)).length = n := by rw [putAll_len]; exact hml
      have HR := Lib.hid (And.intro hown hbel)
      clear hr hr0 hown hbel hs
      by_cases hin : 0 ≤ p ∧ p < n
      · obtain ⟨m, rfl⟩ : ∃ m : Nat, p = m := ⟨p.toNat, by omega⟩
        have hmn : m < n := by omega
        have HD := Lib.hid (word_in (p := (m : Int)) rfl hmn)
        have HP := Lib.hid (put1_in (M := putAll M (L.take j)) (x := ⟨m, v⟩) rfl (by rw [hpl]; exact hmn))
        obtain ⟨g, X, rfl, hg1, hg2, hX, hfz⟩ := own_store HR.out.1 hmn
        have hX2 : wr.drew.cell? ⟨g, m, none⟩ = some (.int .i64 X) := hX
        have hfz2 : wr.drew.frozen? ⟨g, m, none⟩ = false := hfz
        have hmI : (m : Int) < n := by omega
        have hne : some b0 ≠ some g := fun e => by have := Option.some.inj e; omega
        have r1 : ∀ u : Value, (wr.setCell ⟨g, m, none⟩ u).drew.cell? ⟨b0, off0 + j * 2, none⟩ = some (.int .i64 m) ∧ (wr.setCell ⟨g, m, none⟩ u).drew.cell? ⟨b0, off0 + j * 2 + 1, none⟩ = some (.int .i64 v) := fun u => ⟨(grown_setCell wr g m u).cell r0.1 hne, (grown_setCell wr g m u).cell r0.2 hne⟩
        clear hin hpl
        go_wp2_with (go_at_call 26; refine (in_any _ _ _ true HD.out _).mono ?_; rintro e w2 ⟨rfl, rfl⟩)
        go_region_held3 (fun w' => w'.cell? ⟨b0, off0 + j * 2, none⟩ = some (.int .i64 m) ∧ w'.cell? ⟨b0, off0 + j * 2 + 1, none⟩ = some (.int .i64 v)) (first | (exact r0) | (exact r1 _)) (fail)
        go_wp2
        go_roundw
        case rel => exact ⟨j + 1, by omega, by go_num, by rw [HS.out, HP.out]; exact stored_put HR.out.1, Below.drew (HR.out.2.grown (grown_setCell _ g m _) HR.out.2.size (fun j hj => by cases hj; exact hg1))⟩
        case measure => simp [intOf]; omega
      · have HD := Lib.hid (word_out (p := p) (n := n) hin)
        have HP := Lib.hid (put1_out (M := putAll M (L.take j)) (x := ⟨p, v⟩) (by rw [hpl]; exact hin))
        clear hin hpl
        go_wp2_with (go_at_call 26; refine (in_any _ _ _ false HD.out _).mono ?_; rintro e w2 ⟨rfl, rfl⟩)
        go_roundw
        case rel => exact ⟨j + 1, by omega, by go_num, by rw [HS.out, HP.out]; exact HR.out.1, HR.out.2⟩
        case measure => simp [intOf]; omega
    · have HB := Lib.hid (And.intro hown hbel)
      clear hown hbel
      obtain rfl : j = q := by omega
      have HFIN := Lib.hid (show NewInts w (appW M L c) (.returned (.slice ad n cc)) wr from ⟨_, _, _, rfl, by show wr.ownsRow _ _ _ _ _ (ivs (putAll M (L.take c.toNat))); rw [← HQ.out]; exact HB.out.1, HB.out.2⟩)
      by_cases hjk : (j : Int) < k
      · have hI : ¬ (j : Int) < c := by have := HI.out.2.2 j (Nat.le_refl _) (by omega) (by omega); omega
        go_wp2
        go_ret
        exact HFIN.out
      · go_wp2
        go_ret
        exact HFIN.out
end Go.Proofs.Ytlicadaecfgklaa.wrt
