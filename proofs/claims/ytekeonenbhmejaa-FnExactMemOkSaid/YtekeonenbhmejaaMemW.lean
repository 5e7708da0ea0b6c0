/- Chapter 9's memory, of the model: a new memory, its variables, what it says was sent, as new rows; nothing that was there is written. -/
import Derived.Test.YtekeonenbhmejaaMem
import Derived.Test.YtekeonenbhmejaaZer
namespace Go.Proofs.Ytekeonenbhmejaa.mem
open Go.ChangeShapes Go.WideShapes Go.ChangeAt Go.RowKit Go.Proofs.Ytekeonenbhmejaa.row Go.Proofs.Ytekeonenbhmejaa.val Go.Proofs.Ytekeonenbhmejaa.expr Go.Proofs.Ytekeonenbhmejaa.ctl

theorem row_part {w : World} {b off n o m : Nat} {L : List Int} (h : Row w (some ⟨b, off, none⟩) n L) (hm : o + m ≤ n) : Row w (some ⟨b, off + o, none⟩) m ((L.drop o).take m) := by
  have hl := h.1
  refine ⟨by simp; omega, fun k hk => ?_⟩
  obtain ⟨b', off', x, e, hlt, hx, hc⟩ := h.2 (o + k) (by omega)
  cases e
  refine ⟨b, off + o, x, rfl, hlt, ?_, by rw [Nat.add_assoc]; exact hc⟩
  rw [List.getElem?_take_of_lt hk, List.getElem?_drop]; exact hx
theorem elemI : Try.prog.underlying 24 = some (.slice (Try.prog.elem 24)) := by kernel_rfl
theorem sizeI (w : World) : (sizeOf (Try.prog.elem 24)).run Try.prog w = .ok 1 w := by kernel_rfl
theorem cut_8 (b off cap : Nat) (hc : 49 ≤ cap) (w : World) : (Instr.sliceAt 24 (.slice (some ⟨b, off, none⟩) 49 cap) none (some (.int .i64 8)) none).run Try.prog w = .ok (.slice (some ⟨b, off, none⟩) 8 cap) w := by
  rw [run_sliceAt_slice w _ _ _ _ _ elemI, Go.run_slice_h w _ _ _ _ elemI _ _ (by omega) (by omega), sizeI]
  simp only [Result.andThen, sliced]
  rw [Nat.sub_zero, if_neg (by omega)]
  rfl
theorem cut_lh (b off cap n : Nat) (hc : 49 ≤ cap) (hn : n ≤ 24) (w : World) : (Instr.sliceAt 24 (.slice (some ⟨b, off, none⟩) 49 cap) (some (.int .i64 25)) (some (.int .i64 (25 + (n : Int)))) none).run Try.prog w = .ok (.slice (some ⟨b, off + 25, none⟩) n (cap - 25)) w := by
  rw [run_sliceAt_slice w _ _ _ _ _ elemI, Go.run_slice_lh w _ _ _ _ elemI _ _ _ _ (by omega) (by omega) (by omega), sizeI]
  simp only [Result.andThen, sliced]
  rw [show (25 + (n : Int)).toNat - (25 : Int).toNat = n by omega, show (25 : Int).toNat = 25 from rfl, if_neg (by omega), Nat.mul_one, Option.map_some, Addr.add_mid]
/-- What appending a row to an empty one asks. -/
theorem news_of (w : World) {b off n : Nat} {L : List Int} (h : Row w (some ⟨b, off, none⟩) n L) : ∀ j u, (ivs L)[j]? = some u → (w.alloc (.cells #[] 3)).cell? ((⟨b, off, none⟩ : Addr).add j) = some u := by
  intro j u hj
  rw [Addr.add_mid]
  exact World.rangeAt_alloc (row_range h) _ j u hj
theorem below_app {w w1 : World} {v : Value} {o : Obj} (hgrow : (w.alloc o).grownBy w1 v.ownBlock) (hv : ∀ k, v.ownBlock = some k → w.heap.size ≤ k) : Below w.heap.size w w1 :=
  ((Below.refl _ w).alloc (Nat.le_refl _) _).grown hgrow (by simp) hv
theorem own_slice {w : World} {B : Nat} {ty : TypeId} {v : Value} {n : Nat} {xs : List Value} (h : w.ownsRow B ty 1 v n xs) : ∃ ad cap, v = .slice ad n cap := by
  rcases h.2 with ⟨e, e0⟩ | ⟨g, c, _, e, _⟩
  · exact ⟨_, _, by rw [e, e0]⟩
  · exact ⟨_, _, e⟩

set_option maxRecDepth 100000 in
set_option maxHeartbeats 1000000 in
theorem spec_memvars_yes (w : World) (b off cap : Nat) (hcap : 49 ≤ cap) (L : List Int) (h : Row w (some ⟨b, off, none⟩) 49 L) :
    Calls Try.prog 28 #[.slice (some ⟨b, off, none⟩) 49 cap] w (NewInts w (L.take 8)) := by
  obtain ⟨i0, hi, hz0, hz1, hz2⟩ := info_parts infoInt
  have hsl := cut_8 b off cap hcap
  have hp : Row w (some ⟨b, off, none⟩) 8 (L.take 8) := by simpa using row_part (o := 0) (m := 8) h (by omega)
  have HL := Lib.hid (show (ivs (L.take 8)).length = 8 * 1 by rw [ivs_length, hp.1])
  have HN := Lib.hid (news_of w hp)
  have H1 := Lib.hid (ivs_one (L.take 8))
  clear h hp hcap
  go_enter Try.func28, Try.ntmps28
  go_wp2_with (at_builtin; refine wpList_append_own _ rfl _ _ 24 rfl w.heap.size 3 i0 (.int .i64 0) 1 8 Try.underlying24 hi hz0 hz1 hz2 rfl (by decide) _ _ _ rfl (World.ownsRow_made w #[] 0 (Nat.le_refl _) (Nat.zero_le _) rfl) ⟨b, off, none⟩ 8 cap (ivs (L.take 8)) rfl HL.out HN.out H1.out (by unfold maxLen; omega) (by omega) (by simp) ?_; intro v' w1 hown hgrow _; refine Hid.out ?_)
  have hb := below_app hgrow (fun k hk => by cases hk; exact Nat.le_refl _)
  rw [Nat.zero_add, List.nil_append] at hown
  obtain ⟨ad, c, rfl⟩ := own_slice hown
  have HF := Lib.hid (And.intro hown hb)
  clear hown hgrow hb
  refine Lib.hid ?_
  go_wp2
  go_ret
  exact ⟨_, _, _, rfl, HF.out.1, HF.out.2⟩
set_option maxRecDepth 100000 in
theorem spec_memvars_no (w : World) (a : Option Addr) (n cap : Nat) (h : ¬ n = 49) :
    Calls Try.prog 28 #[.slice a n cap] w (NewInts w []) := by
  have hq : ¬ (n : Int) = 49 := by omega
  clear h
  go_enter Try.func28, Try.ntmps28
  go_wp2
  go_ret
  exact ⟨_, _, _, rfl, World.ownsRow_made w #[] 0 (Nat.le_refl _) (Nat.zero_le _) rfl, below_new _ _⟩
set_option maxRecDepth 100000 in
set_option maxHeartbeats 1000000 in
theorem spec_memsent_yes (w : World) (b off cap : Nat) (hcap : 49 ≤ cap) (L : List Int) (h : Row w (some ⟨b, off, none⟩) 49 L) :
    Calls Try.prog 30 #[.slice (some ⟨b, off, none⟩) 49 cap] w (NewInts w (sentV L)) := by
  obtain ⟨i0, hi, hz0, hz1, hz2⟩ := info_parts infoInt
  obtain ⟨x, hx⟩ : ∃ x, L[8]? = some x := ⟨L[8]'(by have := h.1; omega), by simp [h.1]⟩
  have hc8 : w.cell? ⟨b, off + 8, none⟩ = some (.int .i64 x) := row_range h 8 _ (by simp [ivs, hx])
  have HX := Lib.hid hx
  clear hx
  cases ho : wOk x
  · have HU := Lib.hid (un_no ho)
    have HS := Lib.hid (sentV_no HX.out ho)
    clear ho h
    go_enter Try.func30, Try.ntmps30
    go_wp2_with (go_at_call 16; refine (spec_unpack_is x _ _ _ HU.out _).mono ?_; rintro e w3 ⟨rfl, rfl⟩)
    go_ret
    refine ⟨_, _, _, rfl, ?_, below_new _ _⟩
    rw [HS.out]; exact World.ownsRow_made w #[] 0 (Nat.le_refl _) (Nat.zero_le _) rfl
  · obtain ⟨t, c, n, ht, hc, hn, e1, e2, e3⟩ := un_yes ho
    have HU := Lib.hid (show unT x = t ∧ unC x = c ∧ unN x = n from ⟨e1, e2, e3⟩)
    have HS := Lib.hid (sentV_yes HX.out ho e3)
    have hsl := cut_lh b off cap n hcap hn
    have hp := row_part (o := 25) (m := n) h (by omega)
    have HL := Lib.hid (show (ivs ((L.drop 25).take n)).length = n * 1 by rw [ivs_length, hp.1]; omega)
    have HN := Lib.hid (news_of w hp)
    have H1 := Lib.hid (ivs_one ((L.drop 25).take n))
    clear ho e1 e2 e3 h hp
    go_enter Try.func30, Try.ntmps30
    go_wp2_with (first
      | (go_at_call 16; refine (spec_unpack_is x _ _ _ HU.out _).mono ?_; rintro e w3 ⟨rfl, rfl⟩)
      | (at_builtin; refine wpList_append_own _ rfl _ _ 24 rfl w.heap.size 3 i0 (.int .i64 0) 1 8 Try.underlying24 hi hz0 hz1 hz2 rfl (by decide) _ _ _ rfl (World.ownsRow_made w #[] 0 (Nat.le_refl _) (Nat.zero_le _) rfl) ⟨b, off + 25, none⟩ n (cap - 25) (ivs ((L.drop 25).take n)) rfl HL.out HN.out H1.out (by unfold maxLen; omega) (by omega) (by simp) ?_; intro v' w1 hown hgrow _; refine Hid.out ?_))
    have hb := below_app hgrow (fun k hk => by cases hk; exact Nat.le_refl _)
    rw [Nat.zero_add, List.nil_append] at hown
    obtain ⟨ad, c', rfl⟩ := own_slice hown
    have HF := Lib.hid (And.intro hown hb)
    clear hown hgrow hb
    refine Lib.hid ?_
    go_wp2
    go_ret
    refine ⟨_, _, _, rfl, ?_, HF.out.2⟩
    rw [HS.out]; exact HF.out.1
set_option maxRecDepth 100000 in
theorem spec_memsent_no (w : World) (a : Option Addr) (n cap : Nat) (h : ¬ n = 49) :
    Calls Try.prog 30 #[.slice a n cap] w (NewInts w []) := by
  have hq : ¬ (n : Int) = 49 := by omega
  clear h
  go_enter Try.func30, Try.ntmps30
  go_wp2
  go_ret
  exact ⟨_, _, _, rfl, World.ownsRow_made w #[] 0 (Nat.le_refl _) (Nat.zero_le _) rfl, below_new _ _⟩
set_option maxRecDepth 100000 in
set_option maxHeartbeats 1000000 in
theorem spec_memnew (w : World) (a : Option Addr) (n cap : Nat) (L : List Int) (hn : (n : Int) ≤ 1048576) (h : Row w a n L) :
    Calls Try.prog 17 #[.slice a n cap] w (NewMem w 3 (newV L) (varsOk L)) := by
  obtain ⟨i0, hi, hz0, hz1, hz2⟩ := info_parts infoInt
  cases hv : varsOk L
  · have HV := Lib.hid hv
    have HN := Lib.hid (newV_no hv)
    clear hv
    go_enter Try.func17, Try.ntmps17
    go_wp2_with (go_at_call 38; refine (spec_vars _ _ _ _ L hn h false HV.out).mono ?_; rintro e w1 ⟨rfl, rfl⟩)
    go_ret2
    refine ⟨_, _, _, rfl, ?_, below_new _ _⟩
    rw [HN.out]; exact World.ownsRow_made w #[] 0 (Nat.le_refl _) (Nat.zero_le _) rfl
  · obtain ⟨e1, e2, e3⟩ := newV_yes hv
    obtain rfl : n = 8 := by have := h.1; omega
    obtain ⟨b, off, rfl⟩ := row_some h (by decide)
    have HV := Lib.hid hv
    have HE := Lib.hid e1
    have HL := Lib.hid (show (ivs L).length = 8 * 1 by rw [ivs_length, e3])
    have HN := Lib.hid (news_of w h)
    have H1 := Lib.hid (ivs_one L)
    clear hv e1 e2 e3
    go_enter Try.func17, Try.ntmps17
    go_wp2_with (first
      | (go_at_call 38; refine (spec_vars _ _ _ _ L hn h true HV.out).mono ?_; rintro e w1 ⟨rfl, rfl⟩)
      | (at_builtin; refine wpList_append_own _ rfl _ _ 24 rfl w.heap.size 3 i0 (.int .i64 0) 1 8 Try.underlying24 hi hz0 hz1 hz2 rfl (by decide) _ _ _ rfl (World.ownsRow_made w #[] 0 (Nat.le_refl _) (Nat.zero_le _) rfl) ⟨b, off, none⟩ 8 cap (ivs L) rfl HL.out HN.out H1.out (by unfold maxLen; omega) (by omega) (by simp) ?_; intro v' w1 hown hgrow _; refine Hid.out ?_))
    have hb := below_app hgrow (fun k hk => by cases hk; exact Nat.le_refl _)
    rw [Nat.zero_add, List.nil_append] at hown
    obtain ⟨g, c, rfl, hbg, hgs⟩ := hown.form (by decide)
    have HF := Lib.hid (And.intro hown (And.intro hb hbg))
    have hbs := hb.size
    clear hown hgrow hb
    refine Lib.hid ?_
    go_wp2_with (at_builtin; refine wpList_append_zeros rfl _ 24 3 41 rfl w.heap.size 3 i0 Try.underlying24 Try.underlying3 hi hz0 hz1 hz2 g 8 c L rfl HF.out.1 (by decide) (by decide) hbs ?_; intro v2 w2 hown2 hgrow2; refine Hid.out ?_)
    obtain ⟨ad2, c2, rfl⟩ := own_slice hown2
    have HF2 := Lib.hid (And.intro hown2 (HF.out.2.1.grown hgrow2 hbs (fun k hk => by cases hk; exact HF.out.2.2)))
    clear hown2 hgrow2
    refine Lib.hid ?_
    go_wp2
    go_ret2
    refine ⟨_, _, _, rfl, ?_, HF2.out.2⟩
    rw [HE.out]; exact HF2.out.1
end Go.Proofs.Ytekeonenbhmejaa.mem
