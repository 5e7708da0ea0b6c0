/- Several texts in one: SetI. -/
import Derived.Test.YtlicadaecfgklaaGreatGHub34
import Derived.Test.YtlicadaecfgklaaGreatGHub28
import Derived.Test.YtlicadaecfgklaaGreatGHub22

/- The program's MustWrite, MayReadFirst and HasVar, and the model's HasVar: what the plain relations say; nothing that was there is written. -/
namespace Go.Proofs.YtlicadaecfgklaaGreat.sets
open Go Go.ChangeShapes Go.WideShapes Go.ChangeAt Go.RowKit Go.Maps Go.Proofs.YtlicadaecfgklaaGreat.row Go.Proofs.YtlicadaecfgklaaGreat.val Go.Proofs.YtlicadaecfgklaaGreat.stm Go.Proofs.YtlicadaecfgklaaGreat.blk Go.Proofs.YtlicadaecfgklaaGreat.expr Go.Proofs.YtlicadaecfgklaaGreat.prg

set_option maxHeartbeats 2000000 in
set_option maxRecDepth 100000 in
theorem impl_mustwrite (a : Option Addr) (n cap : Nat) (B : List Sm) (hn : (n : Int) ≤ 1048576) (_ : n ≤ cap) (w : World) (h : StRow w a n B) (f : Nat → Bool) (hf : Is f (fun v => IsBlk B ∧ WAt B n v)) :
    Calls Tryz.prog 54 #[.slice a n cap] w (NewInts w (lst f 8)) := by
  have HL := Lib.hid h
  have HF := Lib.hid hf
  have hlen := h.1
  clear h hf
  rcases Classical.em (IsBlk B) with hb | hb
  · have HB := Lib.hid hb
    clear hb
    go_enter Tryz.func54, Tryz.ntmps54
    go_wp2_with (go_at_call 50; (with_reducible refine (impl_blockok _ n cap B hn _ HL.out true ⟨fun _ => HB.out, fun _ => rfl⟩).mono ?_); rintro e w2 ⟨rfl, hb2⟩; refine Hid.out ?_)
    have H2 := Lib.hid (And.intro (HL.out.below hb2) hb2)
    clear hb2
    refine Lib.hid ?_
    go_wp2_with (go_at_call 76; (with_reducible refine (impl_pass _ n cap B hn HB.out _ H2.out.1).mono ?_); rintro e w3 ⟨q, r, W, G, rfl, _, _, _, hW, _, hb3⟩; refine Hid.out ?_)
    have H3 := Lib.hid (And.intro hW.out (below_then H2.out.2 hb3.out))
    clear hW hb3
    have HFL := Lib.hid (show lst W 8 = lst f 8 from lst_congr (Is.eq H3.out.1.2 (HF.out.congr (fun u => by rw [hlen]; exact ⟨fun h => ⟨HB.out, h⟩, fun h => h.2⟩))))
    refine Lib.hid ?_
    go_wp2_with (go_at_call 52; (with_reducible refine (impl_ascending q W _ H3.out.1.1).mono ?_); rintro e w5 ⟨ad, m, c5, rfl, hown, hb5⟩)
    go_ret
    exact ⟨ad, m, c5, rfl, by rw [← HFL.out]; exact hown.mono H3.out.2.size, below_then H3.out.2 hb5⟩
  · have HB := Lib.hid hb
    have HFL := Lib.hid (isFalse HF.out hb)
    clear hb
    go_enter Tryz.func54, Tryz.ntmps54
    go_wp2_with (go_at_call 50; (with_reducible refine (impl_blockok _ n cap B hn _ HL.out false ⟨fun h => (by cases h), fun h => absurd h HB.out⟩).mono ?_); rintro e w2 ⟨rfl, hb2⟩)
    go_ret
    exact ⟨none, 0, 0, rfl, by rw [HFL.out]; exact World.ownsRow_nil _ _ _ _, hb2⟩
set_option maxHeartbeats 4000000 in
set_option maxRecDepth 100000 in
theorem impl_mayread (ab : Option Addr) (nb cb : Nat) (t : Tk) (hn : (nb : Int) ≤ 1048576) (w : World) (h : StRow w ab nb t.b) (f : Nat → Bool) (hf : Is f (FirstP t)) :
    Calls Tryz.prog 55 #[tkV ab nb cb t] w (NewInts w (lst f 8)) := by
  obtain ⟨r, hr⟩ := tsk_dec t
  have HTO := Lib.hid (show ∀ w', StRow w' ab nb t.b → Calls Tryz.prog 53 #[tkV ab nb cb t] w' (BelB w' r) from fun w' h' => impl_taskok ab nb cb t hn w' h' r hr)
  obtain ⟨B, o, x, y⟩ := t
  obtain ⟨W, hW⟩ : ∃ W, w.alloc (.cells #[.slice ab nb cb, .int .i64 o, .int .i64 x, .int .i64 y] 47) = W := ⟨_, rfl⟩
  have hbx : Box w.heap.size #[.slice ab nb cb, .int .i64 o, .int .i64 x, .int .i64 y] 47 W := by rw [← hW]; exact Box.new _ _ _
  have hBW : Below w.heap.size w W := by rw [← hW]; exact below_new _ _
  have H := Lib.hid (And.intro hbx (And.intro hBW (h.below hBW)))
  have HF := Lib.hid hf
  have hlen : B.length = nb := h.1
  clear h hbx hBW hf
  cases r
  · have HFL := Lib.hid (show lst f 8 = [] by
      rw [lst_congr (g := fun _ => false) (fun v hv => by
        cases h9 : f v
        · rfl
        · exact absurd (hr.2 ((HF.out v hv).1 h9).1) (by simp))]
      exact lst_nil (fun _ => rfl) 8)
    clear hr
    go_enter Tryz.func55, Tryz.ntmps55
    go_wp2_with (first
      | (refine wpList_load_row rfl 47 _ rfl w.heap.size rfl _ _ _ _ H.out.1 Tryz.underlying47 rfl (by kernel_rfl) ?_)
      | (go_at_call 53; (with_reducible refine (HTO.out _ H.out.2.2).mono ?_); rintro e w2 ⟨rfl, hb2⟩))
    go_ret
    exact ⟨none, 0, 0, rfl, by rw [HFL.out]; exact World.ownsRow_nil _ _ _ _, below_then H.out.2.1 hb2⟩
  · have HBE := Lib.hid (hr.1 rfl)
    clear hr
    go_enter Tryz.func55, Tryz.ntmps55
    go_wp2_with (first
      | (refine wpList_load_row rfl 47 _ rfl w.heap.size rfl _ _ _ _ H.out.1 Tryz.underlying47 rfl (by kernel_rfl) ?_)
      | (go_at_call 53; (with_reducible refine (HTO.out _ H.out.2.2).mono ?_); rintro e w2 ⟨rfl, hb2⟩; refine Hid.out ?_))
    have H2 := Lib.hid (And.intro (H.out.1.below hb2) (And.intro (below_then H.out.2.1 hb2) (H.out.2.2.below hb2)))
    clear hb2 hW
    have c0 : w2.cell? ⟨w.heap.size, 0, none⟩ = some (.slice ab nb cb) := H2.out.1.cell 0
    refine Lib.hid ?_
    go_wp2_with (go_at_call 76; (with_reducible refine (impl_pass ab nb cb B hn HBE.out.1 _ H2.out.2.2).mono ?_); rintro e w3 ⟨q, r, W3, G3, rfl, hqr, _, hrb, hW3, hG3, hb3⟩; refine Hid.out ?_)
    have H3 := Lib.hid (And.intro (H2.out.1.below hb3.out) (And.intro hW3.out (And.intro hG3.out (below_then H2.out.2.1 hb3.out))))
    have hrw : w.heap.size ≤ r := Nat.le_trans H2.out.2.1.size hrb
    have k1 : w3.cell? ⟨w.heap.size, 1, none⟩ = some (.int .i64 o) := H3.out.1.cell 1
    have k2 : w3.cell? ⟨w.heap.size, 1 + 1, none⟩ = some (.int .i64 x) := H3.out.1.cell 2
    have k3 : w3.cell? ⟨w.heap.size, 1 + 2, none⟩ = some (.int .i64 y) := H3.out.1.cell 3
    have HADD := Lib.hid (impl_addfirst r q G3 W3 (Ne.symm hqr) o x y w3 H3.out.2.2.1.1 H3.out.2.1.1)
    clear hW3 hG3 hb3 c0 hqr
    refine Lib.hid ?_
    go_wp2_with (go_at_call 77; (with_reducible refine HADD.out.mono ?_); rintro e w4 ⟨rfl, hg4, G4, hG4⟩; refine Hid.out ?_)
    have H4 := Lib.hid (And.intro hG4.out.1 (H3.out.2.2.2.grown hg4 H3.out.2.2.2.size (fun j hj => by cases hj; exact hrw)))
    have HFL := Lib.hid (show lst G4 8 = lst f 8 from lst_congr (Is.eq (p := FirstP ⟨B, o, x, y⟩) (fun v hv => by
      refine (hG4.out.2 v hv).trans ?_
      have hrd : readsV o x y = rd x y 8 := if_pos HBE.out.2
      rw [hrd]
      unfold FirstP
      constructor
      · rintro (h | ⟨h1, h2⟩)
        · exact ⟨HBE.out, .inl ((H3.out.2.2.1.2 v hv).1 h)⟩
        · exact ⟨HBE.out, .inr ⟨h1, (H3.out.2.1.2.neg hv).1 h2⟩⟩
      · rintro ⟨_, h | ⟨h1, h2⟩⟩
        · exact .inl ((H3.out.2.2.1.2 v hv).2 h)
        · exact .inr ⟨h1, (H3.out.2.1.2.neg hv).2 h2⟩) HF.out))
    clear hg4 hG4 k1 k2 k3
    refine Lib.hid ?_
    go_wp2_with (go_at_call 52; (with_reducible refine (impl_ascending r G4 _ H4.out.1).mono ?_); rintro e w5 ⟨ad, m, c5, rfl, hown, hb5⟩)
    go_ret
    exact ⟨ad, m, c5, rfl, by rw [← HFL.out]; exact hown.mono H4.out.2.size, below_then H4.out.2 hb5⟩
theorem row_cells {w : World} {a : Option Addr} {n : Nat} {L : List Int} (h : Row w a n L) (hn : 0 < n) : ∃ b off, a = some ⟨b, off, none⟩ ∧ ∀ j, j < L.length → w.cell? ⟨b, off + j, none⟩ = some (.int .i64 (L.getD j 0)) := by
  obtain ⟨b, off, x, ha, _⟩ := h.2 0 hn
  refine ⟨b, off, ha, fun j hj => ?_⟩
  obtain ⟨b', off', x', ha', _, hx, hc⟩ := h.2 j (by have := h.1; omega)
  rw [ha] at ha'
  cases ha'
  rw [hc]; simp [List.getD, hx]
theorem contains_any (w : World) (a : Option Addr) (n cap : Nat) (L : List Int) (q : Int) (r : Bool) (hn : (n : Int) ≤ 1048576) (h : Row w a n L) (hr : decide (q ∈ L) = r) :
    Calls Tryz.prog 49 #[.slice a n cap, .int .i64 q] w fun e w' => e = .returned (.bool r) ∧ w' = w := by
  rcases Nat.eq_zero_or_pos n with h0 | h0
  · subst h0
    have hL : L = [] := List.length_eq_zero_iff.1 h.1
    subst hL
    have hrf : r = false := by rw [← hr]; simp
    rw [hrf]
    exact Any.slices_Contains_int_empty Tryz.lays107 a cap q w
  · obtain ⟨b, off, rfl, hc⟩ := row_cells h h0
    have h9 := Any.slices_Contains_int Tryz.lays107 b off n cap L q w (by have := h.1; omega) (by omega) hc
    rw [List.take_of_length_le (by have := h.1; omega)] at h9
    have h8 : L.contains q = r := by
      rw [← hr, Bool.eq_iff_iff]
      simp
    rw [h8] at h9
    exact h9
set_option maxRecDepth 100000 in
theorem spec_hasvar (w : World) (a : Option Addr) (n cap : Nat) (L : List Int) (q : Int) (r : Bool) (hn : (n : Int) ≤ 1048576) (h : Row w a n L) (hr : decide (q ∈ L) = r) :
    Calls Tryz.prog 19 #[.slice a n cap, .int .i64 q] w (RetB w r) := by
  subst hr
  have HL := Lib.hid h.1
  have HC : Hid (∀ k, k < n → ∃ (b off : Nat) (x : Int), a = some ⟨b, off, none⟩ ∧ L[k]? = some x ∧ w.cell? ⟨b, off + k, none⟩ = some (.int .i64 x)) := fun k hk => by
    obtain ⟨b, off, x, e, _, hx, hc⟩ := h.2 k hk
    exact ⟨b, off, x, e, hx, hc⟩
  clear h
  go_enter Tryz.func19, Tryz.ntmps19
  go_wp2
  go_loop [5] (fun i => ∃ k : Nat, k ≤ n ∧ i = .int .i64 k ∧ Hid (¬ q ∈ L.take k)) (fun i => n - (intOf i).toNat)
  case atStart => exact ⟨0, Nat.zero_le _, rfl, by simp [Hid]⟩
  case round =>
    obtain ⟨k, hk, rfl, hA⟩ := hrel
    by_cases hlt : k < n
    · obtain ⟨b, off, x, rfl, hx, hc⟩ := HC.out k hlt
      have hI : (k : Int) < n := by omega
      by_cases hq : x = q
      · subst hq
        have HF : Hid (decide (x ∈ L) = true) := by
          show _ = _
          rw [decide_eq_true_eq]; exact List.mem_of_getElem? hx
        clear hx
        go_wp2
        go_ret
        exact ⟨by rw [HF.out]; rfl, rfl⟩
      · have hqb : (x == q) = false := by simpa using hq
        have HA2 : Hid (¬ q ∈ L.take (k + 1)) := by
          show ¬ _
          rw [List.take_add_one, hx, List.mem_append]
          rintro (h | h)
          · exact hA.out h
          · simp at h; exact hq h.symm
        clear hx hq
        go_wp2
        go_round
        case rel => exact ⟨k + 1, by omega, by go_num, HA2⟩
        case measure => simp [intOf]; omega
    · have hkn : k = n := by omega
      subst hkn
      have HF : Hid (decide (q ∈ L) = false) := by
        show _ = _
        rw [decide_eq_false_iff_not]
        have := hA.out
        rwa [List.take_of_length_le (by have := HL.out; omega)] at this
      clear hA
      go_wp2
      go_ret
      exact ⟨by rw [HF.out]; rfl, rfl⟩
end Go.Proofs.YtlicadaecfgklaaGreat.sets
