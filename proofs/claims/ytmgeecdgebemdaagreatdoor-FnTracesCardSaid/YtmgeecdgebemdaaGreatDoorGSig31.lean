/- Several texts in one: SetI LogB. -/
import Derived.Test.YtmgeecdgebemdaaGreatDoorGSig30
import Derived.Test.YtmgeecdgebemdaaGreatDoorGSig23
import Derived.Test.YtmgeecdgebemdaaGreatDoorGSig20
import Derived.Test.YtmgeecdgebemdaaGreatDoorGSig24
import Derived.Test.YtmgeecdgebemdaaGreatDoorGSig22
import Derived.Test.YtmgeecdgebemdaaGreatDoorGSig29

/- The program's MustWrite, MayReadFirst and HasVar, and the model's HasVar: what the plain relations say; nothing that was there is written. -/
namespace Go.Proofs.YtmgeecdgebemdaaGreatDoor.sets
open Go Go.ChangeShapes Go.WideShapes Go.ChangeAt Go.RowKit Go.Maps Go.Proofs.YtmgeecdgebemdaaGreatDoor.row Go.Proofs.YtmgeecdgebemdaaGreatDoor.val Go.Proofs.YtmgeecdgebemdaaGreatDoor.stm Go.Proofs.YtmgeecdgebemdaaGreatDoor.blk Go.Proofs.YtmgeecdgebemdaaGreatDoor.expr Go.Proofs.YtmgeecdgebemdaaGreatDoor.prg

set_option maxHeartbeats 2000000 in
set_option maxRecDepth 100000 in
theorem impl_mustwrite (a : Option Addr) (n cap : Nat) (B : List Sm) (hn : (n : Int) ≤ 1048576) (_ : n ≤ cap) (w : World) (h : StRow w a n B) (f : Nat → Bool) (hf : Is f (fun v => IsBlk B ∧ WAt B n v)) :
    Calls Tryz.prog 137 #[.slice a n cap] w (NewInts w (lst f 8)) := by
  have HL := Lib.hid h
  have HF := Lib.hid hf
  have hlen := h.1
  clear h hf
  rcases Classical.em (IsBlk B) with hb | hb
  · have HB := Lib.hid hb
    clear hb
    go_enter Tryz.func137, Tryz.ntmps137
    go_wp2_with (go_at_call 157; (with_reducible refine (impl_blockok _ n cap B hn _ HL.out true ⟨fun _ => HB.out, fun _ => rfl⟩).mono ?_); rintro e w2 ⟨rfl, hb2⟩; refine Hid.out ?_)
    have H2 := Lib.hid (And.intro (HL.out.below hb2) hb2)
    clear hb2
    refine Lib.hid ?_
    go_wp2_with (go_at_call 181; (with_reducible refine (impl_pass _ n cap B hn HB.out _ H2.out.1).mono ?_); rintro e w3 ⟨q, r, W, G, rfl, _, _, _, hW, _, hb3⟩; refine Hid.out ?_)
    have H3 := Lib.hid (And.intro hW.out (below_then H2.out.2 hb3.out))
    clear hW hb3
    have HFL := Lib.hid (show lst W 8 = lst f 8 from lst_congr (Is.eq H3.out.1.2 (HF.out.congr (fun u => by rw [hlen]; exact ⟨fun h => ⟨HB.out, h⟩, fun h => h.2⟩))))
    refine Lib.hid ?_
    go_wp2_with (go_at_call 158; (with_reducible refine (impl_ascending q W _ H3.out.1.1).mono ?_); rintro e w5 ⟨ad, m, c5, rfl, hown, hb5⟩)
    go_ret
    exact ⟨ad, m, c5, rfl, by rw [← HFL.out]; exact hown.mono H3.out.2.size, below_then H3.out.2 hb5⟩
  · have HB := Lib.hid hb
    have HFL := Lib.hid (isFalse HF.out hb)
    clear hb
    go_enter Tryz.func137, Tryz.ntmps137
    go_wp2_with (go_at_call 157; (with_reducible refine (impl_blockok _ n cap B hn _ HL.out false ⟨fun h => (by cases h), fun h => absurd h HB.out⟩).mono ?_); rintro e w2 ⟨rfl, hb2⟩)
    go_ret
    exact ⟨none, 0, 0, rfl, by rw [HFL.out]; exact World.ownsRow_nil _ _ _ _, hb2⟩
set_option maxHeartbeats 4000000 in
set_option maxRecDepth 100000 in
theorem impl_mayread (ab : Option Addr) (nb cb : Nat) (t : Tk) (hn : (nb : Int) ≤ 1048576) (w : World) (h : StRow w ab nb t.b) (f : Nat → Bool) (hf : Is f (FirstP t)) :
    Calls Tryz.prog 138 #[tkV ab nb cb t] w (NewInts w (lst f 8)) := by
  obtain ⟨r, hr⟩ := tsk_dec t
  have HTO := Lib.hid (show ∀ w', StRow w' ab nb t.b → Calls Tryz.prog 136 #[tkV ab nb cb t] w' (BelB w' r) from fun w' h' => impl_taskok ab nb cb t hn w' h' r hr)
  obtain ⟨B, o, x, y⟩ := t
  obtain ⟨W, hW⟩ : ∃ W, w.alloc (.cells #[.slice ab nb cb, .int .i64 o, .int .i64 x, .int .i64 y] 96) = W := ⟨_, rfl⟩
  have hbx : Box w.heap.size #[.slice ab nb cb, .int .i64 o, .int .i64 x, .int .i64 y] 96 W := by rw [← hW]; exact Box.new _ _ _
  have hBW : Below w.heap.size w W := by rw [← hW]; exact below_new _ _
  have H := Lib.hid (And.intro hbx (And.intro hBW (h.below hBW)))
  have HF := Lib.hid hf
  have hlen : B.length = nb := h.1
  clear h hbx hBW hf
  cases r
  · have HFL := Lib.hid (show lst f 8 = [] by
      rw [lst_congr (g := fun _ => false) (fun v hv => by
        cases h9 : f v
        · rfl
        · exact absurd (hr.2 ((HF.out v hv).1 h9).1) (by simp))]
      exact lst_nil (fun _ => rfl) 8)
    clear hr
    go_enter Tryz.func138, Tryz.ntmps138
    go_wp2_with (first
      | (refine wpList_load_row rfl 96 _ rfl w.heap.size rfl _ _ _ _ H.out.1 Tryz.underlying96 rfl (by kernel_rfl) ?_)
      | (go_at_call 136; (with_reducible refine (HTO.out _ H.out.2.2).mono ?_); rintro e w2 ⟨rfl, hb2⟩))
    go_ret
    exact ⟨none, 0, 0, rfl, by rw [HFL.out]; exact World.ownsRow_nil _ _ _ _, below_then H.out.2.1 hb2⟩
  · have HBE := Lib.hid (hr.1 rfl)
    clear hr
    go_enter Tryz.func138, Tryz.ntmps138
    go_wp2_with (first
      | (refine wpList_load_row rfl 96 _ rfl w.heap.size rfl _ _ _ _ H.out.1 Tryz.underlying96 rfl (by kernel_rfl) ?_)
      | (go_at_call 136; (with_reducible refine (HTO.out _ H.out.2.2).mono ?_); rintro e w2 ⟨rfl, hb2⟩; refine Hid.out ?_))
    have H2 := Lib.hid (And.intro (H.out.1.below hb2) (And.intro (below_then H.out.2.1 hb2) (H.out.2.2.below hb2)))
    clear hb2 hW
    have c0 : w2.cell? ⟨w.heap.size, 0, none⟩ = some (.slice ab nb cb) := H2.out.1.cell 0
    refine Lib.hid ?_
    go_wp2_with (go_at_call 181; (with_reducible refine (impl_pass ab nb cb B hn HBE.out.1 _ H2.out.2.2).mono ?_); rintro e w3 ⟨q, r, W3, G3, rfl, hqr, _, hrb, hW3, hG3, hb3⟩; refine Hid.out ?_)
    have H3 := Lib.hid (And.intro (H2.out.1.below hb3.out) (And.intro hW3.out (And.intro hG3.out (below_then H2.out.2.1 hb3.out))))
    have hrw : w.heap.size ≤ r := Nat.le_trans H2.out.2.1.size hrb
    have k1 : w3.cell? ⟨w.heap.size, 1, none⟩ = some (.int .i64 o) := H3.out.1.cell 1
    have k2 : w3.cell? ⟨w.heap.size, 1 + 1, none⟩ = some (.int .i64 x) := H3.out.1.cell 2
    have k3 : w3.cell? ⟨w.heap.size, 1 + 2, none⟩ = some (.int .i64 y) := H3.out.1.cell 3
    have HADD := Lib.hid (impl_addfirst r q G3 W3 (Ne.symm hqr) o x y w3 H3.out.2.2.1.1 H3.out.2.1.1)
    clear hW3 hG3 hb3 c0 hqr
    refine Lib.hid ?_
    go_wp2_with (go_at_call 182; (with_reducible refine HADD.out.mono ?_); rintro e w4 ⟨rfl, hg4, G4, hG4⟩; refine Hid.out ?_)
    have H4 := Lib.hid (And.intro hG4.out.1 (H3.out.2.2.2.grown hg4 H3.out.2.2.2.size (fun j hj => by cases hj; exact hrw)))
    have HFL := Lib.hid (show lst G4 8 = lst f 8 from lst_congr (Is.eq (p := FirstP ⟨B, o, x, y⟩) (fun v hv => by
      refine (hG4.out.2 v hv).trans ?_
      have hrd : readsV o x y = rd x y 8 := if_pos HBE.out.2
      rw [hrd]
      unfold FirstP
      constructor
      · rintro (h | ⟨h1, h2⟩)
        · exact ⟨HBE.out, .inl ((H3.out.2.2.1.2 v hv).1 h)⟩
        · exact ⟨HBE.out, .inr ⟨h1, (H3.out.2.1.2.neg hv).1 h2⟩⟩
      · rintro ⟨_, h | ⟨h1, h2⟩⟩
        · exact .inl ((H3.out.2.2.1.2 v hv).2 h)
        · exact .inr ⟨h1, (H3.out.2.1.2.neg hv).2 h2⟩) HF.out))
    clear hg4 hG4 k1 k2 k3
    refine Lib.hid ?_
    go_wp2_with (go_at_call 158; (with_reducible refine (impl_ascending r G4 _ H4.out.1).mono ?_); rintro e w5 ⟨ad, m, c5, rfl, hown, hb5⟩)
    go_ret
    exact ⟨ad, m, c5, rfl, by rw [← HFL.out]; exact hown.mono H4.out.2.size, below_then H4.out.2 hb5⟩
theorem row_cells {w : World} {a : Option Addr} {n : Nat} {L : List Int} (h : Row w a n L) (hn : 0 < n) : ∃ b off, a = some ⟨b, off, none⟩ ∧ ∀ j, j < L.length → w.cell? ⟨b, off + j, none⟩ = some (.int .i64 (L.getD j 0)) := by
  obtain ⟨b, off, x, ha, _⟩ := h.2 0 hn
  refine ⟨b, off, ha, fun j hj => ?_⟩
  obtain ⟨b', off', x', ha', _, hx, hc⟩ := h.2 j (by have := h.1; omega)
  rw [ha] at ha'
  cases ha'
  rw [hc]; simp [List.getD, hx]
theorem contains_any (w : World) (a : Option Addr) (n cap : Nat) (L : List Int) (q : Int) (r : Bool) (hn : (n : Int) ≤ 1048576) (h : Row w a n L) (hr : decide (q ∈ L) = r) :
    Calls Tryz.prog 156 #[.slice a n cap, .int .i64 q] w fun e w' => e = .returned (.bool r) ∧ w' = w := by
  rcases Nat.eq_zero_or_pos n with h0 | h0
  · subst h0
    have hL : L = [] := List.length_eq_zero_iff.1 h.1
    subst hL
    have hrf : r = false := by rw [← hr]; simp
    rw [hrf]
    exact Any.slices_Contains_int_empty Tryz.lays107 a cap q w
  · obtain ⟨b, off, rfl, hc⟩ := row_cells h h0
    have h9 := Any.slices_Contains_int Tryz.lays107 b off n cap L q w (by have := h.1; omega) (by omega) hc
    rw [List.take_of_length_le (by have := h.1; omega)] at h9
    have h8 : L.contains q = r := by
      rw [← hr, Bool.eq_iff_iff]
      simp
    rw [h8] at h9
    exact h9
theorem impl_hasvar (w : World) (a : Option Addr) (n cap : Nat) (L : List Int) (q : Int) (r : Bool) (hn : (n : Int) ≤ 1048576) (h : Row w a n L) (hr : decide (q ∈ L) = r) :
    Calls Tryz.prog 186 #[.slice a n cap, .int .i64 q] w (RetB w r) := by
  have HC := Lib.hid (contains_any w a n cap L q r hn h hr)
  clear h hr
  go_enter Tryz.func186, Tryz.ntmps186
  go_wp2_with (go_at_call 156; (with_reducible refine HC.out.mono ?_); rintro e w' ⟨rfl, rfl⟩)
  go_ret
  exact ⟨rfl, rfl⟩
set_option maxRecDepth 100000 in
theorem spec_hasvar (w : World) (a : Option Addr) (n cap : Nat) (L : List Int) (q : Int) (r : Bool) (hn : (n : Int) ≤ 1048576) (h : Row w a n L) (hr : decide (q ∈ L) = r) :
    Calls Tryz.prog 173 #[.slice a n cap, .int .i64 q] w (RetB w r) := by
  subst hr
  have HL := Lib.hid h.1
  have HC : Hid (∀ k, k < n → ∃ (b off : Nat) (x : Int), a = some ⟨b, off, none⟩ ∧ L[k]? = some x ∧ w.cell? ⟨b, off + k, none⟩ = some (.int .i64 x)) := fun k hk => by
    obtain ⟨b, off, x, e, _, hx, hc⟩ := h.2 k hk
    exact ⟨b, off, x, e, hx, hc⟩
  clear h
  go_enter Tryz.func173, Tryz.ntmps173
  go_wp2
  go_loop [5] (fun i => ∃ k : Nat, k ≤ n ∧ i = .int .i64 k ∧ Hid (¬ q ∈ L.take k)) (fun i => n - (intOf i).toNat)
  case atStart => exact ⟨0, Nat.zero_le _, rfl, by simp [Hid]⟩
  case round =>
    obtain ⟨k, hk, rfl, hA⟩ := hrel
    by_cases hlt : k < n
    · obtain ⟨b, off, x, rfl, hx, hc⟩ := HC.out k hlt
      have hI : (k : Int) < n := by omega
      by_cases hq : x = q
      · subst hq
        have HF : Hid (decide (x ∈ L) = true) := by
          show _ = _
          rw [decide_eq_true_eq]; exact List.mem_of_getElem? hx
        clear hx
        go_wp2
        go_ret
        exact ⟨by rw [HF.out]; rfl, rfl⟩
      · have hqb : (x == q) = false := by simpa using hq
        have HA2 : Hid (¬ q ∈ L.take (k + 1)) := by
          show ¬ _
          rw [List.take_add_one, hx, List.mem_append]
          rintro (h | h)
          · exact hA.out h
          · simp at h; exact hq h.symm
        clear hx hq
        go_wp2
        go_round
        case rel => exact ⟨k + 1, by omega, by go_num, HA2⟩
        case measure => simp [intOf]; omega
    · have hkn : k = n := by omega
      subst hkn
      have HF : Hid (decide (q ∈ L) = false) := by
        show _ = _
        rw [decide_eq_false_iff_not]
        have := hA.out
        rwa [List.take_of_length_le (by have := HL.out; omega)] at this
      clear hA
      go_wp2
      go_ret
      exact ⟨by rw [HF.out]; rfl, rfl⟩
end Go.Proofs.YtmgeecdgebemdaaGreatDoor.sets

/- The model's MustLog, NeedsLog, IsRestartable, LogRoom: what the plain relations say; nothing that was there is written. -/
namespace Go.Proofs.YtmgeecdgebemdaaGreatDoor.sets
open Go Go.ChangeShapes Go.WideShapes Go.ChangeAt Go.RowKit Go.Proofs.YtmgeecdgebemdaaGreatDoor.row Go.Proofs.YtmgeecdgebemdaaGreatDoor.val Go.Proofs.YtmgeecdgebemdaaGreatDoor.stm Go.Proofs.YtmgeecdgebemdaaGreatDoor.blk Go.Proofs.YtmgeecdgebemdaaGreatDoor.expr Go.Proofs.YtmgeecdgebemdaaGreatDoor.prg

theorem tf_yes {L : List Int} {k : Nat} {x : Int} {p : Int → Bool} (hx : L[k]? = some x) (hp : p x = true) : (L.take (k + 1)).filter p = (L.take k).filter p ++ [x] := by
  rw [List.take_add_one, hx]; simp [List.filter_append, hp]
theorem tf_no {L : List Int} {k : Nat} {x : Int} {p : Int → Bool} (hx : L[k]? = some x) (hp : p x = false) : (L.take (k + 1)).filter p = (L.take k).filter p := by
  rw [List.take_add_one, hx]; simp [List.filter_append, hp]
theorem tf_len (L : List Int) (k : Nat) (p : Int → Bool) : ((L.take k).filter p).length ≤ L.length := Nat.le_trans (List.length_filter_le _ _) (by rw [List.length_take]; omega)
/-- The task is valid and logs nothing. -/
def RestP (t : Tk) : Prop := (IsBlk t.b ∧ exprOk t.o t.x t.y = true) ∧ logN t = 0
theorem rest_ex (t : Tk) : ∃ r : Bool, r = true ↔ RestP t := by
  classical exact ⟨decide (RestP t), decide_eq_true_iff⟩
theorem need_ex (t : Tk) (q : Int) : ∃ r : Bool, decide (q ∈ lst (logF t) 8) = r := ⟨_, rfl⟩
set_option maxHeartbeats 8000000 in
set_option maxRecDepth 100000 in
theorem spec_l08ok (ab : Option Addr) (nb cb : Nat) (t : Tk) (hn : (nb : Int) ≤ 1048576) (w : World) (h : StRow w ab nb t.b) (r : Bool) (hr : r = true ↔ (IsBlk t.b ∧ exprOk t.o t.x t.y = true)) :
    Calls Tryz.prog 169 #[tkV ab nb cb t] w (BelB w r) := by
  obtain ⟨B, o, x, y⟩ := t
  obtain ⟨W, hW⟩ : ∃ W, W = w.alloc (.cells #[.slice ab nb cb, .int .i64 o, .int .i64 x, .int .i64 y] 96) := ⟨_, rfl⟩
  have hbx : Box w.heap.size #[.slice ab nb cb, .int .i64 o, .int .i64 x, .int .i64 y] 96 W := by rw [hW]; exact Box.new _ _ _
  have hBW : Below w.heap.size w W := by rw [hW]; exact below_new _ _
  have H := Lib.hid (And.intro hBW (h.below hBW))
  have HX := Lib.hid hbx
  have HW := Lib.hid hW.symm
  have c0 : W.cell? ⟨w.heap.size, 0, none⟩ = some (.slice ab nb cb) := hbx.cell 0
  obtain ⟨rb, hrb⟩ := blk_dec B
  have HRB := Lib.hid hrb
  clear h hbx hBW hW
  cases rb
  · have hrf : r = false := by rw [← Bool.not_eq_true]; intro e; have := hrb.2 (hr.1 e).1; cases this
    clear hrb hr
    subst hrf
    go_enter Tryz.func169, Tryz.ntmps169
    go_wp2_with (go_at_call 150; rw [HW.out]; (with_reducible refine (spec_blockok ab nb cb B hn _ H.out.2 false HRB.out).mono ?_); rintro e w2 ⟨rfl, hb2⟩)
    go_ret
    exact ⟨rfl, below_then H.out.1 hb2⟩
  · have hre : exprOk o x y = r := by
      have h1 := hrb.1 rfl
      cases r
      · rw [← Bool.not_eq_true]; intro e; have := hr.2 ⟨h1, e⟩; cases this
      · exact (hr.1 rfl).2
    have HRE := Lib.hid hre
    clear hrb hr hre
    go_enter Tryz.func169, Tryz.ntmps169
    go_wp2_with (go_at_call 150; rw [HW.out]; (with_reducible refine (spec_blockok ab nb cb B hn _ H.out.2 true HRB.out).mono ?_); rintro e w2 ⟨rfl, hb2⟩; refine Hid.out ?_)
    have HX2 := Lib.hid (HX.out.below hb2)
    have d1 : w2.cell? ⟨w.heap.size, 1, none⟩ = some (.int .i64 o) := HX2.out.cell 1
    have d2 : w2.cell? ⟨w.heap.size, 2, none⟩ = some (.int .i64 x) := HX2.out.cell 2
    have d3 : w2.cell? ⟨w.heap.size, 3, none⟩ = some (.int .i64 y) := HX2.out.cell 3
    have HB2 := Lib.hid (below_then H.out.1 hb2)
    clear hb2
    refine Lib.hid ?_
    go_wp2_with (go_at_call 151; (with_reducible refine (spec_exprok o x y r HRE.out _).mono ?_); rintro e w3 ⟨rfl, hb3⟩)
    go_ret
    exact ⟨rfl, below_then HB2.out hb3⟩
/-- A row in a block of its own between 'lo' and 'hi'. -/
def OwnIn (w : World) (lo hi : Nat) (a : Option Addr) (n c : Nat) (L : List Int) : Prop := w.ownsRow lo 3 1 (.slice a n c) n (ivs L) ∧ ∀ q, (Value.slice a n c).ownBlock = some q → lo ≤ q ∧ q < hi
theorem OwnIn.kept {w w' : World} {lo hi g : Nat} {a : Option Addr} {n c : Nat} {L : List Int} (h : OwnIn w lo hi a n c L) (hg : w.grownBy w' (some g)) (hne : g < lo ∨ hi ≤ g) : OwnIn w' lo hi a n c L := by
  refine ⟨h.1.kept hg ?_, h.2⟩
  cases hq : (Value.slice a n c).ownBlock with
  | none => exact .inl rfl
  | some q => right; intro e; have := h.2 q hq; have := Option.some.inj e; omega
theorem OwnIn.below {w w' : World} {lo hi : Nat} {a : Option Addr} {n c : Nat} {L : List Int} (h : OwnIn w lo hi a n c L) (hb : Below w.heap.size w w') : OwnIn w' lo hi a n c L :=
  ⟨h.1.kept (grown_below hb none) (by cases hq : (Value.slice a n c).ownBlock <;> simp), h.2⟩
theorem OwnIn.of {w : World} {lo lo' : Nat} {a : Option Addr} {n c : Nat} {L : List Int} (h : w.ownsRow lo 3 1 (.slice a n c) n (ivs L)) (hl : lo' ≤ lo) : OwnIn w lo' w.heap.size a n c L :=
  ⟨h.mono hl, fun q hq => by have := h.lt q hq; omega⟩
theorem OwnIn.mono {w : World} {lo hi hi' : Nat} {a : Option Addr} {n c : Nat} {L : List Int} (h : OwnIn w lo hi a n c L) (hl : hi ≤ hi') : OwnIn w lo hi' a n c L :=
  ⟨h.1, fun q hq => by have := h.2 q hq; omega⟩
/-- What stays while the model's loop appends: three rows; nothing below 'w' is written. -/
def KeptL (w w6 wr : World) (a4 : Option Addr) (n4 c4 : Nat) (a5 : Option Addr) (n5 c5 : Nat) (a6 : Option Addr) (n6 c6 : Nat) (lo : Nat) (fm fu ff : Nat → Bool) : Prop :=
  OwnIn wr lo w6.heap.size a4 n4 c4 (lst fm 8) ∧ OwnIn wr lo w6.heap.size a5 n5 c5 (lst fu 8) ∧ OwnIn wr lo w6.heap.size a6 n6 c6 (lst ff 8) ∧ (Below w.heap.size w wr ∧ w.heap.size + 1 < lo ∧ lo ≤ w6.heap.size) ∧ w6.heap.size ≤ wr.heap.size
theorem KeptL.next {w w6 wr w1 w4 : World} {a4 a5 a6 : Option Addr} {n4 c4 n5 c5 n6 c6 lo g m c : Nat} {fm fu ff : Nat → Bool} (h : KeptL w w6 wr a4 n4 c4 a5 n5 c5 a6 n6 c6 lo fm fu ff) (hb : Below wr.heap.size wr w1) (hg : w1.grownBy w4 (Value.slice (some ⟨g, 0, none⟩) m c).ownBlock) (hgg : g = w.heap.size + 1 ∨ w6.heap.size ≤ g) :
    KeptL w w6 w4 a4 n4 c4 a5 n5 c5 a6 n6 c6 lo fm fu ff := by
  have hne : g < lo ∨ w6.heap.size ≤ g := by have := h.2.2.2.1.2.1; omega
  have hs1 := hb.size
  have hs2 := hg.size
  have hs3 := h.2.2.2.1.1.size
  have hs4 := h.2.2.2.2
  refine ⟨(h.1.below hb).kept hg hne, (h.2.1.below hb).kept hg hne, (h.2.2.1.below hb).kept hg hne, ⟨(h.2.2.2.1.1.trans (hb.mono hs3)).grown hg (by omega) (fun j hj => ?_), h.2.2.2.1.2⟩, by omega⟩
  have : g = j := Option.some.inj hj
  have := h.2.2.2.1.2
  omega
theorem own_next {wr w4 : World} {b lo6 g m c k : Nat} {v4 : Value} {x : Value} {ty : TypeId} {e : TypeId} {s n4 : Nat} {xs : List Value} (_ : w4.ownsRow b e s v4 n4 xs) (hat : v4.ownBlock = (Value.slice (some ⟨g, 0, none⟩) m c).ownBlock ∨ v4.ownBlock = some (wr.alloc (.cells #[x] ty)).heap.size) (hg : g = k ∨ lo6 ≤ g) (hs : lo6 ≤ wr.heap.size) :
    ∀ g4, v4.ownBlock = some g4 → g4 = k ∨ lo6 ≤ g4 := fun g4 h4 => by
  rcases hat with h | h
  · rw [h4] at h
    have : g4 = g := Option.some.inj h
    omega
  · rw [h4, World.size_alloc] at h
    have := Option.some.inj h
    omega
set_option maxHeartbeats 8000000 in
set_option maxRecDepth 100000 in
theorem spec_mustlog (ab : Option Addr) (nb cb : Nat) (t : Tk) (hn : (nb : Int) ≤ 1048576) (w : World) (h : StRow w ab nb t.b) (f : Nat → Bool) (hf : Is f (LogP t)) :
    Calls Tryz.prog 130 #[tkV ab nb cb t] w (NewInts w (lst f 8)) := by
  obtain ⟨i0, hi, hz0, hz1, hz2⟩ := info_parts infoInt
  obtain ⟨r, hr⟩ := tsk_dec t
  have HTO := Lib.hid (show ∀ w', StRow w' ab nb t.b → Calls Tryz.prog 169 #[tkV ab nb cb t] w' (BelB w' r) from fun w' h' => spec_l08ok ab nb cb t hn w' h' r hr)
  obtain ⟨W, hW⟩ : ∃ W, (w.alloc (.cells #[.slice ab nb cb, .int .i64 t.o, .int .i64 t.x, .int .i64 t.y] 96)).alloc (.cells #[] 3) = W := ⟨_, rfl⟩
  have hbx : Box w.heap.size #[.slice ab nb cb, .int .i64 t.o, .int .i64 t.x, .int .i64 t.y] 96 W := by rw [← hW]; exact (Box.new _ _ _).alloc _
  have hBW : Below w.heap.size w W := by rw [← hW]; exact below_then (below_new _ _) (below_new _ _)
  have hO : W.ownsRow w.heap.size 3 1 (.slice (some ⟨w.heap.size + 1, 0, none⟩) 0 0) 0 (ivs []) := by
    have h9 := World.ownsRow_made (base := w.heap.size) (e := 3) (size := 1) (w.alloc (.cells #[.slice ab nb cb, .int .i64 t.o, .int .i64 t.x, .int .i64 t.y] 96)) #[] 0 (by simp) (by decide) rfl
    rw [World.size_alloc] at h9
    rw [← hW]; exact h9
  have hWs : W.heap.size = w.heap.size + 2 := by rw [← hW]; simp
  have H := Lib.hid (And.intro hbx (And.intro hBW (And.intro (h.below hBW) hO)))
  have HF := Lib.hid hf
  have hlen : t.b.length = nb := h.1
  clear h hbx hBW hO hf
  cases r
  · have HFL := Lib.hid (show lst f 8 = [] from log_none (fun h => by have := hr.2 h; cases this) HF.out)
    clear hr
    go_enter Tryz.func130, Tryz.ntmps130
    go_wp2_with (first
      | (refine wpList_load_row rfl 96 _ rfl w.heap.size rfl _ _ _ _ H.out.1 Tryz.underlying96 rfl (by kernel_rfl) ?_)
      | (go_at_call 169; (with_reducible refine (HTO.out _ H.out.2.2.1).mono ?_); rintro e w2 ⟨rfl, hb2⟩))
    go_ret
    exact ⟨_, _, _, rfl, by rw [HFL.out]; exact H.out.2.2.2.kept (grown_below hb2 none) (by simp [Value.ownBlock]), below_then H.out.2.1 hb2⟩
  · have HT := Lib.hid (hr.1 rfl)
    obtain ⟨fm, hfm⟩ := is_ex (fun v => IsBlk t.b ∧ MayTo t.b nb v)
    obtain ⟨fu, hfu⟩ := is_ex (fun v => IsBlk t.b ∧ WAt t.b nb v)
    obtain ⟨ff, hff⟩ := is_ex (FirstP t)
    have HLF := Lib.hid (show (lst fm 8).filter (fun x => decide (x ∈ lst ff 8) || !decide (x ∈ lst fu 8)) = lst f 8 from log_model HT.out (by rw [hlen]; exact hfm) (by rw [hlen]; exact hfu) hff HF.out)
    have HFM := Lib.hid (And.intro hfm (And.intro hfu hff))
    clear hr hfm hfu hff
    go_enter Tryz.func130, Tryz.ntmps130
    go_wp2_with (first
      | (refine wpList_load_row rfl 96 _ rfl w.heap.size rfl _ _ _ _ H.out.1 Tryz.underlying96 rfl (by kernel_rfl) ?_)
      | (go_at_call 169; (with_reducible refine (HTO.out _ H.out.2.2.1).mono ?_); rintro e w2 ⟨rfl, hb2⟩; refine Hid.out ?_))
    have H2 := Lib.hid (And.intro (H.out.1.below hb2) (And.intro (below_then H.out.2.1 hb2) (And.intro (H.out.2.2.1.below hb2) (H.out.2.2.2.kept (grown_below hb2 none) (by simp [Value.ownBlock])))))
    have hs2 := hb2.size
    have c0 : w2.cell? ⟨w.heap.size, 0, none⟩ = some (.slice ab nb cb) := H2.out.1.cell 0
    clear hb2
    refine Lib.hid ?_
    go_wp2_with (go_at_call 170; (with_reducible refine (spec_maywrite ab nb cb t.b hn _ H2.out.2.2.1 fm HFM.out.1).mono ?_); rintro e w4 ⟨a4, n4, c4, rfl, ho4, hb4⟩; refine Hid.out ?_)
    have hn4 : n4 ≤ 8 := by have h1 := own_len ho4; have h2 := lst_len fm 8; omega
    have hs4 := hb4.size
    have H4 := Lib.hid (And.intro (H2.out.1.below hb4) (And.intro (below_then H2.out.2.1 hb4) (And.intro (H2.out.2.2.1.below hb4) (And.intro (H2.out.2.2.2.kept (grown_below hb4 none) (by simp [Value.ownBlock])) (OwnIn.of ho4 (Nat.le_refl _))))))
    have d0 : w4.cell? ⟨w.heap.size, 0, none⟩ = some (.slice ab nb cb) := H4.out.1.cell 0
    clear hb4 ho4 c0
    refine Lib.hid ?_
    go_wp2_with (go_at_call 171; (with_reducible refine (spec_mustwrite ab nb cb t.b hn _ H4.out.2.2.1 fu HFM.out.2.1).mono ?_); rintro e w5 ⟨a5, n5, c5, rfl, ho5, hb5⟩; refine Hid.out ?_)
    have hn5 : n5 ≤ 8 := by have h1 := own_len ho5; have h2 := lst_len fu 8; omega
    have hs5 := hb5.size
    have H5 := Lib.hid (And.intro (H4.out.1.below hb5) (And.intro (below_then H4.out.2.1 hb5) (And.intro (H4.out.2.2.1.below hb5) (And.intro (H4.out.2.2.2.1.kept (grown_below hb5 none) (by simp [Value.ownBlock])) (And.intro (H4.out.2.2.2.2.below hb5) (OwnIn.of ho5 hs4))))))
    clear hb5 ho5 d0
    refine Lib.hid ?_
    go_wp2_with (first
      | (refine wpList_load_row rfl 96 _ rfl w.heap.size rfl _ _ _ _ H5.out.1 Tryz.underlying96 rfl (by kernel_rfl) ?_)
      | (go_at_call 172; (with_reducible refine (spec_mayread ab nb cb t hn _ H5.out.2.2.1 ff HFM.out.2.2).mono ?_); rintro e w6 ⟨a6, n6, c6, rfl, ho6, hb6⟩; refine Hid.out ?_))
    have hn6 : n6 ≤ 8 := by have h1 := own_len ho6; have h2 := lst_len ff 8; omega
    have hs6 := hb6.size
    obtain ⟨lo, hlo⟩ : ∃ lo, lo = w2.heap.size := ⟨_, rfl⟩
    have hlw : w.heap.size + 1 < lo := by omega
    have H6 := Lib.hid (And.intro (H5.out.2.2.2.1.kept (grown_below hb6 none) (by simp [Value.ownBlock])) (show KeptL w w6 w6 a4 n4 c4 a5 n5 c5 a6 n6 c6 lo fm fu ff from ⟨hlo ▸ (H5.out.2.2.2.2.1.below hb6).mono (by omega), hlo ▸ (H5.out.2.2.2.2.2.below hb6).mono hs6, hlo ▸ OwnIn.of ho6 (by omega), ⟨below_then H5.out.2.1 hb6, hlw, by omega⟩, Nat.le_refl _⟩))
    clear hb6 ho6 hlo hWs hW
    refine Lib.hid ?_
    go_wp2
    go_loopw [3, 7] (fun v i wr => ∃ (k n g c : Nat), k ≤ n4 ∧ i = .int .i64 k ∧ v = .slice (some ⟨g, 0, none⟩) n c ∧ Hid (wr.ownsRow w.heap.size 3 1 (.slice (some ⟨g, 0, none⟩) n c) n (ivs (((lst fm 8).take k).filter (fun x => decide (x ∈ lst ff 8) || !decide (x ∈ lst fu 8))))) ∧ (g = w.heap.size + 1 ∨ w6.heap.size ≤ g) ∧ Hid (KeptL w w6 wr a4 n4 c4 a5 n5 c5 a6 n6 c6 lo fm fu ff)) (fun _ i _ => n4 - (intOf i).toNat)
    case atStart => exact ⟨0, 0, w.heap.size + 1, 0, Nat.zero_le _, rfl, rfl, H6.out.1, .inl rfl, H6.out.2⟩
    case round =>
      obtain ⟨k, n, g, c, hk, rfl, rfl, HO, hg, HR⟩ := hrel
      have hnl : n ≤ 8 := by have h1 := own_len HO.out; have h2 := tf_len (lst fm 8) k (fun x => decide (x ∈ lst ff 8) || !decide (x ∈ lst fu 8)); have h3 := lst_len fm 8; omega
      by_cases hlt : k < n4
      · have hI : (k : Int) < n4 := by omega
        have HRF := Lib.hid (Row.of_own HR.out.2.2.1.1)
        have HRU := Lib.hid (Row.of_own HR.out.2.1.1)
        obtain ⟨b, off, x, ha, hlb, hx, hc⟩ := (Row.of_own HR.out.1.1).2 k hlt
        subst ha
        have hws := HR.out.2.2.2.1.1.size
        cases hr1 : decide (x ∈ lst ff 8)
        · have HP1 := Lib.hid hr1
          clear hr1
          cases hr2 : decide (x ∈ lst fu 8)
          · have HP2 := Lib.hid hr2
            clear hr2
            have HG := Lib.hid (tf_yes (p := fun x => decide (x ∈ lst ff 8) || !decide (x ∈ lst fu 8)) hx (by simp [HP1.out, HP2.out]))
            clear hx
            go_wp2_with (first
              | (go_at_call 173; (with_reducible refine (spec_hasvar wr a6 n6 c6 (lst ff 8) x false (by omega) HRF.out HP1.out).mono ?_); rintro e wz ⟨rfl, rfl⟩)
              | (go_at_call 173; (with_reducible refine (spec_hasvar wr a5 n5 c5 (lst fu 8) x false (by omega) HRU.out HP2.out).mono ?_); rintro e wz ⟨rfl, rfl⟩)
              | (at_builtin; refine wpList_append_own_at _ rfl _ _ 27 rfl w.heap.size 3 i0 (.int .i64 0) 1 8 Tryz.underlying27 hi hz0 hz1 hz2 rfl (by decide) _ _ _ rfl (HO.out.alloc _) ⟨wr.heap.size, 0, none⟩ 1 1 [.int .i64 x] rfl rfl (World.news_of_block (cs := #[.int .i64 x]) (t := 3) (fr := (0, 0)) (heap_alloc_new wr _)) (by simp [Value.oneCell']) (by unfold maxLen; omega) (by omega) (by simp; omega) ?_; intro v4 w4 hown4 hgrow4 _ hat4; refine Hid.out ?_))
            rw [ivs_snoc, ← HG.out] at hown4
            have hB4 := below_new wr (.cells #[.int .i64 x] 3)
            have e4 := own_next hown4 hat4 hg HR.out.2.2.2.2
            have K4 := Lib.hid (HR.out.next hB4 hgrow4 hg)
            obtain ⟨g4, cp4, rfl, hg4, _⟩ := hown4.form (by omega)
            have HO4 := Lib.hid hown4
            have hgg := e4 g4 rfl
            clear hown4 hgrow4 hat4 hB4 e4 hc
            refine Lib.hid ?_
            go_wp2
            go_roundw
            case rel => exact ⟨k + 1, n + 1, g4, cp4, by omega, by go_num, rfl, HO4, hgg, K4⟩
            case measure => simp [intOf]; omega
          · have HP2 := Lib.hid hr2
            clear hr2
            have HG := Lib.hid (tf_no (p := fun x => decide (x ∈ lst ff 8) || !decide (x ∈ lst fu 8)) hx (by simp [HP1.out, HP2.out]))
            rw [← HG.out] at HO
            clear hx
            go_wp2_with (first
              | (go_at_call 173; (with_reducible refine (spec_hasvar wr a6 n6 c6 (lst ff 8) x false (by omega) HRF.out HP1.out).mono ?_); rintro e wz ⟨rfl, rfl⟩)
              | (go_at_call 173; (with_reducible refine (spec_hasvar wr a5 n5 c5 (lst fu 8) x true (by omega) HRU.out HP2.out).mono ?_); rintro e wz ⟨rfl, rfl⟩))
            go_roundw
            case rel => exact ⟨k + 1, n, g, c, by omega, by go_num, rfl, HO, hg, HR⟩
            case measure => simp [intOf]; omega
        · have HP1 := Lib.hid hr1
          clear hr1
          have HG := Lib.hid (tf_yes (p := fun x => decide (x ∈ lst ff 8) || !decide (x ∈ lst fu 8)) hx (by simp [HP1.out]))
          clear hx
          go_wp2_with (first
            | (go_at_call 173; (with_reducible refine (spec_hasvar wr a6 n6 c6 (lst ff 8) x true (by omega) HRF.out HP1.out).mono ?_); rintro e wz ⟨rfl, rfl⟩)
            | (at_builtin; refine wpList_append_own_at _ rfl _ _ 27 rfl w.heap.size 3 i0 (.int .i64 0) 1 8 Tryz.underlying27 hi hz0 hz1 hz2 rfl (by decide) _ _ _ rfl (HO.out.alloc _) ⟨wr.heap.size, 0, none⟩ 1 1 [.int .i64 x] rfl rfl (World.news_of_block (cs := #[.int .i64 x]) (t := 3) (fr := (0, 0)) (heap_alloc_new wr _)) (by simp [Value.oneCell']) (by unfold maxLen; omega) (by omega) (by simp; omega) ?_; intro v4 w4 hown4 hgrow4 _ hat4; refine Hid.out ?_))
          rw [ivs_snoc, ← HG.out] at hown4
          have hB4 := below_new wr (.cells #[.int .i64 x] 3)
          have e4 := own_next hown4 hat4 hg HR.out.2.2.2.2
          have K4 := Lib.hid (HR.out.next hB4 hgrow4 hg)
          obtain ⟨g4, cp4, rfl, hg4, _⟩ := hown4.form (by omega)
          have HO4 := Lib.hid hown4
          have hgg := e4 g4 rfl
          clear hown4 hgrow4 hat4 hB4 e4 hc
          refine Lib.hid ?_
          go_wp2
          go_roundw
          case rel => exact ⟨k + 1, n + 1, g4, cp4, by omega, by go_num, rfl, HO4, hgg, K4⟩
          case measure => simp [intOf]; omega
      · obtain rfl : k = n4 := by omega
        have hI : ¬ (k : Int) < k := by omega
        have hl4 := own_len HR.out.1.1
        go_wp2
        go_ret
        refine ⟨_, _, _, rfl, ?_, HR.out.2.2.2.1.1⟩
        have h9 := HO.out
        rw [List.take_of_length_le (by omega), HLF.out] at h9
        exact h9
end Go.Proofs.YtmgeecdgebemdaaGreatDoor.sets
