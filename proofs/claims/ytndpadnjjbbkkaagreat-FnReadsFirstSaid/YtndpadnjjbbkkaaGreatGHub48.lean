/- Several texts in one: SetI LogB LogI. -/
import Derived.Test.YtndpadnjjbbkkaaGreatGHub47
import Derived.Test.YtndpadnjjbbkkaaGreatGHub41
import Derived.Test.YtndpadnjjbbkkaaGreatGHub33
import Derived.Test.YtndpadnjjbbkkaaGreatGHub40
import Derived.Test.YtndpadnjjbbkkaaGreatGHub45
import Derived.Deep.RegionHeld3

/- The program's MustWrite, MayReadFirst and HasVar, and the model's HasVar: what the plain relations say; nothing that was there is written. -/
namespace Go.Proofs.YtndpadnjjbbkkaaGreat.sets
open Go Go.ChangeShapes Go.WideShapes Go.ChangeAt Go.RowKit Go.Maps Go.Proofs.YtndpadnjjbbkkaaGreat.row Go.Proofs.YtndpadnjjbbkkaaGreat.val Go.Proofs.YtndpadnjjbbkkaaGreat.stm Go.Proofs.YtndpadnjjbbkkaaGreat.blk Go.Proofs.YtndpadnjjbbkkaaGreat.expr Go.Proofs.YtndpadnjjbbkkaaGreat.prg

set_option maxHeartbeats 2000000 in
set_option maxRecDepth 100000 in
theorem impl_mustwrite (a : Option Addr) (n cap : Nat) (B : List Sm) (hn : (n : Int) ≤ 1048576) (_ : n ≤ cap) (w : World) (h : StRow w a n B) (f : Nat → Bool) (hf : Is f (fun v => IsBlk B ∧ WAt B n v)) :
    Calls Tryz.prog 28 #[.slice a n cap] w (NewInts w (lst f 8)) := by
  have HL := Lib.hid h
  have HF := Lib.hid hf
  have hlen := h.1
  clear h hf
  rcases Classical.em (IsBlk B) with hb | hb
  · have HB := Lib.hid hb
    clear hb
    go_enter Tryz.func28, Tryz.ntmps28
    go_wp2_with (go_at_call 58; (with_reducible refine (impl_blockok _ n cap B hn _ HL.out true ⟨fun _ => HB.out, fun _ => rfl⟩).mono ?_); rintro e w2 ⟨rfl, hb2⟩; refine Hid.out ?_)
    have H2 := Lib.hid (And.intro (HL.out.below hb2) hb2)
    clear hb2
    refine Lib.hid ?_
    go_wp2_with (go_at_call 61; (with_reducible refine (impl_pass _ n cap B hn HB.out _ H2.out.1).mono ?_); rintro e w3 ⟨q, r, W, G, rfl, _, _, _, hW, _, hb3⟩; refine Hid.out ?_)
    have H3 := Lib.hid (And.intro hW.out (below_then H2.out.2 hb3.out))
    clear hW hb3
    have HFL := Lib.hid (show lst W 8 = lst f 8 from lst_congr (Is.eq H3.out.1.2 (HF.out.congr (fun u => by rw [hlen]; exact ⟨fun h => ⟨HB.out, h⟩, fun h => h.2⟩))))
    refine Lib.hid ?_
    go_wp2_with (go_at_call 60; (with_reducible refine (impl_ascending q W _ H3.out.1.1).mono ?_); rintro e w5 ⟨ad, m, c5, rfl, hown, hb5⟩)
    go_ret
    exact ⟨ad, m, c5, rfl, by rw [← HFL.out]; exact hown.mono H3.out.2.size, below_then H3.out.2 hb5⟩
  · have HB := Lib.hid hb
    have HFL := Lib.hid (isFalse HF.out hb)
    clear hb
    go_enter Tryz.func28, Tryz.ntmps28
    go_wp2_with (go_at_call 58; (with_reducible refine (impl_blockok _ n cap B hn _ HL.out false ⟨fun h => (by cases h), fun h => absurd h HB.out⟩).mono ?_); rintro e w2 ⟨rfl, hb2⟩)
    go_ret
    exact ⟨none, 0, 0, rfl, by rw [HFL.out]; exact World.ownsRow_nil _ _ _ _, hb2⟩
set_option maxHeartbeats 4000000 in
set_option maxRecDepth 100000 in
theorem impl_mayread (ab : Option Addr) (nb cb : Nat) (t : Tk) (hn : (nb : Int) ≤ 1048576) (w : World) (h : StRow w ab nb t.b) (f : Nat → Bool) (hf : Is f (FirstP t)) :
    Calls Tryz.prog 32 #[tkV ab nb cb t] w (NewInts w (lst f 8)) := by
  obtain ⟨r, hr⟩ := tsk_dec t
  have HTO := Lib.hid (show ∀ w', StRow w' ab nb t.b → Calls Tryz.prog 64 #[tkV ab nb cb t] w' (BelB w' r) from fun w' h' => impl_taskok ab nb cb t hn w' h' r hr)
  obtain ⟨B, o, x, y⟩ := t
  obtain ⟨W, hW⟩ : ∃ W, w.alloc (.cells #[.slice ab nb cb, .int .i64 o, .int .i64 x, .int .i64 y] 53) = W := ⟨_, rfl⟩
  have hbx : Box w.heap.size #[.slice ab nb cb, .int .i64 o, .int .i64 x, .int .i64 y] 53 W := by rw [← hW]; exact Box.new _ _ _
  have hBW : Below w.heap.size w W := by rw [← hW]; exact below_new _ _
  have H := Lib.hid (And.intro hbx (And.intro hBW (h.below hBW)))
  have HF := Lib.hid hf
  have hlen : B.length = nb := h.1
  clear h hbx hBW hf
  cases r
  · have HFL := Lib.hid (show lst f 8 = [] by
      rw [lst_congr (g := fun _ => false) (fun v hv => by
        cases h9 : f v
        · rfl
        · exact absurd (hr.2 ((HF.out v hv).1 h9).1) (by simp))]
      exact lst_nil (fun _ => rfl) 8)
    clear hr
    go_enter Tryz.func32, Tryz.ntmps32
    go_wp2_with (first
      | (refine wpList_load_row rfl 53 _ rfl w.heap.size rfl _ _ _ _ H.out.1 Tryz.underlying53 rfl (by kernel_rfl) ?_)
      | (go_at_call 64; (with_reducible refine (HTO.out _ H.out.2.2).mono ?_); rintro e w2 ⟨rfl, hb2⟩))
    go_ret
    exact ⟨none, 0, 0, rfl, by rw [HFL.out]; exact World.ownsRow_nil _ _ _ _, below_then H.out.2.1 hb2⟩
  · have HBE := Lib.hid (hr.1 rfl)
    clear hr
    go_enter Tryz.func32, Tryz.ntmps32
    go_wp2_with (first
      | (refine wpList_load_row rfl 53 _ rfl w.heap.size rfl _ _ _ _ H.out.1 Tryz.underlying53 rfl (by kernel_rfl) ?_)
      | (go_at_call 64; (with_reducible refine (HTO.out _ H.out.2.2).mono ?_); rintro e w2 ⟨rfl, hb2⟩; refine Hid.out ?_))
    have H2 := Lib.hid (And.intro (H.out.1.below hb2) (And.intro (below_then H.out.2.1 hb2) (H.out.2.2.below hb2)))
    clear hb2 hW
    have c0 : w2.cell? ⟨w.heap.size, 0, none⟩ = some (.slice ab nb cb) := H2.out.1.cell 0
    refine Lib.hid ?_
    go_wp2_with (go_at_call 61; (with_reducible refine (impl_pass ab nb cb B hn HBE.out.1 _ H2.out.2.2).mono ?_); rintro e w3 ⟨q, r, W3, G3, rfl, hqr, _, hrb, hW3, hG3, hb3⟩; refine Hid.out ?_)
    have H3 := Lib.hid (And.intro (H2.out.1.below hb3.out) (And.intro hW3.out (And.intro hG3.out (below_then H2.out.2.1 hb3.out))))
    have hrw : w.heap.size ≤ r := Nat.le_trans H2.out.2.1.size hrb
    have k1 : w3.cell? ⟨w.heap.size, 1, none⟩ = some (.int .i64 o) := H3.out.1.cell 1
    have k2 : w3.cell? ⟨w.heap.size, 1 + 1, none⟩ = some (.int .i64 x) := H3.out.1.cell 2
    have k3 : w3.cell? ⟨w.heap.size, 1 + 2, none⟩ = some (.int .i64 y) := H3.out.1.cell 3
    have HADD := Lib.hid (impl_addfirst r q G3 W3 (Ne.symm hqr) o x y w3 H3.out.2.2.1.1 H3.out.2.1.1)
    clear hW3 hG3 hb3 c0 hqr
    refine Lib.hid ?_
    go_wp2_with (go_at_call 65; (with_reducible refine HADD.out.mono ?_); rintro e w4 ⟨rfl, hg4, G4, hG4⟩; refine Hid.out ?_)
    have H4 := Lib.hid (And.intro hG4.out.1 (H3.out.2.2.2.grown hg4 H3.out.2.2.2.size (fun j hj => by cases hj; exact hrw)))
    have HFL := Lib.hid (show lst G4 8 = lst f 8 from lst_congr (Is.eq (p := FirstP ⟨B, o, x, y⟩) (fun v hv => by
      refine (hG4.out.2 v hv).trans ?_
      have hrd : readsV o x y = rd x y 8 := if_pos HBE.out.2
      rw [hrd]
      unfold FirstP
      constructor
      · rintro (h | ⟨h1, h2⟩)
        · exact ⟨HBE.out, .inl ((H3.out.2.2.1.2 v hv).1 h)⟩
        · exact ⟨HBE.out, .inr ⟨h1, (H3.out.2.1.2.neg hv).1 h2⟩⟩
      · rintro ⟨_, h | ⟨h1, h2⟩⟩
        · exact .inl ((H3.out.2.2.1.2 v hv).2 h)
        · exact .inr ⟨h1, (H3.out.2.1.2.neg hv).2 h2⟩) HF.out))
    clear hg4 hG4 k1 k2 k3
    refine Lib.hid ?_
    go_wp2_with (go_at_call 60; (with_reducible refine (impl_ascending r G4 _ H4.out.1).mono ?_); rintro e w5 ⟨ad, m, c5, rfl, hown, hb5⟩)
    go_ret
    exact ⟨ad, m, c5, rfl, by rw [← HFL.out]; exact hown.mono H4.out.2.size, below_then H4.out.2 hb5⟩
theorem row_cells {w : World} {a : Option Addr} {n : Nat} {L : List Int} (h : Row w a n L) (hn : 0 < n) : ∃ b off, a = some ⟨b, off, none⟩ ∧ ∀ j, j < L.length → w.cell? ⟨b, off + j, none⟩ = some (.int .i64 (L.getD j 0)) := by
  obtain ⟨b, off, x, ha, _⟩ := h.2 0 hn
  refine ⟨b, off, ha, fun j hj => ?_⟩
  obtain ⟨b', off', x', ha', _, hx, hc⟩ := h.2 j (by have := h.1; omega)
  rw [ha] at ha'
  cases ha'
  rw [hc]; simp [List.getD, hx]
theorem contains_any (w : World) (a : Option Addr) (n cap : Nat) (L : List Int) (q : Int) (r : Bool) (hn : (n : Int) ≤ 1048576) (h : Row w a n L) (hr : decide (q ∈ L) = r) :
    Calls Tryz.prog 62 #[.slice a n cap, .int .i64 q] w fun e w' => e = .returned (.bool r) ∧ w' = w := by
  rcases Nat.eq_zero_or_pos n with h0 | h0
  · subst h0
    have hL : L = [] := List.length_eq_zero_iff.1 h.1
    subst hL
    have hrf : r = false := by rw [← hr]; simp
    rw [hrf]
    exact Any.slices_Contains_int_empty Tryz.lays107 a cap q w
  · obtain ⟨b, off, rfl, hc⟩ := row_cells h h0
    have h9 := Any.slices_Contains_int Tryz.lays107 b off n cap L q w (by have := h.1; omega) (by omega) hc
    rw [List.take_of_length_le (by have := h.1; omega)] at h9
    have h8 : L.contains q = r := by
      rw [← hr, Bool.eq_iff_iff]
      simp
    rw [h8] at h9
    exact h9
theorem impl_hasvar (w : World) (a : Option Addr) (n cap : Nat) (L : List Int) (q : Int) (r : Bool) (hn : (n : Int) ≤ 1048576) (h : Row w a n L) (hr : decide (q ∈ L) = r) :
    Calls Tryz.prog 30 #[.slice a n cap, .int .i64 q] w (RetB w r) := by
  have HC := Lib.hid (contains_any w a n cap L q r hn h hr)
  clear h hr
  go_enter Tryz.func30, Tryz.ntmps30
  go_wp2_with (go_at_call 62; (with_reducible refine HC.out.mono ?_); rintro e w' ⟨rfl, rfl⟩)
  go_ret
  exact ⟨rfl, rfl⟩
end Go.Proofs.YtndpadnjjbbkkaaGreat.sets

/- The model's MustLog, NeedsLog, IsRestartable, LogRoom: what the plain relations say; nothing that was there is written. -/
namespace Go.Proofs.YtndpadnjjbbkkaaGreat.sets
open Go Go.ChangeShapes Go.WideShapes Go.ChangeAt Go.RowKit Go.Proofs.YtndpadnjjbbkkaaGreat.row Go.Proofs.YtndpadnjjbbkkaaGreat.val Go.Proofs.YtndpadnjjbbkkaaGreat.stm Go.Proofs.YtndpadnjjbbkkaaGreat.blk Go.Proofs.YtndpadnjjbbkkaaGreat.expr Go.Proofs.YtndpadnjjbbkkaaGreat.prg

theorem tf_yes {L : List Int} {k : Nat} {x : Int} {p : Int → Bool} (hx : L[k]? = some x) (hp : p x = true) : (L.take (k + 1)).filter p = (L.take k).filter p ++ [x] := by
  rw [List.take_add_one, hx]; simp [List.filter_append, hp]
theorem tf_no {L : List Int} {k : Nat} {x : Int} {p : Int → Bool} (hx : L[k]? = some x) (hp : p x = false) : (L.take (k + 1)).filter p = (L.take k).filter p := by
  rw [List.take_add_one, hx]; simp [List.filter_append, hp]
theorem tf_len (L : List Int) (k : Nat) (p : Int → Bool) : ((L.take k).filter p).length ≤ L.length := Nat.le_trans (List.length_filter_le _ _) (by rw [List.length_take]; omega)
/-- The task is valid and logs nothing. -/
def RestP (t : Tk) : Prop := (IsBlk t.b ∧ exprOk t.o t.x t.y = true) ∧ logN t = 0
theorem rest_ex (t : Tk) : ∃ r : Bool, r = true ↔ RestP t := by
  classical exact ⟨decide (RestP t), decide_eq_true_iff⟩
theorem need_ex (t : Tk) (q : Int) : ∃ r : Bool, decide (q ∈ lst (logF t) 8) = r := ⟨_, rfl⟩
/-- A row in a block of its own between 'lo' and 'hi'. -/
def OwnIn (w : World) (lo hi : Nat) (a : Option Addr) (n c : Nat) (L : List Int) : Prop := w.ownsRow lo 3 1 (.slice a n c) n (ivs L) ∧ ∀ q, (Value.slice a n c).ownBlock = some q → lo ≤ q ∧ q < hi
theorem OwnIn.kept {w w' : World} {lo hi g : Nat} {a : Option Addr} {n c : Nat} {L : List Int} (h : OwnIn w lo hi a n c L) (hg : w.grownBy w' (some g)) (hne : g < lo ∨ hi ≤ g) : OwnIn w' lo hi a n c L := by
  refine ⟨h.1.kept hg ?_, h.2⟩
  cases hq : (Value.slice a n c).ownBlock with
  | none => exact .inl rfl
  | some q => right; intro e; have := h.2 q hq; have := Option.some.inj e; omega
theorem OwnIn.below {w w' : World} {lo hi : Nat} {a : Option Addr} {n c : Nat} {L : List Int} (h : OwnIn w lo hi a n c L) (hb : Below w.heap.size w w') : OwnIn w' lo hi a n c L :=
  ⟨h.1.kept (grown_below hb none) (by cases hq : (Value.slice a n c).ownBlock <;> simp), h.2⟩
theorem OwnIn.of {w : World} {lo lo' : Nat} {a : Option Addr} {n c : Nat} {L : List Int} (h : w.ownsRow lo 3 1 (.slice a n c) n (ivs L)) (hl : lo' ≤ lo) : OwnIn w lo' w.heap.size a n c L :=
  ⟨h.mono hl, fun q hq => by have := h.lt q hq; omega⟩
theorem OwnIn.mono {w : World} {lo hi hi' : Nat} {a : Option Addr} {n c : Nat} {L : List Int} (h : OwnIn w lo hi a n c L) (hl : hi ≤ hi') : OwnIn w lo hi' a n c L :=
  ⟨h.1, fun q hq => by have := h.2 q hq; omega⟩
/-- What stays while the model's loop appends: three rows; nothing below 'w' is written. -/
def KeptL (w w6 wr : World) (a4 : Option Addr) (n4 c4 : Nat) (a5 : Option Addr) (n5 c5 : Nat) (a6 : Option Addr) (n6 c6 : Nat) (lo : Nat) (fm fu ff : Nat → Bool) : Prop :=
  OwnIn wr lo w6.heap.size a4 n4 c4 (lst fm 8) ∧ OwnIn wr lo w6.heap.size a5 n5 c5 (lst fu 8) ∧ OwnIn wr lo w6.heap.size a6 n6 c6 (lst ff 8) ∧ (Below w.heap.size w wr ∧ w.heap.size + 1 < lo ∧ lo ≤ w6.heap.size) ∧ w6.heap.size ≤ wr.heap.size
theorem KeptL.next {w w6 wr w1 w4 : World} {a4 a5 a6 : Option Addr} {n4 c4 n5 c5 n6 c6 lo g m c : Nat} {fm fu ff : Nat → Bool} (h : KeptL w w6 wr a4 n4 c4 a5 n5 c5 a6 n6 c6 lo fm fu ff) (hb : Below wr.heap.size wr w1) (hg : w1.grownBy w4 (Value.slice (some ⟨g, 0, none⟩) m c).ownBlock) (hgg : g = w.heap.size + 1 ∨ w6.heap.size ≤ g) :
    KeptL w w6 w4 a4 n4 c4 a5 n5 c5 a6 n6 c6 lo fm fu ff := by
  have hne : g < lo ∨ w6.heap.size ≤ g := by have := h.2.2.2.1.2.1; omega
  have hs1 := hb.size
  have hs2 := hg.size
  have hs3 := h.2.2.2.1.1.size
  have hs4 := h.2.2.2.2
  refine ⟨(h.1.below hb).kept hg hne, (h.2.1.below hb).kept hg hne, (h.2.2.1.below hb).kept hg hne, ⟨(h.2.2.2.1.1.trans (hb.mono hs3)).grown hg (by omega) (fun j hj => ?_), h.2.2.2.1.2⟩, by omega⟩
  have : g = j := Option.some.inj hj
  have := h.2.2.2.1.2
  omega
theorem own_next {wr w4 : World} {b lo6 g m c k : Nat} {v4 : Value} {x : Value} {ty : TypeId} {e : TypeId} {s n4 : Nat} {xs : List Value} (_ : w4.ownsRow b e s v4 n4 xs) (hat : v4.ownBlock = (Value.slice (some ⟨g, 0, none⟩) m c).ownBlock ∨ v4.ownBlock = some (wr.alloc (.cells #[x] ty)).heap.size) (hg : g = k ∨ lo6 ≤ g) (hs : lo6 ≤ wr.heap.size) :
    ∀ g4, v4.ownBlock = some g4 → g4 = k ∨ lo6 ≤ g4 := fun g4 h4 => by
  rcases hat with h | h
  · rw [h4] at h
    have : g4 = g := Option.some.inj h
    omega
  · rw [h4, World.size_alloc] at h
    have := Option.some.inj h
    omega
end Go.Proofs.YtndpadnjjbbkkaaGreat.sets

/- The program's without, MustLog, NeedsLog, IsRestartable, LogRoom: what the plain relations say; nothing that was there is written. -/
namespace Go.Proofs.YtndpadnjjbbkkaaGreat.sets
open Go Go.ChangeShapes Go.WideShapes Go.ChangeAt Go.RowKit Go.Proofs.YtndpadnjjbbkkaaGreat.row Go.Proofs.YtndpadnjjbbkkaaGreat.val Go.Proofs.YtndpadnjjbbkkaaGreat.stm Go.Proofs.YtndpadnjjbbkkaaGreat.blk Go.Proofs.YtndpadnjjbbkkaaGreat.expr Go.Proofs.YtndpadnjjbbkkaaGreat.prg

theorem below_grow1 {w wr w4 : World} {g m c n : Nat} {xs : List Value} {x : Value} {ty e : TypeId} {s : Nat} (hb : Below w.heap.size w wr) (ho : wr.ownsRow w.heap.size e s (.slice (some ⟨g, 0, none⟩) m c) n xs) (hg : (wr.alloc (.cells #[x] ty)).grownBy w4 (Value.slice (some ⟨g, 0, none⟩) m c).ownBlock) : Below w.heap.size w w4 :=
  (below_then hb (below_new wr _)).grown hg (by have := hb.size; simp; omega) (fun j hj => (ho.lt j hj).1)
set_option maxHeartbeats 8000000 in
set_option maxRecDepth 100000 in
theorem impl_without (a : Option Addr) (na ca : Nat) (L : List Int) (ab : Option Addr) (nb cb : Nat) (B : List Int) (hna : (na : Int) ≤ 1048576) (hnb : (nb : Int) ≤ 1048576) (w : World) (hL : Row w a na L) (hB : Row w ab nb B) :
    Calls Tryz.prog 66 #[.slice a na ca, .slice ab nb cb] w (NewInts w (L.filter (fun x => !decide (x ∈ B)))) := by
  obtain ⟨i0, hi, hz0, hz1, hz2⟩ := info_parts infoInt
  have HL := Lib.hid hL
  have HB := Lib.hid hB
  have hlen := hL.1
  clear hL hB
  go_enter Tryz.func66, Tryz.ntmps66
  go_wp2
  go_loopw [5, 7, 11] (fun v _ i wr => ∃ (k n g c : Nat), k ≤ na ∧ i = .int .i64 k ∧ v = .slice (some ⟨g, 0, none⟩) n c ∧ Hid (wr.ownsRow w.heap.size 3 1 (.slice (some ⟨g, 0, none⟩) n c) n (ivs ((L.take k).filter (fun x => !decide (x ∈ B))))) ∧ Hid (Below w.heap.size w wr)) (fun _ _ i _ => na - (intOf i).toNat)
  case atStart => exact ⟨0, 0, w.heap.size, 0, Nat.zero_le _, rfl, rfl, World.ownsRow_made w #[] 0 (Nat.le_refl _) (by decide) rfl, below_new w _⟩
  case round =>
    obtain ⟨k, n, g, c, hk, rfl, rfl, HO, HR⟩ := hrel
    have hnl : n ≤ na := by have h1 := own_len HO.out; have h2 := tf_len L k (fun x => !decide (x ∈ B)); omega
    by_cases hlt : k < na
    · have hI : (k : Int) < na := by omega
      have HRB := Lib.hid (HB.out.below HR.out)
      obtain ⟨b, off, x, rfl, hlb, hx, hc⟩ := (HL.out.below HR.out).2 k hlt
      have hws := HR.out.size
      cases hr : decide (x ∈ B)
      · have HP := Lib.hid hr
        clear hr
        have HG := Lib.hid (tf_yes (p := fun x => !decide (x ∈ B)) hx (by simp [HP.out]))
        clear hx
        go_wp2_with (first
          | (go_at_call 62; (with_reducible refine (contains_any wr ab nb cb B x false (by omega) HRB.out HP.out).mono ?_); rintro e wr ⟨rfl, rfl⟩)
          | (at_builtin; refine wpList_append_own_at _ rfl _ _ 25 rfl w.heap.size 3 i0 (.int .i64 0) 1 8 Tryz.underlying25 hi hz0 hz1 hz2 rfl (by decide) _ _ _ rfl (HO.out.alloc _) ⟨wr.heap.size, 0, none⟩ 1 1 [.int .i64 x] rfl rfl (World.news_of_block (cs := #[.int .i64 x]) (t := 3) (fr := (0, 0)) (heap_alloc_new wr _)) (by simp [Value.oneCell']) (by unfold maxLen; omega) (by omega) (by simp; omega) ?_; intro v4 w4 hown4 hgrow4 _ hat4; refine Hid.out ?_))
        rw [ivs_snoc, ← HG.out] at hown4
        have hb4 := below_grow1 HR.out HO.out hgrow4
        obtain ⟨g4, cp4, rfl, hg4, _⟩ := hown4.form (by omega)
        have HO4 := Lib.hid hown4
        have HR4 := Lib.hid hb4
        clear hown4 hgrow4 hat4 hb4 hc
        refine Lib.hid ?_
        go_wp2
        go_roundw
        case rel => exact ⟨k + 1, n + 1, g4, cp4, by omega, by go_num, rfl, HO4, HR4⟩
        case measure => simp [intOf]; omega
      · have HP := Lib.hid hr
        clear hr
        have HG := Lib.hid (tf_no (p := fun x => !decide (x ∈ B)) hx (by simp [HP.out]))
        rw [← HG.out] at HO
        clear hx
        go_wp2_with (first
          | (go_at_call 62; (with_reducible refine (contains_any wr ab nb cb B x true (by omega) HRB.out HP.out).mono ?_); rintro e wr ⟨rfl, rfl⟩))
        go_roundw
        case rel => exact ⟨k + 1, n, g, c, by omega, by go_num, rfl, HO, HR⟩
        case measure => simp [intOf]; omega
    · obtain rfl : k = na := by omega
      have hI : ¬ (k : Int) < k := by omega
      go_wp2
      go_ret
      refine ⟨_, _, _, rfl, ?_, HR.out⟩
      have h9 := HO.out
      rw [List.take_of_length_le (by omega)] at h9
      exact h9
theorem kept4 {w w' : World} {a : Nat} {x0 x1 x2 x3 : Value} (hb : Below w.heap.size w w') (ha : a < w.heap.size)
    (h : w.cell? ⟨a, 0, none⟩ = some x0 ∧ w.cell? ⟨a, 1, none⟩ = some x1 ∧ w.cell? ⟨a, 2, none⟩ = some x2 ∧ w.cell? ⟨a, 3, none⟩ = some x3) :
    w'.cell? ⟨a, 0, none⟩ = some x0 ∧ w'.cell? ⟨a, 1, none⟩ = some x1 ∧ w'.cell? ⟨a, 2, none⟩ = some x2 ∧ w'.cell? ⟨a, 3, none⟩ = some x3 := by
  have e : ∀ (o : Nat), w'.cell? ⟨a, o, none⟩ = w.cell? ⟨a, o, none⟩ := fun o => hb.cell (p := ⟨a, o, none⟩) ha
  rw [e 0, e 1, e 2, e 3]
  exact h
theorem filter_len8 (f : Nat → Bool) (p : Int → Bool) : ((lst f 8).filter p).length ≤ 8 := Nat.le_trans (List.length_filter_le _ _) (lst_len f 8)
set_option maxHeartbeats 8000000 in
set_option maxRecDepth 100000 in
theorem impl_mustlog (ab : Option Addr) (nb cb : Nat) (t : Tk) (hn : (nb : Int) ≤ 1048576) (hcap : nb ≤ cb) (w : World) (h : StRow w ab nb t.b) (f : Nat → Bool) (hf : Is f (LogP t)) :
    Calls Tryz.prog 34 #[tkV ab nb cb t] w (NewInts w (lst f 8)) := by
  obtain ⟨r, hr⟩ := tsk_dec t
  have HTO := Lib.hid (show ∀ w', StRow w' ab nb t.b → Calls Tryz.prog 64 #[tkV ab nb cb t] w' (BelB w' r) from fun w' h' => impl_taskok ab nb cb t hn w' h' r hr)
  have hlen : t.b.length = nb := h.1
  obtain ⟨W, hW⟩ : ∃ W, w.alloc (.cells #[.slice ab nb cb, .int .i64 t.o, .int .i64 t.x, .int .i64 t.y] 53) = W := ⟨_, rfl⟩
  have hbx : Box w.heap.size #[.slice ab nb cb, .int .i64 t.o, .int .i64 t.x, .int .i64 t.y] 53 W := by rw [← hW]; exact Box.new _ _ _
  have hBW : Below w.heap.size w W := by rw [← hW]; exact below_new _ _
  have H := Lib.hid (And.intro hbx (And.intro hBW (h.below hBW)))
  clear h hbx hBW
  have HF := Lib.hid hf
  clear hf
  cases r
  · have HFL := Lib.hid (show lst f 8 = [] from log_none (fun h => by have := hr.2 h; cases this) HF.out)
    clear hr
    go_enter Tryz.func34, Tryz.ntmps34
    go_wp2_with (first
      | (refine wpList_load_row rfl 53 _ rfl w.heap.size rfl _ _ _ _ H.out.1 Tryz.underlying53 rfl (by kernel_rfl) ?_)
      | (go_at_call 64; (with_reducible refine (HTO.out _ H.out.2.2).mono ?_); rintro e w2 ⟨rfl, hb2⟩))
    go_ret
    exact ⟨none, 0, 0, rfl, by rw [HFL.out]; exact World.ownsRow_nil _ _ _ _, below_then H.out.2.1 hb2⟩
  · have HT := Lib.hid (hr.1 rfl)
    obtain ⟨fm, hfm⟩ := is_ex (fun v => IsBlk t.b ∧ MayTo t.b nb v)
    obtain ⟨fu, hfu⟩ := is_ex (fun v => IsBlk t.b ∧ WAt t.b nb v)
    obtain ⟨ff, hff⟩ := is_ex (FirstP t)
    obtain ⟨K, hK⟩ : ∃ K, (lst fu 8).filter (fun y => !decide (y ∈ lst ff 8)) = K := ⟨_, rfl⟩
    have hK8 : K.length ≤ 8 := by rw [← hK]; exact filter_len8 _ _
    have HLF := Lib.hid (show (lst fm 8).filter (fun x => !decide (x ∈ K)) = lst f 8 from by rw [← hK]; exact log_prog HT.out (by rw [hlen]; exact hfm) (by rw [hlen]; exact hfu) hff HF.out)
    have HFM := Lib.hid (And.intro hfm (And.intro hfu hff))
    have HWI := Lib.hid (show ∀ (w' : World) (a1 : Option Addr) (m1 k1 : Nat) (a2 : Option Addr) (m2 k2 : Nat), (m1 : Int) ≤ 1048576 → (m2 : Int) ≤ 1048576 → Row w' a1 m1 (lst fu 8) → Row w' a2 m2 (lst ff 8) → Calls Tryz.prog 66 #[.slice a1 m1 k1, .slice a2 m2 k2] w' (NewInts w' K) from fun w' a1 m1 k1 a2 m2 k2 q1 q2 q3 q4 => by rw [← hK]; exact impl_without a1 m1 k1 _ a2 m2 k2 _ q1 q2 w' q3 q4)
    clear hr hfm hfu hff hK
    go_enter Tryz.func34, Tryz.ntmps34
    go_wp2_with (first
      | (refine wpList_load_row rfl 53 _ rfl w.heap.size rfl _ _ _ _ H.out.1 Tryz.underlying53 rfl (by kernel_rfl) ?_)
      | (go_at_call 64; (with_reducible refine (HTO.out _ H.out.2.2).mono ?_); rintro e w2 ⟨rfl, hb2⟩; refine Hid.out ?_))
    have H2 := Lib.hid (And.intro (H.out.1.below hb2) (And.intro (below_then H.out.2.1 hb2) (H.out.2.2.below hb2)))
    clear hb2 hW
    have HD := Lib.hid (show Below w2.heap.size w2 w2.drew from Below.drew (Below.refl _ w2))
    have HBX := Lib.hid (H2.out.1.below HD.out)
    have c8 : w2.drew.cell? ⟨w.heap.size, 0, none⟩ = some (.slice ab nb cb) ∧ w2.drew.cell? ⟨w.heap.size, 1, none⟩ = some (.int .i64 t.o) ∧ w2.drew.cell? ⟨w.heap.size, 2, none⟩ = some (.int .i64 t.x) ∧ w2.drew.cell? ⟨w.heap.size, 3, none⟩ = some (.int .i64 t.y) := ⟨HBX.out.cell 0, HBX.out.cell 1, HBX.out.cell 2, HBX.out.cell 3⟩
    have l8 : w.heap.size < w2.drew.heap.size := HBX.out.lt
    have HSR := Lib.hid (H2.out.2.2.below HD.out)
    refine Lib.hid ?_
    go_wp2
    go_region_held3 (fun w' => w'.cell? ⟨w.heap.size, 0, none⟩ = some (.slice ab nb cb) ∧ w'.cell? ⟨w.heap.size, 1, none⟩ = some (.int .i64 t.o) ∧ w'.cell? ⟨w.heap.size, 2, none⟩ = some (.int .i64 t.x) ∧ w'.cell? ⟨w.heap.size, 3, none⟩ = some (.int .i64 t.y))
      (first
        | (with_reducible exact c8)
        | (with_reducible exact kept4 hb5 (Nat.lt_of_lt_of_le l8 (Nat.le_trans hb3.size hb4.size)) (kept4 hb4 (Nat.lt_of_lt_of_le l8 hb3.size) (kept4 hb3 l8 c8)))
        | (with_reducible exact kept4 hb4 (Nat.lt_of_lt_of_le l8 hb3.size) (kept4 hb3 l8 c8))
        | (with_reducible exact kept4 hb3 l8 c8))
      (first
        | (go_at_call 28; (with_reducible refine (impl_mustwrite ab nb cb t.b hn hcap _ HSR.out fu HFM.out.2.1).mono ?_); rintro e w3 ⟨a3, n3, c3, rfl, ho3, hb3⟩; have hn3 : (n3 : Int) ≤ 8 := by (have h1 := own_len ho3; have h2 := lst_len fu 8; omega))
        | (go_at_call 32; (with_reducible refine (impl_mayread ab nb cb t hn _ (HSR.out.below hb3) ff HFM.out.2.2).mono ?_); rintro e w4 ⟨a4, n4, c4, rfl, ho4, hb4⟩; have hn4 : (n4 : Int) ≤ 8 := by (have h1 := own_len ho4; have h2 := lst_len ff 8; omega))
        | (go_at_call 66; (with_reducible refine (HWI.out _ a3 n3 c3 a4 n4 c4 (by omega) (by omega) ((Row.of_own ho3).below hb4) (Row.of_own ho4)).mono ?_); rintro e w5 ⟨a5, n5, c5, rfl, ho5, hb5⟩))
    all_goals
      have hn5 : (n5 : Int) ≤ 8 := by have h1 := own_len ho5; omega
      have hb25 := below_then HD.out (below_then hb3 (below_then hb4 hb5))
      have H5 := Lib.hid (And.intro (H2.out.1.below hb25) (And.intro (below_then H2.out.2.1 hb25) (And.intro (H2.out.2.2.below hb25) (Row.of_own ho5))))
      have d0 : w5.cell? ⟨w.heap.size, 0, none⟩ = some (.slice ab nb cb) := H5.out.1.cell 0
      clear hb25 hb3 hb4 hb5 ho3 ho4 ho5 c8 l8
      refine Lib.hid ?_
      go_wp2_with (go_at_call 27; (with_reducible refine (impl_maywrite ab nb cb t.b hn hcap _ H5.out.2.2.1 fm HFM.out.1).mono ?_); rintro e w6 ⟨a6, n6, c6, rfl, ho6, hb6⟩; refine Hid.out ?_)
      have hn6 : (n6 : Int) ≤ 8 := by have h1 := own_len ho6; have h2 := lst_len fm 8; omega
      have H6 := Lib.hid (And.intro (below_then H5.out.2.1 hb6) (And.intro (Row.of_own ho6) (H5.out.2.2.2.below hb6)))
      clear hb6 ho6 d0
      refine Lib.hid ?_
      go_wp2_with (go_at_call 66; (with_reducible refine (impl_without a6 n6 c6 _ a5 n5 c5 _ (by omega) (by omega) _ H6.out.2.1 H6.out.2.2).mono ?_); rintro e w7 ⟨a7, n7, c7, rfl, ho7, hb7⟩)
      go_ret
      exact ⟨_, _, _, rfl, by rw [← HLF.out]; exact ho7.mono H6.out.1.size, below_then H6.out.1 hb7⟩
end Go.Proofs.YtndpadnjjbbkkaaGreat.sets
