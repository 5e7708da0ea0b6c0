/- Several texts in one: SetG. -/
import Derived.Test.YtodlbbojjnkneaaGHub18
import Derived.Test.YtodlbbojjnkneaaGHub21

/- The model's MayReadFirst and HasVar; nothing that was there is written. -/
namespace Go.Proofs.Ytodlbbojjnkneaa.sets
open Go Go.ChangeShapes Go.WideShapes Go.ChangeAt Go.RowKit Go.Proofs.Ytodlbbojjnkneaa.row Go.Proofs.Ytodlbbojjnkneaa.val Go.Proofs.Ytodlbbojjnkneaa.stm Go.Proofs.Ytodlbbojjnkneaa.blk Go.Proofs.Ytodlbbojjnkneaa.expr Go.Proofs.Ytodlbbojjnkneaa.prg

/-- What a task can read before it is written. -/
def FirstP (t : Tk) (v : Nat) : Prop := (IsBlk t.b ∧ exprOk t.o t.x t.y = true) ∧ (FAt t.b t.b.length v ∨ ((v : Int) ∈ rd t.x t.y 8 ∧ ¬ WAt t.b t.b.length v))
theorem far_new {w : World} {a : Option Addr} {n f g : Nat} {B : List Sm} (h : StRow w a n B) (hf : w.heap.size ≤ f) (hg : w.heap.size ≤ g) : Far2 n a f g := fun hn b off ha => by
  obtain ⟨b', off', s, ha', hlt, _⟩ := h.2 0 hn
  rw [ha] at ha'; cases ha'
  exact ⟨by omega, by omega⟩
set_option maxHeartbeats 4000000 in
set_option maxRecDepth 100000 in
theorem spec_mayread (ab : Option Addr) (nb cb : Nat) (t : Tk) (hn : (nb : Int) ≤ 1048576) (w : World) (h : StRow w ab nb t.b) (f : Nat → Bool) (hf : Is f (FirstP t)) :
    Calls Try.prog 68 #[tkV ab nb cb t] w (NewInts w (lst f 8)) := by
  have hmk := mk8
  obtain ⟨B, o, x, y⟩ := t
  obtain ⟨W, hW⟩ : ∃ W, (w.alloc (.cells #[.slice ab nb cb, .int .i64 o, .int .i64 x, .int .i64 y] 28)).alloc (.cells #[.bool false, .bool false, .bool false, .bool false, .bool false, .bool false, .bool false, .bool false] 4) = W := ⟨_, rfl⟩
  have hbw : Below w.heap.size w W := by rw [← hW]; exact ((Below.refl _ w).alloc (Nat.le_refl _) _).alloc (by simp) _
  have hxt : Box w.heap.size #[.slice ab nb cb, .int .i64 o, .int .i64 x, .int .i64 y] 28 W := by rw [← hW]; exact (Box.new w _ _).alloc _
  have hs1 : Bset (w.heap.size + 1) (fun _ => false) W := by
    rw [← hW]
    have h9 := Bset.made (w.alloc (.cells #[.slice ab nb cb, .int .i64 o, .int .i64 x, .int .i64 y] 28)) 4
    rw [World.size_alloc] at h9
    exact h9
  have HW := Lib.hid hW
  have H0 := Lib.hid (And.intro hxt (And.intro hs1 (And.intro hbw (h.below hbw))))
  have HF := Lib.hid hf
  have hlen : B.length = nb := h.1
  have HL := Lib.hid h
  have c0 : ((w.alloc (.cells #[.slice ab nb cb, .int .i64 o, .int .i64 x, .int .i64 y] 28)).alloc (.cells #[.bool false, .bool false, .bool false, .bool false, .bool false, .bool false, .bool false, .bool false] 4)).cell? ⟨w.heap.size, 0, none⟩ = some (.slice ab nb cb) := by rw [hW]; exact hxt.cell 0
  clear h hf hW hxt hbw hs1
  obtain ⟨rb, hrb⟩ := blk_dec B
  have HRB := Lib.hid hrb
  cases rb
  · have HFL := Lib.hid (show lst (fun _ => false) 8 = lst f 8 from lst_congr (Is.eq (p := FirstP ⟨B, o, x, y⟩) (fun v _ => ⟨fun e => (by cases e), fun e => by have := hrb.2 e.1.1; cases this⟩) HF.out))
    clear hrb
    go_enter Try.func68, Try.ntmps68
    go_wp2_with (go_at_call 47; rw [HW.out]; (with_reducible refine (spec_blockok ab nb cb B hn _ H0.out.2.2.2 false HRB.out).mono ?_); rintro e w2 ⟨rfl, hb2⟩; refine Hid.out ?_)
    have H2 := Lib.hid (And.intro (H0.out.2.1.below hb2) (below_then H0.out.2.2.1 hb2))
    clear hb2 c0
    refine Lib.hid ?_
    go_wp2_with (go_at_call 78; (with_reducible refine (spec_list (w.heap.size + 1) 8 _ _ H2.out.1).mono ?_); rintro e w5 ⟨ad, m, c5, rfl, hown, hb5⟩)
    go_ret
    exact ⟨ad, m, c5, rfl, by rw [← HFL.out]; exact hown.mono H2.out.2.size, below_then H2.out.2 hb5⟩
  · have HBK := Lib.hid (hrb.1 rfl)
    clear hrb
    cases he : exprOk o x y
    · have HFL := Lib.hid (show lst (fun _ => false) 8 = lst f 8 from lst_congr (Is.eq (p := FirstP ⟨B, o, x, y⟩) (fun v _ => ⟨fun e => (by cases e), fun e => by have := e.1.2; rw [show exprOk o x y = false from he] at this; cases this⟩) HF.out))
      have HE := Lib.hid he
      clear he
      go_enter Try.func68, Try.ntmps68
      go_wp2_with (go_at_call 47; rw [HW.out]; (with_reducible refine (spec_blockok ab nb cb B hn _ H0.out.2.2.2 true HRB.out).mono ?_); rintro e w2 ⟨rfl, hb2⟩; refine Hid.out ?_)
      have H2 := Lib.hid (And.intro (H0.out.1.below hb2) (And.intro (H0.out.2.1.below hb2) (below_then H0.out.2.2.1 hb2)))
      have d1 : w2.cell? ⟨w.heap.size, 1, none⟩ = some (.int .i64 o) := H2.out.1.cell 1
      have d2 : w2.cell? ⟨w.heap.size, 2, none⟩ = some (.int .i64 x) := H2.out.1.cell 2
      have d3 : w2.cell? ⟨w.heap.size, 3, none⟩ = some (.int .i64 y) := H2.out.1.cell 3
      clear hb2 c0
      refine Lib.hid ?_
      go_wp2_with (go_at_call 48; (with_reducible refine (spec_exprok o x y false HE.out _).mono ?_); rintro e w3 ⟨rfl, hb3⟩; refine Hid.out ?_)
      have H3 := Lib.hid (And.intro (H2.out.2.1.below hb3) (below_then H2.out.2.2 hb3))
      clear hb3 d1 d2 d3
      refine Lib.hid ?_
      go_wp2_with (go_at_call 78; (with_reducible refine (spec_list (w.heap.size + 1) 8 _ _ H3.out.1).mono ?_); rintro e w5 ⟨ad, m, c5, rfl, hown, hb5⟩)
      go_ret
      exact ⟨ad, m, c5, rfl, by rw [← HFL.out]; exact hown.mono H3.out.2.size, below_then H3.out.2 hb5⟩
    · have HE := Lib.hid he
      clear he
      go_enter Try.func68, Try.ntmps68
      go_wp2_with (go_at_call 47; rw [HW.out]; (with_reducible refine (spec_blockok ab nb cb B hn _ H0.out.2.2.2 true HRB.out).mono ?_); rintro e w2 ⟨rfl, hb2⟩; refine Hid.out ?_)
      have H2 := Lib.hid (And.intro (H0.out.1.below hb2) (And.intro (H0.out.2.1.below hb2) (And.intro (below_then H0.out.2.2.1 hb2) (H0.out.2.2.2.below hb2))))
      have d1 : w2.cell? ⟨w.heap.size, 1, none⟩ = some (.int .i64 o) := H2.out.1.cell 1
      have d2 : w2.cell? ⟨w.heap.size, 2, none⟩ = some (.int .i64 x) := H2.out.1.cell 2
      have d3 : w2.cell? ⟨w.heap.size, 3, none⟩ = some (.int .i64 y) := H2.out.1.cell 3
      clear hb2 c0
      refine Lib.hid ?_
      go_wp2_with (go_at_call 48; (with_reducible refine (spec_exprok o x y true HE.out _).mono ?_); rintro e w3 ⟨rfl, hb3⟩; refine Hid.out ?_)
      obtain ⟨w4, hw4⟩ : ∃ w4, w3.alloc (.cells #[.bool false, .bool false, .bool false, .bool false, .bool false, .bool false, .bool false, .bool false] 4) = w4 := ⟨_, rfl⟩
      have hb4 : Below w2.heap.size w2 w4 := by rw [← hw4]; exact below_then hb3 (below_new w3 _)
      have hs4 : Bset w3.heap.size (fun _ => false) w4 := by rw [← hw4]; exact Bset.made w3 _
      have HW4 := Lib.hid hw4
      have H4 := Lib.hid (And.intro (H2.out.1.below hb4) (And.intro (H2.out.2.1.below hb4) (And.intro (below_then H2.out.2.2.1 hb4) (And.intro (H2.out.2.2.2.below hb4) hs4))))
      have hl3 : w.heap.size + 1 < w3.heap.size := Nat.lt_of_lt_of_le H2.out.2.1.lt hb3.size
      have e0 : (w3.alloc (.cells #[.bool false, .bool false, .bool false, .bool false, .bool false, .bool false, .bool false, .bool false] 4)).cell? ⟨w.heap.size, 0, none⟩ = some (.slice ab nb cb) := by rw [hw4]; exact H4.out.1.cell 0
      have HP := Lib.hid (show Calls Try.prog 80 #[.slice ab nb cb, .int .i64 0, .int .i64 nb, .slice (some ⟨w3.heap.size, 0, none⟩) 8 8, .slice (some ⟨w.heap.size + 1, 0, none⟩) 8 8] w4 (Passed (w.heap.size + 1) w3.heap.size B nb w4) from by
        have h9 := spec_pass ab nb cb B hn HBK.out nb 0 nb rfl (by rw [← hlen]; exact Seg.all HBK.out) (w.heap.size + 1) w3.heap.size 8 8 (fun _ => false) (fun _ => false) w4 (by omega) H4.out.2.2.2.1
          (far_new HL.out (by omega) (by omega))
          H4.out.2.1 (fun v _ => ⟨fun e => (by cases e), fun e => absurd e fAt_zero⟩) H4.out.2.2.2.2 (fun v _ => ⟨fun e => (by cases e), fun e => absurd e wAt_zero⟩)
        exact h9)
      clear hb3 hb4 hs4 hw4 d1 d2 d3
      refine Lib.hid ?_
      go_wp2_with (go_at_call 80; rw [HW4.out]; (with_reducible refine HP.out.mono ?_); rintro e w5 ⟨rfl, hT5, F5, W5, hF5, hW5⟩; refine Hid.out ?_)
      have hx5 : Box w.heap.size #[.slice ab nb cb, .int .i64 o, .int .i64 x, .int .i64 y] 28 w5 := (hT5.2 w.heap.size H4.out.1.lt (by omega) (by omega)).trans H4.out.1
      have HB5 := Lib.hid (H4.out.2.2.1.trans (hT5.lift (B := w.heap.size) H4.out.2.2.1.size (by omega) (by omega)))
      have HN5 := Lib.hid (spec_note (w.heap.size + 1) w3.heap.size 8 8 F5 W5 (by omega) o x y HE.out w5 hF5.out.1 hW5.out.1)
      have HFW := Lib.hid (And.intro hF5.out.2 hW5.out.2)
      have k1 : w5.cell? ⟨w.heap.size, 1, none⟩ = some (.int .i64 o) := hx5.cell 1
      have k2 : w5.cell? ⟨w.heap.size, 1 + 1, none⟩ = some (.int .i64 x) := hx5.cell 2
      have k3 : w5.cell? ⟨w.heap.size, 1 + 2, none⟩ = some (.int .i64 y) := hx5.cell 3
      clear hT5 hF5 hW5 hx5 e0
      refine Lib.hid ?_
      go_wp2_with (go_at_call 81; (with_reducible refine HN5.out.mono ?_); rintro e w6 ⟨rfl, hg6, F6, hF6⟩; refine Hid.out ?_)
      have HB6 := Lib.hid (HB5.out.grown hg6 HB5.out.size (fun q hq => by cases hq; omega))
      have HS6 := Lib.hid hF6.out.1
      have HFL := Lib.hid (show lst F6 8 = lst f 8 from lst_congr (Is.eq (p := FirstP ⟨B, o, x, y⟩) (fun v hv => by
        refine (hF6.out.2 v hv).trans ?_
        unfold FirstP
        rw [hlen]
        constructor
        · rintro (h | ⟨h1, h2⟩)
          · exact ⟨⟨HBK.out, HE.out⟩, .inl ((HFW.out.1 v hv).1 h)⟩
          · exact ⟨⟨HBK.out, HE.out⟩, .inr ⟨h1, (HFW.out.2.neg hv).1 h2⟩⟩
        · rintro ⟨_, h | ⟨h1, h2⟩⟩
          · exact .inl ((HFW.out.1 v hv).2 h)
          · exact .inr ⟨h1, (HFW.out.2.neg hv).2 h2⟩) HF.out))
      clear hg6 hF6 k1 k2 k3
      refine Lib.hid ?_
      go_wp2_with (go_at_call 78; (with_reducible refine (spec_list (w.heap.size + 1) 8 _ _ HS6.out).mono ?_); rintro e w7 ⟨ad, m, c5, rfl, hown, hb7⟩)
      go_ret
      exact ⟨ad, m, c5, rfl, by rw [← HFL.out]; exact hown.mono HB6.out.size, below_then HB6.out hb7⟩
end Go.Proofs.Ytodlbbojjnkneaa.sets
