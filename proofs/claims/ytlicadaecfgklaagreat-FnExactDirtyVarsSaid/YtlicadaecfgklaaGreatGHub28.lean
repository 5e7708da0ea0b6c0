/- Several texts in one: SetG LogA RecE. -/
import Derived.Test.YtlicadaecfgklaaGreatGHub27
import Derived.Test.YtlicadaecfgklaaGreatGHub14
import Derived.Test.YtlicadaecfgklaaGreatGHub22
import Derived.Test.YtlicadaecfgklaaGreatGHub23

/- The model's MayReadFirst and HasVar; nothing that was there is written. -/
namespace Go.Proofs.YtlicadaecfgklaaGreat.sets
open Go Go.ChangeShapes Go.WideShapes Go.ChangeAt Go.RowKit Go.Proofs.YtlicadaecfgklaaGreat.row Go.Proofs.YtlicadaecfgklaaGreat.val Go.Proofs.YtlicadaecfgklaaGreat.stm Go.Proofs.YtlicadaecfgklaaGreat.blk Go.Proofs.YtlicadaecfgklaaGreat.expr Go.Proofs.YtlicadaecfgklaaGreat.prg

/-- What a task can read before it is written. -/
def FirstP (t : Tk) (v : Nat) : Prop := (IsBlk t.b ∧ exprOk t.o t.x t.y = true) ∧ (FAt t.b t.b.length v ∨ ((v : Int) ∈ rd t.x t.y 8 ∧ ¬ WAt t.b t.b.length v))
theorem far_new {w : World} {a : Option Addr} {n f g : Nat} {B : List Sm} (h : StRow w a n B) (hf : w.heap.size ≤ f) (hg : w.heap.size ≤ g) : Far2 n a f g := fun hn b off ha => by
  obtain ⟨b', off', s, ha', hlt, _⟩ := h.2 0 hn
  rw [ha] at ha'; cases ha'
  exact ⟨by omega, by omega⟩
set_option maxHeartbeats 4000000 in
set_option maxRecDepth 100000 in
theorem spec_mayread (ab : Option Addr) (nb cb : Nat) (t : Tk) (hn : (nb : Int) ≤ 1048576) (w : World) (h : StRow w ab nb t.b) (f : Nat → Bool) (hf : Is f (FirstP t)) :
    Calls Tryz.prog 39 #[tkV ab nb cb t] w (NewInts w (lst f 8)) := by
  have hmk := mk8
  obtain ⟨B, o, x, y⟩ := t
  obtain ⟨W, hW⟩ : ∃ W, (w.alloc (.cells #[.slice ab nb cb, .int .i64 o, .int .i64 x, .int .i64 y] 47)).alloc (.cells #[.bool false, .bool false, .bool false, .bool false, .bool false, .bool false, .bool false, .bool false] 4) = W := ⟨_, rfl⟩
  have hbw : Below w.heap.size w W := by rw [← hW]; exact ((Below.refl _ w).alloc (Nat.le_refl _) _).alloc (by simp) _
  have hxt : Box w.heap.size #[.slice ab nb cb, .int .i64 o, .int .i64 x, .int .i64 y] 47 W := by rw [← hW]; exact (Box.new w _ _).alloc _
  have hs1 : Bset (w.heap.size + 1) (fun _ => false) W := by
    rw [← hW]
    have h9 := Bset.made (w.alloc (.cells #[.slice ab nb cb, .int .i64 o, .int .i64 x, .int .i64 y] 47)) 4
    rw [World.size_alloc] at h9
    exact h9
  have HW := Lib.hid hW
  have H0 := Lib.hid (And.intro hxt (And.intro hs1 (And.intro hbw (h.below hbw))))
  have HF := Lib.hid hf
  have hlen : B.length = nb := h.1
  have HL := Lib.hid h
  have c0 : ((w.alloc (.cells #[.slice ab nb cb, .int .i64 o, .int .i64 x, .int .i64 y] 47)).alloc (.cells #[.bool false, .bool false, .bool false, .bool false, .bool false, .bool false, .bool false, .bool false] 4)).cell? ⟨w.heap.size, 0, none⟩ = some (.slice ab nb cb) := by rw [hW]; exact hxt.cell 0
  clear h hf hW hxt hbw hs1
  obtain ⟨rb, hrb⟩ := blk_dec B
  have HRB := Lib.hid hrb
  cases rb
  · have HFL := Lib.hid (show lst (fun _ => false) 8 = lst f 8 from lst_congr (Is.eq (p := FirstP ⟨B, o, x, y⟩) (fun v _ => ⟨fun e => (by cases e), fun e => by have := hrb.2 e.1.1; cases this⟩) HF.out))
    clear hrb
    go_enter Tryz.func39, Tryz.ntmps39
    go_wp2_with (go_at_call 34; rw [HW.out]; (with_reducible refine (spec_blockok ab nb cb B hn _ H0.out.2.2.2 false HRB.out).mono ?_); rintro e w2 ⟨rfl, hb2⟩; refine Hid.out ?_)
    have H2 := Lib.hid (And.intro (H0.out.2.1.below hb2) (below_then H0.out.2.2.1 hb2))
    clear hb2 c0
    refine Lib.hid ?_
    go_wp2_with (go_at_call 36; (with_reducible refine (spec_list (w.heap.size + 1) 8 _ _ H2.out.1).mono ?_); rintro e w5 ⟨ad, m, c5, rfl, hown, hb5⟩)
    go_ret
    exact ⟨ad, m, c5, rfl, by rw [← HFL.out]; exact hown.mono H2.out.2.size, below_then H2.out.2 hb5⟩
  · have HBK := Lib.hid (hrb.1 rfl)
    clear hrb
    cases he : exprOk o x y
    · have HFL := Lib.hid (show lst (fun _ => false) 8 = lst f 8 from lst_congr (Is.eq (p := FirstP ⟨B, o, x, y⟩) (fun v _ => ⟨fun e => (by cases e), fun e => by have := e.1.2; rw [show exprOk o x y = false from he] at this; cases this⟩) HF.out))
      have HE := Lib.hid he
      clear he
      go_enter Tryz.func39, Tryz.ntmps39
      go_wp2_with (go_at_call 34; rw [HW.out]; (with_reducible refine (spec_blockok ab nb cb B hn _ H0.out.2.2.2 true HRB.out).mono ?_); rintro e w2 ⟨rfl, hb2⟩; refine Hid.out ?_)
      have H2 := Lib.hid (And.intro (H0.out.1.below hb2) (And.intro (H0.out.2.1.below hb2) (below_then H0.out.2.2.1 hb2)))
      have d1 : w2.cell? ⟨w.heap.size, 1, none⟩ = some (.int .i64 o) := H2.out.1.cell 1
      have d2 : w2.cell? ⟨w.heap.size, 2, none⟩ = some (.int .i64 x) := H2.out.1.cell 2
      have d3 : w2.cell? ⟨w.heap.size, 3, none⟩ = some (.int .i64 y) := H2.out.1.cell 3
      clear hb2 c0
      refine Lib.hid ?_
      go_wp2_with (go_at_call 59; (with_reducible refine (spec_exprok o x y false HE.out _).mono ?_); rintro e w3 ⟨rfl, hb3⟩; refine Hid.out ?_)
      have H3 := Lib.hid (And.intro (H2.out.2.1.below hb3) (below_then H2.out.2.2 hb3))
      clear hb3 d1 d2 d3
      refine Lib.hid ?_
      go_wp2_with (go_at_call 36; (with_reducible refine (spec_list (w.heap.size + 1) 8 _ _ H3.out.1).mono ?_); rintro e w5 ⟨ad, m, c5, rfl, hown, hb5⟩)
      go_ret
      exact ⟨ad, m, c5, rfl, by rw [← HFL.out]; exact hown.mono H3.out.2.size, below_then H3.out.2 hb5⟩
    · have HE := Lib.hid he
      clear he
      go_enter Tryz.func39, Tryz.ntmps39
      go_wp2_with (go_at_call 34; rw [HW.out]; (with_reducible refine (spec_blockok ab nb cb B hn _ H0.out.2.2.2 true HRB.out).mono ?_); rintro e w2 ⟨rfl, hb2⟩; refine Hid.out ?_)
      have H2 := Lib.hid (And.intro (H0.out.1.below hb2) (And.intro (H0.out.2.1.below hb2) (And.intro (below_then H0.out.2.2.1 hb2) (H0.out.2.2.2.below hb2))))
      have d1 : w2.cell? ⟨w.heap.size, 1, none⟩ = some (.int .i64 o) := H2.out.1.cell 1
      have d2 : w2.cell? ⟨w.heap.size, 2, none⟩ = some (.int .i64 x) := H2.out.1.cell 2
      have d3 : w2.cell? ⟨w.heap.size, 3, none⟩ = some (.int .i64 y) := H2.out.1.cell 3
      clear hb2 c0
      refine Lib.hid ?_
      go_wp2_with (go_at_call 59; (with_reducible refine (spec_exprok o x y true HE.out _).mono ?_); rintro e w3 ⟨rfl, hb3⟩; refine Hid.out ?_)
      obtain ⟨w4, hw4⟩ : ∃ w4, w3.alloc (.cells #[.bool false, .bool false, .bool false, .bool false, .bool false, .bool false, .bool false, .bool false] 4) = w4 := ⟨_, rfl⟩
      have hb4 : Below w2.heap.size w2 w4 := by rw [← hw4]; exact below_then hb3 (below_new w3 _)
      have hs4 : Bset w3.heap.size (fun _ => false) w4 := by rw [← hw4]; exact Bset.made w3 _
      have HW4 := Lib.hid hw4
      have H4 := Lib.hid (And.intro (H2.out.1.below hb4) (And.intro (H2.out.2.1.below hb4) (And.intro (below_then H2.out.2.2.1 hb4) (And.intro (H2.out.2.2.2.below hb4) hs4))))
      have hl3 : w.heap.size + 1 < w3.heap.size := Nat.lt_of_lt_of_le H2.out.2.1.lt hb3.size
      have e0 : (w3.alloc (.cells #[.bool false, .bool false, .bool false, .bool false, .bool false, .bool false, .bool false, .bool false] 4)).cell? ⟨w.heap.size, 0, none⟩ = some (.slice ab nb cb) := by rw [hw4]; exact H4.out.1.cell 0
      have HP := Lib.hid (show Calls Tryz.prog 62 #[.slice ab nb cb, .int .i64 0, .int .i64 nb, .slice (some ⟨w3.heap.size, 0, none⟩) 8 8, .slice (some ⟨w.heap.size + 1, 0, none⟩) 8 8] w4 (Passed (w.heap.size + 1) w3.heap.size B nb w4) from by
        have h9 := spec_pass ab nb cb B hn HBK.out nb 0 nb rfl (by rw [← hlen]; exact Seg.all HBK.out) (w.heap.size + 1) w3.heap.size 8 8 (fun _ => false) (fun _ => false) w4 (by omega) H4.out.2.2.2.1
          (far_new HL.out (by omega) (by omega))
          H4.out.2.1 (fun v _ => ⟨fun e => (by cases e), fun e => absurd e fAt_zero⟩) H4.out.2.2.2.2 (fun v _ => ⟨fun e => (by cases e), fun e => absurd e wAt_zero⟩)
        exact h9)
      clear hb3 hb4 hs4 hw4 d1 d2 d3
      refine Lib.hid ?_
      go_wp2_with (go_at_call 62; rw [HW4.out]; (with_reducible refine HP.out.mono ?_); rintro e w5 ⟨rfl, hT5, F5, W5, hF5, hW5⟩; refine Hid.out ?_)
      have hx5 : Box w.heap.size #[.slice ab nb cb, .int .i64 o, .int .i64 x, .int .i64 y] 47 w5 := (hT5.2 w.heap.size H4.out.1.lt (by omega) (by omega)).trans H4.out.1
      have HB5 := Lib.hid (H4.out.2.2.1.trans (hT5.lift (B := w.heap.size) H4.out.2.2.1.size (by omega) (by omega)))
      have HN5 := Lib.hid (spec_note (w.heap.size + 1) w3.heap.size 8 8 F5 W5 (by omega) o x y HE.out w5 hF5.out.1 hW5.out.1)
      have HFW := Lib.hid (And.intro hF5.out.2 hW5.out.2)
      have k1 : w5.cell? ⟨w.heap.size, 1, none⟩ = some (.int .i64 o) := hx5.cell 1
      have k2 : w5.cell? ⟨w.heap.size, 1 + 1, none⟩ = some (.int .i64 x) := hx5.cell 2
      have k3 : w5.cell? ⟨w.heap.size, 1 + 2, none⟩ = some (.int .i64 y) := hx5.cell 3
      clear hT5 hF5 hW5 hx5 e0
      refine Lib.hid ?_
      go_wp2_with (go_at_call 63; (with_reducible refine HN5.out.mono ?_); rintro e w6 ⟨rfl, hg6, F6, hF6⟩; refine Hid.out ?_)
      have HB6 := Lib.hid (HB5.out.grown hg6 HB5.out.size (fun q hq => by cases hq; omega))
      have HS6 := Lib.hid hF6.out.1
      have HFL := Lib.hid (show lst F6 8 = lst f 8 from lst_congr (Is.eq (p := FirstP ⟨B, o, x, y⟩) (fun v hv => by
        refine (hF6.out.2 v hv).trans ?_
        unfold FirstP
        rw [hlen]
        constructor
        · rintro (h | ⟨h1, h2⟩)
          · exact ⟨⟨HBK.out, HE.out⟩, .inl ((HFW.out.1 v hv).1 h)⟩
          · exact ⟨⟨HBK.out, HE.out⟩, .inr ⟨h1, (HFW.out.2.neg hv).1 h2⟩⟩
        · rintro ⟨_, h | ⟨h1, h2⟩⟩
          · exact .inl ((HFW.out.1 v hv).2 h)
          · exact .inr ⟨h1, (HFW.out.2.neg hv).2 h2⟩) HF.out))
      clear hg6 hF6 k1 k2 k3
      refine Lib.hid ?_
      go_wp2_with (go_at_call 36; (with_reducible refine (spec_list (w.heap.size + 1) 8 _ _ HS6.out).mono ?_); rintro e w7 ⟨ad, m, c5, rfl, hown, hb7⟩)
      go_ret
      exact ⟨ad, m, c5, rfl, by rw [← HFL.out]; exact hown.mono HB6.out.size, below_then HB6.out hb7⟩
end Go.Proofs.YtlicadaecfgklaaGreat.sets

/- What must be logged: plain mathematics. -/
namespace Go.Proofs.YtlicadaecfgklaaGreat.sets
open Go Go.Proofs.YtlicadaecfgklaaGreat.stm Go.Proofs.YtlicadaecfgklaaGreat.blk Go.Proofs.YtlicadaecfgklaaGreat.expr Go.Proofs.YtlicadaecfgklaaGreat.prg

/-- The variable must be logged. -/
def LogP (t : Tk) (v : Nat) : Prop := (IsBlk t.b ∧ exprOk t.o t.x t.y = true) ∧ MayTo t.b t.b.length v ∧ (FirstP t v ∨ ¬ WAt t.b t.b.length v)
theorem is_ex (p : Nat → Prop) : ∃ f, Is f p := by
  classical exact ⟨fun v => decide (p v), fun v _ => decide_eq_true_iff⟩
theorem lst_filter {f g : Nat → Bool} {p : Int → Bool} : ∀ k, (∀ v : Nat, v < k → g v = (f v && p v)) → (lst f k).filter p = lst g k
  | 0, _ => rfl
  | k + 1, h => by
    have ih := lst_filter (f := f) (g := g) (p := p) k (fun v hv => h v (by omega))
    have hk := h k (by omega)
    cases hf : f k
    · rw [hf, Bool.false_and] at hk
      rw [lst_no hf, lst_no hk, ih]
    · rw [hf, Bool.true_and] at hk
      rw [lst_yes hf, List.filter_append, ih]
      cases hp : p k
      · rw [hp] at hk
        rw [lst_no hk]; simp [hp]
      · rw [hp] at hk
        rw [lst_yes hk]; simp [hp]
/-- The model's choice. -/
theorem log_model {t : Tk} (ht : IsBlk t.b ∧ exprOk t.o t.x t.y = true) {fm fu ff f : Nat → Bool} (hm : Is fm (fun v => IsBlk t.b ∧ MayTo t.b t.b.length v)) (hu : Is fu (fun v => IsBlk t.b ∧ WAt t.b t.b.length v)) (hf : Is ff (FirstP t)) (h : Is f (LogP t)) :
    (lst fm 8).filter (fun x => decide (x ∈ lst ff 8) || !decide (x ∈ lst fu 8)) = lst f 8 := by
  refine lst_filter 8 (fun v hv => ?_)
  have h1 := hm v hv
  have h2 := hu v hv
  have h3 := hf v hv
  have h4 := h v hv
  have e1 : decide ((v : Int) ∈ lst ff 8) = ff v := by rw [Bool.eq_iff_iff, decide_eq_true_eq, lst_mem]; exact ⟨fun h => h.2, fun h => ⟨hv, h⟩⟩
  have e2 : decide ((v : Int) ∈ lst fu 8) = fu v := by rw [Bool.eq_iff_iff, decide_eq_true_eq, lst_mem]; exact ⟨fun h => h.2, fun h => ⟨hv, h⟩⟩
  rw [e1, e2, Bool.eq_iff_iff, h4]
  simp only [Bool.and_eq_true, Bool.or_eq_true, Bool.not_eq_true', h1, h3]
  have h2n : fu v = false ↔ ¬ WAt t.b t.b.length v := by
    rw [← Bool.not_eq_true, h2]
    exact ⟨fun h e => h ⟨ht.1, e⟩, fun h e => h e.2⟩
  rw [h2n]
  unfold LogP
  exact ⟨fun h => ⟨⟨ht.1, h.2.1⟩, h.2.2⟩, fun h => ⟨ht, h.1.2, h.2⟩⟩
/-- The program's choice: twice without. -/
theorem log_prog {t : Tk} (ht : IsBlk t.b ∧ exprOk t.o t.x t.y = true) {fm fu ff f : Nat → Bool} (hm : Is fm (fun v => IsBlk t.b ∧ MayTo t.b t.b.length v)) (hu : Is fu (fun v => IsBlk t.b ∧ WAt t.b t.b.length v)) (hf : Is ff (FirstP t)) (h : Is f (LogP t)) :
    (lst fm 8).filter (fun x => !decide (x ∈ (lst fu 8).filter (fun y => !decide (y ∈ lst ff 8)))) = lst f 8 := by
  rw [← log_model ht hm hu hf h]
  congr 1
  funext x
  simp only [List.mem_filter]
  rw [Bool.eq_iff_iff]
  simp
  by_cases h1 : x ∈ lst fu 8 <;> by_cases h2 : x ∈ lst ff 8 <;> simp [h1, h2]
theorem log_none {t : Tk} (ht : ¬ (IsBlk t.b ∧ exprOk t.o t.x t.y = true)) {f : Nat → Bool} (h : Is f (LogP t)) : lst f 8 = [] := by
  rw [lst_congr (g := fun _ => false) (fun v hv => by
    cases h9 : f v
    · rfl
    · exact absurd ((h v hv).1 h9).1 ht)]
  exact lst_nil (fun _ => rfl) 8
noncomputable def logF (t : Tk) : Nat → Bool := fun v => @decide (LogP t v) (Classical.propDecidable _)
theorem logF_is (t : Tk) : Is (logF t) (LogP t) := fun v _ => by unfold logF; exact @decide_eq_true_iff _ (Classical.propDecidable _)
/-- How many variables a task logs. -/
noncomputable def logN (t : Tk) : Nat := (lst (logF t) 8).length
theorem logN_le (t : Tk) : logN t ≤ 8 := lst_len _ 8
noncomputable def roomN (P : List Tk) (k : Nat) : Nat := ((P.take k).map logN).foldl max 0
theorem roomN_zero (P : List Tk) : roomN P 0 = 0 := rfl
theorem roomN_succ {P : List Tk} {k : Nat} {t : Tk} (h : P[k]? = some t) : roomN P (k + 1) = max (roomN P k) (logN t) := by
  unfold roomN
  rw [List.take_add_one, h]
  simp [List.foldl_append]
theorem roomN_le (P : List Tk) : ∀ k, roomN P k ≤ 8
  | 0 => by rw [roomN_zero]; omega
  | k + 1 => by
    cases h : P[k]? with
    | none =>
      have : roomN P (k + 1) = roomN P k := by unfold roomN; rw [List.take_add_one, h]; simp
      rw [this]; exact roomN_le P k
    | some t =>
      rw [roomN_succ h]
      have := roomN_le P k
      have := logN_le t
      omega
theorem roomN_ge {P : List Tk} : ∀ {k i : Nat} {t : Tk}, P[i]? = some t → i < k → logN t ≤ roomN P k
  | 0, _, _, _, h => by omega
  | k + 1, i, t, ht, h => by
    cases hk : P[k]? with
    | none =>
      have h1 := (List.getElem?_eq_some_iff.1 ht).1
      have h2 := List.getElem?_eq_none_iff.1 hk
      have h3 : roomN P (k + 1) = roomN P k := by unfold roomN; rw [List.take_add_one, hk]; simp
      rw [h3]; exact roomN_ge (k := k) ht (by omega)
    | some u =>
      rw [roomN_succ hk]
      by_cases e : i = k
      · subst e; rw [hk] at ht; cases ht; omega
      · have := roomN_ge (k := k) ht (by omega); omega
/-- What LogRoom must give. -/
def RoomIs (P : List Tk) (X : Int) : Prop := (IsPrg P ∧ X = roomN P P.length) ∨ (¬ IsPrg P ∧ X = -1)
theorem room_ex (P : List Tk) : ∃ X, RoomIs P X := by
  rcases Classical.em (IsPrg P) with h | h
  · exact ⟨_, .inl ⟨h, rfl⟩⟩
  · exact ⟨_, .inr ⟨h, rfl⟩⟩
theorem RoomIs.yes {P : List Tk} {X : Int} (h : RoomIs P X) (hp : IsPrg P) : X = roomN P P.length := by
  rcases h with ⟨_, h⟩ | ⟨h, _⟩
  · exact h
  · exact absurd hp h
theorem RoomIs.no {P : List Tk} {X : Int} (h : RoomIs P X) (hp : ¬ IsPrg P) : X = -1 := by
  rcases h with ⟨h, _⟩ | ⟨_, h⟩
  · exact absurd h hp
  · exact h
end Go.Proofs.YtlicadaecfgklaaGreat.sets

/- Chapter 15, plain mathematics: what DirtyVars must give. -/
namespace Go.Proofs.YtlicadaecfgklaaGreat.rcv
open Go Go.ChangeShapes Go.WideShapes Go.ChangeAt Go.RowKit Go.Proofs.YtlicadaecfgklaaGreat.row Go.Proofs.YtlicadaecfgklaaGreat.stm Go.Proofs.YtlicadaecfgklaaGreat.blk Go.Proofs.YtlicadaecfgklaaGreat.expr Go.Proofs.YtlicadaecfgklaaGreat.sets Go.Proofs.YtlicadaecfgklaaGreat.val Go.Proofs.YtlicadaecfgklaaGreat.prg Go.Proofs.YtlicadaecfgklaaGreat.ctl Go.Proofs.YtlicadaecfgklaaGreat.mem
/-- Written by the current task, and not logged. -/
def DirtyP (P : List Tk) (V : List Int) (v : Nat) : Prop := MemIs P V ∧ ∃ t, P[(wT (V.getD 8 0)).toNat]? = some t ∧ MayTo t.b t.b.length v ∧ ¬ LogP t v
def DirtyIs (P : List Tk) (V U : List Int) : Prop := ∃ f, Is f (DirtyP P V) ∧ lst f 8 = U
theorem dirtyIs_ex (P : List Tk) (V : List Int) : ∃ U, DirtyIs P V U := by
  obtain ⟨f, hf⟩ := is_ex (DirtyP P V)
  exact ⟨_, f, hf, rfl⟩
theorem DirtyIs.size {P : List Tk} {V U : List Int} (h : DirtyIs P V U) : U.length ≤ 8 := by
  obtain ⟨f, _, rfl⟩ := h
  exact lst_len f 8
theorem dirty_none {P : List Tk} {V : List Int} (h : ¬ MemIs P V) {f : Nat → Bool} (hf : Is f (DirtyP P V)) : lst f 8 = [] := by
  rw [lst_congr (g := fun _ => false) (fun v hv => by rw [← Bool.not_eq_true]; exact fun e => h ((hf v hv).1 e).1)]
  exact lst_nil (fun _ => rfl) 8
theorem dirty_list {P : List Tk} {V : List Int} {t : Tk} (h : MemIs P V) (ht : P[(wT (V.getD 8 0)).toNat]? = some t) {f fm fl : Nat → Bool} (hf : Is f (DirtyP P V)) (hm : Is fm (fun v => IsBlk t.b ∧ MayTo t.b t.b.length v)) (hl : Is fl (LogP t)) :
    (lst fm 8).filter (fun x => !decide (x ∈ lst fl 8)) = lst f 8 := by
  refine lst_filter 8 fun v hv => ?_
  have hb : IsBlk t.b := (h.1.2.2 t (List.mem_of_getElem? ht)).1
  rw [Bool.eq_iff_iff, hf v hv, Bool.and_eq_true, hm v hv, Bool.not_eq_true', decide_eq_false_iff_not, lst_mem, hl v hv]
  unfold DirtyP
  constructor
  · rintro ⟨_, t', ht', h1, h2⟩
    rw [ht] at ht'; cases ht'
    exact ⟨⟨hb, h1⟩, fun h3 => h2 h3.2⟩
  · rintro ⟨⟨_, h1⟩, h2⟩
    exact ⟨h, t, ht, h1, fun h3 => h2 ⟨hv, h3⟩⟩
abbrev DvC : Prop := ∀ (a : Option Addr) (n cap : Nat) (P : List Tk) (_ : Sizes P) (_ : n ≤ cap) (w : World) (_ : TkRow w a n P) (ad : Option Addr) (nv cv : Nat) (V : List Int) (_ : (nv : Int) ≤ 1048576) (_ : nv ≤ cv) (_ : Row w ad nv V) (_ : -9223372036854775808 ≤ V.getD 8 0 ∧ V.getD 8 0 ≤ 9223372036854775807) (U : List Int) (_ : DirtyIs P V U),
    Calls Tryz.prog 8 #[.agg #[.slice a n cap], .slice ad nv cv] w (NewInts w U)
end Go.Proofs.YtlicadaecfgklaaGreat.rcv
