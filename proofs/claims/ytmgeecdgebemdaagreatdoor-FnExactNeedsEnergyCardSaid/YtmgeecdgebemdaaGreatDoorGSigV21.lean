/- Several texts in one: VSetG VLogA VTrcB VRecQ VRecA VRefA VBotA. -/
import Derived.Test.YtmgeecdgebemdaaGreatDoorGSigV20
import Derived.Test.YtmgeecdgebemdaaGreatDoorGSigV8
import Derived.Test.YtmgeecdgebemdaaGreatDoorGSigV17
import Derived.Test.YtmgeecdgebemdaaGreatDoorGSigV9
import Derived.Test.YtmgeecdgebemdaaGreatDoorGSigV18
import Derived.Test.YtmgeecdgebemdaaGreatDoorGSigV1
import Derived.Test.YtmgeecdgebemdaaGreatDoorGSigV5

/- The model's MayReadFirst and HasVar; nothing that was there is written. -/
namespace Go.Proofs.YtmgeecdgebemdaaGreatDoor.sets
open Go Go.ChangeShapes Go.WideShapes Go.ChangeAt Go.RowKit Go.Proofs.YtmgeecdgebemdaaGreatDoor.row Go.Proofs.YtmgeecdgebemdaaGreatDoor.val Go.Proofs.YtmgeecdgebemdaaGreatDoor.stm Go.Proofs.YtmgeecdgebemdaaGreatDoor.blk Go.Proofs.YtmgeecdgebemdaaGreatDoor.expr Go.Proofs.YtmgeecdgebemdaaGreatDoor.prg
/-- What a task can read before it is written. -/
def FirstP (t : Tk) (v : Nat) : Prop := (IsBlk t.b ∧ exprOk t.o t.x t.y = true) ∧ (FAt t.b t.b.length v ∨ ((v : Int) ∈ rd t.x t.y 8 ∧ ¬ WAt t.b t.b.length v))
theorem far_new {w : World} {a : Option Addr} {n f g : Nat} {B : List Sm} (h : StRow w a n B) (hf : w.heap.size ≤ f) (hg : w.heap.size ≤ g) : Far2 n a f g := fun hn b off ha => by
  obtain ⟨b', off', s, ha', hlt, _⟩ := h.2 0 hn
  rw [ha] at ha'; cases ha'
  exact ⟨by omega, by omega⟩
set_option maxHeartbeats 4000000 in
set_option maxRecDepth 100000 in
theorem spec_mayread (ab : Option Addr) (nb cb : Nat) (t : Tk) (hn : (nb : Int) ≤ 1048576) (w : World) (h : StRow w ab nb t.b) (f : Nat → Bool) (hf : Is f (FirstP t)) :
    Calls Tryz.prog 172 #[tkV ab nb cb t] w (NewInts w (lst f 8)) := by
  have hmk := mk8
  obtain ⟨B, o, x, y⟩ := t
  obtain ⟨W, hW⟩ : ∃ W, (w.alloc (.cells #[.slice ab nb cb, .int .i64 o, .int .i64 x, .int .i64 y] 96)).alloc (.cells #[.bool false, .bool false, .bool false, .bool false, .bool false, .bool false, .bool false, .bool false] 4) = W := ⟨_, rfl⟩
  have hbw : Below w.heap.size w W := by rw [← hW]; exact ((Below.refl _ w).alloc (Nat.le_refl _) _).alloc (by simp) _
  have hxt : Box w.heap.size #[.slice ab nb cb, .int .i64 o, .int .i64 x, .int .i64 y] 96 W := by rw [← hW]; exact (Box.new w _ _).alloc _
  have hs1 : Bset (w.heap.size + 1) (fun _ => false) W := by
    rw [← hW]
    have h9 := Bset.made (w.alloc (.cells #[.slice ab nb cb, .int .i64 o, .int .i64 x, .int .i64 y] 96)) 4
    rw [World.size_alloc] at h9
    exact h9
  have HW := Lib.hid hW
  have H0 := Lib.hid (And.intro hxt (And.intro hs1 (And.intro hbw (h.below hbw))))
  have HF := Lib.hid hf
  have hlen : B.length = nb := h.1
  have HL := Lib.hid h
  have c0 : ((w.alloc (.cells #[.slice ab nb cb, .int .i64 o, .int .i64 x, .int .i64 y] 96)).alloc (.cells #[.bool false, .bool false, .bool false, .bool false, .bool false, .bool false, .bool false, .bool false] 4)).cell? ⟨w.heap.size, 0, none⟩ = some (.slice ab nb cb) := by rw [hW]; exact hxt.cell 0
  clear h hf hW hxt hbw hs1
  obtain ⟨rb, hrb⟩ := blk_dec B
  have HRB := Lib.hid hrb
  cases rb
  · have HFL := Lib.hid (show lst (fun _ => false) 8 = lst f 8 from lst_congr (Is.eq (p := FirstP ⟨B, o, x, y⟩) (fun v _ => ⟨fun e => (by cases e), fun e => by have := hrb.2 e.1.1; cases this⟩) HF.out))
    clear hrb
    go_enter Tryz.func172, Tryz.ntmps172
    go_wp2_with (go_at_call 150; rw [HW.out]; (with_reducible refine (spec_blockok ab nb cb B hn _ H0.out.2.2.2 false HRB.out).mono ?_); rintro e w2 ⟨rfl, hb2⟩; refine Hid.out ?_)
    have H2 := Lib.hid (And.intro (H0.out.2.1.below hb2) (below_then H0.out.2.2.1 hb2))
    clear hb2 c0
    refine Lib.hid ?_
    go_wp2_with (go_at_call 208; (with_reducible refine (spec_list (w.heap.size + 1) 8 _ _ H2.out.1).mono ?_); rintro e w5 ⟨ad, m, c5, rfl, hown, hb5⟩)
    go_ret
    exact ⟨ad, m, c5, rfl, by rw [← HFL.out]; exact hown.mono H2.out.2.size, below_then H2.out.2 hb5⟩
  · have HBK := Lib.hid (hrb.1 rfl)
    clear hrb
    cases he : exprOk o x y
    · have HFL := Lib.hid (show lst (fun _ => false) 8 = lst f 8 from lst_congr (Is.eq (p := FirstP ⟨B, o, x, y⟩) (fun v _ => ⟨fun e => (by cases e), fun e => by have := e.1.2; rw [show exprOk o x y = false from he] at this; cases this⟩) HF.out))
      have HE := Lib.hid he
      clear he
      go_enter Tryz.func172, Tryz.ntmps172
      go_wp2_with (go_at_call 150; rw [HW.out]; (with_reducible refine (spec_blockok ab nb cb B hn _ H0.out.2.2.2 true HRB.out).mono ?_); rintro e w2 ⟨rfl, hb2⟩; refine Hid.out ?_)
      have H2 := Lib.hid (And.intro (H0.out.1.below hb2) (And.intro (H0.out.2.1.below hb2) (below_then H0.out.2.2.1 hb2)))
      have d1 : w2.cell? ⟨w.heap.size, 1, none⟩ = some (.int .i64 o) := H2.out.1.cell 1
      have d2 : w2.cell? ⟨w.heap.size, 2, none⟩ = some (.int .i64 x) := H2.out.1.cell 2
      have d3 : w2.cell? ⟨w.heap.size, 3, none⟩ = some (.int .i64 y) := H2.out.1.cell 3
      clear hb2 c0
      refine Lib.hid ?_
      go_wp2_with (go_at_call 151; (with_reducible refine (spec_exprok o x y false HE.out _).mono ?_); rintro e w3 ⟨rfl, hb3⟩; refine Hid.out ?_)
      have H3 := Lib.hid (And.intro (H2.out.2.1.below hb3) (below_then H2.out.2.2 hb3))
      clear hb3 d1 d2 d3
      refine Lib.hid ?_
      go_wp2_with (go_at_call 208; (with_reducible refine (spec_list (w.heap.size + 1) 8 _ _ H3.out.1).mono ?_); rintro e w5 ⟨ad, m, c5, rfl, hown, hb5⟩)
      go_ret
      exact ⟨ad, m, c5, rfl, by rw [← HFL.out]; exact hown.mono H3.out.2.size, below_then H3.out.2 hb5⟩
    · have HE := Lib.hid he
      clear he
      go_enter Tryz.func172, Tryz.ntmps172
      go_wp2_with (go_at_call 150; rw [HW.out]; (with_reducible refine (spec_blockok ab nb cb B hn _ H0.out.2.2.2 true HRB.out).mono ?_); rintro e w2 ⟨rfl, hb2⟩; refine Hid.out ?_)
      have H2 := Lib.hid (And.intro (H0.out.1.below hb2) (And.intro (H0.out.2.1.below hb2) (And.intro (below_then H0.out.2.2.1 hb2) (H0.out.2.2.2.below hb2))))
      have d1 : w2.cell? ⟨w.heap.size, 1, none⟩ = some (.int .i64 o) := H2.out.1.cell 1
      have d2 : w2.cell? ⟨w.heap.size, 2, none⟩ = some (.int .i64 x) := H2.out.1.cell 2
      have d3 : w2.cell? ⟨w.heap.size, 3, none⟩ = some (.int .i64 y) := H2.out.1.cell 3
      clear hb2 c0
      refine Lib.hid ?_
      go_wp2_with (go_at_call 151; (with_reducible refine (spec_exprok o x y true HE.out _).mono ?_); rintro e w3 ⟨rfl, hb3⟩; refine Hid.out ?_)
      obtain ⟨w4, hw4⟩ : ∃ w4, w3.alloc (.cells #[.bool false, .bool false, .bool false, .bool false, .bool false, .bool false, .bool false, .bool false] 4) = w4 := ⟨_, rfl⟩
      have hb4 : Below w2.heap.size w2 w4 := by rw [← hw4]; exact below_then hb3 (below_new w3 _)
      have hs4 : Bset w3.heap.size (fun _ => false) w4 := by rw [← hw4]; exact Bset.made w3 _
      have HW4 := Lib.hid hw4
      have H4 := Lib.hid (And.intro (H2.out.1.below hb4) (And.intro (H2.out.2.1.below hb4) (And.intro (below_then H2.out.2.2.1 hb4) (And.intro (H2.out.2.2.2.below hb4) hs4))))
      have hl3 : w.heap.size + 1 < w3.heap.size := Nat.lt_of_lt_of_le H2.out.2.1.lt hb3.size
      have e0 : (w3.alloc (.cells #[.bool false, .bool false, .bool false, .bool false, .bool false, .bool false, .bool false, .bool false] 4)).cell? ⟨w.heap.size, 0, none⟩ = some (.slice ab nb cb) := by rw [hw4]; exact H4.out.1.cell 0
      have HP := Lib.hid (show Calls Tryz.prog 209 #[.slice ab nb cb, .int .i64 0, .int .i64 nb, .slice (some ⟨w3.heap.size, 0, none⟩) 8 8, .slice (some ⟨w.heap.size + 1, 0, none⟩) 8 8] w4 (Passed (w.heap.size + 1) w3.heap.size B nb w4) from by
        have h9 := spec_pass ab nb cb B hn HBK.out nb 0 nb rfl (by rw [← hlen]; exact Seg.all HBK.out) (w.heap.size + 1) w3.heap.size 8 8 (fun _ => false) (fun _ => false) w4 (by omega) H4.out.2.2.2.1
          (far_new HL.out (by omega) (by omega))
          H4.out.2.1 (fun v _ => ⟨fun e => (by cases e), fun e => absurd e fAt_zero⟩) H4.out.2.2.2.2 (fun v _ => ⟨fun e => (by cases e), fun e => absurd e wAt_zero⟩)
        exact h9)
      clear hb3 hb4 hs4 hw4 d1 d2 d3
      refine Lib.hid ?_
      go_wp2_with (go_at_call 209; rw [HW4.out]; (with_reducible refine HP.out.mono ?_); rintro e w5 ⟨rfl, hT5, F5, W5, hF5, hW5⟩; refine Hid.out ?_)
      have hx5 : Box w.heap.size #[.slice ab nb cb, .int .i64 o, .int .i64 x, .int .i64 y] 96 w5 := (hT5.2 w.heap.size H4.out.1.lt (by omega) (by omega)).trans H4.out.1
      have HB5 := Lib.hid (H4.out.2.2.1.trans (hT5.lift (B := w.heap.size) H4.out.2.2.1.size (by omega) (by omega)))
      have HN5 := Lib.hid (spec_note (w.heap.size + 1) w3.heap.size 8 8 F5 W5 (by omega) o x y HE.out w5 hF5.out.1 hW5.out.1)
      have HFW := Lib.hid (And.intro hF5.out.2 hW5.out.2)
      have k1 : w5.cell? ⟨w.heap.size, 1, none⟩ = some (.int .i64 o) := hx5.cell 1
      have k2 : w5.cell? ⟨w.heap.size, 1 + 1, none⟩ = some (.int .i64 x) := hx5.cell 2
      have k3 : w5.cell? ⟨w.heap.size, 1 + 2, none⟩ = some (.int .i64 y) := hx5.cell 3
      clear hT5 hF5 hW5 hx5 e0
      refine Lib.hid ?_
      go_wp2_with (go_at_call 210; (with_reducible refine HN5.out.mono ?_); rintro e w6 ⟨rfl, hg6, F6, hF6⟩; refine Hid.out ?_)
      have HB6 := Lib.hid (HB5.out.grown hg6 HB5.out.size (fun q hq => by cases hq; omega))
      have HS6 := Lib.hid hF6.out.1
      have HFL := Lib.hid (show lst F6 8 = lst f 8 from lst_congr (Is.eq (p := FirstP ⟨B, o, x, y⟩) (fun v hv => by
        refine (hF6.out.2 v hv).trans ?_
        unfold FirstP
        rw [hlen]
        constructor
        · rintro (h | ⟨h1, h2⟩)
          · exact ⟨⟨HBK.out, HE.out⟩, .inl ((HFW.out.1 v hv).1 h)⟩
          · exact ⟨⟨HBK.out, HE.out⟩, .inr ⟨h1, (HFW.out.2.neg hv).1 h2⟩⟩
        · rintro ⟨_, h | ⟨h1, h2⟩⟩
          · exact .inl ((HFW.out.1 v hv).2 h)
          · exact .inr ⟨h1, (HFW.out.2.neg hv).2 h2⟩) HF.out))
      clear hg6 hF6 k1 k2 k3
      refine Lib.hid ?_
      go_wp2_with (go_at_call 208; (with_reducible refine (spec_list (w.heap.size + 1) 8 _ _ HS6.out).mono ?_); rintro e w7 ⟨ad, m, c5, rfl, hown, hb7⟩)
      go_ret
      exact ⟨ad, m, c5, rfl, by rw [← HFL.out]; exact hown.mono HB6.out.size, below_then HB6.out hb7⟩
end Go.Proofs.YtmgeecdgebemdaaGreatDoor.sets

/- What must be logged: plain mathematics. -/
namespace Go.Proofs.YtmgeecdgebemdaaGreatDoor.sets
open Go Go.Proofs.YtmgeecdgebemdaaGreatDoor.stm Go.Proofs.YtmgeecdgebemdaaGreatDoor.blk Go.Proofs.YtmgeecdgebemdaaGreatDoor.expr Go.Proofs.YtmgeecdgebemdaaGreatDoor.prg
/-- The variable must be logged. -/
def LogP (t : Tk) (v : Nat) : Prop := (IsBlk t.b ∧ exprOk t.o t.x t.y = true) ∧ MayTo t.b t.b.length v ∧ (FirstP t v ∨ ¬ WAt t.b t.b.length v)
theorem is_ex (p : Nat → Prop) : ∃ f, Is f p := by
  classical exact ⟨fun v => decide (p v), fun v _ => decide_eq_true_iff⟩
theorem lst_filter {f g : Nat → Bool} {p : Int → Bool} : ∀ k, (∀ v : Nat, v < k → g v = (f v && p v)) → (lst f k).filter p = lst g k
  | 0, _ => rfl
  | k + 1, h => by
    have ih := lst_filter (f := f) (g := g) (p := p) k (fun v hv => h v (by omega))
    have hk := h k (by omega)
    cases hf : f k
    · rw [hf, Bool.false_and] at hk
      rw [lst_no hf, lst_no hk, ih]
    · rw [hf, Bool.true_and] at hk
      rw [lst_yes hf, List.filter_append, ih]
      cases hp : p k
      · rw [hp] at hk
        rw [lst_no hk]; simp [hp]
      · rw [hp] at hk
        rw [lst_yes hk]; simp [hp]
/-- The model's choice. -/
theorem log_model {t : Tk} (ht : IsBlk t.b ∧ exprOk t.o t.x t.y = true) {fm fu ff f : Nat → Bool} (hm : Is fm (fun v => IsBlk t.b ∧ MayTo t.b t.b.length v)) (hu : Is fu (fun v => IsBlk t.b ∧ WAt t.b t.b.length v)) (hf : Is ff (FirstP t)) (h : Is f (LogP t)) :
    (lst fm 8).filter (fun x => decide (x ∈ lst ff 8) || !decide (x ∈ lst fu 8)) = lst f 8 := by
  refine lst_filter 8 (fun v hv => ?_)
  have h1 := hm v hv
  have h2 := hu v hv
  have h3 := hf v hv
  have h4 := h v hv
  have e1 : decide ((v : Int) ∈ lst ff 8) = ff v := by rw [Bool.eq_iff_iff, decide_eq_true_eq, lst_mem]; exact ⟨fun h => h.2, fun h => ⟨hv, h⟩⟩
  have e2 : decide ((v : Int) ∈ lst fu 8) = fu v := by rw [Bool.eq_iff_iff, decide_eq_true_eq, lst_mem]; exact ⟨fun h => h.2, fun h => ⟨hv, h⟩⟩
  rw [e1, e2, Bool.eq_iff_iff, h4]
  simp only [Bool.and_eq_true, Bool.or_eq_true, Bool.not_eq_true', h1, h3]
  have h2n : fu v = false ↔ ¬ WAt t.b t.b.length v := by
    rw [← Bool.not_eq_true, h2]
    exact ⟨fun h e => h ⟨ht.1, e⟩, fun h e => h e.2⟩
  rw [h2n]
  unfold LogP
  exact ⟨fun h => ⟨⟨ht.1, h.2.1⟩, h.2.2⟩, fun h => ⟨ht, h.1.2, h.2⟩⟩
/-- The program's choice: twice without. -/
theorem log_prog {t : Tk} (ht : IsBlk t.b ∧ exprOk t.o t.x t.y = true) {fm fu ff f : Nat → Bool} (hm : Is fm (fun v => IsBlk t.b ∧ MayTo t.b t.b.length v)) (hu : Is fu (fun v => IsBlk t.b ∧ WAt t.b t.b.length v)) (hf : Is ff (FirstP t)) (h : Is f (LogP t)) :
    (lst fm 8).filter (fun x => !decide (x ∈ (lst fu 8).filter (fun y => !decide (y ∈ lst ff 8)))) = lst f 8 := by
  rw [← log_model ht hm hu hf h]
  congr 1
  funext x
  simp only [List.mem_filter]
  rw [Bool.eq_iff_iff]
  simp
  by_cases h1 : x ∈ lst fu 8 <;> by_cases h2 : x ∈ lst ff 8 <;> simp [h1, h2]
theorem log_none {t : Tk} (ht : ¬ (IsBlk t.b ∧ exprOk t.o t.x t.y = true)) {f : Nat → Bool} (h : Is f (LogP t)) : lst f 8 = [] := by
  rw [lst_congr (g := fun _ => false) (fun v hv => by
    cases h9 : f v
    · rfl
    · exact absurd ((h v hv).1 h9).1 ht)]
  exact lst_nil (fun _ => rfl) 8
noncomputable def logF (t : Tk) : Nat → Bool := fun v => @decide (LogP t v) (Classical.propDecidable _)
theorem logF_is (t : Tk) : Is (logF t) (LogP t) := fun v _ => by unfold logF; exact @decide_eq_true_iff _ (Classical.propDecidable _)
end Go.Proofs.YtmgeecdgebemdaaGreatDoor.sets

/- Chapter 14, plain mathematics: what TraceOf must give; all writes of a trace together do what the task means. -/
namespace Go.Proofs.YtmgeecdgebemdaaGreatDoor.trc
open Go Go.Proofs.YtmgeecdgebemdaaGreatDoor.stm Go.Proofs.YtmgeecdgebemdaaGreatDoor.blk Go.Proofs.YtmgeecdgebemdaaGreatDoor.expr Go.Proofs.YtmgeecdgebemdaaGreatDoor.sets Go.Proofs.YtmgeecdgebemdaaGreatDoor.val Go.Proofs.YtmgeecdgebemdaaGreatDoor.prg Go.Proofs.YtmgeecdgebemdaaGreatDoor.exe Go.Proofs.YtmgeecdgebemdaaGreatDoor.wrt Go.Proofs.YtmgeecdgebemdaaGreatDoor.ctl Go.Proofs.YtmgeecdgebemdaaGreatDoor.mem
/-- The arguments of TraceOf are valid. -/
def TrOk (P : List Tk) (Mem R : List Int) (z : Int) : Prop := MemIs P Mem ∧ wC (Mem.getD 8 0) = 0 ∧ (0 ≤ z ∧ z ≤ 1000000) ∧ allV R = true
/-- The execution of the current task with its steps. -/
noncomputable def trRun (Mem R : List Int) (z : Int) (t : Tk) (T : Fst) : Tx := texec (liveSrc R z) (lst (logF t) 8) (wT (Mem.getD 8 0)) (wN (Mem.getD 8 0)) T ⟨⟨Mem.take 8, [], []⟩, [], []⟩
/-- The last step. -/
def endM (P : List Tk) (t : Tk) (tl : Int) (y : Tx) : List Mic := [⟨1, -1, 0⟩, wrM 8 (packV (nx (evalV y.x.V t.o t.x t.y) P.length) 0 (min 24 (tl + y.x.S.length)))]
/-- What TraceOf must give. -/
def TraceIs (P : List Tk) (Mem R : List Int) (z : Int) (r : Bool) (M : List Mic) (U : List Int) : Prop :=
  (r = false ∧ M = [] ∧ U = [] ∧ ¬ TrOk P Mem R z) ∨
    (r = true ∧ TrOk P Mem R z ∧ ∃ t T, TaskAt P (Mem.take 8) R (wT (Mem.getD 8 0)) t T ∧ M = (trRun Mem R z t T).M ++ endM P t (wN (Mem.getD 8 0)) (trRun Mem R z t T) ∧ U = (trRun Mem R z t T).x.U)
theorem mem_vars {P : List Tk} {Mem : List Int} (h : MemIs P Mem) : varsOk (Mem.take 8) = true := (varsOk_iff _).2 ⟨by rw [List.length_take, h.2.1]; rfl, fun x hx => List.all_eq_true.1 h.2.2.2.2.1 x hx⟩
theorem mem_ctl {P : List Tk} {Mem : List Int} (h : MemIs P Mem) : 0 ≤ wT (Mem.getD 8 0) ∧ wT (Mem.getD 8 0) < P.length ∧ 0 ≤ wC (Mem.getD 8 0) ∧ wC (Mem.getD 8 0) ≤ 8 ∧ 0 ≤ wN (Mem.getD 8 0) ∧ wN (Mem.getD 8 0) ≤ 24 := by
  have h1 := (ctlOk_iff _ _ _).1 h.2.2.1
  have h2 := h.2.2.2.1
  omega
theorem trOk_task {P : List Tk} {Mem R : List Int} {z : Int} (h : TrOk P Mem R z) : ∃ t T, TaskAt P (Mem.take 8) R (wT (Mem.getD 8 0)) t T := by
  have hc := mem_ctl h.1
  obtain ⟨j, hj⟩ : ∃ j : Nat, wT (Mem.getD 8 0) = j := ⟨(wT (Mem.getD 8 0)).toNat, by omega⟩
  rw [hj]
  obtain ⟨t, T, _, hT⟩ := taskAt_ex (j := j) h.1.1 (mem_vars h.1) h.2.2.2 (by omega)
  exact ⟨t, T, hT⟩
theorem trOk_dec (P : List Tk) (Mem R : List Int) (z : Int) : ∃ r : Bool, r = true ↔ TrOk P Mem R z := by
  rcases Classical.em (TrOk P Mem R z) with h | h
  · exact ⟨true, by simp [h]⟩
  · exact ⟨false, by simp [h]⟩
theorem traceIs_ex (P : List Tk) (Mem R : List Int) (z : Int) : ∃ r M U, TraceIs P Mem R z r M U := by
  rcases Classical.em (TrOk P Mem R z) with h | h
  · obtain ⟨t, T, hT⟩ := trOk_task h
    exact ⟨true, _, _, .inr ⟨rfl, h, t, T, hT, rfl, rfl⟩⟩
  · exact ⟨false, [], [], .inl ⟨rfl, rfl, rfl, h⟩⟩
theorem task_par {P : List Tk} {V Y : List Int} {i : Int} {t : Tk} {T : Fst} (h : TaskAt P V Y i t T) : IsBlk t.b ∧ Par t.b 0 t.b.length T := by
  have hb := h.blk.1
  obtain ⟨_, _, _, j, _, _, hp⟩ := h
  exact ⟨hb, hp⟩
theorem trRun_x (Mem R : List Int) (z : Int) (t : Tk) (T : Fst) : (trRun Mem R z t T).x = exec (liveSrc R z) T ⟨Mem.take 8, [], []⟩ := texec_x T _
theorem trRun_len {P : List Tk} {V Y : List Int} {i : Int} {t : Tk} {T : Fst} (h : TaskAt P V Y i t T) (Mem R : List Int) (z : Int) : (trRun Mem R z t T).M.length ≤ 15000 := by
  obtain ⟨hb, hp⟩ := task_par h
  have h1 : ((trRun Mem R z t T).M.length : Int) ≤ ((0 : Nat) : Int) + cntS T := texec_len (liveSrc R z) (lst (logF t) 8) (wT (Mem.getD 8 0)) (wN (Mem.getD 8 0)) T ⟨⟨Mem.take 8, [], []⟩, [], []⟩
  have h2 := cntS_small hb hp
  omega
theorem TraceIs.size {P : List Tk} {Mem R : List Int} {z : Int} {r : Bool} {M : List Mic} {U : List Int} (h : TraceIs P Mem R z r M U) : M.length ≤ 15002 ∧ U.length ≤ 3000 := by
  rcases h with ⟨_, rfl, rfl, _⟩ | ⟨_, _, t, T, hT, rfl, rfl⟩
  · simp
  · have h1 := trRun_len hT Mem R z
    have h2 := hT.small (liveSrc R z)
    rw [trRun_x]
    refine ⟨by simp [endM]; omega, by omega⟩
/-- The steps cost something, and not much. -/
theorem TraceIs.cost {P : List Tk} {Mem R : List Int} {z : Int} {M : List Mic} {U : List Int} (h : TraceIs P Mem R z true M U) : CostOk M ∧ M ≠ [] := by
  rcases h with ⟨e, _⟩ | ⟨_, _, t, T, hT, rfl, _⟩
  · cases e
  · obtain ⟨hb, hp⟩ := task_par hT
    refine ⟨(texec_cost T (par_allS hb hp) _ nil_cost).app ?_, by simp [endM]⟩
    intro m hm
    rcases List.mem_cons.1 hm with rfl | hm
    · decide
    · rw [List.mem_singleton.1 hm]; simp [wrM]
end Go.Proofs.YtmgeecdgebemdaaGreatDoor.trc

/- Chapter 15, plain mathematics: what RecoveryWrites must give. -/
namespace Go.Proofs.YtmgeecdgebemdaaGreatDoor.rcv
open Go Go.Proofs.YtmgeecdgebemdaaGreatDoor.stm Go.Proofs.YtmgeecdgebemdaaGreatDoor.val Go.Proofs.YtmgeecdgebemdaaGreatDoor.wrt Go.Proofs.YtmgeecdgebemdaaGreatDoor.ctl
/-! The recovery. -/
def recEnt (W : List Int) (c : Nat) : List Wt := (List.range c).reverse.map fun i => ⟨W.getD (9 + 2 * i) 0, W.getD (10 + 2 * i) 0⟩
def RecOk (W : List Int) : Prop := W.length = 49 ∧ wOk (W.getD 8 0) = true ∧ 0 < wC (W.getD 8 0) ∧ ∀ i, i < (wC (W.getD 8 0)).toNat → varOk (W.getD (9 + 2 * i) 0) = true
/-- What RecoveryWrites must give. -/
def RecIs (W : List Int) (Q : List Wt) : Prop :=
  (RecOk W ∧ Q = recEnt W (wC (W.getD 8 0)).toNat ++ [⟨8, packV (wT (W.getD 8 0)) 0 (wN (W.getD 8 0))⟩]) ∨ (¬ RecOk W ∧ Q = [])
theorem recIs_ex (W : List Int) : ∃ Q, RecIs W Q := by
  rcases Classical.em (RecOk W) with h | h
  · exact ⟨_, .inl ⟨h, rfl⟩⟩
  · exact ⟨_, .inr ⟨h, rfl⟩⟩
theorem RecIs.unique {W : List Int} {Q Q' : List Wt} (h : RecIs W Q) (h' : RecIs W Q') : Q = Q' := by
  rcases h with ⟨h1, rfl⟩ | ⟨h1, rfl⟩ <;> rcases h' with ⟨h2, rfl⟩ | ⟨h2, rfl⟩
  · rfl
  · exact absurd h1 h2
  · exact absurd h2 h1
  · rfl
/-- The entries from the last one on, the first 'j' of them. -/
def recTop (W : List Int) (c j : Nat) : List Wt := (List.range j).map fun m => ⟨W.getD (9 + 2 * (c - 1 - m)) 0, W.getD (10 + 2 * (c - 1 - m)) 0⟩
theorem recTop_next (W : List Int) {c p : Nat} (h : p < c) : recTop W c (c - p) = recTop W c (c - (p + 1)) ++ [⟨W.getD (9 + 2 * p) 0, W.getD (10 + 2 * p) 0⟩] := by
  unfold recTop
  rw [show c - p = c - (p + 1) + 1 by omega, List.range_succ, List.map_append]
  rw [show c - (p + 1) = c - 1 - p by omega]
  simp [show c - 1 - (c - 1 - p) = p by omega]
theorem recTop_all (W : List Int) (c : Nat) : recTop W c c = recEnt W c := by
  refine List.ext_getElem (by simp [recTop, recEnt]) fun i h1 h2 => ?_
  simp [recTop, recEnt]
theorem RecIs.none {W : List Int} {Q : List Wt} (h : RecIs W Q) (hn : ¬ RecOk W) : Q = [] := by
  rcases h with ⟨h1, _⟩ | ⟨_, h1⟩
  · exact absurd h1 hn
  · exact h1
theorem RecIs.some {W : List Int} {Q : List Wt} (h : RecIs W Q) (hy : RecOk W) : Q = recEnt W (wC (W.getD 8 0)).toNat ++ [⟨8, packV (wT (W.getD 8 0)) 0 (wN (W.getD 8 0))⟩] := by
  rcases h with ⟨_, h1⟩ | ⟨h1, _⟩
  · exact h1
  · exact absurd hy h1
end Go.Proofs.YtmgeecdgebemdaaGreatDoor.rcv

/- Chapter 15, plain mathematics: the recovery; an execution that is interrupted anywhere is undone. -/
namespace Go.Proofs.YtmgeecdgebemdaaGreatDoor.rcv
open Go Go.Proofs.YtmgeecdgebemdaaGreatDoor.stm Go.Proofs.YtmgeecdgebemdaaGreatDoor.blk Go.Proofs.YtmgeecdgebemdaaGreatDoor.expr Go.Proofs.YtmgeecdgebemdaaGreatDoor.sets Go.Proofs.YtmgeecdgebemdaaGreatDoor.val Go.Proofs.YtmgeecdgebemdaaGreatDoor.prg Go.Proofs.YtmgeecdgebemdaaGreatDoor.exe Go.Proofs.YtmgeecdgebemdaaGreatDoor.wrt Go.Proofs.YtmgeecdgebemdaaGreatDoor.ctl Go.Proofs.YtmgeecdgebemdaaGreatDoor.mem Go.Proofs.YtmgeecdgebemdaaGreatDoor.trc
section
variable (D Mem : List Int) (May : Int → Prop) (tk : Int) (tl : Nat)
end
section
variable {D Mem : List Int} {May : Int → Prop} {tk : Int} {tl : Nat}
end
section
variable {D Mem W : List Int} {May : Int → Prop} {tk : Int} {tl : Nat} {P : List Tk}
end
end Go.Proofs.YtmgeecdgebemdaaGreatDoor.rcv

/- Reference runs: what RefRun and RefTasks must give; what the laws ask of it. Plain mathematics. -/
namespace Go.Proofs.YtmgeecdgebemdaaGreatDoor.ref
open Go Go.Proofs.YtmgeecdgebemdaaGreatDoor.stm Go.Proofs.YtmgeecdgebemdaaGreatDoor.blk Go.Proofs.YtmgeecdgebemdaaGreatDoor.expr Go.Proofs.YtmgeecdgebemdaaGreatDoor.sets Go.Proofs.YtmgeecdgebemdaaGreatDoor.val Go.Proofs.YtmgeecdgebemdaaGreatDoor.prg Go.Proofs.YtmgeecdgebemdaaGreatDoor.exe
/-- The outbox has room for 24 values. -/
def box (S M : List Int) : List Int := (S ++ M).take 24
end Go.Proofs.YtmgeecdgebemdaaGreatDoor.ref

/- Chapter 16, plain mathematics: what a boot must give; what the law of the energy that is needed asks of it. -/
namespace Go.Proofs.YtmgeecdgebemdaaGreatDoor.bot
open Go Go.Proofs.YtmgeecdgebemdaaGreatDoor.stm Go.Proofs.YtmgeecdgebemdaaGreatDoor.blk Go.Proofs.YtmgeecdgebemdaaGreatDoor.expr Go.Proofs.YtmgeecdgebemdaaGreatDoor.sets Go.Proofs.YtmgeecdgebemdaaGreatDoor.val Go.Proofs.YtmgeecdgebemdaaGreatDoor.prg Go.Proofs.YtmgeecdgebemdaaGreatDoor.exe Go.Proofs.YtmgeecdgebemdaaGreatDoor.wrt Go.Proofs.YtmgeecdgebemdaaGreatDoor.ctl Go.Proofs.YtmgeecdgebemdaaGreatDoor.mem Go.Proofs.YtmgeecdgebemdaaGreatDoor.trc Go.Proofs.YtmgeecdgebemdaaGreatDoor.rcv Go.Proofs.YtmgeecdgebemdaaGreatDoor.ref
/-! Memories behind a whole trace, and behind a whole recovery. -/
theorem put_vals : ∀ (K : List Wt) (W : List Int), W.length = 49 → (∀ j : Nat, j < 8 → ∃ q, W[j]? = some q ∧ isVal q = true) → (∀ x ∈ K, ∃ v : Nat, v < 8 ∧ x.p = v ∧ isVal x.v = true) →
    (putAll W K).length = 49 ∧ (∀ j : Nat, 8 ≤ j → (putAll W K)[j]? = W[j]?) ∧ ∀ j : Nat, j < 8 → ∃ q, (putAll W K)[j]? = some q ∧ isVal q = true
  | [], W, h1, h2, _ => ⟨h1, fun _ _ => rfl, h2⟩
  | x :: K, W, h1, h2, h3 => by
    obtain ⟨v, hv, hx, hq⟩ := h3 x (by simp)
    have hl : (put1 W x).length = 49 := by rw [put1_len, h1]
    obtain ⟨i1, i2, i3⟩ := put_vals K (put1 W x) hl (fun j hj => by
      by_cases hjv : j = v
      · subst hjv; exact ⟨x.v, by rw [put1_in hx (by omega), List.getElem?_set_self (by omega)], hq⟩
      · rw [put1_other (by rw [hx]; omega)]; exact h2 j hj) (fun y hy => h3 y (List.mem_cons_of_mem _ hy))
    rw [show putAll W (x :: K) = putAll (put1 W x) K from rfl]
    exact ⟨i1, fun j hj => by rw [i2 j hj, put1_other (by rw [hx]; omega)], i3⟩
theorem mem_at {P : List Tk} {W : List Int} (h : MemIs P W) : ∀ j : Nat, j < 8 → ∃ q, W[j]? = some q ∧ isVal q = true := fun v hv => by
  have hl : v < W.length := by have := h.2.1; omega
  exact ⟨W[v], List.getElem?_eq_getElem hl, List.all_eq_true.1 h.2.2.2.2.1 _ (List.mem_iff_getElem?.2 ⟨v, by rw [List.getElem?_take_of_lt hv]; exact List.getElem?_eq_getElem hl⟩)⟩
theorem rec_mem {P : List Tk} {W : List Int} {Q : List Wt} (h : MemIs P W) (hQ : RecIs W Q) : MemIs P (putAll W Q) ∧ wC ((putAll W Q).getD 8 0) = 0 := by
  have hct := (ctlOk_iff _ _ _).1 h.2.2.1
  rcases hQ with ⟨hr, rfl⟩ | ⟨hn, rfl⟩
  · obtain ⟨c, hcn⟩ : ∃ c : Nat, (wC (W.getD 8 0)).toNat = c := ⟨_, rfl⟩
    have hlog := h.2.2.2.2.2.2
    rw [hcn] at hlog ⊢
    have hco : ctlOk (wT (W.getD 8 0)) 0 (wN (W.getD 8 0)) = true := (ctlOk_iff _ _ _).2 (by omega)
    have hpp := parts_pack hco
    obtain ⟨p1, p2, p3⟩ := put_vals (recEnt W c) W h.2.1 (mem_at h) (fun x hx => by
      obtain ⟨i, hi, rfl⟩ := List.mem_map.1 hx
      rw [List.mem_reverse, List.mem_range] at hi
      obtain ⟨l1, l2⟩ := hlog i hi
      have l3 : 0 ≤ W.getD (9 + 2 * i) 0 ∧ W.getD (9 + 2 * i) 0 ≤ 7 := by simpa [varOk] using l1
      exact ⟨(W.getD (9 + 2 * i) 0).toNat, by omega, by show W.getD (9 + 2 * i) 0 = _; omega, l2⟩)
    rw [putAll_app, show ∀ (A : List Int) (x : Wt), putAll A [x] = put1 A x from fun _ _ => rfl]
    obtain ⟨X, hX⟩ : ∃ X, put1 (putAll W (recEnt W c)) ⟨8, packV (wT (W.getD 8 0)) 0 (wN (W.getD 8 0))⟩ = X := ⟨_, rfl⟩
    have hXl : X.length = 49 := by rw [← hX, put1_len, p1]
    have o : ∀ j : Nat, j ≠ 8 → X[j]? = (putAll W (recEnt W c))[j]? := fun j hj => by rw [← hX]; exact put1_other (by show (8 : Int) ≠ (j : Int); omega)
    have h8 : X.getD 8 0 = packV (wT (W.getD 8 0)) 0 (wN (W.getD 8 0)) := by
      rw [← hX, List.getD_eq_getElem?_getD, put1_in (k := 8) rfl (by omega), List.getElem?_set_self (by omega)]; rfl
    rw [hX]
    refine ⟨⟨h.1, hXl, by rw [h8]; unfold wOk; rw [hpp.1, hpp.2.1, hpp.2.2]; exact hco, by rw [h8, hpp.1]; exact h.2.2.2.1, ?_, ?_, ?_⟩, by rw [h8, hpp.2.1]⟩
    · rw [List.all_eq_true]
      intro x hx
      obtain ⟨v, hv⟩ := List.mem_iff_getElem?.1 hx
      have hv8 : v < 8 := by have := (List.getElem?_eq_some_iff.1 hv).1; rw [List.length_take] at this; omega
      rw [List.getElem?_take_of_lt hv8, o v (by omega)] at hv
      obtain ⟨q, q1, q2⟩ := p3 v hv8
      rw [hv] at q1; cases q1; exact q2
    · rw [h8, hpp.2.2, show X.drop 25 = W.drop 25 from List.ext_getElem? fun j => by rw [List.getElem?_drop, List.getElem?_drop, o _ (by omega), p2 _ (by omega)]]
      exact h.2.2.2.2.2.1
    · rw [h8, hpp.2.1]; exact LogV.zero _
  · rw [putAll_nil]
    refine ⟨h, ?_⟩
    rcases (show wC (W.getD 8 0) = 0 ∨ 0 < wC (W.getD 8 0) by omega) with h0 | h0
    · exact h0
    · exact absurd ⟨h.2.1, h.2.2.1, h0, fun i hi => (h.2.2.2.2.2.2 i hi).1⟩ hn
/-! The trace is the only one. -/
theorem TraceIs.unique {P : List Tk} {Mem R : List Int} {z : Int} {r r' : Bool} {M M' : List Mic} {U U' : List Int} (h : TraceIs P Mem R z r M U) (h' : TraceIs P Mem R z r' M' U') : r = r' ∧ M = M' ∧ U = U' := by
  rcases h with ⟨rfl, rfl, rfl, h1⟩ | ⟨rfl, h1, t, T, hT, rfl, rfl⟩ <;> rcases h' with ⟨rfl, rfl, rfl, h2⟩ | ⟨rfl, h2, t', T', hT', rfl, rfl⟩
  · exact ⟨rfl, rfl, rfl⟩
  · exact absurd h2 h1
  · exact absurd h1 h2
  · obtain ⟨rfl, rfl⟩ := hT.unique hT'
    exact ⟨rfl, rfl, rfl⟩
/-! Boots. -/
theorem csts_len (M : List Mic) : (csts M).length = M.length := by unfold csts; rw [List.length_map]
/-- The arguments of BootOnce but the energy are valid. -/
def BotOk (P : List Tk) (Mem R : List Int) (z : Int) : Prop := MemIs P Mem ∧ allV R = true ∧ (0 ≤ z ∧ z ≤ 500000)
theorem botOk_dec (P : List Tk) (Mem R : List Int) (z : Int) : ∃ r : Bool, r = true ↔ BotOk P Mem R z := by
  rcases Classical.em (BotOk P Mem R z) with h | h
  · exact ⟨true, by simp [h]⟩
  · exact ⟨false, by simp [h]⟩
/-- What NeedsEnergy must give. -/
def NeedIs (P : List Tk) (Mem R : List Int) (z : Int) (x : Int) : Prop :=
  (¬ BotOk P Mem R z ∧ x = -1) ∨ (BotOk P Mem R z ∧ ∃ Q M U, RecIs Mem Q ∧ TraceIs P (putAll Mem Q) R z true M U ∧ x = 3 * (Q.length : Int) + costW (csts M))
theorem needIs_ex (P : List Tk) (Mem R : List Int) (z : Int) : ∃ x, NeedIs P Mem R z x := by
  rcases Classical.em (BotOk P Mem R z) with h | h
  · obtain ⟨Q, hQ⟩ := recIs_ex Mem
    obtain ⟨m1, m2⟩ := rec_mem h.1 hQ
    obtain ⟨r, M, U, hT⟩ := traceIs_ex P (putAll Mem Q) R z
    rcases hT with ⟨_, _, _, h9⟩ | hT
    · exact absurd ⟨m1, m2, ⟨h.2.2.1, by have := h.2.2.2; omega⟩, h.2.1⟩ h9
    · exact ⟨_, .inr ⟨h, Q, M, U, hQ, .inr ⟨rfl, hT.2⟩, rfl⟩⟩
  · exact ⟨-1, .inl ⟨h, rfl⟩⟩
/-! The words that a trace writes. -/
end Go.Proofs.YtmgeecdgebemdaaGreatDoor.bot
