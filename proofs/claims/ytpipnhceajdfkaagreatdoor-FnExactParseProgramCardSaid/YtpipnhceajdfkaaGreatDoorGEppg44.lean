/- Several texts in one: PrgH. -/
import Derived.Test.YtpipnhceajdfkaaGreatDoorGEppg27
import Derived.Test.YtpipnhceajdfkaaGreatDoorGEppg43
import Derived.Deep.RegionHeld3
import Derived.Deep.RegionLaw

/- Chapter 6's model: the expression of a task's line; nothing that was there is written. -/
namespace Go.Proofs.YtpipnhceajdfkaaGreatDoor.prg
open Go Go.ChangeShapes Go.WideShapes Go.ChangeAt Go.RowKit Go.Proofs.YtpipnhceajdfkaaGreatDoor.row Go.Proofs.YtpipnhceajdfkaaGreatDoor.val Go.Proofs.YtpipnhceajdfkaaGreatDoor.expr Go.Proofs.YtpipnhceajdfkaaGreatDoor.stm Go.Proofs.YtpipnhceajdfkaaGreatDoor.blk Go.Proofs.YtpipnhceajdfkaaGreatDoor.tex Go.Proofs.YtpipnhceajdfkaaGreatDoor.spl

theorem head_bytes (o x y : Int) : ∀ c ∈ taskW ++ exT o x y, 32 ≤ c.toNat ∧ c.toNat ≤ 126 := by
  intro c hc
  rw [head_join] at hc
  refine join_bytes (headF_good o x y) c ?_
  rw [joinF_join (by simp [headF])]
  exact List.mem_append_left _ hc
theorem head_ok {l : List UInt8} {o x y : Int} (h : HeadIs l o x y) : okB l = true ∧ fieldsR l = headF o x y := by
  obtain ⟨he, rfl⟩ := h
  obtain ⟨h1, h2, h3⟩ := expr_small he
  have hs := exT_short h1 h2 h3
  have hk : okB (taskW ++ exT o x y) = true := good (by simp; omega) (head_bytes o x y) (by rw [head_fields]; simp [headF])
  exact ⟨hk, by rw [fieldsR_good hk, head_fields]⟩
/-- What the fields of a task's line give. -/
theorem head_of {l f1 f2 f3 : List UInt8} (hF : fieldsR l = [taskW, f1, f2, f3]) {o x y : Int} (h : HeadIs l o x y) : o = numV f1 ∧ x = numV f2 ∧ y = numV f3 := by
  have h1 := (head_ok h).2
  rw [hF] at h1
  unfold headF at h1
  simp at h1
  obtain ⟨h1, h2, h3⟩ := h1
  obtain ⟨s1, s2, s3⟩ := expr_small h.1
  exact ⟨by rw [h1, numV_itoa s1], by rw [h2, numV_itoa s2], by rw [h3, numV_itoa s3]⟩
theorem no_head_len {l : List UInt8} (h : (fieldsR l).length ≠ 4) : ∀ o x y, ¬ HeadIs l o x y := fun o x y hh => h (by rw [(head_ok hh).2]; rfl)
theorem no_head_word {l f0 : List UInt8} {r : List (List UInt8)} (hF : fieldsR l = f0 :: r) (h : f0 ≠ taskW) : ∀ o x y, ¬ HeadIs l o x y := fun o x y hh => by
  have := (head_ok hh).2
  rw [hF] at this
  exact h (List.cons.inj this).1
theorem no_head_bad {l : List UInt8} (h : okB l = false) : ∀ o x y, ¬ HeadIs l o x y := fun o x y hh => by rw [(head_ok hh).1] at h; cases h
/-- The line's expression and whether it is a task's line. -/
def HeadOut (l : List UInt8) (w : World) (e : Ending) (w' : World) : Prop :=
  ∃ (o x y : Int) (r : Bool), e = .returned (.tuple #[ev o x y, .bool r]) ∧ Hid ((r = true ∧ HeadIs l o x y) ∨ (r = false ∧ ∀ o x y, ¬ HeadIs l o x y)) ∧ Below w.heap.size w w'
theorem cells3 {w : World} {g : Nat} {t : TypeId} {x0 x1 x2 : Value} (h : Box g #[x0, x1, x2] t w) : w.cell? ⟨g, 0, none⟩ = some x0 ∧ w.cell? ⟨g, 1, none⟩ = some x1 ∧ w.cell? ⟨g, 2, none⟩ = some x2 := ⟨h.cell 0, h.cell 1, h.cell 2⟩
theorem cells3d {w : World} {g : Nat} {t : TypeId} {x0 x1 x2 : Value} (h : Box g #[x0, x1, x2] t w) : w.drew.cell? ⟨g, 0, none⟩ = some x0 ∧ w.drew.cell? ⟨g, 1, none⟩ = some x1 ∧ w.drew.cell? ⟨g, 2, none⟩ = some x2 := cells3 h
theorem box_three {w : World} {g z : Nat} {t : TypeId} {x0 x1 x2 a b c : Value} (h : Box g #[x0, x1, x2] t w) (hne : g ≠ z) : Box g #[x0, x1, x2] t (((w.setCell ⟨z, 0, none⟩ a).setCell ⟨z, 1, none⟩ b).setCell ⟨z, 2, none⟩ c) := ((h.set_other (p := ⟨z, 0, none⟩) hne a).set_other (p := ⟨z, 1, none⟩) hne b).set_other (p := ⟨z, 2, none⟩) hne c
theorem keep3 {w : World} {g z : Nat} {t : TypeId} {x0 x1 x2 a b c : Value} (h : Box g #[x0, x1, x2] t w) (hne : g ≠ z) : (((w.setCell ⟨z, 0, none⟩ a).setCell ⟨z, 1, none⟩ b).setCell ⟨z, 2, none⟩ c).cell? ⟨g, 0, none⟩ = some x0 ∧ (((w.setCell ⟨z, 0, none⟩ a).setCell ⟨z, 1, none⟩ b).setCell ⟨z, 2, none⟩ c).cell? ⟨g, 1, none⟩ = some x1 ∧ (((w.setCell ⟨z, 0, none⟩ a).setCell ⟨z, 1, none⟩ b).setCell ⟨z, 2, none⟩ c).cell? ⟨g, 2, none⟩ = some x2 := cells3 (box_three h hne)
theorem keep3d {w : World} {g z : Nat} {t : TypeId} {x0 x1 x2 a b c : Value} (h : Box g #[x0, x1, x2] t w) (hne : g ≠ z) : (((w.setCell ⟨z, 0, none⟩ a).setCell ⟨z, 1, none⟩ b).setCell ⟨z, 2, none⟩ c).drew.cell? ⟨g, 0, none⟩ = some x0 ∧ (((w.setCell ⟨z, 0, none⟩ a).setCell ⟨z, 1, none⟩ b).setCell ⟨z, 2, none⟩ c).drew.cell? ⟨g, 1, none⟩ = some x1 ∧ (((w.setCell ⟨z, 0, none⟩ a).setCell ⟨z, 1, none⟩ b).setCell ⟨z, 2, none⟩ c).drew.cell? ⟨g, 2, none⟩ = some x2 := cells3d (box_three h hne)
theorem head_eq (s : ByteArray) (l : List UInt8) : (((⟨#[116, 97, 115, 107]⟩ : ByteArray) ++ ⟨l.toArray⟩).toList == s.toList) = true ↔ s.data.toList = taskW ++ l := by
  rw [ByteArray.toList_eq, ByteArray.toList_eq, beq_iff_eq]
  simp [taskW]
  exact eq_comm
theorem set3_box {w : World} {z : Nat} {t : TypeId} {x0 x1 x2 a b c : Value} (h : Box z #[x0, x1, x2] t w) : Box z #[a, b, c] t (((w.setCell ⟨z, 0, none⟩ a).setCell ⟨z, 1, none⟩ b).setCell ⟨z, 2, none⟩ c) := ((h.set 0 a).set 1 b).set 2 c
theorem set3_below {B : Nat} {W w : World} {z : Nat} {a b c : Value} (h : Below B W w) (hg : B ≤ z) : Below B W (((w.setCell ⟨z, 0, none⟩ a).setCell ⟨z, 1, none⟩ b).setCell ⟨z, 2, none⟩ c) := ((h.setCell hg a).setCell hg b).setCell hg c
abbrev zeroE : Array Value := #[.int .i64 0, .int .i64 0, .int .i64 0]
set_option maxHeartbeats 4000000 in
set_option maxRecDepth 100000 in
set_option linter.unusedSimpArgs false in
theorem spec_head (s : ByteArray) (w : World) : Calls Tryz.prog 22 #[.string s] w (HeadOut s.data.toList w) := by
  obtain ⟨W, hW⟩ : ∃ W, W = w.alloc (.cells zeroE 40) := ⟨_, rfl⟩
  have HX := Lib.hid (And.intro (show Box w.heap.size zeroE 40 W by rw [hW]; exact Box.new _ _ _) (show Below w.heap.size w W by rw [hW]; exact below_new _ _))
  have HW := Lib.hid hW.symm
  have HSW := Lib.hid (show W.heap.size = w.heap.size + 1 by rw [hW]; simp)
  clear hW
  go_enter Tryz.func22, Tryz.ntmps22
  go_wp2_with (go_at_call 43; rw [HW.out]; (with_reducible refine (spec_all s _).mono ?_); rintro e w1 ⟨a, n, cap, P, rfl, ho, hP, hn, hb1⟩; refine Hid.out ?_)
  have H1 := Lib.hid (And.intro (HX.out.1.below hb1) (HX.out.2.trans (hb1.mono (by have := HSW.out; omega))))
  have HO := Lib.hid ho
  have HL1 := Lib.hid hb1.size
  clear ho hb1
  cases hok : okB s.data.toList
  · have HF := Lib.hid (no_head_bad hok)
    clear hok
    refine Lib.hid ?_
    go_wp2_with ((refine wpList_store_box rfl 40 _ _ rfl w.heap.size _ _ H1.out.1 zeroE rfl rfl rfl (by kernel_rfl) (by simp [Value.oneCell']) ?_); intro w2 hxz hgz; refine Hid.out ?_)
    have HZ := Lib.hid (And.intro hxz (H1.out.2.grown hgz H1.out.2.size (fun j hj => by cases hj; exact Nat.le_refl _)))
    clear hxz hgz
    refine Lib.hid ?_
    go_wp2
    exact bodyPost_ret (v := .tuple #[ev 0 0 0, .bool false]) (results_box2 rfl _ _ w.heap.size _ _ _ _ rfl rfl HZ.out.1 Tryz.underlying40 rfl (by kernel_rfl)) rfl ⟨0, 0, 0, false, rfl, .inr ⟨rfl, HF.out⟩, HZ.out.2⟩
  · by_cases hn4 : n = 4
    · obtain ⟨f0, f1, f2, f3, hFe⟩ : ∃ f0 f1 f2 f3, fieldsR s.data.toList = [f0, f1, f2, f3] := by
        have h4 : (fieldsR s.data.toList).length = 4 := by rw [← hn.out]; exact hn4
        match hF : fieldsR s.data.toList, h4 with
        | [f0, f1, f2, f3], _ => exact ⟨f0, f1, f2, f3, rfl⟩
      have hPl : P = [⟨f0.toArray⟩, ⟨f1.toArray⟩, ⟨f2.toArray⟩, ⟨f3.toArray⟩] := by rw [hP.out, hFe]; rfl
      subst hn4
      obtain ⟨g, hg, hgb, hgl0, hcc, hpl⟩ := own_at HO.out (k := 0) (by omega)
      clear hgb hgl0 hcc hpl
      subst hg
      have hst : ∀ j f, ([f0, f1, f2, f3] : List (List UInt8))[j]? = some f → w1.cell? ⟨g, j, none⟩ = some (.string ⟨f.toArray⟩) := fun j f hj => by
        have hj4 : j < 4 := (List.getElem?_eq_some_iff.1 hj).1
        have h9 := (show w1.ownsRow W.heap.size 9 1 (.slice (some ⟨g, 0, none⟩) 4 cap) 4 (strs P) from HO.out).cellAt j (by omega)
        rw [h9, hPl]
        have : j = 0 ∨ j = 1 ∨ j = 2 ∨ j = 3 := by omega
        rcases this with rfl | rfl | rfl | rfl <;> (simp at hj; subst hj; rfl)
      have q0 := hst 0 f0 rfl
      have q1 : w1.drew.cell? ⟨g, 1, none⟩ = some (.string ⟨f1.toArray⟩) := hst 1 f1 rfl
      have q2 : w1.drew.cell? ⟨g, 2, none⟩ = some (.string ⟨f2.toArray⟩) := hst 2 f2 rfl
      have q3 : w1.drew.cell? ⟨g, 3, none⟩ = some (.string ⟨f3.toArray⟩) := hst 3 f3 rfl
      have hgl : g < w1.heap.size := (HO.out.lt g rfl).2
      clear hst
      have hfl := fields_len s.data.toList
      rw [hFe] at hfl
      have hl1 : f1.length ≤ 2000 := Nat.le_trans (mem_joinF (show f1 ∈ [f0, f1, f2, f3] by simp)) (Nat.le_trans hfl (by omega))
      have hl2 : f2.length ≤ 2000 := Nat.le_trans (mem_joinF (show f2 ∈ [f0, f1, f2, f3] by simp)) (Nat.le_trans hfl (by omega))
      have hl3 : f3.length ≤ 2000 := Nat.le_trans (mem_joinF (show f3 ∈ [f0, f1, f2, f3] by simp)) (Nat.le_trans hfl (by omega))
      have HFE := Lib.hid hFe
      clear hfl hok hPl hFe
      by_cases hw : f0 = taskW
      · subst hw
        have q0' : w1.cell? ⟨g, 0, none⟩ = some (.string ⟨#[116, 97, 115, 107]⟩) := q0
        clear q0
        refine Lib.hid ?_
        go_wp2
        go_region_held3 (fun w' => w'.cell? ⟨g, 1, none⟩ = some (.string ⟨f1.toArray⟩) ∧ w'.cell? ⟨g, 2, none⟩ = some (.string ⟨f2.toArray⟩) ∧ w'.cell? ⟨g, 3, none⟩ = some (.string ⟨f3.toArray⟩))
          (first
            | (with_reducible exact ⟨q1, q2, q3⟩)
            | (with_reducible exact ⟨((below_new w1.drew _).cell (p := ⟨g, 1, none⟩) hgl).trans q1, ((below_new w1.drew _).cell (p := ⟨g, 2, none⟩) hgl).trans q2, ((below_new w1.drew _).cell (p := ⟨g, 3, none⟩) hgl).trans q3⟩)
            | (exact ⟨((below_new w1 _).cell (p := ⟨g, 1, none⟩) hgl).trans q1, ((below_new w1 _).cell (p := ⟨g, 2, none⟩) hgl).trans q2, ((below_new w1 _).cell (p := ⟨g, 3, none⟩) hgl).trans q3⟩))
          (first
            | (go_at_call 44; refine (num_list _ (by assumption) _).mono ?_; rintro e w2 ⟨rfl, rfl⟩))
        all_goals
          obtain ⟨o, ho⟩ : ∃ o, numV f1 = o := ⟨_, rfl⟩
          obtain ⟨x, hx⟩ : ∃ x, numV f2 = x := ⟨_, rfl⟩
          obtain ⟨y, hy⟩ : ∃ y, numV f3 = y := ⟨_, rfl⟩
          have HN := Lib.hid (And.intro ho (And.intro hx hy))
          rw [ho, hx, hy]
          obtain ⟨gt, hgt⟩ : ∃ gt, w1.heap.size = gt := ⟨_, rfl⟩
          obtain ⟨w2, hw2⟩ : ∃ w2, (w1.alloc (.cells #[.int .i64 o, .int .i64 x, .int .i64 y] 40)).drew = w2 := ⟨_, rfl⟩
          have bt : Box gt #[.int .i64 o, .int .i64 x, .int .i64 y] 40 w2 := by rw [← hw2, ← hgt]; exact Box.new w1 _ _
          have bz : Box w.heap.size zeroE 40 w2 := by rw [← hw2]; exact H1.out.1.alloc _
          have hb2 : Below w.heap.size w w2 := by rw [← hw2]; exact Below.drew (below_then H1.out.2 (below_new w1 _))
          have hgne : w.heap.size < gt := by have := H1.out.1.lt; omega
          have hgn2 : gt ≠ w.heap.size := by omega
          rw [hw2, hgt]
          have H2 := Lib.hid (And.intro bt (And.intro bz hb2))
          have btd : Box gt #[.int .i64 o, .int .i64 x, .int .i64 y] 40 w2.drew := bt
          have bzd : Box w.heap.size zeroE 40 w2.drew := bz
          have t0 := bt.cell 0
          clear hw2 ho hx hy q1 q2 q3 q0' hgl hl1 hl2 hl3 bt bz hb2 H1 hgt
          cases he : exprOk o x y
          · have HE := Lib.hid he
            have HF := Lib.hid (show ∀ o' x' y', ¬ HeadIs s.data.toList o' x' y' from fun o' x' y' hh => by
              obtain ⟨e1, e2, e3⟩ := head_of HFE.out hh
              have h9 := hh.1
              rw [e1, e2, e3, HN.out.1, HN.out.2.1, HN.out.2.2, he] at h9
              cases h9)
            clear he
            go_wp2
            refine wp_region_held_drew (S := fun w' => w'.cell? ⟨gt, 0, none⟩ = some (.int .i64 o) ∧ w'.cell? ⟨gt, 1, none⟩ = some (.int .i64 x) ∧ w'.cell? ⟨gt, 2, none⟩ = some (.int .i64 y)) (by kernel_rfl) (cells3 btd) (fun hHeld => ?_)
            refine wpAnyH_take (i := 0) (v := ev o x y) rfl (by kernel_rfl) (by kernel_rfl) (by kernel_rfl) (fun _ _ _ h => h) (Or.inl ⟨by rfl, (by intro w' hSw; (try dsimp only at hSw); go_simp)⟩) (by assumption) ?_
            try simp only [Act.put, List.setIfInBounds_toArray, List.set_cons_zero, List.set_cons_succ]
            refine wpAnyH_take (i := 1) (v := ev o x y) rfl (by kernel_rfl) (by kernel_rfl) (by kernel_rfl) (fun _ _ _ h => h) (Or.inl ⟨by rfl, (by intro w' hSw; (try dsimp only at hSw); go_simp)⟩) (by assumption) ?_
            try simp only [Act.put, List.setIfInBounds_toArray, List.set_cons_zero, List.set_cons_succ]
            refine wpAnyH_ready (rs := [2]) (by kernel_rfl) (by simp) ?_
            refine AllReadyH.cons rfl (fun K hK => ?_) AllReadyH.nil
            rw [if_pos (by kernel_rfl)]
            go_simp
            go_at_call 45
            refine (spec_exprok o x y false HE.out _).mono ?_
            rintro e w3 ⟨rfl, hb3⟩
            have k3 := btd.below hb3
            have z3 := bzd.below hb3
            have z3a := (cells3 z3).1
            have z3b := (cells3 z3).2.1
            have z3c := (cells3 z3).2.2
            have y3a := z3.frozen 0
            have y3b := z3.frozen 1
            have y3c := z3.frozen 2
            refine hK.out _ _ (cells3 k3) (fun hHeld2 => ?_)
            clear hK K
            try simp only [Act.put, List.setIfInBounds_toArray, List.set_cons_zero, List.set_cons_succ]
            refine wpAnyH_take (i := 3) (v := .bool false) rfl (by kernel_rfl) (by kernel_rfl) (by kernel_rfl) (fun _ _ _ h => h) (Or.inl ⟨by rfl, (by intro w' hSw; (try dsimp only at hSw); go_simp)⟩) (by assumption) ?_
            try simp only [Act.put, List.setIfInBounds_toArray, List.set_cons_zero, List.set_cons_succ]
            refine wpAnyH_take (i := 4) (v := undef) rfl (by kernel_rfl) (by kernel_rfl) (by kernel_rfl) (fun _ _ _ h => h) (Or.inr ⟨by kernel_rfl, rfl⟩) (by assumption) ?_
            try simp only [Act.put, List.setIfInBounds_toArray, List.set_cons_zero, List.set_cons_succ]
            refine wpAnyH_take (i := 5) (v := undef) rfl (by kernel_rfl) (by kernel_rfl) (by kernel_rfl) (fun _ _ _ h => h) (Or.inr ⟨by kernel_rfl, rfl⟩) (by assumption) ?_
            try simp only [Act.put, List.setIfInBounds_toArray, List.set_cons_zero, List.set_cons_succ]
            refine wpAnyH_take (i := 6) (v := undef) rfl (by kernel_rfl) (by kernel_rfl) (by kernel_rfl) (fun _ _ _ h => h) (Or.inr ⟨by kernel_rfl, rfl⟩) (by assumption) ?_
            try simp only [Act.put, List.setIfInBounds_toArray, List.set_cons_zero, List.set_cons_succ]
            refine wpAnyH_take (i := 7) (v := undef) rfl (by kernel_rfl) (by kernel_rfl) (by kernel_rfl) (fun _ _ _ h => h) (Or.inr ⟨by kernel_rfl, rfl⟩) (by assumption) ?_
            try simp only [Act.put, List.setIfInBounds_toArray, List.set_cons_zero, List.set_cons_succ]
            refine wpAnyH_take (i := 8) (v := undef) rfl (by kernel_rfl) (by kernel_rfl) (by kernel_rfl) (fun _ _ _ h => h) (Or.inr ⟨by kernel_rfl, rfl⟩) (by assumption) ?_
            try simp only [Act.put, List.setIfInBounds_toArray, List.set_cons_zero, List.set_cons_succ]
            refine wpAnyH_take (i := 9) (v := .bool false) rfl (by kernel_rfl) (by kernel_rfl) (by kernel_rfl) (fun _ _ _ h => h) (Or.inl ⟨by rfl, (by intro w' hSw; (try dsimp only at hSw); go_simp)⟩) (by assumption) ?_
            try simp only [Act.put, List.setIfInBounds_toArray, List.set_cons_zero, List.set_cons_succ]
            refine wpAnyH_ready (rs := [10]) (by kernel_rfl) (by simp) ?_
            refine AllReadyH.cons rfl (fun K hK => ?_) AllReadyH.nil
            rw [if_pos (by kernel_rfl)]
            go_simp
            obtain ⟨w6, hw6⟩ : ∃ w6, (((w3.setCell ⟨w.heap.size, 0, none⟩ (.int .i64 o)).setCell ⟨w.heap.size, 1, none⟩ (.int .i64 x)).setCell ⟨w.heap.size, 2, none⟩ (.int .i64 y)) = w6 := ⟨_, rfl⟩
            have H6 := Lib.hid (And.intro (show Box w.heap.size #[.int .i64 o, .int .i64 x, .int .i64 y] 40 w6 by rw [← hw6]; exact set3_box z3) (show Below w.heap.size w w6 by rw [← hw6]; exact set3_below (below_then (Below.drew H2.out.2.2) hb3) (Nat.le_refl _)))
            have k6 : Box gt #[.int .i64 o, .int .i64 x, .int .i64 y] 40 w6 := by rw [← hw6]; exact box_three k3 hgn2
            rw [hw6]
            refine hK.out _ _ (cells3 k6) (fun hHeld6 => ?_)
            clear hK K hw6
            try simp only [Act.put, List.setIfInBounds_toArray, List.set_cons_zero, List.set_cons_succ]
            refine wpAnyH_take (i := 11) (v := .bool false) rfl (by kernel_rfl) (by kernel_rfl) (by kernel_rfl) (fun _ _ _ h => h) (Or.inl ⟨by rfl, (by intro w' hSw; (try dsimp only at hSw); go_simp)⟩) (by assumption) ?_
            try simp only [Act.put, List.setIfInBounds_toArray, List.set_cons_zero, List.set_cons_succ]
            refine wpAnyH_done (by kernel_rfl) ?_ _
            clear hHeld hHeld2 hHeld6 k6 z3a z3b z3c y3a y3b y3c k3 z3 btd bzd t0 hb3
            refine Lib.hid ?_
            go_wp2
            exact bodyPost_ret (v := .tuple #[ev o x y, .bool false]) (results_box2 rfl _ _ w.heap.size _ _ _ _ rfl rfl H6.out.1 Tryz.underlying40 rfl (by kernel_rfl)) rfl ⟨o, x, y, false, rfl, .inr ⟨rfl, HF.out⟩, H6.out.2⟩
          · have HE := Lib.hid he
            have HSM := Lib.hid (expr_small he)
            obtain ⟨r, hr⟩ : ∃ r : Bool, (((⟨#[116, 97, 115, 107]⟩ : ByteArray) ++ ⟨(exT o x y).toArray⟩).toList == s.toList) = r := ⟨_, rfl⟩
            have HR := Lib.hid (show (r = true ∧ HeadIs s.data.toList o x y) ∨ (r = false ∧ ∀ o' x' y', ¬ HeadIs s.data.toList o' x' y') from by
              cases r with
              | true => exact .inl ⟨rfl, he, (head_eq s _).1 hr⟩
              | false =>
                refine .inr ⟨rfl, fun o' x' y' hh => ?_⟩
                obtain ⟨e1, e2, e3⟩ := head_of HFE.out hh
                have e := hh.2
                rw [e1, e2, e3, HN.out.1, HN.out.2.1, HN.out.2.2] at e
                have h9 := (head_eq s _).2 e
                rw [hr] at h9
                cases h9)
            have hnl : ¬ 9223372036854775807 < 4 + (exT o x y).length := by have := exT_short HSM.out.1 HSM.out.2.1 HSM.out.2.2; omega
            clear he
            go_wp2
            refine wp_region_held_drew (S := fun w' => w'.cell? ⟨gt, 0, none⟩ = some (.int .i64 o) ∧ w'.cell? ⟨gt, 1, none⟩ = some (.int .i64 x) ∧ w'.cell? ⟨gt, 2, none⟩ = some (.int .i64 y)) (by kernel_rfl) (cells3 btd) (fun hHeld => ?_)
            refine wpAnyH_take (i := 0) (v := ev o x y) rfl (by kernel_rfl) (by kernel_rfl) (by kernel_rfl) (fun _ _ _ h => h) (Or.inl ⟨by rfl, (by intro w' hSw; (try dsimp only at hSw); go_simp)⟩) (by assumption) ?_
            try simp only [Act.put, List.setIfInBounds_toArray, List.set_cons_zero, List.set_cons_succ]
            refine wpAnyH_take (i := 1) (v := ev o x y) rfl (by kernel_rfl) (by kernel_rfl) (by kernel_rfl) (fun _ _ _ h => h) (Or.inl ⟨by rfl, (by intro w' hSw; (try dsimp only at hSw); go_simp)⟩) (by assumption) ?_
            try simp only [Act.put, List.setIfInBounds_toArray, List.set_cons_zero, List.set_cons_succ]
            refine wpAnyH_ready (rs := [2]) (by kernel_rfl) (by simp) ?_
            refine AllReadyH.cons rfl (fun K hK => ?_) AllReadyH.nil
            rw [if_pos (by kernel_rfl)]
            go_simp
            go_at_call 45
            refine (spec_exprok o x y true HE.out _).mono ?_
            rintro e w3 ⟨rfl, hb3⟩
            have k3 := btd.below hb3
            have z3 := bzd.below hb3
            have z3a := (cells3 z3).1
            have z3b := (cells3 z3).2.1
            have z3c := (cells3 z3).2.2
            have y3a := z3.frozen 0
            have y3b := z3.frozen 1
            have y3c := z3.frozen 2
            refine hK.out _ _ (cells3 k3) (fun hHeld2 => ?_)
            clear hK K
            try simp only [Act.put, List.setIfInBounds_toArray, List.set_cons_zero, List.set_cons_succ]
            refine wpAnyH_take (i := 3) (v := .bool true) rfl (by kernel_rfl) (by kernel_rfl) (by kernel_rfl) (fun _ _ _ h => h) (Or.inl ⟨by rfl, (by intro w' hSw; (try dsimp only at hSw); go_simp)⟩) (by assumption) ?_
            try simp only [Act.put, List.setIfInBounds_toArray, List.set_cons_zero, List.set_cons_succ]
            refine wpAnyH_take (i := 4) (v := ev o x y) rfl (by kernel_rfl) (by kernel_rfl) (by kernel_rfl) (fun _ _ _ h => h) (Or.inl ⟨by rfl, (by intro w' hSw; (try dsimp only at hSw); go_simp)⟩) (by assumption) ?_
            try simp only [Act.put, List.setIfInBounds_toArray, List.set_cons_zero, List.set_cons_succ]
            refine wpAnyH_take (i := 7) (v := .string s) rfl (by kernel_rfl) (by kernel_rfl) (by kernel_rfl) (fun _ _ _ h => h) (Or.inl ⟨by rfl, (by intro w' hSw; (try dsimp only at hSw); go_simp)⟩) (by assumption) ?_
            try simp only [Act.put, List.setIfInBounds_toArray, List.set_cons_zero, List.set_cons_succ]
            refine wpAnyH_ready (rs := [5]) (by kernel_rfl) (by simp) ?_
            refine AllReadyH.cons rfl (fun K hK => ?_) AllReadyH.nil
            rw [if_pos (by kernel_rfl)]
            go_simp
            go_at_call 46
            refine (spec_l04expr o x y HSM.out.1 HSM.out.2.1 HSM.out.2.2 _).mono ?_
            rintro e w4 ⟨rfl, hb4⟩
            have k4 := k3.below hb4
            have z4 := z3.below hb4
            have z4a := (cells3 z4).1
            have z4b := (cells3 z4).2.1
            have z4c := (cells3 z4).2.2
            have y4a := z4.frozen 0
            have y4b := z4.frozen 1
            have y4c := z4.frozen 2
            refine hK.out _ _ (cells3 k4) (fun hHeld4 => ?_)
            clear hK K
            try simp only [Act.put, List.setIfInBounds_toArray, List.set_cons_zero, List.set_cons_succ]
            refine wpAnyH_take (i := 6) (v := .string (⟨#[116, 97, 115, 107]⟩ ++ ⟨(exT o x y).toArray⟩)) rfl (by kernel_rfl) (by kernel_rfl) (by kernel_rfl) (fun _ _ _ h => h) (Or.inl ⟨by rfl, (by intro w' hSw; (try dsimp only at hSw); go_simp)⟩) (by assumption) ?_
            try simp only [Act.put, List.setIfInBounds_toArray, List.set_cons_zero, List.set_cons_succ]
            refine wpAnyH_take (i := 8) (v := .bool r) rfl (by kernel_rfl) (by kernel_rfl) (by kernel_rfl) (fun _ _ _ h => h) (Or.inl ⟨by rfl, (by intro w' hSw; (try dsimp only at hSw); go_simp)⟩) (by assumption) ?_
            try simp only [Act.put, List.setIfInBounds_toArray, List.set_cons_zero, List.set_cons_succ]
            refine wpAnyH_take (i := 9) (v := .bool r) rfl (by kernel_rfl) (by kernel_rfl) (by kernel_rfl) (fun _ _ _ h => h) (Or.inl ⟨by rfl, (by intro w' hSw; (try dsimp only at hSw); go_simp)⟩) (by assumption) ?_
            try simp only [Act.put, List.setIfInBounds_toArray, List.set_cons_zero, List.set_cons_succ]
            refine wpAnyH_ready (rs := [10]) (by kernel_rfl) (by simp) ?_
            refine AllReadyH.cons rfl (fun K hK => ?_) AllReadyH.nil
            rw [if_pos (by kernel_rfl)]
            go_simp
            obtain ⟨w6, hw6⟩ : ∃ w6, (((w4.setCell ⟨w.heap.size, 0, none⟩ (.int .i64 o)).setCell ⟨w.heap.size, 1, none⟩ (.int .i64 x)).setCell ⟨w.heap.size, 2, none⟩ (.int .i64 y)) = w6 := ⟨_, rfl⟩
            have H6 := Lib.hid (And.intro (show Box w.heap.size #[.int .i64 o, .int .i64 x, .int .i64 y] 40 w6 by rw [← hw6]; exact set3_box z4) (show Below w.heap.size w w6 by rw [← hw6]; exact set3_below (below_then (below_then (Below.drew H2.out.2.2) hb3) hb4) (Nat.le_refl _)))
            have k6 : Box gt #[.int .i64 o, .int .i64 x, .int .i64 y] 40 w6 := by rw [← hw6]; exact box_three k4 hgn2
            rw [hw6]
            refine hK.out _ _ (cells3 k6) (fun hHeld6 => ?_)
            clear hK K hw6
            try simp only [Act.put, List.setIfInBounds_toArray, List.set_cons_zero, List.set_cons_succ]
            refine wpAnyH_take (i := 11) (v := .bool r) rfl (by kernel_rfl) (by kernel_rfl) (by kernel_rfl) (fun _ _ _ h => h) (Or.inl ⟨by rfl, (by intro w' hSw; (try dsimp only at hSw); go_simp)⟩) (by assumption) ?_
            try simp only [Act.put, List.setIfInBounds_toArray, List.set_cons_zero, List.set_cons_succ]
            refine wpAnyH_done (by kernel_rfl) ?_ _
            clear hHeld hHeld2 hHeld6 k6 z3a z3b z3c y3a y3b y3c k3 z3 btd bzd t0 hb3 hb4 z4a z4b z4c y4a y4b y4c k4 z4 hHeld4 hr hnl
            refine Lib.hid ?_
            go_wp2
            exact bodyPost_ret (v := .tuple #[ev o x y, .bool r]) (results_box2 rfl _ _ w.heap.size _ _ _ _ rfl rfl H6.out.1 Tryz.underlying40 rfl (by kernel_rfl)) rfl ⟨o, x, y, r, rfl, HR.out, H6.out.2⟩
      · have HF := Lib.hid (no_head_word HFE.out hw)
        have hneb : (f0 == [116, 97, 115, 107]) = false := by rw [beq_eq_false_iff_ne]; exact hw
        clear hw q1 q2 q3
        refine Lib.hid ?_
        go_wp2_with ((refine wpList_store_box rfl 40 _ _ rfl w.heap.size _ _ H1.out.1 zeroE rfl rfl rfl (by kernel_rfl) (by simp [Value.oneCell']) ?_); intro w2 hxz hgz; refine Hid.out ?_)
        have HZ := Lib.hid (And.intro hxz (H1.out.2.grown hgz H1.out.2.size (fun j hj => by cases hj; exact Nat.le_refl _)))
        clear hxz hgz
        refine Lib.hid ?_
        go_wp2
        exact bodyPost_ret (v := .tuple #[ev 0 0 0, .bool false]) (results_box2 rfl _ _ w.heap.size _ _ _ _ rfl rfl HZ.out.1 Tryz.underlying40 rfl (by kernel_rfl)) rfl ⟨0, 0, 0, false, rfl, .inr ⟨rfl, HF.out⟩, HZ.out.2⟩
    · have HF := Lib.hid (no_head_len (l := s.data.toList) (by rw [← hn.out]; exact hn4))
      have hn4I : ¬ (n : Int) = 4 := by omega
      have hn4b : ((n : Int) == 4) = false := by rw [beq_eq_false_iff_ne]; exact hn4I
      clear hok hn4
      refine Lib.hid ?_
      go_wp2_with ((refine wpList_store_box rfl 40 _ _ rfl w.heap.size _ _ H1.out.1 zeroE rfl rfl rfl (by kernel_rfl) (by simp [Value.oneCell']) ?_); intro w2 hxz hgz; refine Hid.out ?_)
      have HZ := Lib.hid (And.intro hxz (H1.out.2.grown hgz H1.out.2.size (fun j hj => by cases hj; exact Nat.le_refl _)))
      clear hxz hgz
      refine Lib.hid ?_
      go_wp2
      exact bodyPost_ret (v := .tuple #[ev 0 0 0, .bool false]) (results_box2 rfl _ _ w.heap.size _ _ _ _ rfl rfl HZ.out.1 Tryz.underlying40 rfl (by kernel_rfl)) rfl ⟨0, 0, 0, false, rfl, .inr ⟨rfl, HF.out⟩, HZ.out.2⟩
end Go.Proofs.YtpipnhceajdfkaaGreatDoor.prg
