/- Several texts in one: EvalC StmI. -/
import Derived.Test.YtekdnhhmiabngaaGreatGHub7
import Derived.Deep.QuietTactic
import Derived.BigQuiet
import Derived.Test.YtekdnhhmiabngaaGreatGHub1
import Derived.Deep.RegionWith

/- Chapter 3's EvalExpr of the program: the plain function 'evalV'; nothing that was there is written. -/
namespace Go.Proofs.YtekdnhhmiabngaaGreat.expr
open Go.ChangeShapes Go.WideShapes Go.ChangeAt Go.RowKit Go.Proofs.YtekdnhhmiabngaaGreat.row Go.Proofs.YtekdnhhmiabngaaGreat.val

theorem retq {P : Program} {f : FuncId} {args : Array Value} {w : World} {x : Int} (h : Calls P f args w (Ret w x)) : Calls P f args w fun e w' => e = .returned (.int .i64 x) ∧ w' = w := h.mono fun _ _ ⟨a, b⟩ => ⟨a, b.symm⟩
set_option maxHeartbeats 1000000 in
set_option maxRecDepth 100000 in
theorem impl_evalExpr (w : World) (ad : Option Addr) (n cap : Nat) (L : List Int) (hn : (n : Int) ≤ 1048576) (h : Row w ad n L) (o a b : Int) :
    Calls Tryz.prog 103 #[.slice ad n cap, ev o a b] w (BelI w (evalV L o a b)) := by
  have HR : Hid (∀ w' : World, Below w.heap.size w w' → Row w' ad n L) := fun w' hb => h.below hb
  clear h
  cases hv : varsOk L
  · have HV := Lib.hid (evalV_no (o := o) (a := a) (b := b) (Or.inl hv))
    go_enter Tryz.func103, Tryz.ntmps103
    go_wp2_with (go_at_call 97; refine (impl_vars _ _ _ _ L hn (HR.out _ ((Below.refl _ _).alloc (Nat.le_refl _) _)) _ hv).mono ?_; rintro e w1 ⟨rfl, rfl⟩)
    go_ret
    exact ⟨ret_i HV.out.symm, (Below.refl _ _).alloc (Nat.le_refl _) _⟩
  · cases he : exprOk o a b
    · have HV := Lib.hid (evalV_no (L := L) (Or.inr he))
      go_enter Tryz.func103, Tryz.ntmps103
      go_wp2_with (first
        | (go_at_call 97; refine (impl_vars _ _ _ _ L hn (HR.out _ ((Below.refl _ _).alloc (Nat.le_refl _) _)) _ hv).mono ?_; rintro e w1 ⟨rfl, rfl⟩)
        | (go_at_call 106; refine (impl_exprok _ _ _ _ he _).mono ?_; rintro e w1 ⟨rfl, hb1⟩))
      go_ret
      exact ⟨ret_i HV.out.symm, ((Below.refl _ _).alloc (Nat.le_refl _) _).trans (hb1.mono (by simp))⟩
    · obtain ⟨ho, ha, hb⟩ := (exprOk_iff o a b).1 he
      have HV := Lib.hid (evalV_ok hv he)
      have HA := Lib.hid (opndVal_ok ha hv)
      have HB := Lib.hid (opndVal_ok hb hv)
      clear ha hb
      have i1 : ∀ w, (Instr.index 160 opsV (.int .i64 1)).run Tryz.prog w = .ok (.func (.func 155) #[] #[]) w := fun _ => by kernel_rfl
      have i2 : ∀ w, (Instr.index 160 opsV (.int .i64 2)).run Tryz.prog w = .ok (.func (.func 170) #[] #[]) w := fun _ => by kernel_rfl
      have i3 : ∀ w, (Instr.index 160 opsV (.int .i64 3)).run Tryz.prog w = .ok (.func (.func 171) #[] #[]) w := fun _ => by kernel_rfl
      have i4 : ∀ w, (Instr.index 160 opsV (.int .i64 4)).run Tryz.prog w = .ok (.func (.func 172) #[] #[]) w := fun _ => by kernel_rfl
      have i5 : ∀ w, (Instr.index 160 opsV (.int .i64 5)).run Tryz.prog w = .ok (.func (.func 173) #[] #[]) w := fun _ => by kernel_rfl
      have i6 : ∀ w, (Instr.index 160 opsV (.int .i64 6)).run Tryz.prog w = .ok (.func (.func 174) #[] #[]) w := fun _ => by kernel_rfl
      have i7 : ∀ w, (Instr.index 160 opsV (.int .i64 7)).run Tryz.prog w = .ok (.func (.func 175) #[] #[]) w := fun _ => by kernel_rfl
      rcases (show o = 1 ∨ o = 2 ∨ o = 3 ∨ o = 4 ∨ o = 5 ∨ o = 6 ∨ o = 7 by omega) with rfl | rfl | rfl | rfl | rfl | rfl | rfl
      · clear ho
        go_enter Tryz.func103, Tryz.ntmps103
        go_wp2_with (first
          | (go_at_call 97; refine (impl_vars _ _ _ _ L hn (HR.out _ ((Below.refl _ _).alloc (Nat.le_refl _) _)) _ hv).mono ?_; rintro e w1 ⟨rfl, rfl⟩)
          | (go_at_call 106; refine (impl_exprok _ _ _ _ he _).mono ?_; rintro e w1 ⟨rfl, hb1⟩
             have hbw : Below w.heap.size w w1 := ((Below.refl _ _).alloc (Nat.le_refl _) _).trans (hb1.mono (by simp))
             have hlt : w.heap.size < w1.heap.size := by have := hb1.size; simp at this; omega
             have hbx : w1.cell? ⟨w.heap.size, 0, none⟩ = some (.int .i64 1) := (hb1.cell (by simp)).trans (new_cell w _ _ _)
             have hby : w1.cell? ⟨w.heap.size, 1, none⟩ = some (.int .i64 a) := (hb1.cell (by simp)).trans (new_cell w _ _ _)
             have hbz : w1.cell? ⟨w.heap.size, 2, none⟩ = some (.int .i64 b) := (hb1.cell (by simp)).trans (new_cell w _ _ _)
             clear hb1))
        go_region_held3 (fun w' => w'.cell? ⟨w.heap.size, 0, none⟩ = some (.int .i64 1)) (first | go_keep | (rw [hb2.cell (by simp; omega)]; assumption))
          (first | (go_at_call 135; refine (impl_ops _).mono ?_; rintro e w2 ⟨rfl, hb2⟩))
        have hb2' : Below w1.heap.size w1 w2 := (Below.drew (Below.refl _ w1)).trans hb2
        have hcy : w2.cell? ⟨w.heap.size, 1, none⟩ = some (.int .i64 a) := (hb2'.cell hlt).trans hby
        have hcz : w2.cell? ⟨w.heap.size, 2, none⟩ = some (.int .i64 b) := (hb2'.cell hlt).trans hbz
        have hbw2 : Below w.heap.size w w2 := hbw.trans (hb2'.mono hbw.size)
        have HR2 := Lib.hid (HR.out _ hbw2)
        clear hbx hby hbz hb2 hb2'
        go_wp2
        go_quiet ((first
          | (go_at_call 136; exact Calls.quiet_of_same (retq (impl_opval _ ad n cap L hn (Row.drewN HR2.out _) _)))
          | (go_at_call 155; exact Calls.quiet_of_same (retq (impl_add _ _ _)))))
        go_wp2
        go_ret
        refine ⟨ret_i ?_, below_drewN hbw2 _⟩
        rw [HV.out, ev1, ← HA.out, ← HB.out]
      · clear ho
        go_enter Tryz.func103, Tryz.ntmps103
        go_wp2_with (first
          | (go_at_call 97; refine (impl_vars _ _ _ _ L hn (HR.out _ ((Below.refl _ _).alloc (Nat.le_refl _) _)) _ hv).mono ?_; rintro e w1 ⟨rfl, rfl⟩)
          | (go_at_call 106; refine (impl_exprok _ _ _ _ he _).mono ?_; rintro e w1 ⟨rfl, hb1⟩
             have hbw : Below w.heap.size w w1 := ((Below.refl _ _).alloc (Nat.le_refl _) _).trans (hb1.mono (by simp))
             have hlt : w.heap.size < w1.heap.size := by have := hb1.size; simp at this; omega
             have hbx : w1.cell? ⟨w.heap.size, 0, none⟩ = some (.int .i64 2) := (hb1.cell (by simp)).trans (new_cell w _ _ _)
             have hby : w1.cell? ⟨w.heap.size, 1, none⟩ = some (.int .i64 a) := (hb1.cell (by simp)).trans (new_cell w _ _ _)
             have hbz : w1.cell? ⟨w.heap.size, 2, none⟩ = some (.int .i64 b) := (hb1.cell (by simp)).trans (new_cell w _ _ _)
             clear hb1))
        go_region_held3 (fun w' => w'.cell? ⟨w.heap.size, 0, none⟩ = some (.int .i64 2)) (first | go_keep | (rw [hb2.cell (by simp; omega)]; assumption))
          (first | (go_at_call 135; refine (impl_ops _).mono ?_; rintro e w2 ⟨rfl, hb2⟩))
        have hb2' : Below w1.heap.size w1 w2 := (Below.drew (Below.refl _ w1)).trans hb2
        have hcy : w2.cell? ⟨w.heap.size, 1, none⟩ = some (.int .i64 a) := (hb2'.cell hlt).trans hby
        have hcz : w2.cell? ⟨w.heap.size, 2, none⟩ = some (.int .i64 b) := (hb2'.cell hlt).trans hbz
        have hbw2 : Below w.heap.size w w2 := hbw.trans (hb2'.mono hbw.size)
        have HR2 := Lib.hid (HR.out _ hbw2)
        clear hbx hby hbz hb2 hb2'
        go_wp2
        go_quiet ((first
          | (go_at_call 136; exact Calls.quiet_of_same (retq (impl_opval _ ad n cap L hn (Row.drewN HR2.out _) _)))
          | (go_at_call 170; exact Calls.quiet_of_same (retq (impl_sub _ _ _)))))
        go_wp2
        go_ret
        refine ⟨ret_i ?_, below_drewN hbw2 _⟩
        rw [HV.out, ev2, ← HA.out, ← HB.out]
      · clear ho
        go_enter Tryz.func103, Tryz.ntmps103
        go_wp2_with (first
          | (go_at_call 97; refine (impl_vars _ _ _ _ L hn (HR.out _ ((Below.refl _ _).alloc (Nat.le_refl _) _)) _ hv).mono ?_; rintro e w1 ⟨rfl, rfl⟩)
          | (go_at_call 106; refine (impl_exprok _ _ _ _ he _).mono ?_; rintro e w1 ⟨rfl, hb1⟩
             have hbw : Below w.heap.size w w1 := ((Below.refl _ _).alloc (Nat.le_refl _) _).trans (hb1.mono (by simp))
             have hlt : w.heap.size < w1.heap.size := by have := hb1.size; simp at this; omega
             have hbx : w1.cell? ⟨w.heap.size, 0, none⟩ = some (.int .i64 3) := (hb1.cell (by simp)).trans (new_cell w _ _ _)
             have hby : w1.cell? ⟨w.heap.size, 1, none⟩ = some (.int .i64 a) := (hb1.cell (by simp)).trans (new_cell w _ _ _)
             have hbz : w1.cell? ⟨w.heap.size, 2, none⟩ = some (.int .i64 b) := (hb1.cell (by simp)).trans (new_cell w _ _ _)
             clear hb1))
        go_region_held3 (fun w' => w'.cell? ⟨w.heap.size, 0, none⟩ = some (.int .i64 3)) (first | go_keep | (rw [hb2.cell (by simp; omega)]; assumption))
          (first | (go_at_call 135; refine (impl_ops _).mono ?_; rintro e w2 ⟨rfl, hb2⟩))
        have hb2' : Below w1.heap.size w1 w2 := (Below.drew (Below.refl _ w1)).trans hb2
        have hcy : w2.cell? ⟨w.heap.size, 1, none⟩ = some (.int .i64 a) := (hb2'.cell hlt).trans hby
        have hcz : w2.cell? ⟨w.heap.size, 2, none⟩ = some (.int .i64 b) := (hb2'.cell hlt).trans hbz
        have hbw2 : Below w.heap.size w w2 := hbw.trans (hb2'.mono hbw.size)
        have HR2 := Lib.hid (HR.out _ hbw2)
        clear hbx hby hbz hb2 hb2'
        go_wp2
        go_quiet ((first
          | (go_at_call 136; exact Calls.quiet_of_same (retq (impl_opval _ ad n cap L hn (Row.drewN HR2.out _) _)))
          | (go_at_call 171; exact Calls.quiet_of_same (retq (impl_mul _ _ _)))))
        go_wp2
        go_ret
        refine ⟨ret_i ?_, below_drewN hbw2 _⟩
        rw [HV.out, ev3, ← HA.out, ← HB.out]
      · clear ho
        go_enter Tryz.func103, Tryz.ntmps103
        go_wp2_with (first
          | (go_at_call 97; refine (impl_vars _ _ _ _ L hn (HR.out _ ((Below.refl _ _).alloc (Nat.le_refl _) _)) _ hv).mono ?_; rintro e w1 ⟨rfl, rfl⟩)
          | (go_at_call 106; refine (impl_exprok _ _ _ _ he _).mono ?_; rintro e w1 ⟨rfl, hb1⟩
             have hbw : Below w.heap.size w w1 := ((Below.refl _ _).alloc (Nat.le_refl _) _).trans (hb1.mono (by simp))
             have hlt : w.heap.size < w1.heap.size := by have := hb1.size; simp at this; omega
             have hbx : w1.cell? ⟨w.heap.size, 0, none⟩ = some (.int .i64 4) := (hb1.cell (by simp)).trans (new_cell w _ _ _)
             have hby : w1.cell? ⟨w.heap.size, 1, none⟩ = some (.int .i64 a) := (hb1.cell (by simp)).trans (new_cell w _ _ _)
             have hbz : w1.cell? ⟨w.heap.size, 2, none⟩ = some (.int .i64 b) := (hb1.cell (by simp)).trans (new_cell w _ _ _)
             clear hb1))
        go_region_held3 (fun w' => w'.cell? ⟨w.heap.size, 0, none⟩ = some (.int .i64 4)) (first | go_keep | (rw [hb2.cell (by simp; omega)]; assumption))
          (first | (go_at_call 135; refine (impl_ops _).mono ?_; rintro e w2 ⟨rfl, hb2⟩))
        have hb2' : Below w1.heap.size w1 w2 := (Below.drew (Below.refl _ w1)).trans hb2
        have hcy : w2.cell? ⟨w.heap.size, 1, none⟩ = some (.int .i64 a) := (hb2'.cell hlt).trans hby
        have hcz : w2.cell? ⟨w.heap.size, 2, none⟩ = some (.int .i64 b) := (hb2'.cell hlt).trans hbz
        have hbw2 : Below w.heap.size w w2 := hbw.trans (hb2'.mono hbw.size)
        have HR2 := Lib.hid (HR.out _ hbw2)
        clear hbx hby hbz hb2 hb2'
        go_wp2
        go_quiet ((first
          | (go_at_call 136; exact Calls.quiet_of_same (retq (impl_opval _ ad n cap L hn (Row.drewN HR2.out _) _)))
          | (go_at_call 172; exact Calls.quiet_of_same (retq (impl_min _ _ _)))))
        go_wp2
        go_ret
        refine ⟨ret_i ?_, below_drewN hbw2 _⟩
        rw [HV.out, ev4, ← HA.out, ← HB.out]
      · clear ho
        go_enter Tryz.func103, Tryz.ntmps103
        go_wp2_with (first
          | (go_at_call 97; refine (impl_vars _ _ _ _ L hn (HR.out _ ((Below.refl _ _).alloc (Nat.le_refl _) _)) _ hv).mono ?_; rintro e w1 ⟨rfl, rfl⟩)
          | (go_at_call 106; refine (impl_exprok _ _ _ _ he _).mono ?_; rintro e w1 ⟨rfl, hb1⟩
             have hbw : Below w.heap.size w w1 := ((Below.refl _ _).alloc (Nat.le_refl _) _).trans (hb1.mono (by simp))
             have hlt : w.heap.size < w1.heap.size := by have := hb1.size; simp at this; omega
             have hbx : w1.cell? ⟨w.heap.size, 0, none⟩ = some (.int .i64 5) := (hb1.cell (by simp)).trans (new_cell w _ _ _)
             have hby : w1.cell? ⟨w.heap.size, 1, none⟩ = some (.int .i64 a) := (hb1.cell (by simp)).trans (new_cell w _ _ _)
             have hbz : w1.cell? ⟨w.heap.size, 2, none⟩ = some (.int .i64 b) := (hb1.cell (by simp)).trans (new_cell w _ _ _)
             clear hb1))
        go_region_held3 (fun w' => w'.cell? ⟨w.heap.size, 0, none⟩ = some (.int .i64 5)) (first | go_keep | (rw [hb2.cell (by simp; omega)]; assumption))
          (first | (go_at_call 135; refine (impl_ops _).mono ?_; rintro e w2 ⟨rfl, hb2⟩))
        have hb2' : Below w1.heap.size w1 w2 := (Below.drew (Below.refl _ w1)).trans hb2
        have hcy : w2.cell? ⟨w.heap.size, 1, none⟩ = some (.int .i64 a) := (hb2'.cell hlt).trans hby
        have hcz : w2.cell? ⟨w.heap.size, 2, none⟩ = some (.int .i64 b) := (hb2'.cell hlt).trans hbz
        have hbw2 : Below w.heap.size w w2 := hbw.trans (hb2'.mono hbw.size)
        have HR2 := Lib.hid (HR.out _ hbw2)
        clear hbx hby hbz hb2 hb2'
        go_wp2
        go_quiet ((first
          | (go_at_call 136; exact Calls.quiet_of_same (retq (impl_opval _ ad n cap L hn (Row.drewN HR2.out _) _)))
          | (go_at_call 173; exact Calls.quiet_of_same (retq (impl_max _ _ _)))))
        go_wp2
        go_ret
        refine ⟨ret_i ?_, below_drewN hbw2 _⟩
        rw [HV.out, ev5, ← HA.out, ← HB.out]
      · clear ho
        go_enter Tryz.func103, Tryz.ntmps103
        go_wp2_with (first
          | (go_at_call 97; refine (impl_vars _ _ _ _ L hn (HR.out _ ((Below.refl _ _).alloc (Nat.le_refl _) _)) _ hv).mono ?_; rintro e w1 ⟨rfl, rfl⟩)
          | (go_at_call 106; refine (impl_exprok _ _ _ _ he _).mono ?_; rintro e w1 ⟨rfl, hb1⟩
             have hbw : Below w.heap.size w w1 := ((Below.refl _ _).alloc (Nat.le_refl _) _).trans (hb1.mono (by simp))
             have hlt : w.heap.size < w1.heap.size := by have := hb1.size; simp at this; omega
             have hbx : w1.cell? ⟨w.heap.size, 0, none⟩ = some (.int .i64 6) := (hb1.cell (by simp)).trans (new_cell w _ _ _)
             have hby : w1.cell? ⟨w.heap.size, 1, none⟩ = some (.int .i64 a) := (hb1.cell (by simp)).trans (new_cell w _ _ _)
             have hbz : w1.cell? ⟨w.heap.size, 2, none⟩ = some (.int .i64 b) := (hb1.cell (by simp)).trans (new_cell w _ _ _)
             clear hb1))
        go_region_held3 (fun w' => w'.cell? ⟨w.heap.size, 0, none⟩ = some (.int .i64 6)) (first | go_keep | (rw [hb2.cell (by simp; omega)]; assumption))
          (first | (go_at_call 135; refine (impl_ops _).mono ?_; rintro e w2 ⟨rfl, hb2⟩))
        have hb2' : Below w1.heap.size w1 w2 := (Below.drew (Below.refl _ w1)).trans hb2
        have hcy : w2.cell? ⟨w.heap.size, 1, none⟩ = some (.int .i64 a) := (hb2'.cell hlt).trans hby
        have hcz : w2.cell? ⟨w.heap.size, 2, none⟩ = some (.int .i64 b) := (hb2'.cell hlt).trans hbz
        have hbw2 : Below w.heap.size w w2 := hbw.trans (hb2'.mono hbw.size)
        have HR2 := Lib.hid (HR.out _ hbw2)
        clear hbx hby hbz hb2 hb2'
        go_wp2
        go_quiet ((first
          | (go_at_call 136; exact Calls.quiet_of_same (retq (impl_opval _ ad n cap L hn (Row.drewN HR2.out _) _)))
          | (go_at_call 174; exact Calls.quiet_of_same (retq (impl_less _ _ _)))))
        go_wp2
        go_ret
        refine ⟨ret_i ?_, below_drewN hbw2 _⟩
        rw [HV.out, ev6, ← HA.out, ← HB.out]
      · clear ho
        go_enter Tryz.func103, Tryz.ntmps103
        go_wp2_with (first
          | (go_at_call 97; refine (impl_vars _ _ _ _ L hn (HR.out _ ((Below.refl _ _).alloc (Nat.le_refl _) _)) _ hv).mono ?_; rintro e w1 ⟨rfl, rfl⟩)
          | (go_at_call 106; refine (impl_exprok _ _ _ _ he _).mono ?_; rintro e w1 ⟨rfl, hb1⟩
             have hbw : Below w.heap.size w w1 := ((Below.refl _ _).alloc (Nat.le_refl _) _).trans (hb1.mono (by simp))
             have hlt : w.heap.size < w1.heap.size := by have := hb1.size; simp at this; omega
             have hbx : w1.cell? ⟨w.heap.size, 0, none⟩ = some (.int .i64 7) := (hb1.cell (by simp)).trans (new_cell w _ _ _)
             have hby : w1.cell? ⟨w.heap.size, 1, none⟩ = some (.int .i64 a) := (hb1.cell (by simp)).trans (new_cell w _ _ _)
             have hbz : w1.cell? ⟨w.heap.size, 2, none⟩ = some (.int .i64 b) := (hb1.cell (by simp)).trans (new_cell w _ _ _)
             clear hb1))
        go_region_held3 (fun w' => w'.cell? ⟨w.heap.size, 0, none⟩ = some (.int .i64 7)) (first | go_keep | (rw [hb2.cell (by simp; omega)]; assumption))
          (first | (go_at_call 135; refine (impl_ops _).mono ?_; rintro e w2 ⟨rfl, hb2⟩))
        have hb2' : Below w1.heap.size w1 w2 := (Below.drew (Below.refl _ w1)).trans hb2
        have hcy : w2.cell? ⟨w.heap.size, 1, none⟩ = some (.int .i64 a) := (hb2'.cell hlt).trans hby
        have hcz : w2.cell? ⟨w.heap.size, 2, none⟩ = some (.int .i64 b) := (hb2'.cell hlt).trans hbz
        have hbw2 : Below w.heap.size w w2 := hbw.trans (hb2'.mono hbw.size)
        have HR2 := Lib.hid (HR.out _ hbw2)
        clear hbx hby hbz hb2 hb2'
        go_wp2
        go_quiet ((first
          | (go_at_call 136; exact Calls.quiet_of_same (retq (impl_opval _ ad n cap L hn (Row.drewN HR2.out _) _)))
          | (go_at_call 175; exact Calls.quiet_of_same (retq (impl_same _ _ _)))))
        go_wp2
        go_ret
        refine ⟨ret_i ?_, below_drewN hbw2 _⟩
        rw [HV.out, ev7, ← HA.out, ← HB.out]
end Go.Proofs.YtekdnhhmiabngaaGreat.expr

/- Chapter 4's StmtOk of the program, and the functions that it is made of: the statement as a value of its own type, its fields' check, and the way back; nothing that was there is written. -/
namespace Go.Proofs.YtekdnhhmiabngaaGreat.stm
open Go.ChangeShapes Go.WideShapes Go.ChangeAt Go.RowKit Go.Proofs.YtekdnhhmiabngaaGreat.row Go.Proofs.YtekdnhhmiabngaaGreat.val Go.Proofs.YtekdnhhmiabngaaGreat.expr

/-- A statement of the kind 1 as a value of its own type. -/
abbrev if1 (v o a b : Int) : Value := .iface 183 (.agg #[.int .i64 v, .int .i64 o, .int .i64 a, .int .i64 b])
/-- A statement of the kind 2 as a value of its own type. -/
abbrev if2 (v n : Int) : Value := .iface 185 (.agg #[.int .i64 v, .int .i64 n])
/-- A statement of the kind 3 as a value of its own type. -/
abbrev if3 (o a b : Int) : Value := .iface 187 (.agg #[.int .i64 o, .int .i64 a, .int .i64 b])
/-- A statement of the kind 4 as a value of its own type. -/
abbrev if4 (o a b : Int) : Value := .iface 189 (.agg #[.int .i64 o, .int .i64 a, .int .i64 b])
/-- A statement of the kind 5 as a value of its own type. -/
abbrev if5 (n : Int) : Value := .iface 191 (.agg #[.int .i64 n])
/-- A statement of the kind 6 as a value of its own type. -/
abbrev if6 : Value := .iface 193 (.agg #[])
set_option maxHeartbeats 400000 in
theorem stmt_m1 (v o a b : Int) (w : World) : Calls Tryz.prog 219 #[.agg #[.int .i64 v, .int .i64 o, .int .i64 a, .int .i64 b]] w (BelS w ⟨1, v, 0, o, a, b⟩) := by
  go_enter Tryz.func219, Tryz.ntmps219
  go_wp2
  refine bodyPost_ret (v := stV ⟨1, v, 0, o, a, b⟩) (by simp [results, Tryz.results219, go_sem]) rfl ⟨rfl, ?_⟩
  all_goals repeat (first | exact Below.refl _ _ | refine Below.alloc ?_ (by simp; try omega) _ | refine Below.setCell ?_ (by simp) _)
set_option maxHeartbeats 400000 in
theorem stmt_m2 (v n : Int) (w : World) : Calls Tryz.prog 220 #[.agg #[.int .i64 v, .int .i64 n]] w (BelS w ⟨2, v, n, 0, 0, 0⟩) := by
  go_enter Tryz.func220, Tryz.ntmps220
  go_wp2
  refine bodyPost_ret (v := stV ⟨2, v, n, 0, 0, 0⟩) (by simp [results, Tryz.results220, go_sem]) rfl ⟨rfl, ?_⟩
  all_goals repeat (first | exact Below.refl _ _ | refine Below.alloc ?_ (by simp; try omega) _ | refine Below.setCell ?_ (by simp) _)
set_option maxHeartbeats 400000 in
theorem stmt_m3 (o a b : Int) (w : World) : Calls Tryz.prog 221 #[.agg #[.int .i64 o, .int .i64 a, .int .i64 b]] w (BelS w ⟨3, 0, 0, o, a, b⟩) := by
  go_enter Tryz.func221, Tryz.ntmps221
  go_wp2
  refine bodyPost_ret (v := stV ⟨3, 0, 0, o, a, b⟩) (by simp [results, Tryz.results221, go_sem]) rfl ⟨rfl, ?_⟩
  all_goals repeat (first | exact Below.refl _ _ | refine Below.alloc ?_ (by simp; try omega) _ | refine Below.setCell ?_ (by simp) _)
set_option maxHeartbeats 400000 in
theorem stmt_m4 (o a b : Int) (w : World) : Calls Tryz.prog 222 #[.agg #[.int .i64 o, .int .i64 a, .int .i64 b]] w (BelS w ⟨4, 0, 0, o, a, b⟩) := by
  go_enter Tryz.func222, Tryz.ntmps222
  go_wp2
  refine bodyPost_ret (v := stV ⟨4, 0, 0, o, a, b⟩) (by simp [results, Tryz.results222, go_sem]) rfl ⟨rfl, ?_⟩
  all_goals repeat (first | exact Below.refl _ _ | refine Below.alloc ?_ (by simp; try omega) _ | refine Below.setCell ?_ (by simp) _)
set_option maxHeartbeats 400000 in
theorem stmt_m5 (n : Int) (w : World) : Calls Tryz.prog 223 #[.agg #[.int .i64 n]] w (BelS w ⟨5, 0, n, 0, 0, 0⟩) := by
  go_enter Tryz.func223, Tryz.ntmps223
  go_wp2
  refine bodyPost_ret (v := stV ⟨5, 0, n, 0, 0, 0⟩) (by simp [results, Tryz.results223, go_sem]) rfl ⟨rfl, ?_⟩
  all_goals repeat (first | exact Below.refl _ _ | refine Below.alloc ?_ (by simp; try omega) _ | refine Below.setCell ?_ (by simp) _)
set_option maxHeartbeats 400000 in
theorem stmt_m6 (w : World) : Calls Tryz.prog 224 #[.agg #[]] w (BelS w ⟨6, 0, 0, 0, 0, 0⟩) := by
  go_enter Tryz.func224, Tryz.ntmps224
  go_wp2
  refine bodyPost_ret (v := stV ⟨6, 0, 0, 0, 0, 0⟩) (by simp [results, Tryz.results224, go_sem]) rfl ⟨rfl, ?_⟩
  all_goals repeat (first | exact Below.refl _ _ | refine Below.alloc ?_ (by simp; try omega) _ | refine Below.setCell ?_ (by simp) _)
/-- The call returns this pair of an interface value and a bool; nothing that was there is written. -/
def BelP (w : World) (v : Value) (b : Bool) (e : Ending) (w' : World) : Prop := e = .returned (.tuple #[v, .bool b]) ∧ Below w.heap.size w w'
set_option maxHeartbeats 400000 in
theorem of1 (v n o a b : Int) (w : World) : Calls Tryz.prog 158 #[stV ⟨1, v, n, o, a, b⟩] w (BelP w (if1 v o a b) true) := by
  go_enter Tryz.func158, Tryz.ntmps158
  go_wp2
  go_ret2
  exact ⟨rfl, (Below.refl _ _).alloc (Nat.le_refl _) _⟩
set_option maxHeartbeats 400000 in
theorem of2 (v n o a b : Int) (w : World) : Calls Tryz.prog 158 #[stV ⟨2, v, n, o, a, b⟩] w (BelP w (if2 v n) true) := by
  go_enter Tryz.func158, Tryz.ntmps158
  go_wp2
  go_ret2
  exact ⟨rfl, (Below.refl _ _).alloc (Nat.le_refl _) _⟩
set_option maxHeartbeats 400000 in
theorem of3 (v n o a b : Int) (w : World) : Calls Tryz.prog 158 #[stV ⟨3, v, n, o, a, b⟩] w (BelP w (if3 o a b) true) := by
  go_enter Tryz.func158, Tryz.ntmps158
  go_wp2
  go_ret2
  exact ⟨rfl, (Below.refl _ _).alloc (Nat.le_refl _) _⟩
set_option maxHeartbeats 400000 in
theorem of4 (v n o a b : Int) (w : World) : Calls Tryz.prog 158 #[stV ⟨4, v, n, o, a, b⟩] w (BelP w (if4 o a b) true) := by
  go_enter Tryz.func158, Tryz.ntmps158
  go_wp2
  go_ret2
  exact ⟨rfl, (Below.refl _ _).alloc (Nat.le_refl _) _⟩
set_option maxHeartbeats 400000 in
theorem of5 (v n o a b : Int) (w : World) : Calls Tryz.prog 158 #[stV ⟨5, v, n, o, a, b⟩] w (BelP w (if5 n) true) := by
  go_enter Tryz.func158, Tryz.ntmps158
  go_wp2
  go_ret2
  exact ⟨rfl, (Below.refl _ _).alloc (Nat.le_refl _) _⟩
set_option maxHeartbeats 400000 in
theorem of6 (v n o a b : Int) (w : World) : Calls Tryz.prog 158 #[stV ⟨6, v, n, o, a, b⟩] w (BelP w (if6 ) true) := by
  go_enter Tryz.func158, Tryz.ntmps158
  go_wp2
  go_ret2
  exact ⟨rfl, (Below.refl _ _).alloc (Nat.le_refl _) _⟩
set_option maxHeartbeats 400000 in
theorem of7 (k v n o a b : Int) (h1 : (k == 1) = false) (h2 : (k == 2) = false) (h3 : (k == 3) = false) (h4 : (k == 4) = false) (h5 : (k == 5) = false) (h6 : (k == 6) = false) (w : World) : Calls Tryz.prog 158 #[stV ⟨k, v, n, o, a, b⟩] w (BelP w .nilIface false) := by
  go_enter Tryz.func158, Tryz.ntmps158
  go_wp2
  go_ret2
  exact ⟨rfl, (Below.refl _ _).alloc (Nat.le_refl _) _⟩

section fields_
theorem as1_yes (v : Value) (w : World) : (Instr.typeAssert (.iface 183 v) 145 183 true).run Tryz.prog w = .ok (.tuple #[v, .bool true]) w := by kernel_rfl
theorem as2_yes (v : Value) (w : World) : (Instr.typeAssert (.iface 185 v) 145 185 true).run Tryz.prog w = .ok (.tuple #[v, .bool true]) w := by kernel_rfl
theorem as2_no1 (v : Value) (w : World) : (Instr.typeAssert (.iface 185 v) 145 183 true).run Tryz.prog w = .ok (.tuple #[.agg #[.int .i64 0, .int .i64 0, .int .i64 0, .int .i64 0], .bool false]) w := by kernel_rfl
theorem as3_yes (v : Value) (w : World) : (Instr.typeAssert (.iface 187 v) 145 187 true).run Tryz.prog w = .ok (.tuple #[v, .bool true]) w := by kernel_rfl
theorem as3_no1 (v : Value) (w : World) : (Instr.typeAssert (.iface 187 v) 145 183 true).run Tryz.prog w = .ok (.tuple #[.agg #[.int .i64 0, .int .i64 0, .int .i64 0, .int .i64 0], .bool false]) w := by kernel_rfl
theorem as3_no2 (v : Value) (w : World) : (Instr.typeAssert (.iface 187 v) 145 185 true).run Tryz.prog w = .ok (.tuple #[.agg #[.int .i64 0, .int .i64 0], .bool false]) w := by kernel_rfl
theorem as4_yes (v : Value) (w : World) : (Instr.typeAssert (.iface 189 v) 145 189 true).run Tryz.prog w = .ok (.tuple #[v, .bool true]) w := by kernel_rfl
theorem as4_no1 (v : Value) (w : World) : (Instr.typeAssert (.iface 189 v) 145 183 true).run Tryz.prog w = .ok (.tuple #[.agg #[.int .i64 0, .int .i64 0, .int .i64 0, .int .i64 0], .bool false]) w := by kernel_rfl
theorem as4_no2 (v : Value) (w : World) : (Instr.typeAssert (.iface 189 v) 145 185 true).run Tryz.prog w = .ok (.tuple #[.agg #[.int .i64 0, .int .i64 0], .bool false]) w := by kernel_rfl
theorem as4_no3 (v : Value) (w : World) : (Instr.typeAssert (.iface 189 v) 145 187 true).run Tryz.prog w = .ok (.tuple #[.agg #[.int .i64 0, .int .i64 0, .int .i64 0], .bool false]) w := by kernel_rfl
theorem as5_yes (v : Value) (w : World) : (Instr.typeAssert (.iface 191 v) 145 191 true).run Tryz.prog w = .ok (.tuple #[v, .bool true]) w := by kernel_rfl
theorem as5_no1 (v : Value) (w : World) : (Instr.typeAssert (.iface 191 v) 145 183 true).run Tryz.prog w = .ok (.tuple #[.agg #[.int .i64 0, .int .i64 0, .int .i64 0, .int .i64 0], .bool false]) w := by kernel_rfl
theorem as5_no2 (v : Value) (w : World) : (Instr.typeAssert (.iface 191 v) 145 185 true).run Tryz.prog w = .ok (.tuple #[.agg #[.int .i64 0, .int .i64 0], .bool false]) w := by kernel_rfl
theorem as5_no3 (v : Value) (w : World) : (Instr.typeAssert (.iface 191 v) 145 187 true).run Tryz.prog w = .ok (.tuple #[.agg #[.int .i64 0, .int .i64 0, .int .i64 0], .bool false]) w := by kernel_rfl
theorem as5_no4 (v : Value) (w : World) : (Instr.typeAssert (.iface 191 v) 145 189 true).run Tryz.prog w = .ok (.tuple #[.agg #[.int .i64 0, .int .i64 0, .int .i64 0], .bool false]) w := by kernel_rfl
theorem as6_yes (v : Value) (w : World) : (Instr.typeAssert (.iface 193 v) 145 193 true).run Tryz.prog w = .ok (.tuple #[v, .bool true]) w := by kernel_rfl
theorem as6_no1 (v : Value) (w : World) : (Instr.typeAssert (.iface 193 v) 145 183 true).run Tryz.prog w = .ok (.tuple #[.agg #[.int .i64 0, .int .i64 0, .int .i64 0, .int .i64 0], .bool false]) w := by kernel_rfl
theorem as6_no2 (v : Value) (w : World) : (Instr.typeAssert (.iface 193 v) 145 185 true).run Tryz.prog w = .ok (.tuple #[.agg #[.int .i64 0, .int .i64 0], .bool false]) w := by kernel_rfl
theorem as6_no3 (v : Value) (w : World) : (Instr.typeAssert (.iface 193 v) 145 187 true).run Tryz.prog w = .ok (.tuple #[.agg #[.int .i64 0, .int .i64 0, .int .i64 0], .bool false]) w := by kernel_rfl
theorem as6_no4 (v : Value) (w : World) : (Instr.typeAssert (.iface 193 v) 145 189 true).run Tryz.prog w = .ok (.tuple #[.agg #[.int .i64 0, .int .i64 0, .int .i64 0], .bool false]) w := by kernel_rfl
theorem as6_no5 (v : Value) (w : World) : (Instr.typeAssert (.iface 193 v) 145 191 true).run Tryz.prog w = .ok (.tuple #[.agg #[.int .i64 0], .bool false]) w := by kernel_rfl
theorem varnum (v : Int) (r : Bool) (hr : varOk v = r) (w : World) : Calls Tryz.prog 181 #[.int .i64 v] w (RetB w r) := by
  subst hr
  rcases (show v < 0 ∨ 7 < v ∨ (0 ≤ v ∧ v ≤ 7) by omega) with h | h | ⟨h, h2⟩
  · have HE := Lib.hid (show varOk v = false by simp [varOk]; omega)
    go_enter Tryz.func181, Tryz.ntmps181
    go_wp2
    go_ret
    exact ⟨by rw [HE.out]; rfl, rfl⟩
  · have HE := Lib.hid (show varOk v = false by simp [varOk]; omega)
    have h' : decide (v < 8) = false := by simp; omega
    go_enter Tryz.func181, Tryz.ntmps181
    go_wp2
    go_ret
    exact ⟨by rw [HE.out]; simp, rfl⟩
  · have HE := Lib.hid (show varOk v = true by simp [varOk]; omega)
    have h3 : v < 8 := by omega
    go_enter Tryz.func181, Tryz.ntmps181
    go_wp2
    go_ret
    exact ⟨by rw [HE.out]; rfl, rfl⟩
theorem sensnum (v : Int) (r : Bool) (hr : (decide (0 ≤ v) && decide (v ≤ 3)) = r) (w : World) : Calls Tryz.prog 154 #[.int .i64 v] w (RetB w r) := by
  subst hr
  rcases (show v < 0 ∨ 3 < v ∨ (0 ≤ v ∧ v ≤ 3) by omega) with h | h | ⟨h, h2⟩
  · have HE := Lib.hid (show (decide (0 ≤ v) && decide (v ≤ 3)) = false by simp; omega)
    go_enter Tryz.func154, Tryz.ntmps154
    go_wp2
    go_ret
    exact ⟨by rw [HE.out]; rfl, rfl⟩
  · have HE := Lib.hid (show (decide (0 ≤ v) && decide (v ≤ 3)) = false by simp; omega)
    have h' : decide (v < 4) = false := by simp; omega
    go_enter Tryz.func154, Tryz.ntmps154
    go_wp2
    go_ret
    exact ⟨by rw [HE.out]; simp, rfl⟩
  · have HE := Lib.hid (show (decide (0 ≤ v) && decide (v ≤ 3)) = true by simp; omega)
    have h3 : v < 4 := by omega
    go_enter Tryz.func154, Tryz.ntmps154
    go_wp2
    go_ret
    exact ⟨by rw [HE.out]; rfl, rfl⟩
set_option maxHeartbeats 1000000 in
theorem fields1 (v o a b : Int) (r : Bool) (hr : (varOk v && exprOk o a b) = r) (w : World) : Calls Tryz.prog 159 #[if1 v o a b] w (BelB w r) := by
  subst hr
  have t1 := as1_yes (.agg #[.int .i64 v, .int .i64 o, .int .i64 a, .int .i64 b])
  cases hv : varOk v <;> cases he : exprOk o a b
  all_goals
    have HV := Lib.hid hv
    clear hv
    go_enter Tryz.func159, Tryz.ntmps159
    go_wp2_with (first
      | (go_at_call 181; refine (varnum _ _ HV.out _).mono ?_; rintro e w2 ⟨rfl, rfl⟩)
      | (go_at_call 106; refine (impl_exprok _ _ _ _ he _).mono ?_; rintro e w3 ⟨rfl, hb3⟩))
    go_ret
    first
      | exact ⟨rfl, ((Below.refl _ _).alloc (Nat.le_refl _) _)⟩
      | exact ⟨rfl, below_then ((Below.refl _ _).alloc (Nat.le_refl _) _) hb3⟩
      | exact ⟨by simp; try omega, ((Below.refl _ _).alloc (Nat.le_refl _) _)⟩
set_option maxHeartbeats 1000000 in
theorem fields2 (v n : Int) (r : Bool) (hr : (varOk v && (decide (0 ≤ n) && decide (n ≤ 3))) = r) (w : World) : Calls Tryz.prog 159 #[if2 v n] w (BelB w r) := by
  subst hr
  have t2 := as2_yes (.agg #[.int .i64 v, .int .i64 n])
  have t1 := as2_no1 (.agg #[.int .i64 v, .int .i64 n])
  cases hv : varOk v <;> cases he : (decide (0 ≤ n) && decide (n ≤ 3))
  all_goals
    have HV := Lib.hid hv
    clear hv
    go_enter Tryz.func159, Tryz.ntmps159
    go_wp2_with (first
      | (go_at_call 181; refine (varnum _ _ HV.out _).mono ?_; rintro e w2 ⟨rfl, rfl⟩)
      | (go_at_call 154; refine (sensnum _ _ he _).mono ?_; rintro e w2 ⟨rfl, rfl⟩))
    go_ret
    first
      | exact ⟨rfl, ((Below.refl _ _).alloc (Nat.le_refl _) _)⟩
      | exact ⟨rfl, below_then ((Below.refl _ _).alloc (Nat.le_refl _) _) hb3⟩
      | exact ⟨by simp; try omega, ((Below.refl _ _).alloc (Nat.le_refl _) _)⟩
set_option maxHeartbeats 1000000 in
theorem fields3 (o a b : Int) (r : Bool) (hr : (exprOk o a b) = r) (w : World) : Calls Tryz.prog 159 #[if3 o a b] w (BelB w r) := by
  subst hr
  have t3 := as3_yes (.agg #[.int .i64 o, .int .i64 a, .int .i64 b])
  have t1 := as3_no1 (.agg #[.int .i64 o, .int .i64 a, .int .i64 b])
  have t2 := as3_no2 (.agg #[.int .i64 o, .int .i64 a, .int .i64 b])
  cases he : exprOk o a b
  all_goals
    go_enter Tryz.func159, Tryz.ntmps159
    go_wp2_with (first
      | (go_at_call 106; refine (impl_exprok _ _ _ _ he _).mono ?_; rintro e w3 ⟨rfl, hb3⟩))
    go_ret
    first
      | exact ⟨rfl, ((Below.refl _ _).alloc (Nat.le_refl _) _)⟩
      | exact ⟨rfl, below_then ((Below.refl _ _).alloc (Nat.le_refl _) _) hb3⟩
      | exact ⟨by simp; try omega, ((Below.refl _ _).alloc (Nat.le_refl _) _)⟩
set_option maxHeartbeats 1000000 in
theorem fields4 (o a b : Int) (r : Bool) (hr : (exprOk o a b) = r) (w : World) : Calls Tryz.prog 159 #[if4 o a b] w (BelB w r) := by
  subst hr
  have t4 := as4_yes (.agg #[.int .i64 o, .int .i64 a, .int .i64 b])
  have t1 := as4_no1 (.agg #[.int .i64 o, .int .i64 a, .int .i64 b])
  have t2 := as4_no2 (.agg #[.int .i64 o, .int .i64 a, .int .i64 b])
  have t3 := as4_no3 (.agg #[.int .i64 o, .int .i64 a, .int .i64 b])
  cases he : exprOk o a b
  all_goals
    go_enter Tryz.func159, Tryz.ntmps159
    go_wp2_with (first
      | (go_at_call 106; refine (impl_exprok _ _ _ _ he _).mono ?_; rintro e w3 ⟨rfl, hb3⟩))
    go_ret
    first
      | exact ⟨rfl, ((Below.refl _ _).alloc (Nat.le_refl _) _)⟩
      | exact ⟨rfl, below_then ((Below.refl _ _).alloc (Nat.le_refl _) _) hb3⟩
      | exact ⟨by simp; try omega, ((Below.refl _ _).alloc (Nat.le_refl _) _)⟩
set_option maxHeartbeats 1000000 in
theorem fields5 (n : Int) (r : Bool) (hr : (decide (1 ≤ n) && decide (n ≤ 5)) = r) (w : World) : Calls Tryz.prog 159 #[if5 n] w (BelB w r) := by
  subst hr
  have t5 := as5_yes (.agg #[.int .i64 n])
  have t1 := as5_no1 (.agg #[.int .i64 n])
  have t2 := as5_no2 (.agg #[.int .i64 n])
  have t3 := as5_no3 (.agg #[.int .i64 n])
  have t4 := as5_no4 (.agg #[.int .i64 n])
  rcases (show n < 1 ∨ 5 < n ∨ (1 ≤ n ∧ n ≤ 5) by omega) with h | h | ⟨h, h2⟩
  all_goals
    first | have hd : decide (n ≤ 5) = false := by simp; omega | skip
    go_enter Tryz.func159, Tryz.ntmps159
    go_wp2
    go_ret
    first
      | exact ⟨rfl, ((Below.refl _ _).alloc (Nat.le_refl _) _)⟩
      | exact ⟨rfl, below_then ((Below.refl _ _).alloc (Nat.le_refl _) _) hb3⟩
      | exact ⟨by simp; try omega, ((Below.refl _ _).alloc (Nat.le_refl _) _)⟩
set_option maxHeartbeats 1000000 in
theorem fields6 (r : Bool) (hr : (true) = r) (w : World) : Calls Tryz.prog 159 #[if6 ] w (BelB w r) := by
  subst hr
  have t6 := as6_yes (.agg #[])
  have t1 := as6_no1 (.agg #[])
  have t2 := as6_no2 (.agg #[])
  have t3 := as6_no3 (.agg #[])
  have t4 := as6_no4 (.agg #[])
  have t5 := as6_no5 (.agg #[])
  go_enter Tryz.func159, Tryz.ntmps159
  go_wp2
  go_ret
  first
    | exact ⟨rfl, ((Below.refl _ _).alloc (Nat.le_refl _) _)⟩
    | exact ⟨rfl, below_then ((Below.refl _ _).alloc (Nat.le_refl _) _) hb3⟩
    | exact ⟨by simp; try omega, ((Below.refl _ _).alloc (Nat.le_refl _) _)⟩
end fields_
end Go.Proofs.YtekdnhhmiabngaaGreat.stm
