/- Several texts in one: VEvalC. -/
import Derived.Test.YtmgeecdgebemdaaGreatDoorGSigV6
import Derived.Deep.QuietTactic
import Derived.BigQuiet

/- Chapter 3's EvalExpr of the program: the plain function 'evalV'; nothing that was there is written. -/
namespace Go.Proofs.YtmgeecdgebemdaaGreatDoor.expr
open Go.ChangeShapes Go.WideShapes Go.ChangeAt Go.RowKit Go.Proofs.YtmgeecdgebemdaaGreatDoor.row Go.Proofs.YtmgeecdgebemdaaGreatDoor.val
theorem retq {P : Program} {f : FuncId} {args : Array Value} {w : World} {x : Int} (h : Calls P f args w (Ret w x)) : Calls P f args w fun e w' => e = .returned (.int .i64 x) ∧ w' = w := h.mono fun _ _ ⟨a, b⟩ => ⟨a, b.symm⟩
set_option maxHeartbeats 1000000 in
set_option maxRecDepth 100000 in
theorem impl_evalExpr (w : World) (ad : Option Addr) (n cap : Nat) (L : List Int) (hn : (n : Int) ≤ 1048576) (h : Row w ad n L) (o a b : Int) :
    Calls Tryz.prog 149 #[.slice ad n cap, ev o a b] w (BelI w (evalV L o a b)) := by
  have HR : Hid (∀ w' : World, Below w.heap.size w w' → Row w' ad n L) := fun w' hb => h.below hb
  clear h
  cases hv : varsOk L
  · have HV := Lib.hid (evalV_no (o := o) (a := a) (b := b) (Or.inl hv))
    go_enter Tryz.func149, Tryz.ntmps149
    go_wp2_with (go_at_call 108; refine (impl_vars _ _ _ _ L hn (HR.out _ ((Below.refl _ _).alloc (Nat.le_refl _) _)) _ hv).mono ?_; rintro e w1 ⟨rfl, rfl⟩)
    go_ret
    exact ⟨ret_i HV.out.symm, (Below.refl _ _).alloc (Nat.le_refl _) _⟩
  · cases he : exprOk o a b
    · have HV := Lib.hid (evalV_no (L := L) (Or.inr he))
      go_enter Tryz.func149, Tryz.ntmps149
      go_wp2_with (first
        | (go_at_call 108; refine (impl_vars _ _ _ _ L hn (HR.out _ ((Below.refl _ _).alloc (Nat.le_refl _) _)) _ hv).mono ?_; rintro e w1 ⟨rfl, rfl⟩)
        | (go_at_call 180; refine (impl_exprok _ _ _ _ he _).mono ?_; rintro e w1 ⟨rfl, hb1⟩))
      go_ret
      exact ⟨ret_i HV.out.symm, ((Below.refl _ _).alloc (Nat.le_refl _) _).trans (hb1.mono (by simp))⟩
    · obtain ⟨ho, ha, hb⟩ := (exprOk_iff o a b).1 he
      have HV := Lib.hid (evalV_ok hv he)
      have HA := Lib.hid (opndVal_ok ha hv)
      have HB := Lib.hid (opndVal_ok hb hv)
      clear ha hb
      have i1 : ∀ w, (Instr.index 212 opsV (.int .i64 1)).run Tryz.prog w = .ok (.func (.func 184) #[] #[]) w := fun _ => by kernel_rfl
      have i2 : ∀ w, (Instr.index 212 opsV (.int .i64 2)).run Tryz.prog w = .ok (.func (.func 225) #[] #[]) w := fun _ => by kernel_rfl
      have i3 : ∀ w, (Instr.index 212 opsV (.int .i64 3)).run Tryz.prog w = .ok (.func (.func 226) #[] #[]) w := fun _ => by kernel_rfl
      have i4 : ∀ w, (Instr.index 212 opsV (.int .i64 4)).run Tryz.prog w = .ok (.func (.func 227) #[] #[]) w := fun _ => by kernel_rfl
      have i5 : ∀ w, (Instr.index 212 opsV (.int .i64 5)).run Tryz.prog w = .ok (.func (.func 228) #[] #[]) w := fun _ => by kernel_rfl
      have i6 : ∀ w, (Instr.index 212 opsV (.int .i64 6)).run Tryz.prog w = .ok (.func (.func 229) #[] #[]) w := fun _ => by kernel_rfl
      have i7 : ∀ w, (Instr.index 212 opsV (.int .i64 7)).run Tryz.prog w = .ok (.func (.func 230) #[] #[]) w := fun _ => by kernel_rfl
      rcases (show o = 1 ∨ o = 2 ∨ o = 3 ∨ o = 4 ∨ o = 5 ∨ o = 6 ∨ o = 7 by omega) with rfl | rfl | rfl | rfl | rfl | rfl | rfl
      · clear ho
        go_enter Tryz.func149, Tryz.ntmps149
        go_wp2_with (first
          | (go_at_call 108; refine (impl_vars _ _ _ _ L hn (HR.out _ ((Below.refl _ _).alloc (Nat.le_refl _) _)) _ hv).mono ?_; rintro e w1 ⟨rfl, rfl⟩)
          | (go_at_call 180; refine (impl_exprok _ _ _ _ he _).mono ?_; rintro e w1 ⟨rfl, hb1⟩
             have hbw : Below w.heap.size w w1 := ((Below.refl _ _).alloc (Nat.le_refl _) _).trans (hb1.mono (by simp))
             have hlt : w.heap.size < w1.heap.size := by have := hb1.size; simp at this; omega
             have hbx : w1.cell? ⟨w.heap.size, 0, none⟩ = some (.int .i64 1) := (hb1.cell (by simp)).trans (new_cell w _ _ _)
             have hby : w1.cell? ⟨w.heap.size, 1, none⟩ = some (.int .i64 a) := (hb1.cell (by simp)).trans (new_cell w _ _ _)
             have hbz : w1.cell? ⟨w.heap.size, 2, none⟩ = some (.int .i64 b) := (hb1.cell (by simp)).trans (new_cell w _ _ _)
             clear hb1))
        go_region_held3 (fun w' => w'.cell? ⟨w.heap.size, 0, none⟩ = some (.int .i64 1)) (first | go_keep | (rw [hb2.cell (by simp; omega)]; assumption))
          (first | (go_at_call 195; refine (impl_ops _).mono ?_; rintro e w2 ⟨rfl, hb2⟩))
        have hb2' : Below w1.heap.size w1 w2 := (Below.drew (Below.refl _ w1)).trans hb2
        have hcy : w2.cell? ⟨w.heap.size, 1, none⟩ = some (.int .i64 a) := (hb2'.cell hlt).trans hby
        have hcz : w2.cell? ⟨w.heap.size, 2, none⟩ = some (.int .i64 b) := (hb2'.cell hlt).trans hbz
        have hbw2 : Below w.heap.size w w2 := hbw.trans (hb2'.mono hbw.size)
        have HR2 := Lib.hid (HR.out _ hbw2)
        clear hbx hby hbz hb2 hb2'
        go_wp2
        go_quiet ((first
          | (go_at_call 196; exact Calls.quiet_of_same (retq (impl_opval _ ad n cap L hn (Row.drewN HR2.out _) _)))
          | (go_at_call 184; exact Calls.quiet_of_same (retq (impl_add _ _ _)))))
        go_wp2
        go_ret
        refine ⟨ret_i ?_, below_drewN hbw2 _⟩
        rw [HV.out, ev1, ← HA.out, ← HB.out]
      · clear ho
        go_enter Tryz.func149, Tryz.ntmps149
        go_wp2_with (first
          | (go_at_call 108; refine (impl_vars _ _ _ _ L hn (HR.out _ ((Below.refl _ _).alloc (Nat.le_refl _) _)) _ hv).mono ?_; rintro e w1 ⟨rfl, rfl⟩)
          | (go_at_call 180; refine (impl_exprok _ _ _ _ he _).mono ?_; rintro e w1 ⟨rfl, hb1⟩
             have hbw : Below w.heap.size w w1 := ((Below.refl _ _).alloc (Nat.le_refl _) _).trans (hb1.mono (by simp))
             have hlt : w.heap.size < w1.heap.size := by have := hb1.size; simp at this; omega
             have hbx : w1.cell? ⟨w.heap.size, 0, none⟩ = some (.int .i64 2) := (hb1.cell (by simp)).trans (new_cell w _ _ _)
             have hby : w1.cell? ⟨w.heap.size, 1, none⟩ = some (.int .i64 a) := (hb1.cell (by simp)).trans (new_cell w _ _ _)
             have hbz : w1.cell? ⟨w.heap.size, 2, none⟩ = some (.int .i64 b) := (hb1.cell (by simp)).trans (new_cell w _ _ _)
             clear hb1))
        go_region_held3 (fun w' => w'.cell? ⟨w.heap.size, 0, none⟩ = some (.int .i64 2)) (first | go_keep | (rw [hb2.cell (by simp; omega)]; assumption))
          (first | (go_at_call 195; refine (impl_ops _).mono ?_; rintro e w2 ⟨rfl, hb2⟩))
        have hb2' : Below w1.heap.size w1 w2 := (Below.drew (Below.refl _ w1)).trans hb2
        have hcy : w2.cell? ⟨w.heap.size, 1, none⟩ = some (.int .i64 a) := (hb2'.cell hlt).trans hby
        have hcz : w2.cell? ⟨w.heap.size, 2, none⟩ = some (.int .i64 b) := (hb2'.cell hlt).trans hbz
        have hbw2 : Below w.heap.size w w2 := hbw.trans (hb2'.mono hbw.size)
        have HR2 := Lib.hid (HR.out _ hbw2)
        clear hbx hby hbz hb2 hb2'
        go_wp2
        go_quiet ((first
          | (go_at_call 196; exact Calls.quiet_of_same (retq (impl_opval _ ad n cap L hn (Row.drewN HR2.out _) _)))
          | (go_at_call 225; exact Calls.quiet_of_same (retq (impl_sub _ _ _)))))
        go_wp2
        go_ret
        refine ⟨ret_i ?_, below_drewN hbw2 _⟩
        rw [HV.out, ev2, ← HA.out, ← HB.out]
      · clear ho
        go_enter Tryz.func149, Tryz.ntmps149
        go_wp2_with (first
          | (go_at_call 108; refine (impl_vars _ _ _ _ L hn (HR.out _ ((Below.refl _ _).alloc (Nat.le_refl _) _)) _ hv).mono ?_; rintro e w1 ⟨rfl, rfl⟩)
          | (go_at_call 180; refine (impl_exprok _ _ _ _ he _).mono ?_; rintro e w1 ⟨rfl, hb1⟩
             have hbw : Below w.heap.size w w1 := ((Below.refl _ _).alloc (Nat.le_refl _) _).trans (hb1.mono (by simp))
             have hlt : w.heap.size < w1.heap.size := by have := hb1.size; simp at this; omega
             have hbx : w1.cell? ⟨w.heap.size, 0, none⟩ = some (.int .i64 3) := (hb1.cell (by simp)).trans (new_cell w _ _ _)
             have hby : w1.cell? ⟨w.heap.size, 1, none⟩ = some (.int .i64 a) := (hb1.cell (by simp)).trans (new_cell w _ _ _)
             have hbz : w1.cell? ⟨w.heap.size, 2, none⟩ = some (.int .i64 b) := (hb1.cell (by simp)).trans (new_cell w _ _ _)
             clear hb1))
        go_region_held3 (fun w' => w'.cell? ⟨w.heap.size, 0, none⟩ = some (.int .i64 3)) (first | go_keep | (rw [hb2.cell (by simp; omega)]; assumption))
          (first | (go_at_call 195; refine (impl_ops _).mono ?_; rintro e w2 ⟨rfl, hb2⟩))
        have hb2' : Below w1.heap.size w1 w2 := (Below.drew (Below.refl _ w1)).trans hb2
        have hcy : w2.cell? ⟨w.heap.size, 1, none⟩ = some (.int .i64 a) := (hb2'.cell hlt).trans hby
        have hcz : w2.cell? ⟨w.heap.size, 2, none⟩ = some (.int .i64 b) := (hb2'.cell hlt).trans hbz
        have hbw2 : Below w.heap.size w w2 := hbw.trans (hb2'.mono hbw.size)
        have HR2 := Lib.hid (HR.out _ hbw2)
        clear hbx hby hbz hb2 hb2'
        go_wp2
        go_quiet ((first
          | (go_at_call 196; exact Calls.quiet_of_same (retq (impl_opval _ ad n cap L hn (Row.drewN HR2.out _) _)))
          | (go_at_call 226; exact Calls.quiet_of_same (retq (impl_mul _ _ _)))))
        go_wp2
        go_ret
        refine ⟨ret_i ?_, below_drewN hbw2 _⟩
        rw [HV.out, ev3, ← HA.out, ← HB.out]
      · clear ho
        go_enter Tryz.func149, Tryz.ntmps149
        go_wp2_with (first
          | (go_at_call 108; refine (impl_vars _ _ _ _ L hn (HR.out _ ((Below.refl _ _).alloc (Nat.le_refl _) _)) _ hv).mono ?_; rintro e w1 ⟨rfl, rfl⟩)
          | (go_at_call 180; refine (impl_exprok _ _ _ _ he _).mono ?_; rintro e w1 ⟨rfl, hb1⟩
             have hbw : Below w.heap.size w w1 := ((Below.refl _ _).alloc (Nat.le_refl _) _).trans (hb1.mono (by simp))
             have hlt : w.heap.size < w1.heap.size := by have := hb1.size; simp at this; omega
             have hbx : w1.cell? ⟨w.heap.size, 0, none⟩ = some (.int .i64 4) := (hb1.cell (by simp)).trans (new_cell w _ _ _)
             have hby : w1.cell? ⟨w.heap.size, 1, none⟩ = some (.int .i64 a) := (hb1.cell (by simp)).trans (new_cell w _ _ _)
             have hbz : w1.cell? ⟨w.heap.size, 2, none⟩ = some (.int .i64 b) := (hb1.cell (by simp)).trans (new_cell w _ _ _)
             clear hb1))
        go_region_held3 (fun w' => w'.cell? ⟨w.heap.size, 0, none⟩ = some (.int .i64 4)) (first | go_keep | (rw [hb2.cell (by simp; omega)]; assumption))
          (first | (go_at_call 195; refine (impl_ops _).mono ?_; rintro e w2 ⟨rfl, hb2⟩))
        have hb2' : Below w1.heap.size w1 w2 := (Below.drew (Below.refl _ w1)).trans hb2
        have hcy : w2.cell? ⟨w.heap.size, 1, none⟩ = some (.int .i64 a) := (hb2'.cell hlt).trans hby
        have hcz : w2.cell? ⟨w.heap.size, 2, none⟩ = some (.int .i64 b) := (hb2'.cell hlt).trans hbz
        have hbw2 : Below w.heap.size w w2 := hbw.trans (hb2'.mono hbw.size)
        have HR2 := Lib.hid (HR.out _ hbw2)
        clear hbx hby hbz hb2 hb2'
        go_wp2
        go_quiet ((first
          | (go_at_call 196; exact Calls.quiet_of_same (retq (impl_opval _ ad n cap L hn (Row.drewN HR2.out _) _)))
          | (go_at_call 227; exact Calls.quiet_of_same (retq (impl_min _ _ _)))))
        go_wp2
        go_ret
        refine ⟨ret_i ?_, below_drewN hbw2 _⟩
        rw [HV.out, ev4, ← HA.out, ← HB.out]
      · clear ho
        go_enter Tryz.func149, Tryz.ntmps149
        go_wp2_with (first
          | (go_at_call 108; refine (impl_vars _ _ _ _ L hn (HR.out _ ((Below.refl _ _).alloc (Nat.le_refl _) _)) _ hv).mono ?_; rintro e w1 ⟨rfl, rfl⟩)
          | (go_at_call 180; refine (impl_exprok _ _ _ _ he _).mono ?_; rintro e w1 ⟨rfl, hb1⟩
             have hbw : Below w.heap.size w w1 := ((Below.refl _ _).alloc (Nat.le_refl _) _).trans (hb1.mono (by simp))
             have hlt : w.heap.size < w1.heap.size := by have := hb1.size; simp at this; omega
             have hbx : w1.cell? ⟨w.heap.size, 0, none⟩ = some (.int .i64 5) := (hb1.cell (by simp)).trans (new_cell w _ _ _)
             have hby : w1.cell? ⟨w.heap.size, 1, none⟩ = some (.int .i64 a) := (hb1.cell (by simp)).trans (new_cell w _ _ _)
             have hbz : w1.cell? ⟨w.heap.size, 2, none⟩ = some (.int .i64 b) := (hb1.cell (by simp)).trans (new_cell w _ _ _)
             clear hb1))
        go_region_held3 (fun w' => w'.cell? ⟨w.heap.size, 0, none⟩ = some (.int .i64 5)) (first | go_keep | (rw [hb2.cell (by simp; omega)]; assumption))
          (first | (go_at_call 195; refine (impl_ops _).mono ?_; rintro e w2 ⟨rfl, hb2⟩))
        have hb2' : Below w1.heap.size w1 w2 := (Below.drew (Below.refl _ w1)).trans hb2
        have hcy : w2.cell? ⟨w.heap.size, 1, none⟩ = some (.int .i64 a) := (hb2'.cell hlt).trans hby
        have hcz : w2.cell? ⟨w.heap.size, 2, none⟩ = some (.int .i64 b) := (hb2'.cell hlt).trans hbz
        have hbw2 : Below w.heap.size w w2 := hbw.trans (hb2'.mono hbw.size)
        have HR2 := Lib.hid (HR.out _ hbw2)
        clear hbx hby hbz hb2 hb2'
        go_wp2
        go_quiet ((first
          | (go_at_call 196; exact Calls.quiet_of_same (retq (impl_opval _ ad n cap L hn (Row.drewN HR2.out _) _)))
          | (go_at_call 228; exact Calls.quiet_of_same (retq (impl_max _ _ _)))))
        go_wp2
        go_ret
        refine ⟨ret_i ?_, below_drewN hbw2 _⟩
        rw [HV.out, ev5, ← HA.out, ← HB.out]
      · clear ho
        go_enter Tryz.func149, Tryz.ntmps149
        go_wp2_with (first
          | (go_at_call 108; refine (impl_vars _ _ _ _ L hn (HR.out _ ((Below.refl _ _).alloc (Nat.le_refl _) _)) _ hv).mono ?_; rintro e w1 ⟨rfl, rfl⟩)
          | (go_at_call 180; refine (impl_exprok _ _ _ _ he _).mono ?_; rintro e w1 ⟨rfl, hb1⟩
             have hbw : Below w.heap.size w w1 := ((Below.refl _ _).alloc (Nat.le_refl _) _).trans (hb1.mono (by simp))
             have hlt : w.heap.size < w1.heap.size := by have := hb1.size; simp at this; omega
             have hbx : w1.cell? ⟨w.heap.size, 0, none⟩ = some (.int .i64 6) := (hb1.cell (by simp)).trans (new_cell w _ _ _)
             have hby : w1.cell? ⟨w.heap.size, 1, none⟩ = some (.int .i64 a) := (hb1.cell (by simp)).trans (new_cell w _ _ _)
             have hbz : w1.cell? ⟨w.heap.size, 2, none⟩ = some (.int .i64 b) := (hb1.cell (by simp)).trans (new_cell w _ _ _)
             clear hb1))
        go_region_held3 (fun w' => w'.cell? ⟨w.heap.size, 0, none⟩ = some (.int .i64 6)) (first | go_keep | (rw [hb2.cell (by simp; omega)]; assumption))
          (first | (go_at_call 195; refine (impl_ops _).mono ?_; rintro e w2 ⟨rfl, hb2⟩))
        have hb2' : Below w1.heap.size w1 w2 := (Below.drew (Below.refl _ w1)).trans hb2
        have hcy : w2.cell? ⟨w.heap.size, 1, none⟩ = some (.int .i64 a) := (hb2'.cell hlt).trans hby
        have hcz : w2.cell? ⟨w.heap.size, 2, none⟩ = some (.int .i64 b) := (hb2'.cell hlt).trans hbz
        have hbw2 : Below w.heap.size w w2 := hbw.trans (hb2'.mono hbw.size)
        have HR2 := Lib.hid (HR.out _ hbw2)
        clear hbx hby hbz hb2 hb2'
        go_wp2
        go_quiet ((first
          | (go_at_call 196; exact Calls.quiet_of_same (retq (impl_opval _ ad n cap L hn (Row.drewN HR2.out _) _)))
          | (go_at_call 229; exact Calls.quiet_of_same (retq (impl_less _ _ _)))))
        go_wp2
        go_ret
        refine ⟨ret_i ?_, below_drewN hbw2 _⟩
        rw [HV.out, ev6, ← HA.out, ← HB.out]
      · clear ho
        go_enter Tryz.func149, Tryz.ntmps149
        go_wp2_with (first
          | (go_at_call 108; refine (impl_vars _ _ _ _ L hn (HR.out _ ((Below.refl _ _).alloc (Nat.le_refl _) _)) _ hv).mono ?_; rintro e w1 ⟨rfl, rfl⟩)
          | (go_at_call 180; refine (impl_exprok _ _ _ _ he _).mono ?_; rintro e w1 ⟨rfl, hb1⟩
             have hbw : Below w.heap.size w w1 := ((Below.refl _ _).alloc (Nat.le_refl _) _).trans (hb1.mono (by simp))
             have hlt : w.heap.size < w1.heap.size := by have := hb1.size; simp at this; omega
             have hbx : w1.cell? ⟨w.heap.size, 0, none⟩ = some (.int .i64 7) := (hb1.cell (by simp)).trans (new_cell w _ _ _)
             have hby : w1.cell? ⟨w.heap.size, 1, none⟩ = some (.int .i64 a) := (hb1.cell (by simp)).trans (new_cell w _ _ _)
             have hbz : w1.cell? ⟨w.heap.size, 2, none⟩ = some (.int .i64 b) := (hb1.cell (by simp)).trans (new_cell w _ _ _)
             clear hb1))
        go_region_held3 (fun w' => w'.cell? ⟨w.heap.size, 0, none⟩ = some (.int .i64 7)) (first | go_keep | (rw [hb2.cell (by simp; omega)]; assumption))
          (first | (go_at_call 195; refine (impl_ops _).mono ?_; rintro e w2 ⟨rfl, hb2⟩))
        have hb2' : Below w1.heap.size w1 w2 := (Below.drew (Below.refl _ w1)).trans hb2
        have hcy : w2.cell? ⟨w.heap.size, 1, none⟩ = some (.int .i64 a) := (hb2'.cell hlt).trans hby
        have hcz : w2.cell? ⟨w.heap.size, 2, none⟩ = some (.int .i64 b) := (hb2'.cell hlt).trans hbz
        have hbw2 : Below w.heap.size w w2 := hbw.trans (hb2'.mono hbw.size)
        have HR2 := Lib.hid (HR.out _ hbw2)
        clear hbx hby hbz hb2 hb2'
        go_wp2
        go_quiet ((first
          | (go_at_call 196; exact Calls.quiet_of_same (retq (impl_opval _ ad n cap L hn (Row.drewN HR2.out _) _)))
          | (go_at_call 230; exact Calls.quiet_of_same (retq (impl_same _ _ _)))))
        go_wp2
        go_ret
        refine ⟨ret_i ?_, below_drewN hbw2 _⟩
        rw [HV.out, ev7, ← HA.out, ← HB.out]
end Go.Proofs.YtmgeecdgebemdaaGreatDoor.expr
