/- For any two references FnExactSameRef returns true and leaves its arguments as they were; no condition. -/
import Derived.Test.YtlinpefeojpjnaaRows
import Derived.WalkKit
import Derived.ProofKit
import Derived.OpenShut
import Derived.ShutString
import Derived.ChangeOld
import Derived.Below
import Derived.Test.YtlinpefeojpjnaaGHub5
import Derived.Test.YtlinpefeojpjnaaGHub11
import Derived.Test.YtlinpefeojpjnaaGHub12
import Derived.Test.YtlinpefeojpjnaaGHub13
import Derived.Test.YtlinpefeojpjnaaGHub33
import Derived.Test.YtlinpefeojpjnaaGHub2
import Derived.Test.YtlinpefeojpjnaaGHub35
import Derived.Test.YtlinpefeojpjnaaGHub39
import Derived.Test.YtlinpefeojpjnaaGHub36
import Derived.Test.YtlinpefeojpjnaaGHub34
import Derived.Test.YtlinpefeojpjnaaGHub18
import Derived.Test.YtlinpefeojpjnaaGHub24
import Derived.Deep.RegionHeld3
namespace Go.Proofs.Ytlinpefeojpjnaa.fnExactSameRef
open Go.ChangeShapes Go.WideShapes Go.ChangeAt Go.RowKit
open Go.ChangeMaps (open_string shut_string)
set_option linter.unusedVariables false

theorem own : ownKnob Try.prog.godebug = none := by kernel_rfl
theorem laidOut : laidOutB Try.prog = true := by kernel_rfl

open Go.Proofs.Ytlinpefeojpjnaa.row Go.Proofs.Ytlinpefeojpjnaa.val Go.Proofs.Ytlinpefeojpjnaa.expr Go.Proofs.Ytlinpefeojpjnaa.opn Go.Proofs.Ytlinpefeojpjnaa.stm Go.Proofs.Ytlinpefeojpjnaa.blk Go.Proofs.Ytlinpefeojpjnaa.prg Go.Proofs.Ytlinpefeojpjnaa.exe Go.Proofs.Ytlinpefeojpjnaa.srow Go.Proofs.Ytlinpefeojpjnaa.ref
set_option maxHeartbeats 8000000 in
set_option maxRecDepth 100000 in
theorem walk (x0v : Value) (x1v : Value) (w : World) (w0 : IsRefV w x0v) (w1 : IsRefV w x1v) :
    Calls Try.prog 3 #[x0v, x1v] w fun e w' => e = .returned (.bool true) ∧ Below w.heap.size w w' := by
  obtain ⟨a1, n1, c1, a2, n2, c2, V, S, T, rfl, hm1, hm2, hV, hS⟩ := w0
  obtain ⟨b1, m1, d1, b2, m2, d2, V', S', T', rfl, hm3, hm4, hV', hS'⟩ := w1
  obtain ⟨A, rfl, rfl, rfl⟩ : ∃ A : Rf, A.V = V ∧ A.S = S ∧ A.T = T := ⟨⟨V, S, T⟩, rfl, rfl, rfl⟩
  obtain ⟨B, rfl, rfl, rfl⟩ : ∃ A : Rf, A.V = V' ∧ A.S = S' ∧ A.T = T' := ⟨⟨V', S', T'⟩, rfl, rfl, rfl⟩
  have HR := Lib.hid (And.intro hV (And.intro hS (And.intro hV' hS')))
  clear hV hS hV' hS'
  obtain ⟨W, hW⟩ : ∃ W, (w.alloc (.cells #[.slice a1 n1 c1, .slice a2 n2 c2, .int .i64 A.T] 24)).alloc (.cells #[.slice b1 m1 d1, .slice b2 m2 d2, .int .i64 B.T] 24) = W := ⟨_, rfl⟩
  have hBW : Below w.heap.size w W := by rw [← hW]; exact below_then (below_new w _) (below_new _ _)
  have hx : Box w.heap.size #[.slice a1 n1 c1, .slice a2 n2 c2, .int .i64 A.T] 24 W := by rw [← hW]; exact (Box.new w _ _).alloc _
  have hy : Box (w.heap.size + 1) #[.slice b1 m1 d1, .slice b2 m2 d2, .int .i64 B.T] 24 W := by
    have h9 := Box.new (w.alloc (.cells #[.slice a1 n1 c1, .slice a2 n2 c2, .int .i64 A.T] 24)) #[.slice b1 m1 d1, .slice b2 m2 d2, .int .i64 B.T] 24
    rw [World.size_alloc] at h9
    rw [← hW]; exact h9
  have hWl : w.heap.size + 1 < W.heap.size := hy.lt
  have H0 := Lib.hid (And.intro hBW (And.intro hx hy))
  clear hBW hx hy
  obtain ⟨r, hr⟩ : ∃ r, sameRf A B = r := ⟨_, rfl⟩
  have hrr : (r != r) = false := by simp
  go_enter Try.func3, Try.ntmps3
  go_wp2_with (first
    | (refine wpList_load_row rfl 24 _ rfl w.heap.size rfl _ _ _ _ H0.out.2.1 Try.underlying24 rfl (by kernel_rfl) ?_)
    | (go_at_call 6; (with_reducible refine (szref_any _ a1 n1 c1 a2 n2 c2 A.T hm1 hm2 1048576 (by decide) (by decide)).mono ?_); rintro e x1 ⟨r1, rfl, hr0, hr1, hrS, hb⟩; refine Hid.out ?_))
  have H1 := Lib.hid hb
  clear hb
  by_cases hneg : r1 < 0
  · refine Lib.hid ?_
    go_wp2
    go_ret
    exact ⟨rfl, H0.out.1.trans (H1.out.mono H0.out.1.size)⟩
  have hz1 := hrS.out (by omega)
  have HBx := Lib.hid (H0.out.2.2.below H1.out)
  refine Lib.hid ?_
  go_wp2_with (first
    | (refine wpList_load_row rfl 24 _ rfl (w.heap.size + 1) rfl _ _ _ _ HBx.out Try.underlying24 rfl (by kernel_rfl) ?_)
    | (go_at_call 6; (with_reducible refine (szref_any _ b1 m1 d1 b2 m2 d2 B.T hm3 hm4 r1 (by omega) (by omega)).mono ?_); rintro e x2 ⟨r2, rfl, hr2, hr3, hrS2, hb⟩; refine Hid.out ?_))
  have H2 := Lib.hid (below_then H1.out hb)
  clear hb HBx
  by_cases hneg2 : r2 < 0
  · refine Lib.hid ?_
    go_wp2
    go_ret
    exact ⟨rfl, H0.out.1.trans (H2.out.mono H0.out.1.size)⟩
  have hz2 := hrS2.out (by omega)
  obtain ⟨hq1, hq2⟩ := hz1
  obtain ⟨hq3, hq4⟩ := hz2
  clear hrS hrS2
  -- every later world
  have HC := Lib.hid (show ∀ w', Below W.heap.size W w' → (w'.cell? ⟨w.heap.size, 0, none⟩ = some (.slice a1 n1 c1) ∧ w'.cell? ⟨w.heap.size, 1, none⟩ = some (.slice a2 n2 c2) ∧ w'.cell? ⟨w.heap.size, 2, none⟩ = some (.int .i64 A.T)) ∧ (w'.cell? ⟨w.heap.size + 1, 0, none⟩ = some (.slice b1 m1 d1) ∧ w'.cell? ⟨w.heap.size + 1, 1, none⟩ = some (.slice b2 m2 d2) ∧ w'.cell? ⟨w.heap.size + 1, 2, none⟩ = some (.int .i64 B.T)) from fun w' hb =>
    ⟨⟨(H0.out.2.1.below hb).cell 0, (H0.out.2.1.below hb).cell 1, (H0.out.2.1.below hb).cell 2⟩, ⟨(H0.out.2.2.below hb).cell 0, (H0.out.2.2.below hb).cell 1, (H0.out.2.2.below hb).cell 2⟩⟩)
  have HTA := Lib.hid (show ∀ w', Below W.heap.size W w' → Calls Try.prog 8 #[.agg #[.slice a1 n1 c1, .slice a2 n2 c2, .int .i64 A.T]] w' (NewRef w' A) from fun w' hb => toref_new w' a1 n1 c1 a2 n2 c2 A hq1 hq2 (HR.out.1.below (H0.out.1.trans (hb.mono H0.out.1.size))) (HR.out.2.1.below (H0.out.1.trans (hb.mono H0.out.1.size))))
  have HTB := Lib.hid (show ∀ w', Below W.heap.size W w' → Calls Try.prog 8 #[.agg #[.slice b1 m1 d1, .slice b2 m2 d2, .int .i64 B.T]] w' (NewRef w' B) from fun w' hb => toref_new w' b1 m1 d1 b2 m2 d2 B hq3 hq4 (HR.out.2.2.1.below (H0.out.1.trans (hb.mono H0.out.1.size))) (HR.out.2.2.2.below (H0.out.1.trans (hb.mono H0.out.1.size))))
  have hlA : A.V.length = n1 ∧ A.S.length = n2 := ⟨HR.out.1.1, HR.out.2.1.1⟩
  have hlB : B.V.length = m1 ∧ B.S.length = m2 := ⟨HR.out.2.2.1.1, HR.out.2.2.2.1⟩
  have HD := Lib.hid (show Below x2.heap.size x2 x2.drew from Below.drew (Below.refl _ x2))
  have KEEP := Lib.hid (show ∀ w', Below x2.heap.size x2 w' → (w'.cell? ⟨w.heap.size, 0, none⟩ = some (.slice a1 n1 c1) ∧ w'.cell? ⟨w.heap.size, 1, none⟩ = some (.slice a2 n2 c2) ∧ w'.cell? ⟨w.heap.size, 2, none⟩ = some (.int .i64 A.T)) ∧ (w'.cell? ⟨w.heap.size + 1, 0, none⟩ = some (.slice b1 m1 d1) ∧ w'.cell? ⟨w.heap.size + 1, 1, none⟩ = some (.slice b2 m2 d2) ∧ w'.cell? ⟨w.heap.size + 1, 2, none⟩ = some (.int .i64 B.T)) from fun w' hb => HC.out w' (below_then H2.out hb))
  refine Lib.hid ?_
  go_wp2
  refine wp_region_held_drew (S := (fun w' => (w'.cell? ⟨w.heap.size, 0, none⟩ = some (.slice a1 n1 c1) ∧ w'.cell? ⟨w.heap.size, 1, none⟩ = some (.slice a2 n2 c2) ∧ w'.cell? ⟨w.heap.size, 2, none⟩ = some (.int .i64 A.T)) ∧ (w'.cell? ⟨w.heap.size + 1, 0, none⟩ = some (.slice b1 m1 d1) ∧ w'.cell? ⟨w.heap.size + 1, 1, none⟩ = some (.slice b2 m2 d2) ∧ w'.cell? ⟨w.heap.size + 1, 2, none⟩ = some (.int .i64 B.T)))) (by kernel_rfl) (KEEP.out _ HD.out) (fun hHeld => ?_)
  obtain ⟨y0, hy0⟩ : ∃ z, x2.drew = z := ⟨_, rfl⟩
  have hb0 : Below x2.heap.size x2 y0 := by rw [← hy0]; exact HD.out
  rw [hy0] at hHeld ⊢
  clear hy0
  refine wpAnyH_take (i := 0) (v := .agg #[.slice a1 n1 c1, .slice a2 n2 c2, .int .i64 A.T]) rfl (by kernel_rfl) (by kernel_rfl) (by kernel_rfl) (fun _ _ _ h => h) (Or.inl ⟨by rfl, (by intro w' hSw; (try dsimp only at hSw); go_simp)⟩) (by assumption) ?_
  try simp only [Act.put, List.getElem_toArray, List.getElem_cons_zero, List.setIfInBounds_toArray, List.set_cons_zero, List.set_cons_succ]
  refine wpAnyH_take (i := 2) (v := .agg #[.slice b1 m1 d1, .slice b2 m2 d2, .int .i64 B.T]) rfl (by kernel_rfl) (by kernel_rfl) (by kernel_rfl) (fun _ _ _ h => h) (Or.inl ⟨by rfl, (by intro w' hSw; (try dsimp only at hSw); go_simp)⟩) (by assumption) ?_
  try simp only [Act.put, List.getElem_toArray, List.getElem_cons_zero, List.getElem_cons_succ, List.setIfInBounds_toArray, List.set_cons_zero, List.set_cons_succ]
  refine wpAnyH_ready (rs := [1]) (by kernel_rfl) (by simp) ?_
  refine AllReadyH.cons rfl (fun K hK => ?_) AllReadyH.nil
  rw [if_pos (by kernel_rfl)]
  go_simp
  go_at_call 8
  refine (HTA.out y0 (below_then H2.out hb0)).mono ?_
  rintro e y1 ⟨s1, sn, sc, s2, sm, sd, rfl, hm, hbc⟩
  have hb1 : Below x2.heap.size x2 y1 := below_then hb0 hbc
  have hl1 : A.V.length = sn := own_len hm.1
  have hl2 : A.S.length = sm := own_len hm.2.1
  obtain rfl : n1 = sn := by omega
  obtain rfl : n2 = sm := by omega
  have hs1 := Row.of_own hm.1
  have hs2 := Row.of_own hm.2.1
  clear hm hl1 hl2 hbc
  refine hK.out _ _ (KEEP.out _ hb1) (fun hHeld1 => ?_)
  clear hK K hHeld
  have hHeld := hHeld1
  clear hHeld1
  try simp only [Act.put, List.getElem_toArray, List.getElem_cons_zero, List.getElem_cons_succ, List.setIfInBounds_toArray, List.set_cons_zero, List.set_cons_succ]
  refine wpAnyH_ready (rs := [3]) (by kernel_rfl) (by simp) ?_
  refine AllReadyH.cons rfl (fun K hK => ?_) AllReadyH.nil
  rw [if_pos (by kernel_rfl)]
  go_simp
  go_at_call 8
  refine (HTB.out y1 (below_then H2.out hb1)).mono ?_
  rintro e y ⟨t1, tn, tc, t2, tm, td, rfl, hm, hbc⟩
  have hb : Below x2.heap.size x2 y := below_then hb1 hbc
  have hl1 : B.V.length = tn := own_len hm.1
  have hl2 : B.S.length = tm := own_len hm.2.1
  obtain rfl : m1 = tn := by omega
  obtain rfl : m2 = tm := by omega
  have ht1 := Row.of_own hm.1
  have ht2 := Row.of_own hm.2.1
  have hs1n := hs1.below hbc
  have hs2n := hs2.below hbc
  clear hm hl1 hl2 hbc hs1 hs2
  refine hK.out _ _ (KEEP.out _ hb) (fun hHeld1 => ?_)
  clear hK K hHeld
  have hHeld := hHeld1
  clear hHeld1
  try simp only [Act.put, List.getElem_toArray, List.getElem_cons_zero, List.getElem_cons_succ, List.setIfInBounds_toArray, List.set_cons_zero, List.set_cons_succ]
  refine wpAnyH_ready (rs := [4]) (by kernel_rfl) (by simp) ?_
  refine AllReadyH.cons rfl (fun K hK => ?_) AllReadyH.nil
  rw [if_pos (by kernel_rfl)]
  go_simp
  go_at_call 7
  refine (spec_sameref y s1 n1 sc s2 n2 sd A hq1 hq2 hs1n hs2n t1 m1 tc t2 m2 td B hq3 hq4 ht1 ht2 r hr).mono ?_
  rintro e y3 ⟨rfl, hbc⟩
  have hb3 := below_then hb hbc
  clear hs1n hs2n ht1 ht2 hbc
  refine hK.out _ _ (KEEP.out _ hb3) (fun hHeld1 => ?_)
  clear hK K hHeld
  have hHeld := hHeld1
  clear hHeld1
  try simp only [Act.put, List.getElem_toArray, List.getElem_cons_zero, List.getElem_cons_succ, List.setIfInBounds_toArray, List.set_cons_zero, List.set_cons_succ]
  refine wpAnyH_take (i := 5) (v := .bool r) rfl (by kernel_rfl) (by kernel_rfl) (by kernel_rfl) (fun _ _ _ h => h) (Or.inl ⟨by rfl, (by intro w' hSw; (try dsimp only at hSw); go_simp)⟩) (by assumption) ?_
  try simp only [Act.put, List.getElem_toArray, List.getElem_cons_zero, List.getElem_cons_succ, List.setIfInBounds_toArray, List.set_cons_zero, List.set_cons_succ]
  refine wpAnyH_done (by kernel_rfl) ?_ _
  have H3 := Lib.hid (below_then H2.out hb3)
  clear hHeld hb3 hb KEEP HD
  have HX3 := Lib.hid (H0.out.2.1.below H3.out)
  refine Lib.hid ?_
  go_wp2_with (first
    | (refine wpList_load_row rfl 24 _ rfl w.heap.size rfl _ _ _ _ HX3.out Try.underlying24 rfl (by kernel_rfl) ?_)
    | (go_at_call 8; (with_reducible refine (HTA.out _ H3.out).mono ?_); rintro e x4 ⟨e1, en, ec, e2, em, ed, rfl, hm, hb⟩; refine Hid.out ?_))
  have hl1 : A.V.length = en := own_len hm.1
  have hl2 : A.S.length = em := own_len hm.2.1
  obtain rfl : n1 = en := by omega
  obtain rfl : n2 = em := by omega
  have He := Lib.hid (And.intro (Box.new x4 zero3R 27) (And.intro (below_new x4 (.cells zero3R 27)) (And.intro (Row.of_own hm.1) (And.intro (Row.of_own hm.2.1) hb))))
  clear hm hb hl1 hl2
  refine Lib.hid ?_
  go_wp2_with ((refine wpList_store_box rfl 27 _ _ rfl x4.heap.size _ _ He.out.1 #[.slice e1 n1 ec, .slice e2 n2 ed, .int .i64 A.T] rfl rfl rfl (by kernel_rfl) (by simp [Value.oneCell']) ?_); intro x5 hx hg; refine Hid.out ?_)
  have hb : Below x4.heap.size x4 x5 := He.out.2.1.grown hg He.out.2.1.size (fun j hj => by cases hj; exact Nat.le_refl _)
  obtain ⟨ge, hge⟩ : ∃ g, x4.heap.size = g := ⟨_, rfl⟩
  rw [hge] at hx ⊢
  have H5 := Lib.hid (And.intro (below_then (below_then H3.out He.out.2.2.2.2) hb) (And.intro hx (And.intro (He.out.2.2.1.below hb) (He.out.2.2.2.1.below hb))))
  clear hx hg hb hge He H3 HX3
  have HX5 := Lib.hid (H0.out.2.2.below H5.out.1)
  refine Lib.hid ?_
  go_wp2_with (first
    | (refine wpList_load_row rfl 24 _ rfl (w.heap.size + 1) rfl _ _ _ _ HX5.out Try.underlying24 rfl (by kernel_rfl) ?_)
    | (go_at_call 8; (with_reducible refine (HTB.out _ H5.out.1).mono ?_); rintro e x6 ⟨f1, fn, fc, f2, fm, fd, rfl, hm, hb⟩; refine Hid.out ?_))
  have hl1 : B.V.length = fn := own_len hm.1
  have hl2 : B.S.length = fm := own_len hm.2.1
  obtain rfl : m1 = fn := by omega
  obtain rfl : m2 = fm := by omega
  have Hf := Lib.hid (And.intro (Box.new x6 zero3R 27) (And.intro (below_new x6 (.cells zero3R 27)) (And.intro (Row.of_own hm.1) (And.intro (Row.of_own hm.2.1) hb))))
  clear hm hb hl1 hl2
  refine Lib.hid ?_
  go_wp2_with ((refine wpList_store_box rfl 27 _ _ rfl x6.heap.size _ _ Hf.out.1 #[.slice f1 m1 fc, .slice f2 m2 fd, .int .i64 B.T] rfl rfl rfl (by kernel_rfl) (by simp [Value.oneCell']) ?_); intro x7 hx hg; refine Hid.out ?_)
  have hb : Below x6.heap.size x6 x7 := Hf.out.2.1.grown hg Hf.out.2.1.size (fun j hj => by cases hj; exact Nat.le_refl _)
  obtain ⟨gf, hgf⟩ : ∃ g, x6.heap.size = g := ⟨_, rfl⟩
  rw [hgf] at hx ⊢
  have H7 := Lib.hid (And.intro (below_then (below_then H5.out.1 Hf.out.2.2.2.2) hb) (And.intro (H5.out.2.1.below (below_then Hf.out.2.2.2.2 hb)) (And.intro hx (And.intro (H5.out.2.2.1.below (below_then Hf.out.2.2.2.2 hb)) (And.intro (H5.out.2.2.2.below (below_then Hf.out.2.2.2.2 hb)) (And.intro (Hf.out.2.2.1.below hb) (Hf.out.2.2.2.1.below hb)))))))
  clear hx hg hb hgf Hf H5 HX5
  refine Lib.hid ?_
  go_wp2_with (first
    | (refine wpList_load_row rfl 27 _ rfl ge rfl _ _ _ _ H7.out.2.1 Try.underlying27 rfl (by kernel_rfl) ?_)
    | (refine wpList_load_row rfl 27 _ rfl gf rfl _ _ _ _ H7.out.2.2.1 Try.underlying27 rfl (by kernel_rfl) ?_)
    | (go_at_call 9; (refine (impl_sameref _ e1 n1 ec e2 n2 ed A hq1 hq2 H7.out.2.2.2.1 H7.out.2.2.2.2.1 f1 m1 fc f2 m2 fd B hq3 hq4 H7.out.2.2.2.2.2.1 H7.out.2.2.2.2.2.2 r hr).mono ?_); rintro e x8 ⟨rfl, hb⟩; refine Hid.out ?_))
  have H8 := Lib.hid (And.intro (below_then H7.out.1 hb) (And.intro (H7.out.2.1.below hb) (And.intro (H7.out.2.2.1.below hb) (And.intro (H7.out.2.2.2.1.below hb) (And.intro (H7.out.2.2.2.2.1.below hb) (And.intro (H7.out.2.2.2.2.2.1.below hb) (H7.out.2.2.2.2.2.2.below hb)))))))
  clear hb H7
  have HD := Lib.hid (show Below x8.heap.size x8 x8.drew from Below.drew (Below.refl _ x8))
  have KEEP := Lib.hid (show ∀ w', Below x8.heap.size x8 w' → (w'.cell? ⟨ge, 0, none⟩ = some (.slice e1 n1 ec) ∧ w'.cell? ⟨ge, 1, none⟩ = some (.slice e2 n2 ed) ∧ w'.cell? ⟨ge, 2, none⟩ = some (.int .i64 A.T)) ∧ (w'.cell? ⟨w.heap.size, 0, none⟩ = some (.slice a1 n1 c1) ∧ w'.cell? ⟨w.heap.size, 1, none⟩ = some (.slice a2 n2 c2) ∧ w'.cell? ⟨w.heap.size, 2, none⟩ = some (.int .i64 A.T)) from fun w' hb => ⟨⟨(H8.out.2.1.below hb).cell 0, (H8.out.2.1.below hb).cell 1, (H8.out.2.1.below hb).cell 2⟩, (HC.out w' (below_then H8.out.1 hb)).1⟩)
  refine Lib.hid ?_
  go_wp2
  refine wp_region_held_drew (S := (fun w' => (w'.cell? ⟨ge, 0, none⟩ = some (.slice e1 n1 ec) ∧ w'.cell? ⟨ge, 1, none⟩ = some (.slice e2 n2 ed) ∧ w'.cell? ⟨ge, 2, none⟩ = some (.int .i64 A.T)) ∧ (w'.cell? ⟨w.heap.size, 0, none⟩ = some (.slice a1 n1 c1) ∧ w'.cell? ⟨w.heap.size, 1, none⟩ = some (.slice a2 n2 c2) ∧ w'.cell? ⟨w.heap.size, 2, none⟩ = some (.int .i64 A.T)))) (by kernel_rfl) (KEEP.out _ HD.out) (fun hHeld => ?_)
  obtain ⟨y0, hy0⟩ : ∃ z, x8.drew = z := ⟨_, rfl⟩
  have hb0 : Below x8.heap.size x8 y0 := by rw [← hy0]; exact HD.out
  rw [hy0] at hHeld ⊢
  clear hy0
  refine wpAnyH_take (i := 0) (v := .agg #[.slice e1 n1 ec, .slice e2 n2 ed, .int .i64 A.T]) rfl (by kernel_rfl) (by kernel_rfl) (by kernel_rfl) (fun _ _ _ h => h) (Or.inl ⟨by rfl, (by intro w' hSw; (try dsimp only at hSw); go_simp)⟩) (by assumption) ?_
  try simp only [Act.put, List.getElem_toArray, List.getElem_cons_zero, List.setIfInBounds_toArray, List.set_cons_zero, List.set_cons_succ]
  refine wpAnyH_take (i := 1) (v := .agg #[.slice a1 n1 c1, .slice a2 n2 c2, .int .i64 A.T]) rfl (by kernel_rfl) (by kernel_rfl) (by kernel_rfl) (fun _ _ _ h => h) (Or.inl ⟨by rfl, (by intro w' hSw; (try dsimp only at hSw); go_simp)⟩) (by assumption) ?_
  try simp only [Act.put, List.getElem_toArray, List.getElem_cons_zero, List.getElem_cons_succ, List.setIfInBounds_toArray, List.set_cons_zero, List.set_cons_succ]
  refine wpAnyH_ready (rs := [2]) (by kernel_rfl) (by simp) ?_
  refine AllReadyH.cons rfl (fun K hK => ?_) AllReadyH.nil
  rw [if_pos (by kernel_rfl)]
  go_simp
  go_at_call 8
  refine (HTA.out y0 (below_then H8.out.1 hb0)).mono ?_
  rintro e y1 ⟨s1, sn, sc, s2, sm, sd, rfl, hm, hbc⟩
  have hb1 : Below x8.heap.size x8 y1 := below_then hb0 hbc
  have hl1 : A.V.length = sn := own_len hm.1
  have hl2 : A.S.length = sm := own_len hm.2.1
  obtain rfl : n1 = sn := by omega
  obtain rfl : n2 = sm := by omega
  have hs1 := Row.of_own hm.1
  have hs2 := Row.of_own hm.2.1
  clear hm hl1 hl2 hbc
  refine hK.out _ _ (KEEP.out _ hb1) (fun hHeld1 => ?_)
  clear hK K hHeld
  have hHeld := hHeld1
  clear hHeld1
  try simp only [Act.put, List.getElem_toArray, List.getElem_cons_zero, List.getElem_cons_succ, List.setIfInBounds_toArray, List.set_cons_zero, List.set_cons_succ]
  refine wpAnyH_ready (rs := [3]) (by kernel_rfl) (by simp) ?_
  refine AllReadyH.cons rfl (fun K hK => ?_) AllReadyH.nil
  rw [if_pos (by kernel_rfl)]
  go_simp
  go_at_call 10
  refine (eqref_any y1 A e1 n1 ec e2 n2 ed s1 sc s2 sd hq1 hq2 (H8.out.2.2.2.1.below hb1) (H8.out.2.2.2.2.1.below hb1) hs1 hs2).mono ?_
  rintro e y2 ⟨rfl, hbc⟩
  have hb2 := below_then hb1 hbc
  clear hs1 hs2 hbc
  refine hK.out _ _ (KEEP.out _ hb2) (fun hHeld1 => ?_)
  clear hK K hHeld
  have hHeld := hHeld1
  clear hHeld1
  try simp only [Act.put, List.getElem_toArray, List.getElem_cons_zero, List.getElem_cons_succ, List.setIfInBounds_toArray, List.set_cons_zero, List.set_cons_succ]
  refine wpAnyH_take (i := 4) (v := .bool false) rfl (by kernel_rfl) (by kernel_rfl) (by kernel_rfl) (fun _ _ _ h => h) (Or.inl ⟨by rfl, (by intro w' hSw; (try dsimp only at hSw); go_simp)⟩) (by assumption) ?_
  try simp only [Act.put, List.getElem_toArray, List.getElem_cons_zero, List.getElem_cons_succ, List.setIfInBounds_toArray, List.set_cons_zero, List.set_cons_succ]
  refine wpAnyH_done (by kernel_rfl) ?_ _
  have H9 := Lib.hid (And.intro (below_then H8.out.1 hb2) (And.intro (H8.out.2.1.below hb2) (And.intro (H8.out.2.2.1.below hb2) (And.intro (H8.out.2.2.2.1.below hb2) (And.intro (H8.out.2.2.2.2.1.below hb2) (And.intro (H8.out.2.2.2.2.2.1.below hb2) (H8.out.2.2.2.2.2.2.below hb2)))))))
  clear hHeld hb2 hb1 hb0 KEEP HD H8
  obtain ⟨x9, hx9⟩ : ∃ z, y2 = z := ⟨_, rfl⟩
  rw [hx9] at H9 ⊢
  clear hx9
  have HD := Lib.hid (show Below x9.heap.size x9 x9.drew from Below.drew (Below.refl _ x9))
  have KEEP := Lib.hid (show ∀ w', Below x9.heap.size x9 w' → (w'.cell? ⟨gf, 0, none⟩ = some (.slice f1 m1 fc) ∧ w'.cell? ⟨gf, 1, none⟩ = some (.slice f2 m2 fd) ∧ w'.cell? ⟨gf, 2, none⟩ = some (.int .i64 B.T)) ∧ (w'.cell? ⟨w.heap.size + 1, 0, none⟩ = some (.slice b1 m1 d1) ∧ w'.cell? ⟨w.heap.size + 1, 1, none⟩ = some (.slice b2 m2 d2) ∧ w'.cell? ⟨w.heap.size + 1, 2, none⟩ = some (.int .i64 B.T)) from fun w' hb => ⟨⟨(H9.out.2.2.1.below hb).cell 0, (H9.out.2.2.1.below hb).cell 1, (H9.out.2.2.1.below hb).cell 2⟩, (HC.out w' (below_then H9.out.1 hb)).2⟩)
  refine Lib.hid ?_
  go_wp2
  refine wp_region_held_drew (S := (fun w' => (w'.cell? ⟨gf, 0, none⟩ = some (.slice f1 m1 fc) ∧ w'.cell? ⟨gf, 1, none⟩ = some (.slice f2 m2 fd) ∧ w'.cell? ⟨gf, 2, none⟩ = some (.int .i64 B.T)) ∧ (w'.cell? ⟨w.heap.size + 1, 0, none⟩ = some (.slice b1 m1 d1) ∧ w'.cell? ⟨w.heap.size + 1, 1, none⟩ = some (.slice b2 m2 d2) ∧ w'.cell? ⟨w.heap.size + 1, 2, none⟩ = some (.int .i64 B.T)))) (by kernel_rfl) (KEEP.out _ HD.out) (fun hHeld => ?_)
  obtain ⟨y0, hy0⟩ : ∃ z, x9.drew = z := ⟨_, rfl⟩
  have hb0 : Below x9.heap.size x9 y0 := by rw [← hy0]; exact HD.out
  rw [hy0] at hHeld ⊢
  clear hy0
  refine wpAnyH_take (i := 0) (v := .agg #[.slice f1 m1 fc, .slice f2 m2 fd, .int .i64 B.T]) rfl (by kernel_rfl) (by kernel_rfl) (by kernel_rfl) (fun _ _ _ h => h) (Or.inl ⟨by rfl, (by intro w' hSw; (try dsimp only at hSw); go_simp)⟩) (by assumption) ?_
  try simp only [Act.put, List.getElem_toArray, List.getElem_cons_zero, List.setIfInBounds_toArray, List.set_cons_zero, List.set_cons_succ]
  refine wpAnyH_take (i := 1) (v := .agg #[.slice b1 m1 d1, .slice b2 m2 d2, .int .i64 B.T]) rfl (by kernel_rfl) (by kernel_rfl) (by kernel_rfl) (fun _ _ _ h => h) (Or.inl ⟨by rfl, (by intro w' hSw; (try dsimp only at hSw); go_simp)⟩) (by assumption) ?_
  try simp only [Act.put, List.getElem_toArray, List.getElem_cons_zero, List.getElem_cons_succ, List.setIfInBounds_toArray, List.set_cons_zero, List.set_cons_succ]
  refine wpAnyH_ready (rs := [2]) (by kernel_rfl) (by simp) ?_
  refine AllReadyH.cons rfl (fun K hK => ?_) AllReadyH.nil
  rw [if_pos (by kernel_rfl)]
  go_simp
  go_at_call 8
  refine (HTB.out y0 (below_then H9.out.1 hb0)).mono ?_
  rintro e y1 ⟨s1, sn, sc, s2, sm, sd, rfl, hm, hbc⟩
  have hb1 : Below x9.heap.size x9 y1 := below_then hb0 hbc
  have hl1 : B.V.length = sn := own_len hm.1
  have hl2 : B.S.length = sm := own_len hm.2.1
  obtain rfl : m1 = sn := by omega
  obtain rfl : m2 = sm := by omega
  have hs1 := Row.of_own hm.1
  have hs2 := Row.of_own hm.2.1
  clear hm hl1 hl2 hbc
  refine hK.out _ _ (KEEP.out _ hb1) (fun hHeld1 => ?_)
  clear hK K hHeld
  have hHeld := hHeld1
  clear hHeld1
  try simp only [Act.put, List.getElem_toArray, List.getElem_cons_zero, List.getElem_cons_succ, List.setIfInBounds_toArray, List.set_cons_zero, List.set_cons_succ]
  refine wpAnyH_ready (rs := [3]) (by kernel_rfl) (by simp) ?_
  refine AllReadyH.cons rfl (fun K hK => ?_) AllReadyH.nil
  rw [if_pos (by kernel_rfl)]
  go_simp
  go_at_call 10
  refine (eqref_any y1 B f1 m1 fc f2 m2 fd s1 sc s2 sd hq3 hq4 (H9.out.2.2.2.2.2.1.below hb1) (H9.out.2.2.2.2.2.2.below hb1) hs1 hs2).mono ?_
  rintro e y2 ⟨rfl, hbc⟩
  have hb2 := below_then hb1 hbc
  clear hs1 hs2 hbc
  refine hK.out _ _ (KEEP.out _ hb2) (fun hHeld1 => ?_)
  clear hK K hHeld
  have hHeld := hHeld1
  clear hHeld1
  try simp only [Act.put, List.getElem_toArray, List.getElem_cons_zero, List.getElem_cons_succ, List.setIfInBounds_toArray, List.set_cons_zero, List.set_cons_succ]
  refine wpAnyH_take (i := 4) (v := .bool false) rfl (by kernel_rfl) (by kernel_rfl) (by kernel_rfl) (fun _ _ _ h => h) (Or.inl ⟨by rfl, (by intro w' hSw; (try dsimp only at hSw); go_simp)⟩) (by assumption) ?_
  try simp only [Act.put, List.getElem_toArray, List.getElem_cons_zero, List.getElem_cons_succ, List.setIfInBounds_toArray, List.set_cons_zero, List.set_cons_succ]
  refine wpAnyH_done (by kernel_rfl) ?_ _
  have H10 := Lib.hid (And.intro (below_then H9.out.1 hb2) (And.intro (H9.out.2.1.below hb2) (And.intro (H9.out.2.2.1.below hb2) (And.intro (H9.out.2.2.2.1.below hb2) (And.intro (H9.out.2.2.2.2.1.below hb2) (And.intro (H9.out.2.2.2.2.2.1.below hb2) (H9.out.2.2.2.2.2.2.below hb2)))))))
  clear hHeld hb2 hb1 hb0 KEEP HD H9
  refine Lib.hid ?_
  go_wp2
  go_ret
  exact ⟨rfl, H0.out.1.trans (H10.out.1.mono H0.out.1.size)⟩

/-! ### THE ROW's STEP -/
set_option maxRecDepth 100000 in
theorem lifted (os : Os) (started : os.Started) (H : Type) (enc : TypeId × Value → H) :
    ReturnsInHanded {} Try.checked os 3 .any (Rows.fnExactSameRefSpec.pre6 enc Try.prog Try.f3 Rows.fnExactSameRefRow.domain false) (Rows.fnExactSameRefSpec.post enc Try.prog Try.f3 false true false false) := by
  refine returnsInHanded_of_change (C := Try.checked) own started (by kernel_rfl) Try.func3
    (ChangeSpec.witness6 (enc := enc) (C := Try.checked) false ⟨#[], #[.agg #[.slice none 0 0, .slice none 0 0, .int .i64 0], .agg #[.slice none 0 0, .slice none 0 0, .int .i64 0]], []⟩ 8 (by kernel_rfl) (by kernel_rfl) (by kernel_rfl) (by kernel_rfl)) ?_
  intro W base args ds gs before hval0 hW hcnd _
  have hval : ∀ (j : Nat) t v, Try.f3.params[j]? = some t → args[j]? = some v → Value.okWide Try.prog W .any base t v := hval0
  have hW' := hW
  obtain ⟨p, q, hA0, hV, rfl, hfz, hnd⟩ := hW
  have hA : DataW.TrodAll enc Try.prog W 0 (fun _ => true) true Try.f3.params.toList args.toList ds p := hA0
  rw [Try.params3] at hA hval
  obtain ⟨v0, vs0, d0, ds0, p0, q0, hargs, rfl, rfl, h0, r0⟩ := trodAll_cons hA
  obtain ⟨v1, vs1, d1, ds1, p1, q1, rfl, rfl, rfl, h1, r1⟩ := trodAll_cons r0
  obtain ⟨rfl, rfl, rfl⟩ := trodAll_nil r1
  obtain rfl : args = #[v0, v1] := by cases args; simp_all
  obtain ⟨rfl, rfl⟩ := trodVars_none hV
  have k0 := h0
  have lt0 : ∀ x ∈ p0, x.block < W.heap.size := by obtain ⟨m, hm⟩ := k0; exact DataW.trod_lt m _ _ _ hm
  have w0 : IsRefV W v0 := open_Ref (hval 0 24 v0 rfl rfl) h0
  have k1 := h1
  have lt1 : ∀ x ∈ p1, x.block < W.heap.size := by obtain ⟨m, hm⟩ := k1; exact DataW.trod_lt m _ _ _ hm
  have w1 : IsRefV W v1 := open_Ref (hval 1 24 v1 rfl rfl) h1
  clear hA0 hval0
  refine (walk v0 v1 W w0 w1).mono fun e W' ⟨he, bel⟩ => ?_
  subst he
  exact ⟨_, rfl, _, _, _, [], _, [], hW', trodAll_mk1 (shut_bool Try.underlying4 _), (trodAll_cons_mk (Below.trod laidOut (by kernel_rfl) (of_decide_eq_true (by kernel_rfl)) k0 bel lt0) (trodAll_cons_mk (Below.trod laidOut (by kernel_rfl) (of_decide_eq_true (by kernel_rfl)) k1 bel lt1) trodAll_mk0)), rfl, bel.frame _, fun h => by cases h⟩

theorem over : Rows.fnExactSameRefRow.holds Try.pinned (OpenSpec.ofChange Rows.fnExactSameRefSpec) :=
  OpenClaim.holds_of_wide 3 Try.f3 rfl rfl rfl rfl rfl rfl rfl ⟨rfl, rfl, rfl, rfl, rfl⟩ rfl rfl rfl rfl rfl (by kernel_rfl) Try.func3 (by kernel_rfl)
    (of_decide_eq_true (by kernel_rfl)) (by unfold Func.isWrapper; first | (rw [if_pos (by decide +kernel)]; kernel_rfl) | (rw [if_neg (by decide +kernel)]; exact ⟨rfl, rfl⟩))
    (fun os started H enc _ => lifted os started H enc)

/-- ████ THE STATEMENT ████ -/
theorem proved : Rows.FnExactSameRefSaid := over
#print axioms proved
end Go.Proofs.Ytlinpefeojpjnaa.fnExactSameRef
