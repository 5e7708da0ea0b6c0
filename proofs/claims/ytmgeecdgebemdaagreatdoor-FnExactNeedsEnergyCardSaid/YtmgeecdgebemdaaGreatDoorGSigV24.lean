/- Several texts in one: VTrcN VTrcO VExeX. -/
import Derived.Test.YtmgeecdgebemdaaGreatDoorGSigV23
import Derived.Test.YtmgeecdgebemdaaGreatDoorGSigV9
import Derived.Test.YtmgeecdgebemdaaGreatDoorGSigV11
import Derived.Test.YtmgeecdgebemdaaGreatDoorGSigV13
import Derived.Deep.RegionLaw
import Derived.Deep.RegionHeld3

/- Chapter 14 of the model: l14Assign: a log entry where one is needed, the variable, the steps of both; nothing else that was there is written. -/
namespace Go.Proofs.YtmgeecdgebemdaaGreatDoor.trc
open Go Go.ChangeShapes Go.WideShapes Go.ChangeAt Go.RowKit Go.Proofs.YtmgeecdgebemdaaGreatDoor.row Go.Proofs.YtmgeecdgebemdaaGreatDoor.val Go.Proofs.YtmgeecdgebemdaaGreatDoor.expr Go.Proofs.YtmgeecdgebemdaaGreatDoor.stm Go.Proofs.YtmgeecdgebemdaaGreatDoor.blk Go.Proofs.YtmgeecdgebemdaaGreatDoor.prg Go.Proofs.YtmgeecdgebemdaaGreatDoor.exe Go.Proofs.YtmgeecdgebemdaaGreatDoor.grow Go.Proofs.YtmgeecdgebemdaaGreatDoor.rss Go.Proofs.YtmgeecdgebemdaaGreatDoor.ctl
/-- One logged variable more. -/
theorem TnAt.logged {B g : Nat} {gv cv : Nat} {a1 : Option Addr} {n1 c1 : Nat} {a2 : Option Addr} {n2 c2 : Nat} {a3 : Option Addr} {n3 c3 : Nat} {a4 : Option Addr} {n4 c4 : Nat} {a5 : Option Addr} {n5 c5 : Nat} {k : Kf} {y : Tx} {w w' : World} (h : TnAt B g ⟨gv, cv, a1, n1, c1, a2, n2, c2, a3, n3, c3, a4, n4, c4, a5, n5, c5⟩ k y w)
    {q : Int} {v : Value} {o : Obj} (ho : w'.ownsRow B 3 1 v (n5 + 1) (ivs y.L ++ [.int .i64 q])) (hg : (w.alloc o).grownBy w' (Value.slice a5 n5 c5).ownBlock)
    (hat : v.ownBlock = (Value.slice a5 n5 c5).ownBlock ∨ v.ownBlock = some (w.alloc o).heap.size) :
    ∃ a' c', v = .slice a' (n5 + 1) c' ∧ Box g (tpC ⟨gv, cv, a1, n1, c1, a2, n2, c2, a3, n3, c3, a4, n4, c4, a5, n5, c5⟩ k) 159 w' ∧ (gv ≠ g ∧ w'.ownsRow B 3 1 (.slice (some ⟨gv, 0, none⟩) 8 cv) 8 (ivs y.x.V)) ∧
      TnAt B g ⟨gv, cv, a1, n1, c1, a2, n2, c2, a3, n3, c3, a4, n4, c4, a', n5 + 1, c'⟩ k ⟨y.x, y.M, y.L ++ [q]⟩ (w'.setCell ⟨g, 9, none⟩ (.slice a' (n5 + 1) c')) ∧
      Mv (tnB g ⟨gv, cv, a1, n1, c1, a2, n2, c2, a3, n3, c3, a4, n4, c4, a5, n5, c5⟩ k y) w (tnB g ⟨gv, cv, a1, n1, c1, a2, n2, c2, a3, n3, c3, a4, n4, c4, a', n5 + 1, c'⟩ k ⟨y.x, y.M, y.L ++ [q]⟩) (w'.setCell ⟨g, 9, none⟩ (.slice a' (n5 + 1) c')) := by
  rw [ivs_snoc] at ho
  obtain ⟨g4, c', rfl, _, _⟩ := ho.form (by omega)
  have hg' : w.grownBy w' (Value.slice a5 n5 c5).ownBlock := grown_trans (World.grownBy_alloc w _ _) hg
  have hat' : (Value.slice (some ⟨g4, 0, none⟩) (n5 + 1) c').ownBlock = (Value.slice a5 n5 c5).ownBlock ∨ ∀ b, (Value.slice (some ⟨g4, 0, none⟩) (n5 + 1) c').ownBlock = some b → w.heap.size ≤ b := hat.imp id (fun e b hb => by
    rw [e] at hb
    have : (w.alloc o).heap.size = b := Option.some.inj hb
    simp at this; omega)
  have hmid := h.rows.grow (i := 5) rfl hg' (r' := ⟨.slice (some ⟨g4, 0, none⟩) (n5 + 1) c', n5 + 1, ivs (y.L ++ [q]), 3, 1⟩) ho hat'
  obtain ⟨hr, hbx, hmv, hx⟩ := h.rows.app h.box (i := 5) rfl hg' (r' := ⟨.slice (some ⟨g4, 0, none⟩) (n5 + 1) c', n5 + 1, ivs (y.L ++ [q]), 3, 1⟩) ho hat' 9 (.slice (some ⟨g4, 0, none⟩) (n5 + 1) c')
  exact ⟨some ⟨g4, 0, none⟩, c', rfl, hx, ⟨fun e => h.rows.ne_g (j := 0) rfl (by rw [← e]; rfl), hmid.own 0 _ rfl⟩, ⟨hbx, hr⟩, hmv⟩
/-- A variable is set. -/
theorem TnAt.setv {B g : Nat} {gv cv : Nat} {a1 : Option Addr} {n1 c1 : Nat} {a2 : Option Addr} {n2 c2 : Nat} {a3 : Option Addr} {n3 c3 : Nat} {a4 : Option Addr} {n4 c4 : Nat} {a5 : Option Addr} {n5 c5 : Nat} {k : Kf} {y : Tx} {w : World} (h : TnAt B g ⟨gv, cv, a1, n1, c1, a2, n2, c2, a3, n3, c3, a4, n4, c4, a5, n5, c5⟩ k y w) (u : Nat) (q : Int) :
    TnAt B g ⟨gv, cv, a1, n1, c1, a2, n2, c2, a3, n3, c3, a4, n4, c4, a5, n5, c5⟩ k ⟨⟨y.x.V.set u q, y.x.S, y.x.U⟩, y.M, y.L⟩ (w.setCell ⟨gv, u, none⟩ (.int .i64 q)) ∧
      Mv (tnB g ⟨gv, cv, a1, n1, c1, a2, n2, c2, a3, n3, c3, a4, n4, c4, a5, n5, c5⟩ k y) w (tnB g ⟨gv, cv, a1, n1, c1, a2, n2, c2, a3, n3, c3, a4, n4, c4, a5, n5, c5⟩ k ⟨⟨y.x.V.set u q, y.x.S, y.x.U⟩, y.M, y.L⟩) (w.setCell ⟨gv, u, none⟩ (.int .i64 q)) := by
  have ho : w.ownsRow B 3 1 (.slice (some ⟨gv, 0, none⟩) 8 cv) 8 (ivs y.x.V) := h.rows.own 0 _ rfl
  have hs := (ho.stored u (.int .i64 q)).1
  rw [ivs_set] at hs
  obtain ⟨hr, hbx, hmv⟩ := h.rows.cellset h.box (i := 0) rfl (grown_setCell w gv u (.int .i64 q)) (r' := ⟨.slice (some ⟨gv, 0, none⟩) 8 cv, 8, ivs (y.x.V.set u q), 3, 1⟩) hs rfl
  exact ⟨⟨hbx, hr⟩, hmv⟩
theorem TnAt.var {B g : Nat} {gv cv : Nat} {a1 : Option Addr} {n1 c1 : Nat} {a2 : Option Addr} {n2 c2 : Nat} {a3 : Option Addr} {n3 c3 : Nat} {a4 : Option Addr} {n4 c4 : Nat} {a5 : Option Addr} {n5 c5 : Nat} {k : Kf} {y : Tx} {w : World} (h : TnAt B g ⟨gv, cv, a1, n1, c1, a2, n2, c2, a3, n3, c3, a4, n4, c4, a5, n5, c5⟩ k y w) {u : Nat} (hu : u < 8) :
    w.cell? ⟨gv, u, none⟩ = some (.int .i64 (y.x.V.getD u 0)) ∧ w.frozen? ⟨gv, u, none⟩ = false := by
  have ho : w.ownsRow B 3 1 (.slice (some ⟨gv, 0, none⟩) 8 cv) 8 (ivs y.x.V) := h.rows.own 0 _ rfl
  have hl := own_len ho
  refine ⟨(ho.cellAt u (by simpa using hu)).trans ?_, ho.frozenAt u⟩
  simp [ivs, List.getD_eq_getElem?_getD, show u < y.x.V.length by omega]
set_option maxHeartbeats 8000000 in
set_option maxRecDepth 100000 in
theorem spec_assign (B g : Nat) (p : Tp) (k : Kf) (y : Tx) (w : World) (h : TnAt B g p k y w) (hM : y.M.length ≤ 90000) (hL : LogInv k.D y.L) (hD : Vrs k.D) (hDl : k.D.length ≤ 8) (u : Nat) (hu : u < 8) (q : Int) :
    Calls Tryz.prog 175 #[.pointer (some ⟨g, 0, none⟩), .int .i64 u, .int .i64 q] w (TnOut B g p k y ⟨⟨y.x.V.set u q, y.x.S, y.x.U⟩, y.M ++ asgM k.D k.tk k.tl y.x.V u q y.L, asgL k.D u y.L⟩ w) := by
  obtain ⟨i0, hi, hz0, hz1, hz2⟩ := info_parts row.infoInt
  obtain ⟨gv, cv, a1, n1, c1, a2, n2, c2, a3, n3, c3, a4, n4, c4, a5, n5, c5⟩ := p
  obtain ⟨ar, nr, cr, R, z, tk, tl, D⟩ := k
  have H := Lib.hid h
  have b0 : w.cell? ⟨g, 0, none⟩ = some (.slice (some ⟨gv, 0, none⟩) 8 cv) := h.box.cell 0
  have b8 : w.cell? ⟨g, 8, none⟩ = some (.slice a4 n4 c4) := h.box.cell 8
  have b9 : w.cell? ⟨g, 9, none⟩ = some (.slice a5 n5 c5) := h.box.cell 9
  have ho4 : w.ownsRow B 3 1 (.slice a4 n4 c4) n4 (ivs D) := h.rows.own 4 _ rfl
  have ho5 : w.ownsRow B 3 1 (.slice a5 n5 c5) n5 (ivs y.L) := h.rows.own 5 _ rfl
  have hn4e := own_len ho4
  have hn5e := own_len ho5
  have hL8 := hL.le hD
  dsimp only at hDl hL hD
  have hn4 : n4 ≤ 8 := by omega
  have hn5 : n5 ≤ 8 := by omega
  have HN := Lib.hid hn5e
  have hc0 := h.var hu
  have hB : B ≤ w.heap.size := h.low
  have hu0 : (0 : Int) ≤ (u : Int) := by omega
  have hu8 : (u : Int) < 8 := by omega
  have HR := Lib.hid (And.intro (Row.of_own ho4) (Row.of_own ho5))
  have HL := Lib.hid (And.intro hL hD)
  clear h ho4 ho5 hL hD hn4e hn5e hL8 hDl
  by_cases hd : (u : Int) ∈ D
  · have HD := Lib.hid (show decide ((u : Int) ∈ D) = true from decide_eq_true hd)
    by_cases hl : (u : Int) ∈ y.L
    · have HE := Lib.hid (show decide ((u : Int) ∈ y.L) = true from decide_eq_true hl)
      have HA := Lib.hid (show asgM D tk tl y.x.V u q y.L = [wrM u q] ∧ asgL D u y.L = y.L from ⟨by unfold asgM; rw [if_neg (fun e => e.2 hl)], by unfold asgL; rw [if_neg (fun e => e.2 hl)]⟩)
      clear hd hl
      obtain ⟨hset, hmv⟩ := H.out.setv u q
      have HW := Lib.hid (And.intro (spec_wr B g _ _ _ _ hset (show y.M.length ≤ 100000 by omega) u q) hmv)
      have f0 := hc0.2
      have g0 := hc0.1
      clear hset hmv hc0
      go_enter Tryz.func175, Tryz.ntmps175
      go_wp2_with (first
        | (go_at_call 173; (with_reducible refine (spec_has _ a4 n4 c4 D u true (by omega) HR.out.1 HD.out).mono ?_); rintro e w2 ⟨rfl, rfl⟩)
        | (go_at_call 173; (with_reducible refine (spec_has _ a5 n5 c5 y.L u true (by omega) HR.out.2 HE.out).mono ?_); rintro e w2 ⟨rfl, rfl⟩)
        | (go_at_call 133; (with_reducible refine HW.out.1.mono ?_); rintro e w2 ⟨rfl, p2, h2, m2⟩; refine Hid.out ?_))
      have HF := Lib.hid (And.intro h2 (HW.out.2.trans m2))
      clear h2 m2
      refine Lib.hid ?_
      go_wp2
      go_end0
      exact ⟨rfl, p2, by rw [HA.out.1, HA.out.2]; exact HF.out.1, by rw [HA.out.1, HA.out.2]; exact HF.out.2⟩
    · have HE := Lib.hid (show decide ((u : Int) ∈ y.L) = false from decide_eq_false hl)
      have hn7 : n5 ≤ 7 := by have := HL.out.1.lt HL.out.2 ⟨hd, hl⟩; have := HN.out; omega
      obtain ⟨X, hX⟩ : ∃ X, y.x.V.getD u 0 = X := ⟨_, rfl⟩
      have HA := Lib.hid (show asgM D tk tl y.x.V u q y.L = [wrM (9 + 2 * (n5 : Int)) u, wrM (10 + 2 * (n5 : Int)) X, wrM 8 (packV tk ((n5 : Int) + 1) tl), wrM u q] ∧ asgL D u y.L = y.L ++ [(u : Int)] from ⟨by unfold asgM; rw [if_pos ⟨hd, hl⟩, HN.out, ← hX]; rfl, by unfold asgL; rw [if_pos ⟨hd, hl⟩]⟩)
      have HX := Lib.hid hX
      have w1 : IntKind.i64.wrap (2 * (n5 : Int)) = 2 * n5 := IntWalk.i64_in _ (by omega)
      have w2 : IntKind.i64.wrap (9 + 2 * (n5 : Int)) = 9 + 2 * n5 := IntWalk.i64_in _ (by omega)
      have w3 : IntKind.i64.wrap (9 + 2 * (n5 : Int) + 1) = 10 + 2 * n5 := by rw [IntWalk.i64_in _ (by omega)]; omega
      have w4 : IntKind.i64.wrap ((n5 : Int) + 1) = n5 + 1 := IntWalk.i64_in _ (by omega)
      have HW1 := Lib.hid (spec_wr B g _ _ _ _ H.out (show y.M.length ≤ 100000 by omega) (9 + 2 * (n5 : Int)) u)
      clear hd hl hc0 hX
      go_enter Tryz.func175, Tryz.ntmps175
      go_wp2_with (first
        | (go_at_call 173; (with_reducible refine (spec_has _ a4 n4 c4 D u true (by omega) HR.out.1 HD.out).mono ?_); rintro e w2 ⟨rfl, rfl⟩)
        | (go_at_call 173; (with_reducible refine (spec_has _ a5 n5 c5 y.L u false (by omega) HR.out.2 HE.out).mono ?_); rintro e w2 ⟨rfl, rfl⟩)
        | (go_at_call 133; (with_reducible refine HW1.out.mono ?_); rintro e w2 ⟨rfl, ⟨gv', cv', p1, r1, s1, p2, r2, s2, p3, r3, s3, p4, r4, s4, p5, r5, s5⟩, h2, m2⟩; refine Hid.out ?_))
      have H2 := Lib.hid (And.intro h2 m2)
      have d0 : w2.cell? ⟨g, 0, none⟩ = some (.slice (some ⟨gv', 0, none⟩) 8 cv') := h2.box.cell 0
      have dv : w2.cell? ⟨gv', u, none⟩ = some (.int .i64 X) := by rw [← HX.out]; exact (h2.var hu).1
      have HW2 := Lib.hid (spec_wr B g _ _ _ _ h2 (show (y.M ++ [wrM (9 + 2 * (n5 : Int)) u]).length ≤ 100000 by simp; omega) (10 + 2 * (n5 : Int)) X)
      clear h2 m2 b0 b8 b9
      refine Lib.hid ?_
      go_wp2_with (go_at_call 133; (with_reducible refine HW2.out.mono ?_); rintro e w3 ⟨rfl, ⟨gv3, cv3, p1, r1, s1, p2, r2, s2, p3, r3, s3, p4, r4, s4, p5, r5, s5⟩, h3, m3⟩; refine Hid.out ?_)
      have H3 := Lib.hid (And.intro h3 m3)
      have h3d := h3.below (Below.drew (Below.refl _ w3))
      have cS : w3.drew.cell? ⟨g, 10, none⟩ = some (.int .i64 tk) ∧ w3.drew.cell? ⟨g, 11, none⟩ = some (.int .i64 tl) := ⟨h3d.box.cell 10, h3d.box.cell 11⟩
      have HP := Lib.hid (show ∀ w', Calls Tryz.prog 53 #[.int .i64 tk, .int .i64 ((n5 : Int) + 1), .int .i64 tl] w' (Ret w' (packV tk ((n5 : Int) + 1) tl)) from fun w' => spec_pack tk _ tl w')
      have HW3 := Lib.hid (spec_wr B g _ _ _ _ h3d (show ((y.M ++ [wrM (9 + 2 * (n5 : Int)) u]) ++ [wrM (10 + 2 * (n5 : Int)) X]).length ≤ 100000 by simp; omega) 8 (packV tk ((n5 : Int) + 1) tl))
      clear h3 m3 h3d d0 dv
      refine Lib.hid ?_
      go_wp2
      go_region_held3 (fun w' => w'.cell? ⟨g, 10, none⟩ = some (.int .i64 tk) ∧ w'.cell? ⟨g, 11, none⟩ = some (.int .i64 tl))
        (first
          | (with_reducible exact cS)
          | (with_reducible exact sX))
        (first
          | (go_at_call 53; (with_reducible refine (HP.out _).mono ?_); rintro e w8 ⟨rfl, rfl⟩)
          | (go_at_call 133; (with_reducible refine HW3.out.mono ?_); rintro e w4 ⟨rfl, ⟨gv4, cv4, p1, r1, s1, p2, r2, s2, p3, r3, s3, p4, r4, s4, p5, r5, s5⟩, h4, m4⟩; have sX := (show w4.cell? ⟨g, 10, none⟩ = some (.int .i64 tk) ∧ w4.cell? ⟨g, 11, none⟩ = some (.int .i64 tl) from ⟨h4.box.cell 10, h4.box.cell 11⟩)))
      all_goals
        have H4 := Lib.hid (And.intro h4 m4)
        have e9 : w4.cell? ⟨g, 9, none⟩ = some (.slice p5 r5 s5) := h4.box.cell 9
        have ho5 : w4.ownsRow B 3 1 (.slice p5 r5 s5) r5 (ivs y.L) := h4.rows.own 5 _ rfl
        have hr5 : r5 ≤ 8 := by have h8 := own_len ho5; have h9 := HN.out; omega
        have hB4 : B ≤ w4.heap.size := h4.low
        have HO5 := Lib.hid ho5
        clear h4 m4 sX cS ho5
        refine Lib.hid ?_
        go_wp2_with (at_builtin; refine wpList_append_own_at _ rfl _ _ 27 rfl B 3 i0 (.int .i64 0) 1 8 Tryz.underlying27 hi hz0 hz1 hz2 rfl (by decide) _ r5 _ rfl (HO5.out.alloc _) ⟨w4.heap.size, 0, none⟩ 1 1 [.int .i64 u] rfl rfl (World.news_of_block (cs := #[.int .i64 u]) (t := 3) (fr := (0, 0)) (heap_alloc_new w4 _)) (by simp [Value.oneCell']) (by unfold maxLen; omega) (by omega) (by simp; omega) ?_; intro v6 w6 hown6 hgrow6 _ hat6; refine Hid.out ?_)
        obtain ⟨a9, c9, rfl, hx6, ⟨hvg, ho6⟩, h7, m7⟩ := H4.out.1.logged hown6 hgrow6 hat6
        have k9 : w6.cell? ⟨g, 9, none⟩ = some (.slice p5 r5 s5) := hx6.cell 9
        have f9 : w6.frozen? ⟨g, 9, none⟩ = false := hx6.frozen 9
        have k0 : w6.cell? ⟨g, 0, none⟩ = some (.slice (some ⟨gv4, 0, none⟩) 8 cv4) := hx6.cell 0
        have hl8 : y.x.V.length = 8 := own_len ho6
        have kv : w6.cell? ⟨gv4, u, none⟩ = some (.int .i64 X) := by
          rw [← HX.out]
          refine (ho6.cellAt u (by simpa using hu)).trans ?_
          simp [ivs, List.getD_eq_getElem?_getD, show u < y.x.V.length by omega]
        have fv : w6.frozen? ⟨gv4, u, none⟩ = false := ho6.frozenAt u
        obtain ⟨h8, m8⟩ := h7.setv u q
        have HW5 := Lib.hid (spec_wr B g _ _ _ _ h8 (show (((y.M ++ [wrM (9 + 2 * (n5 : Int)) u]) ++ [wrM (10 + 2 * (n5 : Int)) X]) ++ [wrM 8 (packV tk ((n5 : Int) + 1) tl)]).length ≤ 100000 by simp; omega) u q)
        have HM := Lib.hid (m7.trans m8)
        clear hown6 hgrow6 hat6 hx6 ho6 h7 m7 h8 m8 hl8 e9
        refine Lib.hid ?_
        go_wp2_with (go_at_call 133; (with_reducible refine HW5.out.mono ?_); rintro e w9 ⟨rfl, pp, h9, m9⟩; refine Hid.out ?_)
        have HF := Lib.hid (And.intro h9 ((H2.out.2.trans (H3.out.2.trans ((Mv.of_below _ (Below.drew (Below.refl _ w3))).trans (H4.out.2.trans HM.out)))).trans m9))
        clear h9 m9
        refine Lib.hid ?_
        go_wp2
        go_end0
        refine ⟨rfl, pp, ?_, ?_⟩
        · rw [HA.out.1, HA.out.2]
          have h9 := HF.out.1
          simp only [List.append_assoc, List.cons_append, List.nil_append] at h9
          exact h9
        · rw [HA.out.1, HA.out.2]
          have h9 := HF.out.2
          simp only [List.append_assoc, List.cons_append, List.nil_append] at h9
          exact h9
  · have HD := Lib.hid (show decide ((u : Int) ∈ D) = false from decide_eq_false hd)
    have HA := Lib.hid (show asgM D tk tl y.x.V u q y.L = [wrM u q] ∧ asgL D u y.L = y.L from ⟨by unfold asgM; rw [if_neg (fun e => hd e.1)], by unfold asgL; rw [if_neg (fun e => hd e.1)]⟩)
    clear hd
    obtain ⟨hset, hmv⟩ := H.out.setv u q
    have HW := Lib.hid (And.intro (spec_wr B g _ _ _ _ hset (show y.M.length ≤ 100000 by omega) u q) hmv)
    have f0 := hc0.2
    have g0 := hc0.1
    clear hset hmv hc0
    go_enter Tryz.func175, Tryz.ntmps175
    go_wp2_with (first
      | (go_at_call 173; (with_reducible refine (spec_has _ a4 n4 c4 D u false (by omega) HR.out.1 HD.out).mono ?_); rintro e w2 ⟨rfl, rfl⟩)
      | (go_at_call 133; (with_reducible refine HW.out.1.mono ?_); rintro e w2 ⟨rfl, p2, h2, m2⟩; refine Hid.out ?_))
    have HF := Lib.hid (And.intro h2 (HW.out.2.trans m2))
    clear h2 m2
    refine Lib.hid ?_
    go_wp2
    go_end0
    exact ⟨rfl, p2, by rw [HA.out.1, HA.out.2]; exact HF.out.1, by rw [HA.out.1, HA.out.2]; exact HF.out.2⟩
end Go.Proofs.YtmgeecdgebemdaaGreatDoor.trc

/- Chapter 14, plain mathematics: the bounds under which an execution with its steps goes on. -/
namespace Go.Proofs.YtmgeecdgebemdaaGreatDoor.trc
open Go Go.Proofs.YtmgeecdgebemdaaGreatDoor.stm Go.Proofs.YtmgeecdgebemdaaGreatDoor.blk Go.Proofs.YtmgeecdgebemdaaGreatDoor.expr Go.Proofs.YtmgeecdgebemdaaGreatDoor.sets Go.Proofs.YtmgeecdgebemdaaGreatDoor.val Go.Proofs.YtmgeecdgebemdaaGreatDoor.prg Go.Proofs.YtmgeecdgebemdaaGreatDoor.exe Go.Proofs.YtmgeecdgebemdaaGreatDoor.wrt Go.Proofs.YtmgeecdgebemdaaGreatDoor.ctl
/-- The state is valid and small enough for the tree that is left. -/
def TOk (D : List Int) (y : Tx) (T : Fst) : Prop := varsOk y.x.V = true ∧ LogInv D y.L ∧ tot y.x + cnt T ≤ 50000 ∧ (y.M.length : Int) + cntS T ≤ 80000
section
variable {src : Int → Nat → Int} {D : List Int} {tk tl : Int}
theorem vars_step (hsrc : ∀ q n, isVal (src q n) = true) (s : Sm) {x : Sx} (h : varsOk x.V = true) : varsOk (step1 src s x).V = true := by
  rcases step_cases src s x with ⟨_, e⟩ | ⟨_, e⟩ | ⟨_, e⟩ | ⟨_, _, e⟩ <;> rw [e]
  · exact vars_set h (evalV_val _ _ _ _) _
  · exact vars_set h (hsrc _ _) _
  · exact h
  · exact h
theorem vars_exec (hsrc : ∀ q n, isVal (src q n) = true) : ∀ (T : Fst) {x : Sx}, varsOk x.V = true → varsOk (exec src T x).V = true
  | .nil, _, h => h
  | .one s r, _, h => vars_exec hsrc r (vars_step hsrc s h)
  | .nest _ b r, x, h => vars_exec hsrc r (rep_ind (P := fun y => varsOk y.V = true) (fun _ hy => vars_exec hsrc b hy) _ x h)
theorem TOk.one (hsrc : ∀ q n, isVal (src q n) = true) {y : Tx} {s : Sm} {r : Fst} (h : TOk D y (.one s r)) : TOk D (tstep src D tk tl s y) r := by
  obtain ⟨h1, h2, h3, h4⟩ := h
  refine ⟨vars_step hsrc s h1, add_inv h2 s, ?_, ?_⟩
  · have := tot_step src s y.x
    simp only [cnt] at h3
    show tot (step1 src s y.x) + cnt r ≤ 50000
    omega
  · have h5 := addM_len src D tk tl s y
    have h6 : (tstep src D tk tl s y).M.length = y.M.length + (1 + (addM src D tk tl s y).length) := by simp [tstep]; omega
    simp only [cntS] at h4
    omega
theorem TOk.rep (hsrc : ∀ q n, isVal (src q n) = true) {y : Tx} {s : Sm} {b r : Fst} (h : TOk D y (.nest s b r)) (hb : AllS One Nst b) (k : Nat) :
    varsOk (trep (texec src D tk tl b) k ⟨y.x, y.M ++ [stepM s.k], y.L⟩).x.V = true ∧ LogInv D (trep (texec src D tk tl b) k ⟨y.x, y.M ++ [stepM s.k], y.L⟩).L ∧
      tot (trep (texec src D tk tl b) k ⟨y.x, y.M ++ [stepM s.k], y.L⟩).x ≤ tot y.x + k * cnt b ∧ ((trep (texec src D tk tl b) k ⟨y.x, y.M ++ [stepM s.k], y.L⟩).M.length : Int) ≤ y.M.length + 1 + k * cntS b := by
  obtain ⟨h1, h2, h3, h4⟩ := h
  refine ⟨?_, ?_, ?_, ?_⟩
  · rw [trep_x (fun z => texec_x b z)]
    exact rep_ind (P := fun y => varsOk y.V = true) (fun _ hy => vars_exec hsrc b hy) k _ h1
  · exact trep_ind (p := fun y => LogInv D y.L) (fun z hz => texec_inv b hb z hz) k _ h2
  · rw [trep_x (fun z => texec_x b z)]
    exact rep_tot (fun y => exec_tot src b y) k y.x
  · have h5 := trep_len (fun z => texec_len src D tk tl b z) k ⟨y.x, y.M ++ [stepM s.k], y.L⟩
    simp only [List.length_append, List.length_singleton] at h5
    push_cast at h5
    exact h5
theorem TOk.body (hsrc : ∀ q n, isVal (src q n) = true) {y : Tx} {s : Sm} {b r : Fst} (h : TOk D y (.nest s b r)) (hb : AllS One Nst b) (k : Nat) (hk : k < its s y.x) : TOk D (trep (texec src D tk tl b) k ⟨y.x, y.M ++ [stepM s.k], y.L⟩) b := by
  obtain ⟨r1, r2, r3, r4⟩ := h.rep hsrc (tk := tk) (tl := tl) hb k
  obtain ⟨_, _, h3, h4⟩ := h
  have h5 := its_le s y.x
  have h6 := cnt_nonneg b
  have h7 := cntS_nonneg b
  have h8 := cnt_nonneg r
  have h9 := cntS_nonneg r
  have m1 : ((k : Int) + 1) * cnt b ≤ max 1 s.n * cnt b := Int.mul_le_mul_of_nonneg_right (by omega) h6
  have m2 : ((k : Int) + 1) * cntS b ≤ max 1 s.n * cntS b := Int.mul_le_mul_of_nonneg_right (by omega) h7
  have m3 : ((k : Int) + 1) * cnt b = k * cnt b + cnt b := by rw [Int.add_mul, Int.one_mul]
  have m4 : ((k : Int) + 1) * cntS b = k * cntS b + cntS b := by rw [Int.add_mul, Int.one_mul]
  simp only [cnt] at h3
  simp only [cntS] at h4
  exact ⟨r1, r2, by omega, by omega⟩
theorem TOk.after (hsrc : ∀ q n, isVal (src q n) = true) {y : Tx} {s : Sm} {b r : Fst} (h : TOk D y (.nest s b r)) (hb : AllS One Nst b) : TOk D (trep (texec src D tk tl b) (its s y.x) ⟨y.x, y.M ++ [stepM s.k], y.L⟩) r := by
  obtain ⟨r1, r2, r3, r4⟩ := h.rep hsrc (tk := tk) (tl := tl) hb (its s y.x)
  obtain ⟨_, _, h3, h4⟩ := h
  have h5 := its_le s y.x
  have m1 : (its s y.x : Int) * cnt b ≤ max 1 s.n * cnt b := Int.mul_le_mul_of_nonneg_right h5 (cnt_nonneg b)
  have m2 : (its s y.x : Int) * cntS b ≤ max 1 s.n * cntS b := Int.mul_le_mul_of_nonneg_right h5 (cntS_nonneg b)
  simp only [cnt] at h3
  simp only [cntS] at h4
  exact ⟨r1, r2, by omega, by omega⟩
theorem tstep_set {s : Sm} (h : s.k = 1) {u : Nat} (hu : s.v = u) {y : Tx} {q : Int} (hq : evalV y.x.V s.o s.a s.b = q) : tstep src D tk tl s y = ⟨⟨y.x.V.set u q, y.x.S, y.x.U⟩, (y.M ++ [⟨kindT s.k, -1, 0⟩]) ++ asgM D tk tl y.x.V u q y.L, asgL D u y.L⟩ := by
  unfold tstep addM addL
  rw [step_set _ h, if_pos h, if_pos (.inl h), hq, hu, List.append_assoc]
  rfl
theorem tstep_sense {s : Sm} (h : s.k = 2) {u : Nat} (hu : s.v = u) {y : Tx} {q : Int} (hq : src s.n y.x.U.length = q) : tstep src D tk tl s y = ⟨⟨y.x.V.set u q, y.x.S, y.x.U ++ [q]⟩, (y.M ++ [⟨kindT s.k, -1, 0⟩]) ++ asgM D tk tl y.x.V u q y.L, asgL D u y.L⟩ := by
  unfold tstep addM addL
  rw [step_sense _ h, if_neg (by omega), if_pos h, if_pos (.inr h), hq, hu, List.append_assoc]
  rfl
theorem tstep_send {s : Sm} (h : s.k = 3) {y : Tx} {q : Int} (hq : evalV y.x.V s.o s.a s.b = q) : tstep src D tk tl s y = ⟨⟨y.x.V, y.x.S ++ [q], y.x.U⟩, (y.M ++ [⟨kindT s.k, -1, 0⟩]) ++ (if tl + y.x.S.length < 24 then [wrM (25 + (tl + y.x.S.length)) q] else []), y.L⟩ := by
  unfold tstep addM addL
  rw [step_send _ h, hq, if_neg (show ¬ s.k = 1 by omega), if_neg (show ¬ s.k = 2 by omega), if_pos h, if_neg (show ¬ (s.k = 1 ∨ s.k = 2) by omega), List.append_assoc]
  rfl
end
end Go.Proofs.YtmgeecdgebemdaaGreatDoor.trc

/- The model's l12Exec: a stretch of a valid block executed; the state is the tree's execution; nothing else that was there is written. -/
namespace Go.Proofs.YtmgeecdgebemdaaGreatDoor.exe
open Go Go.ChangeShapes Go.WideShapes Go.ChangeAt Go.RowKit Go.Proofs.YtmgeecdgebemdaaGreatDoor.row Go.Proofs.YtmgeecdgebemdaaGreatDoor.val Go.Proofs.YtmgeecdgebemdaaGreatDoor.expr Go.Proofs.YtmgeecdgebemdaaGreatDoor.stm Go.Proofs.YtmgeecdgebemdaaGreatDoor.blk Go.Proofs.YtmgeecdgebemdaaGreatDoor.prg Go.Proofs.YtmgeecdgebemdaaGreatDoor.sets
theorem st_kind' {s : Sm} (h : stOk s = true) : s.k = 1 ∨ s.k = 2 ∨ s.k = 3 ∨ s.k = 4 ∨ s.k = 5 ∨ s.k = 6 := by
  by_cases h1 : s.k = 1
  · exact .inl h1
  by_cases h2 : s.k = 2
  · exact .inr (.inl h2)
  by_cases h3 : s.k = 3
  · exact .inr (.inr (.inl h3))
  by_cases h4 : s.k = 4
  · exact .inr (.inr (.inr (.inl h4)))
  by_cases h5 : s.k = 5
  · exact .inr (.inr (.inr (.inr (.inl h5))))
  by_cases h6 : s.k = 6
  · exact .inr (.inr (.inr (.inr (.inr h6))))
  unfold stOk at h
  rw [if_neg h1, if_neg h2, if_neg h3, if_neg h4, if_neg h5, if_neg h6] at h
  cases h
theorem eval_is (w : World) (ad : Option Addr) (n cap : Nat) (V : List Int) (h : Row w ad n V) (hv : varsOk V = true) (o a b q : Int) (he : exprOk o a b = true) (hq : evalV V o a b = q) :
    Calls Tryz.prog 176 #[.slice ad n cap, ev o a b] w (BelI w q) := by
  obtain ⟨h1, h2, h3⟩ := (exprOk_iff o a b).1 he
  rw [← hq, evalV_ok hv he]
  exact spec_eval w ad n cap V h hv o a b h1 h2 h3
theorem keep5 {w w' : World} {g b : Nat} {x0 x1 x2 x3 x4 : Value} (hb : Below w.heap.size w w') (hg : g < w.heap.size) (hbb : b < w.heap.size) (h : w.cell? ⟨g, 0, none⟩ = some x0 ∧ w.cell? ⟨b, 1, none⟩ = some x1 ∧ w.cell? ⟨b, 3, none⟩ = some x2 ∧ w.cell? ⟨b, 3 + 1, none⟩ = some x3 ∧ w.cell? ⟨b, 3 + 2, none⟩ = some x4) : w'.cell? ⟨g, 0, none⟩ = some x0 ∧ w'.cell? ⟨b, 1, none⟩ = some x1 ∧ w'.cell? ⟨b, 3, none⟩ = some x2 ∧ w'.cell? ⟨b, 3 + 1, none⟩ = some x3 ∧ w'.cell? ⟨b, 3 + 2, none⟩ = some x4 :=
  ⟨(hb.cell (p := ⟨g, 0, none⟩) hg).trans h.1, (hb.cell (p := ⟨b, 1, none⟩) hbb).trans h.2.1, (hb.cell (p := ⟨b, 3, none⟩) hbb).trans h.2.2.1, (hb.cell (p := ⟨b, 3 + 1, none⟩) hbb).trans h.2.2.2.1, (hb.cell (p := ⟨b, 3 + 2, none⟩) hbb).trans h.2.2.2.2⟩
theorem Par.step {L : List Sm} {p b : Nat} {T : Fst} (h : Par L p b T) (hlt : p < b) : (∃ s r, T = .one s r ∧ L[p]? = some s ∧ opn s = false ∧ s.k ≠ 6 ∧ Par L (p + 1) b r) ∨ (∃ s e B r, T = .nest s B r ∧ L[p]? = some s ∧ IsEnd L p e ∧ Par L (p + 1) e B ∧ Par L (e + 1) b r) := by
  cases h with
  | nil => omega
  | one _ _ r s hs ho h6 hr => exact .inl ⟨s, r, rfl, hs, ho, h6, hr⟩
  | nest _ e _ B r s hs he hb hr => exact .inr ⟨s, e, B, r, rfl, hs, he, hb, hr⟩
end Go.Proofs.YtmgeecdgebemdaaGreatDoor.exe
