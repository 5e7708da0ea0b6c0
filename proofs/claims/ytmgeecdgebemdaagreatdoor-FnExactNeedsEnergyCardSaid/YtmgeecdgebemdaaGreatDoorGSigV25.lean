/- Several texts in one: VTrcX. -/
import Derived.Test.YtmgeecdgebemdaaGreatDoorGSigV24

/- Chapter 14 of the model: l14Exec: a stretch of a valid block executed with its steps; nothing else that was there is written. -/
namespace Go.Proofs.YtmgeecdgebemdaaGreatDoor.trc
open Go Go.ChangeShapes Go.WideShapes Go.ChangeAt Go.RowKit Go.Proofs.YtmgeecdgebemdaaGreatDoor.row Go.Proofs.YtmgeecdgebemdaaGreatDoor.val Go.Proofs.YtmgeecdgebemdaaGreatDoor.expr Go.Proofs.YtmgeecdgebemdaaGreatDoor.stm Go.Proofs.YtmgeecdgebemdaaGreatDoor.blk Go.Proofs.YtmgeecdgebemdaaGreatDoor.prg Go.Proofs.YtmgeecdgebemdaaGreatDoor.exe Go.Proofs.YtmgeecdgebemdaaGreatDoor.grow Go.Proofs.YtmgeecdgebemdaaGreatDoor.rss Go.Proofs.YtmgeecdgebemdaaGreatDoor.ctl Go.Proofs.YtmgeecdgebemdaaGreatDoor.sets
abbrev zero6t : Array Value := #[.int .i64 0, .int .i64 0, .int .i64 0, .int .i64 0, .int .i64 0, .int .i64 0]
/-- One sent value more. -/
theorem TnAt.sent {B g : Nat} {gv cv : Nat} {a1 : Option Addr} {n1 c1 : Nat} {a2 : Option Addr} {n2 c2 : Nat} {a3 : Option Addr} {n3 c3 : Nat} {a4 : Option Addr} {n4 c4 : Nat} {a5 : Option Addr} {n5 c5 : Nat} {k : Kf} {y : Tx} {w w' : World} (h : TnAt B g ⟨gv, cv, a1, n1, c1, a2, n2, c2, a3, n3, c3, a4, n4, c4, a5, n5, c5⟩ k y w)
    {q : Int} {v : Value} {o : Obj} (ho : w'.ownsRow B 3 1 v (n1 + 1) (ivs y.x.S ++ [.int .i64 q])) (hg : (w.alloc o).grownBy w' (Value.slice a1 n1 c1).ownBlock)
    (hat : v.ownBlock = (Value.slice a1 n1 c1).ownBlock ∨ v.ownBlock = some (w.alloc o).heap.size) :
    ∃ a' c', v = .slice a' (n1 + 1) c' ∧ Box g (tpC ⟨gv, cv, a1, n1, c1, a2, n2, c2, a3, n3, c3, a4, n4, c4, a5, n5, c5⟩ k) 159 w' ∧
      TnAt B g ⟨gv, cv, a', n1 + 1, c', a2, n2, c2, a3, n3, c3, a4, n4, c4, a5, n5, c5⟩ k ⟨⟨y.x.V, y.x.S ++ [q], y.x.U⟩, y.M, y.L⟩ (w'.setCell ⟨g, 1, none⟩ (.slice a' (n1 + 1) c')) ∧
      Mv (tnB g ⟨gv, cv, a1, n1, c1, a2, n2, c2, a3, n3, c3, a4, n4, c4, a5, n5, c5⟩ k y) w (tnB g ⟨gv, cv, a', n1 + 1, c', a2, n2, c2, a3, n3, c3, a4, n4, c4, a5, n5, c5⟩ k ⟨⟨y.x.V, y.x.S ++ [q], y.x.U⟩, y.M, y.L⟩) (w'.setCell ⟨g, 1, none⟩ (.slice a' (n1 + 1) c')) := by
  rw [ivs_snoc] at ho
  obtain ⟨g4, c', rfl, _, _⟩ := ho.form (by omega)
  have hg' : w.grownBy w' (Value.slice a1 n1 c1).ownBlock := grown_trans (World.grownBy_alloc w _ _) hg
  have hat' : (Value.slice (some ⟨g4, 0, none⟩) (n1 + 1) c').ownBlock = (Value.slice a1 n1 c1).ownBlock ∨ ∀ b, (Value.slice (some ⟨g4, 0, none⟩) (n1 + 1) c').ownBlock = some b → w.heap.size ≤ b := hat.imp id (fun e b hb => by
    rw [e] at hb
    have : (w.alloc o).heap.size = b := Option.some.inj hb
    simp at this; omega)
  obtain ⟨hr, hbx, hmv, hx⟩ := h.rows.app h.box (i := 1) rfl hg' (r' := ⟨.slice (some ⟨g4, 0, none⟩) (n1 + 1) c', n1 + 1, ivs (y.x.S ++ [q]), 3, 1⟩) ho hat' 1 (.slice (some ⟨g4, 0, none⟩) (n1 + 1) c')
  exact ⟨some ⟨g4, 0, none⟩, c', rfl, hx, ⟨hbx, hr⟩, hmv⟩
theorem hB7of {g : Nat} {p p' : Tp} {k : Kf} {y y' : Tx} {w0 w w' : World} (h : TnAt w0.heap.size g p k y w) (hB : Below w0.heap.size w0 w) (m : Mv (tnB g p k y) w (tnB g p' k y') w') : Below w0.heap.size w0 w' := hB.trans (m.below h.rows.base hB.size)
set_option maxHeartbeats 16000000 in
set_option maxRecDepth 100000 in
theorem spec_exec14 (w0 : World) (aL : Option Addr) (n cap : Nat) (L : List Sm) (hn : (n : Int) ≤ 1048576) (hb : IsBlk L) (k : Kf) (hk : KfAt k w0) (hD : Vrs k.D) (hDl : k.D.length ≤ 8) (htl : 0 ≤ k.tl ∧ k.tl ≤ 24) (hL : StRow w0 aL n L) (g : Nat) : ∀ (d a b : Nat), b - a = d → ∀ T : Fst, Par L a b T → b ≤ n → ∀ (y : Tx) (P1 : Tp) (w : World), TOk k.D y T → Below w0.heap.size w0 w → TnAt w0.heap.size g P1 k y w →
    Calls Tryz.prog 131 #[.pointer (some ⟨g, 0, none⟩), .slice aL n cap, .int .i64 a, .int .i64 b] w (TnOut w0.heap.size g P1 k y (texec (liveSrc k.R k.z) k.D k.tk k.tl T y) w) := by
  intro d
  induction d using Nat.strongRecOn with
  | _ d ih =>
  intro a b hd T hT hbn y P1 w hx hB hR
  obtain ⟨i0, hi, hz0, hz1, hz2⟩ := info_parts row.infoInt
  have IH := Lib.hid (show ∀ (a' b' : Nat), b' - a' < b - a → ∀ T : Fst, Par L a' b' T → b' ≤ n → ∀ (y : Tx) (P1 : Tp) (w : World), TOk k.D y T → Below w0.heap.size w0 w → TnAt w0.heap.size g P1 k y w →
    Calls Tryz.prog 131 #[.pointer (some ⟨g, 0, none⟩), .slice aL n cap, .int .i64 a', .int .i64 b'] w (TnOut w0.heap.size g P1 k y (texec (liveSrc k.R k.z) k.D k.tk k.tl T y) w) from fun a' b' h => ih (b' - a') (by omega) a' b' rfl)
  have HBK := Lib.hid hb
  have HC := Lib.hid (And.intro hk (And.intro hD (And.intro hDl htl)))
  have HL := Lib.hid hL
  have H0 := Lib.hid (And.intro hT (And.intro hx (And.intro hB hR)))
  have hab : a ≤ b := hT.le
  have hsrc := Lib.hid (fun q n => liveSrc_val k.R k.z q n)
  clear ih hd hT hx hB hR hb hk hD hDl htl hL
  go_enter Tryz.func131, Tryz.ntmps131
  go_wp2
  go_loopw [8] (fun i wr => ∃ (p : Nat) (T' : Fst) (y' : Tx) (P' : Tp), a ≤ p ∧ p ≤ b ∧ i = .int .i64 p ∧ Hid (Par L p b T') ∧ Hid (texec (liveSrc k.R k.z) k.D k.tk k.tl T' y' = texec (liveSrc k.R k.z) k.D k.tk k.tl T y) ∧ Hid (TOk k.D y' T') ∧ Hid (TnAt w0.heap.size g P' k y' wr ∧ Mv (tnB g P1 k y) w (tnB g P' k y') wr ∧ Below w0.heap.size w0 wr)) (fun i _ => b - (intOf i).toNat)
  case atStart => exact ⟨a, T, y, P1, Nat.le_refl _, hab, rfl, H0.out.1, rfl, H0.out.2.1, H0.out.2.2.2, Mv.refl _ _, H0.out.2.2.1⟩
  case round =>
    obtain ⟨p, T', y', P', hap, hpb, rfl, HP, HE, HT, HRn⟩ := hrel
    by_cases hlt : p < b
    · have hI : (p : Int) < b := by omega
      have hIn : (p : Int) < n := by omega
      have hp0 : (0 : Int) ≤ (p : Int) := by omega
      obtain ⟨gb, off, s, rfl, hlb, hs, hrs⟩ := (HL.out.below HRn.out.2.2).2 p (by omega)
      have HS := Lib.hid (And.intro hs (And.intro hrs (blk_stOk HBK.out hs)))
      have HX := Lib.hid (And.intro (Box.new wr zero6t 112) (below_new wr (.cells zero6t 112)))
      have hgl := HRn.out.1.box.lt
      clear hs hrs
      go_wp2_with (first
        | (refine wpList_load_mid rfl 112 _ rfl gb (off + p * 6) rfl (stC s) _ HS.out.2.1 Tryz.underlying112 rfl (by kernel_rfl) ?_)
        | ((refine wpList_store_box rfl 112 _ _ rfl wr.heap.size _ _ HX.out.1 #[.int .i64 s.k, .int .i64 s.v, .int .i64 s.n, .int .i64 s.o, .int .i64 s.a, .int .i64 s.b] rfl rfl rfl (by kernel_rfl) (by simp [Value.oneCell']) ?_); intro w5 hx5 hg5; refine Hid.out ?_))
      have hb5 : Below wr.heap.size wr w5 := HX.out.2.grown hg5 HX.out.2.size (fun j hj => by cases hj; exact Nat.le_refl _)
      have hr5 := HRn.out.1.below hb5
      have hout5 : ∀ j : Nat, (tnB g P' k y')[j]? ≠ some (some wr.heap.size) := fun j e => by have := HRn.out.1.rows.bound j _ e; omega
      have H5 := Lib.hid (And.intro hx5 (And.intro (HRn.out.2.2.trans (hb5.mono HRn.out.2.2.size)) (And.intro hr5 (And.intro (HRn.out.2.1.trans (Mv.of_below _ hb5)) hout5))))
      clear hx5 hg5 hb5 hr5 hout5
      have d0 : w5.cell? ⟨wr.heap.size, 0, none⟩ = some (.int .i64 s.k) := H5.out.1.cell 0
      have hl5 : wr.heap.size < w5.heap.size := H5.out.1.lt
      have hMl : (y'.M.length : Int) ≤ 80000 := by have h1 := HT.out.2.2.2; have h2 := cntS_nonneg T'; omega
      have HKC := Lib.hid (spec_kindcost' s w5)
      have hs6 : (s.k != 6) = true := by
        rcases HP.out.step hlt with ⟨s', r, _, hs', _, h6, _⟩ | ⟨s', e, B, r, _, hs', he, _, _⟩
        · have := HS.out.1; rw [hs'] at this; cases this; simpa using h6
        · obtain ⟨s2, h1, h2⟩ := he.opens
          have := HS.out.1; rw [h1] at this; cases this
          unfold opn at h2; simp at h2 ⊢; omega
      refine Lib.hid ?_
      go_wp2_with (first
        | (refine wpList_load_row rfl 112 _ rfl wr.heap.size rfl _ _ _ _ H5.out.1 Tryz.underlying112 rfl (by kernel_rfl) ?_)
        | (go_at_call 174; (with_reducible refine HKC.out.mono ?_); rintro e w6 ⟨rfl, hb6⟩; have hr6 := H5.out.2.2.1.below hb6)
        | (go_at_call 132; (with_reducible refine (spec_step _ g _ k _ _ hr6 (by omega) _).mono ?_); rintro e w7 ⟨rfl, P7, h7, m7⟩; refine Hid.out ?_))
      have hx7 := m7.box (H5.out.1.below hb6) H5.out.2.2.2.2
      have ho7 := m7.out (Nat.lt_of_lt_of_le hl5 hb6.size) H5.out.2.2.2.2
      have hm7 := (H5.out.2.2.2.1.trans (Mv.of_below _ hb6)).trans m7
      have hB7 := hB7of H0.out.2.2.2 H0.out.2.2.1 hm7
      obtain ⟨gv, cv, a1, n1, c1, a2, n2, c2, a3, n3, c3, a4, n4, c4, a5, n5, c5⟩ := P7
      have H7 := Lib.hid (And.intro hx7 (And.intro ho7 (And.intro hm7 (And.intro hB7 h7))))
      clear hb6 hr6 h7 m7 hx7 ho7 hm7 hB7 d0 hl5 hs6
      have hl7 : wr.heap.size < w7.heap.size := H7.out.1.lt
      have hg7 : g < w7.heap.size := H7.out.2.2.2.2.box.lt
      have d1 : w7.cell? ⟨wr.heap.size, 1, none⟩ = some (.int .i64 s.v) := H7.out.1.cell 1
      have d2 : w7.cell? ⟨wr.heap.size, 2, none⟩ = some (.int .i64 s.n) := H7.out.1.cell 2
      have d3 : w7.cell? ⟨wr.heap.size, 3, none⟩ = some (.int .i64 s.o) := H7.out.1.cell 3
      have d4 : w7.cell? ⟨wr.heap.size, 3 + 1, none⟩ = some (.int .i64 s.a) := H7.out.1.cell 4
      have d5 : w7.cell? ⟨wr.heap.size, 3 + 2, none⟩ = some (.int .i64 s.b) := H7.out.1.cell 5
      have e0 : w7.cell? ⟨g, 0, none⟩ = some (.slice (some ⟨gv, 0, none⟩) 8 cv) := H7.out.2.2.2.2.box.cell 0
      rcases HP.out.step hlt with ⟨s', r, hTe, hs', ho, h6, hPr⟩ | ⟨s', e, B, r, hTe, hs', he, hPb, hPr⟩
      · obtain rfl : s' = s := by have := HS.out.1; rw [hs'] at this; cases this; rfl
        subst hTe
        have HPr := Lib.hid hPr
        have hk4 : s'.k ≠ 4 ∧ s'.k ≠ 5 := by unfold opn at ho; simp at ho; exact ho
        have hkind := st_kind' HS.out.2.2
        have HONE := Lib.hid (show ∀ y2, tstep (liveSrc k.R k.z) k.D k.tk k.tl s' y' = y2 → texec (liveSrc k.R k.z) k.D k.tk k.tl r y2 = texec (liveSrc k.R k.z) k.D k.tk k.tl T y ∧ TOk k.D y2 r from fun y2 hy => by
          subst hy
          exact ⟨HE.out, TOk.one hsrc.out HT.out⟩)
        have HD := Lib.hid (show Below w7.heap.size w7 w7.drew from Below.drew (Below.refl _ w7))
        have HRD := Lib.hid (H7.out.2.2.2.2.below HD.out)
        have HRV := Lib.hid (show Row w7.drew (some ⟨gv, 0, none⟩) 8 y'.x.V from Row.of_own (HRD.out.rows.own 0 _ rfl))
        have hq7 : wr.heap.size < w7.drew.heap.size := hl7
        have hqg : g < w7.drew.heap.size := hg7
        have hML : (y'.M ++ [(⟨kindT s'.k, -1, 0⟩ : Mic)]).length ≤ 90000 := by simp; omega
        have HKD := Lib.hid (show KfAt k w7.drew from ⟨HC.out.1.1.below (H7.out.2.2.2.1.trans (HD.out.mono H7.out.2.2.2.1.size)), HC.out.1.2⟩)
        have HNX := Lib.hid (show ∀ w8 w9 P9 y9, Below w7.drew.heap.size w7.drew w8 → Mv (tnB g ⟨gv, cv, a1, n1, c1, a2, n2, c2, a3, n3, c3, a4, n4, c4, a5, n5, c5⟩ k ⟨y'.x, y'.M ++ [⟨kindT s'.k, -1, 0⟩], y'.L⟩) w8 (tnB g P9 k y9) w9 → Mv (tnB g P1 k y) w (tnB g P9 k y9) w9 ∧ Below w0.heap.size w0 w9 from fun w8 w9 P9 y9 h8 m9 => by
          have m := (H7.out.2.2.1.trans (Mv.of_below _ HD.out)).trans ((Mv.of_below _ h8).trans m9)
          exact ⟨m, hB7of H0.out.2.2.2 H0.out.2.2.1 m⟩)
        rcases (show s'.k = 1 ∨ s'.k = 2 ∨ s'.k = 3 by omega) with hk | hk | hk
        · have d0 : w7.cell? ⟨wr.heap.size, 0, none⟩ = some (.int .i64 1) := by rw [← hk]; exact H7.out.1.cell 0
          obtain ⟨u, hu, hu8⟩ : ∃ u : Nat, s'.v = u ∧ u < 8 := by have := st_var HS.out.2.2 (.inl hk); exact ⟨s'.v.toNat, by omega, by omega⟩
          rw [hu] at d1
          obtain ⟨q, hq⟩ : ∃ q, evalV y'.x.V s'.o s'.a s'.b = q := ⟨_, rfl⟩
          have HEV := Lib.hid (show ∀ w', Row w' (some ⟨gv, 0, none⟩) 8 y'.x.V → Calls Tryz.prog 176 #[.slice (some ⟨gv, 0, none⟩) 8 cv, ev s'.o s'.a s'.b] w' (BelI w' q) from fun w' h => eval_is w' _ 8 cv y'.x.V h HT.out.1 _ _ _ q (Go.Proofs.YtmgeecdgebemdaaGreatDoor.exe.st_expr HS.out.2.2 (.inl hk)) hq)
          have HST := Lib.hid (tstep_set (src := liveSrc k.R k.z) (D := k.D) (tk := k.tk) (tl := k.tl) hk hu hq)
          have HAS := Lib.hid (show ∀ w', Below w7.drew.heap.size w7.drew w' → Calls Tryz.prog 175 #[.pointer (some ⟨g, 0, none⟩), .int .i64 u, .int .i64 q] w' (TnOut w0.heap.size g _ k _ _ w') from fun w' hb => spec_assign w0.heap.size g _ k _ w' (HRD.out.below hb) hML HT.out.2.1 HC.out.2.1 HC.out.2.2.1 u hu8 q)
          have cS : w7.drew.cell? ⟨g, 0, none⟩ = some (.slice (some ⟨gv, 0, none⟩) 8 cv) ∧ w7.drew.cell? ⟨wr.heap.size, 1, none⟩ = some (.int .i64 (u : Int)) ∧ w7.drew.cell? ⟨wr.heap.size, 3, none⟩ = some (.int .i64 s'.o) ∧ w7.drew.cell? ⟨wr.heap.size, 3 + 1, none⟩ = some (.int .i64 s'.a) ∧ w7.drew.cell? ⟨wr.heap.size, 3 + 2, none⟩ = some (.int .i64 s'.b) := ⟨e0, d1, d3, d4, d5⟩
          clear hu hq d1 d2 d3 d4 d5 e0 hkind hk4 ho h6 hs' hPr
          obtain ⟨sw0, sw1, sw2, sw3, sw4⟩ := id cS
          refine Lib.hid ?_
          go_wp2
          go_region_law (first
              | (go_simp; go_at_call 176; (with_reducible refine (HEV.out _ HRV.out).mono ?_); rintro e w8 ⟨rfl, hb8⟩; obtain ⟨sx0, sx1, sx2, sx3, sx4⟩ := keep5 hb8 hqg hq7 cS)
              | (go_simp; go_at_call 175; (with_reducible refine (HAS.out _ hb8).mono ?_); rintro e w9 ⟨rfl, P9, h9, m9⟩))
          all_goals
            have HF := Lib.hid (And.intro h9 (HNX.out _ _ _ _ hb8 m9))
            clear h9 m9 hb8 cS sw0 sw1 sw2 sw3 sw4 sx0 sx1 sx2 sx3 sx4
            refine Lib.hid ?_
            go_wp2
            go_roundw
            case rel => exact ⟨p + 1, r, _, P9, by omega, by omega, by go_num, HPr.out, (HONE.out _ HST.out).1, (HONE.out _ HST.out).2, HF.out⟩
            case measure => simp [intOf]; omega
        · have d0 : w7.cell? ⟨wr.heap.size, 0, none⟩ = some (.int .i64 2) := by rw [← hk]; exact H7.out.1.cell 0
          obtain ⟨u, hu, hu8⟩ : ∃ u : Nat, s'.v = u ∧ u < 8 := by have := st_var HS.out.2.2 (.inr hk); exact ⟨s'.v.toNat, by omega, by omega⟩
          rw [hu] at d1
          obtain ⟨q, hq⟩ : ∃ q, liveSrc k.R k.z s'.n y'.x.U.length = q := ⟨_, rfl⟩
          have HST := Lib.hid (tstep_sense (src := liveSrc k.R k.z) (D := k.D) (tk := k.tk) (tl := k.tl) hk hu hq)
          have hUl : y'.x.U.length ≤ 100000 := by have h1 := HT.out.2.2.1; have h2 := cnt_nonneg (.one s' r); simp only [tot] at h1; omega
          have HSE := Lib.hid (spec_sns w0.heap.size g _ k _ w7.drew HRD.out HKD.out hUl s'.n q hq)
          have HAS := Lib.hid (show ∀ p8 w8, TnAt w0.heap.size g p8 k ⟨⟨y'.x.V, y'.x.S, y'.x.U ++ [q]⟩, y'.M ++ [⟨kindT s'.k, -1, 0⟩], y'.L⟩ w8 → Calls Tryz.prog 175 #[.pointer (some ⟨g, 0, none⟩), .int .i64 u, .int .i64 q] w8 (TnOut w0.heap.size g p8 k _ _ w8) from fun p8 w8 h => spec_assign w0.heap.size g p8 k _ w8 h hML HT.out.2.1 HC.out.2.1 HC.out.2.2.1 u hu8 q)
          have cS : w7.drew.cell? ⟨wr.heap.size, 1, none⟩ = some (.int .i64 (u : Int)) ∧ w7.drew.cell? ⟨wr.heap.size, 2, none⟩ = some (.int .i64 s'.n) := ⟨d1, d2⟩
          have HBX := Lib.hid (show ∀ p8 y8 w8, Mv (tnB g ⟨gv, cv, a1, n1, c1, a2, n2, c2, a3, n3, c3, a4, n4, c4, a5, n5, c5⟩ k ⟨y'.x, y'.M ++ [⟨kindT s'.k, -1, 0⟩], y'.L⟩) w7.drew (tnB g p8 k y8) w8 → w8.cell? ⟨wr.heap.size, 1, none⟩ = some (.int .i64 (u : Int)) ∧ w8.cell? ⟨wr.heap.size, 2, none⟩ = some (.int .i64 s'.n) from fun p8 y8 w8 m8 => by
            have hx := m8.box (H7.out.1.below HD.out) H7.out.2.1
            exact ⟨by rw [← hu]; exact hx.cell 1, hx.cell 2⟩)
          clear hu hq d1 d2 d3 d4 d5 e0 hkind hk4 ho h6 hs' hPr
          obtain ⟨sw0, sw1⟩ := id cS
          refine Lib.hid ?_
          go_wp2
          go_region_law (first
              | (go_simp; go_at_call 177; (with_reducible refine HSE.out.mono ?_); rintro e w8 ⟨rfl, p8, h8, m8⟩; obtain ⟨sx0, sx1⟩ := HBX.out _ _ _ m8)
              | (go_simp; go_at_call 175; (with_reducible refine (HAS.out _ _ h8).mono ?_); rintro e w9 ⟨rfl, P9, h9, m9⟩))
          all_goals
            have HF := Lib.hid (And.intro h9 (HNX.out _ _ _ _ (Below.refl _ _) (m8.trans m9)))
            clear h9 m9 h8 m8 cS sw0 sw1 sx0 sx1
            refine Lib.hid ?_
            go_wp2
            go_roundw
            case rel => exact ⟨p + 1, r, _, P9, by omega, by omega, by go_num, HPr.out, (HONE.out _ HST.out).1, (HONE.out _ HST.out).2, HF.out⟩
            case measure => simp [intOf]; omega
        · have d0 : w7.cell? ⟨wr.heap.size, 0, none⟩ = some (.int .i64 3) := by rw [← hk]; exact H7.out.1.cell 0
          obtain ⟨q, hq⟩ : ∃ q, evalV y'.x.V s'.o s'.a s'.b = q := ⟨_, rfl⟩
          have HEV := Lib.hid (show ∀ w', Row w' (some ⟨gv, 0, none⟩) 8 y'.x.V → Calls Tryz.prog 176 #[.slice (some ⟨gv, 0, none⟩) 8 cv, ev s'.o s'.a s'.b] w' (BelI w' q) from fun w' h => eval_is w' _ 8 cv y'.x.V h HT.out.1 _ _ _ q (Go.Proofs.YtmgeecdgebemdaaGreatDoor.exe.st_expr HS.out.2.2 (.inr (.inl hk))) hq)
          have HST := Lib.hid (tstep_send (src := liveSrc k.R k.z) (D := k.D) (tk := k.tk) (tl := k.tl) hk hq)
          have ho1 : w7.ownsRow w0.heap.size 3 1 (.slice a1 n1 c1) n1 (ivs y'.x.S) := H7.out.2.2.2.2.rows.own 1 _ rfl
          have hsl := own_len ho1
          have HSL := Lib.hid hsl
          have hn1 : n1 ≤ 100000 := by have h1 := HT.out.2.2.1; have h2 := cnt_nonneg (.one s' r); simp only [tot] at h1; omega
          have htl0 := HC.out.2.2.2
          obtain ⟨tl, hTL⟩ : ∃ t, k.tl = t := ⟨_, rfl⟩
          rw [hTL] at htl0
          have e1 : w7.cell? ⟨g, 1, none⟩ = some (.slice a1 n1 c1) := H7.out.2.2.2.2.box.cell 1
          have e11 : w7.cell? ⟨g, 11, none⟩ = some (.int .i64 tl) := by rw [← hTL]; exact H7.out.2.2.2.2.box.cell 11
          have wt : IntKind.i64.wrap (tl + (n1 : Int)) = tl + n1 := IntWalk.i64_in _ (by omega)
          have wb : IntKind.i64.wrap (25 + (tl + (n1 : Int))) = 25 + (tl + n1) := IntWalk.i64_in _ (by omega)
          have HTL := Lib.hid hTL
          have HST2 := Lib.hid (show tstep (liveSrc k.R k.z) k.D k.tk k.tl s' y' = ⟨⟨y'.x.V, y'.x.S ++ [q], y'.x.U⟩, (y'.M ++ [⟨kindT s'.k, -1, 0⟩]) ++ (if tl + (n1 : Int) < 24 then [wrM (25 + (tl + (n1 : Int))) q] else []), y'.L⟩ by rw [HST.out, HTL.out, HSL.out])
          have HD2 := Lib.hid (show Below w7.heap.size w7 w7.drew.drew from Below.drew HD.out)
          have HRD2 := Lib.hid (H7.out.2.2.2.2.below HD2.out)
          have HRV2 := Lib.hid (show Row w7.drew.drew (some ⟨gv, 0, none⟩) 8 y'.x.V from Row.of_own (HRD2.out.rows.own 0 _ rfl))
          have sw0 : w7.drew.cell? ⟨g, 11, none⟩ = some (.int .i64 tl) := e11
          have sw1 : w7.drew.cell? ⟨g, 1, none⟩ = some (.slice a1 n1 c1) := e1
          have cS : w7.drew.drew.cell? ⟨g, 0, none⟩ = some (.slice (some ⟨gv, 0, none⟩) 8 cv) ∧ w7.drew.drew.cell? ⟨wr.heap.size, 3, none⟩ = some (.int .i64 s'.o) ∧ w7.drew.drew.cell? ⟨wr.heap.size, 3 + 1, none⟩ = some (.int .i64 s'.a) ∧ w7.drew.drew.cell? ⟨wr.heap.size, 3 + 2, none⟩ = some (.int .i64 s'.b) := ⟨e0, d3, d4, d5⟩
          clear hq hsl hTL hkind hk4 ho h6 hs' hPr ho1
          obtain ⟨sv0, sv1, sv2, sv3⟩ := cS
          refine Lib.hid ?_
          go_wp2
          go_region_law (first
              | fail)
          all_goals (refine ?same3)
          case same3 =>
            clear sw0 sw1
            refine Lib.hid ?_
            go_wp2
            go_region_law (first
                | (go_simp; go_at_call 176; (with_reducible refine (HEV.out _ HRV2.out).mono ?_); rintro e w8 ⟨rfl, hb8⟩))
            all_goals (revert hb8; revert w8; refine ?same4)
            case same4 =>
              intro w8 hb8
              have h8 := HRD2.out.below hb8
              have c1' : w8.cell? ⟨g, 1, none⟩ = some (.slice a1 n1 c1) := h8.box.cell 1
              have ho8 : w8.ownsRow w0.heap.size 3 1 (.slice a1 n1 c1) n1 (ivs y'.x.S) := h8.rows.own 1 _ rfl
              have hB8 : w0.heap.size ≤ w8.heap.size := h8.low
              have HO8 := Lib.hid ho8
              have H8 := Lib.hid (And.intro h8 (show Below w7.drew.heap.size w7.drew w8 from (Below.drew (Below.refl _ w7.drew)).trans hb8))
              clear h8 ho8 hb8 sv0 sv1 sv2 sv3 d0 d1 d2 d3 d4 d5 e0 e1 e11
              refine Lib.hid ?_
              go_wp2_with (at_builtin; refine wpList_append_own_at _ rfl _ _ 27 rfl w0.heap.size 3 i0 (.int .i64 0) 1 8 Tryz.underlying27 hi hz0 hz1 hz2 rfl (by decide) _ n1 _ rfl (HO8.out.alloc _) ⟨w8.heap.size, 0, none⟩ 1 1 [.int .i64 q] rfl rfl (World.news_of_block (cs := #[.int .i64 q]) (t := 3) (fr := (0, 0)) (heap_alloc_new w8 _)) (by simp [Value.oneCell']) (by unfold maxLen; omega) (by omega) (by simp; omega) ?_; intro v6 w6 hown6 hgrow6 _ hat6; refine Hid.out ?_)
              obtain ⟨a9, c9, rfl, hx6, h9, m9⟩ := H8.out.1.sent hown6 hgrow6 hat6
              have f1 : w6.frozen? ⟨g, 1, none⟩ = false := hx6.frozen 1
              have k1 : w6.cell? ⟨g, 1, none⟩ = some (.slice a1 n1 c1) := hx6.cell 1
              have H9 := Lib.hid (And.intro h9 m9)
              clear hown6 hgrow6 hat6 h9 m9 hx6 c1'
              by_cases ht : tl + (n1 : Int) < 24
              · have HW := Lib.hid (spec_wr w0.heap.size g _ k _ _ H9.out.1 (show (y'.M ++ [(⟨kindT s'.k, -1, 0⟩ : Mic)]).length ≤ 100000 by omega) (25 + (tl + (n1 : Int))) q)
                have HST3 := Lib.hid (HST2.out.trans (by rw [if_pos ht]))
                refine Lib.hid ?_
                go_wp2_with (go_at_call 133; (with_reducible refine HW.out.mono ?_); rintro e wA ⟨rfl, PA, hA, mA⟩; refine Hid.out ?_)
                have HF := Lib.hid (And.intro hA (HNX.out _ _ _ _ H8.out.2 (H9.out.2.trans mA)))
                clear hA mA
                refine Lib.hid ?_
                go_wp2
                go_roundw
                case rel => exact ⟨p + 1, r, _, PA, by omega, by omega, by go_num, HPr.out, (HONE.out _ HST3.out).1, (HONE.out _ HST3.out).2, HF.out⟩
                case measure => simp [intOf]; omega
              · have HST3 := Lib.hid (HST2.out.trans (by rw [if_neg ht, List.append_nil]))
                have HF := Lib.hid (And.intro H9.out.1 (HNX.out _ _ _ _ H8.out.2 H9.out.2))
                refine Lib.hid ?_
                go_wp2
                go_roundw
                case rel => exact ⟨p + 1, r, _, _, by omega, by omega, by go_num, HPr.out, (HONE.out _ HST3.out).1, (HONE.out _ HST3.out).2, HF.out⟩
                case measure => simp [intOf]; omega
      · obtain rfl : s' = s := by have := HS.out.1; rw [hs'] at this; cases this; rfl
        subst hTe
        have hpe := he.1
        have hPle := hPr.le
        have HBV := Lib.hid (par_allS HBK.out hPb)
        have hkk : s'.k = 4 ∨ s'.k = 5 := by
          obtain ⟨s2, h1, h2⟩ := he.opens
          rw [hs'] at h1; cases h1
          unfold opn at h2; simpa using h2
        have HIN := Lib.hid (And.intro he (And.intro hPb hPr))
        have hlen : e - (p + 1) < b - a := by omega
        have hE0 : (0 : Int) ≤ e := by omega
        clear he hPb hPr
        obtain ⟨m, hm⟩ : ∃ m, its s' y'.x = m := ⟨_, rfl⟩
        have HM := Lib.hid hm
        have hm5 : m ≤ 5 := by
          rw [← hm]; unfold its
          split
          · split <;> omega
          · have := n_le HS.out.2.2; omega
        obtain ⟨y1, hy1⟩ : ∃ y1 : Tx, (⟨y'.x, y'.M ++ [stepM s'.k], y'.L⟩ : Tx) = y1 := ⟨_, rfl⟩
        have HY1 := Lib.hid hy1
        have H7y := Lib.hid (show TnAt w0.heap.size g ⟨gv, cv, a1, n1, c1, a2, n2, c2, a3, n3, c3, a4, n4, c4, a5, n5, c5⟩ k y1 w7 ∧ Mv (tnB g P1 k y) w (tnB g ⟨gv, cv, a1, n1, c1, a2, n2, c2, a3, n3, c3, a4, n4, c4, a5, n5, c5⟩ k y1) w7 ∧ Below w0.heap.size w0 w7 from by
          rw [← hy1]
          exact ⟨H7.out.2.2.2.2, H7.out.2.2.1, H7.out.2.2.2.1⟩)
        -- each execution of the body
        have HBODY := Lib.hid (show ∀ (j : Nat) (Pq : Tp) (w' : World), j < m → Below w0.heap.size w0 w' → TnAt w0.heap.size g Pq k (trep (texec (liveSrc k.R k.z) k.D k.tk k.tl B) j y1) w' →
            Calls Tryz.prog 131 #[.pointer (some ⟨g, 0, none⟩), .slice (some ⟨gb, off, none⟩) n cap, .int .i64 ((p : Int) + 1), .int .i64 e] w' (TnOut w0.heap.size g Pq k (trep (texec (liveSrc k.R k.z) k.D k.tk k.tl B) j y1) (trep (texec (liveSrc k.R k.z) k.D k.tk k.tl B) (j + 1) y1) w') from fun j Pq w' hj hB' hR' => by
          have h1 := HT.out.body hsrc.out (tk := k.tk) (tl := k.tl) HBV.out j (by rw [HM.out]; exact hj)
          rw [HY1.out] at h1
          have h9 := IH.out (p + 1) e hlen B HIN.out.2.1 (by omega) _ Pq w' h1 hB' hR'
          rw [trep_last]
          push_cast at h9
          exact h9)
        have HAFTER := Lib.hid (show ∀ y2, trep (texec (liveSrc k.R k.z) k.D k.tk k.tl B) m y1 = y2 → texec (liveSrc k.R k.z) k.D k.tk k.tl r y2 = texec (liveSrc k.R k.z) k.D k.tk k.tl T y ∧ TOk k.D y2 r from fun y2 hy => by
          subst hy
          have h1 := HT.out.after hsrc.out (tk := k.tk) (tl := k.tl) HBV.out
          rw [HM.out, HY1.out] at h1
          refine ⟨?_, h1⟩
          rw [← HE.out]
          simp only [texec]
          rw [HM.out, HY1.out])
        have HNX := Lib.hid (show ∀ w9 P9 y9, Mv (tnB g P1 k y) w (tnB g P9 k y9) w9 → Below w0.heap.size w0 w9 from fun w9 P9 y9 m => hB7of H0.out.2.2.2 H0.out.2.2.1 m)
        have HR7 := Lib.hid (HL.out.below H7y.out.2.2)
        clear hm hy1
        rcases hkk with hk | hk
        · have d0 : w7.cell? ⟨wr.heap.size, 0, none⟩ = some (.int .i64 4) := by rw [← hk]; exact H7.out.1.cell 0
          obtain ⟨q, hq⟩ : ∃ q, evalV y'.x.V s'.o s'.a s'.b = q := ⟨_, rfl⟩
          have HEV := Lib.hid (show ∀ w', Row w' (some ⟨gv, 0, none⟩) 8 y'.x.V → Calls Tryz.prog 176 #[.slice (some ⟨gv, 0, none⟩) 8 cv, ev s'.o s'.a s'.b] w' (BelI w' q) from fun w' h => eval_is w' _ 8 cv y'.x.V h HT.out.1 _ _ _ q (Go.Proofs.YtmgeecdgebemdaaGreatDoor.exe.st_expr HS.out.2.2 (.inr (.inr hk))) hq)
          have HMQ := Lib.hid (show m = if q = 0 then 0 else 1 by rw [← HM.out]; unfold its; rw [if_pos hk, hq])
          clear hq
          refine Lib.hid ?_
          go_wp2_with (go_at_call 178; (with_reducible refine (spec_end _ n cap L _ HR7.out HBK.out p e HIN.out.1 e rfl).mono ?_); rintro e9 w8 ⟨rfl, hb8⟩; refine Hid.out ?_)
          have hx8 := H7.out.1.below hb8
          have h8 := H7y.out.1.below hb8
          have m8 := H7y.out.2.1.trans (Mv.of_below _ hb8)
          have d0 : w8.cell? ⟨wr.heap.size, 0, none⟩ = some (.int .i64 4) := by rw [← hk]; exact hx8.cell 0
          have d2 : w8.cell? ⟨wr.heap.size, 2, none⟩ = some (.int .i64 s'.n) := hx8.cell 2
          have HRV := Lib.hid (show Row w8.drew (some ⟨gv, 0, none⟩) 8 y'.x.V from Row.of_own (by
            have h9 := (h8.below (Below.drew (Below.refl _ w8))).rows.own 0 _ rfl
            rw [← HY1.out] at h9
            exact h9))
          have cS : w8.drew.cell? ⟨g, 0, none⟩ = some (.slice (some ⟨gv, 0, none⟩) 8 cv) ∧ w8.drew.cell? ⟨wr.heap.size, 3, none⟩ = some (.int .i64 s'.o) ∧ w8.drew.cell? ⟨wr.heap.size, 3 + 1, none⟩ = some (.int .i64 s'.a) ∧ w8.drew.cell? ⟨wr.heap.size, 3 + 2, none⟩ = some (.int .i64 s'.b) := ⟨h8.box.cell 0, hx8.cell 3, hx8.cell 4, hx8.cell 5⟩
          have H8 := Lib.hid (show ∀ w9, Below w8.drew.heap.size w8.drew w9 → TnAt w0.heap.size g ⟨gv, cv, a1, n1, c1, a2, n2, c2, a3, n3, c3, a4, n4, c4, a5, n5, c5⟩ k y1 w9 ∧ Mv (tnB g P1 k y) w (tnB g ⟨gv, cv, a1, n1, c1, a2, n2, c2, a3, n3, c3, a4, n4, c4, a5, n5, c5⟩ k y1) w9 ∧ Below w0.heap.size w0 w9 from fun w9 hb9 => by
            have hb := (Below.drew (Below.refl _ w8)).trans hb9
            have m9 := m8.trans (Mv.of_below _ hb)
            exact ⟨h8.below hb, m9, HNX.out _ _ _ m9⟩)
          obtain ⟨sv0, sv1, sv2, sv3⟩ := cS
          clear hx8 h8 m8 hb8 d1 d3 d4 d5 e0
          by_cases hq0 : q = 0
          · have HBT := Lib.hid (show ∀ w', Calls Tryz.prog 179 #[.bool false] w' (Ret w' 0) from fun w' => spec_bit false w')
            have hm0 : m = 0 := by have := HMQ.out; rw [if_pos hq0] at this; exact this
            subst hq0
            refine Lib.hid ?_
            go_wp2
            go_region_law (first
                | (go_simp; go_at_call 176; (with_reducible refine (HEV.out _ HRV.out).mono ?_); rintro e w9 ⟨rfl, hb9⟩)
                | (go_simp; go_at_call 179; (with_reducible refine (HBT.out _).mono ?_); rintro e w10 ⟨rfl, rfl⟩))
            all_goals (revert hb9; revert w9; refine ?same)
            case same =>
              intro w9 hb9
              have HB8 := Lib.hid (H8.out w9 hb9)
              clear hb9 d0 d2 sv0 sv1 sv2 sv3
              refine Lib.hid ?_
              go_wp2
              go_loopw [14] (fun i wq => ∃ (j : Nat) (Pq : Tp), j ≤ m ∧ i = .int .i64 j ∧ Hid (TnAt w0.heap.size g Pq k (trep (texec (liveSrc k.R k.z) k.D k.tk k.tl B) j y1) wq ∧ Mv (tnB g P1 k y) w (tnB g Pq k (trep (texec (liveSrc k.R k.z) k.D k.tk k.tl B) j y1)) wq ∧ Below w0.heap.size w0 wq)) (fun i _ => m - (intOf i).toNat)
              case atStart => exact ⟨0, _, Nat.zero_le _, rfl, HB8.out⟩
              case round =>
                obtain ⟨j, Pq, hj9, rfl, HQ⟩ := hrel
                by_cases hltj : j < m
                · exfalso; omega
                · have hI2 : ¬ (j : Int) < 0 := by omega
                  have hjm : j = m := by omega
                  go_wp2
                  go_roundw
                  case rel => exact ⟨e + 1, r, _, Pq, by omega, by omega, by go_num, HIN.out.2.2, (HAFTER.out _ (by rw [hjm])).1, (HAFTER.out _ (by rw [hjm])).2, HQ.out⟩
                  case measure => simp [intOf]; omega
          · have HBT := Lib.hid (show ∀ w', Calls Tryz.prog 179 #[.bool (q != 0)] w' (Ret w' 1) from fun w' => by rw [show (q != 0) = true by simpa using hq0]; exact spec_bit true w')
            have hm1 : m = 1 := by have := HMQ.out; rw [if_neg hq0] at this; exact this
            have hqb : (q == 0) = false := by simpa using hq0
            refine Lib.hid ?_
            go_wp2
            go_region_law (first
                | (go_simp; go_at_call 176; (with_reducible refine (HEV.out _ HRV.out).mono ?_); rintro e w9 ⟨rfl, hb9⟩)
                | (go_simp; go_at_call 179; (with_reducible refine (HBT.out _).mono ?_); rintro e w10 ⟨rfl, rfl⟩))
            all_goals (revert hb9; revert w9; refine ?same)
            case same =>
              intro w9 hb9
              have HB8 := Lib.hid (H8.out w9 hb9)
              clear hb9 d0 d2 sv0 sv1 sv2 sv3
              refine Lib.hid ?_
              go_wp2
              go_loopw [14] (fun i wq => ∃ (j : Nat) (Pq : Tp), j ≤ m ∧ i = .int .i64 j ∧ Hid (TnAt w0.heap.size g Pq k (trep (texec (liveSrc k.R k.z) k.D k.tk k.tl B) j y1) wq ∧ Mv (tnB g P1 k y) w (tnB g Pq k (trep (texec (liveSrc k.R k.z) k.D k.tk k.tl B) j y1)) wq ∧ Below w0.heap.size w0 wq)) (fun i _ => m - (intOf i).toNat)
              case atStart => exact ⟨0, _, Nat.zero_le _, rfl, HB8.out⟩
              case round =>
                obtain ⟨j, Pq, hj9, rfl, HQ⟩ := hrel
                by_cases hltj : j < m
                · have hI2 : (j : Int) < 1 := by omega
                  have HCALL := Lib.hid (HBODY.out j Pq wr hltj HQ.out.2.2 HQ.out.1)
                  go_wp2_with (go_at_call 131; (with_reducible refine HCALL.out.mono ?_); rintro e9 w9 ⟨rfl, P9, h9, m9⟩; refine Hid.out ?_)
                  have H9 := Lib.hid (show _ ∧ _ ∧ _ from ⟨h9, HQ.out.2.1.trans m9, HNX.out _ _ _ (HQ.out.2.1.trans m9)⟩)
                  clear h9 m9
                  refine Lib.hid ?_
                  go_wp2
                  go_roundw
                  case rel => exact ⟨j + 1, P9, by omega, by go_num, H9.out⟩
                  case measure => simp [intOf]; omega
                · have hI2 : ¬ (j : Int) < 1 := by omega
                  have hjm : j = m := by omega
                  go_wp2
                  go_roundw
                  case rel => exact ⟨e + 1, r, _, Pq, by omega, by omega, by go_num, HIN.out.2.2, (HAFTER.out _ (by rw [hjm])).1, (HAFTER.out _ (by rw [hjm])).2, HQ.out⟩
                  case measure => simp [intOf]; omega
        · have d0 : w7.cell? ⟨wr.heap.size, 0, none⟩ = some (.int .i64 5) := by rw [← hk]; exact H7.out.1.cell 0
          have hmn : s'.n = (m : Int) := by
            have h1 := HM.out
            have h2 := st_loop HS.out.2.2 hk
            unfold its at h1
            rw [if_neg (by omega)] at h1
            omega
          refine Lib.hid ?_
          go_wp2_with (go_at_call 178; (with_reducible refine (spec_end _ n cap L _ HR7.out HBK.out p e HIN.out.1 e rfl).mono ?_); rintro e9 w8 ⟨rfl, hb8⟩; refine Hid.out ?_)
          have hx8 := H7.out.1.below hb8
          have h8 := H7y.out.1.below hb8
          have m8 := H7y.out.2.1.trans (Mv.of_below _ hb8)
          have d0 : w8.cell? ⟨wr.heap.size, 0, none⟩ = some (.int .i64 5) := by rw [← hk]; exact hx8.cell 0
          have d2 : w8.cell? ⟨wr.heap.size, 2, none⟩ = some (.int .i64 (m : Int)) := by rw [← hmn]; exact hx8.cell 2
          have HB8 := Lib.hid (show _ ∧ _ ∧ _ from ⟨h8, m8, HNX.out _ _ _ m8⟩)
          clear hx8 h8 m8 hb8 d1 d3 d4 d5 e0
          refine Lib.hid ?_
          go_wp2
          go_loopw [14] (fun i wq => ∃ (j : Nat) (Pq : Tp), j ≤ m ∧ i = .int .i64 j ∧ Hid (TnAt w0.heap.size g Pq k (trep (texec (liveSrc k.R k.z) k.D k.tk k.tl B) j y1) wq ∧ Mv (tnB g P1 k y) w (tnB g Pq k (trep (texec (liveSrc k.R k.z) k.D k.tk k.tl B) j y1)) wq ∧ Below w0.heap.size w0 wq)) (fun i _ => m - (intOf i).toNat)
          case atStart => exact ⟨0, _, Nat.zero_le _, rfl, HB8.out⟩
          case round =>
            obtain ⟨j, Pq, hj9, rfl, HQ⟩ := hrel
            by_cases hltj : j < m
            · have hI2 : (j : Int) < m := by omega
              have HCALL := Lib.hid (HBODY.out j Pq wr hltj HQ.out.2.2 HQ.out.1)
              go_wp2_with (go_at_call 131; (with_reducible refine HCALL.out.mono ?_); rintro e9 w9 ⟨rfl, P9, h9, m9⟩; refine Hid.out ?_)
              have H9 := Lib.hid (show _ ∧ _ ∧ _ from ⟨h9, HQ.out.2.1.trans m9, HNX.out _ _ _ (HQ.out.2.1.trans m9)⟩)
              clear h9 m9
              refine Lib.hid ?_
              go_wp2
              go_roundw
              case rel => exact ⟨j + 1, P9, by omega, by go_num, H9.out⟩
              case measure => simp [intOf]; omega
            · have hI2 : ¬ (j : Int) < m := by omega
              have hjm : j = m := by omega
              go_wp2
              go_roundw
              case rel => exact ⟨e + 1, r, _, Pq, by omega, by omega, by go_num, HIN.out.2.2, (HAFTER.out _ (by rw [hjm])).1, (HAFTER.out _ (by rw [hjm])).2, HQ.out⟩
              case measure => simp [intOf]; omega
    · have hpb' : p = b := by omega
      have hI : ¬ (p : Int) < b := by omega
      have HX9 := Lib.hid (show texec (liveSrc k.R k.z) k.D k.tk k.tl T y = y' by
        rw [← HE.out]
        obtain rfl : T' = .nil := by have h1 := HP.out; rw [hpb'] at h1; exact h1.unique (.nil b)
        rfl)
      go_wp2
      exact bodyPost_ret (results_none rfl _ _ _) rfl ⟨rfl, P', by rw [HX9.out]; exact HRn.out.1, by rw [HX9.out]; exact HRn.out.2.1⟩
end Go.Proofs.YtmgeecdgebemdaaGreatDoor.trc
