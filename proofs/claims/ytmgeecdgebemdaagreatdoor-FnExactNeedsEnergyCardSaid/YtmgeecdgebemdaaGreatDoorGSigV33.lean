/- Several texts in one: VTrcT VTrcQ. -/
import Derived.Test.YtmgeecdgebemdaaGreatDoorGSigV25
import Derived.Test.YtmgeecdgebemdaaGreatDoorGSigV26
import Derived.Test.YtmgeecdgebemdaaGreatDoorGSigV32
import Derived.Test.YtmgeecdgebemdaaGreatDoorGSigV8
import Derived.Test.YtmgeecdgebemdaaGreatDoorGSigV22
import Derived.Deep.RegionLaw
import Derived.Deep.AppendLies

/- Chapter 14 of the model: l14Trace: the trace of the current task, in new memory; nothing that was there is written. -/
namespace Go.Proofs.YtmgeecdgebemdaaGreatDoor.trc
open Go Go.ChangeShapes Go.WideShapes Go.ChangeAt Go.RowKit Go.Proofs.YtmgeecdgebemdaaGreatDoor.row Go.Proofs.YtmgeecdgebemdaaGreatDoor.val Go.Proofs.YtmgeecdgebemdaaGreatDoor.expr Go.Proofs.YtmgeecdgebemdaaGreatDoor.stm Go.Proofs.YtmgeecdgebemdaaGreatDoor.blk Go.Proofs.YtmgeecdgebemdaaGreatDoor.prg Go.Proofs.YtmgeecdgebemdaaGreatDoor.exe Go.Proofs.YtmgeecdgebemdaaGreatDoor.grow Go.Proofs.YtmgeecdgebemdaaGreatDoor.rss Go.Proofs.YtmgeecdgebemdaaGreatDoor.ctl Go.Proofs.YtmgeecdgebemdaaGreatDoor.sets Go.Proofs.YtmgeecdgebemdaaGreatDoor.mem
theorem sep_first {g gv : Nat} {b4 : Option Nat} (h1 : g < gv) (h2 : ∀ b, b4 = some b → b < g) : Sep [some g, some gv, none, none, none, b4, none] := by
  have key : ∀ (i b : Nat), ([some g, some gv, none, none, none, b4, none] : List (Option Nat))[i]? = some (some b) → (i = 0 ∧ b = g) ∨ (i = 1 ∧ b = gv) ∨ (i = 5 ∧ b4 = some b) := by
    intro i b h
    match i, h with
    | 0, h => exact .inl ⟨rfl, (Option.some.inj (Option.some.inj h)).symm⟩
    | 1, h => exact .inr (.inl ⟨rfl, (Option.some.inj (Option.some.inj h)).symm⟩)
    | 2, h => simp at h
    | 3, h => simp at h
    | 4, h => simp at h
    | 5, h => exact .inr (.inr ⟨rfl, Option.some.inj h⟩)
    | 6, h => simp at h
    | i + 7, h => simp at h
  intro i j b hi hj
  rcases key i b hi with ⟨e1, e2⟩ | ⟨e1, e2⟩ | ⟨e1, e2⟩ <;> rcases key j b hj with ⟨f1, f2⟩ | ⟨f1, f2⟩ | ⟨f1, f2⟩
  · omega
  · omega
  · have := h2 b f2; omega
  · omega
  · omega
  · have := h2 b f2; omega
  · have := h2 b e2; omega
  · have := h2 b e2; omega
  · omega
theorem log_len (t : Tk) : (lst (logF t) 8).length ≤ 8 := by
  unfold lst
  rw [List.length_map]
  exact Nat.le_trans (List.length_filter_le _ _) (by simp)
abbrev zero12T : Array Value := #[.slice none 0 0, .slice none 0 0, .slice none 0 0, .slice none 0 0, .slice none 0 0, .int .i64 0, .bool false, .slice none 0 0, .slice none 0 0, .slice none 0 0, .int .i64 0, .int .i64 0]
set_option maxHeartbeats 16000000 in
set_option maxRecDepth 100000 in
theorem spec_trace (a : Option Addr) (n cap : Nat) (P : List Tk) (hz : Sizes P) (w : World) (h : TkRow w a n P) (am : Option Addr) (nm cm : Nat) (Mem : List Int) (hnm : (nm : Int) ≤ 1048576) (hcm : nm ≤ cm) (hM : Row w am nm Mem) (ar : Option Addr) (nr cr : Nat) (R : List Int) (hnr : (nr : Int) ≤ 1048576) (hR : Row w ar nr R)
    (z : Int) (hok : TrOk P Mem R z) (t : Tk) (T : Fst) (hT : TaskAt P (Mem.take 8) R (wT (Mem.getD 8 0)) t T) :
    Calls Tryz.prog 74 #[.agg #[.slice a n cap], .slice am nm cm, .slice ar nr cr, .int .i64 z] w (NewTr w ((trRun Mem R z t T).M ++ endM P t (wN (Mem.getD 8 0)) (trRun Mem R z t T)) (trRun Mem R z t T).x.U) := by
  obtain ⟨i0, hi, hz0, hz1, hz2⟩ := info_parts row.infoInt
  obtain ⟨W, hW⟩ : ∃ W, (w.alloc (.cells #[.slice a n cap] 26)).alloc (.cells zero2T 54) = W := ⟨_, rfl⟩
  have hBW : Below w.heap.size w W := by rw [← hW]; exact below_then (below_new w _) (below_new _ _)
  have hpx : Box w.heap.size #[.slice a n cap] 26 W := by rw [← hW]; exact (Box.new w _ _).alloc _
  have hex : Box (w.heap.size + 1) zero2T 54 W := by
    have h9 := Box.new (w.alloc (.cells #[.slice a n cap] 26)) zero2T 54
    rw [World.size_alloc] at h9
    rw [← hW]; exact h9
  have hWs : W.heap.size = w.heap.size + 2 := by rw [← hW]; simp
  have hlM : Mem.length = 49 := hok.1.2.1
  obtain rfl : nm = 49 := by have := hM.1; omega
  obtain ⟨bm, om, x, rfl, hlm, hx8, hc8⟩ := (hM.below hBW).2 8 (by omega)
  have hX8 : Mem.getD 8 0 = x := by rw [List.getD_eq_getElem?_getD, hx8]; rfl
  have hctl := mem_ctl hok.1
  have hwok := hok.1.2.2.1
  have hcnt := hok.2.1
  rw [hX8] at hctl hwok hcnt hT ⊢
  obtain ⟨j, hj⟩ : ∃ j : Nat, wT x = j := ⟨(wT x).toNat, by omega⟩
  obtain ⟨tl, htl⟩ : ∃ tl : Nat, wN x = tl := ⟨(wN x).toNat, by omega⟩
  have HUN := Lib.hid (show ∀ w', Calls Tryz.prog 30 #[.int .i64 x] w' (RetT w' (j : Int) 0 (tl : Int)) from fun w' => spec_unpack_is x j 0 tl ⟨by unfold unT; rw [if_pos hwok, hj], by unfold unC; rw [if_pos hwok, hcnt], by unfold unN; rw [if_pos hwok, htl]⟩ w')
  obtain ⟨y, hy⟩ : ∃ y, trRun Mem R z t T = y := ⟨_, rfl⟩
  have hyr : texec (liveSrc R z) (lst (logF t) 8) j tl T ⟨⟨Mem.take 8, [], []⟩, [], []⟩ = y := by
    rw [← hy]; unfold trRun; rw [hX8, hj, htl]
  rw [hy, htl]
  rw [hj] at hT
  obtain ⟨hblk, hpar⟩ := task_par hT
  have hbe := hT.blk
  have hprg := hT.1
  have ht : P[j]? = some t := by
    obtain ⟨_, _, _, j', hjj, ht, _⟩ := hT
    obtain rfl : j = j' := by omega
    exact ht
  have hjn : j < n := by have := (List.getElem?_eq_some_iff.1 ht).1; have := h.1; omega
  have hyV : varsOk y.x.V = true := by
    rw [← hyr, texec_x]; exact (hT.good (liveSrc_val R z)).1
  have hyS : y.x.S.length ≤ 3000 ∧ y.x.U.length ≤ 3000 := by
    rw [← hyr, texec_x]; have h9 := hT.small (liveSrc R z); exact ⟨by show (exec (liveSrc R z) T ⟨Mem.take 8, [], []⟩).S.length ≤ 3000; omega, by show (exec (liveSrc R z) T ⟨Mem.take 8, [], []⟩).U.length ≤ 3000; omega⟩
  have hyM : y.M.length ≤ 15000 := by rw [← hy]; exact trRun_len hT Mem R z
  obtain ⟨gt, off, t', ha, hlt, ht', ab, nb, cb, hrg, hbc, hrow⟩ := (h.below hBW).2 j hjn
  obtain rfl : t' = t := by rw [ht] at ht'; exact (Option.some.inj ht').symm
  subst ha
  have hnb : t'.b.length = nb := hrow.1
  have hnb2 : (nb : Int) ≤ 1048576 := by have := hz.2 t' (List.mem_of_getElem? ht); omega
  have hWl : w.heap.size < W.heap.size ∧ w.heap.size + 1 < W.heap.size := by omega
  have H0 := Lib.hid (And.intro hpx (And.intro hex (And.intro hBW (And.intro (h.below hBW) (And.intro (hM.below hBW) (hR.below hBW))))))
  have HRG := Lib.hid (And.intro hrg hrow)
  have HT := Lib.hid (And.intro hT (And.intro hblk (And.intro hpar (And.intro hok (And.intro ht hbe.2)))))
  have HY := Lib.hid (And.intro hyr (And.intro hyV (And.intro hyS hyM)))
  have HW := Lib.hid hWs
  have q0 := (range4 hrg).1
  have c0 : W.cell? ⟨w.heap.size, 0, none⟩ = some (.slice (some ⟨gt, off, none⟩) n cap) := hpx.cell 0
  have hjI : (j : Int) < n := by omega
  have hj0 : (0 : Int) ≤ j := by omega
  have htl24 : tl ≤ 24 := by omega
  have HP := Lib.hid hy
  have HML := Lib.hid (show Calls Tryz.prog 130 #[.agg (tkC ab nb cb t').toArray] W (NewInts W (lst (logF t') 8)) from spec_mustlog ab nb cb t' hnb2 _ HRG.out.2 (logF t') (logF_is t'))
  clear h hpx hex hBW hM hR hWs hrg hrow hT hblk hpar hok ht ht' hbe hyr hyV hyS hyM hy hX8 hctl hwok hcnt hprg hx8 hj htl hlM
  go_enter Tryz.func74, Tryz.ntmps74
  go_wp2_with (first
    | (go_at_call 30; (with_reducible refine (HUN.out _).mono ?_); rintro e w2 ⟨rfl, rfl⟩)
    | (refine wpList_load_mid rfl 96 _ rfl gt (off + j * 4) rfl (tkC ab nb cb t') _ HRG.out.1 Tryz.underlying96 rfl (by kernel_rfl) ?_)
    | (go_at_call 130; (with_reducible refine HML.out.mono ?_); rintro e w3 ⟨a4, n4, c4, rfl, ho4, hb3⟩; refine Hid.out ?_))
  have hx3 := Box.new w3 zero12T 159
  have H3 := Lib.hid (And.intro hx3 (And.intro ho4 hb3))
  clear hx3 ho4 hb3
  refine Lib.hid ?_
  go_wp2_with ((refine wpList_store_box rfl 159 _ _ rfl w3.heap.size _ _ H3.out.1 #[.slice none 0 0, .slice none 0 0, .slice none 0 0, .slice none 0 0, .slice none 0 0, .int .i64 0, .bool false, .slice none 0 0, .slice a4 n4 c4, .slice none 0 0, .int .i64 j, .int .i64 tl] rfl rfl rfl (by kernel_rfl) (by simp [Value.oneCell']) ?_); intro w4 hx4 hg4; refine Hid.out ?_)
  have hb4 : Below w3.heap.size w3 w4 := (below_new w3 (.cells zero12T 159)).grown hg4 (by simp) (fun k hk => by cases hk; exact Nat.le_refl _)
  have hBW4 : Below W.heap.size W w4 := H3.out.2.2.trans (hb4.mono H3.out.2.2.size)
  have H4 := Lib.hid (And.intro hx4 (And.intro hb4 (And.intro hBW4 (H0.out.2.2.2.2.1.below hBW4))))
  clear hx4 hg4 hb4 hBW4
  refine Lib.hid ?_
  go_wp2_with (go_at_call 32; (with_reducible refine (spec_memvars_yes _ bm om cm hcm Mem H4.out.2.2.2).mono ?_); rintro e w5 ⟨a0, n0, cv, rfl, ho0, hb5⟩; refine Hid.out ?_)
  obtain rfl : n0 = 8 := by have h1 := own_len ho0; rw [List.length_take, HT.out.2.2.2.1.1.2.1] at h1; omega
  obtain ⟨gv, cw, e, hgv, hgvl⟩ := ho0.form (by omega)
  cases e
  have H5 := Lib.hid (And.intro (H4.out.1.below hb5) (And.intro ho0 (And.intro hb5 (And.intro hgv hgvl))))
  clear ho0 hb5 hgv hgvl
  refine Lib.hid ?_
  go_wp2_with ((refine wpList_store_part rfl 157 _ _ rfl w3.heap.size 0 _ _ H5.out.1 #[.slice (some ⟨gv, 0, none⟩) 8 cv, .slice none 0 0, .slice none 0 0, .slice none 0 0, .slice ar nr cr, .int .i64 z, .bool true] rfl rfl (by simp) (by kernel_rfl) (by simp [Value.oneCell']) ?_); intro w6 hx6 hg6; refine Hid.out ?_)
  have hb6 : Below w3.heap.size w3 w6 := (H4.out.2.1.trans (H5.out.2.2.1.mono H4.out.2.1.size)).grown hg6 (Nat.le_trans H4.out.2.1.size H5.out.2.2.1.size) (fun k hk => by cases hk; exact Nat.le_refl _)
  have hB6 : Below W.heap.size W w6 := H3.out.2.2.trans (hb6.mono H3.out.2.2.size)
  have hg3 : w3.heap.size < w4.heap.size := H4.out.1.lt
  have hgv4 : w4.heap.size ≤ gv := H5.out.2.2.2.1
  have hTn : TnAt W.heap.size w3.heap.size ⟨gv, cv, none, 0, 0, none, 0, 0, none, 0, 0, a4, n4, c4, none, 0, 0⟩ ⟨ar, nr, cr, R, z, j, tl, lst (logF t') 8⟩ ⟨⟨Mem.take 8, [], []⟩, [], []⟩ w6 := by
    refine ⟨hx6, H3.out.2.2.size, hx6.lt, ?_, ?_⟩
    · intro i r hr
      match i, hr with
      | 0, hr => cases hr; exact (H5.out.2.1.kept hg6 (.inr (by simp [Value.ownBlock]; omega))).mono (Nat.le_trans H3.out.2.2.size H4.out.2.1.size)
      | 1, hr => cases hr; exact World.ownsRow_nil _ _ _ _
      | 2, hr => cases hr; exact World.ownsRow_nil _ _ _ _
      | 3, hr => cases hr; exact World.ownsRow_nil _ _ _ _
      | 4, hr => cases hr; exact H3.out.2.1.kept (grown_below hb6 none) (by cases a4 <;> simp [Value.ownBlock])
      | 5, hr => cases hr; exact World.ownsRow_nil _ _ _ _
      | i + 6, hr => simp [tpR] at hr
    · exact sep_first (b4 := (Value.slice a4 n4 c4).ownBlock) (show w3.heap.size < gv by have := H5.out.2.2.2.1; omega) (fun b hb => (H3.out.2.1.lt b hb).2)
  have hkf : KfAt ⟨ar, nr, cr, R, z, j, tl, lst (logF t') 8⟩ W := ⟨H0.out.2.2.2.2.2, hnr, HT.out.2.2.2.1.2.2.1⟩
  have htok : TOk (lst (logF t') 8) ⟨⟨Mem.take 8, [], []⟩, [], []⟩ T := by
    have h1 := runs_small HT.out.2.1 HT.out.2.2.1.runs (Nat.le_refl _)
    have h2 := cntS_small HT.out.2.1 HT.out.2.2.1
    refine ⟨mem_vars HT.out.2.2.2.1.1, ⟨List.nodup_nil, fun k hk => by cases hk⟩, ?_, ?_⟩
    · simp [tot]; omega
    · simp; omega
  have HEX := Lib.hid (show Calls Tryz.prog 131 #[.pointer (some ⟨w3.heap.size, 0, none⟩), .slice ab nb cb, .int .i64 0, .int .i64 nb] w6 (TnOut W.heap.size w3.heap.size ⟨gv, cv, none, 0, 0, none, 0, 0, none, 0, 0, a4, n4, c4, none, 0, 0⟩ ⟨ar, nr, cr, R, z, j, tl, lst (logF t') 8⟩ ⟨⟨Mem.take 8, [], []⟩, [], []⟩ y w6) from by
    have h9 := spec_exec14 W ab nb cb t'.b hnb2 HT.out.2.1 ⟨ar, nr, cr, R, z, j, tl, lst (logF t') 8⟩ hkf (lst_vrs _) (log_len t') (by show (0 : Int) ≤ tl ∧ (tl : Int) ≤ 24; omega) HRG.out.2 w3.heap.size (nb - 0) 0 nb rfl T (by rw [← hnb]; exact HT.out.2.2.1) (Nat.le_refl _) ⟨⟨Mem.take 8, [], []⟩, [], []⟩ _ w6 htok hB6 hTn
    rw [← HY.out.1]; exact h9)
  have KEEP := Lib.hid (show ∀ w', Below W.heap.size W w' → w'.cell? ⟨w.heap.size, 0, none⟩ = some (.slice (some ⟨gt, off, none⟩) n cap) ∧ w'.cell? ⟨gt, off + j * 4, none⟩ = some (.slice ab nb cb) from fun w' h =>
    ⟨(h.cell (p := ⟨w.heap.size, 0, none⟩) hWl.1).trans (H0.out.1.cell 0), (h.cell (p := ⟨gt, off + j * 4, none⟩) hlt).trans q0⟩)
  obtain ⟨d0, d1⟩ := KEEP.out w6 hB6
  have HTN := Lib.hid hTn
  have HB6 := Lib.hid hB6
  clear hx6 hg6 hb6 hB6 hTn hkf htok hg3 hgv4
  refine Lib.hid ?_
  go_wp2_with (go_at_call 131; (with_reducible refine HEX.out.mono ?_); rintro e w7 ⟨rfl, p7, h7, m7⟩; refine Hid.out ?_)
  have hM7 : y.M.length ≤ 100000 := by have := HY.out.2.2.2; omega
  have H7 := Lib.hid (And.intro h7 m7)
  have HS7 := Lib.hid (spec_step W.heap.size w3.heap.size p7 _ y w7 h7 hM7 1)
  clear h7 m7 d0 d1
  refine Lib.hid ?_
  go_wp2_with (go_at_call 132; (with_reducible refine HS7.out.mono ?_); rintro e w8 ⟨rfl, ⟨gv8, cv8, a1, n1, c1, a2, n2, c2, a3, n3, c3, a5, n5, c5, a6, n6, c6⟩, h8, m8⟩; refine Hid.out ?_)
  have m8' := H7.out.2.trans m8
  have hB8 : Below W.heap.size W w8 := HB6.out.trans ((m8'.below HTN.out.rows.base HTN.out.low).mono (Nat.le_refl _))
  have H8 := Lib.hid (And.intro h8 (And.intro m8' hB8))
  have hD8 := hB8.trans ((Below.drew (Below.refl _ w8)).mono hB8.size)
  have h8D := h8.below (Below.drew (Below.refl _ w8))
  have HD8 := Lib.hid (And.intro h8D hD8)
  obtain ⟨sw0, _⟩ := KEEP.out _ hD8
  have sw1 : w8.drew.cell? ⟨w3.heap.size, 0, none⟩ = some (.slice (some ⟨gv8, 0, none⟩) 8 cv8) := h8D.box.cell 0
  have sw2 : w8.drew.cell? ⟨w3.heap.size, 1, none⟩ = some (.slice a1 n1 c1) := h8D.box.cell 1
  have hn1 : y.x.S.length = n1 := own_len (h8.rows.own 1 _ rfl)
  have hn1l : n1 ≤ 3000 := by have := HY.out.2.2.1; omega
  obtain ⟨X, hX⟩ : ∃ X, nx (evalV y.x.V t'.o t'.x t'.y) n = X := ⟨_, rfl⟩
  have hPn : P.length = n := H0.out.2.2.2.1.1
  have HN8 := Lib.hid (spec_next (some ⟨gt, off, none⟩) n cap P hz w8.drew (H0.out.2.2.2.1.below hD8) (some ⟨gv8, 0, none⟩) 8 cv8 y.x.V (Row.of_own (h8D.rows.own 0 _ rfl)) HY.out.2.1 j t' HT.out.2.2.2.2.1 HT.out.2.2.2.2.2 X hX.symm)
  have wt : IntKind.i64.wrap ((tl : Int) + (n1 : Int)) = tl + n1 := IntWalk.i64_in _ (by omega)
  obtain ⟨q, hqi⟩ : ∃ q : Int, (if (tl : Int) + n1 < 24 then (tl : Int) + n1 else 24) = q := ⟨_, rfl⟩
  have hq : min 24 ((tl : Int) + n1) = q := by rw [← hqi]; split <;> omega
  have HPK := Lib.hid (show ∀ w', Calls Tryz.prog 53 #[.int .i64 X, .int .i64 0, .int .i64 q] w' (Ret w' (packV X 0 q)) from fun w' => spec_pack X 0 q w')
  have HNW := Lib.hid (show ∀ w', Below w8.drew.heap.size w8.drew w' → Below W.heap.size W w' ∧ TnAt W.heap.size w3.heap.size ⟨gv8, cv8, a1, n1, c1, a2, n2, c2, a3, n3, c3, a5, n5, c5, a6, n6, c6⟩ _ _ w' from fun w' h => ⟨hD8.trans (h.mono hD8.size), h8D.below h⟩)
  have HCX := Lib.hid (show ∀ w', Below w8.drew.heap.size w8.drew w' → w'.cell? ⟨w.heap.size, 0, none⟩ = some (.slice (some ⟨gt, off, none⟩) n cap) ∧ w'.cell? ⟨w3.heap.size, 0, none⟩ = some (.slice (some ⟨gv8, 0, none⟩) 8 cv8) ∧ w'.cell? ⟨w3.heap.size, 1, none⟩ = some (.slice a1 n1 c1) from fun w' h => ⟨(KEEP.out _ (HNW.out _ h).1).1, (HNW.out _ h).2.box.cell 0, (HNW.out _ h).2.box.cell 1⟩)
  have HEM := Lib.hid (show (y.M ++ [⟨1, -1, 0⟩]) ++ [wrM 8 (packV X 0 q)] = y.M ++ endM P t' (tl : Int) y from by unfold endM; rw [hPn, hX, hn1, hq, List.append_assoc]; rfl)
  have HW9 := Lib.hid (show ∀ w', Below w8.drew.heap.size w8.drew w' → Calls Tryz.prog 133 #[.pointer (some ⟨w3.heap.size, 0, none⟩), .int .i64 8, .int .i64 (packV X 0 q)] w' (TnOut W.heap.size w3.heap.size _ _ _ _ w') from fun w' h => spec_wr W.heap.size w3.heap.size _ _ _ w' (h8D.below h) (by show (y.M ++ [_]).length ≤ 100000; have := HY.out.2.2.2; simp; omega) 8 (packV X 0 q))
  clear h8 m8 m8' hB8 hD8 h8D hn1 hX hPn
  refine Lib.hid ?_
  go_wp2
  go_region_law (first
    | (go_simp; go_at_call 134; (with_reducible refine HN8.out.mono ?_); rintro e w9 ⟨rfl, hb9⟩; obtain ⟨sx0, sx1, sx2⟩ := HCX.out _ hb9)
    | (go_simp; go_at_call 53; (with_reducible refine (HPK.out _).mono ?_); rintro e w10 ⟨rfl, rfl⟩)
    | (go_simp; go_at_call 133; (with_reducible refine (HW9.out _ hb9).mono ?_); rintro e w11 ⟨rfl, p11, h11, m11⟩))
  all_goals
    have HF := Lib.hid (show ∃ w8', Below w8.drew.heap.size w8.drew w8' ∧ ∃ p11, TnAt W.heap.size w3.heap.size p11 ⟨ar, nr, cr, R, z, (j : Int), (tl : Int), lst (logF t') 8⟩ ⟨y.x, (y.M ++ [⟨1, -1, 0⟩]) ++ [wrM 8 (packV X 0 q)], y.L⟩ w11 ∧ Mv (tnB w3.heap.size ⟨gv8, cv8, a1, n1, c1, a2, n2, c2, a3, n3, c3, a5, n5, c5, a6, n6, c6⟩ ⟨ar, nr, cr, R, z, (j : Int), (tl : Int), lst (logF t') 8⟩ ⟨y.x, y.M ++ [⟨1, -1, 0⟩], y.L⟩) w8' (tnB w3.heap.size p11 ⟨ar, nr, cr, R, z, (j : Int), (tl : Int), lst (logF t') 8⟩ ⟨y.x, (y.M ++ [⟨1, -1, 0⟩]) ++ [wrM 8 (packV X 0 q)], y.L⟩) w11 from ⟨_, hb9, p11, h11, m11⟩)
    clear h11 m11 hb9 sw0 sw1 sw2 sx0 sx1 sx2 p11 w9
    revert HF
    revert w11
    refine ?same
  case same =>
    intro w11 HF
    obtain ⟨w9, hb9, ⟨gvA, cvA, b1, m1, k1, b2, m2, k2, b3, m3, k3, b5, m5, k5, b6, m6, k6⟩, h11, m11⟩ := HF.out
    have hBo : Below W.heap.size W w11 := by
      have h9 := HNW.out _ hb9
      exact h9.1.trans ((m11.below h9.2.rows.base h9.2.low).mono (Nat.le_refl _))
    have hBW11 : Below W.heap.size W w11.drew := Below.drew hBo
    have h11D := h11.below (Below.drew (Below.refl _ w11))
    have sw0 : w11.drew.cell? ⟨w3.heap.size, 7, none⟩ = some (.slice b3 m3 k3) := h11D.box.cell 7
    have sw1 : w11.drew.cell? ⟨w3.heap.size, 2, none⟩ = some (.slice b2 m2 k2) := h11D.box.cell 2
    have h12 := (h11.below (below_new w11 (.cells #[] 3))).below (Below.drew (Below.refl _ (w11.alloc (.cells #[] 3))))
    have sx0 : (w11.alloc (.cells #[] 3)).drew.cell? ⟨w3.heap.size, 7, none⟩ = some (.slice b3 m3 k3) := h12.box.cell 7
    have sx1 : (w11.alloc (.cells #[] 3)).drew.cell? ⟨w3.heap.size, 2, none⟩ = some (.slice b2 m2 k2) := h12.box.cell 2
    have HMK := Lib.hid (show (w11.alloc (.cells #[] 3)).drew.ownsRow w11.heap.size 3 1 (.slice (some ⟨w11.heap.size, 0, none⟩) 0 0) 0 [] from aps.made_ati w11 w11.heap.size w11.heap.size rfl (Nat.le_refl _) 3)
    have ho2 := h12.rows.own 2 _ rfl
    have hm2 : m2 ≤ 3000 := by have h8 := own_len ho2; have h9 := HY.out.2.2.1; have h10 : y.x.U.length = m2 := h8; omega
    have HSRC := Lib.hid (show (w11.alloc (.cells #[] 3)).drew.ownsRow W.heap.size 3 1 (.slice b2 m2 k2) m2 (ivs y.x.U) from ho2)
    have HBX := Lib.hid (show Box (w.heap.size + 1) zero2T 54 (w11.alloc (.cells #[] 3)).drew from (show Box (w.heap.size + 1) zero2T 54 w11 from (hBW11.block _ hWl.2).trans H0.out.2.1).alloc _)
    have HSZ := Lib.hid (show W.heap.size ≤ w11.heap.size from hBW11.size)
    have hne1 : w3.heap.size ≠ w11.heap.size := by have h8 : w3.heap.size < w11.heap.size := h11.box.lt; omega
    have hne2 : w.heap.size + 1 ≠ w11.heap.size := by have h8 : W.heap.size ≤ w11.heap.size := hBW11.size; omega
    have H12 := Lib.hid (And.intro h12 (And.intro hBo h11D))
    clear h11 m11 hb9 h11D h12 ho2 hBW11 hBo
    refine Lib.hid ?_
    go_wp2
    go_region_law (first
      | (refine aps.step_append_src _ (by rfl) _ _ _ (by rfl) w11.heap.size _ 3 i0 (.int .i64 0) 1 8 Tryz.underlying27 hi hz0 hz1 hz2 rfl (by decide) _ 0 _ (by rfl) HMK.out (.slice b2 m2 k2) m2 (ivs y.x.U) (by rfl) HSRC.out (aps.ivs_one _) (by unfold maxLen; omega) (by omega) (by simp) ?_; intro v13 w13 hown13 hgrow13 hat13; rw [Nat.zero_add, List.nil_append] at hown13; obtain ⟨b9, k9, rfl, _, _⟩ := aps.own_sliceA hown13; have sy0 : w13.cell? ⟨w3.heap.size, 7, none⟩ = some (.slice b3 m3 k3) := (H12.out.1.box.grown hgrow13 (fun e => hne1 (Option.some.inj e))).cell 7; have hbx13 := HBX.out.grown hgrow13 (fun e => hne2 (Option.some.inj e)); have z0 := hbx13.cell 0; have z1 := hbx13.cell 1; have f0 := hbx13.frozen 0; have f1 := hbx13.frozen 1))
    all_goals
      have hx14 : Box (w.heap.size + 1) #[.slice b3 m3 k3, .slice b9 m2 k9] 54 ((w13.setCell ⟨w.heap.size + 1, 0, none⟩ (.slice b3 m3 k3)).setCell ⟨w.heap.size + 1, 1, none⟩ (.slice b9 m2 k9)) := (hbx13.set 0 _).set 1 _
      have hg14 : w13.grownBy ((w13.setCell ⟨w.heap.size + 1, 0, none⟩ (.slice b3 m3 k3)).setCell ⟨w.heap.size + 1, 1, none⟩ (.slice b9 m2 k9)) (some (w.heap.size + 1)) := (grown_setCell _ _ _ _).trans (grown_setCell _ _ _ _)
      obtain ⟨W9, hW9⟩ : ∃ W9, ((w13.setCell ⟨w.heap.size + 1, 0, none⟩ (.slice b3 m3 k3)).setCell ⟨w.heap.size + 1, 1, none⟩ (.slice b9 m2 k9)) = W9 := ⟨_, rfl⟩
      rw [hW9] at hx14 hg14 ⊢
      have ho3 : ((w11.alloc (.cells #[] 3)).drew).ownsRow W.heap.size 98 3 (.slice b3 m3 k3) m3 (microsC ((y.M ++ [⟨1, -1, 0⟩]) ++ [wrM 8 (packV X 0 q)])) := H12.out.1.rows.own 3 _ rfl
      have hlt3 : ∀ b, (Value.slice b3 m3 k3).ownBlock = some b → W.heap.size ≤ b ∧ b < w11.heap.size := fun b hb => (H12.out.2.2.rows.own 3 _ rfl).lt b hb
      have hN3 : (Value.slice b3 m3 k3).ownBlock = none ∨ (Value.slice b3 m3 k3).ownBlock ≠ (Value.slice b9 m2 k9).ownBlock := by
        refine .inr (fun e => ?_)
        rcases hat13 with h8 | h8
        · have h9 := (hlt3 w11.heap.size (e.trans h8)).2
          omega
        · have h9 := (hlt3 (w11.heap.size + 1) (by rw [e, h8]; simp)).2
          omega
      have hs13 : w11.heap.size + 1 ≤ w13.heap.size := by have h8 := hgrow13.size; simpa using h8
      have hB13 : Below W.heap.size W w13 := by
        have h8 : Below W.heap.size W (w11.alloc (.cells #[] 3)).drew := Below.drew (H12.out.2.1.alloc HSZ.out _)
        exact h8.grown hgrow13 h8.size (fun b hb => by cases hb; exact HSZ.out)
      have hB14 : Below w.heap.size w W9 := (H0.out.2.2.1.trans (hB13.mono (by omega))).grown hg14 (Nat.le_trans H0.out.2.2.1.size hB13.size) (fun b hb => by cases hb; omega)
      have ho14 : W9.ownsRow w.heap.size 98 3 (.slice b3 m3 k3) m3 (microsC (y.M ++ endM P t' (tl : Int) y)) := by
        rw [← HEM.out]
        refine ((ho3.kept hgrow13 (.inr (fun e => by have := (hlt3 w11.heap.size e).2; omega))).kept hg14 (.inr (fun e => by have := (hlt3 _ e).1; omega))).mono (by omega)
      have hu14 : W9.ownsRow w.heap.size 3 1 (.slice b9 m2 k9) m2 (ivs y.x.U) :=
        (hown13.kept hg14 (.inr (fun e => by have h8 := (hown13.lt _ e).1; have h9 := HSZ.out; omega))).mono (by have h9 := HSZ.out; omega)
      have H14 := Lib.hid (And.intro hx14 (And.intro ho14 (And.intro hu14 (And.intro hN3 hB14))))
      clear hx14 hg14 ho3 hlt3 hN3 hs13 hB13 hB14 ho14 hu14 hW9 hown13 hgrow13 hat13 hbx13 z0 z1 f0 f1 sw0 sw1 sx0 sx1 sy0
      refine Lib.hid ?_
      go_wp2
      refine bodyPost_ret (v := trV b3 m3 k3 b9 m2 k9) (results_cell_row rfl _ _ (w.heap.size + 1) _ _ _ _ rfl H14.out.1 Tryz.underlying54 rfl (by kernel_rfl)) rfl ?_
      exact ⟨_, _, _, _, _, _, rfl, ⟨H14.out.2.1, H14.out.2.2.1, H14.out.2.2.2.1⟩, H14.out.2.2.2.2⟩
end Go.Proofs.YtmgeecdgebemdaaGreatDoor.trc

/- Chapter 14 of the model: TraceCost, WritesOf, CountSteps; nothing that was there is written. -/
namespace Go.Proofs.YtmgeecdgebemdaaGreatDoor.trc
open Go Go.ChangeShapes Go.WideShapes Go.ChangeAt Go.RowKit Go.Proofs.YtmgeecdgebemdaaGreatDoor.row Go.Proofs.YtmgeecdgebemdaaGreatDoor.val Go.Proofs.YtmgeecdgebemdaaGreatDoor.expr Go.Proofs.YtmgeecdgebemdaaGreatDoor.grow Go.Proofs.YtmgeecdgebemdaaGreatDoor.wrt
theorem csts_snoc {M : List Mic} {k : Nat} {m : Mic} (h : M[k]? = some m) : costW (csts (M.take (k + 1))) = IntKind.i64.wrap (costW (csts (M.take k)) + m.c) := by
  rw [List.take_add_one, h]
  simp [csts, costW]
set_option maxHeartbeats 2000000 in
set_option maxRecDepth 100000 in
theorem spec_tracecost (w : World) (a1 : Option Addr) (n1 c1 : Nat) (a2 : Option Addr) (n2 c2 : Nat) (M : List Mic) (U : List Int) (h : TrRow w a1 n1 a2 n2 M U) (q : Int) (hq : costW (csts M) = q) :
    Calls Tryz.prog 73 #[trV a1 n1 c1 a2 n2 c2] w (BelI w q) := by
  obtain ⟨W, hW⟩ : ∃ W, w.alloc (.cells #[.slice a1 n1 c1, .slice a2 n2 c2] 54) = W := ⟨_, rfl⟩
  have hbx : Box w.heap.size #[.slice a1 n1 c1, .slice a2 n2 c2] 54 W := by rw [← hW]; exact Box.new w _ _
  have hBW : Below w.heap.size w W := by rw [← hW]; exact below_new w _
  have H := Lib.hid (And.intro hBW (h.below hBW))
  have hn : (n1 : Int) ≤ 1048576 := h.2.2.1
  have HQ := Lib.hid hq
  have c0 : W.cell? ⟨w.heap.size, 0, none⟩ = some (.slice a1 n1 c1) := hbx.cell 0
  clear h hbx hBW hq
  go_enter Tryz.func73, Tryz.ntmps73
  go_wp2
  go_loop [3, 4] (fun s i => ∃ k : Nat, k ≤ n1 ∧ i = .int .i64 k ∧ s = .int .i64 (costW (csts (M.take k)))) (fun _ i => n1 - (Go.RowKit.intOf i).toNat)
  case atStart => exact ⟨0, Nat.zero_le _, rfl, rfl⟩
  case round =>
    obtain ⟨k, hk, rfl, rfl⟩ := hrel
    by_cases hlt : k < n1
    · obtain ⟨b, off, m, rfl, hlb, hm, hr⟩ := H.out.2.1.2 k hlt
      have hI : (k : Int) < n1 := by omega
      have hk0 : (0 : Int) ≤ k := by omega
      have r0 := (range3 hr).1
      have HM := Lib.hid (csts_snoc hm)
      clear hr hm
      go_wp2
      go_round
      case rel => exact ⟨k + 1, by omega, by go_num, by rw [HM.out, IntKind.wrap_i64]; unfold wrap64; rfl⟩
      case measure => simp [Go.RowKit.intOf]; omega
    · obtain rfl : k = n1 := by omega
      have HE := Lib.hid (show costW (csts (M.take k)) = q by rw [List.take_of_length_le (by have := H.out.2.1.1; omega)]; exact HQ.out)
      go_wp2
      go_ret
      exact ⟨by rw [HE.out]; rfl, H.out.1⟩
end Go.Proofs.YtmgeecdgebemdaaGreatDoor.trc
