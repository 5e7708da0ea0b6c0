/- Several texts in one: ExeX. -/
import Derived.Test.YtmgeecdgebemdaaGreatDoorGSig26
import Derived.Test.YtmgeecdgebemdaaGreatDoorGSig12
import Derived.Test.YtmgeecdgebemdaaGreatDoorGSig7
import Derived.Deep.RegionLaw
import Derived.Deep.RegionHeld3

/- The model's l12Exec: a stretch of a valid block executed; the state is the tree's execution; nothing else that was there is written. -/
namespace Go.Proofs.YtmgeecdgebemdaaGreatDoor.exe
open Go Go.ChangeShapes Go.WideShapes Go.ChangeAt Go.RowKit Go.Proofs.YtmgeecdgebemdaaGreatDoor.row Go.Proofs.YtmgeecdgebemdaaGreatDoor.val Go.Proofs.YtmgeecdgebemdaaGreatDoor.expr Go.Proofs.YtmgeecdgebemdaaGreatDoor.stm Go.Proofs.YtmgeecdgebemdaaGreatDoor.blk Go.Proofs.YtmgeecdgebemdaaGreatDoor.prg Go.Proofs.YtmgeecdgebemdaaGreatDoor.sets

theorem st_kind' {s : Sm} (h : stOk s = true) : s.k = 1 ∨ s.k = 2 ∨ s.k = 3 ∨ s.k = 4 ∨ s.k = 5 ∨ s.k = 6 := by
  by_cases h1 : s.k = 1
  · exact .inl h1
  by_cases h2 : s.k = 2
  · exact .inr (.inl h2)
  by_cases h3 : s.k = 3
  · exact .inr (.inr (.inl h3))
  by_cases h4 : s.k = 4
  · exact .inr (.inr (.inr (.inl h4)))
  by_cases h5 : s.k = 5
  · exact .inr (.inr (.inr (.inr (.inl h5))))
  by_cases h6 : s.k = 6
  · exact .inr (.inr (.inr (.inr (.inr h6))))
  unfold stOk at h
  rw [if_neg h1, if_neg h2, if_neg h3, if_neg h4, if_neg h5, if_neg h6] at h
  cases h
theorem eval_is (w : World) (ad : Option Addr) (n cap : Nat) (V : List Int) (h : Row w ad n V) (hv : varsOk V = true) (o a b q : Int) (he : exprOk o a b = true) (hq : evalV V o a b = q) :
    Calls Tryz.prog 176 #[.slice ad n cap, ev o a b] w (BelI w q) := by
  obtain ⟨h1, h2, h3⟩ := (exprOk_iff o a b).1 he
  rw [← hq, evalV_ok hv he]
  exact spec_eval w ad n cap V h hv o a b h1 h2 h3
theorem cell_put {w : World} {b q o k : Nat} {u : Value} (h : b ≠ q) : (w.setCell ⟨q, k, none⟩ u).cell? ⟨b, o, none⟩ = w.cell? ⟨b, o, none⟩ :=
  World.cell?_of_block (w := w) (a := ⟨b, o, none⟩) (heap_setCell_other w ⟨q, k, none⟩ b u h)
theorem keep5 {w w' : World} {g b : Nat} {x0 x1 x2 x3 x4 : Value} (hb : Below w.heap.size w w') (hg : g < w.heap.size) (hbb : b < w.heap.size) (h : w.cell? ⟨g, 0, none⟩ = some x0 ∧ w.cell? ⟨b, 1, none⟩ = some x1 ∧ w.cell? ⟨b, 3, none⟩ = some x2 ∧ w.cell? ⟨b, 3 + 1, none⟩ = some x3 ∧ w.cell? ⟨b, 3 + 2, none⟩ = some x4) : w'.cell? ⟨g, 0, none⟩ = some x0 ∧ w'.cell? ⟨b, 1, none⟩ = some x1 ∧ w'.cell? ⟨b, 3, none⟩ = some x2 ∧ w'.cell? ⟨b, 3 + 1, none⟩ = some x3 ∧ w'.cell? ⟨b, 3 + 2, none⟩ = some x4 :=
  ⟨(hb.cell (p := ⟨g, 0, none⟩) hg).trans h.1, (hb.cell (p := ⟨b, 1, none⟩) hbb).trans h.2.1, (hb.cell (p := ⟨b, 3, none⟩) hbb).trans h.2.2.1, (hb.cell (p := ⟨b, 3 + 1, none⟩) hbb).trans h.2.2.2.1, (hb.cell (p := ⟨b, 3 + 2, none⟩) hbb).trans h.2.2.2.2⟩
theorem put5 {w : World} {g b q k : Nat} {x0 x1 x2 x3 x4 u : Value} (h1 : q ≠ g) (h2 : q ≠ b) (h : w.cell? ⟨g, 0, none⟩ = some x0 ∧ w.cell? ⟨b, 1, none⟩ = some x1 ∧ w.cell? ⟨b, 3, none⟩ = some x2 ∧ w.cell? ⟨b, 3 + 1, none⟩ = some x3 ∧ w.cell? ⟨b, 3 + 2, none⟩ = some x4) : (w.setCell ⟨q, k, none⟩ u).cell? ⟨g, 0, none⟩ = some x0 ∧ (w.setCell ⟨q, k, none⟩ u).cell? ⟨b, 1, none⟩ = some x1 ∧ (w.setCell ⟨q, k, none⟩ u).cell? ⟨b, 3, none⟩ = some x2 ∧ (w.setCell ⟨q, k, none⟩ u).cell? ⟨b, 3 + 1, none⟩ = some x3 ∧ (w.setCell ⟨q, k, none⟩ u).cell? ⟨b, 3 + 2, none⟩ = some x4 :=
  ⟨(cell_put (fun e => h1 e.symm)).trans h.1, (cell_put (fun e => h2 e.symm)).trans h.2.1, (cell_put (fun e => h2 e.symm)).trans h.2.2.1, (cell_put (fun e => h2 e.symm)).trans h.2.2.2.1, (cell_put (fun e => h2 e.symm)).trans h.2.2.2.2⟩
theorem put3 {w : World} {g b q k : Nat} {x0 x1 x2 u : Value} (h1 : q ≠ g) (h2 : q ≠ b) (h : w.cell? ⟨g, 0, none⟩ = some x0 ∧ w.cell? ⟨b, 1, none⟩ = some x1 ∧ w.cell? ⟨b, 2, none⟩ = some x2) : (w.setCell ⟨q, k, none⟩ u).cell? ⟨g, 0, none⟩ = some x0 ∧ (w.setCell ⟨q, k, none⟩ u).cell? ⟨b, 1, none⟩ = some x1 ∧ (w.setCell ⟨q, k, none⟩ u).cell? ⟨b, 2, none⟩ = some x2 :=
  ⟨(cell_put (fun e => h1 e.symm)).trans h.1, (cell_put (fun e => h2 e.symm)).trans h.2.1, (cell_put (fun e => h2 e.symm)).trans h.2.2⟩
theorem keep6 {w w' : World} {g b : Nat} {x0 x1 x2 x3 x4 : Value} (hb : Below w.heap.size w w') (hg : g < w.heap.size) (hbb : b < w.heap.size) (h : w.cell? ⟨g, 0, none⟩ = some x0 ∧ w.cell? ⟨g, 1, none⟩ = some x1 ∧ w.cell? ⟨b, 3, none⟩ = some x2 ∧ w.cell? ⟨b, 3 + 1, none⟩ = some x3 ∧ w.cell? ⟨b, 3 + 2, none⟩ = some x4) : w'.cell? ⟨g, 0, none⟩ = some x0 ∧ w'.cell? ⟨g, 1, none⟩ = some x1 ∧ w'.cell? ⟨b, 3, none⟩ = some x2 ∧ w'.cell? ⟨b, 3 + 1, none⟩ = some x3 ∧ w'.cell? ⟨b, 3 + 2, none⟩ = some x4 :=
  ⟨(hb.cell (p := ⟨g, 0, none⟩) hg).trans h.1, (hb.cell (p := ⟨g, 1, none⟩) hg).trans h.2.1, (hb.cell (p := ⟨b, 3, none⟩) hbb).trans h.2.2.1, (hb.cell (p := ⟨b, 3 + 1, none⟩) hbb).trans h.2.2.2.1, (hb.cell (p := ⟨b, 3 + 2, none⟩) hbb).trans h.2.2.2.2⟩
theorem keep4' {w w' : World} {g b : Nat} {x0 x1 x2 x3 : Value} (hb : Below w.heap.size w w') (hg : g < w.heap.size) (hbb : b < w.heap.size) (h : w.cell? ⟨g, 0, none⟩ = some x0 ∧ w.cell? ⟨b, 3, none⟩ = some x1 ∧ w.cell? ⟨b, 3 + 1, none⟩ = some x2 ∧ w.cell? ⟨b, 3 + 2, none⟩ = some x3) : w'.cell? ⟨g, 0, none⟩ = some x0 ∧ w'.cell? ⟨b, 3, none⟩ = some x1 ∧ w'.cell? ⟨b, 3 + 1, none⟩ = some x2 ∧ w'.cell? ⟨b, 3 + 2, none⟩ = some x3 :=
  ⟨(hb.cell (p := ⟨g, 0, none⟩) hg).trans h.1, (hb.cell (p := ⟨b, 3, none⟩) hbb).trans h.2.1, (hb.cell (p := ⟨b, 3 + 1, none⟩) hbb).trans h.2.2.1, (hb.cell (p := ⟨b, 3 + 2, none⟩) hbb).trans h.2.2.2⟩
theorem step_vars {src : Int → Nat → Int} (hsrc : ∀ q n, isVal (src q n) = true) (s : Sm) {x : Sx} (h : varsOk x.V = true) : varsOk (step1 src s x).V = true := by
  rcases step_cases src s x with ⟨_, e⟩ | ⟨_, e⟩ | ⟨_, e⟩ | ⟨_, _, e⟩ <;> rw [e]
  · exact vars_set h (evalV_val _ _ _ _) _
  · exact vars_set h (hsrc _ _) _
  · exact h
  · exact h
theorem keepg {w w' : World} {g b : Nat} {r : Option Nat} {x0 x1 x2 x3 x4 : Value} (hgr : w.grownBy w' r) (h1 : r ≠ some g) (h2 : r ≠ some b) (hg : g < w.heap.size) (hbb : b < w.heap.size) (h : w.cell? ⟨g, 0, none⟩ = some x0 ∧ w.cell? ⟨g, 1, none⟩ = some x1 ∧ w.cell? ⟨b, 3, none⟩ = some x2 ∧ w.cell? ⟨b, 3 + 1, none⟩ = some x3 ∧ w.cell? ⟨b, 3 + 2, none⟩ = some x4) : w'.cell? ⟨g, 0, none⟩ = some x0 ∧ w'.cell? ⟨g, 1, none⟩ = some x1 ∧ w'.cell? ⟨b, 3, none⟩ = some x2 ∧ w'.cell? ⟨b, 3 + 1, none⟩ = some x3 ∧ w'.cell? ⟨b, 3 + 2, none⟩ = some x4 :=
  ⟨(World.cell?_of_block (a := ⟨g, 0, none⟩) (hgr.block g hg (fun e => h1 e.symm))).trans h.1, (World.cell?_of_block (a := ⟨g, 1, none⟩) (hgr.block g hg (fun e => h1 e.symm))).trans h.2.1, (World.cell?_of_block (a := ⟨b, 3, none⟩) (hgr.block b hbb (fun e => h2 e.symm))).trans h.2.2.1, (World.cell?_of_block (a := ⟨b, 3 + 1, none⟩) (hgr.block b hbb (fun e => h2 e.symm))).trans h.2.2.2.1, (World.cell?_of_block (a := ⟨b, 3 + 2, none⟩) (hgr.block b hbb (fun e => h2 e.symm))).trans h.2.2.2.2⟩
theorem exec_vars {src : Int → Nat → Int} (hsrc : ∀ q n, isVal (src q n) = true) : ∀ (T : Fst) {x : Sx}, varsOk x.V = true → varsOk (exec src T x).V = true
  | .nil, _, h => h
  | .one s r, _, h => exec_vars hsrc r (step_vars hsrc s h)
  | .nest _ b r, x, h => exec_vars hsrc r (rep_ind (P := fun y => varsOk y.V = true) (fun _ hy => exec_vars hsrc b hy) _ x h)
def ExecOut (w0 : World) (g : Nat) (c : Cfg) (y : Sx) (e : Ending) (w' : World) : Prop := e = .returned (.tuple #[]) ∧ Below w0.heap.size w0 w' ∧ Rn w0.heap.size g c y w'
abbrev zero6' : Array Value := #[.int .i64 0, .int .i64 0, .int .i64 0, .int .i64 0, .int .i64 0, .int .i64 0]
theorem Par.step {L : List Sm} {p b : Nat} {T : Fst} (h : Par L p b T) (hlt : p < b) : (∃ s r, T = .one s r ∧ L[p]? = some s ∧ opn s = false ∧ s.k ≠ 6 ∧ Par L (p + 1) b r) ∨ (∃ s e B r, T = .nest s B r ∧ L[p]? = some s ∧ IsEnd L p e ∧ Par L (p + 1) e B ∧ Par L (e + 1) b r) := by
  cases h with
  | nil => omega
  | one _ _ r s hs ho h6 hr => exact .inl ⟨s, r, rfl, hs, ho, h6, hr⟩
  | nest _ e _ B r s hs he hb hr => exact .inr ⟨s, e, B, r, rfl, hs, he, hb, hr⟩
set_option maxHeartbeats 8000000 in
set_option maxRecDepth 100000 in
theorem spec_exec (w0 : World) (aL : Option Addr) (n cap : Nat) (L : List Sm) (hn : (n : Int) ≤ 1048576) (hb : IsBlk L) (c : Cfg) (hc : CfgAt c w0) (hL : StRow w0 aL n L) (g : Nat) : ∀ (d a b : Nat), b - a = d → ∀ T : Fst, Par L a b T → b ≤ n → ∀ (x : Sx) (w : World), varsOk x.V = true → tot x + cnt T ≤ 50000 → Below w0.heap.size w0 w → Rn w0.heap.size g c x w →
    Calls Tryz.prog 153 #[.pointer (some ⟨g, 0, none⟩), .slice aL n cap, .int .i64 a, .int .i64 b] w (ExecOut w0 g c (exec c.src T x)) := by
  intro d
  induction d using Nat.strongRecOn with
  | _ d ih =>
  intro a b hd T hT hbn x w hx htot hB hR
  obtain ⟨i0, hi, hz0, hz1, hz2⟩ := info_parts row.infoInt
  have IH := Lib.hid (show ∀ (a' b' : Nat), b' - a' < b - a → ∀ T : Fst, Par L a' b' T → b' ≤ n → ∀ (x : Sx) (w : World), varsOk x.V = true → tot x + cnt T ≤ 50000 → Below w0.heap.size w0 w → Rn w0.heap.size g c x w →
    Calls Tryz.prog 153 #[.pointer (some ⟨g, 0, none⟩), .slice aL n cap, .int .i64 a', .int .i64 b'] w (ExecOut w0 g c (exec c.src T x)) from fun a' b' h => ih (b' - a') (by omega) a' b' rfl)
  have HBK := Lib.hid hb
  have HC := Lib.hid hc
  have HL := Lib.hid hL
  have H0 := Lib.hid (And.intro hT (And.intro hx (And.intro htot (And.intro hB hR))))
  have hab : a ≤ b := hT.le
  have hsrc := Lib.hid (fun q n => Cfg.src_val hc q n)
  clear ih hd hT hx htot hB hR hb hc hL
  go_enter Tryz.func153, Tryz.ntmps153
  go_wp2
  go_loopw [8] (fun i wr => ∃ (p : Nat) (T' : Fst) (x' : Sx), a ≤ p ∧ p ≤ b ∧ i = .int .i64 p ∧ Hid (Par L p b T') ∧ Hid (exec c.src T' x' = exec c.src T x) ∧ Hid (varsOk x'.V = true) ∧ Hid (tot x' + cnt T' ≤ 50000) ∧ Hid (Below w0.heap.size w0 wr) ∧ Hid (Rn w0.heap.size g c x' wr)) (fun i _ => b - (intOf i).toNat)
  case atStart => exact ⟨a, T, x, Nat.le_refl _, hab, rfl, H0.out.1, rfl, H0.out.2.1, H0.out.2.2.1, H0.out.2.2.2.1, H0.out.2.2.2.2⟩
  case round =>
    obtain ⟨p, T', x', hap, hpb, rfl, HP, HE, HV, HT, HBw, HRn⟩ := hrel
    by_cases hlt : p < b
    · have hI : (p : Int) < b := by omega
      have hIn : (p : Int) < n := by omega
      have hp0 : (0 : Int) ≤ (p : Int) := by omega
      obtain ⟨gb, off, s, rfl, hlb, hs, hrs⟩ := (HL.out.below HBw.out).2 p (by omega)
      have HS := Lib.hid (And.intro hs (And.intro hrs (blk_stOk HBK.out hs)))
      obtain ⟨gv, cv, a1, n1, c1, a2, n2, c2, hr⟩ := HRn.out
      have HX := Lib.hid (And.intro (Box.new wr zero6' 112) (below_new wr (.cells zero6' 112)))
      have hkind := st_kind' HS.out.2.2
      have hgl := hr.box.lt
      have hvl := hr.gvB
      have hul : ∀ k, (Value.slice a2 n2 c2).ownBlock = some k → k < wr.heap.size := fun k hk => (own_block hr.used k hk).2
      have HR := Lib.hid hr
      clear hs hrs hr
      go_wp2_with (first
        | (refine wpList_load_mid rfl 112 _ rfl gb (off + p * 6) rfl (stC s) _ HS.out.2.1 Tryz.underlying112 rfl (by kernel_rfl) ?_)
        | ((refine wpList_store_box rfl 112 _ _ rfl wr.heap.size _ _ HX.out.1 #[.int .i64 s.k, .int .i64 s.v, .int .i64 s.n, .int .i64 s.o, .int .i64 s.a, .int .i64 s.b] rfl rfl rfl (by kernel_rfl) (by simp [Value.oneCell']) ?_); intro w5 hx5 hg5; refine Hid.out ?_))
      have hb5 : Below wr.heap.size wr w5 := HX.out.2.grown hg5 HX.out.2.size (fun j hj => by cases hj; exact Nat.le_refl _)
      have H5 := Lib.hid (And.intro hx5 (And.intro (HBw.out.trans (hb5.mono HBw.out.size)) (HR.out.below hb5)))
      clear hx5 hg5 hb5
      have d0 : w5.cell? ⟨wr.heap.size, 0, none⟩ = some (.int .i64 s.k) := H5.out.1.cell 0
      have d1 : w5.cell? ⟨wr.heap.size, 1, none⟩ = some (.int .i64 s.v) := H5.out.1.cell 1
      have d2 : w5.cell? ⟨wr.heap.size, 2, none⟩ = some (.int .i64 s.n) := H5.out.1.cell 2
      have d3 : w5.cell? ⟨wr.heap.size, 3, none⟩ = some (.int .i64 s.o) := H5.out.1.cell 3
      have d4 : w5.cell? ⟨wr.heap.size, 3 + 1, none⟩ = some (.int .i64 s.a) := H5.out.1.cell 4
      have d5 : w5.cell? ⟨wr.heap.size, 3 + 2, none⟩ = some (.int .i64 s.b) := H5.out.1.cell 5
      have e0 : w5.cell? ⟨g, 0, none⟩ = some (.slice (some ⟨gv, 0, none⟩) 8 cv) := H5.out.2.2.box.cell 0
      have e1 : w5.cell? ⟨g, 1, none⟩ = some (.slice a1 n1 c1) := H5.out.2.2.box.cell 1
      have hl5 : wr.heap.size < w5.heap.size := H5.out.1.lt
      have hg5 : g < w5.heap.size := H5.out.2.2.box.lt
      rcases HP.out.step hlt with ⟨s', r, hTe, hs', ho, h6, hPr⟩ | ⟨s', e, B, r, hTe, hs', he, hPb, hPr⟩
      · obtain rfl : s' = s := by have := HS.out.1; rw [hs'] at this; cases this; rfl
        subst hTe
        have HPr := Lib.hid hPr
        have hk4 : s'.k ≠ 4 ∧ s'.k ≠ 5 := by unfold opn at ho; simp at ho; exact ho
        have HONE := Lib.hid (show ∀ y, step1 c.src s' x' = y → exec c.src r y = exec c.src T x ∧ varsOk y.V = true ∧ tot y + cnt r ≤ 50000 from fun y hy => by
          subst hy
          refine ⟨HE.out, step_vars hsrc.out s' HV.out, ?_⟩
          have h1 := HT.out
          have h2 := tot_step c.src s' x'
          simp only [cnt] at h1
          omega)
        rcases (show s'.k = 1 ∨ s'.k = 2 ∨ s'.k = 3 by omega) with hk | hk | hk
        · obtain ⟨u, hu, hu8⟩ : ∃ u : Nat, s'.v = u ∧ u < 8 := by have := st_var HS.out.2.2 (.inl hk); exact ⟨s'.v.toNat, by omega, by omega⟩
          rw [hu] at d1
          obtain ⟨q, hq⟩ : ∃ q, evalV x'.V s'.o s'.a s'.b = q := ⟨_, rfl⟩
          have HEV := Lib.hid (show ∀ w', Row w' (some ⟨gv, 0, none⟩) 8 x'.V → Calls Tryz.prog 176 #[.slice (some ⟨gv, 0, none⟩) 8 cv, ev s'.o s'.a s'.b] w' (BelI w' q) from fun w' h => eval_is w' _ 8 cv x'.V h HV.out _ _ _ q (st_expr HS.out.2.2 (.inl hk)) hq)
          have HST := Lib.hid (show step1 c.src s' x' = ⟨x'.V.set u q, x'.S, x'.U⟩ by rw [step_set _ hk, hq, hu]; rfl)
          rw [hk] at d0
          clear hu hq
          have HD := Lib.hid (show Below w5.heap.size w5 w5.drew from Below.drew (Below.refl _ w5))
          have HRD := Lib.hid (H5.out.2.2.below HD.out)
          have HBD := Lib.hid (H5.out.2.1.trans (HD.out.mono H5.out.2.1.size))
          have cS : w5.drew.cell? ⟨g, 0, none⟩ = some (.slice (some ⟨gv, 0, none⟩) 8 cv) ∧ w5.drew.cell? ⟨wr.heap.size, 1, none⟩ = some (.int .i64 (u : Int)) ∧ w5.drew.cell? ⟨wr.heap.size, 3, none⟩ = some (.int .i64 s'.o) ∧ w5.drew.cell? ⟨wr.heap.size, 3 + 1, none⟩ = some (.int .i64 s'.a) ∧ w5.drew.cell? ⟨wr.heap.size, 3 + 2, none⟩ = some (.int .i64 s'.b) := ⟨e0, d1, d3, d4, d5⟩
          have hq5 : wr.heap.size < w5.drew.heap.size := hl5
          have hqg : g < w5.drew.heap.size := hg5
          obtain ⟨X, hX⟩ : ∃ X, (ivs x'.V)[u]? = some (.int .i64 X) := ⟨x'.V[u]'(by have := own_len HRD.out.vars; omega), by simp [ivs, show u < x'.V.length by have := own_len HRD.out.vars; omega]⟩
          have hvg : gv ≠ g := HRD.out.vg
          have hvb : gv ≠ wr.heap.size := by omega
          have hu0 : (0 : Int) ≤ (u : Int) := by omega
          have hu9 : (u : Int) < 8 := by omega
          clear d1 d2 d3 d4 d5 e0 e1 hl5 hg5 hkind
          refine Lib.hid ?_
          go_wp2
          go_region_held3 (fun w' => w'.cell? ⟨g, 0, none⟩ = some (.slice (some ⟨gv, 0, none⟩) 8 cv) ∧ w'.cell? ⟨wr.heap.size, 1, none⟩ = some (.int .i64 (u : Int)) ∧ w'.cell? ⟨wr.heap.size, 3, none⟩ = some (.int .i64 s'.o) ∧ w'.cell? ⟨wr.heap.size, 3 + 1, none⟩ = some (.int .i64 s'.a) ∧ w'.cell? ⟨wr.heap.size, 3 + 2, none⟩ = some (.int .i64 s'.b))
            (first
              | (with_reducible exact put5 hvg hvb sX)
              | (with_reducible exact cS)
              | (with_reducible exact sX))
            (first
              | (go_at_call 176; (with_reducible refine (HEV.out _ HRD.out.vrow).mono ?_); rintro e w6 ⟨rfl, hb6⟩; have sX := keep5 hb6 hqg hq5 cS; have hR6 := HRD.out.below hb6; have cX := (hR6.vars.cellAt u (by simpa using hu8)).trans hX; have fX := hR6.vars.frozenAt u))
          all_goals
            have hNew := hR6.set u q
            have hBn := (HBD.out.trans (hb6.mono HBD.out.size)).grown (grown_setCell w6 gv u (.int .i64 q)) (Nat.le_trans HBD.out.size hb6.size) (fun k hk9 => by cases hk9; exact HRD.out.gvB.1)
            obtain ⟨W9, hW9⟩ : ∃ W9, w6.setCell ⟨gv, u, none⟩ (.int .i64 q) = W9 := ⟨_, rfl⟩
            rw [hW9] at hNew hBn ⊢
            have H9 := Lib.hid (And.intro hBn hNew)
            clear hW9 hBn hNew hR6 cX fX sX cS hb6 hX d0
            refine Lib.hid ?_
            go_wp2
            go_roundw
            case rel => exact ⟨p + 1, r, _, by omega, by omega, by go_num, HPr.out, (HONE.out _ HST.out).1, (HONE.out _ HST.out).2.1, (HONE.out _ HST.out).2.2, H9.out.1, _, _, _, _, _, _, _, _, H9.out.2⟩
            case measure => simp [intOf]; omega
        · obtain ⟨u, hu, hu8⟩ : ∃ u : Nat, s'.v = u ∧ u < 8 := by have := st_var HS.out.2.2 (.inr hk); exact ⟨s'.v.toNat, by omega, by omega⟩
          rw [hu] at d1
          obtain ⟨q, hq⟩ : ∃ q, c.src s'.n n2 = q := ⟨_, rfl⟩
          have hun : x'.U.length = n2 := H5.out.2.2.ulen
          have HST := Lib.hid (show step1 c.src s' x' = ⟨x'.V.set u q, x'.S, x'.U ++ [q]⟩ by rw [step_sense _ hk, hun, hq, hu]; rfl)
          have hn2 : n2 ≤ 100000 := by have h1 := HT.out; have h2 := cnt_nonneg (.one s' r); simp only [tot] at h1; omega
          rw [hk] at d0
          clear hu
          have HD := Lib.hid (show Below w5.heap.size w5 w5.drew from Below.drew (Below.refl _ w5))
          have HRD := Lib.hid (H5.out.2.2.below HD.out)
          have HBD := Lib.hid (H5.out.2.1.trans (HD.out.mono H5.out.2.1.size))
          have cS : w5.drew.cell? ⟨g, 0, none⟩ = some (.slice (some ⟨gv, 0, none⟩) 8 cv) ∧ w5.drew.cell? ⟨wr.heap.size, 1, none⟩ = some (.int .i64 (u : Int)) ∧ w5.drew.cell? ⟨wr.heap.size, 2, none⟩ = some (.int .i64 s'.n) := ⟨e0, d1, d2⟩
          have hq5 : wr.heap.size < w5.drew.heap.size := hl5
          have hqg : g < w5.drew.heap.size := hg5
          obtain ⟨X, hX⟩ : ∃ X, (ivs x'.V)[u]? = some (.int .i64 X) := ⟨x'.V[u]'(by have := own_len HRD.out.vars; omega), by simp [ivs, show u < x'.V.length by have := own_len HRD.out.vars; omega]⟩
          have hvg : gv ≠ g := HRD.out.vg
          have hvb : gv ≠ wr.heap.size := by omega
          have hu0 : (0 : Int) ≤ (u : Int) := by omega
          have hu9 : (u : Int) < 8 := by omega
          have HSE := Lib.hid (spec_sense w0 w5.drew g gv cv a1 n1 c1 a2 n2 c2 c x' HBD.out HC.out HRD.out hn2 s'.n q hq)
          have hbg : wr.heap.size ≠ g := by omega
          have hbu : (Value.slice a2 n2 c2).ownBlock ≠ some wr.heap.size := fun e => by have := hul _ e; omega
          clear hq
          clear d1 d2 d3 d4 d5 e0 e1 hl5 hg5 hkind
          refine Lib.hid ?_
          go_wp2
          go_region_held3 (fun w' => w'.cell? ⟨g, 0, none⟩ = some (.slice (some ⟨gv, 0, none⟩) 8 cv) ∧ w'.cell? ⟨wr.heap.size, 1, none⟩ = some (.int .i64 (u : Int)) ∧ w'.cell? ⟨wr.heap.size, 2, none⟩ = some (.int .i64 s'.n))
            (first
              | (with_reducible exact put3 hvg hvb sX)
              | (with_reducible exact cS)
              | (with_reducible exact sX))
            (first
              | (go_at_call 177; (with_reducible refine HSE.out.mono ?_); rintro e w6 ⟨rfl, hbS, hblk, hsz, a3, c3, hR6⟩; have sX := (show w6.cell? ⟨g, 0, none⟩ = some (.slice (some ⟨gv, 0, none⟩) 8 cv) ∧ w6.cell? ⟨wr.heap.size, 1, none⟩ = some (.int .i64 (u : Int)) ∧ w6.cell? ⟨wr.heap.size, 2, none⟩ = some (.int .i64 s'.n) from ⟨hR6.box.cell 0, (World.cell?_of_block (a := ⟨wr.heap.size, 1, none⟩) (hblk _ hq5 hbg hbu)).trans cS.2.1, (World.cell?_of_block (a := ⟨wr.heap.size, 2, none⟩) (hblk _ hq5 hbg hbu)).trans cS.2.2⟩); have cX := (hR6.vars.cellAt u (by simpa using hu8)).trans hX; have fX := hR6.vars.frozenAt u))
          all_goals
            have hNew := hR6.set u q
            have hBn := hbS.grown (grown_setCell w6 gv u (.int .i64 q)) hbS.size (fun k hk9 => by cases hk9; exact HRD.out.gvB.1)
            obtain ⟨W9, hW9⟩ : ∃ W9, w6.setCell ⟨gv, u, none⟩ (.int .i64 q) = W9 := ⟨_, rfl⟩
            rw [hW9] at hNew hBn ⊢
            have H9 := Lib.hid (And.intro hBn hNew)
            clear hW9 hBn hNew hR6 cX fX sX cS hbS hblk hX d0
            refine Lib.hid ?_
            go_wp2
            go_roundw
            case rel => exact ⟨p + 1, r, _, by omega, by omega, by go_num, HPr.out, (HONE.out _ HST.out).1, (HONE.out _ HST.out).2.1, (HONE.out _ HST.out).2.2, H9.out.1, _, _, _, _, _, _, _, _, H9.out.2⟩
            case measure => simp [intOf]; omega
        · obtain ⟨q, hq⟩ : ∃ q, evalV x'.V s'.o s'.a s'.b = q := ⟨_, rfl⟩
          have HEV := Lib.hid (show ∀ w', Row w' (some ⟨gv, 0, none⟩) 8 x'.V → Calls Tryz.prog 176 #[.slice (some ⟨gv, 0, none⟩) 8 cv, ev s'.o s'.a s'.b] w' (BelI w' q) from fun w' h => eval_is w' _ 8 cv x'.V h HV.out _ _ _ q (st_expr HS.out.2.2 (.inr (.inl hk))) hq)
          have HST := Lib.hid (show step1 c.src s' x' = ⟨x'.V, x'.S ++ [q], x'.U⟩ by rw [step_send _ hk, hq])
          have hsn : x'.S.length = n1 := H5.out.2.2.slen
          have hn1 : n1 ≤ 100000 := by have h1 := HT.out; have h2 := cnt_nonneg (.one s' r); simp only [tot] at h1; omega
          rw [hk] at d0
          clear hq
          have HD := Lib.hid (show Below w5.heap.size w5 w5.drew from Below.drew (Below.refl _ w5))
          have HRD := Lib.hid (H5.out.2.2.below HD.out)
          have HBD := Lib.hid (H5.out.2.1.trans (HD.out.mono H5.out.2.1.size))
          have cS : w5.drew.cell? ⟨g, 0, none⟩ = some (.slice (some ⟨gv, 0, none⟩) 8 cv) ∧ w5.drew.cell? ⟨g, 1, none⟩ = some (.slice a1 n1 c1) ∧ w5.drew.cell? ⟨wr.heap.size, 3, none⟩ = some (.int .i64 s'.o) ∧ w5.drew.cell? ⟨wr.heap.size, 3 + 1, none⟩ = some (.int .i64 s'.a) ∧ w5.drew.cell? ⟨wr.heap.size, 3 + 2, none⟩ = some (.int .i64 s'.b) := ⟨e0, e1, d3, d4, d5⟩
          have hq5 : wr.heap.size < w5.drew.heap.size := hl5
          have hqg : g < w5.drew.heap.size := hg5
          have hsg : (Value.slice a1 n1 c1).ownBlock ≠ some g := HRD.out.sg
          have hsb : (Value.slice a1 n1 c1).ownBlock ≠ some wr.heap.size := fun e => by have := (own_block HR.out.sent _ e).2; omega
          have hBw5 : w0.heap.size ≤ w5.drew.heap.size := HBD.out.size
          clear d1 d2 d3 d4 d5 e0 e1 hl5 hg5 hkind
          obtain ⟨sw0, sw1, sw2, sw3, sw4⟩ := id cS
          refine Lib.hid ?_
          go_wp2
          go_region_law (first
              | (go_simp; go_at_call 176; (with_reducible refine (HEV.out _ HRD.out.vrow).mono ?_); rintro e w6 ⟨rfl, hb6⟩; obtain ⟨sx0, sx1, sx2, sx3, sx4⟩ := keep6 hb6 hqg hq5 cS; have sX := keep6 hb6 hqg hq5 cS; have hR6 := HRD.out.below hb6; have hs6 := hb6.size; obtain ⟨sy0, sy1, sy2, sy3, sy4⟩ := keep6 (below_new w6 (.cells #[.int .i64 q] 3)) (Nat.lt_of_lt_of_le hqg hs6) (Nat.lt_of_lt_of_le hq5 hs6) sX; have sY := keep6 (below_new w6 (.cells #[.int .i64 q] 3)) (Nat.lt_of_lt_of_le hqg hs6) (Nat.lt_of_lt_of_le hq5 hs6) sX)
              | ((refine step_append_lies _ (by rfl) _ _ _ (by rfl) w0.heap.size 3 i0 (.int .i64 0) 1 8 Tryz.underlying27 hi hz0 hz1 hz2 rfl (by decide) _ n1 _ (by rfl) (hR6.sent.alloc (.cells #[.int .i64 q] 3)) ⟨w6.heap.size, 0, none⟩ 1 1 [.int .i64 q] (by rfl) (by rfl) (World.news_of_block (cs := #[.int .i64 q]) (t := 3) (fr := (0, 0)) (heap_alloc_new w6 _)) (by simp [Value.oneCell']) (by omega) (by unfold maxLen; omega) (by omega) (by simp; omega) (w6.heap.size + 1) (by simp) ?_); intro g7 c7 w7 hown7 hgrow7 hat7 hlt7; obtain ⟨sz0, sz1, sz2, sz3, sz4⟩ := keepg hgrow7 hsg hsb (by simp; omega) (by simp; omega) sY; have sZ := keepg hgrow7 hsg hsb (by simp; omega) (by simp; omega) sY; have fZ := ((hR6.box.alloc (.cells #[.int .i64 q] 3)).grown hgrow7 (fun e => hsg e.symm)).frozen 1))
          all_goals
            have hNew := (hR6.below (below_new w6 (.cells #[.int .i64 q] 3))).send (q := q) (a3 := some ⟨g7, 0, none⟩) (c3 := c7) (by have h9 := hown7; rw [ivs_snoc] at h9; exact h9) hgrow7 (hat7.imp (fun e => e.symm) (fun e b hb => by have h8 : some g7 = some b := hb; have h9 := Option.some.inj h8; simp; omega))
            have hBn := (((HBD.out.trans (hb6.mono HBD.out.size)).trans ((below_new w6 (.cells #[.int .i64 q] 3)).mono (Nat.le_trans HBD.out.size hb6.size))).grown hgrow7 (by simp; omega) (fun k hk9 => (own_block HRD.out.sent k hk9).1)).grown (grown_setCell w7 g 1 (.slice (some ⟨g7, 0, none⟩) (n1 + 1) c7)) (by have h8 := hgrow7.size; simp at h8; omega) (fun k hk9 => by cases hk9; exact HRD.out.low)
            obtain ⟨W9, hW9⟩ : ∃ W9, w7.setCell ⟨g, 1, none⟩ (.slice (some ⟨g7, 0, none⟩) (n1 + 1) c7) = W9 := ⟨_, rfl⟩
            rw [hW9] at hNew hBn ⊢
            have H9 := Lib.hid (And.intro hBn hNew)
            clear hW9 hBn hNew hR6 hown7 hgrow7 hat7 hlt7 sX sY sZ fZ sw0 sw1 sw2 sw3 sw4 sx0 sx1 sx2 sx3 sx4 sy0 sy1 sy2 sy3 sy4 sz0 sz1 sz2 sz3 sz4 cS hb6 d0
            refine Lib.hid ?_
            go_wp2
            go_roundw
            case rel => exact ⟨p + 1, r, _, by omega, by omega, by go_num, HPr.out, (HONE.out _ HST.out).1, (HONE.out _ HST.out).2.1, (HONE.out _ HST.out).2.2, H9.out.1, _, _, _, _, _, _, _, _, H9.out.2⟩
            case measure => simp [intOf]; omega
      · obtain rfl : s' = s := by have := HS.out.1; rw [hs'] at this; cases this; rfl
        subst hTe
        have hpe := he.1
        have hPle := hPr.le
        have hIN := Lib.hid (And.intro he (And.intro hPb hPr))
        have hkk : s'.k = 4 ∨ s'.k = 5 := by
          obtain ⟨s2, h1, h2⟩ := he.opens
          rw [hs'] at h1; cases h1
          unfold opn at h2; simpa using h2
        have hlen : e - (p + 1) < b - a := by omega
        have hE0 : (0 : Int) ≤ e := by omega
        clear he hPb hPr
        obtain ⟨m, hm⟩ : ∃ m, its s' x' = m := ⟨_, rfl⟩
        have HM := Lib.hid hm
        have hm5 : m ≤ 5 := by
          rw [← hm]; unfold its
          split
          · split <;> omega
          · have := n_le HS.out.2.2; omega
        -- each execution of the body
        have HBODY := Lib.hid (show ∀ (k : Nat) (w' : World), k < m → Below w0.heap.size w0 w' → Rn w0.heap.size g c (rep (exec c.src B) k x') w' →
            Calls Tryz.prog 153 #[.pointer (some ⟨g, 0, none⟩), .slice (some ⟨gb, off, none⟩) n cap, .int .i64 ((p : Int) + 1), .int .i64 e] w' (ExecOut w0 g c (rep (exec c.src B) (k + 1) x')) from fun k w' hk hB' hR' => by
          have h1 := rep_ind (P := fun y => varsOk y.V = true) (fun y hy => exec_vars hsrc.out B hy) k x' HV.out
          have h2 := rep_tot (fun y => exec_tot c.src B y) k x'
          have h3 := HT.out
          have h4 := its_le s' x'
          have h5 := cnt_nonneg B
          have h6 := cnt_nonneg r
          have h7 : ((k : Int) + 1) * cnt B ≤ max 1 s'.n * cnt B := Int.mul_le_mul_of_nonneg_right (by omega) h5
          have h8 : ((k : Int) + 1) * cnt B = k * cnt B + cnt B := by rw [Int.add_mul, Int.one_mul]
          have h9 := IH.out (p + 1) e hlen B hIN.out.2.1 (by omega) (rep (exec c.src B) k x') w' h1 (by simp only [cnt] at h3; omega) hB' hR'
          rw [rep_last]
          push_cast at h9
          exact h9)
        have HAFTER := Lib.hid (show ∀ y, rep (exec c.src B) m x' = y → exec c.src r y = exec c.src T x ∧ varsOk y.V = true ∧ tot y + cnt r ≤ 50000 from fun y hy => by
          subst hy
          have h1 := rep_ind (P := fun y => varsOk y.V = true) (fun y hy => exec_vars hsrc.out B hy) m x' HV.out
          have h2 := rep_tot (fun y => exec_tot c.src B y) m x'
          have h3 := HT.out
          have h4 := its_le s' x'
          have h5 := cnt_nonneg B
          have h7 : (m : Int) * cnt B ≤ max 1 s'.n * cnt B := Int.mul_le_mul_of_nonneg_right (by rw [hm] at h4; exact h4) h5
          refine ⟨by rw [← HE.out]; simp only [exec]; rw [hm], h1, ?_⟩
          simp only [cnt] at h3
          omega)
        clear hm hkind
        have HR5 := Lib.hid (HL.out.below H5.out.2.1)
        rcases hkk with hk | hk
        · rw [hk] at d0
          obtain ⟨q, hq⟩ : ∃ q, evalV x'.V s'.o s'.a s'.b = q := ⟨_, rfl⟩
          have HEV := Lib.hid (show ∀ w', Row w' (some ⟨gv, 0, none⟩) 8 x'.V → Calls Tryz.prog 176 #[.slice (some ⟨gv, 0, none⟩) 8 cv, ev s'.o s'.a s'.b] w' (BelI w' q) from fun w' h => eval_is w' _ 8 cv x'.V h HV.out _ _ _ q (st_expr HS.out.2.2 (.inr (.inr hk))) hq)
          have HMQ := Lib.hid (show m = if q = 0 then 0 else 1 by rw [← HM.out]; unfold its; rw [if_pos hk, hq])
          clear hq
          refine Lib.hid ?_
          go_wp2_with (go_at_call 178; (with_reducible refine (spec_end _ n cap L _ HR5.out HBK.out p e hIN.out.1 e rfl).mono ?_); rintro e9 w6 ⟨rfl, hb6⟩; refine Hid.out ?_)
          have H6 := Lib.hid (And.intro (H5.out.1.below hb6) (And.intro (H5.out.2.1.trans (hb6.mono H5.out.2.1.size)) (H5.out.2.2.below hb6)))
          clear hb6 d0 d1 d2 d3 d4 d5 e0 e1 hl5 hg5
          have d0 : w6.cell? ⟨wr.heap.size, 0, none⟩ = some (.int .i64 4) := by rw [← hk]; exact H6.out.1.cell 0
          have d2 : w6.cell? ⟨wr.heap.size, 2, none⟩ = some (.int .i64 s'.n) := H6.out.1.cell 2
          have HD := Lib.hid (show Below w6.heap.size w6 w6.drew from Below.drew (Below.refl _ w6))
          have HRD := Lib.hid (H6.out.2.2.below HD.out)
          have HBD := Lib.hid (H6.out.2.1.trans (HD.out.mono H6.out.2.1.size))
          have hq5 : wr.heap.size < w6.drew.heap.size := H6.out.1.lt
          have hqg : g < w6.drew.heap.size := H6.out.2.2.box.lt
          have cS : w6.drew.cell? ⟨g, 0, none⟩ = some (.slice (some ⟨gv, 0, none⟩) 8 cv) ∧ w6.drew.cell? ⟨wr.heap.size, 3, none⟩ = some (.int .i64 s'.o) ∧ w6.drew.cell? ⟨wr.heap.size, 3 + 1, none⟩ = some (.int .i64 s'.a) ∧ w6.drew.cell? ⟨wr.heap.size, 3 + 2, none⟩ = some (.int .i64 s'.b) := ⟨H6.out.2.2.box.cell 0, H6.out.1.cell 3, H6.out.1.cell 4, H6.out.1.cell 5⟩
          by_cases hq0 : q = 0
          · have HBT := Lib.hid (show ∀ w', Calls Tryz.prog 179 #[.bool false] w' (Ret w' 0) from fun w' => spec_bit false w')
            have hm0 : m = 0 := by have := HMQ.out; rw [if_pos hq0] at this; exact this
            subst hq0
            refine Lib.hid ?_
            go_wp2
            go_region_held3 (fun w' => w'.cell? ⟨g, 0, none⟩ = some (.slice (some ⟨gv, 0, none⟩) 8 cv) ∧ w'.cell? ⟨wr.heap.size, 3, none⟩ = some (.int .i64 s'.o) ∧ w'.cell? ⟨wr.heap.size, 3 + 1, none⟩ = some (.int .i64 s'.a) ∧ w'.cell? ⟨wr.heap.size, 3 + 2, none⟩ = some (.int .i64 s'.b))
              (first
                | (with_reducible exact cS)
                | (with_reducible exact sX))
              (first
                | (go_at_call 176; (with_reducible refine (HEV.out _ HRD.out.vrow).mono ?_); rintro e w7 ⟨rfl, hb7⟩; have sX := keep4' hb7 hqg hq5 cS)
                | (go_at_call 179; (with_reducible refine (HBT.out _).mono ?_); rintro e w8 ⟨rfl, rfl⟩))
            all_goals
              have HB7 := Lib.hid (HBD.out.trans (hb7.mono HBD.out.size))
              have HR7 := Lib.hid (HRD.out.below hb7)
              clear hb7 sX cS d0 d2 hq5 hqg
              refine Lib.hid ?_
              go_wp2
              go_loopw [12] (fun i wq => ∃ k : Nat, k ≤ m ∧ i = .int .i64 k ∧ Hid (Below w0.heap.size w0 wq) ∧ Hid (Rn w0.heap.size g c (rep (exec c.src B) k x') wq)) (fun i _ => m - (intOf i).toNat)
              case atStart => exact ⟨0, Nat.zero_le _, rfl, HB7.out, ⟨_, _, _, _, _, _, _, _, HR7.out⟩⟩
              case round =>
                obtain ⟨k, hk9, rfl, HBq, HRq⟩ := hrel
                by_cases hltk : k < m
                · exfalso; omega
                · have hI2 : ¬ (k : Int) < 0 := by omega
                  have hkm : k = m := by omega
                  go_wp2
                  go_roundw
                  case rel => exact ⟨e + 1, r, rep (exec c.src B) k x', by omega, by omega, by go_num, hIN.out.2.2, (HAFTER.out _ (by rw [hkm])).1, (HAFTER.out _ (by rw [hkm])).2.1, (HAFTER.out _ (by rw [hkm])).2.2, HBq.out, HRq.out⟩
                  case measure => simp [intOf]; omega
          · have HBT := Lib.hid (show ∀ w', Calls Tryz.prog 179 #[.bool (q != 0)] w' (Ret w' 1) from fun w' => by rw [show (q != 0) = true by simpa using hq0]; exact spec_bit true w')
            have hm1 : m = 1 := by have := HMQ.out; rw [if_neg hq0] at this; exact this
            have hqb : (q == 0) = false := by simpa using hq0
            refine Lib.hid ?_
            go_wp2
            go_region_held3 (fun w' => w'.cell? ⟨g, 0, none⟩ = some (.slice (some ⟨gv, 0, none⟩) 8 cv) ∧ w'.cell? ⟨wr.heap.size, 3, none⟩ = some (.int .i64 s'.o) ∧ w'.cell? ⟨wr.heap.size, 3 + 1, none⟩ = some (.int .i64 s'.a) ∧ w'.cell? ⟨wr.heap.size, 3 + 2, none⟩ = some (.int .i64 s'.b))
              (first
                | (with_reducible exact cS)
                | (with_reducible exact sX))
              (first
                | (go_at_call 176; (with_reducible refine (HEV.out _ HRD.out.vrow).mono ?_); rintro e w7 ⟨rfl, hb7⟩; have sX := keep4' hb7 hqg hq5 cS)
                | (go_at_call 179; (with_reducible refine (HBT.out _).mono ?_); rintro e w8 ⟨rfl, rfl⟩))
            all_goals
              have HB7 := Lib.hid (HBD.out.trans (hb7.mono HBD.out.size))
              have HR7 := Lib.hid (HRD.out.below hb7)
              clear hb7 sX cS d0 d2 hq5 hqg
              refine Lib.hid ?_
              go_wp2
              go_loopw [12] (fun i wq => ∃ k : Nat, k ≤ m ∧ i = .int .i64 k ∧ Hid (Below w0.heap.size w0 wq) ∧ Hid (Rn w0.heap.size g c (rep (exec c.src B) k x') wq)) (fun i _ => m - (intOf i).toNat)
              case atStart => exact ⟨0, Nat.zero_le _, rfl, HB7.out, ⟨_, _, _, _, _, _, _, _, HR7.out⟩⟩
              case round =>
                obtain ⟨k, hk9, rfl, HBq, HRq⟩ := hrel
                by_cases hltk : k < m
                · have hI2 : (k : Int) < 1 := by omega
                  have HCALL := Lib.hid (HBODY.out k wr hltk HBq.out HRq.out)
                  go_wp2_with (go_at_call 153; (with_reducible refine HCALL.out.mono ?_); rintro e9 w8 ⟨rfl, hb8, hr8⟩; refine Hid.out ?_)
                  have H8 := Lib.hid (And.intro hb8 hr8)
                  clear hb8 hr8
                  refine Lib.hid ?_
                  go_wp2
                  go_roundw
                  case rel => exact ⟨k + 1, by omega, by go_num, H8.out.1, H8.out.2⟩
                  case measure => simp [intOf]; omega
                · have hI2 : ¬ (k : Int) < 1 := by omega
                  have hkm : k = m := by omega
                  go_wp2
                  go_roundw
                  case rel => exact ⟨e + 1, r, rep (exec c.src B) k x', by omega, by omega, by go_num, hIN.out.2.2, (HAFTER.out _ (by rw [hkm])).1, (HAFTER.out _ (by rw [hkm])).2.1, (HAFTER.out _ (by rw [hkm])).2.2, HBq.out, HRq.out⟩
                  case measure => simp [intOf]; omega
        · rw [hk] at d0
          have hmn : s'.n = (m : Int) := by
            have h1 := HM.out
            have h2 := st_loop HS.out.2.2 hk
            unfold its at h1
            rw [if_neg (by omega)] at h1
            omega
          rw [hmn] at d2
          refine Lib.hid ?_
          go_wp2_with (go_at_call 178; (with_reducible refine (spec_end _ n cap L _ HR5.out HBK.out p e hIN.out.1 e rfl).mono ?_); rintro e9 w6 ⟨rfl, hb6⟩; refine Hid.out ?_)
          have H6 := Lib.hid (And.intro (H5.out.1.below hb6) (And.intro (H5.out.2.1.trans (hb6.mono H5.out.2.1.size)) (H5.out.2.2.below hb6)))
          clear hb6 d0 d1 d2 d3 d4 d5 e0 e1 hl5 hg5
          have d0 : w6.cell? ⟨wr.heap.size, 0, none⟩ = some (.int .i64 5) := by rw [← hk]; exact H6.out.1.cell 0
          have d2 : w6.cell? ⟨wr.heap.size, 2, none⟩ = some (.int .i64 (m : Int)) := by rw [← hmn]; exact H6.out.1.cell 2
          refine Lib.hid ?_
          go_wp2
          go_loopw [12] (fun i wq => ∃ k : Nat, k ≤ m ∧ i = .int .i64 k ∧ Hid (Below w0.heap.size w0 wq) ∧ Hid (Rn w0.heap.size g c (rep (exec c.src B) k x') wq)) (fun i _ => m - (intOf i).toNat)
          case atStart => exact ⟨0, Nat.zero_le _, rfl, H6.out.2.1, ⟨_, _, _, _, _, _, _, _, H6.out.2.2⟩⟩
          case round =>
            obtain ⟨k, hk9, rfl, HBq, HRq⟩ := hrel
            by_cases hltk : k < m
            · have hI2 : (k : Int) < m := by omega
              have HCALL := Lib.hid (HBODY.out k wr hltk HBq.out HRq.out)
              go_wp2_with (go_at_call 153; (with_reducible refine HCALL.out.mono ?_); rintro e9 w8 ⟨rfl, hb8, hr8⟩; refine Hid.out ?_)
              have H8 := Lib.hid (And.intro hb8 hr8)
              clear hb8 hr8
              refine Lib.hid ?_
              go_wp2
              go_roundw
              case rel => exact ⟨k + 1, by omega, by go_num, H8.out.1, H8.out.2⟩
              case measure => simp [intOf]; omega
            · have hI2 : ¬ (k : Int) < m := by omega
              have hkm : k = m := by omega
              go_wp2
              go_roundw
              case rel => exact ⟨e + 1, r, rep (exec c.src B) k x', by omega, by omega, by go_num, hIN.out.2.2, (HAFTER.out _ (by rw [hkm])).1, (HAFTER.out _ (by rw [hkm])).2.1, (HAFTER.out _ (by rw [hkm])).2.2, HBq.out, HRq.out⟩
              case measure => simp [intOf]; omega
    · have hpb' : p = b := by omega
      have hI : ¬ (p : Int) < b := by omega
      have HX9 := Lib.hid (show exec c.src T x = x' by
        rw [← HE.out]
        obtain rfl : T' = .nil := by have h1 := HP.out; rw [hpb'] at h1; exact h1.unique (.nil b)
        rfl)
      go_wp2
      exact bodyPost_ret (results_none rfl _ _ _) rfl ⟨rfl, HBw.out, by rw [HX9.out]; exact HRn.out⟩
end Go.Proofs.YtmgeecdgebemdaaGreatDoor.exe
