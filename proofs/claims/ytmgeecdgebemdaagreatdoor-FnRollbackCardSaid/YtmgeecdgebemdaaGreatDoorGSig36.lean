/- Several texts in one: RecC TrcH TrcG. -/
import Derived.Test.YtmgeecdgebemdaaGreatDoorGSig35
import Derived.Test.YtmgeecdgebemdaaGreatDoorGSig18
import Derived.Test.YtmgeecdgebemdaaGreatDoorGSig34
import Derived.Test.YtmgeecdgebemdaaGreatDoorGSig20
import Derived.Deep.RegionLaw
import Derived.Deep.RegionHeld3

/- Chapter 15 of the program: IsClean; nothing that was there is written. -/
namespace Go.Proofs.YtmgeecdgebemdaaGreatDoor.rcv
open Go Go.ChangeShapes Go.WideShapes Go.ChangeAt Go.RowKit Go.Proofs.YtmgeecdgebemdaaGreatDoor.row Go.Proofs.YtmgeecdgebemdaaGreatDoor.val Go.Proofs.YtmgeecdgebemdaaGreatDoor.expr Go.Proofs.YtmgeecdgebemdaaGreatDoor.stm Go.Proofs.YtmgeecdgebemdaaGreatDoor.ctl Go.Proofs.YtmgeecdgebemdaaGreatDoor.mem
set_option maxRecDepth 100000 in
set_option maxHeartbeats 2000000 in
theorem impl_isclean0 (w : World) (a : Option Addr) (n cap : Nat) (L : List Int) (h : Row w a n L) (hw : -9223372036854775808 ≤ L.getD 8 0 ∧ L.getD 8 0 ≤ 9223372036854775807) (r : Bool) (hr : cleanB L = r) :
    Calls Tryz.prog 48 #[.slice a n cap] w (BelB w r) := by
  have hl := h.1
  by_cases h49 : n = 49
  case neg =>
    have HQ := Lib.hid (show false = r by rw [← hr]; unfold cleanB; simp [show ¬ L.length = 49 by omega])
    have HI := Lib.hid (mem_info (L := nul 49) (by simp))
    have HL : Hid (∀ cs : Array Value, cs.size = 49 → (ivs (nul 49)).toArray.size = cs.size) := fun cs hc => by rw [hc]; simp [ivs]
    clear hr hw hl h
    go_enter Tryz.func48, Tryz.ntmps48
    go_wp2_with (first
      | (go_at_call 93; refine (impl_memoryof_no _ a n cap h49).mono ?_; rintro e w1 ⟨rfl, hb1⟩)
      | (refine wpList_store_box rfl TM _ _ rfl w1.heap.size _ _ (Box.new w1 _ _) (ivs (nul 49)).toArray rfl rfl (HL.out _ rfl) HI.out (mem_all _) ?_; intro w2 hx2 hg2))
    have hb2 := (below_then hb1 (below_new w1 _)).grown hg2 (show w.heap.size ≤ _ by have := hb1.size; simp; omega) (fun k hk => by cases hk; exact hb1.size)
    go_ret
    exact ⟨by rw [← HQ.out]; rfl, hb2⟩
  subst h49
  obtain ⟨b, off, rfl⟩ := row_some h (by decide)
  have HI := Lib.hid (mem_info h.1)
  have HL : Hid (∀ cs : Array Value, cs.size = 49 → (ivs L).toArray.size = cs.size) := fun cs hc => by rw [List.size_toArray, ivs_length, h.1, hc]
  obtain ⟨x, hx⟩ : ∃ x, L[8]? = some x := ⟨L[8]'(by have := h.1; omega), by simp [h.1]⟩
  have hX : L.getD 8 0 = x := by rw [List.getD_eq_getElem?_getD, hx]; rfl
  have hxw : -9223372036854775808 ≤ x ∧ x ≤ 9223372036854775807 := by rw [hX] at hw; exact hw
  have HC := Lib.hid (show ∀ (w' : World) (g : Nat), Box g (ivs L).toArray TM w' → w'.cell? ⟨g, 8, none⟩ = some (.int .i64 x) from fun w' g hb => by rw [hb.cell]; simp [ivs, hx])
  obtain ⟨c, hc⟩ : ∃ c, unC x = c := ⟨_, rfl⟩
  obtain ⟨t, ht⟩ : ∃ c, unT x = c := ⟨_, rfl⟩
  obtain ⟨nn, hnn⟩ : ∃ c, unN x = c := ⟨_, rfl⟩
  have HU := Lib.hid (show unT x = t ∧ unC x = c ∧ unN x = nn from ⟨ht, hc, hnn⟩)
  have HQ := Lib.hid (show (c == 0) = r by
    rw [show (c == 0) = decide (c = 0) from by by_cases h : c = 0 <;> simp [h]]
    rw [← hr, ← hc]
    unfold cleanB unC
    rw [hl, hX]
    cases wOk x <;> simp)
  have HH := Lib.hid h
  clear hx hX hc hl h hr ht hnn hw
  go_enter Tryz.func48, Tryz.ntmps48
  go_wp2_with (first
    | (go_at_call 93; refine (impl_memoryof_yes _ b off cap L HH.out).mono ?_; rintro e w1 ⟨rfl, hb1⟩)
    | (refine wpList_store_box rfl TM _ _ rfl w1.heap.size _ _ (Box.new w1 _ _) (ivs L).toArray rfl rfl (HL.out _ rfl) HI.out (mem_all L) ?_; intro w2 hx2 hg2; have hc2 := HC.out _ _ hx2)
    | (go_at_call 36; refine (impl_unpack_is x _ _ _ hxw HU.out _).mono ?_; rintro e w3 ⟨rfl, rfl⟩))
  have hb2 := (below_then hb1 (below_new w1 _)).grown hg2 (show w.heap.size ≤ _ by have := hb1.size; simp; omega) (fun k hk => by cases hk; exact hb1.size)
  go_ret
  exact ⟨by rw [← HQ.out]; rfl, hb2⟩
theorem impl_isclean : IcC := fun w a n cap L _ _ h hw r hr => impl_isclean0 w a n cap L h hw r hr
end Go.Proofs.YtmgeecdgebemdaaGreatDoor.rcv

/- Chapter 14 of the program: canTrace and TraceOf: the steps of the current task, in new memory; nothing that was there is written. -/
namespace Go.Proofs.YtmgeecdgebemdaaGreatDoor.trc
open Go Go.ChangeShapes Go.WideShapes Go.ChangeAt Go.RowKit Go.Proofs.YtmgeecdgebemdaaGreatDoor.row Go.Proofs.YtmgeecdgebemdaaGreatDoor.val Go.Proofs.YtmgeecdgebemdaaGreatDoor.expr Go.Proofs.YtmgeecdgebemdaaGreatDoor.stm Go.Proofs.YtmgeecdgebemdaaGreatDoor.blk Go.Proofs.YtmgeecdgebemdaaGreatDoor.prg Go.Proofs.YtmgeecdgebemdaaGreatDoor.exe Go.Proofs.YtmgeecdgebemdaaGreatDoor.grow Go.Proofs.YtmgeecdgebemdaaGreatDoor.rss Go.Proofs.YtmgeecdgebemdaaGreatDoor.ctl Go.Proofs.YtmgeecdgebemdaaGreatDoor.sets Go.Proofs.YtmgeecdgebemdaaGreatDoor.wrt Go.Proofs.YtmgeecdgebemdaaGreatDoor.mem Go.Proofs.YtmgeecdgebemdaaGreatDoor.cst
theorem dj_at {l k : List (Option Nat)} (h : Dj l k) {i b : Nat} (hi : l[i]? = some (some b)) : ∀ j : Nat, k[j]? ≠ some (some b) := fun j hj => h i j b hi hj
/-- Told a statement, the program's observer makes the steps of it. -/
theorem trace_tells (w0 : World) (c : PCf) (hlv : c.lv = true) (g gs ga gj : Nat) (D : List Int) (tk tl : Int) (hD : Vrs D) (hDl : D.length ≤ 8) (htl : 0 ≤ tl ∧ tl ≤ 24) (HC : CostTab w0) :
    Tells w0 c (traceObs w0.heap.size gs ga gj g D tk tl) g := by
  intro w p F x t s v hs h6 hx hv ht hB h
  obtain ⟨gv, cv, a1, n1, c1, a2, n2, c2⟩ := p
  obtain ⟨M, L⟩ := t
  obtain ⟨a, m, c0, a', m', c', hF, hp⟩ := h.ob
  subst hF
  have e : (#[Value.agg (stmA s), .int .i64 v] ++ (traceObs w0.heap.size gs ga gj g D tk tl).fc) = #[.agg (stmA s), .int .i64 v, .pointer (some ⟨ga, 0, none⟩), .pointer (some ⟨gj, 0, none⟩), .pointer (some ⟨g, 0, none⟩)] := by simp [traceObs]
  rw [e]
  have hfn : c.fn = fnS c.gu c.gz := by unfold PCf.fn; rw [if_pos hlv]
  have hbx := h.box
  unfold pxC at hbx
  rw [hfn] at hbx
  have hlen : x.S.length = n1 := h.slen
  have hn1 : n1 ≤ 100000 ∧ M.length ≤ 60000 := by
    have h1 : tot x + (M.length : Int) ≤ 50000 := ht
    unfold tot at h1
    omega
  refine (impl_tell w0.heap.size gs ga gj g a m c0 a' m' c' D tk tl M L w hp hD hDl htl hn1.2 c gv cv a1 n1 c1 a2 n2 c2 x h.vrow hlen hn1.1 hbx (dj_at h.d1 (i := 0) rfl) (dj_at h.d1 (i := 1) rfl) s hs v (HC.below hB)).mono ?_
  rintro e w' ⟨rfl, a2', m2', c2', a3', m3', c3', h1, h2⟩
  refine ⟨rfl, _, ⟨_, _, _, _, _, _, rfl, ?_⟩, h2⟩
  have e2 : stepsOf (kindT s.k) (addP D tk tl s x v L) = stepM s.k :: addV D tk tl s x v L := by rw [addP_M]; rfl
  rw [e2] at h1
  exact h1
set_option maxHeartbeats 4000000 in
set_option maxRecDepth 100000 in
theorem impl_cantrace (a : Option Addr) (n cap : Nat) (P : List Tk) (hz : Sizes P) (hcap : n ≤ cap) (w : World) (h : TkRow w a n P) (am : Option Addr) (nm cm : Nat) (Mem : List Int) (hM : Row w am nm Mem) (ar : Option Addr) (nr cr : Nat) (R : List Int) (hnr : (nr : Int) ≤ 1048576) (hR : Row w ar nr R) (z : Int) (h8 : i64r (Mem.getD 8 0)) (r : Bool) (hr : r = true ↔ TrOk P Mem R z) :
    Calls Tryz.prog 76 #[.agg #[.slice a n cap], .slice am nm cm, .slice ar nr cr, .int .i64 z] w (BelB w r) := by
  obtain ⟨W, hW⟩ : ∃ W, w.alloc (.cells #[.slice a n cap] 26) = W := ⟨_, rfl⟩
  have hBW : Below w.heap.size w W := by rw [← hW]; exact below_new w _
  have hpx : Box w.heap.size #[.slice a n cap] 26 W := by rw [← hW]; exact Box.new w _ _
  have c0 : W.cell? ⟨w.heap.size, 0, none⟩ = some (.slice a n cap) := hpx.cell 0
  obtain ⟨rm, hrm⟩ := mem_dec P Mem
  have HMO := Lib.hid (impl_memok8 a n cap P hz hcap W (h.below hBW) am nm cm Mem (hM.below hBW) h8 rm hrm)
  have H0 := Lib.hid hBW
  cases rm
  · obtain rfl : r = false := by
      rw [← Bool.not_eq_true]; intro e
      have := hrm.2 (hr.1 e).1
      cases this
    clear hr hrm hpx hBW h hM hR h8
    go_enter Tryz.func76, Tryz.ntmps76
    go_wp2_with (go_at_call 49; (with_reducible refine HMO.out.mono ?_); rintro e w2 ⟨rfl, hb2⟩)
    go_ret
    exact ⟨rfl, H0.out.trans (hb2.mono H0.out.size)⟩
  · have hmi := hrm.1 rfl
    obtain rfl : nm = 49 := by have := hM.1; have := hmi.2.1; omega
    obtain ⟨bm, om, x, rfl, hlm, hx8, hc8⟩ := (hM.below hBW).2 8 (by omega)
    have hX8 : Mem.getD 8 0 = x := by rw [List.getD_eq_getElem?_getD, hx8]; rfl
    rw [hX8] at h8
    have hwok : wOk x = true := by rw [← hX8]; exact hmi.2.2.1
    obtain ⟨ri, hri⟩ : ∃ ri : Bool, (decide (0 ≤ z) && decide (z ≤ 1000000)) = ri := ⟨_, rfl⟩
    obtain ⟨rv, hrv⟩ : ∃ rv : Bool, allV R = rv := ⟨_, rfl⟩
    obtain ⟨rc, hrc⟩ : ∃ rc : Bool, Go.Proofs.YtmgeecdgebemdaaGreatDoor.rcv.cleanB Mem = rc := ⟨_, rfl⟩
    have hrc2 : rc = decide (wC x = 0) := by
      rw [← hrc]
      unfold Go.Proofs.YtmgeecdgebemdaaGreatDoor.rcv.cleanB
      rw [hX8, hwok, show Mem.length = 49 from hmi.2.1]
      simp
    have HIC := Lib.hid (show ∀ w', Below W.heap.size W w' → Calls Tryz.prog 48 #[.slice (some ⟨bm, om, none⟩) 49 cm] w' (BelB w' rc) from fun w' hb => Go.Proofs.YtmgeecdgebemdaaGreatDoor.rcv.impl_isclean0 w' (some ⟨bm, om, none⟩) 49 cm Mem (hM.below (hBW.trans (hb.mono hBW.size))) (by rw [hX8]; exact h8) rc hrc)
    have HIN := Lib.hid (show ∀ w', Calls Tryz.prog 135 #[.int .i64 z] w' (RetB w' ri) from fun w' => impl_first z ri hri w')
    have HVA := Lib.hid (show ∀ w', Below W.heap.size W w' → Calls Tryz.prog 109 #[.slice ar nr cr] w' (RetB w' rv) from fun w' hb => impl_are w' ar nr cr R hnr (hR.below (hBW.trans (hb.mono hBW.size))) rv hrv)
    have hre : r = (rc && ri && rv) := by
      rw [Bool.eq_iff_iff, hr, hrc2]
      unfold TrOk
      rw [hX8, ← hri, ← hrv]
      simp [hmi, and_assoc]
    subst hre
    clear hr hrm hmi hX8 hwok hri hrv hx8 hpx hBW h hM hR hc8 hrc hrc2 h8
    cases rc <;> cases ri <;> cases rv
    all_goals
      go_enter Tryz.func76, Tryz.ntmps76
      go_wp2_with (go_at_call 49; (with_reducible refine HMO.out.mono ?_); rintro e w2 ⟨rfl, hb2⟩; refine Hid.out ?_)
      have HB2 := Lib.hid hb2
      clear hb2
      refine Lib.hid ?_
      go_wp2_with (first
        | (go_at_call 48; (with_reducible refine (HIC.out _ HB2.out).mono ?_); rintro e w3 ⟨rfl, hb3⟩)
        | (go_at_call 135; (with_reducible refine (HIN.out _).mono ?_); rintro e w4 ⟨rfl, rfl⟩)
        | (go_at_call 109; (with_reducible refine (HVA.out _ (below_then HB2.out hb3)).mono ?_); rintro e w5 ⟨rfl, rfl⟩))
      go_ret
      exact ⟨rfl, H0.out.trans ((below_then HB2.out hb3).mono H0.out.size)⟩
end Go.Proofs.YtmgeecdgebemdaaGreatDoor.trc

/- Chapter 14 of the program: the state ahead of the run: the steps of the current task, in new memory; nothing that was there is written. -/
namespace Go.Proofs.YtmgeecdgebemdaaGreatDoor.trc
open Go Go.ChangeShapes Go.WideShapes Go.ChangeAt Go.RowKit Go.Proofs.YtmgeecdgebemdaaGreatDoor.row Go.Proofs.YtmgeecdgebemdaaGreatDoor.val Go.Proofs.YtmgeecdgebemdaaGreatDoor.expr Go.Proofs.YtmgeecdgebemdaaGreatDoor.stm Go.Proofs.YtmgeecdgebemdaaGreatDoor.blk Go.Proofs.YtmgeecdgebemdaaGreatDoor.prg Go.Proofs.YtmgeecdgebemdaaGreatDoor.exe Go.Proofs.YtmgeecdgebemdaaGreatDoor.grow Go.Proofs.YtmgeecdgebemdaaGreatDoor.rss Go.Proofs.YtmgeecdgebemdaaGreatDoor.ctl Go.Proofs.YtmgeecdgebemdaaGreatDoor.sets Go.Proofs.YtmgeecdgebemdaaGreatDoor.wrt Go.Proofs.YtmgeecdgebemdaaGreatDoor.mem Go.Proofs.YtmgeecdgebemdaaGreatDoor.cst
theorem sep_own {g : Nat} {b : Option Nat} (h : ∀ k, b = some k → k ≠ g) : Sep [some g, b] := by
  have key : ∀ (i q : Nat), ([some g, b] : List (Option Nat))[i]? = some (some q) → (i = 0 ∧ q = g) ∨ (i = 1 ∧ b = some q) := by
    intro i q hq
    match i, hq with
    | 0, hq => exact .inl ⟨rfl, (Option.some.inj (Option.some.inj hq)).symm⟩
    | 1, hq => exact .inr ⟨rfl, Option.some.inj hq⟩
    | i + 2, hq => simp at hq
  intro i j q hi hj
  rcases key i q hi with ⟨e1, e2⟩ | ⟨e1, e2⟩ <;> rcases key j q hj with ⟨f1, f2⟩ | ⟨f1, f2⟩
  · omega
  · exact absurd e2 (h q f2)
  · exact absurd f2 (h q e2)
  · omega
theorem rs_one {B g : Nat} {r : RS} {w : World} (hB : B ≤ g) (hg : g < w.heap.size) (ho : Own r B w) (hne : ∀ k, r.v.ownBlock = some k → k ≠ g) : RsAt B g [r] w :=
  ⟨hB, hg, fun j q hq => by
    match j, hq with
    | 0, hq => cases hq; exact ho
    | j + 1, hq => simp at hq, sep_own hne⟩
abbrev zeroJ : Array Value := #[.int .i64 0, .int .i64 0, .int .i64 0, .slice none 0 0]
abbrev zeroX : Array Value := #[.slice none 0 0, .slice none 0 0, .slice none 0 0, .nilFunc, .nilFunc]
abbrev zeroTk : Array Value := #[.slice none 0 0, .int .i64 0, .int .i64 0, .int .i64 0]
theorem sep_startT {g gv : Nat} (h : gv ≠ g) : Sep [some g, some gv, none, none] := by
  have key : ∀ (i b : Nat), ([some g, some gv, none, none] : List (Option Nat))[i]? = some (some b) → (i = 0 ∧ b = g) ∨ (i = 1 ∧ b = gv) := by
    intro i b h
    match i, h with
    | 0, h => exact .inl ⟨rfl, (Option.some.inj (Option.some.inj h)).symm⟩
    | 1, h => exact .inr ⟨rfl, (Option.some.inj (Option.some.inj h)).symm⟩
    | 2, h => simp at h
    | 3, h => simp at h
    | i + 4, h => simp at h
  intro i j b hi hj
  rcases key i b hi with ⟨e1, e2⟩ | ⟨e1, e2⟩ <;> rcases key j b hj with ⟨f1, f2⟩ | ⟨f1, f2⟩ <;> omega
theorem dj_lt {l k : List (Option Nat)} (N : Nat) (hl : ∀ b, some b ∈ l → b < N) (hk : ∀ b, some b ∈ k → N ≤ b) : Dj l k := dj_mem.2 fun b h1 h2 => by have := hl b h1; have := hk b h2; omega
theorem in_jnB {g b : Nat} {a : Option Addr} {m c : Nat} (h : some b ∈ jnB g a m c) : b = g ∨ (Value.slice a m c).ownBlock = some b := by
  rcases List.mem_cons.1 h with h | h
  · exact .inl (Option.some.inj h)
  · exact .inr (List.mem_singleton.1 h).symm
theorem keep4T {w w' : World} {p q g : Nat} {x0 x1 x2 x3 : Value} (hb : Below w.heap.size w w') (hp : p < w.heap.size) (hq : q < w.heap.size) (hg : g < w.heap.size) (h : w.cell? ⟨p, 0, none⟩ = some x0 ∧ w.cell? ⟨q, 0, none⟩ = some x1 ∧ w.cell? ⟨g, 0, none⟩ = some x2 ∧ w.cell? ⟨g, 1, none⟩ = some x3) : w'.cell? ⟨p, 0, none⟩ = some x0 ∧ w'.cell? ⟨q, 0, none⟩ = some x1 ∧ w'.cell? ⟨g, 0, none⟩ = some x2 ∧ w'.cell? ⟨g, 1, none⟩ = some x3 :=
  ⟨(hb.cell (p := ⟨p, 0, none⟩) hp).trans h.1, (hb.cell (p := ⟨q, 0, none⟩) hq).trans h.2.1, (hb.cell (p := ⟨g, 0, none⟩) hg).trans h.2.2.1, (hb.cell (p := ⟨g, 1, none⟩) hg).trans h.2.2.2⟩
/-- The trace and the execution at the start. -/
theorem start_at {B g gs ga gj gv cv gu gz N : Nat} {a4 : Option Addr} {n4 c4 : Nat} {ar : Option Addr} {nr cr : Nat} {R : List Int} {z : Int} {D : List Int} {tk tl : Int} {V : List Int} {ft : TypeId} {w : World} {hlo : liveOk}
    (hB : B ≤ N) (hgs : gs = N + 1) (hga : ga = N + 2) (h4 : ∀ b, (Value.slice a4 n4 c4).ownBlock = some b → N + 3 ≤ b ∧ b < gj) (hgj : N + 3 ≤ gj) (hjv : gj < gv) (hvu : gv < gu) (huz : gz = gu + 1) (hzg : gz < g)
    (xg : Box g #[.slice (some ⟨gv, 0, none⟩) 8 cv, .slice none 0 0, .slice none 0 0, fnS gu gz, .func (.func 81) #[] #[.pointer (some ⟨ga, 0, none⟩), .pointer (some ⟨gj, 0, none⟩), .pointer (some ⟨g, 0, none⟩)]] 110 w)
    (xs : Box gs #[.slice (some ⟨N, 0, none⟩) 0 0] 52 w) (xa : Box ga #[.func (.func 77) #[] #[.pointer (some ⟨gs, 0, none⟩)]] ft w) (xj : Box gj #[.int .i64 tk, .int .i64 0, .int .i64 tl, .slice a4 n4 c4] 105 w)
    (xu : Box gu #[.slice ar nr cr] 27 w) (xz : Box gz #[.int .i64 z] 3 w)
    (ov : w.ownsRow B 3 1 (.slice (some ⟨gv, 0, none⟩) 8 cv) 8 (ivs V)) (os : w.ownsRow B 98 3 (.slice (some ⟨N, 0, none⟩) 0 0) 0 (microsC [])) (o4 : w.ownsRow B 3 1 (.slice a4 n4 c4) n4 (ivs D)) :
    PxAt B g ⟨gv, cv, none, 0, 0, none, 0, 0⟩ ⟨true, gu, gz, ar, nr, cr, R, z⟩ (traceObs B gs ga gj g D tk tl) ⟨V, [], []⟩ ⟨[], []⟩ (trF gs ga gj (some ⟨N, 0, none⟩) 0 0 a4 n4 c4) w := by
  have hS : ∀ b, some b ∈ jnB gs (some ⟨N, 0, none⟩) 0 0 → b = gs ∨ b = N := fun b h => (in_jnB h).imp id (fun e => by have : some N = some b := e; exact (Option.some.inj this).symm)
  have hJ : ∀ b, some b ∈ jnB gj a4 n4 c4 → N + 3 ≤ b ∧ b ≤ gj := fun b h => by
    rcases in_jnB h with e | e
    · omega
    · have := h4 b e; omega
  have hF : ∀ b, some b ∈ trF gs ga gj (some ⟨N, 0, none⟩) 0 0 a4 n4 c4 → b ≤ gj := fun b h => by
    rw [List.mem_append, List.mem_append] at h
    rcases h with (h | h) | h
    · have := hS b h; omega
    · have := hJ b h; omega
    · have : b = ga := by simpa using h
      omega
  have hX : ∀ b, some b ∈ pxB g ⟨gv, cv, none, 0, 0, none, 0, 0⟩ ⟨V, [], []⟩ → b = g ∨ b = gv := fun b h => by
    have h2 : some b ∈ ([some g, some gv, none, none] : List (Option Nat)) := h
    simpa using h2
  have hC : ∀ b, some b ∈ (⟨true, gu, gz, ar, nr, cr, R, z⟩ : PCf).cap → b = gu ∨ b = gz := fun b h => by
    have h2 : some b ∈ ([some gu, some gz] : List (Option Nat)) := h
    simpa using h2
  have hone : ∀ b, some b ∈ ([some ga] : List (Option Nat)) → b = ga := fun b h => by simpa using h
  refine ⟨xg, ⟨by omega, xg.lt, fun i r hr => ?_, sep_startT (g := g) (gv := gv) (by omega)⟩, ⟨⟨xu.lt, xu.cell 0⟩, fun _ => ⟨hlo, xz.lt, xz.cell 0⟩, fun e => by cases e⟩, ⟨_, _, _, _, _, _, rfl, ⟨xs, rs_one (by omega) xs.lt os (fun k hk => ?_)⟩, ⟨xj, rs_one (by omega) xj.lt ?_ (fun k hk => ?_)⟩, by omega, ⟨ft, xa⟩, ?_, ?_, ?_, ⟨List.nodup_nil, fun k hk => by cases hk⟩⟩, ?_, ?_, ?_⟩
  · match i, hr with
    | 0, hr => cases hr; exact ov
    | 1, hr => cases hr; exact World.ownsRow_nil _ _ _ _
    | 2, hr => cases hr; exact World.ownsRow_nil _ _ _ _
    | i + 3, hr => simp [pxL] at hr
  · have : some N = some k := hk
    cases this; omega
  · show w.ownsRow B 3 1 (.slice a4 n4 c4) n4 (ivs (uns D []))
    rw [uns_nil]; exact o4
  · have := h4 k hk; omega
  · exact dj_lt (N + 3) (fun b h => by have := hS b h; omega) (fun b h => (hJ b h).1)
  · exact dj_lt ga (fun b h => by have := hS b h; omega) (fun b h => Nat.le_of_eq (hone b h).symm)
  · exact (dj_lt (N + 3) (fun b h => by have := hone b h; omega) (fun b h => (hJ b h).1)).symm
  · exact (dj_lt (gj + 1) (fun b h => by have := hF b h; omega) (fun b h => by have := hX b h; omega)).symm
  · exact dj_mem.2 fun b h1 h2 => by have := hX b h1; have := hC b h2; omega
  · exact dj_lt (gj + 1) (fun b h => by have := hF b h; omega) (fun b h => by have := hC b h; omega)
end Go.Proofs.YtmgeecdgebemdaaGreatDoor.trc
