/- Several texts in one: RefJ. -/
import Derived.Test.YtekdnhhmiabngaaGreatGHub30
import Derived.Test.YtekdnhhmiabngaaGreatGHub24
import Derived.RangeFuncCalls
import Derived.Shelf.RegionOpen
import Derived.WalkKit
import Derived.OwnWalkIn
import Derived.TacticsInMore
import Derived.LoopNIn
import Derived.LoopIn

/- Chapter 13 of the program: the iterator over the tasks of a reference run (tasksOf and the function that it returns): each call of yield gets the next task and its effect, in new memory; nothing that was there is written. -/
namespace Go.Proofs.YtekdnhhmiabngaaGreat.ref
open Go Go.ChangeShapes Go.WideShapes Go.ChangeAt Go.RowKit Go.Proofs.YtekdnhhmiabngaaGreat.row Go.Proofs.YtekdnhhmiabngaaGreat.val Go.Proofs.YtekdnhhmiabngaaGreat.expr Go.Proofs.YtekdnhhmiabngaaGreat.stm Go.Proofs.YtekdnhhmiabngaaGreat.blk Go.Proofs.YtekdnhhmiabngaaGreat.prg Go.Proofs.YtekdnhhmiabngaaGreat.exe Go.Proofs.YtekdnhhmiabngaaGreat.srow Go.Proofs.YtekdnhhmiabngaaGreat.rng
attribute [local go_sem] Oper.semAt_some

theorem run_store_box {P : Program} {o : Oper} {a : Act} {w : World} (ty : TypeId) (x y : Operand) (ho : o.op = .store ty x y)
    (g : Nat) (cs : Array Value) (t : TypeId) (hb : Box g cs t w) (cells : Array Value) (hx : a.eval x = .pointer (some ⟨g, 0, none⟩)) (hy : a.eval y = .agg cells) (hs : cells.size = cs.size)
    (hi : (P.info? ty).map (·.size) = some cells.size) (h1 : cells.all (·.oneCell') = true) : (execOp a.eval o).run P w = .ok .skip (w.setCells g 0 cells.toList) := by
  unfold execOp
  have ht : w.there g 0 cells.size := by rw [hs]; exact box_there hb
  simp only [ho, hx, hy, Instr.storeAt, Instr.sureAddr, Sem.run_bind, Sem.run_pure, Result.andThen_ok, run_storeVar_mid w g 0 ty cells ht hi h1]
/-- A store of a whole struct into a block that is known whole, in a walk within a fence that lets everything in. -/
theorem listIn_store_box {F : Fence} (hF : Wide F) {m : Nat} {P : Program} {ops : Array Oper} {rest : List Oper} {o : Oper} {a : Act} {w : World} {Q : Exit → Act → World → Prop} (hgd : o.guard = none) (ty : TypeId) (x y : Operand) (ho : o.op = .store ty x y)
    (g : Nat) (cs : Array Value) (t : TypeId) (hb : Box g cs t w) (cells : Array Value) (hx : a.eval x = .pointer (some ⟨g, 0, none⟩)) (hy : a.eval y = .agg cells) (hs : cells.size = cs.size)
    (hi : (P.info? ty).map (·.size) = some cells.size) (h1 : cells.all (·.oneCell') = true)
    (h : ∀ w', Box g cells t w' → w.grownBy w' (some g) → wpListIn F m P ops Q rest (a.put o.dst undef) w') : wpListIn F m P ops Q (o :: rest) a w := by
  refine wpListIn_plain hgd fun K hK => oper_in hF (fun c e => by rw [ho] at e; cases e) undef _ (.inr ⟨run_store_box ty x y ho g cs t hb cells hx hy hs hi h1, rfl⟩) (hK _ _ (h _ (box_stored hb cells hs) (grown_setCells g _ 0 w)))
/-- The load of a whole struct, likewise. -/
theorem listIn_load_row {F : Fence} (hF : Wide F) {m : Nat} {P : Program} {ops : Array Oper} {rest : List Oper} {o : Oper} {a : Act} {w : World} {Q : Exit → Act → World → Prop} (hgd : o.guard = none) (ty : TypeId) (x : Operand) (ho : o.op = .load ty x)
    (g : Nat) (hx : a.eval x = .pointer (some ⟨g, 0, none⟩)) (t : TypeId) (cs : Array Value) (fr : Nat × Nat) (d : TypeDesc) (hg : w.heap[g]? = some (.cells cs t fr))
    (hu : P.underlying ty = some d) (hd : (match d with | .struct _ | .array _ _ => true | _ => false) = true) (hi : (P.info? ty).map (·.size) = some cs.size)
    (h : wpListIn F m P ops Q rest (a.put o.dst (.agg cs)) w) : wpListIn F m P ops Q (o :: rest) a w := by
  refine wpListIn_plain hgd fun K hK => oper_in hF (fun c e => by rw [ho] at e; cases e) (.agg cs) w (.inl ?_) (hK _ _ h)
  unfold execOp
  simp only [ho, hx, Instr.loadAt, Instr.sureAddr, Sem.run_bind, Sem.run_pure, Result.andThen_ok, run_loadVar_row w g t ty cs fr d hg hu hd hi]
/-- The four variables that the iterator has captured. -/
def ItAt (q : Nat) (a : Option Addr) (n cap : Nat) (i : Int) (ad : Option Addr) (nv cv : Nat) (au : Option Addr) (nu cu : Nat) (w : World) : Prop :=
  Box q #[.slice a n cap] 26 w ∧ Box (q + 1) #[.int .i64 i] 3 w ∧ Box (q + 2) #[.slice ad nv cv] 28 w ∧ Box (q + 3) #[.slice au nu cu] 57 w
abbrev itF (q : Nat) : Value := .func (.func 123) #[] #[.pointer (some ⟨q + 1, 0, none⟩), .pointer (some ⟨q + 2, 0, none⟩), .pointer (some ⟨q + 3, 0, none⟩), .pointer (some ⟨q, 0, none⟩)]
theorem ItAt.below {q : Nat} {a : Option Addr} {n cap : Nat} {i : Int} {ad : Option Addr} {nv cv : Nat} {au : Option Addr} {nu cu : Nat} {w w' : World} (h : ItAt q a n cap i ad nv cv au nu cu w) (hb : Below w.heap.size w w') : ItAt q a n cap i ad nv cv au nu cu w' :=
  ⟨h.1.below hb, h.2.1.below hb, h.2.2.1.below hb, h.2.2.2.below hb⟩
theorem impl_tasksof (w : World) (a : Option Addr) (n cap : Nat) (i : Int) (ad : Option Addr) (nv cv : Nat) (au : Option Addr) (nu cu : Nat) :
    Calls Tryz.prog 84 #[.agg #[.slice a n cap], .int .i64 i, .slice ad nv cv, .slice au nu cu] w
      (fun e w' => ∃ q, e = .returned (itF q) ∧ w.heap.size ≤ q ∧ ItAt q a n cap i ad nv cv au nu cu w' ∧ Below w.heap.size w w') := by
  obtain ⟨W, hW⟩ : ∃ W, (((w.alloc (.cells #[.slice a n cap] 26)).alloc (.cells #[.int .i64 i] 3)).alloc (.cells #[.slice ad nv cv] 28)).alloc (.cells #[.slice au nu cu] 57) = W := ⟨_, rfl⟩
  have hBW : Below w.heap.size w W := by rw [← hW]; exact below_then (below_then (below_then (below_new w _) (below_new _ _)) (below_new _ _)) (below_new _ _)
  have hit : ItAt w.heap.size a n cap i ad nv cv au nu cu W := by
    rw [← hW]
    refine ⟨(((Box.new w _ _).alloc _).alloc _).alloc _, ?_, ?_, ?_⟩
    · have h9 := Box.new (w.alloc (.cells #[.slice a n cap] 26)) #[.int .i64 i] 3
      rw [World.size_alloc] at h9
      exact (h9.alloc _).alloc _
    · have h9 := Box.new ((w.alloc (.cells #[.slice a n cap] 26)).alloc (.cells #[.int .i64 i] 3)) #[.slice ad nv cv] 28
      rw [World.size_alloc, World.size_alloc] at h9
      exact h9.alloc _
    · have h9 := Box.new (((w.alloc (.cells #[.slice a n cap] 26)).alloc (.cells #[.int .i64 i] 3)).alloc (.cells #[.slice ad nv cv] 28)) #[.slice au nu cu] 57
      rw [World.size_alloc, World.size_alloc, World.size_alloc] at h9
      exact h9
  have H0 := Lib.hid (And.intro hit hBW)
  have HW := Lib.hid hW
  clear hit hBW hW
  have hmf : ∀ (fn : Fn) (first cap : Array Value) (w : World), (Instr.makeFunc fn first cap).run Tryz.prog w = .ok (.func fn first cap) w := fun _ _ _ _ => rfl
  go_enter Tryz.func84, Tryz.ntmps84
  go_wp2
  rw [HW.out]
  go_ret
  exact ⟨w.heap.size, rfl, Nat.le_refl _, H0.out.1, H0.out.2⟩
/-- The world between two rounds. -/
def LoopAt (w0 : World) (p : Addr) (q : Nat) (P : List Tk) (V : List Int) (i : Int) (J : List Yl → World → Prop) (a : Option Addr) (n cap : Nat) (ad : Option Addr) (nv cv : Nat) (au : Option Addr) (nu cu : Nat) (pre : List Yl) (an : Option Addr) (nn : Nat) (w : World) : Prop :=
  Sound P (lastV V pre) (lastT i pre) ∧ J pre w ∧ Below w0.heap.size w0 w ∧ ItAt q a n cap i ad nv cv au nu cu w ∧ Row w an nn (lastV V pre) ∧
    (∃ v, w.cell? p = some v ∧ ∀ b, v.ownBlock = some b → b < w.heap.size ∧ w0.heap.size ≤ b ∧ (b < q ∨ q + 3 < b) ∧ ∀ g off, an = some ⟨g, off, none⟩ → b ≠ g) ∧
    ∀ g off, an = some ⟨g, off, none⟩ → g ≠ p.block
theorem LoopAt.on {w0 : World} {p : Addr} {q : Nat} {P : List Tk} {V : List Int} {i : Int} {J : List Yl → World → Prop} {a : Option Addr} {n cap : Nat} {ad : Option Addr} {nv cv : Nat} {au : Option Addr} {nu cu : Nat} {pre : List Yl} {an : Option Addr} {nn : Nat} {w w' : World}
    (h : LoopAt w0 p q P V i J a n cap ad nv cv au nu cu pre an nn w) (hJ : ∀ pre A B, J pre A → Below A.heap.size A B → J pre B) (hb : Below w.heap.size w w') : LoopAt w0 p q P V i J a n cap ad nv cv au nu cu pre an nn w' := by
  obtain ⟨h1, h2, h3, h4, h5, ⟨v, hv, h6⟩, h7⟩ := h
  exact ⟨h1, hJ _ _ _ h2 hb, below_then h3 hb, h4.below hb, h5.below hb, ⟨v, (hb.cell (p := p) (World.block_lt_of_cell? w p hv)).trans hv, fun b e => by have := h6 b e; exact ⟨Nat.lt_of_lt_of_le this.1 hb.size, this.2⟩⟩, h7⟩
set_option maxHeartbeats 8000000 in
set_option maxRecDepth 100000 in
theorem impl_iter (w0 : World) (a : Option Addr) (n cap : Nat) (P : List Tk) (hz : Sizes P) (hcap : n ≤ cap) (hP : TkRow w0 a n P) (ad : Option Addr) (nv cv : Nat) (V : List Int) (hvc : nv ≤ cv) (hV : Row w0 ad nv V) (au : Option Addr) (nu cu : Nat) (UU : List (List Int)) (hsz : SSizes UU) (hU : SRow w0 au nu UU)
    (i : Int) (hok : RefOk P V UU i) (p : Addr) (q : Nat) (hp : w0.heap.size ≤ p.block ∧ p.block < q) (l : Nat) (J : List Yl → World → Prop) (W : World) (hB : Below w0.heap.size w0 W) (hit : ItAt q a n cap i ad nv cv au nu cu W)
    (hs : ∃ v, W.cell? p = some v ∧ ∀ b, v.ownBlock = some b → w0.heap.size ≤ b ∧ b < q)
    (hJ : ∀ pre A B, J pre A → Below A.heap.size A B → J pre B)
    (hY : ∀ pre x W1, J pre W1 → Yields w0.heap.size p P V i UU pre x W1 → YieldAt Fence.wide 0 Tryz.prog l x.vs W1 fun e W' => e = .returned (.bool true) ∧ J (pre ++ [x]) W' ∧ KeptBut w0.heap.size p W1 W') (h0 : J [] W) :
    Calls Tryz.prog 123 #[.func (.yield l) #[] #[], .pointer (some ⟨q + 1, 0, none⟩), .pointer (some ⟨q + 2, 0, none⟩), .pointer (some ⟨q + 3, 0, none⟩), .pointer (some ⟨q, 0, none⟩)] W
      fun e W' => (∃ v, e = .returned v) ∧ ∃ xs : List Yl, xs.length = UU.length ∧ J xs W' := by
  refine (callsIn_wide (n := 0)).1 ?_
  have hul := hU.1
  have hnu : (nu : Int) ≤ 1048576 := by have := hsz.1; omega
  have c1 := hit.2.1.cell 0
  have c2 := hit.2.2.1.cell 0
  have c3 := hit.2.2.2.cell 0
  have HL0 := Lib.hid (show LoopAt w0 p q P V i J a n cap ad nv cv au nu cu [] ad nv W by
    obtain ⟨v, hv, hvb⟩ := hs
    have hr0 : ∀ g off, ad = some ⟨g, off, none⟩ → g < w0.heap.size := fun g off e => by
      have h8 := ((varsOk_iff V).1 hok.1.2.1).1
      obtain ⟨b, off', x, e', hlt, _⟩ := hV.2 0 (by have := hV.1; omega)
      rw [e] at e'; cases e'; exact hlt
    refine ⟨hok.1, h0, hB, hit, hV.below hB, ⟨v, hv, fun b hb => ?_⟩, fun g off e => ?_⟩
    · have h1 := hvb b hb
      have h2 := hit.1.lt
      refine ⟨by omega, h1.1, .inl h1.2, fun g off e => ?_⟩
      have := hr0 g off e; omega
    · have := hr0 g off e; omega)
  have HZ := Lib.hid (And.intro hz (And.intro hsz (And.intro hP (And.intro hU hok))))
  have HJ := Lib.hid (And.intro hJ hY)
  clear hz hP hV hU hok hB hit hs hJ hY h0
  refine callsIn_of_wp Tryz.func123 rfl trivial ?_ rfl
  simp only [Tryz.ntmps123, List.size_toArray, List.length_cons, List.length_nil, Nat.reduceAdd, Nat.reduceSub, Array.replicate_succ, Array.replicate_zero, List.push_toArray, List.append_toArray, List.nil_append, List.cons_append]
  gi_wp2
  gi_region
  gi_wp2
  gi_loopw [6, 7, 16] (fun nx nw ix wr => ∃ (pre : List Yl) (k : Nat) (an : Option Addr) (nn cn : Nat), k ≤ nu ∧ pre.length = k ∧ nx = .int .i64 (lastT i pre) ∧ nw = .slice an nn cn ∧ nn ≤ cn ∧ ix = .int .i64 k ∧ Hid (LoopAt w0 p q P V i J a n cap ad nv cv au nu cu pre an nn wr)) (fun _ _ i _ => nu - (intOf i).toNat)
  case atStart => exact ⟨[], 0, ad, nv, cv, Nat.zero_le _, rfl, rfl, rfl, hvc, rfl, HL0.out.on HJ.out.1 (Below.drew (Below.refl _ W))⟩
  case round =>
    obtain ⟨pre, k, an, nn, cn, hk, hpk, rfl, rfl, hnc, rfl, HL⟩ := hrel
    by_cases hlt : k < nu
    · have hI : (k : Int) < nu := by omega
      have hl := HL.out
      obtain ⟨b, off, L, ab, nb, cb, rfl, hlb, hL, hc, hle, hrow⟩ := (HZ.out.2.2.2.1.below hl.2.2.1).2 k hlt
      have hnb : (nb : Int) ≤ 1048576 := by have := HZ.out.2.1.2 L (mem_atS hL); rw [hrow.1] at this; omega
      have hnn : (nn : Int) ≤ 1048576 := by
        have h8 := ((varsOk_iff (lastV V pre)).1 hl.1.2.1).1
        have h9 := hl.2.2.2.2.1.1
        omega
      obtain ⟨E, hE, hSE, _⟩ := hl.1.step (HZ.out.2.2.2.2.2.2 L (mem_atS hL))
      have HTE := Lib.hid (impl_taskeffect a n cap P HZ.out.1 hcap wr (HZ.out.2.2.1.below hl.2.2.1) an nn cn (lastV V pre) hnn hnc hl.2.2.2.2.1 ab nb cb L hnb hle hrow (lastT i pre) true E hE)
      have HE := Lib.hid (And.intro hE (And.intro hSE hL))
      have c4 := hl.2.2.2.1.1.cell 0
      clear hE hSE hL hrow hle hl
      gi_wp2_with (refine ⟨trivial, rfl, ?_⟩; gi_at_call 16; (with_reducible refine (calls_in wide_wide HTE.out).mono ?_); rintro e w2 ⟨a1, n1, k1, a2, n2, k2, rfl, hm, hb2⟩; refine Hid.out ?_)
      have HM := Lib.hid (And.intro hm hb2)
      have HX := Lib.hid (Box.new w2 zero4E 37)
      clear hm hb2
      refine Lib.hid ?_
      gi_wp2_with ((refine listIn_store_box wide_wide rfl 37 _ _ rfl w2.heap.size _ _ HX.out #[.slice a1 n1 k1, .slice a2 n2 k2, .int .i64 E.N, .int .i64 E.U] rfl rfl rfl (by kernel_rfl) (by simp [Value.oneCell']) ?_); intro w5 hx5 hg5; refine Hid.out ?_)
      have hb5 : Below w2.heap.size w2 w5 := (below_new w2 _).grown hg5 (below_new w2 _).size (fun k hk => by cases hk; exact Nat.le_refl _)
      have hbw : Below wr.heap.size wr w5 := below_then HM.out.2 hb5
      have hl := HL.out
      obtain ⟨v, hv, hvb⟩ := hl.2.2.2.2.2.1
      have hv5 : w5.cell? p = some v := (hbw.cell (p := p) (World.block_lt_of_cell? wr p hv)).trans hv
      have hpl : p.block < wr.heap.size := World.block_lt_of_cell? wr p hv
      have hm5 : EffMem wr.heap.size a1 n1 k1 a2 n2 k2 E w5 := EffMem.below HM.out.1 hb5
      have hYl : Yields w0.heap.size p P V i UU pre ⟨lastT i pre, a1, n1, k1, a2, n2, k2, E⟩ w5 := by
        refine ⟨⟨L, by rw [hpk]; exact HE.out.2.2, rfl, HE.out.1⟩, EffMem.mono hm5 hl.2.2.1.size, fun b hb => ?_⟩
        have hbl : wr.heap.size ≤ b := by
          rcases hb with hb | hb
          · exact (hm5.1.lt _ hb).1
          · exact (hm5.2.1.lt _ hb).1
        refine ⟨by omega, fun v9 hv9 e => ?_⟩
        rw [hv5] at hv9
        obtain rfl := Option.some.inj hv9
        have := (hvb b e).1; omega
      obtain ⟨fn, tm, asg, bdy, hy, hR⟩ := HJ.out.2 pre _ w5 (HJ.out.1 _ _ _ hl.2.1 hbw) hYl
      have HR := Lib.hid hR
      have H5 := Lib.hid (And.intro hx5 (And.intro hbw hm5))
      dsimp only [Yl.vs, effV] at hy
      clear hx5 hg5 hb5 hbw hl hv hvb hv5 hpl hm5 hYl hR
      refine Lib.hid ?_
      gi_wp2_with (refine listIn_load_row wide_wide rfl 37 _ rfl w2.heap.size rfl _ _ _ _ H5.out.1 Tryz.underlying37 rfl (by kernel_rfl) ?_)
      refine ⟨rfl, ?_⟩
      refine HR.out.mono ?_
      rintro e W3 ⟨rfl, hJ3, hk3⟩
      refine Hid.out ?_
      have hl := HL.out
      obtain ⟨v, hv, hvb⟩ := hl.2.2.2.2.2.1
      have hv5 : w5.cell? p = some v := (H5.out.2.1.cell (p := p) (World.block_lt_of_cell? wr p hv)).trans hv
      have hpl : p.block < wr.heap.size := World.block_lt_of_cell? wr p hv
      obtain ⟨⟨v', hv', hv1, hv2⟩, hkeep⟩ := hk3.2 v hv5
      have hw2 : wr.heap.size ≤ w2.heap.size := HM.out.2.size
      have hnew : ∀ g, wr.heap.size ≤ g → g ≠ p.block ∧ v.ownBlock ≠ some g := fun g hg => ⟨by omega, fun e => by have := (hvb g e).1; omega⟩
      have hbx : Box w2.heap.size #[.slice a1 n1 k1, .slice a2 n2 k2, .int .i64 E.N, .int .i64 E.U] 37 W3 :=
        hkeep _ _ _ _ H5.out.1 (hnew _ hw2).1 (hnew _ hw2).2
      have hi5 : ItAt q a n cap i ad nv cv (some ⟨b, off, none⟩) nu cu w5 := hl.2.2.2.1.below H5.out.2.1
      have hit : ∀ j cs t, j ≤ 3 → Box (q + j) cs t w5 → Box (q + j) cs t W3 := fun j cs t hj hx => hkeep _ _ _ _ hx (by omega) (fun e => by have := (hvb _ e).2.2.1; omega)
      have hq5 := hi5.2.2.2.lt
      have ha1 : ∀ g off, a1 = some ⟨g, off, none⟩ → wr.heap.size ≤ g ∧ g < w5.heap.size := fun g off e => by
        have := H5.out.2.2.1.lt g (by rw [e]; rfl)
        exact this
      have hL2 : LoopAt w0 p q P V i J a n cap ad nv cv (some ⟨b, off, none⟩) nu cu (pre ++ [⟨lastT i pre, a1, n1, k1, a2, n2, k2, E⟩]) a1 n1 W3 := by
        refine ⟨by rw [lastV_snoc, lastT_snoc]; exact HE.out.2.1, hJ3, (hl.2.2.1.trans (H5.out.2.1.mono hl.2.2.1.size)).trans hk3.1, ⟨hit 0 _ _ (by omega) hi5.1, hit 1 _ _ (by omega) hi5.2.1, hit 2 _ _ (by omega) hi5.2.2.1, hit 3 _ _ (by omega) hi5.2.2.2⟩, ?_, ⟨v', hv', fun g hg => ?_⟩, fun g off e => (hnew g (ha1 g off e).1).1⟩
        · rw [lastV_snoc]
          exact row_kept (Row.of_own H5.out.2.2.1) hk3.1.size (fun g off cs t fr e hg => hkeep g cs t fr hg (hnew g (ha1 g off e).1).1 (hnew g (ha1 g off e).1).2)
        · have h9 := hv2 (fun g e => Nat.lt_of_lt_of_le (hvb g e).1 H5.out.2.1.size) g hg
          rcases hv1 g hg with e | e
          · have h8 := hvb g e
            exact ⟨h9, h8.2.1, h8.2.2.1, fun g' off e' => by have := ha1 g' off e'; omega⟩
          · have h7 := hl.2.2.1.size
            have h6 := H5.out.2.1.size
            exact ⟨h9, by omega, .inr (by omega), fun g' off e' => by have := ha1 g' off e'; omega⟩
      have d0 : W3.cell? ⟨w2.heap.size, 0, none⟩ = some (.slice a1 n1 k1) := hbx.cell 0
      have d2 : W3.cell? ⟨w2.heap.size, 2, none⟩ = some (.int .i64 E.N) := hbx.cell 2
      have hc1 : n1 ≤ k1 := own_capR H5.out.2.2.1
      have HL2 := Lib.hid (hL2.on HJ.out.1 (Below.drew (Below.refl _ W3)))
      clear hJ3 hk3 hl hv hvb hv5 hpl hv' hv1 hv2 hkeep hnew hbx hi5 hit hq5 ha1 hL2
      refine Lib.hid ?_
      gi_wp2
      gi_region
      gi_wp2
      go_roundw
      case rel => exact ⟨pre ++ [⟨lastT i pre, a1, n1, k1, a2, n2, k2, E⟩], k + 1, a1, n1, k1, by omega, by simp [hpk], by rw [lastT_snoc], rfl, hc1, by go_num, HL2⟩
      case measure => simp [intOf]; omega
    · obtain rfl : k = nu := by omega
      have hI : ¬ (k : Int) < k := by omega
      gi_wp2
      go_end0
      exact ⟨⟨_, rfl⟩, pre, by omega, HL.out.2.1⟩
end Go.Proofs.YtekdnhhmiabngaaGreat.ref
