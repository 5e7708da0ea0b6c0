/- Several texts in one: VCstT VTrcP VSetH. -/
import Derived.Test.YtmgeecdgebemdaaGreatDoorRows
import Derived.Test.YtmgeecdgebemdaaGreatDoorGSigV7
import Derived.Test.YtmgeecdgebemdaaGreatDoorGSigV12
import Derived.Test.YtmgeecdgebemdaaGreatDoorGSigV2
import Derived.OpenShut
import Derived.ChangeSame
import Derived.Deep.Strs
import Derived.Laws.Rows
import Derived.KernelRfl
import Derived.Test.YtmgeecdgebemdaaGreatDoorGSigV21
import Derived.Test.YtmgeecdgebemdaaGreatDoorGSigV22
import Derived.Test.YtmgeecdgebemdaaGreatDoorGSigV19

/- Costs: what the program's table of costs holds, from what the card lists; the program's StmtCost over it, and the model's. -/
namespace Go.Proofs.YtmgeecdgebemdaaGreatDoor.cst
open Go Go.ChangeShapes Go.WideShapes Go.ChangeAt Go.RowKit Go.Deep Go.Proofs.YtmgeecdgebemdaaGreatDoor.row Go.Proofs.YtmgeecdgebemdaaGreatDoor.val Go.Proofs.YtmgeecdgebemdaaGreatDoor.stm Go.Proofs.YtmgeecdgebemdaaGreatDoor.expr
section table
variable {H : Type} {enc : TypeId × Value → H} {w : World} {base : Nat} {sp : Nat → Bool} {held : Bool} {fuel : Nat} {cs : List Value} {p : List MemPlace}
theorem cellsI : Tryz.prog.cellsOf 3 = 1 := by kernel_rfl
theorem cellsE : Tryz.prog.cellsOf 94 = 3 := by kernel_rfl
theorem cellsS : Tryz.prog.cellsOf 112 = 6 := by kernel_rfl
theorem cellsR : Tryz.prog.cellsOf 168 = 7 := by kernel_rfl
theorem cellsT : Tryz.prog.cellsOf 169 = 35 := by kernel_rfl
theorem int1 {z : Int} (h : DataW.trod enc Tryz.prog w base sp held fuel 3 cs = some (.lit (.int .i64 z), p)) : cs = [.int .i64 z] := by
  obtain ⟨z', hc, he, _⟩ := DataW.trod_int Tryz.underlying3 h
  have := (Prod.mk.inj he).1
  simp only [DataW.lit.injEq, Lit.int.injEq, true_and] at this
  subst this
  exact hc
set_option maxRecDepth 100000 in
theorem expr3 {a b c : Int} (h : DataW.trod enc Tryz.prog w base sp held fuel 94 cs = some (.agg [.lit (.int .i64 a), .lit (.int .i64 b), .lit (.int .i64 c)], p)) :
    cs = [.int .i64 a, .int .i64 b, .int .i64 c] := by
  obtain ⟨⟨d0, p0⟩, ⟨d1, p1⟩, ⟨d2, p2⟩, n, he, hl, h0, h1, h2⟩ := trod_struct3 Tryz.underlying94 h
  rw [cellsE] at hl
  have e := (Prod.mk.inj he).1
  simp only [DataW.agg.injEq, List.cons.injEq, and_true] at e
  obtain ⟨e0, e1, e2⟩ := e
  subst e0 e1 e2
  match cs, hl with
  | [c0, c1, c2], _ =>
    have k0 := int1 h0
    have k1 := int1 h1
    have k2 := int1 h2
    rw [cellsI] at k0 k1 k2
    simp at k0 k1 k2
    rw [k0, k1, k2]
set_option maxRecDepth 100000 in
theorem stmt6 {k x m a b c : Int} (h : DataW.trod enc Tryz.prog w base sp held fuel 112 cs = some (.agg [.lit (.int .i64 k), .lit (.int .i64 x), .lit (.int .i64 m), .agg [.lit (.int .i64 a), .lit (.int .i64 b), .lit (.int .i64 c)]], p)) :
    cs = [.int .i64 k, .int .i64 x, .int .i64 m, .int .i64 a, .int .i64 b, .int .i64 c] := by
  obtain ⟨xs, n, _, he, hl, hlen, hf⟩ := DataW.trod_struct Tryz.underlying112 h
  rw [cellsS] at hl
  match xs, hlen with
  | [⟨d0, p0⟩, ⟨d1, p1⟩, ⟨d2, p2⟩, ⟨d3, p3⟩], _ =>
    have e := (Prod.mk.inj he).1
    simp only [DataW.agg.injEq, List.map_cons, List.map_nil, List.cons.injEq, and_true] at e
    obtain ⟨e0, e1, e2, e3⟩ := e
    subst e0 e1 e2 e3
    match cs, hl with
    | [c0, c1, c2, c3, c4, c5], _ =>
      have k0 := int1 (hf 0 _ rfl)
      have k1 := int1 (hf 1 _ rfl)
      have k2 := int1 (hf 2 _ rfl)
      have k3 := expr3 (hf 3 _ rfl)
      change List.take (Tryz.prog.cellsOf 3) (List.drop 0 [c0, c1, c2, c3, c4, c5]) = _ at k0
      change List.take (Tryz.prog.cellsOf 3) (List.drop 1 [c0, c1, c2, c3, c4, c5]) = _ at k1
      change List.take (Tryz.prog.cellsOf 3) (List.drop 2 [c0, c1, c2, c3, c4, c5]) = _ at k2
      change List.take (Tryz.prog.cellsOf 94) (List.drop 3 [c0, c1, c2, c3, c4, c5]) = _ at k3
      rw [cellsI] at k0 k1 k2
      rw [cellsE] at k3
      simp at k0 k1 k2 k3
      obtain ⟨k3, k4, k5⟩ := k3
      rw [k0, k1, k2, k3, k4, k5]
set_option maxRecDepth 100000 in
theorem row7 {k r : Int} (h : DataW.trod enc Tryz.prog w base sp held fuel 168 cs = some (.agg [.agg [.lit (.int .i64 k), .lit (.int .i64 0), .lit (.int .i64 0), .agg [.lit (.int .i64 0), .lit (.int .i64 0), .lit (.int .i64 0)]], .lit (.int .i64 r)], p)) :
    cs = [.int .i64 k, .int .i64 0, .int .i64 0, .int .i64 0, .int .i64 0, .int .i64 0, .int .i64 r] := by
  obtain ⟨⟨d0, p0⟩, ⟨d1, p1⟩, n, he, hl, h0, h1⟩ := trod_struct2 Tryz.underlying168 h
  rw [cellsR] at hl
  have e := (Prod.mk.inj he).1
  simp only [DataW.agg.injEq, List.cons.injEq, and_true] at e
  obtain ⟨e0, e1⟩ := e
  subst e0 e1
  match cs, hl with
  | [c0, c1, c2, c3, c4, c5, c6], _ =>
    have k0 := stmt6 h0
    have k1 := int1 h1
    rw [cellsS] at k0
    rw [cellsI] at k1
    simp at k0 k1
    obtain ⟨k0, k2, k3, k4, k5, k6⟩ := k0
    rw [k0, k1, k2, k3, k4, k5, k6]
end table
/-- The table's cells: the statement of which only the kind is left, and its cost, five times. -/
def costCells : List Value := [.int .i64 1, .int .i64 0, .int .i64 0, .int .i64 0, .int .i64 0, .int .i64 0, .int .i64 2,
  .int .i64 2, .int .i64 0, .int .i64 0, .int .i64 0, .int .i64 0, .int .i64 0, .int .i64 5,
  .int .i64 3, .int .i64 0, .int .i64 0, .int .i64 0, .int .i64 0, .int .i64 0, .int .i64 4,
  .int .i64 4, .int .i64 0, .int .i64 0, .int .i64 0, .int .i64 0, .int .i64 0, .int .i64 1,
  .int .i64 5, .int .i64 0, .int .i64 0, .int .i64 0, .int .i64 0, .int .i64 0, .int .i64 1]
theorem drop_seg {cs a : List Value} {k : Nat} (h : (cs.drop (k * 7)).take 7 = a) : cs.drop (k * 7) = a ++ cs.drop ((k + 1) * 7) := by
  rw [← h, show (k + 1) * 7 = k * 7 + 7 by omega, ← List.drop_drop, List.take_append_drop]
theorem gTab : Tryz.prog.globalNamed "loop.example/g00983/impl.stmtCosts" = some 0 := by kernel_rfl
theorem tTab : (Tryz.prog.globals[0]?).map (·.type) = some 169 := by kernel_rfl
/-- The block of the table. -/
def CostTab (w : World) : Prop := ∃ t fr, w.heap[(0 : Nat)]? = some (.cells costCells.toArray t fr)
set_option maxRecDepth 100000 in
theorem costs_of {W : World} {r : List (String × DataW Unit)} (h : laidMet Tryz.prog (("loop.example/g00983/impl.stmtCosts", Rows.laid_loop_example_g00983_impl_stmtCosts) :: r) W) : CostTab W := by
  obtain ⟨ps, ⟨g, t, cs, fuel, p, q, hg, ht, hv, hd, _, _⟩, _⟩ := h
  obtain rfl := Option.some.inj (gTab.symm.trans hg)
  obtain rfl := Option.some.inj (tTab.symm.trans ht)
  have hcs : cs.toList = costCells := by
    obtain ⟨xs, m, _, ex, hlen, hl, hel⟩ := DataW.trod_array Tryz.underlying169 hd
    rw [cellsT] at hlen
    match xs, hl with
    | [⟨d0, p0⟩, ⟨d1, p1⟩, ⟨d2, p2⟩, ⟨d3, p3⟩, ⟨d4, p4⟩], _ =>
      have e := (Prod.mk.inj ex).1
      simp only [Rows.laid_loop_example_g00983_impl_stmtCosts, DataW.agg.injEq, List.map_cons, List.map_nil, List.cons.injEq, and_true] at e
      obtain ⟨e0, e1, e2, e3, e4⟩ := e
      subst e0 e1 e2 e3 e4
      have k0 := hel 0 (by omega)
      have k1 := hel 1 (by omega)
      have k2 := hel 2 (by omega)
      have k3 := hel 3 (by omega)
      have k4 := hel 4 (by omega)
      rw [cellsR] at k0 k1 k2 k3 k4
      have s0 := drop_seg (row7 k0)
      have s1 := drop_seg (row7 k1)
      have s2 := drop_seg (row7 k2)
      have s3 := drop_seg (row7 k3)
      have s4 := drop_seg (row7 k4)
      have s5 : cs.toList.drop (5 * 7) = [] := List.drop_eq_nil_of_le (by omega)
      rw [show cs.toList = cs.toList.drop (0 * 7) by simp, s0, s1, s2, s3, s4, s5]
      rfl
  unfold World.var? at hv
  rw [gTab] at hv
  simp only [Option.bind_some] at hv
  split at hv
  · rename_i c2 t2 f2 hh
    have : c2 = cs := Option.some.inj hv
    refine ⟨t2, f2, ?_⟩
    rw [hh, this, ← hcs, Array.toArray_toList]
  · cases hv
/-- What a statement of this kind costs. -/
def kindC (k : Int) : Int := if k = 1 then 2 else if k = 2 then 5 else if k = 3 then 4 else if k = 4 then 1 else if k = 5 then 1 else 0
/-- What a statement costs: nothing where it is not valid. -/
def costF (s : St) : Int := if stOk s = true then kindC s.k else 0
theorem CostTab.below {w w' : World} (h : CostTab w) (hb : Below w.heap.size w w') : CostTab w' := by
  obtain ⟨t, fr, h⟩ := h
  exact ⟨t, fr, (hb.block _ (Array.getElem?_eq_some_iff.1 h).1).trans h⟩
theorem idx_any (j : Int) (h0 : 0 ≤ j) (h5 : j < 5) (w : World) : (Instr.index 169 (.agg costCells.toArray) (.int .i64 j)).run Tryz.prog w = .ok (.agg #[.int .i64 (j + 1), .int .i64 0, .int .i64 0, .int .i64 0, .int .i64 0, .int .i64 0, .int .i64 (kindC (j + 1))]) w := by
  rcases (show j = 0 ∨ j = 1 ∨ j = 2 ∨ j = 3 ∨ j = 4 by omega) with rfl | rfl | rfl | rfl | rfl <;> kernel_rfl
theorem eqKey (a b : Int) : eqSt ⟨a, 0, 0, 0, 0, 0⟩ ⟨b, 0, 0, 0, 0, 0⟩ = decide (a = b) := by
  rw [Bool.eq_iff_iff]; simp [eqSt]
theorem kindC_none {k j : Int} (hj : j = 5) (h : ¬ (1 ≤ k ∧ k ≤ j)) : kindC k = 0 := by
  unfold kindC
  rw [if_neg (by omega), if_neg (by omega), if_neg (by omega), if_neg (by omega), if_neg (by omega)]
set_option maxHeartbeats 8000000 in
set_option maxRecDepth 100000 in
theorem impl_stmtcost (s : St) (w : World) (hT : CostTab w) : Calls Tryz.prog 82 #[stV s] w (BelI w (costF s)) := by
  cases hs : stOk s
  · have HS := Lib.hid hs
    have HV := Lib.hid (show costF s = 0 by unfold costF; rw [hs]; rfl)
    clear hs
    go_enter Tryz.func82, Tryz.ntmps82
    go_wp2_with (go_at_call 141; (with_reducible refine (impl_stmtok s false HS.out _).mono ?_); rintro e w1 ⟨rfl, hb1⟩)
    have HB := Lib.hid (below_then (below_new w _) hb1)
    clear hb1
    go_wp2
    go_ret
    exact ⟨ret_int HV.out.symm, HB.out⟩
  · have HS := Lib.hid hs
    have HV := Lib.hid (show costF s = kindC s.k by unfold costF; rw [hs]; rfl)
    clear hs
    obtain ⟨k, v, n, o, a, b⟩ := s
    have hx := Box.new w #[.int .i64 k, .int .i64 v, .int .i64 n, .int .i64 o, .int .i64 a, .int .i64 b] 112
    go_enter Tryz.func82, Tryz.ntmps82
    go_wp2_with (go_at_call 141; (with_reducible refine (impl_stmtok ⟨k, v, n, o, a, b⟩ true HS.out _).mono ?_); rintro e w1 ⟨rfl, hb1⟩; refine Hid.out ?_)
    have H1 := Lib.hid (And.intro (hx.below hb1) (And.intro (below_then (below_new w _) hb1) ((hT.below (below_new w _)).below hb1)))
    clear hb1 hx hT
    have c0 : w1.cell? ⟨w.heap.size, 0, none⟩ = some (.int .i64 k) := H1.out.1.cell 0
    have hl1 : w.heap.size < w1.heap.size := H1.out.1.lt
    obtain ⟨W1, hW1⟩ : ∃ W1, w1.alloc (.cells #[.int .i64 0, .int .i64 0, .int .i64 0, .int .i64 0, .int .i64 0, .int .i64 0] 112) = W1 := ⟨_, rfl⟩
    have HBN := Lib.hid (show Below w1.heap.size w1 W1 by rw [← hW1]; exact below_new _ _)
    have HZ := Lib.hid (show Box w1.heap.size #[.int .i64 0, .int .i64 0, .int .i64 0, .int .i64 0, .int .i64 0, .int .i64 0] 112 W1 by rw [← hW1]; exact Box.new _ _ _)
    refine Lib.hid ?_
    go_wp2_with ((refine wpList_store_box rfl 112 _ _ rfl w1.heap.size _ _ HZ.out #[.int .i64 k, .int .i64 0, .int .i64 0, .int .i64 0, .int .i64 0, .int .i64 0] rfl rfl rfl (by kernel_rfl) (by simp [Value.oneCell']) ?_); intro w2 hx2 hg2; refine Hid.out ?_)
    have hb2 : Below w1.heap.size w1 w2 := HBN.out.grown hg2 HBN.out.size (fun j hj => by cases hj; exact Nat.le_refl _)
    have H2 := Lib.hid (And.intro hx2 (And.intro (below_then H1.out.2.1 hb2) (H1.out.2.2.below hb2)))
    clear hx2 hg2 hb2 c0 hW1
    obtain ⟨tt, fr, hTab⟩ := H2.out.2.2
    have HT := Lib.hid hTab
    clear hTab
    refine Lib.hid ?_
    go_wp2_with (refine wpList_load_row rfl 169 _ rfl 0 rfl _ _ _ _ HT.out Tryz.underlying169 rfl (by kernel_rfl) ?_)
    go_loopw [13] (fun i wr => ∃ (j : Int), 0 ≤ j ∧ j ≤ 5 ∧ i = .int .i64 j ∧ ¬ (1 ≤ k ∧ k ≤ j) ∧ Hid (Below w2.heap.size w2 wr)) (fun i _ => (5 - Go.RowKit.intOf i).toNat)
    case atStart => exact ⟨0, by omega, by omega, rfl, by omega, Below.refl _ _⟩
    case round =>
      obtain ⟨j, hj0, hj5, rfl, hkj, HR⟩ := hrel
      by_cases hlt : j < 5
      · have hidx := idx_any j hj0 hlt
        obtain ⟨W3, hW3⟩ : ∃ W3, wr.alloc (.cells #[.int .i64 0, .int .i64 0, .int .i64 0, .int .i64 0, .int .i64 0, .int .i64 0, .int .i64 0] 168) = W3 := ⟨_, rfl⟩
        have HBN3 := Lib.hid (show Below wr.heap.size wr W3 by rw [← hW3]; exact below_new _ _)
        have HZ3 := Lib.hid (show Box wr.heap.size #[.int .i64 0, .int .i64 0, .int .i64 0, .int .i64 0, .int .i64 0, .int .i64 0, .int .i64 0] 168 W3 by rw [← hW3]; exact Box.new _ _ _)
        go_wp2_with ((refine wpList_store_box rfl 168 _ _ rfl wr.heap.size _ _ HZ3.out #[.int .i64 (j + 1), .int .i64 0, .int .i64 0, .int .i64 0, .int .i64 0, .int .i64 0, .int .i64 (kindC (j + 1))] rfl rfl rfl (by kernel_rfl) (by simp [Value.oneCell']) ?_); intro w4 hx4 hg4; refine Hid.out ?_)
        have hb4 : Below wr.heap.size wr w4 := HBN3.out.grown hg4 HBN3.out.size (fun j hj => by cases hj; exact Nat.le_refl _)
        have H4 := Lib.hid (And.intro ((H2.out.1.below HR.out).below hb4) (And.intro (below_then HR.out hb4) hx4))
        have d0 : w4.cell? ⟨wr.heap.size, 0, none⟩ = some (.int .i64 (j + 1)) := hx4.cell 0
        have d1 : w4.cell? ⟨wr.heap.size, 1, none⟩ = some (.int .i64 0) := hx4.cell 1
        have d2 : w4.cell? ⟨wr.heap.size, 2, none⟩ = some (.int .i64 0) := hx4.cell 2
        have d3 : w4.cell? ⟨wr.heap.size, 3, none⟩ = some (.int .i64 0) := hx4.cell 3
        have d4 : w4.cell? ⟨wr.heap.size, 4, none⟩ = some (.int .i64 0) := hx4.cell 4
        have d5 : w4.cell? ⟨wr.heap.size, 5, none⟩ = some (.int .i64 0) := hx4.cell 5
        have d6 : w4.cell? ⟨wr.heap.size, 6, none⟩ = some (.int .i64 (kindC (j + 1))) := hx4.cell 6
        have hq := run_eqSt ⟨j + 1, 0, 0, 0, 0, 0⟩ ⟨k, 0, 0, 0, 0, 0⟩
        clear hb4 hx4 hg4 hW3
        by_cases hk : j + 1 = k
        · have hqb : eqSt ⟨j + 1, 0, 0, 0, 0, 0⟩ ⟨k, 0, 0, 0, 0, 0⟩ = true := by rw [eqKey]; simpa using hk
          have HK := Lib.hid hk
          clear hk
          refine Lib.hid ?_
          go_wp2_with (refine wpList_load_row rfl 112 _ rfl w1.heap.size rfl _ _ _ _ H4.out.1 Tryz.underlying112 rfl (by kernel_rfl) ?_)
          go_ret
          exact ⟨ret_int (show kindC (j + 1) = costF ⟨k, v, n, o, a, b⟩ by rw [HV.out, HK.out]), below_then H2.out.2.1 H4.out.2.1⟩
        · have hqb : eqSt ⟨j + 1, 0, 0, 0, 0, 0⟩ ⟨k, 0, 0, 0, 0, 0⟩ = false := by rw [eqKey]; simpa using hk
          refine Lib.hid ?_
          go_wp2_with (refine wpList_load_row rfl 112 _ rfl w1.heap.size rfl _ _ _ _ H4.out.1 Tryz.underlying112 rfl (by kernel_rfl) ?_)
          go_roundw
          case rel => exact ⟨j + 1, by omega, by omega, rfl, by omega, H4.out.2.1⟩
          case measure => simp [Go.RowKit.intOf]; omega
      · have HV0 := Lib.hid (show kindC k = 0 from kindC_none (by omega) hkj)
        go_wp2
        go_ret
        exact ⟨ret_int (show (0 : Int) = costF ⟨k, v, n, o, a, b⟩ by rw [HV.out, HV0.out]), below_then H2.out.2.1 HR.out⟩
end Go.Proofs.YtmgeecdgebemdaaGreatDoor.cst

/- What the program's TraceOf is to give: the shape of its contract. -/
namespace Go.Proofs.YtmgeecdgebemdaaGreatDoor.trc
open Go Go.ChangeShapes Go.WideShapes Go.ChangeAt Go.RowKit Go.Proofs.YtmgeecdgebemdaaGreatDoor.row Go.Proofs.YtmgeecdgebemdaaGreatDoor.val Go.Proofs.YtmgeecdgebemdaaGreatDoor.expr Go.Proofs.YtmgeecdgebemdaaGreatDoor.stm Go.Proofs.YtmgeecdgebemdaaGreatDoor.blk Go.Proofs.YtmgeecdgebemdaaGreatDoor.prg Go.Proofs.YtmgeecdgebemdaaGreatDoor.exe Go.Proofs.YtmgeecdgebemdaaGreatDoor.grow Go.Proofs.YtmgeecdgebemdaaGreatDoor.wrt
abbrev TrC : Prop := ∀ (a : Option Addr) (n cap : Nat) (P : List Tk) (_ : Sizes P) (_ : n ≤ cap) (w : World) (_ : TkRow w a n P) (am : Option Addr) (nm cm : Nat) (Mem : List Int) (_ : (nm : Int) ≤ 1048576) (_ : nm ≤ cm) (_ : Row w am nm Mem) (ar : Option Addr) (nr cr : Nat) (R : List Int) (_ : (nr : Int) ≤ 1048576) (_ : nr ≤ cr) (_ : Row w ar nr R)
    (z : Int) (r : Bool) (M : List Mic) (U : List Int) (_ : TraceIs P Mem R z r M U) (_ : i64r (Mem.getD 8 0)) (_ : Go.Proofs.YtmgeecdgebemdaaGreatDoor.cst.CostTab w), Calls Tryz.prog 29 #[.agg #[.slice a n cap], .slice am nm cm, .slice ar nr cr, .int .i64 z] w (NewTrB w r M U)
end Go.Proofs.YtmgeecdgebemdaaGreatDoor.trc

/- The sets that are open at a place of a block, by where each one ends. Plain mathematics. -/
namespace Go.Proofs.YtmgeecdgebemdaaGreatDoor.sets
open Go Go.Proofs.YtmgeecdgebemdaaGreatDoor.stm Go.Proofs.YtmgeecdgebemdaaGreatDoor.blk Go.Proofs.YtmgeecdgebemdaaGreatDoor.expr
/-- A set is open at 'p' that ends at 'q': the block's own, or that of a condition around the place. -/
def Opn (B : List Sm) (p q : Nat) : Prop := q = B.length ∨ ∃ i, InIf B i p ∧ IsEnd B i q
/-- What the set that ends at 'q' holds at 'p'. -/
def SAt (B : List Sm) (p q v : Nat) : Prop := ∃ j, j < p ∧ WrAt B j v ∧ ∀ i e s, B[i]? = some s → s.k = 4 → IsEnd B i e → i < j → j ≤ e → q ≤ e ∧ p ≤ e
theorem sAt_zero {B : List Sm} {q v : Nat} : ¬ SAt B 0 q v := fun ⟨j, h, _⟩ => by omega
theorem opn_zero {B : List Sm} {q : Nat} : Opn B 0 q ↔ q = B.length := by
  constructor
  · rintro (h | ⟨i, ⟨_, _, _, _, _, h, _⟩, _⟩)
    · exact h
    · omega
  · exact .inl
theorem opn_last {B : List Sm} {q : Nat} : Opn B B.length q ↔ q = B.length := by
  constructor
  · rintro (h | ⟨i, ⟨e, _, _, _, he, _, h⟩, _⟩)
    · exact h
    · have := he.2.1; omega
  · exact .inl
theorem Opn.le {B : List Sm} {p q : Nat} (h : Opn B p q) : q ≤ B.length := by
  rcases h with rfl | ⟨i, _, he⟩
  · exact Nat.le_refl _
  · exact Nat.le_of_lt he.2.1
theorem Opn.ge {B : List Sm} {p q : Nat} (h : Opn B p q) (hp : p ≤ B.length) : p ≤ q := by
  rcases h with rfl | ⟨i, ⟨e, _, _, _, he, _, h2⟩, he'⟩
  · exact hp
  · have := he.unique he'; omega
/-- The innermost set holds what is certainly written. -/
theorem sAt_min {B : List Sm} {p q v : Nat} (hq : ∀ q', Opn B p q' → q ≤ q') : SAt B p q v ↔ WAt B p v := by
  constructor
  · rintro ⟨j, hj, hw, h⟩
    refine ⟨j, hj, hw, fun i ⟨e, s, h1, h2, h3, h4, h5⟩ => ⟨e, s, h1, h2, h3, by omega, (h i e s h1 h2 h3 h4 h5).2⟩⟩
  · rintro ⟨j, hj, hw, h⟩
    refine ⟨j, hj, hw, fun i e s h1 h2 h3 h4 h5 => ?_⟩
    have hI : InIf B i p := h i ⟨e, s, h1, h2, h3, h4, h5⟩
    have hI2 := hI
    obtain ⟨e', s', g1, g2, g3, g4, g5⟩ := hI2
    obtain rfl := g3.unique h3
    exact ⟨hq _ (.inr ⟨i, hI, h3⟩), g5⟩
/-- Where nothing is written, the sets that stay open hold what they held. -/
theorem sAt_still {B : List Sm} {p q v : Nat} (hn : ∀ u, ¬ WrAt B p u) (hq : p + 1 ≤ q) : SAt B (p + 1) q v ↔ SAt B p q v := by
  constructor
  · rintro ⟨j, hj, hw, h⟩
    have : j ≠ p := fun e => hn v (e ▸ hw)
    refine ⟨j, by omega, hw, fun i e s h1 h2 h3 h4 h5 => ?_⟩
    have := h i e s h1 h2 h3 h4 h5
    exact ⟨this.1, by omega⟩
  · rintro ⟨j, hj, hw, h⟩
    refine ⟨j, by omega, hw, fun i e s h1 h2 h3 h4 h5 => ?_⟩
    have := h i e s h1 h2 h3 h4 h5
    exact ⟨this.1, by omega⟩
/-- What is written goes into the innermost set .. -/
theorem sAt_put {B : List Sm} {p q v : Nat} (hq : ∀ q', Opn B p q' → q ≤ q') (hp : p + 1 ≤ q) : SAt B (p + 1) q v ↔ SAt B p q v ∨ WrAt B p v := by
  constructor
  · rintro ⟨j, hj, hw, h⟩
    by_cases e : j = p
    · subst e; exact .inr hw
    · refine .inl ⟨j, by omega, hw, fun i e s h1 h2 h3 h4 h5 => ?_⟩
      have := h i e s h1 h2 h3 h4 h5
      exact ⟨this.1, by omega⟩
  · rintro (⟨j, hj, hw, h⟩ | hw)
    · refine ⟨j, by omega, hw, fun i e s h1 h2 h3 h4 h5 => ?_⟩
      have := h i e s h1 h2 h3 h4 h5
      exact ⟨this.1, by omega⟩
    · refine ⟨p, by omega, hw, fun i e s h1 h2 h3 h4 h5 => ?_⟩
      have := hq e (.inr ⟨i, ⟨e, s, h1, h2, h3, h4, h5⟩, h3⟩)
      exact ⟨this, by omega⟩
/-- .. and into no other. -/
theorem sAt_other {B : List Sm} {p q q' v : Nat} (ho : Opn B p q') (hlt : q' < q) (hb : q ≤ B.length) (hp : p + 1 ≤ q) : SAt B (p + 1) q v ↔ SAt B p q v := by
  constructor
  · rintro ⟨j, hj, hw, h⟩
    by_cases e : j = p
    · subst e
      exfalso
      rcases ho with rfl | ⟨i, ⟨e, s, h1, h2, h3, h4, h5⟩, h6⟩
      · omega
      · obtain rfl := h3.unique h6
        have := h i e s h1 h2 h3 h4 h5
        omega
    · refine ⟨j, by omega, hw, fun i e s h1 h2 h3 h4 h5 => ?_⟩
      have := h i e s h1 h2 h3 h4 h5
      exact ⟨this.1, by omega⟩
  · rintro ⟨j, hj, hw, h⟩
    refine ⟨j, by omega, hw, fun i e s h1 h2 h3 h4 h5 => ?_⟩
    have := h i e s h1 h2 h3 h4 h5
    exact ⟨this.1, by omega⟩
/-- At a condition the new set is what is certainly written. -/
theorem sAt_if {B : List Sm} {p e v : Nat} {s : Sm} (hs : B[p]? = some s) (h4 : s.k = 4) (he : IsEnd B p e) : SAt B (p + 1) e v ↔ WAt B p v := by
  constructor
  · rintro ⟨j, hj, hw, h⟩
    have hjp : j ≠ p := by
      rintro rfl
      obtain ⟨t, ht, hw2, _⟩ := hw
      rw [hs] at ht; cases ht
      rcases hw2 with h | h <;> omega
    refine ⟨j, by omega, hw, fun i ⟨e', t, h1, h2, h3, h5, h6⟩ => ?_⟩
    have := h i e' t h1 h2 h3 h5 h6
    exact ⟨e', t, h1, h2, h3, by omega, by omega⟩
  · rintro ⟨j, hj, hw, h⟩
    refine ⟨j, by omega, hw, fun i e' t h1 h2 h3 h5 h6 => ?_⟩
    obtain ⟨e2, t2, g1, g2, g3, g5, g6⟩ := h i ⟨e', t, h1, h2, h3, h5, h6⟩
    obtain rfl := g3.unique h3
    have := end_in he g3 g5 g6
    have := he.1
    exact ⟨by omega, by omega⟩
theorem six_not {B : List Sm} {i p : Nat} {s : Sm} (hs : B[p]? = some s) (h : s.k ≠ 6) : ¬ IsEnd B i p := fun he => by
  obtain ⟨t, ht, h6⟩ := he.kind
  rw [hs] at ht; cases ht; exact h h6
/-- No condition begins or ends: the open sets are the same. -/
theorem opn_same {B : List Sm} {p q : Nat} {s : Sm} (hs : B[p]? = some s) (h4 : s.k ≠ 4) (hn : ∀ i t, B[i]? = some t → t.k = 4 → ¬ IsEnd B i p) : Opn B (p + 1) q ↔ Opn B p q := by
  constructor
  · rintro (h | ⟨i, ⟨e, t, h1, h2, h3, h5, h6⟩, h7⟩)
    · exact .inl h
    · have : i ≠ p := by rintro rfl; rw [hs] at h1; cases h1; exact h4 h2
      exact .inr ⟨i, ⟨e, t, h1, h2, h3, by omega, by omega⟩, h7⟩
  · rintro (h | ⟨i, ⟨e, t, h1, h2, h3, h5, h6⟩, h7⟩)
    · exact .inl h
    · have : e ≠ p := fun e9 => hn i t h1 h2 (e9 ▸ h3)
      exact .inr ⟨i, ⟨e, t, h1, h2, h3, by omega, by omega⟩, h7⟩
/-- A condition begins: one more is open. -/
theorem opn_if {B : List Sm} {p e q : Nat} {s : Sm} (hs : B[p]? = some s) (h4 : s.k = 4) (he : IsEnd B p e) : Opn B (p + 1) q ↔ Opn B p q ∨ q = e := by
  constructor
  · rintro (h | ⟨i, ⟨e', t, h1, h2, h3, h5, h6⟩, h7⟩)
    · exact .inl (.inl h)
    · by_cases e9 : i = p
      · subst e9; exact .inr (h7.unique he)
      · exact .inl (.inr ⟨i, ⟨e', t, h1, h2, h3, by omega, by omega⟩, h7⟩)
  · rintro ((h | ⟨i, ⟨e', t, h1, h2, h3, h5, h6⟩, h7⟩) | rfl)
    · exact .inl h
    · have : e' ≠ p := fun e9 => six_not hs (by omega) (e9 ▸ h3)
      exact .inr ⟨i, ⟨e', t, h1, h2, h3, by omega, by omega⟩, h7⟩
    · exact .inr ⟨p, ⟨q, s, hs, h4, he, by omega, he.1⟩, he⟩
theorem opn_if_lt {B : List Sm} {p e q : Nat} (he : IsEnd B p e) (h : Opn B p q) : e < q := by
  rcases h with rfl | ⟨i, ⟨e', t, h1, h2, h3, h5, h6⟩, h7⟩
  · exact he.2.1
  · obtain rfl := h3.unique h7
    exact end_in he h3 h5 h6
/-- A condition ends: it is open no longer. -/
theorem opn_end {B : List Sm} {i p q : Nat} (he : IsEnd B i p) : Opn B (p + 1) q ↔ Opn B p q ∧ q ≠ p := by
  have hp := he.2.1
  constructor
  · rintro (h | ⟨i', ⟨e', t, h1, h2, h3, h5, h6⟩, h7⟩)
    · exact ⟨.inl h, by omega⟩
    · obtain rfl := h3.unique h7
      have : i' ≠ p := by
        rintro rfl
        obtain ⟨t', ht', h6'⟩ := he.kind
        rw [h1] at ht'; cases ht'; omega
      exact ⟨.inr ⟨i', ⟨e', t, h1, h2, h3, by omega, by omega⟩, h7⟩, by omega⟩
  · rintro ⟨h | ⟨i', ⟨e', t, h1, h2, h3, h5, h6⟩, h7⟩, hne⟩
    · exact .inl h
    · obtain rfl := h3.unique h7
      exact .inr ⟨i', ⟨e', t, h1, h2, h3, by omega, by omega⟩, h7⟩
/-- There is an innermost set. -/
theorem opn_min (B : List Sm) (p : Nat) : ∃ q, Opn B p q ∧ ∀ q', Opn B p q' → q ≤ q' := by
  have key : ∀ d q, q ≤ d → Opn B p q → ∃ q, Opn B p q ∧ ∀ q', Opn B p q' → q ≤ q' := by
    intro d
    induction d with
    | zero => intro q hq h; exact ⟨q, h, fun q' _ => by omega⟩
    | succ d ih =>
      intro q hq h
      rcases Classical.em (∃ q', Opn B p q' ∧ q' < q) with ⟨q', h1, h2⟩ | hn
      · exact ih q' (by omega) h1
      · exact ⟨q, h, fun q' h' => Nat.le_of_not_lt fun hlt => hn ⟨q', h', hlt⟩⟩
  exact key _ _ (Nat.le_refl _) (.inl rfl)
end Go.Proofs.YtmgeecdgebemdaaGreatDoor.sets
