/- Several texts in one: CstT TrcP ExeM ExeR ExeS. -/
import Derived.Test.YtlicadaecfgklaaGreatDoorRows
import Derived.Test.YtlicadaecfgklaaGreatDoorGSig5
import Derived.Test.YtlicadaecfgklaaGreatDoorGSig9
import Derived.Test.YtlicadaecfgklaaGreatDoorGSig3
import Derived.OpenShut
import Derived.ChangeSame
import Derived.Deep.Strs
import Derived.Laws.Rows
import Derived.KernelRfl
import Derived.Test.YtlicadaecfgklaaGreatDoorGSig20
import Derived.Test.YtlicadaecfgklaaGreatDoorGSig6
import Derived.Deep.AppendLies
import Derived.BigQuiet

/- Costs: what the program's table of costs holds, from what the card lists; the program's StmtCost over it, and the model's. -/
namespace Go.Proofs.YtlicadaecfgklaaGreatDoor.cst
open Go Go.ChangeShapes Go.WideShapes Go.ChangeAt Go.RowKit Go.Deep Go.Proofs.YtlicadaecfgklaaGreatDoor.row Go.Proofs.YtlicadaecfgklaaGreatDoor.val Go.Proofs.YtlicadaecfgklaaGreatDoor.stm Go.Proofs.YtlicadaecfgklaaGreatDoor.expr

section table
variable {H : Type} {enc : TypeId × Value → H} {w : World} {base : Nat} {sp : Nat → Bool} {held : Bool} {fuel : Nat} {cs : List Value} {p : List MemPlace}
theorem cellsI : Tryz.prog.cellsOf 3 = 1 := by kernel_rfl
theorem cellsE : Tryz.prog.cellsOf 72 = 3 := by kernel_rfl
theorem cellsS : Tryz.prog.cellsOf 89 = 6 := by kernel_rfl
theorem cellsR : Tryz.prog.cellsOf 131 = 7 := by kernel_rfl
theorem cellsT : Tryz.prog.cellsOf 132 = 35 := by kernel_rfl
theorem int1 {z : Int} (h : DataW.trod enc Tryz.prog w base sp held fuel 3 cs = some (.lit (.int .i64 z), p)) : cs = [.int .i64 z] := by
  obtain ⟨z', hc, he, _⟩ := DataW.trod_int Tryz.underlying3 h
  have := (Prod.mk.inj he).1
  simp only [DataW.lit.injEq, Lit.int.injEq, true_and] at this
  subst this
  exact hc
set_option maxRecDepth 100000 in
theorem expr3 {a b c : Int} (h : DataW.trod enc Tryz.prog w base sp held fuel 72 cs = some (.agg [.lit (.int .i64 a), .lit (.int .i64 b), .lit (.int .i64 c)], p)) :
    cs = [.int .i64 a, .int .i64 b, .int .i64 c] := by
  obtain ⟨⟨d0, p0⟩, ⟨d1, p1⟩, ⟨d2, p2⟩, n, he, hl, h0, h1, h2⟩ := trod_struct3 Tryz.underlying72 h
  rw [cellsE] at hl
  have e := (Prod.mk.inj he).1
  simp only [DataW.agg.injEq, List.cons.injEq, and_true] at e
  obtain ⟨e0, e1, e2⟩ := e
  subst e0 e1 e2
  match cs, hl with
  | [c0, c1, c2], _ =>
    have k0 := int1 h0
    have k1 := int1 h1
    have k2 := int1 h2
    rw [cellsI] at k0 k1 k2
    simp at k0 k1 k2
    rw [k0, k1, k2]
set_option maxRecDepth 100000 in
theorem stmt6 {k x m a b c : Int} (h : DataW.trod enc Tryz.prog w base sp held fuel 89 cs = some (.agg [.lit (.int .i64 k), .lit (.int .i64 x), .lit (.int .i64 m), .agg [.lit (.int .i64 a), .lit (.int .i64 b), .lit (.int .i64 c)]], p)) :
    cs = [.int .i64 k, .int .i64 x, .int .i64 m, .int .i64 a, .int .i64 b, .int .i64 c] := by
  obtain ⟨xs, n, _, he, hl, hlen, hf⟩ := DataW.trod_struct Tryz.underlying89 h
  rw [cellsS] at hl
  match xs, hlen with
  | [⟨d0, p0⟩, ⟨d1, p1⟩, ⟨d2, p2⟩, ⟨d3, p3⟩], _ =>
    have e := (Prod.mk.inj he).1
    simp only [DataW.agg.injEq, List.map_cons, List.map_nil, List.cons.injEq, and_true] at e
    obtain ⟨e0, e1, e2, e3⟩ := e
    subst e0 e1 e2 e3
    match cs, hl with
    | [c0, c1, c2, c3, c4, c5], _ =>
      have k0 := int1 (hf 0 _ rfl)
      have k1 := int1 (hf 1 _ rfl)
      have k2 := int1 (hf 2 _ rfl)
      have k3 := expr3 (hf 3 _ rfl)
      change List.take (Tryz.prog.cellsOf 3) (List.drop 0 [c0, c1, c2, c3, c4, c5]) = _ at k0
      change List.take (Tryz.prog.cellsOf 3) (List.drop 1 [c0, c1, c2, c3, c4, c5]) = _ at k1
      change List.take (Tryz.prog.cellsOf 3) (List.drop 2 [c0, c1, c2, c3, c4, c5]) = _ at k2
      change List.take (Tryz.prog.cellsOf 72) (List.drop 3 [c0, c1, c2, c3, c4, c5]) = _ at k3
      rw [cellsI] at k0 k1 k2
      rw [cellsE] at k3
      simp at k0 k1 k2 k3
      obtain ⟨k3, k4, k5⟩ := k3
      rw [k0, k1, k2, k3, k4, k5]
set_option maxRecDepth 100000 in
theorem row7 {k r : Int} (h : DataW.trod enc Tryz.prog w base sp held fuel 131 cs = some (.agg [.agg [.lit (.int .i64 k), .lit (.int .i64 0), .lit (.int .i64 0), .agg [.lit (.int .i64 0), .lit (.int .i64 0), .lit (.int .i64 0)]], .lit (.int .i64 r)], p)) :
    cs = [.int .i64 k, .int .i64 0, .int .i64 0, .int .i64 0, .int .i64 0, .int .i64 0, .int .i64 r] := by
  obtain ⟨⟨d0, p0⟩, ⟨d1, p1⟩, n, he, hl, h0, h1⟩ := trod_struct2 Tryz.underlying131 h
  rw [cellsR] at hl
  have e := (Prod.mk.inj he).1
  simp only [DataW.agg.injEq, List.cons.injEq, and_true] at e
  obtain ⟨e0, e1⟩ := e
  subst e0 e1
  match cs, hl with
  | [c0, c1, c2, c3, c4, c5, c6], _ =>
    have k0 := stmt6 h0
    have k1 := int1 h1
    rw [cellsS] at k0
    rw [cellsI] at k1
    simp at k0 k1
    obtain ⟨k0, k2, k3, k4, k5, k6⟩ := k0
    rw [k0, k1, k2, k3, k4, k5, k6]
end table
/-- The table's cells: the statement of which only the kind is left, and its cost, five times. -/
def costCells : List Value := [.int .i64 1, .int .i64 0, .int .i64 0, .int .i64 0, .int .i64 0, .int .i64 0, .int .i64 2,
  .int .i64 2, .int .i64 0, .int .i64 0, .int .i64 0, .int .i64 0, .int .i64 0, .int .i64 5,
  .int .i64 3, .int .i64 0, .int .i64 0, .int .i64 0, .int .i64 0, .int .i64 0, .int .i64 4,
  .int .i64 4, .int .i64 0, .int .i64 0, .int .i64 0, .int .i64 0, .int .i64 0, .int .i64 1,
  .int .i64 5, .int .i64 0, .int .i64 0, .int .i64 0, .int .i64 0, .int .i64 0, .int .i64 1]
theorem drop_seg {cs a : List Value} {k : Nat} (h : (cs.drop (k * 7)).take 7 = a) : cs.drop (k * 7) = a ++ cs.drop ((k + 1) * 7) := by
  rw [← h, show (k + 1) * 7 = k * 7 + 7 by omega, ← List.drop_drop, List.take_append_drop]
theorem gTab : Tryz.prog.globalNamed "loop.example/g00983/impl.stmtCosts" = some 0 := by kernel_rfl
theorem tTab : (Tryz.prog.globals[0]?).map (·.type) = some 132 := by kernel_rfl
/-- The block of the table. -/
def CostTab (w : World) : Prop := ∃ t fr, w.heap[(0 : Nat)]? = some (.cells costCells.toArray t fr)
set_option maxRecDepth 100000 in
theorem costs_of {W : World} {r : List (String × DataW Unit)} (h : laidMet Tryz.prog (("loop.example/g00983/impl.stmtCosts", Rows.laid_loop_example_g00983_impl_stmtCosts) :: r) W) : CostTab W := by
  obtain ⟨ps, ⟨g, t, cs, fuel, p, q, hg, ht, hv, hd, _, _⟩, _⟩ := h
  obtain rfl := Option.some.inj (gTab.symm.trans hg)
  obtain rfl := Option.some.inj (tTab.symm.trans ht)
  have hcs : cs.toList = costCells := by
    obtain ⟨xs, m, _, ex, hlen, hl, hel⟩ := DataW.trod_array Tryz.underlying132 hd
    rw [cellsT] at hlen
    match xs, hl with
    | [⟨d0, p0⟩, ⟨d1, p1⟩, ⟨d2, p2⟩, ⟨d3, p3⟩, ⟨d4, p4⟩], _ =>
      have e := (Prod.mk.inj ex).1
      simp only [Rows.laid_loop_example_g00983_impl_stmtCosts, DataW.agg.injEq, List.map_cons, List.map_nil, List.cons.injEq, and_true] at e
      obtain ⟨e0, e1, e2, e3, e4⟩ := e
      subst e0 e1 e2 e3 e4
      have k0 := hel 0 (by omega)
      have k1 := hel 1 (by omega)
      have k2 := hel 2 (by omega)
      have k3 := hel 3 (by omega)
      have k4 := hel 4 (by omega)
      rw [cellsR] at k0 k1 k2 k3 k4
      have s0 := drop_seg (row7 k0)
      have s1 := drop_seg (row7 k1)
      have s2 := drop_seg (row7 k2)
      have s3 := drop_seg (row7 k3)
      have s4 := drop_seg (row7 k4)
      have s5 : cs.toList.drop (5 * 7) = [] := List.drop_eq_nil_of_le (by omega)
      rw [show cs.toList = cs.toList.drop (0 * 7) by simp, s0, s1, s2, s3, s4, s5]
      rfl
  unfold World.var? at hv
  rw [gTab] at hv
  simp only [Option.bind_some] at hv
  split at hv
  · rename_i c2 t2 f2 hh
    have : c2 = cs := Option.some.inj hv
    refine ⟨t2, f2, ?_⟩
    rw [hh, this, ← hcs, Array.toArray_toList]
  · cases hv
/-- What a statement of this kind costs. -/
def kindC (k : Int) : Int := if k = 1 then 2 else if k = 2 then 5 else if k = 3 then 4 else if k = 4 then 1 else if k = 5 then 1 else 0
/-- What a statement costs: nothing where it is not valid. -/
def costF (s : St) : Int := if stOk s = true then kindC s.k else 0
theorem CostTab.below {w w' : World} (h : CostTab w) (hb : Below w.heap.size w w') : CostTab w' := by
  obtain ⟨t, fr, h⟩ := h
  exact ⟨t, fr, (hb.block _ (Array.getElem?_eq_some_iff.1 h).1).trans h⟩
theorem idx_any (j : Int) (h0 : 0 ≤ j) (h5 : j < 5) (w : World) : (Instr.index 132 (.agg costCells.toArray) (.int .i64 j)).run Tryz.prog w = .ok (.agg #[.int .i64 (j + 1), .int .i64 0, .int .i64 0, .int .i64 0, .int .i64 0, .int .i64 0, .int .i64 (kindC (j + 1))]) w := by
  rcases (show j = 0 ∨ j = 1 ∨ j = 2 ∨ j = 3 ∨ j = 4 by omega) with rfl | rfl | rfl | rfl | rfl <;> kernel_rfl
theorem eqKey (a b : Int) : eqSt ⟨a, 0, 0, 0, 0, 0⟩ ⟨b, 0, 0, 0, 0, 0⟩ = decide (a = b) := by
  rw [Bool.eq_iff_iff]; simp [eqSt]
theorem kindC_none {k j : Int} (hj : j = 5) (h : ¬ (1 ≤ k ∧ k ≤ j)) : kindC k = 0 := by
  unfold kindC
  rw [if_neg (by omega), if_neg (by omega), if_neg (by omega), if_neg (by omega), if_neg (by omega)]
set_option maxHeartbeats 8000000 in
set_option maxRecDepth 100000 in
theorem impl_stmtcost (s : St) (w : World) (hT : CostTab w) : Calls Tryz.prog 49 #[stV s] w (BelI w (costF s)) := by
  cases hs : stOk s
  · have HS := Lib.hid hs
    have HV := Lib.hid (show costF s = 0 by unfold costF; rw [hs]; rfl)
    clear hs
    go_enter Tryz.func49, Tryz.ntmps49
    go_wp2_with (go_at_call 98; (with_reducible refine (impl_stmtok s false HS.out _).mono ?_); rintro e w1 ⟨rfl, hb1⟩)
    have HB := Lib.hid (below_then (below_new w _) hb1)
    clear hb1
    go_wp2
    go_ret
    exact ⟨ret_int HV.out.symm, HB.out⟩
  · have HS := Lib.hid hs
    have HV := Lib.hid (show costF s = kindC s.k by unfold costF; rw [hs]; rfl)
    clear hs
    obtain ⟨k, v, n, o, a, b⟩ := s
    have hx := Box.new w #[.int .i64 k, .int .i64 v, .int .i64 n, .int .i64 o, .int .i64 a, .int .i64 b] 89
    go_enter Tryz.func49, Tryz.ntmps49
    go_wp2_with (go_at_call 98; (with_reducible refine (impl_stmtok ⟨k, v, n, o, a, b⟩ true HS.out _).mono ?_); rintro e w1 ⟨rfl, hb1⟩; refine Hid.out ?_)
    have H1 := Lib.hid (And.intro (hx.below hb1) (And.intro (below_then (below_new w _) hb1) ((hT.below (below_new w _)).below hb1)))
    clear hb1 hx hT
    have c0 : w1.cell? ⟨w.heap.size, 0, none⟩ = some (.int .i64 k) := H1.out.1.cell 0
    have hl1 : w.heap.size < w1.heap.size := H1.out.1.lt
    obtain ⟨W1, hW1⟩ : ∃ W1, w1.alloc (.cells #[.int .i64 0, .int .i64 0, .int .i64 0, .int .i64 0, .int .i64 0, .int .i64 0] 89) = W1 := ⟨_, rfl⟩
    have HBN := Lib.hid (show Below w1.heap.size w1 W1 by rw [← hW1]; exact below_new _ _)
    have HZ := Lib.hid (show Box w1.heap.size #[.int .i64 0, .int .i64 0, .int .i64 0, .int .i64 0, .int .i64 0, .int .i64 0] 89 W1 by rw [← hW1]; exact Box.new _ _ _)
    refine Lib.hid ?_
    go_wp2_with ((refine wpList_store_box rfl 89 _ _ rfl w1.heap.size _ _ HZ.out #[.int .i64 k, .int .i64 0, .int .i64 0, .int .i64 0, .int .i64 0, .int .i64 0] rfl rfl rfl (by kernel_rfl) (by simp [Value.oneCell']) ?_); intro w2 hx2 hg2; refine Hid.out ?_)
    have hb2 : Below w1.heap.size w1 w2 := HBN.out.grown hg2 HBN.out.size (fun j hj => by cases hj; exact Nat.le_refl _)
    have H2 := Lib.hid (And.intro hx2 (And.intro (below_then H1.out.2.1 hb2) (H1.out.2.2.below hb2)))
    clear hx2 hg2 hb2 c0 hW1
    obtain ⟨tt, fr, hTab⟩ := H2.out.2.2
    have HT := Lib.hid hTab
    clear hTab
    refine Lib.hid ?_
    go_wp2_with (refine wpList_load_row rfl 132 _ rfl 0 rfl _ _ _ _ HT.out Tryz.underlying132 rfl (by kernel_rfl) ?_)
    go_loopw [13] (fun i wr => ∃ (j : Int), 0 ≤ j ∧ j ≤ 5 ∧ i = .int .i64 j ∧ ¬ (1 ≤ k ∧ k ≤ j) ∧ Hid (Below w2.heap.size w2 wr)) (fun i _ => (5 - Go.RowKit.intOf i).toNat)
    case atStart => exact ⟨0, by omega, by omega, rfl, by omega, Below.refl _ _⟩
    case round =>
      obtain ⟨j, hj0, hj5, rfl, hkj, HR⟩ := hrel
      by_cases hlt : j < 5
      · have hidx := idx_any j hj0 hlt
        obtain ⟨W3, hW3⟩ : ∃ W3, wr.alloc (.cells #[.int .i64 0, .int .i64 0, .int .i64 0, .int .i64 0, .int .i64 0, .int .i64 0, .int .i64 0] 131) = W3 := ⟨_, rfl⟩
        have HBN3 := Lib.hid (show Below wr.heap.size wr W3 by rw [← hW3]; exact below_new _ _)
        have HZ3 := Lib.hid (show Box wr.heap.size #[.int .i64 0, .int .i64 0, .int .i64 0, .int .i64 0, .int .i64 0, .int .i64 0, .int .i64 0] 131 W3 by rw [← hW3]; exact Box.new _ _ _)
        go_wp2_with ((refine wpList_store_box rfl 131 _ _ rfl wr.heap.size _ _ HZ3.out #[.int .i64 (j + 1), .int .i64 0, .int .i64 0, .int .i64 0, .int .i64 0, .int .i64 0, .int .i64 (kindC (j + 1))] rfl rfl rfl (by kernel_rfl) (by simp [Value.oneCell']) ?_); intro w4 hx4 hg4; refine Hid.out ?_)
        have hb4 : Below wr.heap.size wr w4 := HBN3.out.grown hg4 HBN3.out.size (fun j hj => by cases hj; exact Nat.le_refl _)
        have H4 := Lib.hid (And.intro ((H2.out.1.below HR.out).below hb4) (And.intro (below_then HR.out hb4) hx4))
        have d0 : w4.cell? ⟨wr.heap.size, 0, none⟩ = some (.int .i64 (j + 1)) := hx4.cell 0
        have d1 : w4.cell? ⟨wr.heap.size, 1, none⟩ = some (.int .i64 0) := hx4.cell 1
        have d2 : w4.cell? ⟨wr.heap.size, 2, none⟩ = some (.int .i64 0) := hx4.cell 2
        have d3 : w4.cell? ⟨wr.heap.size, 3, none⟩ = some (.int .i64 0) := hx4.cell 3
        have d4 : w4.cell? ⟨wr.heap.size, 4, none⟩ = some (.int .i64 0) := hx4.cell 4
        have d5 : w4.cell? ⟨wr.heap.size, 5, none⟩ = some (.int .i64 0) := hx4.cell 5
        have d6 : w4.cell? ⟨wr.heap.size, 6, none⟩ = some (.int .i64 (kindC (j + 1))) := hx4.cell 6
        have hq := run_eqSt ⟨j + 1, 0, 0, 0, 0, 0⟩ ⟨k, 0, 0, 0, 0, 0⟩
        clear hb4 hx4 hg4 hW3
        by_cases hk : j + 1 = k
        · have hqb : eqSt ⟨j + 1, 0, 0, 0, 0, 0⟩ ⟨k, 0, 0, 0, 0, 0⟩ = true := by rw [eqKey]; simpa using hk
          have HK := Lib.hid hk
          clear hk
          refine Lib.hid ?_
          go_wp2_with (refine wpList_load_row rfl 89 _ rfl w1.heap.size rfl _ _ _ _ H4.out.1 Tryz.underlying89 rfl (by kernel_rfl) ?_)
          go_ret
          exact ⟨ret_int (show kindC (j + 1) = costF ⟨k, v, n, o, a, b⟩ by rw [HV.out, HK.out]), below_then H2.out.2.1 H4.out.2.1⟩
        · have hqb : eqSt ⟨j + 1, 0, 0, 0, 0, 0⟩ ⟨k, 0, 0, 0, 0, 0⟩ = false := by rw [eqKey]; simpa using hk
          refine Lib.hid ?_
          go_wp2_with (refine wpList_load_row rfl 89 _ rfl w1.heap.size rfl _ _ _ _ H4.out.1 Tryz.underlying89 rfl (by kernel_rfl) ?_)
          go_roundw
          case rel => exact ⟨j + 1, by omega, by omega, rfl, by omega, H4.out.2.1⟩
          case measure => simp [Go.RowKit.intOf]; omega
      · have HV0 := Lib.hid (show kindC k = 0 from kindC_none (by omega) hkj)
        go_wp2
        go_ret
        exact ⟨ret_int (show (0 : Int) = costF ⟨k, v, n, o, a, b⟩ by rw [HV.out, HV0.out]), below_then H2.out.2.1 HR.out⟩
theorem spec_kindcost (s : St) (w : World) : Calls Tryz.prog 167 #[stV s] w (BelI w (kindC s.k)) := by
  obtain ⟨k, v, n, o, a, b⟩ := s
  rcases kinds k with rfl | rfl | rfl | rfl | rfl | rfl | ⟨h1, h2, h3, h4, h5, h6⟩
  all_goals
    try have HV := Lib.hid (show kindC k = 0 by simp only [beq_eq_false_iff_ne] at h1 h2 h3 h4 h5 h6; unfold kindC; rw [if_neg h1, if_neg h2, if_neg h3, if_neg h4, if_neg h5])
    go_enter Tryz.func167, Tryz.ntmps167
    go_wp2
    go_ret
    first
      | exact ⟨rfl, below_new w _⟩
      | exact ⟨ret_int HV.out.symm, below_new w _⟩
end Go.Proofs.YtlicadaecfgklaaGreatDoor.cst

/- What the program's TraceOf is to give: the shape of its contract. -/
namespace Go.Proofs.YtlicadaecfgklaaGreatDoor.trc
open Go Go.ChangeShapes Go.WideShapes Go.ChangeAt Go.RowKit Go.Proofs.YtlicadaecfgklaaGreatDoor.row Go.Proofs.YtlicadaecfgklaaGreatDoor.val Go.Proofs.YtlicadaecfgklaaGreatDoor.expr Go.Proofs.YtlicadaecfgklaaGreatDoor.stm Go.Proofs.YtlicadaecfgklaaGreatDoor.blk Go.Proofs.YtlicadaecfgklaaGreatDoor.prg Go.Proofs.YtlicadaecfgklaaGreatDoor.exe Go.Proofs.YtlicadaecfgklaaGreatDoor.grow Go.Proofs.YtlicadaecfgklaaGreatDoor.wrt
abbrev TrC : Prop := ∀ (a : Option Addr) (n cap : Nat) (P : List Tk) (_ : Sizes P) (_ : n ≤ cap) (w : World) (_ : TkRow w a n P) (am : Option Addr) (nm cm : Nat) (Mem : List Int) (_ : (nm : Int) ≤ 1048576) (_ : nm ≤ cm) (_ : Row w am nm Mem) (ar : Option Addr) (nr cr : Nat) (R : List Int) (_ : (nr : Int) ≤ 1048576) (_ : nr ≤ cr) (_ : Row w ar nr R)
    (z : Int) (r : Bool) (M : List Mic) (U : List Int) (_ : TraceIs P Mem R z r M U) (_ : i64r (Mem.getD 8 0)) (_ : Go.Proofs.YtlicadaecfgklaaGreatDoor.cst.CostTab w), Calls Tryz.prog 10 #[.agg #[.slice a n cap], .slice am nm cm, .slice ar nr cr, .int .i64 z] w (NewTrB w r M U)
end Go.Proofs.YtlicadaecfgklaaGreatDoor.trc

/- Chapter 12 of the model: ReadSensor, and whether every element is a value; nothing that was there is written. -/
namespace Go.Proofs.YtlicadaecfgklaaGreatDoor.exe
open Go Go.ChangeShapes Go.WideShapes Go.ChangeAt Go.RowKit Go.Proofs.YtlicadaecfgklaaGreatDoor.row Go.Proofs.YtlicadaecfgklaaGreatDoor.val Go.Proofs.YtlicadaecfgklaaGreatDoor.expr Go.Proofs.YtlicadaecfgklaaGreatDoor.stm Go.Proofs.YtlicadaecfgklaaGreatDoor.blk Go.Proofs.YtlicadaecfgklaaGreatDoor.prg

theorem all_bad' {L : List Int} {k : Nat} {x : Int} (hx : L[k]? = some x) (hv : isVal x = false) : L.all isVal = false := by
  rw [← Bool.not_eq_true, List.all_eq_true]
  intro h
  have := h x (List.mem_of_getElem? hx)
  rw [hv] at this; cases this
theorem all_step' {L : List Int} {k : Nat} {x : Int} (hx : L[k]? = some x) (h : ∀ y ∈ L.take k, isVal y = true) (hv : isVal x = true) : ∀ y ∈ L.take (k + 1), isVal y = true := fun y hy => by
  rw [List.take_add_one, hx] at hy
  rcases List.mem_append.1 hy with h1 | h1
  · exact h y h1
  · simp at h1; rw [h1]; exact hv
set_option maxRecDepth 100000 in
set_option maxHeartbeats 400000 in
theorem spec_vals (w : World) (a : Option Addr) (n cap : Nat) (L : List Int) (hn : (n : Int) ≤ 1048576) (h : Row w a n L) (r : Bool) (hr : allV L = r) :
    Calls Tryz.prog 71 #[.slice a n cap] w (RetB w r) := by
  subst hr
  have HL := Lib.hid h.1
  have HC : Hid (∀ k, k < n → ∃ (b off : Nat) (x : Int), a = some ⟨b, off, none⟩ ∧ L[k]? = some x ∧ w.cell? ⟨b, off + k, none⟩ = some (.int .i64 x)) := fun k hk => by
    obtain ⟨b, off, x, e, _, hx, hc⟩ := h.2 k hk
    exact ⟨b, off, x, e, hx, hc⟩
  clear h
  go_enter Tryz.func71, Tryz.ntmps71
  go_wp2
  go_loop [3] (fun i => ∃ k : Nat, k ≤ n ∧ i = .int .i64 k ∧ Hid (∀ y ∈ L.take k, isVal y = true)) (fun i => n - (intOf i).toNat)
  case atStart => exact ⟨0, Nat.zero_le _, rfl, by simp [Hid]⟩
  case round =>
    obtain ⟨k, hk, rfl, hA⟩ := hrel
    by_cases hlt : k < n
    · obtain ⟨b, off, x, rfl, hx, hc⟩ := HC.out k hlt
      have hI : (k : Int) < n := by omega
      have HX := Lib.hid hx
      clear hx
      cases hv : isVal x
      · have HF := Lib.hid (show allV L = false from all_bad' HX.out hv)
        go_wp2_with (go_at_call 117; refine (spec_isval _ _).mono ?_; rintro e w1 ⟨rfl, rfl⟩)
        go_ret
        exact ⟨by rw [HF.out]; rfl, rfl⟩
      · have HA2 := Lib.hid (all_step' HX.out hA.out hv)
        go_wp2_with (go_at_call 117; refine (spec_isval _ _).mono ?_; rintro e w1 ⟨rfl, rfl⟩)
        go_round
        case rel => exact ⟨k + 1, by omega, by go_num, HA2⟩
        case measure => simp [intOf]; omega
    · have hkn : k = n := by omega
      subst hkn
      have HF := Lib.hid (show allV L = true by
        rw [allV_iff]
        have h1 := hA.out
        rw [List.take_of_length_le (by rw [HL.out]; exact Nat.le_refl _)] at h1
        exact h1)
      go_wp2
      go_ret
      exact ⟨by rw [HF.out]; rfl, rfl⟩
set_option maxRecDepth 100000 in
set_option maxHeartbeats 2000000 in
theorem spec_readsensor (w : World) (a : Option Addr) (n cap : Nat) (R : List Int) (hn : (n : Int) ≤ 1048576) (h : Row w a n R) (q m : Int) :
    Calls Tryz.prog 199 #[.slice a n cap, .int .i64 q, .int .i64 m] w (Ret w (readS R q m)) := by
  have hl := h.1
  by_cases h0 : n = 0
  · subst h0
    have HV := Lib.hid (readS_no (R := R) (q := q) (n := m) (.inl hl))
    go_enter Tryz.func199, Tryz.ntmps199
    go_wp2
    go_ret
    exact ⟨ret_int HV.out.symm, rfl⟩
  · have hpos : ¬ (n : Int) = 0 := by omega
    cases hq : (decide (0 ≤ q) && decide (q ≤ 3))
    · have HQ := Lib.hid hq
      have HV := Lib.hid (readS_no (R := R) (q := q) (n := m) (by simp at hq; omega))
      clear hq
      go_enter Tryz.func199, Tryz.ntmps199
      go_wp2_with (go_at_call 70; (with_reducible refine (in_any q 0 3 _ HQ.out _).mono ?_); rintro e w3 ⟨rfl, rfl⟩)
      go_ret
      exact ⟨ret_int HV.out.symm, rfl⟩
    · have HQ := Lib.hid hq
      have hq2 : 0 ≤ q ∧ q ≤ 3 := by simpa using hq
      clear hq
      by_cases hm : m < 0
      · have HV := Lib.hid (readS_no (R := R) (q := q) (n := m) (by omega))
        go_enter Tryz.func199, Tryz.ntmps199
        go_wp2_with (go_at_call 70; (with_reducible refine (in_any q 0 3 _ HQ.out _).mono ?_); rintro e w3 ⟨rfl, rfl⟩)
        go_ret
        exact ⟨ret_int HV.out.symm, rfl⟩
      · have hmd : decide (m < 0) = false := by simp; omega
        have ht : m.tmod n = m % n := Int.tmod_eq_emod_of_nonneg (by omega)
        have hr0 : 0 ≤ m % n := Int.emod_nonneg m (by omega)
        have hr1 : m % n < n := Int.emod_lt_of_pos m (by omega)
        obtain ⟨k, hk⟩ : ∃ k : Nat, m % n = k := ⟨(m % n).toNat, by omega⟩
        obtain ⟨b, off, x, rfl, _, hx, hc⟩ := h.2 k (by omega)
        have HV := Lib.hid (show readS R q m = sat (sat x + sat (100 * q)) by
          rw [readS_ok (by omega) hq2.1 hq2.2 (by omega), hl, hk, List.getD_eq_getElem?_getD, show ((k : Int)).toNat = k by omega, hx]; rfl)
        rw [hk] at ht hr0 hr1
        have hm0 : 0 ≤ m := by omega
        clear hx h hk hm
        go_enter Tryz.func199, Tryz.ntmps199
        go_wp2_with (first
          | (go_at_call 70; (with_reducible refine (in_any q 0 3 _ HQ.out _).mono ?_); rintro e w3 ⟨rfl, rfl⟩)
          | (go_at_call 196; refine (spec_add _ _ _).mono ?_; rintro e w4 ⟨rfl, rfl⟩))
        go_ret
        exact ⟨ret_int HV.out.symm, rfl⟩
end Go.Proofs.YtlicadaecfgklaaGreatDoor.exe

/- The state of an execution in memory: a struct that holds three rows of its own (the variables, what is sent, what is sensed); nothing else that was there is written. -/
namespace Go.Proofs.YtlicadaecfgklaaGreatDoor.exe
open Go Go.ChangeShapes Go.WideShapes Go.ChangeAt Go.RowKit Go.Proofs.YtlicadaecfgklaaGreatDoor.row Go.Proofs.YtlicadaecfgklaaGreatDoor.val Go.Proofs.YtlicadaecfgklaaGreatDoor.expr Go.Proofs.YtlicadaecfgklaaGreatDoor.stm Go.Proofs.YtlicadaecfgklaaGreatDoor.blk Go.Proofs.YtlicadaecfgklaaGreatDoor.prg

/-- What an execution is given: the senses, or the readings and the number of the first one. -/
structure Cfg where
  (al : Option Addr) (nl cl : Nat) (Y : List Int)
  (ar : Option Addr) (nr cr : Nat) (R : List Int)
  (z : Int) (lv : Bool)
def Cfg.src (c : Cfg) : Int → Nat → Int := if c.lv then liveSrc c.R c.z else listSrc c.Y
/-- The rows that it is given are there, and the senses are values. -/
def CfgAt (c : Cfg) (w : World) : Prop := Row w c.al c.nl c.Y ∧ Row w c.ar c.nr c.R ∧ (c.nl : Int) ≤ 1048576 ∧ (c.nr : Int) ≤ 1048576 ∧ (0 ≤ c.z ∧ c.z ≤ 1000000) ∧ allV c.Y = true
theorem CfgAt.below {c : Cfg} {w w' : World} (h : CfgAt c w) (hb : Below w.heap.size w w') : CfgAt c w' := ⟨h.1.below hb, h.2.1.below hb, h.2.2⟩
theorem Cfg.src_val {c : Cfg} {w : World} (h : CfgAt c w) (q : Int) (n : Nat) : isVal (c.src q n) = true := by
  unfold Cfg.src
  split
  · exact liveSrc_val _ _ _ _
  · exact listSrc_val h.2.2.2.2.2 _ _
def rnC (gv cv : Nat) (a1 : Option Addr) (n1 c1 : Nat) (a2 : Option Addr) (n2 c2 : Nat) (c : Cfg) : Array Value :=
  #[.slice (some ⟨gv, 0, none⟩) 8 cv, .slice a1 n1 c1, .slice a2 n2 c2, .slice c.al c.nl c.cl, .slice c.ar c.nr c.cr, .int .i64 c.z, .bool c.lv]
/-- The block 'g' holds the state 'x'; its rows lie in new memory. -/
structure RnAt (B g gv cv : Nat) (a1 : Option Addr) (n1 c1 : Nat) (a2 : Option Addr) (n2 c2 : Nat) (c : Cfg) (x : Sx) (w : World) : Prop where
  box : Box g (rnC gv cv a1 n1 c1 a2 n2 c2 c) 154 w
  low : B ≤ g
  vars : w.ownsRow B 3 1 (.slice (some ⟨gv, 0, none⟩) 8 cv) 8 (ivs x.V)
  sent : w.ownsRow B 3 1 (.slice a1 n1 c1) n1 (ivs x.S)
  used : w.ownsRow B 3 1 (.slice a2 n2 c2) n2 (ivs x.U)
  vg : gv ≠ g
  sg : (Value.slice a1 n1 c1).ownBlock ≠ some g
  ug : (Value.slice a2 n2 c2).ownBlock ≠ some g
  sv : (Value.slice a1 n1 c1).ownBlock ≠ some gv
  uv : (Value.slice a2 n2 c2).ownBlock ≠ some gv
  su : (Value.slice a1 n1 c1).ownBlock = none ∨ (Value.slice a1 n1 c1).ownBlock ≠ (Value.slice a2 n2 c2).ownBlock
def Rn (B g : Nat) (c : Cfg) (x : Sx) (w : World) : Prop := ∃ (gv cv : Nat) (a1 : Option Addr) (n1 c1 : Nat) (a2 : Option Addr) (n2 c2 : Nat), RnAt B g gv cv a1 n1 c1 a2 n2 c2 c x w
theorem ne_or {v : Value} {q : Nat} (h : v.ownBlock ≠ some q) : v.ownBlock = none ∨ v.ownBlock ≠ some q := .inr h
theorem RnAt.below {B g gv cv : Nat} {a1 : Option Addr} {n1 c1 : Nat} {a2 : Option Addr} {n2 c2 : Nat} {c : Cfg} {x : Sx} {w w' : World} (h : RnAt B g gv cv a1 n1 c1 a2 n2 c2 c x w) (hb : Below w.heap.size w w') : RnAt B g gv cv a1 n1 c1 a2 n2 c2 c x w' :=
  ⟨h.box.below hb, h.low, h.vars.kept (grown_below hb none) (.inr (by simp [Value.ownBlock])), h.sent.kept (grown_below hb none) (by cases a1 <;> simp [Value.ownBlock]), h.used.kept (grown_below hb none) (by cases a2 <;> simp [Value.ownBlock]), h.vg, h.sg, h.ug, h.sv, h.uv, h.su⟩
theorem RnAt.vrow {B g gv cv : Nat} {a1 : Option Addr} {n1 c1 : Nat} {a2 : Option Addr} {n2 c2 : Nat} {c : Cfg} {x : Sx} {w : World} (h : RnAt B g gv cv a1 n1 c1 a2 n2 c2 c x w) : Row w (some ⟨gv, 0, none⟩) 8 x.V := Row.of_own h.vars
theorem RnAt.slen {B g gv cv : Nat} {a1 : Option Addr} {n1 c1 : Nat} {a2 : Option Addr} {n2 c2 : Nat} {c : Cfg} {x : Sx} {w : World} (h : RnAt B g gv cv a1 n1 c1 a2 n2 c2 c x w) : x.S.length = n1 := own_len h.sent
theorem RnAt.ulen {B g gv cv : Nat} {a1 : Option Addr} {n1 c1 : Nat} {a2 : Option Addr} {n2 c2 : Nat} {c : Cfg} {x : Sx} {w : World} (h : RnAt B g gv cv a1 n1 c1 a2 n2 c2 c x w) : x.U.length = n2 := own_len h.used
/-- A variable is set. -/
theorem RnAt.set {B g gv cv : Nat} {a1 : Option Addr} {n1 c1 : Nat} {a2 : Option Addr} {n2 c2 : Nat} {c : Cfg} {x : Sx} {w : World} (h : RnAt B g gv cv a1 n1 c1 a2 n2 c2 c x w) (k : Nat) (q : Int) :
    RnAt B g gv cv a1 n1 c1 a2 n2 c2 c ⟨x.V.set k q, x.S, x.U⟩ (w.setCell ⟨gv, k, none⟩ (.int .i64 q)) where
  box := h.box.grown (grown_setCell w gv k _) (fun e => h.vg (Option.some.inj e).symm)
  low := h.low
  vars := by have := (h.vars.stored k (.int .i64 q)).1; rw [ivs_set] at this; exact this
  sent := h.sent.kept (grown_setCell w gv k _) (ne_or h.sv)
  used := h.used.kept (grown_setCell w gv k _) (ne_or h.uv)
  vg := h.vg
  sg := h.sg
  ug := h.ug
  sv := h.sv
  uv := h.uv
  su := h.su
theorem RnAt.gvB {B g gv cv : Nat} {a1 : Option Addr} {n1 c1 : Nat} {a2 : Option Addr} {n2 c2 : Nat} {c : Cfg} {x : Sx} {w : World} (h : RnAt B g gv cv a1 n1 c1 a2 n2 c2 c x w) : B ≤ gv ∧ gv < w.heap.size := own_block h.vars gv rfl
/-- Sent: the row of sent values has grown to a row 'v', and the struct holds it. -/
theorem RnAt.send {B g gv cv : Nat} {a1 : Option Addr} {n1 c1 : Nat} {a2 : Option Addr} {n2 c2 : Nat} {c : Cfg} {x : Sx} {w w' : World} (h : RnAt B g gv cv a1 n1 c1 a2 n2 c2 c x w) {q : Int} {a3 : Option Addr} {c3 : Nat}
    (ho : w'.ownsRow B 3 1 (.slice a3 (n1 + 1) c3) (n1 + 1) (ivs (x.S ++ [q]))) (hg : w.grownBy w' (Value.slice a1 n1 c1).ownBlock) (hat : (Value.slice a3 (n1 + 1) c3).ownBlock = (Value.slice a1 n1 c1).ownBlock ∨ ∀ b, (Value.slice a3 (n1 + 1) c3).ownBlock = some b → w.heap.size ≤ b) :
    RnAt B g gv cv a3 (n1 + 1) c3 a2 n2 c2 c ⟨x.V, x.S ++ [q], x.U⟩ (w'.setCell ⟨g, 1, none⟩ (.slice a3 (n1 + 1) c3)) := by
  have hgs := h.box.lt
  have hne : ∀ b, b < w.heap.size → (Value.slice a1 n1 c1).ownBlock ≠ some b → (Value.slice a3 (n1 + 1) c3).ownBlock ≠ some b := fun b hb hn e => by
    rcases hat with h1 | h1
    · exact hn (h1 ▸ e)
    · have := h1 b e; omega
  have hbx : Box g (rnC gv cv a1 n1 c1 a2 n2 c2 c) 154 w' := h.box.grown hg (fun e => h.sg e.symm)
  refine ⟨hbx.set 1 _, h.low, ?_, ?_, ?_, h.vg, hne g hgs h.sg, h.ug, hne gv h.gvB.2 h.sv, h.uv, ?_⟩
  · exact (h.vars.kept hg (.inr (fun e => h.sv e.symm))).kept (grown_setCell w' g 1 _) (.inr (fun e => h.vg (Option.some.inj e)))
  · exact ho.kept (grown_setCell w' g 1 _) (ne_or (hne g hgs h.sg))
  · refine (h.used.kept hg ?_).kept (grown_setCell w' g 1 _) (ne_or h.ug)
    rcases h.su with h1 | h1
    · rw [h1]; cases hq : (Value.slice a2 n2 c2).ownBlock with
      | none => exact .inl rfl
      | some b => exact .inr (by simp)
    · exact .inr (fun e => h1 e.symm)
  · cases hq : (Value.slice a2 n2 c2).ownBlock with
    | none =>
      cases hq3 : (Value.slice a3 (n1 + 1) c3).ownBlock with
      | none => exact .inl rfl
      | some b => exact .inr (by simp)
    | some b =>
      right
      refine hne b (own_block h.used b hq).2 ?_
      rcases h.su with h1 | h1
      · rw [h1]; simp
      · rw [hq] at h1; exact h1
/-- Sensed: the row of used values has grown to a row, and the struct holds it. -/
theorem RnAt.sense {B g gv cv : Nat} {a1 : Option Addr} {n1 c1 : Nat} {a2 : Option Addr} {n2 c2 : Nat} {c : Cfg} {x : Sx} {w w' : World} (h : RnAt B g gv cv a1 n1 c1 a2 n2 c2 c x w) {q : Int} {a3 : Option Addr} {c3 : Nat}
    (ho : w'.ownsRow B 3 1 (.slice a3 (n2 + 1) c3) (n2 + 1) (ivs (x.U ++ [q]))) (hg : w.grownBy w' (Value.slice a2 n2 c2).ownBlock) (hat : (Value.slice a3 (n2 + 1) c3).ownBlock = (Value.slice a2 n2 c2).ownBlock ∨ ∀ b, (Value.slice a3 (n2 + 1) c3).ownBlock = some b → w.heap.size ≤ b) :
    RnAt B g gv cv a1 n1 c1 a3 (n2 + 1) c3 c ⟨x.V, x.S, x.U ++ [q]⟩ (w'.setCell ⟨g, 2, none⟩ (.slice a3 (n2 + 1) c3)) := by
  have hgs := h.box.lt
  have hne : ∀ b, b < w.heap.size → (Value.slice a2 n2 c2).ownBlock ≠ some b → (Value.slice a3 (n2 + 1) c3).ownBlock ≠ some b := fun b hb hn e => by
    rcases hat with h1 | h1
    · exact hn (h1 ▸ e)
    · have := h1 b e; omega
  have hbx : Box g (rnC gv cv a1 n1 c1 a2 n2 c2 c) 154 w' := h.box.grown hg (fun e => h.ug e.symm)
  refine ⟨hbx.set 2 _, h.low, ?_, ?_, ?_, h.vg, h.sg, hne g hgs h.ug, h.sv, hne gv h.gvB.2 h.uv, ?_⟩
  · exact (h.vars.kept hg (.inr (fun e => h.uv e.symm))).kept (grown_setCell w' g 2 _) (.inr (fun e => h.vg (Option.some.inj e)))
  · refine (h.sent.kept hg ?_).kept (grown_setCell w' g 2 _) (ne_or h.sg)
    exact h.su
  · exact ho.kept (grown_setCell w' g 2 _) (ne_or (hne g hgs h.ug))
  · cases hq : (Value.slice a1 n1 c1).ownBlock with
    | none => exact .inl rfl
    | some b =>
      right
      intro e
      refine hne b (own_block h.sent b hq).2 ?_ e.symm
      rcases h.su with h1 | h1
      · rw [hq] at h1; cases h1
      · rw [hq] at h1; exact fun e => h1 e.symm
end Go.Proofs.YtlicadaecfgklaaGreatDoor.exe

/- The model's l12Sense: the next sensed value; the state grows by it; nothing else that was there is written. -/
namespace Go.Proofs.YtlicadaecfgklaaGreatDoor.exe
open Go Go.ChangeShapes Go.WideShapes Go.ChangeAt Go.RowKit Go.Proofs.YtlicadaecfgklaaGreatDoor.row Go.Proofs.YtlicadaecfgklaaGreatDoor.val Go.Proofs.YtlicadaecfgklaaGreatDoor.expr Go.Proofs.YtlicadaecfgklaaGreatDoor.stm Go.Proofs.YtlicadaecfgklaaGreatDoor.blk Go.Proofs.YtlicadaecfgklaaGreatDoor.prg
theorem readsensor_q (w : World) (a : Option Addr) (n cap : Nat) (R : List Int) (hn : (n : Int) ≤ 1048576) (h : Row w a n R) (q m v : Int) (hv : readS R q m = v) (k : Nat) :
    Calls Tryz.prog 199 #[.slice a n cap, .int .i64 q, .int .i64 m] (w.drewN k) fun e w' => e = .returned (.int .i64 v) ∧ w' = w.drewN k := by
  subst hv
  exact (spec_readsensor (w.drewN k) a n cap R hn (h.drewN k) q m).mono fun _ _ ⟨h1, h2⟩ => ⟨h1, h2.symm⟩
theorem list_in {Y : List Int} {n : Nat} {x : Int} (h : Y[n]? = some x) (q : Int) : listSrc Y q n = x := by
  unfold listSrc; rw [List.getD_eq_getElem?_getD, h]; rfl
theorem list_out {Y : List Int} {n : Nat} (h : Y.length ≤ n) (q : Int) : listSrc Y q n = 0 := by
  unfold listSrc; rw [List.getD_eq_getElem?_getD, List.getElem?_eq_none h]; rfl
def SenseOut (w0 w : World) (g gv cv : Nat) (a1 : Option Addr) (n1 c1 : Nat) (a2 : Option Addr) (n2 c2 : Nat) (c : Cfg) (x : Sx) (v : Int) (e : Ending) (w' : World) : Prop :=
  e = .returned (.int .i64 v) ∧ Below w0.heap.size w0 w' ∧ (∀ k, k < w.heap.size → k ≠ g → (Value.slice a2 n2 c2).ownBlock ≠ some k → w'.heap[k]? = w.heap[k]?) ∧ w.heap.size ≤ w'.heap.size ∧
  ∃ a3 c3, RnAt w0.heap.size g gv cv a1 n1 c1 a3 (n2 + 1) c3 c ⟨x.V, x.S, x.U ++ [v]⟩ w'
set_option maxHeartbeats 4000000 in
set_option maxRecDepth 100000 in
theorem spec_sense (w0 w : World) (g gv cv : Nat) (a1 : Option Addr) (n1 c1 : Nat) (a2 : Option Addr) (n2 c2 : Nat) (c : Cfg) (x : Sx) (hB : Below w0.heap.size w0 w) (hc : CfgAt c w0) (h : RnAt w0.heap.size g gv cv a1 n1 c1 a2 n2 c2 c x w)
    (hn : n2 ≤ 100000) (q : Int) (v : Int) (hv : c.src q n2 = v) :
    Calls Tryz.prog 158 #[.pointer (some ⟨g, 0, none⟩), .int .i64 q] w (SenseOut w0 w g gv cv a1 n1 c1 a2 n2 c2 c x v) := by
  obtain ⟨i0, hi, hz0, hz1, hz2⟩ := info_parts row.infoInt
  obtain ⟨al, nl, cl, Y, ar, nr, cr, R, z, lv⟩ := c
  have hcw := hc.below hB
  obtain ⟨hY, hR, hnl, hnr, hz, hYv⟩ := hcw
  dsimp only at hY hR hnl hnr hz hYv
  have H := Lib.hid h
  have HB := Lib.hid hB
  have c2' : w.cell? ⟨g, 2, none⟩ = some (.slice a2 n2 c2) := h.box.cell 2
  have c3' : w.cell? ⟨g, 3, none⟩ = some (.slice al nl cl) := h.box.cell 3
  have c4' : w.cell? ⟨g, 4, none⟩ = some (.slice ar nr cr) := h.box.cell 4
  have c5' : w.cell? ⟨g, 5, none⟩ = some (.int .i64 z) := h.box.cell 5
  have c6' : w.cell? ⟨g, 6, none⟩ = some (.bool lv) := h.box.cell 6
  have hBw : w0.heap.size ≤ w.heap.size := hB.size
  have fin : Hid (∀ (W : World) (a3 : Option Addr) (c3 : Nat), (∃ (d : Nat) (o : Obj), W.ownsRow w0.heap.size 3 1 (.slice a3 (n2 + 1) c3) (n2 + 1) (ivs (x.U ++ [v])) ∧ (w.drewN d |>.alloc o).grownBy W (Value.slice a2 n2 c2).ownBlock ∧ ((Value.slice a3 (n2 + 1) c3).ownBlock = (Value.slice a2 n2 c2).ownBlock ∨ (Value.slice a3 (n2 + 1) c3).ownBlock = some (w.heap.size + 1))) →
      Box g (rnC gv cv a1 n1 c1 a2 n2 c2 ⟨al, nl, cl, Y, ar, nr, cr, R, z, lv⟩) 154 W ∧
      SenseOut w0 w g gv cv a1 n1 c1 a2 n2 c2 ⟨al, nl, cl, Y, ar, nr, cr, R, z, lv⟩ x v (.returned (.int .i64 v)) (W.setCell ⟨g, 2, none⟩ (.slice a3 (n2 + 1) c3))) := by
    rintro W a3 c3 ⟨d, o, ho, hg, hat⟩
    have hg2 : w.grownBy W (Value.slice a2 n2 c2).ownBlock := (World.grownBy.trans (show w.grownBy (w.drewN d) _ from ⟨rfl, rfl, rfl, Nat.le_refl _, fun _ _ _ => rfl⟩) (World.grownBy_alloc (w.drewN d) o _)).trans hg
    have hr := h.sense (q := v) ho hg2 (hat.imp id (fun e b hb => by rw [e] at hb; cases hb; omega))
    refine ⟨h.box.grown hg2 (fun e => h.ug e.symm), rfl, ?_, fun k hk hkg hku => ?_, by simpa using hg2.size, a3, c3, hr⟩
    rotate_left
    · rw [heap_setCell_other W _ k _ (fun e => hkg e)]
      exact hg2.block k hk (fun e => hku e.symm)
    have h1 : Below w0.heap.size w0 W := hB.grown hg2 hBw (fun k hk => (own_block h.used k hk).1)
    exact h1.grown (grown_setCell W g 2 _) (Nat.le_trans hBw hg2.size) (fun k hk => by cases hk; exact h.low)
  clear hB hc
  cases lv
  · clear c4' c5'
    by_cases hlt : n2 < nl
    · have hI : (n2 : Int) < nl := by omega
      obtain ⟨b, off, y, rfl, hlb, hy, hcy⟩ := hY.2 n2 hlt
      obtain rfl : y = v := by rw [← hv]; exact (list_in hy q).symm
      have HV := Lib.hid hv
      clear hv hy hY hR
      go_enter Tryz.func158, Tryz.ntmps158
      go_wp2_with (at_builtin; refine wpList_append_own_at _ rfl _ _ 27 rfl w0.heap.size 3 i0 (.int .i64 0) 1 8 Tryz.underlying27 hi hz0 hz1 hz2 rfl (by decide) _ _ _ rfl (H.out.used.alloc _) ⟨w.heap.size, 0, none⟩ 1 1 [.int .i64 y] rfl rfl (World.news_of_block (cs := #[.int .i64 y]) (t := 3) (fr := (0, 0)) (heap_alloc_new w _)) (by simp [Value.oneCell']) (by unfold maxLen; omega) (by omega) (by simp; omega) ?_; intro v4 w4 hown4 hgrow4 _ hat4; refine Hid.out ?_)
      rw [ivs_snoc] at hown4
      obtain ⟨g4, cp4, rfl, hg4, _⟩ := hown4.form (by omega)
      obtain ⟨hbx, hfin⟩ := fin.out w4 _ _ ⟨0, _, hown4, hgrow4, hat4.imp (fun e => e) (fun e => by simpa using e)⟩
      have d2 : w4.cell? ⟨g, 2, none⟩ = some (.slice a2 n2 c2) := hbx.cell 2
      have f2 : w4.frozen? ⟨g, 2, none⟩ = false := hbx.frozen 2
      have HF := Lib.hid hfin
      clear hown4 hgrow4 hat4 hbx hfin fin
      refine Lib.hid ?_
      go_wp2
      go_ret
      exact HF.out
    · have hI : ¬ (n2 : Int) < nl := by omega
      obtain rfl : (0 : Int) = v := by rw [← hv]; exact (list_out (by rw [hY.1]; omega) q).symm
      have HV := Lib.hid hv
      clear hv hY hR
      go_enter Tryz.func158, Tryz.ntmps158
      go_wp2_with (at_builtin; refine wpList_append_own_at _ rfl _ _ 27 rfl w0.heap.size 3 i0 (.int .i64 0) 1 8 Tryz.underlying27 hi hz0 hz1 hz2 rfl (by decide) _ _ _ rfl (H.out.used.alloc _) ⟨w.heap.size, 0, none⟩ 1 1 [.int .i64 0] rfl rfl (World.news_of_block (cs := #[.int .i64 0]) (t := 3) (fr := (0, 0)) (heap_alloc_new w _)) (by simp [Value.oneCell']) (by unfold maxLen; omega) (by omega) (by simp; omega) ?_; intro v4 w4 hown4 hgrow4 _ hat4; refine Hid.out ?_)
      rw [ivs_snoc] at hown4
      obtain ⟨g4, cp4, rfl, hg4, _⟩ := hown4.form (by omega)
      obtain ⟨hbx, hfin⟩ := fin.out w4 _ _ ⟨0, _, hown4, hgrow4, hat4.imp (fun e => e) (fun e => by simpa using e)⟩
      have d2 : w4.cell? ⟨g, 2, none⟩ = some (.slice a2 n2 c2) := hbx.cell 2
      have f2 : w4.frozen? ⟨g, 2, none⟩ = false := hbx.frozen 2
      have HF := Lib.hid hfin
      clear hown4 hgrow4 hat4 hbx hfin fin
      refine Lib.hid ?_
      go_wp2
      go_ret
      exact HF.out
  · have hn0 : 0 ≤ z + n2 ∧ z + n2 ≤ 2000000 := by omega
    have hv2 : readS R q (z + n2) = v := hv
    have HQ := Lib.hid (readsensor_q w ar nr cr R hnr hR q (z + n2) v hv2)
    have HV := Lib.hid hv
    clear hv hv2 hY hR
    go_enter Tryz.func158, Tryz.ntmps158
    go_wp2
    go_quiet ((first | (go_at_call 199; with_reducible exact Calls.quiet_of_same (HQ.out _))))
    go_wp2_with (at_builtin; refine wpList_append_own_at _ rfl _ _ 27 rfl w0.heap.size 3 i0 (.int .i64 0) 1 8 Tryz.underlying27 hi hz0 hz1 hz2 rfl (by decide) _ _ _ rfl ((H.out.used.kept (grown_below (below_drewN (Below.refl _ w) _) none) (by cases a2 <;> simp [Value.ownBlock])).alloc _) ⟨w.heap.size, 0, none⟩ 1 1 [.int .i64 v] rfl rfl (World.news_of_block (cs := #[.int .i64 v]) (t := 3) (fr := (0, 0)) (heap_alloc_new (w.drewN _) _)) (by simp [Value.oneCell']) (by unfold maxLen; omega) (by omega) (by simp; omega) ?_; intro v4 w4 hown4 hgrow4 _ hat4; refine Hid.out ?_)
    rw [ivs_snoc] at hown4
    obtain ⟨g4, cp4, rfl, hg4, _⟩ := hown4.form (by omega)
    obtain ⟨hbx, hfin⟩ := fin.out w4 _ _ ⟨_, _, hown4, hgrow4, hat4.imp (fun e => e) (fun e => by simpa using e)⟩
    have d2 : w4.cell? ⟨g, 2, none⟩ = some (.slice a2 n2 c2) := hbx.cell 2
    have f2 : w4.frozen? ⟨g, 2, none⟩ = false := hbx.frozen 2
    have HF := Lib.hid hfin
    clear hown4 hgrow4 hat4 hbx hfin fin
    refine Lib.hid ?_
    go_wp2
    go_ret
    exact HF.out
end Go.Proofs.YtlicadaecfgklaaGreatDoor.exe
