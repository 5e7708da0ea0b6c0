/- Several texts in one: RecQ Box. -/
import Derived.Test.YtlicadaecfgklaaGHub2
import Derived.Test.YtlicadaecfgklaaGHub3
import Derived.Test.YtlicadaecfgklaaGHub4
import Derived.Test.YtlicadaecfgklaaGHub0
import Derived.Deep.MidRow
import Derived.Laws.ResultCell
import Derived.Laws.Rows

/- Chapter 15, plain mathematics: what RecoveryWrites must give. -/
namespace Go.Proofs.Ytlicadaecfgklaa.rcv
open Go Go.Proofs.Ytlicadaecfgklaa.stm Go.Proofs.Ytlicadaecfgklaa.val Go.Proofs.Ytlicadaecfgklaa.wrt Go.Proofs.Ytlicadaecfgklaa.ctl
/-! The recovery. -/
def recEnt (W : List Int) (c : Nat) : List Wt := (List.range c).reverse.map fun i => ⟨W.getD (9 + 2 * i) 0, W.getD (10 + 2 * i) 0⟩
def RecOk (W : List Int) : Prop := W.length = 49 ∧ wOk (W.getD 8 0) = true ∧ 0 < wC (W.getD 8 0) ∧ ∀ i, i < (wC (W.getD 8 0)).toNat → varOk (W.getD (9 + 2 * i) 0) = true
/-- What RecoveryWrites must give. -/
def RecIs (W : List Int) (Q : List Wt) : Prop :=
  (RecOk W ∧ Q = recEnt W (wC (W.getD 8 0)).toNat ++ [⟨8, packV (wT (W.getD 8 0)) 0 (wN (W.getD 8 0))⟩]) ∨ (¬ RecOk W ∧ Q = [])
theorem recIs_ex (W : List Int) : ∃ Q, RecIs W Q := by
  rcases Classical.em (RecOk W) with h | h
  · exact ⟨_, .inl ⟨h, rfl⟩⟩
  · exact ⟨_, .inr ⟨h, rfl⟩⟩
/-- The writes themselves. -/
noncomputable def recW (W : List Int) : List Wt := Classical.choose (recIs_ex W)
theorem recW_is (W : List Int) : RecIs W (recW W) := Classical.choose_spec (recIs_ex W)
theorem RecIs.unique {W : List Int} {Q Q' : List Wt} (h : RecIs W Q) (h' : RecIs W Q') : Q = Q' := by
  rcases h with ⟨h1, rfl⟩ | ⟨h1, rfl⟩ <;> rcases h' with ⟨h2, rfl⟩ | ⟨h2, rfl⟩
  · rfl
  · exact absurd h1 h2
  · exact absurd h2 h1
  · rfl
/-- Writes that put back what was there. -/
theorem put_back (Mem : List Int) : ∀ (K : List Wt) (W : List Int), W.length = 49 → (∀ x ∈ K, ∃ v : Nat, v < 8 ∧ x.p = v ∧ Mem[v]? = some x.v) →
    (putAll W K).length = 49 ∧ (∀ j : Nat, 8 ≤ j → (putAll W K)[j]? = W[j]?) ∧ ∀ j : Nat, (putAll W K)[j]? = Mem[j]? ∨ ((putAll W K)[j]? = W[j]? ∧ ∀ x ∈ K, x.p ≠ j)
  | [], W, hW, _ => ⟨hW, fun _ _ => rfl, fun j => .inr ⟨rfl, fun x hx => by cases hx⟩⟩
  | x :: K, W, hW, h => by
    obtain ⟨v, hv, hx, hm⟩ := h x (by simp)
    have hl : (put1 W x).length = 49 := by rw [put1_len, hW]
    obtain ⟨i1, i2, i3⟩ := put_back Mem K (put1 W x) hl (fun x' hx' => h x' (List.mem_cons_of_mem _ hx'))
    rw [show putAll W (x :: K) = putAll (put1 W x) K from rfl]
    refine ⟨i1, fun j hj => by rw [i2 j hj, put1_other (by rw [hx]; omega)], fun j => ?_⟩
    rcases i3 j with e | ⟨e, e2⟩
    · exact .inl e
    · by_cases hj : j = v
      · subst hj
        left
        rw [e, put1_in hx (by omega), List.getElem?_set_self (by omega), hm]
      · right
        refine ⟨by rw [e, put1_other (by rw [hx]; omega)], fun x' hx' => ?_⟩
        rcases List.mem_cons.1 hx' with rfl | hx'
        · rw [hx]; omega
        · exact e2 x' hx'
/-- The entries from the last one on, the first 'j' of them. -/
def recTop (W : List Int) (c j : Nat) : List Wt := (List.range j).map fun m => ⟨W.getD (9 + 2 * (c - 1 - m)) 0, W.getD (10 + 2 * (c - 1 - m)) 0⟩
theorem recTop_len (W : List Int) (c j : Nat) : (recTop W c j).length = j := by simp [recTop]
theorem recTop_next (W : List Int) {c p : Nat} (h : p < c) : recTop W c (c - p) = recTop W c (c - (p + 1)) ++ [⟨W.getD (9 + 2 * p) 0, W.getD (10 + 2 * p) 0⟩] := by
  unfold recTop
  rw [show c - p = c - (p + 1) + 1 by omega, List.range_succ, List.map_append]
  rw [show c - (p + 1) = c - 1 - p by omega]
  simp [show c - 1 - (c - 1 - p) = p by omega]
theorem recTop_all (W : List Int) (c : Nat) : recTop W c c = recEnt W c := by
  refine List.ext_getElem (by simp [recTop, recEnt]) fun i h1 h2 => ?_
  simp [recTop, recEnt]
theorem RecIs.none {W : List Int} {Q : List Wt} (h : RecIs W Q) (hn : ¬ RecOk W) : Q = [] := by
  rcases h with ⟨h1, _⟩ | ⟨_, h1⟩
  · exact absurd h1 hn
  · exact h1
theorem RecIs.some {W : List Int} {Q : List Wt} (h : RecIs W Q) (hy : RecOk W) : Q = recEnt W (wC (W.getD 8 0)).toNat ++ [⟨8, packV (wT (W.getD 8 0)) 0 (wN (W.getD 8 0))⟩] := by
  rcases h with ⟨_, h1⟩ | ⟨h1, _⟩
  · exact h1
  · exact absurd hy h1
end Go.Proofs.Ytlicadaecfgklaa.rcv

/- A law for a store of a whole struct into a block that is known whole: behind it the block is the stored cells; nothing else is written. -/
namespace Go.Proofs.Ytlicadaecfgklaa.row
open Go.ChangeShapes Go.WideShapes Go.ChangeAt Go.RowKit

theorem box_setCells {t : TypeId} (g : Nat) : ∀ (vs : List Value) (o : Nat) (w : World) (cs : Array Value), Box g cs t w → ∃ cs' : Array Value, cs'.size = cs.size ∧ Box g cs' t (w.setCells g o vs)
  | [], _, _, cs, h => ⟨cs, rfl, h⟩
  | v :: r, o, w, cs, h => by
    obtain ⟨cs', h1, h2⟩ := box_setCells g r (o + 1) (w.setCell ⟨g, o, none⟩ v) _ (h.set o v)
    exact ⟨cs', by rw [h1]; simp, h2⟩
theorem grown_setCells (g : Nat) : ∀ (vs : List Value) (o : Nat) (w : World), w.grownBy (w.setCells g o vs) (some g)
  | [], _, w => grown_refl w _
  | v :: r, o, w => grown_trans (grown_setCell w g o v) (grown_setCells g r (o + 1) (w.setCell ⟨g, o, none⟩ v))
theorem box_there {t : TypeId} {g : Nat} {cs : Array Value} {w : World} (h : Box g cs t w) : w.there g 0 cs.size := fun j hj => by
  refine ⟨?_, h.frozen _⟩
  rw [h.cell, Nat.zero_add]; simp [hj]
theorem box_stored {t : TypeId} {g : Nat} {cs : Array Value} {w : World} (h : Box g cs t w) (cells : Array Value) (hs : cells.size = cs.size) : Box g cells t (w.setCells g 0 cells.toList) := by
  obtain ⟨cs', h1, h2⟩ := box_setCells g cells.toList 0 w cs h
  have e : cs' = cells := by
    apply Array.ext (by omega)
    intro i hi1 hi2
    have hc := h2.cell i
    have hin := World.cell?_setCells_in g cells.toList 0 w (fun j hj => by have := (box_there h j (by simp at hj; omega)).1; simpa using this) i (by simpa using hi2)
    rw [Nat.zero_add] at hin
    rw [hin, Array.getElem?_eq_getElem hi1] at hc
    have := Option.some.inj hc
    simpa using this.symm
  rw [← e]; rw [← e] at h2; exact h2

theorem wpList_store_box {P : Program} {ops : Array Oper} {rest : List Oper} {op : Oper} {a : Act} {w : World} {Q : Exit → Act → World → Prop} (hgd : op.guard = none) (ty : TypeId) (x y : Operand) (ho : op.op = .store ty x y)
    (g : Nat) (cs : Array Value) (t : TypeId) (hb : Box g cs t w) (cells : Array Value) (hx : a.eval x = .pointer (some ⟨g, 0, none⟩)) (hy : a.eval y = .agg cells) (hs : cells.size = cs.size)
    (hi : (P.info? ty).map (·.size) = some cells.size) (h1 : cells.all (·.oneCell') = true)
    (h : ∀ w', Box g cells t w' → w.grownBy w' (some g) → wpList P ops Q rest (a.put op.dst undef) w') : wpList P ops Q (op :: rest) a w :=
  wpList_store_mid hgd ty x y ho g 0 cells hx hy (by rw [hs]; exact box_there hb) hi h1 (h _ (box_stored hb cells hs) (grown_setCells g _ 0 w))
/-- A store of a struct into a part of a block that is known whole. -/
def setAll : Array Value → Nat → List Value → Array Value
  | cs, _, [] => cs
  | cs, o, v :: r => setAll (cs.setIfInBounds o v) (o + 1) r
theorem box_setAll {t : TypeId} (g : Nat) : ∀ (vs : List Value) (o : Nat) (w : World) (cs : Array Value), Box g cs t w → Box g (setAll cs o vs) t (w.setCells g o vs)
  | [], _, _, _, h => h
  | v :: r, o, w, _, h => box_setAll g r (o + 1) (w.setCell ⟨g, o, none⟩ v) _ (h.set o v)
theorem box_there_part {t : TypeId} {g : Nat} {cs : Array Value} {w : World} (h : Box g cs t w) (o n : Nat) (hn : o + n ≤ cs.size) : w.there g o n := fun j hj => by
  refine ⟨?_, h.frozen _⟩
  rw [h.cell]; simp; omega
theorem wpList_store_part {P : Program} {ops : Array Oper} {rest : List Oper} {op : Oper} {a : Act} {w : World} {Q : Exit → Act → World → Prop} (hgd : op.guard = none) (ty : TypeId) (x y : Operand) (ho : op.op = .store ty x y)
    (g o : Nat) (cs : Array Value) (t : TypeId) (hb : Box g cs t w) (cells : Array Value) (hx : a.eval x = .pointer (some ⟨g, o, none⟩)) (hy : a.eval y = .agg cells) (hs : o + cells.size ≤ cs.size)
    (hi : (P.info? ty).map (·.size) = some cells.size) (h1 : cells.all (·.oneCell') = true)
    (h : ∀ w', Box g (setAll cs o cells.toList) t w' → w.grownBy w' (some g) → wpList P ops Q rest (a.put op.dst undef) w') : wpList P ops Q (op :: rest) a w :=
  wpList_store_mid hgd ty x y ho g o cells hx hy (box_there_part hb o _ hs) hi h1 (h _ (box_setAll g _ o _ _ hb) (grown_setCells g _ o w))
/-- The same two laws at a step of a region that draws its order. -/
theorem step_store_box {P : Program} {ops : Array Oper} {o : Oper} {a : Act} {w : World} {K : Act → World → Prop} {Q : Exit → Act → World → Prop} {E : Prop} (hgd : o.guard = none) (ty : TypeId) (x y : Operand) (ho : o.op = .store ty x y)
    (g : Nat) (cs : Array Value) (t : TypeId) (hb : Box g cs t w) (cells : Array Value) (hx : a.eval x = .pointer (some ⟨g, 0, none⟩)) (hy : a.eval y = .agg cells) (hs : cells.size = cs.size)
    (hi : (P.info? ty).map (·.size) = some cells.size) (h1 : cells.all (·.oneCell') = true)
    (h : ∀ w', Box g cells t w' → w.grownBy w' (some g) → K (a.put o.dst undef) w') : if Region.wanted o (yielded ops a.tmps) = true then Oper.wp P o a w K Q else E := by
  have hw : Region.wanted o (yielded ops a.tmps) = true := by simp [Region.wanted, hgd]
  rw [if_pos hw]
  exact wp_store_mid ty x y ho g 0 cells hx hy (by rw [hs]; exact box_there hb) hi h1 (h _ (box_stored hb cells hs) (grown_setCells g _ 0 w))
theorem step_store_part {P : Program} {ops : Array Oper} {op : Oper} {a : Act} {w : World} {K : Act → World → Prop} {Q : Exit → Act → World → Prop} {E : Prop} (hgd : op.guard = none) (ty : TypeId) (x y : Operand) (ho : op.op = .store ty x y)
    (g o : Nat) (cs : Array Value) (t : TypeId) (hb : Box g cs t w) (cells : Array Value) (hx : a.eval x = .pointer (some ⟨g, o, none⟩)) (hy : a.eval y = .agg cells) (hs : o + cells.size ≤ cs.size)
    (hi : (P.info? ty).map (·.size) = some cells.size) (h1 : cells.all (·.oneCell') = true)
    (h : ∀ w', Box g (setAll cs o cells.toList) t w' → w.grownBy w' (some g) → K (a.put op.dst undef) w') : if Region.wanted op (yielded ops a.tmps) = true then Oper.wp P op a w K Q else E := by
  have hw : Region.wanted op (yielded ops a.tmps) = true := by simp [Region.wanted, hgd]
  rw [if_pos hw]
  exact wp_store_mid ty x y ho g o cells hx hy (box_there_part hb o _ hs) hi h1 (h _ (box_setAll g _ o _ _ hb) (grown_setCells g _ o w))
/-- Two results: a struct in a block that is known whole, and a value. -/
theorem results_box2 {P : Program} {fn : Func} {p u : Tmp} {ty : TypeId} (h : fn.results = #[.cell p ty, .tmp u]) (tmps : Array Value) (w : World) (g : Nat) (t : TypeId) (cs : Array Value) (d : TypeDesc) (r : Value)
    (hp : tmps.getD p undef = .pointer (some ⟨g, 0, none⟩)) (hr : tmps.getD u undef = r) (hg : Box g cs t w)
    (hu : P.underlying ty = some d) (hd : (match d with | .struct _ | .array _ _ => true | _ => false) = true) (hi : (P.info? ty).map (·.size) = some cs.size) :
    (results fn tmps).run P w = .ok (.tuple #[.agg cs, r]) w := by
  rw [results_cell_tmp h, hp, hr]
  simp [asAddr, run_loadVar_row w g t ty cs (0, 0) d hg hu hd hi, Result.andThen]
end Go.Proofs.Ytlicadaecfgklaa.row
