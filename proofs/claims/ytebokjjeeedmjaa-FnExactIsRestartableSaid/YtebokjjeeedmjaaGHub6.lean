/- Several texts in one: ReadC Box. -/
import Derived.Test.YtebokjjeeedmjaaGHub2
import Derived.Test.YtebokjjeeedmjaaGHub5
import Derived.Deep.AppendLies
import Derived.WalkSpells
import Derived.Test.YtebokjjeeedmjaaGHub0
import Derived.Deep.MidRow
import Derived.Laws.ResultCell
import Derived.Laws.Rows

/- Chapter 3's ReadsOf of the model: the numbers of the variables that a valid expression names, in ascending order, in new memory; nothing that was there is written. -/
namespace Go.Proofs.Ytebokjjeeedmjaa.expr
open Go.ChangeShapes Go.WideShapes Go.ChangeAt Go.RowKit Go.Proofs.Ytebokjjeeedmjaa.row Go.Proofs.Ytebokjjeeedmjaa.val

def readsV (o a b : Int) : List Int := if exprOk o a b then rd a b 8 else []
/-- A new row of these numbers. -/
def NewInts (w : World) (L : List Int) (e : Ending) (w' : World) : Prop :=
  ∃ ad n cap, e = .returned (.slice ad n cap) ∧ w'.ownsRow w.heap.size 3 1 (.slice ad n cap) n (ivs L) ∧ Below w.heap.size w w'

set_option maxHeartbeats 1000000 in
set_option maxRecDepth 100000 in
theorem spec_reads_no (w : World) (o a b : Int) (he : exprOk o a b = false) :
    Calls Try.prog 84 #[ev o a b] w (NewInts w []) := by
  have hx := Box.new w #[.int .i64 o, .int .i64 a, .int .i64 b] 31
  have hn := below_new w (.cells #[.int .i64 o, .int .i64 a, .int .i64 b] 31)
  have H0 := Lib.hid (And.intro hx hn)
  clear hx hn
  have HE := Lib.hid he
  clear he
  go_enter Try.func84, Try.ntmps84
  go_wp2
  go_loopw [3, 4] (fun v i wr => v = .slice (some ⟨w.heap.size + 1, 0, none⟩) 0 0 ∧ i = .int .i64 0 ∧ wr.ownsRow w.heap.size 3 1 (.slice (some ⟨w.heap.size + 1, 0, none⟩) 0 0) 0 (ivs []) ∧ Box w.heap.size #[.int .i64 o, .int .i64 a, .int .i64 b] 31 wr ∧ Below w.heap.size w wr) (fun _ _ _ => 0)
  case atStart =>
    have hs : (w.alloc (.cells #[.int .i64 o, .int .i64 a, .int .i64 b] 31)).heap.size = w.heap.size + 1 := by simp
    refine ⟨by simp, rfl, ?_, H0.out.1.alloc _, below_then H0.out.2 (below_new _ _)⟩
    have := World.ownsRow_made (base := w.heap.size) (e := 3) (size := 1) (w.alloc (.cells #[.int .i64 o, .int .i64 a, .int .i64 b] 31)) #[] 0 (by simp) (by decide) rfl
    rw [hs] at this
    exact this
  case round =>
    obtain ⟨rfl, rfl, hown, hbox, hbel⟩ := hrel
    have c0 := hbox.cell 0
    have c1 := hbox.cell 1
    have c2 := hbox.cell 2
    have H1 := Lib.hid (And.intro hown hbel)
    clear hown hbel hbox
    go_wp2_with (go_at_call 59; refine (spec_exprok _ _ _ _ HE.out _).mono ?_; rintro e w2 ⟨rfl, hb2⟩)
    go_ret
    exact ⟨_, _, _, rfl, H1.out.1.kept (grown_below hb2 none) (by simp [Value.ownBlock]), below_then H1.out.2 hb2⟩
set_option maxHeartbeats 2000000 in
set_option maxRecDepth 100000 in
theorem spec_reads_ok (w : World) (o a b : Int) (he : exprOk o a b = true) :
    Calls Try.prog 84 #[ev o a b] w (NewInts w (rd a b 8)) := by
  obtain ⟨i0, hi, hz0, hz1, hz2⟩ := info_parts infoInt
  have hx := Box.new w #[.int .i64 o, .int .i64 a, .int .i64 b] 31
  have hn := below_new w (.cells #[.int .i64 o, .int .i64 a, .int .i64 b] 31)
  have H0 := Lib.hid (And.intro hx hn)
  clear hx hn
  have HE := Lib.hid he
  clear he
  go_enter Try.func84, Try.ntmps84
  go_wp2
  go_loopw [3, 4] (fun v i wr => ∃ (k n cap : Nat) (ad : Option Addr), k ≤ 8 ∧ i = .int .i64 k ∧ v = .slice ad n cap ∧ n ≤ k ∧ wr.ownsRow (w.heap.size + 1) 3 1 (.slice ad n cap) n (ivs (rd a b k)) ∧ Box w.heap.size #[.int .i64 o, .int .i64 a, .int .i64 b] 31 wr ∧ Below w.heap.size w wr) (fun _ i _ => 8 - (intOf i).toNat)
  case atStart =>
    have hs : (w.alloc (.cells #[.int .i64 o, .int .i64 a, .int .i64 b] 31)).heap.size = w.heap.size + 1 := by simp
    refine ⟨0, 0, 0, some ⟨w.heap.size + 1, 0, none⟩, Nat.zero_le _, rfl, by simp, Nat.le_refl _, ?_, H0.out.1.alloc _, below_then H0.out.2 (below_new _ _)⟩
    have := World.ownsRow_made (base := w.heap.size + 1) (e := 3) (size := 1) (w.alloc (.cells #[.int .i64 o, .int .i64 a, .int .i64 b] 31)) #[] 0 (by simp) (by decide) rfl
    rw [hs] at this
    exact this
  case round =>
    obtain ⟨k, n, cap, ad, hk, rfl, rfl, hnk, hown, hbox, hbel⟩ := hrel
    have c0 := hbox.cell 0
    have c1 := hbox.cell 1
    have c2 := hbox.cell 2
    by_cases hlt : k < 8
    · have hI : (k : Int) < 8 := by omega
      have H1 := Lib.hid (And.intro hown (And.intro hbox hbel))
      clear hown hbel hbox
      go_wp2_with (go_at_call 59; refine (spec_exprok _ _ _ _ HE.out _).mono ?_; rintro e w2 ⟨rfl, hb2⟩; refine Hid.out ?_)
      have hown2 := H1.out.1.kept (grown_below hb2 none) (by cases ad <;> simp [Value.ownBlock])
      have hbox2 := H1.out.2.1.below hb2
      have hbel2 := below_then H1.out.2.2 hb2
      clear c0 c1 c2 hb2 H1
      have c0 := hbox2.cell 0
      have c1 := hbox2.cell 1
      have c2 := hbox2.cell 2
      have hsz := hbox2.lt
      by_cases hyes : a = -1 - (k : Int) ∨ b = -1 - (k : Int)
      · have HRD := Lib.hid (rd_yes hyes)
        have HN : Hid (∀ j, (Value.slice ad n cap).ownBlock = some j → w.heap.size + 1 ≤ j) := fun j hj => (hown2.lt j hj).1
        have H2 := Lib.hid (And.intro hbox2 hbel2)
        have HO2 := Lib.hid hown2
        rcases (show (a == -1 - (k : Int)) = true ∨ ((a == -1 - (k : Int)) = false ∧ (b == -1 - (k : Int)) = true) by by_cases h : a = -1 - (k : Int); exact Or.inl (by simp [h]); exact Or.inr ⟨by simp [h], by rcases hyes with h' | h'; exact absurd h' h; simp [h']⟩) with t1 | ⟨t1, t2⟩
        all_goals
          clear hyes hown2 hbox2 hbel2
          refine Lib.hid ?_
          go_wp2_with (at_builtin; refine wpList_append_own _ rfl _ _ 34 rfl (w.heap.size + 1) 3 i0 (.int .i64 0) 1 8 Try.underlying34 hi hz0 hz1 hz2 rfl (by decide) _ _ _ rfl (HO2.out.alloc _) ⟨w2.heap.size, 0, none⟩ 1 1 [.int .i64 k] rfl rfl (World.news_of_block (cs := #[.int .i64 k]) (t := 3) (fr := (0, 0)) (heap_alloc_new w2 _)) (by simp [Value.oneCell']) (by unfold maxLen; omega) (by omega) (by simp; omega) ?_; intro v3 w3 hown3 hgrow3 _; refine Hid.out ?_)
          rw [ivs_snoc, ← HRD.out] at hown3
          have hbox3 := (H2.out.1.alloc (.cells #[.int .i64 k] 3)).grown hgrow3 (fun e => by have := HN.out _ e.symm; omega)
          have hbel3 := (below_then H2.out.2 (below_new w2 (.cells #[.int .i64 k] 3))).grown hgrow3 (by have := H2.out.2.size; simp; omega) (fun j hj => by have := HN.out j hj; omega)
          have HR := Lib.hid (And.intro hown3 (And.intro hbox3 hbel3))
          have hform := hown3.form (by omega)
          obtain ⟨g3, cap3, rfl, _, _⟩ := hform
          clear hown3 hbox3 hbel3 hgrow3 c0 c1 c2
          refine Lib.hid ?_
          go_wp2
          go_roundw
          case rel => exact ⟨k + 1, n + 1, cap3, _, by omega, by go_num, rfl, by omega, HR.out.1, HR.out.2.1, HR.out.2.2⟩
          case measure => simp [intOf]; omega
      · have HRD := Lib.hid (rd_no hyes)
        have t1 : (a == -1 - (k : Int)) = false := by simp; omega
        have t2 : (b == -1 - (k : Int)) = false := by simp; omega
        rw [← HRD.out] at hown2
        have HR := Lib.hid (And.intro hown2 (And.intro hbox2 hbel2))
        clear hyes hown2 hbox2 hbel2
        refine Lib.hid ?_
        go_wp2
        go_roundw
        case rel => exact ⟨k + 1, n, cap, ad, by omega, by go_num, rfl, by omega, HR.out.1, HR.out.2.1, HR.out.2.2⟩
        case measure => simp [intOf]; omega
    · have hk8 : k = 8 := by omega
      subst hk8
      have HR := Lib.hid (And.intro hown hbel)
      clear hown hbox hbel
      go_wp2
      go_ret
      exact ⟨_, _, _, rfl, HR.out.1.mono (by omega), HR.out.2⟩
theorem spec_reads (w : World) (o a b : Int) : Calls Try.prog 84 #[ev o a b] w (NewInts w (readsV o a b)) := by
  cases he : exprOk o a b
  · simpa [readsV, he] using spec_reads_no w o a b he
  · simpa [readsV, he] using spec_reads_ok w o a b he
end Go.Proofs.Ytebokjjeeedmjaa.expr

/- A law for a store of a whole struct into a block that is known whole: behind it the block is the stored cells; nothing else is written. -/
namespace Go.Proofs.Ytebokjjeeedmjaa.row
open Go.ChangeShapes Go.WideShapes Go.ChangeAt Go.RowKit

theorem box_setCells {t : TypeId} (g : Nat) : ∀ (vs : List Value) (o : Nat) (w : World) (cs : Array Value), Box g cs t w → ∃ cs' : Array Value, cs'.size = cs.size ∧ Box g cs' t (w.setCells g o vs)
  | [], _, _, cs, h => ⟨cs, rfl, h⟩
  | v :: r, o, w, cs, h => by
    obtain ⟨cs', h1, h2⟩ := box_setCells g r (o + 1) (w.setCell ⟨g, o, none⟩ v) _ (h.set o v)
    exact ⟨cs', by rw [h1]; simp, h2⟩
theorem grown_setCells (g : Nat) : ∀ (vs : List Value) (o : Nat) (w : World), w.grownBy (w.setCells g o vs) (some g)
  | [], _, w => grown_refl w _
  | v :: r, o, w => grown_trans (grown_setCell w g o v) (grown_setCells g r (o + 1) (w.setCell ⟨g, o, none⟩ v))
theorem box_there {t : TypeId} {g : Nat} {cs : Array Value} {w : World} (h : Box g cs t w) : w.there g 0 cs.size := fun j hj => by
  refine ⟨?_, h.frozen _⟩
  rw [h.cell, Nat.zero_add]; simp [hj]
theorem box_stored {t : TypeId} {g : Nat} {cs : Array Value} {w : World} (h : Box g cs t w) (cells : Array Value) (hs : cells.size = cs.size) : Box g cells t (w.setCells g 0 cells.toList) := by
  obtain ⟨cs', h1, h2⟩ := box_setCells g cells.toList 0 w cs h
  have e : cs' = cells := by
    apply Array.ext (by omega)
    intro i hi1 hi2
    have hc := h2.cell i
    have hin := World.cell?_setCells_in g cells.toList 0 w (fun j hj => by have := (box_there h j (by simp at hj; omega)).1; simpa using this) i (by simpa using hi2)
    rw [Nat.zero_add] at hin
    rw [hin, Array.getElem?_eq_getElem hi1] at hc
    have := Option.some.inj hc
    simpa using this.symm
  rw [← e]; rw [← e] at h2; exact h2

theorem wpList_store_box {P : Program} {ops : Array Oper} {rest : List Oper} {op : Oper} {a : Act} {w : World} {Q : Exit → Act → World → Prop} (hgd : op.guard = none) (ty : TypeId) (x y : Operand) (ho : op.op = .store ty x y)
    (g : Nat) (cs : Array Value) (t : TypeId) (hb : Box g cs t w) (cells : Array Value) (hx : a.eval x = .pointer (some ⟨g, 0, none⟩)) (hy : a.eval y = .agg cells) (hs : cells.size = cs.size)
    (hi : (P.info? ty).map (·.size) = some cells.size) (h1 : cells.all (·.oneCell') = true)
    (h : ∀ w', Box g cells t w' → w.grownBy w' (some g) → wpList P ops Q rest (a.put op.dst undef) w') : wpList P ops Q (op :: rest) a w :=
  wpList_store_mid hgd ty x y ho g 0 cells hx hy (by rw [hs]; exact box_there hb) hi h1 (h _ (box_stored hb cells hs) (grown_setCells g _ 0 w))
/-- A store of a struct into a part of a block that is known whole. -/
def setAll : Array Value → Nat → List Value → Array Value
  | cs, _, [] => cs
  | cs, o, v :: r => setAll (cs.setIfInBounds o v) (o + 1) r
theorem box_setAll {t : TypeId} (g : Nat) : ∀ (vs : List Value) (o : Nat) (w : World) (cs : Array Value), Box g cs t w → Box g (setAll cs o vs) t (w.setCells g o vs)
  | [], _, _, _, h => h
  | v :: r, o, w, _, h => box_setAll g r (o + 1) (w.setCell ⟨g, o, none⟩ v) _ (h.set o v)
theorem box_there_part {t : TypeId} {g : Nat} {cs : Array Value} {w : World} (h : Box g cs t w) (o n : Nat) (hn : o + n ≤ cs.size) : w.there g o n := fun j hj => by
  refine ⟨?_, h.frozen _⟩
  rw [h.cell]; simp; omega
theorem wpList_store_part {P : Program} {ops : Array Oper} {rest : List Oper} {op : Oper} {a : Act} {w : World} {Q : Exit → Act → World → Prop} (hgd : op.guard = none) (ty : TypeId) (x y : Operand) (ho : op.op = .store ty x y)
    (g o : Nat) (cs : Array Value) (t : TypeId) (hb : Box g cs t w) (cells : Array Value) (hx : a.eval x = .pointer (some ⟨g, o, none⟩)) (hy : a.eval y = .agg cells) (hs : o + cells.size ≤ cs.size)
    (hi : (P.info? ty).map (·.size) = some cells.size) (h1 : cells.all (·.oneCell') = true)
    (h : ∀ w', Box g (setAll cs o cells.toList) t w' → w.grownBy w' (some g) → wpList P ops Q rest (a.put op.dst undef) w') : wpList P ops Q (op :: rest) a w :=
  wpList_store_mid hgd ty x y ho g o cells hx hy (box_there_part hb o _ hs) hi h1 (h _ (box_setAll g _ o _ _ hb) (grown_setCells g _ o w))
/-- The same two laws at a step of a region that draws its order. -/
theorem step_store_box {P : Program} {ops : Array Oper} {o : Oper} {a : Act} {w : World} {K : Act → World → Prop} {Q : Exit → Act → World → Prop} {E : Prop} (hgd : o.guard = none) (ty : TypeId) (x y : Operand) (ho : o.op = .store ty x y)
    (g : Nat) (cs : Array Value) (t : TypeId) (hb : Box g cs t w) (cells : Array Value) (hx : a.eval x = .pointer (some ⟨g, 0, none⟩)) (hy : a.eval y = .agg cells) (hs : cells.size = cs.size)
    (hi : (P.info? ty).map (·.size) = some cells.size) (h1 : cells.all (·.oneCell') = true)
    (h : ∀ w', Box g cells t w' → w.grownBy w' (some g) → K (a.put o.dst undef) w') : if Region.wanted o (yielded ops a.tmps) = true then Oper.wp P o a w K Q else E := by
  have hw : Region.wanted o (yielded ops a.tmps) = true := by simp [Region.wanted, hgd]
  rw [if_pos hw]
  exact wp_store_mid ty x y ho g 0 cells hx hy (by rw [hs]; exact box_there hb) hi h1 (h _ (box_stored hb cells hs) (grown_setCells g _ 0 w))
theorem step_store_part {P : Program} {ops : Array Oper} {op : Oper} {a : Act} {w : World} {K : Act → World → Prop} {Q : Exit → Act → World → Prop} {E : Prop} (hgd : op.guard = none) (ty : TypeId) (x y : Operand) (ho : op.op = .store ty x y)
    (g o : Nat) (cs : Array Value) (t : TypeId) (hb : Box g cs t w) (cells : Array Value) (hx : a.eval x = .pointer (some ⟨g, o, none⟩)) (hy : a.eval y = .agg cells) (hs : o + cells.size ≤ cs.size)
    (hi : (P.info? ty).map (·.size) = some cells.size) (h1 : cells.all (·.oneCell') = true)
    (h : ∀ w', Box g (setAll cs o cells.toList) t w' → w.grownBy w' (some g) → K (a.put op.dst undef) w') : if Region.wanted op (yielded ops a.tmps) = true then Oper.wp P op a w K Q else E := by
  have hw : Region.wanted op (yielded ops a.tmps) = true := by simp [Region.wanted, hgd]
  rw [if_pos hw]
  exact wp_store_mid ty x y ho g o cells hx hy (box_there_part hb o _ hs) hi h1 (h _ (box_setAll g _ o _ _ hb) (grown_setCells g _ o w))
/-- Two results: a struct in a block that is known whole, and a value. -/
theorem results_box2 {P : Program} {fn : Func} {p u : Tmp} {ty : TypeId} (h : fn.results = #[.cell p ty, .tmp u]) (tmps : Array Value) (w : World) (g : Nat) (t : TypeId) (cs : Array Value) (d : TypeDesc) (r : Value)
    (hp : tmps.getD p undef = .pointer (some ⟨g, 0, none⟩)) (hr : tmps.getD u undef = r) (hg : Box g cs t w)
    (hu : P.underlying ty = some d) (hd : (match d with | .struct _ | .array _ _ => true | _ => false) = true) (hi : (P.info? ty).map (·.size) = some cs.size) :
    (results fn tmps).run P w = .ok (.tuple #[.agg cs, r]) w := by
  rw [results_cell_tmp h, hp, hr]
  simp [asAddr, run_loadVar_row w g t ty cs (0, 0) d hg hu hd hi, Result.andThen]
end Go.Proofs.Ytebokjjeeedmjaa.row
