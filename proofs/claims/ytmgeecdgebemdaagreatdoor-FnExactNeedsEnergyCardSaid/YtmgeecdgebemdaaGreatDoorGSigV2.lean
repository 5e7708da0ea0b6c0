/- Several texts in one: VBox VStmC VEqS VStmR. -/
import Derived.Test.YtmgeecdgebemdaaGreatDoorGSigV0
import Derived.Deep.MidRow
import Derived.Laws.ResultCell
import Derived.Laws.Rows
import Derived.Test.YtmgeecdgebemdaaGreatDoorGSigV1

/- A law for a store of a whole struct into a block that is known whole: behind it the block is the stored cells; nothing else is written. -/
namespace Go.Proofs.YtmgeecdgebemdaaGreatDoor.row
open Go.ChangeShapes Go.WideShapes Go.ChangeAt Go.RowKit
theorem box_setCells {t : TypeId} (g : Nat) : ∀ (vs : List Value) (o : Nat) (w : World) (cs : Array Value), Box g cs t w → ∃ cs' : Array Value, cs'.size = cs.size ∧ Box g cs' t (w.setCells g o vs)
  | [], _, _, cs, h => ⟨cs, rfl, h⟩
  | v :: r, o, w, cs, h => by
    obtain ⟨cs', h1, h2⟩ := box_setCells g r (o + 1) (w.setCell ⟨g, o, none⟩ v) _ (h.set o v)
    exact ⟨cs', by rw [h1]; simp, h2⟩
theorem grown_setCells (g : Nat) : ∀ (vs : List Value) (o : Nat) (w : World), w.grownBy (w.setCells g o vs) (some g)
  | [], _, w => grown_refl w _
  | v :: r, o, w => grown_trans (grown_setCell w g o v) (grown_setCells g r (o + 1) (w.setCell ⟨g, o, none⟩ v))
theorem box_there {t : TypeId} {g : Nat} {cs : Array Value} {w : World} (h : Box g cs t w) : w.there g 0 cs.size := fun j hj => by
  refine ⟨?_, h.frozen _⟩
  rw [h.cell, Nat.zero_add]; simp [hj]
theorem box_stored {t : TypeId} {g : Nat} {cs : Array Value} {w : World} (h : Box g cs t w) (cells : Array Value) (hs : cells.size = cs.size) : Box g cells t (w.setCells g 0 cells.toList) := by
  obtain ⟨cs', h1, h2⟩ := box_setCells g cells.toList 0 w cs h
  have e : cs' = cells := by
    apply Array.ext (by omega)
    intro i hi1 hi2
    have hc := h2.cell i
    have hin := World.cell?_setCells_in g cells.toList 0 w (fun j hj => by have := (box_there h j (by simp at hj; omega)).1; simpa using this) i (by simpa using hi2)
    rw [Nat.zero_add] at hin
    rw [hin, Array.getElem?_eq_getElem hi1] at hc
    have := Option.some.inj hc
    simpa using this.symm
  rw [← e]; rw [← e] at h2; exact h2

theorem wpList_store_box {P : Program} {ops : Array Oper} {rest : List Oper} {op : Oper} {a : Act} {w : World} {Q : Exit → Act → World → Prop} (hgd : op.guard = none) (ty : TypeId) (x y : Operand) (ho : op.op = .store ty x y)
    (g : Nat) (cs : Array Value) (t : TypeId) (hb : Box g cs t w) (cells : Array Value) (hx : a.eval x = .pointer (some ⟨g, 0, none⟩)) (hy : a.eval y = .agg cells) (hs : cells.size = cs.size)
    (hi : (P.info? ty).map (·.size) = some cells.size) (h1 : cells.all (·.oneCell') = true)
    (h : ∀ w', Box g cells t w' → w.grownBy w' (some g) → wpList P ops Q rest (a.put op.dst undef) w') : wpList P ops Q (op :: rest) a w :=
  wpList_store_mid hgd ty x y ho g 0 cells hx hy (by rw [hs]; exact box_there hb) hi h1 (h _ (box_stored hb cells hs) (grown_setCells g _ 0 w))
/-- A store of a struct into a part of a block that is known whole. -/
def setAll : Array Value → Nat → List Value → Array Value
  | cs, _, [] => cs
  | cs, o, v :: r => setAll (cs.setIfInBounds o v) (o + 1) r
theorem box_setAll {t : TypeId} (g : Nat) : ∀ (vs : List Value) (o : Nat) (w : World) (cs : Array Value), Box g cs t w → Box g (setAll cs o vs) t (w.setCells g o vs)
  | [], _, _, _, h => h
  | v :: r, o, w, _, h => box_setAll g r (o + 1) (w.setCell ⟨g, o, none⟩ v) _ (h.set o v)
theorem box_there_part {t : TypeId} {g : Nat} {cs : Array Value} {w : World} (h : Box g cs t w) (o n : Nat) (hn : o + n ≤ cs.size) : w.there g o n := fun j hj => by
  refine ⟨?_, h.frozen _⟩
  rw [h.cell]; simp; omega
theorem wpList_store_part {P : Program} {ops : Array Oper} {rest : List Oper} {op : Oper} {a : Act} {w : World} {Q : Exit → Act → World → Prop} (hgd : op.guard = none) (ty : TypeId) (x y : Operand) (ho : op.op = .store ty x y)
    (g o : Nat) (cs : Array Value) (t : TypeId) (hb : Box g cs t w) (cells : Array Value) (hx : a.eval x = .pointer (some ⟨g, o, none⟩)) (hy : a.eval y = .agg cells) (hs : o + cells.size ≤ cs.size)
    (hi : (P.info? ty).map (·.size) = some cells.size) (h1 : cells.all (·.oneCell') = true)
    (h : ∀ w', Box g (setAll cs o cells.toList) t w' → w.grownBy w' (some g) → wpList P ops Q rest (a.put op.dst undef) w') : wpList P ops Q (op :: rest) a w :=
  wpList_store_mid hgd ty x y ho g o cells hx hy (box_there_part hb o _ hs) hi h1 (h _ (box_setAll g _ o _ _ hb) (grown_setCells g _ o w))
/-- Two results: a struct in a block that is known whole, and a value. -/
theorem results_box2 {P : Program} {fn : Func} {p u : Tmp} {ty : TypeId} (h : fn.results = #[.cell p ty, .tmp u]) (tmps : Array Value) (w : World) (g : Nat) (t : TypeId) (cs : Array Value) (d : TypeDesc) (r : Value)
    (hp : tmps.getD p undef = .pointer (some ⟨g, 0, none⟩)) (hr : tmps.getD u undef = r) (hg : Box g cs t w)
    (hu : P.underlying ty = some d) (hd : (match d with | .struct _ | .array _ _ => true | _ => false) = true) (hi : (P.info? ty).map (·.size) = some cs.size) :
    (results fn tmps).run P w = .ok (.tuple #[.agg cs, r]) w := by
  rw [results_cell_tmp h, hp, hr]
  simp [asAddr, run_loadVar_row w g t ty cs (0, 0) d hg hu hd hi, Result.andThen]
end Go.Proofs.YtmgeecdgebemdaaGreatDoor.row

/- A statement is copied field by field, into the program's own type. -/
namespace Go.Proofs.YtmgeecdgebemdaaGreatDoor.stm
open Go.ChangeShapes Go.WideShapes Go.ChangeAt Go.RowKit Go.Proofs.YtmgeecdgebemdaaGreatDoor.row Go.Proofs.YtmgeecdgebemdaaGreatDoor.val Go.Proofs.YtmgeecdgebemdaaGreatDoor.expr
set_option maxHeartbeats 1000000 in
theorem toStmt_any (s : St) (w : World) : Calls Tryz.prog 205 #[stV s] w (BelS w s) := by
  obtain ⟨k, v, n, o, a, b⟩ := s
  go_enter Tryz.func205, Tryz.ntmps205
  go_wp2_with (go_at_call 166; refine (toExpr_any _ _ _ _).mono ?_; rintro e w1 ⟨rfl, hb1⟩; refine Hid.out ?_)
  have e1 : ∀ x : Obj, (w.alloc x).heap.size = w.heap.size + 1 := fun x => by simp
  have e2 : ∀ x y : Obj, ((w.alloc x).alloc y).heap.size = w.heap.size + 2 := fun x y => by simp
  have hr := Box.new (w.alloc (.cells #[.int .i64 k, .int .i64 v, .int .i64 n, .int .i64 o, .int .i64 a, .int .i64 b] 222)) #[.int .i64 0, .int .i64 0, .int .i64 0, .int .i64 0, .int .i64 0, .int .i64 0] 112
  rw [e1] at hr
  have hr := (hr.alloc (.cells #[.int .i64 k, .int .i64 v, .int .i64 n, .int .i64 0, .int .i64 0, .int .i64 0] 112)).below hb1
  have hx := Box.new ((w.alloc (.cells #[.int .i64 k, .int .i64 v, .int .i64 n, .int .i64 o, .int .i64 a, .int .i64 b] 222)).alloc (.cells #[.int .i64 0, .int .i64 0, .int .i64 0, .int .i64 0, .int .i64 0, .int .i64 0] 112)) #[.int .i64 k, .int .i64 v, .int .i64 n, .int .i64 0, .int .i64 0, .int .i64 0] 112
  rw [e2] at hx
  have hx := hx.below hb1
  have HB := Lib.hid (show Below w.heap.size w w1 from Below.trans ((((Below.refl _ _).alloc (Nat.le_refl _) _).alloc (by simp) _).alloc (by simp; omega) _) (hb1.mono (by simp; omega)))
  have H := Lib.hid (And.intro hr hx)
  clear hb1 hr hx
  refine Lib.hid ?_
  go_wp2_with ((refine wpList_store_part rfl 94 _ _ rfl (w.heap.size + 2) 3 _ _ H.out.2 #[.int .i64 o, .int .i64 a, .int .i64 b] rfl rfl (by simp) (by kernel_rfl) (by simp [Value.oneCell']) ?_); intro w2 hx2 hg2; refine Hid.out ?_)
  have hr2 := H.out.1.grown hg2 (by simp)
  have H2 := Lib.hid (show Box (w.heap.size + 2) #[.int .i64 k, .int .i64 v, .int .i64 n, .int .i64 o, .int .i64 a, .int .i64 b] 112 w2 from hx2)
  have HB2 := Lib.hid (HB.out.grown hg2 HB.out.size (fun j hj => by cases hj; omega))
  have HR2 := Lib.hid hr2
  clear hx2 hg2 hr2
  refine Lib.hid ?_
  go_wp2_with (first
    | (refine wpList_load_row rfl 112 _ rfl (w.heap.size + 2) rfl _ _ _ _ H2.out Tryz.underlying112 rfl (by kernel_rfl) ?_)
    | ((refine wpList_store_box rfl 112 _ _ rfl (w.heap.size + 1) _ _ HR2.out #[.int .i64 k, .int .i64 v, .int .i64 n, .int .i64 o, .int .i64 a, .int .i64 b] rfl rfl rfl (by kernel_rfl) (by simp [Value.oneCell']) ?_); intro w3 hx3 hg3; refine Hid.out ?_))
  have HB3 := Lib.hid (HB2.out.grown hg3 HB2.out.size (fun j hj => by cases hj; omega))
  have H3 := Lib.hid hx3
  clear hx3 hg3
  refine Lib.hid ?_
  go_wp2
  exact bodyPost_ret (v := stV ⟨k, v, n, o, a, b⟩) (results_cell_row rfl _ _ (w.heap.size + 1) _ _ _ _ rfl H3.out Tryz.underlying112 rfl (by kernel_rfl)) rfl ⟨rfl, HB3.out⟩
end Go.Proofs.YtmgeecdgebemdaaGreatDoor.stm

/- The law's own comparison of two statements, at two that are the same. -/
namespace Go.Proofs.YtmgeecdgebemdaaGreatDoor.stm
open Go.ChangeShapes Go.WideShapes Go.ChangeAt Go.RowKit Go.Proofs.YtmgeecdgebemdaaGreatDoor.row Go.Proofs.YtmgeecdgebemdaaGreatDoor.val Go.Proofs.YtmgeecdgebemdaaGreatDoor.expr
theorem eqexpr_same (o a b : Int) (w : World) : Calls Tryz.prog 168 #[ev o a b, ev o a b] w (BelB w true) := by
  go_enter Tryz.func168, Tryz.ntmps168
  go_wp2
  go_ret
  exact ⟨rfl, ((Below.refl _ w).alloc (Nat.le_refl _) _).alloc (by simp) _⟩
theorem eqstmt_same (s : St) (w : World) : Calls Tryz.prog 206 #[stV s, stV s] w (BelB w true) := by
  obtain ⟨k, v, n, o, a, b⟩ := s
  go_enter Tryz.func206, Tryz.ntmps206
  go_wp2_with (go_at_call 168; refine (eqexpr_same o a b _).mono ?_; rintro e w1 ⟨rfl, hb1⟩)
  go_ret
  exact ⟨rfl, Below.trans (((Below.refl _ w).alloc (Nat.le_refl _) _).alloc (by simp) _) (hb1.mono (by simp; omega))⟩
end Go.Proofs.YtmgeecdgebemdaaGreatDoor.stm

/- Rows of statements: a slice that reads as a list of statements; the law's own copy, size and comparison of such a slice. -/
namespace Go.Proofs.YtmgeecdgebemdaaGreatDoor.stm
open Go Go.ChangeShapes Go.WideShapes Go.ChangeAt Go.RowKit Go.Proofs.YtmgeecdgebemdaaGreatDoor.row Go.Proofs.YtmgeecdgebemdaaGreatDoor.val Go.Proofs.YtmgeecdgebemdaaGreatDoor.expr
/-- The slice at 'a' of 'n' statements reads as the list 'L'. -/
def StRow (w : World) (a : Option Addr) (n : Nat) (L : List St) : Prop :=
  L.length = n ∧ ∀ k, k < n → ∃ (b off : Nat) (s : St), a = some ⟨b, off, none⟩ ∧ b < w.heap.size ∧ L[k]? = some s ∧ w.rangeAt b (off + k * 6) (stC s)
theorem StRow.below {w w' : World} {a : Option Addr} {n : Nat} {L : List St} (h : StRow w a n L) (hb : Below w.heap.size w w') : StRow w' a n L :=
  ⟨h.1, fun k hk => by
    obtain ⟨b, off, s, rfl, hlt, hs, hr⟩ := h.2 k hk
    exact ⟨b, off, s, rfl, Nat.lt_of_lt_of_le hlt hb.size, hs, fun j v hv => (hb.cell (p := ⟨b, off + k * 6 + j, none⟩) hlt).trans (hr j v hv)⟩⟩
theorem StRow.nil (w : World) (a : Option Addr) : StRow w a 0 [] := ⟨rfl, fun k hk => by omega⟩
theorem StRow.take {w : World} {a : Option Addr} {n : Nat} {L : List St} (h : StRow w a n L) (k : Nat) (hk : k ≤ n) : StRow w a k (L.take k) :=
  ⟨by rw [List.length_take, h.1]; omega, fun j hj => by
    obtain ⟨b, off, s, e, hlt, hs, hr⟩ := h.2 j (by omega)
    exact ⟨b, off, s, e, hlt, by rw [List.getElem?_take, if_pos hj]; exact hs, hr⟩⟩
/-- A block that is a list of statements, whole. -/
theorem StRow.of_box {w : World} {g : Nat} {L : List St} {t : TypeId} (h : Box g (stsC L).toArray t w) : StRow w (some ⟨g, 0, none⟩) L.length L :=
  ⟨rfl, fun k hk => ⟨g, 0, L[k], rfl, h.lt, by simp [hk], fun j v hv => by
    have hj : j < 6 := by have := (List.getElem?_eq_some_iff.1 hv).1; simpa [stC] using this
    have h2 := stsC_at (L := L) (i := k) (s := L[k]) (by simp [hk]) j hj
    rw [show 0 + k * 6 + j = k * 6 + j by omega, h.cell]
    rw [List.getElem?_toArray, h2, hv]⟩⟩
theorem StRow.of_own {w : World} {base : Nat} {a : Option Addr} {n cap : Nat} {L : List St} {t : TypeId} (h : w.ownsRow base t 6 (.slice a n cap) n (stsC L)) : StRow w a n L := by
  have hl : L.length = n := by have := h.1; rw [stsC_len] at this; omega
  refine ⟨hl, fun k hk => ?_⟩
  obtain ⟨g, c, hv, _, hg⟩ := h.form (by omega)
  injection hv with h1 h2 h3
  subst h1
  refine ⟨g, 0, L[k], rfl, hg, by simp [hl, hk], fun j v hjv => ?_⟩
  have hj : j < 6 := by have := (List.getElem?_eq_some_iff.1 hjv).1; simpa [stC] using this
  have h4 := stsC_at (L := L) (i := k) (s := L[k]) (by simp [hl, hk]) j hj
  rw [show 0 + k * 6 + j = k * 6 + j by omega, h.cellAt (k * 6 + j) (by omega), h4, hjv]
theorem setAll_mid : ∀ (vs A B C : List Value), B.length = vs.length → setAll (A ++ (B ++ C)).toArray A.length vs = (A ++ (vs ++ C)).toArray
  | [], A, B, C, h => by
    obtain rfl : B = [] := List.eq_nil_of_length_eq_zero h
    rfl
  | v :: r, A, b :: B, C, h => by
    have e : (A ++ (b :: B ++ C)).toArray.setIfInBounds A.length v = ((A ++ [v]) ++ (B ++ C)).toArray := by
      simp [List.setIfInBounds_toArray, List.set_append_right]
    show setAll ((A ++ (b :: B ++ C)).toArray.setIfInBounds A.length v) (A.length + 1) r = _
    rw [e]
    have := setAll_mid r (A ++ [v]) B C (by simpa using h)
    rw [List.length_append, List.length_singleton] at this
    rw [this]; simp
  | _ :: _, _, [], _, h => by simp at h
theorem copy_next {L : List St} {n k : Nat} {s : St} (hl : L.length = n) (hk : k < n) (hs : L[k]? = some s) :
    setAll (stsC (L.take k) ++ List.replicate ((n - k) * 6) (Value.int .i64 0)).toArray (k * 6) (stC s) = (stsC (L.take (k + 1)) ++ List.replicate ((n - (k + 1)) * 6) (Value.int .i64 0)).toArray := by
  have e1 : (n - k) * 6 = 6 + (n - (k + 1)) * 6 := by omega
  have e2 : k * 6 = (stsC (L.take k)).length := by rw [stsC_len, List.length_take]; omega
  rw [e1, ← List.replicate_append_replicate, e2, setAll_mid _ _ _ _ (by simp [stC])]
  rw [List.take_add_one, hs, stsC_app]
  simp [stsC]
theorem StRow.of_box' {w : World} {g n : Nat} {L : List St} {t : TypeId} (h : Box g (stsC L).toArray t w) (hl : L.length = n) : StRow w (some ⟨g, 0, none⟩) n L := hl ▸ StRow.of_box h
/-- A copy of the row in new memory. -/
def MadeSts (w : World) (n : Nat) (L : List St) (e : Ending) (w' : World) : Prop :=
  e = .returned (.slice (some ⟨w.heap.size, 0, none⟩) n n) ∧ Box w.heap.size (stsC L).toArray 112 w' ∧ Below w.heap.size w w'
theorem own_box {w : World} {base g n : Nat} {t : TypeId} {xs : List Value} (h : w.ownsRow base t 6 (.slice (some ⟨g, 0, none⟩) n n) n xs) : Box g xs.toArray t w := by
  rcases h.2 with ⟨h0, _⟩ | ⟨g', cap, cur, hv, _, hg, _, _, hs, ht⟩
  · simp at h0
  · simp only [Value.slice.injEq, Option.some.injEq, Addr.mk.injEq, and_true, true_and] at hv
    obtain ⟨rfl, rfl⟩ := hv
    have e : xs = cur.toList := by rw [← ht]; exact List.take_of_length_le (by rw [Array.length_toList, hs]; exact Nat.le_refl _)
    unfold Box
    rw [e, Array.toArray_toList]; exact hg
theorem made_st_zeros (n : Nat) : (madeCells (stV ⟨0, 0, 0, 0, 0, 0⟩).cells n).toList = List.replicate n (Value.int .i64 0) := by
  apply List.ext_getElem?
  intro j
  by_cases hj : j < n
  · have h6 : j % 6 = 0 ∨ j % 6 = 1 ∨ j % 6 = 2 ∨ j % 6 = 3 ∨ j % 6 = 4 ∨ j % 6 = 5 := by omega
    rw [List.getElem?_replicate, if_pos hj]
    simp only [madeCells, Array.toList_map, List.getElem?_map, Array.toList_range, List.getElem?_range hj, Option.map_some]
    show some ((stV ⟨0, 0, 0, 0, 0, 0⟩).cells[j % 6]!) = _
    rcases h6 with h | h | h | h | h | h <;> rw [h] <;> rfl
  · rw [List.getElem?_eq_none (by rw [Array.length_toList, size_madeCells]; omega), List.getElem?_eq_none (by rw [List.length_replicate]; omega)]
theorem infoStmt : (Tryz.prog.info? 112).map (fun i => (i.zero, i.size, i.bytes)) = some (some (stV ⟨0, 0, 0, 0, 0, 0⟩), 6, 48) := by kernel_rfl
set_option maxHeartbeats 2000000 in
set_option maxRecDepth 100000 in
theorem toStmts_any (w : World) (a : Option Addr) (n cap : Nat) (L : List St) (hn : (n : Int) ≤ 1048576) (h : StRow w a n L) : Calls Tryz.prog 165 #[.slice a n cap] w (MadeSts w n L) := by
  obtain ⟨i0, hi, hz0, hz1, hz2⟩ := info_parts infoStmt
  have HL := Lib.hid h
  clear h
  go_enter Tryz.func165, Tryz.ntmps165
  go_wp2_with ((refine wpList_make_full _ rfl _ _ 92 rfl w.heap.size 112 i0 _ 6 Tryz.underlying92 hi hz0 hz1 .i64 .i64 _ _ n rfl rfl rfl rfl (by rw [hz2]; omega) (by unfold maxLen; omega) (Nat.le_refl _) ?_); intro w1 hown1 hg1; refine Hid.out ?_)
  rw [made_st_zeros] at hown1
  have hx1 := own_box hown1
  have hb1 := below_grown hg1
  clear hg1 hown1
  refine Lib.hid ?_
  go_wp2
  go_loopw [4] (fun i wr => ∃ k : Nat, k ≤ n ∧ i = .int .i64 k ∧ Box w.heap.size (stsC (L.take k) ++ List.replicate ((n - k) * 6) (Value.int .i64 0)).toArray 112 wr ∧ Below w.heap.size w wr) (fun i _ => n - (intOf i).toNat)
  case atStart => exact ⟨0, Nat.zero_le _, rfl, by simpa [stsC] using hx1, hb1⟩
  case round =>
    obtain ⟨k, hk, rfl, hbx, hbel⟩ := hrel
    by_cases hlt : k < n
    · obtain ⟨b, off, s, rfl, hlb, hs, hr⟩ := (HL.out.below hbel).2 k hlt
      have HR := Lib.hid (And.intro hr (And.intro hs (And.intro hbx hbel)))
      have hI : (k : Int) < n := by omega
      have hlw := hbx.lt
      clear hr hs hbx hbel
      go_wp2_with (first
        | (refine wpList_load_mid rfl 222 _ rfl b (off + k * 6) rfl (stC s) _ HR.out.1 Tryz.underlying222 rfl (by kernel_rfl) ?_)
        | (go_at_call 205; refine (toStmt_any s _).mono ?_; rintro e w2 ⟨rfl, hb2⟩; refine Hid.out ?_))
      have H2 := Lib.hid (And.intro (HR.out.2.2.1.below hb2) (below_then HR.out.2.2.2 hb2))
      have hkn : k * 6 + 6 ≤ n * 6 := by omega
      have hsz : (stsC (L.take k) ++ List.replicate ((n - k) * 6) (Value.int .i64 0)).length = n * 6 := by
        rw [List.length_append, stsC_len, List.length_take, List.length_replicate, HL.out.1]; omega
      have HSZ := Lib.hid (show k * 6 + 6 ≤ (stsC (L.take k) ++ List.replicate ((n - k) * 6) (Value.int .i64 0)).toArray.size by rw [List.size_toArray, hsz]; exact hkn)
      clear hb2 hkn hsz
      refine Lib.hid ?_
      go_wp2_with ((refine wpList_store_part rfl 112 _ _ rfl w.heap.size (k * 6) _ _ H2.out.1 #[.int .i64 s.k, .int .i64 s.v, .int .i64 s.n, .int .i64 s.o, .int .i64 s.a, .int .i64 s.b] rfl rfl HSZ.out (by kernel_rfl) (by simp [Value.oneCell']) ?_); intro w3 hx3 hg3; refine Hid.out ?_)
      have H3 := Lib.hid (show Box w.heap.size (stsC (L.take (k + 1)) ++ List.replicate ((n - (k + 1)) * 6) (Value.int .i64 0)).toArray 112 w3 by rw [← copy_next HL.out.1 hlt HR.out.2.1]; exact hx3)
      have HB3 := Lib.hid (H2.out.2.grown hg3 H2.out.2.size (fun j hj => by cases hj; exact Nat.le_refl _))
      clear hx3 hg3
      refine Lib.hid ?_
      go_wp2
      go_roundw
      case rel => exact ⟨k + 1, by omega, by go_num, H3.out, HB3.out⟩
      case measure => simp [intOf]; omega
    · obtain rfl : k = n := by omega
      have hI : ¬ (k : Int) < k := by omega
      rw [List.take_of_length_le (by rw [HL.out.1]; exact Nat.le_refl _), Nat.sub_self, Nat.zero_mul, List.replicate_zero, List.append_nil] at hbx
      have HB := Lib.hid (And.intro hbx hbel)
      clear hbx hbel
      go_wp2
      go_ret
      exact ⟨rfl, HB.out.1, HB.out.2⟩
theorem sz_any (a : Option Addr) (n cap : Nat) (x : Int) (hn : (n : Int) ≤ 9223372036854775807) (hx : 0 ≤ x) (hx2 : x ≤ 1000000000000) (w : World) :
    Calls Tryz.prog 164 #[.slice a n cap, .int .i64 x] w (Ret w (if x - n < 0 then -1 else x - n)) := by
  by_cases h : x - n < 0
  · rw [if_pos h]
    go_enter Tryz.func164, Tryz.ntmps164
    go_wp2
    go_ret
    exact ⟨rfl, rfl⟩
  · rw [if_neg h]
    go_enter Tryz.func164, Tryz.ntmps164
    go_wp2
    go_ret
    exact ⟨rfl, rfl⟩
theorem held6o {w w' : World} {g o : Nat} {x0 x1 x2 x3 x4 x5 : Value} (hb : Below w.heap.size w w') (hg : g < w.heap.size)
    (h : w.cell? ⟨g, o, none⟩ = some x0 ∧ w.cell? ⟨g, o + 1, none⟩ = some x1 ∧ w.cell? ⟨g, o + 2, none⟩ = some x2 ∧ w.cell? ⟨g, o + 3, none⟩ = some x3 ∧ w.cell? ⟨g, o + 4, none⟩ = some x4 ∧ w.cell? ⟨g, o + 5, none⟩ = some x5) :
    w'.cell? ⟨g, o, none⟩ = some x0 ∧ w'.cell? ⟨g, o + 1, none⟩ = some x1 ∧ w'.cell? ⟨g, o + 2, none⟩ = some x2 ∧ w'.cell? ⟨g, o + 3, none⟩ = some x3 ∧ w'.cell? ⟨g, o + 4, none⟩ = some x4 ∧ w'.cell? ⟨g, o + 5, none⟩ = some x5 :=
  ⟨(hb.cell (p := ⟨g, o, none⟩) hg).trans h.1, (hb.cell (p := ⟨g, o + 1, none⟩) hg).trans h.2.1, (hb.cell (p := ⟨g, o + 2, none⟩) hg).trans h.2.2.1, (hb.cell (p := ⟨g, o + 3, none⟩) hg).trans h.2.2.2.1, (hb.cell (p := ⟨g, o + 4, none⟩) hg).trans h.2.2.2.2.1, (hb.cell (p := ⟨g, o + 5, none⟩) hg).trans h.2.2.2.2.2⟩
/-- The six cells of a statement that lies in a row. -/
theorem range6 {w : World} {g o : Nat} {s : St} (h : w.rangeAt g o (stC s)) : w.cell? ⟨g, o, none⟩ = some (.int .i64 s.k) ∧ w.cell? ⟨g, o + 1, none⟩ = some (.int .i64 s.v) ∧ w.cell? ⟨g, o + 2, none⟩ = some (.int .i64 s.n) ∧ w.cell? ⟨g, o + 3, none⟩ = some (.int .i64 s.o) ∧ w.cell? ⟨g, o + 4, none⟩ = some (.int .i64 s.a) ∧ w.cell? ⟨g, o + 5, none⟩ = some (.int .i64 s.b) :=
  ⟨h 0 _ rfl, h 1 _ rfl, h 2 _ rfl, h 3 _ rfl, h 4 _ rfl, h 5 _ rfl⟩
theorem range_lt {w : World} {g o : Nat} {s : St} (h : w.rangeAt g o (stC s)) : g < w.heap.size := World.block_lt_of_cell? w ⟨g, o + 0, none⟩ (h 0 _ rfl)
set_option maxHeartbeats 2000000 in
set_option maxRecDepth 100000 in
theorem eqStmts_any (w : World) (a a' : Option Addr) (n cap cap' : Nat) (L : List St) (hn : (n : Int) ≤ 1048576) (h1 : StRow w a n L) (h2 : StRow w a' n L) :
    Calls Tryz.prog 167 #[.slice a n cap, .slice a' n cap'] w (BelB w true) := by
  have HC : Hid (∀ wr : World, Below w.heap.size w wr → ∀ k, k < n → ∃ (g o g' o' : Nat) (s : St), a = some ⟨g, o, none⟩ ∧ a' = some ⟨g', o', none⟩ ∧ wr.rangeAt g (o + k * 6) (stC s) ∧ wr.rangeAt g' (o' + k * 6) (stC s)) := by
    intro wr hb k hk
    obtain ⟨g, o, X, e1, _, x1, c1⟩ := (h1.below hb).2 k hk
    obtain ⟨g', o', X', e2, _, x2, c2⟩ := (h2.below hb).2 k hk
    obtain rfl : X = X' := by rw [x1] at x2; exact Option.some.inj x2
    exact ⟨g, o, g', o', X, e1, e2, c1, c2⟩
  clear h1 h2
  go_enter Tryz.func167, Tryz.ntmps167
  go_wp2
  go_loopw [5] (fun i wr => ∃ k : Nat, k ≤ n ∧ i = .int .i64 k ∧ Below w.heap.size w wr) (fun i _ => n - (intOf i).toNat)
  case atStart => exact ⟨0, Nat.zero_le _, rfl, Below.refl _ _⟩
  case round =>
    obtain ⟨k, hk, rfl, hbel⟩ := hrel
    by_cases hlt : k < n
    · obtain ⟨g, o, g', o', s, rfl, rfl, c1, c2⟩ := HC.out wr hbel k hlt
      have hI : (k : Int) < n := by omega
      have HB := Lib.hid hbel
      have hgl := range_lt c1
      have hgl' := range_lt c2
      have r0 : wr.drew.cell? ⟨g, o + k * 6, none⟩ = some (.int .i64 s.k) ∧ wr.drew.cell? ⟨g, o + k * 6 + 1, none⟩ = some (.int .i64 s.v) ∧ wr.drew.cell? ⟨g, o + k * 6 + 2, none⟩ = some (.int .i64 s.n) ∧ wr.drew.cell? ⟨g, o + k * 6 + 3, none⟩ = some (.int .i64 s.o) ∧ wr.drew.cell? ⟨g, o + k * 6 + 4, none⟩ = some (.int .i64 s.a) ∧ wr.drew.cell? ⟨g, o + k * 6 + 5, none⟩ = some (.int .i64 s.b) := range6 c1
      have t0 : wr.drew.cell? ⟨g', o' + k * 6, none⟩ = some (.int .i64 s.k) ∧ wr.drew.cell? ⟨g', o' + k * 6 + 1, none⟩ = some (.int .i64 s.v) ∧ wr.drew.cell? ⟨g', o' + k * 6 + 2, none⟩ = some (.int .i64 s.n) ∧ wr.drew.cell? ⟨g', o' + k * 6 + 3, none⟩ = some (.int .i64 s.o) ∧ wr.drew.cell? ⟨g', o' + k * 6 + 4, none⟩ = some (.int .i64 s.a) ∧ wr.drew.cell? ⟨g', o' + k * 6 + 5, none⟩ = some (.int .i64 s.b) := range6 c2
      clear c1 c2 hbel
      go_wp2
      go_region_held3 (fun w' => (w'.cell? ⟨g, o + k * 6, none⟩ = some (.int .i64 s.k) ∧ w'.cell? ⟨g, o + k * 6 + 1, none⟩ = some (.int .i64 s.v) ∧ w'.cell? ⟨g, o + k * 6 + 2, none⟩ = some (.int .i64 s.n) ∧ w'.cell? ⟨g, o + k * 6 + 3, none⟩ = some (.int .i64 s.o) ∧ w'.cell? ⟨g, o + k * 6 + 4, none⟩ = some (.int .i64 s.a) ∧ w'.cell? ⟨g, o + k * 6 + 5, none⟩ = some (.int .i64 s.b)) ∧ (w'.cell? ⟨g', o' + k * 6, none⟩ = some (.int .i64 s.k) ∧ w'.cell? ⟨g', o' + k * 6 + 1, none⟩ = some (.int .i64 s.v) ∧ w'.cell? ⟨g', o' + k * 6 + 2, none⟩ = some (.int .i64 s.n) ∧ w'.cell? ⟨g', o' + k * 6 + 3, none⟩ = some (.int .i64 s.o) ∧ w'.cell? ⟨g', o' + k * 6 + 4, none⟩ = some (.int .i64 s.a) ∧ w'.cell? ⟨g', o' + k * 6 + 5, none⟩ = some (.int .i64 s.b)))
        (first | (exact ⟨r0, t0⟩) | (exact ⟨held6o (drew_below hb2) hgl r0, held6o (drew_below hb2) hgl' t0⟩))
        (first
          | (go_at_call 206; refine (eqstmt_same s _).mono ?_; rintro e w2 ⟨rfl, hb2⟩))
      have hb3 := Lib.hid (HB.out.trans ((drew_below hb2).mono HB.out.size))
      clear hb2 r0 t0
      go_wp2
      go_roundw
      case rel => exact ⟨k + 1, by omega, by go_num, hb3.out⟩
      case measure => simp [intOf]; omega
    · have hI : ¬ (k : Int) < n := by omega
      have HB := Lib.hid hbel
      clear hbel
      go_wp2
      go_ret
      exact ⟨rfl, HB.out⟩
end Go.Proofs.YtmgeecdgebemdaaGreatDoor.stm
