/- Several texts in one: Zer MemW MemE BlkD BlkH. -/
import Derived.Test.YtlicadaecfgklaaGreatDoorGSig0
import Derived.Laws.AppendOwn
import Derived.Laws.CopyRow
import Derived.Test.YtlicadaecfgklaaGreatDoorGSig14
import Derived.Deep.QuietTactic
import Derived.BigQuiet
import Derived.Test.YtlicadaecfgklaaGreatDoorGSig10
import Derived.Test.YtlicadaecfgklaaGreatDoorGSig11
import Derived.Test.YtlicadaecfgklaaGreatDoorGSig6

/- A law for 'append(s, make([]int, k)...)' onto a row of the call's own, which the model runs as one operation: behind it the row has k zeros more; the row moves or stays; nothing else is written. -/
namespace Go.Proofs.YtlicadaecfgklaaGreatDoor.row
open Go.ChangeShapes Go.WideShapes Go.ChangeAt Go.RowKit

theorem zero_cells (k : Nat) : Builtin.zeroCells (Value.int .i64 0).cells k = (ivs (List.replicate k 0)).toArray := by
  apply Array.ext'
  apply List.ext_getElem?
  intro j
  simp only [Builtin.zeroCells, Value.cells, ivs]
  by_cases h : j < k
  · simp [h, Nat.mod_one]
  · simp [h]
set_option maxRecDepth 100000 in
theorem run_append_zeros {P : Program} (w : World) (base : Nat) (t it ty e : TypeId) (i : TypeInfo) (ht : P.underlying t = some (.slice e)) (hit : P.underlying it = some (.int .i64)) (hi : P.info? e = some i) (hz : i.zero = some (.int .i64 0))
    (hsize : i.size = 1) (hby : i.bytes = 8) (g n cap : Nat) (L : List Int) (hown : w.ownsRow base e 1 (.slice (some ⟨g, 0, none⟩) n cap) n (ivs L)) (k : Nat) (hk : 0 < k)
    (h63 : (n + k : Nat) ≤ 2097152) (hbase : base ≤ w.heap.size) :
    ∃ v' w', (Builtin.append_ #[t, it] ty #[.slice (some ⟨g, 0, none⟩) n cap, .int .i64 k]).run P w = .ok v' w' ∧ w'.ownsRow base e 1 v' (n + k) (ivs (L ++ List.replicate k 0)) ∧ w.grownBy w' (some g) := by
  have hll : (ivs L).length = n := by simpa using hown.1
  have hwk : IntKind.i64.wrap (k : Int) = k := by rw [IntKind.wrap_i64]; omega
  have hk0 : ¬ ((k : Int) < 0) := by omega
  have hkb : ¬ (281474976710656 < (k : Int) * 8) := by omega
  have hkz : ¬ (k = 0) := by omega
  have eL : ivs (L ++ List.replicate k 0) = ivs L ++ ivs (List.replicate k 0) := by simp [ivs]
  have hlk : (ivs (List.replicate k 0)).length = k := by simp [ivs]
  have hcells : ∀ j u, (ivs L)[j]? = some u → w.cell? ((⟨g, 0, none⟩ : Addr).add j) = some u := hown.cells (g := g) rfl
  have hone : ∀ v ∈ ivs (List.replicate k 0), v.oneCell' = true := by intro v hv; obtain ⟨x, _, rfl⟩ := List.mem_map.1 hv; rfl
  rcases hown.2 with ⟨e1, _⟩ | ⟨g', cap', cur, e1, hbg, hg, hnc, hcm, hcs, htake⟩
  · cases e1
  cases e1
  rw [Nat.mul_one] at hcs htake
  by_cases hroom : n + k ≤ cap
  · have hfit : n + (ivs (List.replicate k 0)).length ≤ cur.size := by rw [hlk, hcs]; exact hroom
    have hst := run_storeCells_at P g n e (ivs (List.replicate k 0)) 0 cur w hg (by simpa using hfit) hone
    simp only [Nat.add_zero] at hst
    refine ⟨.slice (some ⟨g, 0, none⟩) (n + k) cap, w.setRow g (cur.toList.take n ++ ivs (List.replicate k 0) ++ cur.toList.drop (n + (ivs (List.replicate k 0)).length)).toArray, ?_, ⟨by rw [eL, List.length_append, hll, hlk]; omega, .inr ⟨g, cap, _, rfl, hbg, setRow_heap w g cur _ e _ hg, hroom, hcm, ?_, ?_⟩⟩, ⟨rfl, rfl, rfl, by simp, fun j _ hj => setRow_other w g j _ (fun e => hj (by simp [e]))⟩⟩
    · simp [Builtin.append_, run_underlying ht, run_underlying hit, sizeOf, typeInfo, zeroValue, asInt, asIntOf, hi, hz, hsize, hby, hwk, hk0, hkb, hkz, hroom, zero_cells, Addr.add_lit, hst]
    · simp only [List.size_toArray, List.length_append, List.length_take, List.length_drop, Array.length_toList]
      omega
    · rw [htake, Nat.mul_one, eL]
      exact List.take_left' (by rw [List.length_append, hll, hlk])
  · have h1 : ¬ (9223372036854775807 < ((n : Int) + (k : Int))) := by omega
    have h2 : ¬ (281474976710656 < Builtin.nextslicecap (n + k) cap * 8) := by
      have := growslice_fits (need := n + k) (old := cap) (bytes := 8) (by omega) (by omega)
      omega
    have hfo := run_firstCells_some (P := P) w.drew 1 n ⟨g, 0, none⟩ n cap (ivs L) (by rw [hll]; omega) (by simpa using hcells)
    have hge := grownCap_ge w (n + k) cap e
    have hcm2 : grownCap w (n + k) cap e ≤ maxLen := grownCap_le_maxLen w (n + k) cap e (by unfold maxLen; omega)
    refine ⟨.slice (some ⟨w.heap.size, 0, none⟩) (n + k) (grownCap w (n + k) cap e), w.drew.alloc (.cells ((ivs L).toArray ++ (ivs (List.replicate k 0)).toArray ++ Builtin.zeroCells (Value.int .i64 0).cells (grownCap w (n + k) cap e - (n + k))) e), ?_, ⟨by rw [eL, List.length_append, hll, hlk]; omega, .inr ⟨w.heap.size, _, _, rfl, hbase, heap_alloc_new w.drew _, hge, hcm2, ?_, ?_⟩⟩, ⟨rfl, rfl, rfl, by simp, fun j hj _ => (below_new w.drew _).block j hj⟩⟩
    · simp [Builtin.append_, run_underlying ht, run_underlying hit, sizeOf, typeInfo, zeroValue, asInt, asIntOf, hi, hz, hsize, hby, hwk, hk0, hkb, hkz, hroom, h1, h2, Question.forced, zero_cells, hfo, newRow, grownCap]
    · simp only [Array.size_append, List.size_toArray, size_zeroCells, hll, hlk]
      simp [Value.cells]; omega
    · simp only [Array.toList_append, List.append_assoc]
      rw [← List.append_assoc, Nat.mul_one, eL]
      exact List.take_left' (by rw [List.length_append, hll, hlk])
theorem wpList_append_zeros {P : Program} {ops : Array Oper} {rest : List Oper} {o : Oper} {a : Act} {w : World} {Q : Exit → Act → World → Prop} (hgd : o.guard = none) (s : Operand) (t it : TypeId) (k : Nat)
    (ho : o.op = .call { callee := .builtin .append, args := #[s, .const (.int .i64 k)], argTypes := #[t, it] })
    (base : Nat) (e : TypeId) (i : TypeInfo) (ht : P.underlying t = some (.slice e)) (hit : P.underlying it = some (.int .i64)) (hi : P.info? e = some i) (hz : i.zero = some (.int .i64 0))
    (hsize : i.size = 1) (hby : i.bytes = 8) (g n cap : Nat) (L : List Int) (hs : a.eval s = .slice (some ⟨g, 0, none⟩) n cap) (hown : w.ownsRow base e 1 (.slice (some ⟨g, 0, none⟩) n cap) n (ivs L)) (hk : 0 < k)
    (h63 : (n + k : Nat) ≤ 2097152) (hbase : base ≤ w.heap.size)
    (h : ∀ v' w', w'.ownsRow base e 1 v' (n + k) (ivs (L ++ List.replicate k 0)) → w.grownBy w' (some g) → wpList P ops Q rest (a.put o.dst v') w') : wpList P ops Q (o :: rest) a w := by
  obtain ⟨v', w', hr, h2, h3⟩ := run_append_zeros (P := P) w base t it o.type e i ht hit hi hz hsize hby g n cap L hown k hk h63 hbase
  refine wpList_plain hgd fun K hK => ?_
  unfold Oper.wp execOp
  have he : a.eval (.const (.int .i64 k)) = .int .i64 k := rfl
  simp only [ho, resolve, invoke, builtin, Sem.run_bind, Sem.run_pure, Result.andThen_ok, List.map_toArray, List.map_cons, List.map_nil, hs, he, hr]
  exact hK _ _ (h v' w' h2 h3)
end Go.Proofs.YtlicadaecfgklaaGreatDoor.row

/- Chapter 9's memory, of the model: a new memory, its variables, what it says was sent, as new rows; nothing that was there is written. -/
namespace Go.Proofs.YtlicadaecfgklaaGreatDoor.mem
open Go.ChangeShapes Go.WideShapes Go.ChangeAt Go.RowKit Go.Proofs.YtlicadaecfgklaaGreatDoor.row Go.Proofs.YtlicadaecfgklaaGreatDoor.val Go.Proofs.YtlicadaecfgklaaGreatDoor.expr Go.Proofs.YtlicadaecfgklaaGreatDoor.ctl

theorem row_part {w : World} {b off n o m : Nat} {L : List Int} (h : Row w (some ⟨b, off, none⟩) n L) (hm : o + m ≤ n) : Row w (some ⟨b, off + o, none⟩) m ((L.drop o).take m) := by
  have hl := h.1
  refine ⟨by simp; omega, fun k hk => ?_⟩
  obtain ⟨b', off', x, e, hlt, hx, hc⟩ := h.2 (o + k) (by omega)
  cases e
  refine ⟨b, off + o, x, rfl, hlt, ?_, by rw [Nat.add_assoc]; exact hc⟩
  rw [List.getElem?_take_of_lt hk, List.getElem?_drop]; exact hx
theorem elemI : Tryz.prog.underlying 27 = some (.slice (Tryz.prog.elem 27)) := by kernel_rfl
theorem sizeI (w : World) : (sizeOf (Tryz.prog.elem 27)).run Tryz.prog w = .ok 1 w := by kernel_rfl
theorem cut_8 (b off cap : Nat) (hc : 49 ≤ cap) (w : World) : (Instr.sliceAt 27 (.slice (some ⟨b, off, none⟩) 49 cap) none (some (.int .i64 8)) none).run Tryz.prog w = .ok (.slice (some ⟨b, off, none⟩) 8 cap) w := by
  rw [run_sliceAt_slice w _ _ _ _ _ elemI, Go.run_slice_h w _ _ _ _ elemI _ _ (by omega) (by omega), sizeI]
  simp only [Result.andThen, sliced]
  rw [Nat.sub_zero, if_neg (by omega)]
  rfl
theorem cut_lh (b off cap n : Nat) (hc : 49 ≤ cap) (hn : n ≤ 24) (w : World) : (Instr.sliceAt 27 (.slice (some ⟨b, off, none⟩) 49 cap) (some (.int .i64 25)) (some (.int .i64 (25 + (n : Int)))) none).run Tryz.prog w = .ok (.slice (some ⟨b, off + 25, none⟩) n (cap - 25)) w := by
  rw [run_sliceAt_slice w _ _ _ _ _ elemI, Go.run_slice_lh w _ _ _ _ elemI _ _ _ _ (by omega) (by omega) (by omega), sizeI]
  simp only [Result.andThen, sliced]
  rw [show (25 + (n : Int)).toNat - (25 : Int).toNat = n by omega, show (25 : Int).toNat = 25 from rfl, if_neg (by omega), Nat.mul_one, Option.map_some, Addr.add_mid]
/-- What appending a row to an empty one asks. -/
theorem news_of (w : World) {b off n : Nat} {L : List Int} (h : Row w (some ⟨b, off, none⟩) n L) : ∀ j u, (ivs L)[j]? = some u → (w.alloc (.cells #[] 3)).cell? ((⟨b, off, none⟩ : Addr).add j) = some u := by
  intro j u hj
  rw [Addr.add_mid]
  exact World.rangeAt_alloc (row_range h) _ j u hj
theorem below_app {w w1 : World} {v : Value} {o : Obj} (hgrow : (w.alloc o).grownBy w1 v.ownBlock) (hv : ∀ k, v.ownBlock = some k → w.heap.size ≤ k) : Below w.heap.size w w1 :=
  ((Below.refl _ w).alloc (Nat.le_refl _) _).grown hgrow (by simp) hv
theorem own_slice {w : World} {B : Nat} {ty : TypeId} {v : Value} {n : Nat} {xs : List Value} (h : w.ownsRow B ty 1 v n xs) : ∃ ad cap, v = .slice ad n cap := by
  rcases h.2 with ⟨e, e0⟩ | ⟨g, c, _, e, _⟩
  · exact ⟨_, _, by rw [e, e0]⟩
  · exact ⟨_, _, e⟩

set_option maxRecDepth 100000 in
set_option maxHeartbeats 1000000 in
theorem spec_memvars_yes (w : World) (b off cap : Nat) (hcap : 49 ≤ cap) (L : List Int) (h : Row w (some ⟨b, off, none⟩) 49 L) :
    Calls Tryz.prog 23 #[.slice (some ⟨b, off, none⟩) 49 cap] w (NewInts w (L.take 8)) := by
  obtain ⟨i0, hi, hz0, hz1, hz2⟩ := info_parts infoInt
  have hsl := cut_8 b off cap hcap
  have hp : Row w (some ⟨b, off, none⟩) 8 (L.take 8) := by simpa using row_part (o := 0) (m := 8) h (by omega)
  have HL := Lib.hid (show (ivs (L.take 8)).length = 8 * 1 by rw [ivs_length, hp.1])
  have HN := Lib.hid (news_of w hp)
  have H1 := Lib.hid (ivs_one (L.take 8))
  clear h hp hcap
  go_enter Tryz.func23, Tryz.ntmps23
  go_wp2_with (at_builtin; refine wpList_append_own _ rfl _ _ 27 rfl w.heap.size 3 i0 (.int .i64 0) 1 8 Tryz.underlying27 hi hz0 hz1 hz2 rfl (by decide) _ _ _ rfl (World.ownsRow_made w #[] 0 (Nat.le_refl _) (Nat.zero_le _) rfl) ⟨b, off, none⟩ 8 cap (ivs (L.take 8)) rfl HL.out HN.out H1.out (by unfold maxLen; omega) (by omega) (by simp) ?_; intro v' w1 hown hgrow _; refine Hid.out ?_)
  have hb := below_app hgrow (fun k hk => by cases hk; exact Nat.le_refl _)
  rw [Nat.zero_add, List.nil_append] at hown
  obtain ⟨ad, c, rfl⟩ := own_slice hown
  have HF := Lib.hid (And.intro hown hb)
  clear hown hgrow hb
  refine Lib.hid ?_
  go_wp2
  go_ret
  exact ⟨_, _, _, rfl, HF.out.1, HF.out.2⟩
set_option maxRecDepth 100000 in
theorem spec_memvars_no (w : World) (a : Option Addr) (n cap : Nat) (h : ¬ n = 49) :
    Calls Tryz.prog 23 #[.slice a n cap] w (NewInts w []) := by
  have hq : ¬ (n : Int) = 49 := by omega
  clear h
  go_enter Tryz.func23, Tryz.ntmps23
  go_wp2
  go_ret
  exact ⟨_, _, _, rfl, World.ownsRow_made w #[] 0 (Nat.le_refl _) (Nat.zero_le _) rfl, below_new _ _⟩
set_option maxRecDepth 100000 in
set_option maxHeartbeats 1000000 in
theorem spec_memnew (w : World) (a : Option Addr) (n cap : Nat) (L : List Int) (hn : (n : Int) ≤ 1048576) (h : Row w a n L) :
    Calls Tryz.prog 90 #[.slice a n cap] w (NewMem w 3 (newV L) (varsOk L)) := by
  obtain ⟨i0, hi, hz0, hz1, hz2⟩ := info_parts infoInt
  cases hv : varsOk L
  · have HV := Lib.hid hv
    have HN := Lib.hid (newV_no hv)
    clear hv
    go_enter Tryz.func90, Tryz.ntmps90
    go_wp2_with (go_at_call 69; refine (spec_vars _ _ _ _ L hn h false HV.out).mono ?_; rintro e w1 ⟨rfl, rfl⟩)
    go_ret2
    refine ⟨_, _, _, rfl, ?_, below_new _ _⟩
    rw [HN.out]; exact World.ownsRow_made w #[] 0 (Nat.le_refl _) (Nat.zero_le _) rfl
  · obtain ⟨e1, e2, e3⟩ := newV_yes hv
    obtain rfl : n = 8 := by have := h.1; omega
    obtain ⟨b, off, rfl⟩ := row_some h (by decide)
    have HV := Lib.hid hv
    have HE := Lib.hid e1
    have HL := Lib.hid (show (ivs L).length = 8 * 1 by rw [ivs_length, e3])
    have HN := Lib.hid (news_of w h)
    have H1 := Lib.hid (ivs_one L)
    clear hv e1 e2 e3
    go_enter Tryz.func90, Tryz.ntmps90
    go_wp2_with (first
      | (go_at_call 69; refine (spec_vars _ _ _ _ L hn h true HV.out).mono ?_; rintro e w1 ⟨rfl, rfl⟩)
      | (at_builtin; refine wpList_append_own _ rfl _ _ 27 rfl w.heap.size 3 i0 (.int .i64 0) 1 8 Tryz.underlying27 hi hz0 hz1 hz2 rfl (by decide) _ _ _ rfl (World.ownsRow_made w #[] 0 (Nat.le_refl _) (Nat.zero_le _) rfl) ⟨b, off, none⟩ 8 cap (ivs L) rfl HL.out HN.out H1.out (by unfold maxLen; omega) (by omega) (by simp) ?_; intro v' w1 hown hgrow _; refine Hid.out ?_))
    have hb := below_app hgrow (fun k hk => by cases hk; exact Nat.le_refl _)
    rw [Nat.zero_add, List.nil_append] at hown
    obtain ⟨g, c, rfl, hbg, hgs⟩ := hown.form (by decide)
    have HF := Lib.hid (And.intro hown (And.intro hb hbg))
    have hbs := hb.size
    clear hown hgrow hb
    refine Lib.hid ?_
    go_wp2_with (at_builtin; refine wpList_append_zeros rfl _ 27 3 41 rfl w.heap.size 3 i0 Tryz.underlying27 Tryz.underlying3 hi hz0 hz1 hz2 g 8 c L rfl HF.out.1 (by decide) (by decide) hbs ?_; intro v2 w2 hown2 hgrow2; refine Hid.out ?_)
    obtain ⟨ad2, c2, rfl⟩ := own_slice hown2
    have HF2 := Lib.hid (And.intro hown2 (HF.out.2.1.grown hgrow2 hbs (fun k hk => by cases hk; exact HF.out.2.2)))
    clear hown2 hgrow2
    refine Lib.hid ?_
    go_wp2
    go_ret2
    refine ⟨_, _, _, rfl, ?_, HF2.out.2⟩
    rw [HE.out]; exact HF2.out.1
end Go.Proofs.YtlicadaecfgklaaGreatDoor.mem

/- Chapter 9 of the program: an entry of the log (memory.entry): the two words, read from a copy; nothing that was there is written. -/
namespace Go.Proofs.YtlicadaecfgklaaGreatDoor.mem
open Go.ChangeShapes Go.WideShapes Go.ChangeAt Go.RowKit Go.Proofs.YtlicadaecfgklaaGreatDoor.row Go.Proofs.YtlicadaecfgklaaGreatDoor.val Go.Proofs.YtlicadaecfgklaaGreatDoor.expr Go.Proofs.YtlicadaecfgklaaGreatDoor.ctl
/-- Two numbers, and what was there is as it was. -/
def BelT (w : World) (x y : Int) (e : Ending) (w' : World) : Prop := e = .returned (.tuple #[.int .i64 x, .int .i64 y]) ∧ Below w.heap.size w w'
set_option maxRecDepth 100000 in
set_option maxHeartbeats 2000000 in
theorem impl_logentry (w : World) (L : List Int) (hL : L.length = 49) (i : Nat) (hi : i < 8) (x y : Int) (hx : L.getD (9 + 2 * i) 0 = x) (hy : L.getD (10 + 2 * i) 0 = y) :
    Calls Tryz.prog 109 #[memV L, .int .i64 i] w (BelT w x y) := by
  have hb : Box w.heap.size (ivs L).toArray TM (w.alloc (.cells (ivs L).toArray TM)) := Box.new _ _ _
  have hC : ∀ j, j < 49 → (w.alloc (.cells (ivs L).toArray TM)).cell? ⟨w.heap.size, j, none⟩ = some (.int .i64 (L.getD j 0)) := fun j hj => by
    rw [hb.cell]; simp [ivs, show j < L.length by omega]
  have HB := Lib.hid (below_new w (.cells (ivs L).toArray TM))
  obtain ⟨p, hp⟩ : ∃ p : Nat, p = 9 + 2 * i := ⟨_, rfl⟩
  have d0 := hC (9 + 2 * i) (by omega)
  have d1 := hC (10 + 2 * i) (by omega)
  rw [hx, ← hp] at d0
  rw [hy, show 10 + 2 * i = p + 1 by omega] at d1
  have hpk : (9 : Int) + 2 * (i : Int) = (p : Int) := by omega
  have hpb : (p : Int) ≤ 23 := by omega
  have hp1 : (p : Int) < 49 := by omega
  have hp2 : (p : Int) + 1 < 49 := by omega
  have hi8 : (i : Int) < 8 := by omega
  clear hb hC hx hy hp
  go_enter Tryz.func109, Tryz.ntmps109
  go_wp2
  go_quiet (fail)
  go_wp2
  go_ret2
  exact ⟨rfl, below_drewN HB.out _⟩
end Go.Proofs.YtlicadaecfgklaaGreatDoor.mem

/- Chapter 5's model: DepthOf: the height ahead of the statement; nothing that was there is written. -/
namespace Go.Proofs.YtlicadaecfgklaaGreatDoor.blk
open Go Go.ChangeShapes Go.WideShapes Go.ChangeAt Go.RowKit Go.Proofs.YtlicadaecfgklaaGreatDoor.row Go.Proofs.YtlicadaecfgklaaGreatDoor.val Go.Proofs.YtlicadaecfgklaaGreatDoor.expr Go.Proofs.YtlicadaecfgklaaGreatDoor.stm

theorem depthIs_not {L : List Go.Proofs.YtlicadaecfgklaaGreatDoor.stm.St} {i x : Int} (h : DepthIs L i x) (hn : ¬ IsBlk L ∨ i < 0 ∨ (L.length : Int) ≤ i) : x = -1 := by
  rcases h with ⟨j, rfl, hl, hb, rfl⟩ | ⟨rfl, _⟩
  · rcases hn with hn | hn | hn
    · exact absurd hb hn
    · omega
    · omega
  · rfl
theorem depthIs_yes {L : List Go.Proofs.YtlicadaecfgklaaGreatDoor.stm.St} {j : Nat} {x : Int} (h : DepthIs L j x) (hb : IsBlk L) (hl : j < L.length) : x = hAt L j := h.unique (.inl ⟨j, rfl, hl, hb, rfl⟩)
end Go.Proofs.YtlicadaecfgklaaGreatDoor.blk

/- Chapter 5's program: DepthOf: the height ahead of the statement; nothing that was there is written. -/
namespace Go.Proofs.YtlicadaecfgklaaGreatDoor.blk
open Go Go.ChangeShapes Go.WideShapes Go.ChangeAt Go.RowKit Go.Proofs.YtlicadaecfgklaaGreatDoor.row Go.Proofs.YtlicadaecfgklaaGreatDoor.val Go.Proofs.YtlicadaecfgklaaGreatDoor.expr Go.Proofs.YtlicadaecfgklaaGreatDoor.stm

end Go.Proofs.YtlicadaecfgklaaGreatDoor.blk
