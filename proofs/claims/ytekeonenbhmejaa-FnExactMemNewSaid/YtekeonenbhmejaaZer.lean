/- A law for 'append(s, make([]int, k)...)' onto a row of the call's own, which the model runs as one operation: behind it the row has k zeros more; the row moves or stays; nothing else is written. -/
import Derived.Test.YtekeonenbhmejaaInts
import Derived.Laws.AppendOwn
import Derived.Laws.CopyRow
namespace Go.Proofs.Ytekeonenbhmejaa.row
open Go.ChangeShapes Go.WideShapes Go.ChangeAt Go.RowKit

theorem zero_cells (k : Nat) : Builtin.zeroCells (Value.int .i64 0).cells k = (ivs (List.replicate k 0)).toArray := by
  apply Array.ext'
  apply List.ext_getElem?
  intro j
  simp only [Builtin.zeroCells, Value.cells, ivs]
  by_cases h : j < k
  · simp [h, Nat.mod_one]
  · simp [h]
set_option maxRecDepth 100000 in
theorem run_append_zeros {P : Program} (w : World) (base : Nat) (t it ty e : TypeId) (i : TypeInfo) (ht : P.underlying t = some (.slice e)) (hit : P.underlying it = some (.int .i64)) (hi : P.info? e = some i) (hz : i.zero = some (.int .i64 0))
    (hsize : i.size = 1) (hby : i.bytes = 8) (g n cap : Nat) (L : List Int) (hown : w.ownsRow base e 1 (.slice (some ⟨g, 0, none⟩) n cap) n (ivs L)) (k : Nat) (hk : 0 < k)
    (h63 : (n + k : Nat) ≤ 2097152) (hbase : base ≤ w.heap.size) :
    ∃ v' w', (Builtin.append_ #[t, it] ty #[.slice (some ⟨g, 0, none⟩) n cap, .int .i64 k]).run P w = .ok v' w' ∧ w'.ownsRow base e 1 v' (n + k) (ivs (L ++ List.replicate k 0)) ∧ w.grownBy w' (some g) := by
  have hll : (ivs L).length = n := by simpa using hown.1
  have hwk : IntKind.i64.wrap (k : Int) = k := by rw [IntKind.wrap_i64]; omega
  have hk0 : ¬ ((k : Int) < 0) := by omega
  have hkb : ¬ (281474976710656 < (k : Int) * 8) := by omega
  have hkz : ¬ (k = 0) := by omega
  have eL : ivs (L ++ List.replicate k 0) = ivs L ++ ivs (List.replicate k 0) := by simp [ivs]
  have hlk : (ivs (List.replicate k 0)).length = k := by simp [ivs]
  have hcells : ∀ j u, (ivs L)[j]? = some u → w.cell? ((⟨g, 0, none⟩ : Addr).add j) = some u := hown.cells (g := g) rfl
  have hone : ∀ v ∈ ivs (List.replicate k 0), v.oneCell' = true := by intro v hv; obtain ⟨x, _, rfl⟩ := List.mem_map.1 hv; rfl
  rcases hown.2 with ⟨e1, _⟩ | ⟨g', cap', cur, e1, hbg, hg, hnc, hcm, hcs, htake⟩
  · cases e1
  cases e1
  rw [Nat.mul_one] at hcs htake
  by_cases hroom : n + k ≤ cap
  · have hfit : n + (ivs (List.replicate k 0)).length ≤ cur.size := by rw [hlk, hcs]; exact hroom
    have hst := run_storeCells_at P g n e (ivs (List.replicate k 0)) 0 cur w hg (by simpa using hfit) hone
    simp only [Nat.add_zero] at hst
    refine ⟨.slice (some ⟨g, 0, none⟩) (n + k) cap, w.setRow g (cur.toList.take n ++ ivs (List.replicate k 0) ++ cur.toList.drop (n + (ivs (List.replicate k 0)).length)).toArray, ?_, ⟨by rw [eL, List.length_append, hll, hlk]; omega, .inr ⟨g, cap, _, rfl, hbg, setRow_heap w g cur _ e _ hg, hroom, hcm, ?_, ?_⟩⟩, ⟨rfl, rfl, rfl, by simp, fun j _ hj => setRow_other w g j _ (fun e => hj (by simp [e]))⟩⟩
    · simp [Builtin.append_, run_underlying ht, run_underlying hit, sizeOf, typeInfo, zeroValue, asInt, asIntOf, hi, hz, hsize, hby, hwk, hk0, hkb, hkz, hroom, zero_cells, Addr.add_lit, hst]
    · simp only [List.size_toArray, List.length_append, List.length_take, List.length_drop, Array.length_toList]
      omega
    · rw [htake, Nat.mul_one, eL]
      exact List.take_left' (by rw [List.length_append, hll, hlk])
  · have h1 : ¬ (9223372036854775807 < ((n : Int) + (k : Int))) := by omega
    have h2 : ¬ (281474976710656 < Builtin.nextslicecap (n + k) cap * 8) := by
      have := growslice_fits (need := n + k) (old := cap) (bytes := 8) (by omega) (by omega)
      omega
    have hfo := run_firstCells_some (P := P) w.drew 1 n ⟨g, 0, none⟩ n cap (ivs L) (by rw [hll]; omega) (by simpa using hcells)
    have hge := grownCap_ge w (n + k) cap e
    have hcm2 : grownCap w (n + k) cap e ≤ maxLen := grownCap_le_maxLen w (n + k) cap e (by unfold maxLen; omega)
    refine ⟨.slice (some ⟨w.heap.size, 0, none⟩) (n + k) (grownCap w (n + k) cap e), w.drew.alloc (.cells ((ivs L).toArray ++ (ivs (List.replicate k 0)).toArray ++ Builtin.zeroCells (Value.int .i64 0).cells (grownCap w (n + k) cap e - (n + k))) e), ?_, ⟨by rw [eL, List.length_append, hll, hlk]; omega, .inr ⟨w.heap.size, _, _, rfl, hbase, heap_alloc_new w.drew _, hge, hcm2, ?_, ?_⟩⟩, ⟨rfl, rfl, rfl, by simp, fun j hj _ => (below_new w.drew _).block j hj⟩⟩
    · simp [Builtin.append_, run_underlying ht, run_underlying hit, sizeOf, typeInfo, zeroValue, asInt, asIntOf, hi, hz, hsize, hby, hwk, hk0, hkb, hkz, hroom, h1, h2, Question.forced, zero_cells, hfo, newRow, grownCap]
    · simp only [Array.size_append, List.size_toArray, size_zeroCells, hll, hlk]
      simp [Value.cells]; omega
    · simp only [Array.toList_append, List.append_assoc]
      rw [← List.append_assoc, Nat.mul_one, eL]
      exact List.take_left' (by rw [List.length_append, hll, hlk])
theorem wpList_append_zeros {P : Program} {ops : Array Oper} {rest : List Oper} {o : Oper} {a : Act} {w : World} {Q : Exit → Act → World → Prop} (hgd : o.guard = none) (s : Operand) (t it : TypeId) (k : Nat)
    (ho : o.op = .call { callee := .builtin .append, args := #[s, .const (.int .i64 k)], argTypes := #[t, it] })
    (base : Nat) (e : TypeId) (i : TypeInfo) (ht : P.underlying t = some (.slice e)) (hit : P.underlying it = some (.int .i64)) (hi : P.info? e = some i) (hz : i.zero = some (.int .i64 0))
    (hsize : i.size = 1) (hby : i.bytes = 8) (g n cap : Nat) (L : List Int) (hs : a.eval s = .slice (some ⟨g, 0, none⟩) n cap) (hown : w.ownsRow base e 1 (.slice (some ⟨g, 0, none⟩) n cap) n (ivs L)) (hk : 0 < k)
    (h63 : (n + k : Nat) ≤ 2097152) (hbase : base ≤ w.heap.size)
    (h : ∀ v' w', w'.ownsRow base e 1 v' (n + k) (ivs (L ++ List.replicate k 0)) → w.grownBy w' (some g) → wpList P ops Q rest (a.put o.dst v') w') : wpList P ops Q (o :: rest) a w := by
  obtain ⟨v', w', hr, h2, h3⟩ := run_append_zeros (P := P) w base t it o.type e i ht hit hi hz hsize hby g n cap L hown k hk h63 hbase
  refine wpList_plain hgd fun K hK => ?_
  unfold Oper.wp execOp
  have he : a.eval (.const (.int .i64 k)) = .int .i64 k := rfl
  simp only [ho, resolve, invoke, builtin, Sem.run_bind, Sem.run_pure, Result.andThen_ok, List.map_toArray, List.map_cons, List.map_nil, hs, he, hr]
  exact hK _ _ (h v' w' h2 h3)
end Go.Proofs.Ytekeonenbhmejaa.row
