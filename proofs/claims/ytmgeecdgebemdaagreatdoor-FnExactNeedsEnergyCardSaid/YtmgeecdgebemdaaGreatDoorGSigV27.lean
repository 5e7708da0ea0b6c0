/- Several texts in one: VSetM. -/
import Derived.Test.YtmgeecdgebemdaaGreatDoorGSigV26
import Derived.Test.YtmgeecdgebemdaaGreatDoorGSigV20
import Derived.Maps.OwnSet
import Derived.Maps.Range
import Derived.Lib.SlKeysI

/- A map as a set of variables; a map of such sets, by the places where they end: what the operations on them give. -/
namespace Go.Proofs.YtmgeecdgebemdaaGreatDoor.sets
open Go Go.ChangeShapes Go.WideShapes Go.ChangeAt Go.RowKit Go.Maps Go.Proofs.YtmgeecdgebemdaaGreatDoor.row Go.Proofs.YtmgeecdgebemdaaGreatDoor.val Go.Proofs.YtmgeecdgebemdaaGreatDoor.stm Go.Proofs.YtmgeecdgebemdaaGreatDoor.blk Go.Proofs.YtmgeecdgebemdaaGreatDoor.expr
theorem keyI : Keyed Tryz.prog 3 := int_keyed Tryz.underlying3
theorem i64wf {x : Int} (h1 : 0 ≤ x) (h2 : x ≤ 9223372036854775807) : (Lit.int .i64 x).wf = true := by
  simp [Lit.wf, IntKind.min, IntKind.max, IntKind.signed, IntKind.bits]; omega
theorem keyOfI {x : Int} (h1 : 0 ≤ x) (h2 : x ≤ 9223372036854775807) : keyOf Tryz.prog 3 (.int .i64 x) = some (.int .i64 x) := keyOf_int_mk Tryz.underlying3 (i64wf h1 h2)
theorem isKeyI {x : Int} : WideAt.IsKeyLit (.int .i64 x) := trivial
noncomputable abbrev boolEl : Value → Option (DataW Unit × List MemPlace) := plainElem (H := Unit) Tryz.prog 4
theorem zeroB (w : World) : (zeroValue 4).run Tryz.prog w = .ok (.bool false) w := by kernel_rfl
/-- How an element that is a map reads: by its block. -/
def mapEl : Value → Option (DataW Unit × List MemPlace)
  | .map (some q) => some (.lit (.int .i64 q), [])
  | .map none => some (.lit (.bool false), [])
  | _ => none
theorem zeroM (w : World) : (zeroValue 191).run Tryz.prog w = .ok (.map none) w := by kernel_rfl
theorem mapEl_inv {v : Value} {q : Nat} {ps : List MemPlace} (h : mapEl v = some (.lit (.int .i64 q), ps)) : v = .map (some q) := by
  unfold mapEl at h
  split at h
  · rename_i c
    simp at h
    obtain rfl : c = q := by omega
    rfl
  · simp at h
  · cases h
section
variable {P : Program} {k : TypeId} {R : Value → Option (DataW Unit × List MemPlace)} {w w' : World} {b n : Nat} {D : DataW Unit}
theorem own_exact (h : w.ownsMap P k R b n D) : w.ownsMap P k R b (Maps.size D) D := by
  obtain ⟨es, clock, hb, F, hs, rfl⟩ := h
  exact ⟨es, clock, hb, F, Nat.le_of_eq (by simp [Maps.size, length_sorted]), rfl⟩
theorem own_perm (h : w.ownsMap P k R b n D) (K : Keyed P k) (hk : P.underlying k = some (.int .i64)) {ss : List Int} (hnd : ss.Nodup) (hm : ∀ x, x ∈ ss ↔ has D (.int .i64 x) = true) : ss.Perm (intKeys D) := by
  obtain ⟨es, hD, hpw, _⟩ := h.entries K
  obtain ⟨es', hD', hko⟩ := h.keysOf
  obtain rfl : es = es' := by rw [hD] at hD'; simpa using hD'
  subst hD
  exact perm_intKeys hpw (fun p hp => by obtain ⟨v, hv⟩ := hko p hp; obtain ⟨x, _, hx, _⟩ := Maps.keyOf_i64 hk hv; exact ⟨x, hx⟩) hnd hm
theorem keys_len (h : w.ownsMap P k R b n D) : (intKeys D).length = Maps.size D := by
  obtain ⟨es, clock, hb, F, hs, rfl⟩ := h
  simp [intKeys, Maps.size]
theorem keys_mem (h : w.ownsMap P k R b n D) (hk : P.underlying k = some (.int .i64)) (x : Int) : x ∈ intKeys D ↔ has D (.int .i64 x) = true := by
  obtain ⟨es, rfl, hko⟩ := h.keysOf
  show x ∈ es.map (fun p => Go.intOf p.1) ↔ _
  rw [has_eq, List.any_eq_true, List.mem_map]
  constructor
  · rintro ⟨p, hp, rfl⟩
    obtain ⟨v, hv⟩ := hko p hp
    obtain ⟨y, _, hy, _⟩ := Maps.keyOf_i64 hk hv
    exact ⟨p, hp, by rw [hy]; simp [Lit.sameKey, Go.intOf]⟩
  · rintro ⟨p, hp, hs⟩
    obtain ⟨v, hv⟩ := hko p hp
    obtain ⟨y, _, hy, _⟩ := Maps.keyOf_i64 hk hv
    rw [hy] at hs
    exact ⟨p, hp, by rw [hy]; simpa [Lit.sameKey, Go.intOf] using hs⟩
theorem own_below (h : w.ownsMap P k R b n D) (hb : Below w.heap.size w w') : w'.ownsMap P k R b n D := by
  have hlt := h.lt
  obtain ⟨es, clock, hh, F, hs, hD⟩ := h
  exact ⟨es, clock, (hb.block b hlt).trans hh, F, hs, hD⟩
end
theorem lst_nodup (f : Nat → Bool) (k : Nat) : (lst f k).Nodup := by
  unfold lst
  exact List.Pairwise.map _ (fun a b h e => h (by omega)) (List.nodup_range.filter f)
theorem lst_sorted (f : Nat → Bool) (k : Nat) : (lst f k).mergeSort (fun x y => decide (x ≤ y)) = lst f k := by
  apply List.mergeSort_of_pairwise
  unfold lst
  refine List.Pairwise.map _ (fun a b h => ?_) (List.Pairwise.filter f (List.pairwise_lt_range (n := k)))
  simp; omega
theorem lst_mem_iff {f : Nat → Bool} {k : Nat} {x : Int} : x ∈ lst f k ↔ ∃ v : Nat, v < k ∧ x = v ∧ f v = true := by
  constructor
  · intro h
    unfold lst at h
    obtain ⟨v, hv, rfl⟩ := List.mem_map.1 h
    exact ⟨v, List.mem_range.1 (List.mem_filter.1 hv).1, rfl, (List.mem_filter.1 hv).2⟩
  · rintro ⟨v, h1, rfl, h2⟩
    exact lst_mem.2 ⟨h1, h2⟩
/-- The datum 'D' is the set 'f'. -/
def SetD (D : DataW Unit) (f : Nat → Bool) : Prop :=
  (∀ x : Int, has D (.int .i64 x) = true ↔ ∃ v : Nat, v < 8 ∧ x = v ∧ f v = true) ∧ ∀ v : Nat, v < 8 → D.atKey (.int .i64 v) (.lit (.bool false)) = .lit (.bool (f v))
/-- The block 'b' is a map that holds the set 'f'. -/
def Mset (b : Nat) (f : Nat → Bool) (w : World) : Prop := ∃ D : DataW Unit, w.ownsMap Tryz.prog 3 boolEl b (Maps.size D) D ∧ SetD D f
theorem setD_perm {b n : Nat} {f : Nat → Bool} {w : World} {D : DataW Unit} (h : w.ownsMap Tryz.prog 3 boolEl b n D) (hs : SetD D f) : (lst f 8).Perm (intKeys D) :=
  own_perm h keyI Tryz.underlying3 (lst_nodup f 8) fun x => by rw [lst_mem_iff, hs.1]
theorem setD_size {b n : Nat} {f : Nat → Bool} {w : World} {D : DataW Unit} (h : w.ownsMap Tryz.prog 3 boolEl b n D) (hs : SetD D f) : Maps.size D ≤ 8 := by
  rw [← keys_len h, ← (setD_perm h hs).length_eq]; exact lst_len f 8
theorem setD_empty : SetD (.map []) (fun _ => false) := ⟨fun x => by simp [has_eq], fun v _ => rfl⟩
theorem setD_put {D : DataW Unit} {f : Nat → Bool} (hm : IsMap D) (h : SetD D f) {v : Nat} (hv : v < 8) : SetD (D.put (.int .i64 (v : Int)) (.lit (.bool true))) (fun u => decide (u = v) || f u) := by
  constructor
  · intro x
    by_cases e : x = v
    · subst e
      rw [has_put_same hm isKeyI]
      exact ⟨fun _ => ⟨v, hv, rfl, by simp⟩, fun _ => rfl⟩
    · rw [has_put_other (by intro e2; cases e2; exact e rfl), h.1]
      constructor
      · rintro ⟨u, h1, h2, h3⟩; exact ⟨u, h1, h2, by simp [h3]⟩
      · rintro ⟨u, h1, h2, h3⟩
        refine ⟨u, h1, h2, ?_⟩
        have : u ≠ v := by omega
        simpa [this] using h3
  · intro u hu
    by_cases e : u = v
    · subst e; rw [atKey_put_same hm isKeyI]; simp
    · rw [atKey_put_other (by intro e2; cases e2; exact e rfl), h.2 u hu]; simp [e]
section
variable {b : Nat} {f : Nat → Bool} {w w' : World}
theorem Mset.lt (h : Mset b f w) : b < w.heap.size := by obtain ⟨D, h, _⟩ := h; exact h.lt
theorem Mset.below (h : Mset b f w) (hb : Below w.heap.size w w') : Mset b f w' := by obtain ⟨D, h, hs⟩ := h; exact ⟨D, own_below h hb, hs⟩
theorem Mset.kept {r : Option Nat} (h : Mset b f w) (hg : w.grownBy w' r) (hn : some b ≠ r) : Mset b f w' := by obtain ⟨D, h, hs⟩ := h; exact ⟨D, h.kept hg hn, hs⟩
theorem Mset.made (w : World) : Mset w.heap.size (fun _ => false) (w.alloc (.map #[] 0)) := ⟨.map [], World.ownsMap_made w _ _ _, setD_empty⟩
theorem Mset.congr {g : Nat → Bool} (h : Mset b f w) (he : ∀ v, v < 8 → f v = g v) : Mset b g w := by
  obtain ⟨D, h, hs⟩ := h
  refine ⟨D, h, fun x => (hs.1 x).trans ⟨?_, ?_⟩, fun v hv => by rw [hs.2 v hv, he v hv]⟩
  · rintro ⟨v, h1, h2, h3⟩; exact ⟨v, h1, h2, by rw [← he v h1]; exact h3⟩
  · rintro ⟨v, h1, h2, h3⟩; exact ⟨v, h1, h2, by rw [he v h1]; exact h3⟩
end
theorem varSetU : Tryz.prog.underlying 191 = some (.map 3 4) := by kernel_rfl
theorem topU : Tryz.prog.underlying 228 = some (.map 3 191) := by kernel_rfl
section
variable (w : World) {ops : Array Oper} {rest : List Oper} {o : Oper} {a : Act} {Q : Exit → Act → World → Prop}
set_option maxRecDepth 100000 in
/-- A look-up in a set. -/
theorem wpList_look_set (hg : o.guard = none) (m x : Operand) (hop : o.op = Op.lookup 191 m x false) (b : Nat) (f : Nat → Bool) (hm : a.eval m = .map (some b)) (h : Mset b f w) (v : Nat) (hv : v < 8) (hx : a.eval x = .int .i64 (v : Int))
    (hK : wpList Tryz.prog ops Q rest (a.put o.dst (.bool (f v))) w) : wpList Tryz.prog ops Q (o :: rest) a w := by
  refine wpList_plain hg fun K' hK' => ?_
  obtain ⟨D, hown, hs⟩ := h
  obtain ⟨u, ps, hrun, hu⟩ := hown.lookup keyI varSetU (zeroB w) (plainElem_bool Tryz.underlying4 false) (keyOfI (x := (v : Int)) (by omega) (by omega))
  rw [hs.2 v hv] at hu
  have hu2 : u = .bool (f v) := by
    unfold boolEl plainElem at hu
    rw [Tryz.underlying4] at hu
    cases u <;> simp at hu
    rw [hu.1]
  rw [hu2] at hrun
  unfold Oper.wp
  simp [execOp, hop, hm, hx, hrun, Result.andThen]
  exact hK' _ _ hK
set_option maxRecDepth 100000 in
/-- A store into a set. -/
theorem wpList_put_set (hg : o.guard = none) (m x y : Operand) (hop : o.op = Op.mapUpdate 191 m x y) (b : Nat) (f : Nat → Bool) (hm : a.eval m = .map (some b)) (h : Mset b f w) (v : Nat) (hv : v < 8) (hx : a.eval x = .int .i64 (v : Int)) (hy : a.eval y = .bool true)
    (hK : ∀ w', Mset b (fun u => decide (u = v) || f u) w' → w.grownBy w' (some b) → wpList Tryz.prog ops Q rest (a.put o.dst undef) w') : wpList Tryz.prog ops Q (o :: rest) a w := by
  obtain ⟨D, hown, hs⟩ := h
  have h8 := setD_size hown hs
  exact wpList_mapUpdate_own w hg m x y _ hop _ _ keyI varSetU _ b _ D hm hown (by unfold maxLen; omega) _ _ _ hx hy (keyOfI (x := (v : Int)) (by omega) (by omega)) _ [] (plainElem_bool Tryz.underlying4 true)
    (fun w' h1 h2 => hK w' ⟨_, own_exact h1, setD_put hown.isMap hs hv⟩ h2)
set_option maxRecDepth 100000 in
/-- A store into the map of sets, written as a literal's. -/
theorem wpList_insert_own (hg : o.guard = none) (m x v : Operand) (t : TypeId) (hop : o.op = Op.insert t m x v)
    (k e : TypeId) (K : Keyed Tryz.prog k) (ht : Tryz.prog.underlying t = some (.map k e)) (R : Value → Option (DataW Unit × List MemPlace)) (b n : Nat) (D : DataW Unit)
    (hm : a.eval m = .map (some b)) (hown : w.ownsMap Tryz.prog k R b n D) (hn : n < maxLen) (key val : Value) (kl : Lit) (hx : a.eval x = key) (hv : a.eval v = val) (hkey : keyOf Tryz.prog k key = some kl)
    (d : DataW Unit) (ps : List MemPlace) (hval : R val = some (d, ps))
    (hK : ∀ w', w'.ownsMap Tryz.prog k R b (n + 1) (D.put kl d) → w.grownBy w' (some b) → wpList Tryz.prog ops Q rest (a.put o.dst undef) w') :
    wpList Tryz.prog ops Q (o :: rest) a w := by
  refine wpList_plain hg fun K' hK' => ?_
  obtain ⟨w', hrun, r1, r2⟩ := hown.update K ht hn hkey hval
  unfold Oper.wp
  simp [execOp, hop, hm, hx, hv, hrun, Result.andThen]
  exact hK' _ _ (hK w' r1 r2)
set_option maxRecDepth 100000 in
/-- A look-up in the map of sets, at a set that is there. -/
theorem wpList_look_top (hg : o.guard = none) (m x : Operand) (hop : o.op = Op.lookup 228 m x false) (b n : Nat) (D : DataW Unit) (hm : a.eval m = .map (some b)) (hown : w.ownsMap Tryz.prog 3 mapEl b n D) (q c : Nat) (hq : (q : Int) ≤ 9223372036854775807) (hx : a.eval x = .int .i64 (q : Int))
    (hat : D.atKey (.int .i64 (q : Int)) (.lit (.bool false)) = .lit (.int .i64 (c : Int)))
    (hK : wpList Tryz.prog ops Q rest (a.put o.dst (.map (some c))) w) : wpList Tryz.prog ops Q (o :: rest) a w := by
  refine wpList_plain hg fun K' hK' => ?_
  obtain ⟨u, ps, hrun, hu⟩ := hown.lookup (z := .map none) (zd := .lit (.bool false)) (zp := []) keyI topU (zeroM w) rfl (keyOfI (x := (q : Int)) (by omega) hq)
  rw [hat] at hu
  rw [mapEl_inv hu] at hrun
  unfold Oper.wp
  simp [execOp, hop, hm, hx, hrun, Result.andThen]
  exact hK' _ _ hK
end
end Go.Proofs.YtmgeecdgebemdaaGreatDoor.sets
