/- Several texts in one: QMem QZer QMemW QMemE QBlkE. -/
import Derived.Test.YtmgeecdgebemdaaGreatDoorGSigQ5
import Derived.Test.YtmgeecdgebemdaaGreatDoorGSigQ3
import Derived.Test.YtmgeecdgebemdaaGreatDoorGSigQ6
import Derived.Laws.CopyOwn
import Derived.Lib.SliceRun
import Derived.Deep.Onto
import Derived.Test.YtmgeecdgebemdaaGreatDoorGSigQ0
import Derived.Laws.AppendOwn
import Derived.Laws.CopyRow
import Derived.Deep.QuietTactic
import Derived.BigQuiet
import Derived.Test.YtmgeecdgebemdaaGreatDoorGSigQ4

/- Chapter 9's memory, of the program: the words as an array, the parts of it as new rows; nothing that was there is written. -/
namespace Go.Proofs.YtmgeecdgebemdaaGreatDoor.mem
open Go.ChangeShapes Go.WideShapes Go.ChangeAt Go.RowKit Go.Proofs.YtmgeecdgebemdaaGreatDoor.row Go.Proofs.YtmgeecdgebemdaaGreatDoor.val Go.Proofs.YtmgeecdgebemdaaGreatDoor.expr Go.Proofs.YtmgeecdgebemdaaGreatDoor.ctl
/-- The words of a memory as one value. -/
abbrev memV (L : List Int) : Value := .agg (ivs L).toArray
theorem row_range {w : World} {b off n : Nat} {L : List Int} (h : Row w (some ⟨b, off, none⟩) n L) : w.rangeAt b off (ivs L) := by
  intro j v hj
  have hjl : j < n := by have := (List.getElem?_eq_some_iff.1 hj).1; rw [ivs_length] at this; have := h.1; omega
  obtain ⟨b', off', x, e, _, hx, hc⟩ := h.2 j hjl
  cases e
  rw [hc]
  simp [ivs, hx] at hj
  rw [hj]
theorem row_some {w : World} {a : Option Addr} {n : Nat} {L : List Int} (h : Row w a n L) (hn : 0 < n) : ∃ b off, a = some ⟨b, off, none⟩ := by
  obtain ⟨b, off, _, e, _⟩ := h.2 0 hn
  exact ⟨b, off, e⟩
/-- Zeros. -/
abbrev nul (n : Nat) : List Int := List.replicate n 0
theorem ivs_one (L : List Int) : ∀ v ∈ ivs L, v.oneCell' = true := by intro v hv; obtain ⟨x, _, rfl⟩ := List.mem_map.1 hv; rfl
theorem row_box {w : World} {g o n : Nat} {L : List Int} {t : TypeId} (h : Box g (ivs L).toArray t w) (hn : o + n ≤ L.length) : Row w (some ⟨g, o, none⟩) n ((L.drop o).take n) := by
  refine ⟨by simp; omega, fun k hk => ⟨g, o, L[o + k]'(by omega), rfl, h.lt, ?_, ?_⟩⟩
  · rw [List.getElem?_take_of_lt hk, List.getElem?_drop, List.getElem?_eq_getElem]
  · rw [h.cell]; simp [ivs, show o + k < L.length by omega]
theorem box_own {w : World} {B g : Nat} {L : List Int} {t : TypeId} (h : Box g (ivs L).toArray t w) (hB : B ≤ g) (hn : L.length ≤ maxLen) : w.ownsRow B t 1 (.slice (some ⟨g, 0, none⟩) L.length L.length) L.length (ivs L) :=
  ⟨by simp [ivs], .inr ⟨g, L.length, (ivs L).toArray, rfl, hB, h, Nat.le_refl _, hn, by simp [ivs], by rw [Nat.mul_one]; exact List.take_of_length_le (by simp [ivs])⟩⟩

section program
set_option maxRecDepth 100000 in
set_option maxHeartbeats 1000000 in
theorem clone_any (w : World) (a : Option Addr) (n cap : Nat) (L : List Int) (hn : (n : Int) ≤ 1048576) (h : Row w a n L) :
    Calls Tryz.prog 96 #[.slice a n cap] w (NewInts w L) := by
  have q : ∀ (w : World) (a : Option Addr) (n c n' c' : Nat), (binOp .eql 27 (.slice a n c) (.slice none n' c')).run Tryz.prog w = .ok (.bool a.isNone) w := fun w a n c n' c' => Lib.run_eql_slice_nil w _ _ a n c n' c' Tryz.underlying27
  obtain ⟨i0, hi, hz0, hz1, hz2⟩ := info_parts infoInt
  cases a with
  | none =>
    have hn0 : n = 0 := by
      rcases Nat.eq_zero_or_pos n with h0 | h0
      · exact h0
      · obtain ⟨_, _, e⟩ := row_some h h0; cases e
    have hL : L = [] := List.eq_nil_of_length_eq_zero (by rw [h.1, hn0])
    subst hL
    clear h hn0
    go_enter Tryz.func96, Tryz.ntmps96
    go_wp2
    go_ret
    exact ⟨_, _, _, rfl, World.ownsRow_nil _ _ _ _, Below.refl _ _⟩
  | some ad =>
    have HL := Lib.hid (show (ivs L).length = n * 1 by rw [ivs_length, h.1]; omega)
    have HN : Hid (∀ j u, (ivs L)[j]? = some u → (w.alloc (.cells #[] 3)).cell? (ad.add j) = some u) := by
      intro j u hj
      have hjl : j < n := by have := (List.getElem?_eq_some_iff.1 hj).1; rw [ivs_length] at this; have := h.1; omega
      obtain ⟨b, off, e⟩ := row_some h (by omega)
      cases e
      rw [Addr.add_mid]
      exact World.rangeAt_alloc (row_range h) _ j u hj
    have H1 := Lib.hid (ivs_one L)
    clear h
    go_enter Tryz.func96, Tryz.ntmps96
    go_wp2_with (at_builtin; refine wpList_append_own _ rfl _ _ 27 rfl w.heap.size 3 i0 (.int .i64 0) 1 8 Tryz.underlying27 hi hz0 hz1 hz2 rfl (by decide) _ _ _ rfl (World.ownsRow_made w #[] 0 (Nat.le_refl _) (Nat.zero_le _) rfl) ad n cap (ivs L) rfl HL.out HN.out H1.out (by unfold maxLen; omega) (by omega) (by simp) ?_; intro v' w1 hown hgrow _; refine Hid.out ?_)
    have hb : Below w.heap.size w w1 := ((Below.refl _ w).alloc (Nat.le_refl _) _).grown hgrow (by simp) (fun k hk => by cases hk; exact Nat.le_refl _)
    have hown1 : w1.ownsRow w.heap.size 3 1 v' n (ivs L) := by simpa using hown
    have hv : ∃ ad n' cap, v' = .slice ad n' cap ∧ n' = n := by
      rcases hown1.2 with ⟨e, e0⟩ | ⟨g, c, _, e, _⟩
      · exact ⟨_, _, _, e, e0.symm⟩
      · exact ⟨_, _, _, e, rfl⟩
    obtain ⟨ad', n', cap', rfl, rfl⟩ := hv
    have HF := Lib.hid (And.intro hown1 hb)
    clear hown hgrow hb hown1
    refine Lib.hid ?_
    go_wp2
    go_ret
    exact ⟨_, _, _, rfl, HF.out.1, HF.out.2⟩
abbrev TM : TypeId := 121
theorem infoMem : (Tryz.prog.info? TM).map (·.size) = some 49 := by kernel_rfl
theorem mem_info {L : List Int} (h : L.length = 49) : (Tryz.prog.info? TM).map (·.size) = some (ivs L).toArray.size := by rw [infoMem]; simp [ivs, h]
theorem mem_all (L : List Int) : (ivs L).toArray.all (·.oneCell') = true := all_oneCell_toArray (ivs_one L)
/-- The memory at address 'a' of 49 words is read as an array's. -/
theorem run_arrayAt (b off c : Nat) (w : World) : (Instr.arrayAt TM (.slice (some ⟨b, off, none⟩) 49 c)).run Tryz.prog w = .ok (.pointer (some ⟨b, off, none⟩)) w := by kernel_rfl

theorem arrMem : Tryz.prog.underlying TM = some (.array (Tryz.prog.arrayLen TM) (Tryz.prog.elem TM)) := by kernel_rfl
theorem lenMem : Tryz.prog.arrayLen TM = 49 := by kernel_rfl
theorem sizeMem (w : World) : (sizeOf (Tryz.prog.elem TM)).run Tryz.prog w = .ok 1 w := by kernel_rfl
theorem run_slice_lh (g n : Nat) (hn : (n : Int) ≤ 24) (w : World) : (Instr.sliceAt TM (.pointer (some ⟨g, 0, none⟩)) (some (.int .i64 25)) (some (.int .i64 (25 + (n : Int)))) none).run Tryz.prog w = .ok (.slice (some ⟨g, 25, none⟩) n 24) w := by
  rw [run_sliceAt_array_lh w TM _ arrMem _ _ _ _ (by omega) (by omega) (by rw [lenMem]; omega), sizeMem, lenMem]
  simp only [Result.andThen, slicedAt]
  rw [show (25 + (n : Int)).toNat - (25 : Int).toNat = n by omega]
  rfl
theorem run_slice_8 (g : Nat) (w : World) : (Instr.sliceAt TM (.pointer (some ⟨g, 0, none⟩)) none (some (.int .i64 8)) none).run Tryz.prog w = .ok (.slice (some ⟨g, 0, none⟩) 8 49) w := by
  rw [run_sliceAt_array_h w TM _ arrMem _ _ (by omega) (by rw [lenMem]; omega), sizeMem, lenMem]
  rfl
set_option maxRecDepth 100000 in
set_option maxHeartbeats 1000000 in
theorem impl_memoryof_yes (w : World) (b off cap : Nat) (L : List Int) (h : Row w (some ⟨b, off, none⟩) 49 L) :
    Calls Tryz.prog 93 #[.slice (some ⟨b, off, none⟩) 49 cap] w fun e w' => e = .returned (.tuple #[memV L, .bool true]) ∧ Below w.heap.size w w' := by
  have hAP := run_arrayAt
  have HR := Lib.hid (row_range h)
  have HI := Lib.hid (mem_info h.1)
  have HB : Hid (∀ cs : Array Value, cs.size = 49 → (ivs L).toArray.size = cs.size) := fun cs hc => by rw [List.size_toArray, ivs_length, h.1, hc]
  clear h
  go_enter Tryz.func93, Tryz.ntmps93
  go_wp2_with (first
    | (refine wpList_load_mid rfl TM _ rfl b off rfl (ivs L) _ (World.rangeAt_alloc HR.out _) Tryz.underlying121 rfl HI.out ?_)
    | (refine wpList_store_box rfl TM _ _ rfl w.heap.size _ _ (Box.new w _ _) (ivs L).toArray rfl rfl (HB.out _ rfl) HI.out (mem_all L) ?_; intro w2 hx2 hg2))
  refine bodyPost_ret (v := .tuple #[memV L, .bool true]) (results_box2 (p := 2) (u := 3) rfl _ _ w.heap.size _ (ivs L).toArray _ (.bool true) rfl rfl hx2 Tryz.underlying121 rfl HI.out) rfl ?_
  exact ⟨rfl, (below_new w _).grown hg2 (by simp) (fun k hk => by cases hk; exact Nat.le_refl _)⟩
set_option maxRecDepth 100000 in
set_option maxHeartbeats 1000000 in
theorem impl_memoryof_no (w : World) (a : Option Addr) (n cap : Nat) (h : ¬ n = 49) :
    Calls Tryz.prog 93 #[.slice a n cap] w fun e w' => e = .returned (.tuple #[memV (nul 49), .bool false]) ∧ Below w.heap.size w w' := by
  have hq : ¬ (n : Int) = 49 := by omega
  have HI := Lib.hid (mem_info (L := nul 49) (by simp))
  have HB : Hid (∀ cs : Array Value, cs.size = 49 → (ivs (nul 49)).toArray.size = cs.size) := fun cs hc => by rw [hc]; simp [ivs]
  clear h
  go_enter Tryz.func93, Tryz.ntmps93
  go_wp2_with (first
    | (refine wpList_store_box rfl TM _ _ rfl w.heap.size _ _ (Box.new w _ _) (ivs (nul 49)).toArray rfl rfl (HB.out _ rfl) HI.out (mem_all _) ?_; intro w2 hx2 hg2))
  refine bodyPost_ret (v := .tuple #[memV (nul 49), .bool false]) (results_box2 (p := 2) (u := 3) rfl _ _ w.heap.size _ (ivs (nul 49)).toArray _ (.bool false) rfl rfl hx2 Tryz.underlying121 rfl HI.out) rfl ?_
  exact ⟨rfl, (below_new w _).grown hg2 (by simp) (fun k hk => by cases hk; exact Nat.le_refl _)⟩
set_option maxRecDepth 100000 in
set_option maxHeartbeats 1000000 in
theorem impl_sent (w : World) (L : List Int) (hL : L.length = 49) (n : Nat) (hn : n ≤ 24) :
    Calls Tryz.prog 94 #[memV L, .int .i64 n] w (NewInts w ((L.drop 25).take n)) := by
  have hb : Box w.heap.size (ivs L).toArray TM (w.alloc (.cells (ivs L).toArray TM)) := Box.new _ _ _
  have HR := Lib.hid (row_box (o := 25) (n := n) hb (by omega))
  have HB := Lib.hid (below_new w (.cells (ivs L).toArray TM))
  have hn' : (n : Int) ≤ 24 := by omega
  have hsl := run_slice_lh w.heap.size n hn'
  clear hb hn
  go_enter Tryz.func94, Tryz.ntmps94
  go_wp2_with (go_at_call 96; refine (clone_any _ _ n _ _ (by omega) HR.out).mono ?_; rintro e w1 ⟨ad, n1, c1, rfl, ho, hb1⟩; refine Hid.out ?_)
  have HF := Lib.hid (And.intro (ho.mono (show w.heap.size ≤ _ by simp)) (below_then HB.out hb1))
  clear ho hb1
  refine Lib.hid ?_
  go_wp2
  go_ret
  exact ⟨_, _, _, rfl, HF.out.1, HF.out.2⟩
set_option maxRecDepth 100000 in
set_option maxHeartbeats 1000000 in
theorem impl_memvars_yes (w : World) (b off cap : Nat) (L : List Int) (h : Row w (some ⟨b, off, none⟩) 49 L) :
    Calls Tryz.prog 38 #[.slice (some ⟨b, off, none⟩) 49 cap] w (NewInts w (L.take 8)) := by
  have hsl := run_slice_8
  have hl := h.1
  have HI := Lib.hid (mem_info hl)
  have HL : Hid (∀ cs : Array Value, cs.size = 49 → (ivs L).toArray.size = cs.size) := fun cs hc => by rw [List.size_toArray, ivs_length, h.1, hc]
  have HK := Lib.hid (show ∀ (w' : World) (g : Nat), Box g (ivs L).toArray TM w' → Row w' (some ⟨g, 0, none⟩) 8 (L.take 8) from fun w' g hb => by simpa using row_box (o := 0) (n := 8) hb (by omega))
  clear hl
  go_enter Tryz.func38, Tryz.ntmps38
  go_wp2_with (first
    | (go_at_call 93; refine (impl_memoryof_yes _ b off cap L h).mono ?_; rintro e w1 ⟨rfl, hb1⟩)
    | (refine wpList_store_box rfl TM _ _ rfl w1.heap.size _ _ (Box.new w1 _ _) (ivs L).toArray rfl rfl (HL.out _ rfl) HI.out (mem_all L) ?_; intro w2 hx2 hg2)
    | (go_at_call 96; refine (clone_any _ _ 8 _ _ (by omega) (HK.out _ _ hx2)).mono ?_; rintro e w3 ⟨ad, n3, c3, rfl, ho, hb3⟩; refine Hid.out ?_))
  have hb2 := ((below_then hb1 (below_new w1 _)).grown hg2 (show w.heap.size ≤ _ by have := hb1.size; simp; omega) (fun k hk => by cases hk; exact hb1.size))
  have HF := Lib.hid (And.intro (ho.mono hb2.size) (below_then hb2 hb3))
  clear ho hb3 hb2
  refine Lib.hid ?_
  go_wp2
  go_ret
  exact ⟨_, _, _, rfl, HF.out.1, HF.out.2⟩
/-- What a memory says was sent. -/
def sentV (L : List Int) : List Int := if wOk (L.getD 8 0) then (L.drop 25).take (wN (L.getD 8 0)).toNat else []
/-- The words of a new memory. -/
def newV (L : List Int) : List Int := if varsOk L then L ++ nul 41 else []
/-- A new row of these words, and whether they were to be had. -/
def NewMem (w : World) (ty : TypeId) (M : List Int) (r : Bool) (e : Ending) (w' : World) : Prop :=
  ∃ ad n cap, e = .returned (.tuple #[.slice ad n cap, .bool r]) ∧ w'.ownsRow w.heap.size ty 1 (.slice ad n cap) n (ivs M) ∧ Below w.heap.size w w'
theorem newV_yes {L : List Int} (h : varsOk L = true) : newV L = L ++ nul 41 ∧ (newV L).length = 49 ∧ L.length = 8 := by
  have h8 := ((varsOk_iff L).1 h).1
  have e : newV L = L ++ nul 41 := by simp [newV, h]
  refine ⟨e, ?_, h8⟩
  rw [e]; simp [h8]
theorem newV_no {L : List Int} (h : varsOk L = false) : newV L = [] := by simp [newV, h]
end program
end Go.Proofs.YtmgeecdgebemdaaGreatDoor.mem

/- A law for 'append(s, make([]int, k)...)' onto a row of the call's own, which the model runs as one operation: behind it the row has k zeros more; the row moves or stays; nothing else is written. -/
namespace Go.Proofs.YtmgeecdgebemdaaGreatDoor.row
open Go.ChangeShapes Go.WideShapes Go.ChangeAt Go.RowKit
theorem zero_cells (k : Nat) : Builtin.zeroCells (Value.int .i64 0).cells k = (ivs (List.replicate k 0)).toArray := by
  apply Array.ext'
  apply List.ext_getElem?
  intro j
  simp only [Builtin.zeroCells, Value.cells, ivs]
  by_cases h : j < k
  · simp [h, Nat.mod_one]
  · simp [h]
set_option maxRecDepth 100000 in
theorem run_append_zeros {P : Program} (w : World) (base : Nat) (t it ty e : TypeId) (i : TypeInfo) (ht : P.underlying t = some (.slice e)) (hit : P.underlying it = some (.int .i64)) (hi : P.info? e = some i) (hz : i.zero = some (.int .i64 0))
    (hsize : i.size = 1) (hby : i.bytes = 8) (g n cap : Nat) (L : List Int) (hown : w.ownsRow base e 1 (.slice (some ⟨g, 0, none⟩) n cap) n (ivs L)) (k : Nat) (hk : 0 < k)
    (h63 : (n + k : Nat) ≤ 2097152) (hbase : base ≤ w.heap.size) :
    ∃ v' w', (Builtin.append_ #[t, it] ty #[.slice (some ⟨g, 0, none⟩) n cap, .int .i64 k]).run P w = .ok v' w' ∧ w'.ownsRow base e 1 v' (n + k) (ivs (L ++ List.replicate k 0)) ∧ w.grownBy w' (some g) := by
  have hll : (ivs L).length = n := by simpa using hown.1
  have hwk : IntKind.i64.wrap (k : Int) = k := by rw [IntKind.wrap_i64]; omega
  have hk0 : ¬ ((k : Int) < 0) := by omega
  have hkb : ¬ (281474976710656 < (k : Int) * 8) := by omega
  have hkz : ¬ (k = 0) := by omega
  have eL : ivs (L ++ List.replicate k 0) = ivs L ++ ivs (List.replicate k 0) := by simp [ivs]
  have hlk : (ivs (List.replicate k 0)).length = k := by simp [ivs]
  have hcells : ∀ j u, (ivs L)[j]? = some u → w.cell? ((⟨g, 0, none⟩ : Addr).add j) = some u := hown.cells (g := g) rfl
  have hone : ∀ v ∈ ivs (List.replicate k 0), v.oneCell' = true := by intro v hv; obtain ⟨x, _, rfl⟩ := List.mem_map.1 hv; rfl
  rcases hown.2 with ⟨e1, _⟩ | ⟨g', cap', cur, e1, hbg, hg, hnc, hcm, hcs, htake⟩
  · cases e1
  cases e1
  rw [Nat.mul_one] at hcs htake
  by_cases hroom : n + k ≤ cap
  · have hfit : n + (ivs (List.replicate k 0)).length ≤ cur.size := by rw [hlk, hcs]; exact hroom
    have hst := run_storeCells_at P g n e (ivs (List.replicate k 0)) 0 cur w hg (by simpa using hfit) hone
    simp only [Nat.add_zero] at hst
    refine ⟨.slice (some ⟨g, 0, none⟩) (n + k) cap, w.setRow g (cur.toList.take n ++ ivs (List.replicate k 0) ++ cur.toList.drop (n + (ivs (List.replicate k 0)).length)).toArray, ?_, ⟨by rw [eL, List.length_append, hll, hlk]; omega, .inr ⟨g, cap, _, rfl, hbg, setRow_heap w g cur _ e _ hg, hroom, hcm, ?_, ?_⟩⟩, ⟨rfl, rfl, rfl, by simp, fun j _ hj => setRow_other w g j _ (fun e => hj (by simp [e]))⟩⟩
    · simp [Builtin.append_, run_underlying ht, run_underlying hit, sizeOf, typeInfo, zeroValue, asInt, asIntOf, hi, hz, hsize, hby, hwk, hk0, hkb, hkz, hroom, zero_cells, Addr.add_lit, hst]
    · simp only [List.size_toArray, List.length_append, List.length_take, List.length_drop, Array.length_toList]
      omega
    · rw [htake, Nat.mul_one, eL]
      exact List.take_left' (by rw [List.length_append, hll, hlk])
  · have h1 : ¬ (9223372036854775807 < ((n : Int) + (k : Int))) := by omega
    have h2 : ¬ (281474976710656 < Builtin.nextslicecap (n + k) cap * 8) := by
      have := growslice_fits (need := n + k) (old := cap) (bytes := 8) (by omega) (by omega)
      omega
    have hfo := run_firstCells_some (P := P) w.drew 1 n ⟨g, 0, none⟩ n cap (ivs L) (by rw [hll]; omega) (by simpa using hcells)
    have hge := grownCap_ge w (n + k) cap e
    have hcm2 : grownCap w (n + k) cap e ≤ maxLen := grownCap_le_maxLen w (n + k) cap e (by unfold maxLen; omega)
    refine ⟨.slice (some ⟨w.heap.size, 0, none⟩) (n + k) (grownCap w (n + k) cap e), w.drew.alloc (.cells ((ivs L).toArray ++ (ivs (List.replicate k 0)).toArray ++ Builtin.zeroCells (Value.int .i64 0).cells (grownCap w (n + k) cap e - (n + k))) e), ?_, ⟨by rw [eL, List.length_append, hll, hlk]; omega, .inr ⟨w.heap.size, _, _, rfl, hbase, heap_alloc_new w.drew _, hge, hcm2, ?_, ?_⟩⟩, ⟨rfl, rfl, rfl, by simp, fun j hj _ => (below_new w.drew _).block j hj⟩⟩
    · simp [Builtin.append_, run_underlying ht, run_underlying hit, sizeOf, typeInfo, zeroValue, asInt, asIntOf, hi, hz, hsize, hby, hwk, hk0, hkb, hkz, hroom, h1, h2, Question.forced, zero_cells, hfo, newRow, grownCap]
    · simp only [Array.size_append, List.size_toArray, size_zeroCells, hll, hlk]
      simp [Value.cells]; omega
    · simp only [Array.toList_append, List.append_assoc]
      rw [← List.append_assoc, Nat.mul_one, eL]
      exact List.take_left' (by rw [List.length_append, hll, hlk])
theorem wpList_append_zeros {P : Program} {ops : Array Oper} {rest : List Oper} {o : Oper} {a : Act} {w : World} {Q : Exit → Act → World → Prop} (hgd : o.guard = none) (s : Operand) (t it : TypeId) (k : Nat)
    (ho : o.op = .call { callee := .builtin .append, args := #[s, .const (.int .i64 k)], argTypes := #[t, it] })
    (base : Nat) (e : TypeId) (i : TypeInfo) (ht : P.underlying t = some (.slice e)) (hit : P.underlying it = some (.int .i64)) (hi : P.info? e = some i) (hz : i.zero = some (.int .i64 0))
    (hsize : i.size = 1) (hby : i.bytes = 8) (g n cap : Nat) (L : List Int) (hs : a.eval s = .slice (some ⟨g, 0, none⟩) n cap) (hown : w.ownsRow base e 1 (.slice (some ⟨g, 0, none⟩) n cap) n (ivs L)) (hk : 0 < k)
    (h63 : (n + k : Nat) ≤ 2097152) (hbase : base ≤ w.heap.size)
    (h : ∀ v' w', w'.ownsRow base e 1 v' (n + k) (ivs (L ++ List.replicate k 0)) → w.grownBy w' (some g) → wpList P ops Q rest (a.put o.dst v') w') : wpList P ops Q (o :: rest) a w := by
  obtain ⟨v', w', hr, h2, h3⟩ := run_append_zeros (P := P) w base t it o.type e i ht hit hi hz hsize hby g n cap L hown k hk h63 hbase
  refine wpList_plain hgd fun K hK => ?_
  unfold Oper.wp execOp
  have he : a.eval (.const (.int .i64 k)) = .int .i64 k := rfl
  simp only [ho, resolve, invoke, builtin, Sem.run_bind, Sem.run_pure, Result.andThen_ok, List.map_toArray, List.map_cons, List.map_nil, hs, he, hr]
  exact hK _ _ (h v' w' h2 h3)
end Go.Proofs.YtmgeecdgebemdaaGreatDoor.row

/- Chapter 9's memory, of the model: a new memory, its variables, what it says was sent, as new rows; nothing that was there is written. -/
namespace Go.Proofs.YtmgeecdgebemdaaGreatDoor.mem
open Go.ChangeShapes Go.WideShapes Go.ChangeAt Go.RowKit Go.Proofs.YtmgeecdgebemdaaGreatDoor.row Go.Proofs.YtmgeecdgebemdaaGreatDoor.val Go.Proofs.YtmgeecdgebemdaaGreatDoor.expr Go.Proofs.YtmgeecdgebemdaaGreatDoor.ctl
/-- What appending a row to an empty one asks. -/
theorem news_of (w : World) {b off n : Nat} {L : List Int} (h : Row w (some ⟨b, off, none⟩) n L) : ∀ j u, (ivs L)[j]? = some u → (w.alloc (.cells #[] 3)).cell? ((⟨b, off, none⟩ : Addr).add j) = some u := by
  intro j u hj
  rw [Addr.add_mid]
  exact World.rangeAt_alloc (row_range h) _ j u hj
theorem below_app {w w1 : World} {v : Value} {o : Obj} (hgrow : (w.alloc o).grownBy w1 v.ownBlock) (hv : ∀ k, v.ownBlock = some k → w.heap.size ≤ k) : Below w.heap.size w w1 :=
  ((Below.refl _ w).alloc (Nat.le_refl _) _).grown hgrow (by simp) hv
theorem own_slice {w : World} {B : Nat} {ty : TypeId} {v : Value} {n : Nat} {xs : List Value} (h : w.ownsRow B ty 1 v n xs) : ∃ ad cap, v = .slice ad n cap := by
  rcases h.2 with ⟨e, e0⟩ | ⟨g, c, _, e, _⟩
  · exact ⟨_, _, by rw [e, e0]⟩
  · exact ⟨_, _, e⟩

set_option maxRecDepth 100000 in
set_option maxHeartbeats 1000000 in
theorem spec_memnew (w : World) (a : Option Addr) (n cap : Nat) (L : List Int) (hn : (n : Int) ≤ 1048576) (h : Row w a n L) :
    Calls Tryz.prog 113 #[.slice a n cap] w (NewMem w 3 (newV L) (varsOk L)) := by
  obtain ⟨i0, hi, hz0, hz1, hz2⟩ := info_parts infoInt
  cases hv : varsOk L
  · have HV := Lib.hid hv
    have HN := Lib.hid (newV_no hv)
    clear hv
    go_enter Tryz.func113, Tryz.ntmps113
    go_wp2_with (go_at_call 88; refine (spec_vars _ _ _ _ L hn h false HV.out).mono ?_; rintro e w1 ⟨rfl, rfl⟩)
    go_ret2
    refine ⟨_, _, _, rfl, ?_, below_new _ _⟩
    rw [HN.out]; exact World.ownsRow_made w #[] 0 (Nat.le_refl _) (Nat.zero_le _) rfl
  · obtain ⟨e1, e2, e3⟩ := newV_yes hv
    obtain rfl : n = 8 := by have := h.1; omega
    obtain ⟨b, off, rfl⟩ := row_some h (by decide)
    have HV := Lib.hid hv
    have HE := Lib.hid e1
    have HL := Lib.hid (show (ivs L).length = 8 * 1 by rw [ivs_length, e3])
    have HN := Lib.hid (news_of w h)
    have H1 := Lib.hid (ivs_one L)
    clear hv e1 e2 e3
    go_enter Tryz.func113, Tryz.ntmps113
    go_wp2_with (first
      | (go_at_call 88; refine (spec_vars _ _ _ _ L hn h true HV.out).mono ?_; rintro e w1 ⟨rfl, rfl⟩)
      | (at_builtin; refine wpList_append_own _ rfl _ _ 27 rfl w.heap.size 3 i0 (.int .i64 0) 1 8 Tryz.underlying27 hi hz0 hz1 hz2 rfl (by decide) _ _ _ rfl (World.ownsRow_made w #[] 0 (Nat.le_refl _) (Nat.zero_le _) rfl) ⟨b, off, none⟩ 8 cap (ivs L) rfl HL.out HN.out H1.out (by unfold maxLen; omega) (by omega) (by simp) ?_; intro v' w1 hown hgrow _; refine Hid.out ?_))
    have hb := below_app hgrow (fun k hk => by cases hk; exact Nat.le_refl _)
    rw [Nat.zero_add, List.nil_append] at hown
    obtain ⟨g, c, rfl, hbg, hgs⟩ := hown.form (by decide)
    have HF := Lib.hid (And.intro hown (And.intro hb hbg))
    have hbs := hb.size
    clear hown hgrow hb
    refine Lib.hid ?_
    go_wp2_with (at_builtin; refine wpList_append_zeros rfl _ 27 3 41 rfl w.heap.size 3 i0 Tryz.underlying27 Tryz.underlying3 hi hz0 hz1 hz2 g 8 c L rfl HF.out.1 (by decide) (by decide) hbs ?_; intro v2 w2 hown2 hgrow2; refine Hid.out ?_)
    obtain ⟨ad2, c2, rfl⟩ := own_slice hown2
    have HF2 := Lib.hid (And.intro hown2 (HF.out.2.1.grown hgrow2 hbs (fun k hk => by cases hk; exact HF.out.2.2)))
    clear hown2 hgrow2
    refine Lib.hid ?_
    go_wp2
    go_ret2
    refine ⟨_, _, _, rfl, ?_, HF2.out.2⟩
    rw [HE.out]; exact HF2.out.1
end Go.Proofs.YtmgeecdgebemdaaGreatDoor.mem

/- Chapter 9 of the program: an entry of the log (memory.entry): the two words, read from a copy; nothing that was there is written. -/
namespace Go.Proofs.YtmgeecdgebemdaaGreatDoor.mem
open Go.ChangeShapes Go.WideShapes Go.ChangeAt Go.RowKit Go.Proofs.YtmgeecdgebemdaaGreatDoor.row Go.Proofs.YtmgeecdgebemdaaGreatDoor.val Go.Proofs.YtmgeecdgebemdaaGreatDoor.expr Go.Proofs.YtmgeecdgebemdaaGreatDoor.ctl
/-- Two numbers, and what was there is as it was. -/
def BelT (w : World) (x y : Int) (e : Ending) (w' : World) : Prop := e = .returned (.tuple #[.int .i64 x, .int .i64 y]) ∧ Below w.heap.size w w'
set_option maxRecDepth 100000 in
set_option maxHeartbeats 2000000 in
theorem impl_logentry (w : World) (L : List Int) (hL : L.length = 49) (i : Nat) (hi : i < 8) (x y : Int) (hx : L.getD (9 + 2 * i) 0 = x) (hy : L.getD (10 + 2 * i) 0 = y) :
    Calls Tryz.prog 116 #[memV L, .int .i64 i] w (BelT w x y) := by
  have hb : Box w.heap.size (ivs L).toArray TM (w.alloc (.cells (ivs L).toArray TM)) := Box.new _ _ _
  have hC : ∀ j, j < 49 → (w.alloc (.cells (ivs L).toArray TM)).cell? ⟨w.heap.size, j, none⟩ = some (.int .i64 (L.getD j 0)) := fun j hj => by
    rw [hb.cell]; simp [ivs, show j < L.length by omega]
  have HB := Lib.hid (below_new w (.cells (ivs L).toArray TM))
  obtain ⟨p, hp⟩ : ∃ p : Nat, p = 9 + 2 * i := ⟨_, rfl⟩
  have d0 := hC (9 + 2 * i) (by omega)
  have d1 := hC (10 + 2 * i) (by omega)
  rw [hx, ← hp] at d0
  rw [hy, show 10 + 2 * i = p + 1 by omega] at d1
  have hpk : (9 : Int) + 2 * (i : Int) = (p : Int) := by omega
  have hpb : (p : Int) ≤ 23 := by omega
  have hp1 : (p : Int) < 49 := by omega
  have hp2 : (p : Int) + 1 < 49 := by omega
  have hi8 : (i : Int) < 8 := by omega
  clear hb hC hx hy hp
  go_enter Tryz.func116, Tryz.ntmps116
  go_wp2
  go_quiet (fail)
  go_wp2
  go_ret2
  exact ⟨rfl, below_drewN HB.out _⟩
end Go.Proofs.YtmgeecdgebemdaaGreatDoor.mem

/- Chapter 5's model: what opens, the matching end, EndOf, DepthOf: what the plain relations say; nothing that was there is written. -/
namespace Go.Proofs.YtmgeecdgebemdaaGreatDoor.blk
open Go Go.ChangeShapes Go.WideShapes Go.ChangeAt Go.RowKit Go.Proofs.YtmgeecdgebemdaaGreatDoor.row Go.Proofs.YtmgeecdgebemdaaGreatDoor.val Go.Proofs.YtmgeecdgebemdaaGreatDoor.expr Go.Proofs.YtmgeecdgebemdaaGreatDoor.stm
end Go.Proofs.YtmgeecdgebemdaaGreatDoor.blk
