/- Several texts in one: Mem. -/
import Derived.Test.YtlicadaecfgklaaGHub4
import Derived.Test.YtlicadaecfgklaaGHub5
import Derived.Test.YtlicadaecfgklaaGHub8
import Derived.Laws.CopyOwn
import Derived.Lib.SliceRun
import Derived.Deep.Onto

/- Chapter 9's memory, of the program: the words as an array, the parts of it as new rows; nothing that was there is written. -/
namespace Go.Proofs.Ytlicadaecfgklaa.mem
open Go.ChangeShapes Go.WideShapes Go.ChangeAt Go.RowKit Go.Proofs.Ytlicadaecfgklaa.row Go.Proofs.Ytlicadaecfgklaa.val Go.Proofs.Ytlicadaecfgklaa.expr Go.Proofs.Ytlicadaecfgklaa.ctl

/-- The words of a memory as one value. -/
abbrev memV (L : List Int) : Value := .agg (ivs L).toArray
theorem row_range {w : World} {b off n : Nat} {L : List Int} (h : Row w (some ⟨b, off, none⟩) n L) : w.rangeAt b off (ivs L) := by
  intro j v hj
  have hjl : j < n := by have := (List.getElem?_eq_some_iff.1 hj).1; rw [ivs_length] at this; have := h.1; omega
  obtain ⟨b', off', x, e, _, hx, hc⟩ := h.2 j hjl
  cases e
  rw [hc]
  simp [ivs, hx] at hj
  rw [hj]
theorem row_some {w : World} {a : Option Addr} {n : Nat} {L : List Int} (h : Row w a n L) (hn : 0 < n) : ∃ b off, a = some ⟨b, off, none⟩ := by
  obtain ⟨b, off, _, e, _⟩ := h.2 0 hn
  exact ⟨b, off, e⟩
/-- Zeros. -/
abbrev nul (n : Nat) : List Int := List.replicate n 0
theorem ivs_one (L : List Int) : ∀ v ∈ ivs L, v.oneCell' = true := by intro v hv; obtain ⟨x, _, rfl⟩ := List.mem_map.1 hv; rfl
theorem row_box {w : World} {g o n : Nat} {L : List Int} {t : TypeId} (h : Box g (ivs L).toArray t w) (hn : o + n ≤ L.length) : Row w (some ⟨g, o, none⟩) n ((L.drop o).take n) := by
  refine ⟨by simp; omega, fun k hk => ⟨g, o, L[o + k]'(by omega), rfl, h.lt, ?_, ?_⟩⟩
  · rw [List.getElem?_take_of_lt hk, List.getElem?_drop, List.getElem?_eq_getElem]
  · rw [h.cell]; simp [ivs, show o + k < L.length by omega]
theorem box_own {w : World} {B g : Nat} {L : List Int} {t : TypeId} (h : Box g (ivs L).toArray t w) (hB : B ≤ g) (hn : L.length ≤ maxLen) : w.ownsRow B t 1 (.slice (some ⟨g, 0, none⟩) L.length L.length) L.length (ivs L) :=
  ⟨by simp [ivs], .inr ⟨g, L.length, (ivs L).toArray, rfl, hB, h, Nat.le_refl _, hn, by simp [ivs], by rw [Nat.mul_one]; exact List.take_of_length_le (by simp [ivs])⟩⟩

section program
set_option maxRecDepth 100000 in
set_option maxHeartbeats 1000000 in
theorem clone_any (w : World) (a : Option Addr) (n cap : Nat) (L : List Int) (hn : (n : Int) ≤ 1048576) (h : Row w a n L) :
    Calls Try.prog 58 #[.slice a n cap] w (NewInts w L) := by
  have q : ∀ (w : World) (a : Option Addr) (n c n' c' : Nat), (binOp .eql 22 (.slice a n c) (.slice none n' c')).run Try.prog w = .ok (.bool a.isNone) w := fun w a n c n' c' => Lib.run_eql_slice_nil w _ _ a n c n' c' Try.underlying22
  obtain ⟨i0, hi, hz0, hz1, hz2⟩ := info_parts infoInt
  cases a with
  | none =>
    have hn0 : n = 0 := by
      rcases Nat.eq_zero_or_pos n with h0 | h0
      · exact h0
      · obtain ⟨_, _, e⟩ := row_some h h0; cases e
    have hL : L = [] := List.eq_nil_of_length_eq_zero (by rw [h.1, hn0])
    subst hL
    clear h hn0
    go_enter Try.func58, Try.ntmps58
    go_wp2
    go_ret
    exact ⟨_, _, _, rfl, World.ownsRow_nil _ _ _ _, Below.refl _ _⟩
  | some ad =>
    have HL := Lib.hid (show (ivs L).length = n * 1 by rw [ivs_length, h.1]; omega)
    have HN : Hid (∀ j u, (ivs L)[j]? = some u → (w.alloc (.cells #[] 3)).cell? (ad.add j) = some u) := by
      intro j u hj
      have hjl : j < n := by have := (List.getElem?_eq_some_iff.1 hj).1; rw [ivs_length] at this; have := h.1; omega
      obtain ⟨b, off, e⟩ := row_some h (by omega)
      cases e
      rw [Addr.add_mid]
      exact World.rangeAt_alloc (row_range h) _ j u hj
    have H1 := Lib.hid (ivs_one L)
    clear h
    go_enter Try.func58, Try.ntmps58
    go_wp2_with (at_builtin; refine wpList_append_own _ rfl _ _ 22 rfl w.heap.size 3 i0 (.int .i64 0) 1 8 Try.underlying22 hi hz0 hz1 hz2 rfl (by decide) _ _ _ rfl (World.ownsRow_made w #[] 0 (Nat.le_refl _) (Nat.zero_le _) rfl) ad n cap (ivs L) rfl HL.out HN.out H1.out (by unfold maxLen; omega) (by omega) (by simp) ?_; intro v' w1 hown hgrow _; refine Hid.out ?_)
    have hb : Below w.heap.size w w1 := ((Below.refl _ w).alloc (Nat.le_refl _) _).grown hgrow (by simp) (fun k hk => by cases hk; exact Nat.le_refl _)
    have hown1 : w1.ownsRow w.heap.size 3 1 v' n (ivs L) := by simpa using hown
    have hv : ∃ ad n' cap, v' = .slice ad n' cap ∧ n' = n := by
      rcases hown1.2 with ⟨e, e0⟩ | ⟨g, c, _, e, _⟩
      · exact ⟨_, _, _, e, e0.symm⟩
      · exact ⟨_, _, _, e, rfl⟩
    obtain ⟨ad', n', cap', rfl, rfl⟩ := hv
    have HF := Lib.hid (And.intro hown1 hb)
    clear hown hgrow hb hown1
    refine Lib.hid ?_
    go_wp2
    go_ret
    exact ⟨_, _, _, rfl, HF.out.1, HF.out.2⟩
abbrev TM : TypeId := 49
theorem infoMem : (Try.prog.info? TM).map (·.size) = some 49 := by kernel_rfl
theorem mem_info {L : List Int} (h : L.length = 49) : (Try.prog.info? TM).map (·.size) = some (ivs L).toArray.size := by rw [infoMem]; simp [ivs, h]
theorem mem_all (L : List Int) : (ivs L).toArray.all (·.oneCell') = true := all_oneCell_toArray (ivs_one L)
/-- The memory at address 'a' of 49 words is read as an array's. -/
theorem run_arrayAt (b off c : Nat) (w : World) : (Instr.arrayAt TM (.slice (some ⟨b, off, none⟩) 49 c)).run Try.prog w = .ok (.pointer (some ⟨b, off, none⟩)) w := by kernel_rfl

theorem arrMem : Try.prog.underlying TM = some (.array (Try.prog.arrayLen TM) (Try.prog.elem TM)) := by kernel_rfl
theorem lenMem : Try.prog.arrayLen TM = 49 := by kernel_rfl
theorem sizeMem (w : World) : (sizeOf (Try.prog.elem TM)).run Try.prog w = .ok 1 w := by kernel_rfl
theorem run_slice_lh (g n : Nat) (hn : (n : Int) ≤ 24) (w : World) : (Instr.sliceAt TM (.pointer (some ⟨g, 0, none⟩)) (some (.int .i64 25)) (some (.int .i64 (25 + (n : Int)))) none).run Try.prog w = .ok (.slice (some ⟨g, 25, none⟩) n 24) w := by
  rw [run_sliceAt_array_lh w TM _ arrMem _ _ _ _ (by omega) (by omega) (by rw [lenMem]; omega), sizeMem, lenMem]
  simp only [Result.andThen, slicedAt]
  rw [show (25 + (n : Int)).toNat - (25 : Int).toNat = n by omega]
  rfl
theorem run_slice_8 (g : Nat) (w : World) : (Instr.sliceAt TM (.pointer (some ⟨g, 0, none⟩)) none (some (.int .i64 8)) none).run Try.prog w = .ok (.slice (some ⟨g, 0, none⟩) 8 49) w := by
  rw [run_sliceAt_array_h w TM _ arrMem _ _ (by omega) (by rw [lenMem]; omega), sizeMem, lenMem]
  rfl
theorem run_slice_all (g : Nat) (w : World) : (Instr.sliceAt TM (.pointer (some ⟨g, 0, none⟩)) none none none).run Try.prog w = .ok (.slice (some ⟨g, 0, none⟩) 49 49) w := by
  rw [run_sliceAt_array_all w TM _ arrMem, sizeMem, lenMem]
  rfl

set_option maxRecDepth 100000 in
set_option maxHeartbeats 1000000 in
theorem impl_memoryof_yes (w : World) (b off cap : Nat) (L : List Int) (h : Row w (some ⟨b, off, none⟩) 49 L) :
    Calls Try.prog 28 #[.slice (some ⟨b, off, none⟩) 49 cap] w fun e w' => e = .returned (.tuple #[memV L, .bool true]) ∧ Below w.heap.size w w' := by
  have hAP := run_arrayAt
  have HR := Lib.hid (row_range h)
  have HI := Lib.hid (mem_info h.1)
  have HB : Hid (∀ cs : Array Value, cs.size = 49 → (ivs L).toArray.size = cs.size) := fun cs hc => by rw [List.size_toArray, ivs_length, h.1, hc]
  clear h
  go_enter Try.func28, Try.ntmps28
  go_wp2_with (first
    | (refine wpList_load_mid rfl TM _ rfl b off rfl (ivs L) _ (World.rangeAt_alloc HR.out _) Try.underlying49 rfl HI.out ?_)
    | (refine wpList_store_box rfl TM _ _ rfl w.heap.size _ _ (Box.new w _ _) (ivs L).toArray rfl rfl (HB.out _ rfl) HI.out (mem_all L) ?_; intro w2 hx2 hg2))
  refine bodyPost_ret (v := .tuple #[memV L, .bool true]) (results_box2 (p := 2) (u := 3) rfl _ _ w.heap.size _ (ivs L).toArray _ (.bool true) rfl rfl hx2 Try.underlying49 rfl HI.out) rfl ?_
  exact ⟨rfl, (below_new w _).grown hg2 (by simp) (fun k hk => by cases hk; exact Nat.le_refl _)⟩
set_option maxRecDepth 100000 in
set_option maxHeartbeats 1000000 in
theorem impl_memoryof_no (w : World) (a : Option Addr) (n cap : Nat) (h : ¬ n = 49) :
    Calls Try.prog 28 #[.slice a n cap] w fun e w' => e = .returned (.tuple #[memV (nul 49), .bool false]) ∧ Below w.heap.size w w' := by
  have hq : ¬ (n : Int) = 49 := by omega
  have HI := Lib.hid (mem_info (L := nul 49) (by simp))
  have HB : Hid (∀ cs : Array Value, cs.size = 49 → (ivs (nul 49)).toArray.size = cs.size) := fun cs hc => by rw [hc]; simp [ivs]
  clear h
  go_enter Try.func28, Try.ntmps28
  go_wp2_with (first
    | (refine wpList_store_box rfl TM _ _ rfl w.heap.size _ _ (Box.new w _ _) (ivs (nul 49)).toArray rfl rfl (HB.out _ rfl) HI.out (mem_all _) ?_; intro w2 hx2 hg2))
  refine bodyPost_ret (v := .tuple #[memV (nul 49), .bool false]) (results_box2 (p := 2) (u := 3) rfl _ _ w.heap.size _ (ivs (nul 49)).toArray _ (.bool false) rfl rfl hx2 Try.underlying49 rfl HI.out) rfl ?_
  exact ⟨rfl, (below_new w _).grown hg2 (by simp) (fun k hk => by cases hk; exact Nat.le_refl _)⟩
set_option maxRecDepth 100000 in
set_option maxHeartbeats 1000000 in
theorem impl_sent (w : World) (L : List Int) (hL : L.length = 49) (n : Nat) (hn : n ≤ 24) :
    Calls Try.prog 45 #[memV L, .int .i64 n] w (NewInts w ((L.drop 25).take n)) := by
  have hb : Box w.heap.size (ivs L).toArray TM (w.alloc (.cells (ivs L).toArray TM)) := Box.new _ _ _
  have HR := Lib.hid (row_box (o := 25) (n := n) hb (by omega))
  have HB := Lib.hid (below_new w (.cells (ivs L).toArray TM))
  have hn' : (n : Int) ≤ 24 := by omega
  have hsl := run_slice_lh w.heap.size n hn'
  clear hb hn
  go_enter Try.func45, Try.ntmps45
  go_wp2_with (go_at_call 58; refine (clone_any _ _ n _ _ (by omega) HR.out).mono ?_; rintro e w1 ⟨ad, n1, c1, rfl, ho, hb1⟩; refine Hid.out ?_)
  have HF := Lib.hid (And.intro (ho.mono (show w.heap.size ≤ _ by simp)) (below_then HB.out hb1))
  clear ho hb1
  refine Lib.hid ?_
  go_wp2
  go_ret
  exact ⟨_, _, _, rfl, HF.out.1, HF.out.2⟩
/-- What a memory says was sent. -/
def sentV (L : List Int) : List Int := if wOk (L.getD 8 0) then (L.drop 25).take (wN (L.getD 8 0)).toNat else []
theorem sentV_no {L : List Int} {x : Int} (hx : L[8]? = some x) (h : wOk x = false) : sentV L = [] := by simp [sentV, List.getD_eq_getElem?_getD, hx, h]
theorem sentV_yes {L : List Int} {x : Int} {n : Nat} (hx : L[8]? = some x) (h : wOk x = true) (hn : unN x = n) : sentV L = (L.drop 25).take n := by
  have e : wN x = n := by rw [← hn]; simp [unN, h]
  simp [sentV, List.getD_eq_getElem?_getD, hx, h, e]
theorem sentV_len (L : List Int) : (sentV L).length ≤ 24 := by
  unfold sentV; split
  · rename_i h
    have hb := (ctlOk_iff _ _ _).1 h
    have := List.length_take_le (wN (L.getD 8 0)).toNat (L.drop 25)
    omega
  · simp
/-- The words of a new memory. -/
def newV (L : List Int) : List Int := if varsOk L then L ++ nul 41 else []
/-- A new row of these words, and whether they were to be had. -/
def NewMem (w : World) (ty : TypeId) (M : List Int) (r : Bool) (e : Ending) (w' : World) : Prop :=
  ∃ ad n cap, e = .returned (.tuple #[.slice ad n cap, .bool r]) ∧ w'.ownsRow w.heap.size ty 1 (.slice ad n cap) n (ivs M) ∧ Below w.heap.size w w'
theorem newV_yes {L : List Int} (h : varsOk L = true) : newV L = L ++ nul 41 ∧ (newV L).length = 49 ∧ L.length = 8 := by
  have h8 := ((varsOk_iff L).1 h).1
  have e : newV L = L ++ nul 41 := by simp [newV, h]
  refine ⟨e, ?_, h8⟩
  rw [e]; simp [h8]
theorem newV_no {L : List Int} (h : varsOk L = false) : newV L = [] := by simp [newV, h]
theorem splice_new {L : List Int} (h : L.length = 8) : splice (ivs (nul 49)) 0 (ivs L) = ivs (L ++ nul 41) := by
  simp [splice, ivs, h]
end program
end Go.Proofs.Ytlicadaecfgklaa.mem
