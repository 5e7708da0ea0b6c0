/- Several texts in one: VReadC VMem VZer VMemW VMemE. -/
import Derived.Test.YtmgeecdgebemdaaGreatDoorGSigV1
import Derived.Test.YtmgeecdgebemdaaGreatDoorGSigV5
import Derived.Deep.AppendLies
import Derived.WalkSpells
import Derived.Test.YtmgeecdgebemdaaGreatDoorGSigV9
import Derived.Test.YtmgeecdgebemdaaGreatDoorGSigV2
import Derived.Laws.CopyOwn
import Derived.Lib.SliceRun
import Derived.Deep.Onto
import Derived.Test.YtmgeecdgebemdaaGreatDoorGSigV0
import Derived.Laws.AppendOwn
import Derived.Laws.CopyRow
import Derived.Deep.QuietTactic
import Derived.BigQuiet

/- Chapter 3's ReadsOf of the model: the numbers of the variables that a valid expression names, in ascending order, in new memory; nothing that was there is written. -/
namespace Go.Proofs.YtmgeecdgebemdaaGreatDoor.expr
open Go.ChangeShapes Go.WideShapes Go.ChangeAt Go.RowKit Go.Proofs.YtmgeecdgebemdaaGreatDoor.row Go.Proofs.YtmgeecdgebemdaaGreatDoor.val
def readsV (o a b : Int) : List Int := if exprOk o a b then rd a b 8 else []
/-- A new row of these numbers. -/
def NewInts (w : World) (L : List Int) (e : Ending) (w' : World) : Prop :=
  ∃ ad n cap, e = .returned (.slice ad n cap) ∧ w'.ownsRow w.heap.size 3 1 (.slice ad n cap) n (ivs L) ∧ Below w.heap.size w w'

set_option maxHeartbeats 2000000 in
set_option maxRecDepth 100000 in
theorem spec_reads_ok (w : World) (o a b : Int) (he : exprOk o a b = true) :
    Calls Tryz.prog 237 #[ev o a b] w (NewInts w (rd a b 8)) := by
  obtain ⟨i0, hi, hz0, hz1, hz2⟩ := info_parts infoInt
  have hx := Box.new w #[.int .i64 o, .int .i64 a, .int .i64 b] 94
  have hn := below_new w (.cells #[.int .i64 o, .int .i64 a, .int .i64 b] 94)
  have H0 := Lib.hid (And.intro hx hn)
  clear hx hn
  have HE := Lib.hid he
  clear he
  go_enter Tryz.func237, Tryz.ntmps237
  go_wp2
  go_loopw [3, 4] (fun v i wr => ∃ (k n cap : Nat) (ad : Option Addr), k ≤ 8 ∧ i = .int .i64 k ∧ v = .slice ad n cap ∧ n ≤ k ∧ wr.ownsRow (w.heap.size + 1) 3 1 (.slice ad n cap) n (ivs (rd a b k)) ∧ Box w.heap.size #[.int .i64 o, .int .i64 a, .int .i64 b] 94 wr ∧ Below w.heap.size w wr) (fun _ i _ => 8 - (intOf i).toNat)
  case atStart =>
    have hs : (w.alloc (.cells #[.int .i64 o, .int .i64 a, .int .i64 b] 94)).heap.size = w.heap.size + 1 := by simp
    refine ⟨0, 0, 0, some ⟨w.heap.size + 1, 0, none⟩, Nat.zero_le _, rfl, by simp, Nat.le_refl _, ?_, H0.out.1.alloc _, below_then H0.out.2 (below_new _ _)⟩
    have := World.ownsRow_made (base := w.heap.size + 1) (e := 3) (size := 1) (w.alloc (.cells #[.int .i64 o, .int .i64 a, .int .i64 b] 94)) #[] 0 (by simp) (by decide) rfl
    rw [hs] at this
    exact this
  case round =>
    obtain ⟨k, n, cap, ad, hk, rfl, rfl, hnk, hown, hbox, hbel⟩ := hrel
    have c0 := hbox.cell 0
    have c1 := hbox.cell 1
    have c2 := hbox.cell 2
    by_cases hlt : k < 8
    · have hI : (k : Int) < 8 := by omega
      have H1 := Lib.hid (And.intro hown (And.intro hbox hbel))
      clear hown hbel hbox
      go_wp2_with (go_at_call 151; refine (spec_exprok _ _ _ _ HE.out _).mono ?_; rintro e w2 ⟨rfl, hb2⟩; refine Hid.out ?_)
      have hown2 := H1.out.1.kept (grown_below hb2 none) (by cases ad <;> simp [Value.ownBlock])
      have hbox2 := H1.out.2.1.below hb2
      have hbel2 := below_then H1.out.2.2 hb2
      clear c0 c1 c2 hb2 H1
      have c0 := hbox2.cell 0
      have c1 := hbox2.cell 1
      have c2 := hbox2.cell 2
      have hsz := hbox2.lt
      by_cases hyes : a = -1 - (k : Int) ∨ b = -1 - (k : Int)
      · have HRD := Lib.hid (rd_yes hyes)
        have HN : Hid (∀ j, (Value.slice ad n cap).ownBlock = some j → w.heap.size + 1 ≤ j) := fun j hj => (hown2.lt j hj).1
        have H2 := Lib.hid (And.intro hbox2 hbel2)
        have HO2 := Lib.hid hown2
        rcases (show (a == -1 - (k : Int)) = true ∨ ((a == -1 - (k : Int)) = false ∧ (b == -1 - (k : Int)) = true) by by_cases h : a = -1 - (k : Int); exact Or.inl (by simp [h]); exact Or.inr ⟨by simp [h], by rcases hyes with h' | h'; exact absurd h' h; simp [h']⟩) with t1 | ⟨t1, t2⟩
        all_goals
          clear hyes hown2 hbox2 hbel2
          refine Lib.hid ?_
          go_wp2_with (at_builtin; refine wpList_append_own _ rfl _ _ 27 rfl (w.heap.size + 1) 3 i0 (.int .i64 0) 1 8 Tryz.underlying27 hi hz0 hz1 hz2 rfl (by decide) _ _ _ rfl (HO2.out.alloc _) ⟨w2.heap.size, 0, none⟩ 1 1 [.int .i64 k] rfl rfl (World.news_of_block (cs := #[.int .i64 k]) (t := 3) (fr := (0, 0)) (heap_alloc_new w2 _)) (by simp [Value.oneCell']) (by unfold maxLen; omega) (by omega) (by simp; omega) ?_; intro v3 w3 hown3 hgrow3 _; refine Hid.out ?_)
          rw [ivs_snoc, ← HRD.out] at hown3
          have hbox3 := (H2.out.1.alloc (.cells #[.int .i64 k] 3)).grown hgrow3 (fun e => by have := HN.out _ e.symm; omega)
          have hbel3 := (below_then H2.out.2 (below_new w2 (.cells #[.int .i64 k] 3))).grown hgrow3 (by have := H2.out.2.size; simp; omega) (fun j hj => by have := HN.out j hj; omega)
          have HR := Lib.hid (And.intro hown3 (And.intro hbox3 hbel3))
          have hform := hown3.form (by omega)
          obtain ⟨g3, cap3, rfl, _, _⟩ := hform
          clear hown3 hbox3 hbel3 hgrow3 c0 c1 c2
          refine Lib.hid ?_
          go_wp2
          go_roundw
          case rel => exact ⟨k + 1, n + 1, cap3, _, by omega, by go_num, rfl, by omega, HR.out.1, HR.out.2.1, HR.out.2.2⟩
          case measure => simp [intOf]; omega
      · have HRD := Lib.hid (rd_no hyes)
        have t1 : (a == -1 - (k : Int)) = false := by simp; omega
        have t2 : (b == -1 - (k : Int)) = false := by simp; omega
        rw [← HRD.out] at hown2
        have HR := Lib.hid (And.intro hown2 (And.intro hbox2 hbel2))
        clear hyes hown2 hbox2 hbel2
        refine Lib.hid ?_
        go_wp2
        go_roundw
        case rel => exact ⟨k + 1, n, cap, ad, by omega, by go_num, rfl, by omega, HR.out.1, HR.out.2.1, HR.out.2.2⟩
        case measure => simp [intOf]; omega
    · have hk8 : k = 8 := by omega
      subst hk8
      have HR := Lib.hid (And.intro hown hbel)
      clear hown hbox hbel
      go_wp2
      go_ret
      exact ⟨_, _, _, rfl, HR.out.1.mono (by omega), HR.out.2⟩
end Go.Proofs.YtmgeecdgebemdaaGreatDoor.expr

/- Chapter 9's memory, of the program: the words as an array, the parts of it as new rows; nothing that was there is written. -/
namespace Go.Proofs.YtmgeecdgebemdaaGreatDoor.mem
open Go.ChangeShapes Go.WideShapes Go.ChangeAt Go.RowKit Go.Proofs.YtmgeecdgebemdaaGreatDoor.row Go.Proofs.YtmgeecdgebemdaaGreatDoor.val Go.Proofs.YtmgeecdgebemdaaGreatDoor.expr Go.Proofs.YtmgeecdgebemdaaGreatDoor.ctl
/-- The words of a memory as one value. -/
abbrev memV (L : List Int) : Value := .agg (ivs L).toArray
theorem row_range {w : World} {b off n : Nat} {L : List Int} (h : Row w (some ⟨b, off, none⟩) n L) : w.rangeAt b off (ivs L) := by
  intro j v hj
  have hjl : j < n := by have := (List.getElem?_eq_some_iff.1 hj).1; rw [ivs_length] at this; have := h.1; omega
  obtain ⟨b', off', x, e, _, hx, hc⟩ := h.2 j hjl
  cases e
  rw [hc]
  simp [ivs, hx] at hj
  rw [hj]
theorem row_some {w : World} {a : Option Addr} {n : Nat} {L : List Int} (h : Row w a n L) (hn : 0 < n) : ∃ b off, a = some ⟨b, off, none⟩ := by
  obtain ⟨b, off, _, e, _⟩ := h.2 0 hn
  exact ⟨b, off, e⟩
/-- Zeros. -/
abbrev nul (n : Nat) : List Int := List.replicate n 0
theorem ivs_one (L : List Int) : ∀ v ∈ ivs L, v.oneCell' = true := by intro v hv; obtain ⟨x, _, rfl⟩ := List.mem_map.1 hv; rfl
theorem row_box {w : World} {g o n : Nat} {L : List Int} {t : TypeId} (h : Box g (ivs L).toArray t w) (hn : o + n ≤ L.length) : Row w (some ⟨g, o, none⟩) n ((L.drop o).take n) := by
  refine ⟨by simp; omega, fun k hk => ⟨g, o, L[o + k]'(by omega), rfl, h.lt, ?_, ?_⟩⟩
  · rw [List.getElem?_take_of_lt hk, List.getElem?_drop, List.getElem?_eq_getElem]
  · rw [h.cell]; simp [ivs, show o + k < L.length by omega]
theorem box_own {w : World} {B g : Nat} {L : List Int} {t : TypeId} (h : Box g (ivs L).toArray t w) (hB : B ≤ g) (hn : L.length ≤ maxLen) : w.ownsRow B t 1 (.slice (some ⟨g, 0, none⟩) L.length L.length) L.length (ivs L) :=
  ⟨by simp [ivs], .inr ⟨g, L.length, (ivs L).toArray, rfl, hB, h, Nat.le_refl _, hn, by simp [ivs], by rw [Nat.mul_one]; exact List.take_of_length_le (by simp [ivs])⟩⟩

section program
set_option maxRecDepth 100000 in
set_option maxHeartbeats 1000000 in
theorem clone_any (w : World) (a : Option Addr) (n cap : Nat) (L : List Int) (hn : (n : Int) ≤ 1048576) (h : Row w a n L) :
    Calls Tryz.prog 96 #[.slice a n cap] w (NewInts w L) := by
  have q : ∀ (w : World) (a : Option Addr) (n c n' c' : Nat), (binOp .eql 27 (.slice a n c) (.slice none n' c')).run Tryz.prog w = .ok (.bool a.isNone) w := fun w a n c n' c' => Lib.run_eql_slice_nil w _ _ a n c n' c' Tryz.underlying27
  obtain ⟨i0, hi, hz0, hz1, hz2⟩ := info_parts infoInt
  cases a with
  | none =>
    have hn0 : n = 0 := by
      rcases Nat.eq_zero_or_pos n with h0 | h0
      · exact h0
      · obtain ⟨_, _, e⟩ := row_some h h0; cases e
    have hL : L = [] := List.eq_nil_of_length_eq_zero (by rw [h.1, hn0])
    subst hL
    clear h hn0
    go_enter Tryz.func96, Tryz.ntmps96
    go_wp2
    go_ret
    exact ⟨_, _, _, rfl, World.ownsRow_nil _ _ _ _, Below.refl _ _⟩
  | some ad =>
    have HL := Lib.hid (show (ivs L).length = n * 1 by rw [ivs_length, h.1]; omega)
    have HN : Hid (∀ j u, (ivs L)[j]? = some u → (w.alloc (.cells #[] 3)).cell? (ad.add j) = some u) := by
      intro j u hj
      have hjl : j < n := by have := (List.getElem?_eq_some_iff.1 hj).1; rw [ivs_length] at this; have := h.1; omega
      obtain ⟨b, off, e⟩ := row_some h (by omega)
      cases e
      rw [Addr.add_mid]
      exact World.rangeAt_alloc (row_range h) _ j u hj
    have H1 := Lib.hid (ivs_one L)
    clear h
    go_enter Tryz.func96, Tryz.ntmps96
    go_wp2_with (at_builtin; refine wpList_append_own _ rfl _ _ 27 rfl w.heap.size 3 i0 (.int .i64 0) 1 8 Tryz.underlying27 hi hz0 hz1 hz2 rfl (by decide) _ _ _ rfl (World.ownsRow_made w #[] 0 (Nat.le_refl _) (Nat.zero_le _) rfl) ad n cap (ivs L) rfl HL.out HN.out H1.out (by unfold maxLen; omega) (by omega) (by simp) ?_; intro v' w1 hown hgrow _; refine Hid.out ?_)
    have hb : Below w.heap.size w w1 := ((Below.refl _ w).alloc (Nat.le_refl _) _).grown hgrow (by simp) (fun k hk => by cases hk; exact Nat.le_refl _)
    have hown1 : w1.ownsRow w.heap.size 3 1 v' n (ivs L) := by simpa using hown
    have hv : ∃ ad n' cap, v' = .slice ad n' cap ∧ n' = n := by
      rcases hown1.2 with ⟨e, e0⟩ | ⟨g, c, _, e, _⟩
      · exact ⟨_, _, _, e, e0.symm⟩
      · exact ⟨_, _, _, e, rfl⟩
    obtain ⟨ad', n', cap', rfl, rfl⟩ := hv
    have HF := Lib.hid (And.intro hown1 hb)
    clear hown hgrow hb hown1
    refine Lib.hid ?_
    go_wp2
    go_ret
    exact ⟨_, _, _, rfl, HF.out.1, HF.out.2⟩
abbrev TM : TypeId := 121
theorem infoMem : (Tryz.prog.info? TM).map (·.size) = some 49 := by kernel_rfl
theorem mem_info {L : List Int} (h : L.length = 49) : (Tryz.prog.info? TM).map (·.size) = some (ivs L).toArray.size := by rw [infoMem]; simp [ivs, h]
theorem mem_all (L : List Int) : (ivs L).toArray.all (·.oneCell') = true := all_oneCell_toArray (ivs_one L)
/-- The memory at address 'a' of 49 words is read as an array's. -/
theorem run_arrayAt (b off c : Nat) (w : World) : (Instr.arrayAt TM (.slice (some ⟨b, off, none⟩) 49 c)).run Tryz.prog w = .ok (.pointer (some ⟨b, off, none⟩)) w := by kernel_rfl

theorem arrMem : Tryz.prog.underlying TM = some (.array (Tryz.prog.arrayLen TM) (Tryz.prog.elem TM)) := by kernel_rfl
theorem lenMem : Tryz.prog.arrayLen TM = 49 := by kernel_rfl
theorem sizeMem (w : World) : (sizeOf (Tryz.prog.elem TM)).run Tryz.prog w = .ok 1 w := by kernel_rfl
theorem run_slice_lh (g n : Nat) (hn : (n : Int) ≤ 24) (w : World) : (Instr.sliceAt TM (.pointer (some ⟨g, 0, none⟩)) (some (.int .i64 25)) (some (.int .i64 (25 + (n : Int)))) none).run Tryz.prog w = .ok (.slice (some ⟨g, 25, none⟩) n 24) w := by
  rw [run_sliceAt_array_lh w TM _ arrMem _ _ _ _ (by omega) (by omega) (by rw [lenMem]; omega), sizeMem, lenMem]
  simp only [Result.andThen, slicedAt]
  rw [show (25 + (n : Int)).toNat - (25 : Int).toNat = n by omega]
  rfl
theorem run_slice_8 (g : Nat) (w : World) : (Instr.sliceAt TM (.pointer (some ⟨g, 0, none⟩)) none (some (.int .i64 8)) none).run Tryz.prog w = .ok (.slice (some ⟨g, 0, none⟩) 8 49) w := by
  rw [run_sliceAt_array_h w TM _ arrMem _ _ (by omega) (by rw [lenMem]; omega), sizeMem, lenMem]
  rfl
set_option maxRecDepth 100000 in
set_option maxHeartbeats 1000000 in
theorem impl_memoryof_yes (w : World) (b off cap : Nat) (L : List Int) (h : Row w (some ⟨b, off, none⟩) 49 L) :
    Calls Tryz.prog 93 #[.slice (some ⟨b, off, none⟩) 49 cap] w fun e w' => e = .returned (.tuple #[memV L, .bool true]) ∧ Below w.heap.size w w' := by
  have hAP := run_arrayAt
  have HR := Lib.hid (row_range h)
  have HI := Lib.hid (mem_info h.1)
  have HB : Hid (∀ cs : Array Value, cs.size = 49 → (ivs L).toArray.size = cs.size) := fun cs hc => by rw [List.size_toArray, ivs_length, h.1, hc]
  clear h
  go_enter Tryz.func93, Tryz.ntmps93
  go_wp2_with (first
    | (refine wpList_load_mid rfl TM _ rfl b off rfl (ivs L) _ (World.rangeAt_alloc HR.out _) Tryz.underlying121 rfl HI.out ?_)
    | (refine wpList_store_box rfl TM _ _ rfl w.heap.size _ _ (Box.new w _ _) (ivs L).toArray rfl rfl (HB.out _ rfl) HI.out (mem_all L) ?_; intro w2 hx2 hg2))
  refine bodyPost_ret (v := .tuple #[memV L, .bool true]) (results_box2 (p := 2) (u := 3) rfl _ _ w.heap.size _ (ivs L).toArray _ (.bool true) rfl rfl hx2 Tryz.underlying121 rfl HI.out) rfl ?_
  exact ⟨rfl, (below_new w _).grown hg2 (by simp) (fun k hk => by cases hk; exact Nat.le_refl _)⟩
set_option maxRecDepth 100000 in
set_option maxHeartbeats 1000000 in
theorem impl_memoryof_no (w : World) (a : Option Addr) (n cap : Nat) (h : ¬ n = 49) :
    Calls Tryz.prog 93 #[.slice a n cap] w fun e w' => e = .returned (.tuple #[memV (nul 49), .bool false]) ∧ Below w.heap.size w w' := by
  have hq : ¬ (n : Int) = 49 := by omega
  have HI := Lib.hid (mem_info (L := nul 49) (by simp))
  have HB : Hid (∀ cs : Array Value, cs.size = 49 → (ivs (nul 49)).toArray.size = cs.size) := fun cs hc => by rw [hc]; simp [ivs]
  clear h
  go_enter Tryz.func93, Tryz.ntmps93
  go_wp2_with (first
    | (refine wpList_store_box rfl TM _ _ rfl w.heap.size _ _ (Box.new w _ _) (ivs (nul 49)).toArray rfl rfl (HB.out _ rfl) HI.out (mem_all _) ?_; intro w2 hx2 hg2))
  refine bodyPost_ret (v := .tuple #[memV (nul 49), .bool false]) (results_box2 (p := 2) (u := 3) rfl _ _ w.heap.size _ (ivs (nul 49)).toArray _ (.bool false) rfl rfl hx2 Tryz.underlying121 rfl HI.out) rfl ?_
  exact ⟨rfl, (below_new w _).grown hg2 (by simp) (fun k hk => by cases hk; exact Nat.le_refl _)⟩
set_option maxRecDepth 100000 in
set_option maxHeartbeats 1000000 in
theorem impl_sent (w : World) (L : List Int) (hL : L.length = 49) (n : Nat) (hn : n ≤ 24) :
    Calls Tryz.prog 94 #[memV L, .int .i64 n] w (NewInts w ((L.drop 25).take n)) := by
  have hb : Box w.heap.size (ivs L).toArray TM (w.alloc (.cells (ivs L).toArray TM)) := Box.new _ _ _
  have HR := Lib.hid (row_box (o := 25) (n := n) hb (by omega))
  have HB := Lib.hid (below_new w (.cells (ivs L).toArray TM))
  have hn' : (n : Int) ≤ 24 := by omega
  have hsl := run_slice_lh w.heap.size n hn'
  clear hb hn
  go_enter Tryz.func94, Tryz.ntmps94
  go_wp2_with (go_at_call 96; refine (clone_any _ _ n _ _ (by omega) HR.out).mono ?_; rintro e w1 ⟨ad, n1, c1, rfl, ho, hb1⟩; refine Hid.out ?_)
  have HF := Lib.hid (And.intro (ho.mono (show w.heap.size ≤ _ by simp)) (below_then HB.out hb1))
  clear ho hb1
  refine Lib.hid ?_
  go_wp2
  go_ret
  exact ⟨_, _, _, rfl, HF.out.1, HF.out.2⟩
set_option maxRecDepth 100000 in
set_option maxHeartbeats 1000000 in
theorem impl_memvars_yes (w : World) (b off cap : Nat) (L : List Int) (h : Row w (some ⟨b, off, none⟩) 49 L) :
    Calls Tryz.prog 38 #[.slice (some ⟨b, off, none⟩) 49 cap] w (NewInts w (L.take 8)) := by
  have hsl := run_slice_8
  have hl := h.1
  have HI := Lib.hid (mem_info hl)
  have HL : Hid (∀ cs : Array Value, cs.size = 49 → (ivs L).toArray.size = cs.size) := fun cs hc => by rw [List.size_toArray, ivs_length, h.1, hc]
  have HK := Lib.hid (show ∀ (w' : World) (g : Nat), Box g (ivs L).toArray TM w' → Row w' (some ⟨g, 0, none⟩) 8 (L.take 8) from fun w' g hb => by simpa using row_box (o := 0) (n := 8) hb (by omega))
  clear hl
  go_enter Tryz.func38, Tryz.ntmps38
  go_wp2_with (first
    | (go_at_call 93; refine (impl_memoryof_yes _ b off cap L h).mono ?_; rintro e w1 ⟨rfl, hb1⟩)
    | (refine wpList_store_box rfl TM _ _ rfl w1.heap.size _ _ (Box.new w1 _ _) (ivs L).toArray rfl rfl (HL.out _ rfl) HI.out (mem_all L) ?_; intro w2 hx2 hg2)
    | (go_at_call 96; refine (clone_any _ _ 8 _ _ (by omega) (HK.out _ _ hx2)).mono ?_; rintro e w3 ⟨ad, n3, c3, rfl, ho, hb3⟩; refine Hid.out ?_))
  have hb2 := ((below_then hb1 (below_new w1 _)).grown hg2 (show w.heap.size ≤ _ by have := hb1.size; simp; omega) (fun k hk => by cases hk; exact hb1.size))
  have HF := Lib.hid (And.intro (ho.mono hb2.size) (below_then hb2 hb3))
  clear ho hb3 hb2
  refine Lib.hid ?_
  go_wp2
  go_ret
  exact ⟨_, _, _, rfl, HF.out.1, HF.out.2⟩
end program
end Go.Proofs.YtmgeecdgebemdaaGreatDoor.mem

/- A law for 'append(s, make([]int, k)...)' onto a row of the call's own, which the model runs as one operation: behind it the row has k zeros more; the row moves or stays; nothing else is written. -/
namespace Go.Proofs.YtmgeecdgebemdaaGreatDoor.row
open Go.ChangeShapes Go.WideShapes Go.ChangeAt Go.RowKit
end Go.Proofs.YtmgeecdgebemdaaGreatDoor.row

/- Chapter 9's memory, of the model: a new memory, its variables, what it says was sent, as new rows; nothing that was there is written. -/
namespace Go.Proofs.YtmgeecdgebemdaaGreatDoor.mem
open Go.ChangeShapes Go.WideShapes Go.ChangeAt Go.RowKit Go.Proofs.YtmgeecdgebemdaaGreatDoor.row Go.Proofs.YtmgeecdgebemdaaGreatDoor.val Go.Proofs.YtmgeecdgebemdaaGreatDoor.expr Go.Proofs.YtmgeecdgebemdaaGreatDoor.ctl
theorem row_part {w : World} {b off n o m : Nat} {L : List Int} (h : Row w (some ⟨b, off, none⟩) n L) (hm : o + m ≤ n) : Row w (some ⟨b, off + o, none⟩) m ((L.drop o).take m) := by
  have hl := h.1
  refine ⟨by simp; omega, fun k hk => ?_⟩
  obtain ⟨b', off', x, e, hlt, hx, hc⟩ := h.2 (o + k) (by omega)
  cases e
  refine ⟨b, off + o, x, rfl, hlt, ?_, by rw [Nat.add_assoc]; exact hc⟩
  rw [List.getElem?_take_of_lt hk, List.getElem?_drop]; exact hx
theorem elemI : Tryz.prog.underlying 27 = some (.slice (Tryz.prog.elem 27)) := by kernel_rfl
theorem sizeI (w : World) : (sizeOf (Tryz.prog.elem 27)).run Tryz.prog w = .ok 1 w := by kernel_rfl
theorem cut_8 (b off cap : Nat) (hc : 49 ≤ cap) (w : World) : (Instr.sliceAt 27 (.slice (some ⟨b, off, none⟩) 49 cap) none (some (.int .i64 8)) none).run Tryz.prog w = .ok (.slice (some ⟨b, off, none⟩) 8 cap) w := by
  rw [run_sliceAt_slice w _ _ _ _ _ elemI, Go.run_slice_h w _ _ _ _ elemI _ _ (by omega) (by omega), sizeI]
  simp only [Result.andThen, sliced]
  rw [Nat.sub_zero, if_neg (by omega)]
  rfl
theorem cut_lh (b off cap n : Nat) (hc : 49 ≤ cap) (hn : n ≤ 24) (w : World) : (Instr.sliceAt 27 (.slice (some ⟨b, off, none⟩) 49 cap) (some (.int .i64 25)) (some (.int .i64 (25 + (n : Int)))) none).run Tryz.prog w = .ok (.slice (some ⟨b, off + 25, none⟩) n (cap - 25)) w := by
  rw [run_sliceAt_slice w _ _ _ _ _ elemI, Go.run_slice_lh w _ _ _ _ elemI _ _ _ _ (by omega) (by omega) (by omega), sizeI]
  simp only [Result.andThen, sliced]
  rw [show (25 + (n : Int)).toNat - (25 : Int).toNat = n by omega, show (25 : Int).toNat = 25 from rfl, if_neg (by omega), Nat.mul_one, Option.map_some, Addr.add_mid]
/-- What appending a row to an empty one asks. -/
theorem news_of (w : World) {b off n : Nat} {L : List Int} (h : Row w (some ⟨b, off, none⟩) n L) : ∀ j u, (ivs L)[j]? = some u → (w.alloc (.cells #[] 3)).cell? ((⟨b, off, none⟩ : Addr).add j) = some u := by
  intro j u hj
  rw [Addr.add_mid]
  exact World.rangeAt_alloc (row_range h) _ j u hj
theorem below_app {w w1 : World} {v : Value} {o : Obj} (hgrow : (w.alloc o).grownBy w1 v.ownBlock) (hv : ∀ k, v.ownBlock = some k → w.heap.size ≤ k) : Below w.heap.size w w1 :=
  ((Below.refl _ w).alloc (Nat.le_refl _) _).grown hgrow (by simp) hv
theorem own_slice {w : World} {B : Nat} {ty : TypeId} {v : Value} {n : Nat} {xs : List Value} (h : w.ownsRow B ty 1 v n xs) : ∃ ad cap, v = .slice ad n cap := by
  rcases h.2 with ⟨e, e0⟩ | ⟨g, c, _, e, _⟩
  · exact ⟨_, _, by rw [e, e0]⟩
  · exact ⟨_, _, e⟩

set_option maxRecDepth 100000 in
set_option maxHeartbeats 1000000 in
theorem spec_memvars_yes (w : World) (b off cap : Nat) (hcap : 49 ≤ cap) (L : List Int) (h : Row w (some ⟨b, off, none⟩) 49 L) :
    Calls Tryz.prog 32 #[.slice (some ⟨b, off, none⟩) 49 cap] w (NewInts w (L.take 8)) := by
  obtain ⟨i0, hi, hz0, hz1, hz2⟩ := info_parts infoInt
  have hsl := cut_8 b off cap hcap
  have hp : Row w (some ⟨b, off, none⟩) 8 (L.take 8) := by simpa using row_part (o := 0) (m := 8) h (by omega)
  have HL := Lib.hid (show (ivs (L.take 8)).length = 8 * 1 by rw [ivs_length, hp.1])
  have HN := Lib.hid (news_of w hp)
  have H1 := Lib.hid (ivs_one (L.take 8))
  clear h hp hcap
  go_enter Tryz.func32, Tryz.ntmps32
  go_wp2_with (at_builtin; refine wpList_append_own _ rfl _ _ 27 rfl w.heap.size 3 i0 (.int .i64 0) 1 8 Tryz.underlying27 hi hz0 hz1 hz2 rfl (by decide) _ _ _ rfl (World.ownsRow_made w #[] 0 (Nat.le_refl _) (Nat.zero_le _) rfl) ⟨b, off, none⟩ 8 cap (ivs (L.take 8)) rfl HL.out HN.out H1.out (by unfold maxLen; omega) (by omega) (by simp) ?_; intro v' w1 hown hgrow _; refine Hid.out ?_)
  have hb := below_app hgrow (fun k hk => by cases hk; exact Nat.le_refl _)
  rw [Nat.zero_add, List.nil_append] at hown
  obtain ⟨ad, c, rfl⟩ := own_slice hown
  have HF := Lib.hid (And.intro hown hb)
  clear hown hgrow hb
  refine Lib.hid ?_
  go_wp2
  go_ret
  exact ⟨_, _, _, rfl, HF.out.1, HF.out.2⟩
end Go.Proofs.YtmgeecdgebemdaaGreatDoor.mem

/- Chapter 9 of the program: an entry of the log (memory.entry): the two words, read from a copy; nothing that was there is written. -/
namespace Go.Proofs.YtmgeecdgebemdaaGreatDoor.mem
open Go.ChangeShapes Go.WideShapes Go.ChangeAt Go.RowKit Go.Proofs.YtmgeecdgebemdaaGreatDoor.row Go.Proofs.YtmgeecdgebemdaaGreatDoor.val Go.Proofs.YtmgeecdgebemdaaGreatDoor.expr Go.Proofs.YtmgeecdgebemdaaGreatDoor.ctl
/-- Two numbers, and what was there is as it was. -/
def BelT (w : World) (x y : Int) (e : Ending) (w' : World) : Prop := e = .returned (.tuple #[.int .i64 x, .int .i64 y]) ∧ Below w.heap.size w w'
set_option maxRecDepth 100000 in
set_option maxHeartbeats 2000000 in
theorem impl_logentry (w : World) (L : List Int) (hL : L.length = 49) (i : Nat) (hi : i < 8) (x y : Int) (hx : L.getD (9 + 2 * i) 0 = x) (hy : L.getD (10 + 2 * i) 0 = y) :
    Calls Tryz.prog 116 #[memV L, .int .i64 i] w (BelT w x y) := by
  have hb : Box w.heap.size (ivs L).toArray TM (w.alloc (.cells (ivs L).toArray TM)) := Box.new _ _ _
  have hC : ∀ j, j < 49 → (w.alloc (.cells (ivs L).toArray TM)).cell? ⟨w.heap.size, j, none⟩ = some (.int .i64 (L.getD j 0)) := fun j hj => by
    rw [hb.cell]; simp [ivs, show j < L.length by omega]
  have HB := Lib.hid (below_new w (.cells (ivs L).toArray TM))
  obtain ⟨p, hp⟩ : ∃ p : Nat, p = 9 + 2 * i := ⟨_, rfl⟩
  have d0 := hC (9 + 2 * i) (by omega)
  have d1 := hC (10 + 2 * i) (by omega)
  rw [hx, ← hp] at d0
  rw [hy, show 10 + 2 * i = p + 1 by omega] at d1
  have hpk : (9 : Int) + 2 * (i : Int) = (p : Int) := by omega
  have hpb : (p : Int) ≤ 23 := by omega
  have hp1 : (p : Int) < 49 := by omega
  have hp2 : (p : Int) + 1 < 49 := by omega
  have hi8 : (i : Int) < 8 := by omega
  clear hb hC hx hy hp
  go_enter Tryz.func116, Tryz.ntmps116
  go_wp2
  go_quiet (fail)
  go_wp2
  go_ret2
  exact ⟨rfl, below_drewN HB.out _⟩
end Go.Proofs.YtmgeecdgebemdaaGreatDoor.mem
