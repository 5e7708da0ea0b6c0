/- Several texts in one: ReadC Mem Zer. -/
import Derived.Test.YtcmhiadaebpgmaaGreatDoorGSig1
import Derived.Test.YtcmhiadaebpgmaaGreatDoorGSig4
import Derived.Deep.AppendLies
import Derived.WalkSpells
import Derived.Test.YtcmhiadaebpgmaaGreatDoorGSig9
import Derived.Test.YtcmhiadaebpgmaaGreatDoorGSig2
import Derived.Laws.CopyOwn
import Derived.Lib.SliceRun
import Derived.Deep.Onto
import Derived.Test.YtcmhiadaebpgmaaGreatDoorGSig0
import Derived.Laws.AppendOwn
import Derived.Laws.CopyRow

/- Chapter 3's ReadsOf of the model: the numbers of the variables that a valid expression names, in ascending order, in new memory; nothing that was there is written. -/
namespace Go.Proofs.YtcmhiadaebpgmaaGreatDoor.expr
open Go.ChangeShapes Go.WideShapes Go.ChangeAt Go.RowKit Go.Proofs.YtcmhiadaebpgmaaGreatDoor.row Go.Proofs.YtcmhiadaebpgmaaGreatDoor.val

def readsV (o a b : Int) : List Int := if exprOk o a b then rd a b 8 else []
/-- A new row of these numbers. -/
def NewInts (w : World) (L : List Int) (e : Ending) (w' : World) : Prop :=
  ∃ ad n cap, e = .returned (.slice ad n cap) ∧ w'.ownsRow w.heap.size 3 1 (.slice ad n cap) n (ivs L) ∧ Below w.heap.size w w'

set_option maxHeartbeats 1000000 in
set_option maxRecDepth 100000 in
theorem spec_reads_no (w : World) (o a b : Int) (he : exprOk o a b = false) :
    Calls Tryz.prog 206 #[ev o a b] w (NewInts w []) := by
  have hx := Box.new w #[.int .i64 o, .int .i64 a, .int .i64 b] 68
  have hn := below_new w (.cells #[.int .i64 o, .int .i64 a, .int .i64 b] 68)
  have H0 := Lib.hid (And.intro hx hn)
  clear hx hn
  have HE := Lib.hid he
  clear he
  go_enter Tryz.func206, Tryz.ntmps206
  go_wp2
  go_loopw [3, 4] (fun v i wr => v = .slice (some ⟨w.heap.size + 1, 0, none⟩) 0 0 ∧ i = .int .i64 0 ∧ wr.ownsRow w.heap.size 3 1 (.slice (some ⟨w.heap.size + 1, 0, none⟩) 0 0) 0 (ivs []) ∧ Box w.heap.size #[.int .i64 o, .int .i64 a, .int .i64 b] 68 wr ∧ Below w.heap.size w wr) (fun _ _ _ => 0)
  case atStart =>
    have hs : (w.alloc (.cells #[.int .i64 o, .int .i64 a, .int .i64 b] 68)).heap.size = w.heap.size + 1 := by simp
    refine ⟨by simp, rfl, ?_, H0.out.1.alloc _, below_then H0.out.2 (below_new _ _)⟩
    have := World.ownsRow_made (base := w.heap.size) (e := 3) (size := 1) (w.alloc (.cells #[.int .i64 o, .int .i64 a, .int .i64 b] 68)) #[] 0 (by simp) (by decide) rfl
    rw [hs] at this
    exact this
  case round =>
    obtain ⟨rfl, rfl, hown, hbox, hbel⟩ := hrel
    have c0 := hbox.cell 0
    have c1 := hbox.cell 1
    have c2 := hbox.cell 2
    have H1 := Lib.hid (And.intro hown hbel)
    clear hown hbel hbox
    go_wp2_with (go_at_call 99; refine (spec_exprok _ _ _ _ HE.out _).mono ?_; rintro e w2 ⟨rfl, hb2⟩)
    go_ret
    exact ⟨_, _, _, rfl, H1.out.1.kept (grown_below hb2 none) (by simp [Value.ownBlock]), below_then H1.out.2 hb2⟩
set_option maxHeartbeats 2000000 in
set_option maxRecDepth 100000 in
theorem spec_reads_ok (w : World) (o a b : Int) (he : exprOk o a b = true) :
    Calls Tryz.prog 206 #[ev o a b] w (NewInts w (rd a b 8)) := by
  obtain ⟨i0, hi, hz0, hz1, hz2⟩ := info_parts infoInt
  have hx := Box.new w #[.int .i64 o, .int .i64 a, .int .i64 b] 68
  have hn := below_new w (.cells #[.int .i64 o, .int .i64 a, .int .i64 b] 68)
  have H0 := Lib.hid (And.intro hx hn)
  clear hx hn
  have HE := Lib.hid he
  clear he
  go_enter Tryz.func206, Tryz.ntmps206
  go_wp2
  go_loopw [3, 4] (fun v i wr => ∃ (k n cap : Nat) (ad : Option Addr), k ≤ 8 ∧ i = .int .i64 k ∧ v = .slice ad n cap ∧ n ≤ k ∧ wr.ownsRow (w.heap.size + 1) 3 1 (.slice ad n cap) n (ivs (rd a b k)) ∧ Box w.heap.size #[.int .i64 o, .int .i64 a, .int .i64 b] 68 wr ∧ Below w.heap.size w wr) (fun _ i _ => 8 - (intOf i).toNat)
  case atStart =>
    have hs : (w.alloc (.cells #[.int .i64 o, .int .i64 a, .int .i64 b] 68)).heap.size = w.heap.size + 1 := by simp
    refine ⟨0, 0, 0, some ⟨w.heap.size + 1, 0, none⟩, Nat.zero_le _, rfl, by simp, Nat.le_refl _, ?_, H0.out.1.alloc _, below_then H0.out.2 (below_new _ _)⟩
    have := World.ownsRow_made (base := w.heap.size + 1) (e := 3) (size := 1) (w.alloc (.cells #[.int .i64 o, .int .i64 a, .int .i64 b] 68)) #[] 0 (by simp) (by decide) rfl
    rw [hs] at this
    exact this
  case round =>
    obtain ⟨k, n, cap, ad, hk, rfl, rfl, hnk, hown, hbox, hbel⟩ := hrel
    have c0 := hbox.cell 0
    have c1 := hbox.cell 1
    have c2 := hbox.cell 2
    by_cases hlt : k < 8
    · have hI : (k : Int) < 8 := by omega
      have H1 := Lib.hid (And.intro hown (And.intro hbox hbel))
      clear hown hbel hbox
      go_wp2_with (go_at_call 99; refine (spec_exprok _ _ _ _ HE.out _).mono ?_; rintro e w2 ⟨rfl, hb2⟩; refine Hid.out ?_)
      have hown2 := H1.out.1.kept (grown_below hb2 none) (by cases ad <;> simp [Value.ownBlock])
      have hbox2 := H1.out.2.1.below hb2
      have hbel2 := below_then H1.out.2.2 hb2
      clear c0 c1 c2 hb2 H1
      have c0 := hbox2.cell 0
      have c1 := hbox2.cell 1
      have c2 := hbox2.cell 2
      have hsz := hbox2.lt
      by_cases hyes : a = -1 - (k : Int) ∨ b = -1 - (k : Int)
      · have HRD := Lib.hid (rd_yes hyes)
        have HN : Hid (∀ j, (Value.slice ad n cap).ownBlock = some j → w.heap.size + 1 ≤ j) := fun j hj => (hown2.lt j hj).1
        have H2 := Lib.hid (And.intro hbox2 hbel2)
        have HO2 := Lib.hid hown2
        rcases (show (a == -1 - (k : Int)) = true ∨ ((a == -1 - (k : Int)) = false ∧ (b == -1 - (k : Int)) = true) by by_cases h : a = -1 - (k : Int); exact Or.inl (by simp [h]); exact Or.inr ⟨by simp [h], by rcases hyes with h' | h'; exact absurd h' h; simp [h']⟩) with t1 | ⟨t1, t2⟩
        all_goals
          clear hyes hown2 hbox2 hbel2
          refine Lib.hid ?_
          go_wp2_with (at_builtin; refine wpList_append_own _ rfl _ _ 27 rfl (w.heap.size + 1) 3 i0 (.int .i64 0) 1 8 Tryz.underlying27 hi hz0 hz1 hz2 rfl (by decide) _ _ _ rfl (HO2.out.alloc _) ⟨w2.heap.size, 0, none⟩ 1 1 [.int .i64 k] rfl rfl (World.news_of_block (cs := #[.int .i64 k]) (t := 3) (fr := (0, 0)) (heap_alloc_new w2 _)) (by simp [Value.oneCell']) (by unfold maxLen; omega) (by omega) (by simp; omega) ?_; intro v3 w3 hown3 hgrow3 _; refine Hid.out ?_)
          rw [ivs_snoc, ← HRD.out] at hown3
          have hbox3 := (H2.out.1.alloc (.cells #[.int .i64 k] 3)).grown hgrow3 (fun e => by have := HN.out _ e.symm; omega)
          have hbel3 := (below_then H2.out.2 (below_new w2 (.cells #[.int .i64 k] 3))).grown hgrow3 (by have := H2.out.2.size; simp; omega) (fun j hj => by have := HN.out j hj; omega)
          have HR := Lib.hid (And.intro hown3 (And.intro hbox3 hbel3))
          have hform := hown3.form (by omega)
          obtain ⟨g3, cap3, rfl, _, _⟩ := hform
          clear hown3 hbox3 hbel3 hgrow3 c0 c1 c2
          refine Lib.hid ?_
          go_wp2
          go_roundw
          case rel => exact ⟨k + 1, n + 1, cap3, _, by omega, by go_num, rfl, by omega, HR.out.1, HR.out.2.1, HR.out.2.2⟩
          case measure => simp [intOf]; omega
      · have HRD := Lib.hid (rd_no hyes)
        have t1 : (a == -1 - (k : Int)) = false := by simp; omega
        have t2 : (b == -1 - (k : Int)) = false := by simp; omega
        rw [← HRD.out] at hown2
        have HR := Lib.hid (And.intro hown2 (And.intro hbox2 hbel2))
        clear hyes hown2 hbox2 hbel2
        refine Lib.hid ?_
        go_wp2
        go_roundw
        case rel => exact ⟨k + 1, n, cap, ad, by omega, by go_num, rfl, by omega, HR.out.1, HR.out.2.1, HR.out.2.2⟩
        case measure => simp [intOf]; omega
    · have hk8 : k = 8 := by omega
      subst hk8
      have HR := Lib.hid (And.intro hown hbel)
      clear hown hbox hbel
      go_wp2
      go_ret
      exact ⟨_, _, _, rfl, HR.out.1.mono (by omega), HR.out.2⟩
theorem spec_reads (w : World) (o a b : Int) : Calls Tryz.prog 206 #[ev o a b] w (NewInts w (readsV o a b)) := by
  cases he : exprOk o a b
  · simpa [readsV, he] using spec_reads_no w o a b he
  · simpa [readsV, he] using spec_reads_ok w o a b he
end Go.Proofs.YtcmhiadaebpgmaaGreatDoor.expr

/- Chapter 9's memory, of the program: the words as an array, the parts of it as new rows; nothing that was there is written. -/
namespace Go.Proofs.YtcmhiadaebpgmaaGreatDoor.mem
open Go.ChangeShapes Go.WideShapes Go.ChangeAt Go.RowKit Go.Proofs.YtcmhiadaebpgmaaGreatDoor.row Go.Proofs.YtcmhiadaebpgmaaGreatDoor.val Go.Proofs.YtcmhiadaebpgmaaGreatDoor.expr Go.Proofs.YtcmhiadaebpgmaaGreatDoor.ctl

/-- The words of a memory as one value. -/
abbrev memV (L : List Int) : Value := .agg (ivs L).toArray
theorem row_range {w : World} {b off n : Nat} {L : List Int} (h : Row w (some ⟨b, off, none⟩) n L) : w.rangeAt b off (ivs L) := by
  intro j v hj
  have hjl : j < n := by have := (List.getElem?_eq_some_iff.1 hj).1; rw [ivs_length] at this; have := h.1; omega
  obtain ⟨b', off', x, e, _, hx, hc⟩ := h.2 j hjl
  cases e
  rw [hc]
  simp [ivs, hx] at hj
  rw [hj]
theorem row_some {w : World} {a : Option Addr} {n : Nat} {L : List Int} (h : Row w a n L) (hn : 0 < n) : ∃ b off, a = some ⟨b, off, none⟩ := by
  obtain ⟨b, off, _, e, _⟩ := h.2 0 hn
  exact ⟨b, off, e⟩
/-- Zeros. -/
abbrev nul (n : Nat) : List Int := List.replicate n 0
theorem ivs_one (L : List Int) : ∀ v ∈ ivs L, v.oneCell' = true := by intro v hv; obtain ⟨x, _, rfl⟩ := List.mem_map.1 hv; rfl
theorem row_box {w : World} {g o n : Nat} {L : List Int} {t : TypeId} (h : Box g (ivs L).toArray t w) (hn : o + n ≤ L.length) : Row w (some ⟨g, o, none⟩) n ((L.drop o).take n) := by
  refine ⟨by simp; omega, fun k hk => ⟨g, o, L[o + k]'(by omega), rfl, h.lt, ?_, ?_⟩⟩
  · rw [List.getElem?_take_of_lt hk, List.getElem?_drop, List.getElem?_eq_getElem]
  · rw [h.cell]; simp [ivs, show o + k < L.length by omega]
theorem box_own {w : World} {B g : Nat} {L : List Int} {t : TypeId} (h : Box g (ivs L).toArray t w) (hB : B ≤ g) (hn : L.length ≤ maxLen) : w.ownsRow B t 1 (.slice (some ⟨g, 0, none⟩) L.length L.length) L.length (ivs L) :=
  ⟨by simp [ivs], .inr ⟨g, L.length, (ivs L).toArray, rfl, hB, h, Nat.le_refl _, hn, by simp [ivs], by rw [Nat.mul_one]; exact List.take_of_length_le (by simp [ivs])⟩⟩

section program
set_option maxRecDepth 100000 in
set_option maxHeartbeats 1000000 in
theorem clone_any (w : World) (a : Option Addr) (n cap : Nat) (L : List Int) (hn : (n : Int) ≤ 1048576) (h : Row w a n L) :
    Calls Tryz.prog 59 #[.slice a n cap] w (NewInts w L) := by
  have q : ∀ (w : World) (a : Option Addr) (n c n' c' : Nat), (binOp .eql 27 (.slice a n c) (.slice none n' c')).run Tryz.prog w = .ok (.bool a.isNone) w := fun w a n c n' c' => Lib.run_eql_slice_nil w _ _ a n c n' c' Tryz.underlying27
  obtain ⟨i0, hi, hz0, hz1, hz2⟩ := info_parts infoInt
  cases a with
  | none =>
    have hn0 : n = 0 := by
      rcases Nat.eq_zero_or_pos n with h0 | h0
      · exact h0
      · obtain ⟨_, _, e⟩ := row_some h h0; cases e
    have hL : L = [] := List.eq_nil_of_length_eq_zero (by rw [h.1, hn0])
    subst hL
    clear h hn0
    go_enter Tryz.func59, Tryz.ntmps59
    go_wp2
    go_ret
    exact ⟨_, _, _, rfl, World.ownsRow_nil _ _ _ _, Below.refl _ _⟩
  | some ad =>
    have HL := Lib.hid (show (ivs L).length = n * 1 by rw [ivs_length, h.1]; omega)
    have HN : Hid (∀ j u, (ivs L)[j]? = some u → (w.alloc (.cells #[] 3)).cell? (ad.add j) = some u) := by
      intro j u hj
      have hjl : j < n := by have := (List.getElem?_eq_some_iff.1 hj).1; rw [ivs_length] at this; have := h.1; omega
      obtain ⟨b, off, e⟩ := row_some h (by omega)
      cases e
      rw [Addr.add_mid]
      exact World.rangeAt_alloc (row_range h) _ j u hj
    have H1 := Lib.hid (ivs_one L)
    clear h
    go_enter Tryz.func59, Tryz.ntmps59
    go_wp2_with (at_builtin; refine wpList_append_own _ rfl _ _ 27 rfl w.heap.size 3 i0 (.int .i64 0) 1 8 Tryz.underlying27 hi hz0 hz1 hz2 rfl (by decide) _ _ _ rfl (World.ownsRow_made w #[] 0 (Nat.le_refl _) (Nat.zero_le _) rfl) ad n cap (ivs L) rfl HL.out HN.out H1.out (by unfold maxLen; omega) (by omega) (by simp) ?_; intro v' w1 hown hgrow _; refine Hid.out ?_)
    have hb : Below w.heap.size w w1 := ((Below.refl _ w).alloc (Nat.le_refl _) _).grown hgrow (by simp) (fun k hk => by cases hk; exact Nat.le_refl _)
    have hown1 : w1.ownsRow w.heap.size 3 1 v' n (ivs L) := by simpa using hown
    have hv : ∃ ad n' cap, v' = .slice ad n' cap ∧ n' = n := by
      rcases hown1.2 with ⟨e, e0⟩ | ⟨g, c, _, e, _⟩
      · exact ⟨_, _, _, e, e0.symm⟩
      · exact ⟨_, _, _, e, rfl⟩
    obtain ⟨ad', n', cap', rfl, rfl⟩ := hv
    have HF := Lib.hid (And.intro hown1 hb)
    clear hown hgrow hb hown1
    refine Lib.hid ?_
    go_wp2
    go_ret
    exact ⟨_, _, _, rfl, HF.out.1, HF.out.2⟩
abbrev TM : TypeId := 97
theorem infoMem : (Tryz.prog.info? TM).map (·.size) = some 49 := by kernel_rfl
theorem mem_info {L : List Int} (h : L.length = 49) : (Tryz.prog.info? TM).map (·.size) = some (ivs L).toArray.size := by rw [infoMem]; simp [ivs, h]
theorem mem_all (L : List Int) : (ivs L).toArray.all (·.oneCell') = true := all_oneCell_toArray (ivs_one L)
/-- The memory at address 'a' of 49 words is read as an array's. -/
theorem run_arrayAt (b off c : Nat) (w : World) : (Instr.arrayAt TM (.slice (some ⟨b, off, none⟩) 49 c)).run Tryz.prog w = .ok (.pointer (some ⟨b, off, none⟩)) w := by kernel_rfl

theorem arrMem : Tryz.prog.underlying TM = some (.array (Tryz.prog.arrayLen TM) (Tryz.prog.elem TM)) := by kernel_rfl
theorem lenMem : Tryz.prog.arrayLen TM = 49 := by kernel_rfl
theorem sizeMem (w : World) : (sizeOf (Tryz.prog.elem TM)).run Tryz.prog w = .ok 1 w := by kernel_rfl
theorem run_slice_lh (g n : Nat) (hn : (n : Int) ≤ 24) (w : World) : (Instr.sliceAt TM (.pointer (some ⟨g, 0, none⟩)) (some (.int .i64 25)) (some (.int .i64 (25 + (n : Int)))) none).run Tryz.prog w = .ok (.slice (some ⟨g, 25, none⟩) n 24) w := by
  rw [run_sliceAt_array_lh w TM _ arrMem _ _ _ _ (by omega) (by omega) (by rw [lenMem]; omega), sizeMem, lenMem]
  simp only [Result.andThen, slicedAt]
  rw [show (25 + (n : Int)).toNat - (25 : Int).toNat = n by omega]
  rfl
theorem run_slice_8 (g : Nat) (w : World) : (Instr.sliceAt TM (.pointer (some ⟨g, 0, none⟩)) none (some (.int .i64 8)) none).run Tryz.prog w = .ok (.slice (some ⟨g, 0, none⟩) 8 49) w := by
  rw [run_sliceAt_array_h w TM _ arrMem _ _ (by omega) (by rw [lenMem]; omega), sizeMem, lenMem]
  rfl
theorem run_slice_all (g : Nat) (w : World) : (Instr.sliceAt TM (.pointer (some ⟨g, 0, none⟩)) none none none).run Tryz.prog w = .ok (.slice (some ⟨g, 0, none⟩) 49 49) w := by
  rw [run_sliceAt_array_all w TM _ arrMem, sizeMem, lenMem]
  rfl

set_option maxRecDepth 100000 in
set_option maxHeartbeats 1000000 in
theorem impl_memoryof_yes (w : World) (b off cap : Nat) (L : List Int) (h : Row w (some ⟨b, off, none⟩) 49 L) :
    Calls Tryz.prog 56 #[.slice (some ⟨b, off, none⟩) 49 cap] w fun e w' => e = .returned (.tuple #[memV L, .bool true]) ∧ Below w.heap.size w w' := by
  have hAP := run_arrayAt
  have HR := Lib.hid (row_range h)
  have HI := Lib.hid (mem_info h.1)
  have HB : Hid (∀ cs : Array Value, cs.size = 49 → (ivs L).toArray.size = cs.size) := fun cs hc => by rw [List.size_toArray, ivs_length, h.1, hc]
  clear h
  go_enter Tryz.func56, Tryz.ntmps56
  go_wp2_with (first
    | (refine wpList_load_mid rfl TM _ rfl b off rfl (ivs L) _ (World.rangeAt_alloc HR.out _) Tryz.underlying97 rfl HI.out ?_)
    | (refine wpList_store_box rfl TM _ _ rfl w.heap.size _ _ (Box.new w _ _) (ivs L).toArray rfl rfl (HB.out _ rfl) HI.out (mem_all L) ?_; intro w2 hx2 hg2))
  refine bodyPost_ret (v := .tuple #[memV L, .bool true]) (results_box2 (p := 2) (u := 3) rfl _ _ w.heap.size _ (ivs L).toArray _ (.bool true) rfl rfl hx2 Tryz.underlying97 rfl HI.out) rfl ?_
  exact ⟨rfl, (below_new w _).grown hg2 (by simp) (fun k hk => by cases hk; exact Nat.le_refl _)⟩
set_option maxRecDepth 100000 in
set_option maxHeartbeats 1000000 in
theorem impl_memoryof_no (w : World) (a : Option Addr) (n cap : Nat) (h : ¬ n = 49) :
    Calls Tryz.prog 56 #[.slice a n cap] w fun e w' => e = .returned (.tuple #[memV (nul 49), .bool false]) ∧ Below w.heap.size w w' := by
  have hq : ¬ (n : Int) = 49 := by omega
  have HI := Lib.hid (mem_info (L := nul 49) (by simp))
  have HB : Hid (∀ cs : Array Value, cs.size = 49 → (ivs (nul 49)).toArray.size = cs.size) := fun cs hc => by rw [hc]; simp [ivs]
  clear h
  go_enter Tryz.func56, Tryz.ntmps56
  go_wp2_with (first
    | (refine wpList_store_box rfl TM _ _ rfl w.heap.size _ _ (Box.new w _ _) (ivs (nul 49)).toArray rfl rfl (HB.out _ rfl) HI.out (mem_all _) ?_; intro w2 hx2 hg2))
  refine bodyPost_ret (v := .tuple #[memV (nul 49), .bool false]) (results_box2 (p := 2) (u := 3) rfl _ _ w.heap.size _ (ivs (nul 49)).toArray _ (.bool false) rfl rfl hx2 Tryz.underlying97 rfl HI.out) rfl ?_
  exact ⟨rfl, (below_new w _).grown hg2 (by simp) (fun k hk => by cases hk; exact Nat.le_refl _)⟩
set_option maxRecDepth 100000 in
set_option maxHeartbeats 1000000 in
theorem impl_sent (w : World) (L : List Int) (hL : L.length = 49) (n : Nat) (hn : n ≤ 24) :
    Calls Tryz.prog 57 #[memV L, .int .i64 n] w (NewInts w ((L.drop 25).take n)) := by
  have hb : Box w.heap.size (ivs L).toArray TM (w.alloc (.cells (ivs L).toArray TM)) := Box.new _ _ _
  have HR := Lib.hid (row_box (o := 25) (n := n) hb (by omega))
  have HB := Lib.hid (below_new w (.cells (ivs L).toArray TM))
  have hn' : (n : Int) ≤ 24 := by omega
  have hsl := run_slice_lh w.heap.size n hn'
  clear hb hn
  go_enter Tryz.func57, Tryz.ntmps57
  go_wp2_with (go_at_call 59; refine (clone_any _ _ n _ _ (by omega) HR.out).mono ?_; rintro e w1 ⟨ad, n1, c1, rfl, ho, hb1⟩; refine Hid.out ?_)
  have HF := Lib.hid (And.intro (ho.mono (show w.heap.size ≤ _ by simp)) (below_then HB.out hb1))
  clear ho hb1
  refine Lib.hid ?_
  go_wp2
  go_ret
  exact ⟨_, _, _, rfl, HF.out.1, HF.out.2⟩
set_option maxRecDepth 100000 in
set_option maxHeartbeats 1000000 in
theorem impl_memvars_yes (w : World) (b off cap : Nat) (L : List Int) (h : Row w (some ⟨b, off, none⟩) 49 L) :
    Calls Tryz.prog 18 #[.slice (some ⟨b, off, none⟩) 49 cap] w (NewInts w (L.take 8)) := by
  have hsl := run_slice_8
  have hl := h.1
  have HI := Lib.hid (mem_info hl)
  have HL : Hid (∀ cs : Array Value, cs.size = 49 → (ivs L).toArray.size = cs.size) := fun cs hc => by rw [List.size_toArray, ivs_length, h.1, hc]
  have HK := Lib.hid (show ∀ (w' : World) (g : Nat), Box g (ivs L).toArray TM w' → Row w' (some ⟨g, 0, none⟩) 8 (L.take 8) from fun w' g hb => by simpa using row_box (o := 0) (n := 8) hb (by omega))
  clear hl
  go_enter Tryz.func18, Tryz.ntmps18
  go_wp2_with (first
    | (go_at_call 56; refine (impl_memoryof_yes _ b off cap L h).mono ?_; rintro e w1 ⟨rfl, hb1⟩)
    | (refine wpList_store_box rfl TM _ _ rfl w1.heap.size _ _ (Box.new w1 _ _) (ivs L).toArray rfl rfl (HL.out _ rfl) HI.out (mem_all L) ?_; intro w2 hx2 hg2)
    | (go_at_call 59; refine (clone_any _ _ 8 _ _ (by omega) (HK.out _ _ hx2)).mono ?_; rintro e w3 ⟨ad, n3, c3, rfl, ho, hb3⟩; refine Hid.out ?_))
  have hb2 := ((below_then hb1 (below_new w1 _)).grown hg2 (show w.heap.size ≤ _ by have := hb1.size; simp; omega) (fun k hk => by cases hk; exact hb1.size))
  have HF := Lib.hid (And.intro (ho.mono hb2.size) (below_then hb2 hb3))
  clear ho hb3 hb2
  refine Lib.hid ?_
  go_wp2
  go_ret
  exact ⟨_, _, _, rfl, HF.out.1, HF.out.2⟩
set_option maxRecDepth 100000 in
set_option maxHeartbeats 1000000 in
theorem impl_memvars_no (w : World) (a : Option Addr) (n cap : Nat) (h : ¬ n = 49) :
    Calls Tryz.prog 18 #[.slice a n cap] w (NewInts w []) := by
  have HI := Lib.hid (mem_info (L := nul 49) (by simp))
  have HL : Hid (∀ cs : Array Value, cs.size = 49 → (ivs (nul 49)).toArray.size = cs.size) := fun cs hc => by rw [hc]; simp [ivs]
  go_enter Tryz.func18, Tryz.ntmps18
  go_wp2_with (first
    | (go_at_call 56; refine (impl_memoryof_no _ a n cap h).mono ?_; rintro e w1 ⟨rfl, hb1⟩)
    | (refine wpList_store_box rfl TM _ _ rfl w1.heap.size _ _ (Box.new w1 _ _) (ivs (nul 49)).toArray rfl rfl (HL.out _ rfl) HI.out (mem_all _) ?_; intro w2 hx2 hg2))
  go_ret
  exact ⟨_, _, _, rfl, World.ownsRow_nil _ _ _ _, (below_then hb1 (below_new w1 _)).grown hg2 (show w.heap.size ≤ _ by have := hb1.size; simp; omega) (fun k hk => by cases hk; exact hb1.size)⟩
/-- What a memory says was sent. -/
def sentV (L : List Int) : List Int := if wOk (L.getD 8 0) then (L.drop 25).take (wN (L.getD 8 0)).toNat else []
theorem sentV_no {L : List Int} {x : Int} (hx : L[8]? = some x) (h : wOk x = false) : sentV L = [] := by simp [sentV, List.getD_eq_getElem?_getD, hx, h]
theorem sentV_yes {L : List Int} {x : Int} {n : Nat} (hx : L[8]? = some x) (h : wOk x = true) (hn : unN x = n) : sentV L = (L.drop 25).take n := by
  have e : wN x = n := by rw [← hn]; simp [unN, h]
  simp [sentV, List.getD_eq_getElem?_getD, hx, h, e]
theorem sentV_len (L : List Int) : (sentV L).length ≤ 24 := by
  unfold sentV; split
  · rename_i h
    have hb := (ctlOk_iff _ _ _).1 h
    have := List.length_take_le (wN (L.getD 8 0)).toNat (L.drop 25)
    omega
  · simp
set_option maxRecDepth 100000 in
set_option maxHeartbeats 1000000 in
theorem impl_memsent_yes (w : World) (b off cap : Nat) (L : List Int) (h : Row w (some ⟨b, off, none⟩) 49 L) (hw : ∀ x ∈ L, -9223372036854775808 ≤ x ∧ x ≤ 9223372036854775807) :
    Calls Tryz.prog 15 #[.slice (some ⟨b, off, none⟩) 49 cap] w (NewInts w (sentV L)) := by
  have HLL := Lib.hid h.1
  have HI := Lib.hid (mem_info h.1)
  have HL : Hid (∀ cs : Array Value, cs.size = 49 → (ivs L).toArray.size = cs.size) := fun cs hc => by rw [List.size_toArray, ivs_length, h.1, hc]
  obtain ⟨x, hx⟩ : ∃ x, L[8]? = some x := ⟨L[8]'(by have := h.1; omega), by simp [h.1]⟩
  have hxw := hw x (List.mem_of_getElem? hx)
  have HC := Lib.hid (show ∀ (w' : World) (g : Nat), Box g (ivs L).toArray TM w' → w'.cell? ⟨g, 8, none⟩ = some (.int .i64 x) from fun w' g hb => by rw [hb.cell]; simp [ivs, hx])
  have HX := Lib.hid hx
  clear hx hw
  cases ho : wOk x
  · have HU := Lib.hid (un_no ho)
    have HS := Lib.hid (sentV_no HX.out ho)
    clear ho
    go_enter Tryz.func15, Tryz.ntmps15
    go_wp2_with (first
      | (go_at_call 56; refine (impl_memoryof_yes _ b off cap L h).mono ?_; rintro e w1 ⟨rfl, hb1⟩)
      | (refine wpList_store_box rfl TM _ _ rfl w1.heap.size _ _ (Box.new w1 _ _) (ivs L).toArray rfl rfl (HL.out _ rfl) HI.out (mem_all L) ?_; intro w2 hx2 hg2; have hc2 := HC.out _ _ hx2)
      | (go_at_call 16; refine (impl_unpack_is x _ _ _ hxw HU.out _).mono ?_; rintro e w3 ⟨rfl, rfl⟩))
    go_ret
    refine ⟨_, _, _, rfl, ?_, (below_then hb1 (below_new w1 _)).grown hg2 (show w.heap.size ≤ _ by have := hb1.size; simp; omega) (fun k hk => by cases hk; exact hb1.size)⟩
    rw [HS.out]; exact World.ownsRow_nil _ _ _ _
  · obtain ⟨t, c, n, ht, hc, hn, e1, e2, e3⟩ := un_yes ho
    have HU := Lib.hid (show unT x = t ∧ unC x = c ∧ unN x = n from ⟨e1, e2, e3⟩)
    have HS := Lib.hid (sentV_yes HX.out ho e3)
    clear ho e1 e2 e3
    go_enter Tryz.func15, Tryz.ntmps15
    go_wp2_with (first
      | (go_at_call 56; refine (impl_memoryof_yes _ b off cap L h).mono ?_; rintro e w1 ⟨rfl, hb1⟩)
      | (refine wpList_store_box rfl TM _ _ rfl w1.heap.size _ _ (Box.new w1 _ _) (ivs L).toArray rfl rfl (HL.out _ rfl) HI.out (mem_all L) ?_; intro w2 hx2 hg2; have hc2 := HC.out _ _ hx2)
      | (go_at_call 16; refine (impl_unpack_is x _ _ _ hxw HU.out _).mono ?_; rintro e w3 ⟨rfl, rfl⟩)
      | (refine wpList_load_row rfl TM _ rfl w1.heap.size rfl _ (ivs L).toArray _ _ hx2 Tryz.underlying97 rfl HI.out ?_)
      | (go_at_call 57; refine (impl_sent _ L HLL.out n hn).mono ?_; rintro e w4 ⟨ad, n4, c4, rfl, ho4, hb4⟩; refine Hid.out ?_))
    have hb2 := ((below_then hb1 (below_new w1 _)).grown hg2 (show w.heap.size ≤ _ by have := hb1.size; simp; omega) (fun k hk => by cases hk; exact hb1.size))
    have HF := Lib.hid (And.intro (ho4.mono hb2.size) (below_then hb2 hb4))
    clear ho4 hb4 hb2
    refine Lib.hid ?_
    go_wp2
    go_ret
    refine ⟨_, _, _, rfl, ?_, HF.out.2⟩
    rw [HS.out]; exact HF.out.1
set_option maxRecDepth 100000 in
set_option maxHeartbeats 1000000 in
theorem impl_memsent_no (w : World) (a : Option Addr) (n cap : Nat) (h : ¬ n = 49) :
    Calls Tryz.prog 15 #[.slice a n cap] w (NewInts w []) := by
  have HI := Lib.hid (mem_info (L := nul 49) (by simp))
  have HL : Hid (∀ cs : Array Value, cs.size = 49 → (ivs (nul 49)).toArray.size = cs.size) := fun cs hc => by rw [hc]; simp [ivs]
  go_enter Tryz.func15, Tryz.ntmps15
  go_wp2_with (first
    | (go_at_call 56; refine (impl_memoryof_no _ a n cap h).mono ?_; rintro e w1 ⟨rfl, hb1⟩)
    | (refine wpList_store_box rfl TM _ _ rfl w1.heap.size _ _ (Box.new w1 _ _) (ivs (nul 49)).toArray rfl rfl (HL.out _ rfl) HI.out (mem_all _) ?_; intro w2 hx2 hg2))
  go_ret
  exact ⟨_, _, _, rfl, World.ownsRow_nil _ _ _ _, (below_then hb1 (below_new w1 _)).grown hg2 (show w.heap.size ≤ _ by have := hb1.size; simp; omega) (fun k hk => by cases hk; exact hb1.size)⟩
/-- The words of a new memory. -/
def newV (L : List Int) : List Int := if varsOk L then L ++ nul 41 else []
/-- A new row of these words, and whether they were to be had. -/
def NewMem (w : World) (ty : TypeId) (M : List Int) (r : Bool) (e : Ending) (w' : World) : Prop :=
  ∃ ad n cap, e = .returned (.tuple #[.slice ad n cap, .bool r]) ∧ w'.ownsRow w.heap.size ty 1 (.slice ad n cap) n (ivs M) ∧ Below w.heap.size w w'
theorem newV_yes {L : List Int} (h : varsOk L = true) : newV L = L ++ nul 41 ∧ (newV L).length = 49 ∧ L.length = 8 := by
  have h8 := ((varsOk_iff L).1 h).1
  have e : newV L = L ++ nul 41 := by simp [newV, h]
  refine ⟨e, ?_, h8⟩
  rw [e]; simp [h8]
theorem newV_no {L : List Int} (h : varsOk L = false) : newV L = [] := by simp [newV, h]
theorem splice_new {L : List Int} (h : L.length = 8) : splice (ivs (nul 49)) 0 (ivs L) = ivs (L ++ nul 41) := by
  simp [splice, ivs, h]
end program
end Go.Proofs.YtcmhiadaebpgmaaGreatDoor.mem

/- A law for 'append(s, make([]int, k)...)' onto a row of the call's own, which the model runs as one operation: behind it the row has k zeros more; the row moves or stays; nothing else is written. -/
namespace Go.Proofs.YtcmhiadaebpgmaaGreatDoor.row
open Go.ChangeShapes Go.WideShapes Go.ChangeAt Go.RowKit

theorem zero_cells (k : Nat) : Builtin.zeroCells (Value.int .i64 0).cells k = (ivs (List.replicate k 0)).toArray := by
  apply Array.ext'
  apply List.ext_getElem?
  intro j
  simp only [Builtin.zeroCells, Value.cells, ivs]
  by_cases h : j < k
  · simp [h, Nat.mod_one]
  · simp [h]
set_option maxRecDepth 100000 in
theorem run_append_zeros {P : Program} (w : World) (base : Nat) (t it ty e : TypeId) (i : TypeInfo) (ht : P.underlying t = some (.slice e)) (hit : P.underlying it = some (.int .i64)) (hi : P.info? e = some i) (hz : i.zero = some (.int .i64 0))
    (hsize : i.size = 1) (hby : i.bytes = 8) (g n cap : Nat) (L : List Int) (hown : w.ownsRow base e 1 (.slice (some ⟨g, 0, none⟩) n cap) n (ivs L)) (k : Nat) (hk : 0 < k)
    (h63 : (n + k : Nat) ≤ 2097152) (hbase : base ≤ w.heap.size) :
    ∃ v' w', (Builtin.append_ #[t, it] ty #[.slice (some ⟨g, 0, none⟩) n cap, .int .i64 k]).run P w = .ok v' w' ∧ w'.ownsRow base e 1 v' (n + k) (ivs (L ++ List.replicate k 0)) ∧ w.grownBy w' (some g) := by
  have hll : (ivs L).length = n := by simpa using hown.1
  have hwk : IntKind.i64.wrap (k : Int) = k := by rw [IntKind.wrap_i64]; omega
  have hk0 : ¬ ((k : Int) < 0) := by omega
  have hkb : ¬ (281474976710656 < (k : Int) * 8) := by omega
  have hkz : ¬ (k = 0) := by omega
  have eL : ivs (L ++ List.replicate k 0) = ivs L ++ ivs (List.replicate k 0) := by simp [ivs]
  have hlk : (ivs (List.replicate k 0)).length = k := by simp [ivs]
  have hcells : ∀ j u, (ivs L)[j]? = some u → w.cell? ((⟨g, 0, none⟩ : Addr).add j) = some u := hown.cells (g := g) rfl
  have hone : ∀ v ∈ ivs (List.replicate k 0), v.oneCell' = true := by intro v hv; obtain ⟨x, _, rfl⟩ := List.mem_map.1 hv; rfl
  rcases hown.2 with ⟨e1, _⟩ | ⟨g', cap', cur, e1, hbg, hg, hnc, hcm, hcs, htake⟩
  · cases e1
  cases e1
  rw [Nat.mul_one] at hcs htake
  by_cases hroom : n + k ≤ cap
  · have hfit : n + (ivs (List.replicate k 0)).length ≤ cur.size := by rw [hlk, hcs]; exact hroom
    have hst := run_storeCells_at P g n e (ivs (List.replicate k 0)) 0 cur w hg (by simpa using hfit) hone
    simp only [Nat.add_zero] at hst
    refine ⟨.slice (some ⟨g, 0, none⟩) (n + k) cap, w.setRow g (cur.toList.take n ++ ivs (List.replicate k 0) ++ cur.toList.drop (n + (ivs (List.replicate k 0)).length)).toArray, ?_, ⟨by rw [eL, List.length_append, hll, hlk]; omega, .inr ⟨g, cap, _, rfl, hbg, setRow_heap w g cur _ e _ hg, hroom, hcm, ?_, ?_⟩⟩, ⟨rfl, rfl, rfl, by simp, fun j _ hj => setRow_other w g j _ (fun e => hj (by simp [e]))⟩⟩
    · simp [Builtin.append_, run_underlying ht, run_underlying hit, sizeOf, typeInfo, zeroValue, asInt, asIntOf, hi, hz, hsize, hby, hwk, hk0, hkb, hkz, hroom, zero_cells, Addr.add_lit, hst]
    · simp only [List.size_toArray, List.length_append, List.length_take, List.length_drop, Array.length_toList]
      omega
    · rw [htake, Nat.mul_one, eL]
      exact List.take_left' (by rw [List.length_append, hll, hlk])
  · have h1 : ¬ (9223372036854775807 < ((n : Int) + (k : Int))) := by omega
    have h2 : ¬ (281474976710656 < Builtin.nextslicecap (n + k) cap * 8) := by
      have := growslice_fits (need := n + k) (old := cap) (bytes := 8) (by omega) (by omega)
      omega
    have hfo := run_firstCells_some (P := P) w.drew 1 n ⟨g, 0, none⟩ n cap (ivs L) (by rw [hll]; omega) (by simpa using hcells)
    have hge := grownCap_ge w (n + k) cap e
    have hcm2 : grownCap w (n + k) cap e ≤ maxLen := grownCap_le_maxLen w (n + k) cap e (by unfold maxLen; omega)
    refine ⟨.slice (some ⟨w.heap.size, 0, none⟩) (n + k) (grownCap w (n + k) cap e), w.drew.alloc (.cells ((ivs L).toArray ++ (ivs (List.replicate k 0)).toArray ++ Builtin.zeroCells (Value.int .i64 0).cells (grownCap w (n + k) cap e - (n + k))) e), ?_, ⟨by rw [eL, List.length_append, hll, hlk]; omega, .inr ⟨w.heap.size, _, _, rfl, hbase, heap_alloc_new w.drew _, hge, hcm2, ?_, ?_⟩⟩, ⟨rfl, rfl, rfl, by simp, fun j hj _ => (below_new w.drew _).block j hj⟩⟩
    · simp [Builtin.append_, run_underlying ht, run_underlying hit, sizeOf, typeInfo, zeroValue, asInt, asIntOf, hi, hz, hsize, hby, hwk, hk0, hkb, hkz, hroom, h1, h2, Question.forced, zero_cells, hfo, newRow, grownCap]
    · simp only [Array.size_append, List.size_toArray, size_zeroCells, hll, hlk]
      simp [Value.cells]; omega
    · simp only [Array.toList_append, List.append_assoc]
      rw [← List.append_assoc, Nat.mul_one, eL]
      exact List.take_left' (by rw [List.length_append, hll, hlk])
theorem wpList_append_zeros {P : Program} {ops : Array Oper} {rest : List Oper} {o : Oper} {a : Act} {w : World} {Q : Exit → Act → World → Prop} (hgd : o.guard = none) (s : Operand) (t it : TypeId) (k : Nat)
    (ho : o.op = .call { callee := .builtin .append, args := #[s, .const (.int .i64 k)], argTypes := #[t, it] })
    (base : Nat) (e : TypeId) (i : TypeInfo) (ht : P.underlying t = some (.slice e)) (hit : P.underlying it = some (.int .i64)) (hi : P.info? e = some i) (hz : i.zero = some (.int .i64 0))
    (hsize : i.size = 1) (hby : i.bytes = 8) (g n cap : Nat) (L : List Int) (hs : a.eval s = .slice (some ⟨g, 0, none⟩) n cap) (hown : w.ownsRow base e 1 (.slice (some ⟨g, 0, none⟩) n cap) n (ivs L)) (hk : 0 < k)
    (h63 : (n + k : Nat) ≤ 2097152) (hbase : base ≤ w.heap.size)
    (h : ∀ v' w', w'.ownsRow base e 1 v' (n + k) (ivs (L ++ List.replicate k 0)) → w.grownBy w' (some g) → wpList P ops Q rest (a.put o.dst v') w') : wpList P ops Q (o :: rest) a w := by
  obtain ⟨v', w', hr, h2, h3⟩ := run_append_zeros (P := P) w base t it o.type e i ht hit hi hz hsize hby g n cap L hown k hk h63 hbase
  refine wpList_plain hgd fun K hK => ?_
  unfold Oper.wp execOp
  have he : a.eval (.const (.int .i64 k)) = .int .i64 k := rfl
  simp only [ho, resolve, invoke, builtin, Sem.run_bind, Sem.run_pure, Result.andThen_ok, List.map_toArray, List.map_cons, List.map_nil, hs, he, hr]
  exact hK _ _ (h v' w' h2 h3)
end Go.Proofs.YtcmhiadaebpgmaaGreatDoor.row
