/- Several texts in one: ReadC. -/
import Derived.Test.YtodlbbojjnkneaaGHub3
import Derived.Test.YtodlbbojjnkneaaGHub7
import Derived.Deep.AppendLies
import Derived.WalkSpells

/- Chapter 3's ReadsOf of the model: the numbers of the variables that a valid expression names, in ascending order, in new memory; nothing that was there is written. -/
namespace Go.Proofs.Ytodlbbojjnkneaa.expr
open Go.ChangeShapes Go.WideShapes Go.ChangeAt Go.RowKit Go.Proofs.Ytodlbbojjnkneaa.row Go.Proofs.Ytodlbbojjnkneaa.val

def readsV (o a b : Int) : List Int := if exprOk o a b then rd a b 8 else []
/-- A new row of these numbers. -/
def NewInts (w : World) (L : List Int) (e : Ending) (w' : World) : Prop :=
  ∃ ad n cap, e = .returned (.slice ad n cap) ∧ w'.ownsRow w.heap.size 3 1 (.slice ad n cap) n (ivs L) ∧ Below w.heap.size w w'

set_option maxHeartbeats 1000000 in
set_option maxRecDepth 100000 in
theorem spec_reads_no (w : World) (o a b : Int) (he : exprOk o a b = false) :
    Calls Try.prog 94 #[ev o a b] w (NewInts w []) := by
  have hx := Box.new w #[.int .i64 o, .int .i64 a, .int .i64 b] 26
  have hn := below_new w (.cells #[.int .i64 o, .int .i64 a, .int .i64 b] 26)
  have H0 := Lib.hid (And.intro hx hn)
  clear hx hn
  have HE := Lib.hid he
  clear he
  go_enter Try.func94, Try.ntmps94
  go_wp2
  go_loopw [3, 4] (fun v i wr => v = .slice (some ⟨w.heap.size + 1, 0, none⟩) 0 0 ∧ i = .int .i64 0 ∧ wr.ownsRow w.heap.size 3 1 (.slice (some ⟨w.heap.size + 1, 0, none⟩) 0 0) 0 (ivs []) ∧ Box w.heap.size #[.int .i64 o, .int .i64 a, .int .i64 b] 26 wr ∧ Below w.heap.size w wr) (fun _ _ _ => 0)
  case atStart =>
    have hs : (w.alloc (.cells #[.int .i64 o, .int .i64 a, .int .i64 b] 26)).heap.size = w.heap.size + 1 := by simp
    refine ⟨by simp, rfl, ?_, H0.out.1.alloc _, below_then H0.out.2 (below_new _ _)⟩
    have := World.ownsRow_made (base := w.heap.size) (e := 3) (size := 1) (w.alloc (.cells #[.int .i64 o, .int .i64 a, .int .i64 b] 26)) #[] 0 (by simp) (by decide) rfl
    rw [hs] at this
    exact this
  case round =>
    obtain ⟨rfl, rfl, hown, hbox, hbel⟩ := hrel
    have c0 := hbox.cell 0
    have c1 := hbox.cell 1
    have c2 := hbox.cell 2
    have H1 := Lib.hid (And.intro hown hbel)
    clear hown hbel hbox
    go_wp2_with (go_at_call 48; refine (spec_exprok _ _ _ _ HE.out _).mono ?_; rintro e w2 ⟨rfl, hb2⟩)
    go_ret
    exact ⟨_, _, _, rfl, H1.out.1.kept (grown_below hb2 none) (by simp [Value.ownBlock]), below_then H1.out.2 hb2⟩
set_option maxHeartbeats 2000000 in
set_option maxRecDepth 100000 in
theorem spec_reads_ok (w : World) (o a b : Int) (he : exprOk o a b = true) :
    Calls Try.prog 94 #[ev o a b] w (NewInts w (rd a b 8)) := by
  obtain ⟨i0, hi, hz0, hz1, hz2⟩ := info_parts infoInt
  have hx := Box.new w #[.int .i64 o, .int .i64 a, .int .i64 b] 26
  have hn := below_new w (.cells #[.int .i64 o, .int .i64 a, .int .i64 b] 26)
  have H0 := Lib.hid (And.intro hx hn)
  clear hx hn
  have HE := Lib.hid he
  clear he
  go_enter Try.func94, Try.ntmps94
  go_wp2
  go_loopw [3, 4] (fun v i wr => ∃ (k n cap : Nat) (ad : Option Addr), k ≤ 8 ∧ i = .int .i64 k ∧ v = .slice ad n cap ∧ n ≤ k ∧ wr.ownsRow (w.heap.size + 1) 3 1 (.slice ad n cap) n (ivs (rd a b k)) ∧ Box w.heap.size #[.int .i64 o, .int .i64 a, .int .i64 b] 26 wr ∧ Below w.heap.size w wr) (fun _ i _ => 8 - (intOf i).toNat)
  case atStart =>
    have hs : (w.alloc (.cells #[.int .i64 o, .int .i64 a, .int .i64 b] 26)).heap.size = w.heap.size + 1 := by simp
    refine ⟨0, 0, 0, some ⟨w.heap.size + 1, 0, none⟩, Nat.zero_le _, rfl, by simp, Nat.le_refl _, ?_, H0.out.1.alloc _, below_then H0.out.2 (below_new _ _)⟩
    have := World.ownsRow_made (base := w.heap.size + 1) (e := 3) (size := 1) (w.alloc (.cells #[.int .i64 o, .int .i64 a, .int .i64 b] 26)) #[] 0 (by simp) (by decide) rfl
    rw [hs] at this
    exact this
  case round =>
    obtain ⟨k, n, cap, ad, hk, rfl, rfl, hnk, hown, hbox, hbel⟩ := hrel
    have c0 := hbox.cell 0
    have c1 := hbox.cell 1
    have c2 := hbox.cell 2
    by_cases hlt : k < 8
    · have hI : (k : Int) < 8 := by omega
      have H1 := Lib.hid (And.intro hown (And.intro hbox hbel))
      clear hown hbel hbox
      go_wp2_with (go_at_call 48; refine (spec_exprok _ _ _ _ HE.out _).mono ?_; rintro e w2 ⟨rfl, hb2⟩; refine Hid.out ?_)
      have hown2 := H1.out.1.kept (grown_below hb2 none) (by cases ad <;> simp [Value.ownBlock])
      have hbox2 := H1.out.2.1.below hb2
      have hbel2 := below_then H1.out.2.2 hb2
      clear c0 c1 c2 hb2 H1
      have c0 := hbox2.cell 0
      have c1 := hbox2.cell 1
      have c2 := hbox2.cell 2
      have hsz := hbox2.lt
      by_cases hyes : a = -1 - (k : Int) ∨ b = -1 - (k : Int)
      · have HRD := Lib.hid (rd_yes hyes)
        have HN : Hid (∀ j, (Value.slice ad n cap).ownBlock = some j → w.heap.size + 1 ≤ j) := fun j hj => (hown2.lt j hj).1
        have H2 := Lib.hid (And.intro hbox2 hbel2)
        have HO2 := Lib.hid hown2
        rcases (show (a == -1 - (k : Int)) = true ∨ ((a == -1 - (k : Int)) = false ∧ (b == -1 - (k : Int)) = true) by by_cases h : a = -1 - (k : Int); exact Or.inl (by simp [h]); exact Or.inr ⟨by simp [h], by rcases hyes with h' | h'; exact absurd h' h; simp [h']⟩) with t1 | ⟨t1, t2⟩
        all_goals
          clear hyes hown2 hbox2 hbel2
          refine Lib.hid ?_
          go_wp2_with (at_builtin; refine wpList_append_own _ rfl _ _ 33 rfl (w.heap.size + 1) 3 i0 (.int .i64 0) 1 8 Try.underlying33 hi hz0 hz1 hz2 rfl (by decide) _ _ _ rfl (HO2.out.alloc _) ⟨w2.heap.size, 0, none⟩ 1 1 [.int .i64 k] rfl rfl (World.news_of_block (cs := #[.int .i64 k]) (t := 3) (fr := (0, 0)) (heap_alloc_new w2 _)) (by simp [Value.oneCell']) (by unfold maxLen; omega) (by omega) (by simp; omega) ?_; intro v3 w3 hown3 hgrow3 _; refine Hid.out ?_)
          rw [ivs_snoc, ← HRD.out] at hown3
          have hbox3 := (H2.out.1.alloc (.cells #[.int .i64 k] 3)).grown hgrow3 (fun e => by have := HN.out _ e.symm; omega)
          have hbel3 := (below_then H2.out.2 (below_new w2 (.cells #[.int .i64 k] 3))).grown hgrow3 (by have := H2.out.2.size; simp; omega) (fun j hj => by have := HN.out j hj; omega)
          have HR := Lib.hid (And.intro hown3 (And.intro hbox3 hbel3))
          have hform := hown3.form (by omega)
          obtain ⟨g3, cap3, rfl, _, _⟩ := hform
          clear hown3 hbox3 hbel3 hgrow3 c0 c1 c2
          refine Lib.hid ?_
          go_wp2
          go_roundw
          case rel => exact ⟨k + 1, n + 1, cap3, _, by omega, by go_num, rfl, by omega, HR.out.1, HR.out.2.1, HR.out.2.2⟩
          case measure => simp [intOf]; omega
      · have HRD := Lib.hid (rd_no hyes)
        have t1 : (a == -1 - (k : Int)) = false := by simp; omega
        have t2 : (b == -1 - (k : Int)) = false := by simp; omega
        rw [← HRD.out] at hown2
        have HR := Lib.hid (And.intro hown2 (And.intro hbox2 hbel2))
        clear hyes hown2 hbox2 hbel2
        refine Lib.hid ?_
        go_wp2
        go_roundw
        case rel => exact ⟨k + 1, n, cap, ad, by omega, by go_num, rfl, by omega, HR.out.1, HR.out.2.1, HR.out.2.2⟩
        case measure => simp [intOf]; omega
    · have hk8 : k = 8 := by omega
      subst hk8
      have HR := Lib.hid (And.intro hown hbel)
      clear hown hbox hbel
      go_wp2
      go_ret
      exact ⟨_, _, _, rfl, HR.out.1.mono (by omega), HR.out.2⟩
theorem spec_reads (w : World) (o a b : Int) : Calls Try.prog 94 #[ev o a b] w (NewInts w (readsV o a b)) := by
  cases he : exprOk o a b
  · simpa [readsV, he] using spec_reads_no w o a b he
  · simpa [readsV, he] using spec_reads_ok w o a b he
end Go.Proofs.Ytodlbbojjnkneaa.expr
