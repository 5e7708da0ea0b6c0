/- Chapter 10 of the program: TouchedWords; a new row; nothing that was there is written. -/
import Derived.Test.YtmanplejhcjnaaaWtI
import Derived.Test.YtmanplejhcjnaaaReadB
import Derived.Laws.Rows
namespace Go.Proofs.Ytmanplejhcjnaaa.wrt
open Go Go.ChangeShapes Go.WideShapes Go.ChangeAt Go.RowKit Go.Proofs.Ytmanplejhcjnaaa.row Go.Proofs.Ytmanplejhcjnaaa.val Go.Proofs.Ytmanplejhcjnaaa.expr Go.Proofs.Ytmanplejhcjnaaa.grow

theorem none_ok (ad : Option Addr) (n c : Nat) : (Value.slice ad n c).ownBlock = none ∨ (Value.slice ad n c).ownBlock ≠ none := by cases ad <;> simp [Value.ownBlock]
theorem ps_snoc {L : List Wt} {j : Nat} {p v : Int} (h : L[j]? = some ⟨p, v⟩) : (L.take (j + 1)).map (·.p) = (L.take j).map (·.p) ++ [p] := by
  rw [List.take_add_one, h]; simp
set_option maxHeartbeats 2000000 in
set_option maxRecDepth 100000 in
theorem impl_touched (w : World) (b : Option Addr) (k kc : Nat) (L : List Wt) (hk : (k : Int) ≤ 1048576) (hL : WriteRow w b k L) :
    Calls Try.prog 13 #[.slice b k kc] w (NewInts w (tch L)) := by
  obtain ⟨i0, hi, hz0, hz1, hz2⟩ := info_parts infoInt
  have HL := Lib.hid hL
  clear hL
  go_enter Try.func13, Try.ntmps13
  go_wp2
  go_loopw [3, 5, 9] (fun v _ i wr => ∃ (j g cap : Nat), j ≤ k ∧ i = .int .i64 j ∧ v = .slice (some ⟨g, 0, none⟩) j cap ∧ Own w.heap.size g j cap ((L.take j).map (·.p)) wr ∧ Below w.heap.size w wr) (fun _ _ i _ => k - (intOf i).toNat)
  case atStart => exact ⟨0, w.heap.size, 0, Nat.zero_le _, rfl, rfl, ⟨Nat.le_refl _, World.ownsRow_made w #[] 0 (Nat.le_refl _) (by decide) rfl⟩, below_new _ _⟩
  case round =>
    obtain ⟨j, g, cap, hj, rfl, rfl, hown, hbel⟩ := hrel
    by_cases hlt : j < k
    · have hI : (j : Int) < k := by omega
      obtain ⟨b0, off, s, rfl, hlb, hs, hr⟩ := (HL.out.below hbel).2 j hlt
      obtain ⟨p, v⟩ := s
      have HS := Lib.hid (ps_snoc hs)
      have HR := Lib.hid (And.intro hr (And.intro hown hbel))
      have hws := hbel.size
      clear hr hown hbel hs
      go_wp2_with (first
        | (refine wpList_load_mid rfl 34 _ rfl b0 (off + j * 2) rfl (writeC ⟨p, v⟩) _ HR.out.1 Try.underlying34 rfl (by kernel_rfl) ?_)
        | (refine wpList_store_box rfl 34 _ _ rfl wr.heap.size _ _ (Box.new wr _ _) #[.int .i64 p, .int .i64 v] rfl rfl rfl (by kernel_rfl) (by simp [Value.oneCell']) ?_; intro w2 hx2 hg2; refine Hid.out ?_))
      have hb2 : Below wr.heap.size wr w2 := (below_new wr _).grown hg2 (by simp) (fun j hj => by cases hj; exact Nat.le_refl _)
      have c0 := hx2.cell 0
      have H2 := Lib.hid (And.intro (HR.out.2.1.2.kept (grown_below hb2 none) (none_ok _ _ _)) (below_then HR.out.2.2 hb2))
      have HG := Lib.hid HR.out.2.1.1
      have hws2 := H2.out.2.size
      clear hx2 hg2 hb2
      refine Lib.hid ?_
      go_wp2_with (at_builtin; refine wpList_append_own _ rfl _ _ 24 rfl w.heap.size 3 i0 (.int .i64 0) 1 8 Try.underlying24 hi hz0 hz1 hz2 rfl (by decide) _ _ _ rfl (H2.out.1.alloc _) ⟨w2.heap.size, 0, none⟩ 1 1 [.int .i64 p] rfl rfl (World.news_of_block (cs := #[.int .i64 p]) (t := 3) (fr := (0, 0)) (heap_alloc_new w2 _)) (by simp [Value.oneCell']) (by unfold maxLen; omega) (by omega) (by simp; omega) ?_; intro v3 w3 hown3 hgrow3 _; refine Hid.out ?_)
      rw [ivs_snoc, ← HS.out] at hown3
      have hbel3 := (below_then H2.out.2 (below_new w2 (.cells #[.int .i64 p] 3))).grown hgrow3 (by have := H2.out.2.size; simp; omega) (fun j hj => by cases hj; exact HG.out)
      obtain ⟨g3, cap3, rfl, hg3, _⟩ := hown3.form (by omega)
      have HF := Lib.hid (And.intro (And.intro hg3 hown3) hbel3)
      clear hown3 hbel3 hgrow3
      refine Lib.hid ?_
      go_wp2
      go_roundw
      case rel => exact ⟨j + 1, g3, cap3, by omega, by go_num, rfl, HF.out.1, HF.out.2⟩
      case measure => simp [intOf]; omega
    · obtain rfl : j = k := by omega
      have hI : ¬ (j : Int) < j := by omega
      rw [List.take_of_length_le (by rw [HL.out.1]; exact Nat.le_refl _)] at hown
      have H2 := Lib.hid (And.intro hown hbel)
      clear hown hbel
      go_wp2_with (go_at_call 36; refine (sort_any _ H2.out.1 hk).mono ?_; rintro e w4 ⟨rfl, ho4, hg4⟩; refine Hid.out ?_)
      have H4 := Lib.hid (And.intro ho4 (H2.out.2.grown hg4 H2.out.2.size (fun j hj => by cases hj; exact H2.out.1.1)))
      clear ho4 hg4
      refine Lib.hid ?_
      go_wp2_with (go_at_call 37; refine (comp_any _ H4.out.1 hk).mono ?_; rintro e w5 ⟨rfl, ho5, hg5⟩; refine Hid.out ?_)
      have hb5 := H4.out.2.grown hg5 H4.out.2.size (fun j hj => by cases hj; exact H4.out.1.1)
      have hfin : NewInts w (tch L) (.returned (.slice (some ⟨g, 0, none⟩) (Lib.compact (srt (L.map (·.p)))).length cap)) w5 := ⟨_, _, _, rfl, ho5.2, hb5⟩
      have HF := Lib.hid hfin
      clear ho5 hg5 hb5 hfin
      refine Lib.hid ?_
      go_wp2
      go_ret
      exact HF.out
end Go.Proofs.Ytmanplejhcjnaaa.wrt
