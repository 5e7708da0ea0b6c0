/- Several texts in one: SetL. -/
import Derived.Test.YtodlbbojjnkneaaGHub31
import Derived.Test.YtodlbbojjnkneaaShelf
import Derived.Shelf.SlIterI.Nil
import Derived.Shelf.SlIterI.Sorted
import Derived.Shelf.Sort.Plain
import Derived.Shelf.Slices.In.SortNone
import Derived.Shelf.Slices.Turned
import Derived.Shelf.SlMaps.Clone

/- The program's ascending, and the library below it: the keys of a set, sorted, in new memory; nothing that was there is written. -/
namespace Go.Proofs.Ytodlbbojjnkneaa.sets
open Go Go.ChangeShapes Go.WideShapes Go.ChangeAt Go.RowKit Go.Maps Go.Sort Go.Shelf Go.Proofs.Ytodlbbojjnkneaa.row Go.Proofs.Ytodlbbojjnkneaa.val Go.Proofs.Ytodlbbojjnkneaa.stm Go.Proofs.Ytodlbbojjnkneaa.blk Go.Proofs.Ytodlbbojjnkneaa.expr

/-- slices.Sort's two contracts at this program. -/
theorem sortsI (m : Nat) : AnyZI.SortsIn Try.prog Try.sortedI_ren Fence.wide m :=
  ⟨fun blk off cap ss W hH hblk hsz => callsIn_wide.2 (Any.slices_Sort_int Try.lays189 blk off cap ss W hH hblk hsz),
   fun p cap W => callsIn_wide.2 (Any.slices_Sort_int_none Try.lays189 p cap W)⟩

set_option maxHeartbeats 1000000 in
set_option maxRecDepth 100000 in
theorem impl_ascending (b : Nat) (f : Nat → Bool) (w : World) (h : Mset b f w) : Calls Try.prog 61 #[.map (some b)] w (NewInts w (lst f 8)) := by
  obtain ⟨D0, hown, hs⟩ := h
  have h8 := setD_size hown hs
  have hperm := setD_perm hown hs
  refine (callsIn_wide (n := 6)).1 ?_
  have hbl := hown.lt
  have hseq : SeqGives Fence.wide 2 Try.prog 89 #[.pointer (some ⟨w.heap.size, 0, none⟩)] encZ (fun ss => ss.Perm (intKeys D0)) (Maps.size D0) (w.alloc (.cells #[.map (some b)] 81)) :=
    AnyZI.keys_gives (ρ := Try.keysS_ren) { Try.keysS with } Fence.wide _ trivial rfl (by omega) w.heap.size b _ D0 _ (by simp) (by simp) (hown.alloc _)
  have cK : ∀ mb W, CallsIn Fence.wide 5 Try.prog 74 #[.map mb] W fun e w' => e = .returned (.func (.func 89) #[] #[.pointer (some ⟨W.heap.size, 0, none⟩)]) ∧ w' = W.alloc (.cells #[.map mb] 81) := fun mb W => AnyZI.keys_in Try.keysS Fence.wide 5 trivial rfl mb W
  have cS := AnyZI.sorted_in Try.sortedI Fence.wide 5 trivial trivial trivial trivial rfl (by omega) (sortsI _) (enters_of Try.func88 (by kernel_rfl) rfl) 89 #[.pointer (some ⟨w.heap.size, 0, none⟩)] trivial (enters_of Try.func89 (by kernel_rfl) rfl) _ _ (by unfold maxLen; omega) (by omega) _ hseq
  change CallsIn _ _ Try.prog 73 _ _ _ at cS
  have hfK : Fence.wide.fn 74 := trivial
  have hfS : Fence.wide.fn 73 := trivial
  refine callsIn_of_wp Try.func61 rfl trivial ?_ rfl
  simp only [Try.ntmps61, List.size_toArray, List.length_cons, List.length_nil, Nat.reduceAdd, Nat.reduceSub, Array.replicate_succ, Array.replicate_zero, List.push_toArray, List.append_toArray, List.nil_append, List.cons_append]
  gi_wp2_with (first
    | (gi_at_call 74; refine (cK _ _).mono ?_; rintro e w' ⟨rfl, rfl⟩)
    | (gi_at_call 73; refine cS.mono ?_; rintro e w' ⟨v, ss, rfl, hS, hrow, hnil, hb⟩))
  go_ret
  have hL : ss.mergeSort (fun x y => decide (x ≤ y)) = lst f 8 := (mergeSort_of_perm_i (hS.trans hperm.symm)).trans (lst_sorted f 8)
  obtain ⟨ad, cap, rfl⟩ := own_slice hrow
  refine ⟨ad, ss.length, cap, rfl, ?_, ((Below.refl _ w).alloc (Nat.le_refl _) _).trans (hb.mono (by simp))⟩
  rw [hL] at hrow
  exact hrow.mono (by simp)
theorem minOf_is {L : List Int} {q : Int} (hq : q ∈ L) (hm : ∀ x ∈ L, q ≤ x) : Lib.minOf L = q := by
  have key : ∀ (l : List Int) (a : Int), (∀ x ∈ l, q ≤ x) → q ≤ a → (a = q ∨ q ∈ l) → l.foldl min a = q := by
    intro l
    induction l with
    | nil => intro a _ _ h; rcases h with h | h; exact h; cases h
    | cons y r ih =>
      intro a h1 h2 h3
      have hy := h1 y (by simp)
      rw [List.foldl_cons]
      refine ih _ (fun x hx => h1 x (by simp [hx])) (by omega) ?_
      rcases h3 with h3 | h3
      · left; omega
      · rcases List.mem_cons.1 h3 with h4 | h4
        · left; omega
        · right; exact h4
  cases L with
  | nil => cases hq
  | cons z l =>
    unfold Lib.minOf
    refine key (z :: l) z hm (hm z (by simp)) (.inr hq)
theorem own_cells {w : World} {base : Nat} {v : Value} {L : List Int} (h : w.ownsRow base 3 1 v L.length (L.map encZ)) (hL : L ≠ []) :
    ∃ g cap, v = .slice (some ⟨g, 0, none⟩) L.length cap ∧ ∀ j, j < L.length → w.cell? ⟨g, 0 + j, none⟩ = some (.int .i64 (L.getD j 0)) := by
  rcases h.2 with ⟨_, h0⟩ | ⟨g, cap, cur, hv, _, hb, h1, h2, h3, h4⟩
  · exact absurd (List.length_eq_zero_iff.1 h0) hL
  · refine ⟨g, cap, hv, fun j hj => ?_⟩
    have h5 : (cur.toList.take (L.length * 1))[j]? = (L.map encZ)[j]? := by rw [h4]
    rw [Nat.mul_one, List.getElem?_take_of_lt hj, List.getElem?_map, List.getElem?_eq_getElem hj] at h5
    simp only [World.cell?, hb, Nat.zero_add, Option.isSome_none, Bool.false_eq_true, if_false]
    rw [← Array.getElem?_toList, h5]
    simp [List.getD, List.getElem?_eq_getElem hj]
/-- slices.Min over the collected keys. -/
theorem min_keys {W : World} {g cap : Nat} {ss : List Int} {q : Int} (hc : ∀ j, j < ss.length → W.cell? ⟨g, 0 + j, none⟩ = some (.int .i64 (ss.getD j 0))) (hq : q ∈ ss) (hm : ∀ x ∈ ss, q ≤ x) (hl : (ss.length : Int) ≤ 1048577) :
    Calls Try.prog 84 #[.slice (some ⟨g, 0, none⟩) ss.length cap] W fun e w' => e = .returned (.int .i64 q) ∧ w' = W := by
  have hp : 0 < ss.length := List.length_pos_of_mem hq
  have h := Any.slices_Min_int Try.lays114 g 0 ss.length cap ss W hp (Nat.le_refl _) (by omega) hc
  rw [List.take_length, minOf_is hq hm] at h
  exact h
set_option maxHeartbeats 1000000 in
set_option maxRecDepth 100000 in
theorem impl_innermost (b n : Nat) (D : DataW Unit) (w : World) (hown : w.ownsMap Try.prog 3 mapEl b n D) (hn : (n : Int) ≤ 1048577) (q c : Nat) (hq : has D (.int .i64 (q : Int)) = true) (hmin : ∀ x : Int, has D (.int .i64 x) = true → (q : Int) ≤ x) (hqs : (q : Int) ≤ 9223372036854775807)
    (hat : D.atKey (.int .i64 (q : Int)) (.lit (.bool false)) = .lit (.int .i64 (c : Int))) :
    Calls Try.prog 70 #[.map (some b)] w fun e w' => e = .returned (.map (some c)) ∧ Below w.heap.size w w' := by
  have hsz := hown.size_le
  have hkl := keys_len hown
  have hmem := keys_mem hown Try.underlying3
  refine (callsIn_wide (n := 6)).1 ?_
  have hbl := hown.lt
  have hseq : SeqGives Fence.wide 3 Try.prog 97 #[.pointer (some ⟨w.heap.size, 0, none⟩)] encZ (fun ss => ss.Perm (intKeys D)) (Maps.size D) (w.alloc (.cells #[.map (some b)] 91)) :=
    AnyZI.keys_gives (ρ := Try.keysT_ren) { Try.keysT with } Fence.wide _ trivial rfl (by omega) w.heap.size b _ D _ (by simp) (by simp) (hown.alloc _)
  have cK : ∀ mb W, CallsIn Fence.wide 5 Try.prog 86 #[.map mb] W fun e w' => e = .returned (.func (.func 97) #[] #[.pointer (some ⟨W.heap.size, 0, none⟩)]) ∧ w' = W.alloc (.cells #[.map mb] 91) := fun mb W => AnyZI.keys_in Try.keysT Fence.wide 5 trivial rfl mb W
  have cS := AnyZI.collect_in Try.collectI Fence.wide 5 trivial trivial rfl (by omega) 97 #[.pointer (some ⟨w.heap.size, 0, none⟩)] trivial (enters_of Try.func97 (by kernel_rfl) rfl) _ _ (by unfold maxLen; omega) (by omega) _ hseq
  change CallsIn _ _ Try.prog 85 _ _ _ at cS
  have hfK : Fence.wide.fn 86 := trivial
  have hfS : Fence.wide.fn 85 := trivial
  have hfM : Fence.wide.fn 84 := trivial
  have HOW := Lib.hid hown
  refine callsIn_of_wp Try.func70 rfl trivial ?_ rfl
  simp only [Try.ntmps70, List.size_toArray, List.length_cons, List.length_nil, Nat.reduceAdd, Nat.reduceSub, Array.replicate_succ, Array.replicate_zero, List.push_toArray, List.append_toArray, List.nil_append, List.cons_append]
  gi_wp2_with (first
    | (gi_at_call 86; refine (cK _ _).mono ?_; rintro e w' ⟨rfl, rfl⟩)
    | (gi_at_call 85; refine cS.mono ?_; rintro e w2 ⟨v, ss, rfl, hS, hrow, hnil, hb⟩
       have hqs2 : (q : Int) ∈ ss := hS.mem_iff.2 ((hmem _).2 hq)
       have hss : ss ≠ [] := fun e9 => by rw [e9] at hqs2; cases hqs2
       have hlen : (ss.length : Int) ≤ 1048577 := by have := hS.length_eq; omega
       obtain ⟨g, cap, rfl, hcell⟩ := own_cells hrow hss
       have cM := callsIn_wide (n := 5) |>.2 (min_keys (cap := cap) hcell hqs2 (fun x hx => hmin x ((hmem x).1 (hS.mem_iff.1 hx))) hlen)
       have hown2 := own_below (HOW.out.alloc (.cells #[.map (some b)] 91)) hb
       have hlk : (Instr.lookup 91 (.map (some b)) (.int .i64 (q : Int)) false).run Try.prog w2 = .ok (.map (some c)) w2 := by
         obtain ⟨u, ps, hrun, hu⟩ := hown2.lookup (z := .map none) (zd := .lit (.bool false)) (zp := []) keyI topU (zeroM w2) rfl (keyOfI (x := (q : Int)) (by omega) hqs)
         rw [hat] at hu
         rw [mapEl_inv hu] at hrun
         exact hrun
       have HB := Lib.hid hb
       clear hcell hrow hnil hS hqs2 hss hb hown2 hlen)
    | (gi_at_call 84; refine cM.mono ?_; rintro e w3 ⟨rfl, rfl⟩))
  go_ret
  exact ⟨rfl, ((Below.refl _ w).alloc (Nat.le_refl _) _).trans (HB.out.mono (by simp))⟩
end Go.Proofs.Ytodlbbojjnkneaa.sets
