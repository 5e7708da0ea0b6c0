/- Several texts in one: VSetL VSetP VReadB VReadD. -/
import Derived.Test.YtmgeecdgebemdaaGreatDoorGSigV27
import Derived.Test.YtmgeecdgebemdaaGreatDoorShelf
import Derived.Shelf.SlIterI.Nil
import Derived.Shelf.SlIterI.Sorted
import Derived.Shelf.Sort.Plain
import Derived.Shelf.Slices.In.SortNone
import Derived.Shelf.Slices.Turned
import Derived.Shelf.SlMaps.Clone
import Derived.Test.YtmgeecdgebemdaaGreatDoorGSigV15
import Derived.Test.YtmgeecdgebemdaaGreatDoorGSigV0
import Derived.Test.YtmgeecdgebemdaaGreatDoorGSigV5
import Derived.Shelf.Slices.CompactI
import Derived.Sort.OwnSortedInts
import Derived.Lib.OwnBridge
import Derived.Test.YtmgeecdgebemdaaGreatDoorGSigV10
import Derived.Test.YtmgeecdgebemdaaGreatDoorGSigV6
import Derived.Laws.Rows
import Derived.Maps.AppendAt

/- The program's ascending, and the library below it: the keys of a set, sorted, in new memory; nothing that was there is written. -/
namespace Go.Proofs.YtmgeecdgebemdaaGreatDoor.sets
open Go Go.ChangeShapes Go.WideShapes Go.ChangeAt Go.RowKit Go.Maps Go.Sort Go.Shelf Go.Proofs.YtmgeecdgebemdaaGreatDoor.row Go.Proofs.YtmgeecdgebemdaaGreatDoor.val Go.Proofs.YtmgeecdgebemdaaGreatDoor.stm Go.Proofs.YtmgeecdgebemdaaGreatDoor.blk Go.Proofs.YtmgeecdgebemdaaGreatDoor.expr
/-- slices.Sort's two contracts at this program. -/
theorem sortsI (m : Nat) : AnyZI.SortsIn Tryz.prog Tryz.sortedI_ren Fence.wide m :=
  ⟨fun blk off cap ss W hH hblk hsz => callsIn_wide.2 (Any.slices_Sort_int Tryz.lays189 blk off cap ss W hH hblk hsz),
   fun p cap W => callsIn_wide.2 (Any.slices_Sort_int_none Tryz.lays189 p cap W)⟩

set_option maxHeartbeats 1000000 in
set_option maxRecDepth 100000 in
theorem impl_ascending (b : Nat) (f : Nat → Bool) (w : World) (h : Mset b f w) : Calls Tryz.prog 158 #[.map (some b)] w (NewInts w (lst f 8)) := by
  obtain ⟨D0, hown, hs⟩ := h
  have h8 := setD_size hown hs
  have hperm := setD_perm hown hs
  refine (callsIn_wide (n := 6)).1 ?_
  have hbl := hown.lt
  have hseq : SeqGives Fence.wide 2 Tryz.prog 236 #[.pointer (some ⟨w.heap.size, 0, none⟩)] encZ (fun ss => ss.Perm (intKeys D0)) (Maps.size D0) (w.alloc (.cells #[.map (some b)] 191)) :=
    AnyZI.keys_gives (ρ := Tryz.keysS_ren) { Tryz.keysS with } Fence.wide _ trivial rfl (by omega) w.heap.size b _ D0 _ (by simp) (by simp) (hown.alloc _)
  have cK : ∀ mb W, CallsIn Fence.wide 5 Tryz.prog 202 #[.map mb] W fun e w' => e = .returned (.func (.func 236) #[] #[.pointer (some ⟨W.heap.size, 0, none⟩)]) ∧ w' = W.alloc (.cells #[.map mb] 191) := fun mb W => AnyZI.keys_in Tryz.keysS Fence.wide 5 trivial rfl mb W
  have cS := AnyZI.sorted_in Tryz.sortedI Fence.wide 5 trivial trivial trivial trivial rfl (by omega) (sortsI _) (enters_of Tryz.func235 (by kernel_rfl) rfl) 236 #[.pointer (some ⟨w.heap.size, 0, none⟩)] trivial (enters_of Tryz.func236 (by kernel_rfl) rfl) _ _ (by unfold maxLen; omega) (by omega) _ hseq
  change CallsIn _ _ Tryz.prog 201 _ _ _ at cS
  have hfK : Fence.wide.fn 202 := trivial
  have hfS : Fence.wide.fn 201 := trivial
  refine callsIn_of_wp Tryz.func158 rfl trivial ?_ rfl
  simp only [Tryz.ntmps158, List.size_toArray, List.length_cons, List.length_nil, Nat.reduceAdd, Nat.reduceSub, Array.replicate_succ, Array.replicate_zero, List.push_toArray, List.append_toArray, List.nil_append, List.cons_append]
  gi_wp2_with (first
    | (gi_at_call 202; refine (cK _ _).mono ?_; rintro e w' ⟨rfl, rfl⟩)
    | (gi_at_call 201; refine cS.mono ?_; rintro e w' ⟨v, ss, rfl, hS, hrow, hnil, hb⟩))
  go_ret
  have hL : ss.mergeSort (fun x y => decide (x ≤ y)) = lst f 8 := (mergeSort_of_perm_i (hS.trans hperm.symm)).trans (lst_sorted f 8)
  obtain ⟨ad, cap, rfl⟩ := own_slice hrow
  refine ⟨ad, ss.length, cap, rfl, ?_, ((Below.refl _ w).alloc (Nat.le_refl _) _).trans (hb.mono (by simp))⟩
  rw [hL] at hrow
  exact hrow.mono (by simp)
theorem minOf_is {L : List Int} {q : Int} (hq : q ∈ L) (hm : ∀ x ∈ L, q ≤ x) : Lib.minOf L = q := by
  have key : ∀ (l : List Int) (a : Int), (∀ x ∈ l, q ≤ x) → q ≤ a → (a = q ∨ q ∈ l) → l.foldl min a = q := by
    intro l
    induction l with
    | nil => intro a _ _ h; rcases h with h | h; exact h; cases h
    | cons y r ih =>
      intro a h1 h2 h3
      have hy := h1 y (by simp)
      rw [List.foldl_cons]
      refine ih _ (fun x hx => h1 x (by simp [hx])) (by omega) ?_
      rcases h3 with h3 | h3
      · left; omega
      · rcases List.mem_cons.1 h3 with h4 | h4
        · left; omega
        · right; exact h4
  cases L with
  | nil => cases hq
  | cons z l =>
    unfold Lib.minOf
    refine key (z :: l) z hm (hm z (by simp)) (.inr hq)
theorem own_cells {w : World} {base : Nat} {v : Value} {L : List Int} (h : w.ownsRow base 3 1 v L.length (L.map encZ)) (hL : L ≠ []) :
    ∃ g cap, v = .slice (some ⟨g, 0, none⟩) L.length cap ∧ ∀ j, j < L.length → w.cell? ⟨g, 0 + j, none⟩ = some (.int .i64 (L.getD j 0)) := by
  rcases h.2 with ⟨_, h0⟩ | ⟨g, cap, cur, hv, _, hb, h1, h2, h3, h4⟩
  · exact absurd (List.length_eq_zero_iff.1 h0) hL
  · refine ⟨g, cap, hv, fun j hj => ?_⟩
    have h5 : (cur.toList.take (L.length * 1))[j]? = (L.map encZ)[j]? := by rw [h4]
    rw [Nat.mul_one, List.getElem?_take_of_lt hj, List.getElem?_map, List.getElem?_eq_getElem hj] at h5
    simp only [World.cell?, hb, Nat.zero_add, Option.isSome_none, Bool.false_eq_true, if_false]
    rw [← Array.getElem?_toList, h5]
    simp [List.getD, List.getElem?_eq_getElem hj]
/-- slices.Min over the collected keys. -/
theorem min_keys {W : World} {g cap : Nat} {ss : List Int} {q : Int} (hc : ∀ j, j < ss.length → W.cell? ⟨g, 0 + j, none⟩ = some (.int .i64 (ss.getD j 0))) (hq : q ∈ ss) (hm : ∀ x ∈ ss, q ≤ x) (hl : (ss.length : Int) ≤ 1048577) :
    Calls Tryz.prog 239 #[.slice (some ⟨g, 0, none⟩) ss.length cap] W fun e w' => e = .returned (.int .i64 q) ∧ w' = W := by
  have hp : 0 < ss.length := List.length_pos_of_mem hq
  have h := Any.slices_Min_int Tryz.lays114 g 0 ss.length cap ss W hp (Nat.le_refl _) (by omega) hc
  rw [List.take_length, minOf_is hq hm] at h
  exact h
set_option maxHeartbeats 1000000 in
set_option maxRecDepth 100000 in
theorem impl_innermost (b n : Nat) (D : DataW Unit) (w : World) (hown : w.ownsMap Tryz.prog 3 mapEl b n D) (hn : (n : Int) ≤ 1048577) (q c : Nat) (hq : has D (.int .i64 (q : Int)) = true) (hmin : ∀ x : Int, has D (.int .i64 x) = true → (q : Int) ≤ x) (hqs : (q : Int) ≤ 9223372036854775807)
    (hat : D.atKey (.int .i64 (q : Int)) (.lit (.bool false)) = .lit (.int .i64 (c : Int))) :
    Calls Tryz.prog 218 #[.map (some b)] w fun e w' => e = .returned (.map (some c)) ∧ Below w.heap.size w w' := by
  have hsz := hown.size_le
  have hkl := keys_len hown
  have hmem := keys_mem hown Tryz.underlying3
  refine (callsIn_wide (n := 6)).1 ?_
  have hbl := hown.lt
  have hseq : SeqGives Fence.wide 3 Tryz.prog 248 #[.pointer (some ⟨w.heap.size, 0, none⟩)] encZ (fun ss => ss.Perm (intKeys D)) (Maps.size D) (w.alloc (.cells #[.map (some b)] 228)) :=
    AnyZI.keys_gives (ρ := Tryz.keysT_ren) { Tryz.keysT with } Fence.wide _ trivial rfl (by omega) w.heap.size b _ D _ (by simp) (by simp) (hown.alloc _)
  have cK : ∀ mb W, CallsIn Fence.wide 5 Tryz.prog 240 #[.map mb] W fun e w' => e = .returned (.func (.func 248) #[] #[.pointer (some ⟨W.heap.size, 0, none⟩)]) ∧ w' = W.alloc (.cells #[.map mb] 228) := fun mb W => AnyZI.keys_in Tryz.keysT Fence.wide 5 trivial rfl mb W
  have cS := AnyZI.collect_in Tryz.collectI Fence.wide 5 trivial trivial rfl (by omega) 248 #[.pointer (some ⟨w.heap.size, 0, none⟩)] trivial (enters_of Tryz.func248 (by kernel_rfl) rfl) _ _ (by unfold maxLen; omega) (by omega) _ hseq
  change CallsIn _ _ Tryz.prog 234 _ _ _ at cS
  have hfK : Fence.wide.fn 240 := trivial
  have hfS : Fence.wide.fn 234 := trivial
  have hfM : Fence.wide.fn 239 := trivial
  have HOW := Lib.hid hown
  refine callsIn_of_wp Tryz.func218 rfl trivial ?_ rfl
  simp only [Tryz.ntmps218, List.size_toArray, List.length_cons, List.length_nil, Nat.reduceAdd, Nat.reduceSub, Array.replicate_succ, Array.replicate_zero, List.push_toArray, List.append_toArray, List.nil_append, List.cons_append]
  gi_wp2_with (first
    | (gi_at_call 240; refine (cK _ _).mono ?_; rintro e w' ⟨rfl, rfl⟩)
    | (gi_at_call 234; refine cS.mono ?_; rintro e w2 ⟨v, ss, rfl, hS, hrow, hnil, hb⟩
       have hqs2 : (q : Int) ∈ ss := hS.mem_iff.2 ((hmem _).2 hq)
       have hss : ss ≠ [] := fun e9 => by rw [e9] at hqs2; cases hqs2
       have hlen : (ss.length : Int) ≤ 1048577 := by have := hS.length_eq; omega
       obtain ⟨g, cap, rfl, hcell⟩ := own_cells hrow hss
       have cM := callsIn_wide (n := 5) |>.2 (min_keys (cap := cap) hcell hqs2 (fun x hx => hmin x ((hmem x).1 (hS.mem_iff.1 hx))) hlen)
       have hown2 := own_below (HOW.out.alloc (.cells #[.map (some b)] 228)) hb
       have hlk : (Instr.lookup 228 (.map (some b)) (.int .i64 (q : Int)) false).run Tryz.prog w2 = .ok (.map (some c)) w2 := by
         obtain ⟨u, ps, hrun, hu⟩ := hown2.lookup (z := .map none) (zd := .lit (.bool false)) (zp := []) keyI topU (zeroM w2) rfl (keyOfI (x := (q : Int)) (by omega) hqs)
         rw [hat] at hu
         rw [mapEl_inv hu] at hrun
         exact hrun
       have HB := Lib.hid hb
       clear hcell hrow hnil hS hqs2 hss hb hown2 hlen)
    | (gi_at_call 239; refine cM.mono ?_; rintro e w3 ⟨rfl, rfl⟩))
  go_ret
  exact ⟨rfl, ((Below.refl _ w).alloc (Nat.le_refl _) _).trans (HB.out.mono (by simp))⟩
end Go.Proofs.YtmgeecdgebemdaaGreatDoor.sets

/- The program's writes and MayWrite: what the plain relations say; nothing that was there is written. -/
namespace Go.Proofs.YtmgeecdgebemdaaGreatDoor.sets
open Go Go.ChangeShapes Go.WideShapes Go.ChangeAt Go.RowKit Go.Maps Go.Proofs.YtmgeecdgebemdaaGreatDoor.row Go.Proofs.YtmgeecdgebemdaaGreatDoor.val Go.Proofs.YtmgeecdgebemdaaGreatDoor.stm Go.Proofs.YtmgeecdgebemdaaGreatDoor.blk Go.Proofs.YtmgeecdgebemdaaGreatDoor.expr
theorem clone_set (q : Nat) (f : Nat → Bool) (w : World) (h : Mset q f w) : Calls Tryz.prog 219 #[.map (some q)] w fun e w' => e = .returned (.map (some w.heap.size)) ∧ Mset w.heap.size f w' ∧ Below w.heap.size w w' := by
  obtain ⟨D, hown, hs⟩ := h
  have hc := AnyW.maps_Clone_owns Tryz.cloneS 3 boolEl q _ D w hown
  refine (show Calls Tryz.prog 219 _ _ _ from hc).mono ?_
  rintro e w' ⟨rfl, h1, _, hb⟩
  exact ⟨rfl, ⟨D, h1, hs⟩, hb⟩
theorem impl_writes (s : Sm) (r : Bool) (hr : r = true ↔ wr s) (w : World) : Calls Tryz.prog 142 #[stV s] w (BelB w r) := by
  have c0 : (w.alloc (.cells #[.int .i64 s.k, .int .i64 s.v, .int .i64 s.n, .int .i64 s.o, .int .i64 s.a, .int .i64 s.b] 112)).cell? ⟨w.heap.size, 0, none⟩ = some (.int .i64 s.k) := (Box.new w #[.int .i64 s.k, .int .i64 s.v, .int .i64 s.n, .int .i64 s.o, .int .i64 s.a, .int .i64 s.b] _).cell 0
  have HR := Lib.hid hr
  by_cases h1 : s.k = 1
  · have hrt : r = true := hr.2 (.inl h1)
    subst hrt
    rw [h1] at c0
    clear hr
    go_enter Tryz.func142, Tryz.ntmps142
    go_wp2
    go_ret
    exact ⟨rfl, below_new _ _⟩
  · by_cases h2 : s.k = 2
    · have hrt : r = true := hr.2 (.inr h2)
      subst hrt
      rw [h2] at c0
      clear hr
      go_enter Tryz.func142, Tryz.ntmps142
      go_wp2
      go_ret
      exact ⟨rfl, below_new _ _⟩
    · have hrf : r = false := by rw [← Bool.not_eq_true]; intro e; rcases hr.1 e with h | h <;> omega
      subst hrf
      clear hr
      have b1 : (s.k == 1) = false := by simpa using h1
      have b2 : (s.k == 2) = false := by simpa using h2
      go_enter Tryz.func142, Tryz.ntmps142
      go_wp2
      go_ret
      exact ⟨rfl, below_new _ _⟩
theorem isFalse {f : Nat → Bool} {B : List Sm} {p : Nat → Prop} (hf : Is f (fun v => IsBlk B ∧ p v)) (hb : ¬ IsBlk B) : lst f 8 = [] := by
  rw [lst_congr (g := fun _ => false) (fun v hv => by
    cases h : f v
    · rfl
    · exact absurd ((hf v hv).1 h).1 hb)]
  exact lst_nil (fun _ => rfl) 8
set_option maxHeartbeats 4000000 in
set_option maxRecDepth 100000 in
theorem impl_maywrite (a : Option Addr) (n cap : Nat) (B : List Sm) (hn : (n : Int) ≤ 1048576) (_ : n ≤ cap) (w : World) (h : StRow w a n B) (f : Nat → Bool) (hf : Is f (fun v => IsBlk B ∧ MayTo B n v)) :
    Calls Tryz.prog 105 #[.slice a n cap] w (NewInts w (lst f 8)) := by
  have hmm := @run_makeMap Tryz.prog
  have HL := Lib.hid h
  have HF := Lib.hid hf
  have hlen := h.1
  clear h hf
  rcases Classical.em (IsBlk B) with hb | hb
  · have HB := Lib.hid hb
    clear hb
    go_enter Tryz.func105, Tryz.ntmps105
    go_wp2_with (go_at_call 157; (with_reducible refine (impl_blockok _ n cap B hn _ HL.out true ⟨fun _ => HB.out, fun _ => rfl⟩).mono ?_); rintro e w2 ⟨rfl, hb2⟩; refine Hid.out ?_)
    obtain ⟨W, hW⟩ : ∃ W, w2.alloc (.map #[] 0) = W := ⟨_, rfl⟩
    have HW := Lib.hid (And.intro (show Mset w2.heap.size (fun _ => false) W by rw [← hW]; exact Mset.made w2) (show Below w.heap.size w W by rw [← hW]; exact below_then hb2 (below_new w2 _)))
    have hbs := hb2.size
    clear hb2
    refine Lib.hid ?_
    go_wp2
    clear hW hmm
    go_loopw [12] (fun i wr => ∃ (k : Nat) (fk : Nat → Bool), k ≤ n ∧ i = .int .i64 k ∧ Hid (Is fk (MayTo B k)) ∧ Hid (Mset w2.heap.size fk wr) ∧ Hid (Below w.heap.size w wr)) (fun i _ => n - (intOf i).toNat)
    case atStart => exact ⟨0, _, Nat.zero_le _, rfl, fun v _ => ⟨fun e => (by cases e), fun e => absurd e mayTo_zero⟩, HW.out.1, HW.out.2⟩
    case round =>
      obtain ⟨k, fk, hk, rfl, HFK, HS, HR⟩ := hrel
      by_cases hlt : k < n
      · have hI : (k : Int) < n := by omega
        obtain ⟨g, off, s, rfl, hlb, hs, hrs⟩ := (HL.out.below HR.out).2 k hlt
        obtain ⟨r, hr⟩ := wr_dec s
        have HT := Lib.hid (And.intro hrs (And.intro hs hr))
        have HX := Lib.hid (And.intro (Box.new wr zero6 112) (below_new wr (.cells zero6 112)))
        clear hrs hs
        go_wp2_with (first
          | (refine wpList_load_mid rfl 112 _ rfl g (off + k * 6) rfl (stC s) _ HT.out.1 Tryz.underlying112 rfl (by kernel_rfl) ?_)
          | ((refine wpList_store_box rfl 112 _ _ rfl wr.heap.size _ _ HX.out.1 #[.int .i64 s.k, .int .i64 s.v, .int .i64 s.n, .int .i64 s.o, .int .i64 s.a, .int .i64 s.b] rfl rfl rfl (by kernel_rfl) (by simp [Value.oneCell']) ?_); intro w5 hx5 hg5; refine Hid.out ?_))
        have hb5 : Below wr.heap.size wr w5 := HX.out.2.grown hg5 HX.out.2.size (fun j hj => by cases hj; exact Nat.le_refl _)
        have H5 := Lib.hid (And.intro hx5 (And.intro (HS.out.below hb5) (below_then HR.out hb5)))
        have hrs := HR.out.size
        clear hx5 hg5 hb5
        refine Lib.hid ?_
        go_wp2_with (first
          | (refine wpList_load_row rfl 112 _ rfl wr.heap.size rfl _ _ _ _ H5.out.1 Tryz.underlying112 rfl (by kernel_rfl) ?_)
          | (go_at_call 142; (with_reducible refine (impl_writes s r HT.out.2.2 _).mono ?_); rintro e w6 ⟨rfl, hb6⟩; refine Hid.out ?_))
        have H6 := Lib.hid (And.intro (H5.out.1.below hb6) (And.intro (H5.out.2.1.below hb6) (below_then H5.out.2.2 hb6)))
        clear hb6
        cases r
        · have HF1 := Lib.hid (show Is fk (MayTo B (k + 1)) from HFK.out.congr (fun u => ⟨fun h => (mayTo_succ.1 h).resolve_right (wrAt_no HT.out.2.1 (fun h => by have := HT.out.2.2.2 h; cases this)), fun h => mayTo_succ.2 (.inl h)⟩))
          clear hr
          refine Lib.hid ?_
          go_wp2
          go_roundw
          case rel => exact ⟨k + 1, fk, by omega, by go_num, HF1, H6.out.2.1, H6.out.2.2⟩
          case measure => simp [intOf]; omega
        · have hw := HT.out.2.2.1 rfl
          obtain ⟨u, hu, hu8⟩ := wr_var (blk_stOk HB.out HT.out.2.1) hw
          have HF1 := Lib.hid (show Is (fun v => decide (v = u) || fk v) (MayTo B (k + 1)) from HFK.out.put (fun v => mayTo_succ.trans (or_congr Iff.rfl (wrAt_iff HT.out.2.1 hw hu))))
          have d1 : w6.cell? ⟨wr.heap.size, 1, none⟩ = some (.int .i64 (u : Int)) := by rw [← hu]; exact H6.out.1.cell 1
          clear hr hw hu
          refine Lib.hid ?_
          go_wp2_with (at_mapUpdate; (refine wpList_put_set _ rfl _ _ _ rfl w2.heap.size fk rfl H6.out.2.1 u hu8 rfl rfl ?_); intro w7 hm7 hg7; refine Hid.out ?_)
          have H7 := Lib.hid (And.intro hm7 (H6.out.2.2.grown hg7 H6.out.2.2.size (fun j hj => by cases hj; exact hbs)))
          clear hm7 hg7
          refine Lib.hid ?_
          go_wp2
          go_roundw
          case rel => exact ⟨k + 1, _, by omega, by go_num, HF1, H7.out.1, H7.out.2⟩
          case measure => simp [intOf]; omega
      · obtain rfl : k = n := by omega
        have hI : ¬ (k : Int) < k := by omega
        have HFL := Lib.hid (show lst fk 8 = lst f 8 from lst_congr (Is.eq HFK.out (HF.out.congr (fun u => ⟨fun h => ⟨HB.out, h⟩, fun h => h.2⟩))))
        go_wp2_with (go_at_call 158; (with_reducible refine (impl_ascending w2.heap.size fk _ HS.out).mono ?_); rintro e w5 ⟨ad, m, c5, rfl, hown, hb5⟩)
        go_ret
        exact ⟨ad, m, c5, rfl, by rw [← HFL.out]; exact hown.mono HR.out.size, below_then HR.out hb5⟩
  · have HB := Lib.hid hb
    have HFL := Lib.hid (isFalse HF.out hb)
    clear hb hmm
    go_enter Tryz.func105, Tryz.ntmps105
    go_wp2_with (go_at_call 157; (with_reducible refine (impl_blockok _ n cap B hn _ HL.out false ⟨fun h => (by cases h), fun h => absurd h HB.out⟩).mono ?_); rintro e w2 ⟨rfl, hb2⟩)
    go_ret
    exact ⟨none, 0, 0, rfl, by rw [HFL.out]; exact World.ownsRow_nil _ _ _ _, hb2⟩
end Go.Proofs.YtmgeecdgebemdaaGreatDoor.sets

/- The library's slices.Sort and slices.Compact over a row of numbers of the call's own: the sorted row, then the row of the single ones; no condition but the row's length. -/
namespace Go.Proofs.YtmgeecdgebemdaaGreatDoor.expr
open Go.ChangeShapes Go.WideShapes Go.ChangeAt Go.RowKit Go.Sort Go.Proofs.YtmgeecdgebemdaaGreatDoor.row
/-- A row of the call's own, at the head of its block. -/
def Own (B g n cap : Nat) (L : List Int) (w : World) : Prop := B ≤ g ∧ w.ownsRow B 3 1 (.slice (some ⟨g, 0, none⟩) n cap) n (ivs L)

theorem own_parts {B g n cap : Nat} {L : List Int} {w : World} (h : Own B g n cap L w) :
    ∃ cur, w.heap[g]? = some (.cells cur 3 (0, 0)) ∧ n ≤ cap ∧ cap ≤ maxLen ∧ cur.size = cap * 1 ∧ L.length = n ∧ Holds (Value.int .i64) w g 0 L.toArray ∧ g < w.heap.size := by
  have hl := own_len h.2
  rcases h.2.2 with ⟨h0, _⟩ | ⟨g', cap', cur, hv, _, hb, h1, h2, h3, h4⟩
  · cases h0
  · cases hv
    refine ⟨cur, hb, h1, h2, h3, hl, holds_of_blockI hb ?_, (Array.getElem?_eq_some_iff.1 hb).1⟩
    rw [hl]; rw [Nat.mul_one] at h4; exact h4

/-- What the sort leaves. -/
def SortOut (B g n cap : Nat) (L : List Int) (w : World) (e : Ending) (w' : World) : Prop := e = .returned (.tuple #[]) ∧ Own B g n cap (srt L) w' ∧ w.grownBy w' (some g)
theorem sort_any {B g n cap : Nat} {L : List Int} (w : World) (h : Own B g n cap L w) (hn : (n : Int) ≤ 1048576) :
    Calls Tryz.prog 235 #[.slice (some ⟨g, 0, none⟩) n cap] w (SortOut B g n cap L w) := by
  obtain ⟨cur, hb, h1, h2, h3, hl, hH, hlt⟩ := own_parts h
  subst hl
  have hs := Any.slices_Sort_int Tryz.lays189 g 0 cap L w hH hlt (by omega)
  refine (show Calls Tryz.prog 235 _ _ _ from hs).mono ?_
  rintro e w' ⟨rfl, q, os, rfl⟩
  exact ⟨rfl, ⟨h.1, by
    have hlen : (srt L).length = L.length := List.length_mergeSort L
    exact ownsRow_sortedI (n := q) (os := os) (ss := L) (ts := srt L) hlen h.1 hb h1 h2 h3⟩, grownBy_sortedI _⟩
/-- What the compaction leaves. -/
def CompOut (B g cap : Nat) (L : List Int) (w : World) (e : Ending) (w' : World) : Prop := e = .returned (.slice (some ⟨g, 0, none⟩) (Lib.compact L).length cap) ∧ Own B g (Lib.compact L).length cap (Lib.compact L) w' ∧ w.grownBy w' (some g)
theorem grown_putRow {w : World} {g q : Nat} (d : Array Int) : w.grownBy (putRow (Value.int .i64) (Sort.ahead w q) g 0 d) (some g) := by
  have h := grownBy_sortedI (w := w) (g := g) (n := q) (os := #[]) d
  simpa using h
theorem comp_any {B g n cap : Nat} {L : List Int} (w : World) (h : Own B g n cap L w) (hn : (n : Int) ≤ 1048576) :
    Calls Tryz.prog 242 #[.slice (some ⟨g, 0, none⟩) n cap] w (CompOut B g cap L w) := by
  obtain ⟨cur, hb, h1, h2, h3, hl, hH, hlt⟩ := own_parts h
  subst hl
  have hs := Any.slices_Compact_int Tryz.laysNm220 g 0 cap L w hH (by omega) h1
  have hle := Lib.compact_length_le L
  refine (show Calls Tryz.prog 242 _ _ _ from hs).mono ?_
  rintro e w' ⟨rfl, q, rfl⟩
  refine ⟨rfl, ⟨h.1, ?_⟩, grown_putRow _⟩
  have hc := Lib.ownsRow_putRow (enc := Value.int .i64) (q := q) (k := (Lib.compact L).length) (ys := Lib.compact L ++ List.replicate (L.length - (Lib.compact L).length) 0) h.2 (by simp; omega) hle
  rw [List.take_left] at hc
  exact hc
end Go.Proofs.YtmgeecdgebemdaaGreatDoor.expr

/- Chapter 3's ReadsOf of the program: the same numbers as the model's, in new memory; nothing that was there is written. -/
namespace Go.Proofs.YtmgeecdgebemdaaGreatDoor.expr
open Go.ChangeShapes Go.WideShapes Go.ChangeAt Go.RowKit Go.Proofs.YtmgeecdgebemdaaGreatDoor.row Go.Proofs.YtmgeecdgebemdaaGreatDoor.val
/-- What has been collected after 'k' operands. -/
def got (a b : Int) (k : Nat) : List Int := if k = 0 then [] else if k = 1 then vk a else vk a ++ vk b
theorem got_yes {a b : Int} {k : Nat} (hk : k < 2) {x : Int} (hx : x = if k = 0 then a else b) (h : x < 0) : got a b (k + 1) = got a b k ++ [-1 - x] := by
  rcases (show k = 0 ∨ k = 1 by omega) with rfl | rfl
  · simp at hx; subst hx; simp [got, vk_neg h]
  · simp at hx; subst hx; simp [got, vk_neg h]
theorem got_no {a b : Int} {k : Nat} (hk : k < 2) {x : Int} (hx : x = if k = 0 then a else b) (h : ¬ x < 0) : got a b (k + 1) = got a b k := by
  rcases (show k = 0 ∨ k = 1 by omega) with rfl | rfl
  · simp at hx; subst hx; simp [got, vk_pos h]
  · simp at hx; subst hx; simp [got, vk_pos h]

set_option maxHeartbeats 1000000 in
set_option maxRecDepth 100000 in
theorem impl_reads_no (w : World) (o a b : Int) (he : exprOk o a b = false) :
    Calls Tryz.prog 220 #[ev o a b] w (NewInts w []) := by
  have hn := below_new w (.cells #[.int .i64 o, .int .i64 a, .int .i64 b] 94)
  go_enter Tryz.func220, Tryz.ntmps220
  go_wp2_with (go_at_call 180; refine (impl_exprok _ _ _ _ he _).mono ?_; rintro e w2 ⟨rfl, hb2⟩)
  go_ret
  exact ⟨_, _, _, rfl, World.ownsRow_nil _ _ _ _, below_then hn hb2⟩

set_option maxHeartbeats 2000000 in
set_option maxRecDepth 100000 in
theorem impl_reads_ok (w : World) (o a b : Int) (he : exprOk o a b = true) :
    Calls Tryz.prog 220 #[ev o a b] w (NewInts w (rd a b 8)) := by
  obtain ⟨i0, hi, hz0, hz1, hz2⟩ := info_parts infoInt
  have hb := (exprOk_iff o a b).1 he
  have hba := (opndOk_iff a).1 hb.2.1
  have hbb := (opndOk_iff b).1 hb.2.2
  have HS := Lib.hid (reads_same a b hba.1 hbb.1)
  have hx := Box.new w #[.int .i64 o, .int .i64 a, .int .i64 b] 94
  have hn := below_new w (.cells #[.int .i64 o, .int .i64 a, .int .i64 b] 94)
  clear hb
  go_enter Tryz.func220, Tryz.ntmps220
  go_wp2_with (go_at_call 180; refine (impl_exprok _ _ _ _ he _).mono ?_; rintro e w2 ⟨rfl, hb2⟩; refine Hid.out ?_)
  have hx2 := hx.below hb2
  have hn2 := below_then hn hb2
  have c0 := hx2.cell 0
  have c1 := hx2.cell 1
  have c2 := hx2.cell 2
  have hlt2 := hx2.lt
  have HX := Lib.hid (And.intro hx2 hn2)
  clear hx hn hb2 hx2 hn2 he
  refine Lib.hid ?_
  go_wp2
  go_loopw [3, 5, 16] (fun v _ i wr => ∃ (k n g cap : Nat), k ≤ 2 ∧ i = .int .i64 k ∧ v = .slice (some ⟨g, 0, none⟩) n cap ∧ n ≤ k ∧ g ≠ w2.heap.size + 1 ∧ w2.heap.size + 2 ≤ wr.heap.size ∧ Own w2.heap.size g n cap (got a b k) wr ∧ Box (w2.heap.size + 1) #[.int .i64 a, .int .i64 b] 3 wr ∧ Below w2.heap.size w2 wr) (fun _ _ i _ => 2 - (intOf i).toNat)
  case atStart =>
    have h1 := World.ownsRow_made (base := w2.heap.size) (e := 3) (size := 1) w2 #[] 0 (Nat.le_refl _) (by decide) rfl
    have h2 := Box.new (w2.alloc (.cells #[] 3)) #[.int .i64 a, .int .i64 b] 3
    have hs : (w2.alloc (.cells #[] 3)).heap.size = w2.heap.size + 1 := by simp
    rw [hs] at h2
    exact ⟨0, 0, w2.heap.size, 0, Nat.zero_le _, rfl, rfl, Nat.le_refl _, by omega, by simp, ⟨Nat.le_refl _, h1.alloc _⟩, h2, below_then (below_new _ _) (below_new _ _)⟩
  case round =>
    obtain ⟨k, n, g, cap, hk, rfl, rfl, hnk, hg, hws, hown, hbox, hbel⟩ := hrel
    by_cases hlt : k < 2
    · have hI : (k : Int) < 2 := by omega
      obtain ⟨x, hx⟩ : ∃ x : Int, x = if k = 0 then a else b := ⟨_, rfl⟩
      have hc : wr.cell? ⟨w2.heap.size + 1, k, none⟩ = some (.int .i64 x) := by
        rw [hbox.cell k]
        rcases (show k = 0 ∨ k = 1 by omega) with h | h <;> subst h <;> simp at hx <;> simp [hx]
      have hxb : -8 ≤ x ∧ x ≤ 999 := by rw [hx]; split <;> omega
      by_cases hneg : x < 0
      · have HG := Lib.hid (got_yes hlt hx hneg)
        have H2 := Lib.hid (And.intro hown (And.intro hbox hbel))
        have hgl : g < wr.heap.size := (hown.2.lt g rfl).2
        clear hx hown hbox hbel
        go_wp2_with (first
          | (go_at_call 231; refine (impl_isvar _ _).mono ?_; rintro e w1 ⟨rfl, rfl⟩)
          | (go_at_call 232; refine (impl_varof _ (by omega) (by omega) _).mono ?_; rintro e w1 ⟨rfl, rfl⟩)
          | (at_builtin; refine wpList_append_own_at _ rfl _ _ 27 rfl w2.heap.size 3 i0 (.int .i64 0) 1 8 Tryz.underlying27 hi hz0 hz1 hz2 rfl (by decide) _ _ _ rfl (H2.out.1.2.alloc _) ⟨wr.heap.size, 0, none⟩ 1 1 [.int .i64 (-1 - x)] rfl rfl (World.news_of_block (cs := #[.int .i64 (-1 - x)]) (t := 3) (fr := (0, 0)) (heap_alloc_new wr _)) (by simp [Value.oneCell']) (by unfold maxLen; omega) (by omega) (by simp; omega) ?_; intro v3 w3 hown3 hgrow3 _ hat3; refine Hid.out ?_))
        rw [ivs_snoc, ← HG.out] at hown3
        have hbox3 := (H2.out.2.1.alloc (.cells #[.int .i64 (-1 - x)] 3)).grown hgrow3 (by simp only [Value.ownBlock]; intro e; exact hg (Option.some.inj e).symm)
        have hbel3 := (below_then H2.out.2.2 (below_new wr (.cells #[.int .i64 (-1 - x)] 3))).grown hgrow3 (by have := H2.out.2.2.size; simp; omega) (fun j hj => by cases hj; exact H2.out.1.1)
        obtain ⟨g3, cap3, rfl, hg3, _⟩ := hown3.form (by omega)
        have hgne : g3 ≠ w2.heap.size + 1 := by
          rcases hat3 with h | h
          · have e3 : g3 = g := Option.some.inj h
            omega
          · have e3 : g3 = (wr.alloc (.cells #[.int .i64 (-1 - x)] 3)).heap.size := Option.some.inj h
            rw [show (wr.alloc (.cells #[.int .i64 (-1 - x)] 3)).heap.size = wr.heap.size + 1 by simp] at e3
            omega
        have hws3 : w2.heap.size + 2 ≤ w3.heap.size := by have := hgrow3.size; simp at this; omega
        have HR := Lib.hid (And.intro (And.intro hg3 hown3) (And.intro hbox3 hbel3))
        clear hown3 hbox3 hbel3 hgrow3 hat3 hc
        refine Lib.hid ?_
        go_wp2
        go_roundw
        case rel => exact ⟨k + 1, n + 1, g3, cap3, by omega, by go_num, rfl, by omega, hgne, hws3, HR.out.1, HR.out.2.1, HR.out.2.2⟩
        case measure => simp [intOf]; omega
      · have HG := Lib.hid (got_no hlt hx hneg)
        rw [← HG.out] at hown
        have H2 := Lib.hid (And.intro hown (And.intro hbox hbel))
        clear hx hown hbox hbel
        go_wp2_with (go_at_call 231; refine (impl_isvar _ _).mono ?_; rintro e w1 ⟨rfl, rfl⟩)
        go_roundw
        case rel => exact ⟨k + 1, n, g, cap, by omega, by go_num, rfl, by omega, hg, hws, H2.out.1, H2.out.2.1, H2.out.2.2⟩
        case measure => simp [intOf]; omega
    · have hk2 : k = 2 := by omega
      subst hk2
      have H2 := Lib.hid (And.intro hown hbel)
      clear hown hbox hbel
      go_wp2_with (go_at_call 235; refine (sort_any _ H2.out.1 (by omega)).mono ?_; rintro e w4 ⟨rfl, ho4, hg4⟩; refine Hid.out ?_)
      have H4 := Lib.hid (And.intro ho4 (H2.out.2.grown hg4 H2.out.2.size (fun j hj => by cases hj; exact H2.out.1.1)))
      clear ho4 hg4
      refine Lib.hid ?_
      go_wp2_with (go_at_call 242; refine (comp_any _ H4.out.1 (by omega)).mono ?_; rintro e w5 ⟨rfl, ho5, hg5⟩; refine Hid.out ?_)
      have hb5 := H4.out.2.grown hg5 H4.out.2.size (fun j hj => by cases hj; exact H4.out.1.1)
      have hfin : NewInts w (rd a b 8) (.returned (.slice (some ⟨g, 0, none⟩) (Lib.compact (srt (got a b 2))).length cap)) w5 := by
        have e : Lib.compact (srt (got a b 2)) = rd a b 8 := HS.out
        rw [e] at ho5 ⊢
        exact ⟨_, _, _, rfl, ho5.2.mono HX.out.2.size, HX.out.2.trans (hb5.mono HX.out.2.size)⟩
      have HF := Lib.hid hfin
      clear ho5 hg5 hb5 hfin
      refine Lib.hid ?_
      go_wp2
      go_ret
      exact HF.out
theorem impl_reads (w : World) (o a b : Int) : Calls Tryz.prog 220 #[ev o a b] w (NewInts w (readsV o a b)) := by
  cases he : exprOk o a b
  · simpa [readsV, he] using impl_reads_no w o a b he
  · simpa [readsV, he] using impl_reads_ok w o a b he
end Go.Proofs.YtmgeecdgebemdaaGreatDoor.expr
