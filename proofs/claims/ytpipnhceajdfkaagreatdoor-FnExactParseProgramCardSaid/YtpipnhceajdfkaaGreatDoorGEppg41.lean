/- Several texts in one: PrgZ. -/
import Derived.Test.YtpipnhceajdfkaaGreatDoorGEppg39
import Derived.Test.YtpipnhceajdfkaaGreatDoorGEppg40

/- Chapter 6's program: ParseProgram; nothing that was there is written. -/
namespace Go.Proofs.YtpipnhceajdfkaaGreatDoor.prg
open Go Go.ChangeShapes Go.WideShapes Go.ChangeAt Go.RowKit Go.Proofs.YtpipnhceajdfkaaGreatDoor.row Go.Proofs.YtpipnhceajdfkaaGreatDoor.val Go.Proofs.YtpipnhceajdfkaaGreatDoor.expr Go.Proofs.YtpipnhceajdfkaaGreatDoor.stm Go.Proofs.YtpipnhceajdfkaaGreatDoor.blk Go.Proofs.YtpipnhceajdfkaaGreatDoor.tex Go.Proofs.YtpipnhceajdfkaaGreatDoor.lay Go.Proofs.YtpipnhceajdfkaaGreatDoor.spl

theorem dropE_mem {L : List (List UInt8)} {f : List UInt8} (h : f ∈ dropE L) : f ∈ L := by
  unfold dropE at h
  split at h
  · exact (List.dropLast_sublist L).subset h
  · exact h
theorem lines_small {l f : List UInt8} (h : f ∈ linesOf l) : f.length ≤ l.length := by
  rw [linesOf_drop] at h
  exact cutL_small 10 l f (dropE_mem h)
/-- The parsed program, in memory of its own, and the number of the line. -/
def PrgRd (l : List UInt8) (w : World) (e : Ending) (w' : World) : Prop :=
  ∃ (a : Option Addr) (n c : Nat) (P : List Tk) (k : Int), e = .returned (.tuple #[.agg #[.slice a n c], .int .i64 k]) ∧ Hid (ParseIs l P k) ∧ n ≤ c ∧ n ≤ 6 ∧
    Hid (∃ base xs bv, w.heap.size ≤ base ∧ Fam base w' (.slice a n c) n xs bv P 42 45) ∧ Below w.heap.size w w'
theorem not_head {w : World} {pb b k : Nat} {x : ByteArray} (h : Box pb #[.slice none 0 0] 26 w) (hc : w.cell? ⟨b, k, none⟩ = some (.string x)) : b ≠ pb := by
  rintro rfl
  rw [h.cell] at hc
  cases k with
  | zero => simp at hc
  | succ k => simp at hc
set_option maxHeartbeats 8000000 in
set_option maxRecDepth 100000 in
set_option linter.unusedSimpArgs false in
theorem impl_parseprogram (a : Addr) (s : ByteArray) (w : World) (hE : Env a w) : Calls Tryz.prog 8 #[.string s] w (PrgRd s.data.toList w) := by
  have HSL := Lib.hid (show s.data.toList.length = s.size from Array.length_toList)
  have HEV := Lib.hid hE
  have HX1 := Lib.hid (Box.new w #[.slice none 0 0] 26)
  have HB1 := Lib.hid (below_new w (.cells #[.slice none 0 0] 26))
  clear hE
  by_cases hlen : (20000 : Int) < s.size
  · have HP := Lib.hid (show ParseIs s.data.toList [] (-1) from .inl ⟨by rw [HSL.out]; omega, rfl, rfl⟩)
    go_enter Tryz.func8, Tryz.ntmps8
    go_wp2_with ((refine wpList_store_box rfl 26 _ _ rfl w.heap.size _ _ HX1.out #[.slice none 0 0] rfl rfl rfl (by kernel_rfl) (by simp [Value.oneCell']) ?_); intro wz hxz hgz; refine Hid.out ?_)
    have HZ := Lib.hid (And.intro hxz (HB1.out.grown hgz HB1.out.size (fun q hq => by cases hq; exact Nat.le_refl _)))
    clear hxz hgz
    refine Lib.hid ?_
    go_wp2
    exact bodyPost_ret (v := .tuple #[.agg #[.slice none 0 0], .int .i64 (-1)]) (results_box2 rfl _ _ w.heap.size _ _ _ _ rfl rfl HZ.out.1 Tryz.underlying26 rfl (by kernel_rfl)) rfl ⟨none, 0, 0, [], _, rfl, HP, Nat.le_refl _, Nat.zero_le _, ⟨w.heap.size, [], fun _ => undef, Nat.le_refl _, Fam.nil _ _ _ _ _⟩, HZ.out.2⟩
  · have hs20 : s.size ≤ 20000 := by omega
    have hl20 : s.data.toList.length ≤ 20000 := by rw [HSL.out]; exact hs20
    have HL20 := Lib.hid hl20
    clear hl20
    obtain ⟨W, hW⟩ : ∃ W, (w.alloc (.cells #[.slice none 0 0] 26)).alloc (.cells #[.slice none 0 0] 26) = W := ⟨_, rfl⟩
    have hbW : Below w.heap.size w W := by rw [← hW]; exact ((Below.refl _ w).alloc (Nat.le_refl _) _).alloc (by simp) _
    have hxr : Box w.heap.size #[.slice none 0 0] 26 W := by rw [← hW]; exact (Box.new w _ _).alloc _
    have hxp : Box (w.heap.size + 1) #[.slice none 0 0] 26 W := by
      rw [← hW]
      have h9 := Box.new (w.alloc (.cells #[.slice none 0 0] 26)) #[.slice none 0 0] 26
      rw [World.size_alloc] at h9; exact h9
    have HW := Lib.hid hW
    have HXW := Lib.hid (And.intro hxr hxp)
    have HBW := Lib.hid hbW
    have HM := Lib.hid (HEV.out.on hbW).2.2.1
    clear hW hbW hxr hxp HX1 HB1
    go_enter Tryz.func8, Tryz.ntmps8
    go_wp2_with (go_at_call 18; rw [HW.out]; (with_reducible refine (impl_linesof s hs20 _ HM.out).mono ?_); rintro e w1 ⟨al, nl, cl, L, rfl, hnl, hSR, HLL, hb1⟩; refine Hid.out ?_)
    have HX1 := Lib.hid (And.intro (HXW.out.1.below hb1) (HXW.out.2.below hb1))
    have hbw1 : Below w.heap.size w w1 := below_then HBW.out hb1
    have HB1 := Lib.hid hbw1
    have HSR := Lib.hid hSR
    have hpl : w.heap.size + 1 < w1.heap.size := HX1.out.2.lt
    have HBG0 := Lib.hid (show Bag (w.heap.size + 1) w1.heap.size w1 (.slice none 0 0) 0 [] (fun _ => undef) [] from ⟨hpl, HX1.out.2, Fam.nil _ _ _ _ _⟩)
    clear hb1 hSR hbw1
    refine Lib.hid ?_
    go_wp2
    go_loopw [15] (fun i wr => ∃ (k n : Nat) (v : Value) (xs : List Value) (bv : Nat → Value) (P : List Tk), k ≤ nl ∧ i = .int .i64 k ∧ Hid (Built ((linesOf s.data.toList).take k) P) ∧ Hid (Bag (w.heap.size + 1) w1.heap.size wr v n xs bv P) ∧ Hid (Keep (w.heap.size + 1) w1.heap.size w1 wr) ∧ Hid (Below (w.heap.size + 1) w1 wr)) (fun i _ => nl - (intOf i).toNat)
    case atStart => exact ⟨0, 0, _, [], _, [], Nat.zero_le _, rfl, .nil, HBG0, Keep.refl _ _ _, Below.refl _ _⟩
    case round =>
      obtain ⟨k, n, v, xs, bv, P, hk, rfl, HBU, HBG, HKP, HBR⟩ := hrel
      have hlenB := HBU.out.len
      have hn : n ≤ 20001 := by
        have h1 := hlenB.1
        have h2 := HBG.out.2.2.1
        simp only [List.length_take] at h1
        omega
      have hbn : ∀ t ∈ P, t.b.length ≤ 20001 := fun t ht => by
        have h1 := hlenB.2 t ht
        simp only [List.length_take] at h1
        omega
      have HBN := Lib.hid hbn
      have HBWR := Lib.hid (show Below w.heap.size w wr from HB1.out.trans (HBR.out.mono (Nat.le_succ _)))
      have HXR := Lib.hid (show Box w.heap.size #[.slice none 0 0] 26 wr from (HBR.out.block w.heap.size (Nat.lt_succ_self _)).trans HX1.out.1)
      clear hlenB hbn
      by_cases hlt : k < nl
      · obtain ⟨b, off, x, rfl, hlb, hx, hc⟩ := HSR.out.2 k hlt
        have hI : (k : Int) < nl := by omega
        have hnlI : (nl : Int) ≤ 20001 := by omega
        have c1 : wr.cell? ⟨b, off + k, none⟩ = some (.string x) := (World.cell?_of_block (HKP.out b hlb (not_head HX1.out.2 hc))).trans hc
        have hln : (linesOf s.data.toList)[k]? = some x.data.toList := by rw [← HLL.out, List.getElem?_map, hx]; rfl
        have hxs : x.size ≤ 20000 := by
          have h1 := lines_small (List.mem_of_getElem? hln)
          have h2 : x.data.toList.length = x.size := Array.length_toList
          have := HL20.out
          omega
        have HLN := Lib.hid hln
        clear hx hc hln
        have gE : wr.drew.cell? ⟨0, 0, none⟩ = some (errV a) := cell_below (show Below w.heap.size w wr.drew from Below.drew HBWR.out) HEV.out.2.2.2
        have HED := Lib.hid (HEV.out.on (Below.drew HBWR.out))
        have HBGD := Lib.hid (show Bag (w.heap.size + 1) w1.heap.size wr.drew v n xs bv P from HBG.out.below (Below.drew (Below.refl _ wr)))
        have HSZ := Lib.hid (show w1.heap.size ≤ wr.drew.heap.size from HBR.out.size)
        go_wp2
        refine wp_region_held_drew (S := fun w' => w'.cell? ⟨0, 0, none⟩ = some (errV a)) (by kernel_rfl) gE (fun _ => ?_)
        refine wpAnyH_take (i := 0) (v := .string x) rfl (by kernel_rfl) (by kernel_rfl) (by kernel_rfl) (fun _ _ _ h => h) (Or.inl ⟨by rfl, (by intro w' hSw; (try dsimp only at hSw); go_simp)⟩) (by assumption) ?_
        try simp only [Act.put, List.getElem_toArray, List.getElem_cons_zero, List.getElem_cons_succ, List.setIfInBounds_toArray, List.set_cons_zero, List.set_cons_succ]
        refine wpAnyH_take (i := 2) (v := errV a) rfl (by kernel_rfl) (by kernel_rfl) (by kernel_rfl) (fun _ _ _ h => h) (Or.inl ⟨by rfl, (by intro w' hSw; (try dsimp only at hSw); go_simp)⟩) (by assumption) ?_
        try simp only [Act.put, List.getElem_toArray, List.getElem_cons_zero, List.getElem_cons_succ, List.setIfInBounds_toArray, List.set_cons_zero, List.set_cons_succ]
        refine wpAnyH_ready (rs := [1]) (by kernel_rfl) (by simp) ?_
        refine AllReadyH.cons rfl (fun K hK => ?_) AllReadyH.nil
        rw [if_pos (by kernel_rfl)]
        go_simp
        go_at_call 20
        refine (impl_addline a x hxs (w.heap.size + 1) w1.heap.size n _ v xs bv P HSZ.out HBGD.out HED.out hn HBN.out).mono ?_
        rintro e w3 (⟨v', n', xs', bv', Q, rfl, HBQ, HAI, HKQ, hb3⟩ | ⟨rfl, HBAD, hb3⟩)
        · have hbw3 : Below w.heap.size w w3 := (show Below w.heap.size w wr.drew from Below.drew HBWR.out).trans (hb3.mono (Nat.le_succ _))
          have HB3 := Lib.hid (HEV.out.on hbw3)
          have HBR3 := Lib.hid (show Below (w.heap.size + 1) w1 w3 from (show Below (w.heap.size + 1) w1 wr.drew from Below.drew HBR.out).trans hb3)
          have HKP3 := Lib.hid (show Keep (w.heap.size + 1) w1.heap.size w1 w3 from (show Keep (w.heap.size + 1) w1.heap.size w1 wr.drew from HKP.out).trans HKQ.out)
          have HBU3 := Lib.hid (show Built ((linesOf s.data.toList).take (k + 1)) Q by
            have h9 := HAI.out.built HBU.out
            rw [List.take_add_one, HLN.out]
            exact h9)
          clear hb3 hbw3 c1
          have gE3 : w3.cell? ⟨0, 0, none⟩ = some (errV a) := HB3.out.2.2.2
          refine hK.out _ _ gE3 (fun _ => ?_)
          clear hK K
          try simp only [Act.put, List.getElem_toArray, List.getElem_cons_zero, List.getElem_cons_succ, List.setIfInBounds_toArray, List.set_cons_zero, List.set_cons_succ]
          refine wpAnyH_ready (rs := [3]) (by kernel_rfl) (by simp) ?_
          refine AllReadyH.cons rfl (fun K hK => ?_) AllReadyH.nil
          rw [if_pos (by kernel_rfl)]
          go_simp
          go_at_call 19
          refine (eis.is_nil a _).mono ?_
          rintro e w4 ⟨rfl, rfl⟩
          refine hK.out _ _ gE3 (fun _ => ?_)
          clear hK K
          try simp only [Act.put, List.getElem_toArray, List.getElem_cons_zero, List.getElem_cons_succ, List.setIfInBounds_toArray, List.set_cons_zero, List.set_cons_succ]
          refine wpAnyH_done (by kernel_rfl) ?_ _
          clear gE3
          refine Lib.hid ?_
          go_wp2
          go_roundw
          case rel => exact ⟨k + 1, n', v', xs', bv', Q, by omega, by go_num, HBU3, HBQ, HKP3, HBR3⟩
          case measure => simp [intOf]; omega
        · have hbw3 : Below w.heap.size w w3 := (show Below w.heap.size w wr.drew from Below.drew HBWR.out).trans (hb3.mono (Nat.le_succ _))
          have HB3 := Lib.hid (HEV.out.on hbw3)
          have HX3 := Lib.hid (show Box w.heap.size #[.slice none 0 0] 26 w3 from (hb3.block w.heap.size (Nat.lt_succ_self _)).trans HXR.out)
          have HBZ := Lib.hid hbw3
          have HPI := Lib.hid (show ParseIs s.data.toList [] (k + 1) from by
            have hlk : k < (linesOf s.data.toList).length := (List.getElem?_eq_some_iff.1 HLN.out).1
            have he : (linesOf s.data.toList)[k] = x.data.toList := (List.getElem?_eq_some_iff.1 HLN.out).2
            refine .inr (.inl ⟨HL20.out, (linesOf s.data.toList).take k, x.data.toList, (linesOf s.data.toList).drop (k + 1), P, ?_, HBU.out, HBAD.out, rfl, ?_⟩)
            · rw [← he, ← List.drop_eq_getElem_cons hlk, List.take_append_drop]
            · rw [List.length_take, Nat.min_eq_left (Nat.le_of_lt hlk)])
          clear hb3 hbw3 c1
          have gE3 : w3.cell? ⟨0, 0, none⟩ = some (errV a) := HB3.out.2.2.2
          refine hK.out _ _ gE3 (fun _ => ?_)
          clear hK K
          try simp only [Act.put, List.getElem_toArray, List.getElem_cons_zero, List.getElem_cons_succ, List.setIfInBounds_toArray, List.set_cons_zero, List.set_cons_succ]
          refine wpAnyH_ready (rs := [3]) (by kernel_rfl) (by simp) ?_
          refine AllReadyH.cons rfl (fun K hK => ?_) AllReadyH.nil
          rw [if_pos (by kernel_rfl)]
          go_simp
          go_at_call 19
          refine (eis.is_same a _).mono ?_
          rintro e w4 ⟨rfl, rfl⟩
          refine hK.out _ _ gE3 (fun _ => ?_)
          clear hK K
          try simp only [Act.put, List.getElem_toArray, List.getElem_cons_zero, List.getElem_cons_succ, List.setIfInBounds_toArray, List.set_cons_zero, List.set_cons_succ]
          refine wpAnyH_done (by kernel_rfl) ?_ _
          clear gE3
          refine Lib.hid ?_
          go_wp2_with ((refine wpList_store_box rfl 26 _ _ rfl w.heap.size _ _ HX3.out #[.slice none 0 0] rfl rfl rfl (by kernel_rfl) (by simp [Value.oneCell']) ?_); intro wz hxz hgz; refine Hid.out ?_)
          have HZ := Lib.hid (And.intro hxz (HBZ.out.grown hgz HBZ.out.size (fun q hq => by cases hq; exact Nat.le_refl _)))
          clear hxz hgz
          refine Lib.hid ?_
          go_wp2
          exact bodyPost_ret (v := .tuple #[.agg #[.slice none 0 0], .int .i64 (k + 1)]) (results_box2 rfl _ _ w.heap.size _ _ _ _ rfl rfl HZ.out.1 Tryz.underlying26 rfl (by kernel_rfl)) rfl ⟨none, 0, 0, [], _, rfl, HPI, Nat.le_refl _, Nat.zero_le _, ⟨w.heap.size, [], fun _ => undef, Nat.le_refl _, Fam.nil _ _ _ _ _⟩, HZ.out.2⟩
      · obtain rfl : k = nl := by omega
        have hI : ¬ (k : Int) < k := by omega
        have HBL := Lib.hid (show Built (linesOf s.data.toList) P by
          have h9 := HBU.out
          rw [List.take_of_length_le (by rw [← HLL.out, List.length_map, HSR.out.1]; exact Nat.le_refl _)] at h9
          exact h9)
        obtain ⟨va, vc, rfl, hvc⟩ := HBG.out.slice
        have c2 : wr.cell? ⟨w.heap.size + 1, 0, none⟩ = some (.slice va n vc) := HBG.out.cell
        have HSZ := Lib.hid (show Sizes P from ⟨by rw [HBG.out.2.2.1]; omega, fun t ht => by have := HBN.out t ht; omega⟩)
        have HROW := Lib.hid HBG.out.2.2.row
        obtain ⟨rp, hrp⟩ := prg_dec P
        have HRP := Lib.hid hrp
        have HPBL := Lib.hid (show w.heap.size + 1 < wr.heap.size from HBG.out.2.1.lt)
        cases rp
        · have HPI := Lib.hid (show ParseIs s.data.toList [] (-2) from .inr (.inr (.inr ⟨HL20.out, P, HBL.out, fun hh => (by have := hrp.2 hh.1; cases this), rfl, rfl⟩)))
          clear hrp
          go_wp2_with (go_at_call 9; (with_reducible refine (impl_programok va n vc P HSZ.out hvc _ HROW.out false HRP.out).mono ?_); rintro e w3 ⟨rfl, hb3⟩; refine Hid.out ?_)
          have HX3 := Lib.hid (HXR.out.below hb3)
          have HBZ := Lib.hid (below_then HBWR.out hb3)
          clear hb3 c2
          refine Lib.hid ?_
          go_wp2_with ((refine wpList_store_box rfl 26 _ _ rfl w.heap.size _ _ HX3.out #[.slice none 0 0] rfl rfl rfl (by kernel_rfl) (by simp [Value.oneCell']) ?_); intro wz hxz hgz; refine Hid.out ?_)
          have HZ := Lib.hid (And.intro hxz (HBZ.out.grown hgz HBZ.out.size (fun q hq => by cases hq; exact Nat.le_refl _)))
          clear hxz hgz
          refine Lib.hid ?_
          go_wp2
          exact bodyPost_ret (v := .tuple #[.agg #[.slice none 0 0], .int .i64 (-2)]) (results_box2 rfl _ _ w.heap.size _ _ _ _ rfl rfl HZ.out.1 Tryz.underlying26 rfl (by kernel_rfl)) rfl ⟨none, 0, 0, [], _, rfl, HPI, Nat.le_refl _, Nat.zero_le _, ⟨w.heap.size, [], fun _ => undef, Nat.le_refl _, Fam.nil _ _ _ _ _⟩, HZ.out.2⟩
        · have HIP := Lib.hid (hrp.1 rfl)
          obtain ⟨X0, hX0⟩ : ∃ X0 : List UInt8, X0 = progT P := ⟨_, rfl⟩
          have HX0 := Lib.hid hX0
          have HTX := Lib.hid (show ProgIs P X0 from .inl ⟨hrp.1 rfl, hX0⟩)
          have hn6 : n ≤ 6 := by have h1 := HIP.out.2.1; have h2 := HBG.out.2.2.1; omega
          clear hrp hX0
          go_wp2_with (go_at_call 9; (with_reducible refine (impl_programok va n vc P HSZ.out hvc _ HROW.out true HRP.out).mono ?_); rintro e w3 ⟨rfl, hb3⟩; refine Hid.out ?_)
          have H3 := Lib.hid (And.intro (HXR.out.below hb3) (And.intro (below_then HBWR.out hb3) (HBG.out.below hb3)))
          have HROW3 := Lib.hid H3.out.2.2.2.2.row
          have HT3 := Lib.hid (show TabB w3 from HEV.out.1.on H3.out.2.1)
          have c3 : w3.cell? ⟨w.heap.size + 1, 0, none⟩ = some (.slice va n vc) := H3.out.2.2.cell
          clear hb3 c2
          refine Lib.hid ?_
          go_wp2_with (go_at_call 7; (with_reducible refine (impl_programtext va n vc P HSZ.out hvc _ HROW3.out X0 HTX.out HT3.out).mono ?_); rintro e w5 ⟨rfl, hb5⟩; refine Hid.out ?_)
          have H5 := Lib.hid (And.intro (H3.out.1.below hb5) (And.intro (below_then H3.out.2.1 hb5) (H3.out.2.2.below hb5)))
          have c5 : w5.cell? ⟨w.heap.size + 1, 0, none⟩ = some (.slice va n vc) := H5.out.2.2.cell
          clear hb5 c3
          cases hq : (X0 == s.toList)
          · have HPI := Lib.hid (show ParseIs s.data.toList [] (-2) from .inr (.inr (.inr ⟨HL20.out, P, HBL.out, fun hh => (by rw [(test_bytes s X0).2 (HX0.out.trans hh.2)] at hq; cases hq), rfl, rfl⟩)))
            have hq2 : (X0 != s.toList) = true := by rw [bne, hq]; rfl
            have HX5 := Lib.hid H5.out.1
            have HB5 := Lib.hid H5.out.2.1
            clear c5
            refine Lib.hid ?_
            go_wp2_with ((refine wpList_store_box rfl 26 _ _ rfl w.heap.size _ _ HX5.out #[.slice none 0 0] rfl rfl rfl (by kernel_rfl) (by simp [Value.oneCell']) ?_); intro wz hxz hgz; refine Hid.out ?_)
            have HZ := Lib.hid (And.intro hxz (HB5.out.grown hgz HB5.out.size (fun q hq => by cases hq; exact Nat.le_refl _)))
            clear hxz hgz
            refine Lib.hid ?_
            go_wp2
            exact bodyPost_ret (v := .tuple #[.agg #[.slice none 0 0], .int .i64 (-2)]) (results_box2 rfl _ _ w.heap.size _ _ _ _ rfl rfl HZ.out.1 Tryz.underlying26 rfl (by kernel_rfl)) rfl ⟨none, 0, 0, [], _, rfl, HPI, Nat.le_refl _, Nat.zero_le _, ⟨w.heap.size, [], fun _ => undef, Nat.le_refl _, Fam.nil _ _ _ _ _⟩, HZ.out.2⟩
          · have HPI := Lib.hid (show ParseIs s.data.toList P 0 from .inr (.inr (.inl ⟨HL20.out, HBL.out, HIP.out, HX0.out.symm.trans ((test_bytes s X0).1 hq), rfl⟩)))
            have hq2 : (X0 != s.toList) = false := by rw [bne, hq]; rfl
            refine Lib.hid ?_
            go_wp2_with (first
              | (refine wpList_load_row rfl 26 _ rfl (w.heap.size + 1) rfl _ _ _ _ H5.out.2.2.2.1 Tryz.underlying26 rfl (by kernel_rfl) ?_)
              | ((refine wpList_store_box rfl 26 _ _ rfl w.heap.size _ _ H5.out.1 #[.slice va n vc] rfl rfl rfl (by kernel_rfl) (by simp [Value.oneCell']) ?_); intro w6 hx6 hg6; refine Hid.out ?_))
            have HF6 := Lib.hid (H5.out.2.2.2.2.kept hg6 (fun g e => by have := Option.some.inj e; omega))
            have HZ := Lib.hid (And.intro hx6 (H5.out.2.1.grown hg6 H5.out.2.1.size (fun q hq => by cases hq; exact Nat.le_refl _)))
            clear hx6 hg6
            refine Lib.hid ?_
            go_wp2
            exact bodyPost_ret (v := .tuple #[.agg #[.slice va n vc], .int .i64 0]) (results_box2 rfl _ _ w.heap.size _ _ _ _ rfl rfl HZ.out.1 Tryz.underlying26 rfl (by kernel_rfl)) rfl ⟨va, n, vc, P, 0, rfl, HPI, hvc, hn6, ⟨w1.heap.size, xs, bv, HB1.out.size, HF6.out⟩, HZ.out.2⟩
end Go.Proofs.YtpipnhceajdfkaaGreatDoor.prg
