/- Several texts in one: PrgY. -/
import Derived.Test.YtpipnhceajdfkaaGreatDoorGEppg37
import Derived.Test.YtpipnhceajdfkaaGreatDoorGEppg38

/- Chapter 6's program: a line is added to the program; only the pointer's block and what lies behind it is written. -/
namespace Go.Proofs.YtpipnhceajdfkaaGreatDoor.prg
open Go Go.ChangeShapes Go.WideShapes Go.ChangeAt Go.RowKit Go.Proofs.YtpipnhceajdfkaaGreatDoor.row Go.Proofs.YtpipnhceajdfkaaGreatDoor.val Go.Proofs.YtpipnhceajdfkaaGreatDoor.expr Go.Proofs.YtpipnhceajdfkaaGreatDoor.stm Go.Proofs.YtpipnhceajdfkaaGreatDoor.blk Go.Proofs.YtpipnhceajdfkaaGreatDoor.tex Go.Proofs.YtpipnhceajdfkaaGreatDoor.lay Go.Proofs.YtpipnhceajdfkaaGreatDoor.spl

theorem infoStmtP : (Tryz.prog.info? 45).map (fun i => (i.zero, i.size, i.bytes)) = some (some (.agg #[.int .i64 0, .int .i64 0, .int .i64 0, .int .i64 0, .int .i64 0, .int .i64 0]), 6, 48) := by kernel_rfl
theorem cells3p {w : World} {g : Nat} {t : TypeId} {x0 x1 x2 : Value} (h : Box g #[x0, x1, x2] t w) : w.cell? ⟨g, 0, none⟩ = some x0 ∧ w.cell? ⟨g, 1, none⟩ = some x1 ∧ w.cell? ⟨g, 2, none⟩ = some x2 := ⟨h.cell 0, h.cell 1, h.cell 2⟩
theorem hat_of {g H : Nat} {n c m : Nat} {o : Option Nat} (hm : m = H) (h : o = some g ∨ g = H) : (Value.slice (some ⟨g, 0, none⟩) n c).ownBlock = o ∨ ∃ q, (Value.slice (some ⟨g, 0, none⟩) n c).ownBlock = some q ∧ m ≤ q := by
  rcases h with h | h
  · exact .inl (by rw [h]; rfl)
  · exact .inr ⟨g, rfl, by omega⟩
/-- What adding a line gives. -/
def AddRd (a : Addr) (l : List UInt8) (pb base : Nat) (P : List Tk) (w : World) (e : Ending) (w' : World) : Prop :=
  (∃ (v : Value) (n : Nat) (xs : List Value) (bv : Nat → Value) (Q : List Tk), e = .returned .nilIface ∧ Hid (Bag pb base w' v n xs bv Q) ∧ Hid (AddIs l P Q) ∧ Hid (Keep pb base w w') ∧ Below pb w w') ∨
  (e = .returned (errV a) ∧ Hid (Bad l) ∧ Below pb w w')
set_option maxHeartbeats 8000000 in
set_option maxRecDepth 100000 in
set_option linter.unusedSimpArgs false in
theorem impl_addline (a : Addr) (s : ByteArray) (hs : s.size ≤ 20000) (pb base n : Nat) (w : World) (v : Value) (xs : List Value) (bv : Nat → Value) (P : List Tk) (hbase : base ≤ w.heap.size) (hB : Bag pb base w v n xs bv P) (hE : Env a w) (hn : n ≤ 20001) (hbn : ∀ t ∈ P, t.b.length ≤ 20001) :
    Calls Tryz.prog 20 #[.pointer (some ⟨pb, 0, none⟩), .string s] w (AddRd a s.data.toList pb base P w) := by
  obtain ⟨i0, hi, hz0, hz1, hz2⟩ := info_parts infoTaskP
  obtain ⟨j0, hj, jz0, jz1, jz2⟩ := info_parts infoStmtP
  have HB := Lib.hid hB
  have HEV := Lib.hid hE
  have HBN := Lib.hid hbn
  have hpl : pb < w.heap.size := hB.2.1.lt
  clear hB hE hbn
  go_enter Tryz.func20, Tryz.ntmps20
  go_wp2_with (go_at_call 39; (with_reducible refine (impl_readtask a s hs _ HEV.out).mono ?_); rintro e w1 (⟨o, x, y, rfl, HH, hb1⟩ | ⟨rfl, HN, hb1⟩) <;> refine Hid.out ?_)
  · obtain ⟨w2, hw2⟩ : ∃ w2, w1.alloc (.cells #[.int .i64 o, .int .i64 x, .int .i64 y] 40) = w2 := ⟨_, rfl⟩
    have hb2 : Below w.heap.size w w2 := by rw [← hw2]; exact below_then hb1 (below_new w1 _)
    have hx2 : Box w1.heap.size #[.int .i64 o, .int .i64 x, .int .i64 y] 40 w2 := by rw [← hw2]; exact Box.new _ _ _
    have hb2a : Below w2.heap.size w2 (w2.alloc (.cells #[.slice none 0 0, .int .i64 o, .int .i64 x, .int .i64 y] 42)).drew := Below.drew (below_new w2 _)
    have HW2 := Lib.hid hw2
    have HBX := Lib.hid (show Box w1.heap.size #[.int .i64 o, .int .i64 x, .int .i64 y] 40 w2.drew from hx2)
    have HBXa := Lib.hid (show Box w1.heap.size #[.int .i64 o, .int .i64 x, .int .i64 y] 40 (w2.alloc (.cells #[.slice none 0 0, .int .i64 o, .int .i64 x, .int .i64 y] 42)).drew from hx2.below hb2a)
    have HBG := Lib.hid (show Bag pb base w2.drew v n xs bv P from (HB.out.below hb2).below (Below.drew (Below.refl _ w2)))
    have HBGa := Lib.hid (show Bag pb base (w2.alloc (.cells #[.slice none 0 0, .int .i64 o, .int .i64 x, .int .i64 y] 42)).drew v n xs bv P from (HB.out.below hb2).below hb2a)
    have HOWN := Lib.hid HBGa.out.2.2.2.1
    have HNEW := Lib.hid (World.news_of_block (w := (w2.alloc (.cells #[.slice none 0 0, .int .i64 o, .int .i64 x, .int .i64 y] 42)).drew) (cs := #[.slice none 0 0, .int .i64 o, .int .i64 x, .int .i64 y]) (t := 42) (fr := (0, 0)) (heap_alloc_new w2 (.cells #[.slice none 0 0, .int .i64 o, .int .i64 x, .int .i64 y] 42)))
    have HSA := Lib.hid (show (w2.alloc (.cells #[.slice none 0 0, .int .i64 o, .int .i64 x, .int .i64 y] 42)).drew.heap.size = w2.heap.size + 1 by simp)
    have HBA := Lib.hid (show base ≤ (w2.alloc (.cells #[.slice none 0 0, .int .i64 o, .int .i64 x, .int .i64 y] 42)).drew.heap.size by have := HSA.out; have := hb2.size; omega)
    have HPLA := Lib.hid (show pb ≤ (w2.alloc (.cells #[.slice none 0 0, .int .i64 o, .int .i64 x, .int .i64 y] 42)).drew.heap.size by have := HSA.out; have := hb2.size; omega)
    have HBEL := Lib.hid (show Below pb w (w2.alloc (.cells #[.slice none 0 0, .int .i64 o, .int .i64 x, .int .i64 y] 42)).drew from (below_then hb2 hb2a).mono (Nat.le_of_lt hpl))
    have HKP := Lib.hid (show Keep pb base w (w2.alloc (.cells #[.slice none 0 0, .int .i64 o, .int .i64 x, .int .i64 y] 42)).drew from Keep.of_below (below_then hb2 hb2a) hbase)
    have HLB := Lib.hid (show pb < w1.heap.size ∧ ∀ q, v.ownBlock = some q → q < w1.heap.size from ⟨Nat.lt_of_lt_of_le hpl hb1.size, fun q hq => Nat.lt_of_lt_of_le (HB.out.2.2.2.1.lt q hq).2 hb1.size⟩)
    clear hb1 hb2 hx2 hb2a hw2
    have c4 : w2.drew.cell? ⟨pb, 0, none⟩ = some v := HBG.out.cell
    have c4a : (w2.alloc (.cells #[.slice none 0 0, .int .i64 o, .int .i64 x, .int .i64 y] 42)).drew.cell? ⟨pb, 0, none⟩ = some v := HBGa.out.cell
    refine Lib.hid ?_
    go_wp2
    rw [HW2.out]
    refine wp_region_held_drew (S := fun w' => w'.cell? ⟨w1.heap.size, 0, none⟩ = some (.int .i64 o) ∧ w'.cell? ⟨w1.heap.size, 1, none⟩ = some (.int .i64 x) ∧ w'.cell? ⟨w1.heap.size, 2, none⟩ = some (.int .i64 y)) (by kernel_rfl) (cells3p HBX.out) (fun _ => ?_)
    refine wpAnyH_take (i := 0) (v := .pointer (some ⟨pb, 0, none⟩)) rfl (by kernel_rfl) (by kernel_rfl) (by kernel_rfl) (fun _ _ _ h => h) (Or.inl ⟨by rfl, (by intro w' hSw; (try dsimp only at hSw); go_simp)⟩) (by assumption) ?_
    try simp only [Act.put, List.getElem_toArray, List.getElem_cons_zero, List.getElem_cons_succ, List.setIfInBounds_toArray, List.set_cons_zero, List.set_cons_succ]
    refine wpAnyH_take (i := 1) (v := .pointer (some ⟨pb, 0, none⟩)) rfl (by kernel_rfl) (by kernel_rfl) (by kernel_rfl) (fun _ _ _ h => h) (Or.inl ⟨by rfl, (by intro w' hSw; (try dsimp only at hSw); go_simp)⟩) (by assumption) ?_
    try simp only [Act.put, List.getElem_toArray, List.getElem_cons_zero, List.getElem_cons_succ, List.setIfInBounds_toArray, List.set_cons_zero, List.set_cons_succ]
    refine wpAnyH_take (i := 2) (v := .pointer (some ⟨pb, 0, none⟩)) rfl (by kernel_rfl) (by kernel_rfl) (by kernel_rfl) (fun _ _ _ h => h) (Or.inl ⟨by rfl, (by intro w' hSw; (try dsimp only at hSw); go_simp)⟩) (by assumption) ?_
    try simp only [Act.put, List.getElem_toArray, List.getElem_cons_zero, List.getElem_cons_succ, List.setIfInBounds_toArray, List.set_cons_zero, List.set_cons_succ]
    refine wpAnyH_take (i := 3) (v := .pointer (some ⟨pb, 0, none⟩)) rfl (by kernel_rfl) (by kernel_rfl) (by kernel_rfl) (fun _ _ _ h => h) (Or.inl ⟨by rfl, (by intro w' hSw; (try dsimp only at hSw); go_simp)⟩) (by assumption) ?_
    try simp only [Act.put, List.getElem_toArray, List.getElem_cons_zero, List.getElem_cons_succ, List.setIfInBounds_toArray, List.set_cons_zero, List.set_cons_succ]
    refine wpAnyH_take (i := 5) (v := ev o x y) rfl (by kernel_rfl) (by kernel_rfl) (by kernel_rfl) (fun _ _ _ h => h) (Or.inl ⟨by rfl, (by intro w' hSw; (try dsimp only at hSw); go_simp)⟩) (by assumption) ?_
    try simp only [Act.put, List.getElem_toArray, List.getElem_cons_zero, List.getElem_cons_succ, List.setIfInBounds_toArray, List.set_cons_zero, List.set_cons_succ]
    refine wpAnyH_take (i := 6) (v := tkV none 0 0 ⟨[], o, x, y⟩) rfl (by kernel_rfl) (by kernel_rfl) (by kernel_rfl) (fun _ _ _ h => h) (Or.inl ⟨by rfl, (by intro w' hSw; (try dsimp only at hSw); go_simp)⟩) (by assumption) ?_
    try simp only [Act.put, List.getElem_toArray, List.getElem_cons_zero, List.getElem_cons_succ, List.setIfInBounds_toArray, List.set_cons_zero, List.set_cons_succ]
    refine wpAnyH_ready (rs := [4, 7]) (by kernel_rfl) (by simp) ?_
    refine AllReadyH.cons rfl (fun K hK => ?_) (AllReadyH.cons rfl (fun K hK => ?_) AllReadyH.nil)
    · rw [if_pos (by kernel_rfl)]
      go_simp
      refine hK.out _ _ (cells3p HBX.out) (fun _ => ?_)
      clear hK K
      try simp only [Act.put, List.getElem_toArray, List.getElem_cons_zero, List.getElem_cons_succ, List.setIfInBounds_toArray, List.set_cons_zero, List.set_cons_succ]
      refine wpAnyH_ready (rs := [7]) (by kernel_rfl) (by simp) ?_
      refine AllReadyH.cons rfl (fun K hK => ?_) AllReadyH.nil
      rw [if_pos (by kernel_rfl)]
      go_simp
      refine hK.out _ _ (cells3p HBXa.out) (fun _ => ?_)
      clear hK K
      try simp only [Act.put, List.getElem_toArray, List.getElem_cons_zero, List.getElem_cons_succ, List.setIfInBounds_toArray, List.set_cons_zero, List.set_cons_succ]
      refine wpAnyH_ready (rs := [8]) (by kernel_rfl) (by simp) ?_
      refine AllReadyH.cons rfl (fun K hK => ?_) AllReadyH.nil
      refine step_append_lies _ (by rfl) _ _ _ (by rfl) base 42 i0 _ 4 48 Tryz.underlying24 hi hz0 hz1 hz2 rfl (by omega) v n xs (by rfl) HOWN.out ⟨w2.heap.size, 0, none⟩ 1 1 [.slice none 0 0, .int .i64 o, .int .i64 x, .int .i64 y] (by rfl) (by rfl) HNEW.out (by simp [Value.oneCell']) (by omega) (by unfold maxLen; omega) (by omega) HBA.out (w2.heap.size + 1) HSA.out ?_
      intro gg cap' w5 hown5 hgrow5 hat5 hlt5
      have hmo := Bag.push (v4 := .slice (some ⟨gg, 0, none⟩) (n + 1) cap') HBGa.out HBA.out hown5 hgrow5 (hat_of HSA.out hat5)
      have c5 := hmo.1.1
      have f5 := hmo.1.2
      have hb5 : Below pb w w5 := HBEL.out.trans ((Below.refl pb (w2.alloc (.cells #[.slice none 0 0, .int .i64 o, .int .i64 x, .int .i64 y] 42)).drew).grown hgrow5 HPLA.out (fun q hq => by have := (HBGa.out.2.2.2.1.lt q hq).1; have := HBGa.out.1; omega))
      refine hK.out _ _ (cells3p (HBXa.out.grown hgrow5 (fun e => by have := HLB.out.2 _ e.symm; omega))) (fun _ => ?_)
      clear hK K
      try simp only [Act.put, List.getElem_toArray, List.getElem_cons_zero, List.getElem_cons_succ, List.setIfInBounds_toArray, List.set_cons_zero, List.set_cons_succ]
      refine wpAnyH_take (i := 9) (v := .pointer (some ⟨pb, 0, none⟩)) rfl (by kernel_rfl) (by kernel_rfl) (by kernel_rfl) (fun _ _ _ h => h) (Or.inl ⟨by rfl, (by intro w' hSw; (try dsimp only at hSw); go_simp)⟩) (by assumption) ?_
      try simp only [Act.put, List.getElem_toArray, List.getElem_cons_zero, List.getElem_cons_succ, List.setIfInBounds_toArray, List.set_cons_zero, List.set_cons_succ]
      refine wpAnyH_take (i := 10) (v := .pointer (some ⟨pb, 0, none⟩)) rfl (by kernel_rfl) (by kernel_rfl) (by kernel_rfl) (fun _ _ _ h => h) (Or.inl ⟨by rfl, (by intro w' hSw; (try dsimp only at hSw); go_simp)⟩) (by assumption) ?_
      try simp only [Act.put, List.getElem_toArray, List.getElem_cons_zero, List.getElem_cons_succ, List.setIfInBounds_toArray, List.set_cons_zero, List.set_cons_succ]
      refine wpAnyH_ready (rs := [11]) (by kernel_rfl) (by simp) ?_
      refine AllReadyH.cons rfl (fun K hK => ?_) AllReadyH.nil
      rw [if_pos (by kernel_rfl)]
      go_simp
      refine hK.out _ _ (cells3p ((HBXa.out.grown hgrow5 (fun e => by have := HLB.out.2 _ e.symm; omega)).grown (grown_setCell _ _ _ _) (fun e => by have := Option.some.inj e; have := HLB.out.1; omega))) (fun _ => ?_)
      clear hK K
      try simp only [Act.put, List.getElem_toArray, List.getElem_cons_zero, List.getElem_cons_succ, List.setIfInBounds_toArray, List.set_cons_zero, List.set_cons_succ]
      refine wpAnyH_done (by kernel_rfl) ?_ _
      have HZ := Lib.hid (And.intro hmo.2.1 (And.intro (HBEL.out.trans hmo.2.2.1) (HKP.out.trans hmo.2.2.2)))
      clear hmo c5 f5 hb5 hown5 hgrow5 hat5 hlt5
      refine Lib.hid ?_
      go_wp2
      go_ret
      exact .inl ⟨_, _, _, _, _, rfl, HZ.out.1, .inl ⟨o, x, y, HH.out, rfl⟩, HZ.out.2.2, HZ.out.2.1⟩
    · rw [if_pos (by kernel_rfl)]
      go_simp
      refine hK.out _ _ (cells3p HBXa.out) (fun _ => ?_)
      clear hK K
      try simp only [Act.put, List.getElem_toArray, List.getElem_cons_zero, List.getElem_cons_succ, List.setIfInBounds_toArray, List.set_cons_zero, List.set_cons_succ]
      refine wpAnyH_ready (rs := [4]) (by kernel_rfl) (by simp) ?_
      refine AllReadyH.cons rfl (fun K hK => ?_) AllReadyH.nil
      rw [if_pos (by kernel_rfl)]
      go_simp
      refine hK.out _ _ (cells3p HBXa.out) (fun _ => ?_)
      clear hK K
      try simp only [Act.put, List.getElem_toArray, List.getElem_cons_zero, List.getElem_cons_succ, List.setIfInBounds_toArray, List.set_cons_zero, List.set_cons_succ]
      refine wpAnyH_ready (rs := [8]) (by kernel_rfl) (by simp) ?_
      refine AllReadyH.cons rfl (fun K hK => ?_) AllReadyH.nil
      refine step_append_lies _ (by rfl) _ _ _ (by rfl) base 42 i0 _ 4 48 Tryz.underlying24 hi hz0 hz1 hz2 rfl (by omega) v n xs (by rfl) HOWN.out ⟨w2.heap.size, 0, none⟩ 1 1 [.slice none 0 0, .int .i64 o, .int .i64 x, .int .i64 y] (by rfl) (by rfl) HNEW.out (by simp [Value.oneCell']) (by omega) (by unfold maxLen; omega) (by omega) HBA.out (w2.heap.size + 1) HSA.out ?_
      intro gg cap' w5 hown5 hgrow5 hat5 hlt5
      have hmo := Bag.push (v4 := .slice (some ⟨gg, 0, none⟩) (n + 1) cap') HBGa.out HBA.out hown5 hgrow5 (hat_of HSA.out hat5)
      have c5 := hmo.1.1
      have f5 := hmo.1.2
      have hb5 : Below pb w w5 := HBEL.out.trans ((Below.refl pb (w2.alloc (.cells #[.slice none 0 0, .int .i64 o, .int .i64 x, .int .i64 y] 42)).drew).grown hgrow5 HPLA.out (fun q hq => by have := (HBGa.out.2.2.2.1.lt q hq).1; have := HBGa.out.1; omega))
      refine hK.out _ _ (cells3p (HBXa.out.grown hgrow5 (fun e => by have := HLB.out.2 _ e.symm; omega))) (fun _ => ?_)
      clear hK K
      try simp only [Act.put, List.getElem_toArray, List.getElem_cons_zero, List.getElem_cons_succ, List.setIfInBounds_toArray, List.set_cons_zero, List.set_cons_succ]
      refine wpAnyH_take (i := 9) (v := .pointer (some ⟨pb, 0, none⟩)) rfl (by kernel_rfl) (by kernel_rfl) (by kernel_rfl) (fun _ _ _ h => h) (Or.inl ⟨by rfl, (by intro w' hSw; (try dsimp only at hSw); go_simp)⟩) (by assumption) ?_
      try simp only [Act.put, List.getElem_toArray, List.getElem_cons_zero, List.getElem_cons_succ, List.setIfInBounds_toArray, List.set_cons_zero, List.set_cons_succ]
      refine wpAnyH_take (i := 10) (v := .pointer (some ⟨pb, 0, none⟩)) rfl (by kernel_rfl) (by kernel_rfl) (by kernel_rfl) (fun _ _ _ h => h) (Or.inl ⟨by rfl, (by intro w' hSw; (try dsimp only at hSw); go_simp)⟩) (by assumption) ?_
      try simp only [Act.put, List.getElem_toArray, List.getElem_cons_zero, List.getElem_cons_succ, List.setIfInBounds_toArray, List.set_cons_zero, List.set_cons_succ]
      refine wpAnyH_ready (rs := [11]) (by kernel_rfl) (by simp) ?_
      refine AllReadyH.cons rfl (fun K hK => ?_) AllReadyH.nil
      rw [if_pos (by kernel_rfl)]
      go_simp
      refine hK.out _ _ (cells3p ((HBXa.out.grown hgrow5 (fun e => by have := HLB.out.2 _ e.symm; omega)).grown (grown_setCell _ _ _ _) (fun e => by have := Option.some.inj e; have := HLB.out.1; omega))) (fun _ => ?_)
      clear hK K
      try simp only [Act.put, List.getElem_toArray, List.getElem_cons_zero, List.getElem_cons_succ, List.setIfInBounds_toArray, List.set_cons_zero, List.set_cons_succ]
      refine wpAnyH_done (by kernel_rfl) ?_ _
      have HZ := Lib.hid (And.intro hmo.2.1 (And.intro (HBEL.out.trans hmo.2.2.1) (HKP.out.trans hmo.2.2.2)))
      clear hmo c5 f5 hb5 hown5 hgrow5 hat5 hlt5
      refine Lib.hid ?_
      go_wp2
      go_ret
      exact .inl ⟨_, _, _, _, _, rfl, HZ.out.1, .inl ⟨o, x, y, HH.out, rfl⟩, HZ.out.2.2, HZ.out.2.1⟩
  · obtain ⟨w2, hw2⟩ : ∃ w2, w1.alloc (.cells #[.int .i64 0, .int .i64 0, .int .i64 0] 40) = w2 := ⟨_, rfl⟩
    have hb2 : Below w.heap.size w w2 := by rw [← hw2]; exact below_then hb1 (below_new w1 _)
    have HW2 := Lib.hid hw2
    have HE2 := Lib.hid (HEV.out.on hb2)
    have HB2 := Lib.hid (HB.out.below hb2)
    have HBE2 := Lib.hid hb2
    clear hb1 hb2 hw2
    refine Lib.hid ?_
    go_wp2_with (go_at_call 40; rw [HW2.out]; (with_reducible refine (impl_readst a s _ HE2.out).mono ?_); rintro e w3 (⟨st, rfl, HS, hb3⟩ | ⟨rfl, HN2, hb3⟩) <;> refine Hid.out ?_)
    · obtain ⟨w4, hw4⟩ : ∃ w4, w3.alloc (.cells #[.int .i64 st.k, .int .i64 st.v, .int .i64 st.n, .int .i64 st.o, .int .i64 st.a, .int .i64 st.b] 45) = w4 := ⟨_, rfl⟩
      have hb4 : Below w2.heap.size w2 w4 := by rw [← hw4]; exact below_then hb3 (below_new w3 _)
      have HX4 := Lib.hid (show Box w3.heap.size #[.int .i64 st.k, .int .i64 st.v, .int .i64 st.n, .int .i64 st.o, .int .i64 st.a, .int .i64 st.b] 45 w4 by rw [← hw4]; exact Box.new _ _ _)
      have HW4 := Lib.hid hw4
      have HB3 := Lib.hid (HB2.out.below hb3)
      have HB4 := Lib.hid (HB2.out.below hb4)
      have HBE4 := Lib.hid (below_then HBE2.out hb4)
      have HPL := Lib.hid (show pb < w3.heap.size from Nat.lt_of_lt_of_le hpl (Nat.le_trans HBE2.out.size hb3.size))
      clear hb3 hb4
      obtain ⟨va, vc, rfl, hvc⟩ := HB4.out.slice
      have c4 : (w3.alloc (.cells #[.int .i64 st.k, .int .i64 st.v, .int .i64 st.n, .int .i64 st.o, .int .i64 st.a, .int .i64 st.b] 45)).cell? ⟨pb, 0, none⟩ = some (.slice va n vc) := by rw [hw4]; exact HB4.out.cell
      clear hw4
      rcases Nat.eq_zero_or_pos n with hn0 | hnp
      · subst hn0
        have HP0 := Lib.hid (show P = [] from List.length_eq_zero_iff.1 HB4.out.2.2.1)
        refine Lib.hid ?_
        go_wp2
        rw [HW4.out]
        go_ret
        exact .inl ⟨_, 0, _, _, P, rfl, HB4, .inr ⟨st, HS.out, by rw [HP0.out]; rfl⟩, Keep.of_below HBE4.out hbase, HBE4.out.mono (Nat.le_of_lt hpl)⟩
      · obtain ⟨m, rfl⟩ : ∃ m, n = m + 1 := ⟨n - 1, by omega⟩
        rcases List.eq_nil_or_concat P with rfl | ⟨P0, t, hPc⟩
        · have := HB4.out.2.2.1; simp at this
        rw [List.concat_eq_append] at hPc
        subst hPc
        obtain ⟨g, c', hv', hlog, hltg⟩ := HB3.out.2.2.2.1.form (by omega)
        injection hv' with q1 q2 q3
        subst q1
        clear q2 q3 hlog
        obtain ⟨bm, hbm⟩ : ∃ bm, bv m = bm := ⟨_, rfl⟩
        have HBM := Lib.hid hbm
        have HLB := Lib.hid (show pb < w3.heap.size ∧ g < w3.heap.size ∧ ∀ q, bm.ownBlock = some q → q < w3.heap.size from ⟨HPL.out, hltg, fun q hq => by rw [← hbm] at hq; exact (HB3.out.last.2.1.lt q hq).2⟩)
        have hb4a : Below w4.heap.size w4 (w4.alloc (.cells #[.int .i64 st.k, .int .i64 st.v, .int .i64 st.n, .int .i64 st.o, .int .i64 st.a, .int .i64 st.b] 45)).drew := Below.drew (below_new w4 _)
        have HBX := Lib.hid (show Box w3.heap.size #[.int .i64 st.k, .int .i64 st.v, .int .i64 st.n, .int .i64 st.o, .int .i64 st.a, .int .i64 st.b] 45 w4.drew from HX4.out)
        have HBXa := Lib.hid (show Box w3.heap.size #[.int .i64 st.k, .int .i64 st.v, .int .i64 st.n, .int .i64 st.o, .int .i64 st.a, .int .i64 st.b] 45 (w4.alloc (.cells #[.int .i64 st.k, .int .i64 st.v, .int .i64 st.n, .int .i64 st.o, .int .i64 st.a, .int .i64 st.b] 45)).drew from HX4.out.below hb4a)
        have HBG := Lib.hid (show Bag pb base w4.drew _ _ xs bv _ from HB4.out.below (Below.drew (Below.refl _ w4)))
        have HBGa := Lib.hid (show Bag pb base (w4.alloc (.cells #[.int .i64 st.k, .int .i64 st.v, .int .i64 st.n, .int .i64 st.o, .int .i64 st.a, .int .i64 st.b] 45)).drew _ _ xs bv _ from HB4.out.below hb4a)
        have HOWN := Lib.hid (show ((w4.alloc (.cells #[.int .i64 st.k, .int .i64 st.v, .int .i64 st.n, .int .i64 st.o, .int .i64 st.a, .int .i64 st.b] 45)).drew).ownsRow base 45 6 bm t.b.length (stsC t.b) by rw [← hbm]; exact HBGa.out.last.2.1)
        have HNEW := Lib.hid (World.news_of_block (w := (w4.alloc (.cells #[.int .i64 st.k, .int .i64 st.v, .int .i64 st.n, .int .i64 st.o, .int .i64 st.a, .int .i64 st.b] 45)).drew) (cs := #[.int .i64 st.k, .int .i64 st.v, .int .i64 st.n, .int .i64 st.o, .int .i64 st.a, .int .i64 st.b]) (t := 45) (fr := (0, 0)) (heap_alloc_new w4 (.cells #[.int .i64 st.k, .int .i64 st.v, .int .i64 st.n, .int .i64 st.o, .int .i64 st.a, .int .i64 st.b] 45)))
        have HSA := Lib.hid (show ((w4.alloc (.cells #[.int .i64 st.k, .int .i64 st.v, .int .i64 st.n, .int .i64 st.o, .int .i64 st.a, .int .i64 st.b] 45)).drew).heap.size = w4.heap.size + 1 by simp)
        have HBA := Lib.hid (show base ≤ ((w4.alloc (.cells #[.int .i64 st.k, .int .i64 st.v, .int .i64 st.n, .int .i64 st.o, .int .i64 st.a, .int .i64 st.b] 45)).drew).heap.size by have := HSA.out; have := HBE4.out.size; omega)
        have HBEL := Lib.hid (show Below pb w (w4.alloc (.cells #[.int .i64 st.k, .int .i64 st.v, .int .i64 st.n, .int .i64 st.o, .int .i64 st.a, .int .i64 st.b] 45)).drew from (below_then HBE4.out hb4a).mono (Nat.le_of_lt hpl))
        have HKP := Lib.hid (show Keep pb base w (w4.alloc (.cells #[.int .i64 st.k, .int .i64 st.v, .int .i64 st.n, .int .i64 st.o, .int .i64 st.a, .int .i64 st.b] 45)).drew from Keep.of_below (below_then HBE4.out hb4a) hbase)
        have hb20 : t.b.length ≤ 20001 := HBN.out t (by simp)
        have kT : w4.drew.cell? ⟨g, m * 4, none⟩ = some bm := by rw [← hbm]; exact HBG.out.last.1
        have kTa : ((w4.alloc (.cells #[.int .i64 st.k, .int .i64 st.v, .int .i64 st.n, .int .i64 st.o, .int .i64 st.a, .int .i64 st.b] 45)).drew).cell? ⟨g, m * 4, none⟩ = some bm := by rw [← hbm]; exact HBGa.out.last.1
        have hm0 : (0 : Int) ≤ (m : Int) := by omega
        have hm1 : (m : Int) < (m : Int) + 1 := by omega
        have hm20 : (m : Int) ≤ 20001 := by omega
        clear hb4a hbm hltg
        refine Lib.hid ?_
        go_wp2
        rw [HW4.out]
        clear c4
        refine wp_region_held_drew (S := fun w' => w'.cell? ⟨pb, 0, none⟩ = some (.slice (some ⟨g, 0, none⟩) (m + 1) vc) ∧ w'.cell? ⟨w3.heap.size, 0, none⟩ = some (.int .i64 st.k) ∧ w'.cell? ⟨w3.heap.size, 1, none⟩ = some (.int .i64 st.v) ∧ w'.cell? ⟨w3.heap.size, 2, none⟩ = some (.int .i64 st.n) ∧ w'.cell? ⟨w3.heap.size, 3, none⟩ = some (.int .i64 st.o) ∧ w'.cell? ⟨w3.heap.size, 4, none⟩ = some (.int .i64 st.a) ∧ w'.cell? ⟨w3.heap.size, 5, none⟩ = some (.int .i64 st.b)) (by kernel_rfl) ⟨HBG.out.cell, cellsS HBX.out⟩ (fun _ => ?_)
        refine wpAnyH_take (i := 0) (v := .pointer (some ⟨pb, 0, none⟩)) rfl (by kernel_rfl) (by kernel_rfl) (by kernel_rfl) (fun _ _ _ h => h) (Or.inl ⟨by rfl, (by intro w' hSw; (try dsimp only at hSw); go_simp)⟩) (by assumption) ?_
        try simp only [Act.put, List.getElem_toArray, List.getElem_cons_zero, List.getElem_cons_succ, List.setIfInBounds_toArray, List.set_cons_zero, List.set_cons_succ]
        refine wpAnyH_take (i := 1) (v := .pointer (some ⟨pb, 0, none⟩)) rfl (by kernel_rfl) (by kernel_rfl) (by kernel_rfl) (fun _ _ _ h => h) (Or.inl ⟨by rfl, (by intro w' hSw; (try dsimp only at hSw); go_simp)⟩) (by assumption) ?_
        try simp only [Act.put, List.getElem_toArray, List.getElem_cons_zero, List.getElem_cons_succ, List.setIfInBounds_toArray, List.set_cons_zero, List.set_cons_succ]
        refine wpAnyH_take (i := 2) (v := .pointer (some ⟨pb, 0, none⟩)) rfl (by kernel_rfl) (by kernel_rfl) (by kernel_rfl) (fun _ _ _ h => h) (Or.inl ⟨by rfl, (by intro w' hSw; (try dsimp only at hSw); go_simp)⟩) (by assumption) ?_
        try simp only [Act.put, List.getElem_toArray, List.getElem_cons_zero, List.getElem_cons_succ, List.setIfInBounds_toArray, List.set_cons_zero, List.set_cons_succ]
        refine wpAnyH_take (i := 3) (v := .slice (some ⟨g, 0, none⟩) (m + 1) vc) rfl (by kernel_rfl) (by kernel_rfl) (by kernel_rfl) (fun _ _ _ h => h) (Or.inl ⟨by rfl, (by intro w' hSw; (try dsimp only at hSw); go_simp)⟩) (by assumption) ?_
        try simp only [Act.put, List.getElem_toArray, List.getElem_cons_zero, List.getElem_cons_succ, List.setIfInBounds_toArray, List.set_cons_zero, List.set_cons_succ]
        refine wpAnyH_take (i := 4) (v := .int .i64 m) rfl (by kernel_rfl) (by kernel_rfl) (by kernel_rfl) (fun _ _ _ h => h) (Or.inl ⟨by rfl, (by intro w' hSw; (try dsimp only at hSw); go_simp)⟩) (by assumption) ?_
        try simp only [Act.put, List.getElem_toArray, List.getElem_cons_zero, List.getElem_cons_succ, List.setIfInBounds_toArray, List.set_cons_zero, List.set_cons_succ]
        refine wpAnyH_take (i := 5) (v := .pointer (some ⟨pb, 0, none⟩)) rfl (by kernel_rfl) (by kernel_rfl) (by kernel_rfl) (fun _ _ _ h => h) (Or.inl ⟨by rfl, (by intro w' hSw; (try dsimp only at hSw); go_simp)⟩) (by assumption) ?_
        try simp only [Act.put, List.getElem_toArray, List.getElem_cons_zero, List.getElem_cons_succ, List.setIfInBounds_toArray, List.set_cons_zero, List.set_cons_succ]
        refine wpAnyH_take (i := 6) (v := .pointer (some ⟨pb, 0, none⟩)) rfl (by kernel_rfl) (by kernel_rfl) (by kernel_rfl) (fun _ _ _ h => h) (Or.inl ⟨by rfl, (by intro w' hSw; (try dsimp only at hSw); go_simp)⟩) (by assumption) ?_
        try simp only [Act.put, List.getElem_toArray, List.getElem_cons_zero, List.getElem_cons_succ, List.setIfInBounds_toArray, List.set_cons_zero, List.set_cons_succ]
        refine wpAnyH_take (i := 7) (v := .pointer (some ⟨pb, 0, none⟩)) rfl (by kernel_rfl) (by kernel_rfl) (by kernel_rfl) (fun _ _ _ h => h) (Or.inl ⟨by rfl, (by intro w' hSw; (try dsimp only at hSw); go_simp)⟩) (by assumption) ?_
        try simp only [Act.put, List.getElem_toArray, List.getElem_cons_zero, List.getElem_cons_succ, List.setIfInBounds_toArray, List.set_cons_zero, List.set_cons_succ]
        refine wpAnyH_take (i := 8) (v := .slice (some ⟨g, 0, none⟩) (m + 1) vc) rfl (by kernel_rfl) (by kernel_rfl) (by kernel_rfl) (fun _ _ _ h => h) (Or.inl ⟨by rfl, (by intro w' hSw; (try dsimp only at hSw); go_simp)⟩) (by assumption) ?_
        try simp only [Act.put, List.getElem_toArray, List.getElem_cons_zero, List.getElem_cons_succ, List.setIfInBounds_toArray, List.set_cons_zero, List.set_cons_succ]
        refine wpAnyH_take (i := 9) (v := .int .i64 m) rfl (by kernel_rfl) (by kernel_rfl) (by kernel_rfl) (fun _ _ _ h => h) (Or.inl ⟨by rfl, (by intro w' hSw; (try dsimp only at hSw); go_simp)⟩) (by assumption) ?_
        try simp only [Act.put, List.getElem_toArray, List.getElem_cons_zero, List.getElem_cons_succ, List.setIfInBounds_toArray, List.set_cons_zero, List.set_cons_succ]
        refine wpAnyH_take (i := 10) (v := .pointer (some ⟨g, m * 4, none⟩)) rfl (by kernel_rfl) (by kernel_rfl) (by kernel_rfl) (fun _ _ _ h => h) (Or.inl ⟨by rfl, (by intro w' hSw; (try dsimp only at hSw); go_simp)⟩) (by assumption) ?_
        try simp only [Act.put, List.getElem_toArray, List.getElem_cons_zero, List.getElem_cons_succ, List.setIfInBounds_toArray, List.set_cons_zero, List.set_cons_succ]
        refine wpAnyH_take (i := 11) (v := .pointer (some ⟨g, m * 4, none⟩)) rfl (by kernel_rfl) (by kernel_rfl) (by kernel_rfl) (fun _ _ _ h => h) (Or.inl ⟨by rfl, (by intro w' hSw; (try dsimp only at hSw); go_simp)⟩) (by assumption) ?_
        try simp only [Act.put, List.getElem_toArray, List.getElem_cons_zero, List.getElem_cons_succ, List.setIfInBounds_toArray, List.set_cons_zero, List.set_cons_succ]
        refine wpAnyH_take (i := 13) (v := stV st) rfl (by kernel_rfl) (by kernel_rfl) (by kernel_rfl) (fun _ _ _ h => h) (Or.inl ⟨by rfl, (by intro w' hSw; (try dsimp only at hSw); go_simp)⟩) (by assumption) ?_
        try simp only [Act.put, List.getElem_toArray, List.getElem_cons_zero, List.getElem_cons_succ, List.setIfInBounds_toArray, List.set_cons_zero, List.set_cons_succ]
        refine wpAnyH_ready (rs := [12, 14]) (by kernel_rfl) (by simp) ?_
        refine AllReadyH.cons rfl (fun K hK => ?_) (AllReadyH.cons rfl (fun K hK => ?_) AllReadyH.nil)
        · rw [if_pos (by kernel_rfl)]
          go_simp
          refine hK.out _ _ (⟨HBG.out.cell, cellsS HBX.out⟩) (fun _ => ?_)
          clear hK K
          try simp only [Act.put, List.getElem_toArray, List.getElem_cons_zero, List.getElem_cons_succ, List.setIfInBounds_toArray, List.set_cons_zero, List.set_cons_succ]
          refine wpAnyH_ready (rs := [14]) (by kernel_rfl) (by simp) ?_
          refine AllReadyH.cons rfl (fun K hK => ?_) AllReadyH.nil
          rw [if_pos (by kernel_rfl)]
          go_simp
          refine hK.out _ _ (⟨HBGa.out.cell, cellsS HBXa.out⟩) (fun _ => ?_)
          clear hK K
          try simp only [Act.put, List.getElem_toArray, List.getElem_cons_zero, List.getElem_cons_succ, List.setIfInBounds_toArray, List.set_cons_zero, List.set_cons_succ]
          refine wpAnyH_ready (rs := [15]) (by kernel_rfl) (by simp) ?_
          refine AllReadyH.cons rfl (fun K hK => ?_) AllReadyH.nil
          refine step_append_lies _ (by rfl) _ _ _ (by rfl) base 45 j0 _ 6 48 Tryz.underlying38 hj jz0 jz1 jz2 rfl (by omega) bm t.b.length (stsC t.b) (by rfl) HOWN.out ⟨w4.heap.size, 0, none⟩ 1 1 [.int .i64 st.k, .int .i64 st.v, .int .i64 st.n, .int .i64 st.o, .int .i64 st.a, .int .i64 st.b] (by rfl) (by rfl) HNEW.out (by simp [Value.oneCell']) (by omega) (by unfold maxLen; omega) (by omega) HBA.out (w4.heap.size + 1) HSA.out ?_
          intro gg cap' w5 hown5 hgrow5 hat5 hlt5
          have hmo := Bag.more (b' := .slice (some ⟨gg, 0, none⟩) (t.b.length + 1) cap') (st := st) HBGa.out HBA.out hown5 (by rw [HBM.out]; exact hgrow5) (by rw [HBM.out]; exact hat_of HSA.out hat5)
          have k5 : w5.cell? ⟨g, m * 4, none⟩ = some bm := by rw [← HBM.out]; exact hmo.1.1
          have f5 := hmo.1.2.1
          have c5 := hmo.1.2.2
          have hx5 := HBXa.out.grown hgrow5 (fun e => by have := HLB.out.2.2 _ e.symm; omega)
          refine hK.out _ _ ⟨c5, cellsS hx5⟩ (fun _ => ?_)
          clear hK K
          try simp only [Act.put, List.getElem_toArray, List.getElem_cons_zero, List.getElem_cons_succ, List.setIfInBounds_toArray, List.set_cons_zero, List.set_cons_succ]
          refine wpAnyH_take (i := 16) (v := .pointer (some ⟨g, m * 4, none⟩)) rfl (by kernel_rfl) (by kernel_rfl) (by kernel_rfl) (fun _ _ _ h => h) (Or.inl ⟨by rfl, (by intro w' hSw; (try dsimp only at hSw); go_simp)⟩) (by assumption) ?_
          try simp only [Act.put, List.getElem_toArray, List.getElem_cons_zero, List.getElem_cons_succ, List.setIfInBounds_toArray, List.set_cons_zero, List.set_cons_succ]
          refine wpAnyH_take (i := 17) (v := .pointer (some ⟨g, m * 4, none⟩)) rfl (by kernel_rfl) (by kernel_rfl) (by kernel_rfl) (fun _ _ _ h => h) (Or.inl ⟨by rfl, (by intro w' hSw; (try dsimp only at hSw); go_simp)⟩) (by assumption) ?_
          try simp only [Act.put, List.getElem_toArray, List.getElem_cons_zero, List.getElem_cons_succ, List.setIfInBounds_toArray, List.set_cons_zero, List.set_cons_succ]
          refine wpAnyH_ready (rs := [18]) (by kernel_rfl) (by simp) ?_
          refine AllReadyH.cons rfl (fun K hK => ?_) AllReadyH.nil
          rw [if_pos (by kernel_rfl)]
          go_simp
          refine hK.out _ _ ⟨hmo.2.1.cell, cellsS (hx5.grown (grown_setCell _ _ _ _) (fun e => by have := Option.some.inj e; have := HLB.out.2.1; omega))⟩ (fun _ => ?_)
          clear hK K
          try simp only [Act.put, List.getElem_toArray, List.getElem_cons_zero, List.getElem_cons_succ, List.setIfInBounds_toArray, List.set_cons_zero, List.set_cons_succ]
          refine wpAnyH_done (by kernel_rfl) ?_ _
          have HZ := Lib.hid (And.intro hmo.2.1 (And.intro (HBEL.out.trans hmo.2.2.1) (HKP.out.trans hmo.2.2.2)))
          clear hmo k5 c5 f5 hx5 hown5 hgrow5 hat5 hlt5
          refine Lib.hid ?_
          go_wp2
          go_ret
          exact .inl ⟨_, _, _, _, _, rfl, HZ.out.1, .inr ⟨st, HS.out, rfl⟩, HZ.out.2.2, HZ.out.2.1⟩
        · rw [if_pos (by kernel_rfl)]
          go_simp
          refine hK.out _ _ (⟨HBGa.out.cell, cellsS HBXa.out⟩) (fun _ => ?_)
          clear hK K
          try simp only [Act.put, List.getElem_toArray, List.getElem_cons_zero, List.getElem_cons_succ, List.setIfInBounds_toArray, List.set_cons_zero, List.set_cons_succ]
          refine wpAnyH_ready (rs := [12]) (by kernel_rfl) (by simp) ?_
          refine AllReadyH.cons rfl (fun K hK => ?_) AllReadyH.nil
          rw [if_pos (by kernel_rfl)]
          go_simp
          refine hK.out _ _ (⟨HBGa.out.cell, cellsS HBXa.out⟩) (fun _ => ?_)
          clear hK K
          try simp only [Act.put, List.getElem_toArray, List.getElem_cons_zero, List.getElem_cons_succ, List.setIfInBounds_toArray, List.set_cons_zero, List.set_cons_succ]
          refine wpAnyH_ready (rs := [15]) (by kernel_rfl) (by simp) ?_
          refine AllReadyH.cons rfl (fun K hK => ?_) AllReadyH.nil
          refine step_append_lies _ (by rfl) _ _ _ (by rfl) base 45 j0 _ 6 48 Tryz.underlying38 hj jz0 jz1 jz2 rfl (by omega) bm t.b.length (stsC t.b) (by rfl) HOWN.out ⟨w4.heap.size, 0, none⟩ 1 1 [.int .i64 st.k, .int .i64 st.v, .int .i64 st.n, .int .i64 st.o, .int .i64 st.a, .int .i64 st.b] (by rfl) (by rfl) HNEW.out (by simp [Value.oneCell']) (by omega) (by unfold maxLen; omega) (by omega) HBA.out (w4.heap.size + 1) HSA.out ?_
          intro gg cap' w5 hown5 hgrow5 hat5 hlt5
          have hmo := Bag.more (b' := .slice (some ⟨gg, 0, none⟩) (t.b.length + 1) cap') (st := st) HBGa.out HBA.out hown5 (by rw [HBM.out]; exact hgrow5) (by rw [HBM.out]; exact hat_of HSA.out hat5)
          have k5 : w5.cell? ⟨g, m * 4, none⟩ = some bm := by rw [← HBM.out]; exact hmo.1.1
          have f5 := hmo.1.2.1
          have c5 := hmo.1.2.2
          have hx5 := HBXa.out.grown hgrow5 (fun e => by have := HLB.out.2.2 _ e.symm; omega)
          refine hK.out _ _ ⟨c5, cellsS hx5⟩ (fun _ => ?_)
          clear hK K
          try simp only [Act.put, List.getElem_toArray, List.getElem_cons_zero, List.getElem_cons_succ, List.setIfInBounds_toArray, List.set_cons_zero, List.set_cons_succ]
          refine wpAnyH_take (i := 16) (v := .pointer (some ⟨g, m * 4, none⟩)) rfl (by kernel_rfl) (by kernel_rfl) (by kernel_rfl) (fun _ _ _ h => h) (Or.inl ⟨by rfl, (by intro w' hSw; (try dsimp only at hSw); go_simp)⟩) (by assumption) ?_
          try simp only [Act.put, List.getElem_toArray, List.getElem_cons_zero, List.getElem_cons_succ, List.setIfInBounds_toArray, List.set_cons_zero, List.set_cons_succ]
          refine wpAnyH_take (i := 17) (v := .pointer (some ⟨g, m * 4, none⟩)) rfl (by kernel_rfl) (by kernel_rfl) (by kernel_rfl) (fun _ _ _ h => h) (Or.inl ⟨by rfl, (by intro w' hSw; (try dsimp only at hSw); go_simp)⟩) (by assumption) ?_
          try simp only [Act.put, List.getElem_toArray, List.getElem_cons_zero, List.getElem_cons_succ, List.setIfInBounds_toArray, List.set_cons_zero, List.set_cons_succ]
          refine wpAnyH_ready (rs := [18]) (by kernel_rfl) (by simp) ?_
          refine AllReadyH.cons rfl (fun K hK => ?_) AllReadyH.nil
          rw [if_pos (by kernel_rfl)]
          go_simp
          refine hK.out _ _ ⟨hmo.2.1.cell, cellsS (hx5.grown (grown_setCell _ _ _ _) (fun e => by have := Option.some.inj e; have := HLB.out.2.1; omega))⟩ (fun _ => ?_)
          clear hK K
          try simp only [Act.put, List.getElem_toArray, List.getElem_cons_zero, List.getElem_cons_succ, List.setIfInBounds_toArray, List.set_cons_zero, List.set_cons_succ]
          refine wpAnyH_done (by kernel_rfl) ?_ _
          have HZ := Lib.hid (And.intro hmo.2.1 (And.intro (HBEL.out.trans hmo.2.2.1) (HKP.out.trans hmo.2.2.2)))
          clear hmo k5 c5 f5 hx5 hown5 hgrow5 hat5 hlt5
          refine Lib.hid ?_
          go_wp2
          go_ret
          exact .inl ⟨_, _, _, _, _, rfl, HZ.out.1, .inr ⟨st, HS.out, rfl⟩, HZ.out.2.2, HZ.out.2.1⟩
    · have HBE4 := Lib.hid (show Below pb w (w3.alloc (.cells #[.int .i64 0, .int .i64 0, .int .i64 0, .int .i64 0, .int .i64 0, .int .i64 0] 45)) from (below_then HBE2.out (below_then hb3 (below_new w3 _))).mono (Nat.le_of_lt hpl))
      clear hb3
      refine Lib.hid ?_
      go_wp2
      go_ret
      exact .inr ⟨rfl, ⟨HN.out, HN2.out⟩, HBE4.out⟩
end Go.Proofs.YtpipnhceajdfkaaGreatDoor.prg
