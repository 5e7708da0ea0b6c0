/- Several texts in one: DrawE BlkW. -/
import Derived.Test.YtodlbbojjnkneaaGHub48
import Derived.Test.YtodlbbojjnkneaaGHub10
import Derived.Test.YtodlbbojjnkneaaGHub6

/- The draws of blocks and tasks: a valid block of at most two levels and twenty statements, a valid expression; nothing that was there is written. -/
namespace Go.Proofs.Ytodlbbojjnkneaa.cur
open Go.ChangeShapes Go.WideShapes Go.ChangeAt Go.RowKit Go.Proofs.Ytodlbbojjnkneaa.row Go.Proofs.Ytodlbbojjnkneaa.val Go.Proofs.Ytodlbbojjnkneaa.expr Go.Proofs.Ytodlbbojjnkneaa.stm
theorem block_one (cb : Nat) (a : Option Addr) (len cap : Nat) (n : Nat) (w : World) (hn : n ≤ 5) (hc : Cur cb a len cap w) :
    Calls Try.prog 37 #[.pointer (some ⟨cb, 0, none⟩), .int .i64 n, .int .i64 1] w (BlkOut 1 n cb a len cap w) :=
  block_succ 0 (by omega) 1 rfl (fun cb a len cap n w hn hc => block_zero cb a len cap n w hn hc) cb a len cap n w hn hc
theorem block_two (cb : Nat) (a : Option Addr) (len cap : Nat) (n : Nat) (w : World) (hn : n ≤ 5) (hc : Cur cb a len cap w) :
    Calls Try.prog 37 #[.pointer (some ⟨cb, 0, none⟩), .int .i64 n, .int .i64 0] w (BlkOut 2 n cb a len cap w) :=
  block_succ 1 (by omega) 0 rfl (fun cb a len cap n w hn hc => block_one cb a len cap n w hn hc) cb a len cap n w hn hc
/-- A valid block of at most two levels and twenty statements in new memory; the cursor stays one. -/
def CaseOut (cb : Nat) (a : Option Addr) (len cap : Nat) (w : World) (e : Ending) (w' : World) : Prop :=
  ∃ (g m c : Nat) (L : List St), e = .returned (.slice (some ⟨g, 0, none⟩) m c) ∧ Hid (Blk 2 L) ∧ m ≤ 20 ∧ BS cb a len cap w w' g m c L
set_option maxRecDepth 100000 in
theorem case_any (cb : Nat) (a : Option Addr) (len cap : Nat) (w : World) (hc : Cur cb a len cap w) :
    Calls Try.prog 21 #[.pointer (some ⟨cb, 0, none⟩)] w (CaseOut cb a len cap w) := by
  have hcb := hc.lt
  go_enter Try.func21, Try.ntmps21
  go_wp2_with (go_at_call 27; refine (below_any cb a len cap _ (by omega) _ hc).mono ?_; rintro e w1 ⟨z, rfl, hz0, hz1, hc1, hg1⟩; refine Hid.out ?_)
  obtain ⟨n, rfl⟩ : ∃ n : Nat, z = (n : Int) := ⟨z.toNat, by omega⟩
  have hn5 : n ≤ 5 := by omega
  have hsz := hg1.size
  have HG1 := Lib.hid hg1
  clear hg1 hc
  refine Lib.hid ?_
  go_wp2_with (go_at_call 37; refine (block_two cb a len cap n _ hn5 hc1).mono ?_; rintro e w2 ⟨g, m, c, L, rfl, HB, hm, hbs⟩)
  go_ret
  exact ⟨g, m, c, L, rfl, HB, Nat.le_trans hm (bnd_le hn5), hbs.1.mono hsz, hbs.2.1, grownBy_trans HG1.out hbs.2.2⟩
/-- A valid task: its body in new memory, its expression. -/
def TaskOut (w : World) (e : Ending) (w' : World) : Prop :=
  ∃ (g m c : Nat) (L : List St) (o x y : Int), e = .returned (.agg #[.slice (some ⟨g, 0, none⟩) m c, .int .i64 o, .int .i64 x, .int .i64 y]) ∧ Hid (Blk 2 L) ∧ m ≤ 20 ∧ Hid (exprOk o x y = true) ∧
    w'.ownsRow w.heap.size 69 6 (.slice (some ⟨g, 0, none⟩) m c) m (stsC L) ∧ Below w.heap.size w w'
set_option maxHeartbeats 1000000 in
set_option maxRecDepth 100000 in
theorem task_any (a : Option Addr) (len cap : Nat) (w : World) (hlm : (len : Int) ≤ 1048576) (hb : ∀ i : Nat, i < len → ∃ (b off : Nat) (v : Int), a = some ⟨b, off, none⟩ ∧ w.cell? ⟨b, off + i, none⟩ = some (.int .u8 v)) :
    Calls Try.prog 8 #[.slice a len cap] w (TaskOut w) := by
  have HB : Hid (∀ w' : World, Below w.heap.size w w' → ∀ i : Nat, i < len → ∃ (b off : Nat) (v : Int), a = some ⟨b, off, none⟩ ∧ w'.cell? ⟨b, off + i, none⟩ = some (.int .u8 v)) := fun w' hbl i hi => by
    obtain ⟨b, off, v, ha, hv⟩ := hb i hi
    exact ⟨b, off, v, ha, (hbl.cell (World.block_lt_of_cell? w _ hv)).trans hv⟩
  clear hb
  obtain ⟨W, hW⟩ : ∃ W, W = w.alloc (.cells #[.slice none 0 0, .int .i64 0, .int .i64 0, .int .i64 0] 28) := ⟨_, rfl⟩
  have hbox : Box w.heap.size #[.slice none 0 0, .int .i64 0, .int .i64 0, .int .i64 0] 28 W := by rw [hW]; exact Box.new _ _ _
  have hbelow : Below w.heap.size w W := by rw [hW]; exact below_new _ _
  have hWs : W.heap.size = w.heap.size + 1 := by rw [hW]; simp
  have H0 := Lib.hid (And.intro hbox (And.intro hbelow (And.intro (HB.out W hbelow) hWs)))
  have HW := Lib.hid hW
  clear hbox hbelow hWs hW
  go_enter Try.func8, Try.ntmps8
  go_wp2_with (go_at_call 20; rw [← HW.out]; refine (new_any a len cap _ hlm H0.out.2.2.1).mono ?_; rintro e w1 ⟨rfl, hc1, hb1⟩; refine Hid.out ?_)
  have H1 := Lib.hid (And.intro (H0.out.1.below hb1) (below_then H0.out.2.1 hb1))
  have hcb := hc1.lt
  have hbw := hb1
  refine Lib.hid ?_
  go_wp2_with (go_at_call 21; refine (case_any _ a len cap _ hc1).mono ?_; rintro e w2 ⟨g, m, c, L, rfl, HBK, hm, hbs2⟩; refine Hid.out ?_)
  have H2 := Lib.hid hbs2
  have hc2 := hbs2.2.1
  clear hbs2 hc1 hb1
  refine Lib.hid ?_
  go_wp2_with (go_at_call 22; refine (expr_from _ _ a len cap _ hc2 (grownBy_refl _ _)).mono ?_; rintro e w3 ⟨o, x, y, rfl, hok, hc3, hg3⟩; refine Hid.out ?_)
  have H3 := Lib.hid (H2.out.draw hcb hc3 hg3)
  have hbx3 := (H1.out.1.grown H2.out.2.2 (by intro e; have := Option.some.inj e; have := H0.out.2.2.2; omega)).grown hg3 (by intro e; have := Option.some.inj e; have := H0.out.2.2.2; omega)
  have HX := Lib.hid hbx3
  have HOK := Lib.hid hok
  have hg13 := Lib.hid (grownBy_trans H2.out.2.2 hg3)
  clear hbx3 hg3 hc2 hc3 hok H2
  refine Lib.hid ?_
  go_wp2_with ((refine wpList_store_box rfl 28 _ _ rfl w.heap.size _ _ HX.out #[.slice (some ⟨g, 0, none⟩) m c, .int .i64 o, .int .i64 x, .int .i64 y] rfl rfl rfl (by kernel_rfl) (by simp [Value.oneCell']) ?_); intro w4 hbx4 hg4)
  have hlo := H3.out.lo
  have hsz1 := hbw.size
  have hW1 := H0.out.2.2.2
  refine bodyPost_ret (v := .agg #[.slice (some ⟨g, 0, none⟩) m c, .int .i64 o, .int .i64 x, .int .i64 y]) (results_cell_row rfl _ _ w.heap.size _ _ _ _ rfl hbx4 Try.underlying28 rfl (by kernel_rfl)) rfl
    ⟨g, m, c, L, o, x, y, rfl, HBK, hm, HOK, (H3.out.1.kept hg4 (Or.inr (by simp only [Value.ownBlock]; intro e; have := Option.some.inj e; omega))).mono (by omega), ?_⟩
  refine Below.grown (Below.grown H1.out.2 hg13.out H1.out.2.size (fun j hj => by cases hj; omega)) hg4 ?_ (fun j hj => by cases hj; exact Nat.le_refl _)
  have := H1.out.2.size; have := hg13.out.size; omega
end Go.Proofs.Ytodlbbojjnkneaa.cur

/- A drawn block is valid: heights of a block that was built; the model's DrawBlock. -/
namespace Go.Proofs.Ytodlbbojjnkneaa.blk
open Go Go.ChangeShapes Go.WideShapes Go.ChangeAt Go.RowKit Go.Proofs.Ytodlbbojjnkneaa.row Go.Proofs.Ytodlbbojjnkneaa.val Go.Proofs.Ytodlbbojjnkneaa.expr Go.Proofs.Ytodlbbojjnkneaa.stm Go.Proofs.Ytodlbbojjnkneaa.cur

abbrev T := Go.Proofs.Ytodlbbojjnkneaa.stm.St
theorem hAt_cons (s : T) (L : List T) (k : Nat) : hAt (s :: L) (k + 1) = dlt s + hAt L k := by unfold hAt ht; simp
theorem hAt_left {A : List T} (B : List T) {k : Nat} (h : k ≤ A.length) : hAt (A ++ B) k = hAt A k := by unfold hAt; rw [List.take_append_of_le_length h]
theorem hAt_right (A B : List T) (k : Nat) : hAt (A ++ B) (A.length + k) = hAt A A.length + hAt B k := by
  unfold hAt ht
  rw [List.take_length_add_append, List.take_of_length_le (Nat.le_refl A.length), List.map_append, List.sum_append]
theorem blk_flat {s : T} (h1 : 1 ≤ s.k) (h3 : s.k ≤ 3) : dlt s = 0 := by unfold dlt; rw [if_neg (by omega), if_neg (by omega)]
theorem blk_heights {d : Nat} {L : List T} (h : Blk d L) : hAt L L.length = 0 ∧ (∀ k, k ≤ L.length → 0 ≤ hAt L k ∧ hAt L k ≤ d) ∧ ∀ s ∈ L, stOk s = true := by
  induction h with
  | nil d => exact ⟨rfl, fun k hk => by rw [show hAt [] k = 0 by unfold hAt ht; simp]; omega, fun s hs => by simp at hs⟩
  | one d s rest hs h1 h3 hr ih =>
    obtain ⟨i1, i2, i3⟩ := ih
    have hd := blk_flat h1 h3
    refine ⟨by rw [List.length_cons, hAt_cons, hd, i1]; rfl, fun k hk => ?_, fun t ht => ?_⟩
    · cases k with
      | zero => rw [hAt_zero]; omega
      | succ k => rw [hAt_cons, hd]; have := i2 k (by simpa using hk); omega
    · rcases List.mem_cons.1 ht with rfl | ht
      · exact hs
      · exact i3 t ht
  | nest d s body rest hs hk hb hr ih1 ih2 =>
    obtain ⟨b1, b2, b3⟩ := ih1
    obtain ⟨r1, r2, r3⟩ := ih2
    have hd : dlt s = 1 := by unfold dlt; rw [if_pos hk]
    have he : dlt endSt = -1 := by decide
    have hin : ∀ k, hAt (body ++ endSt :: rest) (body.length + (k + 1)) = hAt rest k - 1 := fun k => by
      rw [hAt_right, b1, hAt_cons, he]; omega
    refine ⟨?_, fun k hk2 => ?_, fun t ht => ?_⟩
    · rw [List.length_cons, hAt_cons, hd, List.length_append, List.length_cons, hin, r1]; rfl
    · cases k with
      | zero => rw [hAt_zero]; omega
      | succ k =>
        rw [hAt_cons, hd]
        by_cases hkb : k ≤ body.length
        · rw [hAt_left _ hkb]; have := b2 k hkb; omega
        · obtain ⟨j, rfl⟩ : ∃ j, k = body.length + (j + 1) := ⟨k - body.length - 1, by omega⟩
          rw [hin]
          have := r2 j (by simp at hk2; omega)
          omega
    · rcases List.mem_cons.1 ht with rfl | ht
      · exact hs
      · rcases List.mem_append.1 ht with ht | ht
        · exact b3 t ht
        · rcases List.mem_cons.1 ht with rfl | ht
          · exact stOk_end
          · exact r3 t ht
theorem isBlk_of {d : Nat} {L : List T} (h : Blk d L) (hd : d ≤ 3) (hl : L.length ≤ 24) : IsBlk L := by
  obtain ⟨h1, h2, h3⟩ := blk_heights h
  exact ⟨fun j s hj hs => ⟨h3 s (List.mem_of_getElem? hs), (h2 (j + 1) hj).1, by have := (h2 (j + 1) hj).2; omega⟩, h1, hl⟩
/-- A valid block in new memory. -/
def DrawnB (w : World) (e : Ending) (w' : World) : Prop :=
  ∃ (g m c : Nat) (L : List T), e = .returned (.slice (some ⟨g, 0, none⟩) m c) ∧ Hid (IsBlk L) ∧ m ≤ 20 ∧ w'.ownsRow w.heap.size 69 6 (.slice (some ⟨g, 0, none⟩) m c) m (stsC L) ∧ Below w.heap.size w w'
end Go.Proofs.Ytodlbbojjnkneaa.blk
