/- Several texts in one: DrawE BlkW. -/
import Derived.Test.YtndpadnjjbbkkaaGHub45
import Derived.Test.YtndpadnjjbbkkaaGHub11
import Derived.Test.YtndpadnjjbbkkaaGHub5

/- The draws of blocks and tasks: a valid block of at most two levels and twenty statements, a valid expression; nothing that was there is written. -/
namespace Go.Proofs.Ytndpadnjjbbkkaa.cur
open Go.ChangeShapes Go.WideShapes Go.ChangeAt Go.RowKit Go.Proofs.Ytndpadnjjbbkkaa.row Go.Proofs.Ytndpadnjjbbkkaa.val Go.Proofs.Ytndpadnjjbbkkaa.expr Go.Proofs.Ytndpadnjjbbkkaa.stm
theorem block_one (cb : Nat) (a : Option Addr) (len cap : Nat) (n : Nat) (w : World) (hn : n ≤ 5) (hc : Cur cb a len cap w) :
    Calls Try.prog 89 #[.pointer (some ⟨cb, 0, none⟩), .int .i64 n, .int .i64 1] w (BlkOut 1 n cb a len cap w) :=
  block_succ 0 (by omega) 1 rfl (fun cb a len cap n w hn hc => block_zero cb a len cap n w hn hc) cb a len cap n w hn hc
theorem block_two (cb : Nat) (a : Option Addr) (len cap : Nat) (n : Nat) (w : World) (hn : n ≤ 5) (hc : Cur cb a len cap w) :
    Calls Try.prog 89 #[.pointer (some ⟨cb, 0, none⟩), .int .i64 n, .int .i64 0] w (BlkOut 2 n cb a len cap w) :=
  block_succ 1 (by omega) 0 rfl (fun cb a len cap n w hn hc => block_one cb a len cap n w hn hc) cb a len cap n w hn hc
/-- A valid block of at most two levels and twenty statements in new memory; the cursor stays one. -/
def CaseOut (cb : Nat) (a : Option Addr) (len cap : Nat) (w : World) (e : Ending) (w' : World) : Prop :=
  ∃ (g m c : Nat) (L : List St), e = .returned (.slice (some ⟨g, 0, none⟩) m c) ∧ Hid (Blk 2 L) ∧ m ≤ 20 ∧ BS cb a len cap w w' g m c L
set_option maxRecDepth 100000 in
theorem case_any (cb : Nat) (a : Option Addr) (len cap : Nat) (w : World) (hc : Cur cb a len cap w) :
    Calls Try.prog 62 #[.pointer (some ⟨cb, 0, none⟩)] w (CaseOut cb a len cap w) := by
  have hcb := hc.lt
  go_enter Try.func62, Try.ntmps62
  go_wp2_with (go_at_call 37; refine (below_any cb a len cap _ (by omega) _ hc).mono ?_; rintro e w1 ⟨z, rfl, hz0, hz1, hc1, hg1⟩; refine Hid.out ?_)
  obtain ⟨n, rfl⟩ : ∃ n : Nat, z = (n : Int) := ⟨z.toNat, by omega⟩
  have hn5 : n ≤ 5 := by omega
  have hsz := hg1.size
  have HG1 := Lib.hid hg1
  clear hg1 hc
  refine Lib.hid ?_
  go_wp2_with (go_at_call 89; refine (block_two cb a len cap n _ hn5 hc1).mono ?_; rintro e w2 ⟨g, m, c, L, rfl, HB, hm, hbs⟩)
  go_ret
  exact ⟨g, m, c, L, rfl, HB, Nat.le_trans hm (bnd_le hn5), hbs.1.mono hsz, hbs.2.1, grownBy_trans HG1.out hbs.2.2⟩
/-- A valid task: its body in new memory, its expression. -/
def TaskOut (w : World) (e : Ending) (w' : World) : Prop :=
  ∃ (g m c : Nat) (L : List St) (o x y : Int), e = .returned (.agg #[.slice (some ⟨g, 0, none⟩) m c, .int .i64 o, .int .i64 x, .int .i64 y]) ∧ Hid (Blk 2 L) ∧ m ≤ 20 ∧ Hid (exprOk o x y = true) ∧
    w'.ownsRow w.heap.size 87 6 (.slice (some ⟨g, 0, none⟩) m c) m (stsC L) ∧ Below w.heap.size w w'
end Go.Proofs.Ytndpadnjjbbkkaa.cur

/- A drawn block is valid: heights of a block that was built; the model's DrawBlock. -/
namespace Go.Proofs.Ytndpadnjjbbkkaa.blk
open Go Go.ChangeShapes Go.WideShapes Go.ChangeAt Go.RowKit Go.Proofs.Ytndpadnjjbbkkaa.row Go.Proofs.Ytndpadnjjbbkkaa.val Go.Proofs.Ytndpadnjjbbkkaa.expr Go.Proofs.Ytndpadnjjbbkkaa.stm Go.Proofs.Ytndpadnjjbbkkaa.cur

abbrev T := Go.Proofs.Ytndpadnjjbbkkaa.stm.St
theorem hAt_cons (s : T) (L : List T) (k : Nat) : hAt (s :: L) (k + 1) = dlt s + hAt L k := by unfold hAt ht; simp
theorem hAt_left {A : List T} (B : List T) {k : Nat} (h : k ≤ A.length) : hAt (A ++ B) k = hAt A k := by unfold hAt; rw [List.take_append_of_le_length h]
theorem hAt_right (A B : List T) (k : Nat) : hAt (A ++ B) (A.length + k) = hAt A A.length + hAt B k := by
  unfold hAt ht
  rw [List.take_length_add_append, List.take_of_length_le (Nat.le_refl A.length), List.map_append, List.sum_append]
theorem blk_flat {s : T} (h1 : 1 ≤ s.k) (h3 : s.k ≤ 3) : dlt s = 0 := by unfold dlt; rw [if_neg (by omega), if_neg (by omega)]
theorem blk_heights {d : Nat} {L : List T} (h : Blk d L) : hAt L L.length = 0 ∧ (∀ k, k ≤ L.length → 0 ≤ hAt L k ∧ hAt L k ≤ d) ∧ ∀ s ∈ L, stOk s = true := by
  induction h with
  | nil d => exact ⟨rfl, fun k hk => by rw [show hAt [] k = 0 by unfold hAt ht; simp]; omega, fun s hs => by simp at hs⟩
  | one d s rest hs h1 h3 hr ih =>
    obtain ⟨i1, i2, i3⟩ := ih
    have hd := blk_flat h1 h3
    refine ⟨by rw [List.length_cons, hAt_cons, hd, i1]; rfl, fun k hk => ?_, fun t ht => ?_⟩
    · cases k with
      | zero => rw [hAt_zero]; omega
      | succ k => rw [hAt_cons, hd]; have := i2 k (by simpa using hk); omega
    · rcases List.mem_cons.1 ht with rfl | ht
      · exact hs
      · exact i3 t ht
  | nest d s body rest hs hk hb hr ih1 ih2 =>
    obtain ⟨b1, b2, b3⟩ := ih1
    obtain ⟨r1, r2, r3⟩ := ih2
    have hd : dlt s = 1 := by unfold dlt; rw [if_pos hk]
    have he : dlt endSt = -1 := by decide
    have hin : ∀ k, hAt (body ++ endSt :: rest) (body.length + (k + 1)) = hAt rest k - 1 := fun k => by
      rw [hAt_right, b1, hAt_cons, he]; omega
    refine ⟨?_, fun k hk2 => ?_, fun t ht => ?_⟩
    · rw [List.length_cons, hAt_cons, hd, List.length_append, List.length_cons, hin, r1]; rfl
    · cases k with
      | zero => rw [hAt_zero]; omega
      | succ k =>
        rw [hAt_cons, hd]
        by_cases hkb : k ≤ body.length
        · rw [hAt_left _ hkb]; have := b2 k hkb; omega
        · obtain ⟨j, rfl⟩ : ∃ j, k = body.length + (j + 1) := ⟨k - body.length - 1, by omega⟩
          rw [hin]
          have := r2 j (by simp at hk2; omega)
          omega
    · rcases List.mem_cons.1 ht with rfl | ht
      · exact hs
      · rcases List.mem_append.1 ht with ht | ht
        · exact b3 t ht
        · rcases List.mem_cons.1 ht with rfl | ht
          · exact stOk_end
          · exact r3 t ht
theorem isBlk_of {d : Nat} {L : List T} (h : Blk d L) (hd : d ≤ 3) (hl : L.length ≤ 24) : IsBlk L := by
  obtain ⟨h1, h2, h3⟩ := blk_heights h
  exact ⟨fun j s hj hs => ⟨h3 s (List.mem_of_getElem? hs), (h2 (j + 1) hj).1, by have := (h2 (j + 1) hj).2; omega⟩, h1, hl⟩
/-- A valid block in new memory. -/
def DrawnB (w : World) (e : Ending) (w' : World) : Prop :=
  ∃ (g m c : Nat) (L : List T), e = .returned (.slice (some ⟨g, 0, none⟩) m c) ∧ Hid (IsBlk L) ∧ m ≤ 20 ∧ w'.ownsRow w.heap.size 87 6 (.slice (some ⟨g, 0, none⟩) m c) m (stsC L) ∧ Below w.heap.size w w'
end Go.Proofs.Ytndpadnjjbbkkaa.blk
