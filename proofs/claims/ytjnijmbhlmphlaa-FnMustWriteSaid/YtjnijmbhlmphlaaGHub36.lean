/- Several texts in one: DrawE BlkW EvalD. -/
import Derived.Test.YtjnijmbhlmphlaaGHub35
import Derived.Test.YtjnijmbhlmphlaaGHub6
import Derived.Test.YtjnijmbhlmphlaaGHub3
import Derived.Test.YtjnijmbhlmphlaaGHub24
import Derived.Test.YtjnijmbhlmphlaaGHub29
import Derived.Test.YtjnijmbhlmphlaaGHub28

/- The draws of blocks and tasks: a valid block of at most two levels and twenty statements, a valid expression; nothing that was there is written. -/
namespace Go.Proofs.Ytjnijmbhlmphlaa.cur
open Go.ChangeShapes Go.WideShapes Go.ChangeAt Go.RowKit Go.Proofs.Ytjnijmbhlmphlaa.row Go.Proofs.Ytjnijmbhlmphlaa.val Go.Proofs.Ytjnijmbhlmphlaa.expr Go.Proofs.Ytjnijmbhlmphlaa.stm
theorem block_one (cb : Nat) (a : Option Addr) (len cap : Nat) (n : Nat) (w : World) (hn : n ≤ 5) (hc : Cur cb a len cap w) :
    Calls Try.prog 51 #[.pointer (some ⟨cb, 0, none⟩), .int .i64 n, .int .i64 1] w (BlkOut 1 n cb a len cap w) :=
  block_succ 0 (by omega) 1 rfl (fun cb a len cap n w hn hc => block_zero cb a len cap n w hn hc) cb a len cap n w hn hc
theorem block_two (cb : Nat) (a : Option Addr) (len cap : Nat) (n : Nat) (w : World) (hn : n ≤ 5) (hc : Cur cb a len cap w) :
    Calls Try.prog 51 #[.pointer (some ⟨cb, 0, none⟩), .int .i64 n, .int .i64 0] w (BlkOut 2 n cb a len cap w) :=
  block_succ 1 (by omega) 0 rfl (fun cb a len cap n w hn hc => block_one cb a len cap n w hn hc) cb a len cap n w hn hc
/-- A valid block of at most two levels and twenty statements in new memory; the cursor stays one. -/
def CaseOut (cb : Nat) (a : Option Addr) (len cap : Nat) (w : World) (e : Ending) (w' : World) : Prop :=
  ∃ (g m c : Nat) (L : List St), e = .returned (.slice (some ⟨g, 0, none⟩) m c) ∧ Hid (Blk 2 L) ∧ m ≤ 20 ∧ BS cb a len cap w w' g m c L
set_option maxRecDepth 100000 in
theorem case_any (cb : Nat) (a : Option Addr) (len cap : Nat) (w : World) (hc : Cur cb a len cap w) :
    Calls Try.prog 31 #[.pointer (some ⟨cb, 0, none⟩)] w (CaseOut cb a len cap w) := by
  have hcb := hc.lt
  go_enter Try.func31, Try.ntmps31
  go_wp2_with (go_at_call 52; refine (below_any cb a len cap _ (by omega) _ hc).mono ?_; rintro e w1 ⟨z, rfl, hz0, hz1, hc1, hg1⟩; refine Hid.out ?_)
  obtain ⟨n, rfl⟩ : ∃ n : Nat, z = (n : Int) := ⟨z.toNat, by omega⟩
  have hn5 : n ≤ 5 := by omega
  have hsz := hg1.size
  have HG1 := Lib.hid hg1
  clear hg1 hc
  refine Lib.hid ?_
  go_wp2_with (go_at_call 51; refine (block_two cb a len cap n _ hn5 hc1).mono ?_; rintro e w2 ⟨g, m, c, L, rfl, HB, hm, hbs⟩)
  go_ret
  exact ⟨g, m, c, L, rfl, HB, Nat.le_trans hm (bnd_le hn5), hbs.1.mono hsz, hbs.2.1, grownBy_trans HG1.out hbs.2.2⟩
/-- A valid task: its body in new memory, its expression. -/
def TaskOut (w : World) (e : Ending) (w' : World) : Prop :=
  ∃ (g m c : Nat) (L : List St) (o x y : Int), e = .returned (.agg #[.slice (some ⟨g, 0, none⟩) m c, .int .i64 o, .int .i64 x, .int .i64 y]) ∧ Hid (Blk 2 L) ∧ m ≤ 20 ∧ Hid (exprOk o x y = true) ∧
    w'.ownsRow w.heap.size 31 6 (.slice (some ⟨g, 0, none⟩) m c) m (stsC L) ∧ Below w.heap.size w w'
end Go.Proofs.Ytjnijmbhlmphlaa.cur

/- A drawn block is valid: heights of a block that was built; the model's DrawBlock. -/
namespace Go.Proofs.Ytjnijmbhlmphlaa.blk
open Go Go.ChangeShapes Go.WideShapes Go.ChangeAt Go.RowKit Go.Proofs.Ytjnijmbhlmphlaa.row Go.Proofs.Ytjnijmbhlmphlaa.val Go.Proofs.Ytjnijmbhlmphlaa.expr Go.Proofs.Ytjnijmbhlmphlaa.stm Go.Proofs.Ytjnijmbhlmphlaa.cur

abbrev T := Go.Proofs.Ytjnijmbhlmphlaa.stm.St
theorem hAt_cons (s : T) (L : List T) (k : Nat) : hAt (s :: L) (k + 1) = dlt s + hAt L k := by unfold hAt ht; simp
theorem hAt_left {A : List T} (B : List T) {k : Nat} (h : k ≤ A.length) : hAt (A ++ B) k = hAt A k := by unfold hAt; rw [List.take_append_of_le_length h]
theorem hAt_right (A B : List T) (k : Nat) : hAt (A ++ B) (A.length + k) = hAt A A.length + hAt B k := by
  unfold hAt ht
  rw [List.take_length_add_append, List.take_of_length_le (Nat.le_refl A.length), List.map_append, List.sum_append]
theorem blk_flat {s : T} (h1 : 1 ≤ s.k) (h3 : s.k ≤ 3) : dlt s = 0 := by unfold dlt; rw [if_neg (by omega), if_neg (by omega)]
theorem blk_heights {d : Nat} {L : List T} (h : Blk d L) : hAt L L.length = 0 ∧ (∀ k, k ≤ L.length → 0 ≤ hAt L k ∧ hAt L k ≤ d) ∧ ∀ s ∈ L, stOk s = true := by
  induction h with
  | nil d => exact ⟨rfl, fun k hk => by rw [show hAt [] k = 0 by unfold hAt ht; simp]; omega, fun s hs => by simp at hs⟩
  | one d s rest hs h1 h3 hr ih =>
    obtain ⟨i1, i2, i3⟩ := ih
    have hd := blk_flat h1 h3
    refine ⟨by rw [List.length_cons, hAt_cons, hd, i1]; rfl, fun k hk => ?_, fun t ht => ?_⟩
    · cases k with
      | zero => rw [hAt_zero]; omega
      | succ k => rw [hAt_cons, hd]; have := i2 k (by simpa using hk); omega
    · rcases List.mem_cons.1 ht with rfl | ht
      · exact hs
      · exact i3 t ht
  | nest d s body rest hs hk hb hr ih1 ih2 =>
    obtain ⟨b1, b2, b3⟩ := ih1
    obtain ⟨r1, r2, r3⟩ := ih2
    have hd : dlt s = 1 := by unfold dlt; rw [if_pos hk]
    have he : dlt endSt = -1 := by decide
    have hin : ∀ k, hAt (body ++ endSt :: rest) (body.length + (k + 1)) = hAt rest k - 1 := fun k => by
      rw [hAt_right, b1, hAt_cons, he]; omega
    refine ⟨?_, fun k hk2 => ?_, fun t ht => ?_⟩
    · rw [List.length_cons, hAt_cons, hd, List.length_append, List.length_cons, hin, r1]; rfl
    · cases k with
      | zero => rw [hAt_zero]; omega
      | succ k =>
        rw [hAt_cons, hd]
        by_cases hkb : k ≤ body.length
        · rw [hAt_left _ hkb]; have := b2 k hkb; omega
        · obtain ⟨j, rfl⟩ : ∃ j, k = body.length + (j + 1) := ⟨k - body.length - 1, by omega⟩
          rw [hin]
          have := r2 j (by simp at hk2; omega)
          omega
    · rcases List.mem_cons.1 ht with rfl | ht
      · exact hs
      · rcases List.mem_append.1 ht with ht | ht
        · exact b3 t ht
        · rcases List.mem_cons.1 ht with rfl | ht
          · exact stOk_end
          · exact r3 t ht
theorem isBlk_of {d : Nat} {L : List T} (h : Blk d L) (hd : d ≤ 3) (hl : L.length ≤ 24) : IsBlk L := by
  obtain ⟨h1, h2, h3⟩ := blk_heights h
  exact ⟨fun j s hj hs => ⟨h3 s (List.mem_of_getElem? hs), (h2 (j + 1) hj).1, by have := (h2 (j + 1) hj).2; omega⟩, h1, hl⟩
/-- A valid block in new memory. -/
def DrawnB (w : World) (e : Ending) (w' : World) : Prop :=
  ∃ (g m c : Nat) (L : List T), e = .returned (.slice (some ⟨g, 0, none⟩) m c) ∧ Hid (IsBlk L) ∧ m ≤ 20 ∧ w'.ownsRow w.heap.size 31 6 (.slice (some ⟨g, 0, none⟩) m c) m (stsC L) ∧ Below w.heap.size w w'
set_option maxHeartbeats 1000000 in
set_option maxRecDepth 100000 in
theorem drawblock_any (a : Option Addr) (len cap : Nat) (w : World) (hlm : (len : Int) ≤ 1048576) (hb : ∀ i : Nat, i < len → ∃ (b off : Nat) (v : Int), a = some ⟨b, off, none⟩ ∧ w.cell? ⟨b, off + i, none⟩ = some (.int .u8 v)) :
    Calls Try.prog 9 #[.slice a len cap] w (DrawnB w) := by
  have HB := Lib.hid hb
  clear hb
  go_enter Try.func9, Try.ntmps9
  go_wp2_with (go_at_call 32; refine (new_any a len cap _ hlm HB.out).mono ?_; rintro e w1 ⟨rfl, hc1, hb1⟩; refine Hid.out ?_)
  have H1 := Lib.hid hb1
  clear hb1
  refine Lib.hid ?_
  go_wp2_with (go_at_call 31; refine (case_any _ a len cap _ hc1).mono ?_; rintro e w2 ⟨g, m, c, L, rfl, HBK, hm, hbs2⟩)
  go_ret
  have hml : L.length = m := by have := hbs2.1.1; rw [stsC_len] at this; omega
  exact ⟨g, m, c, L, rfl, isBlk_of HBK.out (by omega) (by omega), hm, hbs2.1.mono H1.out.size, H1.out.grown hbs2.2.2 H1.out.size (fun j hj => by cases hj; exact Nat.le_refl _)⟩
end Go.Proofs.Ytjnijmbhlmphlaa.blk

/- The value of an expression is a value and depends on its operands alone: plain mathematics over the functions of the texts before; and the law's own search in a row of numbers. -/
namespace Go.Proofs.Ytjnijmbhlmphlaa.expr
open Go.ChangeShapes Go.WideShapes Go.ChangeAt Go.RowKit Go.Proofs.Ytjnijmbhlmphlaa.row Go.Proofs.Ytjnijmbhlmphlaa.val

theorem mem_rd {a b : Int} {k j : Nat} : (j : Int) ∈ rd a b k ↔ j < k ∧ (a = -1 - (j : Int) ∨ b = -1 - (j : Int)) := by
  simp only [rd, List.mem_map, List.mem_filter, List.mem_range, Bool.or_eq_true, decide_eq_true_eq]
  constructor
  · rintro ⟨i, ⟨h1, h2⟩, e⟩
    have : i = j := by omega
    subst this; exact ⟨h1, h2⟩
  · rintro ⟨h1, h2⟩; exact ⟨j, ⟨h1, h2⟩, rfl⟩
theorem varsOk_set {V : List Int} (h : varsOk V = true) {q : Int} (hq : isVal q = true) (j : Nat) : varsOk (V.set j q) = true := by
  obtain ⟨h1, h2⟩ := (varsOk_iff V).1 h
  refine (varsOk_iff _).2 ⟨by simpa using h1, fun x hx => ?_⟩
  rcases List.mem_or_eq_of_mem_set hx with h | h
  · exact h2 x h
  · rw [h]; exact hq
theorem valOf_set {V : List Int} {q m : Int} {j : Nat} (hm : m ≠ -1 - (j : Int)) : valOf (V.set j q) m = valOf V m := by
  unfold valOf
  split
  · rw [List.getD_eq_getElem?_getD, List.getD_eq_getElem?_getD, List.getElem?_set_ne (by omega)]
  · rfl
theorem evalV_set {V : List Int} {q : Int} {j : Nat} {o a b : Int} (h : varsOk V = true) (hq : isVal q = true) (hj : j < 8) (hn : ¬ (j : Int) ∈ rd a b 8) : evalV (V.set j q) o a b = evalV V o a b := by
  have hne : ¬ (a = -1 - (j : Int) ∨ b = -1 - (j : Int)) := fun h => hn (mem_rd.2 ⟨hj, h⟩)
  unfold evalV
  rw [varsOk_set h hq j, h, valOf_set (fun e => hne (Or.inl e)), valOf_set (fun e => hne (Or.inr e))]
theorem rd_short {a b : Int} (ha : opndOk a = true) (hb : opndOk b = true) : (rd a b 8).length ≤ 2 := by
  rw [← reads_same a b ((opndOk_iff a).1 ha).1 ((opndOk_iff b).1 hb).1]
  refine Nat.le_trans (Lib.compact_length_le _) ?_
  have h : ∀ x, (vk x).length ≤ 1 := fun x => by unfold vk; split <;> simp
  have h1 := h a; have h2 := h b
  rw [srt, List.length_mergeSort, List.length_append]; omega

set_option maxRecDepth 100000 in
theorem has_any (w : World) (a : Option Addr) (n cap : Nat) (L : List Int) (q : Int) (r : Bool) (hn : (n : Int) ≤ 1048576) (h : Row w a n L) (hr : decide (q ∈ L) = r) :
    Calls Try.prog 13 #[.slice a n cap, .int .i64 q] w (RetB w r) := by
  subst hr
  have HL := Lib.hid h.1
  have HC : Hid (∀ k, k < n → ∃ (b off : Nat) (x : Int), a = some ⟨b, off, none⟩ ∧ L[k]? = some x ∧ w.cell? ⟨b, off + k, none⟩ = some (.int .i64 x)) := fun k hk => by
    obtain ⟨b, off, x, e, _, hx, hc⟩ := h.2 k hk
    exact ⟨b, off, x, e, hx, hc⟩
  clear h
  go_enter Try.func13, Try.ntmps13
  go_wp2
  go_loop [5] (fun i => ∃ k : Nat, k ≤ n ∧ i = .int .i64 k ∧ Hid (¬ q ∈ L.take k)) (fun i => n - (intOf i).toNat)
  case atStart => exact ⟨0, Nat.zero_le _, rfl, by simp [Hid]⟩
  case round =>
    obtain ⟨k, hk, rfl, hA⟩ := hrel
    by_cases hlt : k < n
    · obtain ⟨b, off, x, rfl, hx, hc⟩ := HC.out k hlt
      have hI : (k : Int) < n := by omega
      by_cases hq : x = q
      · subst hq
        have HF : Hid (decide (x ∈ L) = true) := by
          show _ = _
          rw [decide_eq_true_eq]; exact List.mem_of_getElem? hx
        clear hx
        go_wp2
        go_ret
        exact ⟨by rw [HF.out]; rfl, rfl⟩
      · have hqb : (x == q) = false := by simpa using hq
        have HA2 : Hid (¬ q ∈ L.take (k + 1)) := by
          show ¬ _
          rw [List.take_add_one, hx, List.mem_append]
          rintro (h | h)
          · exact hA.out h
          · simp at h; exact hq h.symm
        clear hx hq
        go_wp2
        go_round
        case rel => exact ⟨k + 1, by omega, by go_num, HA2⟩
        case measure => simp [intOf]; omega
    · have hkn : k = n := by omega
      subst hkn
      have HF : Hid (decide (q ∈ L) = false) := by
        show _ = _
        rw [decide_eq_false_iff_not]
        have := hA.out
        rwa [List.take_of_length_le (by have := HL.out; omega)] at this
      clear hA
      go_wp2
      go_ret
      exact ⟨by rw [HF.out]; rfl, rfl⟩
end Go.Proofs.Ytjnijmbhlmphlaa.expr
