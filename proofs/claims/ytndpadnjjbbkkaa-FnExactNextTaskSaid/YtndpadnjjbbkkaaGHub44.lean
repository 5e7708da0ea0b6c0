/- Several texts in one: DrawC. -/
import Derived.Test.YtndpadnjjbbkkaaGHub43

/- What the draws of blocks and tasks return: a valid block of at most so many levels, in new memory; nothing that was there is written, but the cursor. -/
namespace Go.Proofs.Ytndpadnjjbbkkaa.cur
open Go.ChangeShapes Go.WideShapes Go.ChangeAt Go.RowKit Go.Proofs.Ytndpadnjjbbkkaa.row Go.Proofs.Ytndpadnjjbbkkaa.val Go.Proofs.Ytndpadnjjbbkkaa.expr Go.Proofs.Ytndpadnjjbbkkaa.stm

abbrev zeroSt : Value := .agg #[.int .i64 0, .int .i64 0, .int .i64 0, .int .i64 0, .int .i64 0, .int .i64 0]
theorem infoStmt : (Try.prog.info? 87).map (fun i => (i.zero, i.size, i.bytes)) = some (some zeroSt, 6, 48) := by kernel_rfl

/-- A row of statements of the call's own, the cursor beside it. -/
def BS (cb : Nat) (a : Option Addr) (len cap : Nat) (w wr : World) (g m c : Nat) (L : List St) : Prop :=
  wr.ownsRow w.heap.size 87 6 (.slice (some ⟨g, 0, none⟩) m c) m (stsC L) ∧ Cur cb a len cap wr ∧ w.grownBy wr (some cb)
section
variable {cb : Nat} {a : Option Addr} {len cap : Nat} {w wr wr' : World} {g m c : Nat} {L : List St}
theorem BS.length_ (h : BS cb a len cap w wr g m c L) : L.length = m := by have := h.1.1; rw [stsC_len] at this; omega
theorem BS.lo (h : BS cb a len cap w wr g m c L) : w.heap.size ≤ g ∧ g < wr.heap.size := h.1.lt g rfl
theorem BS.size (h : BS cb a len cap w wr g m c L) : w.heap.size ≤ wr.heap.size := h.2.2.size
theorem BS.draw (h : BS cb a len cap w wr g m c L) (hcb : cb < w.heap.size) (hc : Cur cb a len cap wr') (hg : wr.grownBy wr' (some cb)) : BS cb a len cap w wr' g m c L :=
  ⟨h.1.kept hg (Or.inr (by simp only [Value.ownBlock]; intro e; have := h.lo; have := Option.some.inj e; omega)), hc, grownBy_trans h.2.2 hg⟩
theorem BS.alloc (h : BS cb a len cap w wr g m c L) (o : Obj) : BS cb a len cap w (wr.alloc o) g m c L :=
  ⟨h.1.alloc o, h.2.1.alloc o, grownBy_trans h.2.2 (World.grownBy_alloc _ _ _)⟩
theorem BS.other (h : BS cb a len cap w wr g m c L) {b : Nat} (hg : wr.grownBy wr' (some b)) (hcb : cb < w.heap.size) (hb : w.heap.size ≤ b) (hne : b ≠ g) : BS cb a len cap w wr' g m c L :=
  ⟨h.1.kept hg (Or.inr (by simp only [Value.ownBlock]; intro e; exact hne (Option.some.inj e).symm)), h.2.1.keep hg (fun j hj => by cases hj; omega), grownBy_own h.2.2 hg (fun j hj => by cases hj; omega)⟩
theorem BS.app {v : Value} {k : Nat} {w1 w2 : World} {M : List St} (h : BS cb a len cap w w1 g m c L) (hcb : cb < w.heap.size) (hk : 0 < m + k)
    (hown : w2.ownsRow w.heap.size 87 6 v (m + k) (stsC L ++ stsC M)) (hgrow : w1.grownBy w2 (Value.slice (some ⟨g, 0, none⟩) m c).ownBlock) :
    ∃ g2 c2, v = .slice (some ⟨g2, 0, none⟩) (m + k) c2 ∧ BS cb a len cap w w2 g2 (m + k) c2 (L ++ M) := by
  obtain ⟨g2, c2, rfl, _, _⟩ := hown.form hk
  have hlo := h.lo
  exact ⟨g2, c2, rfl, by rw [stsC_app]; exact hown, h.2.1.keep hgrow (fun j hj => by simp only [Value.ownBlock] at hj; cases hj; omega), grownBy_own h.2.2 hgrow (fun j hj => by simp only [Value.ownBlock] at hj; cases hj; omega)⟩
end

/-- How long a block of 'n' items with 'j' levels can get. -/
def bnd (j n : Nat) : Nat := if j = 0 then n else if j = 1 then 4 * n else 15 + n
theorem bnd_one {j k m : Nat} (h : m ≤ bnd j k) : m + 1 ≤ bnd j (k + 1) := by
  unfold bnd at *; split at h <;> simp_all <;> (try split at h) <;> simp_all <;> omega
theorem bnd_nest {j k m m2 n2 : Nat} (h : m ≤ bnd (j + 1) k) (hj : j + 1 ≤ 2) (h6 : m < 6) (hn : n2 ≤ 2) (h2 : m2 ≤ bnd j n2) : m + 1 + m2 + 1 ≤ bnd (j + 1) (k + 1) := by
  rcases (show j = 0 ∨ j = 1 by omega) with rfl | rfl <;> simp [bnd] at * <;> omega
theorem bnd_le {j n : Nat} (hn : n ≤ 5) : bnd j n ≤ 20 := by unfold bnd; split <;> (try split) <;> omega

/-- A valid block in new memory; the cursor stays one. -/
def BlkOut (j : Nat) (n : Nat) (cb : Nat) (a : Option Addr) (len cap : Nat) (w : World) (e : Ending) (w' : World) : Prop :=
  ∃ (g m c : Nat) (L : List St), e = .returned (.slice (some ⟨g, 0, none⟩) m c) ∧ Hid (Blk j L) ∧ m ≤ bnd j n ∧ BS cb a len cap w w' g m c L

theorem zero_start {cb : Nat} {a : Option Addr} {len cap : Nat} {w : World} (hc : Cur cb a len cap w) : BS cb a len cap w (w.alloc (.cells #[] 87)) w.heap.size 0 0 [] :=
  ⟨World.ownsRow_made w #[] 0 (Nat.le_refl _) (by decide) rfl, hc.alloc _, World.grownBy_alloc _ _ _⟩

theorem stsC_one_cell (L : List St) : ∀ u ∈ stsC L, u.oneCell' = true := by
  intro u hu
  obtain ⟨s, _, hs⟩ := List.mem_flatMap.1 hu
  simp [stC] at hs
  rcases hs with rfl | rfl | rfl | rfl | rfl | rfl <;> rfl
set_option maxHeartbeats 4000000 in
set_option maxRecDepth 100000 in
theorem block_zero (cb : Nat) (a : Option Addr) (len cap : Nat) (n : Nat) (w : World) (hn : n ≤ 5) (hc : Cur cb a len cap w) :
    Calls Try.prog 89 #[.pointer (some ⟨cb, 0, none⟩), .int .i64 n, .int .i64 2] w (BlkOut 0 n cb a len cap w) := by
  obtain ⟨i0, hi, hz0, hz1, hz2⟩ := info_parts infoStmt
  have hcb := hc.lt
  go_enter Try.func89, Try.ntmps89
  go_wp2
  go_loopw [7, 8, 9] (fun v i _ wr => ∃ (k g m c : Nat) (L : List St), k ≤ n ∧ i = .int .i64 k ∧ v = .slice (some ⟨g, 0, none⟩) m c ∧ Hid (Blk 0 L) ∧ m ≤ bnd 0 k ∧ BS cb a len cap w wr g m c L) (fun _ i _ _ => n - (intOf i).toNat)
  case atStart => exact ⟨0, w.heap.size, 0, 0, [], Nat.zero_le _, rfl, rfl, .nil _, Nat.zero_le _, zero_start hc⟩
  case round =>
    obtain ⟨k, g, m, c, L, hk, rfl, rfl, HB, hm, hbs⟩ := hrel
    have hmb := Nat.le_trans hm (bnd_le (j := 0) (n := k) (by omega))
    by_cases hlt : k < n
    · have hI : (k : Int) < n := by omega
      have H1 := Lib.hid hbs
      have hcu := hbs.2.1
      clear hbs
      go_wp2_with (go_at_call 125; refine (stmt_from _ cb a len cap _ hcu (grownBy_refl _ _)).mono ?_; rintro e w2 ⟨s, rfl, hsok, hs1, hs3, hc2, hg2⟩; refine Hid.out ?_)
      have HS := Lib.hid (H1.out.draw hcb hc2 hg2)
      have HSO := Lib.hid (And.intro hsok (And.intro hs1 hs3))
      clear hsok hs1 hs3 hg2 hcu
      refine Lib.hid ?_
      go_wp2_with (at_builtin; refine wpList_append_own _ rfl _ _ 40 rfl w.heap.size 87 i0 zeroSt 6 48 Try.underlying40 hi hz0 hz1 hz2 rfl (by decide) _ _ _ rfl (HS.out.1.alloc _) ⟨w2.heap.size, 0, none⟩ 1 1 [.int .i64 s.k, .int .i64 s.v, .int .i64 s.n, .int .i64 s.o, .int .i64 s.a, .int .i64 s.b] rfl rfl (World.news_of_block (cs := #[.int .i64 s.k, .int .i64 s.v, .int .i64 s.n, .int .i64 s.o, .int .i64 s.a, .int .i64 s.b]) (t := 87) (fr := (0, 0)) (heap_alloc_new w2 _)) (by simp [Value.oneCell']) (by unfold maxLen; omega) (by omega) (by have := HS.out.size; simp; omega) ?_; intro v3 w3 hown3 hgrow3 _; refine Hid.out ?_)
      obtain ⟨g3, c3, rfl, hbs3⟩ := BS.app (k := 1) (M := [s]) (HS.out.alloc (.cells #[.int .i64 s.k, .int .i64 s.v, .int .i64 s.n, .int .i64 s.o, .int .i64 s.a, .int .i64 s.b] 87)) hcb (by omega) (by rw [stsC_one]; exact hown3) hgrow3
      have H3 := Lib.hid hbs3
      have HB3 : Hid (Blk 0 (L ++ [s])) := HB.out.snoc HSO.out.1 HSO.out.2.1 HSO.out.2.2
      have hm3 := bnd_one hm
      clear hown3 hgrow3 hbs3
      refine Lib.hid ?_
      go_wp2
      go_roundw
      case rel => exact ⟨k + 1, g3, m + 1, c3, L ++ [s], by omega, by go_num, rfl, HB3, hm3, H3.out⟩
      case measure => simp [intOf]; omega
    · have hkn : k = n := by omega
      subst hkn
      have H1 := Lib.hid hbs
      clear hbs
      go_wp2
      go_ret
      exact ⟨g, m, c, L, rfl, HB, hm, H1.out⟩

end Go.Proofs.Ytndpadnjjbbkkaa.cur
