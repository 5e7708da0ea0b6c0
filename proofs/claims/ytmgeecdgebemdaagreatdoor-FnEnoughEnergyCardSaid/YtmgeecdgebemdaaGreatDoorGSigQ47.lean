/- Several texts in one: QDrawC QDrawD QDrawE. -/
import Derived.Test.YtmgeecdgebemdaaGreatDoorGSigQ46
import Derived.Test.YtmgeecdgebemdaaGreatDoorGSigQ3

/- What the draws of blocks and tasks return: a valid block of at most so many levels, in new memory; nothing that was there is written, but the cursor. -/
namespace Go.Proofs.YtmgeecdgebemdaaGreatDoor.cur
open Go.ChangeShapes Go.WideShapes Go.ChangeAt Go.RowKit Go.Proofs.YtmgeecdgebemdaaGreatDoor.row Go.Proofs.YtmgeecdgebemdaaGreatDoor.val Go.Proofs.YtmgeecdgebemdaaGreatDoor.expr Go.Proofs.YtmgeecdgebemdaaGreatDoor.stm
abbrev zeroSt : Value := .agg #[.int .i64 0, .int .i64 0, .int .i64 0, .int .i64 0, .int .i64 0, .int .i64 0]
theorem infoStmt : (Tryz.prog.info? 112).map (fun i => (i.zero, i.size, i.bytes)) = some (some zeroSt, 6, 48) := by kernel_rfl

/-- A row of statements of the call's own, the cursor beside it. -/
def BS (cb : Nat) (a : Option Addr) (len cap : Nat) (w wr : World) (g m c : Nat) (L : List St) : Prop :=
  wr.ownsRow w.heap.size 112 6 (.slice (some ⟨g, 0, none⟩) m c) m (stsC L) ∧ Cur cb a len cap wr ∧ w.grownBy wr (some cb)
section
variable {cb : Nat} {a : Option Addr} {len cap : Nat} {w wr wr' : World} {g m c : Nat} {L : List St}
theorem BS.length_ (h : BS cb a len cap w wr g m c L) : L.length = m := by have := h.1.1; rw [stsC_len] at this; omega
theorem BS.lo (h : BS cb a len cap w wr g m c L) : w.heap.size ≤ g ∧ g < wr.heap.size := h.1.lt g rfl
theorem BS.size (h : BS cb a len cap w wr g m c L) : w.heap.size ≤ wr.heap.size := h.2.2.size
theorem BS.draw (h : BS cb a len cap w wr g m c L) (hcb : cb < w.heap.size) (hc : Cur cb a len cap wr') (hg : wr.grownBy wr' (some cb)) : BS cb a len cap w wr' g m c L :=
  ⟨h.1.kept hg (Or.inr (by simp only [Value.ownBlock]; intro e; have := h.lo; have := Option.some.inj e; omega)), hc, grownBy_trans h.2.2 hg⟩
theorem BS.alloc (h : BS cb a len cap w wr g m c L) (o : Obj) : BS cb a len cap w (wr.alloc o) g m c L :=
  ⟨h.1.alloc o, h.2.1.alloc o, grownBy_trans h.2.2 (World.grownBy_alloc _ _ _)⟩
theorem BS.other (h : BS cb a len cap w wr g m c L) {b : Nat} (hg : wr.grownBy wr' (some b)) (hcb : cb < w.heap.size) (hb : w.heap.size ≤ b) (hne : b ≠ g) : BS cb a len cap w wr' g m c L :=
  ⟨h.1.kept hg (Or.inr (by simp only [Value.ownBlock]; intro e; exact hne (Option.some.inj e).symm)), h.2.1.keep hg (fun j hj => by cases hj; omega), grownBy_own h.2.2 hg (fun j hj => by cases hj; omega)⟩
theorem BS.app {v : Value} {k : Nat} {w1 w2 : World} {M : List St} (h : BS cb a len cap w w1 g m c L) (hcb : cb < w.heap.size) (hk : 0 < m + k)
    (hown : w2.ownsRow w.heap.size 112 6 v (m + k) (stsC L ++ stsC M)) (hgrow : w1.grownBy w2 (Value.slice (some ⟨g, 0, none⟩) m c).ownBlock) :
    ∃ g2 c2, v = .slice (some ⟨g2, 0, none⟩) (m + k) c2 ∧ BS cb a len cap w w2 g2 (m + k) c2 (L ++ M) := by
  obtain ⟨g2, c2, rfl, _, _⟩ := hown.form hk
  have hlo := h.lo
  exact ⟨g2, c2, rfl, by rw [stsC_app]; exact hown, h.2.1.keep hgrow (fun j hj => by simp only [Value.ownBlock] at hj; cases hj; omega), grownBy_own h.2.2 hgrow (fun j hj => by simp only [Value.ownBlock] at hj; cases hj; omega)⟩
end
/-- How long a block of 'n' items with 'j' levels can get. -/
def bnd (j n : Nat) : Nat := if j = 0 then n else if j = 1 then 4 * n else 15 + n
theorem bnd_one {j k m : Nat} (h : m ≤ bnd j k) : m + 1 ≤ bnd j (k + 1) := by
  unfold bnd at *; split at h <;> simp_all <;> (try split at h) <;> simp_all <;> omega
theorem bnd_nest {j k m m2 n2 : Nat} (h : m ≤ bnd (j + 1) k) (hj : j + 1 ≤ 2) (h6 : m < 6) (hn : n2 ≤ 2) (h2 : m2 ≤ bnd j n2) : m + 1 + m2 + 1 ≤ bnd (j + 1) (k + 1) := by
  rcases (show j = 0 ∨ j = 1 by omega) with rfl | rfl <;> simp [bnd] at * <;> omega
theorem bnd_le {j n : Nat} (hn : n ≤ 5) : bnd j n ≤ 20 := by unfold bnd; split <;> (try split) <;> omega

/-- A valid block in new memory; the cursor stays one. -/
def BlkOut (j : Nat) (n : Nat) (cb : Nat) (a : Option Addr) (len cap : Nat) (w : World) (e : Ending) (w' : World) : Prop :=
  ∃ (g m c : Nat) (L : List St), e = .returned (.slice (some ⟨g, 0, none⟩) m c) ∧ Hid (Blk j L) ∧ m ≤ bnd j n ∧ BS cb a len cap w w' g m c L

theorem zero_start {cb : Nat} {a : Option Addr} {len cap : Nat} {w : World} (hc : Cur cb a len cap w) : BS cb a len cap w (w.alloc (.cells #[] 112)) w.heap.size 0 0 [] :=
  ⟨World.ownsRow_made w #[] 0 (Nat.le_refl _) (by decide) rfl, hc.alloc _, World.grownBy_alloc _ _ _⟩

theorem stsC_one_cell (L : List St) : ∀ u ∈ stsC L, u.oneCell' = true := by
  intro u hu
  obtain ⟨s, _, hs⟩ := List.mem_flatMap.1 hu
  simp [stC] at hs
  rcases hs with rfl | rfl | rfl | rfl | rfl | rfl <;> rfl
set_option maxHeartbeats 4000000 in
set_option maxRecDepth 100000 in
theorem block_zero (cb : Nat) (a : Option Addr) (len cap : Nat) (n : Nat) (w : World) (hn : n ≤ 5) (hc : Cur cb a len cap w) :
    Calls Tryz.prog 160 #[.pointer (some ⟨cb, 0, none⟩), .int .i64 n, .int .i64 2] w (BlkOut 0 n cb a len cap w) := by
  obtain ⟨i0, hi, hz0, hz1, hz2⟩ := info_parts infoStmt
  have hcb := hc.lt
  go_enter Tryz.func160, Tryz.ntmps160
  go_wp2
  go_loopw [7, 8, 9] (fun v i _ wr => ∃ (k g m c : Nat) (L : List St), k ≤ n ∧ i = .int .i64 k ∧ v = .slice (some ⟨g, 0, none⟩) m c ∧ Hid (Blk 0 L) ∧ m ≤ bnd 0 k ∧ BS cb a len cap w wr g m c L) (fun _ i _ _ => n - (intOf i).toNat)
  case atStart => exact ⟨0, w.heap.size, 0, 0, [], Nat.zero_le _, rfl, rfl, .nil _, Nat.zero_le _, zero_start hc⟩
  case round =>
    obtain ⟨k, g, m, c, L, hk, rfl, rfl, HB, hm, hbs⟩ := hrel
    have hmb := Nat.le_trans hm (bnd_le (j := 0) (n := k) (by omega))
    by_cases hlt : k < n
    · have hI : (k : Int) < n := by omega
      have H1 := Lib.hid hbs
      have hcu := hbs.2.1
      clear hbs
      go_wp2_with (go_at_call 204; refine (stmt_from _ cb a len cap _ hcu (grownBy_refl _ _)).mono ?_; rintro e w2 ⟨s, rfl, hsok, hs1, hs3, hc2, hg2⟩; refine Hid.out ?_)
      have HS := Lib.hid (H1.out.draw hcb hc2 hg2)
      have HSO := Lib.hid (And.intro hsok (And.intro hs1 hs3))
      clear hsok hs1 hs3 hg2 hcu
      refine Lib.hid ?_
      go_wp2_with (at_builtin; refine wpList_append_own _ rfl _ _ 92 rfl w.heap.size 112 i0 zeroSt 6 48 Tryz.underlying92 hi hz0 hz1 hz2 rfl (by decide) _ _ _ rfl (HS.out.1.alloc _) ⟨w2.heap.size, 0, none⟩ 1 1 [.int .i64 s.k, .int .i64 s.v, .int .i64 s.n, .int .i64 s.o, .int .i64 s.a, .int .i64 s.b] rfl rfl (World.news_of_block (cs := #[.int .i64 s.k, .int .i64 s.v, .int .i64 s.n, .int .i64 s.o, .int .i64 s.a, .int .i64 s.b]) (t := 112) (fr := (0, 0)) (heap_alloc_new w2 _)) (by simp [Value.oneCell']) (by unfold maxLen; omega) (by omega) (by have := HS.out.size; simp; omega) ?_; intro v3 w3 hown3 hgrow3 _; refine Hid.out ?_)
      obtain ⟨g3, c3, rfl, hbs3⟩ := BS.app (k := 1) (M := [s]) (HS.out.alloc (.cells #[.int .i64 s.k, .int .i64 s.v, .int .i64 s.n, .int .i64 s.o, .int .i64 s.a, .int .i64 s.b] 112)) hcb (by omega) (by rw [stsC_one]; exact hown3) hgrow3
      have H3 := Lib.hid hbs3
      have HB3 : Hid (Blk 0 (L ++ [s])) := HB.out.snoc HSO.out.1 HSO.out.2.1 HSO.out.2.2
      have hm3 := bnd_one hm
      clear hown3 hgrow3 hbs3
      refine Lib.hid ?_
      go_wp2
      go_roundw
      case rel => exact ⟨k + 1, g3, m + 1, c3, L ++ [s], by omega, by go_num, rfl, HB3, hm3, H3.out⟩
      case measure => simp [intOf]; omega
    · have hkn : k = n := by omega
      subst hkn
      have H1 := Lib.hid hbs
      clear hbs
      go_wp2
      go_ret
      exact ⟨g, m, c, L, rfl, HB, hm, H1.out⟩

end Go.Proofs.YtmgeecdgebemdaaGreatDoor.cur

/- The draw of blocks, one level more: a valid block of at most so many levels, in new memory. -/
namespace Go.Proofs.YtmgeecdgebemdaaGreatDoor.cur
open Go.ChangeShapes Go.WideShapes Go.ChangeAt Go.RowKit Go.Proofs.YtmgeecdgebemdaaGreatDoor.row Go.Proofs.YtmgeecdgebemdaaGreatDoor.val Go.Proofs.YtmgeecdgebemdaaGreatDoor.expr Go.Proofs.YtmgeecdgebemdaaGreatDoor.stm
set_option maxHeartbeats 8000000 in
set_option maxRecDepth 100000 in
theorem block_succ (j : Nat) (hj : j + 1 ≤ 2) (D : Int) (hD : D = 1 - (j : Int))
    (ih : ∀ (cb : Nat) (a : Option Addr) (len cap : Nat) (n : Nat) (w : World), n ≤ 5 → Cur cb a len cap w → Calls Tryz.prog 160 #[.pointer (some ⟨cb, 0, none⟩), .int .i64 n, .int .i64 (D + 1)] w (BlkOut j n cb a len cap w))
    (cb : Nat) (a : Option Addr) (len cap : Nat) (n : Nat) (w : World) (hn : n ≤ 5) (hc : Cur cb a len cap w) :
    Calls Tryz.prog 160 #[.pointer (some ⟨cb, 0, none⟩), .int .i64 n, .int .i64 D] w (BlkOut (j + 1) n cb a len cap w) := by
  obtain ⟨i0, hi, hz0, hz1, hz2⟩ := info_parts infoStmt
  have hcb := hc.lt
  have hD2 : D < 2 := by omega
  have hD0 : 0 ≤ D := by omega
  have HIH : Hid (∀ (zn : Nat), 1 + zn ≤ 2 → ∀ W, Cur cb a len cap W → Calls Tryz.prog 160 #[.pointer (some ⟨cb, 0, none⟩), .int .i64 (1 + (zn : Int)), .int .i64 (D + 1)] W (BlkOut j (1 + zn) cb a len cap W)) := by
    intro zn hz W hW
    have h := ih cb a len cap (1 + zn) W (by omega) hW
    rw [show ((1 + zn : Nat) : Int) = 1 + (zn : Int) by omega] at h
    exact h
  clear ih hD
  go_enter Tryz.func160, Tryz.ntmps160
  go_wp2
  go_loopw [7, 8, 9] (fun v i _ wr => ∃ (k g m c : Nat) (L : List St), k ≤ n ∧ i = .int .i64 k ∧ v = .slice (some ⟨g, 0, none⟩) m c ∧ Hid (Blk (j + 1) L) ∧ m ≤ bnd (j + 1) k ∧ BS cb a len cap w wr g m c L) (fun _ i _ _ => n - (intOf i).toNat)
  case atStart => exact ⟨0, w.heap.size, 0, 0, [], Nat.zero_le _, rfl, rfl, .nil _, Nat.zero_le _, zero_start hc⟩
  case round =>
    obtain ⟨k, g, m, c, L, hk, rfl, rfl, HB, hm, hbs⟩ := hrel
    have hmb := Nat.le_trans hm (bnd_le (j := j + 1) (n := k) (by omega))
    by_cases hlt : k < n
    · have hI : (k : Int) < n := by omega
      have H1 := Lib.hid hbs
      have hcu := hbs.2.1
      clear hbs
      by_cases h6 : m < 6
      · have h6' : (m : Int) < 6 := by omega
        go_wp2_with (go_at_call 203; refine (once_from _ cb a len cap _ (by omega) _ hcu (grownBy_refl _ _)).mono ?_; rintro e w1 ⟨q, rfl, hc1, hg1⟩; refine Hid.out ?_)
        have H1b := Lib.hid (H1.out.draw hcb hc1 hg1)
        clear hcu hg1 H1
        cases q
        · have H1 := H1b
          have hcu := hc1
          clear H1b hc1
          refine Lib.hid ?_
          go_wp2_with (go_at_call 204; refine (stmt_from _ cb a len cap _ hcu (grownBy_refl _ _)).mono ?_; rintro e w2 ⟨s, rfl, hsok, hs1, hs3, hc2, hg2⟩; refine Hid.out ?_)
          have HS := Lib.hid (H1.out.draw hcb hc2 hg2)
          have HSO := Lib.hid (And.intro hsok (And.intro hs1 hs3))
          clear hsok hs1 hs3 hg2 hcu
          refine Lib.hid ?_
          go_wp2_with (at_builtin; refine wpList_append_own _ rfl _ _ 92 rfl w.heap.size 112 i0 zeroSt 6 48 Tryz.underlying92 hi hz0 hz1 hz2 rfl (by decide) _ _ _ rfl (HS.out.1.alloc _) ⟨w2.heap.size, 0, none⟩ 1 1 [.int .i64 s.k, .int .i64 s.v, .int .i64 s.n, .int .i64 s.o, .int .i64 s.a, .int .i64 s.b] rfl rfl (World.news_of_block (cs := #[.int .i64 s.k, .int .i64 s.v, .int .i64 s.n, .int .i64 s.o, .int .i64 s.a, .int .i64 s.b]) (t := 112) (fr := (0, 0)) (heap_alloc_new w2 _)) (by simp [Value.oneCell']) (by unfold maxLen; omega) (by omega) (by have := HS.out.size; simp; omega) ?_; intro v3 w3 hown3 hgrow3 _; refine Hid.out ?_)
          obtain ⟨g3, c3, rfl, hbs3⟩ := BS.app (k := 1) (M := [s]) (HS.out.alloc (.cells #[.int .i64 s.k, .int .i64 s.v, .int .i64 s.n, .int .i64 s.o, .int .i64 s.a, .int .i64 s.b] 112)) hcb (by omega) (by rw [stsC_one]; exact hown3) hgrow3
          have H3 := Lib.hid hbs3
          have HB3 : Hid (Blk (j + 1) (L ++ [s])) := HB.out.snoc HSO.out.1 HSO.out.2.1 HSO.out.2.2
          have hm3 := bnd_one hm
          clear hown3 hgrow3 hbs3
          refine Lib.hid ?_
          go_wp2
          go_roundw
          case rel => exact ⟨k + 1, g3, m + 1, c3, L ++ [s], by omega, by go_num, rfl, HB3, hm3, H3.out⟩
          case measure => simp [intOf]; omega
        · refine Lib.hid ?_
          go_wp2_with (go_at_call 55; refine (below_any cb a len cap _ (by omega) _ hc1).mono ?_; rintro e w2 ⟨z, rfl, hz0', hz1', hc2, hg2⟩; refine Hid.out ?_)
          have H2 := Lib.hid (H1b.out.draw hcb hc2 hg2)
          have hlo2 := H2.out.lo
          have hsz2 := H2.out.size
          have hcb2 : cb < w2.heap.size := by omega
          clear H1b hc1 hg2
          refine Lib.hid ?_
          go_wp2_with (go_at_call 203; refine (once_from _ cb a len cap _ (by omega) _ (hc2.alloc _) (grownBy_refl _ _)).mono ?_; rintro e w3 ⟨q, rfl, hc3, hg3⟩; refine Hid.out ?_)
          have hb3 : Box w2.heap.size #[.int .i64 5, .int .i64 0, .int .i64 (1 + z), .int .i64 0, .int .i64 0, .int .i64 0] 112 w3 := by
            exact Box.grown (Box.new w2 _ _) hg3 (by intro e; have := Option.some.inj e; omega)
          have H3 := Lib.hid (And.intro hb3 ((H2.out.alloc _).draw hcb hc3 hg3))
          have hgb : w2.heap.size ≠ g := by omega
          clear hb3 hg3 H2 hc2
          cases q
          · obtain ⟨wx, rfl⟩ : ∃ wx, wx = w3 := ⟨_, rfl⟩
            have HX := H3
            have HS := Lib.hid H3.out.2
            have HSO := Lib.hid (And.intro (stOk_loop (n := 1 + z) (by omega) (by omega)) (Or.inr rfl : ((⟨5, 0, 1 + z, 0, 0, 0⟩ : St).k = 4 ∨ (⟨5, 0, 1 + z, 0, 0, 0⟩ : St).k = 5)))
            clear H3 hc3
            refine Lib.hid ?_
            go_wp2_with (first
              | (refine wpList_load_row rfl 112 _ rfl w2.heap.size rfl _ #[.int .i64 5, .int .i64 0, .int .i64 (1 + z), .int .i64 0, .int .i64 0, .int .i64 0] _ _ HX.out.1 Tryz.underlying112 rfl (by kernel_rfl) ?_)
              | (at_builtin; refine wpList_append_own _ rfl _ _ 92 rfl w.heap.size 112 i0 zeroSt 6 48 Tryz.underlying92 hi hz0 hz1 hz2 rfl (by decide) _ _ _ rfl (HS.out.1.alloc _) ⟨wx.heap.size, 0, none⟩ 1 1 [.int .i64 5, .int .i64 0, .int .i64 (1 + z), .int .i64 0, .int .i64 0, .int .i64 0] rfl rfl (World.news_of_block (cs := #[.int .i64 5, .int .i64 0, .int .i64 (1 + z), .int .i64 0, .int .i64 0, .int .i64 0]) (t := 112) (fr := (0, 0)) (heap_alloc_new wx _)) (by simp [Value.oneCell']) (by unfold maxLen; omega) (by omega) (by have := HS.out.size; simp; omega) ?_; intro v3 w3 hown3 hgrow3 _; refine Hid.out ?_))
            obtain ⟨g3, c3, rfl, hbs3⟩ := BS.app (k := 1) (M := [⟨5, 0, (1 + z), 0, 0, 0⟩]) (HS.out.alloc (.cells #[.int .i64 5, .int .i64 0, .int .i64 (1 + z), .int .i64 0, .int .i64 0, .int .i64 0] 112)) hcb (by omega) (by rw [stsC_one]; exact hown3) hgrow3
            have H3 := Lib.hid hbs3
            have hcu3 := hbs3.2.1
            clear hown3 hgrow3 hbs3 HS HX
            refine Lib.hid ?_
            go_wp2_with (go_at_call 55; refine (below_any cb a len cap _ (by omega) _ hcu3).mono ?_; rintro e w6 ⟨z2, rfl, hz20, hz21, hc6, hg6⟩; refine Hid.out ?_)
            obtain ⟨zn, rfl⟩ : ∃ zn : Nat, z2 = (zn : Int) := ⟨z2.toNat, by omega⟩
            have HS := Lib.hid (H3.out.draw hcb hc6 hg6)
            have hc7 := hc6
            clear hg6 hcu3 H3
            have hzn : 1 + zn ≤ 2 := by omega
            refine Lib.hid ?_
            go_wp2_with (go_at_call 160; refine (HIH.out zn hzn _ hc7).mono ?_; rintro e w7 ⟨g7, m7, c7, B, rfl, HB7, hm7, hbs7⟩; refine Hid.out ?_)
            have hm7b : m7 ≤ 20 := Nat.le_trans hm7 (bnd_le (by omega))
            have HS7 := Lib.hid (HS.out.draw hcb hbs7.2.1 hbs7.2.2)
            have H7 := Lib.hid hbs7
            have hsz7 := HS.out.size
            have hsz67 := hbs7.size
            clear hbs7 HS hc7 hc6
            refine Lib.hid ?_
            go_wp2_with (at_builtin; refine wpList_append_own _ rfl _ _ 92 rfl w.heap.size 112 i0 zeroSt 6 48 Tryz.underlying92 hi hz0 hz1 hz2 rfl (by decide) _ _ _ rfl HS7.out.1 ⟨g7, 0, none⟩ m7 c7 (stsC B) rfl H7.out.1.1 (H7.out.1.cells (g := g7) rfl) (stsC_one_cell B) (by unfold maxLen; omega) (by omega) (by omega) ?_; intro v8 w8 hown8 hgrow8 _; refine Hid.out ?_)
            obtain ⟨g8, c8, rfl, hbs8⟩ := BS.app (k := m7) (M := B) HS7.out hcb (by omega) hown8 hgrow8
            have HS := Lib.hid hbs8
            have HL7 := Lib.hid (And.intro H7.out.length_ HB7.out)
            clear hown8 hgrow8 hbs8 HS7 H7
            refine Lib.hid ?_
            go_wp2_with (at_builtin; refine wpList_append_own _ rfl _ _ 92 rfl w.heap.size 112 i0 zeroSt 6 48 Tryz.underlying92 hi hz0 hz1 hz2 rfl (by decide) _ _ _ rfl (HS.out.1.alloc _) ⟨w8.heap.size, 0, none⟩ 1 1 [.int .i64 6, .int .i64 0, .int .i64 0, .int .i64 0, .int .i64 0, .int .i64 0] rfl rfl (World.news_of_block (cs := #[.int .i64 6, .int .i64 0, .int .i64 0, .int .i64 0, .int .i64 0, .int .i64 0]) (t := 112) (fr := (0, 0)) (heap_alloc_new w8 _)) (by simp [Value.oneCell']) (by unfold maxLen; omega) (by omega) (by have := HS.out.size; simp; omega) ?_; intro v9 w9 hown9 hgrow9 _; refine Hid.out ?_)
            obtain ⟨g9, c9, rfl, hbs9⟩ := BS.app (k := 1) (M := [endSt]) (HS.out.alloc (.cells #[.int .i64 6, .int .i64 0, .int .i64 0, .int .i64 0, .int .i64 0, .int .i64 0] 112)) hcb (by omega) (by rw [stsC_one]; exact hown9) hgrow9
            have H9 := Lib.hid hbs9
            have HB9 : Hid (Blk (j + 1) (((L ++ [⟨5, 0, (1 + z), 0, 0, 0⟩]) ++ B) ++ [endSt])) := HB.out.wrap HSO.out.1 (by simp) HL7.out.2
            have hm9 := bnd_nest hm (by omega) h6 hzn hm7
            clear hown9 hgrow9 hbs9
            refine Lib.hid ?_
            go_wp2
            go_roundw
            case rel => exact ⟨k + 1, g9, m + 1 + m7 + 1, c9, _, by omega, by go_num, rfl, HB9, hm9, H9.out⟩
            case measure => simp [intOf]; omega
          · refine Lib.hid ?_
            go_wp2_with (go_at_call 112; refine (expr_from _ cb a len cap _ hc3 (grownBy_refl _ _)).mono ?_; rintro e w5 ⟨o, x, y, rfl, hok, hc5, hg5⟩; refine Hid.out ?_)
            have hb5 := H3.out.1.grown hg5 (by intro e; have := Option.some.inj e; omega)
            have hs5 := H3.out.2.draw hcb hc5 hg5
            have H5 := Lib.hid (And.intro hb5 hs5)
            clear hb5 hs5 hg5 hc5 hc3 H3
            refine Lib.hid ?_
            go_wp2_with ((refine wpList_store_box rfl 112 _ _ rfl w2.heap.size _ _ H5.out.1 #[.int .i64 4, .int .i64 0, .int .i64 0, .int .i64 o, .int .i64 x, .int .i64 y] rfl rfl rfl (by kernel_rfl) (by simp [Value.oneCell']) ?_); intro wx hbx hgx; refine Hid.out ?_)
            have HX := Lib.hid (And.intro hbx (H5.out.2.other hgx hcb (by omega) hgb))
            have HS := Lib.hid HX.out.2
            have HSO := Lib.hid (And.intro (stOk_if hok) (Or.inl rfl : ((⟨4, 0, 0, o, x, y⟩ : St).k = 4 ∨ (⟨4, 0, 0, o, x, y⟩ : St).k = 5)))
            clear hbx hgx H5 hok
            refine Lib.hid ?_
            go_wp2_with (first
              | (refine wpList_load_row rfl 112 _ rfl w2.heap.size rfl _ #[.int .i64 4, .int .i64 0, .int .i64 0, .int .i64 o, .int .i64 x, .int .i64 y] _ _ HX.out.1 Tryz.underlying112 rfl (by kernel_rfl) ?_)
              | (at_builtin; refine wpList_append_own _ rfl _ _ 92 rfl w.heap.size 112 i0 zeroSt 6 48 Tryz.underlying92 hi hz0 hz1 hz2 rfl (by decide) _ _ _ rfl (HS.out.1.alloc _) ⟨wx.heap.size, 0, none⟩ 1 1 [.int .i64 4, .int .i64 0, .int .i64 0, .int .i64 o, .int .i64 x, .int .i64 y] rfl rfl (World.news_of_block (cs := #[.int .i64 4, .int .i64 0, .int .i64 0, .int .i64 o, .int .i64 x, .int .i64 y]) (t := 112) (fr := (0, 0)) (heap_alloc_new wx _)) (by simp [Value.oneCell']) (by unfold maxLen; omega) (by omega) (by have := HS.out.size; simp; omega) ?_; intro v3 w3 hown3 hgrow3 _; refine Hid.out ?_))
            obtain ⟨g3, c3, rfl, hbs3⟩ := BS.app (k := 1) (M := [⟨4, 0, 0, o, x, y⟩]) (HS.out.alloc (.cells #[.int .i64 4, .int .i64 0, .int .i64 0, .int .i64 o, .int .i64 x, .int .i64 y] 112)) hcb (by omega) (by rw [stsC_one]; exact hown3) hgrow3
            have H3 := Lib.hid hbs3
            have hcu3 := hbs3.2.1
            clear hown3 hgrow3 hbs3 HS HX
            refine Lib.hid ?_
            go_wp2_with (go_at_call 55; refine (below_any cb a len cap _ (by omega) _ hcu3).mono ?_; rintro e w6 ⟨z2, rfl, hz20, hz21, hc6, hg6⟩; refine Hid.out ?_)
            obtain ⟨zn, rfl⟩ : ∃ zn : Nat, z2 = (zn : Int) := ⟨z2.toNat, by omega⟩
            have HS := Lib.hid (H3.out.draw hcb hc6 hg6)
            have hc7 := hc6
            clear hg6 hcu3 H3
            have hzn : 1 + zn ≤ 2 := by omega
            refine Lib.hid ?_
            go_wp2_with (go_at_call 160; refine (HIH.out zn hzn _ hc7).mono ?_; rintro e w7 ⟨g7, m7, c7, B, rfl, HB7, hm7, hbs7⟩; refine Hid.out ?_)
            have hm7b : m7 ≤ 20 := Nat.le_trans hm7 (bnd_le (by omega))
            have HS7 := Lib.hid (HS.out.draw hcb hbs7.2.1 hbs7.2.2)
            have H7 := Lib.hid hbs7
            have hsz7 := HS.out.size
            have hsz67 := hbs7.size
            clear hbs7 HS hc7 hc6
            refine Lib.hid ?_
            go_wp2_with (at_builtin; refine wpList_append_own _ rfl _ _ 92 rfl w.heap.size 112 i0 zeroSt 6 48 Tryz.underlying92 hi hz0 hz1 hz2 rfl (by decide) _ _ _ rfl HS7.out.1 ⟨g7, 0, none⟩ m7 c7 (stsC B) rfl H7.out.1.1 (H7.out.1.cells (g := g7) rfl) (stsC_one_cell B) (by unfold maxLen; omega) (by omega) (by omega) ?_; intro v8 w8 hown8 hgrow8 _; refine Hid.out ?_)
            obtain ⟨g8, c8, rfl, hbs8⟩ := BS.app (k := m7) (M := B) HS7.out hcb (by omega) hown8 hgrow8
            have HS := Lib.hid hbs8
            have HL7 := Lib.hid (And.intro H7.out.length_ HB7.out)
            clear hown8 hgrow8 hbs8 HS7 H7
            refine Lib.hid ?_
            go_wp2_with (at_builtin; refine wpList_append_own _ rfl _ _ 92 rfl w.heap.size 112 i0 zeroSt 6 48 Tryz.underlying92 hi hz0 hz1 hz2 rfl (by decide) _ _ _ rfl (HS.out.1.alloc _) ⟨w8.heap.size, 0, none⟩ 1 1 [.int .i64 6, .int .i64 0, .int .i64 0, .int .i64 0, .int .i64 0, .int .i64 0] rfl rfl (World.news_of_block (cs := #[.int .i64 6, .int .i64 0, .int .i64 0, .int .i64 0, .int .i64 0, .int .i64 0]) (t := 112) (fr := (0, 0)) (heap_alloc_new w8 _)) (by simp [Value.oneCell']) (by unfold maxLen; omega) (by omega) (by have := HS.out.size; simp; omega) ?_; intro v9 w9 hown9 hgrow9 _; refine Hid.out ?_)
            obtain ⟨g9, c9, rfl, hbs9⟩ := BS.app (k := 1) (M := [endSt]) (HS.out.alloc (.cells #[.int .i64 6, .int .i64 0, .int .i64 0, .int .i64 0, .int .i64 0, .int .i64 0] 112)) hcb (by omega) (by rw [stsC_one]; exact hown9) hgrow9
            have H9 := Lib.hid hbs9
            have HB9 : Hid (Blk (j + 1) (((L ++ [⟨4, 0, 0, o, x, y⟩]) ++ B) ++ [endSt])) := HB.out.wrap HSO.out.1 (by simp) HL7.out.2
            have hm9 := bnd_nest hm (by omega) h6 hzn hm7
            clear hown9 hgrow9 hbs9
            refine Lib.hid ?_
            go_wp2
            go_roundw
            case rel => exact ⟨k + 1, g9, m + 1 + m7 + 1, c9, _, by omega, by go_num, rfl, HB9, hm9, H9.out⟩
            case measure => simp [intOf]; omega
      · have h6' : decide ((m : Int) < 6) = false := by simp; omega
        go_wp2_with (go_at_call 204; refine (stmt_from _ cb a len cap _ hcu (grownBy_refl _ _)).mono ?_; rintro e w2 ⟨s, rfl, hsok, hs1, hs3, hc2, hg2⟩; refine Hid.out ?_)
        have HS := Lib.hid (H1.out.draw hcb hc2 hg2)
        have HSO := Lib.hid (And.intro hsok (And.intro hs1 hs3))
        clear hsok hs1 hs3 hg2 hcu
        refine Lib.hid ?_
        go_wp2_with (at_builtin; refine wpList_append_own _ rfl _ _ 92 rfl w.heap.size 112 i0 zeroSt 6 48 Tryz.underlying92 hi hz0 hz1 hz2 rfl (by decide) _ _ _ rfl (HS.out.1.alloc _) ⟨w2.heap.size, 0, none⟩ 1 1 [.int .i64 s.k, .int .i64 s.v, .int .i64 s.n, .int .i64 s.o, .int .i64 s.a, .int .i64 s.b] rfl rfl (World.news_of_block (cs := #[.int .i64 s.k, .int .i64 s.v, .int .i64 s.n, .int .i64 s.o, .int .i64 s.a, .int .i64 s.b]) (t := 112) (fr := (0, 0)) (heap_alloc_new w2 _)) (by simp [Value.oneCell']) (by unfold maxLen; omega) (by omega) (by have := HS.out.size; simp; omega) ?_; intro v3 w3 hown3 hgrow3 _; refine Hid.out ?_)
        obtain ⟨g3, c3, rfl, hbs3⟩ := BS.app (k := 1) (M := [s]) (HS.out.alloc (.cells #[.int .i64 s.k, .int .i64 s.v, .int .i64 s.n, .int .i64 s.o, .int .i64 s.a, .int .i64 s.b] 112)) hcb (by omega) (by rw [stsC_one]; exact hown3) hgrow3
        have H3 := Lib.hid hbs3
        have HB3 : Hid (Blk (j + 1) (L ++ [s])) := HB.out.snoc HSO.out.1 HSO.out.2.1 HSO.out.2.2
        have hm3 := bnd_one hm
        clear hown3 hgrow3 hbs3
        refine Lib.hid ?_
        go_wp2
        go_roundw
        case rel => exact ⟨k + 1, g3, m + 1, c3, L ++ [s], by omega, by go_num, rfl, HB3, hm3, H3.out⟩
        case measure => simp [intOf]; omega
    · have hkn : k = n := by omega
      subst hkn
      have H1 := Lib.hid hbs
      clear hbs
      go_wp2
      go_ret
      exact ⟨g, m, c, L, rfl, HB, hm, H1.out⟩
end Go.Proofs.YtmgeecdgebemdaaGreatDoor.cur

/- The draws of blocks and tasks: a valid block of at most two levels and twenty statements, a valid expression; nothing that was there is written. -/
namespace Go.Proofs.YtmgeecdgebemdaaGreatDoor.cur
open Go.ChangeShapes Go.WideShapes Go.ChangeAt Go.RowKit Go.Proofs.YtmgeecdgebemdaaGreatDoor.row Go.Proofs.YtmgeecdgebemdaaGreatDoor.val Go.Proofs.YtmgeecdgebemdaaGreatDoor.expr Go.Proofs.YtmgeecdgebemdaaGreatDoor.stm
theorem block_one (cb : Nat) (a : Option Addr) (len cap : Nat) (n : Nat) (w : World) (hn : n ≤ 5) (hc : Cur cb a len cap w) :
    Calls Tryz.prog 160 #[.pointer (some ⟨cb, 0, none⟩), .int .i64 n, .int .i64 1] w (BlkOut 1 n cb a len cap w) :=
  block_succ 0 (by omega) 1 rfl (fun cb a len cap n w hn hc => block_zero cb a len cap n w hn hc) cb a len cap n w hn hc
theorem block_two (cb : Nat) (a : Option Addr) (len cap : Nat) (n : Nat) (w : World) (hn : n ≤ 5) (hc : Cur cb a len cap w) :
    Calls Tryz.prog 160 #[.pointer (some ⟨cb, 0, none⟩), .int .i64 n, .int .i64 0] w (BlkOut 2 n cb a len cap w) :=
  block_succ 1 (by omega) 0 rfl (fun cb a len cap n w hn hc => block_one cb a len cap n w hn hc) cb a len cap n w hn hc
/-- A valid block of at most two levels and twenty statements in new memory; the cursor stays one. -/
def CaseOut (cb : Nat) (a : Option Addr) (len cap : Nat) (w : World) (e : Ending) (w' : World) : Prop :=
  ∃ (g m c : Nat) (L : List St), e = .returned (.slice (some ⟨g, 0, none⟩) m c) ∧ Hid (Blk 2 L) ∧ m ≤ 20 ∧ BS cb a len cap w w' g m c L
set_option maxRecDepth 100000 in
theorem case_any (cb : Nat) (a : Option Addr) (len cap : Nat) (w : World) (hc : Cur cb a len cap w) :
    Calls Tryz.prog 111 #[.pointer (some ⟨cb, 0, none⟩)] w (CaseOut cb a len cap w) := by
  have hcb := hc.lt
  go_enter Tryz.func111, Tryz.ntmps111
  go_wp2_with (go_at_call 55; refine (below_any cb a len cap _ (by omega) _ hc).mono ?_; rintro e w1 ⟨z, rfl, hz0, hz1, hc1, hg1⟩; refine Hid.out ?_)
  obtain ⟨n, rfl⟩ : ∃ n : Nat, z = (n : Int) := ⟨z.toNat, by omega⟩
  have hn5 : n ≤ 5 := by omega
  have hsz := hg1.size
  have HG1 := Lib.hid hg1
  clear hg1 hc
  refine Lib.hid ?_
  go_wp2_with (go_at_call 160; refine (block_two cb a len cap n _ hn5 hc1).mono ?_; rintro e w2 ⟨g, m, c, L, rfl, HB, hm, hbs⟩)
  go_ret
  exact ⟨g, m, c, L, rfl, HB, Nat.le_trans hm (bnd_le hn5), hbs.1.mono hsz, hbs.2.1, grownBy_trans HG1.out hbs.2.2⟩
end Go.Proofs.YtmgeecdgebemdaaGreatDoor.cur
