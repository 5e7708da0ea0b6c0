/- Several texts in one: BlkS SetB. -/
import Derived.Test.YtjnijmbhlmphlaaGHub6
import Derived.Test.YtjnijmbhlmphlaaGHub7
import Derived.Test.YtjnijmbhlmphlaaGHub3
import Derived.Test.YtjnijmbhlmphlaaGHub4

/- Chapter 5's model: BlockOk, the matching end, EndOf, DepthOf, LongestRun: what the plain relations say, for every list of statements; nothing that was there is written. -/
namespace Go.Proofs.Ytjnijmbhlmphlaa.blk
open Go Go.ChangeShapes Go.WideShapes Go.ChangeAt Go.RowKit Go.Proofs.Ytjnijmbhlmphlaa.row Go.Proofs.Ytjnijmbhlmphlaa.val Go.Proofs.Ytjnijmbhlmphlaa.expr Go.Proofs.Ytjnijmbhlmphlaa.stm

theorem stm_below {w w1 w2 : World} (h : Below w.heap.size w w1) (h2 : Below w1.heap.size w1 w2) : Below w.heap.size w w2 := below_then h h2
set_option maxHeartbeats 4000000 in
set_option maxRecDepth 100000 in
theorem spec_blockok (a : Option Addr) (n cap : Nat) (L : List Go.Proofs.Ytjnijmbhlmphlaa.stm.St) (hn : (n : Int) ≤ 1048576) (w : World) (h : StRow w a n L) (r : Bool) (hr : r = true ↔ IsBlk L) :
    Calls Try.prog 37 #[.slice a n cap] w (BelB w r) := by
  have HL := Lib.hid h
  have HR := Lib.hid hr
  clear h hr
  go_enter Try.func37, Try.ntmps37
  go_wp2
  go_loopw [3, 4] (fun o i wr => ∃ (k : Nat) (x : Int), k ≤ n ∧ i = .int .i64 k ∧ o = .int .i64 x ∧ 0 ≤ x ∧ x ≤ 3 ∧ Hid (x = hAt L k) ∧ Hid (OkTo L k) ∧ Below w.heap.size w wr) (fun _ i _ => n - (intOf i).toNat)
  case atStart => exact ⟨0, 0, Nat.zero_le _, rfl, rfl, by omega, by omega, rfl, okTo_zero L, Below.refl _ _⟩
  case round =>
    obtain ⟨k, x, hk, rfl, rfl, hx0, hx3, hH, hO, hbel⟩ := hrel
    by_cases hlt : k < n
    · obtain ⟨b, off, s, rfl, hlb, hs, hrg⟩ := (HL.out.below hbel).2 k hlt
      have HS := Lib.hid (And.intro hrg (And.intro hs hbel))
      have hI : (k : Int) < n := by omega
      clear hrg hs hbel
      cases hst : stOk s
      · have hrf : r = false := by
          rw [← Bool.not_eq_true]; intro e; exact not_blk_at HS.out.2.1 (.inl hst) (HR.out.1 e)
        have HST := Lib.hid hst
        clear hst
        subst hrf
        go_wp2_with (first
          | (refine wpList_load_mid rfl 31 _ rfl b (off + k * 6) rfl (stC s) _ HS.out.1 Try.underlying31 rfl (by kernel_rfl) ?_)
          | (go_at_call 60; refine (spec_stmtok s false HST.out _).mono ?_; rintro e w2 ⟨rfl, hb2⟩))
        go_ret
        exact ⟨rfl, below_then HS.out.2.2 hb2⟩
      · have HST := Lib.hid hst
        clear hst
        go_wp2_with (first
          | (refine wpList_load_mid rfl 31 _ rfl b (off + k * 6) rfl (stC s) _ HS.out.1 Try.underlying31 rfl (by kernel_rfl) ?_)
          | (go_at_call 60; refine (spec_stmtok s true HST.out _).mono ?_; rintro e w2 ⟨rfl, hb2⟩; refine Hid.out ?_))
        have hc2 := (hb2.cell (p := ⟨b, off + k * 6, none⟩) hlb).trans (range6 HS.out.1).1
        have HB2 := Lib.hid (below_then HS.out.2.2 hb2)
        have hnx := hAt_succ HS.out.2.1
        obtain ⟨d, hd⟩ : ∃ d, dlt s = d := ⟨_, rfl⟩
        rw [hd, ← hH.out] at hnx
        clear hb2
        rcases (show (s.k = 4 ∧ d = 1) ∨ (s.k = 5 ∧ d = 1) ∨ (s.k = 6 ∧ d = -1) ∨ (s.k ≠ 4 ∧ s.k ≠ 5 ∧ s.k ≠ 6 ∧ d = 0) by
          rw [← hd]; unfold dlt; split
          · omega
          · split <;> omega) with ⟨hk4, rfl⟩ | ⟨hk4, rfl⟩ | ⟨hk4, rfl⟩ | ⟨hk4, hk5, hk6, rfl⟩
        · have hq : (s.k == 4) = true := by rw [hk4]; rfl
          have hq5 : (s.k == 5) = false := by rw [hk4]; rfl
          clear hd hk4
          by_cases hx : x + 1 ≤ 3
          · skip
            have HIN := Lib.hid (show (decide (0 ≤ (x + 1)) && decide ((x + 1) ≤ 3)) = true by simp; omega)
            have HO2 := Lib.hid (okTo_succ hO.out HS.out.2.1 HST.out (by omega) (by omega))
            have HX2 := Lib.hid (show (x + 1) = hAt L (k + 1) by omega)
            refine Lib.hid ?_
            go_wp2_with (go_at_call 61; (with_reducible refine (in_any _ 0 3 _ HIN.out _).mono ?_); rintro e w3 ⟨rfl, rfl⟩)
            go_roundw
            case rel => exact ⟨k + 1, (x + 1), by omega, by go_num, rfl, by omega, by omega, HX2, HO2, HB2.out⟩
            case measure => simp [intOf]; omega
          · skip
            have HIN := Lib.hid (show (decide (0 ≤ (x + 1)) && decide ((x + 1) ≤ 3)) = false by simp; omega)
            have hrf : r = false := by
              rw [← Bool.not_eq_true]; intro e; exact not_blk_at HS.out.2.1 (.inr (by omega)) (HR.out.1 e)
            subst hrf
            refine Lib.hid ?_
            go_wp2_with (go_at_call 61; (with_reducible refine (in_any _ 0 3 _ HIN.out _).mono ?_); rintro e w3 ⟨rfl, rfl⟩)
            go_ret
            exact ⟨rfl, HB2.out⟩
        · have hq : (s.k == 4) = false := by rw [hk4]; rfl
          have hq5 : (s.k == 5) = true := by rw [hk4]; rfl
          clear hd hk4
          by_cases hx : x + 1 ≤ 3
          · skip
            have HIN := Lib.hid (show (decide (0 ≤ (x + 1)) && decide ((x + 1) ≤ 3)) = true by simp; omega)
            have HO2 := Lib.hid (okTo_succ hO.out HS.out.2.1 HST.out (by omega) (by omega))
            have HX2 := Lib.hid (show (x + 1) = hAt L (k + 1) by omega)
            refine Lib.hid ?_
            go_wp2_with (go_at_call 61; (with_reducible refine (in_any _ 0 3 _ HIN.out _).mono ?_); rintro e w3 ⟨rfl, rfl⟩)
            go_roundw
            case rel => exact ⟨k + 1, (x + 1), by omega, by go_num, rfl, by omega, by omega, HX2, HO2, HB2.out⟩
            case measure => simp [intOf]; omega
          · skip
            have HIN := Lib.hid (show (decide (0 ≤ (x + 1)) && decide ((x + 1) ≤ 3)) = false by simp; omega)
            have hrf : r = false := by
              rw [← Bool.not_eq_true]; intro e; exact not_blk_at HS.out.2.1 (.inr (by omega)) (HR.out.1 e)
            subst hrf
            refine Lib.hid ?_
            go_wp2_with (go_at_call 61; (with_reducible refine (in_any _ 0 3 _ HIN.out _).mono ?_); rintro e w3 ⟨rfl, rfl⟩)
            go_ret
            exact ⟨rfl, HB2.out⟩
        · have hq : (s.k == 4) = false := by rw [hk4]; rfl
          have hq5 : (s.k == 5) = false := by rw [hk4]; rfl
          have hq6 : (s.k == 6) = true := by rw [hk4]; rfl
          clear hd hk4
          by_cases hx : 0 ≤ x - 1
          · skip
            have HIN := Lib.hid (show (decide (0 ≤ (x - 1)) && decide ((x - 1) ≤ 3)) = true by simp; omega)
            have HO2 := Lib.hid (okTo_succ hO.out HS.out.2.1 HST.out (by omega) (by omega))
            have HX2 := Lib.hid (show (x - 1) = hAt L (k + 1) by omega)
            refine Lib.hid ?_
            go_wp2_with (go_at_call 61; (with_reducible refine (in_any _ 0 3 _ HIN.out _).mono ?_); rintro e w3 ⟨rfl, rfl⟩)
            go_roundw
            case rel => exact ⟨k + 1, (x - 1), by omega, by go_num, rfl, by omega, by omega, HX2, HO2, HB2.out⟩
            case measure => simp [intOf]; omega
          · skip
            have HIN := Lib.hid (show (decide (0 ≤ (x - 1)) && decide ((x - 1) ≤ 3)) = false by simp; omega)
            have hrf : r = false := by
              rw [← Bool.not_eq_true]; intro e; exact not_blk_at HS.out.2.1 (.inr (by omega)) (HR.out.1 e)
            subst hrf
            refine Lib.hid ?_
            go_wp2_with (go_at_call 61; (with_reducible refine (in_any _ 0 3 _ HIN.out _).mono ?_); rintro e w3 ⟨rfl, rfl⟩)
            go_ret
            exact ⟨rfl, HB2.out⟩
        · have hq : (s.k == 4) = false := by rw [beq_eq_false_iff_ne]; exact hk4
          have hq5 : (s.k == 5) = false := by rw [beq_eq_false_iff_ne]; exact hk5
          have hq6 : (s.k == 6) = false := by rw [beq_eq_false_iff_ne]; exact hk6
          clear hd hk4 hk5 hk6
          have HIN := Lib.hid (show (decide (0 ≤ x) && decide (x ≤ 3)) = true by simp; omega)
          have HO2 := Lib.hid (okTo_succ hO.out HS.out.2.1 HST.out (by omega) (by omega))
          have HX2 := Lib.hid (show x = hAt L (k + 1) by omega)
          refine Lib.hid ?_
          go_wp2_with (go_at_call 61; (with_reducible refine (in_any _ 0 3 _ HIN.out _).mono ?_); rintro e w3 ⟨rfl, rfl⟩)
          go_roundw
          case rel => exact ⟨k + 1, x, by omega, by go_num, rfl, by omega, by omega, HX2, HO2, HB2.out⟩
          case measure => simp [intOf]; omega
    · obtain rfl : k = n := by omega
      have hI : ¬ (k : Int) < k := by omega
      have hlen := HL.out.1
      have hOK := hO.out
      have hHX := hH.out
      rcases (show x ≠ 0 ∨ (x = 0 ∧ 24 < k) ∨ (x = 0 ∧ k ≤ 24) by omega) with hx | ⟨hx, h24⟩ | ⟨hx, h24⟩
      · have hrf : r = false := by
          rw [← Bool.not_eq_true]; intro e; have := (HR.out.1 e).2.1; rw [hlen] at this; omega
        have hxb : (x == 0) = false := by rw [beq_eq_false_iff_ne]; exact hx
        have HB := Lib.hid hbel
        clear hOK hHX hbel
        subst hrf
        go_wp2
        go_ret
        exact ⟨rfl, HB.out⟩
      · have hrf : r = false := by
          rw [← Bool.not_eq_true]; intro e; have := (HR.out.1 e).2.2; omega
        have hxb : (x == 0) = true := by rw [hx]; rfl
        have h24I : (24 : Int) < k := by omega
        have HB := Lib.hid hbel
        clear hOK hHX hbel hx
        subst hrf
        go_wp2
        go_ret
        exact ⟨by simp; try omega, HB.out⟩
      · have hrt : r = true := HR.out.2 ⟨by rw [hlen]; exact hOK, by rw [hlen]; omega, by omega⟩
        have hxb : (x == 0) = true := by rw [hx]; rfl
        have h24I : (k : Int) ≤ 24 := by omega
        have HB := Lib.hid hbel
        clear hOK hHX hbel hx
        subst hrt
        go_wp2
        go_ret
        exact ⟨by simp; try omega, HB.out⟩
end Go.Proofs.Ytjnijmbhlmphlaa.blk

/- Rows of eight bools as sets of variables; the model's l07List, l07Writes. -/
namespace Go.Proofs.Ytjnijmbhlmphlaa.sets
open Go Go.ChangeShapes Go.WideShapes Go.ChangeAt Go.RowKit Go.Proofs.Ytjnijmbhlmphlaa.row Go.Proofs.Ytjnijmbhlmphlaa.val Go.Proofs.Ytjnijmbhlmphlaa.stm Go.Proofs.Ytjnijmbhlmphlaa.blk Go.Proofs.Ytjnijmbhlmphlaa.expr

/-- The block 'g' holds the set 'f'. -/
def Bset (g : Nat) (f : Nat → Bool) (w : World) : Prop := ∃ (cs : Array Value) (t : TypeId), Box g cs t w ∧ ∀ v, v < 8 → cs[v]? = some (.bool (f v))
section
variable {g : Nat} {f : Nat → Bool} {w w' : World}
theorem Bset.cell (h : Bset g f w) {v : Nat} (hv : v < 8) : w.cell? ⟨g, v, none⟩ = some (.bool (f v)) := by
  obtain ⟨cs, t, hb, hc⟩ := h
  rw [hb.cell]; exact hc v hv
theorem Bset.frozen (h : Bset g f w) (v : Nat) : w.frozen? ⟨g, v, none⟩ = false := by
  obtain ⟨cs, t, hb, _⟩ := h
  exact hb.frozen v
theorem Bset.lt (h : Bset g f w) : g < w.heap.size := by
  obtain ⟨cs, t, hb, _⟩ := h
  exact hb.lt
theorem Bset.same (h : Bset g f w) (he : w'.heap[g]? = w.heap[g]?) : Bset g f w' := by
  obtain ⟨cs, t, hb, hc⟩ := h
  exact ⟨cs, t, he.trans hb, hc⟩
theorem Bset.below (h : Bset g f w) (hb : Below w.heap.size w w') : Bset g f w' := h.same (hb.block g h.lt)
theorem Bset.put (h : Bset g f w) {v : Nat} (hv : v < 8) : Bset g (fun u => decide (u = v) || f u) (w.setCell ⟨g, v, none⟩ (.bool true)) := by
  obtain ⟨cs, t, hb, hc⟩ := h
  have hs : v < cs.size := (Array.getElem?_eq_some_iff.1 (hc v hv)).1
  refine ⟨_, t, hb.set v _, fun u hu => ?_⟩
  by_cases e : u = v
  · subst e; simp [hs]
  · rw [Array.getElem?_setIfInBounds_ne (by omega), hc u hu]; simp [e]
theorem Bset.congr {f' : Nat → Bool} (h : Bset g f w) (hf : ∀ v, v < 8 → f v = f' v) : Bset g f' w := by
  obtain ⟨cs, t, hb, hc⟩ := h
  exact ⟨cs, t, hb, fun v hv => by rw [hc v hv, hf v hv]⟩
theorem Bset.made (w : World) (t : TypeId) : Bset w.heap.size (fun _ => false) (w.alloc (.cells #[.bool false, .bool false, .bool false, .bool false, .bool false, .bool false, .bool false, .bool false] t)) := by
  refine ⟨_, t, Box.new w _ t, fun v hv => ?_⟩
  have : v = 0 ∨ v = 1 ∨ v = 2 ∨ v = 3 ∨ v = 4 ∨ v = 5 ∨ v = 6 ∨ v = 7 := by omega
  rcases this with rfl | rfl | rfl | rfl | rfl | rfl | rfl | rfl <;> rfl
end
theorem own_slice {w : World} {base size n : Nat} {e : TypeId} {v : Value} {xs : List Value} (h : w.ownsRow base e size v n xs) : ∃ (a : Option Addr) (c : Nat), v = .slice a n c := by
  rcases h.2 with ⟨h1, h2⟩ | ⟨g, c, cur, h1, _⟩
  · exact ⟨none, 0, by rw [h1, h2]⟩
  · exact ⟨_, c, h1⟩
set_option maxHeartbeats 2000000 in
set_option maxRecDepth 100000 in
theorem spec_list (g c : Nat) (f : Nat → Bool) (w : World) (h : Bset g f w) : Calls Try.prog 39 #[.slice (some ⟨g, 0, none⟩) 8 c] w (NewInts w (lst f 8)) := by
  obtain ⟨i0, hi, hz0, hz1, hz2⟩ := info_parts infoInt
  have HS := Lib.hid h
  clear h
  go_enter Try.func39, Try.ntmps39
  go_wp2
  go_loopw [3, 4] (fun v i wr => ∃ k : Nat, k ≤ 8 ∧ i = .int .i64 k ∧ wr.ownsRow w.heap.size 3 1 v (lst f k).length (ivs (lst f k)) ∧ Hid (Below w.heap.size w wr)) (fun _ i _ => 8 - (intOf i).toNat)
  case atStart => exact ⟨0, Nat.zero_le _, rfl, World.ownsRow_made w #[] 0 (Nat.le_refl _) (by decide) rfl, below_new w _⟩
  case round =>
    obtain ⟨k, hk, rfl, hown, HB⟩ := hrel
    obtain ⟨a4, cap4, rfl⟩ := own_slice hown
    have hll := lst_len f k
    by_cases hlt : k < 8
    · have hI : (k : Int) < 8 := by omega
      have c0 : wr.cell? ⟨g, k, none⟩ = some (.bool (f k)) := (HS.out.below HB.out).cell hlt
      have hsz := HB.out.size
      cases hf : f k
      · rw [hf] at c0
        have HL := Lib.hid (show lst f (k + 1) = lst f k from lst_no hf)
        go_wp2
        go_roundw
        case rel => exact ⟨k + 1, by omega, by go_num, by rw [HL.out]; exact hown, HB⟩
        case measure => simp [intOf]; omega
      · rw [hf] at c0
        have HL := Lib.hid (show lst f (k + 1) = lst f k ++ [(k : Int)] from lst_yes hf)
        go_wp2_with (at_builtin; refine wpList_append_own _ rfl _ _ 26 rfl w.heap.size 3 i0 (.int .i64 0) 1 8 Try.underlying26 hi hz0 hz1 hz2 rfl (by decide) _ _ _ rfl (hown.alloc _) ⟨wr.heap.size, 0, none⟩ 1 1 [.int .i64 (k : Int)] rfl rfl (World.news_of_block (cs := #[.int .i64 (k : Int)]) (t := 3) (fr := (0, 0)) (heap_alloc_new wr _)) (by simp [Value.oneCell']) (by unfold maxLen; omega) (by omega) (by simp; omega) ?_; intro v4 w4 hown4 hgrow4 _; refine Hid.out ?_)
        have hb4 : Below w.heap.size w w4 := (HB.out.alloc hsz _).grown hgrow4 (by simp; omega) (fun j hj => (hown.lt j hj).1)
        have HO := Lib.hid (And.intro (show w4.ownsRow w.heap.size 3 1 v4 (lst f (k + 1)).length (ivs (lst f (k + 1))) by rw [HL.out, List.length_append, ← ivs_snoc]; exact hown4) hb4)
        clear hown hown4 hgrow4 hb4
        refine Lib.hid ?_
        go_wp2
        go_roundw
        case rel => exact ⟨k + 1, by omega, by go_num, HO.out.1, HO.out.2⟩
        case measure => simp [intOf]; omega
    · obtain rfl : k = 8 := by omega
      have hI : ¬ ((8 : Nat) : Int) < 8 := by omega
      go_wp2
      go_ret
      exact ⟨_, _, _, rfl, hown, HB.out⟩
theorem spec_writes (s : Sm) (r : Bool) (hr : r = true ↔ wr s) (w : World) : Calls Try.prog 38 #[stV s] w (BelB w r) := by
  have c0 : (w.alloc (.cells #[.int .i64 s.k, .int .i64 s.v, .int .i64 s.n, .int .i64 s.o, .int .i64 s.a, .int .i64 s.b] 31)).cell? ⟨w.heap.size, 0, none⟩ = some (.int .i64 s.k) := (Box.new w #[.int .i64 s.k, .int .i64 s.v, .int .i64 s.n, .int .i64 s.o, .int .i64 s.a, .int .i64 s.b] _).cell 0
  have HR := Lib.hid hr
  by_cases h1 : s.k = 1
  · have hrt : r = true := hr.2 (.inl h1)
    subst hrt
    rw [h1] at c0
    clear hr
    go_enter Try.func38, Try.ntmps38
    go_wp2
    go_ret
    exact ⟨rfl, below_new _ _⟩
  · by_cases h2 : s.k = 2
    · have hrt : r = true := hr.2 (.inr h2)
      subst hrt
      rw [h2] at c0
      clear hr
      go_enter Try.func38, Try.ntmps38
      go_wp2
      go_ret
      exact ⟨rfl, below_new _ _⟩
    · have hrf : r = false := by rw [← Bool.not_eq_true]; intro e; rcases hr.1 e with h | h <;> omega
      subst hrf
      clear hr
      have b1 : (s.k == 1) = false := by simpa using h1
      have b2 : (s.k == 2) = false := by simpa using h2
      go_enter Try.func38, Try.ntmps38
      go_wp2
      go_ret
      exact ⟨rfl, below_new _ _⟩
end Go.Proofs.Ytjnijmbhlmphlaa.sets
