/- Several texts in one: SetB BlkE. -/
import Derived.Test.YtebokjjeeedmjaaGHub5
import Derived.Test.YtebokjjeeedmjaaGHub6
import Derived.Test.YtebokjjeeedmjaaGHub10

/- Rows of eight bools as sets of variables; the model's l07List, l07Writes. -/
namespace Go.Proofs.Ytebokjjeeedmjaa.sets
open Go Go.ChangeShapes Go.WideShapes Go.ChangeAt Go.RowKit Go.Proofs.Ytebokjjeeedmjaa.row Go.Proofs.Ytebokjjeeedmjaa.val Go.Proofs.Ytebokjjeeedmjaa.stm Go.Proofs.Ytebokjjeeedmjaa.blk Go.Proofs.Ytebokjjeeedmjaa.expr

/-- The block 'g' holds the set 'f'. -/
def Bset (g : Nat) (f : Nat → Bool) (w : World) : Prop := ∃ (cs : Array Value) (t : TypeId), Box g cs t w ∧ ∀ v, v < 8 → cs[v]? = some (.bool (f v))
section
variable {g : Nat} {f : Nat → Bool} {w w' : World}
theorem Bset.cell (h : Bset g f w) {v : Nat} (hv : v < 8) : w.cell? ⟨g, v, none⟩ = some (.bool (f v)) := by
  obtain ⟨cs, t, hb, hc⟩ := h
  rw [hb.cell]; exact hc v hv
theorem Bset.frozen (h : Bset g f w) (v : Nat) : w.frozen? ⟨g, v, none⟩ = false := by
  obtain ⟨cs, t, hb, _⟩ := h
  exact hb.frozen v
theorem Bset.lt (h : Bset g f w) : g < w.heap.size := by
  obtain ⟨cs, t, hb, _⟩ := h
  exact hb.lt
theorem Bset.same (h : Bset g f w) (he : w'.heap[g]? = w.heap[g]?) : Bset g f w' := by
  obtain ⟨cs, t, hb, hc⟩ := h
  exact ⟨cs, t, he.trans hb, hc⟩
theorem Bset.below (h : Bset g f w) (hb : Below w.heap.size w w') : Bset g f w' := h.same (hb.block g h.lt)
theorem Bset.put (h : Bset g f w) {v : Nat} (hv : v < 8) : Bset g (fun u => decide (u = v) || f u) (w.setCell ⟨g, v, none⟩ (.bool true)) := by
  obtain ⟨cs, t, hb, hc⟩ := h
  have hs : v < cs.size := (Array.getElem?_eq_some_iff.1 (hc v hv)).1
  refine ⟨_, t, hb.set v _, fun u hu => ?_⟩
  by_cases e : u = v
  · subst e; simp [hs]
  · rw [Array.getElem?_setIfInBounds_ne (by omega), hc u hu]; simp [e]
theorem Bset.congr {f' : Nat → Bool} (h : Bset g f w) (hf : ∀ v, v < 8 → f v = f' v) : Bset g f' w := by
  obtain ⟨cs, t, hb, hc⟩ := h
  exact ⟨cs, t, hb, fun v hv => by rw [hc v hv, hf v hv]⟩
theorem Bset.made (w : World) (t : TypeId) : Bset w.heap.size (fun _ => false) (w.alloc (.cells #[.bool false, .bool false, .bool false, .bool false, .bool false, .bool false, .bool false, .bool false] t)) := by
  refine ⟨_, t, Box.new w _ t, fun v hv => ?_⟩
  have : v = 0 ∨ v = 1 ∨ v = 2 ∨ v = 3 ∨ v = 4 ∨ v = 5 ∨ v = 6 ∨ v = 7 := by omega
  rcases this with rfl | rfl | rfl | rfl | rfl | rfl | rfl | rfl <;> rfl
end
theorem own_slice {w : World} {base size n : Nat} {e : TypeId} {v : Value} {xs : List Value} (h : w.ownsRow base e size v n xs) : ∃ (a : Option Addr) (c : Nat), v = .slice a n c := by
  rcases h.2 with ⟨h1, h2⟩ | ⟨g, c, cur, h1, _⟩
  · exact ⟨none, 0, by rw [h1, h2]⟩
  · exact ⟨_, c, h1⟩
set_option maxHeartbeats 2000000 in
set_option maxRecDepth 100000 in
theorem spec_list (g c : Nat) (f : Nat → Bool) (w : World) (h : Bset g f w) : Calls Try.prog 61 #[.slice (some ⟨g, 0, none⟩) 8 c] w (NewInts w (lst f 8)) := by
  obtain ⟨i0, hi, hz0, hz1, hz2⟩ := info_parts infoInt
  have HS := Lib.hid h
  clear h
  go_enter Try.func61, Try.ntmps61
  go_wp2
  go_loopw [3, 4] (fun v i wr => ∃ k : Nat, k ≤ 8 ∧ i = .int .i64 k ∧ wr.ownsRow w.heap.size 3 1 v (lst f k).length (ivs (lst f k)) ∧ Hid (Below w.heap.size w wr)) (fun _ i _ => 8 - (intOf i).toNat)
  case atStart => exact ⟨0, Nat.zero_le _, rfl, World.ownsRow_made w #[] 0 (Nat.le_refl _) (by decide) rfl, below_new w _⟩
  case round =>
    obtain ⟨k, hk, rfl, hown, HB⟩ := hrel
    obtain ⟨a4, cap4, rfl⟩ := own_slice hown
    have hll := lst_len f k
    by_cases hlt : k < 8
    · have hI : (k : Int) < 8 := by omega
      have c0 : wr.cell? ⟨g, k, none⟩ = some (.bool (f k)) := (HS.out.below HB.out).cell hlt
      have hsz := HB.out.size
      cases hf : f k
      · rw [hf] at c0
        have HL := Lib.hid (show lst f (k + 1) = lst f k from lst_no hf)
        go_wp2
        go_roundw
        case rel => exact ⟨k + 1, by omega, by go_num, by rw [HL.out]; exact hown, HB⟩
        case measure => simp [intOf]; omega
      · rw [hf] at c0
        have HL := Lib.hid (show lst f (k + 1) = lst f k ++ [(k : Int)] from lst_yes hf)
        go_wp2_with (at_builtin; refine wpList_append_own _ rfl _ _ 34 rfl w.heap.size 3 i0 (.int .i64 0) 1 8 Try.underlying34 hi hz0 hz1 hz2 rfl (by decide) _ _ _ rfl (hown.alloc _) ⟨wr.heap.size, 0, none⟩ 1 1 [.int .i64 (k : Int)] rfl rfl (World.news_of_block (cs := #[.int .i64 (k : Int)]) (t := 3) (fr := (0, 0)) (heap_alloc_new wr _)) (by simp [Value.oneCell']) (by unfold maxLen; omega) (by omega) (by simp; omega) ?_; intro v4 w4 hown4 hgrow4 _; refine Hid.out ?_)
        have hb4 : Below w.heap.size w w4 := (HB.out.alloc hsz _).grown hgrow4 (by simp; omega) (fun j hj => (hown.lt j hj).1)
        have HO := Lib.hid (And.intro (show w4.ownsRow w.heap.size 3 1 v4 (lst f (k + 1)).length (ivs (lst f (k + 1))) by rw [HL.out, List.length_append, ← ivs_snoc]; exact hown4) hb4)
        clear hown hown4 hgrow4 hb4
        refine Lib.hid ?_
        go_wp2
        go_roundw
        case rel => exact ⟨k + 1, by omega, by go_num, HO.out.1, HO.out.2⟩
        case measure => simp [intOf]; omega
    · obtain rfl : k = 8 := by omega
      have hI : ¬ ((8 : Nat) : Int) < 8 := by omega
      go_wp2
      go_ret
      exact ⟨_, _, _, rfl, hown, HB.out⟩
theorem spec_writes (s : Sm) (r : Bool) (hr : r = true ↔ wr s) (w : World) : Calls Try.prog 60 #[stV s] w (BelB w r) := by
  have c0 : (w.alloc (.cells #[.int .i64 s.k, .int .i64 s.v, .int .i64 s.n, .int .i64 s.o, .int .i64 s.a, .int .i64 s.b] 61)).cell? ⟨w.heap.size, 0, none⟩ = some (.int .i64 s.k) := (Box.new w #[.int .i64 s.k, .int .i64 s.v, .int .i64 s.n, .int .i64 s.o, .int .i64 s.a, .int .i64 s.b] _).cell 0
  have HR := Lib.hid hr
  by_cases h1 : s.k = 1
  · have hrt : r = true := hr.2 (.inl h1)
    subst hrt
    rw [h1] at c0
    clear hr
    go_enter Try.func60, Try.ntmps60
    go_wp2
    go_ret
    exact ⟨rfl, below_new _ _⟩
  · by_cases h2 : s.k = 2
    · have hrt : r = true := hr.2 (.inr h2)
      subst hrt
      rw [h2] at c0
      clear hr
      go_enter Try.func60, Try.ntmps60
      go_wp2
      go_ret
      exact ⟨rfl, below_new _ _⟩
    · have hrf : r = false := by rw [← Bool.not_eq_true]; intro e; rcases hr.1 e with h | h <;> omega
      subst hrf
      clear hr
      have b1 : (s.k == 1) = false := by simpa using h1
      have b2 : (s.k == 2) = false := by simpa using h2
      go_enter Try.func60, Try.ntmps60
      go_wp2
      go_ret
      exact ⟨rfl, below_new _ _⟩
end Go.Proofs.Ytebokjjeeedmjaa.sets

/- Chapter 5's model: what opens, the matching end, EndOf, DepthOf: what the plain relations say; nothing that was there is written. -/
namespace Go.Proofs.Ytebokjjeeedmjaa.blk
open Go Go.ChangeShapes Go.WideShapes Go.ChangeAt Go.RowKit Go.Proofs.Ytebokjjeeedmjaa.row Go.Proofs.Ytebokjjeeedmjaa.val Go.Proofs.Ytebokjjeeedmjaa.expr Go.Proofs.Ytebokjjeeedmjaa.stm

theorem spec_opens (s : Go.Proofs.Ytebokjjeeedmjaa.stm.St) (r : Bool) (hr : opn s = r) (w : World) : Calls Try.prog 83 #[stV s] w (BelB w r) := by
  subst hr
  by_cases h4 : s.k = 4
  · have HE := Lib.hid (show opn s = true by unfold opn; rw [h4]; rfl)
    have hq : (s.k == 4) = true := by rw [h4]; rfl
    clear h4
    go_enter Try.func83, Try.ntmps83
    go_wp2
    go_ret
    exact ⟨by rw [HE.out]; rfl, below_new w _⟩
  · have hq : (s.k == 4) = false := by rw [beq_eq_false_iff_ne]; exact h4
    by_cases h5 : s.k = 5
    · have HE := Lib.hid (show opn s = true by unfold opn; rw [h5]; rfl)
      have hq5 : (s.k == 5) = true := by rw [h5]; rfl
      clear h4 h5
      go_enter Try.func83, Try.ntmps83
      go_wp2
      go_ret
      exact ⟨by rw [HE.out]; rfl, below_new w _⟩
    · have hq5 : (s.k == 5) = false := by rw [beq_eq_false_iff_ne]; exact h5
      have HE := Lib.hid (show opn s = false by unfold opn; rw [hq, hq5]; rfl)
      clear h4 h5
      go_enter Try.func83, Try.ntmps83
      go_wp2
      go_ret
      exact ⟨by rw [HE.out]; rfl, below_new w _⟩
set_option maxHeartbeats 4000000 in
set_option maxRecDepth 100000 in
theorem spec_end (a : Option Addr) (n cap : Nat) (L : List Go.Proofs.Ytebokjjeeedmjaa.stm.St) (w : World) (h : StRow w a n L) (hb : IsBlk L) (i e : Nat) (he : IsEnd L i e) (X : Int) (hX : X = e) :
    Calls Try.prog 62 #[.slice a n cap, .int .i64 i] w (BelI w X) := by
  have HL := Lib.hid h
  have HB := Lib.hid hb
  have HE := Lib.hid he
  have hie := he.1
  have hel : e < n := by have := he.2.1; rw [h.1] at this; exact this
  have hn24 : n ≤ 24 := by have := hb.2.2; rw [h.1] at this; exact this
  have HX := Lib.hid hX
  clear h hb he hX
  go_enter Try.func62, Try.ntmps62
  go_wp2
  go_loopw [5, 6] (fun o k' wr => ∃ (k : Nat) (x : Int), i ≤ k ∧ k ≤ e ∧ k' = .int .i64 k ∧ o = .int .i64 x ∧ -3 ≤ x ∧ x ≤ 3 ∧ Hid (x = hAt L k - hAt L i) ∧ Below w.heap.size w wr) (fun _ k' _ => e + 1 - (intOf k').toNat)
  case atStart => exact ⟨i, 0, Nat.le_refl _, by omega, rfl, rfl, by omega, by omega, show (0 : Int) = hAt L i - hAt L i by omega, Below.refl _ _⟩
  case round =>
    obtain ⟨k, x, hik, hke, rfl, rfl, hx0, hx3, hH, hbel⟩ := hrel
    obtain ⟨b, off, s, rfl, hlb, hs, hrg⟩ := (HL.out.below hbel).2 k (by omega)
    have HS := Lib.hid (And.intro hrg (And.intro hs hbel))
    have hI : (k : Int) < n := by omega
    have hnx := hAt_succ hs
    have hbd := blk_bounds HB.out (k + 1)
    have hbi := blk_bounds HB.out i
    obtain ⟨d, hd⟩ : ∃ d, dlt s = d := ⟨_, rfl⟩
    rw [hd] at hnx
    have hHo := hH.out
    have hend : k = e → s.k = 6 ∧ x + d = 0 := fun hk => by
      subst hk
      obtain ⟨t, ht, h6⟩ := HE.out.kind
      rw [hs] at ht; cases ht
      exact ⟨h6, by have := HE.out.2.2.1; omega⟩
    have hmid : k < e → 0 < x + d := fun hk => by have := HE.out.2.2.2 (k + 1) (by omega) (by omega); omega
    have HH := Lib.hid (show x + d = hAt L (k + 1) - hAt L i by omega)
    have hxd : -3 ≤ x + d ∧ x + d ≤ 3 := by omega
    clear hrg hs hbel hnx hbd hbi hHo
    rcases (show (opn s = true ∧ s.k ≠ 6 ∧ d = 1) ∨ (opn s = false ∧ s.k = 6 ∧ d = -1) ∨ (opn s = false ∧ s.k ≠ 6 ∧ d = 0) by rw [← hd]; exact dlt_cases s) with ⟨ho, h6, rfl⟩ | ⟨ho, h6, rfl⟩ | ⟨ho, h6, rfl⟩
    · have hlt : k < e := by
        rcases Nat.lt_or_ge k e with h | h
        · exact h
        · exact absurd (hend (by omega)).1 h6
      have hq6 : (s.k == 6) = false := by rw [beq_eq_false_iff_ne]; exact h6
      have HO := Lib.hid ho
      clear ho h6 hd hend hmid
      go_wp2_with (first
        | (refine wpList_load_mid rfl 61 _ rfl b (off + k * 6) rfl (stC s) _ HS.out.1 Try.underlying61 rfl (by kernel_rfl) ?_)
        | (go_at_call 83; refine (spec_opens s true HO.out _).mono ?_; rintro e w2 ⟨rfl, hb2⟩; refine Hid.out ?_))
      have hc2 := (hb2.cell (p := ⟨b, off + k * 6, none⟩) hlb).trans (range6 HS.out.1).1
      have HB2 := Lib.hid (below_then HS.out.2.2 hb2)
      clear hb2
      refine Lib.hid ?_
      go_wp2
      go_roundw
      case rel => exact ⟨k + 1, x + 1, by omega, by omega, by go_num, rfl, by omega, by omega, HH, HB2.out⟩
      case measure => simp [intOf]; omega
    · have hq6 : (s.k == 6) = true := by rw [h6]; rfl
      have HO := Lib.hid ho
      by_cases hk : k = e
      · have hz := (hend hk).2
        have hxe : x = 1 := by omega
        have HXK := Lib.hid (show X = (k : Int) by rw [HX.out, hk])
        subst hxe
        clear ho h6 hd hend hmid hz hk
        go_wp2_with (first
          | (refine wpList_load_mid rfl 61 _ rfl b (off + k * 6) rfl (stC s) _ HS.out.1 Try.underlying61 rfl (by kernel_rfl) ?_)
          | (go_at_call 83; refine (spec_opens s false HO.out _).mono ?_; rintro e w2 ⟨rfl, hb2⟩; refine Hid.out ?_))
        have hc2 := (hb2.cell (p := ⟨b, off + k * 6, none⟩) hlb).trans (range6 HS.out.1).1
        have HB2 := Lib.hid (below_then HS.out.2.2 hb2)
        clear hb2
        refine Lib.hid ?_
        go_wp2
        go_ret
        exact ⟨by rw [HXK.out]; rfl, HB2.out⟩
      · have hm := hmid (by omega)
        have hz : (x - 1 == 0) = false := by rw [beq_eq_false_iff_ne]; omega
        clear ho h6 hd hend hmid
        go_wp2_with (first
          | (refine wpList_load_mid rfl 61 _ rfl b (off + k * 6) rfl (stC s) _ HS.out.1 Try.underlying61 rfl (by kernel_rfl) ?_)
          | (go_at_call 83; refine (spec_opens s false HO.out _).mono ?_; rintro e w2 ⟨rfl, hb2⟩; refine Hid.out ?_))
        have hc2 := (hb2.cell (p := ⟨b, off + k * 6, none⟩) hlb).trans (range6 HS.out.1).1
        have HB2 := Lib.hid (below_then HS.out.2.2 hb2)
        clear hb2
        refine Lib.hid ?_
        go_wp2
        go_roundw
        case rel => exact ⟨k + 1, x - 1, by omega, by omega, by go_num, rfl, by omega, by omega, HH, HB2.out⟩
        case measure => simp [intOf]; omega
    · have hlt : k < e := by
        rcases Nat.lt_or_ge k e with h | h
        · exact h
        · exact absurd (hend (by omega)).1 h6
      have hq6 : (s.k == 6) = false := by rw [beq_eq_false_iff_ne]; exact h6
      have HO := Lib.hid ho
      have HH2 := Lib.hid (show x = hAt L (k + 1) - hAt L i by have := HH.out; omega)
      clear ho h6 hd hend hmid
      go_wp2_with (first
        | (refine wpList_load_mid rfl 61 _ rfl b (off + k * 6) rfl (stC s) _ HS.out.1 Try.underlying61 rfl (by kernel_rfl) ?_)
        | (go_at_call 83; refine (spec_opens s false HO.out _).mono ?_; rintro e w2 ⟨rfl, hb2⟩; refine Hid.out ?_))
      have hc2 := (hb2.cell (p := ⟨b, off + k * 6, none⟩) hlb).trans (range6 HS.out.1).1
      have HB2 := Lib.hid (below_then HS.out.2.2 hb2)
      clear hb2
      refine Lib.hid ?_
      go_wp2
      go_roundw
      case rel => exact ⟨k + 1, x, by omega, by omega, by go_num, rfl, by omega, by omega, HH2, HB2.out⟩
      case measure => simp [intOf]; omega
theorem endIs_not {L : List Go.Proofs.Ytebokjjeeedmjaa.stm.St} {i x : Int} (h : EndIs L i x) (hn : ¬ IsBlk L ∨ i < 0 ∨ (L.length : Int) ≤ i) : x = -1 := by
  rcases h with ⟨j, e, rfl, hb, he, rfl⟩ | ⟨rfl, _⟩
  · rcases hn with hn | hn | hn
    · exact absurd hb hn
    · omega
    · have := he.1; have := he.2.1; omega
  · rfl
theorem endIs_flat {L : List Go.Proofs.Ytebokjjeeedmjaa.stm.St} {j : Nat} {x : Int} {s : Go.Proofs.Ytebokjjeeedmjaa.stm.St} (h : EndIs L j x) (hs : L[j]? = some s) (ho : opn s = false) : x = -1 := by
  rcases h with ⟨j', e, hj, hb, he, rfl⟩ | ⟨rfl, _⟩
  · obtain rfl : j = j' := by omega
    obtain ⟨t, ht, hot⟩ := he.opens
    rw [hs] at ht; cases ht; rw [ho] at hot; cases hot
  · rfl
theorem endIs_yes {L : List Go.Proofs.Ytebokjjeeedmjaa.stm.St} {j e : Nat} {x : Int} (h : EndIs L j x) (hb : IsBlk L) (he : IsEnd L j e) : x = e := h.unique (.inl ⟨j, e, rfl, hb, he, rfl⟩)
end Go.Proofs.Ytebokjjeeedmjaa.blk
