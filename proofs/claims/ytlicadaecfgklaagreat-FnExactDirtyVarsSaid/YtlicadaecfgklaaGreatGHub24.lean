/- Several texts in one: SetA SetB. -/
import Derived.Test.YtlicadaecfgklaaGreatGHub4
import Derived.Test.YtlicadaecfgklaaGreatGHub10
import Derived.Test.YtlicadaecfgklaaGreatGHub11
import Derived.Test.YtlicadaecfgklaaGreatGHub14

/- The sets of variables of a block: what may be written, what is certainly written ahead of a place, what can be read before it is written. Plain mathematics. -/
namespace Go.Proofs.YtlicadaecfgklaaGreat.sets
open Go Go.Proofs.YtlicadaecfgklaaGreat.stm Go.Proofs.YtlicadaecfgklaaGreat.blk Go.Proofs.YtlicadaecfgklaaGreat.expr

abbrev Sm := Go.Proofs.YtlicadaecfgklaaGreat.stm.St
/-- The statement writes its variable. -/
def wr (s : Sm) : Prop := s.k = 1 ∨ s.k = 2
/-- The statement reads its expression. -/
def rds (s : Sm) : Prop := s.k = 1 ∨ s.k = 3 ∨ s.k = 4
/-- The variables of a set, in ascending order, below 'k'. -/
def lst (f : Nat → Bool) (k : Nat) : List Int := ((List.range k).filter f).map fun (j : Nat) => (j : Int)
theorem lst_zero (f : Nat → Bool) : lst f 0 = [] := rfl
theorem lst_yes {f : Nat → Bool} {k : Nat} (h : f k = true) : lst f (k + 1) = lst f k ++ [(k : Int)] := by simp [lst, List.range_succ, h]
theorem lst_no {f : Nat → Bool} {k : Nat} (h : f k = false) : lst f (k + 1) = lst f k := by simp [lst, List.range_succ, h]
theorem lst_len (f : Nat → Bool) (k : Nat) : (lst f k).length ≤ k := by
  have := List.length_filter_le f (List.range k)
  simpa [lst] using this
theorem lst_congr {f g : Nat → Bool} {k : Nat} (h : ∀ v, v < k → f v = g v) : lst f k = lst g k := by
  unfold lst
  rw [List.filter_congr (fun v hv => h v (List.mem_range.1 hv))]
theorem lst_mem {f : Nat → Bool} {k v : Nat} : (v : Int) ∈ lst f k ↔ v < k ∧ f v = true := by
  unfold lst
  simp only [List.mem_map, List.mem_filter, List.mem_range]
  constructor
  · rintro ⟨a, h, e⟩
    obtain rfl : a = v := by omega
    exact h
  · exact fun h => ⟨v, h, rfl⟩
theorem lst_nil {f : Nat → Bool} (h : ∀ v, f v = false) : ∀ k, lst f k = []
  | 0 => rfl
  | k + 1 => by rw [lst_no (h k), lst_nil h k]
/-- The statement 'j' writes the variable 'v'. -/
def WrAt (B : List Sm) (j v : Nat) : Prop := ∃ s, B[j]? = some s ∧ wr s ∧ s.v = v
/-- Written ahead of the place 'p', in some execution. -/
def MayTo (B : List Sm) (p v : Nat) : Prop := ∃ j, j < p ∧ WrAt B j v
/-- The place 'p' lies inside the condition 'i'. -/
def InIf (B : List Sm) (i p : Nat) : Prop := ∃ e s, B[i]? = some s ∧ s.k = 4 ∧ IsEnd B i e ∧ i < p ∧ p ≤ e
/-- Certainly written ahead of the place 'p'. -/
def WAt (B : List Sm) (p v : Nat) : Prop := ∃ j, j < p ∧ WrAt B j v ∧ ∀ i, InIf B i j → InIf B i p
/-- The statement 'j' reads the variable 'v'. -/
def RdAt (B : List Sm) (j v : Nat) : Prop := ∃ s, B[j]? = some s ∧ rds s ∧ (v : Int) ∈ rd s.a s.b 8
/-- Read ahead of the place 'p', before it is certainly written. -/
def FAt (B : List Sm) (p v : Nat) : Prop := ∃ j, j < p ∧ RdAt B j v ∧ ¬ WAt B j v

theorem mayTo_zero {B : List Sm} {v : Nat} : ¬ MayTo B 0 v := fun ⟨j, h, _⟩ => by omega
theorem mayTo_succ {B : List Sm} {p v : Nat} : MayTo B (p + 1) v ↔ MayTo B p v ∨ WrAt B p v := by
  constructor
  · rintro ⟨j, hj, h⟩
    by_cases e : j = p
    · subst e; exact .inr h
    · exact .inl ⟨j, by omega, h⟩
  · rintro (⟨j, hj, h⟩ | h)
    · exact ⟨j, by omega, h⟩
    · exact ⟨p, by omega, h⟩
/-- Ends are nested. -/
theorem end_in {B : List Sm} {i e i' e' : Nat} (h : IsEnd B i e) (h' : IsEnd B i' e') (h1 : i' < i) (h2 : i ≤ e') : e < e' := by
  have a1 := h'.2.2.2 i h1 h2
  rcases Nat.lt_trichotomy e e' with hlt | rfl | hlt
  · exact hlt
  · have := h.2.2.1; have := h'.2.2.1; omega
  · have := h.2.2.2 (e' + 1) (by omega) (by omega); have := h'.2.2.1; omega
theorem wAt_zero {B : List Sm} {v : Nat} : ¬ WAt B 0 v := fun ⟨j, h, _⟩ => by omega
theorem WrAt.not6 {B : List Sm} {j v i e : Nat} (h : WrAt B j v) (he : IsEnd B i e) : j ≠ e := by
  rintro rfl
  obtain ⟨s, hs, hw, _⟩ := h
  obtain ⟨t, ht, h6⟩ := he.kind
  rw [hs] at ht
  cases ht
  rcases hw with h | h <;> omega
/-- One place on, where no condition ends. -/
theorem wAt_succ {B : List Sm} {p v : Nat} (hp : ∀ i s, B[i]? = some s → s.k = 4 → ¬ IsEnd B i p) : WAt B (p + 1) v ↔ WAt B p v ∨ WrAt B p v := by
  constructor
  · rintro ⟨j, hj, hw, hi⟩
    by_cases e : j = p
    · subst e; exact .inr hw
    · refine .inl ⟨j, by omega, hw, fun i h => ?_⟩
      obtain ⟨e1, s1, h1, h2, h3, h4, h5⟩ := h
      obtain ⟨e2, s2, g1, g2, g3, g4, g5⟩ := hi i ⟨e1, s1, h1, h2, h3, h4, h5⟩
      exact ⟨e2, s2, g1, g2, g3, by omega, by omega⟩
  · rintro (⟨j, hj, hw, hi⟩ | hw)
    · refine ⟨j, by omega, hw, fun i h => ?_⟩
      obtain ⟨e2, s2, g1, g2, g3, g4, g5⟩ := hi i h
      have : p ≠ e2 := fun e => hp i s2 g1 g2 (by rw [e]; exact g3)
      exact ⟨e2, s2, g1, g2, g3, by omega, by omega⟩
    · refine ⟨p, by omega, hw, fun i h => ?_⟩
      obtain ⟨e2, s2, g1, g2, g3, g4, g5⟩ := h
      have := hw.not6 g3
      exact ⟨e2, s2, g1, g2, g3, by omega, by omega⟩
/-- A condition discards what it wrote. -/
theorem wAt_if {B : List Sm} {i e v : Nat} {s : Sm} (hs : B[i]? = some s) (h4 : s.k = 4) (he : IsEnd B i e) : WAt B (e + 1) v ↔ WAt B i v := by
  constructor
  · rintro ⟨j, hj, hw, hi⟩
    have hji : j < i := by
      by_cases h : j < i
      · exact h
      · exfalso
        by_cases e2 : j = i
        · subst e2
          obtain ⟨t, ht, hw2, _⟩ := hw
          rw [hs] at ht; cases ht
          rcases hw2 with h | h <;> omega
        · obtain ⟨e2, s2, g1, g2, g3, g4, g5⟩ := hi i ⟨e, s, hs, h4, he, by omega, by omega⟩
          have := he.unique g3
          omega
    refine ⟨j, hji, hw, fun i' h => ?_⟩
    obtain ⟨e1, s1, h1, h2, h3, h5, h6⟩ := h
    obtain ⟨e2, s2, g1, g2, g3, g4, g5⟩ := hi i' ⟨e1, s1, h1, h2, h3, h5, h6⟩
    have := he.1
    exact ⟨e2, s2, g1, g2, g3, by omega, by omega⟩
  · rintro ⟨j, hj, hw, hi⟩
    refine ⟨j, by have := he.1; omega, hw, fun i' h => ?_⟩
    obtain ⟨e2, s2, g1, g2, g3, g4, g5⟩ := hi i' h
    have := end_in he g3 g4 g5
    exact ⟨e2, s2, g1, g2, g3, by have := he.1; omega, by omega⟩
theorem fAt_zero {B : List Sm} {v : Nat} : ¬ FAt B 0 v := fun ⟨j, h, _⟩ => by omega
theorem fAt_succ {B : List Sm} {p v : Nat} : FAt B (p + 1) v ↔ FAt B p v ∨ (RdAt B p v ∧ ¬ WAt B p v) := by
  constructor
  · rintro ⟨j, hj, h⟩
    by_cases e : j = p
    · subst e; exact .inr h
    · exact .inl ⟨j, by omega, h⟩
  · rintro (⟨j, hj, h⟩ | h)
    · exact ⟨j, by omega, h⟩
    · exact ⟨p, by omega, h⟩
/-- The end reads and writes nothing. -/
theorem end_nothing {B : List Sm} {i e v : Nat} (he : IsEnd B i e) : ¬ WrAt B e v ∧ ¬ RdAt B e v := by
  obtain ⟨t, ht, h6⟩ := he.kind
  constructor
  · rintro ⟨s, hs, hw, _⟩
    rw [hs] at ht; cases ht
    rcases hw with h | h <;> omega
  · rintro ⟨s, hs, hw, _⟩
    rw [hs] at ht; cases ht
    rcases hw with h | h | h <;> omega
/-- No condition is around the place. -/
def Out (B : List Sm) (p : Nat) : Prop := ∀ i, ¬ InIf B i p
theorem Out.zero (B : List Sm) : Out B 0 := fun i ⟨_, _, _, _, _, h, _⟩ => by omega
theorem Out.noEnd {B : List Sm} {p : Nat} (h : Out B p) : ∀ i s, B[i]? = some s → s.k = 4 → ¬ IsEnd B i p := fun i s hs h4 he => h i ⟨p, s, hs, h4, he, he.1, Nat.le_refl _⟩
theorem Out.succ {B : List Sm} {p : Nat} {s : Sm} (h : Out B p) (hs : B[p]? = some s) (h4 : s.k ≠ 4) : Out B (p + 1) := fun i ⟨e, t, h1, h2, h3, h5, h6⟩ => by
  by_cases e1 : i = p
  · subst e1; rw [hs] at h1; cases h1; exact h4 h2
  · exact h i ⟨e, t, h1, h2, h3, by omega, by omega⟩
theorem Out.jump {B : List Sm} {i e : Nat} (h : Out B i) (he : IsEnd B i e) : Out B (e + 1) := fun i' ⟨e', t, h1, h2, h3, h5, h6⟩ => by
  rcases Nat.lt_trichotomy i' i with hlt | rfl | hlt
  · exact h i' ⟨e', t, h1, h2, h3, hlt, by have := he.1; omega⟩
  · have := he.unique h3; omega
  · have := end_in h3 he hlt (by omega); omega
/-- A part of a block that begins and ends at the same height and is nowhere lower. -/
def Seg (B : List Sm) (a b : Nat) : Prop := a ≤ b ∧ b ≤ B.length ∧ hAt B b = hAt B a ∧ ∀ j, a ≤ j → j ≤ b → hAt B a ≤ hAt B j
theorem Seg.all {B : List Sm} (h : IsBlk B) : Seg B 0 B.length := ⟨Nat.zero_le _, Nat.le_refl _, by rw [h.2.1, hAt_zero], fun j _ _ => by rw [hAt_zero]; exact (blk_bounds h j).1⟩
theorem Seg.not6 {B : List Sm} {a b p : Nat} {s : Sm} (h : Seg B a b) (hp : a ≤ p) (hpb : p < b) (hh : hAt B p = hAt B a) (hs : B[p]? = some s) : s.k ≠ 6 := fun h6 => by
  have h1 := hAt_succ hs
  rw [dlt_end h6] at h1
  have := h.2.2.2 (p + 1) (by omega) (by omega)
  omega
theorem Seg.noEnd {B : List Sm} {a b p : Nat} (h : Seg B a b) (hp : a ≤ p) (hpb : p < b) (hh : hAt B p = hAt B a) : ∀ i s, B[i]? = some s → s.k = 4 → ¬ IsEnd B i p := fun i s _ _ he => by
  obtain ⟨t, ht, h6⟩ := he.kind
  exact h.not6 hp hpb hh ht h6
theorem Seg.inner {B : List Sm} {a b i e : Nat} (h : Seg B a b) (hib : i < b) (hh : hAt B i = hAt B a) (he : IsEnd B i e) : e < b ∧ Seg B (i + 1) e ∧ hAt B (e + 1) = hAt B a := by
  have h1 := he.2.2.1
  have heb : e < b := by
    by_cases h9 : e < b
    · exact h9
    · have := he.2.2.2 b hib (by omega); have := h.2.2.1; omega
  obtain ⟨s, hs, ho⟩ := he.opens
  have h2 := hAt_succ hs
  rw [dlt_opn ho] at h2
  refine ⟨heb, ⟨by have := he.1; omega, by have := h.2.1; omega, ?_, fun j h3 h4 => ?_⟩, by omega⟩
  · have := he.depth; omega
  · have := he.2.2.2 j (by omega) h4; omega
end Go.Proofs.YtlicadaecfgklaaGreat.sets

/- Rows of eight bools as sets of variables; the model's l07List, l07Writes. -/
namespace Go.Proofs.YtlicadaecfgklaaGreat.sets
open Go Go.ChangeShapes Go.WideShapes Go.ChangeAt Go.RowKit Go.Proofs.YtlicadaecfgklaaGreat.row Go.Proofs.YtlicadaecfgklaaGreat.val Go.Proofs.YtlicadaecfgklaaGreat.stm Go.Proofs.YtlicadaecfgklaaGreat.blk Go.Proofs.YtlicadaecfgklaaGreat.expr

/-- The block 'g' holds the set 'f'. -/
def Bset (g : Nat) (f : Nat → Bool) (w : World) : Prop := ∃ (cs : Array Value) (t : TypeId), Box g cs t w ∧ ∀ v, v < 8 → cs[v]? = some (.bool (f v))
section
variable {g : Nat} {f : Nat → Bool} {w w' : World}
theorem Bset.cell (h : Bset g f w) {v : Nat} (hv : v < 8) : w.cell? ⟨g, v, none⟩ = some (.bool (f v)) := by
  obtain ⟨cs, t, hb, hc⟩ := h
  rw [hb.cell]; exact hc v hv
theorem Bset.frozen (h : Bset g f w) (v : Nat) : w.frozen? ⟨g, v, none⟩ = false := by
  obtain ⟨cs, t, hb, _⟩ := h
  exact hb.frozen v
theorem Bset.lt (h : Bset g f w) : g < w.heap.size := by
  obtain ⟨cs, t, hb, _⟩ := h
  exact hb.lt
theorem Bset.same (h : Bset g f w) (he : w'.heap[g]? = w.heap[g]?) : Bset g f w' := by
  obtain ⟨cs, t, hb, hc⟩ := h
  exact ⟨cs, t, he.trans hb, hc⟩
theorem Bset.below (h : Bset g f w) (hb : Below w.heap.size w w') : Bset g f w' := h.same (hb.block g h.lt)
theorem Bset.put (h : Bset g f w) {v : Nat} (hv : v < 8) : Bset g (fun u => decide (u = v) || f u) (w.setCell ⟨g, v, none⟩ (.bool true)) := by
  obtain ⟨cs, t, hb, hc⟩ := h
  have hs : v < cs.size := (Array.getElem?_eq_some_iff.1 (hc v hv)).1
  refine ⟨_, t, hb.set v _, fun u hu => ?_⟩
  by_cases e : u = v
  · subst e; simp [hs]
  · rw [Array.getElem?_setIfInBounds_ne (by omega), hc u hu]; simp [e]
theorem Bset.congr {f' : Nat → Bool} (h : Bset g f w) (hf : ∀ v, v < 8 → f v = f' v) : Bset g f' w := by
  obtain ⟨cs, t, hb, hc⟩ := h
  exact ⟨cs, t, hb, fun v hv => by rw [hc v hv, hf v hv]⟩
theorem Bset.made (w : World) (t : TypeId) : Bset w.heap.size (fun _ => false) (w.alloc (.cells #[.bool false, .bool false, .bool false, .bool false, .bool false, .bool false, .bool false, .bool false] t)) := by
  refine ⟨_, t, Box.new w _ t, fun v hv => ?_⟩
  have : v = 0 ∨ v = 1 ∨ v = 2 ∨ v = 3 ∨ v = 4 ∨ v = 5 ∨ v = 6 ∨ v = 7 := by omega
  rcases this with rfl | rfl | rfl | rfl | rfl | rfl | rfl | rfl <;> rfl
end
theorem own_slice {w : World} {base size n : Nat} {e : TypeId} {v : Value} {xs : List Value} (h : w.ownsRow base e size v n xs) : ∃ (a : Option Addr) (c : Nat), v = .slice a n c := by
  rcases h.2 with ⟨h1, h2⟩ | ⟨g, c, cur, h1, _⟩
  · exact ⟨none, 0, by rw [h1, h2]⟩
  · exact ⟨_, c, h1⟩
set_option maxHeartbeats 2000000 in
set_option maxRecDepth 100000 in
theorem spec_list (g c : Nat) (f : Nat → Bool) (w : World) (h : Bset g f w) : Calls Tryz.prog 36 #[.slice (some ⟨g, 0, none⟩) 8 c] w (NewInts w (lst f 8)) := by
  obtain ⟨i0, hi, hz0, hz1, hz2⟩ := info_parts infoInt
  have HS := Lib.hid h
  clear h
  go_enter Tryz.func36, Tryz.ntmps36
  go_wp2
  go_loopw [3, 4] (fun v i wr => ∃ k : Nat, k ≤ 8 ∧ i = .int .i64 k ∧ wr.ownsRow w.heap.size 3 1 v (lst f k).length (ivs (lst f k)) ∧ Hid (Below w.heap.size w wr)) (fun _ i _ => 8 - (intOf i).toNat)
  case atStart => exact ⟨0, Nat.zero_le _, rfl, World.ownsRow_made w #[] 0 (Nat.le_refl _) (by decide) rfl, below_new w _⟩
  case round =>
    obtain ⟨k, hk, rfl, hown, HB⟩ := hrel
    obtain ⟨a4, cap4, rfl⟩ := own_slice hown
    have hll := lst_len f k
    by_cases hlt : k < 8
    · have hI : (k : Int) < 8 := by omega
      have c0 : wr.cell? ⟨g, k, none⟩ = some (.bool (f k)) := (HS.out.below HB.out).cell hlt
      have hsz := HB.out.size
      cases hf : f k
      · rw [hf] at c0
        have HL := Lib.hid (show lst f (k + 1) = lst f k from lst_no hf)
        go_wp2
        go_roundw
        case rel => exact ⟨k + 1, by omega, by go_num, by rw [HL.out]; exact hown, HB⟩
        case measure => simp [intOf]; omega
      · rw [hf] at c0
        have HL := Lib.hid (show lst f (k + 1) = lst f k ++ [(k : Int)] from lst_yes hf)
        go_wp2_with (at_builtin; refine wpList_append_own _ rfl _ _ 25 rfl w.heap.size 3 i0 (.int .i64 0) 1 8 Tryz.underlying25 hi hz0 hz1 hz2 rfl (by decide) _ _ _ rfl (hown.alloc _) ⟨wr.heap.size, 0, none⟩ 1 1 [.int .i64 (k : Int)] rfl rfl (World.news_of_block (cs := #[.int .i64 (k : Int)]) (t := 3) (fr := (0, 0)) (heap_alloc_new wr _)) (by simp [Value.oneCell']) (by unfold maxLen; omega) (by omega) (by simp; omega) ?_; intro v4 w4 hown4 hgrow4 _; refine Hid.out ?_)
        have hb4 : Below w.heap.size w w4 := (HB.out.alloc hsz _).grown hgrow4 (by simp; omega) (fun j hj => (hown.lt j hj).1)
        have HO := Lib.hid (And.intro (show w4.ownsRow w.heap.size 3 1 v4 (lst f (k + 1)).length (ivs (lst f (k + 1))) by rw [HL.out, List.length_append, ← ivs_snoc]; exact hown4) hb4)
        clear hown hown4 hgrow4 hb4
        refine Lib.hid ?_
        go_wp2
        go_roundw
        case rel => exact ⟨k + 1, by omega, by go_num, HO.out.1, HO.out.2⟩
        case measure => simp [intOf]; omega
    · obtain rfl : k = 8 := by omega
      have hI : ¬ ((8 : Nat) : Int) < 8 := by omega
      go_wp2
      go_ret
      exact ⟨_, _, _, rfl, hown, HB.out⟩
theorem spec_writes (s : Sm) (r : Bool) (hr : r = true ↔ wr s) (w : World) : Calls Tryz.prog 35 #[stV s] w (BelB w r) := by
  have c0 : (w.alloc (.cells #[.int .i64 s.k, .int .i64 s.v, .int .i64 s.n, .int .i64 s.o, .int .i64 s.a, .int .i64 s.b] 68)).cell? ⟨w.heap.size, 0, none⟩ = some (.int .i64 s.k) := (Box.new w #[.int .i64 s.k, .int .i64 s.v, .int .i64 s.n, .int .i64 s.o, .int .i64 s.a, .int .i64 s.b] _).cell 0
  have HR := Lib.hid hr
  by_cases h1 : s.k = 1
  · have hrt : r = true := hr.2 (.inl h1)
    subst hrt
    rw [h1] at c0
    clear hr
    go_enter Tryz.func35, Tryz.ntmps35
    go_wp2
    go_ret
    exact ⟨rfl, below_new _ _⟩
  · by_cases h2 : s.k = 2
    · have hrt : r = true := hr.2 (.inr h2)
      subst hrt
      rw [h2] at c0
      clear hr
      go_enter Tryz.func35, Tryz.ntmps35
      go_wp2
      go_ret
      exact ⟨rfl, below_new _ _⟩
    · have hrf : r = false := by rw [← Bool.not_eq_true]; intro e; rcases hr.1 e with h | h <;> omega
      subst hrf
      clear hr
      have b1 : (s.k == 1) = false := by simpa using h1
      have b2 : (s.k == 2) = false := by simpa using h2
      go_enter Tryz.func35, Tryz.ntmps35
      go_wp2
      go_ret
      exact ⟨rfl, below_new _ _⟩
end Go.Proofs.YtlicadaecfgklaaGreat.sets
