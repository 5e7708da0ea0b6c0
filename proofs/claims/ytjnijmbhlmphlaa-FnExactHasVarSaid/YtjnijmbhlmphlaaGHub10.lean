/- Several texts in one: SetH SetD. -/
import Derived.Test.YtjnijmbhlmphlaaGHub9

/- The sets that are open at a place of a block, by where each one ends. Plain mathematics. -/
namespace Go.Proofs.Ytjnijmbhlmphlaa.sets
open Go Go.Proofs.Ytjnijmbhlmphlaa.stm Go.Proofs.Ytjnijmbhlmphlaa.blk Go.Proofs.Ytjnijmbhlmphlaa.expr

/-- A set is open at 'p' that ends at 'q': the block's own, or that of a condition around the place. -/
def Opn (B : List Sm) (p q : Nat) : Prop := q = B.length ∨ ∃ i, InIf B i p ∧ IsEnd B i q
/-- What the set that ends at 'q' holds at 'p'. -/
def SAt (B : List Sm) (p q v : Nat) : Prop := ∃ j, j < p ∧ WrAt B j v ∧ ∀ i e s, B[i]? = some s → s.k = 4 → IsEnd B i e → i < j → j ≤ e → q ≤ e ∧ p ≤ e
theorem sAt_zero {B : List Sm} {q v : Nat} : ¬ SAt B 0 q v := fun ⟨j, h, _⟩ => by omega
theorem opn_zero {B : List Sm} {q : Nat} : Opn B 0 q ↔ q = B.length := by
  constructor
  · rintro (h | ⟨i, ⟨_, _, _, _, _, h, _⟩, _⟩)
    · exact h
    · omega
  · exact .inl
theorem opn_last {B : List Sm} {q : Nat} : Opn B B.length q ↔ q = B.length := by
  constructor
  · rintro (h | ⟨i, ⟨e, _, _, _, he, _, h⟩, _⟩)
    · exact h
    · have := he.2.1; omega
  · exact .inl
theorem Opn.le {B : List Sm} {p q : Nat} (h : Opn B p q) : q ≤ B.length := by
  rcases h with rfl | ⟨i, _, he⟩
  · exact Nat.le_refl _
  · exact Nat.le_of_lt he.2.1
theorem Opn.ge {B : List Sm} {p q : Nat} (h : Opn B p q) (hp : p ≤ B.length) : p ≤ q := by
  rcases h with rfl | ⟨i, ⟨e, _, _, _, he, _, h2⟩, he'⟩
  · exact hp
  · have := he.unique he'; omega
/-- The innermost set holds what is certainly written. -/
theorem sAt_min {B : List Sm} {p q v : Nat} (hq : ∀ q', Opn B p q' → q ≤ q') : SAt B p q v ↔ WAt B p v := by
  constructor
  · rintro ⟨j, hj, hw, h⟩
    refine ⟨j, hj, hw, fun i ⟨e, s, h1, h2, h3, h4, h5⟩ => ⟨e, s, h1, h2, h3, by omega, (h i e s h1 h2 h3 h4 h5).2⟩⟩
  · rintro ⟨j, hj, hw, h⟩
    refine ⟨j, hj, hw, fun i e s h1 h2 h3 h4 h5 => ?_⟩
    have hI : InIf B i p := h i ⟨e, s, h1, h2, h3, h4, h5⟩
    have hI2 := hI
    obtain ⟨e', s', g1, g2, g3, g4, g5⟩ := hI2
    obtain rfl := g3.unique h3
    exact ⟨hq _ (.inr ⟨i, hI, h3⟩), g5⟩
/-- Where nothing is written, the sets that stay open hold what they held. -/
theorem sAt_still {B : List Sm} {p q v : Nat} (hn : ∀ u, ¬ WrAt B p u) (hq : p + 1 ≤ q) : SAt B (p + 1) q v ↔ SAt B p q v := by
  constructor
  · rintro ⟨j, hj, hw, h⟩
    have : j ≠ p := fun e => hn v (e ▸ hw)
    refine ⟨j, by omega, hw, fun i e s h1 h2 h3 h4 h5 => ?_⟩
    have := h i e s h1 h2 h3 h4 h5
    exact ⟨this.1, by omega⟩
  · rintro ⟨j, hj, hw, h⟩
    refine ⟨j, by omega, hw, fun i e s h1 h2 h3 h4 h5 => ?_⟩
    have := h i e s h1 h2 h3 h4 h5
    exact ⟨this.1, by omega⟩
/-- What is written goes into the innermost set .. -/
theorem sAt_put {B : List Sm} {p q v : Nat} (hq : ∀ q', Opn B p q' → q ≤ q') (hp : p + 1 ≤ q) : SAt B (p + 1) q v ↔ SAt B p q v ∨ WrAt B p v := by
  constructor
  · rintro ⟨j, hj, hw, h⟩
    by_cases e : j = p
    · subst e; exact .inr hw
    · refine .inl ⟨j, by omega, hw, fun i e s h1 h2 h3 h4 h5 => ?_⟩
      have := h i e s h1 h2 h3 h4 h5
      exact ⟨this.1, by omega⟩
  · rintro (⟨j, hj, hw, h⟩ | hw)
    · refine ⟨j, by omega, hw, fun i e s h1 h2 h3 h4 h5 => ?_⟩
      have := h i e s h1 h2 h3 h4 h5
      exact ⟨this.1, by omega⟩
    · refine ⟨p, by omega, hw, fun i e s h1 h2 h3 h4 h5 => ?_⟩
      have := hq e (.inr ⟨i, ⟨e, s, h1, h2, h3, h4, h5⟩, h3⟩)
      exact ⟨this, by omega⟩
/-- .. and into no other. -/
theorem sAt_other {B : List Sm} {p q q' v : Nat} (ho : Opn B p q') (hlt : q' < q) (hb : q ≤ B.length) (hp : p + 1 ≤ q) : SAt B (p + 1) q v ↔ SAt B p q v := by
  constructor
  · rintro ⟨j, hj, hw, h⟩
    by_cases e : j = p
    · subst e
      exfalso
      rcases ho with rfl | ⟨i, ⟨e, s, h1, h2, h3, h4, h5⟩, h6⟩
      · omega
      · obtain rfl := h3.unique h6
        have := h i e s h1 h2 h3 h4 h5
        omega
    · refine ⟨j, by omega, hw, fun i e s h1 h2 h3 h4 h5 => ?_⟩
      have := h i e s h1 h2 h3 h4 h5
      exact ⟨this.1, by omega⟩
  · rintro ⟨j, hj, hw, h⟩
    refine ⟨j, by omega, hw, fun i e s h1 h2 h3 h4 h5 => ?_⟩
    have := h i e s h1 h2 h3 h4 h5
    exact ⟨this.1, by omega⟩
/-- At a condition the new set is what is certainly written. -/
theorem sAt_if {B : List Sm} {p e v : Nat} {s : Sm} (hs : B[p]? = some s) (h4 : s.k = 4) (he : IsEnd B p e) : SAt B (p + 1) e v ↔ WAt B p v := by
  constructor
  · rintro ⟨j, hj, hw, h⟩
    have hjp : j ≠ p := by
      rintro rfl
      obtain ⟨t, ht, hw2, _⟩ := hw
      rw [hs] at ht; cases ht
      rcases hw2 with h | h <;> omega
    refine ⟨j, by omega, hw, fun i ⟨e', t, h1, h2, h3, h5, h6⟩ => ?_⟩
    have := h i e' t h1 h2 h3 h5 h6
    exact ⟨e', t, h1, h2, h3, by omega, by omega⟩
  · rintro ⟨j, hj, hw, h⟩
    refine ⟨j, by omega, hw, fun i e' t h1 h2 h3 h5 h6 => ?_⟩
    obtain ⟨e2, t2, g1, g2, g3, g5, g6⟩ := h i ⟨e', t, h1, h2, h3, h5, h6⟩
    obtain rfl := g3.unique h3
    have := end_in he g3 g5 g6
    have := he.1
    exact ⟨by omega, by omega⟩
theorem six_not {B : List Sm} {i p : Nat} {s : Sm} (hs : B[p]? = some s) (h : s.k ≠ 6) : ¬ IsEnd B i p := fun he => by
  obtain ⟨t, ht, h6⟩ := he.kind
  rw [hs] at ht; cases ht; exact h h6
/-- No condition begins or ends: the open sets are the same. -/
theorem opn_same {B : List Sm} {p q : Nat} {s : Sm} (hs : B[p]? = some s) (h4 : s.k ≠ 4) (hn : ∀ i t, B[i]? = some t → t.k = 4 → ¬ IsEnd B i p) : Opn B (p + 1) q ↔ Opn B p q := by
  constructor
  · rintro (h | ⟨i, ⟨e, t, h1, h2, h3, h5, h6⟩, h7⟩)
    · exact .inl h
    · have : i ≠ p := by rintro rfl; rw [hs] at h1; cases h1; exact h4 h2
      exact .inr ⟨i, ⟨e, t, h1, h2, h3, by omega, by omega⟩, h7⟩
  · rintro (h | ⟨i, ⟨e, t, h1, h2, h3, h5, h6⟩, h7⟩)
    · exact .inl h
    · have : e ≠ p := fun e9 => hn i t h1 h2 (e9 ▸ h3)
      exact .inr ⟨i, ⟨e, t, h1, h2, h3, by omega, by omega⟩, h7⟩
/-- A condition begins: one more is open. -/
theorem opn_if {B : List Sm} {p e q : Nat} {s : Sm} (hs : B[p]? = some s) (h4 : s.k = 4) (he : IsEnd B p e) : Opn B (p + 1) q ↔ Opn B p q ∨ q = e := by
  constructor
  · rintro (h | ⟨i, ⟨e', t, h1, h2, h3, h5, h6⟩, h7⟩)
    · exact .inl (.inl h)
    · by_cases e9 : i = p
      · subst e9; exact .inr (h7.unique he)
      · exact .inl (.inr ⟨i, ⟨e', t, h1, h2, h3, by omega, by omega⟩, h7⟩)
  · rintro ((h | ⟨i, ⟨e', t, h1, h2, h3, h5, h6⟩, h7⟩) | rfl)
    · exact .inl h
    · have : e' ≠ p := fun e9 => six_not hs (by omega) (e9 ▸ h3)
      exact .inr ⟨i, ⟨e', t, h1, h2, h3, by omega, by omega⟩, h7⟩
    · exact .inr ⟨p, ⟨q, s, hs, h4, he, by omega, he.1⟩, he⟩
theorem opn_if_lt {B : List Sm} {p e q : Nat} (he : IsEnd B p e) (h : Opn B p q) : e < q := by
  rcases h with rfl | ⟨i, ⟨e', t, h1, h2, h3, h5, h6⟩, h7⟩
  · exact he.2.1
  · obtain rfl := h3.unique h7
    exact end_in he h3 h5 h6
/-- A condition ends: it is open no longer. -/
theorem opn_end {B : List Sm} {i p q : Nat} (he : IsEnd B i p) : Opn B (p + 1) q ↔ Opn B p q ∧ q ≠ p := by
  have hp := he.2.1
  constructor
  · rintro (h | ⟨i', ⟨e', t, h1, h2, h3, h5, h6⟩, h7⟩)
    · exact ⟨.inl h, by omega⟩
    · obtain rfl := h3.unique h7
      have : i' ≠ p := by
        rintro rfl
        obtain ⟨t', ht', h6'⟩ := he.kind
        rw [h1] at ht'; cases ht'; omega
      exact ⟨.inr ⟨i', ⟨e', t, h1, h2, h3, by omega, by omega⟩, h7⟩, by omega⟩
  · rintro ⟨h | ⟨i', ⟨e', t, h1, h2, h3, h5, h6⟩, h7⟩, hne⟩
    · exact .inl h
    · obtain rfl := h3.unique h7
      exact .inr ⟨i', ⟨e', t, h1, h2, h3, by omega, by omega⟩, h7⟩
/-- There is an innermost set. -/
theorem opn_min (B : List Sm) (p : Nat) : ∃ q, Opn B p q ∧ ∀ q', Opn B p q' → q ≤ q' := by
  have key : ∀ d q, q ≤ d → Opn B p q → ∃ q, Opn B p q ∧ ∀ q', Opn B p q' → q ≤ q' := by
    intro d
    induction d with
    | zero => intro q hq h; exact ⟨q, h, fun q' _ => by omega⟩
    | succ d ih =>
      intro q hq h
      rcases Classical.em (∃ q', Opn B p q' ∧ q' < q) with ⟨q', h1, h2⟩ | hn
      · exact ih q' (by omega) h1
      · exact ⟨q, h, fun q' h' => Nat.le_of_not_lt fun hlt => hn ⟨q', h', hlt⟩⟩
  exact key _ _ (Nat.le_refl _) (.inl rfl)
end Go.Proofs.Ytjnijmbhlmphlaa.sets

/- The model's MustWrite; nothing that was there is written. -/
namespace Go.Proofs.Ytjnijmbhlmphlaa.sets
open Go Go.ChangeShapes Go.WideShapes Go.ChangeAt Go.RowKit Go.Proofs.Ytjnijmbhlmphlaa.row Go.Proofs.Ytjnijmbhlmphlaa.val Go.Proofs.Ytjnijmbhlmphlaa.stm Go.Proofs.Ytjnijmbhlmphlaa.blk Go.Proofs.Ytjnijmbhlmphlaa.expr

set_option maxHeartbeats 4000000 in
set_option maxRecDepth 100000 in
theorem spec_mustwrite (a : Option Addr) (n cap : Nat) (B : List Sm) (hn : (n : Int) ≤ 1048576) (w : World) (h : StRow w a n B) (f : Nat → Bool) (hf : Is f (fun v => IsBlk B ∧ WAt B n v)) :
    Calls Try.prog 22 #[.slice a n cap] w (NewInts w (lst f 8)) := by
  have hmk := mk8
  obtain ⟨W, hW⟩ : ∃ W, w.alloc (.cells #[.bool false, .bool false, .bool false, .bool false, .bool false, .bool false, .bool false, .bool false] 4) = W := ⟨_, rfl⟩
  have hbw : Below w.heap.size w W := by rw [← hW]; exact below_new w _
  have HS0 := Lib.hid (show Bset w.heap.size (fun _ => false) W by rw [← hW]; exact Bset.made w _)
  have HW := Lib.hid hW
  have HBW := Lib.hid hbw
  have HL := Lib.hid h
  have HF := Lib.hid hf
  have hlen := h.1
  clear h hf hbw hW
  rcases Classical.em (IsBlk B) with hb | hb
  · have HB := Lib.hid hb
    clear hb
    go_enter Try.func22, Try.ntmps22
    go_wp2
    rw [HW.out]
    clear hmk
    go_loopw [4] (fun i wr => ∃ (k : Nat) (fk : Nat → Bool), k ≤ n ∧ i = .int .i64 k ∧ Hid (Is fk (WAt B k)) ∧ Hid (Out B k) ∧ Hid (Bset w.heap.size fk wr) ∧ Hid (Below w.heap.size w wr)) (fun i _ => n - (intOf i).toNat)
    case atStart => exact ⟨0, _, Nat.zero_le _, rfl, fun v _ => ⟨fun e => (by cases e), fun e => absurd e wAt_zero⟩, Out.zero B, HS0, HBW.out⟩
    case round =>
      obtain ⟨k, fk, hk, rfl, HFK, HO, HS, HR⟩ := hrel
      by_cases hlt : k < n
      · have hI : (k : Int) < n := by omega
        obtain ⟨g, off, s, rfl, hlb, hs, hrs⟩ := (HL.out.below HR.out).2 k hlt
        obtain ⟨r, hr⟩ := wr_dec s
        have HT := Lib.hid (And.intro hrs (And.intro hs hr))
        clear hrs hs
        go_wp2_with (go_at_call 37; (with_reducible refine (spec_blockok _ n cap B hn _ (HL.out.below HR.out) true ⟨fun _ => HB.out, fun _ => rfl⟩).mono ?_); rintro e w2 ⟨rfl, hb2⟩; refine Hid.out ?_)
        have H2 := Lib.hid (And.intro (HS.out.below hb2) (below_then HR.out hb2))
        have HT2 := Lib.hid (And.intro (range_below HT.out.1 hb2 hlb) (Nat.lt_of_lt_of_le hlb hb2.size))
        clear hb2
        have d0 : w2.cell? ⟨g, off + k * 6, none⟩ = some (.int .i64 s.k) := (range6 HT2.out.1).1
        by_cases h4 : s.k = 4
        · obtain ⟨e, he⟩ := end_exists HB.out HT.out.2.1 (show opn s = true by unfold opn; simp [h4])
          obtain ⟨X, hX⟩ : ∃ X : Int, X = e := ⟨_, rfl⟩
          have HE := Lib.hid (And.intro he hX)
          have HF1 := Lib.hid (show Is fk (WAt B (e + 1)) from HFK.out.congr (fun u => wAt_if HT.out.2.1 h4 he))
          have HO1 := Lib.hid (HO.out.jump he)
          have hen : e < n := by have := he.2.1; omega
          have hke : k < e := he.1
          rw [h4] at d0
          clear he h4 hr
          refine Lib.hid ?_
          go_wp2_with (go_at_call 43; refine (spec_end _ n cap B _ (HL.out.below H2.out.2) HB.out k e HE.out.1 X HE.out.2).mono ?_; rintro e9 w3 ⟨rfl, hb3⟩; refine Hid.out ?_)
          have H3 := Lib.hid (And.intro (H2.out.1.below hb3) (below_then H2.out.2 hb3))
          have hXe := HE.out.2
          subst hXe
          clear hb3 d0
          refine Lib.hid ?_
          go_wp2
          go_roundw
          case rel => exact ⟨e + 1, fk, by omega, by go_num, HF1, HO1, H3.out.1, H3.out.2⟩
          case measure => simp [intOf]; omega
        have b4 : (s.k == 4) = false := by simpa using h4
        have HO1 := Lib.hid (HO.out.succ HT.out.2.1 h4)
        refine Lib.hid ?_
        go_wp2_with (first
          | (refine wpList_load_mid rfl 31 _ rfl g (off + k * 6) rfl (stC s) _ HT2.out.1 Try.underlying31 rfl (by kernel_rfl) ?_)
          | (go_at_call 38; refine (spec_writes s r HT.out.2.2 _).mono ?_; rintro e w3 ⟨rfl, hb3⟩; refine Hid.out ?_))
        have H3 := Lib.hid (And.intro (H2.out.1.below hb3) (below_then H2.out.2 hb3))
        have HT3 := Lib.hid (range_below HT2.out.1 hb3 HT2.out.2)
        clear hb3
        cases r
        · have HF1 := Lib.hid (show Is fk (WAt B (k + 1)) from HFK.out.congr (fun u => ⟨fun h => ((wAt_succ HO.out.noEnd).1 h).resolve_right (wrAt_no HT.out.2.1 (fun h => by have := HT.out.2.2.2 h; cases this)), fun h => (wAt_succ HO.out.noEnd).2 (.inl h)⟩))
          clear hr
          refine Lib.hid ?_
          go_wp2
          go_roundw
          case rel => exact ⟨k + 1, fk, by omega, by go_num, HF1, HO1, H3.out.1, H3.out.2⟩
          case measure => simp [intOf]; omega
        · have hw := HT.out.2.2.1 rfl
          obtain ⟨u, hu, hu8⟩ := wr_var (blk_stOk HB.out HT.out.2.1) hw
          have HF1 := Lib.hid (show Is (fun v => decide (v = u) || fk v) (WAt B (k + 1)) from HFK.out.put (fun v => (wAt_succ HO.out.noEnd).trans (or_congr Iff.rfl (wrAt_iff HT.out.2.1 hw hu))))
          have d1 : w3.cell? ⟨g, off + k * 6 + 1, none⟩ = some (.int .i64 (u : Int)) := by rw [(range6 HT3.out).2.1, hu]
          have e1 : w3.cell? ⟨w.heap.size, u, none⟩ = some (.bool (fk u)) := H3.out.1.cell hu8
          have f1 : w3.frozen? ⟨w.heap.size, u, none⟩ = false := H3.out.1.frozen u
          have hu0 : (0 : Int) ≤ (u : Int) := by omega
          have hu9 : (u : Int) < 8 := by omega
          have HS4 := Lib.hid (And.intro (H3.out.1.put hu8) (H3.out.2.setCell (p := ⟨w.heap.size, u, none⟩) (Nat.le_refl _) (.bool true)))
          clear hr hw hu
          refine Lib.hid ?_
          go_wp2
          go_roundw
          case rel => exact ⟨k + 1, _, by omega, by go_num, HF1, HO1, HS4.out.1, HS4.out.2⟩
          case measure => simp [intOf]; omega
      · obtain rfl : k = n := by omega
        have hI : ¬ (k : Int) < k := by omega
        have HFL := Lib.hid (show lst fk 8 = lst f 8 from lst_congr (Is.eq HFK.out (HF.out.congr (fun u => ⟨fun h => ⟨HB.out, h⟩, fun h => h.2⟩))))
        go_wp2_with (go_at_call 39; (with_reducible refine (spec_list w.heap.size 8 fk _ HS.out).mono ?_); rintro e w5 ⟨ad, m, c5, rfl, hown, hb5⟩)
        go_ret
        exact ⟨ad, m, c5, rfl, by rw [← HFL.out]; exact hown.mono HR.out.size, below_then HR.out hb5⟩
  · have HB := Lib.hid hb
    have HFL := Lib.hid (show lst (fun _ => false) 8 = lst f 8 from lst_congr (Is.eq (p := fun v => IsBlk B ∧ WAt B n v) (fun v _ => ⟨fun e => (by cases e), fun e => absurd e.1 hb⟩) HF.out))
    clear hb
    go_enter Try.func22, Try.ntmps22
    go_wp2
    rw [HW.out]
    clear hmk
    go_loopw [4] (fun i wr => i = .int .i64 0 ∧ wr = W) (fun _ _ => 0)
    case atStart => exact ⟨rfl, rfl⟩
    case round =>
      obtain ⟨rfl, rfl⟩ := hrel
      rcases Nat.eq_zero_or_pos n with hn0 | hn0
      · have hI : ¬ (0 : Int) < n := by omega
        clear hn0
        go_wp2_with (go_at_call 39; (with_reducible refine (spec_list w.heap.size 8 _ _ HS0.out).mono ?_); rintro e w5 ⟨ad, m, c5, rfl, hown, hb5⟩)
        go_ret
        exact ⟨ad, m, c5, rfl, by rw [← HFL.out]; exact hown.mono HBW.out.size, below_then HBW.out hb5⟩
      · have hI : (0 : Int) < n := by omega
        clear hn0
        go_wp2_with (go_at_call 37; (with_reducible refine (spec_blockok _ n cap B hn _ (HL.out.below HBW.out) false ⟨fun h => (by cases h), fun h => absurd h HB.out⟩).mono ?_); rintro e w2 ⟨rfl, hb2⟩; refine Hid.out ?_)
        have H2 := Lib.hid (And.intro (HS0.out.below hb2) (below_then HBW.out hb2))
        clear hb2
        refine Lib.hid ?_
        go_wp2_with (go_at_call 39; (with_reducible refine (spec_list w.heap.size 8 _ _ H2.out.1).mono ?_); rintro e w5 ⟨ad, m, c5, rfl, hown, hb5⟩)
        go_ret
        exact ⟨ad, m, c5, rfl, by rw [← HFL.out]; exact hown.mono H2.out.2.size, below_then H2.out.2 hb5⟩
end Go.Proofs.Ytjnijmbhlmphlaa.sets
