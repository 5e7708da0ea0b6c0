/- Several texts in one: SetC SetD. -/
import Derived.Test.YtlicadaecfgklaaGreatGHub24
import Derived.Test.YtlicadaecfgklaaGreatGHub15

/- The model's MayWrite and MustWrite; nothing that was there is written. -/
namespace Go.Proofs.YtlicadaecfgklaaGreat.sets
open Go Go.ChangeShapes Go.WideShapes Go.ChangeAt Go.RowKit Go.Proofs.YtlicadaecfgklaaGreat.row Go.Proofs.YtlicadaecfgklaaGreat.val Go.Proofs.YtlicadaecfgklaaGreat.stm Go.Proofs.YtlicadaecfgklaaGreat.blk Go.Proofs.YtlicadaecfgklaaGreat.expr

theorem wr_var {s : Sm} (h : stOk s = true) (hw : wr s) : ∃ v : Nat, s.v = v ∧ v < 8 := by
  rcases hw with e | e <;> simp [stOk, e, varOk] at h <;> exact ⟨s.v.toNat, by omega, by omega⟩
theorem wr_dec (s : Sm) : ∃ r : Bool, r = true ↔ wr s := by
  by_cases h : wr s
  · exact ⟨true, fun _ => h, fun _ => rfl⟩
  · exact ⟨false, fun e => (by cases e), fun e => absurd e h⟩
/-- The set 'f' is the property 'p', among the eight variables. -/
def Is (f : Nat → Bool) (p : Nat → Prop) : Prop := ∀ v, v < 8 → (f v = true ↔ p v)
theorem Is.eq {f g : Nat → Bool} {p : Nat → Prop} (h : Is f p) (h' : Is g p) : ∀ v, v < 8 → f v = g v := fun v hv => by
  have h1 := h v hv
  have h2 := h' v hv
  cases hf : f v <;> cases hg : g v
  · rfl
  · exact absurd (h1.2 (h2.1 hg)) (by rw [hf]; simp)
  · exact absurd (h2.2 (h1.1 hf)) (by rw [hg]; simp)
  · rfl
theorem Is.put {f : Nat → Bool} {p q : Nat → Prop} {v : Nat} (h : Is f p) (hq : ∀ u, q u ↔ p u ∨ u = v) : Is (fun u => decide (u = v) || f u) q := fun u hu => by
  have h1 := h u hu
  rw [hq u]
  simp only [Bool.or_eq_true, decide_eq_true_eq]
  constructor
  · rintro (e | e)
    · exact .inr e
    · exact .inl (h1.1 e)
  · rintro (e | e)
    · exact .inr (h1.2 e)
    · exact .inl e
theorem Is.congr {f : Nat → Bool} {p q : Nat → Prop} (h : Is f p) (hq : ∀ u, q u ↔ p u) : Is f q := fun u hu => (h u hu).trans (hq u).symm
theorem wrAt_iff {B : List Sm} {k v u : Nat} {s : Sm} (hs : B[k]? = some s) (hw : wr s) (hv : s.v = v) : WrAt B k u ↔ u = v := by
  constructor
  · rintro ⟨t, ht, _, hu⟩
    rw [hs] at ht; cases ht; omega
  · rintro rfl; exact ⟨s, hs, hw, hv⟩
theorem wrAt_no {B : List Sm} {k u : Nat} {s : Sm} (hs : B[k]? = some s) (hw : ¬ wr s) : ¬ WrAt B k u := fun ⟨t, ht, h, _⟩ => by
  rw [hs] at ht; cases ht; exact hw h
theorem Bset.made2 {w : World} {cs : Array Value} {t : TypeId} (h : ∀ v, v < 8 → cs[v]? = some (.bool false)) : Bset w.heap.size (fun _ => false) (w.alloc (.cells cs t)) := ⟨cs, t, Box.new w cs t, h⟩
theorem range_below {w w' : World} {g o : Nat} {L : List Value} (h : w.rangeAt g o L) (hb : Below w.heap.size w w') (hl : g < w.heap.size) : w'.rangeAt g o L := fun j v hj => (hb.cell (p := ⟨g, o + j, none⟩) hl).trans (h j v hj)
/-- Eight bools are made. -/
theorem mk8 (w : World) : (Instr.makeSlice 64 (.int .i64 8) (.int .i64 8)).run Tryz.prog w = .ok (.slice (some ⟨w.heap.size, 0, none⟩) 8 8) (w.alloc (.cells #[.bool false, .bool false, .bool false, .bool false, .bool false, .bool false, .bool false, .bool false] 4)) := by kernel_rfl
set_option maxHeartbeats 4000000 in
set_option maxRecDepth 100000 in
theorem spec_maywrite (a : Option Addr) (n cap : Nat) (B : List Sm) (hn : (n : Int) ≤ 1048576) (w : World) (h : StRow w a n B) (f : Nat → Bool) (hf : Is f (fun v => IsBlk B ∧ MayTo B n v)) :
    Calls Tryz.prog 17 #[.slice a n cap] w (NewInts w (lst f 8)) := by
  have hmk := mk8
  obtain ⟨W, hW⟩ : ∃ W, w.alloc (.cells #[.bool false, .bool false, .bool false, .bool false, .bool false, .bool false, .bool false, .bool false] 4) = W := ⟨_, rfl⟩
  have hbw : Below w.heap.size w W := by rw [← hW]; exact below_new w _
  have HS0 := Lib.hid (show Bset w.heap.size (fun _ => false) W by rw [← hW]; exact Bset.made w _)
  have HW := Lib.hid hW
  have HBW := Lib.hid hbw
  have HL := Lib.hid h
  have HF := Lib.hid hf
  have hlen := h.1
  clear h hf hbw hW
  rcases Classical.em (IsBlk B) with hb | hb
  · have HB := Lib.hid hb
    clear hb
    go_enter Tryz.func17, Tryz.ntmps17
    go_wp2
    rw [HW.out]
    clear hmk
    go_loopw [4] (fun i wr => ∃ (k : Nat) (fk : Nat → Bool), k ≤ n ∧ i = .int .i64 k ∧ Hid (Is fk (MayTo B k)) ∧ Hid (Bset w.heap.size fk wr) ∧ Hid (Below w.heap.size w wr)) (fun i _ => n - (intOf i).toNat)
    case atStart => exact ⟨0, _, Nat.zero_le _, rfl, fun v _ => ⟨fun e => (by cases e), fun e => absurd e mayTo_zero⟩, HS0, HBW.out⟩
    case round =>
      obtain ⟨k, fk, hk, rfl, HFK, HS, HR⟩ := hrel
      by_cases hlt : k < n
      · have hI : (k : Int) < n := by omega
        obtain ⟨g, off, s, rfl, hlb, hs, hrs⟩ := (HL.out.below HR.out).2 k hlt
        obtain ⟨r, hr⟩ := wr_dec s
        have HT := Lib.hid (And.intro hrs (And.intro hs hr))
        clear hrs hs
        go_wp2_with (go_at_call 34; (with_reducible refine (spec_blockok _ n cap B hn _ (HL.out.below HR.out) true ⟨fun _ => HB.out, fun _ => rfl⟩).mono ?_); rintro e w2 ⟨rfl, hb2⟩; refine Hid.out ?_)
        have H2 := Lib.hid (And.intro (HS.out.below hb2) (below_then HR.out hb2))
        have HT2 := Lib.hid (And.intro (range_below HT.out.1 hb2 hlb) (Nat.lt_of_lt_of_le hlb hb2.size))
        clear hb2
        refine Lib.hid ?_
        go_wp2_with (first
          | (refine wpList_load_mid rfl 68 _ rfl g (off + k * 6) rfl (stC s) _ HT2.out.1 Tryz.underlying68 rfl (by kernel_rfl) ?_)
          | (go_at_call 35; refine (spec_writes s r HT.out.2.2 _).mono ?_; rintro e w3 ⟨rfl, hb3⟩; refine Hid.out ?_))
        have H3 := Lib.hid (And.intro (H2.out.1.below hb3) (below_then H2.out.2 hb3))
        have HT3 := Lib.hid (range_below HT2.out.1 hb3 HT2.out.2)
        clear hb3
        cases r
        · have HF1 := Lib.hid (show Is fk (MayTo B (k + 1)) from HFK.out.congr (fun u => ⟨fun h => (mayTo_succ.1 h).resolve_right (wrAt_no HT.out.2.1 (fun h => by have := HT.out.2.2.2 h; cases this)), fun h => mayTo_succ.2 (.inl h)⟩))
          clear hr
          refine Lib.hid ?_
          go_wp2
          go_roundw
          case rel => exact ⟨k + 1, fk, by omega, by go_num, HF1, H3.out.1, H3.out.2⟩
          case measure => simp [intOf]; omega
        · have hw := HT.out.2.2.1 rfl
          obtain ⟨u, hu, hu8⟩ := wr_var (blk_stOk HB.out HT.out.2.1) hw
          have HF1 := Lib.hid (show Is (fun v => decide (v = u) || fk v) (MayTo B (k + 1)) from HFK.out.put (fun v => mayTo_succ.trans (or_congr Iff.rfl (wrAt_iff HT.out.2.1 hw hu))))
          have d1 : w3.cell? ⟨g, off + k * 6 + 1, none⟩ = some (.int .i64 (u : Int)) := by rw [(range6 HT3.out).2.1, hu]
          have e1 : w3.cell? ⟨w.heap.size, u, none⟩ = some (.bool (fk u)) := H3.out.1.cell hu8
          have f1 : w3.frozen? ⟨w.heap.size, u, none⟩ = false := H3.out.1.frozen u
          have hu0 : (0 : Int) ≤ (u : Int) := by omega
          have hu9 : (u : Int) < 8 := by omega
          have HS4 := Lib.hid (And.intro (H3.out.1.put hu8) (H3.out.2.setCell (p := ⟨w.heap.size, u, none⟩) (Nat.le_refl _) (.bool true)))
          clear hr hw hu
          refine Lib.hid ?_
          go_wp2
          go_roundw
          case rel => exact ⟨k + 1, _, by omega, by go_num, HF1, HS4.out.1, HS4.out.2⟩
          case measure => simp [intOf]; omega
      · obtain rfl : k = n := by omega
        have hI : ¬ (k : Int) < k := by omega
        have HFL := Lib.hid (show lst fk 8 = lst f 8 from lst_congr (Is.eq HFK.out (HF.out.congr (fun u => ⟨fun h => ⟨HB.out, h⟩, fun h => h.2⟩))))
        go_wp2_with (go_at_call 36; (with_reducible refine (spec_list w.heap.size 8 fk _ HS.out).mono ?_); rintro e w5 ⟨ad, m, c5, rfl, hown, hb5⟩)
        go_ret
        exact ⟨ad, m, c5, rfl, by rw [← HFL.out]; exact hown.mono HR.out.size, below_then HR.out hb5⟩
  · have HB := Lib.hid hb
    have HFL := Lib.hid (show lst (fun _ => false) 8 = lst f 8 from lst_congr (Is.eq (p := fun v => IsBlk B ∧ MayTo B n v) (fun v _ => ⟨fun e => (by cases e), fun e => absurd e.1 hb⟩) HF.out))
    clear hb
    go_enter Tryz.func17, Tryz.ntmps17
    go_wp2
    rw [HW.out]
    clear hmk
    go_loopw [4] (fun i wr => i = .int .i64 0 ∧ wr = W) (fun _ _ => 0)
    case atStart => exact ⟨rfl, rfl⟩
    case round =>
      obtain ⟨rfl, rfl⟩ := hrel
      rcases Nat.eq_zero_or_pos n with hn0 | hn0
      · have hI : ¬ (0 : Int) < n := by omega
        clear hn0
        go_wp2_with (go_at_call 36; (with_reducible refine (spec_list w.heap.size 8 _ _ HS0.out).mono ?_); rintro e w5 ⟨ad, m, c5, rfl, hown, hb5⟩)
        go_ret
        exact ⟨ad, m, c5, rfl, by rw [← HFL.out]; exact hown.mono HBW.out.size, below_then HBW.out hb5⟩
      · have hI : (0 : Int) < n := by omega
        clear hn0
        go_wp2_with (go_at_call 34; (with_reducible refine (spec_blockok _ n cap B hn _ (HL.out.below HBW.out) false ⟨fun h => (by cases h), fun h => absurd h HB.out⟩).mono ?_); rintro e w2 ⟨rfl, hb2⟩; refine Hid.out ?_)
        have H2 := Lib.hid (And.intro (HS0.out.below hb2) (below_then HBW.out hb2))
        clear hb2
        refine Lib.hid ?_
        go_wp2_with (go_at_call 36; (with_reducible refine (spec_list w.heap.size 8 _ _ H2.out.1).mono ?_); rintro e w5 ⟨ad, m, c5, rfl, hown, hb5⟩)
        go_ret
        exact ⟨ad, m, c5, rfl, by rw [← HFL.out]; exact hown.mono H2.out.2.size, below_then H2.out.2 hb5⟩
end Go.Proofs.YtlicadaecfgklaaGreat.sets

/- The model's MustWrite; nothing that was there is written. -/
namespace Go.Proofs.YtlicadaecfgklaaGreat.sets
open Go Go.ChangeShapes Go.WideShapes Go.ChangeAt Go.RowKit Go.Proofs.YtlicadaecfgklaaGreat.row Go.Proofs.YtlicadaecfgklaaGreat.val Go.Proofs.YtlicadaecfgklaaGreat.stm Go.Proofs.YtlicadaecfgklaaGreat.blk Go.Proofs.YtlicadaecfgklaaGreat.expr

set_option maxHeartbeats 4000000 in
set_option maxRecDepth 100000 in
theorem spec_mustwrite (a : Option Addr) (n cap : Nat) (B : List Sm) (hn : (n : Int) ≤ 1048576) (w : World) (h : StRow w a n B) (f : Nat → Bool) (hf : Is f (fun v => IsBlk B ∧ WAt B n v)) :
    Calls Tryz.prog 38 #[.slice a n cap] w (NewInts w (lst f 8)) := by
  have hmk := mk8
  obtain ⟨W, hW⟩ : ∃ W, w.alloc (.cells #[.bool false, .bool false, .bool false, .bool false, .bool false, .bool false, .bool false, .bool false] 4) = W := ⟨_, rfl⟩
  have hbw : Below w.heap.size w W := by rw [← hW]; exact below_new w _
  have HS0 := Lib.hid (show Bset w.heap.size (fun _ => false) W by rw [← hW]; exact Bset.made w _)
  have HW := Lib.hid hW
  have HBW := Lib.hid hbw
  have HL := Lib.hid h
  have HF := Lib.hid hf
  have hlen := h.1
  clear h hf hbw hW
  rcases Classical.em (IsBlk B) with hb | hb
  · have HB := Lib.hid hb
    clear hb
    go_enter Tryz.func38, Tryz.ntmps38
    go_wp2
    rw [HW.out]
    clear hmk
    go_loopw [4] (fun i wr => ∃ (k : Nat) (fk : Nat → Bool), k ≤ n ∧ i = .int .i64 k ∧ Hid (Is fk (WAt B k)) ∧ Hid (Out B k) ∧ Hid (Bset w.heap.size fk wr) ∧ Hid (Below w.heap.size w wr)) (fun i _ => n - (intOf i).toNat)
    case atStart => exact ⟨0, _, Nat.zero_le _, rfl, fun v _ => ⟨fun e => (by cases e), fun e => absurd e wAt_zero⟩, Out.zero B, HS0, HBW.out⟩
    case round =>
      obtain ⟨k, fk, hk, rfl, HFK, HO, HS, HR⟩ := hrel
      by_cases hlt : k < n
      · have hI : (k : Int) < n := by omega
        obtain ⟨g, off, s, rfl, hlb, hs, hrs⟩ := (HL.out.below HR.out).2 k hlt
        obtain ⟨r, hr⟩ := wr_dec s
        have HT := Lib.hid (And.intro hrs (And.intro hs hr))
        clear hrs hs
        go_wp2_with (go_at_call 34; (with_reducible refine (spec_blockok _ n cap B hn _ (HL.out.below HR.out) true ⟨fun _ => HB.out, fun _ => rfl⟩).mono ?_); rintro e w2 ⟨rfl, hb2⟩; refine Hid.out ?_)
        have H2 := Lib.hid (And.intro (HS.out.below hb2) (below_then HR.out hb2))
        have HT2 := Lib.hid (And.intro (range_below HT.out.1 hb2 hlb) (Nat.lt_of_lt_of_le hlb hb2.size))
        clear hb2
        have d0 : w2.cell? ⟨g, off + k * 6, none⟩ = some (.int .i64 s.k) := (range6 HT2.out.1).1
        by_cases h4 : s.k = 4
        · obtain ⟨e, he⟩ := end_exists HB.out HT.out.2.1 (show opn s = true by unfold opn; simp [h4])
          obtain ⟨X, hX⟩ : ∃ X : Int, X = e := ⟨_, rfl⟩
          have HE := Lib.hid (And.intro he hX)
          have HF1 := Lib.hid (show Is fk (WAt B (e + 1)) from HFK.out.congr (fun u => wAt_if HT.out.2.1 h4 he))
          have HO1 := Lib.hid (HO.out.jump he)
          have hen : e < n := by have := he.2.1; omega
          have hke : k < e := he.1
          rw [h4] at d0
          clear he h4 hr
          refine Lib.hid ?_
          go_wp2_with (go_at_call 61; refine (spec_end _ n cap B _ (HL.out.below H2.out.2) HB.out k e HE.out.1 X HE.out.2).mono ?_; rintro e9 w3 ⟨rfl, hb3⟩; refine Hid.out ?_)
          have H3 := Lib.hid (And.intro (H2.out.1.below hb3) (below_then H2.out.2 hb3))
          have hXe := HE.out.2
          subst hXe
          clear hb3 d0
          refine Lib.hid ?_
          go_wp2
          go_roundw
          case rel => exact ⟨e + 1, fk, by omega, by go_num, HF1, HO1, H3.out.1, H3.out.2⟩
          case measure => simp [intOf]; omega
        have b4 : (s.k == 4) = false := by simpa using h4
        have HO1 := Lib.hid (HO.out.succ HT.out.2.1 h4)
        refine Lib.hid ?_
        go_wp2_with (first
          | (refine wpList_load_mid rfl 68 _ rfl g (off + k * 6) rfl (stC s) _ HT2.out.1 Tryz.underlying68 rfl (by kernel_rfl) ?_)
          | (go_at_call 35; refine (spec_writes s r HT.out.2.2 _).mono ?_; rintro e w3 ⟨rfl, hb3⟩; refine Hid.out ?_))
        have H3 := Lib.hid (And.intro (H2.out.1.below hb3) (below_then H2.out.2 hb3))
        have HT3 := Lib.hid (range_below HT2.out.1 hb3 HT2.out.2)
        clear hb3
        cases r
        · have HF1 := Lib.hid (show Is fk (WAt B (k + 1)) from HFK.out.congr (fun u => ⟨fun h => ((wAt_succ HO.out.noEnd).1 h).resolve_right (wrAt_no HT.out.2.1 (fun h => by have := HT.out.2.2.2 h; cases this)), fun h => (wAt_succ HO.out.noEnd).2 (.inl h)⟩))
          clear hr
          refine Lib.hid ?_
          go_wp2
          go_roundw
          case rel => exact ⟨k + 1, fk, by omega, by go_num, HF1, HO1, H3.out.1, H3.out.2⟩
          case measure => simp [intOf]; omega
        · have hw := HT.out.2.2.1 rfl
          obtain ⟨u, hu, hu8⟩ := wr_var (blk_stOk HB.out HT.out.2.1) hw
          have HF1 := Lib.hid (show Is (fun v => decide (v = u) || fk v) (WAt B (k + 1)) from HFK.out.put (fun v => (wAt_succ HO.out.noEnd).trans (or_congr Iff.rfl (wrAt_iff HT.out.2.1 hw hu))))
          have d1 : w3.cell? ⟨g, off + k * 6 + 1, none⟩ = some (.int .i64 (u : Int)) := by rw [(range6 HT3.out).2.1, hu]
          have e1 : w3.cell? ⟨w.heap.size, u, none⟩ = some (.bool (fk u)) := H3.out.1.cell hu8
          have f1 : w3.frozen? ⟨w.heap.size, u, none⟩ = false := H3.out.1.frozen u
          have hu0 : (0 : Int) ≤ (u : Int) := by omega
          have hu9 : (u : Int) < 8 := by omega
          have HS4 := Lib.hid (And.intro (H3.out.1.put hu8) (H3.out.2.setCell (p := ⟨w.heap.size, u, none⟩) (Nat.le_refl _) (.bool true)))
          clear hr hw hu
          refine Lib.hid ?_
          go_wp2
          go_roundw
          case rel => exact ⟨k + 1, _, by omega, by go_num, HF1, HO1, HS4.out.1, HS4.out.2⟩
          case measure => simp [intOf]; omega
      · obtain rfl : k = n := by omega
        have hI : ¬ (k : Int) < k := by omega
        have HFL := Lib.hid (show lst fk 8 = lst f 8 from lst_congr (Is.eq HFK.out (HF.out.congr (fun u => ⟨fun h => ⟨HB.out, h⟩, fun h => h.2⟩))))
        go_wp2_with (go_at_call 36; (with_reducible refine (spec_list w.heap.size 8 fk _ HS.out).mono ?_); rintro e w5 ⟨ad, m, c5, rfl, hown, hb5⟩)
        go_ret
        exact ⟨ad, m, c5, rfl, by rw [← HFL.out]; exact hown.mono HR.out.size, below_then HR.out hb5⟩
  · have HB := Lib.hid hb
    have HFL := Lib.hid (show lst (fun _ => false) 8 = lst f 8 from lst_congr (Is.eq (p := fun v => IsBlk B ∧ WAt B n v) (fun v _ => ⟨fun e => (by cases e), fun e => absurd e.1 hb⟩) HF.out))
    clear hb
    go_enter Tryz.func38, Tryz.ntmps38
    go_wp2
    rw [HW.out]
    clear hmk
    go_loopw [4] (fun i wr => i = .int .i64 0 ∧ wr = W) (fun _ _ => 0)
    case atStart => exact ⟨rfl, rfl⟩
    case round =>
      obtain ⟨rfl, rfl⟩ := hrel
      rcases Nat.eq_zero_or_pos n with hn0 | hn0
      · have hI : ¬ (0 : Int) < n := by omega
        clear hn0
        go_wp2_with (go_at_call 36; (with_reducible refine (spec_list w.heap.size 8 _ _ HS0.out).mono ?_); rintro e w5 ⟨ad, m, c5, rfl, hown, hb5⟩)
        go_ret
        exact ⟨ad, m, c5, rfl, by rw [← HFL.out]; exact hown.mono HBW.out.size, below_then HBW.out hb5⟩
      · have hI : (0 : Int) < n := by omega
        clear hn0
        go_wp2_with (go_at_call 34; (with_reducible refine (spec_blockok _ n cap B hn _ (HL.out.below HBW.out) false ⟨fun h => (by cases h), fun h => absurd h HB.out⟩).mono ?_); rintro e w2 ⟨rfl, hb2⟩; refine Hid.out ?_)
        have H2 := Lib.hid (And.intro (HS0.out.below hb2) (below_then HBW.out hb2))
        clear hb2
        refine Lib.hid ?_
        go_wp2_with (go_at_call 36; (with_reducible refine (spec_list w.heap.size 8 _ _ H2.out.1).mono ?_); rintro e w5 ⟨ad, m, c5, rfl, hown, hb5⟩)
        go_ret
        exact ⟨ad, m, c5, rfl, by rw [← HFL.out]; exact hown.mono H2.out.2.size, below_then H2.out.2 hb5⟩
end Go.Proofs.YtlicadaecfgklaaGreat.sets
