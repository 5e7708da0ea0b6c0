/- Several texts in one: VSetC VSetD VSetE. -/
import Derived.Test.YtmgeecdgebemdaaGreatDoorGSigV18
import Derived.Test.YtmgeecdgebemdaaGreatDoorGSigV11
import Derived.Test.YtmgeecdgebemdaaGreatDoorGSigV10

/- The model's MayWrite and MustWrite; nothing that was there is written. -/
namespace Go.Proofs.YtmgeecdgebemdaaGreatDoor.sets
open Go Go.ChangeShapes Go.WideShapes Go.ChangeAt Go.RowKit Go.Proofs.YtmgeecdgebemdaaGreatDoor.row Go.Proofs.YtmgeecdgebemdaaGreatDoor.val Go.Proofs.YtmgeecdgebemdaaGreatDoor.stm Go.Proofs.YtmgeecdgebemdaaGreatDoor.blk Go.Proofs.YtmgeecdgebemdaaGreatDoor.expr
theorem wr_var {s : Sm} (h : stOk s = true) (hw : wr s) : ∃ v : Nat, s.v = v ∧ v < 8 := by
  rcases hw with e | e <;> simp [stOk, e, varOk] at h <;> exact ⟨s.v.toNat, by omega, by omega⟩
theorem wr_dec (s : Sm) : ∃ r : Bool, r = true ↔ wr s := by
  by_cases h : wr s
  · exact ⟨true, fun _ => h, fun _ => rfl⟩
  · exact ⟨false, fun e => (by cases e), fun e => absurd e h⟩
/-- The set 'f' is the property 'p', among the eight variables. -/
def Is (f : Nat → Bool) (p : Nat → Prop) : Prop := ∀ v, v < 8 → (f v = true ↔ p v)
theorem Is.eq {f g : Nat → Bool} {p : Nat → Prop} (h : Is f p) (h' : Is g p) : ∀ v, v < 8 → f v = g v := fun v hv => by
  have h1 := h v hv
  have h2 := h' v hv
  cases hf : f v <;> cases hg : g v
  · rfl
  · exact absurd (h1.2 (h2.1 hg)) (by rw [hf]; simp)
  · exact absurd (h2.2 (h1.1 hf)) (by rw [hg]; simp)
  · rfl
theorem Is.put {f : Nat → Bool} {p q : Nat → Prop} {v : Nat} (h : Is f p) (hq : ∀ u, q u ↔ p u ∨ u = v) : Is (fun u => decide (u = v) || f u) q := fun u hu => by
  have h1 := h u hu
  rw [hq u]
  simp only [Bool.or_eq_true, decide_eq_true_eq]
  constructor
  · rintro (e | e)
    · exact .inr e
    · exact .inl (h1.1 e)
  · rintro (e | e)
    · exact .inr (h1.2 e)
    · exact .inl e
theorem Is.congr {f : Nat → Bool} {p q : Nat → Prop} (h : Is f p) (hq : ∀ u, q u ↔ p u) : Is f q := fun u hu => (h u hu).trans (hq u).symm
theorem wrAt_iff {B : List Sm} {k v u : Nat} {s : Sm} (hs : B[k]? = some s) (hw : wr s) (hv : s.v = v) : WrAt B k u ↔ u = v := by
  constructor
  · rintro ⟨t, ht, _, hu⟩
    rw [hs] at ht; cases ht; omega
  · rintro rfl; exact ⟨s, hs, hw, hv⟩
theorem wrAt_no {B : List Sm} {k u : Nat} {s : Sm} (hs : B[k]? = some s) (hw : ¬ wr s) : ¬ WrAt B k u := fun ⟨t, ht, h, _⟩ => by
  rw [hs] at ht; cases ht; exact hw h
theorem range_below {w w' : World} {g o : Nat} {L : List Value} (h : w.rangeAt g o L) (hb : Below w.heap.size w w') (hl : g < w.heap.size) : w'.rangeAt g o L := fun j v hj => (hb.cell (p := ⟨g, o + j, none⟩) hl).trans (h j v hj)
/-- Eight bools are made. -/
theorem mk8 (w : World) : (Instr.makeSlice 224 (.int .i64 8) (.int .i64 8)).run Tryz.prog w = .ok (.slice (some ⟨w.heap.size, 0, none⟩) 8 8) (w.alloc (.cells #[.bool false, .bool false, .bool false, .bool false, .bool false, .bool false, .bool false, .bool false] 4)) := by kernel_rfl
set_option maxHeartbeats 4000000 in
set_option maxRecDepth 100000 in
theorem spec_maywrite (a : Option Addr) (n cap : Nat) (B : List Sm) (hn : (n : Int) ≤ 1048576) (w : World) (h : StRow w a n B) (f : Nat → Bool) (hf : Is f (fun v => IsBlk B ∧ MayTo B n v)) :
    Calls Tryz.prog 170 #[.slice a n cap] w (NewInts w (lst f 8)) := by
  have hmk := mk8
  obtain ⟨W, hW⟩ : ∃ W, w.alloc (.cells #[.bool false, .bool false, .bool false, .bool false, .bool false, .bool false, .bool false, .bool false] 4) = W := ⟨_, rfl⟩
  have hbw : Below w.heap.size w W := by rw [← hW]; exact below_new w _
  have HS0 := Lib.hid (show Bset w.heap.size (fun _ => false) W by rw [← hW]; exact Bset.made w _)
  have HW := Lib.hid hW
  have HBW := Lib.hid hbw
  have HL := Lib.hid h
  have HF := Lib.hid hf
  have hlen := h.1
  clear h hf hbw hW
  rcases Classical.em (IsBlk B) with hb | hb
  · have HB := Lib.hid hb
    clear hb
    go_enter Tryz.func170, Tryz.ntmps170
    go_wp2
    rw [HW.out]
    clear hmk
    go_loopw [4] (fun i wr => ∃ (k : Nat) (fk : Nat → Bool), k ≤ n ∧ i = .int .i64 k ∧ Hid (Is fk (MayTo B k)) ∧ Hid (Bset w.heap.size fk wr) ∧ Hid (Below w.heap.size w wr)) (fun i _ => n - (intOf i).toNat)
    case atStart => exact ⟨0, _, Nat.zero_le _, rfl, fun v _ => ⟨fun e => (by cases e), fun e => absurd e mayTo_zero⟩, HS0, HBW.out⟩
    case round =>
      obtain ⟨k, fk, hk, rfl, HFK, HS, HR⟩ := hrel
      by_cases hlt : k < n
      · have hI : (k : Int) < n := by omega
        obtain ⟨g, off, s, rfl, hlb, hs, hrs⟩ := (HL.out.below HR.out).2 k hlt
        obtain ⟨r, hr⟩ := wr_dec s
        have HT := Lib.hid (And.intro hrs (And.intro hs hr))
        clear hrs hs
        go_wp2_with (go_at_call 150; (with_reducible refine (spec_blockok _ n cap B hn _ (HL.out.below HR.out) true ⟨fun _ => HB.out, fun _ => rfl⟩).mono ?_); rintro e w2 ⟨rfl, hb2⟩; refine Hid.out ?_)
        have H2 := Lib.hid (And.intro (HS.out.below hb2) (below_then HR.out hb2))
        have HT2 := Lib.hid (And.intro (range_below HT.out.1 hb2 hlb) (Nat.lt_of_lt_of_le hlb hb2.size))
        clear hb2
        refine Lib.hid ?_
        go_wp2_with (first
          | (refine wpList_load_mid rfl 112 _ rfl g (off + k * 6) rfl (stC s) _ HT2.out.1 Tryz.underlying112 rfl (by kernel_rfl) ?_)
          | (go_at_call 207; refine (spec_writes s r HT.out.2.2 _).mono ?_; rintro e w3 ⟨rfl, hb3⟩; refine Hid.out ?_))
        have H3 := Lib.hid (And.intro (H2.out.1.below hb3) (below_then H2.out.2 hb3))
        have HT3 := Lib.hid (range_below HT2.out.1 hb3 HT2.out.2)
        clear hb3
        cases r
        · have HF1 := Lib.hid (show Is fk (MayTo B (k + 1)) from HFK.out.congr (fun u => ⟨fun h => (mayTo_succ.1 h).resolve_right (wrAt_no HT.out.2.1 (fun h => by have := HT.out.2.2.2 h; cases this)), fun h => mayTo_succ.2 (.inl h)⟩))
          clear hr
          refine Lib.hid ?_
          go_wp2
          go_roundw
          case rel => exact ⟨k + 1, fk, by omega, by go_num, HF1, H3.out.1, H3.out.2⟩
          case measure => simp [intOf]; omega
        · have hw := HT.out.2.2.1 rfl
          obtain ⟨u, hu, hu8⟩ := wr_var (blk_stOk HB.out HT.out.2.1) hw
          have HF1 := Lib.hid (show Is (fun v => decide (v = u) || fk v) (MayTo B (k + 1)) from HFK.out.put (fun v => mayTo_succ.trans (or_congr Iff.rfl (wrAt_iff HT.out.2.1 hw hu))))
          have d1 : w3.cell? ⟨g, off + k * 6 + 1, none⟩ = some (.int .i64 (u : Int)) := by rw [(range6 HT3.out).2.1, hu]
          have e1 : w3.cell? ⟨w.heap.size, u, none⟩ = some (.bool (fk u)) := H3.out.1.cell hu8
          have f1 : w3.frozen? ⟨w.heap.size, u, none⟩ = false := H3.out.1.frozen u
          have hu0 : (0 : Int) ≤ (u : Int) := by omega
          have hu9 : (u : Int) < 8 := by omega
          have HS4 := Lib.hid (And.intro (H3.out.1.put hu8) (H3.out.2.setCell (p := ⟨w.heap.size, u, none⟩) (Nat.le_refl _) (.bool true)))
          clear hr hw hu
          refine Lib.hid ?_
          go_wp2
          go_roundw
          case rel => exact ⟨k + 1, _, by omega, by go_num, HF1, HS4.out.1, HS4.out.2⟩
          case measure => simp [intOf]; omega
      · obtain rfl : k = n := by omega
        have hI : ¬ (k : Int) < k := by omega
        have HFL := Lib.hid (show lst fk 8 = lst f 8 from lst_congr (Is.eq HFK.out (HF.out.congr (fun u => ⟨fun h => ⟨HB.out, h⟩, fun h => h.2⟩))))
        go_wp2_with (go_at_call 208; (with_reducible refine (spec_list w.heap.size 8 fk _ HS.out).mono ?_); rintro e w5 ⟨ad, m, c5, rfl, hown, hb5⟩)
        go_ret
        exact ⟨ad, m, c5, rfl, by rw [← HFL.out]; exact hown.mono HR.out.size, below_then HR.out hb5⟩
  · have HB := Lib.hid hb
    have HFL := Lib.hid (show lst (fun _ => false) 8 = lst f 8 from lst_congr (Is.eq (p := fun v => IsBlk B ∧ MayTo B n v) (fun v _ => ⟨fun e => (by cases e), fun e => absurd e.1 hb⟩) HF.out))
    clear hb
    go_enter Tryz.func170, Tryz.ntmps170
    go_wp2
    rw [HW.out]
    clear hmk
    go_loopw [4] (fun i wr => i = .int .i64 0 ∧ wr = W) (fun _ _ => 0)
    case atStart => exact ⟨rfl, rfl⟩
    case round =>
      obtain ⟨rfl, rfl⟩ := hrel
      rcases Nat.eq_zero_or_pos n with hn0 | hn0
      · have hI : ¬ (0 : Int) < n := by omega
        clear hn0
        go_wp2_with (go_at_call 208; (with_reducible refine (spec_list w.heap.size 8 _ _ HS0.out).mono ?_); rintro e w5 ⟨ad, m, c5, rfl, hown, hb5⟩)
        go_ret
        exact ⟨ad, m, c5, rfl, by rw [← HFL.out]; exact hown.mono HBW.out.size, below_then HBW.out hb5⟩
      · have hI : (0 : Int) < n := by omega
        clear hn0
        go_wp2_with (go_at_call 150; (with_reducible refine (spec_blockok _ n cap B hn _ (HL.out.below HBW.out) false ⟨fun h => (by cases h), fun h => absurd h HB.out⟩).mono ?_); rintro e w2 ⟨rfl, hb2⟩; refine Hid.out ?_)
        have H2 := Lib.hid (And.intro (HS0.out.below hb2) (below_then HBW.out hb2))
        clear hb2
        refine Lib.hid ?_
        go_wp2_with (go_at_call 208; (with_reducible refine (spec_list w.heap.size 8 _ _ H2.out.1).mono ?_); rintro e w5 ⟨ad, m, c5, rfl, hown, hb5⟩)
        go_ret
        exact ⟨ad, m, c5, rfl, by rw [← HFL.out]; exact hown.mono H2.out.2.size, below_then H2.out.2 hb5⟩
end Go.Proofs.YtmgeecdgebemdaaGreatDoor.sets

/- The model's MustWrite; nothing that was there is written. -/
namespace Go.Proofs.YtmgeecdgebemdaaGreatDoor.sets
open Go Go.ChangeShapes Go.WideShapes Go.ChangeAt Go.RowKit Go.Proofs.YtmgeecdgebemdaaGreatDoor.row Go.Proofs.YtmgeecdgebemdaaGreatDoor.val Go.Proofs.YtmgeecdgebemdaaGreatDoor.stm Go.Proofs.YtmgeecdgebemdaaGreatDoor.blk Go.Proofs.YtmgeecdgebemdaaGreatDoor.expr
set_option maxHeartbeats 4000000 in
set_option maxRecDepth 100000 in
theorem spec_mustwrite (a : Option Addr) (n cap : Nat) (B : List Sm) (hn : (n : Int) ≤ 1048576) (w : World) (h : StRow w a n B) (f : Nat → Bool) (hf : Is f (fun v => IsBlk B ∧ WAt B n v)) :
    Calls Tryz.prog 171 #[.slice a n cap] w (NewInts w (lst f 8)) := by
  have hmk := mk8
  obtain ⟨W, hW⟩ : ∃ W, w.alloc (.cells #[.bool false, .bool false, .bool false, .bool false, .bool false, .bool false, .bool false, .bool false] 4) = W := ⟨_, rfl⟩
  have hbw : Below w.heap.size w W := by rw [← hW]; exact below_new w _
  have HS0 := Lib.hid (show Bset w.heap.size (fun _ => false) W by rw [← hW]; exact Bset.made w _)
  have HW := Lib.hid hW
  have HBW := Lib.hid hbw
  have HL := Lib.hid h
  have HF := Lib.hid hf
  have hlen := h.1
  clear h hf hbw hW
  rcases Classical.em (IsBlk B) with hb | hb
  · have HB := Lib.hid hb
    clear hb
    go_enter Tryz.func171, Tryz.ntmps171
    go_wp2
    rw [HW.out]
    clear hmk
    go_loopw [4] (fun i wr => ∃ (k : Nat) (fk : Nat → Bool), k ≤ n ∧ i = .int .i64 k ∧ Hid (Is fk (WAt B k)) ∧ Hid (Out B k) ∧ Hid (Bset w.heap.size fk wr) ∧ Hid (Below w.heap.size w wr)) (fun i _ => n - (intOf i).toNat)
    case atStart => exact ⟨0, _, Nat.zero_le _, rfl, fun v _ => ⟨fun e => (by cases e), fun e => absurd e wAt_zero⟩, Out.zero B, HS0, HBW.out⟩
    case round =>
      obtain ⟨k, fk, hk, rfl, HFK, HO, HS, HR⟩ := hrel
      by_cases hlt : k < n
      · have hI : (k : Int) < n := by omega
        obtain ⟨g, off, s, rfl, hlb, hs, hrs⟩ := (HL.out.below HR.out).2 k hlt
        obtain ⟨r, hr⟩ := wr_dec s
        have HT := Lib.hid (And.intro hrs (And.intro hs hr))
        clear hrs hs
        go_wp2_with (go_at_call 150; (with_reducible refine (spec_blockok _ n cap B hn _ (HL.out.below HR.out) true ⟨fun _ => HB.out, fun _ => rfl⟩).mono ?_); rintro e w2 ⟨rfl, hb2⟩; refine Hid.out ?_)
        have H2 := Lib.hid (And.intro (HS.out.below hb2) (below_then HR.out hb2))
        have HT2 := Lib.hid (And.intro (range_below HT.out.1 hb2 hlb) (Nat.lt_of_lt_of_le hlb hb2.size))
        clear hb2
        have d0 : w2.cell? ⟨g, off + k * 6, none⟩ = some (.int .i64 s.k) := (range6 HT2.out.1).1
        by_cases h4 : s.k = 4
        · obtain ⟨e, he⟩ := end_exists HB.out HT.out.2.1 (show opn s = true by unfold opn; simp [h4])
          obtain ⟨X, hX⟩ : ∃ X : Int, X = e := ⟨_, rfl⟩
          have HE := Lib.hid (And.intro he hX)
          have HF1 := Lib.hid (show Is fk (WAt B (e + 1)) from HFK.out.congr (fun u => wAt_if HT.out.2.1 h4 he))
          have HO1 := Lib.hid (HO.out.jump he)
          have hen : e < n := by have := he.2.1; omega
          have hke : k < e := he.1
          rw [h4] at d0
          clear he h4 hr
          refine Lib.hid ?_
          go_wp2_with (go_at_call 178; refine (spec_end _ n cap B _ (HL.out.below H2.out.2) HB.out k e HE.out.1 X HE.out.2).mono ?_; rintro e9 w3 ⟨rfl, hb3⟩; refine Hid.out ?_)
          have H3 := Lib.hid (And.intro (H2.out.1.below hb3) (below_then H2.out.2 hb3))
          have hXe := HE.out.2
          subst hXe
          clear hb3 d0
          refine Lib.hid ?_
          go_wp2
          go_roundw
          case rel => exact ⟨e + 1, fk, by omega, by go_num, HF1, HO1, H3.out.1, H3.out.2⟩
          case measure => simp [intOf]; omega
        have b4 : (s.k == 4) = false := by simpa using h4
        have HO1 := Lib.hid (HO.out.succ HT.out.2.1 h4)
        refine Lib.hid ?_
        go_wp2_with (first
          | (refine wpList_load_mid rfl 112 _ rfl g (off + k * 6) rfl (stC s) _ HT2.out.1 Tryz.underlying112 rfl (by kernel_rfl) ?_)
          | (go_at_call 207; refine (spec_writes s r HT.out.2.2 _).mono ?_; rintro e w3 ⟨rfl, hb3⟩; refine Hid.out ?_))
        have H3 := Lib.hid (And.intro (H2.out.1.below hb3) (below_then H2.out.2 hb3))
        have HT3 := Lib.hid (range_below HT2.out.1 hb3 HT2.out.2)
        clear hb3
        cases r
        · have HF1 := Lib.hid (show Is fk (WAt B (k + 1)) from HFK.out.congr (fun u => ⟨fun h => ((wAt_succ HO.out.noEnd).1 h).resolve_right (wrAt_no HT.out.2.1 (fun h => by have := HT.out.2.2.2 h; cases this)), fun h => (wAt_succ HO.out.noEnd).2 (.inl h)⟩))
          clear hr
          refine Lib.hid ?_
          go_wp2
          go_roundw
          case rel => exact ⟨k + 1, fk, by omega, by go_num, HF1, HO1, H3.out.1, H3.out.2⟩
          case measure => simp [intOf]; omega
        · have hw := HT.out.2.2.1 rfl
          obtain ⟨u, hu, hu8⟩ := wr_var (blk_stOk HB.out HT.out.2.1) hw
          have HF1 := Lib.hid (show Is (fun v => decide (v = u) || fk v) (WAt B (k + 1)) from HFK.out.put (fun v => (wAt_succ HO.out.noEnd).trans (or_congr Iff.rfl (wrAt_iff HT.out.2.1 hw hu))))
          have d1 : w3.cell? ⟨g, off + k * 6 + 1, none⟩ = some (.int .i64 (u : Int)) := by rw [(range6 HT3.out).2.1, hu]
          have e1 : w3.cell? ⟨w.heap.size, u, none⟩ = some (.bool (fk u)) := H3.out.1.cell hu8
          have f1 : w3.frozen? ⟨w.heap.size, u, none⟩ = false := H3.out.1.frozen u
          have hu0 : (0 : Int) ≤ (u : Int) := by omega
          have hu9 : (u : Int) < 8 := by omega
          have HS4 := Lib.hid (And.intro (H3.out.1.put hu8) (H3.out.2.setCell (p := ⟨w.heap.size, u, none⟩) (Nat.le_refl _) (.bool true)))
          clear hr hw hu
          refine Lib.hid ?_
          go_wp2
          go_roundw
          case rel => exact ⟨k + 1, _, by omega, by go_num, HF1, HO1, HS4.out.1, HS4.out.2⟩
          case measure => simp [intOf]; omega
      · obtain rfl : k = n := by omega
        have hI : ¬ (k : Int) < k := by omega
        have HFL := Lib.hid (show lst fk 8 = lst f 8 from lst_congr (Is.eq HFK.out (HF.out.congr (fun u => ⟨fun h => ⟨HB.out, h⟩, fun h => h.2⟩))))
        go_wp2_with (go_at_call 208; (with_reducible refine (spec_list w.heap.size 8 fk _ HS.out).mono ?_); rintro e w5 ⟨ad, m, c5, rfl, hown, hb5⟩)
        go_ret
        exact ⟨ad, m, c5, rfl, by rw [← HFL.out]; exact hown.mono HR.out.size, below_then HR.out hb5⟩
  · have HB := Lib.hid hb
    have HFL := Lib.hid (show lst (fun _ => false) 8 = lst f 8 from lst_congr (Is.eq (p := fun v => IsBlk B ∧ WAt B n v) (fun v _ => ⟨fun e => (by cases e), fun e => absurd e.1 hb⟩) HF.out))
    clear hb
    go_enter Tryz.func171, Tryz.ntmps171
    go_wp2
    rw [HW.out]
    clear hmk
    go_loopw [4] (fun i wr => i = .int .i64 0 ∧ wr = W) (fun _ _ => 0)
    case atStart => exact ⟨rfl, rfl⟩
    case round =>
      obtain ⟨rfl, rfl⟩ := hrel
      rcases Nat.eq_zero_or_pos n with hn0 | hn0
      · have hI : ¬ (0 : Int) < n := by omega
        clear hn0
        go_wp2_with (go_at_call 208; (with_reducible refine (spec_list w.heap.size 8 _ _ HS0.out).mono ?_); rintro e w5 ⟨ad, m, c5, rfl, hown, hb5⟩)
        go_ret
        exact ⟨ad, m, c5, rfl, by rw [← HFL.out]; exact hown.mono HBW.out.size, below_then HBW.out hb5⟩
      · have hI : (0 : Int) < n := by omega
        clear hn0
        go_wp2_with (go_at_call 150; (with_reducible refine (spec_blockok _ n cap B hn _ (HL.out.below HBW.out) false ⟨fun h => (by cases h), fun h => absurd h HB.out⟩).mono ?_); rintro e w2 ⟨rfl, hb2⟩; refine Hid.out ?_)
        have H2 := Lib.hid (And.intro (HS0.out.below hb2) (below_then HBW.out hb2))
        clear hb2
        refine Lib.hid ?_
        go_wp2_with (go_at_call 208; (with_reducible refine (spec_list w.heap.size 8 _ _ H2.out.1).mono ?_); rintro e w5 ⟨ad, m, c5, rfl, hown, hb5⟩)
        go_ret
        exact ⟨ad, m, c5, rfl, by rw [← HFL.out]; exact hown.mono H2.out.2.size, below_then H2.out.2 hb5⟩
end Go.Proofs.YtmgeecdgebemdaaGreatDoor.sets

/- The model's l07Note: what an expression reads and is not written yet. -/
namespace Go.Proofs.YtmgeecdgebemdaaGreatDoor.sets
open Go Go.ChangeShapes Go.WideShapes Go.ChangeAt Go.RowKit Go.Proofs.YtmgeecdgebemdaaGreatDoor.row Go.Proofs.YtmgeecdgebemdaaGreatDoor.val Go.Proofs.YtmgeecdgebemdaaGreatDoor.stm Go.Proofs.YtmgeecdgebemdaaGreatDoor.blk Go.Proofs.YtmgeecdgebemdaaGreatDoor.expr
theorem rd_nat {a b x : Int} (h : x ∈ rd a b 8) : ∃ v : Nat, x = v ∧ v < 8 := by
  unfold rd at h
  obtain ⟨v, hv, rfl⟩ := List.mem_map.1 h
  exact ⟨v, rfl, List.mem_range.1 (List.mem_filter.1 hv).1⟩
theorem take_mem {L : List Int} {k v : Nat} {x : Int} (h : L[k]? = some x) : (v : Int) ∈ L.take (k + 1) ↔ (v : Int) ∈ L.take k ∨ (v : Int) = x := by
  rw [List.take_add_one, h]; simp
theorem Bset.grown {g : Nat} {f : Nat → Bool} {w w' : World} {r : Option Nat} (h : Bset g f w) (hg : w.grownBy w' r) (hn : some g ≠ r) : Bset g f w' := h.same (hg.block g h.lt hn)
/-- What noting leaves: the set at 'gf' has what is read and not in 'W'. -/
def Noted (gf : Nat) (F W : Nat → Bool) (L : List Int) (w : World) (e : Ending) (w' : World) : Prop :=
  e = .returned (.tuple #[]) ∧ w.grownBy w' (some gf) ∧ ∃ F', Hid (Bset gf F' w' ∧ Is F' (fun v => F v = true ∨ ((v : Int) ∈ L ∧ W v = false)))
set_option maxHeartbeats 4000000 in
set_option maxRecDepth 100000 in
theorem spec_note (gf gw cf cw : Nat) (F W : Nat → Bool) (hne : gf ≠ gw) (o x y : Int) (he : exprOk o x y = true) (w : World) (hF : Bset gf F w) (hW : Bset gw W w) :
    Calls Tryz.prog 210 #[.slice (some ⟨gf, 0, none⟩) 8 cf, .slice (some ⟨gw, 0, none⟩) 8 cw, ev o x y] w (Noted gf F W (rd x y 8) w) := by
  have HF := Lib.hid hF
  have HWS := Lib.hid hW
  obtain ⟨L, hL⟩ : ∃ L, rd x y 8 = L := ⟨_, rfl⟩
  have HRD := Lib.hid (show ∀ w', Calls Tryz.prog 237 #[ev o x y] w' (NewInts w' L) from fun w' => by rw [← hL]; exact spec_reads_ok w' o x y he)
  have HLN := Lib.hid (show ∀ z ∈ L, ∃ v : Nat, z = v ∧ v < 8 from fun z hz => rd_nat (by rw [hL]; exact hz))
  have hl8 : L.length ≤ 8 := by rw [← hL]; exact rd_len x y 8
  rw [hL]
  have hlf := hF.lt
  have hlw := hW.lt
  clear hF hW he hL
  have c0 : (w.alloc (.cells #[.int .i64 o, .int .i64 x, .int .i64 y] 94)).cell? ⟨w.heap.size, 0, none⟩ = some (.int .i64 o) := (Box.new w #[.int .i64 o, .int .i64 x, .int .i64 y] _).cell 0
  have c1 : (w.alloc (.cells #[.int .i64 o, .int .i64 x, .int .i64 y] 94)).cell? ⟨w.heap.size, 1, none⟩ = some (.int .i64 x) := (Box.new w #[.int .i64 o, .int .i64 x, .int .i64 y] _).cell 1
  have c2 : (w.alloc (.cells #[.int .i64 o, .int .i64 x, .int .i64 y] 94)).cell? ⟨w.heap.size, 2, none⟩ = some (.int .i64 y) := (Box.new w #[.int .i64 o, .int .i64 x, .int .i64 y] _).cell 2
  go_enter Tryz.func210, Tryz.ntmps210
  go_wp2_with (go_at_call 237; refine (HRD.out _).mono ?_; rintro e w1 ⟨ad, m, cap, rfl, hown, hb1⟩; refine Hid.out ?_)
  have hbw1 : Below w.heap.size w w1 := below_then (below_new w (.cells #[.int .i64 o, .int .i64 x, .int .i64 y] 94)) hb1
  have HG1 := Lib.hid (show w.grownBy w1 none from ⟨hbw1.os, hbw1.tape, hbw1.output, hbw1.size, fun k hk _ => hbw1.block k hk⟩)
  have HO1 := Lib.hid (show w1.ownsRow w.heap.size 3 1 (.slice ad m cap) m (ivs L) from hown.mono (by simp))
  have hml : L.length = m := by have := hown.1; simp [ivs] at this; exact this
  have hm8 : m ≤ 8 := by omega
  clear hown hb1 hbw1 c0 c1 c2
  refine Lib.hid ?_
  go_wp2
  go_loopw [7] (fun i wr => ∃ (k : Nat) (Fk : Nat → Bool), k ≤ m ∧ i = .int .i64 k ∧ Hid (Bset gf Fk wr ∧ Is Fk (fun v => F v = true ∨ ((v : Int) ∈ L.take k ∧ W v = false))) ∧ Hid (w.grownBy wr (some gf) ∧ wr.ownsRow w.heap.size 3 1 (.slice ad m cap) m (ivs L))) (fun i _ => m - (intOf i).toNat)
  case atStart => exact ⟨0, F, Nat.zero_le _, rfl, ⟨HF.out.grown HG1.out (by simp), fun v _ => ⟨fun h => .inl h, fun h => h.resolve_right (fun h => by simp at h)⟩⟩, ⟨⟨HG1.out.os, HG1.out.tape, HG1.out.output, HG1.out.size, fun k hk _ => HG1.out.block k hk (by simp)⟩, HO1.out⟩⟩
  case round =>
    obtain ⟨k, Fk, hk, rfl, HK, HI⟩ := hrel
    by_cases hlt : k < m
    · have hI : (k : Int) < m := by omega
      obtain ⟨g, off, z, rfl, hlg, hz, hcell⟩ := (Row.of_own HI.out.2).2 k hlt
      obtain ⟨v, rfl, hv8⟩ := HLN.out z (List.mem_of_getElem? hz)
      have HZ := Lib.hid hz
      have hv0 : (0 : Int) ≤ (v : Int) := by omega
      have hv9 : (v : Int) < 8 := by omega
      have b1 : wr.cell? ⟨gw, v, none⟩ = some (.bool (W v)) := (HWS.out.grown HI.out.1 (fun e => hne (Option.some.inj e).symm)).cell hv8
      have b2 : wr.cell? ⟨gf, v, none⟩ = some (.bool (Fk v)) := HK.out.1.cell hv8
      have f2 : wr.frozen? ⟨gf, v, none⟩ = false := HK.out.1.frozen v
      clear hz
      cases hw : W v
      · rw [hw] at b1
        have HW0 := Lib.hid hw
        have HN := Lib.hid (And.intro (HK.out.1.put hv8) (show Is (fun u => decide (u = v) || Fk u) (fun u => F u = true ∨ ((u : Int) ∈ L.take (k + 1) ∧ W u = false)) from HK.out.2.put (fun u => by
          rw [take_mem HZ.out]
          constructor
          · rintro (h | ⟨h | h, h2⟩)
            · exact .inl (.inl h)
            · exact .inl (.inr ⟨h, h2⟩)
            · exact .inr (by omega)
          · rintro ((h | ⟨h, h2⟩) | h)
            · exact .inl h
            · exact .inr ⟨.inl h, h2⟩
            · subst h; exact .inr ⟨.inr rfl, HW0.out⟩)))
        have hgs := grown_setCell wr gf v (.bool true)
        have HN2 := Lib.hid (And.intro (grown_trans HI.out.1 hgs) (HI.out.2.kept hgs (by
          rcases HI.out.2.2 with ⟨h, _⟩ | ⟨q, c9, cur, h, hq, _⟩
          · exact .inl (by rw [h]; rfl)
          · exact .inr (by rw [h]; intro e; have := Option.some.inj e; have : q = gf := this; omega))))
        clear hw hgs
        go_wp2
        go_roundw
        case rel => exact ⟨k + 1, _, by omega, by go_num, HN, HN2⟩
        case measure => simp [intOf]; omega
      · rw [hw] at b1
        have HW0 := Lib.hid hw
        have HN := Lib.hid (And.intro HK.out.1 (show Is Fk (fun u => F u = true ∨ ((u : Int) ∈ L.take (k + 1) ∧ W u = false)) from HK.out.2.congr (fun u => by
          rw [take_mem HZ.out]
          constructor
          · rintro (h | ⟨h | h, h2⟩)
            · exact .inl h
            · exact .inr ⟨h, h2⟩
            · exfalso
              have : u = v := by omega
              subst this
              rw [HW0.out] at h2; cases h2
          · rintro (h | ⟨h, h2⟩)
            · exact .inl h
            · exact .inr ⟨.inl h, h2⟩)))
        clear hw
        go_wp2
        go_roundw
        case rel => exact ⟨k + 1, _, by omega, by go_num, HN, HI⟩
        case measure => simp [intOf]; omega
    · obtain rfl : k = m := by omega
      have hI : ¬ (k : Int) < k := by omega
      have HEND := Lib.hid (And.intro HK.out.1 (show Is Fk (fun u => F u = true ∨ ((u : Int) ∈ L ∧ W u = false)) by
        have h9 := HK.out.2
        rw [List.take_of_length_le (by omega)] at h9
        exact h9))
      go_wp2
      exact bodyPost_ret (results_none rfl _ _ _) rfl ⟨rfl, HI.out.1, Fk, HEND⟩
end Go.Proofs.YtmgeecdgebemdaaGreatDoor.sets
