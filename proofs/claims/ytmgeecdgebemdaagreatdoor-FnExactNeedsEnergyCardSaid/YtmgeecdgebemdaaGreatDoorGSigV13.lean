/- Several texts in one: VBlkF VBlkG VBlkD VBlkC VBlkH VBlkL. -/
import Derived.Test.YtmgeecdgebemdaaGreatDoorGSigV11
import Derived.Test.YtmgeecdgebemdaaGreatDoorGSigV12
import Derived.Test.YtmgeecdgebemdaaGreatDoorGSigV3
import Derived.Test.YtmgeecdgebemdaaGreatDoorGSigV2
import Derived.IntWalk

/- Chapter 5's program: what a statement adds to the height, whether it opens, BlockOk: what the plain relations say; nothing that was there is written. -/
namespace Go.Proofs.YtmgeecdgebemdaaGreatDoor.blk
open Go Go.ChangeShapes Go.WideShapes Go.ChangeAt Go.RowKit Go.Proofs.YtmgeecdgebemdaaGreatDoor.row Go.Proofs.YtmgeecdgebemdaaGreatDoor.val Go.Proofs.YtmgeecdgebemdaaGreatDoor.expr Go.Proofs.YtmgeecdgebemdaaGreatDoor.stm
theorem dlt_range (s : Go.Proofs.YtmgeecdgebemdaaGreatDoor.stm.St) : -1 ≤ dlt s ∧ dlt s ≤ 1 := by rcases dlt_cases s with ⟨_, _, h⟩ | ⟨_, _, h⟩ | ⟨_, _, h⟩ <;> omega
theorem impl_delta (s : Go.Proofs.YtmgeecdgebemdaaGreatDoor.stm.St) (d : Int) (hd : dlt s = d) (w : World) : Calls Tryz.prog 200 #[stV s] w (BelI w d) := by
  subst hd
  by_cases h4 : s.k = 4
  · have HE := Lib.hid (show dlt s = 1 from by unfold dlt; rw [if_pos (.inl h4)])
    have hq : (s.k == 4) = true := by rw [h4]; rfl
    clear h4
    go_enter Tryz.func200, Tryz.ntmps200
    go_wp2
    go_ret
    exact ⟨by rw [HE.out]; rfl, below_new w _⟩
  · have hq : (s.k == 4) = false := by rw [beq_eq_false_iff_ne]; exact h4
    by_cases h5 : s.k = 5
    · have HE := Lib.hid (show dlt s = 1 from by unfold dlt; rw [if_pos (.inr h5)])
      have hq5 : (s.k == 5) = true := by rw [h5]; rfl
      clear h4 h5
      go_enter Tryz.func200, Tryz.ntmps200
      go_wp2
      go_ret
      exact ⟨by rw [HE.out]; rfl, below_new w _⟩
    · have hq5 : (s.k == 5) = false := by rw [beq_eq_false_iff_ne]; exact h5
      by_cases h6 : s.k = 6
      · have HE := Lib.hid (show dlt s = -1 from by unfold dlt; rw [if_neg (by omega), if_pos h6])
        have hq6 : (s.k == 6) = true := by rw [h6]; rfl
        clear h4 h5 h6
        go_enter Tryz.func200, Tryz.ntmps200
        go_wp2
        go_ret
        exact ⟨by rw [HE.out]; rfl, below_new w _⟩
      · have HE := Lib.hid (show dlt s = 0 from by unfold dlt; rw [if_neg (by omega), if_neg h6])
        have hq6 : (s.k == 6) = false := by rw [beq_eq_false_iff_ne]; exact h6
        clear h4 h5 h6
        go_enter Tryz.func200, Tryz.ntmps200
        go_wp2
        go_ret
        exact ⟨by rw [HE.out]; rfl, below_new w _⟩
theorem impl_hasbody (s : Go.Proofs.YtmgeecdgebemdaaGreatDoor.stm.St) (r : Bool) (hr : opn s = r) (w : World) : Calls Tryz.prog 188 #[stV s] w (BelB w r) := by
  subst hr
  rcases dlt_cases s with ⟨ho, hk, hd⟩ | ⟨ho, hk, hd⟩ | ⟨ho, hk, hd⟩
  all_goals
    have HD := Lib.hid hd
    have HO := Lib.hid ho
    clear hd ho hk
    go_enter Tryz.func188, Tryz.ntmps188
    go_wp2_with (go_at_call 200; (with_reducible refine (impl_delta s _ HD.out _).mono ?_); rintro e w2 ⟨rfl, hb2⟩)
    have HB := Lib.hid (below_then (below_new w _) hb2)
    clear hb2
    go_ret
    exact ⟨by rw [HO.out]; rfl, HB.out⟩
set_option maxHeartbeats 4000000 in
set_option maxRecDepth 100000 in
theorem impl_blockok (a : Option Addr) (n cap : Nat) (L : List Go.Proofs.YtmgeecdgebemdaaGreatDoor.stm.St) (hn : (n : Int) ≤ 1048576) (w : World) (h : StRow w a n L) (r : Bool) (hr : r = true ↔ IsBlk L) :
    Calls Tryz.prog 157 #[.slice a n cap] w (BelB w r) := by
  have HL := Lib.hid h
  have HR := Lib.hid hr
  have hlen := h.1
  by_cases h24 : (24 : Int) < n
  · have hrf : r = false := by rw [← Bool.not_eq_true]; intro e; have := (hr.1 e).2.2; omega
    clear h hr hlen
    subst hrf
    go_enter Tryz.func157, Tryz.ntmps157
    go_wp2
    go_ret
    exact ⟨rfl, Below.refl _ _⟩
  · have HLN := Lib.hid hlen
    have h24n : n ≤ 24 := by omega
    clear h hr hlen
    go_enter Tryz.func157, Tryz.ntmps157
    go_wp2
    go_loopw [3, 11] (fun o i wr => ∃ (k : Nat) (x : Int), k ≤ n ∧ i = .int .i64 k ∧ o = .int .i64 x ∧ 0 ≤ x ∧ x ≤ 3 ∧ Hid (x = hAt L k) ∧ Hid (OkTo L k) ∧ Below w.heap.size w wr) (fun _ i _ => n - (intOf i).toNat)
    case atStart => exact ⟨0, 0, Nat.zero_le _, rfl, rfl, by omega, by omega, rfl, okTo_zero L, Below.refl _ _⟩
    case round =>
      obtain ⟨k, x, hk, rfl, rfl, hx0, hx3, hH, hO, hbel⟩ := hrel
      by_cases hlt : k < n
      · obtain ⟨b, off, s, rfl, hlb, hs, hrg⟩ := (HL.out.below hbel).2 k hlt
        have HS := Lib.hid (And.intro hrg (And.intro hs hbel))
        have hI : (k : Int) < n := by omega
        have HX := Lib.hid (And.intro (Box.new wr #[.int .i64 0, .int .i64 0, .int .i64 0, .int .i64 0, .int .i64 0, .int .i64 0] 112) (hbel.alloc hbel.size (.cells #[.int .i64 0, .int .i64 0, .int .i64 0, .int .i64 0, .int .i64 0, .int .i64 0] 112)))
        have hsz := hbel.size
        have hnx := hAt_succ hs
        have hdr := dlt_range s
        obtain ⟨d, hd⟩ : ∃ d, dlt s = d := ⟨_, rfl⟩
        rw [hd] at hnx hdr
        rw [← hH.out] at hnx
        have hd0 := hdr.1
        have hd1 := hdr.2
        have HD := Lib.hid hd
        have HN := Lib.hid hnx
        clear hrg hs hbel hnx hdr hd
        go_wp2_with (first
          | (refine wpList_load_mid rfl 112 _ rfl b (off + k * 6) rfl (stC s) _ HS.out.1 Tryz.underlying112 rfl (by kernel_rfl) ?_)
          | ((refine wpList_store_box rfl 112 _ _ rfl wr.heap.size _ _ HX.out.1 #[.int .i64 s.k, .int .i64 s.v, .int .i64 s.n, .int .i64 s.o, .int .i64 s.a, .int .i64 s.b] rfl rfl rfl (by kernel_rfl) (by simp [Value.oneCell']) ?_); intro w1 hx1 hg1; refine Hid.out ?_))
        have H1 := Lib.hid (And.intro hx1 (HX.out.2.grown hg1 HX.out.2.size (fun j hj => by cases hj; exact hsz)))
        clear hx1 hg1
        refine Lib.hid ?_
        go_wp2_with (first
          | (refine wpList_load_row rfl 112 _ rfl wr.heap.size rfl _ _ _ _ H1.out.1 Tryz.underlying112 rfl (by kernel_rfl) ?_)
          | (go_at_call 200; (with_reducible refine (impl_delta s d HD.out _).mono ?_); rintro e w2 ⟨rfl, hb2⟩; refine Hid.out ?_))
        have H2 := Lib.hid (And.intro (H1.out.1.below hb2) (below_then H1.out.2 hb2))
        clear hb2
        cases hst : stOk s
        · have hrf : r = false := by
            rw [← Bool.not_eq_true]; intro e; exact not_blk_at HS.out.2.1 (.inl hst) (HR.out.1 e)
          have HST := Lib.hid hst
          clear hst
          subst hrf
          refine Lib.hid ?_
          go_wp2_with (first
            | (refine wpList_load_row rfl 112 _ rfl wr.heap.size rfl _ _ _ _ H2.out.1 Tryz.underlying112 rfl (by kernel_rfl) ?_)
            | (go_at_call 141; (with_reducible refine (impl_stmtok s false HST.out _).mono ?_); rintro e w3 ⟨rfl, hb3⟩))
          go_ret
          exact ⟨rfl, below_then H2.out.2 hb3⟩
        · have HST := Lib.hid hst
          clear hst
          rcases (show x + d < 0 ∨ (0 ≤ x + d ∧ 3 < x + d) ∨ (0 ≤ x + d ∧ x + d ≤ 3) by omega) with hy | ⟨hy, hy3⟩ | ⟨hy, hy3⟩
          · have hrf : r = false := by
              rw [← Bool.not_eq_true]; intro e; exact not_blk_at HS.out.2.1 (.inr (by have := HN.out; omega)) (HR.out.1 e)
            subst hrf
            refine Lib.hid ?_
            go_wp2_with (first
              | (refine wpList_load_row rfl 112 _ rfl wr.heap.size rfl _ _ _ _ H2.out.1 Tryz.underlying112 rfl (by kernel_rfl) ?_)
              | (go_at_call 141; (with_reducible refine (impl_stmtok s true HST.out _).mono ?_); rintro e w3 ⟨rfl, hb3⟩))
            go_ret
            exact ⟨rfl, below_then H2.out.2 hb3⟩
          · have hrf : r = false := by
              rw [← Bool.not_eq_true]; intro e; exact not_blk_at HS.out.2.1 (.inr (by have := HN.out; omega)) (HR.out.1 e)
            have hy0 : ¬ x + d < 0 := by omega
            subst hrf
            refine Lib.hid ?_
            go_wp2_with (first
              | (refine wpList_load_row rfl 112 _ rfl wr.heap.size rfl _ _ _ _ H2.out.1 Tryz.underlying112 rfl (by kernel_rfl) ?_)
              | (go_at_call 141; (with_reducible refine (impl_stmtok s true HST.out _).mono ?_); rintro e w3 ⟨rfl, hb3⟩))
            go_ret
            exact ⟨rfl, below_then H2.out.2 hb3⟩
          · have hy0 : ¬ x + d < 0 := by omega
            have hy1 : ¬ 3 < x + d := by omega
            have HO2 := Lib.hid (okTo_succ hO.out HS.out.2.1 HST.out (by have := HN.out; omega) (by have := HN.out; omega))
            have HX2 := Lib.hid (show x + d = hAt L (k + 1) by have := HN.out; omega)
            refine Lib.hid ?_
            go_wp2_with (first
              | (refine wpList_load_row rfl 112 _ rfl wr.heap.size rfl _ _ _ _ H2.out.1 Tryz.underlying112 rfl (by kernel_rfl) ?_)
              | (go_at_call 141; (with_reducible refine (impl_stmtok s true HST.out _).mono ?_); rintro e w3 ⟨rfl, hb3⟩; refine Hid.out ?_))
            have HB3 := Lib.hid (below_then H2.out.2 hb3)
            clear hb3
            refine Lib.hid ?_
            go_wp2
            go_roundw
            case rel => exact ⟨k + 1, x + d, by omega, by go_num, rfl, hy, hy3, HX2, HO2, HB3.out⟩
            case measure => simp [intOf]; omega
      · obtain rfl : k = n := by omega
        have hI : ¬ (k : Int) < k := by omega
        have hlenk := HLN.out
        have hOK := hO.out
        have hHX := hH.out
        rcases (show x ≠ 0 ∨ x = 0 by omega) with hx | hx
        · have hrf : r = false := by
            rw [← Bool.not_eq_true]; intro e; have := (HR.out.1 e).2.1; rw [hlenk] at this; omega
          have hxb : (x == 0) = false := by rw [beq_eq_false_iff_ne]; exact hx
          have HB := Lib.hid hbel
          clear hOK hHX hbel hlenk
          subst hrf
          go_wp2
          go_ret
          exact ⟨rfl, HB.out⟩
        · have hrt : r = true := HR.out.2 ⟨by rw [hlenk]; exact hOK, by rw [hlenk]; omega, by omega⟩
          have HB := Lib.hid hbel
          clear hOK hHX hbel hlenk
          subst hrt hx
          go_wp2
          go_ret
          exact ⟨rfl, HB.out⟩
end Go.Proofs.YtmgeecdgebemdaaGreatDoor.blk

/- Chapter 5's program: the matching end, whether a block has a place, EndOf: what the plain relations say; nothing that was there is written. -/
namespace Go.Proofs.YtmgeecdgebemdaaGreatDoor.blk
open Go Go.ChangeShapes Go.WideShapes Go.ChangeAt Go.RowKit Go.Proofs.YtmgeecdgebemdaaGreatDoor.row Go.Proofs.YtmgeecdgebemdaaGreatDoor.val Go.Proofs.YtmgeecdgebemdaaGreatDoor.expr Go.Proofs.YtmgeecdgebemdaaGreatDoor.stm
set_option maxHeartbeats 4000000 in
set_option maxRecDepth 100000 in
theorem impl_end (a : Option Addr) (n cap : Nat) (L : List Go.Proofs.YtmgeecdgebemdaaGreatDoor.stm.St) (w : World) (h : StRow w a n L) (hb : IsBlk L) (i e : Nat) (he : IsEnd L i e) (X : Int) (hX : X = e) :
    Calls Tryz.prog 189 #[.slice a n cap, .int .i64 i] w (BelI w X) := by
  have HL := Lib.hid h
  have HB := Lib.hid hb
  have HE := Lib.hid he
  have hie := he.1
  have hel : e < n := by have := he.2.1; rw [h.1] at this; exact this
  have hn24 : n ≤ 24 := by have := hb.2.2; rw [h.1] at this; exact this
  have h1 : (1 : Int) = hAt L (i + 1) - hAt L i := by
    obtain ⟨s, hs, ho⟩ := he.opens
    rw [hAt_succ hs, dlt_opn ho]; omega
  have H1 := Lib.hid h1
  have HX := Lib.hid hX
  clear h hb he hX h1
  go_enter Tryz.func189, Tryz.ntmps189
  go_wp2
  go_loopw [5, 6] (fun k' o wr => ∃ (k : Nat) (x : Int), i ≤ k ∧ k ≤ e ∧ k' = .int .i64 k ∧ o = .int .i64 x ∧ 0 ≤ x ∧ x ≤ 3 ∧ Hid (x = hAt L (k + 1) - hAt L i) ∧ Below w.heap.size w wr) (fun k' _ _ => e + 1 - (intOf k').toNat)
  case atStart => exact ⟨i, 1, Nat.le_refl _, by omega, rfl, rfl, by omega, by omega, H1.out, Below.refl _ _⟩
  case round =>
    obtain ⟨k, x, hik, hke, rfl, rfl, hx0, hx3, hH, hbel⟩ := hrel
    by_cases hlt : k < e
    · obtain ⟨b, off, s, rfl, hlb, hs, hrg⟩ := (HL.out.below hbel).2 (k + 1) (by omega)
      have HS := Lib.hid (And.intro hrg (And.intro hs hbel))
      have hxp : 0 < x := by have := HE.out.2.2.2 (k + 1) (by omega) (by omega); have := hH.out; omega
      have hI : ((k : Int) + 1) < n := by omega
      have hnx := hAt_succ hs
      have hbd := blk_bounds HB.out (k + 1 + 1)
      have hbi := blk_bounds HB.out i
      have hmid : hAt L i ≤ hAt L (k + 1 + 1) := by
        rcases Nat.lt_or_ge (k + 1) e with hk | hk
        · have := HE.out.2.2.2 (k + 1 + 1) (by omega) (by omega); omega
        · obtain rfl : e = k + 1 := by omega
          have := HE.out.2.2.1; omega
      obtain ⟨d, hd⟩ : ∃ d, dlt s = d := ⟨_, rfl⟩
      have HD := Lib.hid hd
      rw [hd] at hnx
      have hHo := hH.out
      have HH := Lib.hid (show x + d = hAt L (k + 1 + 1) - hAt L i by omega)
      have hxd0 : 0 ≤ x + d := by omega
      have hxd3 : x + d ≤ 3 := by omega
      have hdr := dlt_range s
      rw [hd] at hdr
      have hd0 := hdr.1
      have hd1 := hdr.2
      have hc : ((k + 1 : Nat) : Int) = (k : Int) + 1 := by omega
      clear hrg hs hbel hnx hbd hbi hHo hd hmid hdr
      go_wp2_with (first
        | (refine wpList_load_mid rfl 112 _ rfl b (off + (k + 1) * 6) rfl (stC s) _ HS.out.1 Tryz.underlying112 rfl (by kernel_rfl) ?_)
        | (go_at_call 200; refine (impl_delta s d HD.out _).mono ?_; rintro e2 w2 ⟨rfl, hb2⟩; refine Hid.out ?_))
      have HB2 := Lib.hid (below_then HS.out.2.2 hb2)
      clear hb2
      refine Lib.hid ?_
      go_wp2
      go_roundw
      case rel => exact ⟨k + 1, x + d, by omega, by omega, by go_num, rfl, hxd0, hxd3, HH, HB2.out⟩
      case measure => simp [intOf]; omega
    · obtain rfl : k = e := by omega
      have hz : x = 0 := by have := hH.out; have := HE.out.2.2.1; omega
      have HBB := Lib.hid hbel
      clear hbel
      subst hz
      go_wp2
      go_ret
      exact ⟨by rw [HX.out]; rfl, HBB.out⟩
end Go.Proofs.YtmgeecdgebemdaaGreatDoor.blk

/- Chapter 5's model: DepthOf: the height ahead of the statement; nothing that was there is written. -/
namespace Go.Proofs.YtmgeecdgebemdaaGreatDoor.blk
open Go Go.ChangeShapes Go.WideShapes Go.ChangeAt Go.RowKit Go.Proofs.YtmgeecdgebemdaaGreatDoor.row Go.Proofs.YtmgeecdgebemdaaGreatDoor.val Go.Proofs.YtmgeecdgebemdaaGreatDoor.expr Go.Proofs.YtmgeecdgebemdaaGreatDoor.stm
end Go.Proofs.YtmgeecdgebemdaaGreatDoor.blk

/- Parts of a block: a stretch at one height is a valid block of its own; what runs in the part runs in the whole. Plain mathematics. -/
namespace Go.Proofs.YtmgeecdgebemdaaGreatDoor.blk
open Go Go.ChangeShapes Go.WideShapes Go.ChangeAt Go.RowKit Go.Proofs.YtmgeecdgebemdaaGreatDoor.row Go.Proofs.YtmgeecdgebemdaaGreatDoor.stm
/-- The part of 'm' statements from 'c' on. -/
def part (L : List Go.Proofs.YtmgeecdgebemdaaGreatDoor.stm.St) (c m : Nat) : List Go.Proofs.YtmgeecdgebemdaaGreatDoor.stm.St := (L.drop c).take m
theorem part_len {L : List Go.Proofs.YtmgeecdgebemdaaGreatDoor.stm.St} {c m : Nat} (h : c + m ≤ L.length) : (part L c m).length = m := by
  unfold part; rw [List.length_take, List.length_drop]; omega
theorem part_at {L : List Go.Proofs.YtmgeecdgebemdaaGreatDoor.stm.St} {c m j : Nat} (h : j < m) : (part L c m)[j]? = L[c + j]? := by
  unfold part; rw [List.getElem?_take, if_pos h, List.getElem?_drop]
theorem part_ht {L : List Go.Proofs.YtmgeecdgebemdaaGreatDoor.stm.St} {c m : Nat} (h : c + m ≤ L.length) : ∀ t, t ≤ m → hAt (part L c m) t = hAt L (c + t) - hAt L c := by
  intro t
  induction t with
  | zero => intro _; rw [hAt_zero, Nat.add_zero]; omega
  | succ t ih =>
    intro ht
    obtain ⟨s, hs⟩ := at_lt (show c + t < L.length by omega)
    have h1 := hAt_succ hs
    have h2 := hAt_succ (show (part L c m)[t]? = some s by rw [part_at (by omega)]; exact hs)
    rw [h2, ih (by omega), show c + (t + 1) = c + t + 1 by omega, h1]; omega
theorem part_end {L : List Go.Proofs.YtmgeecdgebemdaaGreatDoor.stm.St} {c m i e : Nat} (h : c + m ≤ L.length) (hE : IsEnd (part L c m) i e) : IsEnd L (c + i) (c + e) := by
  obtain ⟨h1, h2, h3, h4⟩ := hE
  rw [part_len h] at h2
  have k1 := part_ht h (e + 1) (by omega)
  have k2 := part_ht h i (by omega)
  refine ⟨by omega, by omega, by rw [show c + e + 1 = c + (e + 1) by omega]; omega, fun j hj hje => ?_⟩
  obtain ⟨t, rfl⟩ : ∃ t, j = c + t := ⟨j - c, by omega⟩
  have := h4 t (by omega) (by omega)
  have := part_ht h t (by omega)
  omega
theorem part_blk {L : List Go.Proofs.YtmgeecdgebemdaaGreatDoor.stm.St} {c m : Nat} (hb : IsBlk L) (hF : Flat L c (c + m)) : IsBlk (part L c m) := by
  obtain ⟨_, h2, h3, h4⟩ := hF
  have hl := part_len h2
  refine ⟨fun j s hj hs => ?_, ?_, by rw [hl]; have := hb.2.2; omega⟩
  · rw [hl] at hj
    have hs' : L[c + j]? = some s := by rw [← part_at hj]; exact hs
    have k1 := part_ht h2 (j + 1) (by omega)
    have k2 := h4 (c + (j + 1)) (by omega) (by omega)
    have k3 := (blk_bounds hb (c + (j + 1))).2
    have k4 := (blk_bounds hb c).1
    exact ⟨blk_stOk hb hs', by omega, by omega⟩
  · rw [hl, part_ht h2 m (Nat.le_refl _)]; omega
/-- The body of a statement that opens, at the head of a block. -/
theorem body_blk {L : List Go.Proofs.YtmgeecdgebemdaaGreatDoor.stm.St} (hb : IsBlk L) {e : Nat} (he : IsEnd L 0 e) : IsBlk (part L 1 (e - 1)) := by
  have := flat_body he
  have h0 := he.1
  rw [show e = 1 + (e - 1) by omega] at this
  exact part_blk hb this
/-- What stands behind a place at height 0. -/
theorem rest_blk {L : List Go.Proofs.YtmgeecdgebemdaaGreatDoor.stm.St} (hb : IsBlk L) {c : Nat} (hc : c ≤ L.length) (h0 : hAt L c = 0) : IsBlk (part L c (L.length - c)) := by
  refine part_blk hb ⟨by omega, by omega, ?_, fun t _ _ => by rw [h0]; exact (blk_bounds hb t).1⟩
  rw [show c + (L.length - c) = L.length by omega, hb.2.1, h0]
/-- A part of a slice. -/
theorem StRow.cut {w : World} {a A : Option Addr} {n : Nat} {L : List Go.Proofs.YtmgeecdgebemdaaGreatDoor.stm.St} (h : StRow w a n L) (c m : Nat) (hcm : c + m ≤ n) (hA : ∀ b off, a = some ⟨b, off, none⟩ → 0 < m → A = some ⟨b, off + c * 6, none⟩) : StRow w A m (part L c m) :=
  ⟨part_len (by rw [h.1]; exact hcm), fun k hk => by
    obtain ⟨b, off, s, ha, hlt, hs, hr⟩ := h.2 (c + k) (by omega)
    refine ⟨b, off + c * 6, s, hA b off ha (by omega), hlt, by rw [part_at hk]; exact hs, ?_⟩
    rw [show off + c * 6 + k * 6 = off + (c + k) * 6 by omega]; exact hr⟩
end Go.Proofs.YtmgeecdgebemdaaGreatDoor.blk

/- Chapter 5's program: DepthOf: the height ahead of the statement; nothing that was there is written. -/
namespace Go.Proofs.YtmgeecdgebemdaaGreatDoor.blk
open Go Go.ChangeShapes Go.WideShapes Go.ChangeAt Go.RowKit Go.Proofs.YtmgeecdgebemdaaGreatDoor.row Go.Proofs.YtmgeecdgebemdaaGreatDoor.val Go.Proofs.YtmgeecdgebemdaaGreatDoor.expr Go.Proofs.YtmgeecdgebemdaaGreatDoor.stm
end Go.Proofs.YtmgeecdgebemdaaGreatDoor.blk

/- Chapter 5's model: LongestRun: how many statements run; nothing that was there is written. -/
namespace Go.Proofs.YtmgeecdgebemdaaGreatDoor.blk
open Go Go.ChangeShapes Go.WideShapes Go.ChangeAt Go.RowKit Go.Proofs.YtmgeecdgebemdaaGreatDoor.row Go.Proofs.YtmgeecdgebemdaaGreatDoor.val Go.Proofs.YtmgeecdgebemdaaGreatDoor.expr Go.Proofs.YtmgeecdgebemdaaGreatDoor.stm
end Go.Proofs.YtmgeecdgebemdaaGreatDoor.blk
