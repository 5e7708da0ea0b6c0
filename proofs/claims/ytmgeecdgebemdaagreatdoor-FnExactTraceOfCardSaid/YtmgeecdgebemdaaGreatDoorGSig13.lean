/- Several texts in one: BlkF BlkG BlkL BlkK. -/
import Derived.Test.YtmgeecdgebemdaaGreatDoorGSig12
import Derived.Test.YtmgeecdgebemdaaGreatDoorGSig11
import Derived.IntWalk
import Derived.Test.YtmgeecdgebemdaaGreatDoorGSig7
import Derived.StillTailTactics
import Derived.Deep.RegionHeld3

/- Chapter 5's program: what a statement adds to the height, whether it opens, BlockOk: what the plain relations say; nothing that was there is written. -/
namespace Go.Proofs.YtmgeecdgebemdaaGreatDoor.blk
open Go Go.ChangeShapes Go.WideShapes Go.ChangeAt Go.RowKit Go.Proofs.YtmgeecdgebemdaaGreatDoor.row Go.Proofs.YtmgeecdgebemdaaGreatDoor.val Go.Proofs.YtmgeecdgebemdaaGreatDoor.expr Go.Proofs.YtmgeecdgebemdaaGreatDoor.stm

theorem dlt_range (s : Go.Proofs.YtmgeecdgebemdaaGreatDoor.stm.St) : -1 ≤ dlt s ∧ dlt s ≤ 1 := by rcases dlt_cases s with ⟨_, _, h⟩ | ⟨_, _, h⟩ | ⟨_, _, h⟩ <;> omega
theorem impl_delta (s : Go.Proofs.YtmgeecdgebemdaaGreatDoor.stm.St) (d : Int) (hd : dlt s = d) (w : World) : Calls Tryz.prog 200 #[stV s] w (BelI w d) := by
  subst hd
  by_cases h4 : s.k = 4
  · have HE := Lib.hid (show dlt s = 1 from by unfold dlt; rw [if_pos (.inl h4)])
    have hq : (s.k == 4) = true := by rw [h4]; rfl
    clear h4
    go_enter Tryz.func200, Tryz.ntmps200
    go_wp2
    go_ret
    exact ⟨by rw [HE.out]; rfl, below_new w _⟩
  · have hq : (s.k == 4) = false := by rw [beq_eq_false_iff_ne]; exact h4
    by_cases h5 : s.k = 5
    · have HE := Lib.hid (show dlt s = 1 from by unfold dlt; rw [if_pos (.inr h5)])
      have hq5 : (s.k == 5) = true := by rw [h5]; rfl
      clear h4 h5
      go_enter Tryz.func200, Tryz.ntmps200
      go_wp2
      go_ret
      exact ⟨by rw [HE.out]; rfl, below_new w _⟩
    · have hq5 : (s.k == 5) = false := by rw [beq_eq_false_iff_ne]; exact h5
      by_cases h6 : s.k = 6
      · have HE := Lib.hid (show dlt s = -1 from by unfold dlt; rw [if_neg (by omega), if_pos h6])
        have hq6 : (s.k == 6) = true := by rw [h6]; rfl
        clear h4 h5 h6
        go_enter Tryz.func200, Tryz.ntmps200
        go_wp2
        go_ret
        exact ⟨by rw [HE.out]; rfl, below_new w _⟩
      · have HE := Lib.hid (show dlt s = 0 from by unfold dlt; rw [if_neg (by omega), if_neg h6])
        have hq6 : (s.k == 6) = false := by rw [beq_eq_false_iff_ne]; exact h6
        clear h4 h5 h6
        go_enter Tryz.func200, Tryz.ntmps200
        go_wp2
        go_ret
        exact ⟨by rw [HE.out]; rfl, below_new w _⟩
theorem impl_hasbody (s : Go.Proofs.YtmgeecdgebemdaaGreatDoor.stm.St) (r : Bool) (hr : opn s = r) (w : World) : Calls Tryz.prog 188 #[stV s] w (BelB w r) := by
  subst hr
  rcases dlt_cases s with ⟨ho, hk, hd⟩ | ⟨ho, hk, hd⟩ | ⟨ho, hk, hd⟩
  all_goals
    have HD := Lib.hid hd
    have HO := Lib.hid ho
    clear hd ho hk
    go_enter Tryz.func188, Tryz.ntmps188
    go_wp2_with (go_at_call 200; (with_reducible refine (impl_delta s _ HD.out _).mono ?_); rintro e w2 ⟨rfl, hb2⟩)
    have HB := Lib.hid (below_then (below_new w _) hb2)
    clear hb2
    go_ret
    exact ⟨by rw [HO.out]; rfl, HB.out⟩
set_option maxHeartbeats 4000000 in
set_option maxRecDepth 100000 in
theorem impl_blockok (a : Option Addr) (n cap : Nat) (L : List Go.Proofs.YtmgeecdgebemdaaGreatDoor.stm.St) (hn : (n : Int) ≤ 1048576) (w : World) (h : StRow w a n L) (r : Bool) (hr : r = true ↔ IsBlk L) :
    Calls Tryz.prog 157 #[.slice a n cap] w (BelB w r) := by
  have HL := Lib.hid h
  have HR := Lib.hid hr
  have hlen := h.1
  by_cases h24 : (24 : Int) < n
  · have hrf : r = false := by rw [← Bool.not_eq_true]; intro e; have := (hr.1 e).2.2; omega
    clear h hr hlen
    subst hrf
    go_enter Tryz.func157, Tryz.ntmps157
    go_wp2
    go_ret
    exact ⟨rfl, Below.refl _ _⟩
  · have HLN := Lib.hid hlen
    have h24n : n ≤ 24 := by omega
    clear h hr hlen
    go_enter Tryz.func157, Tryz.ntmps157
    go_wp2
    go_loopw [3, 11] (fun o i wr => ∃ (k : Nat) (x : Int), k ≤ n ∧ i = .int .i64 k ∧ o = .int .i64 x ∧ 0 ≤ x ∧ x ≤ 3 ∧ Hid (x = hAt L k) ∧ Hid (OkTo L k) ∧ Below w.heap.size w wr) (fun _ i _ => n - (intOf i).toNat)
    case atStart => exact ⟨0, 0, Nat.zero_le _, rfl, rfl, by omega, by omega, rfl, okTo_zero L, Below.refl _ _⟩
    case round =>
      obtain ⟨k, x, hk, rfl, rfl, hx0, hx3, hH, hO, hbel⟩ := hrel
      by_cases hlt : k < n
      · obtain ⟨b, off, s, rfl, hlb, hs, hrg⟩ := (HL.out.below hbel).2 k hlt
        have HS := Lib.hid (And.intro hrg (And.intro hs hbel))
        have hI : (k : Int) < n := by omega
        have HX := Lib.hid (And.intro (Box.new wr #[.int .i64 0, .int .i64 0, .int .i64 0, .int .i64 0, .int .i64 0, .int .i64 0] 112) (hbel.alloc hbel.size (.cells #[.int .i64 0, .int .i64 0, .int .i64 0, .int .i64 0, .int .i64 0, .int .i64 0] 112)))
        have hsz := hbel.size
        have hnx := hAt_succ hs
        have hdr := dlt_range s
        obtain ⟨d, hd⟩ : ∃ d, dlt s = d := ⟨_, rfl⟩
        rw [hd] at hnx hdr
        rw [← hH.out] at hnx
        have hd0 := hdr.1
        have hd1 := hdr.2
        have HD := Lib.hid hd
        have HN := Lib.hid hnx
        clear hrg hs hbel hnx hdr hd
        go_wp2_with (first
          | (refine wpList_load_mid rfl 112 _ rfl b (off + k * 6) rfl (stC s) _ HS.out.1 Tryz.underlying112 rfl (by kernel_rfl) ?_)
          | ((refine wpList_store_box rfl 112 _ _ rfl wr.heap.size _ _ HX.out.1 #[.int .i64 s.k, .int .i64 s.v, .int .i64 s.n, .int .i64 s.o, .int .i64 s.a, .int .i64 s.b] rfl rfl rfl (by kernel_rfl) (by simp [Value.oneCell']) ?_); intro w1 hx1 hg1; refine Hid.out ?_))
        have H1 := Lib.hid (And.intro hx1 (HX.out.2.grown hg1 HX.out.2.size (fun j hj => by cases hj; exact hsz)))
        clear hx1 hg1
        refine Lib.hid ?_
        go_wp2_with (first
          | (refine wpList_load_row rfl 112 _ rfl wr.heap.size rfl _ _ _ _ H1.out.1 Tryz.underlying112 rfl (by kernel_rfl) ?_)
          | (go_at_call 200; (with_reducible refine (impl_delta s d HD.out _).mono ?_); rintro e w2 ⟨rfl, hb2⟩; refine Hid.out ?_))
        have H2 := Lib.hid (And.intro (H1.out.1.below hb2) (below_then H1.out.2 hb2))
        clear hb2
        cases hst : stOk s
        · have hrf : r = false := by
            rw [← Bool.not_eq_true]; intro e; exact not_blk_at HS.out.2.1 (.inl hst) (HR.out.1 e)
          have HST := Lib.hid hst
          clear hst
          subst hrf
          refine Lib.hid ?_
          go_wp2_with (first
            | (refine wpList_load_row rfl 112 _ rfl wr.heap.size rfl _ _ _ _ H2.out.1 Tryz.underlying112 rfl (by kernel_rfl) ?_)
            | (go_at_call 141; (with_reducible refine (impl_stmtok s false HST.out _).mono ?_); rintro e w3 ⟨rfl, hb3⟩))
          go_ret
          exact ⟨rfl, below_then H2.out.2 hb3⟩
        · have HST := Lib.hid hst
          clear hst
          rcases (show x + d < 0 ∨ (0 ≤ x + d ∧ 3 < x + d) ∨ (0 ≤ x + d ∧ x + d ≤ 3) by omega) with hy | ⟨hy, hy3⟩ | ⟨hy, hy3⟩
          · have hrf : r = false := by
              rw [← Bool.not_eq_true]; intro e; exact not_blk_at HS.out.2.1 (.inr (by have := HN.out; omega)) (HR.out.1 e)
            subst hrf
            refine Lib.hid ?_
            go_wp2_with (first
              | (refine wpList_load_row rfl 112 _ rfl wr.heap.size rfl _ _ _ _ H2.out.1 Tryz.underlying112 rfl (by kernel_rfl) ?_)
              | (go_at_call 141; (with_reducible refine (impl_stmtok s true HST.out _).mono ?_); rintro e w3 ⟨rfl, hb3⟩))
            go_ret
            exact ⟨rfl, below_then H2.out.2 hb3⟩
          · have hrf : r = false := by
              rw [← Bool.not_eq_true]; intro e; exact not_blk_at HS.out.2.1 (.inr (by have := HN.out; omega)) (HR.out.1 e)
            have hy0 : ¬ x + d < 0 := by omega
            subst hrf
            refine Lib.hid ?_
            go_wp2_with (first
              | (refine wpList_load_row rfl 112 _ rfl wr.heap.size rfl _ _ _ _ H2.out.1 Tryz.underlying112 rfl (by kernel_rfl) ?_)
              | (go_at_call 141; (with_reducible refine (impl_stmtok s true HST.out _).mono ?_); rintro e w3 ⟨rfl, hb3⟩))
            go_ret
            exact ⟨rfl, below_then H2.out.2 hb3⟩
          · have hy0 : ¬ x + d < 0 := by omega
            have hy1 : ¬ 3 < x + d := by omega
            have HO2 := Lib.hid (okTo_succ hO.out HS.out.2.1 HST.out (by have := HN.out; omega) (by have := HN.out; omega))
            have HX2 := Lib.hid (show x + d = hAt L (k + 1) by have := HN.out; omega)
            refine Lib.hid ?_
            go_wp2_with (first
              | (refine wpList_load_row rfl 112 _ rfl wr.heap.size rfl _ _ _ _ H2.out.1 Tryz.underlying112 rfl (by kernel_rfl) ?_)
              | (go_at_call 141; (with_reducible refine (impl_stmtok s true HST.out _).mono ?_); rintro e w3 ⟨rfl, hb3⟩; refine Hid.out ?_))
            have HB3 := Lib.hid (below_then H2.out.2 hb3)
            clear hb3
            refine Lib.hid ?_
            go_wp2
            go_roundw
            case rel => exact ⟨k + 1, x + d, by omega, by go_num, rfl, hy, hy3, HX2, HO2, HB3.out⟩
            case measure => simp [intOf]; omega
      · obtain rfl : k = n := by omega
        have hI : ¬ (k : Int) < k := by omega
        have hlenk := HLN.out
        have hOK := hO.out
        have hHX := hH.out
        rcases (show x ≠ 0 ∨ x = 0 by omega) with hx | hx
        · have hrf : r = false := by
            rw [← Bool.not_eq_true]; intro e; have := (HR.out.1 e).2.1; rw [hlenk] at this; omega
          have hxb : (x == 0) = false := by rw [beq_eq_false_iff_ne]; exact hx
          have HB := Lib.hid hbel
          clear hOK hHX hbel hlenk
          subst hrf
          go_wp2
          go_ret
          exact ⟨rfl, HB.out⟩
        · have hrt : r = true := HR.out.2 ⟨by rw [hlenk]; exact hOK, by rw [hlenk]; omega, by omega⟩
          have HB := Lib.hid hbel
          clear hOK hHX hbel hlenk
          subst hrt hx
          go_wp2
          go_ret
          exact ⟨rfl, HB.out⟩
end Go.Proofs.YtmgeecdgebemdaaGreatDoor.blk

/- Chapter 5's program: the matching end, whether a block has a place, EndOf: what the plain relations say; nothing that was there is written. -/
namespace Go.Proofs.YtmgeecdgebemdaaGreatDoor.blk
open Go Go.ChangeShapes Go.WideShapes Go.ChangeAt Go.RowKit Go.Proofs.YtmgeecdgebemdaaGreatDoor.row Go.Proofs.YtmgeecdgebemdaaGreatDoor.val Go.Proofs.YtmgeecdgebemdaaGreatDoor.expr Go.Proofs.YtmgeecdgebemdaaGreatDoor.stm

set_option maxHeartbeats 4000000 in
set_option maxRecDepth 100000 in
theorem impl_end (a : Option Addr) (n cap : Nat) (L : List Go.Proofs.YtmgeecdgebemdaaGreatDoor.stm.St) (w : World) (h : StRow w a n L) (hb : IsBlk L) (i e : Nat) (he : IsEnd L i e) (X : Int) (hX : X = e) :
    Calls Tryz.prog 189 #[.slice a n cap, .int .i64 i] w (BelI w X) := by
  have HL := Lib.hid h
  have HB := Lib.hid hb
  have HE := Lib.hid he
  have hie := he.1
  have hel : e < n := by have := he.2.1; rw [h.1] at this; exact this
  have hn24 : n ≤ 24 := by have := hb.2.2; rw [h.1] at this; exact this
  have h1 : (1 : Int) = hAt L (i + 1) - hAt L i := by
    obtain ⟨s, hs, ho⟩ := he.opens
    rw [hAt_succ hs, dlt_opn ho]; omega
  have H1 := Lib.hid h1
  have HX := Lib.hid hX
  clear h hb he hX h1
  go_enter Tryz.func189, Tryz.ntmps189
  go_wp2
  go_loopw [5, 6] (fun k' o wr => ∃ (k : Nat) (x : Int), i ≤ k ∧ k ≤ e ∧ k' = .int .i64 k ∧ o = .int .i64 x ∧ 0 ≤ x ∧ x ≤ 3 ∧ Hid (x = hAt L (k + 1) - hAt L i) ∧ Below w.heap.size w wr) (fun k' _ _ => e + 1 - (intOf k').toNat)
  case atStart => exact ⟨i, 1, Nat.le_refl _, by omega, rfl, rfl, by omega, by omega, H1.out, Below.refl _ _⟩
  case round =>
    obtain ⟨k, x, hik, hke, rfl, rfl, hx0, hx3, hH, hbel⟩ := hrel
    by_cases hlt : k < e
    · obtain ⟨b, off, s, rfl, hlb, hs, hrg⟩ := (HL.out.below hbel).2 (k + 1) (by omega)
      have HS := Lib.hid (And.intro hrg (And.intro hs hbel))
      have hxp : 0 < x := by have := HE.out.2.2.2 (k + 1) (by omega) (by omega); have := hH.out; omega
      have hI : ((k : Int) + 1) < n := by omega
      have hnx := hAt_succ hs
      have hbd := blk_bounds HB.out (k + 1 + 1)
      have hbi := blk_bounds HB.out i
      have hmid : hAt L i ≤ hAt L (k + 1 + 1) := by
        rcases Nat.lt_or_ge (k + 1) e with hk | hk
        · have := HE.out.2.2.2 (k + 1 + 1) (by omega) (by omega); omega
        · obtain rfl : e = k + 1 := by omega
          have := HE.out.2.2.1; omega
      obtain ⟨d, hd⟩ : ∃ d, dlt s = d := ⟨_, rfl⟩
      have HD := Lib.hid hd
      rw [hd] at hnx
      have hHo := hH.out
      have HH := Lib.hid (show x + d = hAt L (k + 1 + 1) - hAt L i by omega)
      have hxd0 : 0 ≤ x + d := by omega
      have hxd3 : x + d ≤ 3 := by omega
      have hdr := dlt_range s
      rw [hd] at hdr
      have hd0 := hdr.1
      have hd1 := hdr.2
      have hc : ((k + 1 : Nat) : Int) = (k : Int) + 1 := by omega
      clear hrg hs hbel hnx hbd hbi hHo hd hmid hdr
      go_wp2_with (first
        | (refine wpList_load_mid rfl 112 _ rfl b (off + (k + 1) * 6) rfl (stC s) _ HS.out.1 Tryz.underlying112 rfl (by kernel_rfl) ?_)
        | (go_at_call 200; refine (impl_delta s d HD.out _).mono ?_; rintro e2 w2 ⟨rfl, hb2⟩; refine Hid.out ?_))
      have HB2 := Lib.hid (below_then HS.out.2.2 hb2)
      clear hb2
      refine Lib.hid ?_
      go_wp2
      go_roundw
      case rel => exact ⟨k + 1, x + d, by omega, by omega, by go_num, rfl, hxd0, hxd3, HH, HB2.out⟩
      case measure => simp [intOf]; omega
    · obtain rfl : k = e := by omega
      have hz : x = 0 := by have := hH.out; have := HE.out.2.2.1; omega
      have HBB := Lib.hid hbel
      clear hbel
      subst hz
      go_wp2
      go_ret
      exact ⟨by rw [HX.out]; rfl, HBB.out⟩
end Go.Proofs.YtmgeecdgebemdaaGreatDoor.blk

/- Chapter 5's model: LongestRun: how many statements run; nothing that was there is written. -/
namespace Go.Proofs.YtmgeecdgebemdaaGreatDoor.blk
open Go Go.ChangeShapes Go.WideShapes Go.ChangeAt Go.RowKit Go.Proofs.YtmgeecdgebemdaaGreatDoor.row Go.Proofs.YtmgeecdgebemdaaGreatDoor.val Go.Proofs.YtmgeecdgebemdaaGreatDoor.expr Go.Proofs.YtmgeecdgebemdaaGreatDoor.stm

/-- The call returns how many statements run between these places. -/
def LongOut (L : List Go.Proofs.YtmgeecdgebemdaaGreatDoor.stm.St) (a b : Nat) (w : World) (e : Ending) (w' : World) : Prop := ∃ x : Int, e = .returned (.int .i64 x) ∧ Hid (Runs L a b x) ∧ Below w.heap.size w w'
theorem times_ok {n y : Int} (hn : n ≤ 5) (h0 : 0 ≤ y) (h1 : y ≤ 3000) : 0 ≤ max 1 n * y ∧ max 1 n * y ≤ 15000 := by
  obtain ⟨m, hm⟩ : ∃ m, max 1 n = m := ⟨_, rfl⟩
  have hm1 : 1 ≤ m ∧ m ≤ 5 := by omega
  rw [hm]
  have h2 : 0 ≤ m * y := Int.mul_nonneg (by omega) h0
  have h3 : m * y ≤ 5 * y := Int.mul_le_mul_of_nonneg_right hm1.2 h0
  omega
theorem longIs_not {L : List Go.Proofs.YtmgeecdgebemdaaGreatDoor.stm.St} {x : Int} (h : LongIs L x) (hn : ¬ IsBlk L) : x = -1 := h.unique (.inr ⟨rfl, hn⟩)
end Go.Proofs.YtmgeecdgebemdaaGreatDoor.blk

/- Chapter 5's program: a block's first statement, its body and what stands behind; LongestRun: what the plain relations say; nothing that was there is written. -/
namespace Go.Proofs.YtmgeecdgebemdaaGreatDoor.blk
open Go Go.ChangeShapes Go.WideShapes Go.ChangeAt Go.RowKit Go.Proofs.YtmgeecdgebemdaaGreatDoor.row Go.Proofs.YtmgeecdgebemdaaGreatDoor.val Go.Proofs.YtmgeecdgebemdaaGreatDoor.expr Go.Proofs.YtmgeecdgebemdaaGreatDoor.stm

theorem results_cell_tmp2 {fn : Func} {p u v : Tmp} {ty : TypeId} (h : fn.results = #[.cell p ty, .tmp u, .tmp v]) (tmps : Array Value) (P : Program) (w : World) :
    (results fn tmps).run P w =
      ((asAddr (tmps.getD p undef)).run P w).andThen fun a w₁ => ((loadVar ty a).run P w₁).andThen fun x w₂ => .ok (.tuple #[x, tmps.getD u undef, tmps.getD v undef]) w₂ := by
  simp only [results, h]
  simp [Sem.run_bind, Result.andThen]
/-- Three results: a struct in a block that is known whole, and two values. -/
theorem results_box3 {P : Program} {fn : Func} {p u v : Tmp} {ty : TypeId} (h : fn.results = #[.cell p ty, .tmp u, .tmp v]) (tmps : Array Value) (w : World) (g : Nat) (t : TypeId) (cs : Array Value) (d : TypeDesc) (r q : Value)
    (hp : tmps.getD p undef = .pointer (some ⟨g, 0, none⟩)) (hr : tmps.getD u undef = r) (hq : tmps.getD v undef = q) (hg : Box g cs t w)
    (hu : P.underlying ty = some d) (hd : (match d with | .struct _ | .array _ _ => true | _ => false) = true) (hi : (P.info? ty).map (·.size) = some cs.size) :
    (results fn tmps).run P w = .ok (.tuple #[.agg cs, r, q]) w := by
  rw [results_cell_tmp2 h, hp, hr, hq]
  simp [asAddr, run_loadVar_row w g t ty cs (0, 0) d hg hu hd hi, Result.andThen]
/-- The first statement of a block, its body, what stands behind. -/
def CutOut (w : World) (n e : Nat) (L : List Go.Proofs.YtmgeecdgebemdaaGreatDoor.stm.St) (s : Go.Proofs.YtmgeecdgebemdaaGreatDoor.stm.St) (x : Ending) (w' : World) : Prop :=
  ∃ a1 a2 : Option Addr, x = .returned (.tuple #[stV s, .slice a1 (e - 1) (e - 1), .slice a2 (n - (e + 1)) (n - (e + 1))]) ∧ Hid (StRow w' a1 (e - 1) (part L 1 (e - 1)) ∧ StRow w' a2 (n - (e + 1)) (part L (e + 1) (n - (e + 1)))) ∧ Below w.heap.size w w'
/-- The same, and the parts are parts of it in every world in which the block is there. -/
def CutAll (w : World) (a : Option Addr) (n e : Nat) (L : List Go.Proofs.YtmgeecdgebemdaaGreatDoor.stm.St) (s : Go.Proofs.YtmgeecdgebemdaaGreatDoor.stm.St) (x : Ending) (w' : World) : Prop :=
  ∃ a1 a2 : Option Addr, x = .returned (.tuple #[stV s, .slice a1 (e - 1) (e - 1), .slice a2 (n - (e + 1)) (n - (e + 1))]) ∧ Hid (∀ W0 : World, StRow W0 a n L → StRow W0 a1 (e - 1) (part L 1 (e - 1)) ∧ StRow W0 a2 (n - (e + 1)) (part L (e + 1) (n - (e + 1)))) ∧ Below w.heap.size w w'
theorem cells6 {w : World} {g : Nat} {t : TypeId} {x0 x1 x2 x3 x4 x5 : Value} (h : Box g #[x0, x1, x2, x3, x4, x5] t w) :
    w.cell? ⟨g, 0, none⟩ = some x0 ∧ w.cell? ⟨g, 1, none⟩ = some x1 ∧ w.cell? ⟨g, 2, none⟩ = some x2 ∧ w.cell? ⟨g, 3, none⟩ = some x3 ∧ w.cell? ⟨g, 4, none⟩ = some x4 ∧ w.cell? ⟨g, 5, none⟩ = some x5 :=
  ⟨h.cell 0, h.cell 1, h.cell 2, h.cell 3, h.cell 4, h.cell 5⟩
theorem cells6d {w : World} {g : Nat} {t : TypeId} {x0 x1 x2 x3 x4 x5 : Value} (h : Box g #[x0, x1, x2, x3, x4, x5] t w) : w.drew.cell? ⟨g, 0, none⟩ = some x0 ∧ w.drew.cell? ⟨g, 1, none⟩ = some x1 ∧ w.drew.cell? ⟨g, 2, none⟩ = some x2 ∧ w.drew.cell? ⟨g, 3, none⟩ = some x3 ∧ w.drew.cell? ⟨g, 4, none⟩ = some x4 ∧ w.drew.cell? ⟨g, 5, none⟩ = some x5 := cells6 h
theorem six_box {w : World} {g : Nat} {t : TypeId} {x0 x1 x2 x3 x4 x5 : Value} (h : Box g #[x0, x1, x2, x3, x4, x5] t w) : Box g #[x0, x1, x2, x3, x4, x5] t ((((((w.setCell ⟨g, 0, none⟩ x0).setCell ⟨g, 1, none⟩ x1).setCell ⟨g, 2, none⟩ x2).setCell ⟨g, 3, none⟩ x3).setCell ⟨g, 4, none⟩ x4).setCell ⟨g, 5, none⟩ x5) :=
  (((((h.set 0 x0).set 1 x1).set 2 x2).set 3 x3).set 4 x4).set 5 x5
theorem six_cells {w : World} {g : Nat} {t : TypeId} {x0 x1 x2 x3 x4 x5 : Value} (h : Box g #[x0, x1, x2, x3, x4, x5] t w) :
    ((((((w.setCell ⟨g, 0, none⟩ x0).setCell ⟨g, 1, none⟩ x1).setCell ⟨g, 2, none⟩ x2).setCell ⟨g, 3, none⟩ x3).setCell ⟨g, 4, none⟩ x4).setCell ⟨g, 5, none⟩ x5).cell? ⟨g, 0, none⟩ = some x0 ∧ ((((((w.setCell ⟨g, 0, none⟩ x0).setCell ⟨g, 1, none⟩ x1).setCell ⟨g, 2, none⟩ x2).setCell ⟨g, 3, none⟩ x3).setCell ⟨g, 4, none⟩ x4).setCell ⟨g, 5, none⟩ x5).cell? ⟨g, 1, none⟩ = some x1 ∧ ((((((w.setCell ⟨g, 0, none⟩ x0).setCell ⟨g, 1, none⟩ x1).setCell ⟨g, 2, none⟩ x2).setCell ⟨g, 3, none⟩ x3).setCell ⟨g, 4, none⟩ x4).setCell ⟨g, 5, none⟩ x5).cell? ⟨g, 2, none⟩ = some x2 ∧ ((((((w.setCell ⟨g, 0, none⟩ x0).setCell ⟨g, 1, none⟩ x1).setCell ⟨g, 2, none⟩ x2).setCell ⟨g, 3, none⟩ x3).setCell ⟨g, 4, none⟩ x4).setCell ⟨g, 5, none⟩ x5).cell? ⟨g, 3, none⟩ = some x3 ∧ ((((((w.setCell ⟨g, 0, none⟩ x0).setCell ⟨g, 1, none⟩ x1).setCell ⟨g, 2, none⟩ x2).setCell ⟨g, 3, none⟩ x3).setCell ⟨g, 4, none⟩ x4).setCell ⟨g, 5, none⟩ x5).cell? ⟨g, 4, none⟩ = some x4 ∧ ((((((w.setCell ⟨g, 0, none⟩ x0).setCell ⟨g, 1, none⟩ x1).setCell ⟨g, 2, none⟩ x2).setCell ⟨g, 3, none⟩ x3).setCell ⟨g, 4, none⟩ x4).setCell ⟨g, 5, none⟩ x5).cell? ⟨g, 5, none⟩ = some x5 := cells6 (six_box h)
theorem six_cellsd {w : World} {g : Nat} {t : TypeId} {x0 x1 x2 x3 x4 x5 : Value} (h : Box g #[x0, x1, x2, x3, x4, x5] t w) :
    ((((((w.setCell ⟨g, 0, none⟩ x0).setCell ⟨g, 1, none⟩ x1).setCell ⟨g, 2, none⟩ x2).setCell ⟨g, 3, none⟩ x3).setCell ⟨g, 4, none⟩ x4).setCell ⟨g, 5, none⟩ x5).drew.cell? ⟨g, 0, none⟩ = some x0 ∧ ((((((w.setCell ⟨g, 0, none⟩ x0).setCell ⟨g, 1, none⟩ x1).setCell ⟨g, 2, none⟩ x2).setCell ⟨g, 3, none⟩ x3).setCell ⟨g, 4, none⟩ x4).setCell ⟨g, 5, none⟩ x5).drew.cell? ⟨g, 1, none⟩ = some x1 ∧ ((((((w.setCell ⟨g, 0, none⟩ x0).setCell ⟨g, 1, none⟩ x1).setCell ⟨g, 2, none⟩ x2).setCell ⟨g, 3, none⟩ x3).setCell ⟨g, 4, none⟩ x4).setCell ⟨g, 5, none⟩ x5).drew.cell? ⟨g, 2, none⟩ = some x2 ∧ ((((((w.setCell ⟨g, 0, none⟩ x0).setCell ⟨g, 1, none⟩ x1).setCell ⟨g, 2, none⟩ x2).setCell ⟨g, 3, none⟩ x3).setCell ⟨g, 4, none⟩ x4).setCell ⟨g, 5, none⟩ x5).drew.cell? ⟨g, 3, none⟩ = some x3 ∧ ((((((w.setCell ⟨g, 0, none⟩ x0).setCell ⟨g, 1, none⟩ x1).setCell ⟨g, 2, none⟩ x2).setCell ⟨g, 3, none⟩ x3).setCell ⟨g, 4, none⟩ x4).setCell ⟨g, 5, none⟩ x5).drew.cell? ⟨g, 4, none⟩ = some x4 ∧ ((((((w.setCell ⟨g, 0, none⟩ x0).setCell ⟨g, 1, none⟩ x1).setCell ⟨g, 2, none⟩ x2).setCell ⟨g, 3, none⟩ x3).setCell ⟨g, 4, none⟩ x4).setCell ⟨g, 5, none⟩ x5).drew.cell? ⟨g, 5, none⟩ = some x5 := cells6d (six_box h)
theorem six_below {B : Nat} {W w : World} {g : Nat} {x0 x1 x2 x3 x4 x5 : Value} (h : Below B W w) (hg : B ≤ g) : Below B W ((((((w.setCell ⟨g, 0, none⟩ x0).setCell ⟨g, 1, none⟩ x1).setCell ⟨g, 2, none⟩ x2).setCell ⟨g, 3, none⟩ x3).setCell ⟨g, 4, none⟩ x4).setCell ⟨g, 5, none⟩ x5) :=
  (((((h.setCell hg x0).setCell hg x1).setCell hg x2).setCell hg x3).setCell hg x4).setCell hg x5
abbrev zeroSt : Array Value := #[.int .i64 0, .int .i64 0, .int .i64 0, .int .i64 0, .int .i64 0, .int .i64 0]
set_option maxHeartbeats 4000000 in
set_option maxRecDepth 100000 in
theorem impl_cutall (a : Option Addr) (n cap : Nat) (L : List Go.Proofs.YtmgeecdgebemdaaGreatDoor.stm.St) (hcap : n ≤ cap) (w : World) (h : StRow w a n L) (hb : IsBlk L) (s : Go.Proofs.YtmgeecdgebemdaaGreatDoor.stm.St) (hs : L[0]? = some s) (e : Nat) (he : (opn s = false ∧ e = 0) ∨ (opn s = true ∧ IsEnd L 0 e)) :
    Calls Tryz.prog 145 #[.slice a n cap] w (CutAll w a n e L s) := by
  have HL := Lib.hid h
  have HB := Lib.hid hb
  have hn24 : n ≤ 24 := by have := hb.2.2; have := h.1; omega
  have hn0 : 0 < n := by have := (List.getElem?_eq_some_iff.1 hs).1; have := h.1; omega
  obtain ⟨b, off, s', ha, hlb, hs', hrg⟩ := h.2 0 hn0
  obtain rfl : s' = s := by rw [hs] at hs'; exact (Option.some.inj hs').symm
  subst ha
  have HR := Lib.hid ((h.below (below_new w (.cells zeroSt 112))))
  have HR0 := Lib.hid (show (w.alloc (.cells zeroSt 112)).rangeAt b off (stC s') from fun j v hj => by
    have h9 := hrg j v hj
    rw [Nat.zero_mul, Nat.add_zero] at h9
    exact ((below_new w (.cells zeroSt 112)).cell (p := ⟨b, off + j, none⟩) hlb).trans h9)
  have HX := Lib.hid (And.intro (Box.new w zeroSt 112) (below_new w (.cells zeroSt 112)))
  have hI0 : (0 : Int) < n := by omega
  have hI1 : (1 : Int) ≤ n := by omega
  have hcI : (n : Int) ≤ cap := by omega
  have HSS := Lib.hid hs
  clear h hb hs hs' hrg
  rcases he with ⟨ho, rfl⟩ | ⟨ho, he⟩
  · have HO := Lib.hid ho
    clear ho
    have hw1 : IntKind.i64.wrap 1 = 1 := by decide
    have hw01 : IntKind.i64.wrap (0 + 1) = 1 := by decide
    have hnn : (n : Int) ≤ n := Int.le_refl _
    have h01 : (0 : Int) ≤ 1 := by omega
    obtain ⟨A, hA, HA⟩ : ∃ A, (if n = 1 then some (⟨b, off, none⟩ : Addr) else some ⟨b, off + 6, none⟩) = A ∧ Hid (1 < n → A = some ⟨b, off + 6, none⟩) := ⟨_, rfl, fun h => if_neg (by omega)⟩
    go_enter Tryz.func145, Tryz.ntmps145
    go_wp2_with (first
      | (refine wpList_load_mid rfl 112 _ rfl b off rfl (stC s') _ HR0.out Tryz.underlying112 rfl (by kernel_rfl) ?_)
      | ((refine wpList_store_box rfl 112 _ _ rfl w.heap.size _ _ HX.out.1 #[.int .i64 s'.k, .int .i64 s'.v, .int .i64 s'.n, .int .i64 s'.o, .int .i64 s'.a, .int .i64 s'.b] rfl rfl rfl (by kernel_rfl) (by simp [Value.oneCell']) ?_); intro w1 hx1 hg1; refine Hid.out ?_))
    have H1 := Lib.hid (And.intro hx1 (HX.out.2.grown hg1 HX.out.2.size (fun j hj => by cases hj; exact Nat.le_refl _)))
    clear hx1 hg1
    refine Lib.hid ?_
    go_wp2_with (first
      | (refine wpList_load_row rfl 112 _ rfl w.heap.size rfl _ _ _ _ H1.out.1 Tryz.underlying112 rfl (by kernel_rfl) ?_)
      | (go_at_call 188; (with_reducible refine (impl_hasbody s' false HO.out _).mono ?_); rintro e2 w2 ⟨rfl, hb2⟩; refine Hid.out ?_))
    have H2 := Lib.hid (And.intro (H1.out.1.below hb2) (below_then H1.out.2 hb2))
    clear hb2
    refine Lib.hid ?_
    have HX2e : Box w.heap.size #[.int .i64 s'.k, .int .i64 s'.v, .int .i64 s'.n, .int .i64 s'.o, .int .i64 s'.a, .int .i64 s'.b] 112 w2 := H2.out.1
    have HX2 : Box w.heap.size #[.int .i64 s'.k, .int .i64 s'.v, .int .i64 s'.n, .int .i64 s'.o, .int .i64 s'.a, .int .i64 s'.b] 112 w2.drew := H2.out.1
    have hR2d : w2.drew.cell? ⟨w.heap.size, 0, none⟩ = some (.int .i64 s'.k) ∧ w2.drew.cell? ⟨w.heap.size, 1, none⟩ = some (.int .i64 s'.v) ∧ w2.drew.cell? ⟨w.heap.size, 2, none⟩ = some (.int .i64 s'.n) ∧ w2.drew.cell? ⟨w.heap.size, 3, none⟩ = some (.int .i64 s'.o) ∧ w2.drew.cell? ⟨w.heap.size, 4, none⟩ = some (.int .i64 s'.a) ∧ w2.drew.cell? ⟨w.heap.size, 5, none⟩ = some (.int .i64 s'.b) := cells6d H2.out.1
    have r0 : w2.cell? ⟨w.heap.size, 0, none⟩ = some (.int .i64 s'.k) := HX2e.cell 0
    have r1 : w2.cell? ⟨w.heap.size, 1, none⟩ = some (.int .i64 s'.v) := HX2e.cell 1
    have r2 : w2.cell? ⟨w.heap.size, 2, none⟩ = some (.int .i64 s'.n) := HX2e.cell 2
    have r3 : w2.cell? ⟨w.heap.size, 3, none⟩ = some (.int .i64 s'.o) := HX2e.cell 3
    have r4 : w2.cell? ⟨w.heap.size, 4, none⟩ = some (.int .i64 s'.a) := HX2e.cell 4
    have r5 : w2.cell? ⟨w.heap.size, 5, none⟩ = some (.int .i64 s'.b) := HX2e.cell 5
    have f0 : w2.frozen? ⟨w.heap.size, 0, none⟩ = false := HX2e.frozen 0
    have f1 : w2.frozen? ⟨w.heap.size, 1, none⟩ = false := HX2e.frozen 1
    have f2 : w2.frozen? ⟨w.heap.size, 2, none⟩ = false := HX2e.frozen 2
    have f3 : w2.frozen? ⟨w.heap.size, 3, none⟩ = false := HX2e.frozen 3
    have f4 : w2.frozen? ⟨w.heap.size, 4, none⟩ = false := HX2e.frozen 4
    have f5 : w2.frozen? ⟨w.heap.size, 5, none⟩ = false := HX2e.frozen 5
    go_wp2
    go_region_held3 (fun w' => w'.cell? ⟨w.heap.size, 0, none⟩ = some (.int .i64 s'.k) ∧ w'.cell? ⟨w.heap.size, 1, none⟩ = some (.int .i64 s'.v) ∧ w'.cell? ⟨w.heap.size, 2, none⟩ = some (.int .i64 s'.n) ∧ w'.cell? ⟨w.heap.size, 3, none⟩ = some (.int .i64 s'.o) ∧ w'.cell? ⟨w.heap.size, 4, none⟩ = some (.int .i64 s'.a) ∧ w'.cell? ⟨w.heap.size, 5, none⟩ = some (.int .i64 s'.b))
      (first | (with_reducible exact six_cells HX2) | (with_reducible exact six_cellsd HX2e) | (with_reducible exact six_cellsd HX2) | (with_reducible exact hR2d) | (with_reducible assumption))
      (fail)
    have HW := And.intro (six_box HX2e) (six_below H2.out.2 (Nat.le_refl w.heap.size) (g := w.heap.size) (x0 := .int .i64 s'.k) (x1 := .int .i64 s'.v) (x2 := .int .i64 s'.n) (x3 := .int .i64 s'.o) (x4 := .int .i64 s'.a) (x5 := .int .i64 s'.b))
    obtain ⟨w6, hw6⟩ : ∃ w6, ((((((w2.setCell ⟨w.heap.size, 0, none⟩ (.int .i64 s'.k)).setCell ⟨w.heap.size, 1, none⟩ (.int .i64 s'.v)).setCell ⟨w.heap.size, 2, none⟩ (.int .i64 s'.n)).setCell ⟨w.heap.size, 3, none⟩ (.int .i64 s'.o)).setCell ⟨w.heap.size, 4, none⟩ (.int .i64 s'.a)).setCell ⟨w.heap.size, 5, none⟩ (.int .i64 s'.b)) = w6 := ⟨_, rfl⟩
    rw [hw6] at HW ⊢
    have H6 := Lib.hid (show Box w.heap.size #[.int .i64 s'.k, .int .i64 s'.v, .int .i64 s'.n, .int .i64 s'.o, .int .i64 s'.a, .int .i64 s'.b] 112 w6.drew ∧ Below w.heap.size w w6.drew from ⟨HW.1, Below.drew HW.2⟩)
    clear HW hw6 HX2e HX2 hR2d r0 r1 r2 r3 r4 r5 f0 f1 f2 f3 f4 f5
    obtain ⟨w7, hw7⟩ : ∃ w7, w6.drew = w7 := ⟨_, rfl⟩
    rw [hw7] at H6 ⊢
    clear hw7
    go_wp2
    exact bodyPost_ret (v := .tuple #[stV s', .slice (none) (0 - 1) (0 - 1), .slice (A) (n - (0 + 1)) (n - (0 + 1))]) (results_box3 rfl _ _ w.heap.size _ _ _ _ _ rfl rfl rfl H6.out.1 Tryz.underlying112 rfl (by kernel_rfl)) rfl ⟨_, _, rfl, fun W0 hW0 => ⟨StRow.cut hW0 (1) (0 - 1) (by omega) (fun x y hxy h0 => by omega), StRow.cut hW0 (0 + 1) (n - (0 + 1)) (by omega) (fun x y hxy h0 => by cases hxy; exact HA.out (by omega))⟩, H6.out.2⟩
  · have HO := Lib.hid ho
    have HE := Lib.hid he
    have hen0 := he.1
    have hen1 : e < n := by have := he.2.1; have := HL.out.1; omega
    clear ho he
    have HC := Lib.hid (show ∀ w1 : World, StRow w1 (some ⟨b, off, none⟩) n L → Calls Tryz.prog 189 #[.slice (some ⟨b, off, none⟩) n cap, .int .i64 0] w1 (BelI w1 e) from fun w1 h1 => impl_end _ n cap L w1 h1 HB.out 0 e HE.out e rfl)
    have hwe : IntKind.i64.wrap ((e : Int) + 1) = (e : Int) + 1 := IntWalk.i64_in _ (by omega)
    have hnn : (n : Int) ≤ n := Int.le_refl _
    have h01 : (0 : Int) ≤ 1 := by omega
    have h1e : (1 : Int) ≤ e := by omega
    have hec : (e : Int) ≤ cap := by omega
    have hee : (e : Int) ≤ e := Int.le_refl _
    have hen : (e : Int) + 1 ≤ n := by omega
    have h0e : (0 : Int) ≤ (e : Int) + 1 := by omega
    obtain ⟨A, hA, HA⟩ : ∃ A, (if e = 1 then some (⟨b, off, none⟩ : Addr) else some ⟨b, off + 6, none⟩) = A ∧ Hid (1 < e → A = some ⟨b, off + 6, none⟩) := ⟨_, rfl, fun h => if_neg (by omega)⟩
    obtain ⟨B, hB, HBB⟩ : ∃ B, (if n = e + 1 then some (⟨b, off, none⟩ : Addr) else some ⟨b, off + (e + 1) * 6, none⟩) = B ∧ Hid (e + 1 < n → B = some ⟨b, off + (e + 1) * 6, none⟩) := ⟨_, rfl, fun h => if_neg (by omega)⟩
    go_enter Tryz.func145, Tryz.ntmps145
    go_wp2_with (first
      | (refine wpList_load_mid rfl 112 _ rfl b off rfl (stC s') _ HR0.out Tryz.underlying112 rfl (by kernel_rfl) ?_)
      | ((refine wpList_store_box rfl 112 _ _ rfl w.heap.size _ _ HX.out.1 #[.int .i64 s'.k, .int .i64 s'.v, .int .i64 s'.n, .int .i64 s'.o, .int .i64 s'.a, .int .i64 s'.b] rfl rfl rfl (by kernel_rfl) (by simp [Value.oneCell']) ?_); intro w1 hx1 hg1; refine Hid.out ?_))
    have H1 := Lib.hid (And.intro hx1 (HX.out.2.grown hg1 HX.out.2.size (fun j hj => by cases hj; exact Nat.le_refl _)))
    clear hx1 hg1
    refine Lib.hid ?_
    go_wp2_with (first
      | (refine wpList_load_row rfl 112 _ rfl w.heap.size rfl _ _ _ _ H1.out.1 Tryz.underlying112 rfl (by kernel_rfl) ?_)
      | (go_at_call 188; (with_reducible refine (impl_hasbody s' true HO.out _).mono ?_); rintro e2 w2 ⟨rfl, hb2⟩; refine Hid.out ?_))
    have H2 := Lib.hid (And.intro (H1.out.1.below hb2) (below_then H1.out.2 hb2))
    clear hb2
    refine Lib.hid ?_
    go_wp2_with (go_at_call 189; (with_reducible refine (HC.out _ (HL.out.below H2.out.2)).mono ?_); rintro e3 w3 ⟨rfl, hb3⟩; refine Hid.out ?_)
    have H3 := Lib.hid (And.intro (H2.out.1.below hb3) (below_then H2.out.2 hb3))
    clear hb3
    refine Lib.hid ?_
    have HX2e : Box w.heap.size #[.int .i64 s'.k, .int .i64 s'.v, .int .i64 s'.n, .int .i64 s'.o, .int .i64 s'.a, .int .i64 s'.b] 112 w3 := H3.out.1
    have HX2 : Box w.heap.size #[.int .i64 s'.k, .int .i64 s'.v, .int .i64 s'.n, .int .i64 s'.o, .int .i64 s'.a, .int .i64 s'.b] 112 w3.drew := H3.out.1
    have hR2d : w3.drew.cell? ⟨w.heap.size, 0, none⟩ = some (.int .i64 s'.k) ∧ w3.drew.cell? ⟨w.heap.size, 1, none⟩ = some (.int .i64 s'.v) ∧ w3.drew.cell? ⟨w.heap.size, 2, none⟩ = some (.int .i64 s'.n) ∧ w3.drew.cell? ⟨w.heap.size, 3, none⟩ = some (.int .i64 s'.o) ∧ w3.drew.cell? ⟨w.heap.size, 4, none⟩ = some (.int .i64 s'.a) ∧ w3.drew.cell? ⟨w.heap.size, 5, none⟩ = some (.int .i64 s'.b) := cells6d H3.out.1
    have r0 : w3.cell? ⟨w.heap.size, 0, none⟩ = some (.int .i64 s'.k) := HX2e.cell 0
    have r1 : w3.cell? ⟨w.heap.size, 1, none⟩ = some (.int .i64 s'.v) := HX2e.cell 1
    have r2 : w3.cell? ⟨w.heap.size, 2, none⟩ = some (.int .i64 s'.n) := HX2e.cell 2
    have r3 : w3.cell? ⟨w.heap.size, 3, none⟩ = some (.int .i64 s'.o) := HX2e.cell 3
    have r4 : w3.cell? ⟨w.heap.size, 4, none⟩ = some (.int .i64 s'.a) := HX2e.cell 4
    have r5 : w3.cell? ⟨w.heap.size, 5, none⟩ = some (.int .i64 s'.b) := HX2e.cell 5
    have f0 : w3.frozen? ⟨w.heap.size, 0, none⟩ = false := HX2e.frozen 0
    have f1 : w3.frozen? ⟨w.heap.size, 1, none⟩ = false := HX2e.frozen 1
    have f2 : w3.frozen? ⟨w.heap.size, 2, none⟩ = false := HX2e.frozen 2
    have f3 : w3.frozen? ⟨w.heap.size, 3, none⟩ = false := HX2e.frozen 3
    have f4 : w3.frozen? ⟨w.heap.size, 4, none⟩ = false := HX2e.frozen 4
    have f5 : w3.frozen? ⟨w.heap.size, 5, none⟩ = false := HX2e.frozen 5
    go_wp2
    go_region_held3 (fun w' => w'.cell? ⟨w.heap.size, 0, none⟩ = some (.int .i64 s'.k) ∧ w'.cell? ⟨w.heap.size, 1, none⟩ = some (.int .i64 s'.v) ∧ w'.cell? ⟨w.heap.size, 2, none⟩ = some (.int .i64 s'.n) ∧ w'.cell? ⟨w.heap.size, 3, none⟩ = some (.int .i64 s'.o) ∧ w'.cell? ⟨w.heap.size, 4, none⟩ = some (.int .i64 s'.a) ∧ w'.cell? ⟨w.heap.size, 5, none⟩ = some (.int .i64 s'.b))
      (first | (with_reducible exact six_cells HX2) | (with_reducible exact six_cellsd HX2e) | (with_reducible exact six_cellsd HX2) | (with_reducible exact hR2d) | (with_reducible assumption))
      (fail)
    have HW := And.intro (six_box HX2e) (six_below H3.out.2 (Nat.le_refl w.heap.size) (g := w.heap.size) (x0 := .int .i64 s'.k) (x1 := .int .i64 s'.v) (x2 := .int .i64 s'.n) (x3 := .int .i64 s'.o) (x4 := .int .i64 s'.a) (x5 := .int .i64 s'.b))
    obtain ⟨w6, hw6⟩ : ∃ w6, ((((((w3.setCell ⟨w.heap.size, 0, none⟩ (.int .i64 s'.k)).setCell ⟨w.heap.size, 1, none⟩ (.int .i64 s'.v)).setCell ⟨w.heap.size, 2, none⟩ (.int .i64 s'.n)).setCell ⟨w.heap.size, 3, none⟩ (.int .i64 s'.o)).setCell ⟨w.heap.size, 4, none⟩ (.int .i64 s'.a)).setCell ⟨w.heap.size, 5, none⟩ (.int .i64 s'.b)) = w6 := ⟨_, rfl⟩
    rw [hw6] at HW ⊢
    have H6 := Lib.hid (show Box w.heap.size #[.int .i64 s'.k, .int .i64 s'.v, .int .i64 s'.n, .int .i64 s'.o, .int .i64 s'.a, .int .i64 s'.b] 112 w6.drew ∧ Below w.heap.size w w6.drew from ⟨HW.1, Below.drew HW.2⟩)
    clear HW hw6 HX2e HX2 hR2d r0 r1 r2 r3 r4 r5 f0 f1 f2 f3 f4 f5
    obtain ⟨w7, hw7⟩ : ∃ w7, w6.drew = w7 := ⟨_, rfl⟩
    rw [hw7] at H6 ⊢
    clear hw7
    go_wp2
    exact bodyPost_ret (v := .tuple #[stV s', .slice (A) (e - 1) (e - 1), .slice (B) (n - (e + 1)) (n - (e + 1))]) (results_box3 rfl _ _ w.heap.size _ _ _ _ _ rfl rfl rfl H6.out.1 Tryz.underlying112 rfl (by kernel_rfl)) rfl ⟨_, _, rfl, fun W0 hW0 => ⟨StRow.cut hW0 1 (e - 1) (by omega) (fun x y hxy h0 => by cases hxy; exact HA.out (by omega)), StRow.cut hW0 (e + 1) (n - (e + 1)) (by omega) (fun x y hxy h0 => by cases hxy; exact HBB.out (by omega))⟩, H6.out.2⟩
theorem impl_cut (a : Option Addr) (n cap : Nat) (L : List Go.Proofs.YtmgeecdgebemdaaGreatDoor.stm.St) (hcap : n ≤ cap) (w : World) (h : StRow w a n L) (hb : IsBlk L) (s : Go.Proofs.YtmgeecdgebemdaaGreatDoor.stm.St) (hs : L[0]? = some s) (e : Nat) (he : (opn s = false ∧ e = 0) ∨ (opn s = true ∧ IsEnd L 0 e)) :
    Calls Tryz.prog 145 #[.slice a n cap] w (CutOut w n e L s) :=
  (impl_cutall a n cap L hcap w h hb s hs e he).mono fun _ w' ⟨a1, a2, h1, h2, h3⟩ => ⟨a1, a2, h1, h2.out w' (h.below h3), h3⟩
end Go.Proofs.YtmgeecdgebemdaaGreatDoor.blk
