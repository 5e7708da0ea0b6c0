/- Several texts in one: BlkF BlkG BlkD. -/
import Derived.Test.YtlicadaecfgklaaGHub27
import Derived.Test.YtlicadaecfgklaaGHub29

/- Chapter 5's program: what a statement adds to the height, whether it opens, BlockOk: what the plain relations say; nothing that was there is written. -/
namespace Go.Proofs.Ytlicadaecfgklaa.blk
open Go Go.ChangeShapes Go.WideShapes Go.ChangeAt Go.RowKit Go.Proofs.Ytlicadaecfgklaa.row Go.Proofs.Ytlicadaecfgklaa.val Go.Proofs.Ytlicadaecfgklaa.expr Go.Proofs.Ytlicadaecfgklaa.stm

theorem dlt_range (s : Go.Proofs.Ytlicadaecfgklaa.stm.St) : -1 ≤ dlt s ∧ dlt s ≤ 1 := by rcases dlt_cases s with ⟨_, _, h⟩ | ⟨_, _, h⟩ | ⟨_, _, h⟩ <;> omega
theorem impl_delta (s : Go.Proofs.Ytlicadaecfgklaa.stm.St) (d : Int) (hd : dlt s = d) (w : World) : Calls Try.prog 71 #[stV s] w (BelI w d) := by
  subst hd
  by_cases h4 : s.k = 4
  · have HE := Lib.hid (show dlt s = 1 from by unfold dlt; rw [if_pos (.inl h4)])
    have hq : (s.k == 4) = true := by rw [h4]; rfl
    clear h4
    go_enter Try.func71, Try.ntmps71
    go_wp2
    go_ret
    exact ⟨by rw [HE.out]; rfl, below_new w _⟩
  · have hq : (s.k == 4) = false := by rw [beq_eq_false_iff_ne]; exact h4
    by_cases h5 : s.k = 5
    · have HE := Lib.hid (show dlt s = 1 from by unfold dlt; rw [if_pos (.inr h5)])
      have hq5 : (s.k == 5) = true := by rw [h5]; rfl
      clear h4 h5
      go_enter Try.func71, Try.ntmps71
      go_wp2
      go_ret
      exact ⟨by rw [HE.out]; rfl, below_new w _⟩
    · have hq5 : (s.k == 5) = false := by rw [beq_eq_false_iff_ne]; exact h5
      by_cases h6 : s.k = 6
      · have HE := Lib.hid (show dlt s = -1 from by unfold dlt; rw [if_neg (by omega), if_pos h6])
        have hq6 : (s.k == 6) = true := by rw [h6]; rfl
        clear h4 h5 h6
        go_enter Try.func71, Try.ntmps71
        go_wp2
        go_ret
        exact ⟨by rw [HE.out]; rfl, below_new w _⟩
      · have HE := Lib.hid (show dlt s = 0 from by unfold dlt; rw [if_neg (by omega), if_neg h6])
        have hq6 : (s.k == 6) = false := by rw [beq_eq_false_iff_ne]; exact h6
        clear h4 h5 h6
        go_enter Try.func71, Try.ntmps71
        go_wp2
        go_ret
        exact ⟨by rw [HE.out]; rfl, below_new w _⟩
set_option maxHeartbeats 4000000 in
set_option maxRecDepth 100000 in
theorem impl_blockok (a : Option Addr) (n cap : Nat) (L : List Go.Proofs.Ytlicadaecfgklaa.stm.St) (hn : (n : Int) ≤ 1048576) (w : World) (h : StRow w a n L) (r : Bool) (hr : r = true ↔ IsBlk L) :
    Calls Try.prog 65 #[.slice a n cap] w (BelB w r) := by
  have HL := Lib.hid h
  have HR := Lib.hid hr
  have hlen := h.1
  by_cases h24 : (24 : Int) < n
  · have hrf : r = false := by rw [← Bool.not_eq_true]; intro e; have := (hr.1 e).2.2; omega
    clear h hr hlen
    subst hrf
    go_enter Try.func65, Try.ntmps65
    go_wp2
    go_ret
    exact ⟨rfl, Below.refl _ _⟩
  · have HLN := Lib.hid hlen
    have h24n : n ≤ 24 := by omega
    clear h hr hlen
    go_enter Try.func65, Try.ntmps65
    go_wp2
    go_loopw [3, 11] (fun o i wr => ∃ (k : Nat) (x : Int), k ≤ n ∧ i = .int .i64 k ∧ o = .int .i64 x ∧ 0 ≤ x ∧ x ≤ 3 ∧ Hid (x = hAt L k) ∧ Hid (OkTo L k) ∧ Below w.heap.size w wr) (fun _ i _ => n - (intOf i).toNat)
    case atStart => exact ⟨0, 0, Nat.zero_le _, rfl, rfl, by omega, by omega, rfl, okTo_zero L, Below.refl _ _⟩
    case round =>
      obtain ⟨k, x, hk, rfl, rfl, hx0, hx3, hH, hO, hbel⟩ := hrel
      by_cases hlt : k < n
      · obtain ⟨b, off, s, rfl, hlb, hs, hrg⟩ := (HL.out.below hbel).2 k hlt
        have HS := Lib.hid (And.intro hrg (And.intro hs hbel))
        have hI : (k : Int) < n := by omega
        have HX := Lib.hid (And.intro (Box.new wr #[.int .i64 0, .int .i64 0, .int .i64 0, .int .i64 0, .int .i64 0, .int .i64 0] 82) (hbel.alloc hbel.size (.cells #[.int .i64 0, .int .i64 0, .int .i64 0, .int .i64 0, .int .i64 0, .int .i64 0] 82)))
        have hsz := hbel.size
        have hnx := hAt_succ hs
        have hdr := dlt_range s
        obtain ⟨d, hd⟩ : ∃ d, dlt s = d := ⟨_, rfl⟩
        rw [hd] at hnx hdr
        rw [← hH.out] at hnx
        have hd0 := hdr.1
        have hd1 := hdr.2
        have HD := Lib.hid hd
        have HN := Lib.hid hnx
        clear hrg hs hbel hnx hdr hd
        go_wp2_with (first
          | (refine wpList_load_mid rfl 82 _ rfl b (off + k * 6) rfl (stC s) _ HS.out.1 Try.underlying82 rfl (by kernel_rfl) ?_)
          | ((refine wpList_store_box rfl 82 _ _ rfl wr.heap.size _ _ HX.out.1 #[.int .i64 s.k, .int .i64 s.v, .int .i64 s.n, .int .i64 s.o, .int .i64 s.a, .int .i64 s.b] rfl rfl rfl (by kernel_rfl) (by simp [Value.oneCell']) ?_); intro w1 hx1 hg1; refine Hid.out ?_))
        have H1 := Lib.hid (And.intro hx1 (HX.out.2.grown hg1 HX.out.2.size (fun j hj => by cases hj; exact hsz)))
        clear hx1 hg1
        refine Lib.hid ?_
        go_wp2_with (first
          | (refine wpList_load_row rfl 82 _ rfl wr.heap.size rfl _ _ _ _ H1.out.1 Try.underlying82 rfl (by kernel_rfl) ?_)
          | (go_at_call 71; (with_reducible refine (impl_delta s d HD.out _).mono ?_); rintro e w2 ⟨rfl, hb2⟩; refine Hid.out ?_))
        have H2 := Lib.hid (And.intro (H1.out.1.below hb2) (below_then H1.out.2 hb2))
        clear hb2
        cases hst : stOk s
        · have hrf : r = false := by
            rw [← Bool.not_eq_true]; intro e; exact not_blk_at HS.out.2.1 (.inl hst) (HR.out.1 e)
          have HST := Lib.hid hst
          clear hst
          subst hrf
          refine Lib.hid ?_
          go_wp2_with (first
            | (refine wpList_load_row rfl 82 _ rfl wr.heap.size rfl _ _ _ _ H2.out.1 Try.underlying82 rfl (by kernel_rfl) ?_)
            | (go_at_call 72; (with_reducible refine (impl_stmtok s false HST.out _).mono ?_); rintro e w3 ⟨rfl, hb3⟩))
          go_ret
          exact ⟨rfl, below_then H2.out.2 hb3⟩
        · have HST := Lib.hid hst
          clear hst
          rcases (show x + d < 0 ∨ (0 ≤ x + d ∧ 3 < x + d) ∨ (0 ≤ x + d ∧ x + d ≤ 3) by omega) with hy | ⟨hy, hy3⟩ | ⟨hy, hy3⟩
          · have hrf : r = false := by
              rw [← Bool.not_eq_true]; intro e; exact not_blk_at HS.out.2.1 (.inr (by have := HN.out; omega)) (HR.out.1 e)
            subst hrf
            refine Lib.hid ?_
            go_wp2_with (first
              | (refine wpList_load_row rfl 82 _ rfl wr.heap.size rfl _ _ _ _ H2.out.1 Try.underlying82 rfl (by kernel_rfl) ?_)
              | (go_at_call 72; (with_reducible refine (impl_stmtok s true HST.out _).mono ?_); rintro e w3 ⟨rfl, hb3⟩))
            go_ret
            exact ⟨rfl, below_then H2.out.2 hb3⟩
          · have hrf : r = false := by
              rw [← Bool.not_eq_true]; intro e; exact not_blk_at HS.out.2.1 (.inr (by have := HN.out; omega)) (HR.out.1 e)
            have hy0 : ¬ x + d < 0 := by omega
            subst hrf
            refine Lib.hid ?_
            go_wp2_with (first
              | (refine wpList_load_row rfl 82 _ rfl wr.heap.size rfl _ _ _ _ H2.out.1 Try.underlying82 rfl (by kernel_rfl) ?_)
              | (go_at_call 72; (with_reducible refine (impl_stmtok s true HST.out _).mono ?_); rintro e w3 ⟨rfl, hb3⟩))
            go_ret
            exact ⟨rfl, below_then H2.out.2 hb3⟩
          · have hy0 : ¬ x + d < 0 := by omega
            have hy1 : ¬ 3 < x + d := by omega
            have HO2 := Lib.hid (okTo_succ hO.out HS.out.2.1 HST.out (by have := HN.out; omega) (by have := HN.out; omega))
            have HX2 := Lib.hid (show x + d = hAt L (k + 1) by have := HN.out; omega)
            refine Lib.hid ?_
            go_wp2_with (first
              | (refine wpList_load_row rfl 82 _ rfl wr.heap.size rfl _ _ _ _ H2.out.1 Try.underlying82 rfl (by kernel_rfl) ?_)
              | (go_at_call 72; (with_reducible refine (impl_stmtok s true HST.out _).mono ?_); rintro e w3 ⟨rfl, hb3⟩; refine Hid.out ?_))
            have HB3 := Lib.hid (below_then H2.out.2 hb3)
            clear hb3
            refine Lib.hid ?_
            go_wp2
            go_roundw
            case rel => exact ⟨k + 1, x + d, by omega, by go_num, rfl, hy, hy3, HX2, HO2, HB3.out⟩
            case measure => simp [intOf]; omega
      · obtain rfl : k = n := by omega
        have hI : ¬ (k : Int) < k := by omega
        have hlenk := HLN.out
        have hOK := hO.out
        have hHX := hH.out
        rcases (show x ≠ 0 ∨ x = 0 by omega) with hx | hx
        · have hrf : r = false := by
            rw [← Bool.not_eq_true]; intro e; have := (HR.out.1 e).2.1; rw [hlenk] at this; omega
          have hxb : (x == 0) = false := by rw [beq_eq_false_iff_ne]; exact hx
          have HB := Lib.hid hbel
          clear hOK hHX hbel hlenk
          subst hrf
          go_wp2
          go_ret
          exact ⟨rfl, HB.out⟩
        · have hrt : r = true := HR.out.2 ⟨by rw [hlenk]; exact hOK, by rw [hlenk]; omega, by omega⟩
          have HB := Lib.hid hbel
          clear hOK hHX hbel hlenk
          subst hrt hx
          go_wp2
          go_ret
          exact ⟨rfl, HB.out⟩
end Go.Proofs.Ytlicadaecfgklaa.blk

/- Chapter 5's program: the matching end, whether a block has a place, EndOf: what the plain relations say; nothing that was there is written. -/
namespace Go.Proofs.Ytlicadaecfgklaa.blk
open Go Go.ChangeShapes Go.WideShapes Go.ChangeAt Go.RowKit Go.Proofs.Ytlicadaecfgklaa.row Go.Proofs.Ytlicadaecfgklaa.val Go.Proofs.Ytlicadaecfgklaa.expr Go.Proofs.Ytlicadaecfgklaa.stm

end Go.Proofs.Ytlicadaecfgklaa.blk

/- Chapter 5's model: DepthOf: the height ahead of the statement; nothing that was there is written. -/
namespace Go.Proofs.Ytlicadaecfgklaa.blk
open Go Go.ChangeShapes Go.WideShapes Go.ChangeAt Go.RowKit Go.Proofs.Ytlicadaecfgklaa.row Go.Proofs.Ytlicadaecfgklaa.val Go.Proofs.Ytlicadaecfgklaa.expr Go.Proofs.Ytlicadaecfgklaa.stm

theorem depthIs_not {L : List Go.Proofs.Ytlicadaecfgklaa.stm.St} {i x : Int} (h : DepthIs L i x) (hn : ¬ IsBlk L ∨ i < 0 ∨ (L.length : Int) ≤ i) : x = -1 := by
  rcases h with ⟨j, rfl, hl, hb, rfl⟩ | ⟨rfl, _⟩
  · rcases hn with hn | hn | hn
    · exact absurd hb hn
    · omega
    · omega
  · rfl
theorem depthIs_yes {L : List Go.Proofs.Ytlicadaecfgklaa.stm.St} {j : Nat} {x : Int} (h : DepthIs L j x) (hb : IsBlk L) (hl : j < L.length) : x = hAt L j := h.unique (.inl ⟨j, rfl, hl, hb, rfl⟩)
end Go.Proofs.Ytlicadaecfgklaa.blk
