/- Chapter 10 of the model: TouchedWords; a new row; nothing that was there is written. -/
import Derived.Test.YtmanplejhcjnaaaWtM
namespace Go.Proofs.Ytmanplejhcjnaaa.wrt
open Go Go.ChangeShapes Go.WideShapes Go.ChangeAt Go.RowKit Go.Proofs.Ytmanplejhcjnaaa.row Go.Proofs.Ytmanplejhcjnaaa.val Go.Proofs.Ytmanplejhcjnaaa.expr Go.Proofs.Ytmanplejhcjnaaa.grow

theorem none_ok' (ad : Option Addr) (n c : Nat) : (Value.slice ad n c).ownBlock = none ∨ (Value.slice ad n c).ownBlock ≠ none := by cases ad <;> simp [Value.ownBlock]
theorem elemI : Try.prog.underlying 24 = some (.slice (Try.prog.elem 24)) := by kernel_rfl
theorem sizeI (w : World) : (sizeOf (Try.prog.elem 24)).run Try.prog w = .ok 1 w := by kernel_rfl
/-- The first 'q' elements. -/
theorem icut_h (g n cap q : Nat) (Q : Int) (hQ : Q = q) (hc : q ≤ cap) (w : World) : (Instr.sliceAt 24 (.slice (some ⟨g, 0, none⟩) n cap) none (some (.int .i64 Q)) none).run Try.prog w = .ok (.slice (some ⟨g, 0, none⟩) q cap) w := by
  subst hQ
  rw [run_sliceAt_slice w _ _ _ _ _ elemI, Go.run_slice_h w _ _ _ _ elemI _ _ (by omega) (by omega), sizeI]
  simp only [Result.andThen, sliced]
  rw [Nat.sub_zero, show ((q : Int)).toNat = q by omega, Nat.zero_mul, Option.map_some, Addr.add_mid, Nat.add_zero, ite_self, Nat.sub_zero]
/-- The elements from 'q' on; where nothing is behind them the address stays. -/
theorem icut_l (g n cap q o r c : Nat) (Q : Int) (hQ : Q = q) (hq : q ≤ n) (ho : (if cap = q then 0 else q) = o) (hr : n - q = r) (hc : cap - q = c) (w : World) : (Instr.sliceAt 24 (.slice (some ⟨g, 0, none⟩) n cap) (some (.int .i64 Q)) none none).run Try.prog w = .ok (.slice (some ⟨g, o, none⟩) r c) w := by
  subst hQ hr hc
  rw [run_sliceAt_slice w _ _ _ _ _ elemI, Go.run_slice_l w _ _ _ _ elemI _ _ (by omega) (by omega), sizeI]
  simp only [Result.andThen, sliced]
  rw [show ((q : Int)).toNat = q by omega, Nat.mul_one, Option.map_some, Addr.add_mid, Nat.zero_add, ← ho]
  by_cases h : cap = q
  · rw [if_pos h, if_pos h]
  · rw [if_neg h, if_neg h]
theorem row_part {w : World} {b off n o m : Nat} {L : List Int} (h : Row w (some ⟨b, off, none⟩) n L) (hm : o + m ≤ n) : Row w (some ⟨b, off + o, none⟩) m ((L.drop o).take m) := by
  have hl := h.1
  refine ⟨by simp; omega, fun k hk => ?_⟩
  obtain ⟨b', off', x, e, hlt, hx, hc⟩ := h.2 (o + k) (by omega)
  cases e
  refine ⟨b, off + o, x, rfl, hlt, ?_, by rw [Nat.add_assoc]; exact hc⟩
  rw [List.getElem?_take_of_lt hk, List.getElem?_drop]; exact hx
theorem row_drop {w : World} {g n cap q o r : Nat} {T : List Int} (h : Row w (some ⟨g, 0, none⟩) n T) (hq : q ≤ n) (hc : n ≤ cap) (ho : (if cap = q then 0 else q) = o) (hr : n - q = r) : Row w (some ⟨g, o, none⟩) r (T.drop q) := by
  subst hr
  have hl := h.1
  by_cases e : cap = q
  · have e0 : n - q = 0 := by omega
    rw [e0]
    exact ⟨by simp; omega, fun k hk => absurd hk (by omega)⟩
  · rw [if_neg e] at ho
    subst ho
    have h2 := row_part (o := q) (m := n - q) h (by omega)
    rw [Nat.zero_add, List.take_of_length_le (by simp; omega)] at h2
    exact h2
/-- What an append asks of the row that it copies from. -/
theorem news_row {w w' : World} {b off n : Nat} {L : List Int} (h : Row w (some ⟨b, off, none⟩) n L) (hb : Below w.heap.size w w') : ∀ j u, (ivs L)[j]? = some u → w'.cell? ((⟨b, off, none⟩ : Addr).add j) = some u := by
  intro j u hj
  rw [Addr.add_mid]
  exact row_range (h.below hb) j u hj
/-- What has been found after some writes: ascending, the places of these. -/
def Found (L : List Wt) (j : Nat) (T : List Int) : Prop := Asc T ∧ (∀ x, x ∈ T ↔ ∃ y ∈ L.take j, y.p = x) ∧ T.length ≤ j
theorem found_same {L : List Wt} {j m : Nat} {q v : Int} {T : List Int} (h : Found L j T) (hs : L[j]? = some ⟨q, v⟩) (hx : T[m]? = some q) : Found L (j + 1) T := by
  refine ⟨h.1, fun x => ?_, by have := h.2.2; omega⟩
  rw [mem_take_succ hs, h.2.1 x]
  constructor
  · exact .inl
  · rintro (h2 | rfl)
    · exact h2
    · exact (h.2.1 _).1 (List.mem_of_getElem? hx)
theorem found_new {L : List Wt} {j m : Nat} {q v : Int} {T : List Int} (h : Found L j T) (hs : L[j]? = some ⟨q, v⟩) (hm : m ≤ T.length) (hlo : ∀ i x, i < m → T[i]? = some x → x < q) (hhi : ∀ i x, m ≤ i → T[i]? = some x → q < x) :
    Found L (j + 1) (T.take m ++ (q :: T.drop m)) := by
  refine ⟨asc_ins h.1 hm hlo hhi, fun x => ?_, by have := h.2.2; simp; omega⟩
  rw [mem_ins, mem_take_succ hs, h.2.1 x]
theorem lo_of {T : List Int} {m : Nat} {q x : Int} (h : Asc T) (hx : T[m]? = some x) (hq : x < q) : ∀ i y, i < m + 1 → T[i]? = some y → y < q := by
  intro i y hi hy
  rcases (show i < m ∨ i = m by omega) with h1 | rfl
  · have := asc_at h h1 hy hx; omega
  · rw [hx] at hy; have := Option.some.inj hy; omega
set_option maxHeartbeats 4000000 in
set_option maxRecDepth 100000 in
theorem spec_touched (w : World) (b : Option Addr) (k kc : Nat) (L : List Wt) (hk : (k : Int) ≤ 1048576) (hL : WriteRow w b k L) :
    Calls Try.prog 30 #[.slice b k kc] w (NewInts w (tch L)) := by
  obtain ⟨i0, hi, hz0, hz1, hz2⟩ := info_parts infoInt
  have HL := Lib.hid hL
  clear hL
  go_enter Try.func30, Try.ntmps30
  go_wp2
  go_loopw [3, 4, 5, 6] (fun v i _ _ wr => ∃ (j n g cap : Nat) (T : List Int), j ≤ k ∧ n ≤ j ∧ i = .int .i64 j ∧ v = .slice (some ⟨g, 0, none⟩) n cap ∧ n ≤ cap ∧ wr.ownsRow w.heap.size 3 1 (.slice (some ⟨g, 0, none⟩) n cap) n (ivs T) ∧ Hid (Found L j T) ∧ Below w.heap.size w wr) (fun _ i _ _ _ => k - (intOf i).toNat)
  case atStart => exact ⟨0, 0, w.heap.size, 0, [], Nat.zero_le _, Nat.le_refl _, rfl, rfl, Nat.le_refl _, World.ownsRow_made w #[] 0 (Nat.le_refl _) (by decide) rfl, ⟨List.Pairwise.nil, fun x => by simp, Nat.le_refl _⟩, below_new _ _⟩
  case round =>
    obtain ⟨j, n, g, cap, T, hj, hnj, rfl, rfl, hnc, hown, HFD, hbel⟩ := hrel
    obtain ⟨wo, rfl⟩ : ∃ wo, wo = wr := ⟨_, rfl⟩
    by_cases hlt : j < k
    · have hI : (j : Int) < k := by omega
      obtain ⟨b0, off0, s, rfl, hlb, hs, hr0⟩ := HL.out.2 j (by omega)
      obtain ⟨q, v⟩ := s
      have hr := range_below hr0 hlb hbel
      have HS := Lib.hid hs
      have c0 : wo.cell? ⟨b0, off0 + j * 2, none⟩ = some (.int .i64 q) := (range2 hr).1
      have HO := Lib.hid (And.intro hown hbel)
      have HLB := Lib.hid (Nat.lt_of_lt_of_le hlb hbel.size)
      have HC0 := Lib.hid c0
      clear hr hr0 hs hown hbel hlb c0
      go_wp2
      go_loopw [5] (fun kk wr => ∃ m : Nat, m ≤ n ∧ kk = .int .i64 m ∧ Hid (∀ i x, m ≤ i → T[i]? = some x → q < x) ∧ Below wo.heap.size wo wr) (fun kk _ => (intOf kk).toNat)
      case atStart => exact ⟨n, Nat.le_refl _, rfl, fun i x hi hx => by have h1 := (List.getElem?_eq_some_iff.1 hx).1; have h2 := own_len HO.out.1; omega, Below.refl _ _⟩
      case round =>
        obtain ⟨m, hm, rfl, HHI, hbi⟩ := hrel
        have c0 : wr.cell? ⟨b0, off0 + j * 2, none⟩ = some (.int .i64 q) := (hbi.cell (p := ⟨b0, off0 + j * 2, none⟩) HLB.out).trans HC0.out
        have HB := Lib.hid hbi
        clear hbi
        rcases Nat.eq_zero_or_pos m with hm0 | hm0
        · subst hm0
          have HROW := Lib.hid ((Row.of_own HO.out.1).below HB.out)
          obtain ⟨qn, hqn⟩ : ∃ qn : Nat, 0 = qn := ⟨_, rfl⟩
          obtain ⟨o, ho⟩ : ∃ o : Nat, (if cap = qn then 0 else qn) = o := ⟨_, rfl⟩
          obtain ⟨r, hr⟩ : ∃ r : Nat, n - qn = r := ⟨_, rfl⟩
          obtain ⟨c, hc⟩ : ∃ c : Nat, cap - qn = c := ⟨_, rfl⟩
          have hqle : qn ≤ n := by omega
          have hTl := own_len HO.out.1
          have HR1 := Lib.hid (show Row wr (some ⟨g, 0, none⟩) qn (T.take qn) by simpa using row_part (o := 0) (m := qn) HROW.out (by omega))
          have HR2 := Lib.hid (row_drop HROW.out hqle hnc ho hr)
          have HFN := Lib.hid (found_new HFD.out HS.out (m := qn) (by omega) (by intro i x hi; omega) (by rw [← hqn]; exact HHI.out))
          have hcut1 := icut_h g n cap qn (0) (by omega) (by omega)
          have hcut2 := icut_l g n cap qn o r c (0) (by omega) hqle ho hr hc
          have HLN := Lib.hid (show qn + 1 + r = n + 1 by omega)
          have hn20 : (n : Int) ≤ 1048576 := by omega
          have hqr : (qn : Int) + 1 + r ≤ 1048577 := by omega
          have hr20 : (r : Int) ≤ 1048577 := by omega
          have hq20 : (qn : Int) ≤ 1048577 := by omega
          have HA1 := Lib.hid (show (ivs (T.take qn)).length = qn * 1 by rw [ivs_length, HR1.out.1]; omega)
          have HA2 := Lib.hid (show (ivs (T.drop qn)).length = r * 1 by rw [ivs_length, HR2.out.1]; omega)
          have HC1 := Lib.hid (ivs_one (T.take qn))
          have HC2 := Lib.hid (ivs_one (T.drop qn))
          clear hqn ho hr hc
          go_wp2
          go_quiet (fail)
          go_wp2
          go_quiet (fail)
          go_wp2_with (at_builtin; refine wpList_append_own _ rfl _ _ 24 rfl wr.heap.size 3 i0 (.int .i64 0) 1 8 Try.underlying24 hi hz0 hz1 hz2 rfl (by decide) _ _ _ rfl (made_at _ wr.heap.size wr.heap.size rfl (Nat.le_refl _) _) ⟨g, 0, none⟩ qn cap (ivs (T.take qn)) rfl HA1.out (news_row HR1.out ((below_drewN (Below.refl _ wr) _).alloc (Nat.le_refl _) _)) HC1.out (by unfold maxLen; omega) (by omega) (by simp) ?_; intro v1 w1 hown1 hgrow1 _; refine Hid.out ?_)
          have hb1 : Below wr.heap.size wr w1 := ((below_drewN (Below.refl _ wr) _).alloc (Nat.le_refl _) _).grown hgrow1 (by simp) (fun k hk => by cases hk; exact Nat.le_refl _)
          rw [Nat.zero_add, List.nil_append] at hown1
          obtain ⟨ad1, c1', rfl⟩ := own_slice hown1
          have hws1 := hb1.size
          have c01 : w1.cell? ⟨b0, off0 + j * 2, none⟩ = some (.int .i64 q) := (hb1.cell (p := ⟨b0, off0 + j * 2, none⟩) (Nat.lt_of_lt_of_le HLB.out HB.out.size)).trans c0
          have HB1 := Lib.hid (And.intro hown1 hb1)
          clear hown1 hgrow1 hb1
          refine Lib.hid ?_
          go_wp2_with (at_builtin; refine wpList_append_own _ rfl _ _ 24 rfl wr.heap.size 3 i0 (.int .i64 0) 1 8 Try.underlying24 hi hz0 hz1 hz2 rfl (by decide) _ _ _ rfl (HB1.out.1.alloc _) ⟨w1.heap.size, 0, none⟩ 1 1 [.int .i64 q] rfl rfl (World.news_of_block (cs := #[.int .i64 q]) (t := 3) (fr := (0, 0)) (heap_alloc_new w1 _)) (by simp [Value.oneCell']) (by unfold maxLen; omega) (by omega) (by simp; omega) ?_; intro v2 w2 hown2 hgrow2 _; refine Hid.out ?_)
          have hb2 := (below_then HB1.out.2 (below_new w1 (.cells #[.int .i64 q] 3))).grown hgrow2 (by have := HB1.out.2.size; simp; omega) (fun k hk => (HB1.out.1.lt k hk).1)
          rw [ivs_snoc] at hown2
          obtain ⟨ad2, c2', rfl⟩ := own_slice hown2
          have hws2 := hb2.size
          have HB2 := Lib.hid (And.intro hown2 hb2)
          clear hown2 hgrow2 hb2 c01
          refine Lib.hid ?_
          go_wp2_with (at_builtin; refine wpList_append_own _ rfl _ _ 24 rfl wr.heap.size 3 i0 (.int .i64 0) 1 8 Try.underlying24 hi hz0 hz1 hz2 rfl (by decide) _ _ _ rfl HB2.out.1 ⟨g, o, none⟩ r c (ivs (T.drop qn)) rfl HA2.out (news_row HR2.out HB2.out.2) HC2.out (by unfold maxLen; omega) (by omega) (by omega) ?_; intro v3 w3 hown3 hgrow3 _; refine Hid.out ?_)
          have hb3 := HB2.out.2.grown hgrow3 HB2.out.2.size (fun k hk => (HB2.out.1.lt k hk).1)
          have e3 : ivs (T.take qn ++ [q]) ++ ivs (T.drop qn) = ivs (T.take qn ++ (q :: T.drop qn)) := by simp [ivs]
          rw [e3, HLN.out] at hown3
          obtain ⟨g3, c3, rfl, hg3, hg4⟩ := hown3.form (by omega)
          have hnc3 : n + 1 ≤ c3 := by
            rcases hown3.2 with ⟨e, _⟩ | ⟨_, _, _, e, _, _, h4, _⟩
            · cases e
            · cases e; exact h4
          have HF := Lib.hid (And.intro (hown3.mono (show w.heap.size ≤ wr.heap.size from Nat.le_trans HO.out.2.size HB.out.size)) (below_then HO.out.2 (below_then HB.out hb3)))
          clear hown3 hgrow3 hb3 e3
          refine Lib.hid ?_
          go_wp2
          go_roundw
          case rel => exact ⟨j + 1, n + 1, g3, c3, _, by omega, by omega, by go_num, rfl, hnc3, HF.out.1, HFN.out, HF.out.2⟩
          case measure => simp [intOf]; omega
        · obtain ⟨m, rfl⟩ : ∃ m', m = m' + 1 := ⟨m - 1, by omega⟩
          have hTl := own_len HO.out.1
          obtain ⟨x, hx⟩ : ∃ x, T[m]? = some x := ⟨T[m]'(by omega), by simp [show m < T.length by omega]⟩
          have c1 : wr.cell? ⟨g, m, none⟩ = some (.int .i64 x) := by
            obtain ⟨g', off', x', e, hlt', hx', hc'⟩ := ((Row.of_own HO.out.1).below HB.out).2 m (by omega)
            cases e
            rw [hx] at hx'; cases hx'
            rw [Nat.zero_add] at hc'; exact hc'
          have HX := Lib.hid hx
          clear hx
          have hmn : m < n := by omega
          have hm1 : (0 : Int) < (m : Int) + 1 := by omega
          by_cases hq : q < x
          · have HHI2 : Hid (∀ i y, m ≤ i → T[i]? = some y → q < y) := fun i y hi hy => by
              rcases (show m + 1 ≤ i ∨ i = m by omega) with h | rfl
              · exact HHI.out i y h hy
              · rw [HX.out] at hy; cases hy; exact hq
            go_wp2
            go_quiet (fail)
            go_wp2
            go_roundw
            case rel => exact ⟨m, by omega, by go_num, HHI2, by first | exact HB.out | exact below_drewN HB.out _⟩
            case measure => simp [intOf]
          · have hgt : ¬ q < x := hq
            by_cases he : x = q
            · subst he
              have HFN := Lib.hid (found_same HFD.out HS.out HX.out)
              go_wp2
              go_quiet (fail)
              go_wp2
              go_quiet (fail)
              go_wp2
              go_roundw
              case rel => exact ⟨j + 1, n, g, cap, T, by omega, by omega, by go_num, rfl, hnc, HO.out.1.kept (grown_below (by first | exact HB.out | exact below_drewN HB.out _) none) (none_ok' _ _ _), HFN.out, below_then HO.out.2 (by first | exact HB.out | exact below_drewN HB.out _)⟩
              case measure => simp [intOf]; omega
            · have hlt2 : x < q := by omega
              have hne : (x == q) = false := by simpa using he
              have HLO := Lib.hid (lo_of HFD.out.1 HX.out hlt2)
              have HROW := Lib.hid ((Row.of_own HO.out.1).below HB.out)
              obtain ⟨qn, hqn⟩ : ∃ qn : Nat, m + 1 = qn := ⟨_, rfl⟩
              obtain ⟨o, ho⟩ : ∃ o : Nat, (if cap = qn then 0 else qn) = o := ⟨_, rfl⟩
              obtain ⟨r, hr⟩ : ∃ r : Nat, n - qn = r := ⟨_, rfl⟩
              obtain ⟨c, hc⟩ : ∃ c : Nat, cap - qn = c := ⟨_, rfl⟩
              have hqle : qn ≤ n := by omega
              have hTl := own_len HO.out.1
              have HR1 := Lib.hid (show Row wr (some ⟨g, 0, none⟩) qn (T.take qn) by simpa using row_part (o := 0) (m := qn) HROW.out (by omega))
              have HR2 := Lib.hid (row_drop HROW.out hqle hnc ho hr)
              have HFN := Lib.hid (found_new HFD.out HS.out (m := qn) (by omega) (by rw [← hqn]; exact HLO.out) (by rw [← hqn]; exact HHI.out))
              have hcut1 := icut_h g n cap qn ((m : Int) + 1) (by omega) (by omega)
              have hcut2 := icut_l g n cap qn o r c ((m : Int) + 1) (by omega) hqle ho hr hc
              have HLN := Lib.hid (show qn + 1 + r = n + 1 by omega)
              have hn20 : (n : Int) ≤ 1048576 := by omega
              have hqr : (qn : Int) + 1 + r ≤ 1048577 := by omega
              have hr20 : (r : Int) ≤ 1048577 := by omega
              have hq20 : (qn : Int) ≤ 1048577 := by omega
              have HA1 := Lib.hid (show (ivs (T.take qn)).length = qn * 1 by rw [ivs_length, HR1.out.1]; omega)
              have HA2 := Lib.hid (show (ivs (T.drop qn)).length = r * 1 by rw [ivs_length, HR2.out.1]; omega)
              have HC1 := Lib.hid (ivs_one (T.take qn))
              have HC2 := Lib.hid (ivs_one (T.drop qn))
              clear hqn ho hr hc
              go_wp2
              go_quiet (fail)
              go_wp2
              go_quiet (fail)
              go_wp2_with (at_builtin; refine wpList_append_own _ rfl _ _ 24 rfl wr.heap.size 3 i0 (.int .i64 0) 1 8 Try.underlying24 hi hz0 hz1 hz2 rfl (by decide) _ _ _ rfl (made_at _ wr.heap.size wr.heap.size rfl (Nat.le_refl _) _) ⟨g, 0, none⟩ qn cap (ivs (T.take qn)) rfl HA1.out (news_row HR1.out ((below_drewN (Below.refl _ wr) _).alloc (Nat.le_refl _) _)) HC1.out (by unfold maxLen; omega) (by omega) (by simp) ?_; intro v1 w1 hown1 hgrow1 _; refine Hid.out ?_)
              have hb1 : Below wr.heap.size wr w1 := ((below_drewN (Below.refl _ wr) _).alloc (Nat.le_refl _) _).grown hgrow1 (by simp) (fun k hk => by cases hk; exact Nat.le_refl _)
              rw [Nat.zero_add, List.nil_append] at hown1
              obtain ⟨ad1, c1', rfl⟩ := own_slice hown1
              have hws1 := hb1.size
              have c01 : w1.cell? ⟨b0, off0 + j * 2, none⟩ = some (.int .i64 q) := (hb1.cell (p := ⟨b0, off0 + j * 2, none⟩) (Nat.lt_of_lt_of_le HLB.out HB.out.size)).trans c0
              have HB1 := Lib.hid (And.intro hown1 hb1)
              clear hown1 hgrow1 hb1
              refine Lib.hid ?_
              go_wp2_with (at_builtin; refine wpList_append_own _ rfl _ _ 24 rfl wr.heap.size 3 i0 (.int .i64 0) 1 8 Try.underlying24 hi hz0 hz1 hz2 rfl (by decide) _ _ _ rfl (HB1.out.1.alloc _) ⟨w1.heap.size, 0, none⟩ 1 1 [.int .i64 q] rfl rfl (World.news_of_block (cs := #[.int .i64 q]) (t := 3) (fr := (0, 0)) (heap_alloc_new w1 _)) (by simp [Value.oneCell']) (by unfold maxLen; omega) (by omega) (by simp; omega) ?_; intro v2 w2 hown2 hgrow2 _; refine Hid.out ?_)
              have hb2 := (below_then HB1.out.2 (below_new w1 (.cells #[.int .i64 q] 3))).grown hgrow2 (by have := HB1.out.2.size; simp; omega) (fun k hk => (HB1.out.1.lt k hk).1)
              rw [ivs_snoc] at hown2
              obtain ⟨ad2, c2', rfl⟩ := own_slice hown2
              have hws2 := hb2.size
              have HB2 := Lib.hid (And.intro hown2 hb2)
              clear hown2 hgrow2 hb2 c01
              refine Lib.hid ?_
              go_wp2_with (at_builtin; refine wpList_append_own _ rfl _ _ 24 rfl wr.heap.size 3 i0 (.int .i64 0) 1 8 Try.underlying24 hi hz0 hz1 hz2 rfl (by decide) _ _ _ rfl HB2.out.1 ⟨g, o, none⟩ r c (ivs (T.drop qn)) rfl HA2.out (news_row HR2.out HB2.out.2) HC2.out (by unfold maxLen; omega) (by omega) (by omega) ?_; intro v3 w3 hown3 hgrow3 _; refine Hid.out ?_)
              have hb3 := HB2.out.2.grown hgrow3 HB2.out.2.size (fun k hk => (HB2.out.1.lt k hk).1)
              have e3 : ivs (T.take qn ++ [q]) ++ ivs (T.drop qn) = ivs (T.take qn ++ (q :: T.drop qn)) := by simp [ivs]
              rw [e3, HLN.out] at hown3
              obtain ⟨g3, c3, rfl, hg3, hg4⟩ := hown3.form (by omega)
              have hnc3 : n + 1 ≤ c3 := by
                rcases hown3.2 with ⟨e, _⟩ | ⟨_, _, _, e, _, _, h4, _⟩
                · cases e
                · cases e; exact h4
              have HF := Lib.hid (And.intro (hown3.mono (show w.heap.size ≤ wr.heap.size from Nat.le_trans HO.out.2.size HB.out.size)) (below_then HO.out.2 (below_then HB.out hb3)))
              clear hown3 hgrow3 hb3 e3
              refine Lib.hid ?_
              go_wp2
              go_roundw
              case rel => exact ⟨j + 1, n + 1, g3, c3, _, by omega, by omega, by go_num, rfl, hnc3, HF.out.1, HFN.out, HF.out.2⟩
              case measure => simp [intOf]; omega
    · obtain rfl : j = k := by omega
      have hI : ¬ (j : Int) < j := by omega
      have HF := Lib.hid (show NewInts w (tch L) (.returned (.slice (some ⟨g, 0, none⟩) n cap)) wo from by
        have h1 := HFD.out
        have h2 := h1.2.1
        rw [List.take_of_length_le (by rw [HL.out.1]; exact Nat.le_refl _)] at h2
        rw [← tch_of h1.1 h2]
        exact ⟨_, _, _, rfl, hown, hbel⟩)
      clear hown hbel
      go_wp2
      go_ret
      exact HF.out
end Go.Proofs.Ytmanplejhcjnaaa.wrt
