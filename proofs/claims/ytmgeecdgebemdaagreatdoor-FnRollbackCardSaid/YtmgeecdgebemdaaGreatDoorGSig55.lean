/- Several texts in one: RecM. -/
import Derived.Test.YtmgeecdgebemdaaGreatDoorGSig35
import Derived.Test.YtmgeecdgebemdaaGreatDoorGSig54
import Derived.Deep.RegionLaw
import Derived.Deep.AppendLies

/- Chapter 15 of the model: RecoveryWrites, Recovered, IsClean; nothing that was there is written. -/
namespace Go.Proofs.YtmgeecdgebemdaaGreatDoor.rcv
open Go Go.ChangeShapes Go.WideShapes Go.ChangeAt Go.RowKit Go.Proofs.YtmgeecdgebemdaaGreatDoor.row Go.Proofs.YtmgeecdgebemdaaGreatDoor.val Go.Proofs.YtmgeecdgebemdaaGreatDoor.expr Go.Proofs.YtmgeecdgebemdaaGreatDoor.stm Go.Proofs.YtmgeecdgebemdaaGreatDoor.ctl Go.Proofs.YtmgeecdgebemdaaGreatDoor.grow Go.Proofs.YtmgeecdgebemdaaGreatDoor.wrt
theorem rword {w : World} {b off n j : Nat} {L : List Int} (h : Row w (some ⟨b, off, none⟩) n L) (hj : j < n) : w.cell? ⟨b, off + j, none⟩ = some (.int .i64 (L.getD j 0)) := by
  obtain ⟨b', off', x, e, _, hx, hc⟩ := h.2 j hj
  cases e
  rw [hc, List.getD_eq_getElem?_getD, hx]; rfl
theorem own_slc {w : World} {B m : Nat} {v : Value} {xs : List Value} (h : w.ownsRow B 100 2 v m xs) : ∃ g c, v = .slice g m c := by
  rcases h.2 with ⟨e, e0⟩ | ⟨g, c, cur, e, _⟩
  · exact ⟨none, 0, by rw [e, e0]⟩
  · exact ⟨_, _, e⟩
theorem wsC_snoc (L : List Wt) (s : Wt) : writesC L ++ [.int .i64 s.p, .int .i64 s.v] = writesC (L ++ [s]) := by simp [writesC, gcs, writeC]
set_option maxHeartbeats 4000000 in
set_option maxRecDepth 100000 in
theorem spec_recw (w : World) (a : Option Addr) (n cap : Nat) (L : List Int) (hn : (n : Int) ≤ 1048576) (h : Row w a n L) (Q : List Wt) (hQ : RecIs L Q) :
    Calls Tryz.prog 72 #[.slice a n cap] w (NewWs w Q) := by
  obtain ⟨i0, hi, hz0, hz1, hz2⟩ := info_parts infoWrite
  have hl := h.1
  by_cases h49 : n = 49
  case neg =>
    have HQ := Lib.hid (hQ.none (fun hr => h49 (by rw [← hl]; exact hr.1)))
    have hq : ¬ (n : Int) = 49 := by omega
    clear h hl h49 hQ
    go_enter Tryz.func72, Tryz.ntmps72
    go_wp2
    go_ret
    exact ⟨_, _, _, rfl, by rw [HQ.out]; exact World.ownsRow_made w #[] 0 (Nat.le_refl _) (by decide) rfl, below_new _ _⟩
  subst h49
  obtain ⟨b, off, x, rfl, hlb, hx, hc8⟩ := h.2 8 (by decide)
  have hX : L.getD 8 0 = x := by rw [List.getD_eq_getElem?_getD, hx]; rfl
  have HW : Hid (∀ wr, Below w.heap.size w wr → ∀ j, j < 49 → wr.cell? ⟨b, off + j, none⟩ = some (.int .i64 (L.getD j 0))) := fun wr hb j hj => rword (h.below hb) hj
  have q8 : (w.alloc (.cells #[] 100)).cell? ⟨b, off + 8, none⟩ = some (.int .i64 x) := by rw [← hX]; exact HW.out _ (below_new _ _) 8 (by decide)
  cases ho : wOk x
  · have HU := Lib.hid (un_no ho)
    have HQ := Lib.hid (hQ.none (fun hr => by have := hr.2.1; rw [hX, ho] at this; cases this))
    clear hx hX ho h hl hQ hc8
    go_enter Tryz.func72, Tryz.ntmps72
    go_wp2_with (go_at_call 30; refine (spec_unpack_is x _ _ _ HU.out _).mono ?_; rintro e w3 ⟨rfl, rfl⟩)
    go_loopw [3, 7, 8] (fun v i _ wr => i = .int .i64 (-2) ∧ v = .slice (some ⟨w.heap.size, 0, none⟩) 0 0 ∧ Hid (wr.ownsRow w.heap.size 100 2 (.slice (some ⟨w.heap.size, 0, none⟩) 0 0) 0 [] ∧ Below w.heap.size w wr)) (fun _ _ _ _ => 0)
    case atStart => exact ⟨rfl, rfl, World.ownsRow_made w #[] 0 (Nat.le_refl _) (by decide) rfl, below_new _ _⟩
    case round =>
      obtain ⟨rfl, rfl, HO⟩ := hrel
      go_wp2
      go_ret
      exact ⟨_, _, _, rfl, by rw [HQ.out]; exact HO.out.1, HO.out.2⟩
  · obtain ⟨t, c, nn, ht, hc, hnn, e1, e2, e3⟩ := un_yes ho
    have HU := Lib.hid (show unT x = t ∧ unC x = c ∧ unN x = nn from ⟨e1, e2, e3⟩)
    have hC : wC (L.getD 8 0) = c := by rw [hX, ← e2]; simp [unC, ho]
    have hT : wT (L.getD 8 0) = t := by rw [hX, ← e1]; simp [unT, ho]
    have hN : wN (L.getD 8 0) = nn := by rw [hX, ← e3]; simp [unN, ho]
    have HBAD := Lib.hid (show ∀ i, i < c → varOk (L.getD (9 + 2 * i) 0) = false → Q = [] from fun i hi hv => hQ.none (fun hr => by have h9 := hr.2.2.2 i (by rw [hC]; omega); rw [hv] at h9; cases h9))
    have HZERO := Lib.hid (show c = 0 → Q = [] from fun h0 => hQ.none (fun hr => by have h9 := hr.2.2.1; rw [hC] at h9; omega))
    obtain ⟨PK, hPK⟩ : ∃ PK, packV (t : Int) 0 nn = PK := ⟨_, rfl⟩
    have HALL := Lib.hid (show 0 < c → (∀ i, i < c → varOk (L.getD (9 + 2 * i) 0) = true) → Q = recTop L c c ++ [⟨8, PK⟩] from fun h0 ha => by
      rw [hQ.some ⟨hl, by rw [hX]; exact ho, by rw [hC]; omega, fun i hi => ha i (by rw [hC] at hi; omega)⟩, hC, hT, hN, hPK, recTop_all]
      simp)
    have HPK := Lib.hid hPK
    clear hx hX ho h hl hQ hc8 e1 e2 e3 hC hT hN hPK
    go_enter Tryz.func72, Tryz.ntmps72
    go_wp2_with (go_at_call 30; refine (spec_unpack_is x _ _ _ HU.out _).mono ?_; rintro e w3 ⟨rfl, rfl⟩)
    go_loopw [3, 7, 8] (fun v i _ wr => ∃ (r m : Nat) (q : Int), r ≤ c ∧ q = r - 1 ∧ i = .int .i64 q ∧ m + r = c ∧ Hid (wr.ownsRow w.heap.size 100 2 v m (writesC (recTop L c (c - r))) ∧ Below w.heap.size w wr) ∧ Hid (∀ i, r ≤ i → i < c → varOk (L.getD (9 + 2 * i) 0) = true)) (fun _ i _ _ => (intOf i + 1).toNat)
    case atStart => exact ⟨c, 0, c - 1, Nat.le_refl _, rfl, by go_num, by omega, ⟨by rw [Nat.sub_self]; exact World.ownsRow_made w #[] 0 (Nat.le_refl _) (by decide) rfl, below_new _ _⟩, fun i h1 h2 => by omega⟩
    case round =>
      obtain ⟨r, m, q, hr, hq, rfl, hm, HO, HV⟩ := hrel
      have hWr := HO.out.2.size
      rcases Nat.eq_zero_or_pos r with hr0 | hr0
      · subst hr0
        obtain rfl : q = -1 := by omega
        clear hq
        obtain rfl : m = c := by omega
        have HM := Lib.hid (show m ≤ 8 from hc)
        by_cases hc0 : m = 0
        · have hc1 : (m : Int) ≤ 0 := by omega
          obtain ⟨g, cp, rfl⟩ := own_slc HO.out.1
          have H9 := Lib.hid (show ∃ q, q = writesC Q ∧ wr.ownsRow w.heap.size 100 2 (.slice g m cp) m q from ⟨_, rfl, by rw [HZERO.out hc0]; have h9 := HO.out.1; rw [show recTop L m (m - 0) = [] by subst hc0; rfl] at h9; exact h9⟩)
          clear hc0
          go_wp2
          go_ret
          obtain ⟨q, rfl, h9⟩ := H9.out
          exact ⟨_, _, _, rfl, h9, HO.out.2⟩
        · have hc1 : ¬ (m : Int) ≤ 0 := by omega
          have HQ := Lib.hid (HALL.out (by omega) (fun i hi => HV.out i (Nat.zero_le _) hi))
          clear hc0
          go_wp2_with (first
            | (go_at_call 53; refine (spec_pack _ _ _ _).mono ?_; rw [HPK.out]; rintro e w8 ⟨rfl, rfl⟩)
            | (at_builtin; refine wpList_append_own _ rfl _ _ 63 rfl w.heap.size 100 i0 _ 2 16 Tryz.underlying63 hi hz0 hz1 hz2 rfl (by decide) _ _ _ rfl (HO.out.1.alloc _) ⟨wr.heap.size, 0, none⟩ 1 1 [.int .i64 8, .int .i64 PK] rfl rfl (World.news_of_block (cs := #[.int .i64 8, .int .i64 PK]) (t := 100) (fr := (0, 0)) (heap_alloc_new wr _)) (by simp [Value.oneCell']) (by unfold maxLen; have := HM.out; omega) (by have := HM.out; omega) (by simp; omega) ?_; intro v9 w9 hown9 hgrow9 _; refine Hid.out ?_))
          have h7 : w9.ownsRow w.heap.size 100 2 v9 (m + 1) (writesC Q) := by
            rw [HQ.out, ← wsC_snoc]; exact hown9
          obtain ⟨g7, c7, rfl⟩ := own_slc h7
          have H7 := Lib.hid (show ∃ q, q = writesC Q ∧ w9.ownsRow w.heap.size 100 2 (.slice g7 (m + 1) c7) (m + 1) q from ⟨_, rfl, h7⟩)
          have HB := Lib.hid (show Below w.heap.size w w9 from (HO.out.2.alloc hWr _).grown hgrow9 (by simp; omega) (fun j hj => (HO.out.1.lt j hj).1))
          clear h7 hown9 hgrow9
          refine Lib.hid ?_
          go_wp2
          go_ret
          obtain ⟨q, rfl, h9⟩ := H7.out
          exact ⟨_, _, _, rfl, h9, HB.out⟩
      · obtain ⟨p, rfl⟩ : ∃ p, r = p + 1 := ⟨r - 1, by omega⟩
        obtain rfl : q = (p : Int) := by omega
        clear hq
        obtain ⟨x9, hx9⟩ : ∃ x9, L.getD (9 + 2 * p) 0 = x9 := ⟨_, rfl⟩
        obtain ⟨y9, hy9⟩ : ∃ y9, L.getD (10 + 2 * p) 0 = y9 := ⟨_, rfl⟩
        obtain ⟨s, hs⟩ : ∃ s : Nat, s = 9 + 2 * p := ⟨_, rfl⟩
        have hpk : (9 : Int) + 2 * (p : Int) = (s : Int) := by omega
        have hsb : (s : Int) ≤ 23 := by omega
        have d0 : wr.cell? ⟨b, off + s, none⟩ = some (.int .i64 x9) := by
          have h9 := HW.out _ HO.out.2 (9 + 2 * p) (by omega)
          rw [hx9, ← hs] at h9
          exact h9
        have hpI : (p : Int) ≤ 7 := by omega
        have d1 : wr.cell? ⟨b, off + (s + 1), none⟩ = some (.int .i64 y9) := by
          have h9 := HW.out _ HO.out.2 (10 + 2 * p) (by omega)
          rw [hy9, show 10 + 2 * p = s + 1 by omega] at h9
          exact h9
        have hp0 : (0 : Int) ≤ p := by omega
        have HN := Lib.hid (And.intro hx9 (And.intro hy9 hs))
        have HM := Lib.hid (show m ≤ 8 ∧ m + (p + 1) = c from ⟨by omega, hm⟩)
        have HRR := Lib.hid hr
        clear hx9 hy9 hs hm hr q8 hr0
        cases hv : varOk x9
        · have HIN := Lib.hid (show (decide (0 ≤ x9) && decide (x9 ≤ 7)) = false from hv)
          have HQ := Lib.hid (HBAD.out p (by have := HRR.out; omega) (by rw [HN.out.1]; exact hv))
          clear hv
          go_wp2_with (go_at_call 63; (with_reducible refine (in_any _ 0 _ _ HIN.out _).mono ?_); rintro e w4 ⟨rfl, rfl⟩)
          go_ret
          exact ⟨_, _, _, rfl, by rw [HQ.out]; exact World.ownsRow_made wr #[] 0 hWr (by decide) rfl, below_then HO.out.2 (below_new _ _)⟩
        · have HIN := Lib.hid (show (decide (0 ≤ x9) && decide (x9 ≤ 7)) = true from hv)
          have HV2 := Lib.hid (show ∀ i, p ≤ i → i < c → varOk (L.getD (9 + 2 * i) 0) = true from fun i h1 h2 => by
            rcases (show p + 1 ≤ i ∨ i = p by omega) with h3 | rfl
            · exact HV.out i h3 h2
            · rw [HN.out.1]; exact hv)
          have HE := Lib.hid (show recTop L c (c - p) = recTop L c (c - (p + 1)) ++ [⟨x9, y9⟩] from by rw [recTop_next L (by have := HRR.out; omega), HN.out.1, HN.out.2.1])
          clear hv
          go_wp2_with (first
            | (go_at_call 63; (with_reducible refine (in_any _ 0 _ _ HIN.out _).mono ?_); rintro e w4 ⟨rfl, rfl⟩)
            | (at_builtin; refine wpList_append_own _ rfl _ _ 63 rfl w.heap.size 100 i0 _ 2 16 Tryz.underlying63 hi hz0 hz1 hz2 rfl (by decide) _ _ _ rfl (HO.out.1.alloc _) ⟨wr.heap.size, 0, none⟩ 1 1 [.int .i64 x9, .int .i64 y9] rfl rfl (World.news_of_block (cs := #[.int .i64 x9, .int .i64 y9]) (t := 100) (fr := (0, 0)) (heap_alloc_new wr _)) (by simp [Value.oneCell']) (by unfold maxLen; have := HM.out; omega) (by have := HM.out; omega) (by simp; omega) ?_; intro v9 w9 hown9 hgrow9 _; refine Hid.out ?_))
          have h7 : w9.ownsRow w.heap.size 100 2 v9 (m + 1) (writesC (recTop L c (c - p))) := by
            rw [HE.out, ← wsC_snoc]; exact hown9
          have H7 := Lib.hid (And.intro h7 (show Below w.heap.size w w9 from (HO.out.2.alloc hWr _).grown hgrow9 (by simp; omega) (fun j hj => (HO.out.1.lt j hj).1)))
          clear h7 hown9 hgrow9
          refine Lib.hid ?_
          go_wp2
          go_roundw
          case rel => exact ⟨p, m + 1, p - 1, by have := HRR.out; omega, rfl, by go_num, by have := HM.out; omega, H7.out, HV2.out⟩
          case measure => simp [intOf] <;> omega
/-- A row of writes that somebody owns reads as the list. -/
theorem wrow_own {w : World} {B : Nat} {a : Option Addr} {n c : Nat} {L : List Wt} (h : w.ownsRow B 100 2 (.slice a n c) n (writesC L)) (hl : L.length = n) : WriteRow w a n L := by
  refine ⟨hl, fun k hk => ?_⟩
  obtain ⟨g, c', e, _, hlt⟩ := h.form (by omega)
  cases e
  refine ⟨g, 0, L[k]'(by omega), rfl, hlt, by simp [show k < L.length by omega], fun j v hv => ?_⟩
  have hj : j < 2 := by have := (List.getElem?_eq_some_iff.1 hv).1; rw [writeC_len] at this; exact this
  have h1 := h.cells (g := g) rfl (k * 2 + j) v (by rw [gcs_at writeC_len (s := L[k]'(by omega)) (by simp [show k < L.length by omega]) j hj]; exact hv)
  rw [Addr.add_mid] at h1
  rw [show 0 + k * 2 + j = 0 + (k * 2 + j) by omega]
  exact h1
theorem RecIs.len {W : List Int} {Q : List Wt} (h : RecIs W Q) : Q.length ≤ 9 := by
  rcases h with ⟨h1, rfl⟩ | ⟨_, rfl⟩
  · have := (ctlOk_iff _ _ _).1 h1.2.1
    have hl : (recEnt W (wC (W.getD 8 0)).toNat).length = (wC (W.getD 8 0)).toNat := by unfold recEnt; rw [List.length_map, List.length_reverse, List.length_range]
    rw [List.length_append, hl]
    show _ + 1 ≤ 9
    omega
  · exact Nat.zero_le _
theorem app_all (L : List Int) (Q : List Wt) {n : Nat} (h : Q.length = n) : appW L Q (n : Int) = putAll L Q := by
  unfold appW; rw [show ((n : Int)).toNat = n by omega, List.take_of_length_le (by omega)]
set_option maxRecDepth 100000 in
set_option maxHeartbeats 1000000 in
theorem spec_recovered (w : World) (b off n cap : Nat) (L : List Int) (hn : (n : Int) ≤ 1048576) (h : Row w (some ⟨b, off, none⟩) n L) (Q : List Wt) (hQ : RecIs L Q) :
    Calls Tryz.prog 75 #[.slice (some ⟨b, off, none⟩) n cap] w (NewInts w (putAll L Q)) := by
  have H := Lib.hid h
  have HQ := Lib.hid hQ
  clear h hQ
  go_enter Tryz.func75, Tryz.ntmps75
  go_wp2_with (go_at_call 72; (with_reducible refine (spec_recw _ _ n cap L hn H.out Q HQ.out).mono ?_); rintro e w2 ⟨q, nq, cq, rfl, hq, hb2⟩; refine Hid.out ?_)
  have hql : Q.length = nq := by have h9 := hq.1; rw [writesC_len] at h9; omega
  have hq9 := HQ.out.len
  have HC := Lib.hid (spec_apply w2 b off n cap L q nq cq Q (nq : Int) hn (by omega) (H.out.below hb2) (wrow_own hq hql))
  have HE := Lib.hid (app_all L Q hql)
  have HB := Lib.hid hb2
  clear hq hb2 hql hq9
  refine Lib.hid ?_
  go_wp2_with (go_at_call 124; (with_reducible refine HC.out.mono ?_); rintro e w3 ⟨a3, n3, c3, rfl, h3, hb3⟩; refine Hid.out ?_)
  have HF := Lib.hid (And.intro (h3.mono HB.out.size) (below_then HB.out hb3))
  clear h3 hb3
  refine Lib.hid ?_
  go_wp2
  go_ret
  exact ⟨_, _, _, rfl, by rw [← HE.out]; exact HF.out.1, HF.out.2⟩
end Go.Proofs.YtmgeecdgebemdaaGreatDoor.rcv
