/- Several texts in one: VRecI VBotX. -/
import Derived.Test.YtmgeecdgebemdaaGreatDoorGSigV36
import Derived.Test.YtmgeecdgebemdaaGreatDoorGSigV34
import Derived.Test.YtmgeecdgebemdaaGreatDoorGSigV11
import Derived.Test.YtmgeecdgebemdaaGreatDoorGSigV10
import Derived.WalkMore
import Derived.ScopeJumps
import Derived.Test.YtmgeecdgebemdaaGreatDoorGSigV35

/- Chapter 15 of the program: RecoveryWrites, Recovered; nothing that was there is written. -/
namespace Go.Proofs.YtmgeecdgebemdaaGreatDoor.rcv
open Go Go.ChangeShapes Go.WideShapes Go.ChangeAt Go.RowKit Go.Proofs.YtmgeecdgebemdaaGreatDoor.row Go.Proofs.YtmgeecdgebemdaaGreatDoor.val Go.Proofs.YtmgeecdgebemdaaGreatDoor.expr Go.Proofs.YtmgeecdgebemdaaGreatDoor.stm Go.Proofs.YtmgeecdgebemdaaGreatDoor.ctl Go.Proofs.YtmgeecdgebemdaaGreatDoor.grow Go.Proofs.YtmgeecdgebemdaaGreatDoor.wrt Go.Proofs.YtmgeecdgebemdaaGreatDoor.mem
def intOf : Value → Int | .int _ q => q | _ => 0
theorem own_ne_none (v : Value) : v.ownBlock = none ∨ v.ownBlock ≠ none := by
  cases v.ownBlock with
  | none => exact .inl rfl
  | some q => exact .inr (by simp)
/-- What holds at the label: the entries above 'p' are in the list. -/
def AtLabel (w : World) (L : List Int) (b off cap t c nn : Nat) (a' : Act) (wr : World) : Prop :=
  ∃ (gm p m : Nat) (v : Value) (u : Nat → Value), a' = { tmps := #[.slice (some ⟨b, off, none⟩) 49 cap, u 1, u 2, .pointer (some ⟨gm, 0, none⟩), .bool true, .int .i64 t, .int .i64 c, .int .i64 nn, v, .int .i64 p, u 10, u 11, u 12, u 13, u 14, u 15, u 16, u 17, u 18, u 19, u 20, u 21, u 22, u 23, u 24, u 25, u 26, u 27, u 28, u 29, u 30, u 31, u 32, u 33, u 34, u 35, u 36, u 37, u 38, u 39, u 40, u 41, u 42, u 43, u 44, u 45, u 46, u 47, u 48, u 49, u 50, u 51, u 52, u 53, u 54, u 55, u 56], defers := [] } ∧ p + m + 1 = c ∧ w.heap.size ≤ gm ∧ Hid (Box gm (ivs L).toArray TM wr ∧ wr.ownsRow (gm + 1) 100 2 v m (writesC (recTop L c m)) ∧ Below w.heap.size w wr) ∧ Hid (∀ i, p < i → i < c → varOk (L.getD (9 + 2 * i) 0) = true)
theorem atLabel_intro {w : World} {L : List Int} {b off cap t c nn : Nat} {a' : Act} {wr : World} (gm p m : Nat) (v : Value) (h : a' = { tmps := #[.slice (some ⟨b, off, none⟩) 49 cap, a'.tmps.getD 1 undef, a'.tmps.getD 2 undef, .pointer (some ⟨gm, 0, none⟩), .bool true, .int .i64 t, .int .i64 c, .int .i64 nn, v, .int .i64 p, a'.tmps.getD 10 undef, a'.tmps.getD 11 undef, a'.tmps.getD 12 undef, a'.tmps.getD 13 undef, a'.tmps.getD 14 undef, a'.tmps.getD 15 undef, a'.tmps.getD 16 undef, a'.tmps.getD 17 undef, a'.tmps.getD 18 undef, a'.tmps.getD 19 undef, a'.tmps.getD 20 undef, a'.tmps.getD 21 undef, a'.tmps.getD 22 undef, a'.tmps.getD 23 undef, a'.tmps.getD 24 undef, a'.tmps.getD 25 undef, a'.tmps.getD 26 undef, a'.tmps.getD 27 undef, a'.tmps.getD 28 undef, a'.tmps.getD 29 undef, a'.tmps.getD 30 undef, a'.tmps.getD 31 undef, a'.tmps.getD 32 undef, a'.tmps.getD 33 undef, a'.tmps.getD 34 undef, a'.tmps.getD 35 undef, a'.tmps.getD 36 undef, a'.tmps.getD 37 undef, a'.tmps.getD 38 undef, a'.tmps.getD 39 undef, a'.tmps.getD 40 undef, a'.tmps.getD 41 undef, a'.tmps.getD 42 undef, a'.tmps.getD 43 undef, a'.tmps.getD 44 undef, a'.tmps.getD 45 undef, a'.tmps.getD 46 undef, a'.tmps.getD 47 undef, a'.tmps.getD 48 undef, a'.tmps.getD 49 undef, a'.tmps.getD 50 undef, a'.tmps.getD 51 undef, a'.tmps.getD 52 undef, a'.tmps.getD 53 undef, a'.tmps.getD 54 undef, a'.tmps.getD 55 undef, a'.tmps.getD 56 undef], defers := [] }) (hf : p + m + 1 = c ∧ w.heap.size ≤ gm ∧ Hid (Box gm (ivs L).toArray TM wr ∧ wr.ownsRow (gm + 1) 100 2 v m (writesC (recTop L c m)) ∧ Below w.heap.size w wr) ∧ Hid (∀ i, p < i → i < c → varOk (L.getD (9 + 2 * i) 0) = true)) : AtLabel w L b off cap t c nn a' wr :=
  ⟨gm, p, m, v, fun k => a'.tmps.getD k undef, h, hf⟩
set_option maxRecDepth 100000 in
set_option maxHeartbeats 8000000 in
theorem impl_recw : RwC := by
  intro w a n cap L hn hcap h hw Q hQ
  obtain ⟨i0, hi, hz0, hz1, hz2⟩ := info_parts infoWrite
  have hl := h.1
  by_cases h49 : n = 49
  case neg =>
    have HQ := Lib.hid (hQ.none (fun hr => h49 (by rw [← hl]; exact hr.1)))
    have HI := Lib.hid (mem_info (L := nul 49) (by simp))
    have HL : Hid (∀ cs : Array Value, cs.size = 49 → (ivs (nul 49)).toArray.size = cs.size) := fun cs hc => by rw [hc]; simp [ivs]
    clear hl h hQ hw
    go_enter Tryz.func57, Tryz.ntmps57
    go_wp2
    go_step3
    go_wp2_with (first
      | (go_at_call 93; refine (impl_memoryof_no _ a n cap h49).mono ?_; rintro e w1 ⟨rfl, hb1⟩)
      | (refine wpList_store_box rfl TM _ _ rfl w1.heap.size _ _ (Box.new w1 _ _) (ivs (nul 49)).toArray rfl rfl (HL.out _ rfl) HI.out (mem_all _) ?_; intro w2 hx2 hg2))
    have hb2 := (below_then hb1 (below_new w1 _)).grown hg2 (show w.heap.size ≤ _ by have := hb1.size; simp; omega) (fun k hk => by cases hk; exact hb1.size)
    (try rw [Exit.noGoto_ret])
    go_ret
    exact ⟨_, _, _, rfl, by rw [HQ.out]; exact World.ownsRow_nil _ _ _ _, hb2⟩
  subst h49
  obtain ⟨b, off, rfl⟩ := Go.Proofs.YtmgeecdgebemdaaGreatDoor.mem.row_some h (by decide)
  have HI := Lib.hid (mem_info h.1)
  have HL : Hid (∀ cs : Array Value, cs.size = 49 → (ivs L).toArray.size = cs.size) := fun cs hc => by rw [List.size_toArray, ivs_length, h.1, hc]
  have HLL := Lib.hid hl
  obtain ⟨x, hx⟩ : ∃ x, L[8]? = some x := ⟨L[8]'(by have := h.1; omega), by simp [h.1]⟩
  have hX : L.getD 8 0 = x := by rw [List.getD_eq_getElem?_getD, hx]; rfl
  have hxw : -9223372036854775808 ≤ x ∧ x ≤ 9223372036854775807 := by rw [hX] at hw; exact hw
  have HC := Lib.hid (show ∀ (w' : World) (g : Nat), Box g (ivs L).toArray TM w' → w'.cell? ⟨g, 8, none⟩ = some (.int .i64 x) from fun w' g hb => by rw [hb.cell]; simp [ivs, hx])
  have HH := Lib.hid h
  cases ho : wOk x
  · have HU := Lib.hid (un_no ho)
    have HQ := Lib.hid (hQ.none (fun hr => by have := hr.2.1; rw [hX, ho] at this; cases this))
    clear hx hX ho h hl hQ hw
    go_enter Tryz.func57, Tryz.ntmps57
    go_wp2
    go_step3
    go_wp2_with (first
      | (go_at_call 93; refine (impl_memoryof_yes _ b off cap L HH.out).mono ?_; rintro e w1 ⟨rfl, hb1⟩)
      | (refine wpList_store_box rfl TM _ _ rfl w1.heap.size _ _ (Box.new w1 _ _) (ivs L).toArray rfl rfl (HL.out _ rfl) HI.out (mem_all L) ?_; intro w2 hx2 hg2; have hc2 := HC.out _ _ hx2)
      | (go_at_call 36; refine (impl_unpack_is x _ _ _ hxw HU.out _).mono ?_; rintro e w3 ⟨rfl, rfl⟩))
    have hb2 := (below_then hb1 (below_new w1 _)).grown hg2 (show w.heap.size ≤ _ by have := hb1.size; simp; omega) (fun k hk => by cases hk; exact hb1.size)
    (try rw [Exit.noGoto_ret])
    go_ret
    exact ⟨_, _, _, rfl, by rw [HQ.out]; exact World.ownsRow_nil _ _ _ _, hb2⟩
  obtain ⟨t, c, nn, ht, hc, hnn, e1, e2, e3⟩ := un_yes ho
  have HU := Lib.hid (show unT x = t ∧ unC x = c ∧ unN x = nn from ⟨e1, e2, e3⟩)
  have hC : wC (L.getD 8 0) = c := by rw [hX, ← e2]; simp [unC, ho]
  have hT : wT (L.getD 8 0) = t := by rw [hX, ← e1]; simp [unT, ho]
  have hN : wN (L.getD 8 0) = nn := by rw [hX, ← e3]; simp [unN, ho]
  have HBAD := Lib.hid (show ∀ i, i < c → varOk (L.getD (9 + 2 * i) 0) = false → Q = [] from fun i hi hv => hQ.none (fun hr => by have h9 := hr.2.2.2 i (by rw [hC]; omega); rw [hv] at h9; cases h9))
  rcases Nat.eq_zero_or_pos c with hc0 | hc0
  · subst hc0
    have HQ := Lib.hid (hQ.none (fun hr => by have h9 := hr.2.2.1; rw [hC] at h9; omega))
    have hz9 : ((0 : Nat) : Int) ≤ 0 := by decide
    clear hx hX ho h hl hQ hw e1 e2 e3 hC hT hN
    go_enter Tryz.func57, Tryz.ntmps57
    go_wp2
    go_step3
    go_wp2_with (first
      | (go_at_call 93; refine (impl_memoryof_yes _ b off cap L HH.out).mono ?_; rintro e w1 ⟨rfl, hb1⟩)
      | (refine wpList_store_box rfl TM _ _ rfl w1.heap.size _ _ (Box.new w1 _ _) (ivs L).toArray rfl rfl (HL.out _ rfl) HI.out (mem_all L) ?_; intro w2 hx2 hg2; have hc2 := HC.out _ _ hx2)
      | (go_at_call 36; refine (impl_unpack_is x _ _ _ hxw HU.out _).mono ?_; rintro e w3 ⟨rfl, rfl⟩))
    have hb2 := (below_then hb1 (below_new w1 _)).grown hg2 (show w.heap.size ≤ _ by have := hb1.size; simp; omega) (fun k hk => by cases hk; exact hb1.size)
    (try rw [Exit.noGoto_ret])
    go_ret
    exact ⟨_, _, _, rfl, by rw [HQ.out]; exact World.ownsRow_nil _ _ _ _, hb2⟩
  have hcI : ¬ (c : Int) ≤ 0 := by omega
  obtain ⟨PK, hPK⟩ : ∃ PK, packV (t : Int) 0 nn = PK := ⟨_, rfl⟩
  have HALL := Lib.hid (show 0 < c → (∀ i, i < c → varOk (L.getD (9 + 2 * i) 0) = true) → Q = recTop L c c ++ [⟨8, PK⟩] from fun h0 ha => by
    rw [hQ.some ⟨hl, by rw [hX]; exact ho, by rw [hC]; omega, fun i hi => ha i (by rw [hC] at hi; omega)⟩, hC, hT, hN, hPK, recTop_all]
    simp)
  have HPK := Lib.hid hPK
  clear hx hX ho h hl hQ hw e1 e2 e3 hC hT hN hPK
  obtain ⟨WA, hWA⟩ : ∃ W, W = w := ⟨_, rfl⟩
  have HMY := Lib.hid (show ∃ gm, Calls Tryz.prog 93 #[.slice (some ⟨b, off, none⟩) 49 cap] w fun e w1 => e = .returned (.tuple #[memV L, .bool true]) ∧ Below w.heap.size w w1 from ⟨0, impl_memoryof_yes _ b off cap L HH.out⟩)
  clear HMY hWA WA
  go_enter Tryz.func57, Tryz.ntmps57
  go_wp2
  refine wp_scope_jumps 0 (AtLabel w L b off cap t c nn) (fun a' _ => (intOf (a'.tmps.getD 9 undef)).toNat) rfl ?_ ?_
  · go_wp2_with (first
      | (go_at_call 93; refine (impl_memoryof_yes _ b off cap L HH.out).mono ?_; rintro e w1 ⟨rfl, hb1⟩)
      | (refine wpList_store_box rfl TM _ _ rfl w1.heap.size _ _ (Box.new w1 _ _) (ivs L).toArray rfl rfl (HL.out _ rfl) HI.out (mem_all L) ?_; intro w2 hx2 hg2; have hc2 := HC.out _ _ hx2)
      | (go_at_call 36; refine (impl_unpack_is x _ _ _ hxw HU.out _).mono ?_; rintro e w3 ⟨rfl, rfl⟩))
    obtain ⟨gm, hgm⟩ : ∃ g, w1.heap.size = g := ⟨_, rfl⟩
    have hgmw : w.heap.size ≤ gm := by rw [← hgm]; exact hb1.size
    obtain ⟨p, hp⟩ : ∃ p, c = p + 1 := ⟨c - 1, by omega⟩
    have hc1 : (c : Int) - 1 = (p : Int) := by omega
    obtain ⟨m, hm0⟩ : ∃ m, m = 0 := ⟨_, rfl⟩
    have hm : p + m + 1 = c := by omega
    obtain ⟨wr, hwr⟩ : ∃ z, w2.alloc (.cells #[] 100) = z := ⟨_, rfl⟩
    obtain ⟨v, hv⟩ : ∃ z, Value.slice (some ⟨w2.heap.size, 0, none⟩) 0 0 = z := ⟨_, rfl⟩
    have HO := Lib.hid (show Box gm (ivs L).toArray TM wr ∧ wr.ownsRow (gm + 1) 100 2 v m (writesC (recTop L c m)) ∧ Below w.heap.size w wr from ⟨by
      rw [← hwr, ← hgm]; exact hx2.alloc _, by
      rw [← hwr, ← hv, hm0, ← hgm]; exact World.ownsRow_made w2 #[] 0 hx2.lt (by decide) rfl, by
      rw [← hwr]; exact below_then ((below_then hb1 (below_new w1 _)).grown hg2 (show w.heap.size ≤ _ by have := hb1.size; simp; omega) (fun k hk => by cases hk; exact hb1.size)) (below_new w2 _)⟩)
    have HV := Lib.hid (show ∀ i, p < i → i < c → varOk (L.getD (9 + 2 * i) 0) = true from fun i h1 h2 => by omega)
    rw [hwr, hv, hc1, hgm]
    clear hwr hv hc1 hgm hx2 hg2 hc2 hb1 hp hm0
    go_step3
    have HM := Lib.hid (show m ≤ 7 ∧ p ≤ 7 ∧ p + m + 1 = c from ⟨by omega, by omega, hm⟩)
    have hgw : gm < wr.heap.size := HO.out.1.lt
    obtain ⟨x9, hx9⟩ : ∃ x9, L.getD (9 + 2 * p) 0 = x9 := ⟨_, rfl⟩
    obtain ⟨y9, hy9⟩ : ∃ y9, L.getD (10 + 2 * p) 0 = y9 := ⟨_, rfl⟩
    have HEN := Lib.hid (impl_logentry wr L HLL.out p (by have := HM.out; omega) x9 y9 hx9 hy9)
    have HN := Lib.hid (And.intro hx9 hy9)
    clear hx9 hy9 hm
    go_wp2_with (first
      | (refine wpList_load_row rfl TM _ rfl gm rfl _ _ _ _ HO.out.1 Tryz.underlying121 rfl HI.out ?_)
      | (go_at_call 116; (with_reducible refine HEN.out.mono ?_); rintro e w2 ⟨rfl, hb2⟩; refine Hid.out ?_))
    have hs2 := hb2.size
    have H2 := Lib.hid (And.intro (HO.out.1.below hb2) (And.intro (HO.out.2.1.kept (grown_below hb2 none) (own_ne_none _)) (below_then HO.out.2.2 hb2)))
    clear hb2 HEN HO
    cases hv : varOk x9
    case false =>
      have HQ := Lib.hid (HBAD.out p (by have := HM.out; omega) (by rw [HN.out.1]; exact hv))
      have HV1 := Lib.hid hv
      clear hv
      refine Lib.hid ?_
      go_wp2_with (go_at_call 117; refine (varnum _ _ HV1.out _).mono ?_; rintro e w3 ⟨rfl, rfl⟩)
      (try simp only [Exit.jump])
      go_ret
      exact ⟨_, _, _, rfl, by rw [HQ.out]; exact World.ownsRow_nil _ _ _ _, H2.out.2.2⟩
    have HV1 := Lib.hid hv
    have HV2 := Lib.hid (show ∀ i, p ≤ i → i < c → varOk (L.getD (9 + 2 * i) 0) = true from fun i h1 h2 => by
      rcases (show p < i ∨ i = p by omega) with h3 | rfl
      · exact HV.out i h3 h2
      · rw [HN.out.1]; exact hv)
    have HE := Lib.hid (show recTop L c (m + 1) = recTop L c m ++ [⟨x9, y9⟩] from by
      have h9 := recTop_next L (c := c) (p := p) (by have := HM.out; omega)
      rw [show c - p = m + 1 by have := HM.out; omega, show c - (p + 1) = m by have := HM.out; omega, HN.out.1, HN.out.2] at h9
      exact h9)
    clear hv
    refine Lib.hid ?_
    go_wp2_with (first
      | (go_at_call 117; refine (varnum _ _ HV1.out _).mono ?_; rintro e w3 ⟨rfl, rfl⟩)
      | (at_builtin; refine wpList_append_own _ rfl _ _ 63 rfl (gm + 1) 100 i0 _ 2 16 Tryz.underlying63 hi hz0 hz1 hz2 rfl (by decide) _ _ _ rfl ((H2.out.2.1).alloc _) ⟨w2.heap.size, 0, none⟩ 1 1 [.int .i64 x9, .int .i64 y9] rfl rfl (World.news_of_block (cs := #[.int .i64 x9, .int .i64 y9]) (t := 100) (fr := (0, 0)) (heap_alloc_new w2 _)) (by simp [Value.oneCell']) (by unfold maxLen; have := HM.out; omega) (by have := HM.out; omega) (by simp; omega) ?_; intro v9 w9 hown9 hgrow9 _; refine Hid.out ?_))
    have h7 : w9.ownsRow (gm + 1) 100 2 v9 (m + 1) (writesC (recTop L c (m + 1))) := by
      rw [HE.out, ← wsC_snoc]; exact hown9
    obtain ⟨g7, c7, rfl⟩ := own_slc h7
    have H7 := Lib.hid (And.intro (H2.out.1.alloc _ |>.grown hgrow9 (by intro e; have := (H2.out.2.1.lt gm e.symm).1; omega)) (And.intro h7 ((H2.out.2.2.alloc (by have := H2.out.2.2.size; omega) _).grown hgrow9 (by simp; have := H2.out.2.2.size; omega) (fun j hj => Nat.le_trans hgmw (Nat.le_trans (Nat.le_succ _) (H2.out.2.1.lt j hj).1)))))
    have hs9 : gm < w9.heap.size := H7.out.1.lt
    clear h7 hown9 hgrow9
    rcases Nat.eq_zero_or_pos p with hp0 | hp0
    · subst hp0
      have hp00 : ¬ (0 : Int) < 0 := by decide
      have HQ := Lib.hid (show Q = recTop L c (m + 1) ++ [⟨8, PK⟩] from by
        rw [show m + 1 = c by have := HM.out; omega]
        exact HALL.out (by have := HM.out; omega) (fun i hi => HV2.out i (Nat.zero_le _) hi))
      refine Lib.hid ?_
      go_wp2_with (first
        | (go_at_call 118; refine (impl_pack _ _ _ _).mono ?_; rw [HPK.out]; rintro e w8 ⟨rfl, rfl⟩)
        | (at_builtin; refine wpList_append_own _ rfl _ _ 63 rfl (gm + 1) 100 i0 _ 2 16 Tryz.underlying63 hi hz0 hz1 hz2 rfl (by decide) _ _ _ rfl ((H7.out.2.1).alloc _) ⟨w9.heap.size, 0, none⟩ 1 1 [.int .i64 8, .int .i64 PK] rfl rfl (World.news_of_block (cs := #[.int .i64 8, .int .i64 PK]) (t := 100) (fr := (0, 0)) (heap_alloc_new w9 _)) (by simp [Value.oneCell']) (by unfold maxLen; have := HM.out; omega) (by have := HM.out; omega) (by simp; omega) ?_; intro v10 w10 hown10 hgrow10 _; refine Hid.out ?_))
      have h8 : w10.ownsRow (gm + 1) 100 2 v10 (m + 1 + 1) (writesC Q) := by
        rw [HQ.out, ← wsC_snoc]; exact hown10
      obtain ⟨g8, c8, rfl⟩ := own_slc h8
      have H8 := Lib.hid (show ∃ q, q = writesC Q ∧ w10.ownsRow w.heap.size 100 2 (.slice g8 (m + 1 + 1) c8) (m + 1 + 1) q from ⟨_, rfl, h8.mono (by omega)⟩)
      have HB8 := Lib.hid (show Below w.heap.size w w10 from (H7.out.2.2.alloc H7.out.2.2.size _).grown hgrow10 (by simp; have := H7.out.2.2.size; omega) (fun j hj => Nat.le_trans hgmw (Nat.le_trans (Nat.le_succ _) (H7.out.2.1.lt j hj).1)))
      clear h8 hown10 hgrow10
      refine Lib.hid ?_
      go_wp2
      (try simp only [Exit.jump])
      go_ret
      obtain ⟨q, rfl, h9⟩ := H8.out
      exact ⟨_, _, _, rfl, h9, HB8.out⟩
    · obtain ⟨p', hp'⟩ : ∃ p', p = p' + 1 := ⟨p - 1, by omega⟩
      have hpI : (0 : Int) < (p : Int) := by omega
      have q1 : p' + (m + 1) + 1 = c := by have := HM.out; omega
      have q2 : ∀ i, p' < i → i < c → varOk (L.getD (9 + 2 * i) 0) = true := fun i h1 h2 => HV2.out i (by omega) h2
      have q3 : (p' : Int).toNat < (p : Int).toNat := by omega
      have hw1 : wrap64 ((p : Int) - 1) = (p' : Int) := by unfold wrap64; have := HM.out; omega
      have HQS := Lib.hid (And.intro q1 (And.intro q2 q3))
      clear hp' q1 q2 q3 hp0
      refine Lib.hid ?_
      go_wp2
      go_step3
      rw [hw1]
      exact ⟨rfl, atLabel_intro gm p' (m + 1) (.slice g7 (m + 1) c7) rfl ⟨HQS.out.1, hgmw, H7.out, HQS.out.2.1⟩⟩

  · rintro a' wr ⟨gm, p, m, v, u, rfl, hm, hgmw, HO, HV⟩
    have HM := Lib.hid (show m ≤ 7 ∧ p ≤ 7 ∧ p + m + 1 = c from ⟨by omega, by omega, hm⟩)
    have hgw : gm < wr.heap.size := HO.out.1.lt
    obtain ⟨x9, hx9⟩ : ∃ x9, L.getD (9 + 2 * p) 0 = x9 := ⟨_, rfl⟩
    obtain ⟨y9, hy9⟩ : ∃ y9, L.getD (10 + 2 * p) 0 = y9 := ⟨_, rfl⟩
    have HEN := Lib.hid (impl_logentry wr L HLL.out p (by have := HM.out; omega) x9 y9 hx9 hy9)
    have HN := Lib.hid (And.intro hx9 hy9)
    clear hx9 hy9 hm
    go_wp2_with (first
      | (refine wpList_load_row rfl TM _ rfl gm rfl _ _ _ _ HO.out.1 Tryz.underlying121 rfl HI.out ?_)
      | (go_at_call 116; (with_reducible refine HEN.out.mono ?_); rintro e w2 ⟨rfl, hb2⟩; refine Hid.out ?_))
    have hs2 := hb2.size
    have H2 := Lib.hid (And.intro (HO.out.1.below hb2) (And.intro (HO.out.2.1.kept (grown_below hb2 none) (own_ne_none _)) (below_then HO.out.2.2 hb2)))
    clear hb2 HEN HO
    cases hv : varOk x9
    case false =>
      have HQ := Lib.hid (HBAD.out p (by have := HM.out; omega) (by rw [HN.out.1]; exact hv))
      have HV1 := Lib.hid hv
      clear hv
      refine Lib.hid ?_
      go_wp2_with (go_at_call 117; refine (varnum _ _ HV1.out _).mono ?_; rintro e w3 ⟨rfl, rfl⟩)
      (try simp only [Exit.jump])
      go_ret
      exact ⟨_, _, _, rfl, by rw [HQ.out]; exact World.ownsRow_nil _ _ _ _, H2.out.2.2⟩
    have HV1 := Lib.hid hv
    have HV2 := Lib.hid (show ∀ i, p ≤ i → i < c → varOk (L.getD (9 + 2 * i) 0) = true from fun i h1 h2 => by
      rcases (show p < i ∨ i = p by omega) with h3 | rfl
      · exact HV.out i h3 h2
      · rw [HN.out.1]; exact hv)
    have HE := Lib.hid (show recTop L c (m + 1) = recTop L c m ++ [⟨x9, y9⟩] from by
      have h9 := recTop_next L (c := c) (p := p) (by have := HM.out; omega)
      rw [show c - p = m + 1 by have := HM.out; omega, show c - (p + 1) = m by have := HM.out; omega, HN.out.1, HN.out.2] at h9
      exact h9)
    clear hv
    refine Lib.hid ?_
    go_wp2_with (first
      | (go_at_call 117; refine (varnum _ _ HV1.out _).mono ?_; rintro e w3 ⟨rfl, rfl⟩)
      | (at_builtin; refine wpList_append_own _ rfl _ _ 63 rfl (gm + 1) 100 i0 _ 2 16 Tryz.underlying63 hi hz0 hz1 hz2 rfl (by decide) _ _ _ rfl ((H2.out.2.1).alloc _) ⟨w2.heap.size, 0, none⟩ 1 1 [.int .i64 x9, .int .i64 y9] rfl rfl (World.news_of_block (cs := #[.int .i64 x9, .int .i64 y9]) (t := 100) (fr := (0, 0)) (heap_alloc_new w2 _)) (by simp [Value.oneCell']) (by unfold maxLen; have := HM.out; omega) (by have := HM.out; omega) (by simp; omega) ?_; intro v9 w9 hown9 hgrow9 _; refine Hid.out ?_))
    have h7 : w9.ownsRow (gm + 1) 100 2 v9 (m + 1) (writesC (recTop L c (m + 1))) := by
      rw [HE.out, ← wsC_snoc]; exact hown9
    obtain ⟨g7, c7, rfl⟩ := own_slc h7
    have H7 := Lib.hid (And.intro (H2.out.1.alloc _ |>.grown hgrow9 (by intro e; have := (H2.out.2.1.lt gm e.symm).1; omega)) (And.intro h7 ((H2.out.2.2.alloc (by have := H2.out.2.2.size; omega) _).grown hgrow9 (by simp; have := H2.out.2.2.size; omega) (fun j hj => Nat.le_trans hgmw (Nat.le_trans (Nat.le_succ _) (H2.out.2.1.lt j hj).1)))))
    have hs9 : gm < w9.heap.size := H7.out.1.lt
    clear h7 hown9 hgrow9
    rcases Nat.eq_zero_or_pos p with hp0 | hp0
    · subst hp0
      have hp00 : ¬ (0 : Int) < 0 := by decide
      have HQ := Lib.hid (show Q = recTop L c (m + 1) ++ [⟨8, PK⟩] from by
        rw [show m + 1 = c by have := HM.out; omega]
        exact HALL.out (by have := HM.out; omega) (fun i hi => HV2.out i (Nat.zero_le _) hi))
      refine Lib.hid ?_
      go_wp2_with (first
        | (go_at_call 118; refine (impl_pack _ _ _ _).mono ?_; rw [HPK.out]; rintro e w8 ⟨rfl, rfl⟩)
        | (at_builtin; refine wpList_append_own _ rfl _ _ 63 rfl (gm + 1) 100 i0 _ 2 16 Tryz.underlying63 hi hz0 hz1 hz2 rfl (by decide) _ _ _ rfl ((H7.out.2.1).alloc _) ⟨w9.heap.size, 0, none⟩ 1 1 [.int .i64 8, .int .i64 PK] rfl rfl (World.news_of_block (cs := #[.int .i64 8, .int .i64 PK]) (t := 100) (fr := (0, 0)) (heap_alloc_new w9 _)) (by simp [Value.oneCell']) (by unfold maxLen; have := HM.out; omega) (by have := HM.out; omega) (by simp; omega) ?_; intro v10 w10 hown10 hgrow10 _; refine Hid.out ?_))
      have h8 : w10.ownsRow (gm + 1) 100 2 v10 (m + 1 + 1) (writesC Q) := by
        rw [HQ.out, ← wsC_snoc]; exact hown10
      obtain ⟨g8, c8, rfl⟩ := own_slc h8
      have H8 := Lib.hid (show ∃ q, q = writesC Q ∧ w10.ownsRow w.heap.size 100 2 (.slice g8 (m + 1 + 1) c8) (m + 1 + 1) q from ⟨_, rfl, h8.mono (by omega)⟩)
      have HB8 := Lib.hid (show Below w.heap.size w w10 from (H7.out.2.2.alloc H7.out.2.2.size _).grown hgrow10 (by simp; have := H7.out.2.2.size; omega) (fun j hj => Nat.le_trans hgmw (Nat.le_trans (Nat.le_succ _) (H7.out.2.1.lt j hj).1)))
      clear h8 hown10 hgrow10
      refine Lib.hid ?_
      go_wp2
      (try simp only [Exit.jump])
      go_ret
      obtain ⟨q, rfl, h9⟩ := H8.out
      exact ⟨_, _, _, rfl, h9, HB8.out⟩
    · obtain ⟨p', hp'⟩ : ∃ p', p = p' + 1 := ⟨p - 1, by omega⟩
      have hpI : (0 : Int) < (p : Int) := by omega
      have q1 : p' + (m + 1) + 1 = c := by have := HM.out; omega
      have q2 : ∀ i, p' < i → i < c → varOk (L.getD (9 + 2 * i) 0) = true := fun i h1 h2 => HV2.out i (by omega) h2
      have q3 : (p' : Int).toNat < (p : Int).toNat := by omega
      have hw1 : wrap64 ((p : Int) - 1) = (p' : Int) := by unfold wrap64; have := HM.out; omega
      have HQS := Lib.hid (And.intro q1 (And.intro q2 q3))
      clear hp' q1 q2 q3 hp0
      refine Lib.hid ?_
      go_wp2
      go_step3
      rw [hw1]
      exact ⟨rfl, atLabel_intro gm p' (m + 1) (.slice g7 (m + 1) c7) rfl ⟨HQS.out.1, hgmw, H7.out, HQS.out.2.1⟩, HQS.out.2.2⟩

theorem own_capW {w : World} {B : Nat} {a : Option Addr} {n c s : Nat} {e : TypeId} {xs : List Value} (h : w.ownsRow B e s (.slice a n c) n xs) : n ≤ c := by
  rcases h.2 with ⟨e, e0⟩ | ⟨g', c', cur, e, _, _, h9, _⟩
  · cases e; omega
  · cases e; exact h9
set_option maxRecDepth 100000 in
set_option maxHeartbeats 2000000 in
theorem impl_recovered : RcC := by
  intro w a n cap L hn hcap h hw Q hQ
  have H := Lib.hid h
  have HQ := Lib.hid hQ
  have HW := Lib.hid hw
  have hln := h.1
  clear h hQ hw
  go_enter Tryz.func45, Tryz.ntmps45
  go_wp2_with (go_at_call 57; (with_reducible refine (impl_recw _ _ n cap L hn hcap H.out HW.out Q HQ.out).mono ?_); rintro e w2 ⟨q, nq, cq, rfl, hq, hb2⟩; refine Hid.out ?_)
  have hql : Q.length = nq := by have h9 := hq.1; rw [writesC_len] at h9; omega
  have hq9 := HQ.out.len
  have hqs : ∀ x, q = some x → x.spot = none := by
    intro x hx; subst hx
    rcases hq.2 with ⟨e9, _⟩ | ⟨g9, c9, cur9, e9, _⟩
    · cases e9
    · cases e9; rfl
  have HC := Lib.hid (impl_apply w2 a n cap L q nq cq Q (nq : Int) hn (by omega) (own_capW hq) hqs (H.out.below hb2) (wrow_own hq hql))
  have HE := Lib.hid (app_all L Q hql)
  have HB := Lib.hid hb2
  clear hq hb2 hql hq9 hqs
  refine Lib.hid ?_
  go_wp2_with (go_at_call 34; (with_reducible refine HC.out.mono ?_); rintro e w3 ⟨gx, rfl, hgx, hxb, hb3⟩; refine Hid.out ?_)
  have HF := Lib.hid (show w3.ownsRow w.heap.size 3 1 (.slice (some ⟨gx, 0, none⟩) n n) n (ivs (putAll L Q)) ∧ Below w.heap.size w w3 from ⟨by
    rw [HE.out] at hxb
    have hl : (putAll L Q).length = n := by rw [putAll_len]; exact hln
    have h9 := box_own hxb (Nat.le_trans HB.out.size hgx) (by rw [hl]; unfold maxLen; omega)
    rw [hl] at h9
    exact h9, below_then HB.out hb3⟩)
  clear hgx hxb hb3
  refine Lib.hid ?_
  go_wp2
  go_ret
  exact ⟨_, _, _, rfl, HF.out.1, HF.out.2⟩
end Go.Proofs.YtmgeecdgebemdaaGreatDoor.rcv

/- Chapter 16 of the program: which arguments are refused; the recovery is performed. -/
namespace Go.Proofs.YtmgeecdgebemdaaGreatDoor.bot
open Go Go.ChangeShapes Go.WideShapes Go.ChangeAt Go.RowKit Go.Proofs.YtmgeecdgebemdaaGreatDoor.row Go.Proofs.YtmgeecdgebemdaaGreatDoor.val Go.Proofs.YtmgeecdgebemdaaGreatDoor.expr Go.Proofs.YtmgeecdgebemdaaGreatDoor.stm Go.Proofs.YtmgeecdgebemdaaGreatDoor.blk Go.Proofs.YtmgeecdgebemdaaGreatDoor.prg Go.Proofs.YtmgeecdgebemdaaGreatDoor.exe Go.Proofs.YtmgeecdgebemdaaGreatDoor.ctl Go.Proofs.YtmgeecdgebemdaaGreatDoor.mem Go.Proofs.YtmgeecdgebemdaaGreatDoor.grow Go.Proofs.YtmgeecdgebemdaaGreatDoor.wrt Go.Proofs.YtmgeecdgebemdaaGreatDoor.trc Go.Proofs.YtmgeecdgebemdaaGreatDoor.rcv
set_option maxHeartbeats 4000000 in
set_option maxRecDepth 100000 in
theorem impl_canboot (a : Option Addr) (n cap : Nat) (P : List Tk) (hz : Sizes P) (hcap : n ≤ cap) (w : World) (h : TkRow w a n P) (am : Option Addr) (nm cm : Nat) (Mem : List Int) (hM : Row w am nm Mem) (ar : Option Addr) (nr cr : Nat) (R : List Int) (hnr : (nr : Int) ≤ 1048576) (hR : Row w ar nr R) (z : Int) (h8 : i64r (Mem.getD 8 0)) (r : Bool) (hr : r = true ↔ BotOk P Mem R z) :
    Calls Tryz.prog 56 #[.agg #[.slice a n cap], .slice am nm cm, .slice ar nr cr, .int .i64 z] w (BelB w r) := by
  obtain ⟨W, hW⟩ : ∃ W, w.alloc (.cells #[.slice a n cap] 26) = W := ⟨_, rfl⟩
  have hBW : Below w.heap.size w W := by rw [← hW]; exact below_new w _
  have hpx : Box w.heap.size #[.slice a n cap] 26 W := by rw [← hW]; exact Box.new w _ _
  have c0 : W.cell? ⟨w.heap.size, 0, none⟩ = some (.slice a n cap) := hpx.cell 0
  obtain ⟨rm, hrm⟩ := mem_dec P Mem
  have HMO := Lib.hid (impl_memok8 a n cap P hz hcap W (h.below hBW) am nm cm Mem (hM.below hBW) h8 rm hrm)
  obtain ⟨rv, hrv⟩ : ∃ rv : Bool, allV R = rv := ⟨_, rfl⟩
  have HVA := Lib.hid (show ∀ w', Below W.heap.size W w' → Calls Tryz.prog 109 #[.slice ar nr cr] w' (RetB w' rv) from fun w' hb => impl_are w' ar nr cr R hnr (hR.below (hBW.trans (hb.mono hBW.size))) rv hrv)
  have H0 := Lib.hid hBW
  have hre : r = (rm && rv && decide (0 ≤ z) && decide (z ≤ 500000)) := by
    rw [Bool.eq_iff_iff, hr]
    unfold BotOk
    rw [← hrm, ← hrv]
    simp [and_assoc]
  subst hre
  clear hr hrm hrv hpx hBW h hM hR h8
  cases rm <;> cases rv <;> by_cases h1 : 0 ≤ z
  all_goals
    simp only [h1, decide_true, decide_false, Bool.true_and, Bool.false_and, Bool.and_false, Bool.and_true]
    go_enter Tryz.func56, Tryz.ntmps56
    go_wp2_with (first
      | (go_at_call 49; (with_reducible refine HMO.out.mono ?_); rintro e w2 ⟨rfl, hb2⟩)
      | (go_at_call 109; (with_reducible refine (HVA.out _ hb2).mono ?_); rintro e w5 ⟨rfl, rfl⟩))
    go_ret
    exact ⟨rfl, H0.out.trans (hb2.mono H0.out.size)⟩
end Go.Proofs.YtmgeecdgebemdaaGreatDoor.bot
