/- Several texts in one: ExeJ ObsA. -/
import Derived.Test.YtekdnhhmiabngaaGreatGHub12
import Derived.Test.YtekdnhhmiabngaaGreatGHub7
import Derived.Test.YtekdnhhmiabngaaGreatGHub10

/- The model's SensesOf: what the plain relation says, in new memory; nothing that was there is written. -/
namespace Go.Proofs.YtekdnhhmiabngaaGreat.exe
open Go Go.ChangeShapes Go.WideShapes Go.ChangeAt Go.RowKit Go.Proofs.YtekdnhhmiabngaaGreat.row Go.Proofs.YtekdnhhmiabngaaGreat.val Go.Proofs.YtekdnhhmiabngaaGreat.expr Go.Proofs.YtekdnhhmiabngaaGreat.stm Go.Proofs.YtekdnhhmiabngaaGreat.blk Go.Proofs.YtekdnhhmiabngaaGreat.prg Go.Proofs.YtekdnhhmiabngaaGreat.sets
theorem keepW {W w' : World} {p q : Addr} {x y : Value} (h1 : p.block < W.heap.size) (h2 : q.block < W.heap.size) (c1 : W.cell? p = some x) (c2 : W.cell? q = some y) (h : Below W.heap.size W w') : w'.cell? p = some x ∧ w'.cell? q = some y :=
  ⟨(h.cell h1).trans c1, (h.cell h2).trans c2⟩
theorem own_slice' {w : World} {B : Nat} {ty : TypeId} {v : Value} {n : Nat} {xs : List Value} (h : w.ownsRow B ty 1 v n xs) : ∃ ad cap, v = .slice ad n cap := by
  rcases h.2 with ⟨e, e0⟩ | ⟨g, c, _, e, _⟩
  · exact ⟨_, _, by rw [e, e0]⟩
  · exact ⟨_, _, e⟩
theorem SensIs.live {P : List Tk} {V R : List Int} {j : Nat} {z : Int} {t : Tk} {T : Fst} {U : List Int} (h : SensIs P V R j z U) (hT : TaskAt P V R j t T) (hz : 0 ≤ z ∧ z ≤ 1000000) : U = (exec (liveSrc R z) T ⟨V, [], []⟩).U := by
  rcases h with ⟨_, h⟩ | ⟨_, t', T', h, rfl⟩
  · rcases h with h | h | h
    · exact (hT.not h).elim
    · omega
    · omega
  · obtain ⟨rfl, rfl⟩ := hT.unique h; rfl
theorem SensIs.dead {P : List Tk} {V R : List Int} {i z : Int} {U : List Int} (h : SensIs P V R i z U) (hn : NotAt P V R i ∨ z < 0 ∨ 1000000 < z) : U = [] := by
  rcases h with ⟨h, _⟩ | ⟨hz, t, T, h, _⟩
  · exact h
  · rcases hn with e | e | e
    · exact (h.not e).elim
    · omega
    · omega
set_option maxHeartbeats 8000000 in
set_option maxRecDepth 100000 in
theorem spec_sensesof (a : Option Addr) (n cap : Nat) (P : List Tk) (hz : Sizes P) (w : World) (h : TkRow w a n P) (ad : Option Addr) (nv cv : Nat) (V : List Int) (hnv : (nv : Int) ≤ 1048576) (hV : Row w ad nv V) (ar : Option Addr) (nr cr : Nat) (R : List Int) (hnr : (nr : Int) ≤ 1048576) (hR : Row w ar nr R)
    (i z : Int) (U : List Int) (hU : SensIs P V R i z U) :
    Calls Tryz.prog 35 #[.agg #[.slice a n cap], .int .i64 i, .slice ad nv cv, .slice ar nr cr, .int .i64 z] w (NewInts w U) := by
  obtain ⟨i0, hi, hz0, hz1, hz2⟩ := info_parts row.infoInt
  obtain ⟨W, hW⟩ : ∃ W, w.alloc (.cells #[.slice a n cap] 26) = W := ⟨_, rfl⟩
  have hBW : Below w.heap.size w W := by rw [← hW]; exact below_new w _
  have hpx : Box w.heap.size #[.slice a n cap] 26 W := by rw [← hW]; exact Box.new w _ _
  have hWl : w.heap.size < W.heap.size := hpx.lt
  have c0 : W.cell? ⟨w.heap.size, 0, none⟩ = some (.slice a n cap) := hpx.cell 0
  have hlen := h.1
  have HZ := Lib.hid hz
  have HU := Lib.hid hU
  have H0 := Lib.hid (And.intro hpx (And.intro hBW (And.intro (h.below hBW) (And.intro (hV.below hBW) (hR.below hBW)))))
  have hn : (n : Int) ≤ 1048576 := by have := hz.1; omega
  clear hpx hBW h hV hR hz hU
  obtain ⟨rp, hrp⟩ := prg_dec P
  have HRP := Lib.hid hrp
  cases rp
  · clear hrp
    obtain rfl := HU.out.dead (.inl (.inl (fun hp => by have := HRP.out.2 hp; cases this)))
    go_enter Tryz.func35, Tryz.ntmps35
    go_wp2_with (go_at_call 68; (with_reducible refine (spec_programok a n cap P HZ.out _ H0.out.2.2.1 false HRP.out).mono ?_); rintro e w2 ⟨rfl, hb2⟩; refine Hid.out ?_)
    have HB2 := Lib.hid hb2
    have d0 : w2.cell? ⟨w.heap.size, 0, none⟩ = some (.slice a n cap) := (hb2.cell (p := ⟨w.heap.size, 0, none⟩) hWl).trans (H0.out.1.cell 0)
    clear hb2 c0
    refine Lib.hid ?_
    go_wp2
    go_ret
    exact ⟨_, _, _, rfl, made_at' w2 w2.heap.size w.heap.size rfl (Nat.le_trans (Nat.le_of_lt hWl) HB2.out.size) _, below_then (H0.out.2.1.trans (HB2.out.mono (Nat.le_of_lt hWl))) (below_new w2 _)⟩
  · have HPR := Lib.hid (hrp.1 rfl)
    clear hrp
    cases hv : varsOk V
    · have HV := Lib.hid hv
      clear hv
      obtain rfl := HU.out.dead (.inl (.inr (.inl HV.out)))
      go_enter Tryz.func35, Tryz.ntmps35
      go_wp2_with (go_at_call 68; (with_reducible refine (spec_programok a n cap P HZ.out _ H0.out.2.2.1 true HRP.out).mono ?_); rintro e w2 ⟨rfl, hb2⟩; refine Hid.out ?_)
      have HB2 := Lib.hid hb2
      have d0 : w2.cell? ⟨w.heap.size, 0, none⟩ = some (.slice a n cap) := (hb2.cell (p := ⟨w.heap.size, 0, none⟩) hWl).trans (H0.out.1.cell 0)
      clear hb2 c0
      refine Lib.hid ?_
      go_wp2_with (first
        | (go_at_call 69; (with_reducible refine (spec_vars _ ad nv cv V hnv (H0.out.2.2.2.1.below HB2.out) false HV.out).mono ?_); rintro e w3 ⟨rfl, rfl⟩))
      go_ret
      exact ⟨_, _, _, rfl, made_at' w2 w2.heap.size w.heap.size rfl (Nat.le_trans (Nat.le_of_lt hWl) HB2.out.size) _, below_then (H0.out.2.1.trans (HB2.out.mono (Nat.le_of_lt hWl))) (below_new w2 _)⟩
    · have HV := Lib.hid hv
      clear hv
      cases hi9 : (decide (0 ≤ i) && decide (i ≤ (n : Int) - 1))
      · have HIN := Lib.hid hi9
        have hin : i < 0 ∨ (n : Int) ≤ i := by simp at hi9; omega
        clear hi9
        obtain rfl := HU.out.dead (.inl (.inr (.inr (.inr (by rw [hlen]; exact hin)))))
        go_enter Tryz.func35, Tryz.ntmps35
        go_wp2_with (go_at_call 68; (with_reducible refine (spec_programok a n cap P HZ.out _ H0.out.2.2.1 true HRP.out).mono ?_); rintro e w2 ⟨rfl, hb2⟩; refine Hid.out ?_)
        have HB2 := Lib.hid hb2
        have d0 : w2.cell? ⟨w.heap.size, 0, none⟩ = some (.slice a n cap) := (hb2.cell (p := ⟨w.heap.size, 0, none⟩) hWl).trans (H0.out.1.cell 0)
        clear hb2 c0
        refine Lib.hid ?_
        go_wp2_with (first
          | (go_at_call 69; (with_reducible refine (spec_vars _ ad nv cv V hnv (H0.out.2.2.2.1.below HB2.out) true HV.out).mono ?_); rintro e w3 ⟨rfl, rfl⟩)
          | (go_at_call 70; (with_reducible refine (in_any _ 0 ((n : Int) - 1) false HIN.out _).mono ?_); rintro e w3 ⟨rfl, rfl⟩))
        go_ret
        exact ⟨_, _, _, rfl, made_at' w2 w2.heap.size w.heap.size rfl (Nat.le_trans (Nat.le_of_lt hWl) HB2.out.size) _, below_then (H0.out.2.1.trans (HB2.out.mono (Nat.le_of_lt hWl))) (below_new w2 _)⟩
      · have HIN := Lib.hid hi9
        have hin : 0 ≤ i ∧ i < n := by simp at hi9; omega
        clear hi9
        cases hz9 : (decide (0 ≤ z) && decide (z ≤ 1000000))
        · have HZI := Lib.hid hz9
          have hzn : z < 0 ∨ 1000000 < z := by simp at hz9; omega
          clear hz9
          obtain rfl := HU.out.dead (.inr hzn)
          go_enter Tryz.func35, Tryz.ntmps35
          go_wp2_with (go_at_call 68; (with_reducible refine (spec_programok a n cap P HZ.out _ H0.out.2.2.1 true HRP.out).mono ?_); rintro e w2 ⟨rfl, hb2⟩; refine Hid.out ?_)
          have HB2 := Lib.hid hb2
          have d0 : w2.cell? ⟨w.heap.size, 0, none⟩ = some (.slice a n cap) := (hb2.cell (p := ⟨w.heap.size, 0, none⟩) hWl).trans (H0.out.1.cell 0)
          clear hb2 c0
          refine Lib.hid ?_
          go_wp2_with (first
            | (go_at_call 69; (with_reducible refine (spec_vars _ ad nv cv V hnv (H0.out.2.2.2.1.below HB2.out) true HV.out).mono ?_); rintro e w3 ⟨rfl, rfl⟩)
            | (go_at_call 70; (with_reducible refine (in_any _ 0 ((n : Int) - 1) true HIN.out _).mono ?_); rintro e w3 ⟨rfl, rfl⟩)
            | (go_at_call 70; (with_reducible refine (in_any _ 0 1000000 false HZI.out _).mono ?_); rintro e w3 ⟨rfl, rfl⟩))
          go_ret
          exact ⟨_, _, _, rfl, made_at' w2 w2.heap.size w.heap.size rfl (Nat.le_trans (Nat.le_of_lt hWl) HB2.out.size) _, below_then (H0.out.2.1.trans (HB2.out.mono (Nat.le_of_lt hWl))) (below_new w2 _)⟩
        · have HZI := Lib.hid hz9
          have hzn : 0 ≤ z ∧ z ≤ 1000000 := by simp at hz9; omega
          clear hz9
          cases hy9 : allV R
          · have HY := Lib.hid hy9
            clear hy9
            obtain rfl := HU.out.dead (.inl (.inr (.inr (.inl HY.out))))
            go_enter Tryz.func35, Tryz.ntmps35
            go_wp2_with (go_at_call 68; (with_reducible refine (spec_programok a n cap P HZ.out _ H0.out.2.2.1 true HRP.out).mono ?_); rintro e w2 ⟨rfl, hb2⟩; refine Hid.out ?_)
            have HB2 := Lib.hid hb2
            have d0 : w2.cell? ⟨w.heap.size, 0, none⟩ = some (.slice a n cap) := (hb2.cell (p := ⟨w.heap.size, 0, none⟩) hWl).trans (H0.out.1.cell 0)
            clear hb2 c0
            refine Lib.hid ?_
            go_wp2_with (first
              | (go_at_call 69; (with_reducible refine (spec_vars _ ad nv cv V hnv (H0.out.2.2.2.1.below HB2.out) true HV.out).mono ?_); rintro e w3 ⟨rfl, rfl⟩)
              | (go_at_call 70; (with_reducible refine (in_any _ 0 ((n : Int) - 1) true HIN.out _).mono ?_); rintro e w3 ⟨rfl, rfl⟩)
              | (go_at_call 70; (with_reducible refine (in_any _ 0 1000000 true HZI.out _).mono ?_); rintro e w3 ⟨rfl, rfl⟩)
              | (go_at_call 71; (with_reducible refine (spec_vals _ ar nr cr R hnr (H0.out.2.2.2.2.below HB2.out) false HY.out).mono ?_); rintro e w3 ⟨rfl, rfl⟩))
            go_ret
            exact ⟨_, _, _, rfl, made_at' w2 w2.heap.size w.heap.size rfl (Nat.le_trans (Nat.le_of_lt hWl) HB2.out.size) _, below_then (H0.out.2.1.trans (HB2.out.mono (Nat.le_of_lt hWl))) (below_new w2 _)⟩
          · have HY := Lib.hid hy9
            clear hy9
            obtain ⟨j, rfl⟩ : ∃ j : Nat, i = j := ⟨i.toNat, by omega⟩
            obtain ⟨t, T, ht, hT⟩ := taskAt_ex HPR.out HV.out HY.out (show j < P.length by omega)
            obtain rfl := HU.out.live hT hzn
            have hbe := hT.blk
            have hpar : Par t.b 0 t.b.length T := by
              obtain ⟨_, _, _, j2, e2, ht2, hp2⟩ := hT
              exact hp2
            have hV8 := ((varsOk_iff V).1 HV.out).1
            obtain rfl : nv = 8 := by have := H0.out.2.2.2.1.1; omega
            obtain ⟨bv, ov, xv, rfl, _, _, _⟩ := H0.out.2.2.2.1.2 0 (by omega)
            have hjn : j < n := by omega
            clear hT
            go_enter Tryz.func35, Tryz.ntmps35
            go_wp2_with (go_at_call 68; (with_reducible refine (spec_programok a n cap P HZ.out _ H0.out.2.2.1 true HRP.out).mono ?_); rintro e w2 ⟨rfl, hb2⟩; refine Hid.out ?_)
            have HB2 := Lib.hid hb2
            have d0 : w2.cell? ⟨w.heap.size, 0, none⟩ = some (.slice a n cap) := (hb2.cell (p := ⟨w.heap.size, 0, none⟩) hWl).trans (H0.out.1.cell 0)
            clear hb2 c0
            refine Lib.hid ?_
            have HN := Lib.hid (news_of' w2 (H0.out.2.2.2.1.below HB2.out))
            have hW2 : w.heap.size < w2.heap.size := Nat.lt_of_lt_of_le hWl HB2.out.size
            refine Lib.hid ?_
            go_wp2_with (first
              | (go_at_call 69; (with_reducible refine (spec_vars _ _ 8 cv V hnv (H0.out.2.2.2.1.below HB2.out) true HV.out).mono ?_); rintro e w3 ⟨rfl, rfl⟩)
              | (go_at_call 70; (with_reducible refine (in_any _ 0 ((n : Int) - 1) true HIN.out _).mono ?_); rintro e w3 ⟨rfl, rfl⟩)
              | (go_at_call 70; (with_reducible refine (in_any _ 0 1000000 true HZI.out _).mono ?_); rintro e w3 ⟨rfl, rfl⟩)
              | (go_at_call 71; (with_reducible refine (spec_vals _ ar nr cr R hnr (H0.out.2.2.2.2.below HB2.out) true HY.out).mono ?_); rintro e w3 ⟨rfl, rfl⟩)
              | (at_builtin; refine wpList_append_own_at _ rfl _ _ 28 rfl w2.heap.size 3 i0 (.int .i64 0) 1 8 Tryz.underlying28 hi hz0 hz1 hz2 rfl (by decide) _ _ _ rfl (made_at' w2 w2.heap.size w2.heap.size rfl (Nat.le_refl _) _) ⟨bv, ov, none⟩ 8 cv (ivs V) rfl (by simp [ivs, hV8]) HN.out (ivs_one' V) (by unfold maxLen; omega) (by omega) (by simp) ?_; intro v1 w1 hown hgrow _ hat; refine Hid.out ?_))
            rw [Nat.zero_add, List.nil_append] at hown
            obtain ⟨g1, c1, rfl, hg1, hg1l⟩ := hown.form (by omega)
            have hb1 : Below w2.heap.size w2 w1 := ((Below.refl _ w2).alloc (Nat.le_refl _) _).grown hgrow (by simp) (fun k hk => by cases hk; exact Nat.le_refl _)
            have H1 := Lib.hid (And.intro hown (And.intro hb1 hg1))
            clear hown hgrow hat hb1 HN
            obtain ⟨W2, hW2e⟩ : ∃ W2, w1.alloc (.cells zero7R 102) = W2 := ⟨_, rfl⟩
            have H2 := Lib.hid (And.intro (show Below w1.heap.size w1 W2 by rw [← hW2e]; exact below_new w1 _) (show Box w1.heap.size zero7R 102 W2 by rw [← hW2e]; exact Box.new _ _ _))
            refine Lib.hid ?_
            go_wp2_with ((refine wpList_store_box rfl 102 _ _ rfl w1.heap.size _ _ H2.out.2 #[.slice (some ⟨g1, 0, none⟩) 8 c1, .slice none 0 0, .slice none 0 0, .slice none 0 0, .slice ar nr cr, .int .i64 z, .bool true] rfl rfl rfl (by kernel_rfl) (by simp [Value.oneCell']) ?_); intro w3 hx3 hg3; refine Hid.out ?_)
            have hb3 : Below w1.heap.size w1 w3 := H2.out.1.grown hg3 H2.out.1.size (fun k hk => by cases hk; omega)
            have hRn : RnAt w2.heap.size w1.heap.size g1 c1 none 0 0 none 0 0 ⟨none, 0, 0, [], ar, nr, cr, R, z, true⟩ ⟨V, [], []⟩ w3 := by
              have hWw := H1.out.2.1.size
              exact ⟨hx3, by omega, H1.out.1.kept (grown_below hb3 none) (.inr (by simp [Value.ownBlock])), World.ownsRow_nil _ _ _ _, World.ownsRow_nil _ _ _ _, by omega, by simp [Value.ownBlock], by simp [Value.ownBlock], by simp [Value.ownBlock], by simp [Value.ownBlock], .inl rfl⟩
            have hBW3 : Below w2.heap.size w2 w3 := H1.out.2.1.trans (hb3.mono H1.out.2.1.size)
            have hcf : CfgAt ⟨none, 0, 0, [], ar, nr, cr, R, z, true⟩ w2 := ⟨Row.none_ w2, H0.out.2.2.2.2.below HB2.out, (by show (0 : Int) ≤ 1048576; decide), hnr, hzn, rfl⟩
            obtain ⟨gt, off, t', ha, hlb, ht', ab, nb, cb, hrg, hbc, hrow⟩ := (H0.out.2.2.1.below HB2.out).2 j hjn
            obtain rfl : t' = t := by rw [ht] at ht'; exact (Option.some.inj ht').symm
            subst ha
            have hnb : t'.b.length = nb := hrow.1
            have hnb2 : (nb : Int) ≤ 1048576 := by have := HZ.out.2 t' (List.mem_of_getElem? ht); omega
            have htot : tot ⟨V, [], []⟩ + cnt T ≤ 50000 := by
              have := runs_small hbe.1 hpar.runs (Nat.le_refl _)
              simp [tot]; omega
            have hsm : (exec (liveSrc R z) T ⟨V, [], []⟩).U.length ≤ 3000 := by have := exec_small (src := liveSrc R z) hbe.1 hpar V; omega
            obtain ⟨y, hy⟩ : ∃ y, exec (liveSrc R z) T ⟨V, [], []⟩ = y := ⟨_, rfl⟩
            rw [hy] at hsm ⊢
            have KEEP := Lib.hid (show ∀ w', Below w2.heap.size w2 w' → w'.cell? ⟨w.heap.size, 0, none⟩ = some (.slice (some ⟨gt, off, none⟩) n cap) ∧ w'.cell? ⟨gt, off + j * 4, none⟩ = some (.slice ab nb cb) from fun w' h => keepW hW2 hlb d0 (range4 hrg).1 h)
            have cS : w3.drew.cell? ⟨w.heap.size, 0, none⟩ = some (.slice (some ⟨gt, off, none⟩) n cap) ∧ w3.drew.cell? ⟨gt, off + j * 4, none⟩ = some (.slice ab nb cb) := KEEP.out w3 hBW3
            have HEXD := Lib.hid (show Calls Tryz.prog 76 #[.pointer (some ⟨w1.heap.size, 0, none⟩), .slice ab nb cb, .int .i64 0, .int .i64 nb] w3.drew (ExecOut w2 w1.heap.size ⟨none, 0, 0, [], ar, nr, cr, R, z, true⟩ y) from by
              have h9 := spec_exec w2 ab nb cb t'.b hnb2 hbe.1 ⟨none, 0, 0, [], ar, nr, cr, R, z, true⟩ hcf hrow w1.heap.size (nb - 0) 0 nb rfl T (by rw [← hnb]; exact hpar) (Nat.le_refl _) ⟨V, [], []⟩ w3.drew HV.out htot (hBW3.trans ((Below.drew (Below.refl _ w3)).mono hBW3.size)) ⟨_, _, _, _, _, _, _, _, hRn.below (Below.drew (Below.refl _ w3))⟩
              rw [← hy]; exact h9)
            have hjI : (j : Int) < n := by omega
            have hj0 : (0 : Int) ≤ j := by omega
            have e0 : w3.cell? ⟨w.heap.size, 0, none⟩ = some (.slice (some ⟨gt, off, none⟩) n cap) := cS.1
            clear hx3 hg3 hb3 hRn hcf ht ht' hrg hrow hW2e hpar d0
            refine Lib.hid ?_
            go_wp2
            go_region_held3 (fun w' => w'.cell? ⟨w.heap.size, 0, none⟩ = some (.slice (some ⟨gt, off, none⟩) n cap) ∧ w'.cell? ⟨gt, off + j * 4, none⟩ = some (.slice ab nb cb))
              (first
                | (with_reducible exact cS)
                | (with_reducible exact sX))
              (first
                | (go_at_call 76; (with_reducible refine HEXD.out.mono ?_); rintro e w4 ⟨rfl, hb4, hr4⟩; have sX := KEEP.out w4 hb4))
            all_goals
              obtain ⟨gv, cv', a1, n1, c1', a2, n2, c2', hr⟩ := hr4
              have hun := hr.ulen
              have hB4 : Below w.heap.size w w4 := H0.out.2.1.trans ((HB2.out.trans (hb4.mono HB2.out.size)).mono (Nat.le_of_lt hWl))
              have hwl4 : w.heap.size ≤ w4.heap.size := hB4.size
              obtain ⟨W4, hW4⟩ : ∃ W4, w4.alloc (.cells #[] 3) = W4 := ⟨_, rfl⟩
              have k2 : W4.cell? ⟨w1.heap.size, 2, none⟩ = some (.slice a2 n2 c2') := by rw [← hW4]; exact (hr.box.alloc _).cell 2
              have hB5 : Below w.heap.size w W4 := by rw [← hW4]; exact below_then hB4 (below_new w4 _)
              have hm4 : W4.ownsRow w.heap.size 3 1 (.slice (some ⟨w4.heap.size, 0, none⟩) 0 0) 0 [] := by rw [← hW4]; exact made_at' w4 w4.heap.size w.heap.size rfl hwl4 _
              rcases hr.used.2 with ⟨he, he0⟩ | ⟨g2, cc, cur, hv, _⟩
              · injection he with h1 h2 h3
                subst h1 h2 h3
                have hU0 : y.U = [] := List.length_eq_zero_iff.1 hun
                have H9 := Lib.hid (And.intro hm4 hB5)
                clear sX cS hb4 hr hB4 hm4 hB5
                refine Lib.hid ?_
                go_wp2
                go_ret
                exact ⟨_, _, _, rfl, by rw [hy, hU0]; exact H9.out.1, H9.out.2⟩
              · injection hv with h1 h2 h3
                subst h1 h3
                clear h2
                have HNW := Lib.hid (news_of' w4 (Row.of_own hr.used))
                have H9 := Lib.hid (And.intro hm4 hB5)
                have hl8 : (ivs y.U).length = n2 * 1 := by simp [ivs, hun]
                rw [hun] at hsm
                clear sX cS hb4 hr hB4 hm4 hB5
                refine Lib.hid ?_
                go_wp2_with (at_builtin; refine wpList_append_own_at _ rfl _ _ 28 rfl w.heap.size 3 i0 (.int .i64 0) 1 8 Tryz.underlying28 hi hz0 hz1 hz2 rfl (by decide) _ _ _ rfl H9.out.1 ⟨g2, 0, none⟩ n2 _ (ivs y.U) rfl hl8 (by rw [← hW4]; exact HNW.out) (ivs_one' y.U) (by unfold maxLen; omega) (by omega) (by rw [← hW4]; simp; omega) ?_; intro v9 w9 hown9 hgrow9 _ hat9; refine Hid.out ?_)
                rw [Nat.zero_add, List.nil_append] at hown9
                obtain ⟨ad9, cp9, rfl⟩ := own_slice' hown9
                have hB9 := H9.out.2.grown hgrow9 H9.out.2.size (fun k hk => by cases hk; exact hwl4)
                have HO9 := Lib.hid hown9
                clear hown9 hgrow9 hat9
                refine Lib.hid ?_
                go_wp2
                go_ret
                exact ⟨_, _, _, rfl, by rw [hy]; exact HO9.out, hB9⟩
end Go.Proofs.YtekdnhhmiabngaaGreat.exe

/- Executions that tell an observer each statement ahead of its effect, with the value that it assigns or sends. Plain mathematics. -/
namespace Go.Proofs.YtekdnhhmiabngaaGreat.exe
open Go Go.ChangeShapes Go.WideShapes Go.ChangeAt Go.RowKit Go.Proofs.YtekdnhhmiabngaaGreat.row Go.Proofs.YtekdnhhmiabngaaGreat.val Go.Proofs.YtekdnhhmiabngaaGreat.expr Go.Proofs.YtekdnhhmiabngaaGreat.stm Go.Proofs.YtekdnhhmiabngaaGreat.blk Go.Proofs.YtekdnhhmiabngaaGreat.sets

theorem part_par {L : List Sm} {c m a b : Nat} {T : Fst} (h : c + m ≤ L.length) (hr : Par (blk.part L c m) a b T) : b ≤ m → Par L (c + a) (c + b) T := by
  induction hr with
  | nil a => intro _; exact .nil _
  | one a b T s hs ho h6 hr ih =>
    intro hb
    have hl := hr.le
    refine .one _ _ _ s (by rw [← part_at (show a < m by omega)]; exact hs) ho h6 ?_
    have := ih hb
    rw [show c + (a + 1) = c + a + 1 by omega] at this; exact this
  | nest a e b B T s hs he hbb hr ih1 ih2 =>
    intro hb
    have hl := hr.le
    have hae := he.1
    have h1 := ih1 (by omega)
    have h2 := ih2 hb
    rw [show c + (a + 1) = c + a + 1 by omega] at h1
    rw [show c + (e + 1) = c + e + 1 by omega] at h2
    exact .nest _ (c + e) _ _ _ s (by rw [← part_at (show a < m by omega)]; exact hs) (part_end h he) h1 h2
theorem par_flat {L : List Sm} {s : Sm} {T : Fst} (hl : 1 ≤ L.length) (hs : L[0]? = some s) (ho : opn s = false) (h6 : s.k ≠ 6) (h : Par (blk.part L 1 (L.length - 1)) 0 (blk.part L 1 (L.length - 1)).length T) : Par L 0 L.length (.one s T) := by
  have hp : 1 + (L.length - 1) ≤ L.length := by omega
  rw [part_len hp] at h
  have h1 := part_par hp h (Nat.le_refl _)
  rw [Nat.add_zero, show 1 + (L.length - 1) = L.length by omega] at h1
  exact .one 0 _ T s hs ho h6 h1
theorem par_nest {L : List Sm} {s : Sm} {e : Nat} {B T : Fst} (hs : L[0]? = some s) (he : IsEnd L 0 e) (hx : Par (blk.part L 1 (e - 1)) 0 (blk.part L 1 (e - 1)).length B) (h : Par (blk.part L (e + 1) (L.length - (e + 1))) 0 (blk.part L (e + 1) (L.length - (e + 1))).length T) :
    Par L 0 L.length (.nest s B T) := by
  have h0 := he.1
  have h1 := he.2.1
  have hp : 1 + (e - 1) ≤ L.length := by omega
  have hq : (e + 1) + (L.length - (e + 1)) ≤ L.length := by omega
  rw [part_len hp] at hx
  rw [part_len hq] at h
  have k1 := part_par hp hx (Nat.le_refl _)
  have k2 := part_par hq h (Nat.le_refl _)
  rw [Nat.add_zero, show 1 + (e - 1) = e by omega] at k1
  rw [Nat.add_zero, show (e + 1) + (L.length - (e + 1)) = L.length by omega] at k2
  exact .nest 0 e _ B T s hs he k1 k2
/-- The value that a statement assigns or sends. -/
def valS (src : Int → Nat → Int) (s : Sm) (x : Sx) : Int := if s.k = 1 ∨ s.k = 3 then evalV x.V s.o s.a s.b else if s.k = 2 then src s.n x.U.length else 0
theorem valS_eval {src : Int → Nat → Int} {s : Sm} {x : Sx} (h : s.k = 1 ∨ s.k = 3) : valS src s x = evalV x.V s.o s.a s.b := by unfold valS; rw [if_pos h]
theorem valS_src {src : Int → Nat → Int} {s : Sm} {x : Sx} (h : s.k = 2) : valS src s x = src s.n x.U.length := by unfold valS; rw [if_neg (by omega), if_pos h]
theorem valS_no {src : Int → Nat → Int} {s : Sm} {x : Sx} (h : s.k = 4 ∨ s.k = 5) : valS src s x = 0 := by unfold valS; rw [if_neg (by omega), if_neg (by omega)]
theorem valS_val {src : Int → Nat → Int} (hsrc : ∀ q n, isVal (src q n) = true) (s : Sm) (x : Sx) : isVal (valS src s x) = true := by
  unfold valS
  split
  · exact evalV_val _ _ _ _
  split
  · exact hsrc _ _
  · decide
/-- What an observer makes of what it is told; a measure of it. -/
structure Obm where
  (τ : Type) (nxt : τ → Sx → Sm → Int → τ) (len : τ → Int)
  (grow : ∀ t x s v, len (nxt t x s v) ≤ len t + 5)
  (pos : ∀ t, 0 ≤ len t)
abbrev Obm.Z (o : Obm) : Type := Sx × o.τ
section
variable (src : Int → Nat → Int) (o : Obm)
def stepZ (s : Sm) (z : o.Z) : o.Z := (step1 src s z.1, o.nxt z.2 z.1 s (valS src s z.1))
def tellZ (s : Sm) (z : o.Z) : o.Z := (z.1, o.nxt z.2 z.1 s (valS src s z.1))
def repZ (f : o.Z → o.Z) : Nat → o.Z → o.Z
  | 0, z => z
  | n + 1, z => repZ f n (f z)
def execZ : Fst → o.Z → o.Z
  | .nil, z => z
  | .one s r, z => execZ r (stepZ src o s z)
  | .nest s b r, z => execZ r (repZ o (execZ b) (its s z.1) (tellZ src o s z))
end
section
variable {src : Int → Nat → Int} {o : Obm}
theorem repZ_zero (f : o.Z → o.Z) (z : o.Z) : repZ o f 0 z = z := rfl
theorem repZ_succ (f : o.Z → o.Z) (n : Nat) (z : o.Z) : repZ o f (n + 1) z = repZ o f n (f z) := rfl
theorem repZ_last (f : o.Z → o.Z) : ∀ (n : Nat) (z : o.Z), repZ o f (n + 1) z = f (repZ o f n z)
  | 0, _ => rfl
  | n + 1, z => by rw [repZ_succ, repZ_last f n (f z), repZ_succ]
theorem repZ_ind {f : o.Z → o.Z} {P : o.Z → Prop} (h : ∀ z, P z → P (f z)) : ∀ (n : Nat) (z : o.Z), P z → P (repZ o f n z)
  | 0, _, hz => hz
  | n + 1, z, hz => repZ_ind h n (f z) (h z hz)
theorem repZ_fst {b : Fst} (h : ∀ z, (execZ src o b z).1 = exec src b z.1) : ∀ (n : Nat) (z : o.Z), (repZ o (execZ src o b) n z).1 = rep (exec src b) n z.1
  | 0, _ => rfl
  | n + 1, z => by rw [repZ_succ, repZ_fst h n, h, rep_succ]
/-- An observer changes nothing of what is executed. -/
theorem execZ_fst : ∀ (T : Fst) (z : o.Z), (execZ src o T z).1 = exec src T z.1
  | .nil, _ => rfl
  | .one s r, z => by simp only [execZ, exec]; rw [execZ_fst r]; rfl
  | .nest s b r, z => by simp only [execZ, exec]; rw [execZ_fst r, repZ_fst (fun y => execZ_fst b y)]; rfl
/-- How much is sent, sensed and told at most. -/
def cntZ : Fst → Int
  | .nil => 0
  | .one _ r => 6 + cntZ r
  | .nest s b r => 6 + max 1 s.n * cntZ b + cntZ r
theorem cntZ_nonneg : ∀ T : Fst, 0 ≤ cntZ T
  | .nil => by simp [cntZ]
  | .one _ r => by have := cntZ_nonneg r; simp only [cntZ]; omega
  | .nest s b r => by
    have h1 := cntZ_nonneg b
    have h2 := cntZ_nonneg r
    have h3 : 0 ≤ max 1 s.n * cntZ b := Int.mul_nonneg (by omega) h1
    simp only [cntZ]; omega
theorem cntZ_bound {L : List Sm} (hb : IsBlk L) {a b : Nat} {T : Fst} (h : Par L a b T) : ∀ H : Int, hAt L a = H → cntZ T ≤ (b - a : Int) * (6 * p5 H) := by
  induction h with
  | nil a => intro H _; simp [cntZ]
  | one a b T s hs ho h6 hr ih =>
    intro H hH
    have h1 := hAt_succ hs
    rw [dlt_flat ho h6] at h1
    have h2 := ih H (by omega)
    have : (1 : Int) ≤ p5 H := by unfold p5; split <;> (try split) <;> (try split) <;> omega
    have e : ((b : Int) - a) * (6 * p5 H) = ((b : Int) - ((a + 1 : Nat) : Int)) * (6 * p5 H) + 6 * p5 H := by
      rw [show (b : Int) - a = ((b : Int) - ((a + 1 : Nat) : Int)) + 1 by omega, Int.add_mul, Int.one_mul]
    rw [e]; simp only [cntZ]; omega
  | nest a e b B T s hs he hbb hr ih1 ih2 =>
    intro H hH
    obtain ⟨s2, hs2, ho2⟩ := he.opens
    have h1 := hAt_succ hs2
    rw [dlt_opn ho2] at h1
    have h2 := (blk_bounds hb (a + 1)).2
    have h3 := (blk_bounds hb a).1
    have hx := ih1 (H + 1) (by omega)
    have hx0 := cntZ_nonneg B
    have hy := ih2 H (by rw [he.2.2.1, hH])
    have hn := n_le (blk_stOk hb hs)
    have hae := he.1
    have hle := hr.le
    obtain ⟨m, hm⟩ : ∃ m, max 1 s.n = m := ⟨_, rfl⟩
    have hm1 : 1 ≤ m ∧ m ≤ 5 := by omega
    simp only [cntZ]
    rw [hm]
    have hmx5 : m * cntZ B ≤ 5 * cntZ B := Int.mul_le_mul_of_nonneg_right hm1.2 hx0
    rcases (show H = 0 ∨ H = 1 ∨ H = 2 by omega) with rfl | rfl | rfl
    · simp only [p5] at hx hy ⊢; simp at hx hy ⊢; omega
    · simp only [p5] at hx hy ⊢; simp at hx hy ⊢; omega
    · simp only [p5] at hx hy ⊢; simp at hx hy ⊢; omega
theorem cntZ_small {L : List Sm} (hb : IsBlk L) {T : Fst} (h : Par L 0 L.length T) : cntZ T ≤ 18000 := by
  have h1 := cntZ_bound hb h (hAt L 0) rfl
  have h2 : p5 (hAt L 0) ≤ 125 ∧ 0 ≤ p5 (hAt L 0) := by unfold p5; split <;> (try split) <;> (try split) <;> omega
  have h4 := hb.2.2
  have h5 : ((L.length : Int) - (0 : Nat)) * (6 * p5 (hAt L 0)) ≤ ((L.length : Int) - (0 : Nat)) * 750 := Int.mul_le_mul_of_nonneg_left (by omega) (by omega)
  omega
def totZ (z : o.Z) : Int := tot z.1 + o.len z.2
theorem totZ_step (s : Sm) (z : o.Z) : totZ (stepZ src o s z) ≤ totZ z + 6 := by
  have h1 := tot_step src s z.1
  have h2 := o.grow z.2 z.1 s (valS src s z.1)
  unfold totZ stepZ; dsimp only; omega
theorem totZ_tell (s : Sm) (z : o.Z) : totZ (tellZ src o s z) ≤ totZ z + 6 := by
  have h2 := o.grow z.2 z.1 s (valS src s z.1)
  unfold totZ tellZ; dsimp only; omega
theorem repZ_tot {f : o.Z → o.Z} {c : Int} (h : ∀ z, totZ (f z) ≤ totZ z + c) : ∀ (n : Nat) (z : o.Z), totZ (repZ o f n z) ≤ totZ z + n * c
  | 0, z => by rw [repZ_zero]; simp
  | n + 1, z => by
    rw [repZ_succ]
    have h1 := repZ_tot h n (f z)
    have h2 := h z
    have h3 : ((n + 1 : Nat) : Int) * c = n * c + c := by rw [Int.natCast_add, Int.add_mul]; simp
    omega
theorem execZ_tot : ∀ (T : Fst) (z : o.Z), totZ (execZ src o T z) ≤ totZ z + cntZ T
  | .nil, z => by simp [execZ, cntZ]
  | .one s r, z => by
    have h1 := execZ_tot r (stepZ src o s z)
    have h2 := totZ_step (src := src) s z
    simp only [execZ, cntZ]; omega
  | .nest s b r, z => by
    have h1 := execZ_tot r (repZ o (execZ src o b) (its s z.1) (tellZ src o s z))
    have h2 := repZ_tot (fun y => execZ_tot b y) (its s z.1) (tellZ src o s z)
    have h3 : (its s z.1 : Int) * cntZ b ≤ max 1 s.n * cntZ b := Int.mul_le_mul_of_nonneg_right (its_le s z.1) (cntZ_nonneg b)
    have h4 := totZ_tell (src := src) s z
    simp only [execZ, cntZ]; omega
/-- The state 'z' has been reached, and 'M' is still to run. -/
def RestZ (src : Int → Nat → Int) (o : Obm) (L : List Sm) (z0 : o.Z) (M : List Sm) (z : o.Z) : Prop := ∀ T, Par M 0 M.length T → ∃ T0, Par L 0 L.length T0 ∧ execZ src o T0 z0 = execZ src o T z ∧ totZ z + cntZ T ≤ totZ z0 + cntZ T0
theorem RestZ.start (src : Int → Nat → Int) (o : Obm) (L : List Sm) (z0 : o.Z) : RestZ src o L z0 L z0 := fun T h => ⟨T, h, rfl, Int.le_refl _⟩
theorem RestZ.done {L : List Sm} {z0 z : o.Z} (h : RestZ src o L z0 [] z) {T0 : Fst} (hT : Par L 0 L.length T0) : execZ src o T0 z0 = z := by
  obtain ⟨T, h1, h2, _⟩ := h .nil (.nil 0)
  rw [hT.unique h1, h2]; rfl
theorem RestZ.one {L M : List Sm} {z0 z : o.Z} {n : Nat} {s : Sm} (h : RestZ src o L z0 M z) (hb : IsBlk M) (hn : M.length = n) (hs : M[0]? = some s) (ho : opn s = false) :
    IsBlk (blk.part M (0 + 1) (n - (0 + 1))) ∧ RestZ src o L z0 (blk.part M (0 + 1) (n - (0 + 1))) (stepZ src o s z) := by
  subst hn
  have hlt := (List.getElem?_eq_some_iff.1 hs).1
  have h1 := hAt_succ hs
  rw [hAt_zero] at h1
  have h6 : s.k ≠ 6 := fun h6 => by
    rw [dlt_end h6] at h1
    have := (blk_bounds hb (0 + 1)).1; omega
  rw [dlt_flat ho h6] at h1
  refine ⟨rest_blk hb (by omega) (by omega), fun T hT => ?_⟩
  obtain ⟨T0, k1, k2, k3⟩ := h _ (par_flat (by omega) hs ho h6 hT)
  refine ⟨T0, k1, k2, ?_⟩
  have := totZ_step (src := src) s z
  simp only [cntZ] at k3
  omega
theorem RestZ.nest {L M : List Sm} {z0 z : o.Z} {B : Fst} {n e : Nat} {s : Sm} (h : RestZ src o L z0 M z) (hb : IsBlk M) (hn : M.length = n) (hs : M[0]? = some s) (he : IsEnd M 0 e) (hB : Par (blk.part M 1 (e - 1)) 0 (blk.part M 1 (e - 1)).length B) :
    IsBlk (blk.part M (e + 1) (n - (e + 1))) ∧ RestZ src o L z0 (blk.part M (e + 1) (n - (e + 1))) (repZ o (execZ src o B) (its s z.1) (tellZ src o s z)) := by
  subst hn
  have h1 := he.2.1
  refine ⟨rest_blk hb (by omega) (by rw [he.2.2.1, hAt_zero]), fun T hT => ?_⟩
  obtain ⟨T0, k1, k2, k3⟩ := h _ (par_nest hs he hB hT)
  refine ⟨T0, k1, k2, ?_⟩
  have h2 := repZ_tot (fun y => execZ_tot (src := src) B y) (its s z.1) (tellZ src o s z)
  have h3 : (its s z.1 : Int) * cntZ B ≤ max 1 s.n * cntZ B := Int.mul_le_mul_of_nonneg_right (its_le s z.1) (cntZ_nonneg B)
  have h4 := totZ_tell (src := src) s z
  simp only [cntZ] at k3
  omega
/-- What has been sent, sensed and told stays below the bound of the whole. -/
theorem RestZ.small {L M : List Sm} {z0 z : o.Z} {m : Int} (h : RestZ src o L z0 M z) (hm : ∀ T0, Par L 0 L.length T0 → totZ z0 + cntZ T0 ≤ m) : ∀ T, Par M 0 M.length T → totZ z + cntZ T ≤ m := fun T hT => by
  obtain ⟨T0, k1, _, k3⟩ := h T hT
  have := hm T0 k1
  omega
theorem RestZ.tot {L M : List Sm} {z0 z : o.Z} {m : Int} (h : RestZ src o L z0 M z) (hM : IsBlk M) (hm : ∀ T0, Par L 0 L.length T0 → totZ z0 + cntZ T0 ≤ m) : totZ z ≤ m := by
  obtain ⟨T, hT⟩ := par_ex hM
  have := h.small hm T hT
  have := cntZ_nonneg T
  omega
end
theorem step_varsP {src : Int → Nat → Int} (hsrc : ∀ q n, isVal (src q n) = true) (s : Sm) {x : Sx} (h : varsOk x.V = true) : varsOk (step1 src s x).V = true := by
  rcases step_cases src s x with ⟨_, e⟩ | ⟨_, e⟩ | ⟨_, e⟩ | ⟨_, _, e⟩ <;> rw [e]
  · exact vars_set h (evalV_val _ _ _ _) _
  · exact vars_set h (hsrc _ _) _
  · exact h
  · exact h
theorem exec_varsP {src : Int → Nat → Int} (hsrc : ∀ q n, isVal (src q n) = true) : ∀ (T : Fst) {x : Sx}, varsOk x.V = true → varsOk (exec src T x).V = true
  | .nil, _, h => h
  | .one s r, _, h => exec_varsP hsrc r (step_varsP hsrc s h)
  | .nest _ b r, x, h => exec_varsP hsrc r (rep_ind (P := fun y => varsOk y.V = true) (fun _ hy => exec_varsP hsrc b hy) _ x h)
theorem execZ_vars {src : Int → Nat → Int} {o : Obm} (hsrc : ∀ q n, isVal (src q n) = true) (T : Fst) {z : o.Z} (h : varsOk z.1.V = true) : varsOk (execZ src o T z).1.V = true := by
  rw [execZ_fst]; exact exec_varsP hsrc T h
/-- An observer that makes nothing of what it is told. -/
def deaf : Obm := ⟨Unit, fun t _ _ _ => t, fun _ => 0, fun _ _ _ _ => by omega, fun _ => by omega⟩
end Go.Proofs.YtekdnhhmiabngaaGreat.exe
