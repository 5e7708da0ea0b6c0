/- Several texts in one: ExeJ. -/
import Derived.Test.YtndpadnjjbbkkaaGreatGHub19
import Derived.Test.YtndpadnjjbbkkaaGreatGHub20

/- The model's SensesOf: what the plain relation says, in new memory; nothing that was there is written. -/
namespace Go.Proofs.YtndpadnjjbbkkaaGreat.exe
open Go Go.ChangeShapes Go.WideShapes Go.ChangeAt Go.RowKit Go.Proofs.YtndpadnjjbbkkaaGreat.row Go.Proofs.YtndpadnjjbbkkaaGreat.val Go.Proofs.YtndpadnjjbbkkaaGreat.expr Go.Proofs.YtndpadnjjbbkkaaGreat.stm Go.Proofs.YtndpadnjjbbkkaaGreat.blk Go.Proofs.YtndpadnjjbbkkaaGreat.prg Go.Proofs.YtndpadnjjbbkkaaGreat.sets
theorem keepW {W w' : World} {p q : Addr} {x y : Value} (h1 : p.block < W.heap.size) (h2 : q.block < W.heap.size) (c1 : W.cell? p = some x) (c2 : W.cell? q = some y) (h : Below W.heap.size W w') : w'.cell? p = some x ∧ w'.cell? q = some y :=
  ⟨(h.cell h1).trans c1, (h.cell h2).trans c2⟩
theorem own_slice' {w : World} {B : Nat} {ty : TypeId} {v : Value} {n : Nat} {xs : List Value} (h : w.ownsRow B ty 1 v n xs) : ∃ ad cap, v = .slice ad n cap := by
  rcases h.2 with ⟨e, e0⟩ | ⟨g, c, _, e, _⟩
  · exact ⟨_, _, by rw [e, e0]⟩
  · exact ⟨_, _, e⟩
theorem SensIs.live {P : List Tk} {V R : List Int} {j : Nat} {z : Int} {t : Tk} {T : Fst} {U : List Int} (h : SensIs P V R j z U) (hT : TaskAt P V R j t T) (hz : 0 ≤ z ∧ z ≤ 1000000) : U = (exec (liveSrc R z) T ⟨V, [], []⟩).U := by
  rcases h with ⟨_, h⟩ | ⟨_, t', T', h, rfl⟩
  · rcases h with h | h | h
    · exact (hT.not h).elim
    · omega
    · omega
  · obtain ⟨rfl, rfl⟩ := hT.unique h; rfl
theorem SensIs.dead {P : List Tk} {V R : List Int} {i z : Int} {U : List Int} (h : SensIs P V R i z U) (hn : NotAt P V R i ∨ z < 0 ∨ 1000000 < z) : U = [] := by
  rcases h with ⟨h, _⟩ | ⟨hz, t, T, h, _⟩
  · exact h
  · rcases hn with e | e | e
    · exact (h.not e).elim
    · omega
    · omega
set_option maxHeartbeats 8000000 in
set_option maxRecDepth 100000 in
theorem spec_sensesof (a : Option Addr) (n cap : Nat) (P : List Tk) (hz : Sizes P) (w : World) (h : TkRow w a n P) (ad : Option Addr) (nv cv : Nat) (V : List Int) (hnv : (nv : Int) ≤ 1048576) (hV : Row w ad nv V) (ar : Option Addr) (nr cr : Nat) (R : List Int) (hnr : (nr : Int) ≤ 1048576) (hR : Row w ar nr R)
    (i z : Int) (U : List Int) (hU : SensIs P V R i z U) :
    Calls Tryz.prog 20 #[.agg #[.slice a n cap], .int .i64 i, .slice ad nv cv, .slice ar nr cr, .int .i64 z] w (NewInts w U) := by
  obtain ⟨i0, hi, hz0, hz1, hz2⟩ := info_parts row.infoInt
  obtain ⟨W, hW⟩ : ∃ W, w.alloc (.cells #[.slice a n cap] 33) = W := ⟨_, rfl⟩
  have hBW : Below w.heap.size w W := by rw [← hW]; exact below_new w _
  have hpx : Box w.heap.size #[.slice a n cap] 33 W := by rw [← hW]; exact Box.new w _ _
  have hWl : w.heap.size < W.heap.size := hpx.lt
  have c0 : W.cell? ⟨w.heap.size, 0, none⟩ = some (.slice a n cap) := hpx.cell 0
  have hlen := h.1
  have HZ := Lib.hid hz
  have HU := Lib.hid hU
  have H0 := Lib.hid (And.intro hpx (And.intro hBW (And.intro (h.below hBW) (And.intro (hV.below hBW) (hR.below hBW)))))
  have hn : (n : Int) ≤ 1048576 := by have := hz.1; omega
  clear hpx hBW h hV hR hz hU
  obtain ⟨rp, hrp⟩ := prg_dec P
  have HRP := Lib.hid hrp
  cases rp
  · clear hrp
    obtain rfl := HU.out.dead (.inl (.inl (fun hp => by have := HRP.out.2 hp; cases this)))
    go_enter Tryz.func20, Tryz.ntmps20
    go_wp2_with (go_at_call 37; (with_reducible refine (spec_programok a n cap P HZ.out _ H0.out.2.2.1 false HRP.out).mono ?_); rintro e w2 ⟨rfl, hb2⟩; refine Hid.out ?_)
    have HB2 := Lib.hid hb2
    have d0 : w2.cell? ⟨w.heap.size, 0, none⟩ = some (.slice a n cap) := (hb2.cell (p := ⟨w.heap.size, 0, none⟩) hWl).trans (H0.out.1.cell 0)
    clear hb2 c0
    refine Lib.hid ?_
    go_wp2
    go_ret
    exact ⟨_, _, _, rfl, made_at' w2 w2.heap.size w.heap.size rfl (Nat.le_trans (Nat.le_of_lt hWl) HB2.out.size) _, below_then (H0.out.2.1.trans (HB2.out.mono (Nat.le_of_lt hWl))) (below_new w2 _)⟩
  · have HPR := Lib.hid (hrp.1 rfl)
    clear hrp
    cases hv : varsOk V
    · have HV := Lib.hid hv
      clear hv
      obtain rfl := HU.out.dead (.inl (.inr (.inl HV.out)))
      go_enter Tryz.func20, Tryz.ntmps20
      go_wp2_with (go_at_call 37; (with_reducible refine (spec_programok a n cap P HZ.out _ H0.out.2.2.1 true HRP.out).mono ?_); rintro e w2 ⟨rfl, hb2⟩; refine Hid.out ?_)
      have HB2 := Lib.hid hb2
      have d0 : w2.cell? ⟨w.heap.size, 0, none⟩ = some (.slice a n cap) := (hb2.cell (p := ⟨w.heap.size, 0, none⟩) hWl).trans (H0.out.1.cell 0)
      clear hb2 c0
      refine Lib.hid ?_
      go_wp2_with (first
        | (go_at_call 38; (with_reducible refine (spec_vars _ ad nv cv V hnv (H0.out.2.2.2.1.below HB2.out) false HV.out).mono ?_); rintro e w3 ⟨rfl, rfl⟩))
      go_ret
      exact ⟨_, _, _, rfl, made_at' w2 w2.heap.size w.heap.size rfl (Nat.le_trans (Nat.le_of_lt hWl) HB2.out.size) _, below_then (H0.out.2.1.trans (HB2.out.mono (Nat.le_of_lt hWl))) (below_new w2 _)⟩
    · have HV := Lib.hid hv
      clear hv
      cases hi9 : (decide (0 ≤ i) && decide (i ≤ (n : Int) - 1))
      · have HIN := Lib.hid hi9
        have hin : i < 0 ∨ (n : Int) ≤ i := by simp at hi9; omega
        clear hi9
        obtain rfl := HU.out.dead (.inl (.inr (.inr (.inr (by rw [hlen]; exact hin)))))
        go_enter Tryz.func20, Tryz.ntmps20
        go_wp2_with (go_at_call 37; (with_reducible refine (spec_programok a n cap P HZ.out _ H0.out.2.2.1 true HRP.out).mono ?_); rintro e w2 ⟨rfl, hb2⟩; refine Hid.out ?_)
        have HB2 := Lib.hid hb2
        have d0 : w2.cell? ⟨w.heap.size, 0, none⟩ = some (.slice a n cap) := (hb2.cell (p := ⟨w.heap.size, 0, none⟩) hWl).trans (H0.out.1.cell 0)
        clear hb2 c0
        refine Lib.hid ?_
        go_wp2_with (first
          | (go_at_call 38; (with_reducible refine (spec_vars _ ad nv cv V hnv (H0.out.2.2.2.1.below HB2.out) true HV.out).mono ?_); rintro e w3 ⟨rfl, rfl⟩)
          | (go_at_call 39; (with_reducible refine (in_any _ 0 ((n : Int) - 1) false HIN.out _).mono ?_); rintro e w3 ⟨rfl, rfl⟩))
        go_ret
        exact ⟨_, _, _, rfl, made_at' w2 w2.heap.size w.heap.size rfl (Nat.le_trans (Nat.le_of_lt hWl) HB2.out.size) _, below_then (H0.out.2.1.trans (HB2.out.mono (Nat.le_of_lt hWl))) (below_new w2 _)⟩
      · have HIN := Lib.hid hi9
        have hin : 0 ≤ i ∧ i < n := by simp at hi9; omega
        clear hi9
        cases hz9 : (decide (0 ≤ z) && decide (z ≤ 1000000))
        · have HZI := Lib.hid hz9
          have hzn : z < 0 ∨ 1000000 < z := by simp at hz9; omega
          clear hz9
          obtain rfl := HU.out.dead (.inr hzn)
          go_enter Tryz.func20, Tryz.ntmps20
          go_wp2_with (go_at_call 37; (with_reducible refine (spec_programok a n cap P HZ.out _ H0.out.2.2.1 true HRP.out).mono ?_); rintro e w2 ⟨rfl, hb2⟩; refine Hid.out ?_)
          have HB2 := Lib.hid hb2
          have d0 : w2.cell? ⟨w.heap.size, 0, none⟩ = some (.slice a n cap) := (hb2.cell (p := ⟨w.heap.size, 0, none⟩) hWl).trans (H0.out.1.cell 0)
          clear hb2 c0
          refine Lib.hid ?_
          go_wp2_with (first
            | (go_at_call 38; (with_reducible refine (spec_vars _ ad nv cv V hnv (H0.out.2.2.2.1.below HB2.out) true HV.out).mono ?_); rintro e w3 ⟨rfl, rfl⟩)
            | (go_at_call 39; (with_reducible refine (in_any _ 0 ((n : Int) - 1) true HIN.out _).mono ?_); rintro e w3 ⟨rfl, rfl⟩)
            | (go_at_call 39; (with_reducible refine (in_any _ 0 1000000 false HZI.out _).mono ?_); rintro e w3 ⟨rfl, rfl⟩))
          go_ret
          exact ⟨_, _, _, rfl, made_at' w2 w2.heap.size w.heap.size rfl (Nat.le_trans (Nat.le_of_lt hWl) HB2.out.size) _, below_then (H0.out.2.1.trans (HB2.out.mono (Nat.le_of_lt hWl))) (below_new w2 _)⟩
        · have HZI := Lib.hid hz9
          have hzn : 0 ≤ z ∧ z ≤ 1000000 := by simp at hz9; omega
          clear hz9
          cases hy9 : allV R
          · have HY := Lib.hid hy9
            clear hy9
            obtain rfl := HU.out.dead (.inl (.inr (.inr (.inl HY.out))))
            go_enter Tryz.func20, Tryz.ntmps20
            go_wp2_with (go_at_call 37; (with_reducible refine (spec_programok a n cap P HZ.out _ H0.out.2.2.1 true HRP.out).mono ?_); rintro e w2 ⟨rfl, hb2⟩; refine Hid.out ?_)
            have HB2 := Lib.hid hb2
            have d0 : w2.cell? ⟨w.heap.size, 0, none⟩ = some (.slice a n cap) := (hb2.cell (p := ⟨w.heap.size, 0, none⟩) hWl).trans (H0.out.1.cell 0)
            clear hb2 c0
            refine Lib.hid ?_
            go_wp2_with (first
              | (go_at_call 38; (with_reducible refine (spec_vars _ ad nv cv V hnv (H0.out.2.2.2.1.below HB2.out) true HV.out).mono ?_); rintro e w3 ⟨rfl, rfl⟩)
              | (go_at_call 39; (with_reducible refine (in_any _ 0 ((n : Int) - 1) true HIN.out _).mono ?_); rintro e w3 ⟨rfl, rfl⟩)
              | (go_at_call 39; (with_reducible refine (in_any _ 0 1000000 true HZI.out _).mono ?_); rintro e w3 ⟨rfl, rfl⟩)
              | (go_at_call 40; (with_reducible refine (spec_vals _ ar nr cr R hnr (H0.out.2.2.2.2.below HB2.out) false HY.out).mono ?_); rintro e w3 ⟨rfl, rfl⟩))
            go_ret
            exact ⟨_, _, _, rfl, made_at' w2 w2.heap.size w.heap.size rfl (Nat.le_trans (Nat.le_of_lt hWl) HB2.out.size) _, below_then (H0.out.2.1.trans (HB2.out.mono (Nat.le_of_lt hWl))) (below_new w2 _)⟩
          · have HY := Lib.hid hy9
            clear hy9
            obtain ⟨j, rfl⟩ : ∃ j : Nat, i = j := ⟨i.toNat, by omega⟩
            obtain ⟨t, T, ht, hT⟩ := taskAt_ex HPR.out HV.out HY.out (show j < P.length by omega)
            obtain rfl := HU.out.live hT hzn
            have hbe := hT.blk
            have hpar : Par t.b 0 t.b.length T := by
              obtain ⟨_, _, _, j2, e2, ht2, hp2⟩ := hT
              exact hp2
            have hV8 := ((varsOk_iff V).1 HV.out).1
            obtain rfl : nv = 8 := by have := H0.out.2.2.2.1.1; omega
            obtain ⟨bv, ov, xv, rfl, _, _, _⟩ := H0.out.2.2.2.1.2 0 (by omega)
            have hjn : j < n := by omega
            clear hT
            go_enter Tryz.func20, Tryz.ntmps20
            go_wp2_with (go_at_call 37; (with_reducible refine (spec_programok a n cap P HZ.out _ H0.out.2.2.1 true HRP.out).mono ?_); rintro e w2 ⟨rfl, hb2⟩; refine Hid.out ?_)
            have HB2 := Lib.hid hb2
            have d0 : w2.cell? ⟨w.heap.size, 0, none⟩ = some (.slice a n cap) := (hb2.cell (p := ⟨w.heap.size, 0, none⟩) hWl).trans (H0.out.1.cell 0)
            clear hb2 c0
            refine Lib.hid ?_
            have HN := Lib.hid (news_of' w2 (H0.out.2.2.2.1.below HB2.out))
            have hW2 : w.heap.size < w2.heap.size := Nat.lt_of_lt_of_le hWl HB2.out.size
            refine Lib.hid ?_
            go_wp2_with (first
              | (go_at_call 38; (with_reducible refine (spec_vars _ _ 8 cv V hnv (H0.out.2.2.2.1.below HB2.out) true HV.out).mono ?_); rintro e w3 ⟨rfl, rfl⟩)
              | (go_at_call 39; (with_reducible refine (in_any _ 0 ((n : Int) - 1) true HIN.out _).mono ?_); rintro e w3 ⟨rfl, rfl⟩)
              | (go_at_call 39; (with_reducible refine (in_any _ 0 1000000 true HZI.out _).mono ?_); rintro e w3 ⟨rfl, rfl⟩)
              | (go_at_call 40; (with_reducible refine (spec_vals _ ar nr cr R hnr (H0.out.2.2.2.2.below HB2.out) true HY.out).mono ?_); rintro e w3 ⟨rfl, rfl⟩)
              | (at_builtin; refine wpList_append_own_at _ rfl _ _ 25 rfl w2.heap.size 3 i0 (.int .i64 0) 1 8 Tryz.underlying25 hi hz0 hz1 hz2 rfl (by decide) _ _ _ rfl (made_at' w2 w2.heap.size w2.heap.size rfl (Nat.le_refl _) _) ⟨bv, ov, none⟩ 8 cv (ivs V) rfl (by simp [ivs, hV8]) HN.out (ivs_one' V) (by unfold maxLen; omega) (by omega) (by simp) ?_; intro v1 w1 hown hgrow _ hat; refine Hid.out ?_))
            rw [Nat.zero_add, List.nil_append] at hown
            obtain ⟨g1, c1, rfl, hg1, hg1l⟩ := hown.form (by omega)
            have hb1 : Below w2.heap.size w2 w1 := ((Below.refl _ w2).alloc (Nat.le_refl _) _).grown hgrow (by simp) (fun k hk => by cases hk; exact Nat.le_refl _)
            have H1 := Lib.hid (And.intro hown (And.intro hb1 hg1))
            clear hown hgrow hat hb1 HN
            obtain ⟨W2, hW2e⟩ : ∃ W2, w1.alloc (.cells zero7R 72) = W2 := ⟨_, rfl⟩
            have H2 := Lib.hid (And.intro (show Below w1.heap.size w1 W2 by rw [← hW2e]; exact below_new w1 _) (show Box w1.heap.size zero7R 72 W2 by rw [← hW2e]; exact Box.new _ _ _))
            refine Lib.hid ?_
            go_wp2_with ((refine wpList_store_box rfl 72 _ _ rfl w1.heap.size _ _ H2.out.2 #[.slice (some ⟨g1, 0, none⟩) 8 c1, .slice none 0 0, .slice none 0 0, .slice none 0 0, .slice ar nr cr, .int .i64 z, .bool true] rfl rfl rfl (by kernel_rfl) (by simp [Value.oneCell']) ?_); intro w3 hx3 hg3; refine Hid.out ?_)
            have hb3 : Below w1.heap.size w1 w3 := H2.out.1.grown hg3 H2.out.1.size (fun k hk => by cases hk; omega)
            have hRn : RnAt w2.heap.size w1.heap.size g1 c1 none 0 0 none 0 0 ⟨none, 0, 0, [], ar, nr, cr, R, z, true⟩ ⟨V, [], []⟩ w3 := by
              have hWw := H1.out.2.1.size
              exact ⟨hx3, by omega, H1.out.1.kept (grown_below hb3 none) (.inr (by simp [Value.ownBlock])), World.ownsRow_nil _ _ _ _, World.ownsRow_nil _ _ _ _, by omega, by simp [Value.ownBlock], by simp [Value.ownBlock], by simp [Value.ownBlock], by simp [Value.ownBlock], .inl rfl⟩
            have hBW3 : Below w2.heap.size w2 w3 := H1.out.2.1.trans (hb3.mono H1.out.2.1.size)
            have hcf : CfgAt ⟨none, 0, 0, [], ar, nr, cr, R, z, true⟩ w2 := ⟨Row.none_ w2, H0.out.2.2.2.2.below HB2.out, (by show (0 : Int) ≤ 1048576; decide), hnr, hzn, rfl⟩
            obtain ⟨gt, off, t', ha, hlb, ht', ab, nb, cb, hrg, hbc, hrow⟩ := (H0.out.2.2.1.below HB2.out).2 j hjn
            obtain rfl : t' = t := by rw [ht] at ht'; exact (Option.some.inj ht').symm
            subst ha
            have hnb : t'.b.length = nb := hrow.1
            have hnb2 : (nb : Int) ≤ 1048576 := by have := HZ.out.2 t' (List.mem_of_getElem? ht); omega
            have htot : tot ⟨V, [], []⟩ + cnt T ≤ 50000 := by
              have := runs_small hbe.1 hpar.runs (Nat.le_refl _)
              simp [tot]; omega
            have hsm : (exec (liveSrc R z) T ⟨V, [], []⟩).U.length ≤ 3000 := by have := exec_small (src := liveSrc R z) hbe.1 hpar V; omega
            obtain ⟨y, hy⟩ : ∃ y, exec (liveSrc R z) T ⟨V, [], []⟩ = y := ⟨_, rfl⟩
            rw [hy] at hsm ⊢
            have KEEP := Lib.hid (show ∀ w', Below w2.heap.size w2 w' → w'.cell? ⟨w.heap.size, 0, none⟩ = some (.slice (some ⟨gt, off, none⟩) n cap) ∧ w'.cell? ⟨gt, off + j * 4, none⟩ = some (.slice ab nb cb) from fun w' h => keepW hW2 hlb d0 (range4 hrg).1 h)
            have cS : w3.drew.cell? ⟨w.heap.size, 0, none⟩ = some (.slice (some ⟨gt, off, none⟩) n cap) ∧ w3.drew.cell? ⟨gt, off + j * 4, none⟩ = some (.slice ab nb cb) := KEEP.out w3 hBW3
            have HEXD := Lib.hid (show Calls Tryz.prog 50 #[.pointer (some ⟨w1.heap.size, 0, none⟩), .slice ab nb cb, .int .i64 0, .int .i64 nb] w3.drew (ExecOut w2 w1.heap.size ⟨none, 0, 0, [], ar, nr, cr, R, z, true⟩ y) from by
              have h9 := spec_exec w2 ab nb cb t'.b hnb2 hbe.1 ⟨none, 0, 0, [], ar, nr, cr, R, z, true⟩ hcf hrow w1.heap.size (nb - 0) 0 nb rfl T (by rw [← hnb]; exact hpar) (Nat.le_refl _) ⟨V, [], []⟩ w3.drew HV.out htot (hBW3.trans ((Below.drew (Below.refl _ w3)).mono hBW3.size)) ⟨_, _, _, _, _, _, _, _, hRn.below (Below.drew (Below.refl _ w3))⟩
              rw [← hy]; exact h9)
            have hjI : (j : Int) < n := by omega
            have hj0 : (0 : Int) ≤ j := by omega
            have e0 : w3.cell? ⟨w.heap.size, 0, none⟩ = some (.slice (some ⟨gt, off, none⟩) n cap) := cS.1
            clear hx3 hg3 hb3 hRn hcf ht ht' hrg hrow hW2e hpar d0
            refine Lib.hid ?_
            go_wp2
            go_region_held3 (fun w' => w'.cell? ⟨w.heap.size, 0, none⟩ = some (.slice (some ⟨gt, off, none⟩) n cap) ∧ w'.cell? ⟨gt, off + j * 4, none⟩ = some (.slice ab nb cb))
              (first
                | (with_reducible exact cS)
                | (with_reducible exact sX))
              (first
                | (go_at_call 50; (with_reducible refine HEXD.out.mono ?_); rintro e w4 ⟨rfl, hb4, hr4⟩; have sX := KEEP.out w4 hb4))
            all_goals
              obtain ⟨gv, cv', a1, n1, c1', a2, n2, c2', hr⟩ := hr4
              have hun := hr.ulen
              have hB4 : Below w.heap.size w w4 := H0.out.2.1.trans ((HB2.out.trans (hb4.mono HB2.out.size)).mono (Nat.le_of_lt hWl))
              have hwl4 : w.heap.size ≤ w4.heap.size := hB4.size
              obtain ⟨W4, hW4⟩ : ∃ W4, w4.alloc (.cells #[] 3) = W4 := ⟨_, rfl⟩
              have k2 : W4.cell? ⟨w1.heap.size, 2, none⟩ = some (.slice a2 n2 c2') := by rw [← hW4]; exact (hr.box.alloc _).cell 2
              have hB5 : Below w.heap.size w W4 := by rw [← hW4]; exact below_then hB4 (below_new w4 _)
              have hm4 : W4.ownsRow w.heap.size 3 1 (.slice (some ⟨w4.heap.size, 0, none⟩) 0 0) 0 [] := by rw [← hW4]; exact made_at' w4 w4.heap.size w.heap.size rfl hwl4 _
              rcases hr.used.2 with ⟨he, he0⟩ | ⟨g2, cc, cur, hv, _⟩
              · injection he with h1 h2 h3
                subst h1 h2 h3
                have hU0 : y.U = [] := List.length_eq_zero_iff.1 hun
                have H9 := Lib.hid (And.intro hm4 hB5)
                clear sX cS hb4 hr hB4 hm4 hB5
                refine Lib.hid ?_
                go_wp2
                go_ret
                exact ⟨_, _, _, rfl, by rw [hy, hU0]; exact H9.out.1, H9.out.2⟩
              · injection hv with h1 h2 h3
                subst h1 h3
                clear h2
                have HNW := Lib.hid (news_of' w4 (Row.of_own hr.used))
                have H9 := Lib.hid (And.intro hm4 hB5)
                have hl8 : (ivs y.U).length = n2 * 1 := by simp [ivs, hun]
                rw [hun] at hsm
                clear sX cS hb4 hr hB4 hm4 hB5
                refine Lib.hid ?_
                go_wp2_with (at_builtin; refine wpList_append_own_at _ rfl _ _ 25 rfl w.heap.size 3 i0 (.int .i64 0) 1 8 Tryz.underlying25 hi hz0 hz1 hz2 rfl (by decide) _ _ _ rfl H9.out.1 ⟨g2, 0, none⟩ n2 _ (ivs y.U) rfl hl8 (by rw [← hW4]; exact HNW.out) (ivs_one' y.U) (by unfold maxLen; omega) (by omega) (by rw [← hW4]; simp; omega) ?_; intro v9 w9 hown9 hgrow9 _ hat9; refine Hid.out ?_)
                rw [Nat.zero_add, List.nil_append] at hown9
                obtain ⟨ad9, cp9, rfl⟩ := own_slice' hown9
                have hB9 := H9.out.2.grown hgrow9 H9.out.2.size (fun k hk => by cases hk; exact hwl4)
                have HO9 := Lib.hid hown9
                clear hown9 hgrow9 hat9
                refine Lib.hid ?_
                go_wp2
                go_ret
                exact ⟨_, _, _, rfl, by rw [hy]; exact HO9.out, hB9⟩
end Go.Proofs.YtndpadnjjbbkkaaGreat.exe
