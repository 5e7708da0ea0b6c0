/- Several texts in one: ExeH ExeK. -/
import Derived.Test.YtekdnhhmiabngaaGreatGHub12
import Derived.Test.YtekdnhhmiabngaaGreatGHub5
import Derived.BigQuiet

/- The model's TaskEffect: what the plain relation says, in new memory; nothing that was there is written. -/
namespace Go.Proofs.YtekdnhhmiabngaaGreat.exe
open Go Go.ChangeShapes Go.WideShapes Go.ChangeAt Go.RowKit Go.Proofs.YtekdnhhmiabngaaGreat.row Go.Proofs.YtekdnhhmiabngaaGreat.val Go.Proofs.YtekdnhhmiabngaaGreat.expr Go.Proofs.YtekdnhhmiabngaaGreat.stm Go.Proofs.YtekdnhhmiabngaaGreat.blk Go.Proofs.YtekdnhhmiabngaaGreat.prg Go.Proofs.YtekdnhhmiabngaaGreat.sets
set_option maxHeartbeats 8000000 in
set_option maxRecDepth 100000 in
theorem spec_taskeffect (a : Option Addr) (n cap : Nat) (P : List Tk) (hz : Sizes P) (w : World) (h : TkRow w a n P) (ad : Option Addr) (nv cv : Nat) (V : List Int) (hnv : (nv : Int) ≤ 1048576) (hV : Row w ad nv V) (ay : Option Addr) (ny cy : Nat) (Y : List Int) (hny : (ny : Int) ≤ 1048576) (hY : Row w ay ny Y)
    (i : Int) (r : Bool) (E : Eff) (hE : EffIs P V Y i r E) :
    Calls Tryz.prog 25 #[.agg #[.slice a n cap], .int .i64 i, .slice ad nv cv, .slice ay ny cy] w (NewEffB w r E) := by
  obtain ⟨W, hW⟩ : ∃ W, (w.alloc (.cells #[.slice a n cap] 26)).alloc (.cells zero4E 37) = W := ⟨_, rfl⟩
  have hBW : Below w.heap.size w W := by rw [← hW]; exact below_then (below_new w _) (below_new _ _)
  have hpx : Box w.heap.size #[.slice a n cap] 26 W := by rw [← hW]; exact (Box.new w _ _).alloc _
  have hex : Box (w.heap.size + 1) zero4E 37 W := by
    have h9 := Box.new (w.alloc (.cells #[.slice a n cap] 26)) zero4E 37
    rw [World.size_alloc] at h9
    rw [← hW]; exact h9
  have hWl : w.heap.size < W.heap.size ∧ w.heap.size + 1 < W.heap.size := ⟨hpx.lt, hex.lt⟩
  have c0 : W.cell? ⟨w.heap.size, 0, none⟩ = some (.slice a n cap) := hpx.cell 0
  have hlen := h.1
  have HZ := Lib.hid hz
  have HEI := Lib.hid hE
  have H0 := Lib.hid (And.intro hpx (And.intro hex (And.intro hBW (And.intro (h.below hBW) (And.intro (hV.below hBW) (hY.below hBW))))))
  have hn : (n : Int) ≤ 1048576 := by have := hz.1; omega
  clear hpx hex hBW h hV hY hz hE
  obtain ⟨rp, hrp⟩ := prg_dec P
  have HRP := Lib.hid hrp
  cases rp
  · clear hrp
    obtain ⟨rfl, rfl⟩ : r = false ∧ E = zeroEff := by
      rcases HEI.out with ⟨h1, h2, _⟩ | ⟨_, t, T, h, _⟩
      · exact ⟨h1, h2⟩
      · exact (h.not (.inl (fun hp => by have := HRP.out.2 hp; cases this))).elim
    go_enter Tryz.func25, Tryz.ntmps25
    go_wp2_with (go_at_call 68; (with_reducible refine (spec_programok a n cap P HZ.out _ H0.out.2.2.2.1 false HRP.out).mono ?_); rintro e w2 ⟨rfl, hb2⟩; refine Hid.out ?_)
    have HB2 := Lib.hid hb2
    have d0 : w2.cell? ⟨w.heap.size, 0, none⟩ = some (.slice a n cap) := (hb2.cell (p := ⟨w.heap.size, 0, none⟩) hWl.1).trans (H0.out.1.cell 0)
    have HX2 := Lib.hid (H0.out.2.1.below hb2)
    clear hb2 c0
    refine Lib.hid ?_
    go_wp2_with (first
      | ((refine wpList_store_box rfl 37 _ _ rfl (w.heap.size + 1) _ _ HX2.out zero4E rfl rfl rfl (by kernel_rfl) (by simp [Value.oneCell']) ?_); intro w5 hx5 hg5; refine Hid.out ?_))
    have hB5 : Below w.heap.size w w5 := (H0.out.2.2.1.trans (HB2.out.mono (by omega))).grown hg5 (Nat.le_trans (by omega) HB2.out.size) (fun k hk => by cases hk; omega)
    have H9 := Lib.hid (And.intro hx5 hB5)
    clear hx5 hg5 hB5
    refine Lib.hid ?_
    go_wp2
    refine bodyPost_ret (v := .tuple #[effV none 0 0 none 0 0 zeroEff, .bool false]) (results_box2 rfl _ _ (w.heap.size + 1) _ _ _ _ rfl rfl H9.out.1 Tryz.underlying37 rfl (by kernel_rfl)) rfl ?_
    exact ⟨_, _, _, _, _, _, rfl, ⟨World.ownsRow_nil _ _ _ _, World.ownsRow_nil _ _ _ _, .inl rfl⟩, H9.out.2⟩
  · have HPR := Lib.hid (hrp.1 rfl)
    clear hrp
    cases hv : varsOk V
    · have HV := Lib.hid hv
      clear hv
      obtain ⟨rfl, rfl⟩ : r = false ∧ E = zeroEff := by
        rcases HEI.out with ⟨h1, h2, _⟩ | ⟨_, t, T, h, _⟩
        · exact ⟨h1, h2⟩
        · exact (h.not (.inr (.inl HV.out))).elim
      go_enter Tryz.func25, Tryz.ntmps25
      go_wp2_with (go_at_call 68; (with_reducible refine (spec_programok a n cap P HZ.out _ H0.out.2.2.2.1 true HRP.out).mono ?_); rintro e w2 ⟨rfl, hb2⟩; refine Hid.out ?_)
      have HB2 := Lib.hid hb2
      have d0 : w2.cell? ⟨w.heap.size, 0, none⟩ = some (.slice a n cap) := (hb2.cell (p := ⟨w.heap.size, 0, none⟩) hWl.1).trans (H0.out.1.cell 0)
      have HX2 := Lib.hid (H0.out.2.1.below hb2)
      clear hb2 c0
      refine Lib.hid ?_
      go_wp2_with (first
        | ((refine wpList_store_box rfl 37 _ _ rfl (w.heap.size + 1) _ _ HX2.out zero4E rfl rfl rfl (by kernel_rfl) (by simp [Value.oneCell']) ?_); intro w5 hx5 hg5; refine Hid.out ?_)
        | (go_at_call 69; (with_reducible refine (spec_vars _ ad nv cv V hnv (H0.out.2.2.2.2.1.below HB2.out) false HV.out).mono ?_); rintro e w3 ⟨rfl, rfl⟩))
      have hB5 : Below w.heap.size w w5 := (H0.out.2.2.1.trans (HB2.out.mono (by omega))).grown hg5 (Nat.le_trans (by omega) HB2.out.size) (fun k hk => by cases hk; omega)
      have H9 := Lib.hid (And.intro hx5 hB5)
      clear hx5 hg5 hB5
      refine Lib.hid ?_
      go_wp2
      refine bodyPost_ret (v := .tuple #[effV none 0 0 none 0 0 zeroEff, .bool false]) (results_box2 rfl _ _ (w.heap.size + 1) _ _ _ _ rfl rfl H9.out.1 Tryz.underlying37 rfl (by kernel_rfl)) rfl ?_
      exact ⟨_, _, _, _, _, _, rfl, ⟨World.ownsRow_nil _ _ _ _, World.ownsRow_nil _ _ _ _, .inl rfl⟩, H9.out.2⟩
    · have HV := Lib.hid hv
      clear hv
      cases hi9 : (decide (0 ≤ i) && decide (i ≤ (n : Int) - 1))
      · have HIN := Lib.hid hi9
        have hin : i < 0 ∨ (n : Int) ≤ i := by simp at hi9; omega
        clear hi9
        obtain ⟨rfl, rfl⟩ : r = false ∧ E = zeroEff := by
          rcases HEI.out with ⟨h1, h2, _⟩ | ⟨_, t, T, h, _⟩
          · exact ⟨h1, h2⟩
          · exact (h.not (.inr (.inr (.inr (by rw [hlen]; exact hin))))).elim
        go_enter Tryz.func25, Tryz.ntmps25
        go_wp2_with (go_at_call 68; (with_reducible refine (spec_programok a n cap P HZ.out _ H0.out.2.2.2.1 true HRP.out).mono ?_); rintro e w2 ⟨rfl, hb2⟩; refine Hid.out ?_)
        have HB2 := Lib.hid hb2
        have d0 : w2.cell? ⟨w.heap.size, 0, none⟩ = some (.slice a n cap) := (hb2.cell (p := ⟨w.heap.size, 0, none⟩) hWl.1).trans (H0.out.1.cell 0)
        have HX2 := Lib.hid (H0.out.2.1.below hb2)
        clear hb2 c0
        refine Lib.hid ?_
        go_wp2_with (first
          | ((refine wpList_store_box rfl 37 _ _ rfl (w.heap.size + 1) _ _ HX2.out zero4E rfl rfl rfl (by kernel_rfl) (by simp [Value.oneCell']) ?_); intro w5 hx5 hg5; refine Hid.out ?_)
          | (go_at_call 69; (with_reducible refine (spec_vars _ ad nv cv V hnv (H0.out.2.2.2.2.1.below HB2.out) true HV.out).mono ?_); rintro e w3 ⟨rfl, rfl⟩)
          | (go_at_call 70; (with_reducible refine (in_any _ 0 _ false HIN.out _).mono ?_); rintro e w3 ⟨rfl, rfl⟩))
        have hB5 : Below w.heap.size w w5 := (H0.out.2.2.1.trans (HB2.out.mono (by omega))).grown hg5 (Nat.le_trans (by omega) HB2.out.size) (fun k hk => by cases hk; omega)
        have H9 := Lib.hid (And.intro hx5 hB5)
        clear hx5 hg5 hB5
        refine Lib.hid ?_
        go_wp2
        refine bodyPost_ret (v := .tuple #[effV none 0 0 none 0 0 zeroEff, .bool false]) (results_box2 rfl _ _ (w.heap.size + 1) _ _ _ _ rfl rfl H9.out.1 Tryz.underlying37 rfl (by kernel_rfl)) rfl ?_
        exact ⟨_, _, _, _, _, _, rfl, ⟨World.ownsRow_nil _ _ _ _, World.ownsRow_nil _ _ _ _, .inl rfl⟩, H9.out.2⟩
      · have HIN := Lib.hid hi9
        have hin : 0 ≤ i ∧ i < n := by simp at hi9; omega
        clear hi9
        cases hy9 : allV Y
        · have HY := Lib.hid hy9
          clear hy9
          obtain ⟨rfl, rfl⟩ : r = false ∧ E = zeroEff := by
            rcases HEI.out with ⟨h1, h2, _⟩ | ⟨_, t, T, h, _⟩
            · exact ⟨h1, h2⟩
            · exact (h.not (.inr (.inr (.inl HY.out)))).elim
          go_enter Tryz.func25, Tryz.ntmps25
          go_wp2_with (go_at_call 68; (with_reducible refine (spec_programok a n cap P HZ.out _ H0.out.2.2.2.1 true HRP.out).mono ?_); rintro e w2 ⟨rfl, hb2⟩; refine Hid.out ?_)
          have HB2 := Lib.hid hb2
          have d0 : w2.cell? ⟨w.heap.size, 0, none⟩ = some (.slice a n cap) := (hb2.cell (p := ⟨w.heap.size, 0, none⟩) hWl.1).trans (H0.out.1.cell 0)
          have HX2 := Lib.hid (H0.out.2.1.below hb2)
          clear hb2 c0
          refine Lib.hid ?_
          go_wp2_with (first
            | ((refine wpList_store_box rfl 37 _ _ rfl (w.heap.size + 1) _ _ HX2.out zero4E rfl rfl rfl (by kernel_rfl) (by simp [Value.oneCell']) ?_); intro w5 hx5 hg5; refine Hid.out ?_)
            | (go_at_call 69; (with_reducible refine (spec_vars _ ad nv cv V hnv (H0.out.2.2.2.2.1.below HB2.out) true HV.out).mono ?_); rintro e w3 ⟨rfl, rfl⟩)
            | (go_at_call 70; (with_reducible refine (in_any _ 0 _ true HIN.out _).mono ?_); rintro e w3 ⟨rfl, rfl⟩)
            | (go_at_call 71; (with_reducible refine (spec_vals _ ay ny cy Y hny (H0.out.2.2.2.2.2.below HB2.out) false HY.out).mono ?_); rintro e w3 ⟨rfl, rfl⟩))
          have hB5 : Below w.heap.size w w5 := (H0.out.2.2.1.trans (HB2.out.mono (by omega))).grown hg5 (Nat.le_trans (by omega) HB2.out.size) (fun k hk => by cases hk; omega)
          have H9 := Lib.hid (And.intro hx5 hB5)
          clear hx5 hg5 hB5
          refine Lib.hid ?_
          go_wp2
          refine bodyPost_ret (v := .tuple #[effV none 0 0 none 0 0 zeroEff, .bool false]) (results_box2 rfl _ _ (w.heap.size + 1) _ _ _ _ rfl rfl H9.out.1 Tryz.underlying37 rfl (by kernel_rfl)) rfl ?_
          exact ⟨_, _, _, _, _, _, rfl, ⟨World.ownsRow_nil _ _ _ _, World.ownsRow_nil _ _ _ _, .inl rfl⟩, H9.out.2⟩
        · have HY := Lib.hid hy9
          clear hy9
          obtain ⟨j, rfl⟩ : ∃ j : Nat, i = j := ⟨i.toNat, by omega⟩
          obtain ⟨t, T, _, hT⟩ := taskAt_ex HPR.out HV.out HY.out (show j < P.length by omega)
          obtain ⟨rfl, rfl⟩ := HEI.out.at hT
          have HTA := Lib.hid hT
          clear hT
          go_enter Tryz.func25, Tryz.ntmps25
          go_wp2_with (go_at_call 68; (with_reducible refine (spec_programok a n cap P HZ.out _ H0.out.2.2.2.1 true HRP.out).mono ?_); rintro e w2 ⟨rfl, hb2⟩; refine Hid.out ?_)
          have HB2 := Lib.hid hb2
          have d0 : w2.cell? ⟨w.heap.size, 0, none⟩ = some (.slice a n cap) := (hb2.cell (p := ⟨w.heap.size, 0, none⟩) hWl.1).trans (H0.out.1.cell 0)
          have HX2 := Lib.hid (H0.out.2.1.below hb2)
          clear hb2 c0
          refine Lib.hid ?_
          go_wp2_with (first
            | (go_at_call 69; (with_reducible refine (spec_vars _ ad nv cv V hnv (H0.out.2.2.2.2.1.below HB2.out) true HV.out).mono ?_); rintro e w3 ⟨rfl, rfl⟩)
            | (go_at_call 70; (with_reducible refine (in_any _ 0 _ true HIN.out _).mono ?_); rintro e w3 ⟨rfl, rfl⟩)
            | (go_at_call 71; (with_reducible refine (spec_vals _ ay ny cy Y hny (H0.out.2.2.2.2.2.below HB2.out) true HY.out).mono ?_); rintro e w3 ⟨rfl, rfl⟩)
            | (go_at_call 72; (with_reducible refine (spec_effect a n cap P HZ.out _ (H0.out.2.2.2.1.below HB2.out) ad nv cv V (H0.out.2.2.2.2.1.below HB2.out) ay ny cy Y hny (H0.out.2.2.2.2.2.below HB2.out) j t T HTA.out).mono ?_); rintro e w3 ⟨a1, n1, c1, a2, n2, c2, rfl, hm, hb3⟩; refine Hid.out ?_))
          have HX3 := Lib.hid (HX2.out.below hb3)
          have HB3 := Lib.hid (HB2.out.trans (hb3.mono HB2.out.size))
          have HM := Lib.hid hm
          clear hm hb3 d0
          refine Lib.hid ?_
          go_wp2_with ((refine wpList_store_box rfl 37 _ _ rfl (w.heap.size + 1) _ _ HX3.out #[.slice a1 n1 c1, .slice a2 n2 c2, .int .i64 (effOf P t (exec (listSrc Y) T ⟨V, [], []⟩)).N, .int .i64 (effOf P t (exec (listSrc Y) T ⟨V, [], []⟩)).U] rfl rfl rfl (by kernel_rfl) (by simp [Value.oneCell']) ?_); intro w5 hx5 hg5; refine Hid.out ?_)
          have hB5 : Below w.heap.size w w5 := (H0.out.2.2.1.trans (HB3.out.mono (by omega))).grown hg5 (Nat.le_trans (by omega) HB3.out.size) (fun k hk => by cases hk; omega)
          have hW2 : W.heap.size ≤ w2.heap.size := HB2.out.size
          have hlo : ∀ {v : Value} {m : Nat} {xs : List Value}, w3.ownsRow w2.heap.size 3 1 v m xs → w5.ownsRow w.heap.size 3 1 v m xs := fun {v m xs} h => (h.kept hg5 (.inr (fun e => by have := (h.lt _ e).1; omega))).mono (by omega)
          have H9 := Lib.hid (And.intro hx5 (And.intro hB5 (And.intro (hlo HM.out.1) (And.intro (hlo HM.out.2.1) HM.out.2.2))))
          clear hx5 hg5 hB5 hlo
          refine Lib.hid ?_
          go_wp2
          refine bodyPost_ret (v := .tuple #[effV a1 n1 c1 a2 n2 c2 (effOf P t (exec (listSrc Y) T ⟨V, [], []⟩)), .bool true]) (results_box2 rfl _ _ (w.heap.size + 1) _ _ _ _ rfl rfl H9.out.1 Tryz.underlying37 rfl (by kernel_rfl)) rfl ?_
          exact ⟨_, _, _, _, _, _, rfl, ⟨H9.out.2.2.1, H9.out.2.2.2.1, H9.out.2.2.2.2⟩, H9.out.2.1⟩
end Go.Proofs.YtekdnhhmiabngaaGreat.exe

/- The law's comparison of two effects, its marks in an effect of its own and its look at them. -/
namespace Go.Proofs.YtekdnhhmiabngaaGreat.exe
open Go Go.ChangeShapes Go.WideShapes Go.ChangeAt Go.RowKit Go.Proofs.YtekdnhhmiabngaaGreat.row Go.Proofs.YtekdnhhmiabngaaGreat.val Go.Proofs.YtekdnhhmiabngaaGreat.expr Go.Proofs.YtekdnhhmiabngaaGreat.mrk

set_option maxHeartbeats 4000000 in
theorem eqeff_any (w : World) (E : Eff) (a1 : Option Addr) (n1 c1 : Nat) (a2 : Option Addr) (n2 c2 : Nat) (b1 : Option Addr) (d1 : Nat) (b2 : Option Addr) (d2 : Nat) (hn1 : (n1 : Int) ≤ 1048576) (hn2 : (n2 : Int) ≤ 1048576)
    (r1 : Row w a1 n1 E.V) (r2 : Row w a2 n2 E.S) (s1 : Row w b1 n1 E.V) (s2 : Row w b2 n2 E.S) :
    Calls Tryz.prog 28 #[effV a1 n1 c1 a2 n2 c2 E, effV b1 n1 d1 b2 n2 d2 E] w (BelB w true) := by
  obtain ⟨V, S, N, U⟩ := E
  show Calls Tryz.prog 28 #[.agg #[.slice a1 n1 c1, .slice a2 n2 c2, .int .i64 N, .int .i64 U], .agg #[.slice b1 n1 d1, .slice b2 n2 d2, .int .i64 N, .int .i64 U]] w (BelB w true)
  obtain ⟨W, hW⟩ : ∃ W, (w.alloc (.cells #[.slice a1 n1 c1, .slice a2 n2 c2, .int .i64 N, .int .i64 U] 37)).alloc (.cells #[.slice b1 n1 d1, .slice b2 n2 d2, .int .i64 N, .int .i64 U] 37) = W := ⟨_, rfl⟩
  have hBW : Below w.heap.size w W := by rw [← hW]; exact below_then (below_new w _) (below_new _ _)
  have hx : Box w.heap.size #[.slice a1 n1 c1, .slice a2 n2 c2, .int .i64 N, .int .i64 U] 37 W := by rw [← hW]; exact (Box.new w _ _).alloc _
  have hy : Box (w.heap.size + 1) #[.slice b1 n1 d1, .slice b2 n2 d2, .int .i64 N, .int .i64 U] 37 W := by
    have h9 := Box.new (w.alloc (.cells #[.slice a1 n1 c1, .slice a2 n2 c2, .int .i64 N, .int .i64 U] 37)) #[.slice b1 n1 d1, .slice b2 n2 d2, .int .i64 N, .int .i64 U] 37
    rw [World.size_alloc] at h9
    rw [← hW]; exact h9
  have H0 := Lib.hid (And.intro hBW (And.intro (r1.below hBW) (And.intro (r2.below hBW) (And.intro (s1.below hBW) (s2.below hBW)))))
  have x0 : W.cell? ⟨w.heap.size, 0, none⟩ = some (.slice a1 n1 c1) := hx.cell 0
  have y0 : W.cell? ⟨w.heap.size + 1, 0, none⟩ = some (.slice b1 n1 d1) := hy.cell 0
  have HX := Lib.hid (And.intro hx hy)
  clear hBW r1 r2 s1 s2 hx hy
  go_enter Tryz.func28, Tryz.ntmps28
  go_wp2_with (go_at_call 30; (with_reducible refine (eqInts_any _ a1 b1 n1 c1 d1 V hn1 H0.out.2.1 H0.out.2.2.2.1).mono ?_); rintro e w2 ⟨rfl, hg2⟩; refine Hid.out ?_)
  have hb2 : Below W.heap.size W w2 := (Below.refl _ W).grown hg2 (Nat.le_refl _) (fun k hk => by cases hk)
  have hX2 := HX.out.1.below hb2
  have hY2 := HX.out.2.below hb2
  have H2 := Lib.hid (And.intro (below_then H0.out.1 hb2) (And.intro (H0.out.2.2.1.below hb2) (H0.out.2.2.2.2.below hb2)))
  have x1 : w2.cell? ⟨w.heap.size, 1, none⟩ = some (.slice a2 n2 c2) := hX2.cell 1
  have y1 : w2.cell? ⟨w.heap.size + 1, 1, none⟩ = some (.slice b2 n2 d2) := hY2.cell 1
  have HX2 := Lib.hid (And.intro hX2 hY2)
  clear hg2 hb2 x0 y0 hX2 hY2
  refine Lib.hid ?_
  go_wp2_with (go_at_call 30; (with_reducible refine (eqInts_any _ a2 b2 n2 c2 d2 S hn2 H2.out.2.1 H2.out.2.2).mono ?_); rintro e w3 ⟨rfl, hg3⟩; refine Hid.out ?_)
  have hb3 : Below w2.heap.size w2 w3 := (Below.refl _ w2).grown hg3 (Nat.le_refl _) (fun k hk => by cases hk)
  have hX3 := HX2.out.1.below hb3
  have hY3 := HX2.out.2.below hb3
  have x2 : w3.cell? ⟨w.heap.size, 2, none⟩ = some (.int .i64 N) := hX3.cell 2
  have y2 : w3.cell? ⟨w.heap.size + 1, 2, none⟩ = some (.int .i64 N) := hY3.cell 2
  have x3 : w3.cell? ⟨w.heap.size, 3, none⟩ = some (.int .i64 U) := hX3.cell 3
  have y3 : w3.cell? ⟨w.heap.size + 1, 3, none⟩ = some (.int .i64 U) := hY3.cell 3
  have HB3 := Lib.hid (below_then H2.out.1 hb3)
  clear hg3 hb3 x1 y1 hX3 hY3
  refine Lib.hid ?_
  go_wp2
  go_ret
  exact ⟨rfl, HB3.out⟩
theorem okn (ad : Option Addr) (n c : Nat) : (Value.slice ad n c).ownBlock = none ∨ (Value.slice ad n c).ownBlock ≠ none := by cases ad <;> simp [Value.ownBlock]
theorem bf_own {lo hi : Nat} {w wr w' : World} {r : Option Nat} (h : Below lo w wr ∧ Far hi w wr) (hs : w.heap.size ≤ wr.heap.size) (hlo : lo ≤ w.heap.size) (hg : wr.grownBy w' r) (hr : ∀ q, r = some q → lo ≤ q ∧ q < hi) : Below lo w w' ∧ Far hi w w' :=
  ⟨h.1.grown hg (Nat.le_trans hlo hs) (fun q hq => (hr q hq).1), fun b hb hbw => (hg.block b (by omega) (fun e => by have := (hr b e.symm).2; omega)).trans (h.2 b hb hbw)⟩
/-- What the marks leave. -/
def MarkE (B lo hi : Nat) (w : World) (a1 : Option Addr) (n1 c1 : Nat) (a2 : Option Addr) (n2 c2 : Nat) (q : Nat) (e : Ending) (w' : World) : Prop :=
  e = .returned (.int .i64 ((q + n1 + n2 : Nat) : Int)) ∧ (Below lo w w' ∧ Far hi w w') ∧ w.heap.size ≤ w'.heap.size ∧ ∃ L1 L2 : List Int, Hid (w'.ownsRow B 3 1 (.slice a1 n1 c1) n1 (ivs L1) ∧ w'.ownsRow B 3 1 (.slice a2 n2 c2) n2 (ivs L2) ∧ Marked L1 q n1 ∧ Marked L2 (q + n1) n2)
set_option maxHeartbeats 4000000 in
theorem markeff_any (B lo hi : Nat) (w : World) (a1 : Option Addr) (n1 c1 : Nat) (a2 : Option Addr) (n2 c2 : Nat) (E : Eff) (q : Nat) (hn1 : (n1 : Int) ≤ 1048576) (hn2 : (n2 : Int) ≤ 1048576) (hq : (q : Int) ≤ 1000000000) (hlo : lo ≤ w.heap.size) (hhi : hi ≤ w.heap.size) (h1 : ∀ g, (Value.slice a1 n1 c1).ownBlock = some g → lo ≤ g ∧ g < hi) (h2 : ∀ g, (Value.slice a2 n2 c2).ownBlock = some g → lo ≤ g ∧ g < hi)
    (hm : EffMem B a1 n1 c1 a2 n2 c2 E w) :
    Calls Tryz.prog 33 #[effV a1 n1 c1 a2 n2 c2 E, .int .i64 q] w (MarkE B lo hi w a1 n1 c1 a2 n2 c2 q) := by
  obtain ⟨V, S, N, U⟩ := E
  show Calls Tryz.prog 33 #[.agg #[.slice a1 n1 c1, .slice a2 n2 c2, .int .i64 N, .int .i64 U], .int .i64 q] w (MarkE B lo hi w a1 n1 c1 a2 n2 c2 q)
  obtain ⟨W, hW⟩ : ∃ W, w.alloc (.cells #[.slice a1 n1 c1, .slice a2 n2 c2, .int .i64 N, .int .i64 U] 37) = W := ⟨_, rfl⟩
  have hBW : Below w.heap.size w W := by rw [← hW]; exact below_new w _
  have hx : Box w.heap.size #[.slice a1 n1 c1, .slice a2 n2 c2, .int .i64 N, .int .i64 U] 37 W := by rw [← hW]; exact Box.new w _ _
  have H0 := Lib.hid (And.intro hBW (And.intro hx (And.intro (hm.1.kept (grown_below hBW none) (okn _ _ _)) (hm.2.1.kept (grown_below hBW none) (okn _ _ _)))))
  have HAP := Lib.hid hm.2.2
  have H12 := Lib.hid (And.intro h1 h2)
  have x0 : W.cell? ⟨w.heap.size, 0, none⟩ = some (.slice a1 n1 c1) := hx.cell 0
  clear hBW hx hm h1 h2
  go_enter Tryz.func33, Tryz.ntmps33
  go_wp2_with (go_at_call 32; refine (markInts_wide _ _ _ _ _ q _ hn1 (by omega) H0.out.2.2.1).mono ?_; rintro e w2 ⟨rfl, hg2, L1, ho1, hM1⟩; refine Hid.out ?_)
  have hbf0 : Below lo w W ∧ Far hi w W := ⟨H0.out.1.mono hlo, fun b _ hb => H0.out.1.block b hb⟩
  have H2 := Lib.hid (And.intro (bf_own hbf0 H0.out.1.size hlo hg2 H12.out.1) (And.intro (H0.out.2.1.grown hg2 (fun e => by have := (H12.out.1 _ e.symm).2; omega)) (And.intro ho1 (And.intro (H0.out.2.2.2.kept hg2 (by
      cases hq2 : (Value.slice a2 n2 c2).ownBlock with
      | none => exact .inl rfl
      | some g =>
        right; intro e
        rcases HAP.out with h | h
        · rw [h] at e; cases e
        · exact h (by rw [hq2]; exact e.symm))) (Nat.le_trans H0.out.1.size hg2.size)))))
  have HM1 := Lib.hid hM1
  have x1 : w2.cell? ⟨w.heap.size, 1, none⟩ = some (.slice a2 n2 c2) := H2.out.2.1.cell 1
  clear hg2 ho1 hM1 hbf0 x0
  refine Lib.hid ?_
  go_wp2_with (go_at_call 32; refine (markInts_wide _ _ _ _ _ (q + n1) _ hn2 (by omega) H2.out.2.2.2.1).mono ?_; rintro e w3 ⟨rfl, hg3, L2, ho2, hM2⟩; refine Hid.out ?_)
  have H3 := Lib.hid (And.intro (bf_own H2.out.1 H2.out.2.2.2.2 hlo hg3 H12.out.2) (And.intro (Nat.le_trans H2.out.2.2.2.2 hg3.size) (And.intro (H2.out.2.2.1.kept hg3 HAP.out) ho2)))
  have HM2 := Lib.hid hM2
  clear hg3 ho2 hM2 x1
  refine Lib.hid ?_
  go_wp2
  go_ret
  exact ⟨rfl, H3.out.1, H3.out.2.1, L1, L2, H3.out.2.2.1, H3.out.2.2.2, HM1.out, HM2.out⟩
set_option maxHeartbeats 4000000 in
theorem heldeff_any (w : World) (a1 : Option Addr) (n1 c1 : Nat) (a2 : Option Addr) (n2 c2 : Nat) (N U : Int) (q : Nat) (L1 L2 : List Int) (hn1 : (n1 : Int) ≤ 1048576) (hn2 : (n2 : Int) ≤ 1048576) (hq : (q : Int) ≤ 1000000000) (h1 : Row w a1 n1 L1) (h2 : Row w a2 n2 L2) (hM1 : Marked L1 q n1) (hM2 : Marked L2 (q + n1) n2) :
    Calls Tryz.prog 34 #[.agg #[.slice a1 n1 c1, .slice a2 n2 c2, .int .i64 N, .int .i64 U], .int .i64 q] w fun e w' => e = .returned (.int .i64 ((q + n1 + n2 : Nat) : Int)) ∧ Below w.heap.size w w' := by
  obtain ⟨W, hW⟩ : ∃ W, w.alloc (.cells #[.slice a1 n1 c1, .slice a2 n2 c2, .int .i64 N, .int .i64 U] 37) = W := ⟨_, rfl⟩
  have hBW : Below w.heap.size w W := by rw [← hW]; exact below_new w _
  have hx : Box w.heap.size #[.slice a1 n1 c1, .slice a2 n2 c2, .int .i64 N, .int .i64 U] 37 W := by rw [← hW]; exact Box.new w _ _
  have H0 := Lib.hid (And.intro hBW (And.intro hx (And.intro (h1.below hBW) (h2.below hBW))))
  have HMM := Lib.hid (And.intro hM1 hM2)
  have x0 : W.cell? ⟨w.heap.size, 0, none⟩ = some (.slice a1 n1 c1) := hx.cell 0
  have k1 : ¬ ((q + n1 : Nat) : Int) < 0 := by omega
  have k2 : ¬ ((q + n1 + n2 : Nat) : Int) < 0 := by omega
  clear hBW hx h1 h2 hM1 hM2
  go_enter Tryz.func34, Tryz.ntmps34
  go_wp2_with (go_at_call 37; refine (heldInts_any _ _ _ _ q _ hn1 (by omega) H0.out.2.2.1 HMM.out.1).mono ?_; rintro e w2 ⟨rfl, hg2⟩; refine Hid.out ?_)
  have hb2 := below_grown hg2
  have H2 := Lib.hid (And.intro (below_then H0.out.1 hb2) (And.intro (H0.out.2.1.below hb2) (H0.out.2.2.2.below hb2)))
  have x1 : w2.cell? ⟨w.heap.size, 1, none⟩ = some (.slice a2 n2 c2) := H2.out.2.1.cell 1
  clear hg2 hb2 x0
  refine Lib.hid ?_
  go_wp2_with (go_at_call 37; refine (heldInts_any _ _ _ _ (q + n1) _ hn2 (by omega) H2.out.2.2 HMM.out.2).mono ?_; rintro e w3 ⟨rfl, hg3⟩; refine Hid.out ?_)
  have HB3 := Lib.hid (below_then H2.out.1 (below_grown hg3))
  clear hg3 x1
  refine Lib.hid ?_
  go_wp2
  go_ret
  exact ⟨rfl, HB3.out⟩
end Go.Proofs.YtekdnhhmiabngaaGreat.exe
