/- Several texts in one: ExeH. -/
import Derived.Test.YtmgeecdgebemdaaGreatDoorGSig46

/- The model's TaskEffect: what the plain relation says, in new memory; nothing that was there is written. -/
namespace Go.Proofs.YtmgeecdgebemdaaGreatDoor.exe
open Go Go.ChangeShapes Go.WideShapes Go.ChangeAt Go.RowKit Go.Proofs.YtmgeecdgebemdaaGreatDoor.row Go.Proofs.YtmgeecdgebemdaaGreatDoor.val Go.Proofs.YtmgeecdgebemdaaGreatDoor.expr Go.Proofs.YtmgeecdgebemdaaGreatDoor.stm Go.Proofs.YtmgeecdgebemdaaGreatDoor.blk Go.Proofs.YtmgeecdgebemdaaGreatDoor.prg Go.Proofs.YtmgeecdgebemdaaGreatDoor.sets
set_option maxHeartbeats 8000000 in
set_option maxRecDepth 100000 in
theorem spec_taskeffect (a : Option Addr) (n cap : Nat) (P : List Tk) (hz : Sizes P) (w : World) (h : TkRow w a n P) (ad : Option Addr) (nv cv : Nat) (V : List Int) (hnv : (nv : Int) ≤ 1048576) (hV : Row w ad nv V) (ay : Option Addr) (ny cy : Nat) (Y : List Int) (hny : (ny : Int) ≤ 1048576) (hY : Row w ay ny Y)
    (i : Int) (r : Bool) (E : Eff) (hE : EffIs P V Y i r E) :
    Calls Tryz.prog 31 #[.agg #[.slice a n cap], .int .i64 i, .slice ad nv cv, .slice ay ny cy] w (NewEffB w r E) := by
  obtain ⟨W, hW⟩ : ∃ W, (w.alloc (.cells #[.slice a n cap] 26)).alloc (.cells zero4E 60) = W := ⟨_, rfl⟩
  have hBW : Below w.heap.size w W := by rw [← hW]; exact below_then (below_new w _) (below_new _ _)
  have hpx : Box w.heap.size #[.slice a n cap] 26 W := by rw [← hW]; exact (Box.new w _ _).alloc _
  have hex : Box (w.heap.size + 1) zero4E 60 W := by
    have h9 := Box.new (w.alloc (.cells #[.slice a n cap] 26)) zero4E 60
    rw [World.size_alloc] at h9
    rw [← hW]; exact h9
  have hWl : w.heap.size < W.heap.size ∧ w.heap.size + 1 < W.heap.size := ⟨hpx.lt, hex.lt⟩
  have c0 : W.cell? ⟨w.heap.size, 0, none⟩ = some (.slice a n cap) := hpx.cell 0
  have hlen := h.1
  have HZ := Lib.hid hz
  have HEI := Lib.hid hE
  have H0 := Lib.hid (And.intro hpx (And.intro hex (And.intro hBW (And.intro (h.below hBW) (And.intro (hV.below hBW) (hY.below hBW))))))
  have hn : (n : Int) ≤ 1048576 := by have := hz.1; omega
  clear hpx hex hBW h hV hY hz hE
  obtain ⟨rp, hrp⟩ := prg_dec P
  have HRP := Lib.hid hrp
  cases rp
  · clear hrp
    obtain ⟨rfl, rfl⟩ : r = false ∧ E = zeroEff := by
      rcases HEI.out with ⟨h1, h2, _⟩ | ⟨_, t, T, h, _⟩
      · exact ⟨h1, h2⟩
      · exact (h.not (.inl (fun hp => by have := HRP.out.2 hp; cases this))).elim
    go_enter Tryz.func31, Tryz.ntmps31
    go_wp2_with (go_at_call 87; (with_reducible refine (spec_programok a n cap P HZ.out _ H0.out.2.2.2.1 false HRP.out).mono ?_); rintro e w2 ⟨rfl, hb2⟩; refine Hid.out ?_)
    have HB2 := Lib.hid hb2
    have d0 : w2.cell? ⟨w.heap.size, 0, none⟩ = some (.slice a n cap) := (hb2.cell (p := ⟨w.heap.size, 0, none⟩) hWl.1).trans (H0.out.1.cell 0)
    have HX2 := Lib.hid (H0.out.2.1.below hb2)
    clear hb2 c0
    refine Lib.hid ?_
    go_wp2_with (first
      | ((refine wpList_store_box rfl 60 _ _ rfl (w.heap.size + 1) _ _ HX2.out zero4E rfl rfl rfl (by kernel_rfl) (by simp [Value.oneCell']) ?_); intro w5 hx5 hg5; refine Hid.out ?_))
    have hB5 : Below w.heap.size w w5 := (H0.out.2.2.1.trans (HB2.out.mono (by omega))).grown hg5 (Nat.le_trans (by omega) HB2.out.size) (fun k hk => by cases hk; omega)
    have H9 := Lib.hid (And.intro hx5 hB5)
    clear hx5 hg5 hB5
    refine Lib.hid ?_
    go_wp2
    refine bodyPost_ret (v := .tuple #[effV none 0 0 none 0 0 zeroEff, .bool false]) (results_box2 rfl _ _ (w.heap.size + 1) _ _ _ _ rfl rfl H9.out.1 Tryz.underlying60 rfl (by kernel_rfl)) rfl ?_
    exact ⟨_, _, _, _, _, _, rfl, ⟨World.ownsRow_nil _ _ _ _, World.ownsRow_nil _ _ _ _, .inl rfl⟩, H9.out.2⟩
  · have HPR := Lib.hid (hrp.1 rfl)
    clear hrp
    cases hv : varsOk V
    · have HV := Lib.hid hv
      clear hv
      obtain ⟨rfl, rfl⟩ : r = false ∧ E = zeroEff := by
        rcases HEI.out with ⟨h1, h2, _⟩ | ⟨_, t, T, h, _⟩
        · exact ⟨h1, h2⟩
        · exact (h.not (.inr (.inl HV.out))).elim
      go_enter Tryz.func31, Tryz.ntmps31
      go_wp2_with (go_at_call 87; (with_reducible refine (spec_programok a n cap P HZ.out _ H0.out.2.2.2.1 true HRP.out).mono ?_); rintro e w2 ⟨rfl, hb2⟩; refine Hid.out ?_)
      have HB2 := Lib.hid hb2
      have d0 : w2.cell? ⟨w.heap.size, 0, none⟩ = some (.slice a n cap) := (hb2.cell (p := ⟨w.heap.size, 0, none⟩) hWl.1).trans (H0.out.1.cell 0)
      have HX2 := Lib.hid (H0.out.2.1.below hb2)
      clear hb2 c0
      refine Lib.hid ?_
      go_wp2_with (first
        | ((refine wpList_store_box rfl 60 _ _ rfl (w.heap.size + 1) _ _ HX2.out zero4E rfl rfl rfl (by kernel_rfl) (by simp [Value.oneCell']) ?_); intro w5 hx5 hg5; refine Hid.out ?_)
        | (go_at_call 88; (with_reducible refine (spec_vars _ ad nv cv V hnv (H0.out.2.2.2.2.1.below HB2.out) false HV.out).mono ?_); rintro e w3 ⟨rfl, rfl⟩))
      have hB5 : Below w.heap.size w w5 := (H0.out.2.2.1.trans (HB2.out.mono (by omega))).grown hg5 (Nat.le_trans (by omega) HB2.out.size) (fun k hk => by cases hk; omega)
      have H9 := Lib.hid (And.intro hx5 hB5)
      clear hx5 hg5 hB5
      refine Lib.hid ?_
      go_wp2
      refine bodyPost_ret (v := .tuple #[effV none 0 0 none 0 0 zeroEff, .bool false]) (results_box2 rfl _ _ (w.heap.size + 1) _ _ _ _ rfl rfl H9.out.1 Tryz.underlying60 rfl (by kernel_rfl)) rfl ?_
      exact ⟨_, _, _, _, _, _, rfl, ⟨World.ownsRow_nil _ _ _ _, World.ownsRow_nil _ _ _ _, .inl rfl⟩, H9.out.2⟩
    · have HV := Lib.hid hv
      clear hv
      cases hi9 : (decide (0 ≤ i) && decide (i ≤ (n : Int) - 1))
      · have HIN := Lib.hid hi9
        have hin : i < 0 ∨ (n : Int) ≤ i := by simp at hi9; omega
        clear hi9
        obtain ⟨rfl, rfl⟩ : r = false ∧ E = zeroEff := by
          rcases HEI.out with ⟨h1, h2, _⟩ | ⟨_, t, T, h, _⟩
          · exact ⟨h1, h2⟩
          · exact (h.not (.inr (.inr (.inr (by rw [hlen]; exact hin))))).elim
        go_enter Tryz.func31, Tryz.ntmps31
        go_wp2_with (go_at_call 87; (with_reducible refine (spec_programok a n cap P HZ.out _ H0.out.2.2.2.1 true HRP.out).mono ?_); rintro e w2 ⟨rfl, hb2⟩; refine Hid.out ?_)
        have HB2 := Lib.hid hb2
        have d0 : w2.cell? ⟨w.heap.size, 0, none⟩ = some (.slice a n cap) := (hb2.cell (p := ⟨w.heap.size, 0, none⟩) hWl.1).trans (H0.out.1.cell 0)
        have HX2 := Lib.hid (H0.out.2.1.below hb2)
        clear hb2 c0
        refine Lib.hid ?_
        go_wp2_with (first
          | ((refine wpList_store_box rfl 60 _ _ rfl (w.heap.size + 1) _ _ HX2.out zero4E rfl rfl rfl (by kernel_rfl) (by simp [Value.oneCell']) ?_); intro w5 hx5 hg5; refine Hid.out ?_)
          | (go_at_call 88; (with_reducible refine (spec_vars _ ad nv cv V hnv (H0.out.2.2.2.2.1.below HB2.out) true HV.out).mono ?_); rintro e w3 ⟨rfl, rfl⟩)
          | (go_at_call 63; (with_reducible refine (in_any _ 0 _ false HIN.out _).mono ?_); rintro e w3 ⟨rfl, rfl⟩))
        have hB5 : Below w.heap.size w w5 := (H0.out.2.2.1.trans (HB2.out.mono (by omega))).grown hg5 (Nat.le_trans (by omega) HB2.out.size) (fun k hk => by cases hk; omega)
        have H9 := Lib.hid (And.intro hx5 hB5)
        clear hx5 hg5 hB5
        refine Lib.hid ?_
        go_wp2
        refine bodyPost_ret (v := .tuple #[effV none 0 0 none 0 0 zeroEff, .bool false]) (results_box2 rfl _ _ (w.heap.size + 1) _ _ _ _ rfl rfl H9.out.1 Tryz.underlying60 rfl (by kernel_rfl)) rfl ?_
        exact ⟨_, _, _, _, _, _, rfl, ⟨World.ownsRow_nil _ _ _ _, World.ownsRow_nil _ _ _ _, .inl rfl⟩, H9.out.2⟩
      · have HIN := Lib.hid hi9
        have hin : 0 ≤ i ∧ i < n := by simp at hi9; omega
        clear hi9
        cases hy9 : allV Y
        · have HY := Lib.hid hy9
          clear hy9
          obtain ⟨rfl, rfl⟩ : r = false ∧ E = zeroEff := by
            rcases HEI.out with ⟨h1, h2, _⟩ | ⟨_, t, T, h, _⟩
            · exact ⟨h1, h2⟩
            · exact (h.not (.inr (.inr (.inl HY.out)))).elim
          go_enter Tryz.func31, Tryz.ntmps31
          go_wp2_with (go_at_call 87; (with_reducible refine (spec_programok a n cap P HZ.out _ H0.out.2.2.2.1 true HRP.out).mono ?_); rintro e w2 ⟨rfl, hb2⟩; refine Hid.out ?_)
          have HB2 := Lib.hid hb2
          have d0 : w2.cell? ⟨w.heap.size, 0, none⟩ = some (.slice a n cap) := (hb2.cell (p := ⟨w.heap.size, 0, none⟩) hWl.1).trans (H0.out.1.cell 0)
          have HX2 := Lib.hid (H0.out.2.1.below hb2)
          clear hb2 c0
          refine Lib.hid ?_
          go_wp2_with (first
            | ((refine wpList_store_box rfl 60 _ _ rfl (w.heap.size + 1) _ _ HX2.out zero4E rfl rfl rfl (by kernel_rfl) (by simp [Value.oneCell']) ?_); intro w5 hx5 hg5; refine Hid.out ?_)
            | (go_at_call 88; (with_reducible refine (spec_vars _ ad nv cv V hnv (H0.out.2.2.2.2.1.below HB2.out) true HV.out).mono ?_); rintro e w3 ⟨rfl, rfl⟩)
            | (go_at_call 63; (with_reducible refine (in_any _ 0 _ true HIN.out _).mono ?_); rintro e w3 ⟨rfl, rfl⟩)
            | (go_at_call 89; (with_reducible refine (spec_vals _ ay ny cy Y hny (H0.out.2.2.2.2.2.below HB2.out) false HY.out).mono ?_); rintro e w3 ⟨rfl, rfl⟩))
          have hB5 : Below w.heap.size w w5 := (H0.out.2.2.1.trans (HB2.out.mono (by omega))).grown hg5 (Nat.le_trans (by omega) HB2.out.size) (fun k hk => by cases hk; omega)
          have H9 := Lib.hid (And.intro hx5 hB5)
          clear hx5 hg5 hB5
          refine Lib.hid ?_
          go_wp2
          refine bodyPost_ret (v := .tuple #[effV none 0 0 none 0 0 zeroEff, .bool false]) (results_box2 rfl _ _ (w.heap.size + 1) _ _ _ _ rfl rfl H9.out.1 Tryz.underlying60 rfl (by kernel_rfl)) rfl ?_
          exact ⟨_, _, _, _, _, _, rfl, ⟨World.ownsRow_nil _ _ _ _, World.ownsRow_nil _ _ _ _, .inl rfl⟩, H9.out.2⟩
        · have HY := Lib.hid hy9
          clear hy9
          obtain ⟨j, rfl⟩ : ∃ j : Nat, i = j := ⟨i.toNat, by omega⟩
          obtain ⟨t, T, _, hT⟩ := taskAt_ex HPR.out HV.out HY.out (show j < P.length by omega)
          obtain ⟨rfl, rfl⟩ := HEI.out.at hT
          have HTA := Lib.hid hT
          clear hT
          go_enter Tryz.func31, Tryz.ntmps31
          go_wp2_with (go_at_call 87; (with_reducible refine (spec_programok a n cap P HZ.out _ H0.out.2.2.2.1 true HRP.out).mono ?_); rintro e w2 ⟨rfl, hb2⟩; refine Hid.out ?_)
          have HB2 := Lib.hid hb2
          have d0 : w2.cell? ⟨w.heap.size, 0, none⟩ = some (.slice a n cap) := (hb2.cell (p := ⟨w.heap.size, 0, none⟩) hWl.1).trans (H0.out.1.cell 0)
          have HX2 := Lib.hid (H0.out.2.1.below hb2)
          clear hb2 c0
          refine Lib.hid ?_
          go_wp2_with (first
            | (go_at_call 88; (with_reducible refine (spec_vars _ ad nv cv V hnv (H0.out.2.2.2.2.1.below HB2.out) true HV.out).mono ?_); rintro e w3 ⟨rfl, rfl⟩)
            | (go_at_call 63; (with_reducible refine (in_any _ 0 _ true HIN.out _).mono ?_); rintro e w3 ⟨rfl, rfl⟩)
            | (go_at_call 89; (with_reducible refine (spec_vals _ ay ny cy Y hny (H0.out.2.2.2.2.2.below HB2.out) true HY.out).mono ?_); rintro e w3 ⟨rfl, rfl⟩)
            | (go_at_call 90; (with_reducible refine (spec_effect a n cap P HZ.out _ (H0.out.2.2.2.1.below HB2.out) ad nv cv V (H0.out.2.2.2.2.1.below HB2.out) ay ny cy Y hny (H0.out.2.2.2.2.2.below HB2.out) j t T HTA.out).mono ?_); rintro e w3 ⟨a1, n1, c1, a2, n2, c2, rfl, hm, hb3⟩; refine Hid.out ?_))
          have HX3 := Lib.hid (HX2.out.below hb3)
          have HB3 := Lib.hid (HB2.out.trans (hb3.mono HB2.out.size))
          have HM := Lib.hid hm
          clear hm hb3 d0
          refine Lib.hid ?_
          go_wp2_with ((refine wpList_store_box rfl 60 _ _ rfl (w.heap.size + 1) _ _ HX3.out #[.slice a1 n1 c1, .slice a2 n2 c2, .int .i64 (effOf P t (exec (listSrc Y) T ⟨V, [], []⟩)).N, .int .i64 (effOf P t (exec (listSrc Y) T ⟨V, [], []⟩)).U] rfl rfl rfl (by kernel_rfl) (by simp [Value.oneCell']) ?_); intro w5 hx5 hg5; refine Hid.out ?_)
          have hB5 : Below w.heap.size w w5 := (H0.out.2.2.1.trans (HB3.out.mono (by omega))).grown hg5 (Nat.le_trans (by omega) HB3.out.size) (fun k hk => by cases hk; omega)
          have hW2 : W.heap.size ≤ w2.heap.size := HB2.out.size
          have hlo : ∀ {v : Value} {m : Nat} {xs : List Value}, w3.ownsRow w2.heap.size 3 1 v m xs → w5.ownsRow w.heap.size 3 1 v m xs := fun {v m xs} h => (h.kept hg5 (.inr (fun e => by have := (h.lt _ e).1; omega))).mono (by omega)
          have H9 := Lib.hid (And.intro hx5 (And.intro hB5 (And.intro (hlo HM.out.1) (And.intro (hlo HM.out.2.1) HM.out.2.2))))
          clear hx5 hg5 hB5 hlo
          refine Lib.hid ?_
          go_wp2
          refine bodyPost_ret (v := .tuple #[effV a1 n1 c1 a2 n2 c2 (effOf P t (exec (listSrc Y) T ⟨V, [], []⟩)), .bool true]) (results_box2 rfl _ _ (w.heap.size + 1) _ _ _ _ rfl rfl H9.out.1 Tryz.underlying60 rfl (by kernel_rfl)) rfl ?_
          exact ⟨_, _, _, _, _, _, rfl, ⟨H9.out.2.2.1, H9.out.2.2.2.1, H9.out.2.2.2.2⟩, H9.out.2.1⟩
end Go.Proofs.YtmgeecdgebemdaaGreatDoor.exe
