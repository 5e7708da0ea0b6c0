/- Several texts in one: MemS ExeH WtI WtJ WtM WtD. -/
import Derived.Test.YtcmhiadaebpgmaaGreatDoorGSig13
import Derived.Test.YtcmhiadaebpgmaaGreatDoorGSig41
import Derived.Test.YtcmhiadaebpgmaaGreatDoorGSig24
import Derived.Laws.CopyOwn
import Derived.Lib.SliceRun
import Derived.Deep.Onto
import Derived.Laws.AppendOwn
import Derived.Test.YtcmhiadaebpgmaaGreatDoorGSig43

/- MemSent of a memory whose control word is an int; nothing that was there is written. -/
namespace Go.Proofs.YtcmhiadaebpgmaaGreatDoor.mem
open Go.ChangeShapes Go.WideShapes Go.ChangeAt Go.RowKit Go.Proofs.YtcmhiadaebpgmaaGreatDoor.row Go.Proofs.YtcmhiadaebpgmaaGreatDoor.val Go.Proofs.YtcmhiadaebpgmaaGreatDoor.expr Go.Proofs.YtcmhiadaebpgmaaGreatDoor.ctl
set_option maxRecDepth 100000 in
set_option maxHeartbeats 1000000 in
theorem impl_memsent_yes8 (w : World) (b off cap : Nat) (L : List Int) (h : Row w (some ⟨b, off, none⟩) 49 L) (hw : -9223372036854775808 ≤ L.getD 8 0 ∧ L.getD 8 0 ≤ 9223372036854775807) :
    Calls Tryz.prog 15 #[.slice (some ⟨b, off, none⟩) 49 cap] w (NewInts w (sentV L)) := by
  have HLL := Lib.hid h.1
  have HI := Lib.hid (mem_info h.1)
  have HL : Hid (∀ cs : Array Value, cs.size = 49 → (ivs L).toArray.size = cs.size) := fun cs hc => by rw [List.size_toArray, ivs_length, h.1, hc]
  obtain ⟨x, hx⟩ : ∃ x, L[8]? = some x := ⟨L[8]'(by have := h.1; omega), by simp [h.1]⟩
  have hxw : -9223372036854775808 ≤ x ∧ x ≤ 9223372036854775807 := by rw [List.getD_eq_getElem?_getD, hx] at hw; exact hw
  have HC := Lib.hid (show ∀ (w' : World) (g : Nat), Box g (ivs L).toArray TM w' → w'.cell? ⟨g, 8, none⟩ = some (.int .i64 x) from fun w' g hb => by rw [hb.cell]; simp [ivs, hx])
  have HX := Lib.hid hx
  clear hx hw
  cases ho : wOk x
  · have HU := Lib.hid (un_no ho)
    have HS := Lib.hid (sentV_no HX.out ho)
    clear ho
    go_enter Tryz.func15, Tryz.ntmps15
    go_wp2_with (first
      | (go_at_call 56; refine (impl_memoryof_yes _ b off cap L h).mono ?_; rintro e w1 ⟨rfl, hb1⟩)
      | (refine wpList_store_box rfl TM _ _ rfl w1.heap.size _ _ (Box.new w1 _ _) (ivs L).toArray rfl rfl (HL.out _ rfl) HI.out (mem_all L) ?_; intro w2 hx2 hg2; have hc2 := HC.out _ _ hx2)
      | (go_at_call 16; refine (impl_unpack_is x _ _ _ hxw HU.out _).mono ?_; rintro e w3 ⟨rfl, rfl⟩))
    go_ret
    refine ⟨_, _, _, rfl, ?_, (below_then hb1 (below_new w1 _)).grown hg2 (show w.heap.size ≤ _ by have := hb1.size; simp; omega) (fun k hk => by cases hk; exact hb1.size)⟩
    rw [HS.out]; exact World.ownsRow_nil _ _ _ _
  · obtain ⟨t, c, n, ht, hc, hn, e1, e2, e3⟩ := un_yes ho
    have HU := Lib.hid (show unT x = t ∧ unC x = c ∧ unN x = n from ⟨e1, e2, e3⟩)
    have HS := Lib.hid (sentV_yes HX.out ho e3)
    clear ho e1 e2 e3
    go_enter Tryz.func15, Tryz.ntmps15
    go_wp2_with (first
      | (go_at_call 56; refine (impl_memoryof_yes _ b off cap L h).mono ?_; rintro e w1 ⟨rfl, hb1⟩)
      | (refine wpList_store_box rfl TM _ _ rfl w1.heap.size _ _ (Box.new w1 _ _) (ivs L).toArray rfl rfl (HL.out _ rfl) HI.out (mem_all L) ?_; intro w2 hx2 hg2; have hc2 := HC.out _ _ hx2)
      | (go_at_call 16; refine (impl_unpack_is x _ _ _ hxw HU.out _).mono ?_; rintro e w3 ⟨rfl, rfl⟩)
      | (refine wpList_load_row rfl TM _ rfl w1.heap.size rfl _ (ivs L).toArray _ _ hx2 Tryz.underlying97 rfl HI.out ?_)
      | (go_at_call 57; refine (impl_sent _ L HLL.out n hn).mono ?_; rintro e w4 ⟨ad, n4, c4, rfl, ho4, hb4⟩; refine Hid.out ?_))
    have hb2 := ((below_then hb1 (below_new w1 _)).grown hg2 (show w.heap.size ≤ _ by have := hb1.size; simp; omega) (fun k hk => by cases hk; exact hb1.size))
    have HF := Lib.hid (And.intro (ho4.mono hb2.size) (below_then hb2 hb4))
    clear ho4 hb4 hb2
    refine Lib.hid ?_
    go_wp2
    go_ret
    refine ⟨_, _, _, rfl, ?_, HF.out.2⟩
    rw [HS.out]; exact HF.out.1
end Go.Proofs.YtcmhiadaebpgmaaGreatDoor.mem

/- The model's TaskEffect: what the plain relation says, in new memory; nothing that was there is written. -/
namespace Go.Proofs.YtcmhiadaebpgmaaGreatDoor.exe
open Go Go.ChangeShapes Go.WideShapes Go.ChangeAt Go.RowKit Go.Proofs.YtcmhiadaebpgmaaGreatDoor.row Go.Proofs.YtcmhiadaebpgmaaGreatDoor.val Go.Proofs.YtcmhiadaebpgmaaGreatDoor.expr Go.Proofs.YtcmhiadaebpgmaaGreatDoor.stm Go.Proofs.YtcmhiadaebpgmaaGreatDoor.blk Go.Proofs.YtcmhiadaebpgmaaGreatDoor.prg Go.Proofs.YtcmhiadaebpgmaaGreatDoor.sets
set_option maxHeartbeats 8000000 in
set_option maxRecDepth 100000 in
theorem spec_taskeffect (a : Option Addr) (n cap : Nat) (P : List Tk) (hz : Sizes P) (w : World) (h : TkRow w a n P) (ad : Option Addr) (nv cv : Nat) (V : List Int) (hnv : (nv : Int) ≤ 1048576) (hV : Row w ad nv V) (ay : Option Addr) (ny cy : Nat) (Y : List Int) (hny : (ny : Int) ≤ 1048576) (hY : Row w ay ny Y)
    (i : Int) (r : Bool) (E : Eff) (hE : EffIs P V Y i r E) :
    Calls Tryz.prog 11 #[.agg #[.slice a n cap], .int .i64 i, .slice ad nv cv, .slice ay ny cy] w (NewEffB w r E) := by
  obtain ⟨W, hW⟩ : ∃ W, (w.alloc (.cells #[.slice a n cap] 26)).alloc (.cells zero4E 39) = W := ⟨_, rfl⟩
  have hBW : Below w.heap.size w W := by rw [← hW]; exact below_then (below_new w _) (below_new _ _)
  have hpx : Box w.heap.size #[.slice a n cap] 26 W := by rw [← hW]; exact (Box.new w _ _).alloc _
  have hex : Box (w.heap.size + 1) zero4E 39 W := by
    have h9 := Box.new (w.alloc (.cells #[.slice a n cap] 26)) zero4E 39
    rw [World.size_alloc] at h9
    rw [← hW]; exact h9
  have hWl : w.heap.size < W.heap.size ∧ w.heap.size + 1 < W.heap.size := ⟨hpx.lt, hex.lt⟩
  have c0 : W.cell? ⟨w.heap.size, 0, none⟩ = some (.slice a n cap) := hpx.cell 0
  have hlen := h.1
  have HZ := Lib.hid hz
  have HEI := Lib.hid hE
  have H0 := Lib.hid (And.intro hpx (And.intro hex (And.intro hBW (And.intro (h.below hBW) (And.intro (hV.below hBW) (hY.below hBW))))))
  have hn : (n : Int) ≤ 1048576 := by have := hz.1; omega
  clear hpx hex hBW h hV hY hz hE
  obtain ⟨rp, hrp⟩ := prg_dec P
  have HRP := Lib.hid hrp
  cases rp
  · clear hrp
    obtain ⟨rfl, rfl⟩ : r = false ∧ E = zeroEff := by
      rcases HEI.out with ⟨h1, h2, _⟩ | ⟨_, t, T, h, _⟩
      · exact ⟨h1, h2⟩
      · exact (h.not (.inl (fun hp => by have := HRP.out.2 hp; cases this))).elim
    go_enter Tryz.func11, Tryz.ntmps11
    go_wp2_with (go_at_call 48; (with_reducible refine (spec_programok a n cap P HZ.out _ H0.out.2.2.2.1 false HRP.out).mono ?_); rintro e w2 ⟨rfl, hb2⟩; refine Hid.out ?_)
    have HB2 := Lib.hid hb2
    have d0 : w2.cell? ⟨w.heap.size, 0, none⟩ = some (.slice a n cap) := (hb2.cell (p := ⟨w.heap.size, 0, none⟩) hWl.1).trans (H0.out.1.cell 0)
    have HX2 := Lib.hid (H0.out.2.1.below hb2)
    clear hb2 c0
    refine Lib.hid ?_
    go_wp2_with (first
      | ((refine wpList_store_box rfl 39 _ _ rfl (w.heap.size + 1) _ _ HX2.out zero4E rfl rfl rfl (by kernel_rfl) (by simp [Value.oneCell']) ?_); intro w5 hx5 hg5; refine Hid.out ?_))
    have hB5 : Below w.heap.size w w5 := (H0.out.2.2.1.trans (HB2.out.mono (by omega))).grown hg5 (Nat.le_trans (by omega) HB2.out.size) (fun k hk => by cases hk; omega)
    have H9 := Lib.hid (And.intro hx5 hB5)
    clear hx5 hg5 hB5
    refine Lib.hid ?_
    go_wp2
    refine bodyPost_ret (v := .tuple #[effV none 0 0 none 0 0 zeroEff, .bool false]) (results_box2 rfl _ _ (w.heap.size + 1) _ _ _ _ rfl rfl H9.out.1 Tryz.underlying39 rfl (by kernel_rfl)) rfl ?_
    exact ⟨_, _, _, _, _, _, rfl, ⟨World.ownsRow_nil _ _ _ _, World.ownsRow_nil _ _ _ _, .inl rfl⟩, H9.out.2⟩
  · have HPR := Lib.hid (hrp.1 rfl)
    clear hrp
    cases hv : varsOk V
    · have HV := Lib.hid hv
      clear hv
      obtain ⟨rfl, rfl⟩ : r = false ∧ E = zeroEff := by
        rcases HEI.out with ⟨h1, h2, _⟩ | ⟨_, t, T, h, _⟩
        · exact ⟨h1, h2⟩
        · exact (h.not (.inr (.inl HV.out))).elim
      go_enter Tryz.func11, Tryz.ntmps11
      go_wp2_with (go_at_call 48; (with_reducible refine (spec_programok a n cap P HZ.out _ H0.out.2.2.2.1 true HRP.out).mono ?_); rintro e w2 ⟨rfl, hb2⟩; refine Hid.out ?_)
      have HB2 := Lib.hid hb2
      have d0 : w2.cell? ⟨w.heap.size, 0, none⟩ = some (.slice a n cap) := (hb2.cell (p := ⟨w.heap.size, 0, none⟩) hWl.1).trans (H0.out.1.cell 0)
      have HX2 := Lib.hid (H0.out.2.1.below hb2)
      clear hb2 c0
      refine Lib.hid ?_
      go_wp2_with (first
        | ((refine wpList_store_box rfl 39 _ _ rfl (w.heap.size + 1) _ _ HX2.out zero4E rfl rfl rfl (by kernel_rfl) (by simp [Value.oneCell']) ?_); intro w5 hx5 hg5; refine Hid.out ?_)
        | (go_at_call 49; (with_reducible refine (spec_vars _ ad nv cv V hnv (H0.out.2.2.2.2.1.below HB2.out) false HV.out).mono ?_); rintro e w3 ⟨rfl, rfl⟩))
      have hB5 : Below w.heap.size w w5 := (H0.out.2.2.1.trans (HB2.out.mono (by omega))).grown hg5 (Nat.le_trans (by omega) HB2.out.size) (fun k hk => by cases hk; omega)
      have H9 := Lib.hid (And.intro hx5 hB5)
      clear hx5 hg5 hB5
      refine Lib.hid ?_
      go_wp2
      refine bodyPost_ret (v := .tuple #[effV none 0 0 none 0 0 zeroEff, .bool false]) (results_box2 rfl _ _ (w.heap.size + 1) _ _ _ _ rfl rfl H9.out.1 Tryz.underlying39 rfl (by kernel_rfl)) rfl ?_
      exact ⟨_, _, _, _, _, _, rfl, ⟨World.ownsRow_nil _ _ _ _, World.ownsRow_nil _ _ _ _, .inl rfl⟩, H9.out.2⟩
    · have HV := Lib.hid hv
      clear hv
      cases hi9 : (decide (0 ≤ i) && decide (i ≤ (n : Int) - 1))
      · have HIN := Lib.hid hi9
        have hin : i < 0 ∨ (n : Int) ≤ i := by simp at hi9; omega
        clear hi9
        obtain ⟨rfl, rfl⟩ : r = false ∧ E = zeroEff := by
          rcases HEI.out with ⟨h1, h2, _⟩ | ⟨_, t, T, h, _⟩
          · exact ⟨h1, h2⟩
          · exact (h.not (.inr (.inr (.inr (by rw [hlen]; exact hin))))).elim
        go_enter Tryz.func11, Tryz.ntmps11
        go_wp2_with (go_at_call 48; (with_reducible refine (spec_programok a n cap P HZ.out _ H0.out.2.2.2.1 true HRP.out).mono ?_); rintro e w2 ⟨rfl, hb2⟩; refine Hid.out ?_)
        have HB2 := Lib.hid hb2
        have d0 : w2.cell? ⟨w.heap.size, 0, none⟩ = some (.slice a n cap) := (hb2.cell (p := ⟨w.heap.size, 0, none⟩) hWl.1).trans (H0.out.1.cell 0)
        have HX2 := Lib.hid (H0.out.2.1.below hb2)
        clear hb2 c0
        refine Lib.hid ?_
        go_wp2_with (first
          | ((refine wpList_store_box rfl 39 _ _ rfl (w.heap.size + 1) _ _ HX2.out zero4E rfl rfl rfl (by kernel_rfl) (by simp [Value.oneCell']) ?_); intro w5 hx5 hg5; refine Hid.out ?_)
          | (go_at_call 49; (with_reducible refine (spec_vars _ ad nv cv V hnv (H0.out.2.2.2.2.1.below HB2.out) true HV.out).mono ?_); rintro e w3 ⟨rfl, rfl⟩)
          | (go_at_call 50; (with_reducible refine (in_any _ 0 _ false HIN.out _).mono ?_); rintro e w3 ⟨rfl, rfl⟩))
        have hB5 : Below w.heap.size w w5 := (H0.out.2.2.1.trans (HB2.out.mono (by omega))).grown hg5 (Nat.le_trans (by omega) HB2.out.size) (fun k hk => by cases hk; omega)
        have H9 := Lib.hid (And.intro hx5 hB5)
        clear hx5 hg5 hB5
        refine Lib.hid ?_
        go_wp2
        refine bodyPost_ret (v := .tuple #[effV none 0 0 none 0 0 zeroEff, .bool false]) (results_box2 rfl _ _ (w.heap.size + 1) _ _ _ _ rfl rfl H9.out.1 Tryz.underlying39 rfl (by kernel_rfl)) rfl ?_
        exact ⟨_, _, _, _, _, _, rfl, ⟨World.ownsRow_nil _ _ _ _, World.ownsRow_nil _ _ _ _, .inl rfl⟩, H9.out.2⟩
      · have HIN := Lib.hid hi9
        have hin : 0 ≤ i ∧ i < n := by simp at hi9; omega
        clear hi9
        cases hy9 : allV Y
        · have HY := Lib.hid hy9
          clear hy9
          obtain ⟨rfl, rfl⟩ : r = false ∧ E = zeroEff := by
            rcases HEI.out with ⟨h1, h2, _⟩ | ⟨_, t, T, h, _⟩
            · exact ⟨h1, h2⟩
            · exact (h.not (.inr (.inr (.inl HY.out)))).elim
          go_enter Tryz.func11, Tryz.ntmps11
          go_wp2_with (go_at_call 48; (with_reducible refine (spec_programok a n cap P HZ.out _ H0.out.2.2.2.1 true HRP.out).mono ?_); rintro e w2 ⟨rfl, hb2⟩; refine Hid.out ?_)
          have HB2 := Lib.hid hb2
          have d0 : w2.cell? ⟨w.heap.size, 0, none⟩ = some (.slice a n cap) := (hb2.cell (p := ⟨w.heap.size, 0, none⟩) hWl.1).trans (H0.out.1.cell 0)
          have HX2 := Lib.hid (H0.out.2.1.below hb2)
          clear hb2 c0
          refine Lib.hid ?_
          go_wp2_with (first
            | ((refine wpList_store_box rfl 39 _ _ rfl (w.heap.size + 1) _ _ HX2.out zero4E rfl rfl rfl (by kernel_rfl) (by simp [Value.oneCell']) ?_); intro w5 hx5 hg5; refine Hid.out ?_)
            | (go_at_call 49; (with_reducible refine (spec_vars _ ad nv cv V hnv (H0.out.2.2.2.2.1.below HB2.out) true HV.out).mono ?_); rintro e w3 ⟨rfl, rfl⟩)
            | (go_at_call 50; (with_reducible refine (in_any _ 0 _ true HIN.out _).mono ?_); rintro e w3 ⟨rfl, rfl⟩)
            | (go_at_call 51; (with_reducible refine (spec_vals _ ay ny cy Y hny (H0.out.2.2.2.2.2.below HB2.out) false HY.out).mono ?_); rintro e w3 ⟨rfl, rfl⟩))
          have hB5 : Below w.heap.size w w5 := (H0.out.2.2.1.trans (HB2.out.mono (by omega))).grown hg5 (Nat.le_trans (by omega) HB2.out.size) (fun k hk => by cases hk; omega)
          have H9 := Lib.hid (And.intro hx5 hB5)
          clear hx5 hg5 hB5
          refine Lib.hid ?_
          go_wp2
          refine bodyPost_ret (v := .tuple #[effV none 0 0 none 0 0 zeroEff, .bool false]) (results_box2 rfl _ _ (w.heap.size + 1) _ _ _ _ rfl rfl H9.out.1 Tryz.underlying39 rfl (by kernel_rfl)) rfl ?_
          exact ⟨_, _, _, _, _, _, rfl, ⟨World.ownsRow_nil _ _ _ _, World.ownsRow_nil _ _ _ _, .inl rfl⟩, H9.out.2⟩
        · have HY := Lib.hid hy9
          clear hy9
          obtain ⟨j, rfl⟩ : ∃ j : Nat, i = j := ⟨i.toNat, by omega⟩
          obtain ⟨t, T, _, hT⟩ := taskAt_ex HPR.out HV.out HY.out (show j < P.length by omega)
          obtain ⟨rfl, rfl⟩ := HEI.out.at hT
          have HTA := Lib.hid hT
          clear hT
          go_enter Tryz.func11, Tryz.ntmps11
          go_wp2_with (go_at_call 48; (with_reducible refine (spec_programok a n cap P HZ.out _ H0.out.2.2.2.1 true HRP.out).mono ?_); rintro e w2 ⟨rfl, hb2⟩; refine Hid.out ?_)
          have HB2 := Lib.hid hb2
          have d0 : w2.cell? ⟨w.heap.size, 0, none⟩ = some (.slice a n cap) := (hb2.cell (p := ⟨w.heap.size, 0, none⟩) hWl.1).trans (H0.out.1.cell 0)
          have HX2 := Lib.hid (H0.out.2.1.below hb2)
          clear hb2 c0
          refine Lib.hid ?_
          go_wp2_with (first
            | (go_at_call 49; (with_reducible refine (spec_vars _ ad nv cv V hnv (H0.out.2.2.2.2.1.below HB2.out) true HV.out).mono ?_); rintro e w3 ⟨rfl, rfl⟩)
            | (go_at_call 50; (with_reducible refine (in_any _ 0 _ true HIN.out _).mono ?_); rintro e w3 ⟨rfl, rfl⟩)
            | (go_at_call 51; (with_reducible refine (spec_vals _ ay ny cy Y hny (H0.out.2.2.2.2.2.below HB2.out) true HY.out).mono ?_); rintro e w3 ⟨rfl, rfl⟩)
            | (go_at_call 52; (with_reducible refine (spec_effect a n cap P HZ.out _ (H0.out.2.2.2.1.below HB2.out) ad nv cv V (H0.out.2.2.2.2.1.below HB2.out) ay ny cy Y hny (H0.out.2.2.2.2.2.below HB2.out) j t T HTA.out).mono ?_); rintro e w3 ⟨a1, n1, c1, a2, n2, c2, rfl, hm, hb3⟩; refine Hid.out ?_))
          have HX3 := Lib.hid (HX2.out.below hb3)
          have HB3 := Lib.hid (HB2.out.trans (hb3.mono HB2.out.size))
          have HM := Lib.hid hm
          clear hm hb3 d0
          refine Lib.hid ?_
          go_wp2_with ((refine wpList_store_box rfl 39 _ _ rfl (w.heap.size + 1) _ _ HX3.out #[.slice a1 n1 c1, .slice a2 n2 c2, .int .i64 (effOf P t (exec (listSrc Y) T ⟨V, [], []⟩)).N, .int .i64 (effOf P t (exec (listSrc Y) T ⟨V, [], []⟩)).U] rfl rfl rfl (by kernel_rfl) (by simp [Value.oneCell']) ?_); intro w5 hx5 hg5; refine Hid.out ?_)
          have hB5 : Below w.heap.size w w5 := (H0.out.2.2.1.trans (HB3.out.mono (by omega))).grown hg5 (Nat.le_trans (by omega) HB3.out.size) (fun k hk => by cases hk; omega)
          have hW2 : W.heap.size ≤ w2.heap.size := HB2.out.size
          have hlo : ∀ {v : Value} {m : Nat} {xs : List Value}, w3.ownsRow w2.heap.size 3 1 v m xs → w5.ownsRow w.heap.size 3 1 v m xs := fun {v m xs} h => (h.kept hg5 (.inr (fun e => by have := (h.lt _ e).1; omega))).mono (by omega)
          have H9 := Lib.hid (And.intro hx5 (And.intro hB5 (And.intro (hlo HM.out.1) (And.intro (hlo HM.out.2.1) HM.out.2.2))))
          clear hx5 hg5 hB5 hlo
          refine Lib.hid ?_
          go_wp2
          refine bodyPost_ret (v := .tuple #[effV a1 n1 c1 a2 n2 c2 (effOf P t (exec (listSrc Y) T ⟨V, [], []⟩)), .bool true]) (results_box2 rfl _ _ (w.heap.size + 1) _ _ _ _ rfl rfl H9.out.1 Tryz.underlying39 rfl (by kernel_rfl)) rfl ?_
          exact ⟨_, _, _, _, _, _, rfl, ⟨H9.out.2.2.1, H9.out.2.2.2.1, H9.out.2.2.2.2⟩, H9.out.2.1⟩
end Go.Proofs.YtcmhiadaebpgmaaGreatDoor.exe

/- Chapter 10 of the program: writes applied to a copy of the memory, the first difference, the places in ascending order; nothing that was there is written. -/
namespace Go.Proofs.YtcmhiadaebpgmaaGreatDoor.wrt
open Go Go.ChangeShapes Go.WideShapes Go.ChangeAt Go.RowKit Go.Proofs.YtcmhiadaebpgmaaGreatDoor.row Go.Proofs.YtcmhiadaebpgmaaGreatDoor.val Go.Proofs.YtcmhiadaebpgmaaGreatDoor.expr Go.Proofs.YtcmhiadaebpgmaaGreatDoor.grow

theorem row_range {w : World} {b off n : Nat} {L : List Int} (h : Row w (some ⟨b, off, none⟩) n L) : w.rangeAt b off (ivs L) := by
  intro j v hj
  have hjl : j < n := by have := (List.getElem?_eq_some_iff.1 hj).1; rw [ivs_length] at this; have := h.1; omega
  obtain ⟨b', off', x, e, _, hx, hc⟩ := h.2 j hjl
  cases e
  rw [hc]
  simp [ivs, hx] at hj
  rw [hj]
theorem row_some {w : World} {a : Option Addr} {n : Nat} {L : List Int} (h : Row w a n L) (hn : 0 < n) : ∃ b off, a = some ⟨b, off, none⟩ := by
  obtain ⟨b, off, _, e, _⟩ := h.2 0 hn
  exact ⟨b, off, e⟩
theorem ivs_one (L : List Int) : ∀ v ∈ ivs L, v.oneCell' = true := by intro v hv; obtain ⟨x, _, rfl⟩ := List.mem_map.1 hv; rfl
theorem box_row {w : World} {g n : Nat} {L : List Int} {t : TypeId} (h : Box g (ivs L).toArray t w) (hn : L.length = n) : Row w (some ⟨g, 0, none⟩) n L :=
  ⟨hn, fun k hk => ⟨g, 0, L[k]'(by omega), rfl, h.lt, by simp [show k < L.length by omega], by rw [h.cell]; simp [ivs, show k < L.length by omega]⟩⟩
theorem box_own {w : World} {B g n : Nat} {L : List Int} {t : TypeId} (h : Box g (ivs L).toArray t w) (hB : B ≤ g) (hl : L.length = n) (hn : n ≤ maxLen) : w.ownsRow B t 1 (.slice (some ⟨g, 0, none⟩) n n) n (ivs L) :=
  ⟨by simp [ivs, hl], .inr ⟨g, n, (ivs L).toArray, rfl, hB, h, Nat.le_refl _, hn, by simp [ivs, hl], by rw [Nat.mul_one]; exact List.take_of_length_le (by simp [ivs, hl])⟩⟩
/-- A new row of 'n' words in the first new block. -/
def NewAt (w : World) (n : Nat) (L : List Int) (e : Ending) (w' : World) : Prop :=
  ∃ g, e = .returned (.slice (some ⟨g, 0, none⟩) n n) ∧ w.heap.size ≤ g ∧ Box g (ivs L).toArray 3 w' ∧ Below w.heap.size w w'
theorem NewAt.ints {w : World} {n : Nat} {L : List Int} {e : Ending} {w' : World} (h : NewAt w n L e w') (hl : L.length = n) (hn : (n : Int) ≤ 1048576) : NewInts w L e w' := by
  obtain ⟨g, h1, h2, h3, h4⟩ := h
  exact ⟨_, _, _, h1, box_own h3 h2 hl (by unfold maxLen; omega), h4⟩
theorem splice_all {n : Nat} {L : List Int} (hl : L.length = n) : splice (ivs (List.replicate n 0)) 0 (ivs L) = ivs L := by simp [splice, ivs, hl]

set_option maxHeartbeats 1000000 in
set_option maxRecDepth 100000 in
theorem impl_copyof (w : World) (a : Option Addr) (n cap : Nat) (L : List Int) (hn : (n : Int) ≤ 1048576) (h : Row w a n L) :
    Calls Tryz.prog 53 #[.slice a n cap] w (NewAt w n L) := by
  obtain ⟨i0, hi, hz0, hz1, hz2⟩ := info_parts infoInt
  have HL := Lib.hid (show (ivs L).length = Nat.min n n by rw [ivs_length, h.1]; simp)
  have HF := Lib.hid (show 0 + (ivs L).length ≤ (ivs (List.replicate n 0)).length by simp [ivs, h.1])
  have HP : Hid (∀ w' : World, Below w.heap.size w w' → 0 < (ivs L).length → ∃ ad, a = some ad ∧ ∀ j v, (ivs L)[j]? = some v → w'.cell? (ad.add j) = some v) := fun w' hb h0 => by
    obtain ⟨b, off, rfl⟩ := row_some h (by rw [ivs_length, h.1] at h0; exact h0)
    exact ⟨_, rfl, fun j v hj => by rw [Addr.add_mid]; exact row_range (h.below hb) j v hj⟩
  have H1 := Lib.hid (ivs_one L)
  have HS := Lib.hid (splice_all h.1)
  clear h
  go_enter Tryz.func53, Tryz.ntmps53
  go_wp2_with ((refine wpList_make_full _ rfl _ _ 27 rfl w.heap.size 3 i0 _ 1 Tryz.underlying27 hi hz0 hz1 .i64 .i64 _ _ n rfl rfl rfl rfl (by rw [hz2]; omega) (by unfold maxLen; omega) (Nat.le_refl _) ?_); intro w1 hown1 hg1; refine Hid.out ?_)
  rw [made_zeros] at hown1
  have HX := Lib.hid (And.intro (own_box hown1) (below_grown hg1))
  clear hown1 hg1
  refine Lib.hid ?_
  go_wp2_with (refine wpList_copy_splice rfl _ _ 27 27 rfl 3 Tryz.underlying27 (by kernel_rfl) _ _ n n n cap rfl rfl w.heap.size 0 (ivs (List.replicate n 0)) 3 HX.out.1 (ivs L) HL.out (fun h0 => ⟨rfl, HP.out _ HX.out.2 h0⟩) HF.out H1.out w.heap.size w HX.out.2 (Nat.le_refl _) ?_; intro w3 hx3 hb3)
  go_ret
  exact ⟨w.heap.size, rfl, Nat.le_refl _, by have := hx3.out; rw [HS.out] at this; exact this, hb3⟩
set_option maxRecDepth 100000 in
theorem impl_isword (a : Option Addr) (n cap : Nat) (q : Int) (r : Bool) (hr : (decide (0 ≤ q) && decide (q < n)) = r) (w : World) : Calls Tryz.prog 55 #[.slice a n cap, .int .i64 q] w (RetB w r) := by
  subst hr
  by_cases h : 0 ≤ q
  · simp only [h, decide_true, Bool.true_and]
    go_enter Tryz.func55, Tryz.ntmps55
    go_wp2
    go_ret
    exact ⟨rfl, rfl⟩
  · simp only [h, decide_false, Bool.false_and]
    go_enter Tryz.func55, Tryz.ntmps55
    go_wp2
    go_ret
    exact ⟨rfl, rfl⟩
/-- How many of 'n' writes happen. -/
def cntW (c : Int) (n : Nat) : Nat := min c.toNat n
theorem cntW_le (c : Int) (n : Nat) : cntW c n ≤ n := Nat.min_le_right _ _
theorem take_cnt {α : Type} (L : List α) (c : Int) : L.take (cntW c L.length) = L.take c.toNat := by
  unfold cntW
  rcases Nat.le_total c.toNat L.length with h | h
  · rw [Nat.min_eq_left h]
  · rw [Nat.min_eq_right h, List.take_length, List.take_of_length_le h]
theorem impl_cut (c : Int) (n : Nat) (hn : (n : Int) ≤ 1048576) (w : World) : Calls Tryz.prog 54 #[.int .i64 c, .int .i64 0, .int .i64 n] w (Ret w (cntW c n)) := by
  rcases (show c < 0 ∨ (n : Int) < c ∧ 0 ≤ c ∨ (0 ≤ c ∧ c ≤ n) by omega) with h | ⟨h, h2⟩ | ⟨h, h2⟩
  · have HV := Lib.hid (show ((cntW c n : Nat) : Int) = 0 by unfold cntW; omega)
    go_enter Tryz.func54, Tryz.ntmps54
    go_wp2
    go_ret
    exact ⟨ret_i HV.out.symm, rfl⟩
  · have HV := Lib.hid (show ((cntW c n : Nat) : Int) = n by unfold cntW; omega)
    go_enter Tryz.func54, Tryz.ntmps54
    go_wp2
    go_ret
    exact ⟨ret_i HV.out.symm, rfl⟩
  · have HV := Lib.hid (show ((cntW c n : Nat) : Int) = c by unfold cntW; omega)
    go_enter Tryz.func54, Tryz.ntmps54
    go_wp2
    go_ret
    exact ⟨ret_i HV.out.symm, rfl⟩
theorem elemW : Tryz.prog.underlying 43 = some (.slice (Tryz.prog.elem 43)) := by kernel_rfl
theorem sizeW (w : World) : (sizeOf (Tryz.prog.elem 43)).run Tryz.prog w = .ok 2 w := by kernel_rfl
theorem cut_h (a : Option Addr) (n cap q : Nat) (hs : ∀ x, a = some x → x.spot = none) (hc : q ≤ cap) (w : World) : (Instr.sliceAt 43 (.slice a n cap) none (some (.int .i64 q)) none).run Tryz.prog w = .ok (.slice a q cap) w := by
  rw [run_sliceAt_slice w _ _ _ _ _ elemW, Go.run_slice_h w _ _ _ _ elemW _ _ (by omega) (by omega), sizeW]
  simp only [Result.andThen, sliced]
  rw [Nat.sub_zero, show ((q : Int)).toNat = q by omega]
  cases a with
  | none => simp
  | some x =>
    obtain ⟨b, off, spot⟩ := x
    have := hs _ rfl
    simp only at this; subst this
    rw [Nat.zero_mul, Option.map_some, Addr.add_mid, Nat.add_zero, ite_self, Nat.sub_zero]
theorem spot_none {w : World} {a : Option Addr} {n : Nat} {L : List Wt} (h : WriteRow w a n L) (hn : 0 < n) : ∀ x, a = some x → x.spot = none := by
  obtain ⟨b, off, s, rfl, _⟩ := h.2 0 hn
  intro x hx; cases hx; rfl
end Go.Proofs.YtcmhiadaebpgmaaGreatDoor.wrt

/- Chapter 10 of the program: ApplyWrites, WriteWord; nothing that was there is written. -/
namespace Go.Proofs.YtcmhiadaebpgmaaGreatDoor.wrt
open Go Go.ChangeShapes Go.WideShapes Go.ChangeAt Go.RowKit Go.Proofs.YtcmhiadaebpgmaaGreatDoor.row Go.Proofs.YtcmhiadaebpgmaaGreatDoor.val Go.Proofs.YtcmhiadaebpgmaaGreatDoor.expr Go.Proofs.YtcmhiadaebpgmaaGreatDoor.grow

theorem ivs_put (P : List Int) (m : Nat) (v : Int) : (ivs P).toArray.setIfInBounds m (.int .i64 v) = (ivs (P.set m v)).toArray := by
  rw [← ivs_set]; simp
set_option maxHeartbeats 2000000 in
set_option maxRecDepth 100000 in
theorem impl_apply (w : World) (a : Option Addr) (n cap : Nat) (M : List Int) (b : Option Addr) (k kc : Nat) (L : List Wt) (c : Int) (hn : (n : Int) ≤ 1048576) (hk : (k : Int) ≤ 1048576) (hkc : k ≤ kc) (hsp : ∀ x, b = some x → x.spot = none)
    (hM : Row w a n M) (hL : WriteRow w b k L) :
    Calls Tryz.prog 14 #[.slice a n cap, .slice b k kc, .int .i64 c] w (NewAt w n (appW M L c)) := by
  obtain ⟨q, hq⟩ : ∃ q, cntW c k = q := ⟨_, rfl⟩
  have hqk : q ≤ k := by rw [← hq]; exact cntW_le c k
  have HQ := Lib.hid (show L.take q = L.take c.toNat by rw [← hq, ← hL.1]; exact take_cnt L c)
  have HCL := Lib.hid (show ∀ w' : World, Calls Tryz.prog 54 #[.int .i64 c, .int .i64 0, .int .i64 k] w' (Ret w' q) from fun w' => by rw [← hq]; exact impl_cut c k hk w')
  have hsl := cut_h b k kc q hsp (by omega)
  have HM := Lib.hid hM
  have HL := Lib.hid hL
  have hml := hM.1
  clear hq hsp hM hL hkc
  go_enter Tryz.func14, Tryz.ntmps14
  go_wp2_with (first
    | (go_at_call 53; refine (impl_copyof _ _ _ _ M hn HM.out).mono ?_; rintro e w1 ⟨g, rfl, hg, hx, hb⟩; refine Hid.out ?_))
  have HX := Lib.hid (And.intro hx hb)
  clear hx hb
  refine Lib.hid ?_
  go_wp2_with (first
    | (go_at_call 54; (with_reducible refine (HCL.out _).mono ?_); rintro e w2 ⟨rfl, rfl⟩))
  go_loopw [9, 19] (fun _ i wr => ∃ j : Nat, j ≤ q ∧ i = .int .i64 j ∧ Box g (ivs (putAll M (L.take j))).toArray 3 wr ∧ Below w.heap.size w wr) (fun _ i _ => q - (intOf i).toNat)
  case atStart => exact ⟨0, Nat.zero_le _, rfl, HX.out.1, HX.out.2⟩
  case round =>
    obtain ⟨j, hj, rfl, hbx, hbel⟩ := hrel
    by_cases hlt : j < q
    · have hI : (j : Int) < q := by omega
      obtain ⟨b0, off, s, rfl, hlb, hs, hr⟩ := (HL.out.below hbel).2 j (by omega)
      have HS := Lib.hid (putAll_snoc (M := M) hs)
      obtain ⟨p, v⟩ := s
      have HR := Lib.hid (And.intro hr (And.intro hbx hbel))
      have hgl := hbx.lt
      have hpl : (putAll M (L.take j)).length = n := by rw [putAll_len]; exact hml
      clear hr hbx hbel hs
      go_wp2_with (first
        | (refine wpList_load_mid rfl 74 _ rfl b0 (off + j * 2) rfl (writeC ⟨p, v⟩) _ HR.out.1 Tryz.underlying74 rfl (by kernel_rfl) ?_)
        | (refine wpList_store_box rfl 74 _ _ rfl wr.heap.size _ _ (Box.new wr _ _) #[.int .i64 p, .int .i64 v] rfl rfl rfl (by kernel_rfl) (by simp [Value.oneCell']) ?_; intro w2 hx2 hg2; refine Hid.out ?_))
      have hb2 : Below wr.heap.size wr w2 := (below_new wr _).grown hg2 (by simp) (fun j hj => by cases hj; exact Nat.le_refl _)
      have c0 := hx2.cell 0
      have c1 := hx2.cell 1
      have H2 := Lib.hid (And.intro (HR.out.2.1.below hb2) (below_then HR.out.2.2 hb2))
      clear hx2 hg2 hb2
      by_cases hin : 0 ≤ p ∧ p < n
      · obtain ⟨m, rfl⟩ : ∃ m : Nat, p = m := ⟨p.toNat, by omega⟩
        have hmn : m < n := by omega
        have hd : (decide (0 ≤ (m : Int)) && decide ((m : Int) < n)) = true := by simp; omega
        have HIW := Lib.hid (show ∀ w' : World, Calls Tryz.prog 55 #[.slice (some ⟨g, 0, none⟩) n n, .int .i64 (m : Int)] w' (RetB w' true) from fun w' => impl_isword _ _ _ _ true hd w')
        have HP := Lib.hid (put1_in (M := putAll M (L.take j)) (x := ⟨m, v⟩) rfl (by rw [hpl]; exact hmn))
        obtain ⟨X, hX⟩ : ∃ X, w2.cell? ⟨g, m, none⟩ = some (.int .i64 X) := ⟨(putAll M (L.take j))[m]'(by omega), by rw [H2.out.1.cell]; simp [ivs, hpl, hmn]⟩
        have hfz : w2.frozen? ⟨g, m, none⟩ = false := H2.out.1.frozen _
        clear hd hin hpl
        refine Lib.hid ?_
        go_wp2_with (first
          | (go_at_call 55; (with_reducible refine (HIW.out _).mono ?_); rintro e w3 ⟨rfl, rfl⟩))
        go_roundw
        case rel => exact ⟨j + 1, by omega, by go_num, by rw [HS.out, HP.out, ← ivs_put]; exact H2.out.1.set m _, H2.out.2.grown (grown_setCell _ g m _) H2.out.2.size (fun j hj => by cases hj; exact hg)⟩
        case measure => simp [intOf]; omega
      · have hd : (decide (0 ≤ p) && decide (p < n)) = false := by
          rw [← Bool.not_eq_true, Bool.and_eq_true, decide_eq_true_eq, decide_eq_true_eq]; exact hin
        have HD := Lib.hid hd
        have HP := Lib.hid (put1_out (M := putAll M (L.take j)) (x := ⟨p, v⟩) (by rw [hpl]; exact hin))
        clear hd hin hpl
        refine Lib.hid ?_
        go_wp2_with (first
          | (go_at_call 55; refine (impl_isword _ _ _ _ false HD.out _).mono ?_; rintro e w3 ⟨rfl, rfl⟩))
        go_roundw
        case rel => exact ⟨j + 1, by omega, by go_num, by rw [HS.out, HP.out]; exact H2.out.1, H2.out.2⟩
        case measure => simp [intOf]; omega
    · obtain rfl : j = q := by omega
      have hI : ¬ (j : Int) < j := by omega
      have HB := Lib.hid (And.intro hbx hbel)
      clear hbx hbel
      go_wp2
      go_ret
      exact ⟨g, rfl, hg, by show Box g (ivs (putAll M (L.take c.toNat))).toArray _ _; rw [← HQ.out]; exact HB.out.1, HB.out.2⟩
end Go.Proofs.YtcmhiadaebpgmaaGreatDoor.wrt

/- Chapter 10 of the model: WriteWord, ApplyWrites; new rows; nothing that was there is written. -/
namespace Go.Proofs.YtcmhiadaebpgmaaGreatDoor.wrt
open Go Go.ChangeShapes Go.WideShapes Go.ChangeAt Go.RowKit Go.Proofs.YtcmhiadaebpgmaaGreatDoor.row Go.Proofs.YtcmhiadaebpgmaaGreatDoor.val Go.Proofs.YtcmhiadaebpgmaaGreatDoor.expr Go.Proofs.YtcmhiadaebpgmaaGreatDoor.grow

theorem made_at (w : World) (k B : Nat) (hk : w.heap.size = k) (hB : B ≤ k) (e : TypeId) : (w.alloc (.cells #[] e)).ownsRow B e 1 (.slice (some ⟨k, 0, none⟩) 0 0) 0 [] := by
  subst hk; exact World.ownsRow_made w #[] 0 hB (Nat.zero_le _) rfl
theorem own_slice {w : World} {B : Nat} {ty : TypeId} {v : Value} {n : Nat} {xs : List Value} (h : w.ownsRow B ty 1 v n xs) : ∃ ad cap, v = .slice ad n cap := by
  rcases h.2 with ⟨e, e0⟩ | ⟨g, c, _, e, _⟩
  · exact ⟨_, _, by rw [e, e0]⟩
  · exact ⟨_, _, e⟩
theorem stored_put {w : World} {B g n c m : Nat} {P : List Int} {v : Int} (h : w.ownsRow B 3 1 (.slice (some ⟨g, 0, none⟩) n c) n (ivs P)) : (w.setCell ⟨g, m, none⟩ (.int .i64 v)).ownsRow B 3 1 (.slice (some ⟨g, 0, none⟩) n c) n (ivs (P.set m v)) := by
  have := (h.stored m (.int .i64 v)).1
  rw [ivs_set] at this; exact this
theorem word_in {p : Int} {n m : Nat} (hp : p = m) (hm : m < n) : (decide (0 ≤ p) && decide (p ≤ (n : Int) - 1)) = true := by simp; omega
theorem word_out {p : Int} {n : Nat} (h : ¬ (0 ≤ p ∧ p < n)) : (decide (0 ≤ p) && decide (p ≤ (n : Int) - 1)) = false := by
  rw [← Bool.not_eq_true, Bool.and_eq_true, decide_eq_true_eq, decide_eq_true_eq]; omega
end Go.Proofs.YtcmhiadaebpgmaaGreatDoor.wrt

/- What the draw of words and of writes to them returns: a new row of twelve words below 99, and a new row of at most nine writes; nothing that was there is written. The law's own comparison of two rows that are the same. -/
namespace Go.Proofs.YtcmhiadaebpgmaaGreatDoor.wrt
open Go Go.ChangeShapes Go.WideShapes Go.ChangeAt Go.RowKit Go.Proofs.YtcmhiadaebpgmaaGreatDoor.row Go.Proofs.YtcmhiadaebpgmaaGreatDoor.val Go.Proofs.YtcmhiadaebpgmaaGreatDoor.expr Go.Proofs.YtcmhiadaebpgmaaGreatDoor.grow Go.Proofs.YtcmhiadaebpgmaaGreatDoor.cur

/-- Twelve words and some writes, in new memory. -/
def DrawnW (w : World) (e : Ending) (w' : World) : Prop :=
  ∃ (g : Nat) (M : List Int) (ad : Option Addr) (n c : Nat) (L : List Wt), e = .returned (.tuple #[.slice (some ⟨g, 0, none⟩) 12 12, .slice ad n c]) ∧ n ≤ 9 ∧ n ≤ c ∧ (∀ x, ad = some x → x.spot = none) ∧ Hid (∀ x ∈ M, 0 ≤ x ∧ x < 99) ∧
    Row w' (some ⟨g, 0, none⟩) 12 M ∧ WriteRow w' ad n L ∧ Below w.heap.size w w'
theorem own_shape {w : World} {B m n : Nat} {ty : TypeId} {v : Value} {xs : List Value} (h : w.ownsRow B ty m v n xs) : ∃ ad c, v = .slice ad n c ∧ n ≤ c ∧ ∀ x, ad = some x → x.spot = none := by
  rcases h.2 with ⟨e, e0⟩ | ⟨g, c, _, e, _, _, h4, _⟩
  · exact ⟨none, 0, by rw [e, e0], by omega, fun x hx => by cases hx⟩
  · exact ⟨some ⟨g, 0, none⟩, c, e, h4, fun x hx => by cases hx; rfl⟩
theorem words_set {M : List Int} (h : ∀ x ∈ M, 0 ≤ x ∧ x < 99) {q : Int} (h0 : 0 ≤ q) (h1 : q < 99) (j : Nat) : ∀ x ∈ M.set j q, 0 ≤ x ∧ x < 99 := by
  intro x hx
  rcases List.mem_or_eq_of_mem_set hx with h2 | rfl
  · exact h x h2
  · exact ⟨h0, h1⟩
theorem words_zero (n : Nat) : ∀ x ∈ List.replicate n (0 : Int), 0 ≤ x ∧ x < 99 := by
  intro x hx; rw [List.eq_of_mem_replicate hx]; omega
theorem writes_snoc (L : List Wt) (p v : Int) : writesC L ++ [Value.int .i64 p, .int .i64 v] = writesC (L ++ [⟨p, v⟩]) := by
  show _ = gcs writeC (L ++ [_])
  rw [gcs_app, gcs_one]; rfl
theorem block_ne {w : World} {B m n : Nat} {ty : TypeId} {v : Value} {xs : List Value} (h : w.ownsRow B ty m v n xs) {b : Nat} (hb : b < B) : v.ownBlock = none ∨ v.ownBlock ≠ some b := by
  cases hv : v.ownBlock with
  | none => exact .inl rfl
  | some j => right; have := (h.lt j hv).1; intro e; injection e; omega
set_option maxHeartbeats 1000000 in
theorem same_any (w : World) (a a' : Option Addr) (n cap cap' : Nat) (L : List Int) (hn : (n : Int) ≤ 1048576) (h1 : Row w a n L) (h2 : Row w a' n L) :
    Calls Tryz.prog 17 #[.slice a n cap, .slice a' n cap'] w fun e w' => e = .returned (.bool true) ∧ w.grownBy w' none := by
  have HC : Hid (∀ k, k < n → ∃ (g o g' o' : Nat) (X : Int), a = some ⟨g, o, none⟩ ∧ a' = some ⟨g', o', none⟩ ∧ w.cell? ⟨g, o + k, none⟩ = some (.int .i64 X) ∧ w.cell? ⟨g', o' + k, none⟩ = some (.int .i64 X)) := by
    intro k hk
    obtain ⟨g, o, X, e1, _, x1, c1⟩ := h1.2 k hk
    obtain ⟨g', o', X', e2, _, x2, c2⟩ := h2.2 k hk
    obtain rfl : X = X' := by rw [x1] at x2; exact Option.some.inj x2
    exact ⟨g, o, g', o', X, e1, e2, c1, c2⟩
  clear h1 h2
  go_enter Tryz.func17, Tryz.ntmps17
  go_wp2
  go_loopw [5] (fun i wr => ∃ k : Nat, k ≤ n ∧ i = .int .i64 k ∧ w.grownBy wr none) (fun i _ => n - (intOf i).toNat)
  case atStart => exact ⟨0, Nat.zero_le _, rfl, row.grown_refl _ _⟩
  case round =>
    obtain ⟨k, hk, rfl, hg⟩ := hrel
    by_cases hlt : k < n
    · obtain ⟨g, o, g', o', X, rfl, rfl, c1, c2⟩ := HC.out k hlt
      have d1 := hg.cell c1 (by simp)
      have d2 := hg.cell c2 (by simp)
      have hI : (k : Int) < n := by omega
      clear c1 c2
      go_wp2
      go_quiet (fail)
      go_wp2
      go_roundw
      case rel => exact ⟨k + 1, by omega, by go_num, row.grown_drewN hg _⟩
      case measure => simp [intOf]; omega
    · go_wp2
      go_ret
      exact ⟨rfl, hg⟩
end Go.Proofs.YtcmhiadaebpgmaaGreatDoor.wrt
