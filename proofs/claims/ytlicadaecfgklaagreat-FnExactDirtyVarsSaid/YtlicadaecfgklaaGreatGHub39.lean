/- Several texts in one: LogI RecJ. -/
import Derived.Test.YtlicadaecfgklaaGreatGHub36
import Derived.Deep.RegionHeld3
import Derived.Test.YtlicadaecfgklaaGreatGHub28
import Derived.Test.YtlicadaecfgklaaGreatGHub38
import Derived.Test.YtlicadaecfgklaaGreatGHub31

/- The program's without, MustLog, NeedsLog, IsRestartable, LogRoom: what the plain relations say; nothing that was there is written. -/
namespace Go.Proofs.YtlicadaecfgklaaGreat.sets
open Go Go.ChangeShapes Go.WideShapes Go.ChangeAt Go.RowKit Go.Proofs.YtlicadaecfgklaaGreat.row Go.Proofs.YtlicadaecfgklaaGreat.val Go.Proofs.YtlicadaecfgklaaGreat.stm Go.Proofs.YtlicadaecfgklaaGreat.blk Go.Proofs.YtlicadaecfgklaaGreat.expr Go.Proofs.YtlicadaecfgklaaGreat.prg

theorem below_grow1 {w wr w4 : World} {g m c n : Nat} {xs : List Value} {x : Value} {ty e : TypeId} {s : Nat} (hb : Below w.heap.size w wr) (ho : wr.ownsRow w.heap.size e s (.slice (some ⟨g, 0, none⟩) m c) n xs) (hg : (wr.alloc (.cells #[x] ty)).grownBy w4 (Value.slice (some ⟨g, 0, none⟩) m c).ownBlock) : Below w.heap.size w w4 :=
  (below_then hb (below_new wr _)).grown hg (by have := hb.size; simp; omega) (fun j hj => (ho.lt j hj).1)
set_option maxHeartbeats 8000000 in
set_option maxRecDepth 100000 in
theorem impl_without (a : Option Addr) (na ca : Nat) (L : List Int) (ab : Option Addr) (nb cb : Nat) (B : List Int) (hna : (na : Int) ≤ 1048576) (hnb : (nb : Int) ≤ 1048576) (w : World) (hL : Row w a na L) (hB : Row w ab nb B) :
    Calls Tryz.prog 23 #[.slice a na ca, .slice ab nb cb] w (NewInts w (L.filter (fun x => !decide (x ∈ B)))) := by
  obtain ⟨i0, hi, hz0, hz1, hz2⟩ := info_parts infoInt
  have HL := Lib.hid hL
  have HB := Lib.hid hB
  have hlen := hL.1
  clear hL hB
  go_enter Tryz.func23, Tryz.ntmps23
  go_wp2
  go_loopw [5, 7, 11] (fun v _ i wr => ∃ (k n g c : Nat), k ≤ na ∧ i = .int .i64 k ∧ v = .slice (some ⟨g, 0, none⟩) n c ∧ Hid (wr.ownsRow w.heap.size 3 1 (.slice (some ⟨g, 0, none⟩) n c) n (ivs ((L.take k).filter (fun x => !decide (x ∈ B))))) ∧ Hid (Below w.heap.size w wr)) (fun _ _ i _ => na - (intOf i).toNat)
  case atStart => exact ⟨0, 0, w.heap.size, 0, Nat.zero_le _, rfl, rfl, World.ownsRow_made w #[] 0 (Nat.le_refl _) (by decide) rfl, below_new w _⟩
  case round =>
    obtain ⟨k, n, g, c, hk, rfl, rfl, HO, HR⟩ := hrel
    have hnl : n ≤ na := by have h1 := own_len HO.out; have h2 := tf_len L k (fun x => !decide (x ∈ B)); omega
    by_cases hlt : k < na
    · have hI : (k : Int) < na := by omega
      have HRB := Lib.hid (HB.out.below HR.out)
      obtain ⟨b, off, x, rfl, hlb, hx, hc⟩ := (HL.out.below HR.out).2 k hlt
      have hws := HR.out.size
      cases hr : decide (x ∈ B)
      · have HP := Lib.hid hr
        clear hr
        have HG := Lib.hid (tf_yes (p := fun x => !decide (x ∈ B)) hx (by simp [HP.out]))
        clear hx
        go_wp2_with (first
          | (go_at_call 49; (with_reducible refine (contains_any wr ab nb cb B x false (by omega) HRB.out HP.out).mono ?_); rintro e wr ⟨rfl, rfl⟩)
          | (at_builtin; refine wpList_append_own_at _ rfl _ _ 25 rfl w.heap.size 3 i0 (.int .i64 0) 1 8 Tryz.underlying25 hi hz0 hz1 hz2 rfl (by decide) _ _ _ rfl (HO.out.alloc _) ⟨wr.heap.size, 0, none⟩ 1 1 [.int .i64 x] rfl rfl (World.news_of_block (cs := #[.int .i64 x]) (t := 3) (fr := (0, 0)) (heap_alloc_new wr _)) (by simp [Value.oneCell']) (by unfold maxLen; omega) (by omega) (by simp; omega) ?_; intro v4 w4 hown4 hgrow4 _ hat4; refine Hid.out ?_))
        rw [ivs_snoc, ← HG.out] at hown4
        have hb4 := below_grow1 HR.out HO.out hgrow4
        obtain ⟨g4, cp4, rfl, hg4, _⟩ := hown4.form (by omega)
        have HO4 := Lib.hid hown4
        have HR4 := Lib.hid hb4
        clear hown4 hgrow4 hat4 hb4 hc
        refine Lib.hid ?_
        go_wp2
        go_roundw
        case rel => exact ⟨k + 1, n + 1, g4, cp4, by omega, by go_num, rfl, HO4, HR4⟩
        case measure => simp [intOf]; omega
      · have HP := Lib.hid hr
        clear hr
        have HG := Lib.hid (tf_no (p := fun x => !decide (x ∈ B)) hx (by simp [HP.out]))
        rw [← HG.out] at HO
        clear hx
        go_wp2_with (first
          | (go_at_call 49; (with_reducible refine (contains_any wr ab nb cb B x true (by omega) HRB.out HP.out).mono ?_); rintro e wr ⟨rfl, rfl⟩))
        go_roundw
        case rel => exact ⟨k + 1, n, g, c, by omega, by go_num, rfl, HO, HR⟩
        case measure => simp [intOf]; omega
    · obtain rfl : k = na := by omega
      have hI : ¬ (k : Int) < k := by omega
      go_wp2
      go_ret
      refine ⟨_, _, _, rfl, ?_, HR.out⟩
      have h9 := HO.out
      rw [List.take_of_length_le (by omega)] at h9
      exact h9
theorem kept4 {w w' : World} {a : Nat} {x0 x1 x2 x3 : Value} (hb : Below w.heap.size w w') (ha : a < w.heap.size)
    (h : w.cell? ⟨a, 0, none⟩ = some x0 ∧ w.cell? ⟨a, 1, none⟩ = some x1 ∧ w.cell? ⟨a, 2, none⟩ = some x2 ∧ w.cell? ⟨a, 3, none⟩ = some x3) :
    w'.cell? ⟨a, 0, none⟩ = some x0 ∧ w'.cell? ⟨a, 1, none⟩ = some x1 ∧ w'.cell? ⟨a, 2, none⟩ = some x2 ∧ w'.cell? ⟨a, 3, none⟩ = some x3 := by
  have e : ∀ (o : Nat), w'.cell? ⟨a, o, none⟩ = w.cell? ⟨a, o, none⟩ := fun o => hb.cell (p := ⟨a, o, none⟩) ha
  rw [e 0, e 1, e 2, e 3]
  exact h
theorem filter_len8 (f : Nat → Bool) (p : Int → Bool) : ((lst f 8).filter p).length ≤ 8 := Nat.le_trans (List.length_filter_le _ _) (lst_len f 8)
set_option maxHeartbeats 8000000 in
set_option maxRecDepth 100000 in
theorem impl_mustlog (ab : Option Addr) (nb cb : Nat) (t : Tk) (hn : (nb : Int) ≤ 1048576) (hcap : nb ≤ cb) (w : World) (h : StRow w ab nb t.b) (f : Nat → Bool) (hf : Is f (LogP t)) :
    Calls Tryz.prog 25 #[tkV ab nb cb t] w (NewInts w (lst f 8)) := by
  obtain ⟨r, hr⟩ := tsk_dec t
  have HTO := Lib.hid (show ∀ w', StRow w' ab nb t.b → Calls Tryz.prog 53 #[tkV ab nb cb t] w' (BelB w' r) from fun w' h' => impl_taskok ab nb cb t hn w' h' r hr)
  have hlen : t.b.length = nb := h.1
  obtain ⟨W, hW⟩ : ∃ W, w.alloc (.cells #[.slice ab nb cb, .int .i64 t.o, .int .i64 t.x, .int .i64 t.y] 47) = W := ⟨_, rfl⟩
  have hbx : Box w.heap.size #[.slice ab nb cb, .int .i64 t.o, .int .i64 t.x, .int .i64 t.y] 47 W := by rw [← hW]; exact Box.new _ _ _
  have hBW : Below w.heap.size w W := by rw [← hW]; exact below_new _ _
  have H := Lib.hid (And.intro hbx (And.intro hBW (h.below hBW)))
  clear h hbx hBW
  have HF := Lib.hid hf
  clear hf
  cases r
  · have HFL := Lib.hid (show lst f 8 = [] from log_none (fun h => by have := hr.2 h; cases this) HF.out)
    clear hr
    go_enter Tryz.func25, Tryz.ntmps25
    go_wp2_with (first
      | (refine wpList_load_row rfl 47 _ rfl w.heap.size rfl _ _ _ _ H.out.1 Tryz.underlying47 rfl (by kernel_rfl) ?_)
      | (go_at_call 53; (with_reducible refine (HTO.out _ H.out.2.2).mono ?_); rintro e w2 ⟨rfl, hb2⟩))
    go_ret
    exact ⟨none, 0, 0, rfl, by rw [HFL.out]; exact World.ownsRow_nil _ _ _ _, below_then H.out.2.1 hb2⟩
  · have HT := Lib.hid (hr.1 rfl)
    obtain ⟨fm, hfm⟩ := is_ex (fun v => IsBlk t.b ∧ MayTo t.b nb v)
    obtain ⟨fu, hfu⟩ := is_ex (fun v => IsBlk t.b ∧ WAt t.b nb v)
    obtain ⟨ff, hff⟩ := is_ex (FirstP t)
    obtain ⟨K, hK⟩ : ∃ K, (lst fu 8).filter (fun y => !decide (y ∈ lst ff 8)) = K := ⟨_, rfl⟩
    have hK8 : K.length ≤ 8 := by rw [← hK]; exact filter_len8 _ _
    have HLF := Lib.hid (show (lst fm 8).filter (fun x => !decide (x ∈ K)) = lst f 8 from by rw [← hK]; exact log_prog HT.out (by rw [hlen]; exact hfm) (by rw [hlen]; exact hfu) hff HF.out)
    have HFM := Lib.hid (And.intro hfm (And.intro hfu hff))
    have HWI := Lib.hid (show ∀ (w' : World) (a1 : Option Addr) (m1 k1 : Nat) (a2 : Option Addr) (m2 k2 : Nat), (m1 : Int) ≤ 1048576 → (m2 : Int) ≤ 1048576 → Row w' a1 m1 (lst fu 8) → Row w' a2 m2 (lst ff 8) → Calls Tryz.prog 23 #[.slice a1 m1 k1, .slice a2 m2 k2] w' (NewInts w' K) from fun w' a1 m1 k1 a2 m2 k2 q1 q2 q3 q4 => by rw [← hK]; exact impl_without a1 m1 k1 _ a2 m2 k2 _ q1 q2 w' q3 q4)
    clear hr hfm hfu hff hK
    go_enter Tryz.func25, Tryz.ntmps25
    go_wp2_with (first
      | (refine wpList_load_row rfl 47 _ rfl w.heap.size rfl _ _ _ _ H.out.1 Tryz.underlying47 rfl (by kernel_rfl) ?_)
      | (go_at_call 53; (with_reducible refine (HTO.out _ H.out.2.2).mono ?_); rintro e w2 ⟨rfl, hb2⟩; refine Hid.out ?_))
    have H2 := Lib.hid (And.intro (H.out.1.below hb2) (And.intro (below_then H.out.2.1 hb2) (H.out.2.2.below hb2)))
    clear hb2 hW
    have HD := Lib.hid (show Below w2.heap.size w2 w2.drew from Below.drew (Below.refl _ w2))
    have HBX := Lib.hid (H2.out.1.below HD.out)
    have c8 : w2.drew.cell? ⟨w.heap.size, 0, none⟩ = some (.slice ab nb cb) ∧ w2.drew.cell? ⟨w.heap.size, 1, none⟩ = some (.int .i64 t.o) ∧ w2.drew.cell? ⟨w.heap.size, 2, none⟩ = some (.int .i64 t.x) ∧ w2.drew.cell? ⟨w.heap.size, 3, none⟩ = some (.int .i64 t.y) := ⟨HBX.out.cell 0, HBX.out.cell 1, HBX.out.cell 2, HBX.out.cell 3⟩
    have l8 : w.heap.size < w2.drew.heap.size := HBX.out.lt
    have HSR := Lib.hid (H2.out.2.2.below HD.out)
    refine Lib.hid ?_
    go_wp2
    go_region_held3 (fun w' => w'.cell? ⟨w.heap.size, 0, none⟩ = some (.slice ab nb cb) ∧ w'.cell? ⟨w.heap.size, 1, none⟩ = some (.int .i64 t.o) ∧ w'.cell? ⟨w.heap.size, 2, none⟩ = some (.int .i64 t.x) ∧ w'.cell? ⟨w.heap.size, 3, none⟩ = some (.int .i64 t.y))
      (first
        | (with_reducible exact c8)
        | (with_reducible exact kept4 hb5 (Nat.lt_of_lt_of_le l8 (Nat.le_trans hb3.size hb4.size)) (kept4 hb4 (Nat.lt_of_lt_of_le l8 hb3.size) (kept4 hb3 l8 c8)))
        | (with_reducible exact kept4 hb4 (Nat.lt_of_lt_of_le l8 hb3.size) (kept4 hb3 l8 c8))
        | (with_reducible exact kept4 hb3 l8 c8))
      (first
        | (go_at_call 54; (with_reducible refine (impl_mustwrite ab nb cb t.b hn hcap _ HSR.out fu HFM.out.2.1).mono ?_); rintro e w3 ⟨a3, n3, c3, rfl, ho3, hb3⟩; have hn3 : (n3 : Int) ≤ 8 := by (have h1 := own_len ho3; have h2 := lst_len fu 8; omega))
        | (go_at_call 55; (with_reducible refine (impl_mayread ab nb cb t hn _ (HSR.out.below hb3) ff HFM.out.2.2).mono ?_); rintro e w4 ⟨a4, n4, c4, rfl, ho4, hb4⟩; have hn4 : (n4 : Int) ≤ 8 := by (have h1 := own_len ho4; have h2 := lst_len ff 8; omega))
        | (go_at_call 23; (with_reducible refine (HWI.out _ a3 n3 c3 a4 n4 c4 (by omega) (by omega) ((Row.of_own ho3).below hb4) (Row.of_own ho4)).mono ?_); rintro e w5 ⟨a5, n5, c5, rfl, ho5, hb5⟩))
    all_goals
      have hn5 : (n5 : Int) ≤ 8 := by have h1 := own_len ho5; omega
      have hb25 := below_then HD.out (below_then hb3 (below_then hb4 hb5))
      have H5 := Lib.hid (And.intro (H2.out.1.below hb25) (And.intro (below_then H2.out.2.1 hb25) (And.intro (H2.out.2.2.below hb25) (Row.of_own ho5))))
      have d0 : w5.cell? ⟨w.heap.size, 0, none⟩ = some (.slice ab nb cb) := H5.out.1.cell 0
      clear hb25 hb3 hb4 hb5 ho3 ho4 ho5 c8 l8
      refine Lib.hid ?_
      go_wp2_with (go_at_call 24; (with_reducible refine (impl_maywrite ab nb cb t.b hn hcap _ H5.out.2.2.1 fm HFM.out.1).mono ?_); rintro e w6 ⟨a6, n6, c6, rfl, ho6, hb6⟩; refine Hid.out ?_)
      have hn6 : (n6 : Int) ≤ 8 := by have h1 := own_len ho6; have h2 := lst_len fm 8; omega
      have H6 := Lib.hid (And.intro (below_then H5.out.2.1 hb6) (And.intro (Row.of_own ho6) (H5.out.2.2.2.below hb6)))
      clear hb6 ho6 d0
      refine Lib.hid ?_
      go_wp2_with (go_at_call 23; (with_reducible refine (impl_without a6 n6 c6 _ a5 n5 c5 _ (by omega) (by omega) _ H6.out.2.1 H6.out.2.2).mono ?_); rintro e w7 ⟨a7, n7, c7, rfl, ho7, hb7⟩)
      go_ret
      exact ⟨_, _, _, rfl, by rw [← HLF.out]; exact ho7.mono H6.out.1.size, below_then H6.out.1 hb7⟩
end Go.Proofs.YtlicadaecfgklaaGreat.sets

/- Chapter 15 of the program: DirtyVars: a row in new memory; nothing that was there is written. -/
namespace Go.Proofs.YtlicadaecfgklaaGreat.rcv
open Go Go.ChangeShapes Go.WideShapes Go.ChangeAt Go.RowKit Go.Proofs.YtlicadaecfgklaaGreat.row Go.Proofs.YtlicadaecfgklaaGreat.val Go.Proofs.YtlicadaecfgklaaGreat.expr Go.Proofs.YtlicadaecfgklaaGreat.stm Go.Proofs.YtlicadaecfgklaaGreat.blk Go.Proofs.YtlicadaecfgklaaGreat.sets Go.Proofs.YtlicadaecfgklaaGreat.prg Go.Proofs.YtlicadaecfgklaaGreat.ctl Go.Proofs.YtlicadaecfgklaaGreat.mem
theorem own_cap {w : World} {B : Nat} {a : Option Addr} {n c s : Nat} {e : TypeId} {xs : List Value} (h : w.ownsRow B e s (.slice a n c) n xs) : n ≤ c := by
  rcases h.2 with ⟨e, e0⟩ | ⟨g', c', cur, e, _, _, h9, _⟩
  · cases e; omega
  · cases e; exact h9
set_option maxHeartbeats 8000000 in
set_option maxRecDepth 100000 in
theorem impl_dirtyvars : DvC := by
  intro a n cap P hz hcap w h ad nv cv V hnv hcv hV h8 U hU
  obtain ⟨f, hf, rfl⟩ := hU
  obtain ⟨r, hr⟩ := mem_dec P V
  obtain ⟨W, hW⟩ : ∃ W, w.alloc (.cells #[.slice a n cap] 30) = W := ⟨_, rfl⟩
  have hbx : Box w.heap.size #[.slice a n cap] 30 W := by rw [← hW]; exact Box.new _ _ _
  have hBW : Below w.heap.size w W := by rw [← hW]; exact below_new _ _
  have H := Lib.hid (And.intro hbx (And.intro hBW (And.intro (h.below hBW) (hV.below hBW))))
  have HF := Lib.hid hf
  have HMO := Lib.hid (show ∀ w', TkRow w' a n P → Row w' ad nv V → Calls Tryz.prog 21 #[.agg #[.slice a n cap], .slice ad nv cv] w' (BelB w' r) from fun w' h1 h2 => impl_memok8 a n cap P hz hcap w' h1 ad nv cv V h2 h8 r hr)
  have hPl := h.1
  have hVl := hV.1
  have HZ := Lib.hid hz
  clear h hbx hBW hf hV hz
  cases r
  · have HFL := Lib.hid (show lst f 8 = [] from dirty_none (fun h => by have := hr.2 h; cases this) HF.out)
    clear hr h8
    go_enter Tryz.func8, Tryz.ntmps8
    go_wp2_with (first
      | (refine wpList_load_row rfl 30 _ rfl w.heap.size rfl _ _ _ _ H.out.1 Tryz.underlying30 rfl (by kernel_rfl) ?_)
      | (go_at_call 21; (with_reducible refine (HMO.out _ H.out.2.2.1 H.out.2.2.2).mono ?_); rintro e w2 ⟨rfl, hb2⟩))
    go_ret
    exact ⟨_, _, _, rfl, by rw [HFL.out]; exact World.ownsRow_nil _ _ _ _, below_then H.out.2.1 hb2⟩
  · have hmi := hr.1 rfl
    obtain rfl : nv = 49 := by rw [← hVl]; exact hmi.2.1
    obtain ⟨b, off, x, rfl, hlb, hx, _⟩ := H.out.2.2.2.2 8 (by decide)
    have hX : V.getD 8 0 = x := by rw [List.getD_eq_getElem?_getD, hx]; rfl
    have hxw : -9223372036854775808 ≤ x ∧ x ≤ 9223372036854775807 := by rw [hX] at h8; exact h8
    have hok : wOk x = true := by rw [← hX]; exact hmi.2.2.1
    have hct := (ctlOk_iff _ _ _).1 hok
    have htn := hmi.2.2.2.1
    rw [hX] at htn
    obtain ⟨j, hj⟩ : ∃ j : Nat, wT x = j := ⟨(wT x).toNat, by omega⟩
    obtain ⟨c, hc⟩ : ∃ c, unC x = c := ⟨_, rfl⟩
    obtain ⟨nn, hnn⟩ : ∃ c, unN x = c := ⟨_, rfl⟩
    have hjn : j < n := by omega
    have hjI : (j : Int) < n := by omega
    have HU := Lib.hid (show unT x = (j : Int) ∧ unC x = c ∧ unN x = nn from ⟨by unfold unT; rw [hok]; exact hj, hc, hnn⟩)
    obtain ⟨g, offp, t, rfl, hlg, ht, hT⟩ := H.out.2.2.1.2 j hjn
    obtain ⟨ab, nb, cb, hrg, hnc, hst⟩ := hT
    have hPj : P[(wT (V.getD 8 0)).toNat]? = some t := by rw [hX, hj]; exact ht
    obtain ⟨fm, hfm⟩ := is_ex (fun v => IsBlk t.b ∧ MayTo t.b nb v)
    obtain ⟨fl, hfl⟩ := is_ex (LogP t)
    have hbl : t.b.length = nb := hst.1
    have hnb : (nb : Int) ≤ 1048576 := by have := HZ.out.2 t (List.mem_of_getElem? ht); omega
    have HLF := Lib.hid (dirty_list hmi hPj HF.out (by rw [hbl]; exact hfm) hfl)
    have HFM := Lib.hid (And.intro hfm hfl)
    have HST := Lib.hid hst
    have HRG := Lib.hid hrg
    have HC8 := Lib.hid (show ∀ w', Below W.heap.size W w' → w'.cell? ⟨b, off + 8, none⟩ = some (.int .i64 x) from fun w' hb => by rw [← hX]; exact row_word (H.out.2.2.2.below hb) (by decide))
    have hlg2 : g < W.heap.size := hlg
    clear hr hfm hfl hmi hx hX hok hct htn hc hnn hPj hst hrg ht hj hbl h8 hlg
    go_enter Tryz.func8, Tryz.ntmps8
    go_wp2_with (first
      | (refine wpList_load_row rfl 30 _ rfl w.heap.size rfl _ _ _ _ H.out.1 Tryz.underlying30 rfl (by kernel_rfl) ?_)
      | (go_at_call 21; (with_reducible refine (HMO.out _ H.out.2.2.1 H.out.2.2.2).mono ?_); rintro e w2 ⟨rfl, hb2⟩; refine Hid.out ?_))
    have H2 := Lib.hid (And.intro (H.out.1.below hb2) (And.intro (below_then H.out.2.1 hb2) (HST.out.below hb2)))
    have hs2 := hb2.size
    have c0 : w2.cell? ⟨w.heap.size, 0, none⟩ = some (.slice (some ⟨g, offp, none⟩) n cap) := H2.out.1.cell 0
    have c8 : w2.cell? ⟨b, off + 8, none⟩ = some (.int .i64 x) := HC8.out w2 hb2
    have HR2 := Lib.hid (show w2.rangeAt g (offp + j * 4) (tkC ab nb cb t) from fun k v hk => (hb2.cell (p := ⟨g, offp + j * 4 + k, none⟩) hlg2).trans (HRG.out k v hk))
    have HT2 := Lib.hid (And.intro (Box.new w2 #[.slice none 0 0, .int .i64 0, .int .i64 0, .int .i64 0] 47) (below_new w2 (.cells #[.slice none 0 0, .int .i64 0, .int .i64 0, .int .i64 0] 47)))
    clear hb2
    refine Lib.hid ?_
    go_wp2_with (first
      | (go_at_call 22; refine (impl_unpack_is x _ _ _ hxw HU.out _).mono ?_; rintro e w3 ⟨rfl, rfl⟩)
      | (refine wpList_load_mid rfl 47 _ rfl g (offp + j * 4) rfl (tkC ab nb cb t) _ HR2.out Tryz.underlying47 rfl (by kernel_rfl) ?_)
      | (refine wpList_store_box rfl 47 _ _ rfl w2.heap.size _ _ HT2.out.1 #[.slice ab nb cb, .int .i64 t.o, .int .i64 t.x, .int .i64 t.y] rfl rfl rfl (by kernel_rfl) (by simp [Value.oneCell']) ?_; intro w3 hx3 hg3; refine Hid.out ?_))
    have hb3 : Below w2.heap.size w2 w3 := HT2.out.2.grown hg3 HT2.out.2.size (fun k hk => by cases hk; exact Nat.le_refl _)
    have H3 := Lib.hid (And.intro hx3 (And.intro (below_then H2.out.2.1 hb3) (H2.out.2.2.below hb3)))
    have HD := Lib.hid (show Below w3.heap.size w3 w3.drew from Below.drew (Below.refl _ w3))
    obtain ⟨gt, hgt⟩ : ∃ g, w2.heap.size = g := ⟨_, rfl⟩
    rw [hgt] at H3 ⊢
    have HBX := Lib.hid (H3.out.1.below HD.out)
    have d8 : w3.drew.cell? ⟨gt, 0, none⟩ = some (.slice ab nb cb) ∧ w3.drew.cell? ⟨gt, 1, none⟩ = some (.int .i64 t.o) ∧ w3.drew.cell? ⟨gt, 2, none⟩ = some (.int .i64 t.x) ∧ w3.drew.cell? ⟨gt, 3, none⟩ = some (.int .i64 t.y) := ⟨HBX.out.cell 0, HBX.out.cell 1, HBX.out.cell 2, HBX.out.cell 3⟩
    have l8 : gt < w3.drew.heap.size := HBX.out.lt
    have HSR := Lib.hid (H3.out.2.2.below HD.out)
    clear hx3 hg3 hb3 c0 c8 hgt HT2
    refine Lib.hid ?_
    go_wp2
    go_region_held3 (fun w' => w'.cell? ⟨gt, 0, none⟩ = some (.slice ab nb cb) ∧ w'.cell? ⟨gt, 1, none⟩ = some (.int .i64 t.o) ∧ w'.cell? ⟨gt, 2, none⟩ = some (.int .i64 t.x) ∧ w'.cell? ⟨gt, 3, none⟩ = some (.int .i64 t.y))
      (first
        | (with_reducible exact d8)
        | (with_reducible exact kept4 hb7 (Nat.lt_of_lt_of_le l8 (Nat.le_trans hb5.size hb6.size)) (kept4 hb6 (Nat.lt_of_lt_of_le l8 hb5.size) (kept4 hb5 l8 d8)))
        | (with_reducible exact kept4 hb6 (Nat.lt_of_lt_of_le l8 hb5.size) (kept4 hb5 l8 d8))
        | (with_reducible exact kept4 hb5 l8 d8))
      (first
        | (go_at_call 24; (with_reducible refine (impl_maywrite ab nb cb t.b hnb hnc _ HSR.out fm HFM.out.1).mono ?_); rintro e w5 ⟨a5, n5, c5, rfl, ho5, hb5⟩; have hn5 : (n5 : Int) ≤ 8 := by (have h1 := own_len ho5; have h2 := lst_len fm 8; omega))
        | (go_at_call 25; (with_reducible refine (impl_mustlog ab nb cb t hnb hnc _ (HSR.out.below hb5) fl HFM.out.2).mono ?_); rintro e w6 ⟨a6, n6, c6, rfl, ho6, hb6⟩; have hn6 : (n6 : Int) ≤ 8 := by (have h1 := own_len ho6; have h2 := lst_len fl 8; omega))
        | (go_at_call 23; (with_reducible refine (impl_without a5 n5 c5 _ a6 n6 c6 _ (by omega) (by omega) _ ((Row.of_own ho5).below hb6) (Row.of_own ho6)).mono ?_); rintro e w7 ⟨a7, n7, c7, rfl, ho7, hb7⟩))
    all_goals
      have hb37 := below_then HD.out (below_then hb5 (below_then hb6 hb7))
      have HFIN := Lib.hid (And.intro (ho7.mono (Nat.le_trans H3.out.2.1.size (Nat.le_trans HD.out.size (Nat.le_trans hb5.size hb6.size)))) (below_then H3.out.2.1 hb37))
      clear hb5 hb6 hb7 ho5 ho6 ho7 d8 l8 hb37
      refine Lib.hid ?_
      go_wp2
      go_ret
      exact ⟨_, _, _, rfl, by rw [← HLF.out]; exact HFIN.out.1, HFIN.out.2⟩
end Go.Proofs.YtlicadaecfgklaaGreat.rcv
