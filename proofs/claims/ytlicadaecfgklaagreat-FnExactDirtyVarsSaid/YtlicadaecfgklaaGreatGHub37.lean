/- Several texts in one: RecD. -/
import Derived.Test.YtlicadaecfgklaaGreatGHub28
import Derived.Test.YtlicadaecfgklaaGreatGHub36

/- Chapter 15 of the model: DirtyVars: a row in new memory; nothing that was there is written. -/
namespace Go.Proofs.YtlicadaecfgklaaGreat.rcv
open Go Go.ChangeShapes Go.WideShapes Go.ChangeAt Go.RowKit Go.Proofs.YtlicadaecfgklaaGreat.row Go.Proofs.YtlicadaecfgklaaGreat.val Go.Proofs.YtlicadaecfgklaaGreat.expr Go.Proofs.YtlicadaecfgklaaGreat.stm Go.Proofs.YtlicadaecfgklaaGreat.blk Go.Proofs.YtlicadaecfgklaaGreat.sets Go.Proofs.YtlicadaecfgklaaGreat.prg Go.Proofs.YtlicadaecfgklaaGreat.ctl Go.Proofs.YtlicadaecfgklaaGreat.mem
set_option maxHeartbeats 8000000 in
set_option maxRecDepth 100000 in
theorem spec_dirtyvars (a : Option Addr) (n cap : Nat) (P : List Tk) (hz : Sizes P) (w : World) (h : TkRow w a n P) (ad : Option Addr) (nv cv : Nat) (V : List Int) (hnv : (nv : Int) ≤ 1048576) (hcv : nv ≤ cv) (hV : Row w ad nv V) (U : List Int) (hU : DirtyIs P V U) :
    Calls Tryz.prog 5 #[.agg #[.slice a n cap], .slice ad nv cv] w (NewInts w U) := by
  obtain ⟨f, hf, rfl⟩ := hU
  obtain ⟨i0, hi, hz0, hz1, hz2⟩ := info_parts infoInt
  obtain ⟨r, hr⟩ := mem_dec P V
  obtain ⟨W, hW⟩ : ∃ W, (w.alloc (.cells #[.slice a n cap] 30)).alloc (.cells #[] 3) = W := ⟨_, rfl⟩
  have hbx : Box w.heap.size #[.slice a n cap] 30 W := by rw [← hW]; exact (Box.new _ _ _).alloc _
  have hBW : Below w.heap.size w W := by rw [← hW]; exact below_then (below_new _ _) (below_new _ _)
  have hO : W.ownsRow w.heap.size 3 1 (.slice (some ⟨w.heap.size + 1, 0, none⟩) 0 0) 0 (ivs []) := by
    have h9 := World.ownsRow_made (base := w.heap.size) (e := 3) (size := 1) (w.alloc (.cells #[.slice a n cap] 30)) #[] 0 (by simp) (by decide) rfl
    rw [World.size_alloc] at h9
    rw [← hW]; exact h9
  have hWs : W.heap.size = w.heap.size + 2 := by rw [← hW]; simp
  have H := Lib.hid (And.intro hbx (And.intro hBW (And.intro (h.below hBW) (And.intro hO (hV.below hBW)))))
  have HF := Lib.hid hf
  have HMO := Lib.hid (show ∀ w', TkRow w' a n P → Row w' ad nv V → Calls Tryz.prog 15 #[.agg #[.slice a n cap], .slice ad nv cv] w' (BelB w' r) from fun w' h1 h2 => spec_memok a n cap P hz w' h1 ad nv cv V hnv hcv h2 r hr)
  have hPl := h.1
  have hVl := hV.1
  have HZ := Lib.hid hz
  clear h hbx hBW hO hf hV hz
  cases r
  · have HFL := Lib.hid (show lst f 8 = [] from dirty_none (fun h => by have := hr.2 h; cases this) HF.out)
    clear hr
    go_enter Tryz.func5, Tryz.ntmps5
    go_wp2_with (first
      | (refine wpList_load_row rfl 30 _ rfl w.heap.size rfl _ _ _ _ H.out.1 Tryz.underlying30 rfl (by kernel_rfl) ?_)
      | (go_at_call 15; (with_reducible refine (HMO.out _ H.out.2.2.1 H.out.2.2.2.2).mono ?_); rintro e w2 ⟨rfl, hb2⟩))
    go_ret
    exact ⟨_, _, _, rfl, by rw [HFL.out]; exact H.out.2.2.2.1.kept (grown_below hb2 none) (by simp [Value.ownBlock]), below_then H.out.2.1 hb2⟩
  · have hmi := hr.1 rfl
    have HMI := Lib.hid hmi
    obtain rfl : nv = 49 := by rw [← hVl]; exact hmi.2.1
    obtain ⟨b, off, x, rfl, hlb, hx, _⟩ := H.out.2.2.2.2.2 8 (by decide)
    have hX : V.getD 8 0 = x := by rw [List.getD_eq_getElem?_getD, hx]; rfl
    have hok : wOk x = true := by rw [← hX]; exact hmi.2.2.1
    have hct := (ctlOk_iff _ _ _).1 hok
    have htn := hmi.2.2.2.1
    rw [hX] at htn
    obtain ⟨j, hj⟩ : ∃ j : Nat, wT x = j := ⟨(wT x).toNat, by omega⟩
    obtain ⟨c, hc⟩ : ∃ c, unC x = c := ⟨_, rfl⟩
    obtain ⟨nn, hnn⟩ : ∃ c, unN x = c := ⟨_, rfl⟩
    have hjn : j < n := by omega
    have hjI : (j : Int) < n := by omega
    have HU := Lib.hid (show unT x = (j : Int) ∧ unC x = c ∧ unN x = nn from ⟨by unfold unT; rw [hok]; exact hj, hc, hnn⟩)
    obtain ⟨g, offp, t, rfl, hlg, ht, hT⟩ := H.out.2.2.1.2 j hjn
    obtain ⟨ab, nb, cb, hrg, hnc, hst⟩ := hT
    have hPj : P[(wT (V.getD 8 0)).toNat]? = some t := by rw [hX, hj]; exact ht
    obtain ⟨fm, hfm⟩ := is_ex (fun v => IsBlk t.b ∧ MayTo t.b nb v)
    obtain ⟨fl, hfl⟩ := is_ex (LogP t)
    have hbl : t.b.length = nb := hst.1
    have hnb : (nb : Int) ≤ 1048576 := by have := HZ.out.2 t (List.mem_of_getElem? ht); omega
    have HLF := Lib.hid (dirty_list hmi hPj HF.out (by rw [hbl]; exact hfm) hfl)
    have HFM := Lib.hid (And.intro hfm hfl)
    have HST := Lib.hid hst
    have HRG := Lib.hid hrg
    have HC8 := Lib.hid (show ∀ w', Below W.heap.size W w' → w'.cell? ⟨b, off + 8, none⟩ = some (.int .i64 x) from fun w' hb => by rw [← hX]; exact row_word (H.out.2.2.2.2.below hb) (by decide))
    clear hr hfm hfl hmi hx hX hok hct htn hc hnn hPj hst hrg ht hj hbl
    go_enter Tryz.func5, Tryz.ntmps5
    go_wp2_with (first
      | (refine wpList_load_row rfl 30 _ rfl w.heap.size rfl _ _ _ _ H.out.1 Tryz.underlying30 rfl (by kernel_rfl) ?_)
      | (go_at_call 15; (with_reducible refine (HMO.out _ H.out.2.2.1 H.out.2.2.2.2).mono ?_); rintro e w2 ⟨rfl, hb2⟩; refine Hid.out ?_))
    have H2 := Lib.hid (And.intro (H.out.1.below hb2) (And.intro (below_then H.out.2.1 hb2) (And.intro (HST.out.below hb2) (H.out.2.2.2.1.kept (grown_below hb2 none) (by simp [Value.ownBlock])))))
    have hs2 := hb2.size
    have c0 : w2.cell? ⟨w.heap.size, 0, none⟩ = some (.slice (some ⟨g, offp, none⟩) n cap) := H2.out.1.cell 0
    have c8 : w2.cell? ⟨b, off + 8, none⟩ = some (.int .i64 x) := HC8.out w2 hb2
    have HR2 := Lib.hid (show w2.rangeAt g (offp + j * 4) (tkC ab nb cb t) from fun k v hk => (hb2.cell (p := ⟨g, offp + j * 4 + k, none⟩) hlg).trans (HRG.out k v hk))
    have ct : w2.cell? ⟨g, offp + j * 4, none⟩ = some (.slice ab nb cb) := (range4 HR2.out).1
    clear hb2
    refine Lib.hid ?_
    go_wp2_with (first
      | (go_at_call 16; refine (spec_unpack_is x _ _ _ HU.out _).mono ?_; rintro e w3 ⟨rfl, rfl⟩)
      | (go_at_call 17; (with_reducible refine (spec_maywrite ab nb cb t.b hnb _ H2.out.2.2.1 fm HFM.out.1).mono ?_); rintro e w4 ⟨a4, n4, c4, rfl, ho4, hb4⟩; refine Hid.out ?_))
    have hn4 : n4 ≤ 8 := by have h1 := own_len ho4; have h2 := lst_len fm 8; omega
    have hs4 := hb4.size
    have H4 := Lib.hid (And.intro (H2.out.1.below hb4) (And.intro (below_then H2.out.2.1 hb4) (And.intro (H2.out.2.2.1.below hb4) (And.intro (H2.out.2.2.2.kept (grown_below hb4 none) (by simp [Value.ownBlock])) (OwnIn.of ho4 (Nat.le_refl _))))))
    have d0 : w4.cell? ⟨w.heap.size, 0, none⟩ = some (.slice (some ⟨g, offp, none⟩) n cap) := H4.out.1.cell 0
    have HR4 := Lib.hid (show w4.rangeAt g (offp + j * 4) (tkC ab nb cb t) from fun k v hk => (hb4.cell (p := ⟨g, offp + j * 4 + k, none⟩) (show g < w2.heap.size by omega)).trans (HR2.out k v hk))
    clear hb4 ho4 c0 c8 ct
    refine Lib.hid ?_
    go_wp2_with (first
      | (refine wpList_load_mid rfl 47 _ rfl g (offp + j * 4) rfl (tkC ab nb cb t) _ HR4.out Tryz.underlying47 rfl (by kernel_rfl) ?_)
      | (go_at_call 18; refine (spec_mustlog ab nb cb t hnb _ H4.out.2.2.1 fl HFM.out.2).mono ?_; rintro e w5 ⟨a5, n5, c5, rfl, ho5, hb5⟩; refine Hid.out ?_))
    have hn5 : n5 ≤ 8 := by have h1 := own_len ho5; have h2 := lst_len fl 8; omega
    have hs5 := hb5.size
    obtain ⟨lo, hlo⟩ : ∃ lo, lo = w2.heap.size := ⟨_, rfl⟩
    have hlw : w.heap.size + 1 < lo := by omega
    have H6 := Lib.hid (And.intro (H4.out.2.2.2.1.kept (grown_below hb5 none) (by simp [Value.ownBlock])) (show KeptL w w5 w5 a4 n4 c4 a5 n5 c5 a5 n5 c5 lo fm fl fl from ⟨hlo ▸ (H4.out.2.2.2.2.below hb5).mono hs5, hlo ▸ OwnIn.of ho5 hs4, hlo ▸ OwnIn.of ho5 hs4, ⟨below_then H4.out.2.1 hb5, hlw, by omega⟩, Nat.le_refl _⟩))
    clear hb5 ho5 hlo hWs hW d0
    refine Lib.hid ?_
    go_wp2
    go_loopw [5, 11] (fun v i wr => ∃ (k m gg cc : Nat), k ≤ n4 ∧ i = .int .i64 k ∧ v = .slice (some ⟨gg, 0, none⟩) m cc ∧ Hid (wr.ownsRow w.heap.size 3 1 (.slice (some ⟨gg, 0, none⟩) m cc) m (ivs (((lst fm 8).take k).filter (fun x => !decide (x ∈ lst fl 8))))) ∧ (gg = w.heap.size + 1 ∨ w5.heap.size ≤ gg) ∧ Hid (KeptL w w5 wr a4 n4 c4 a5 n5 c5 a5 n5 c5 lo fm fl fl)) (fun _ i _ => n4 - (intOf i).toNat)
    case atStart => exact ⟨0, 0, w.heap.size + 1, 0, Nat.zero_le _, rfl, rfl, H6.out.1, .inl rfl, H6.out.2⟩
    case round =>
      obtain ⟨k, m, gg, cc, hk, rfl, rfl, HO, hg, HR⟩ := hrel
      have hnl : m ≤ 8 := by have h1 := own_len HO.out; have h2 := tf_len (lst fm 8) k (fun x => !decide (x ∈ lst fl 8)); have h3 := lst_len fm 8; omega
      by_cases hlt : k < n4
      · have hI : (k : Int) < n4 := by omega
        have HRU := Lib.hid (Row.of_own HR.out.2.1.1)
        obtain ⟨b2, off2, y, ha, hlb2, hx, hc⟩ := (Row.of_own HR.out.1.1).2 k hlt
        subst ha
        have hws := HR.out.2.2.2.1.1.size
        cases hr2 : decide (y ∈ lst fl 8)
        · have HP2 := Lib.hid hr2
          clear hr2
          have HG := Lib.hid (tf_yes (p := fun x => !decide (x ∈ lst fl 8)) hx (by simp [HP2.out]))
          clear hx
          go_wp2_with (first
            | (go_at_call 19; (with_reducible refine (spec_hasvar wr a5 n5 c5 (lst fl 8) y false (by omega) HRU.out HP2.out).mono ?_); rintro e wz ⟨rfl, rfl⟩)
            | (at_builtin; refine wpList_append_own_at _ rfl _ _ 25 rfl w.heap.size 3 i0 (.int .i64 0) 1 8 Tryz.underlying25 hi hz0 hz1 hz2 rfl (by decide) _ _ _ rfl (HO.out.alloc _) ⟨wr.heap.size, 0, none⟩ 1 1 [.int .i64 y] rfl rfl (World.news_of_block (cs := #[.int .i64 y]) (t := 3) (fr := (0, 0)) (heap_alloc_new wr _)) (by simp [Value.oneCell']) (by unfold maxLen; omega) (by omega) (by simp; omega) ?_; intro v4 w6 hown4 hgrow4 _ hat4; refine Hid.out ?_))
          rw [ivs_snoc, ← HG.out] at hown4
          have hB4 := below_new wr (.cells #[.int .i64 y] 3)
          have e4 := own_next hown4 hat4 hg HR.out.2.2.2.2
          have K4 := Lib.hid (HR.out.next hB4 hgrow4 hg)
          obtain ⟨g4, cp4, rfl, hg4, _⟩ := hown4.form (by omega)
          have HO4 := Lib.hid hown4
          have hgg := e4 g4 rfl
          clear hown4 hgrow4 hat4 hB4 e4 hc
          refine Lib.hid ?_
          go_wp2
          go_roundw
          case rel => exact ⟨k + 1, m + 1, g4, cp4, by omega, by go_num, rfl, HO4, hgg, K4⟩
          case measure => simp [intOf]; omega
        · have HP2 := Lib.hid hr2
          clear hr2
          have HG := Lib.hid (tf_no (p := fun x => !decide (x ∈ lst fl 8)) hx (by simp [HP2.out]))
          rw [← HG.out] at HO
          clear hx
          go_wp2_with (first
            | (go_at_call 19; (with_reducible refine (spec_hasvar wr a5 n5 c5 (lst fl 8) y true (by omega) HRU.out HP2.out).mono ?_); rintro e wz ⟨rfl, rfl⟩))
          go_roundw
          case rel => exact ⟨k + 1, m, gg, cc, by omega, by go_num, rfl, HO, hg, HR⟩
          case measure => simp [intOf]; omega
      · obtain rfl : k = n4 := by omega
        have hI : ¬ (k : Int) < k := by omega
        have hl4 := own_len HR.out.1.1
        go_wp2
        go_ret
        refine ⟨_, _, _, rfl, ?_, HR.out.2.2.2.1.1⟩
        have h9 := HO.out
        rw [List.take_of_length_le (by omega), HLF.out] at h9
        exact h9
end Go.Proofs.YtlicadaecfgklaaGreat.rcv
