/- Several texts in one: MemP TrcH. -/
import Derived.Test.YtcmhiadaebpgmaaGreatDoorGSig21
import Derived.Test.YtcmhiadaebpgmaaGreatDoorGSig37
import Derived.Test.YtcmhiadaebpgmaaGreatDoorGSig20
import Derived.Deep.RegionLaw
import Derived.Deep.RegionHeld3

/- Chapter 9's MemOk of the program: valid exactly as the model's; nothing that was there is written. -/
namespace Go.Proofs.YtcmhiadaebpgmaaGreatDoor.mem
open Go.ChangeShapes Go.WideShapes Go.ChangeAt Go.RowKit Go.Proofs.YtcmhiadaebpgmaaGreatDoor.row Go.Proofs.YtcmhiadaebpgmaaGreatDoor.val Go.Proofs.YtcmhiadaebpgmaaGreatDoor.expr Go.Proofs.YtcmhiadaebpgmaaGreatDoor.stm Go.Proofs.YtcmhiadaebpgmaaGreatDoor.blk Go.Proofs.YtcmhiadaebpgmaaGreatDoor.prg Go.Proofs.YtcmhiadaebpgmaaGreatDoor.ctl

/-- The load of a whole array behind a test that holds. -/
theorem wpList_load_row_on {P : Program} {ops : Array Oper} {rest : List Oper} {o : Oper} {a : Act} {w : World} {Q : Exit → Act → World → Prop} (hw : Region.wanted o (yielded ops a.tmps) = true) (ty : TypeId) (x : Operand) (ho : o.op = .load ty x)
    (g : Nat) (hx : a.eval x = .pointer (some ⟨g, 0, none⟩)) (t : TypeId) (cs : Array Value) (fr : Nat × Nat) (d : TypeDesc) (hg : w.heap[g]? = some (.cells cs t fr))
    (hu : P.underlying ty = some d) (hd : (match d with | .struct _ | .array _ _ => true | _ => false) = true) (hi : (P.info? ty).map (·.size) = some cs.size)
    (h : wpList P ops Q rest (a.put o.dst (.agg cs)) w) : wpList P ops Q (o :: rest) a w :=
  wpList_step fun K hK => by
    rw [if_pos hw]
    exact wp_load_row ty x ho g hx t cs fr d hg hu hd hi (hK _ _ h)
set_option maxRecDepth 100000 in
set_option maxHeartbeats 8000000 in
theorem impl_memok8 (a : Option Addr) (n cap : Nat) (P : List Tk) (hz : Sizes P) (hcap : n ≤ cap) (w : World) (h : TkRow w a n P) (ad : Option Addr) (nv cv : Nat) (V : List Int) (hV : Row w ad nv V) (hw : -9223372036854775808 ≤ V.getD 8 0 ∧ V.getD 8 0 ≤ 9223372036854775807) (r : Bool) (hr : r = true ↔ MemIs P V) :
    Calls Tryz.prog 78 #[.agg #[.slice a n cap], .slice ad nv cv] w (BelB w r) := by
  obtain ⟨W, hW⟩ : ∃ W, W = w.alloc (.cells #[.slice a n cap] 26) := ⟨_, rfl⟩
  have hpw : PrgW w W a n cap P := by rw [hW]; exact prgW_new w a n cap P _ h
  have HP := Lib.hid hpw
  have HW := Lib.hid hW.symm
  have HZ := Lib.hid hz
  have HV := Lib.hid (hV.below hpw.2.2.1)
  have hlen := h.1
  have hvl := hV.1
  have hn : (n : Int) ≤ 1048576 := by have := hz.1; omega
  have hwl : w.heap.size < W.heap.size := by rw [hW]; simp
  have c0 : W.cell? ⟨w.heap.size, 0, none⟩ = some (.slice a n cap) := hpw.1
  clear h hz hW hpw hV
  have hsl8 := run_slice_8
  by_cases h49 : nv = 49
  case neg =>
    obtain rfl := not_mem hr (fun hp => h49 (by rw [← hvl]; exact hp.2.1))
    have HI := Lib.hid (mem_info (L := nul 49) (by simp))
    have HL : Hid (∀ cs : Array Value, cs.size = 49 → (ivs (nul 49)).toArray.size = cs.size) := fun cs hc => by rw [hc]; simp [ivs]
    clear hr hlen hvl c0 hw
    go_enter Tryz.func78, Tryz.ntmps78
    go_wp2_with (first
      | (go_at_call 56; rw [HW.out]; (with_reducible refine (impl_memoryof_no _ ad nv cv h49).mono ?_); rintro e w1 ⟨rfl, hb1⟩)
      | (refine wpList_store_box rfl TM _ _ rfl w1.heap.size _ _ (Box.new w1 _ _) (ivs (nul 49)).toArray rfl rfl (HL.out _ rfl) HI.out (mem_all _) ?_; intro w2 hx2 hg2))
    have hb2 : Below W.heap.size W w2 := (below_then hb1 (below_new w1 _)).grown hg2 (show W.heap.size ≤ _ by have := hb1.size; simp; omega) (fun k hk => by cases hk; exact hb1.size)
    go_ret
    exact ⟨rfl, HP.out.2.2.1.trans (hb2.mono (Nat.le_of_lt hwl))⟩
  subst h49
  obtain ⟨b, off, rfl⟩ := row_some HV.out (by decide)
  have HI := Lib.hid (mem_info hvl)
  have HL : Hid (∀ cs : Array Value, cs.size = 49 → (ivs V).toArray.size = cs.size) := fun cs hc => by rw [List.size_toArray, ivs_length, hvl, hc]
  have HLL := Lib.hid hvl
  obtain ⟨rp, hrp⟩ := prg_dec P
  have HRP := Lib.hid hrp
  cases rp
  case false =>
    obtain rfl := not_mem hr (fun hp => by have := hrp.2 hp.1; cases this)
    clear hr hrp hlen hvl hw
    go_enter Tryz.func78, Tryz.ntmps78
    go_wp2_with (first
      | (go_at_call 56; rw [HW.out]; (with_reducible refine (impl_memoryof_yes _ b off cv V HV.out).mono ?_); rintro e w1 ⟨rfl, hb1⟩)
      | (refine wpList_store_box rfl TM _ _ rfl w1.heap.size _ _ (Box.new w1 _ _) (ivs V).toArray rfl rfl (HL.out _ rfl) HI.out (mem_all _) ?_; intro w2 hx2 hg2; refine Hid.out ?_))
    have hb2 : Below W.heap.size W w2 := (below_then hb1 (below_new w1 _)).grown hg2 (show W.heap.size ≤ _ by have := hb1.size; simp; omega) (fun k hk => by cases hk; exact hb1.size)
    have HT2 := Lib.hid (HP.out.2.1.below hb2)
    have HX2 := Lib.hid hx2
    have d0 : w2.cell? ⟨w.heap.size, 0, none⟩ = some (.slice a n cap) := (hb2.cell (p := ⟨w.heap.size, 0, none⟩) hwl).trans c0
    have HB2 := Lib.hid hb2
    have l2 : w.heap.size < w2.heap.size := Nat.lt_of_lt_of_le hwl hb2.size
    clear hb1 hg2 hb2 hx2
    refine Lib.hid ?_
    go_wp2_with (go_at_call 118; (with_reducible refine (impl_programok a n cap P HZ.out hcap _ HT2.out false HRP.out).mono ?_); rintro e w3 ⟨rfl, hb3⟩)
    go_ret
    exact ⟨rfl, HP.out.2.2.1.trans ((HB2.out.trans (hb3.mono HB2.out.size)).mono (Nat.le_of_lt hwl))⟩

  have HPR := Lib.hid (hrp.1 rfl)
  clear hrp
  obtain ⟨x, hx⟩ : ∃ x, V.getD 8 0 = x := ⟨_, rfl⟩
  have hxw : -9223372036854775808 ≤ x ∧ x ≤ 9223372036854775807 := by rw [← hx]; exact hw
  have HX := Lib.hid hx
  clear hx hw
  cases ho : wOk x
  case false =>
    obtain rfl := not_mem hr (fun hp => by have := hp.2.2.1; rw [HX.out, ho] at this; cases this)
    have HU := Lib.hid (un_no ho)
    have HIN := Lib.hid (show false = (decide (0 ≤ (-1 : Int)) && decide ((-1 : Int) < (n : Int))) by simp)
    clear hr hlen hvl ho
    go_enter Tryz.func78, Tryz.ntmps78
    go_wp2_with (first
      | (go_at_call 56; rw [HW.out]; (with_reducible refine (impl_memoryof_yes _ b off cv V HV.out).mono ?_); rintro e w1 ⟨rfl, hb1⟩)
      | (refine wpList_store_box rfl TM _ _ rfl w1.heap.size _ _ (Box.new w1 _ _) (ivs V).toArray rfl rfl (HL.out _ rfl) HI.out (mem_all _) ?_; intro w2 hx2 hg2; refine Hid.out ?_))
    have hb2 : Below W.heap.size W w2 := (below_then hb1 (below_new w1 _)).grown hg2 (show W.heap.size ≤ _ by have := hb1.size; simp; omega) (fun k hk => by cases hk; exact hb1.size)
    have HT2 := Lib.hid (HP.out.2.1.below hb2)
    have HX2 := Lib.hid hx2
    have d0 : w2.cell? ⟨w.heap.size, 0, none⟩ = some (.slice a n cap) := (hb2.cell (p := ⟨w.heap.size, 0, none⟩) hwl).trans c0
    have HB2 := Lib.hid hb2
    have l2 : w.heap.size < w2.heap.size := Nat.lt_of_lt_of_le hwl hb2.size
    clear hb1 hg2 hb2 hx2
    refine Lib.hid ?_
    go_wp2_with (go_at_call 118; (with_reducible refine (impl_programok a n cap P HZ.out hcap _ HT2.out true ⟨fun _ => HPR.out, fun _ => rfl⟩).mono ?_); rintro e w3 ⟨rfl, hb3⟩; refine Hid.out ?_)
    have HX3 := Lib.hid (HX2.out.below hb3)
    have c8 : w3.cell? ⟨w1.heap.size, 8, none⟩ = some (.int .i64 x) := by rw [← HX.out, HX3.out.cell]; simp [ivs, show 8 < V.length by rw [HLL.out]; decide]
    have e0 : w3.cell? ⟨w.heap.size, 0, none⟩ = some (.slice a n cap) := (hb3.cell (p := ⟨w.heap.size, 0, none⟩) l2).trans d0
    have HB3 := Lib.hid (HB2.out.trans (hb3.mono HB2.out.size))
    clear hb3 d0
    refine Lib.hid ?_
    go_wp2_with (first
      | (go_at_call 16; refine (impl_unpack_is x _ _ _ hxw HU.out _).mono ?_; rintro e w9 ⟨rfl, rfl⟩)
      | (go_at_call 119; (with_reducible refine (impl_istaskof a n cap _ false HIN.out _).mono ?_); rintro e w4 ⟨rfl, hb4⟩))
    go_ret
    exact ⟨rfl, HP.out.2.2.1.trans ((below_then HB3.out hb4).mono (Nat.le_of_lt hwl))⟩

  obtain ⟨t, c, m, ht, hc, hm, hu, e1, e2, e3⟩ := wparts ho
  have HU := Lib.hid hu
  have ht' : (t : Int) ≤ 5 := by omega
  have hc' : (c : Int) ≤ 8 := by omega
  have hm' : (m : Int) ≤ 24 := by omega
  have HM : Hid (MemIs P V ↔ t < n ∧ (V.take 8).all isVal = true ∧ ((V.drop 25).take m).all isVal = true ∧ LogV V c) := by
    show MemIs P V ↔ _
    unfold MemIs
    rw [HX.out, e1, e2, e3, Int.toNat_natCast, Int.toNat_natCast, hlen]
    constructor
    · rintro ⟨_, _, _, q1, q2, q3, q4⟩; exact ⟨by omega, q2, q3, q4⟩
    · rintro ⟨q1, q2, q3, q4⟩; exact ⟨HPR.out, hvl, ho, by omega, q2, q3, q4⟩
  clear hu e1 e2 e3 ho hlen hvl
  by_cases htn : t < n
  case neg =>
    obtain rfl := not_mem hr (fun hp => htn (HM.out.1 hp).1)
    have HIN := Lib.hid (show false = (decide (0 ≤ (t : Int)) && decide ((t : Int) < (n : Int))) by symm; simp; omega)
    clear hr htn
    go_enter Tryz.func78, Tryz.ntmps78
    go_wp2_with (first
      | (go_at_call 56; rw [HW.out]; (with_reducible refine (impl_memoryof_yes _ b off cv V HV.out).mono ?_); rintro e w1 ⟨rfl, hb1⟩)
      | (refine wpList_store_box rfl TM _ _ rfl w1.heap.size _ _ (Box.new w1 _ _) (ivs V).toArray rfl rfl (HL.out _ rfl) HI.out (mem_all _) ?_; intro w2 hx2 hg2; refine Hid.out ?_))
    have hb2 : Below W.heap.size W w2 := (below_then hb1 (below_new w1 _)).grown hg2 (show W.heap.size ≤ _ by have := hb1.size; simp; omega) (fun k hk => by cases hk; exact hb1.size)
    have HT2 := Lib.hid (HP.out.2.1.below hb2)
    have HX2 := Lib.hid hx2
    have d0 : w2.cell? ⟨w.heap.size, 0, none⟩ = some (.slice a n cap) := (hb2.cell (p := ⟨w.heap.size, 0, none⟩) hwl).trans c0
    have HB2 := Lib.hid hb2
    have l2 : w.heap.size < w2.heap.size := Nat.lt_of_lt_of_le hwl hb2.size
    clear hb1 hg2 hb2 hx2
    refine Lib.hid ?_
    go_wp2_with (go_at_call 118; (with_reducible refine (impl_programok a n cap P HZ.out hcap _ HT2.out true ⟨fun _ => HPR.out, fun _ => rfl⟩).mono ?_); rintro e w3 ⟨rfl, hb3⟩; refine Hid.out ?_)
    have HX3 := Lib.hid (HX2.out.below hb3)
    have c8 : w3.cell? ⟨w1.heap.size, 8, none⟩ = some (.int .i64 x) := by rw [← HX.out, HX3.out.cell]; simp [ivs, show 8 < V.length by rw [HLL.out]; decide]
    have e0 : w3.cell? ⟨w.heap.size, 0, none⟩ = some (.slice a n cap) := (hb3.cell (p := ⟨w.heap.size, 0, none⟩) l2).trans d0
    have HB3 := Lib.hid (HB2.out.trans (hb3.mono HB2.out.size))
    clear hb3 d0
    refine Lib.hid ?_
    go_wp2_with (first
      | (go_at_call 16; refine (impl_unpack_is x _ _ _ hxw HU.out _).mono ?_; rintro e w9 ⟨rfl, rfl⟩)
      | (go_at_call 119; (with_reducible refine (impl_istaskof a n cap _ false HIN.out _).mono ?_); rintro e w4 ⟨rfl, hb4⟩))
    go_ret
    exact ⟨rfl, HP.out.2.2.1.trans ((below_then HB3.out hb4).mono (Nat.le_of_lt hwl))⟩

  have HIN := Lib.hid (show true = (decide (0 ≤ (t : Int)) && decide ((t : Int) < (n : Int))) by symm; simp; omega)
  cases h8 : (V.take 8).all isVal
  case false =>
    obtain rfl := not_mem hr (fun hp => by have := (HM.out.1 hp).2.1; rw [h8] at this; cases this)
    have HA8 := Lib.hid (show varsOk (V.take 8) = false by rw [← Bool.not_eq_true, varsOk_iff]; rintro ⟨_, q⟩; rw [List.all_eq_true.2 q] at h8; cases h8)
    clear hr h8 htn
    go_enter Tryz.func78, Tryz.ntmps78
    go_wp2_with (first
      | (go_at_call 56; rw [HW.out]; (with_reducible refine (impl_memoryof_yes _ b off cv V HV.out).mono ?_); rintro e w1 ⟨rfl, hb1⟩)
      | (refine wpList_store_box rfl TM _ _ rfl w1.heap.size _ _ (Box.new w1 _ _) (ivs V).toArray rfl rfl (HL.out _ rfl) HI.out (mem_all _) ?_; intro w2 hx2 hg2; refine Hid.out ?_))
    have hb2 : Below W.heap.size W w2 := (below_then hb1 (below_new w1 _)).grown hg2 (show W.heap.size ≤ _ by have := hb1.size; simp; omega) (fun k hk => by cases hk; exact hb1.size)
    have HT2 := Lib.hid (HP.out.2.1.below hb2)
    have HX2 := Lib.hid hx2
    have d0 : w2.cell? ⟨w.heap.size, 0, none⟩ = some (.slice a n cap) := (hb2.cell (p := ⟨w.heap.size, 0, none⟩) hwl).trans c0
    have HB2 := Lib.hid hb2
    have l2 : w.heap.size < w2.heap.size := Nat.lt_of_lt_of_le hwl hb2.size
    clear hb1 hg2 hb2 hx2
    refine Lib.hid ?_
    go_wp2_with (go_at_call 118; (with_reducible refine (impl_programok a n cap P HZ.out hcap _ HT2.out true ⟨fun _ => HPR.out, fun _ => rfl⟩).mono ?_); rintro e w3 ⟨rfl, hb3⟩; refine Hid.out ?_)
    have HX3 := Lib.hid (HX2.out.below hb3)
    have c8 : w3.cell? ⟨w1.heap.size, 8, none⟩ = some (.int .i64 x) := by rw [← HX.out, HX3.out.cell]; simp [ivs, show 8 < V.length by rw [HLL.out]; decide]
    have e0 : w3.cell? ⟨w.heap.size, 0, none⟩ = some (.slice a n cap) := (hb3.cell (p := ⟨w.heap.size, 0, none⟩) l2).trans d0
    have HB3 := Lib.hid (HB2.out.trans (hb3.mono HB2.out.size))
    clear hb3 d0
    refine Lib.hid ?_
    go_wp2_with (first
      | (go_at_call 16; refine (impl_unpack_is x _ _ _ hxw HU.out _).mono ?_; rintro e w9 ⟨rfl, rfl⟩)
      | (go_at_call 119; (with_reducible refine (impl_istaskof a n cap _ true HIN.out _).mono ?_); rintro e w4 ⟨rfl, hb4⟩; refine Hid.out ?_))
    have HX4 := Lib.hid (HX3.out.below hb4)
    have HB4 := Lib.hid (below_then HB3.out hb4)
    clear hb4 c8 e0
    refine Lib.hid ?_
    go_wp2_with (go_at_call 120; (with_reducible refine (impl_vars _ (some ⟨w1.heap.size, 0, none⟩) 8 49 (V.take 8) (by omega) (by simpa using row_box (o := 0) (n := 8) HX4.out (by rw [HLL.out]; decide)) false HA8.out).mono ?_); rintro e w9 ⟨rfl, rfl⟩)
    go_ret
    exact ⟨rfl, HP.out.2.2.1.trans ((HB4.out).mono (Nat.le_of_lt hwl))⟩

  have HA8 := Lib.hid (show varsOk (V.take 8) = true from (varsOk_iff _).2 ⟨by rw [List.length_take, HLL.out]; rfl, List.all_eq_true.1 h8⟩)
  cases hmv : ((V.drop 25).take m).all isVal
  case false =>
    obtain rfl := not_mem hr (fun hp => by have := (HM.out.1 hp).2.2.1; rw [hmv] at this; cases this)
    have HAM := Lib.hid hmv
    clear hr h8 hmv htn
    go_enter Tryz.func78, Tryz.ntmps78
    go_wp2_with (first
      | (go_at_call 56; rw [HW.out]; (with_reducible refine (impl_memoryof_yes _ b off cv V HV.out).mono ?_); rintro e w1 ⟨rfl, hb1⟩)
      | (refine wpList_store_box rfl TM _ _ rfl w1.heap.size _ _ (Box.new w1 _ _) (ivs V).toArray rfl rfl (HL.out _ rfl) HI.out (mem_all _) ?_; intro w2 hx2 hg2; refine Hid.out ?_))
    have hb2 : Below W.heap.size W w2 := (below_then hb1 (below_new w1 _)).grown hg2 (show W.heap.size ≤ _ by have := hb1.size; simp; omega) (fun k hk => by cases hk; exact hb1.size)
    have HT2 := Lib.hid (HP.out.2.1.below hb2)
    have HX2 := Lib.hid hx2
    have d0 : w2.cell? ⟨w.heap.size, 0, none⟩ = some (.slice a n cap) := (hb2.cell (p := ⟨w.heap.size, 0, none⟩) hwl).trans c0
    have HB2 := Lib.hid hb2
    have l2 : w.heap.size < w2.heap.size := Nat.lt_of_lt_of_le hwl hb2.size
    clear hb1 hg2 hb2 hx2
    refine Lib.hid ?_
    go_wp2_with (go_at_call 118; (with_reducible refine (impl_programok a n cap P HZ.out hcap _ HT2.out true ⟨fun _ => HPR.out, fun _ => rfl⟩).mono ?_); rintro e w3 ⟨rfl, hb3⟩; refine Hid.out ?_)
    have HX3 := Lib.hid (HX2.out.below hb3)
    have c8 : w3.cell? ⟨w1.heap.size, 8, none⟩ = some (.int .i64 x) := by rw [← HX.out, HX3.out.cell]; simp [ivs, show 8 < V.length by rw [HLL.out]; decide]
    have e0 : w3.cell? ⟨w.heap.size, 0, none⟩ = some (.slice a n cap) := (hb3.cell (p := ⟨w.heap.size, 0, none⟩) l2).trans d0
    have HB3 := Lib.hid (HB2.out.trans (hb3.mono HB2.out.size))
    clear hb3 d0
    refine Lib.hid ?_
    go_wp2_with (first
      | (go_at_call 16; refine (impl_unpack_is x _ _ _ hxw HU.out _).mono ?_; rintro e w9 ⟨rfl, rfl⟩)
      | (go_at_call 119; (with_reducible refine (impl_istaskof a n cap _ true HIN.out _).mono ?_); rintro e w4 ⟨rfl, hb4⟩; refine Hid.out ?_))
    have HX4 := Lib.hid (HX3.out.below hb4)
    have HB4 := Lib.hid (below_then HB3.out hb4)
    clear hb4 c8 e0
    refine Lib.hid ?_
    go_wp2_with (first
      | (go_at_call 120; (with_reducible refine (impl_vars _ (some ⟨w1.heap.size, 0, none⟩) 8 49 (V.take 8) (by omega) (by simpa using row_box (o := 0) (n := 8) HX4.out (by rw [HLL.out]; decide)) true HA8.out).mono ?_); rintro e w9 ⟨rfl, rfl⟩)
      | (refine wpList_load_row_on (by kernel_rfl) TM _ rfl w1.heap.size rfl _ (ivs V).toArray _ _ HX4.out Tryz.underlying97 rfl HI.out ?_)
      | (go_at_call 57; (with_reducible refine (impl_sent _ V HLL.out m hm).mono ?_); rintro e w5 ⟨ad5, n5, c5, rfl, ho5, hb5⟩; refine Hid.out ?_))
    have hn5 : (n5 : Int) ≤ 24 := by have h1 := own_len ho5; have h2 := List.length_take_le m (V.drop 25); omega
    have HR5 := Lib.hid (Row.of_own ho5)
    have HX5 := Lib.hid (HX4.out.below hb5)
    have HB5 := Lib.hid (below_then HB4.out hb5)
    clear ho5 hb5
    refine Lib.hid ?_
    go_wp2_with (go_at_call 80; (with_reducible refine (impl_are _ ad5 n5 c5 _ (by omega) HR5.out false HAM.out).mono ?_); rintro e w9 ⟨rfl, rfl⟩)
    go_ret
    exact ⟨rfl, HP.out.2.2.1.trans ((HB5.out).mono (Nat.le_of_lt hwl))⟩

  have HAM := Lib.hid hmv
  have HR := Lib.hid (show r = true ↔ LogV V c from hr.trans (HM.out.trans ⟨fun hp => hp.2.2.2, fun hp => ⟨htn, h8, hmv, hp⟩⟩))
  clear hr h8 hmv htn
  go_enter Tryz.func78, Tryz.ntmps78
  go_wp2_with (first
    | (go_at_call 56; rw [HW.out]; (with_reducible refine (impl_memoryof_yes _ b off cv V HV.out).mono ?_); rintro e w1 ⟨rfl, hb1⟩)
    | (refine wpList_store_box rfl TM _ _ rfl w1.heap.size _ _ (Box.new w1 _ _) (ivs V).toArray rfl rfl (HL.out _ rfl) HI.out (mem_all _) ?_; intro w2 hx2 hg2; refine Hid.out ?_))
  have hb2 : Below W.heap.size W w2 := (below_then hb1 (below_new w1 _)).grown hg2 (show W.heap.size ≤ _ by have := hb1.size; simp; omega) (fun k hk => by cases hk; exact hb1.size)
  have HT2 := Lib.hid (HP.out.2.1.below hb2)
  have HX2 := Lib.hid hx2
  have d0 : w2.cell? ⟨w.heap.size, 0, none⟩ = some (.slice a n cap) := (hb2.cell (p := ⟨w.heap.size, 0, none⟩) hwl).trans c0
  have HB2 := Lib.hid hb2
  have l2 : w.heap.size < w2.heap.size := Nat.lt_of_lt_of_le hwl hb2.size
  clear hb1 hg2 hb2 hx2
  refine Lib.hid ?_
  go_wp2_with (go_at_call 118; (with_reducible refine (impl_programok a n cap P HZ.out hcap _ HT2.out true ⟨fun _ => HPR.out, fun _ => rfl⟩).mono ?_); rintro e w3 ⟨rfl, hb3⟩; refine Hid.out ?_)
  have HX3 := Lib.hid (HX2.out.below hb3)
  have c8 : w3.cell? ⟨w1.heap.size, 8, none⟩ = some (.int .i64 x) := by rw [← HX.out, HX3.out.cell]; simp [ivs, show 8 < V.length by rw [HLL.out]; decide]
  have e0 : w3.cell? ⟨w.heap.size, 0, none⟩ = some (.slice a n cap) := (hb3.cell (p := ⟨w.heap.size, 0, none⟩) l2).trans d0
  have HB3 := Lib.hid (HB2.out.trans (hb3.mono HB2.out.size))
  clear hb3 d0
  refine Lib.hid ?_
  go_wp2_with (first
    | (go_at_call 16; refine (impl_unpack_is x _ _ _ hxw HU.out _).mono ?_; rintro e w9 ⟨rfl, rfl⟩)
    | (go_at_call 119; (with_reducible refine (impl_istaskof a n cap _ true HIN.out _).mono ?_); rintro e w4 ⟨rfl, hb4⟩; refine Hid.out ?_))
  have HX4 := Lib.hid (HX3.out.below hb4)
  have HB4 := Lib.hid (below_then HB3.out hb4)
  clear hb4 c8 e0
  refine Lib.hid ?_
  go_wp2_with (first
    | (go_at_call 120; (with_reducible refine (impl_vars _ (some ⟨w1.heap.size, 0, none⟩) 8 49 (V.take 8) (by omega) (by simpa using row_box (o := 0) (n := 8) HX4.out (by rw [HLL.out]; decide)) true HA8.out).mono ?_); rintro e w9 ⟨rfl, rfl⟩)
    | (refine wpList_load_row_on (by kernel_rfl) TM _ rfl w1.heap.size rfl _ (ivs V).toArray _ _ HX4.out Tryz.underlying97 rfl HI.out ?_)
    | (go_at_call 57; (with_reducible refine (impl_sent _ V HLL.out m hm).mono ?_); rintro e w5 ⟨ad5, n5, c5, rfl, ho5, hb5⟩; refine Hid.out ?_))
  have hn5 : (n5 : Int) ≤ 24 := by have h1 := own_len ho5; have h2 := List.length_take_le m (V.drop 25); omega
  have HR5 := Lib.hid (Row.of_own ho5)
  have HX5 := Lib.hid (HX4.out.below hb5)
  have HB5 := Lib.hid (below_then HB4.out hb5)
  clear ho5 hb5
  refine Lib.hid ?_
  go_wp2_with (first
    | (go_at_call 80; (with_reducible refine (impl_are _ ad5 n5 c5 _ (by omega) HR5.out true HAM.out).mono ?_); rintro e w9 ⟨rfl, rfl⟩)
    | (refine wpList_load_row_on (by kernel_rfl) TM _ rfl w1.heap.size rfl _ (ivs V).toArray _ _ HX5.out Tryz.underlying97 rfl HI.out ?_)
    | (go_at_call 121; (with_reducible refine (impl_logok _ V HLL.out c hc r HR.out).mono ?_); rintro e w6 ⟨rfl, hb6⟩))
  go_ret
  exact ⟨rfl, HP.out.2.2.1.trans ((below_then HB5.out hb6).mono (Nat.le_of_lt hwl))⟩

theorem impl_memok (a : Option Addr) (n cap : Nat) (P : List Tk) (hz : Sizes P) (hcap : n ≤ cap) (w : World) (h : TkRow w a n P) (ad : Option Addr) (nv cv : Nat) (V : List Int) (hV : Row w ad nv V) (hw : ∀ x ∈ V, -9223372036854775808 ≤ x ∧ x ≤ 9223372036854775807) (r : Bool) (hr : r = true ↔ MemIs P V) :
    Calls Tryz.prog 78 #[.agg #[.slice a n cap], .slice ad nv cv] w (BelB w r) := by
  refine impl_memok8 a n cap P hz hcap w h ad nv cv V hV ?_ r hr
  rw [List.getD_eq_getElem?_getD]
  cases hq : V[8]? with
  | none => decide
  | some x => exact hw x (List.mem_of_getElem? hq)
end Go.Proofs.YtcmhiadaebpgmaaGreatDoor.mem

/- Chapter 14 of the program: canTrace and TraceOf: the steps of the current task, in new memory; nothing that was there is written. -/
namespace Go.Proofs.YtcmhiadaebpgmaaGreatDoor.trc
open Go Go.ChangeShapes Go.WideShapes Go.ChangeAt Go.RowKit Go.Proofs.YtcmhiadaebpgmaaGreatDoor.row Go.Proofs.YtcmhiadaebpgmaaGreatDoor.val Go.Proofs.YtcmhiadaebpgmaaGreatDoor.expr Go.Proofs.YtcmhiadaebpgmaaGreatDoor.stm Go.Proofs.YtcmhiadaebpgmaaGreatDoor.blk Go.Proofs.YtcmhiadaebpgmaaGreatDoor.prg Go.Proofs.YtcmhiadaebpgmaaGreatDoor.exe Go.Proofs.YtcmhiadaebpgmaaGreatDoor.grow Go.Proofs.YtcmhiadaebpgmaaGreatDoor.rss Go.Proofs.YtcmhiadaebpgmaaGreatDoor.ctl Go.Proofs.YtcmhiadaebpgmaaGreatDoor.sets Go.Proofs.YtcmhiadaebpgmaaGreatDoor.wrt Go.Proofs.YtcmhiadaebpgmaaGreatDoor.mem Go.Proofs.YtcmhiadaebpgmaaGreatDoor.cst
theorem dj_at {l k : List (Option Nat)} (h : Dj l k) {i b : Nat} (hi : l[i]? = some (some b)) : ∀ j : Nat, k[j]? ≠ some (some b) := fun j hj => h i j b hi hj
/-- Told a statement, the program's observer makes the steps of it. -/
theorem trace_tells (w0 : World) (c : PCf) (hlv : c.lv = true) (g gs ga gj : Nat) (D : List Int) (tk tl : Int) (hD : Vrs D) (hDl : D.length ≤ 8) (htl : 0 ≤ tl ∧ tl ≤ 24) (HC : CostTab w0) :
    Tells w0 c (traceObs w0.heap.size gs ga gj g D tk tl) g := by
  intro w p F x t s v hs h6 hx hv ht hB h
  obtain ⟨gv, cv, a1, n1, c1, a2, n2, c2⟩ := p
  obtain ⟨M, L⟩ := t
  obtain ⟨a, m, c0, a', m', c', hF, hp⟩ := h.ob
  subst hF
  have e : (#[Value.agg (stmA s), .int .i64 v] ++ (traceObs w0.heap.size gs ga gj g D tk tl).fc) = #[.agg (stmA s), .int .i64 v, .pointer (some ⟨ga, 0, none⟩), .pointer (some ⟨gj, 0, none⟩), .pointer (some ⟨g, 0, none⟩)] := by simp [traceObs]
  rw [e]
  have hfn : c.fn = fnS c.gu c.gz := by unfold PCf.fn; rw [if_pos hlv]
  have hbx := h.box
  unfold pxC at hbx
  rw [hfn] at hbx
  have hlen : x.S.length = n1 := h.slen
  have hn1 : n1 ≤ 100000 ∧ M.length ≤ 60000 := by
    have h1 : tot x + (M.length : Int) ≤ 50000 := ht
    unfold tot at h1
    omega
  refine (impl_tell w0.heap.size gs ga gj g a m c0 a' m' c' D tk tl M L w hp hD hDl htl hn1.2 c gv cv a1 n1 c1 a2 n2 c2 x h.vrow hlen hn1.1 hbx (dj_at h.d1 (i := 0) rfl) (dj_at h.d1 (i := 1) rfl) s hs v (HC.below hB)).mono ?_
  rintro e w' ⟨rfl, a2', m2', c2', a3', m3', c3', h1, h2⟩
  refine ⟨rfl, _, ⟨_, _, _, _, _, _, rfl, ?_⟩, h2⟩
  have e2 : stepsOf (kindT s.k) (addP D tk tl s x v L) = stepM s.k :: addV D tk tl s x v L := by rw [addP_M]; rfl
  rw [e2] at h1
  exact h1
set_option maxHeartbeats 4000000 in
set_option maxRecDepth 100000 in
theorem impl_cantrace (a : Option Addr) (n cap : Nat) (P : List Tk) (hz : Sizes P) (hcap : n ≤ cap) (w : World) (h : TkRow w a n P) (am : Option Addr) (nm cm : Nat) (Mem : List Int) (hM : Row w am nm Mem) (ar : Option Addr) (nr cr : Nat) (R : List Int) (hnr : (nr : Int) ≤ 1048576) (hR : Row w ar nr R) (z : Int) (h8 : i64r (Mem.getD 8 0)) (r : Bool) (hr : r = true ↔ TrOk P Mem R z) :
    Calls Tryz.prog 38 #[.agg #[.slice a n cap], .slice am nm cm, .slice ar nr cr, .int .i64 z] w (BelB w r) := by
  obtain ⟨W, hW⟩ : ∃ W, w.alloc (.cells #[.slice a n cap] 26) = W := ⟨_, rfl⟩
  have hBW : Below w.heap.size w W := by rw [← hW]; exact below_new w _
  have hpx : Box w.heap.size #[.slice a n cap] 26 W := by rw [← hW]; exact Box.new w _ _
  have c0 : W.cell? ⟨w.heap.size, 0, none⟩ = some (.slice a n cap) := hpx.cell 0
  obtain ⟨rm, hrm⟩ := mem_dec P Mem
  have HMO := Lib.hid (impl_memok8 a n cap P hz hcap W (h.below hBW) am nm cm Mem (hM.below hBW) h8 rm hrm)
  have H0 := Lib.hid hBW
  cases rm
  · obtain rfl : r = false := by
      rw [← Bool.not_eq_true]; intro e
      have := hrm.2 (hr.1 e).1
      cases this
    clear hr hrm hpx hBW h hM hR h8
    go_enter Tryz.func38, Tryz.ntmps38
    go_wp2_with (go_at_call 78; (with_reducible refine HMO.out.mono ?_); rintro e w2 ⟨rfl, hb2⟩)
    go_ret
    exact ⟨rfl, H0.out.trans (hb2.mono H0.out.size)⟩
  · have hmi := hrm.1 rfl
    obtain rfl : nm = 49 := by have := hM.1; have := hmi.2.1; omega
    obtain ⟨bm, om, x, rfl, hlm, hx8, hc8⟩ := (hM.below hBW).2 8 (by omega)
    have hX8 : Mem.getD 8 0 = x := by rw [List.getD_eq_getElem?_getD, hx8]; rfl
    rw [hX8] at h8
    have hwok : wOk x = true := by rw [← hX8]; exact hmi.2.2.1
    obtain ⟨ri, hri⟩ : ∃ ri : Bool, (decide (0 ≤ z) && decide (z ≤ 1000000)) = ri := ⟨_, rfl⟩
    obtain ⟨rv, hrv⟩ : ∃ rv : Bool, allV R = rv := ⟨_, rfl⟩
    obtain ⟨cq, hcq⟩ : ∃ cq, wC x = cq := ⟨_, rfl⟩
    have hun : unT x = wT x ∧ unC x = cq ∧ unN x = wN x := by unfold unT unC unN; rw [hwok]; exact ⟨rfl, hcq, rfl⟩
    have HUN := Lib.hid (show ∀ w', Calls Tryz.prog 16 #[.int .i64 x] w' (RetT w' (wT x) cq (wN x)) from fun w' => impl_unpack_is x _ _ _ h8 hun w')
    have HIN := Lib.hid (show ∀ w', Calls Tryz.prog 79 #[.int .i64 z] w' (RetB w' ri) from fun w' => impl_first z ri hri w')
    have HVA := Lib.hid (show ∀ w', Below W.heap.size W w' → Calls Tryz.prog 80 #[.slice ar nr cr] w' (RetB w' rv) from fun w' hb => impl_are w' ar nr cr R hnr (hR.below (hBW.trans (hb.mono hBW.size))) rv hrv)
    have hre : r = (decide (cq = 0) && ri && rv) := by
      rw [Bool.eq_iff_iff, hr]
      unfold TrOk
      rw [hX8, hcq, ← hri, ← hrv]
      simp [hmi, and_assoc]
    subst hre
    clear hr hrm hmi hX8 hwok hri hrv hcq hun hx8 hpx hBW h hM hR
    have hlm2 : bm < W.heap.size := hlm
    by_cases hc0 : cq = 0
    · subst hc0
      cases ri <;> cases rv
      all_goals
        go_enter Tryz.func38, Tryz.ntmps38
        go_wp2_with (go_at_call 78; (with_reducible refine HMO.out.mono ?_); rintro e w2 ⟨rfl, hb2⟩; refine Hid.out ?_)
        have HB2 := Lib.hid hb2
        have k8 : w2.cell? ⟨bm, om + 8, none⟩ = some (.int .i64 x) := (hb2.cell (p := ⟨bm, om + 8, none⟩) hlm2).trans hc8
        clear hb2
        refine Lib.hid ?_
        go_wp2_with (first
          | (go_at_call 16; (with_reducible refine (HUN.out _).mono ?_); rintro e w3 ⟨rfl, rfl⟩)
          | (go_at_call 79; (with_reducible refine (HIN.out _).mono ?_); rintro e w4 ⟨rfl, rfl⟩)
          | (go_at_call 80; (with_reducible refine (HVA.out _ HB2.out).mono ?_); rintro e w5 ⟨rfl, rfl⟩))
        go_ret
        exact ⟨rfl, H0.out.trans (HB2.out.mono H0.out.size)⟩
    · have hcb : (cq == 0) = false := by simpa using hc0
      have hcd : decide (cq = 0) = false := by simpa using hc0
      go_enter Tryz.func38, Tryz.ntmps38
      go_wp2_with (go_at_call 78; (with_reducible refine HMO.out.mono ?_); rintro e w2 ⟨rfl, hb2⟩; refine Hid.out ?_)
      have HB2 := Lib.hid hb2
      have k8 : w2.cell? ⟨bm, om + 8, none⟩ = some (.int .i64 x) := (hb2.cell (p := ⟨bm, om + 8, none⟩) hlm2).trans hc8
      clear hb2
      refine Lib.hid ?_
      go_wp2_with (first
        | (go_at_call 16; (with_reducible refine (HUN.out _).mono ?_); rintro e w3 ⟨rfl, rfl⟩)
        | (go_at_call 79; (with_reducible refine (HIN.out _).mono ?_); rintro e w4 ⟨rfl, rfl⟩)
        | (go_at_call 80; (with_reducible refine (HVA.out _ HB2.out).mono ?_); rintro e w5 ⟨rfl, rfl⟩))
      go_ret
      exact ⟨by rw [hcd]; rfl, H0.out.trans (HB2.out.mono H0.out.size)⟩
end Go.Proofs.YtcmhiadaebpgmaaGreatDoor.trc
