/- Several texts in one: VMemP VRecC VWtJ. -/
import Derived.Test.YtmgeecdgebemdaaGreatDoorGSigV18
import Derived.Test.YtmgeecdgebemdaaGreatDoorGSigV34
import Derived.Test.YtmgeecdgebemdaaGreatDoorGSigV10

/- Chapter 9's MemOk of the program: valid exactly as the model's; nothing that was there is written. -/
namespace Go.Proofs.YtmgeecdgebemdaaGreatDoor.mem
open Go.ChangeShapes Go.WideShapes Go.ChangeAt Go.RowKit Go.Proofs.YtmgeecdgebemdaaGreatDoor.row Go.Proofs.YtmgeecdgebemdaaGreatDoor.val Go.Proofs.YtmgeecdgebemdaaGreatDoor.expr Go.Proofs.YtmgeecdgebemdaaGreatDoor.stm Go.Proofs.YtmgeecdgebemdaaGreatDoor.blk Go.Proofs.YtmgeecdgebemdaaGreatDoor.prg Go.Proofs.YtmgeecdgebemdaaGreatDoor.ctl
/-- The load of a whole array behind a test that holds. -/
theorem wpList_load_row_on {P : Program} {ops : Array Oper} {rest : List Oper} {o : Oper} {a : Act} {w : World} {Q : Exit → Act → World → Prop} (hw : Region.wanted o (yielded ops a.tmps) = true) (ty : TypeId) (x : Operand) (ho : o.op = .load ty x)
    (g : Nat) (hx : a.eval x = .pointer (some ⟨g, 0, none⟩)) (t : TypeId) (cs : Array Value) (fr : Nat × Nat) (d : TypeDesc) (hg : w.heap[g]? = some (.cells cs t fr))
    (hu : P.underlying ty = some d) (hd : (match d with | .struct _ | .array _ _ => true | _ => false) = true) (hi : (P.info? ty).map (·.size) = some cs.size)
    (h : wpList P ops Q rest (a.put o.dst (.agg cs)) w) : wpList P ops Q (o :: rest) a w :=
  wpList_step fun K hK => by
    rw [if_pos hw]
    exact wp_load_row ty x ho g hx t cs fr d hg hu hd hi (hK _ _ h)
set_option maxRecDepth 100000 in
set_option maxHeartbeats 8000000 in
theorem impl_memok8 (a : Option Addr) (n cap : Nat) (P : List Tk) (hz : Sizes P) (hcap : n ≤ cap) (w : World) (h : TkRow w a n P) (ad : Option Addr) (nv cv : Nat) (V : List Int) (hV : Row w ad nv V) (hw : -9223372036854775808 ≤ V.getD 8 0 ∧ V.getD 8 0 ≤ 9223372036854775807) (r : Bool) (hr : r = true ↔ MemIs P V) :
    Calls Tryz.prog 49 #[.agg #[.slice a n cap], .slice ad nv cv] w (BelB w r) := by
  obtain ⟨W, hW⟩ : ∃ W, W = w.alloc (.cells #[.slice a n cap] 26) := ⟨_, rfl⟩
  have hpw : PrgW w W a n cap P := by rw [hW]; exact prgW_new w a n cap P _ h
  have HP := Lib.hid hpw
  have HW := Lib.hid hW.symm
  have HZ := Lib.hid hz
  have HV := Lib.hid (hV.below hpw.2.2.1)
  have hlen := h.1
  have hvl := hV.1
  have hn : (n : Int) ≤ 1048576 := by have := hz.1; omega
  have hwl : w.heap.size < W.heap.size := by rw [hW]; simp
  have c0 : W.cell? ⟨w.heap.size, 0, none⟩ = some (.slice a n cap) := hpw.1
  clear h hz hW hpw hV
  have hsl8 := run_slice_8
  by_cases h49 : nv = 49
  case neg =>
    obtain rfl := not_mem hr (fun hp => h49 (by rw [← hvl]; exact hp.2.1))
    have HI := Lib.hid (mem_info (L := nul 49) (by simp))
    have HL : Hid (∀ cs : Array Value, cs.size = 49 → (ivs (nul 49)).toArray.size = cs.size) := fun cs hc => by rw [hc]; simp [ivs]
    clear hr hlen hvl c0 hw
    go_enter Tryz.func49, Tryz.ntmps49
    go_wp2_with (first
      | (go_at_call 93; rw [HW.out]; (with_reducible refine (impl_memoryof_no _ ad nv cv h49).mono ?_); rintro e w1 ⟨rfl, hb1⟩)
      | (refine wpList_store_box rfl TM _ _ rfl w1.heap.size _ _ (Box.new w1 _ _) (ivs (nul 49)).toArray rfl rfl (HL.out _ rfl) HI.out (mem_all _) ?_; intro w2 hx2 hg2))
    have hb2 : Below W.heap.size W w2 := (below_then hb1 (below_new w1 _)).grown hg2 (show W.heap.size ≤ _ by have := hb1.size; simp; omega) (fun k hk => by cases hk; exact hb1.size)
    go_ret
    exact ⟨rfl, HP.out.2.2.1.trans (hb2.mono (Nat.le_of_lt hwl))⟩
  subst h49
  obtain ⟨b, off, rfl⟩ := row_some HV.out (by decide)
  have HI := Lib.hid (mem_info hvl)
  have HL : Hid (∀ cs : Array Value, cs.size = 49 → (ivs V).toArray.size = cs.size) := fun cs hc => by rw [List.size_toArray, ivs_length, hvl, hc]
  have HLL := Lib.hid hvl
  obtain ⟨rp, hrp⟩ := prg_dec P
  have HRP := Lib.hid hrp
  cases rp
  case false =>
    obtain rfl := not_mem hr (fun hp => by have := hrp.2 hp.1; cases this)
    clear hr hrp hlen hvl hw
    go_enter Tryz.func49, Tryz.ntmps49
    go_wp2_with (first
      | (go_at_call 93; rw [HW.out]; (with_reducible refine (impl_memoryof_yes _ b off cv V HV.out).mono ?_); rintro e w1 ⟨rfl, hb1⟩)
      | (refine wpList_store_box rfl TM _ _ rfl w1.heap.size _ _ (Box.new w1 _ _) (ivs V).toArray rfl rfl (HL.out _ rfl) HI.out (mem_all _) ?_; intro w2 hx2 hg2; refine Hid.out ?_))
    have hb2 : Below W.heap.size W w2 := (below_then hb1 (below_new w1 _)).grown hg2 (show W.heap.size ≤ _ by have := hb1.size; simp; omega) (fun k hk => by cases hk; exact hb1.size)
    have HT2 := Lib.hid (HP.out.2.1.below hb2)
    have HX2 := Lib.hid hx2
    have d0 : w2.cell? ⟨w.heap.size, 0, none⟩ = some (.slice a n cap) := (hb2.cell (p := ⟨w.heap.size, 0, none⟩) hwl).trans c0
    have HB2 := Lib.hid hb2
    have l2 : w.heap.size < w2.heap.size := Nat.lt_of_lt_of_le hwl hb2.size
    clear hb1 hg2 hb2 hx2
    refine Lib.hid ?_
    go_wp2_with (go_at_call 106; (with_reducible refine (impl_programok a n cap P HZ.out hcap _ HT2.out false HRP.out).mono ?_); rintro e w3 ⟨rfl, hb3⟩)
    go_ret
    exact ⟨rfl, HP.out.2.2.1.trans ((HB2.out.trans (hb3.mono HB2.out.size)).mono (Nat.le_of_lt hwl))⟩

  have HPR := Lib.hid (hrp.1 rfl)
  clear hrp
  obtain ⟨x, hx⟩ : ∃ x, V.getD 8 0 = x := ⟨_, rfl⟩
  have hxw : -9223372036854775808 ≤ x ∧ x ≤ 9223372036854775807 := by rw [← hx]; exact hw
  have HX := Lib.hid hx
  clear hx hw
  cases ho : wOk x
  case false =>
    obtain rfl := not_mem hr (fun hp => by have := hp.2.2.1; rw [HX.out, ho] at this; cases this)
    have HU := Lib.hid (un_no ho)
    have HIN := Lib.hid (show false = (decide (0 ≤ (-1 : Int)) && decide ((-1 : Int) < (n : Int))) by simp)
    clear hr hlen hvl ho
    go_enter Tryz.func49, Tryz.ntmps49
    go_wp2_with (first
      | (go_at_call 93; rw [HW.out]; (with_reducible refine (impl_memoryof_yes _ b off cv V HV.out).mono ?_); rintro e w1 ⟨rfl, hb1⟩)
      | (refine wpList_store_box rfl TM _ _ rfl w1.heap.size _ _ (Box.new w1 _ _) (ivs V).toArray rfl rfl (HL.out _ rfl) HI.out (mem_all _) ?_; intro w2 hx2 hg2; refine Hid.out ?_))
    have hb2 : Below W.heap.size W w2 := (below_then hb1 (below_new w1 _)).grown hg2 (show W.heap.size ≤ _ by have := hb1.size; simp; omega) (fun k hk => by cases hk; exact hb1.size)
    have HT2 := Lib.hid (HP.out.2.1.below hb2)
    have HX2 := Lib.hid hx2
    have d0 : w2.cell? ⟨w.heap.size, 0, none⟩ = some (.slice a n cap) := (hb2.cell (p := ⟨w.heap.size, 0, none⟩) hwl).trans c0
    have HB2 := Lib.hid hb2
    have l2 : w.heap.size < w2.heap.size := Nat.lt_of_lt_of_le hwl hb2.size
    clear hb1 hg2 hb2 hx2
    refine Lib.hid ?_
    go_wp2_with (go_at_call 106; (with_reducible refine (impl_programok a n cap P HZ.out hcap _ HT2.out true ⟨fun _ => HPR.out, fun _ => rfl⟩).mono ?_); rintro e w3 ⟨rfl, hb3⟩; refine Hid.out ?_)
    have HX3 := Lib.hid (HX2.out.below hb3)
    have c8 : w3.cell? ⟨w1.heap.size, 8, none⟩ = some (.int .i64 x) := by rw [← HX.out, HX3.out.cell]; simp [ivs, show 8 < V.length by rw [HLL.out]; decide]
    have e0 : w3.cell? ⟨w.heap.size, 0, none⟩ = some (.slice a n cap) := (hb3.cell (p := ⟨w.heap.size, 0, none⟩) l2).trans d0
    have HB3 := Lib.hid (HB2.out.trans (hb3.mono HB2.out.size))
    clear hb3 d0
    refine Lib.hid ?_
    go_wp2_with (first
      | (go_at_call 36; refine (impl_unpack_is x _ _ _ hxw HU.out _).mono ?_; rintro e w9 ⟨rfl, rfl⟩)
      | (go_at_call 107; (with_reducible refine (impl_istaskof a n cap _ false HIN.out _).mono ?_); rintro e w4 ⟨rfl, hb4⟩))
    go_ret
    exact ⟨rfl, HP.out.2.2.1.trans ((below_then HB3.out hb4).mono (Nat.le_of_lt hwl))⟩

  obtain ⟨t, c, m, ht, hc, hm, hu, e1, e2, e3⟩ := wparts ho
  have HU := Lib.hid hu
  have ht' : (t : Int) ≤ 5 := by omega
  have hc' : (c : Int) ≤ 8 := by omega
  have hm' : (m : Int) ≤ 24 := by omega
  have HM : Hid (MemIs P V ↔ t < n ∧ (V.take 8).all isVal = true ∧ ((V.drop 25).take m).all isVal = true ∧ LogV V c) := by
    show MemIs P V ↔ _
    unfold MemIs
    rw [HX.out, e1, e2, e3, Int.toNat_natCast, Int.toNat_natCast, hlen]
    constructor
    · rintro ⟨_, _, _, q1, q2, q3, q4⟩; exact ⟨by omega, q2, q3, q4⟩
    · rintro ⟨q1, q2, q3, q4⟩; exact ⟨HPR.out, hvl, ho, by omega, q2, q3, q4⟩
  clear hu e1 e2 e3 ho hlen hvl
  by_cases htn : t < n
  case neg =>
    obtain rfl := not_mem hr (fun hp => htn (HM.out.1 hp).1)
    have HIN := Lib.hid (show false = (decide (0 ≤ (t : Int)) && decide ((t : Int) < (n : Int))) by symm; simp; omega)
    clear hr htn
    go_enter Tryz.func49, Tryz.ntmps49
    go_wp2_with (first
      | (go_at_call 93; rw [HW.out]; (with_reducible refine (impl_memoryof_yes _ b off cv V HV.out).mono ?_); rintro e w1 ⟨rfl, hb1⟩)
      | (refine wpList_store_box rfl TM _ _ rfl w1.heap.size _ _ (Box.new w1 _ _) (ivs V).toArray rfl rfl (HL.out _ rfl) HI.out (mem_all _) ?_; intro w2 hx2 hg2; refine Hid.out ?_))
    have hb2 : Below W.heap.size W w2 := (below_then hb1 (below_new w1 _)).grown hg2 (show W.heap.size ≤ _ by have := hb1.size; simp; omega) (fun k hk => by cases hk; exact hb1.size)
    have HT2 := Lib.hid (HP.out.2.1.below hb2)
    have HX2 := Lib.hid hx2
    have d0 : w2.cell? ⟨w.heap.size, 0, none⟩ = some (.slice a n cap) := (hb2.cell (p := ⟨w.heap.size, 0, none⟩) hwl).trans c0
    have HB2 := Lib.hid hb2
    have l2 : w.heap.size < w2.heap.size := Nat.lt_of_lt_of_le hwl hb2.size
    clear hb1 hg2 hb2 hx2
    refine Lib.hid ?_
    go_wp2_with (go_at_call 106; (with_reducible refine (impl_programok a n cap P HZ.out hcap _ HT2.out true ⟨fun _ => HPR.out, fun _ => rfl⟩).mono ?_); rintro e w3 ⟨rfl, hb3⟩; refine Hid.out ?_)
    have HX3 := Lib.hid (HX2.out.below hb3)
    have c8 : w3.cell? ⟨w1.heap.size, 8, none⟩ = some (.int .i64 x) := by rw [← HX.out, HX3.out.cell]; simp [ivs, show 8 < V.length by rw [HLL.out]; decide]
    have e0 : w3.cell? ⟨w.heap.size, 0, none⟩ = some (.slice a n cap) := (hb3.cell (p := ⟨w.heap.size, 0, none⟩) l2).trans d0
    have HB3 := Lib.hid (HB2.out.trans (hb3.mono HB2.out.size))
    clear hb3 d0
    refine Lib.hid ?_
    go_wp2_with (first
      | (go_at_call 36; refine (impl_unpack_is x _ _ _ hxw HU.out _).mono ?_; rintro e w9 ⟨rfl, rfl⟩)
      | (go_at_call 107; (with_reducible refine (impl_istaskof a n cap _ false HIN.out _).mono ?_); rintro e w4 ⟨rfl, hb4⟩))
    go_ret
    exact ⟨rfl, HP.out.2.2.1.trans ((below_then HB3.out hb4).mono (Nat.le_of_lt hwl))⟩

  have HIN := Lib.hid (show true = (decide (0 ≤ (t : Int)) && decide ((t : Int) < (n : Int))) by symm; simp; omega)
  cases h8 : (V.take 8).all isVal
  case false =>
    obtain rfl := not_mem hr (fun hp => by have := (HM.out.1 hp).2.1; rw [h8] at this; cases this)
    have HA8 := Lib.hid (show varsOk (V.take 8) = false by rw [← Bool.not_eq_true, varsOk_iff]; rintro ⟨_, q⟩; rw [List.all_eq_true.2 q] at h8; cases h8)
    clear hr h8 htn
    go_enter Tryz.func49, Tryz.ntmps49
    go_wp2_with (first
      | (go_at_call 93; rw [HW.out]; (with_reducible refine (impl_memoryof_yes _ b off cv V HV.out).mono ?_); rintro e w1 ⟨rfl, hb1⟩)
      | (refine wpList_store_box rfl TM _ _ rfl w1.heap.size _ _ (Box.new w1 _ _) (ivs V).toArray rfl rfl (HL.out _ rfl) HI.out (mem_all _) ?_; intro w2 hx2 hg2; refine Hid.out ?_))
    have hb2 : Below W.heap.size W w2 := (below_then hb1 (below_new w1 _)).grown hg2 (show W.heap.size ≤ _ by have := hb1.size; simp; omega) (fun k hk => by cases hk; exact hb1.size)
    have HT2 := Lib.hid (HP.out.2.1.below hb2)
    have HX2 := Lib.hid hx2
    have d0 : w2.cell? ⟨w.heap.size, 0, none⟩ = some (.slice a n cap) := (hb2.cell (p := ⟨w.heap.size, 0, none⟩) hwl).trans c0
    have HB2 := Lib.hid hb2
    have l2 : w.heap.size < w2.heap.size := Nat.lt_of_lt_of_le hwl hb2.size
    clear hb1 hg2 hb2 hx2
    refine Lib.hid ?_
    go_wp2_with (go_at_call 106; (with_reducible refine (impl_programok a n cap P HZ.out hcap _ HT2.out true ⟨fun _ => HPR.out, fun _ => rfl⟩).mono ?_); rintro e w3 ⟨rfl, hb3⟩; refine Hid.out ?_)
    have HX3 := Lib.hid (HX2.out.below hb3)
    have c8 : w3.cell? ⟨w1.heap.size, 8, none⟩ = some (.int .i64 x) := by rw [← HX.out, HX3.out.cell]; simp [ivs, show 8 < V.length by rw [HLL.out]; decide]
    have e0 : w3.cell? ⟨w.heap.size, 0, none⟩ = some (.slice a n cap) := (hb3.cell (p := ⟨w.heap.size, 0, none⟩) l2).trans d0
    have HB3 := Lib.hid (HB2.out.trans (hb3.mono HB2.out.size))
    clear hb3 d0
    refine Lib.hid ?_
    go_wp2_with (first
      | (go_at_call 36; refine (impl_unpack_is x _ _ _ hxw HU.out _).mono ?_; rintro e w9 ⟨rfl, rfl⟩)
      | (go_at_call 107; (with_reducible refine (impl_istaskof a n cap _ true HIN.out _).mono ?_); rintro e w4 ⟨rfl, hb4⟩; refine Hid.out ?_))
    have HX4 := Lib.hid (HX3.out.below hb4)
    have HB4 := Lib.hid (below_then HB3.out hb4)
    clear hb4 c8 e0
    refine Lib.hid ?_
    go_wp2_with (go_at_call 108; (with_reducible refine (impl_vars _ (some ⟨w1.heap.size, 0, none⟩) 8 49 (V.take 8) (by omega) (by simpa using row_box (o := 0) (n := 8) HX4.out (by rw [HLL.out]; decide)) false HA8.out).mono ?_); rintro e w9 ⟨rfl, rfl⟩)
    go_ret
    exact ⟨rfl, HP.out.2.2.1.trans ((HB4.out).mono (Nat.le_of_lt hwl))⟩

  have HA8 := Lib.hid (show varsOk (V.take 8) = true from (varsOk_iff _).2 ⟨by rw [List.length_take, HLL.out]; rfl, List.all_eq_true.1 h8⟩)
  cases hmv : ((V.drop 25).take m).all isVal
  case false =>
    obtain rfl := not_mem hr (fun hp => by have := (HM.out.1 hp).2.2.1; rw [hmv] at this; cases this)
    have HAM := Lib.hid hmv
    clear hr h8 hmv htn
    go_enter Tryz.func49, Tryz.ntmps49
    go_wp2_with (first
      | (go_at_call 93; rw [HW.out]; (with_reducible refine (impl_memoryof_yes _ b off cv V HV.out).mono ?_); rintro e w1 ⟨rfl, hb1⟩)
      | (refine wpList_store_box rfl TM _ _ rfl w1.heap.size _ _ (Box.new w1 _ _) (ivs V).toArray rfl rfl (HL.out _ rfl) HI.out (mem_all _) ?_; intro w2 hx2 hg2; refine Hid.out ?_))
    have hb2 : Below W.heap.size W w2 := (below_then hb1 (below_new w1 _)).grown hg2 (show W.heap.size ≤ _ by have := hb1.size; simp; omega) (fun k hk => by cases hk; exact hb1.size)
    have HT2 := Lib.hid (HP.out.2.1.below hb2)
    have HX2 := Lib.hid hx2
    have d0 : w2.cell? ⟨w.heap.size, 0, none⟩ = some (.slice a n cap) := (hb2.cell (p := ⟨w.heap.size, 0, none⟩) hwl).trans c0
    have HB2 := Lib.hid hb2
    have l2 : w.heap.size < w2.heap.size := Nat.lt_of_lt_of_le hwl hb2.size
    clear hb1 hg2 hb2 hx2
    refine Lib.hid ?_
    go_wp2_with (go_at_call 106; (with_reducible refine (impl_programok a n cap P HZ.out hcap _ HT2.out true ⟨fun _ => HPR.out, fun _ => rfl⟩).mono ?_); rintro e w3 ⟨rfl, hb3⟩; refine Hid.out ?_)
    have HX3 := Lib.hid (HX2.out.below hb3)
    have c8 : w3.cell? ⟨w1.heap.size, 8, none⟩ = some (.int .i64 x) := by rw [← HX.out, HX3.out.cell]; simp [ivs, show 8 < V.length by rw [HLL.out]; decide]
    have e0 : w3.cell? ⟨w.heap.size, 0, none⟩ = some (.slice a n cap) := (hb3.cell (p := ⟨w.heap.size, 0, none⟩) l2).trans d0
    have HB3 := Lib.hid (HB2.out.trans (hb3.mono HB2.out.size))
    clear hb3 d0
    refine Lib.hid ?_
    go_wp2_with (first
      | (go_at_call 36; refine (impl_unpack_is x _ _ _ hxw HU.out _).mono ?_; rintro e w9 ⟨rfl, rfl⟩)
      | (go_at_call 107; (with_reducible refine (impl_istaskof a n cap _ true HIN.out _).mono ?_); rintro e w4 ⟨rfl, hb4⟩; refine Hid.out ?_))
    have HX4 := Lib.hid (HX3.out.below hb4)
    have HB4 := Lib.hid (below_then HB3.out hb4)
    clear hb4 c8 e0
    refine Lib.hid ?_
    go_wp2_with (first
      | (go_at_call 108; (with_reducible refine (impl_vars _ (some ⟨w1.heap.size, 0, none⟩) 8 49 (V.take 8) (by omega) (by simpa using row_box (o := 0) (n := 8) HX4.out (by rw [HLL.out]; decide)) true HA8.out).mono ?_); rintro e w9 ⟨rfl, rfl⟩)
      | (refine wpList_load_row_on (by kernel_rfl) TM _ rfl w1.heap.size rfl _ (ivs V).toArray _ _ HX4.out Tryz.underlying121 rfl HI.out ?_)
      | (go_at_call 94; (with_reducible refine (impl_sent _ V HLL.out m hm).mono ?_); rintro e w5 ⟨ad5, n5, c5, rfl, ho5, hb5⟩; refine Hid.out ?_))
    have hn5 : (n5 : Int) ≤ 24 := by have h1 := own_len ho5; have h2 := List.length_take_le m (V.drop 25); omega
    have HR5 := Lib.hid (Row.of_own ho5)
    have HX5 := Lib.hid (HX4.out.below hb5)
    have HB5 := Lib.hid (below_then HB4.out hb5)
    clear ho5 hb5
    refine Lib.hid ?_
    go_wp2_with (go_at_call 109; (with_reducible refine (impl_are _ ad5 n5 c5 _ (by omega) HR5.out false HAM.out).mono ?_); rintro e w9 ⟨rfl, rfl⟩)
    go_ret
    exact ⟨rfl, HP.out.2.2.1.trans ((HB5.out).mono (Nat.le_of_lt hwl))⟩

  have HAM := Lib.hid hmv
  have HR := Lib.hid (show r = true ↔ LogV V c from hr.trans (HM.out.trans ⟨fun hp => hp.2.2.2, fun hp => ⟨htn, h8, hmv, hp⟩⟩))
  clear hr h8 hmv htn
  go_enter Tryz.func49, Tryz.ntmps49
  go_wp2_with (first
    | (go_at_call 93; rw [HW.out]; (with_reducible refine (impl_memoryof_yes _ b off cv V HV.out).mono ?_); rintro e w1 ⟨rfl, hb1⟩)
    | (refine wpList_store_box rfl TM _ _ rfl w1.heap.size _ _ (Box.new w1 _ _) (ivs V).toArray rfl rfl (HL.out _ rfl) HI.out (mem_all _) ?_; intro w2 hx2 hg2; refine Hid.out ?_))
  have hb2 : Below W.heap.size W w2 := (below_then hb1 (below_new w1 _)).grown hg2 (show W.heap.size ≤ _ by have := hb1.size; simp; omega) (fun k hk => by cases hk; exact hb1.size)
  have HT2 := Lib.hid (HP.out.2.1.below hb2)
  have HX2 := Lib.hid hx2
  have d0 : w2.cell? ⟨w.heap.size, 0, none⟩ = some (.slice a n cap) := (hb2.cell (p := ⟨w.heap.size, 0, none⟩) hwl).trans c0
  have HB2 := Lib.hid hb2
  have l2 : w.heap.size < w2.heap.size := Nat.lt_of_lt_of_le hwl hb2.size
  clear hb1 hg2 hb2 hx2
  refine Lib.hid ?_
  go_wp2_with (go_at_call 106; (with_reducible refine (impl_programok a n cap P HZ.out hcap _ HT2.out true ⟨fun _ => HPR.out, fun _ => rfl⟩).mono ?_); rintro e w3 ⟨rfl, hb3⟩; refine Hid.out ?_)
  have HX3 := Lib.hid (HX2.out.below hb3)
  have c8 : w3.cell? ⟨w1.heap.size, 8, none⟩ = some (.int .i64 x) := by rw [← HX.out, HX3.out.cell]; simp [ivs, show 8 < V.length by rw [HLL.out]; decide]
  have e0 : w3.cell? ⟨w.heap.size, 0, none⟩ = some (.slice a n cap) := (hb3.cell (p := ⟨w.heap.size, 0, none⟩) l2).trans d0
  have HB3 := Lib.hid (HB2.out.trans (hb3.mono HB2.out.size))
  clear hb3 d0
  refine Lib.hid ?_
  go_wp2_with (first
    | (go_at_call 36; refine (impl_unpack_is x _ _ _ hxw HU.out _).mono ?_; rintro e w9 ⟨rfl, rfl⟩)
    | (go_at_call 107; (with_reducible refine (impl_istaskof a n cap _ true HIN.out _).mono ?_); rintro e w4 ⟨rfl, hb4⟩; refine Hid.out ?_))
  have HX4 := Lib.hid (HX3.out.below hb4)
  have HB4 := Lib.hid (below_then HB3.out hb4)
  clear hb4 c8 e0
  refine Lib.hid ?_
  go_wp2_with (first
    | (go_at_call 108; (with_reducible refine (impl_vars _ (some ⟨w1.heap.size, 0, none⟩) 8 49 (V.take 8) (by omega) (by simpa using row_box (o := 0) (n := 8) HX4.out (by rw [HLL.out]; decide)) true HA8.out).mono ?_); rintro e w9 ⟨rfl, rfl⟩)
    | (refine wpList_load_row_on (by kernel_rfl) TM _ rfl w1.heap.size rfl _ (ivs V).toArray _ _ HX4.out Tryz.underlying121 rfl HI.out ?_)
    | (go_at_call 94; (with_reducible refine (impl_sent _ V HLL.out m hm).mono ?_); rintro e w5 ⟨ad5, n5, c5, rfl, ho5, hb5⟩; refine Hid.out ?_))
  have hn5 : (n5 : Int) ≤ 24 := by have h1 := own_len ho5; have h2 := List.length_take_le m (V.drop 25); omega
  have HR5 := Lib.hid (Row.of_own ho5)
  have HX5 := Lib.hid (HX4.out.below hb5)
  have HB5 := Lib.hid (below_then HB4.out hb5)
  clear ho5 hb5
  refine Lib.hid ?_
  go_wp2_with (first
    | (go_at_call 109; (with_reducible refine (impl_are _ ad5 n5 c5 _ (by omega) HR5.out true HAM.out).mono ?_); rintro e w9 ⟨rfl, rfl⟩)
    | (refine wpList_load_row_on (by kernel_rfl) TM _ rfl w1.heap.size rfl _ (ivs V).toArray _ _ HX5.out Tryz.underlying121 rfl HI.out ?_)
    | (go_at_call 110; (with_reducible refine (impl_logok _ V HLL.out c hc r HR.out).mono ?_); rintro e w6 ⟨rfl, hb6⟩))
  go_ret
  exact ⟨rfl, HP.out.2.2.1.trans ((below_then HB5.out hb6).mono (Nat.le_of_lt hwl))⟩

end Go.Proofs.YtmgeecdgebemdaaGreatDoor.mem

/- Chapter 15 of the program: IsClean; nothing that was there is written. -/
namespace Go.Proofs.YtmgeecdgebemdaaGreatDoor.rcv
open Go Go.ChangeShapes Go.WideShapes Go.ChangeAt Go.RowKit Go.Proofs.YtmgeecdgebemdaaGreatDoor.row Go.Proofs.YtmgeecdgebemdaaGreatDoor.val Go.Proofs.YtmgeecdgebemdaaGreatDoor.expr Go.Proofs.YtmgeecdgebemdaaGreatDoor.stm Go.Proofs.YtmgeecdgebemdaaGreatDoor.ctl Go.Proofs.YtmgeecdgebemdaaGreatDoor.mem
set_option maxRecDepth 100000 in
set_option maxHeartbeats 2000000 in
theorem impl_isclean0 (w : World) (a : Option Addr) (n cap : Nat) (L : List Int) (h : Row w a n L) (hw : -9223372036854775808 ≤ L.getD 8 0 ∧ L.getD 8 0 ≤ 9223372036854775807) (r : Bool) (hr : cleanB L = r) :
    Calls Tryz.prog 48 #[.slice a n cap] w (BelB w r) := by
  have hl := h.1
  by_cases h49 : n = 49
  case neg =>
    have HQ := Lib.hid (show false = r by rw [← hr]; unfold cleanB; simp [show ¬ L.length = 49 by omega])
    have HI := Lib.hid (mem_info (L := nul 49) (by simp))
    have HL : Hid (∀ cs : Array Value, cs.size = 49 → (ivs (nul 49)).toArray.size = cs.size) := fun cs hc => by rw [hc]; simp [ivs]
    clear hr hw hl h
    go_enter Tryz.func48, Tryz.ntmps48
    go_wp2_with (first
      | (go_at_call 93; refine (impl_memoryof_no _ a n cap h49).mono ?_; rintro e w1 ⟨rfl, hb1⟩)
      | (refine wpList_store_box rfl TM _ _ rfl w1.heap.size _ _ (Box.new w1 _ _) (ivs (nul 49)).toArray rfl rfl (HL.out _ rfl) HI.out (mem_all _) ?_; intro w2 hx2 hg2))
    have hb2 := (below_then hb1 (below_new w1 _)).grown hg2 (show w.heap.size ≤ _ by have := hb1.size; simp; omega) (fun k hk => by cases hk; exact hb1.size)
    go_ret
    exact ⟨by rw [← HQ.out]; rfl, hb2⟩
  subst h49
  obtain ⟨b, off, rfl⟩ := row_some h (by decide)
  have HI := Lib.hid (mem_info h.1)
  have HL : Hid (∀ cs : Array Value, cs.size = 49 → (ivs L).toArray.size = cs.size) := fun cs hc => by rw [List.size_toArray, ivs_length, h.1, hc]
  obtain ⟨x, hx⟩ : ∃ x, L[8]? = some x := ⟨L[8]'(by have := h.1; omega), by simp [h.1]⟩
  have hX : L.getD 8 0 = x := by rw [List.getD_eq_getElem?_getD, hx]; rfl
  have hxw : -9223372036854775808 ≤ x ∧ x ≤ 9223372036854775807 := by rw [hX] at hw; exact hw
  have HC := Lib.hid (show ∀ (w' : World) (g : Nat), Box g (ivs L).toArray TM w' → w'.cell? ⟨g, 8, none⟩ = some (.int .i64 x) from fun w' g hb => by rw [hb.cell]; simp [ivs, hx])
  obtain ⟨c, hc⟩ : ∃ c, unC x = c := ⟨_, rfl⟩
  obtain ⟨t, ht⟩ : ∃ c, unT x = c := ⟨_, rfl⟩
  obtain ⟨nn, hnn⟩ : ∃ c, unN x = c := ⟨_, rfl⟩
  have HU := Lib.hid (show unT x = t ∧ unC x = c ∧ unN x = nn from ⟨ht, hc, hnn⟩)
  have HQ := Lib.hid (show (c == 0) = r by
    rw [show (c == 0) = decide (c = 0) from by by_cases h : c = 0 <;> simp [h]]
    rw [← hr, ← hc]
    unfold cleanB unC
    rw [hl, hX]
    cases wOk x <;> simp)
  have HH := Lib.hid h
  clear hx hX hc hl h hr ht hnn hw
  go_enter Tryz.func48, Tryz.ntmps48
  go_wp2_with (first
    | (go_at_call 93; refine (impl_memoryof_yes _ b off cap L HH.out).mono ?_; rintro e w1 ⟨rfl, hb1⟩)
    | (refine wpList_store_box rfl TM _ _ rfl w1.heap.size _ _ (Box.new w1 _ _) (ivs L).toArray rfl rfl (HL.out _ rfl) HI.out (mem_all L) ?_; intro w2 hx2 hg2; have hc2 := HC.out _ _ hx2)
    | (go_at_call 36; refine (impl_unpack_is x _ _ _ hxw HU.out _).mono ?_; rintro e w3 ⟨rfl, rfl⟩))
  have hb2 := (below_then hb1 (below_new w1 _)).grown hg2 (show w.heap.size ≤ _ by have := hb1.size; simp; omega) (fun k hk => by cases hk; exact hb1.size)
  go_ret
  exact ⟨by rw [← HQ.out]; rfl, hb2⟩
end Go.Proofs.YtmgeecdgebemdaaGreatDoor.rcv

/- Chapter 10 of the program: ApplyWrites, WriteWord; nothing that was there is written. -/
namespace Go.Proofs.YtmgeecdgebemdaaGreatDoor.wrt
open Go Go.ChangeShapes Go.WideShapes Go.ChangeAt Go.RowKit Go.Proofs.YtmgeecdgebemdaaGreatDoor.row Go.Proofs.YtmgeecdgebemdaaGreatDoor.val Go.Proofs.YtmgeecdgebemdaaGreatDoor.expr Go.Proofs.YtmgeecdgebemdaaGreatDoor.grow
theorem ivs_put (P : List Int) (m : Nat) (v : Int) : (ivs P).toArray.setIfInBounds m (.int .i64 v) = (ivs (P.set m v)).toArray := by
  rw [← ivs_set]; simp
set_option maxHeartbeats 2000000 in
set_option maxRecDepth 100000 in
theorem impl_apply (w : World) (a : Option Addr) (n cap : Nat) (M : List Int) (b : Option Addr) (k kc : Nat) (L : List Wt) (c : Int) (hn : (n : Int) ≤ 1048576) (hk : (k : Int) ≤ 1048576) (hkc : k ≤ kc) (hsp : ∀ x, b = some x → x.spot = none)
    (hM : Row w a n M) (hL : WriteRow w b k L) :
    Calls Tryz.prog 34 #[.slice a n cap, .slice b k kc, .int .i64 c] w (NewAt w n (appW M L c)) := by
  obtain ⟨q, hq⟩ : ∃ q, cntW c k = q := ⟨_, rfl⟩
  have hqk : q ≤ k := by rw [← hq]; exact cntW_le c k
  have HQ := Lib.hid (show L.take q = L.take c.toNat by rw [← hq, ← hL.1]; exact take_cnt L c)
  have HCL := Lib.hid (show ∀ w' : World, Calls Tryz.prog 91 #[.int .i64 c, .int .i64 0, .int .i64 k] w' (Ret w' q) from fun w' => by rw [← hq]; exact impl_cut c k hk w')
  have hsl := cut_h b k kc q hsp (by omega)
  have HM := Lib.hid hM
  have HL := Lib.hid hL
  have hml := hM.1
  clear hq hsp hM hL hkc
  go_enter Tryz.func34, Tryz.ntmps34
  go_wp2_with (first
    | (go_at_call 59; refine (impl_copyof _ _ _ _ M hn HM.out).mono ?_; rintro e w1 ⟨g, rfl, hg, hx, hb⟩; refine Hid.out ?_))
  have HX := Lib.hid (And.intro hx hb)
  clear hx hb
  refine Lib.hid ?_
  go_wp2_with (first
    | (go_at_call 91; (with_reducible refine (HCL.out _).mono ?_); rintro e w2 ⟨rfl, rfl⟩))
  go_loopw [9, 19] (fun _ i wr => ∃ j : Nat, j ≤ q ∧ i = .int .i64 j ∧ Box g (ivs (putAll M (L.take j))).toArray 3 wr ∧ Below w.heap.size w wr) (fun _ i _ => q - (intOf i).toNat)
  case atStart => exact ⟨0, Nat.zero_le _, rfl, HX.out.1, HX.out.2⟩
  case round =>
    obtain ⟨j, hj, rfl, hbx, hbel⟩ := hrel
    by_cases hlt : j < q
    · have hI : (j : Int) < q := by omega
      obtain ⟨b0, off, s, rfl, hlb, hs, hr⟩ := (HL.out.below hbel).2 j (by omega)
      have HS := Lib.hid (putAll_snoc (M := M) hs)
      obtain ⟨p, v⟩ := s
      have HR := Lib.hid (And.intro hr (And.intro hbx hbel))
      have hgl := hbx.lt
      have hpl : (putAll M (L.take j)).length = n := by rw [putAll_len]; exact hml
      clear hr hbx hbel hs
      go_wp2_with (first
        | (refine wpList_load_mid rfl 100 _ rfl b0 (off + j * 2) rfl (writeC ⟨p, v⟩) _ HR.out.1 Tryz.underlying100 rfl (by kernel_rfl) ?_)
        | (refine wpList_store_box rfl 100 _ _ rfl wr.heap.size _ _ (Box.new wr _ _) #[.int .i64 p, .int .i64 v] rfl rfl rfl (by kernel_rfl) (by simp [Value.oneCell']) ?_; intro w2 hx2 hg2; refine Hid.out ?_))
      have hb2 : Below wr.heap.size wr w2 := (below_new wr _).grown hg2 (by simp) (fun j hj => by cases hj; exact Nat.le_refl _)
      have c0 := hx2.cell 0
      have c1 := hx2.cell 1
      have H2 := Lib.hid (And.intro (HR.out.2.1.below hb2) (below_then HR.out.2.2 hb2))
      clear hx2 hg2 hb2
      by_cases hin : 0 ≤ p ∧ p < n
      · obtain ⟨m, rfl⟩ : ∃ m : Nat, p = m := ⟨p.toNat, by omega⟩
        have hmn : m < n := by omega
        have hd : (decide (0 ≤ (m : Int)) && decide ((m : Int) < n)) = true := by simp; omega
        have HIW := Lib.hid (show ∀ w' : World, Calls Tryz.prog 92 #[.slice (some ⟨g, 0, none⟩) n n, .int .i64 (m : Int)] w' (RetB w' true) from fun w' => impl_isword _ _ _ _ true hd w')
        have HP := Lib.hid (put1_in (M := putAll M (L.take j)) (x := ⟨m, v⟩) rfl (by rw [hpl]; exact hmn))
        obtain ⟨X, hX⟩ : ∃ X, w2.cell? ⟨g, m, none⟩ = some (.int .i64 X) := ⟨(putAll M (L.take j))[m]'(by omega), by rw [H2.out.1.cell]; simp [ivs, hpl, hmn]⟩
        have hfz : w2.frozen? ⟨g, m, none⟩ = false := H2.out.1.frozen _
        clear hd hin hpl
        refine Lib.hid ?_
        go_wp2_with (first
          | (go_at_call 92; (with_reducible refine (HIW.out _).mono ?_); rintro e w3 ⟨rfl, rfl⟩))
        go_roundw
        case rel => exact ⟨j + 1, by omega, by go_num, by rw [HS.out, HP.out, ← ivs_put]; exact H2.out.1.set m _, H2.out.2.grown (grown_setCell _ g m _) H2.out.2.size (fun j hj => by cases hj; exact hg)⟩
        case measure => simp [intOf]; omega
      · have hd : (decide (0 ≤ p) && decide (p < n)) = false := by
          rw [← Bool.not_eq_true, Bool.and_eq_true, decide_eq_true_eq, decide_eq_true_eq]; exact hin
        have HD := Lib.hid hd
        have HP := Lib.hid (put1_out (M := putAll M (L.take j)) (x := ⟨p, v⟩) (by rw [hpl]; exact hin))
        clear hd hin hpl
        refine Lib.hid ?_
        go_wp2_with (first
          | (go_at_call 92; refine (impl_isword _ _ _ _ false HD.out _).mono ?_; rintro e w3 ⟨rfl, rfl⟩))
        go_roundw
        case rel => exact ⟨j + 1, by omega, by go_num, by rw [HS.out, HP.out]; exact H2.out.1, H2.out.2⟩
        case measure => simp [intOf]; omega
    · obtain rfl : j = q := by omega
      have hI : ¬ (j : Int) < j := by omega
      have HB := Lib.hid (And.intro hbx hbel)
      clear hbx hbel
      go_wp2
      go_ret
      exact ⟨g, rfl, hg, by show Box g (ivs (putAll M (L.take c.toNat))).toArray _ _; rw [← HQ.out]; exact HB.out.1, HB.out.2⟩
end Go.Proofs.YtmgeecdgebemdaaGreatDoor.wrt
