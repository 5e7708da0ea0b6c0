/- Several texts in one: MemP RecQ WtI RecP. -/
import Derived.Test.YtmgeecdgebemdaaGreatDoorGSig21
import Derived.Test.YtmgeecdgebemdaaGreatDoorGSig1
import Derived.Test.YtmgeecdgebemdaaGreatDoorGSig16
import Derived.Test.YtmgeecdgebemdaaGreatDoorGSig25
import Derived.Test.YtmgeecdgebemdaaGreatDoorGSig8
import Derived.Laws.CopyOwn
import Derived.Lib.SliceRun
import Derived.Deep.Onto

/- Chapter 9's MemOk of the program: valid exactly as the model's; nothing that was there is written. -/
namespace Go.Proofs.YtmgeecdgebemdaaGreatDoor.mem
open Go.ChangeShapes Go.WideShapes Go.ChangeAt Go.RowKit Go.Proofs.YtmgeecdgebemdaaGreatDoor.row Go.Proofs.YtmgeecdgebemdaaGreatDoor.val Go.Proofs.YtmgeecdgebemdaaGreatDoor.expr Go.Proofs.YtmgeecdgebemdaaGreatDoor.stm Go.Proofs.YtmgeecdgebemdaaGreatDoor.blk Go.Proofs.YtmgeecdgebemdaaGreatDoor.prg Go.Proofs.YtmgeecdgebemdaaGreatDoor.ctl

/-- The load of a whole array behind a test that holds. -/
theorem wpList_load_row_on {P : Program} {ops : Array Oper} {rest : List Oper} {o : Oper} {a : Act} {w : World} {Q : Exit → Act → World → Prop} (hw : Region.wanted o (yielded ops a.tmps) = true) (ty : TypeId) (x : Operand) (ho : o.op = .load ty x)
    (g : Nat) (hx : a.eval x = .pointer (some ⟨g, 0, none⟩)) (t : TypeId) (cs : Array Value) (fr : Nat × Nat) (d : TypeDesc) (hg : w.heap[g]? = some (.cells cs t fr))
    (hu : P.underlying ty = some d) (hd : (match d with | .struct _ | .array _ _ => true | _ => false) = true) (hi : (P.info? ty).map (·.size) = some cs.size)
    (h : wpList P ops Q rest (a.put o.dst (.agg cs)) w) : wpList P ops Q (o :: rest) a w :=
  wpList_step fun K hK => by
    rw [if_pos hw]
    exact wp_load_row ty x ho g hx t cs fr d hg hu hd hi (hK _ _ h)
set_option maxRecDepth 100000 in
set_option maxHeartbeats 8000000 in
theorem impl_memok8 (a : Option Addr) (n cap : Nat) (P : List Tk) (hz : Sizes P) (hcap : n ≤ cap) (w : World) (h : TkRow w a n P) (ad : Option Addr) (nv cv : Nat) (V : List Int) (hV : Row w ad nv V) (hw : -9223372036854775808 ≤ V.getD 8 0 ∧ V.getD 8 0 ≤ 9223372036854775807) (r : Bool) (hr : r = true ↔ MemIs P V) :
    Calls Tryz.prog 49 #[.agg #[.slice a n cap], .slice ad nv cv] w (BelB w r) := by
  obtain ⟨W, hW⟩ : ∃ W, W = w.alloc (.cells #[.slice a n cap] 26) := ⟨_, rfl⟩
  have hpw : PrgW w W a n cap P := by rw [hW]; exact prgW_new w a n cap P _ h
  have HP := Lib.hid hpw
  have HW := Lib.hid hW.symm
  have HZ := Lib.hid hz
  have HV := Lib.hid (hV.below hpw.2.2.1)
  have hlen := h.1
  have hvl := hV.1
  have hn : (n : Int) ≤ 1048576 := by have := hz.1; omega
  have hwl : w.heap.size < W.heap.size := by rw [hW]; simp
  have c0 : W.cell? ⟨w.heap.size, 0, none⟩ = some (.slice a n cap) := hpw.1
  clear h hz hW hpw hV
  have hsl8 := run_slice_8
  by_cases h49 : nv = 49
  case neg =>
    obtain rfl := not_mem hr (fun hp => h49 (by rw [← hvl]; exact hp.2.1))
    have HI := Lib.hid (mem_info (L := nul 49) (by simp))
    have HL : Hid (∀ cs : Array Value, cs.size = 49 → (ivs (nul 49)).toArray.size = cs.size) := fun cs hc => by rw [hc]; simp [ivs]
    clear hr hlen hvl c0 hw
    go_enter Tryz.func49, Tryz.ntmps49
    go_wp2_with (first
      | (go_at_call 93; rw [HW.out]; (with_reducible refine (impl_memoryof_no _ ad nv cv h49).mono ?_); rintro e w1 ⟨rfl, hb1⟩)
      | (refine wpList_store_box rfl TM _ _ rfl w1.heap.size _ _ (Box.new w1 _ _) (ivs (nul 49)).toArray rfl rfl (HL.out _ rfl) HI.out (mem_all _) ?_; intro w2 hx2 hg2))
    have hb2 : Below W.heap.size W w2 := (below_then hb1 (below_new w1 _)).grown hg2 (show W.heap.size ≤ _ by have := hb1.size; simp; omega) (fun k hk => by cases hk; exact hb1.size)
    go_ret
    exact ⟨rfl, HP.out.2.2.1.trans (hb2.mono (Nat.le_of_lt hwl))⟩
  subst h49
  obtain ⟨b, off, rfl⟩ := row_some HV.out (by decide)
  have HI := Lib.hid (mem_info hvl)
  have HL : Hid (∀ cs : Array Value, cs.size = 49 → (ivs V).toArray.size = cs.size) := fun cs hc => by rw [List.size_toArray, ivs_length, hvl, hc]
  have HLL := Lib.hid hvl
  obtain ⟨rp, hrp⟩ := prg_dec P
  have HRP := Lib.hid hrp
  cases rp
  case false =>
    obtain rfl := not_mem hr (fun hp => by have := hrp.2 hp.1; cases this)
    clear hr hrp hlen hvl hw
    go_enter Tryz.func49, Tryz.ntmps49
    go_wp2_with (first
      | (go_at_call 93; rw [HW.out]; (with_reducible refine (impl_memoryof_yes _ b off cv V HV.out).mono ?_); rintro e w1 ⟨rfl, hb1⟩)
      | (refine wpList_store_box rfl TM _ _ rfl w1.heap.size _ _ (Box.new w1 _ _) (ivs V).toArray rfl rfl (HL.out _ rfl) HI.out (mem_all _) ?_; intro w2 hx2 hg2; refine Hid.out ?_))
    have hb2 : Below W.heap.size W w2 := (below_then hb1 (below_new w1 _)).grown hg2 (show W.heap.size ≤ _ by have := hb1.size; simp; omega) (fun k hk => by cases hk; exact hb1.size)
    have HT2 := Lib.hid (HP.out.2.1.below hb2)
    have HX2 := Lib.hid hx2
    have d0 : w2.cell? ⟨w.heap.size, 0, none⟩ = some (.slice a n cap) := (hb2.cell (p := ⟨w.heap.size, 0, none⟩) hwl).trans c0
    have HB2 := Lib.hid hb2
    have l2 : w.heap.size < w2.heap.size := Nat.lt_of_lt_of_le hwl hb2.size
    clear hb1 hg2 hb2 hx2
    refine Lib.hid ?_
    go_wp2_with (go_at_call 106; (with_reducible refine (impl_programok a n cap P HZ.out hcap _ HT2.out false HRP.out).mono ?_); rintro e w3 ⟨rfl, hb3⟩)
    go_ret
    exact ⟨rfl, HP.out.2.2.1.trans ((HB2.out.trans (hb3.mono HB2.out.size)).mono (Nat.le_of_lt hwl))⟩

  have HPR := Lib.hid (hrp.1 rfl)
  clear hrp
  obtain ⟨x, hx⟩ : ∃ x, V.getD 8 0 = x := ⟨_, rfl⟩
  have hxw : -9223372036854775808 ≤ x ∧ x ≤ 9223372036854775807 := by rw [← hx]; exact hw
  have HX := Lib.hid hx
  clear hx hw
  cases ho : wOk x
  case false =>
    obtain rfl := not_mem hr (fun hp => by have := hp.2.2.1; rw [HX.out, ho] at this; cases this)
    have HU := Lib.hid (un_no ho)
    have HIN := Lib.hid (show false = (decide (0 ≤ (-1 : Int)) && decide ((-1 : Int) < (n : Int))) by simp)
    clear hr hlen hvl ho
    go_enter Tryz.func49, Tryz.ntmps49
    go_wp2_with (first
      | (go_at_call 93; rw [HW.out]; (with_reducible refine (impl_memoryof_yes _ b off cv V HV.out).mono ?_); rintro e w1 ⟨rfl, hb1⟩)
      | (refine wpList_store_box rfl TM _ _ rfl w1.heap.size _ _ (Box.new w1 _ _) (ivs V).toArray rfl rfl (HL.out _ rfl) HI.out (mem_all _) ?_; intro w2 hx2 hg2; refine Hid.out ?_))
    have hb2 : Below W.heap.size W w2 := (below_then hb1 (below_new w1 _)).grown hg2 (show W.heap.size ≤ _ by have := hb1.size; simp; omega) (fun k hk => by cases hk; exact hb1.size)
    have HT2 := Lib.hid (HP.out.2.1.below hb2)
    have HX2 := Lib.hid hx2
    have d0 : w2.cell? ⟨w.heap.size, 0, none⟩ = some (.slice a n cap) := (hb2.cell (p := ⟨w.heap.size, 0, none⟩) hwl).trans c0
    have HB2 := Lib.hid hb2
    have l2 : w.heap.size < w2.heap.size := Nat.lt_of_lt_of_le hwl hb2.size
    clear hb1 hg2 hb2 hx2
    refine Lib.hid ?_
    go_wp2_with (go_at_call 106; (with_reducible refine (impl_programok a n cap P HZ.out hcap _ HT2.out true ⟨fun _ => HPR.out, fun _ => rfl⟩).mono ?_); rintro e w3 ⟨rfl, hb3⟩; refine Hid.out ?_)
    have HX3 := Lib.hid (HX2.out.below hb3)
    have c8 : w3.cell? ⟨w1.heap.size, 8, none⟩ = some (.int .i64 x) := by rw [← HX.out, HX3.out.cell]; simp [ivs, show 8 < V.length by rw [HLL.out]; decide]
    have e0 : w3.cell? ⟨w.heap.size, 0, none⟩ = some (.slice a n cap) := (hb3.cell (p := ⟨w.heap.size, 0, none⟩) l2).trans d0
    have HB3 := Lib.hid (HB2.out.trans (hb3.mono HB2.out.size))
    clear hb3 d0
    refine Lib.hid ?_
    go_wp2_with (first
      | (go_at_call 36; refine (impl_unpack_is x _ _ _ hxw HU.out _).mono ?_; rintro e w9 ⟨rfl, rfl⟩)
      | (go_at_call 107; (with_reducible refine (impl_istaskof a n cap _ false HIN.out _).mono ?_); rintro e w4 ⟨rfl, hb4⟩))
    go_ret
    exact ⟨rfl, HP.out.2.2.1.trans ((below_then HB3.out hb4).mono (Nat.le_of_lt hwl))⟩

  obtain ⟨t, c, m, ht, hc, hm, hu, e1, e2, e3⟩ := wparts ho
  have HU := Lib.hid hu
  have ht' : (t : Int) ≤ 5 := by omega
  have hc' : (c : Int) ≤ 8 := by omega
  have hm' : (m : Int) ≤ 24 := by omega
  have HM : Hid (MemIs P V ↔ t < n ∧ (V.take 8).all isVal = true ∧ ((V.drop 25).take m).all isVal = true ∧ LogV V c) := by
    show MemIs P V ↔ _
    unfold MemIs
    rw [HX.out, e1, e2, e3, Int.toNat_natCast, Int.toNat_natCast, hlen]
    constructor
    · rintro ⟨_, _, _, q1, q2, q3, q4⟩; exact ⟨by omega, q2, q3, q4⟩
    · rintro ⟨q1, q2, q3, q4⟩; exact ⟨HPR.out, hvl, ho, by omega, q2, q3, q4⟩
  clear hu e1 e2 e3 ho hlen hvl
  by_cases htn : t < n
  case neg =>
    obtain rfl := not_mem hr (fun hp => htn (HM.out.1 hp).1)
    have HIN := Lib.hid (show false = (decide (0 ≤ (t : Int)) && decide ((t : Int) < (n : Int))) by symm; simp; omega)
    clear hr htn
    go_enter Tryz.func49, Tryz.ntmps49
    go_wp2_with (first
      | (go_at_call 93; rw [HW.out]; (with_reducible refine (impl_memoryof_yes _ b off cv V HV.out).mono ?_); rintro e w1 ⟨rfl, hb1⟩)
      | (refine wpList_store_box rfl TM _ _ rfl w1.heap.size _ _ (Box.new w1 _ _) (ivs V).toArray rfl rfl (HL.out _ rfl) HI.out (mem_all _) ?_; intro w2 hx2 hg2; refine Hid.out ?_))
    have hb2 : Below W.heap.size W w2 := (below_then hb1 (below_new w1 _)).grown hg2 (show W.heap.size ≤ _ by have := hb1.size; simp; omega) (fun k hk => by cases hk; exact hb1.size)
    have HT2 := Lib.hid (HP.out.2.1.below hb2)
    have HX2 := Lib.hid hx2
    have d0 : w2.cell? ⟨w.heap.size, 0, none⟩ = some (.slice a n cap) := (hb2.cell (p := ⟨w.heap.size, 0, none⟩) hwl).trans c0
    have HB2 := Lib.hid hb2
    have l2 : w.heap.size < w2.heap.size := Nat.lt_of_lt_of_le hwl hb2.size
    clear hb1 hg2 hb2 hx2
    refine Lib.hid ?_
    go_wp2_with (go_at_call 106; (with_reducible refine (impl_programok a n cap P HZ.out hcap _ HT2.out true ⟨fun _ => HPR.out, fun _ => rfl⟩).mono ?_); rintro e w3 ⟨rfl, hb3⟩; refine Hid.out ?_)
    have HX3 := Lib.hid (HX2.out.below hb3)
    have c8 : w3.cell? ⟨w1.heap.size, 8, none⟩ = some (.int .i64 x) := by rw [← HX.out, HX3.out.cell]; simp [ivs, show 8 < V.length by rw [HLL.out]; decide]
    have e0 : w3.cell? ⟨w.heap.size, 0, none⟩ = some (.slice a n cap) := (hb3.cell (p := ⟨w.heap.size, 0, none⟩) l2).trans d0
    have HB3 := Lib.hid (HB2.out.trans (hb3.mono HB2.out.size))
    clear hb3 d0
    refine Lib.hid ?_
    go_wp2_with (first
      | (go_at_call 36; refine (impl_unpack_is x _ _ _ hxw HU.out _).mono ?_; rintro e w9 ⟨rfl, rfl⟩)
      | (go_at_call 107; (with_reducible refine (impl_istaskof a n cap _ false HIN.out _).mono ?_); rintro e w4 ⟨rfl, hb4⟩))
    go_ret
    exact ⟨rfl, HP.out.2.2.1.trans ((below_then HB3.out hb4).mono (Nat.le_of_lt hwl))⟩

  have HIN := Lib.hid (show true = (decide (0 ≤ (t : Int)) && decide ((t : Int) < (n : Int))) by symm; simp; omega)
  cases h8 : (V.take 8).all isVal
  case false =>
    obtain rfl := not_mem hr (fun hp => by have := (HM.out.1 hp).2.1; rw [h8] at this; cases this)
    have HA8 := Lib.hid (show varsOk (V.take 8) = false by rw [← Bool.not_eq_true, varsOk_iff]; rintro ⟨_, q⟩; rw [List.all_eq_true.2 q] at h8; cases h8)
    clear hr h8 htn
    go_enter Tryz.func49, Tryz.ntmps49
    go_wp2_with (first
      | (go_at_call 93; rw [HW.out]; (with_reducible refine (impl_memoryof_yes _ b off cv V HV.out).mono ?_); rintro e w1 ⟨rfl, hb1⟩)
      | (refine wpList_store_box rfl TM _ _ rfl w1.heap.size _ _ (Box.new w1 _ _) (ivs V).toArray rfl rfl (HL.out _ rfl) HI.out (mem_all _) ?_; intro w2 hx2 hg2; refine Hid.out ?_))
    have hb2 : Below W.heap.size W w2 := (below_then hb1 (below_new w1 _)).grown hg2 (show W.heap.size ≤ _ by have := hb1.size; simp; omega) (fun k hk => by cases hk; exact hb1.size)
    have HT2 := Lib.hid (HP.out.2.1.below hb2)
    have HX2 := Lib.hid hx2
    have d0 : w2.cell? ⟨w.heap.size, 0, none⟩ = some (.slice a n cap) := (hb2.cell (p := ⟨w.heap.size, 0, none⟩) hwl).trans c0
    have HB2 := Lib.hid hb2
    have l2 : w.heap.size < w2.heap.size := Nat.lt_of_lt_of_le hwl hb2.size
    clear hb1 hg2 hb2 hx2
    refine Lib.hid ?_
    go_wp2_with (go_at_call 106; (with_reducible refine (impl_programok a n cap P HZ.out hcap _ HT2.out true ⟨fun _ => HPR.out, fun _ => rfl⟩).mono ?_); rintro e w3 ⟨rfl, hb3⟩; refine Hid.out ?_)
    have HX3 := Lib.hid (HX2.out.below hb3)
    have c8 : w3.cell? ⟨w1.heap.size, 8, none⟩ = some (.int .i64 x) := by rw [← HX.out, HX3.out.cell]; simp [ivs, show 8 < V.length by rw [HLL.out]; decide]
    have e0 : w3.cell? ⟨w.heap.size, 0, none⟩ = some (.slice a n cap) := (hb3.cell (p := ⟨w.heap.size, 0, none⟩) l2).trans d0
    have HB3 := Lib.hid (HB2.out.trans (hb3.mono HB2.out.size))
    clear hb3 d0
    refine Lib.hid ?_
    go_wp2_with (first
      | (go_at_call 36; refine (impl_unpack_is x _ _ _ hxw HU.out _).mono ?_; rintro e w9 ⟨rfl, rfl⟩)
      | (go_at_call 107; (with_reducible refine (impl_istaskof a n cap _ true HIN.out _).mono ?_); rintro e w4 ⟨rfl, hb4⟩; refine Hid.out ?_))
    have HX4 := Lib.hid (HX3.out.below hb4)
    have HB4 := Lib.hid (below_then HB3.out hb4)
    clear hb4 c8 e0
    refine Lib.hid ?_
    go_wp2_with (go_at_call 108; (with_reducible refine (impl_vars _ (some ⟨w1.heap.size, 0, none⟩) 8 49 (V.take 8) (by omega) (by simpa using row_box (o := 0) (n := 8) HX4.out (by rw [HLL.out]; decide)) false HA8.out).mono ?_); rintro e w9 ⟨rfl, rfl⟩)
    go_ret
    exact ⟨rfl, HP.out.2.2.1.trans ((HB4.out).mono (Nat.le_of_lt hwl))⟩

  have HA8 := Lib.hid (show varsOk (V.take 8) = true from (varsOk_iff _).2 ⟨by rw [List.length_take, HLL.out]; rfl, List.all_eq_true.1 h8⟩)
  cases hmv : ((V.drop 25).take m).all isVal
  case false =>
    obtain rfl := not_mem hr (fun hp => by have := (HM.out.1 hp).2.2.1; rw [hmv] at this; cases this)
    have HAM := Lib.hid hmv
    clear hr h8 hmv htn
    go_enter Tryz.func49, Tryz.ntmps49
    go_wp2_with (first
      | (go_at_call 93; rw [HW.out]; (with_reducible refine (impl_memoryof_yes _ b off cv V HV.out).mono ?_); rintro e w1 ⟨rfl, hb1⟩)
      | (refine wpList_store_box rfl TM _ _ rfl w1.heap.size _ _ (Box.new w1 _ _) (ivs V).toArray rfl rfl (HL.out _ rfl) HI.out (mem_all _) ?_; intro w2 hx2 hg2; refine Hid.out ?_))
    have hb2 : Below W.heap.size W w2 := (below_then hb1 (below_new w1 _)).grown hg2 (show W.heap.size ≤ _ by have := hb1.size; simp; omega) (fun k hk => by cases hk; exact hb1.size)
    have HT2 := Lib.hid (HP.out.2.1.below hb2)
    have HX2 := Lib.hid hx2
    have d0 : w2.cell? ⟨w.heap.size, 0, none⟩ = some (.slice a n cap) := (hb2.cell (p := ⟨w.heap.size, 0, none⟩) hwl).trans c0
    have HB2 := Lib.hid hb2
    have l2 : w.heap.size < w2.heap.size := Nat.lt_of_lt_of_le hwl hb2.size
    clear hb1 hg2 hb2 hx2
    refine Lib.hid ?_
    go_wp2_with (go_at_call 106; (with_reducible refine (impl_programok a n cap P HZ.out hcap _ HT2.out true ⟨fun _ => HPR.out, fun _ => rfl⟩).mono ?_); rintro e w3 ⟨rfl, hb3⟩; refine Hid.out ?_)
    have HX3 := Lib.hid (HX2.out.below hb3)
    have c8 : w3.cell? ⟨w1.heap.size, 8, none⟩ = some (.int .i64 x) := by rw [← HX.out, HX3.out.cell]; simp [ivs, show 8 < V.length by rw [HLL.out]; decide]
    have e0 : w3.cell? ⟨w.heap.size, 0, none⟩ = some (.slice a n cap) := (hb3.cell (p := ⟨w.heap.size, 0, none⟩) l2).trans d0
    have HB3 := Lib.hid (HB2.out.trans (hb3.mono HB2.out.size))
    clear hb3 d0
    refine Lib.hid ?_
    go_wp2_with (first
      | (go_at_call 36; refine (impl_unpack_is x _ _ _ hxw HU.out _).mono ?_; rintro e w9 ⟨rfl, rfl⟩)
      | (go_at_call 107; (with_reducible refine (impl_istaskof a n cap _ true HIN.out _).mono ?_); rintro e w4 ⟨rfl, hb4⟩; refine Hid.out ?_))
    have HX4 := Lib.hid (HX3.out.below hb4)
    have HB4 := Lib.hid (below_then HB3.out hb4)
    clear hb4 c8 e0
    refine Lib.hid ?_
    go_wp2_with (first
      | (go_at_call 108; (with_reducible refine (impl_vars _ (some ⟨w1.heap.size, 0, none⟩) 8 49 (V.take 8) (by omega) (by simpa using row_box (o := 0) (n := 8) HX4.out (by rw [HLL.out]; decide)) true HA8.out).mono ?_); rintro e w9 ⟨rfl, rfl⟩)
      | (refine wpList_load_row_on (by kernel_rfl) TM _ rfl w1.heap.size rfl _ (ivs V).toArray _ _ HX4.out Tryz.underlying121 rfl HI.out ?_)
      | (go_at_call 94; (with_reducible refine (impl_sent _ V HLL.out m hm).mono ?_); rintro e w5 ⟨ad5, n5, c5, rfl, ho5, hb5⟩; refine Hid.out ?_))
    have hn5 : (n5 : Int) ≤ 24 := by have h1 := own_len ho5; have h2 := List.length_take_le m (V.drop 25); omega
    have HR5 := Lib.hid (Row.of_own ho5)
    have HX5 := Lib.hid (HX4.out.below hb5)
    have HB5 := Lib.hid (below_then HB4.out hb5)
    clear ho5 hb5
    refine Lib.hid ?_
    go_wp2_with (go_at_call 109; (with_reducible refine (impl_are _ ad5 n5 c5 _ (by omega) HR5.out false HAM.out).mono ?_); rintro e w9 ⟨rfl, rfl⟩)
    go_ret
    exact ⟨rfl, HP.out.2.2.1.trans ((HB5.out).mono (Nat.le_of_lt hwl))⟩

  have HAM := Lib.hid hmv
  have HR := Lib.hid (show r = true ↔ LogV V c from hr.trans (HM.out.trans ⟨fun hp => hp.2.2.2, fun hp => ⟨htn, h8, hmv, hp⟩⟩))
  clear hr h8 hmv htn
  go_enter Tryz.func49, Tryz.ntmps49
  go_wp2_with (first
    | (go_at_call 93; rw [HW.out]; (with_reducible refine (impl_memoryof_yes _ b off cv V HV.out).mono ?_); rintro e w1 ⟨rfl, hb1⟩)
    | (refine wpList_store_box rfl TM _ _ rfl w1.heap.size _ _ (Box.new w1 _ _) (ivs V).toArray rfl rfl (HL.out _ rfl) HI.out (mem_all _) ?_; intro w2 hx2 hg2; refine Hid.out ?_))
  have hb2 : Below W.heap.size W w2 := (below_then hb1 (below_new w1 _)).grown hg2 (show W.heap.size ≤ _ by have := hb1.size; simp; omega) (fun k hk => by cases hk; exact hb1.size)
  have HT2 := Lib.hid (HP.out.2.1.below hb2)
  have HX2 := Lib.hid hx2
  have d0 : w2.cell? ⟨w.heap.size, 0, none⟩ = some (.slice a n cap) := (hb2.cell (p := ⟨w.heap.size, 0, none⟩) hwl).trans c0
  have HB2 := Lib.hid hb2
  have l2 : w.heap.size < w2.heap.size := Nat.lt_of_lt_of_le hwl hb2.size
  clear hb1 hg2 hb2 hx2
  refine Lib.hid ?_
  go_wp2_with (go_at_call 106; (with_reducible refine (impl_programok a n cap P HZ.out hcap _ HT2.out true ⟨fun _ => HPR.out, fun _ => rfl⟩).mono ?_); rintro e w3 ⟨rfl, hb3⟩; refine Hid.out ?_)
  have HX3 := Lib.hid (HX2.out.below hb3)
  have c8 : w3.cell? ⟨w1.heap.size, 8, none⟩ = some (.int .i64 x) := by rw [← HX.out, HX3.out.cell]; simp [ivs, show 8 < V.length by rw [HLL.out]; decide]
  have e0 : w3.cell? ⟨w.heap.size, 0, none⟩ = some (.slice a n cap) := (hb3.cell (p := ⟨w.heap.size, 0, none⟩) l2).trans d0
  have HB3 := Lib.hid (HB2.out.trans (hb3.mono HB2.out.size))
  clear hb3 d0
  refine Lib.hid ?_
  go_wp2_with (first
    | (go_at_call 36; refine (impl_unpack_is x _ _ _ hxw HU.out _).mono ?_; rintro e w9 ⟨rfl, rfl⟩)
    | (go_at_call 107; (with_reducible refine (impl_istaskof a n cap _ true HIN.out _).mono ?_); rintro e w4 ⟨rfl, hb4⟩; refine Hid.out ?_))
  have HX4 := Lib.hid (HX3.out.below hb4)
  have HB4 := Lib.hid (below_then HB3.out hb4)
  clear hb4 c8 e0
  refine Lib.hid ?_
  go_wp2_with (first
    | (go_at_call 108; (with_reducible refine (impl_vars _ (some ⟨w1.heap.size, 0, none⟩) 8 49 (V.take 8) (by omega) (by simpa using row_box (o := 0) (n := 8) HX4.out (by rw [HLL.out]; decide)) true HA8.out).mono ?_); rintro e w9 ⟨rfl, rfl⟩)
    | (refine wpList_load_row_on (by kernel_rfl) TM _ rfl w1.heap.size rfl _ (ivs V).toArray _ _ HX4.out Tryz.underlying121 rfl HI.out ?_)
    | (go_at_call 94; (with_reducible refine (impl_sent _ V HLL.out m hm).mono ?_); rintro e w5 ⟨ad5, n5, c5, rfl, ho5, hb5⟩; refine Hid.out ?_))
  have hn5 : (n5 : Int) ≤ 24 := by have h1 := own_len ho5; have h2 := List.length_take_le m (V.drop 25); omega
  have HR5 := Lib.hid (Row.of_own ho5)
  have HX5 := Lib.hid (HX4.out.below hb5)
  have HB5 := Lib.hid (below_then HB4.out hb5)
  clear ho5 hb5
  refine Lib.hid ?_
  go_wp2_with (first
    | (go_at_call 109; (with_reducible refine (impl_are _ ad5 n5 c5 _ (by omega) HR5.out true HAM.out).mono ?_); rintro e w9 ⟨rfl, rfl⟩)
    | (refine wpList_load_row_on (by kernel_rfl) TM _ rfl w1.heap.size rfl _ (ivs V).toArray _ _ HX5.out Tryz.underlying121 rfl HI.out ?_)
    | (go_at_call 110; (with_reducible refine (impl_logok _ V HLL.out c hc r HR.out).mono ?_); rintro e w6 ⟨rfl, hb6⟩))
  go_ret
  exact ⟨rfl, HP.out.2.2.1.trans ((below_then HB5.out hb6).mono (Nat.le_of_lt hwl))⟩

theorem impl_memok (a : Option Addr) (n cap : Nat) (P : List Tk) (hz : Sizes P) (hcap : n ≤ cap) (w : World) (h : TkRow w a n P) (ad : Option Addr) (nv cv : Nat) (V : List Int) (hV : Row w ad nv V) (hw : ∀ x ∈ V, -9223372036854775808 ≤ x ∧ x ≤ 9223372036854775807) (r : Bool) (hr : r = true ↔ MemIs P V) :
    Calls Tryz.prog 49 #[.agg #[.slice a n cap], .slice ad nv cv] w (BelB w r) := by
  refine impl_memok8 a n cap P hz hcap w h ad nv cv V hV ?_ r hr
  rw [List.getD_eq_getElem?_getD]
  cases hq : V[8]? with
  | none => decide
  | some x => exact hw x (List.mem_of_getElem? hq)
end Go.Proofs.YtmgeecdgebemdaaGreatDoor.mem

/- Chapter 15, plain mathematics: what RecoveryWrites must give. -/
namespace Go.Proofs.YtmgeecdgebemdaaGreatDoor.rcv
open Go Go.Proofs.YtmgeecdgebemdaaGreatDoor.stm Go.Proofs.YtmgeecdgebemdaaGreatDoor.val Go.Proofs.YtmgeecdgebemdaaGreatDoor.wrt Go.Proofs.YtmgeecdgebemdaaGreatDoor.ctl
/-! The recovery. -/
def recEnt (W : List Int) (c : Nat) : List Wt := (List.range c).reverse.map fun i => ⟨W.getD (9 + 2 * i) 0, W.getD (10 + 2 * i) 0⟩
def RecOk (W : List Int) : Prop := W.length = 49 ∧ wOk (W.getD 8 0) = true ∧ 0 < wC (W.getD 8 0) ∧ ∀ i, i < (wC (W.getD 8 0)).toNat → varOk (W.getD (9 + 2 * i) 0) = true
/-- What RecoveryWrites must give. -/
def RecIs (W : List Int) (Q : List Wt) : Prop :=
  (RecOk W ∧ Q = recEnt W (wC (W.getD 8 0)).toNat ++ [⟨8, packV (wT (W.getD 8 0)) 0 (wN (W.getD 8 0))⟩]) ∨ (¬ RecOk W ∧ Q = [])
theorem recIs_ex (W : List Int) : ∃ Q, RecIs W Q := by
  rcases Classical.em (RecOk W) with h | h
  · exact ⟨_, .inl ⟨h, rfl⟩⟩
  · exact ⟨_, .inr ⟨h, rfl⟩⟩
/-- The writes themselves. -/
noncomputable def recW (W : List Int) : List Wt := Classical.choose (recIs_ex W)
theorem recW_is (W : List Int) : RecIs W (recW W) := Classical.choose_spec (recIs_ex W)
theorem RecIs.unique {W : List Int} {Q Q' : List Wt} (h : RecIs W Q) (h' : RecIs W Q') : Q = Q' := by
  rcases h with ⟨h1, rfl⟩ | ⟨h1, rfl⟩ <;> rcases h' with ⟨h2, rfl⟩ | ⟨h2, rfl⟩
  · rfl
  · exact absurd h1 h2
  · exact absurd h2 h1
  · rfl
/-- Writes that put back what was there. -/
theorem put_back (Mem : List Int) : ∀ (K : List Wt) (W : List Int), W.length = 49 → (∀ x ∈ K, ∃ v : Nat, v < 8 ∧ x.p = v ∧ Mem[v]? = some x.v) →
    (putAll W K).length = 49 ∧ (∀ j : Nat, 8 ≤ j → (putAll W K)[j]? = W[j]?) ∧ ∀ j : Nat, (putAll W K)[j]? = Mem[j]? ∨ ((putAll W K)[j]? = W[j]? ∧ ∀ x ∈ K, x.p ≠ j)
  | [], W, hW, _ => ⟨hW, fun _ _ => rfl, fun j => .inr ⟨rfl, fun x hx => by cases hx⟩⟩
  | x :: K, W, hW, h => by
    obtain ⟨v, hv, hx, hm⟩ := h x (by simp)
    have hl : (put1 W x).length = 49 := by rw [put1_len, hW]
    obtain ⟨i1, i2, i3⟩ := put_back Mem K (put1 W x) hl (fun x' hx' => h x' (List.mem_cons_of_mem _ hx'))
    rw [show putAll W (x :: K) = putAll (put1 W x) K from rfl]
    refine ⟨i1, fun j hj => by rw [i2 j hj, put1_other (by rw [hx]; omega)], fun j => ?_⟩
    rcases i3 j with e | ⟨e, e2⟩
    · exact .inl e
    · by_cases hj : j = v
      · subst hj
        left
        rw [e, put1_in hx (by omega), List.getElem?_set_self (by omega), hm]
      · right
        refine ⟨by rw [e, put1_other (by rw [hx]; omega)], fun x' hx' => ?_⟩
        rcases List.mem_cons.1 hx' with rfl | hx'
        · rw [hx]; omega
        · exact e2 x' hx'
/-- The entries from the last one on, the first 'j' of them. -/
def recTop (W : List Int) (c j : Nat) : List Wt := (List.range j).map fun m => ⟨W.getD (9 + 2 * (c - 1 - m)) 0, W.getD (10 + 2 * (c - 1 - m)) 0⟩
theorem recTop_len (W : List Int) (c j : Nat) : (recTop W c j).length = j := by simp [recTop]
theorem recTop_next (W : List Int) {c p : Nat} (h : p < c) : recTop W c (c - p) = recTop W c (c - (p + 1)) ++ [⟨W.getD (9 + 2 * p) 0, W.getD (10 + 2 * p) 0⟩] := by
  unfold recTop
  rw [show c - p = c - (p + 1) + 1 by omega, List.range_succ, List.map_append]
  rw [show c - (p + 1) = c - 1 - p by omega]
  simp [show c - 1 - (c - 1 - p) = p by omega]
theorem recTop_all (W : List Int) (c : Nat) : recTop W c c = recEnt W c := by
  refine List.ext_getElem (by simp [recTop, recEnt]) fun i h1 h2 => ?_
  simp [recTop, recEnt]
theorem RecIs.none {W : List Int} {Q : List Wt} (h : RecIs W Q) (hn : ¬ RecOk W) : Q = [] := by
  rcases h with ⟨h1, _⟩ | ⟨_, h1⟩
  · exact absurd h1 hn
  · exact h1
theorem RecIs.some {W : List Int} {Q : List Wt} (h : RecIs W Q) (hy : RecOk W) : Q = recEnt W (wC (W.getD 8 0)).toNat ++ [⟨8, packV (wT (W.getD 8 0)) 0 (wN (W.getD 8 0))⟩] := by
  rcases h with ⟨_, h1⟩ | ⟨h1, _⟩
  · exact h1
  · exact absurd hy h1
end Go.Proofs.YtmgeecdgebemdaaGreatDoor.rcv

/- Chapter 10 of the program: writes applied to a copy of the memory, the first difference, the places in ascending order; nothing that was there is written. -/
namespace Go.Proofs.YtmgeecdgebemdaaGreatDoor.wrt
open Go Go.ChangeShapes Go.WideShapes Go.ChangeAt Go.RowKit Go.Proofs.YtmgeecdgebemdaaGreatDoor.row Go.Proofs.YtmgeecdgebemdaaGreatDoor.val Go.Proofs.YtmgeecdgebemdaaGreatDoor.expr Go.Proofs.YtmgeecdgebemdaaGreatDoor.grow

theorem row_range {w : World} {b off n : Nat} {L : List Int} (h : Row w (some ⟨b, off, none⟩) n L) : w.rangeAt b off (ivs L) := by
  intro j v hj
  have hjl : j < n := by have := (List.getElem?_eq_some_iff.1 hj).1; rw [ivs_length] at this; have := h.1; omega
  obtain ⟨b', off', x, e, _, hx, hc⟩ := h.2 j hjl
  cases e
  rw [hc]
  simp [ivs, hx] at hj
  rw [hj]
theorem row_some {w : World} {a : Option Addr} {n : Nat} {L : List Int} (h : Row w a n L) (hn : 0 < n) : ∃ b off, a = some ⟨b, off, none⟩ := by
  obtain ⟨b, off, _, e, _⟩ := h.2 0 hn
  exact ⟨b, off, e⟩
theorem ivs_one (L : List Int) : ∀ v ∈ ivs L, v.oneCell' = true := by intro v hv; obtain ⟨x, _, rfl⟩ := List.mem_map.1 hv; rfl
theorem box_row {w : World} {g n : Nat} {L : List Int} {t : TypeId} (h : Box g (ivs L).toArray t w) (hn : L.length = n) : Row w (some ⟨g, 0, none⟩) n L :=
  ⟨hn, fun k hk => ⟨g, 0, L[k]'(by omega), rfl, h.lt, by simp [show k < L.length by omega], by rw [h.cell]; simp [ivs, show k < L.length by omega]⟩⟩
theorem box_own {w : World} {B g n : Nat} {L : List Int} {t : TypeId} (h : Box g (ivs L).toArray t w) (hB : B ≤ g) (hl : L.length = n) (hn : n ≤ maxLen) : w.ownsRow B t 1 (.slice (some ⟨g, 0, none⟩) n n) n (ivs L) :=
  ⟨by simp [ivs, hl], .inr ⟨g, n, (ivs L).toArray, rfl, hB, h, Nat.le_refl _, hn, by simp [ivs, hl], by rw [Nat.mul_one]; exact List.take_of_length_le (by simp [ivs, hl])⟩⟩
/-- A new row of 'n' words in the first new block. -/
def NewAt (w : World) (n : Nat) (L : List Int) (e : Ending) (w' : World) : Prop :=
  ∃ g, e = .returned (.slice (some ⟨g, 0, none⟩) n n) ∧ w.heap.size ≤ g ∧ Box g (ivs L).toArray 3 w' ∧ Below w.heap.size w w'
theorem NewAt.ints {w : World} {n : Nat} {L : List Int} {e : Ending} {w' : World} (h : NewAt w n L e w') (hl : L.length = n) (hn : (n : Int) ≤ 1048576) : NewInts w L e w' := by
  obtain ⟨g, h1, h2, h3, h4⟩ := h
  exact ⟨_, _, _, h1, box_own h3 h2 hl (by unfold maxLen; omega), h4⟩
theorem splice_all {n : Nat} {L : List Int} (hl : L.length = n) : splice (ivs (List.replicate n 0)) 0 (ivs L) = ivs L := by simp [splice, ivs, hl]

set_option maxHeartbeats 1000000 in
set_option maxRecDepth 100000 in
theorem impl_copyof (w : World) (a : Option Addr) (n cap : Nat) (L : List Int) (hn : (n : Int) ≤ 1048576) (h : Row w a n L) :
    Calls Tryz.prog 59 #[.slice a n cap] w (NewAt w n L) := by
  obtain ⟨i0, hi, hz0, hz1, hz2⟩ := info_parts infoInt
  have HL := Lib.hid (show (ivs L).length = Nat.min n n by rw [ivs_length, h.1]; simp)
  have HF := Lib.hid (show 0 + (ivs L).length ≤ (ivs (List.replicate n 0)).length by simp [ivs, h.1])
  have HP : Hid (∀ w' : World, Below w.heap.size w w' → 0 < (ivs L).length → ∃ ad, a = some ad ∧ ∀ j v, (ivs L)[j]? = some v → w'.cell? (ad.add j) = some v) := fun w' hb h0 => by
    obtain ⟨b, off, rfl⟩ := row_some h (by rw [ivs_length, h.1] at h0; exact h0)
    exact ⟨_, rfl, fun j v hj => by rw [Addr.add_mid]; exact row_range (h.below hb) j v hj⟩
  have H1 := Lib.hid (ivs_one L)
  have HS := Lib.hid (splice_all h.1)
  clear h
  go_enter Tryz.func59, Tryz.ntmps59
  go_wp2_with ((refine wpList_make_full _ rfl _ _ 27 rfl w.heap.size 3 i0 _ 1 Tryz.underlying27 hi hz0 hz1 .i64 .i64 _ _ n rfl rfl rfl rfl (by rw [hz2]; omega) (by unfold maxLen; omega) (Nat.le_refl _) ?_); intro w1 hown1 hg1; refine Hid.out ?_)
  rw [made_zeros] at hown1
  have HX := Lib.hid (And.intro (own_box hown1) (below_grown hg1))
  clear hown1 hg1
  refine Lib.hid ?_
  go_wp2_with (refine wpList_copy_splice rfl _ _ 27 27 rfl 3 Tryz.underlying27 (by kernel_rfl) _ _ n n n cap rfl rfl w.heap.size 0 (ivs (List.replicate n 0)) 3 HX.out.1 (ivs L) HL.out (fun h0 => ⟨rfl, HP.out _ HX.out.2 h0⟩) HF.out H1.out w.heap.size w HX.out.2 (Nat.le_refl _) ?_; intro w3 hx3 hb3)
  go_ret
  exact ⟨w.heap.size, rfl, Nat.le_refl _, by have := hx3.out; rw [HS.out] at this; exact this, hb3⟩
set_option maxRecDepth 100000 in
theorem impl_isword (a : Option Addr) (n cap : Nat) (q : Int) (r : Bool) (hr : (decide (0 ≤ q) && decide (q < n)) = r) (w : World) : Calls Tryz.prog 92 #[.slice a n cap, .int .i64 q] w (RetB w r) := by
  subst hr
  by_cases h : 0 ≤ q
  · simp only [h, decide_true, Bool.true_and]
    go_enter Tryz.func92, Tryz.ntmps92
    go_wp2
    go_ret
    exact ⟨rfl, rfl⟩
  · simp only [h, decide_false, Bool.false_and]
    go_enter Tryz.func92, Tryz.ntmps92
    go_wp2
    go_ret
    exact ⟨rfl, rfl⟩
/-- How many of 'n' writes happen. -/
def cntW (c : Int) (n : Nat) : Nat := min c.toNat n
theorem cntW_le (c : Int) (n : Nat) : cntW c n ≤ n := Nat.min_le_right _ _
theorem take_cnt {α : Type} (L : List α) (c : Int) : L.take (cntW c L.length) = L.take c.toNat := by
  unfold cntW
  rcases Nat.le_total c.toNat L.length with h | h
  · rw [Nat.min_eq_left h]
  · rw [Nat.min_eq_right h, List.take_length, List.take_of_length_le h]
theorem impl_cut (c : Int) (n : Nat) (hn : (n : Int) ≤ 1048576) (w : World) : Calls Tryz.prog 91 #[.int .i64 c, .int .i64 0, .int .i64 n] w (Ret w (cntW c n)) := by
  rcases (show c < 0 ∨ (n : Int) < c ∧ 0 ≤ c ∨ (0 ≤ c ∧ c ≤ n) by omega) with h | ⟨h, h2⟩ | ⟨h, h2⟩
  · have HV := Lib.hid (show ((cntW c n : Nat) : Int) = 0 by unfold cntW; omega)
    go_enter Tryz.func91, Tryz.ntmps91
    go_wp2
    go_ret
    exact ⟨ret_i HV.out.symm, rfl⟩
  · have HV := Lib.hid (show ((cntW c n : Nat) : Int) = n by unfold cntW; omega)
    go_enter Tryz.func91, Tryz.ntmps91
    go_wp2
    go_ret
    exact ⟨ret_i HV.out.symm, rfl⟩
  · have HV := Lib.hid (show ((cntW c n : Nat) : Int) = c by unfold cntW; omega)
    go_enter Tryz.func91, Tryz.ntmps91
    go_wp2
    go_ret
    exact ⟨ret_i HV.out.symm, rfl⟩
theorem elemW : Tryz.prog.underlying 63 = some (.slice (Tryz.prog.elem 63)) := by kernel_rfl
theorem sizeW (w : World) : (sizeOf (Tryz.prog.elem 63)).run Tryz.prog w = .ok 2 w := by kernel_rfl
theorem cut_h (a : Option Addr) (n cap q : Nat) (hs : ∀ x, a = some x → x.spot = none) (hc : q ≤ cap) (w : World) : (Instr.sliceAt 63 (.slice a n cap) none (some (.int .i64 q)) none).run Tryz.prog w = .ok (.slice a q cap) w := by
  rw [run_sliceAt_slice w _ _ _ _ _ elemW, Go.run_slice_h w _ _ _ _ elemW _ _ (by omega) (by omega), sizeW]
  simp only [Result.andThen, sliced]
  rw [Nat.sub_zero, show ((q : Int)).toNat = q by omega]
  cases a with
  | none => simp
  | some x =>
    obtain ⟨b, off, spot⟩ := x
    have := hs _ rfl
    simp only at this; subst this
    rw [Nat.zero_mul, Option.map_some, Addr.add_mid, Nat.add_zero, ite_self, Nat.sub_zero]
theorem spot_none {w : World} {a : Option Addr} {n : Nat} {L : List Wt} (h : WriteRow w a n L) (hn : 0 < n) : ∀ x, a = some x → x.spot = none := by
  obtain ⟨b, off, s, rfl, _⟩ := h.2 0 hn
  intro x hx; cases hx; rfl
end Go.Proofs.YtmgeecdgebemdaaGreatDoor.wrt

/- Chapter 15: what the program's RecoveryWrites, Recovered, IsClean and DirtyVars are to give: the shapes of their contracts. -/
namespace Go.Proofs.YtmgeecdgebemdaaGreatDoor.rcv
open Go Go.ChangeShapes Go.WideShapes Go.ChangeAt Go.RowKit Go.Proofs.YtmgeecdgebemdaaGreatDoor.row Go.Proofs.YtmgeecdgebemdaaGreatDoor.val Go.Proofs.YtmgeecdgebemdaaGreatDoor.expr Go.Proofs.YtmgeecdgebemdaaGreatDoor.ctl Go.Proofs.YtmgeecdgebemdaaGreatDoor.grow Go.Proofs.YtmgeecdgebemdaaGreatDoor.wrt
/-- A row of writes in new memory. -/
def NewWs (w : World) (Q : List Wt) (e : Ending) (w' : World) : Prop :=
  ∃ a n c, e = .returned (.slice a n c) ∧ w'.ownsRow w.heap.size 100 2 (.slice a n c) n (writesC Q) ∧ Below w.heap.size w w'
theorem w8_of {L : List Int} (h : ∀ x ∈ L, -9223372036854775808 ≤ x ∧ x ≤ 9223372036854775807) : -9223372036854775808 ≤ L.getD 8 0 ∧ L.getD 8 0 ≤ 9223372036854775807 := by
  rw [List.getD_eq_getElem?_getD]
  cases hq : L[8]? with
  | none => exact ⟨by decide, by decide⟩
  | some x => exact h x (List.mem_of_getElem? hq)
/-- What IsClean must say. -/
def cleanB (L : List Int) : Bool := decide (L.length = 49) && (wOk (L.getD 8 0) && decide (wC (L.getD 8 0) = 0))
abbrev RwC : Prop := ∀ (w : World) (a : Option Addr) (n cap : Nat) (L : List Int) (_ : (n : Int) ≤ 1048576) (_ : n ≤ cap) (_ : Row w a n L) (_ : -9223372036854775808 ≤ L.getD 8 0 ∧ L.getD 8 0 ≤ 9223372036854775807) (Q : List Wt) (_ : RecIs L Q),
    Calls Tryz.prog 57 #[.slice a n cap] w (NewWs w Q)
abbrev RcC : Prop := ∀ (w : World) (a : Option Addr) (n cap : Nat) (L : List Int) (_ : (n : Int) ≤ 1048576) (_ : n ≤ cap) (_ : Row w a n L) (_ : -9223372036854775808 ≤ L.getD 8 0 ∧ L.getD 8 0 ≤ 9223372036854775807) (Q : List Wt) (_ : RecIs L Q),
    Calls Tryz.prog 45 #[.slice a n cap] w (NewInts w (putAll L Q))
abbrev IcC : Prop := ∀ (w : World) (a : Option Addr) (n cap : Nat) (L : List Int) (_ : (n : Int) ≤ 1048576) (_ : n ≤ cap) (_ : Row w a n L) (_ : -9223372036854775808 ≤ L.getD 8 0 ∧ L.getD 8 0 ≤ 9223372036854775807) (r : Bool) (_ : cleanB L = r),
    Calls Tryz.prog 48 #[.slice a n cap] w (BelB w r)
end Go.Proofs.YtmgeecdgebemdaaGreatDoor.rcv
