/- Several texts in one: PrgI MemL MemO. -/
import Derived.Test.YtlicadaecfgklaaGreatDoorGSig5
import Derived.Test.YtlicadaecfgklaaGreatDoorGSig16
import Derived.Test.YtlicadaecfgklaaGreatDoorGSig7
import Derived.Test.YtlicadaecfgklaaGreatDoorGSig15
import Derived.Deep.RegionHeld3

/- Chapter 6's program: taskOk, ProgramOk, NextTask: what the plain relations say; nothing that was there is written. -/
namespace Go.Proofs.YtlicadaecfgklaaGreatDoor.prg
open Go Go.ChangeShapes Go.WideShapes Go.ChangeAt Go.RowKit Go.Proofs.YtlicadaecfgklaaGreatDoor.row Go.Proofs.YtlicadaecfgklaaGreatDoor.val Go.Proofs.YtlicadaecfgklaaGreatDoor.expr Go.Proofs.YtlicadaecfgklaaGreatDoor.stm Go.Proofs.YtlicadaecfgklaaGreatDoor.blk

set_option maxHeartbeats 2000000 in
set_option maxRecDepth 100000 in
theorem impl_taskok (ab : Option Addr) (nb cb : Nat) (t : Tk) (hnb : (nb : Int) ≤ 1048576) (w : World) (h : StRow w ab nb t.b) (r : Bool) (hr : r = true ↔ (IsBlk t.b ∧ exprOk t.o t.x t.y = true)) :
    Calls Tryz.prog 93 #[tkV ab nb cb t] w (BelB w r) := by
  obtain ⟨B, o, x, y⟩ := t
  obtain ⟨W, hW⟩ : ∃ W, W = w.alloc (.cells #[.slice ab nb cb, .int .i64 o, .int .i64 x, .int .i64 y] 74) := ⟨_, rfl⟩
  have hbx : Box w.heap.size #[.slice ab nb cb, .int .i64 o, .int .i64 x, .int .i64 y] 74 W := by rw [hW]; exact Box.new _ _ _
  have hBW : Below w.heap.size w W := by rw [hW]; exact below_new _ _
  have H := Lib.hid (And.intro hBW (h.below hBW))
  have HX := Lib.hid hbx
  have HW := Lib.hid hW.symm
  have c0 : W.cell? ⟨w.heap.size, 0, none⟩ = some (.slice ab nb cb) := hbx.cell 0
  obtain ⟨rb, hrb⟩ := blk_dec B
  have HRB := Lib.hid hrb
  clear h hbx hBW hW
  cases rb
  · have hrf : r = false := by rw [← Bool.not_eq_true]; intro e; have := hrb.2 (hr.1 e).1; cases this
    clear hrb hr
    subst hrf
    go_enter Tryz.func93, Tryz.ntmps93
    go_wp2_with (go_at_call 112; rw [HW.out]; (with_reducible refine (impl_blockok ab nb cb B hnb _ H.out.2 false HRB.out).mono ?_); rintro e w2 ⟨rfl, hb2⟩)
    go_ret
    exact ⟨rfl, below_then H.out.1 hb2⟩
  · have hre : exprOk o x y = r := by
      have h1 := hrb.1 rfl
      cases r
      · rw [← Bool.not_eq_true]; intro e; have := hr.2 ⟨h1, e⟩; cases this
      · exact (hr.1 rfl).2
    have HRE := Lib.hid hre
    clear hrb hr hre
    go_enter Tryz.func93, Tryz.ntmps93
    go_wp2_with (go_at_call 112; rw [HW.out]; (with_reducible refine (impl_blockok ab nb cb B hnb _ H.out.2 true HRB.out).mono ?_); rintro e w2 ⟨rfl, hb2⟩; refine Hid.out ?_)
    have HX2 := Lib.hid (HX.out.below hb2)
    have d1 : w2.cell? ⟨w.heap.size, 1, none⟩ = some (.int .i64 o) := HX2.out.cell 1
    have d2 : w2.cell? ⟨w.heap.size, 2, none⟩ = some (.int .i64 x) := HX2.out.cell 2
    have d3 : w2.cell? ⟨w.heap.size, 3, none⟩ = some (.int .i64 y) := HX2.out.cell 3
    have HB2 := Lib.hid (below_then H.out.1 hb2)
    clear hb2
    refine Lib.hid ?_
    go_wp2_with (go_at_call 134; (with_reducible refine (impl_exprok o x y r HRE.out _).mono ?_); rintro e w3 ⟨rfl, hb3⟩)
    go_ret
    exact ⟨rfl, below_then HB2.out hb3⟩
theorem tsk_dec (t : Tk) : ∃ r : Bool, r = true ↔ (IsBlk t.b ∧ exprOk t.o t.x t.y = true) := by
  rcases Classical.em (IsBlk t.b ∧ exprOk t.o t.x t.y = true) with h | h
  · exact ⟨true, fun _ => h, fun _ => rfl⟩
  · exact ⟨false, fun e => (by cases e), fun e => absurd e h⟩
set_option maxHeartbeats 4000000 in
set_option maxRecDepth 100000 in
theorem impl_programok (a : Option Addr) (n cap : Nat) (P : List Tk) (hz : Sizes P) (hcap : n ≤ cap) (w : World) (h : TkRow w a n P) (r : Bool) (hr : r = true ↔ IsPrg P) :
    Calls Tryz.prog 63 #[.agg #[.slice a n cap]] w (BelB w r) := by
  obtain ⟨W, hW⟩ : ∃ W, W = w.alloc (.cells #[.slice a n cap] 26) := ⟨_, rfl⟩
  have hpw : PrgW w W a n cap P := by rw [hW]; exact prgW_new w a n cap P _ h
  have c0 : W.cell? ⟨w.heap.size, 0, none⟩ = some (.slice a n cap) := hpw.1
  have HP := Lib.hid hpw
  have HW := Lib.hid hW.symm
  have HR := Lib.hid hr
  have HZ := Lib.hid hz
  have hlen := h.1
  have hn : (n : Int) ≤ 1048576 := by have := hz.1; omega
  have hwl : w.heap.size < W.heap.size := by rw [hW]; simp
  clear hpw
  by_cases h0 : n = 0
  · have hrf : r = false := by rw [← Bool.not_eq_true]; intro e; have := (hr.1 e).1; omega
    have hq : ((n : Int) == 0) = true := by rw [h0]; rfl
    clear h hr hz hW hlen h0
    subst hrf
    go_enter Tryz.func63, Tryz.ntmps63
    go_wp2
    rw [HW.out]
    go_wp2
    go_ret
    exact ⟨rfl, HP.out.2.2.1⟩
  · have hq : ((n : Int) == 0) = false := by rw [beq_eq_false_iff_ne]; omega
    by_cases h6 : (6 : Int) < n
    · have hrf : r = false := by rw [← Bool.not_eq_true]; intro e; have := (hr.1 e).2.1; omega
      clear h hr hz hW hlen h0
      subst hrf
      go_enter Tryz.func63, Tryz.ntmps63
      go_wp2
      rw [HW.out]
      go_wp2
      go_ret
      exact ⟨rfl, HP.out.2.2.1⟩
    · have HLN := Lib.hid hlen
      have H06 := Lib.hid (And.intro h0 h6)
      clear h hr hz hW hlen h0
      go_enter Tryz.func63, Tryz.ntmps63
      go_wp2
      rw [HW.out]
      go_wp2
      go_loopw [18] (fun i wr => ∃ k : Nat, k ≤ n ∧ i = .int .i64 k ∧ Hid (OkTasks P k) ∧ Below W.heap.size W wr) (fun i _ => n - (intOf i).toNat)
      case atStart => exact ⟨0, Nat.zero_le _, rfl, OkTasks.zero P, Below.refl _ _⟩
      case round =>
        obtain ⟨k, hk, rfl, hO, hbel⟩ := hrel
        by_cases hlt : k < n
        · obtain ⟨g, off, t, rfl, hlb, ht, ab, nb, cb, hrg, hbc, hrow⟩ := (HP.out.2.1.below hbel).2 k hlt
          have hI : (k : Int) < n := by omega
          have hnb : (nb : Int) ≤ 1048576 := by have := HZ.out.2 t (mem_at ht); rw [hrow.1] at this; omega
          have HT := Lib.hid (And.intro ht (And.intro hrow (And.intro hbel hrg)))
          have HX := Lib.hid (And.intro (Box.new wr zeroTk 74) ((Below.refl wr.heap.size wr).alloc (Nat.le_refl _) (.cells zeroTk 74)))
          obtain ⟨rb, hrb⟩ := tsk_dec t
          have HRB := Lib.hid hrb
          have hwl2 := Nat.lt_of_lt_of_le hwl hbel.size
          clear ht hrow hrg hbel
          go_wp2_with (first
            | (refine wpList_load_mid rfl 74 _ rfl g (off + k * 4) rfl (tkC ab nb cb t) _ HT.out.2.2.2 Tryz.underlying74 rfl (by kernel_rfl) ?_)
            | ((refine wpList_store_box rfl 74 _ _ rfl wr.heap.size _ _ HX.out.1 #[.slice ab nb cb, .int .i64 t.o, .int .i64 t.x, .int .i64 t.y] rfl rfl rfl (by kernel_rfl) (by simp [Value.oneCell']) ?_); intro w1 hx1 hg1; refine Hid.out ?_))
          have H1 := Lib.hid (And.intro hx1 (HX.out.2.grown hg1 HX.out.2.size (fun j hj => by cases hj; exact Nat.le_refl _)))
          clear hx1 hg1
          refine Lib.hid ?_
          cases rb
          · have hrf : r = false := by
              rw [← Bool.not_eq_true]; intro e
              have := hrb.2 ((HR.out.1 e).2.2 t (mem_at HT.out.1)); cases this
            clear hrb
            subst hrf
            go_wp2_with (first
              | (refine wpList_load_row rfl 74 _ rfl wr.heap.size rfl _ _ _ _ H1.out.1 Tryz.underlying74 rfl (by kernel_rfl) ?_)
              | (go_at_call 93; (with_reducible refine (impl_taskok ab nb cb t hnb _ (HT.out.2.1.below H1.out.2) false HRB.out).mono ?_); rintro e w2 ⟨rfl, hb2⟩))
            go_ret
            exact ⟨rfl, HP.out.2.2.1.trans ((below_then HT.out.2.2.1 (below_then H1.out.2 hb2)).mono (Nat.le_of_lt hwl))⟩
          · have HBK := Lib.hid (hrb.1 rfl)
            clear hrb
            go_wp2_with (first
              | (refine wpList_load_row rfl 74 _ rfl wr.heap.size rfl _ _ _ _ H1.out.1 Tryz.underlying74 rfl (by kernel_rfl) ?_)
              | (go_at_call 93; (with_reducible refine (impl_taskok ab nb cb t hnb _ (HT.out.2.1.below H1.out.2) true HRB.out).mono ?_); rintro e w2 ⟨rfl, hb2⟩; refine Hid.out ?_))
            have HB2 := Lib.hid (below_then HT.out.2.2.1 (below_then H1.out.2 hb2))
            clear hb2
            refine Lib.hid ?_
            go_wp2
            go_roundw
            case rel => exact ⟨k + 1, by omega, by go_num, hO.out.next HT.out.1 HBK.out.1 HBK.out.2, HB2.out⟩
            case measure => simp [intOf]; omega
        · obtain rfl : k = n := by omega
          have hI : ¬ (k : Int) < k := by omega
          have hrt : r = true := HR.out.2 (isPrg_iff.2 ⟨by rw [HLN.out]; have := H06.out; omega, by rw [HLN.out]; exact hO.out⟩)
          have HBB := Lib.hid hbel
          clear hbel
          subst hrt
          go_wp2
          go_ret
          exact ⟨rfl, HP.out.2.2.1.trans (HBB.out.mono (Nat.le_of_lt hwl))⟩
theorem nx_twice {v : Int} {n : Nat} (hn : 0 < n) : (v.tmod n + n).tmod n = nx v n := by
  have h := tmod_bds (v := v) hn
  unfold nx
  split
  · rw [Int.tmod_eq_of_lt (by omega) (by omega)]
  · rw [Int.tmod_eq_emod_of_nonneg (by omega), Int.add_emod_right, Int.emod_eq_of_lt (by omega) (by omega)]
theorem impl_modulo (v : Int) (n : Nat) (hn : 0 < n) (h6 : n ≤ 6) (w : World) : Calls Tryz.prog 106 #[.int .i64 v, .int .i64 n] w (Ret w (nx v n)) := by
  have h := tmod_bds (v := v) hn
  have HX := Lib.hid (nx_twice (v := v) hn)
  have HX2 := Lib.hid (show (v.tmod n + n) % (n : Int) = nx v n by rw [← Int.tmod_eq_emod_of_nonneg (by omega)]; exact HX.out)
  have hr := nx_range (v := v) hn
  have hnz : (n == 0) = false := by rw [beq_eq_false_iff_ne]; omega
  have hnz2 : ¬ n = 0 := by omega
  have hnz3 : ((n : Int) == 0) = false := by rw [beq_eq_false_iff_ne]; omega
  have hw1 : IntKind.i64.wrap (v.tmod n) = v.tmod n := IntWalk.i64_in _ (by omega)
  have hw2 : IntKind.i64.wrap ((v.tmod n + n).tmod n) = (v.tmod n + n).tmod n := IntWalk.i64_in _ (by rw [HX.out]; omega)
  have ha := h.1
  have hb := h.2
  clear h hr
  go_enter Tryz.func106, Tryz.ntmps106
  go_wp2
  go_ret
  exact ⟨by rw [← HX2.out]; rfl, rfl⟩
theorem impl_istaskof (a : Option Addr) (n cap : Nat) (i : Int) (r : Bool) (hr : r = (decide (0 ≤ i) && decide (i < n))) (w : World) : Calls Tryz.prog 64 #[.agg #[.slice a n cap], .int .i64 i] w (BelB w r) := by
  have c0 : (w.alloc (.cells #[.slice a n cap] 26)).cell? ⟨w.heap.size, 0, none⟩ = some (.slice a n cap) := (Box.new w #[.slice a n cap] _).cell 0
  by_cases h0 : 0 ≤ i
  · by_cases h1 : i < n
    · have HR := Lib.hid (show r = true by rw [hr]; simp [h0, h1])
      clear hr
      go_enter Tryz.func64, Tryz.ntmps64
      go_wp2
      go_ret
      exact ⟨by rw [HR.out]; rfl, below_new _ _⟩
    · have HR := Lib.hid (show r = false by rw [hr]; simp [h0]; omega)
      clear hr
      go_enter Tryz.func64, Tryz.ntmps64
      go_wp2
      go_ret
      exact ⟨by rw [HR.out]; rfl, below_new _ _⟩
  · have HR := Lib.hid (show r = false by rw [hr]; simp [h0])
    clear hr
    go_enter Tryz.func64, Tryz.ntmps64
    go_wp2
    go_ret
    exact ⟨by rw [HR.out]; rfl, below_new _ _⟩
/-- The arguments can be executed. -/
def CanRun (P : List Tk) (V : List Int) (i : Int) : Prop := IsPrg P ∧ varsOk V = true ∧ 0 ≤ i ∧ i < P.length
set_option maxHeartbeats 4000000 in
set_option maxRecDepth 100000 in
theorem impl_can (a : Option Addr) (n cap : Nat) (P : List Tk) (hz : Sizes P) (hcap : n ≤ cap) (w : World) (h : TkRow w a n P) (ad : Option Addr) (nv cv : Nat) (V : List Int) (hnv : (nv : Int) ≤ 1048576) (hV : Row w ad nv V) (i : Int) (r : Bool) (hr : r = true ↔ CanRun P V i) :
    Calls Tryz.prog 105 #[.agg #[.slice a n cap], .int .i64 i, .slice ad nv cv] w (BelB w r) := by
  obtain ⟨W, hW⟩ : ∃ W, W = w.alloc (.cells #[.slice a n cap] 26) := ⟨_, rfl⟩
  have hpw : PrgW w W a n cap P := by rw [hW]; exact prgW_new w a n cap P _ h
  have HP := Lib.hid hpw
  have HW := Lib.hid hW.symm
  have HZ := Lib.hid hz
  have HV := Lib.hid (hV.below hpw.2.2.1)
  have hlen := h.1
  have hn : (n : Int) ≤ 1048576 := by have := hz.1; omega
  have hwl : w.heap.size < W.heap.size := by rw [hW]; simp
  clear h hz hW hpw hV
  have c0 : W.cell? ⟨w.heap.size, 0, none⟩ = some (.slice a n cap) := HP.out.1
  obtain ⟨rp, hrp⟩ := prg_dec P
  have HRP := Lib.hid hrp
  cases rp
  · obtain rfl : r = false := by
      rw [← Bool.not_eq_true]; intro e
      have := hrp.2 (hr.1 e).1; cases this
    clear hr hrp hlen
    go_enter Tryz.func105, Tryz.ntmps105
    go_wp2_with (go_at_call 63; rw [HW.out]; (with_reducible refine (impl_programok a n cap P HZ.out hcap _ HP.out.2.1 false HRP.out).mono ?_); rintro e w2 ⟨rfl, hb2⟩)
    go_ret
    exact ⟨rfl, HP.out.2.2.1.trans (hb2.mono (Nat.le_of_lt hwl))⟩
  · have HPR := Lib.hid (hrp.1 rfl)
    clear hrp
    cases hv : varsOk V
    · obtain rfl : r = false := by
        rw [← Bool.not_eq_true]; intro e
        have := (hr.1 e).2.1; rw [hv] at this; cases this
      have HVF := Lib.hid hv
      clear hr hlen hv
      go_enter Tryz.func105, Tryz.ntmps105
      go_wp2_with (first
        | (go_at_call 63; rw [HW.out]; (with_reducible refine (impl_programok a n cap P HZ.out hcap _ HP.out.2.1 true HRP.out).mono ?_); rintro e w2 ⟨rfl, hb2⟩; refine Hid.out ?_))
      have d0 : w2.cell? ⟨w.heap.size, 0, none⟩ = some (.slice a n cap) := (hb2.cell (p := ⟨w.heap.size, 0, none⟩) hwl).trans c0
      have HB2 := Lib.hid hb2
      clear hb2
      refine Lib.hid ?_
      go_wp2_with (first
        | (go_at_call 65; refine (impl_vars _ ad nv cv V hnv (HV.out.below HB2.out) false HVF.out).mono ?_; rintro e w3 ⟨rfl, rfl⟩))
      go_ret
      exact ⟨rfl, HP.out.2.2.1.trans (HB2.out.mono (Nat.le_of_lt hwl))⟩
    · have HVT := Lib.hid hv
      obtain ⟨q, hq⟩ : ∃ q, q = (decide (0 ≤ i) && decide (i < (n : Int))) := ⟨_, rfl⟩
      obtain rfl : r = q := by
        rw [Bool.eq_iff_iff, hr, hq]
        simp only [CanRun, hlen, Bool.and_eq_true, decide_eq_true_eq]
        exact ⟨fun h => h.2.2, fun h => ⟨HPR.out, hv, h⟩⟩
      have HIN := Lib.hid hq
      clear hr hlen hv hq
      go_enter Tryz.func105, Tryz.ntmps105
      go_wp2_with (first
        | (go_at_call 63; rw [HW.out]; (with_reducible refine (impl_programok a n cap P HZ.out hcap _ HP.out.2.1 true HRP.out).mono ?_); rintro e w2 ⟨rfl, hb2⟩; refine Hid.out ?_))
      have d0 : w2.cell? ⟨w.heap.size, 0, none⟩ = some (.slice a n cap) := (hb2.cell (p := ⟨w.heap.size, 0, none⟩) hwl).trans c0
      have HB2 := Lib.hid hb2
      clear hb2
      refine Lib.hid ?_
      go_wp2_with (first
        | (go_at_call 65; refine (impl_vars _ ad nv cv V hnv (HV.out.below HB2.out) true HVT.out).mono ?_; rintro e w3 ⟨rfl, rfl⟩)
        | (go_at_call 64; (with_reducible refine (impl_istaskof a n cap _ r HIN.out _).mono ?_); rintro e w3 ⟨rfl, hb3⟩))
      go_ret
      exact ⟨rfl, HP.out.2.2.1.trans ((below_then HB2.out hb3).mono (Nat.le_of_lt hwl))⟩
theorem can_next {P : List Tk} {V : List Int} {i : Int} (h : ¬ CanRun P V i) : ¬ IsPrg P ∨ varsOk V = false ∨ i < 0 ∨ (P.length : Int) ≤ i := by
  rcases Classical.em (IsPrg P) with h1 | h1
  · cases h2 : varsOk V
    · exact .inr (.inl rfl)
    · right; right
      rcases (show i < 0 ∨ (P.length : Int) ≤ i ∨ (0 ≤ i ∧ i < P.length) by omega) with h3 | h3 | h3
      · exact .inl h3
      · exact .inr h3
      · exact absurd ⟨h1, h2, h3⟩ h
  · exact .inl h1
theorem can_dec (P : List Tk) (V : List Int) (i : Int) : ∃ r : Bool, r = true ↔ CanRun P V i := by
  rcases Classical.em (CanRun P V i) with h | h
  · exact ⟨true, by simp [h]⟩
  · exact ⟨false, by simp [h]⟩
set_option maxHeartbeats 4000000 in
set_option maxRecDepth 100000 in
theorem impl_nexttask (a : Option Addr) (n cap : Nat) (P : List Tk) (hz : Sizes P) (hcap : n ≤ cap) (w : World) (h : TkRow w a n P) (ad : Option Addr) (nv cv : Nat) (V : List Int) (hnv : (nv : Int) ≤ 1048576) (hV : Row w ad nv V) (i X : Int) (hX : NextIs P V i X) :
    Calls Tryz.prog 53 #[.agg #[.slice a n cap], .slice ad nv cv, .int .i64 i] w (BelI w X) := by
  obtain ⟨W, hW⟩ : ∃ W, W = w.alloc (.cells #[.slice a n cap] 26) := ⟨_, rfl⟩
  have hpw : PrgW w W a n cap P := by rw [hW]; exact prgW_new w a n cap P _ h
  have HP := Lib.hid hpw
  have HW := Lib.hid hW.symm
  have HZ := Lib.hid hz
  have HV := Lib.hid (hV.below hpw.2.2.1)
  have hlen := h.1
  have hn : (n : Int) ≤ 1048576 := by have := hz.1; omega
  have hwl : w.heap.size < W.heap.size := by rw [hW]; simp
  clear h hz hW hpw hV
  have c0 : W.cell? ⟨w.heap.size, 0, none⟩ = some (.slice a n cap) := HP.out.1
  obtain ⟨rc, hrc⟩ := can_dec P V i
  have HRC := Lib.hid hrc
  cases rc
  · obtain rfl := hX.not (by
      rcases can_next (show ¬ CanRun P V i from fun h => by have := hrc.2 h; cases this) with h | h | h | h
      · exact .inl h
      · exact .inr (.inl h)
      · exact .inr (.inr (.inl h))
      · exact .inr (.inr (.inr h)))
    clear hX hrc hlen
    go_enter Tryz.func53, Tryz.ntmps53
    go_wp2_with (go_at_call 105; rw [HW.out]; (with_reducible refine (impl_can a n cap P HZ.out hcap _ HP.out.2.1 ad nv cv V hnv HV.out i false HRC.out).mono ?_); rintro e w2 ⟨rfl, hb2⟩)
    go_ret
    exact ⟨rfl, HP.out.2.2.1.trans (hb2.mono (Nat.le_of_lt hwl))⟩
  · have hcan := hrc.1 rfl
    have HPR := Lib.hid hcan.1
    have hv := hcan.2.1
    have h0 := hcan.2.2.1
    have h1 := hcan.2.2.2
    rw [hlen] at h1
    clear hrc hcan
    obtain ⟨j, rfl⟩ : ∃ j : Nat, i = j := ⟨i.toNat, by omega⟩
    obtain ⟨t, ht⟩ := prg_at (show j < P.length by omega)
    have hXe := hX.yes HPR.out hv ht
    rw [hlen] at hXe
    have hjn : j < n := by omega
    have hn6 : n ≤ 6 := by have := HPR.out.2.1; omega
    have hn0 : 0 < n := by omega
    have HTK := Lib.hid (And.intro ht (HPR.out.2.2 t (mem_at ht)).2)
    have HXE := Lib.hid hXe
    clear hX hv hXe ht
    go_enter Tryz.func53, Tryz.ntmps53
    go_wp2_with (first
      | (go_at_call 105; rw [HW.out]; (with_reducible refine (impl_can a n cap P HZ.out hcap _ HP.out.2.1 ad nv cv V hnv HV.out j true HRC.out).mono ?_); rintro e w3 ⟨rfl, hb3⟩; refine Hid.out ?_))
    have HB3 := Lib.hid hb3
    have HV3 := Lib.hid (HV.out.below HB3.out)
    obtain ⟨g, off, t', ha, hlb, ht', ab, nb, cb, hrg, hbc, hrow⟩ := (HP.out.2.1.below HB3.out).2 j hjn
    obtain rfl : t' = t := by have := HTK.out.1; rw [ht'] at this; exact (Option.some.inj this)
    subst ha
    have e0 : w3.cell? ⟨w.heap.size, 0, none⟩ = some (.slice (some ⟨g, off, none⟩) n cap) := (HB3.out.cell (p := ⟨w.heap.size, 0, none⟩) hwl).trans c0
    have hwl3 := Nat.lt_of_lt_of_le hwl HB3.out.size
    have q := range4 hrg
    have e0' : w3.drew.cell? ⟨w.heap.size, 0, none⟩ = some (.slice (some ⟨g, off, none⟩) n cap) := e0
    have q1 : w3.drew.cell? ⟨g, off + j * 4 + 1, none⟩ = some (.int .i64 t'.o) := q.2.1
    have q2 : w3.drew.cell? ⟨g, off + j * 4 + 2, none⟩ = some (.int .i64 t'.x) := q.2.2.1
    have q3 : w3.drew.cell? ⟨g, off + j * 4 + 3, none⟩ = some (.int .i64 t'.y) := q.2.2.2
    have hI : (j : Int) < n := by omega
    obtain ⟨v, hvv⟩ : ∃ v, evalV V t'.o t'.x t'.y = v := ⟨_, rfl⟩
    have HEV := Lib.hid (show ∀ w', Row w' ad nv V → Calls Tryz.prog 107 #[.slice ad nv cv, ev t'.o t'.x t'.y] w' (BelI w' v) from fun w' hr => by have h9 := impl_evalExpr w' ad nv cv V hnv hr t'.o t'.x t'.y; rw [hvv] at h9; exact h9)
    rw [hvv] at HXE
    clear hb3 q hrg hrow hbc ht' hvv
    refine Lib.hid ?_
    go_wp2
    go_region_held3 (fun w' => w'.cell? ⟨w.heap.size, 0, none⟩ = some (.slice (some ⟨g, off, none⟩) n cap) ∧ w'.cell? ⟨g, off + j * 4 + 1, none⟩ = some (.int .i64 t'.o) ∧ w'.cell? ⟨g, off + j * 4 + 2, none⟩ = some (.int .i64 t'.x) ∧ w'.cell? ⟨g, off + j * 4 + 3, none⟩ = some (.int .i64 t'.y))
      (first | (exact ⟨e0', q1, q2, q3⟩) | (exact ⟨(drew_below hb4).cell (p := ⟨w.heap.size, 0, none⟩) hwl3 |>.trans e0, (drew_below hb4).cell (p := ⟨g, off + j * 4 + 1, none⟩) hlb |>.trans q1, (drew_below hb4).cell (p := ⟨g, off + j * 4 + 2, none⟩) hlb |>.trans q2, (drew_below hb4).cell (p := ⟨g, off + j * 4 + 3, none⟩) hlb |>.trans q3⟩))
      (first
        | (go_at_call 107; refine (HEV.out _ (HV3.out.below (Below.drew (Below.refl _ w3)))).mono ?_; rintro e w4 ⟨rfl, hb4⟩)
        | (go_at_call 106; refine (impl_modulo v n hn0 hn6 _).mono ?_; rintro e w5 ⟨rfl, rfl⟩))
    have HB4 := Lib.hid (HB3.out.trans ((drew_below hb4).mono HB3.out.size))
    clear hb4 e0 e0' q1 q2 q3
    refine Lib.hid ?_
    go_wp2
    go_ret
    exact ⟨by rw [HXE.out]; rfl, HP.out.2.2.1.trans (HB4.out.mono (Nat.le_of_lt hwl))⟩
end Go.Proofs.YtlicadaecfgklaaGreatDoor.prg

/- Chapter 9's memory: the entries of the log that the control word counts, of the program; what makes a memory valid. -/
namespace Go.Proofs.YtlicadaecfgklaaGreatDoor.mem
open Go.ChangeShapes Go.WideShapes Go.ChangeAt Go.RowKit Go.Proofs.YtlicadaecfgklaaGreatDoor.row Go.Proofs.YtlicadaecfgklaaGreatDoor.val Go.Proofs.YtlicadaecfgklaaGreatDoor.expr Go.Proofs.YtlicadaecfgklaaGreatDoor.stm Go.Proofs.YtlicadaecfgklaaGreatDoor.blk Go.Proofs.YtlicadaecfgklaaGreatDoor.prg Go.Proofs.YtlicadaecfgklaaGreatDoor.ctl

/-- The first 'k' entries of the log are good. -/
def LogV (L : List Int) (k : Nat) : Prop := ∀ i, i < k → varOk (L.getD (9 + 2 * i) 0) = true ∧ isVal (L.getD (10 + 2 * i) 0) = true
theorem LogV.zero (L : List Int) : LogV L 0 := fun i hi => by omega
theorem LogV.next {L : List Int} {k : Nat} (h : LogV L k) (h1 : varOk (L.getD (9 + 2 * k) 0) = true) (h2 : isVal (L.getD (10 + 2 * k) 0) = true) : LogV L (k + 1) := fun i hi => by
  rcases (show i < k ∨ i = k by omega) with h' | rfl
  · exact h i h'
  · exact ⟨h1, h2⟩
theorem logV_no {L : List Int} {k c : Nat} (hk : k < c) {r : Bool} (hr : r = true ↔ LogV L c) (h : varOk (L.getD (9 + 2 * k) 0) = false ∨ isVal (L.getD (10 + 2 * k) 0) = false) : r = false := by
  rw [← Bool.not_eq_true]; intro e
  have := hr.1 e k hk
  rcases h with h | h
  · rw [this.1] at h; cases h
  · rw [this.2] at h; cases h
theorem word_at {L : List Int} {n j : Nat} (hl : L.length = n) (hj : j < n) : L[j]? = some (L.getD j 0) := by
  rw [List.getD_eq_getElem?_getD, List.getElem?_eq_getElem (by omega)]; rfl
theorem row_word {w : World} {b off n j : Nat} {L : List Int} (h : Row w (some ⟨b, off, none⟩) n L) (hj : j < n) : w.cell? ⟨b, off + j, none⟩ = some (.int .i64 (L.getD j 0)) := by
  obtain ⟨b', off', x, e, _, hx, hc⟩ := h.2 j hj
  cases e
  rw [hc, List.getD_eq_getElem?_getD, hx]; rfl

set_option maxRecDepth 100000 in
set_option maxHeartbeats 2000000 in
theorem impl_logok (w : World) (L : List Int) (hL : L.length = 49) (c : Nat) (hc : c ≤ 8) (r : Bool) (hr : r = true ↔ LogV L c) :
    Calls Tryz.prog 67 #[memV L, .int .i64 c] w (BelB w r) := by
  have HBX := Lib.hid (show Box w.heap.size (ivs L).toArray TM (w.alloc (.cells (ivs L).toArray TM)) from Box.new _ _ _)
  have HB := Lib.hid (below_new w (.cells (ivs L).toArray TM))
  have HI := Lib.hid (mem_info hL)
  have HR := Lib.hid hr
  have HLL := Lib.hid hL
  have hc8 : (c : Int) ≤ 8 := by omega
  obtain ⟨W, hW⟩ : ∃ W, w.alloc (.cells (ivs L).toArray TM) = W := ⟨_, rfl⟩
  rw [hW] at HBX HB
  have HCC := Lib.hid hc
  clear hr hc hL
  go_enter Tryz.func67, Tryz.ntmps67
  (try rw [hW])
  go_wp2
  go_loopw [5, 6, 7, 9] (fun _ _ _ i wr => ∃ k : Nat, k ≤ c ∧ i = .int .i64 k ∧ Hid (LogV L k) ∧ Hid (Box w.heap.size (ivs L).toArray TM wr ∧ Below w.heap.size w wr)) (fun _ _ _ i _ => c - (intOf i).toNat)
  case atStart => exact ⟨0, Nat.zero_le _, rfl, LogV.zero L, HBX.out, HB.out⟩
  case round =>
    obtain ⟨k, hk, rfl, hV, HK⟩ := hrel
    by_cases hlt : k < c
    · have hI : (k : Int) < c := by omega
      obtain ⟨x, hx⟩ : ∃ x, L.getD (9 + 2 * k) 0 = x := ⟨_, rfl⟩
      obtain ⟨y, hy⟩ : ∃ y, L.getD (10 + 2 * k) 0 = y := ⟨_, rfl⟩
      have HEN := Lib.hid (impl_logentry wr L HLL.out k (by have := HCC.out; omega) x y hx hy)
      have HN := Lib.hid (And.intro hx hy)
      clear hx hy
      cases h1 : varOk x
      · have HV1 := Lib.hid h1
        have HF := Lib.hid (logV_no hlt HR.out (.inl (by rw [HN.out.1]; exact h1)))
        clear h1
        go_wp2_with (first
          | (refine wpList_load_row rfl TM _ rfl w.heap.size rfl _ _ _ _ HK.out.1 Tryz.underlying100 rfl HI.out ?_)
          | (go_at_call 109; (with_reducible refine HEN.out.mono ?_); rintro e w2 ⟨rfl, hb2⟩; refine Hid.out ?_))
        have HB2 := Lib.hid (below_then HK.out.2 hb2)
        clear hb2
        refine Lib.hid ?_
        go_wp2_with (go_at_call 110; refine (varnum _ _ HV1.out _).mono ?_; rintro e w3 ⟨rfl, rfl⟩)
        go_ret
        exact ⟨by rw [HF.out]; rfl, HB2.out⟩
      · have HV1 := Lib.hid h1
        clear h1
        cases h2 : isVal y
        · have HV2 := Lib.hid (show isVal y = false from h2)
          have HF := Lib.hid (logV_no hlt HR.out (.inr (by rw [HN.out.2]; exact h2)))
          go_wp2_with (first
            | (refine wpList_load_row rfl TM _ rfl w.heap.size rfl _ _ _ _ HK.out.1 Tryz.underlying100 rfl HI.out ?_)
            | (go_at_call 109; (with_reducible refine HEN.out.mono ?_); rintro e w2 ⟨rfl, hb2⟩; refine Hid.out ?_))
          have HB2 := Lib.hid (below_then HK.out.2 hb2)
          clear hb2
          refine Lib.hid ?_
          go_wp2_with (first
            | (go_at_call 110; refine (varnum _ _ HV1.out _).mono ?_; rintro e w3 ⟨rfl, rfl⟩)
            | (go_at_call 114; refine (impl_isval _ _).mono ?_; rintro e w3 ⟨rfl, rfl⟩))
          go_ret
          exact ⟨by rw [HF.out]; rfl, HB2.out⟩
        · have HV2 := Lib.hid (hV.out.next (by rw [HN.out.1]; exact HV1.out) (by rw [HN.out.2]; exact h2))
          go_wp2_with (first
            | (refine wpList_load_row rfl TM _ rfl w.heap.size rfl _ _ _ _ HK.out.1 Tryz.underlying100 rfl HI.out ?_)
            | (go_at_call 109; (with_reducible refine HEN.out.mono ?_); rintro e w2 ⟨rfl, hb2⟩; refine Hid.out ?_))
          have HB2 := Lib.hid (And.intro (HK.out.1.below hb2) (below_then HK.out.2 hb2))
          clear hb2
          refine Lib.hid ?_
          go_wp2_with (first
            | (go_at_call 110; refine (varnum _ _ HV1.out _).mono ?_; rintro e w3 ⟨rfl, rfl⟩)
            | (go_at_call 114; refine (impl_isval _ _).mono ?_; rintro e w3 ⟨rfl, rfl⟩))
          go_roundw
          case rel => exact ⟨k + 1, by omega, by go_num, HV2, HB2⟩
          case measure => simp [intOf]; omega
    · have hkc : k = c := by omega
      subst hkc
      have HF := Lib.hid (HR.out.2 hV.out)
      clear hV
      go_wp2
      go_ret
      exact ⟨by rw [HF.out]; rfl, HK.out.2⟩
end Go.Proofs.YtlicadaecfgklaaGreatDoor.mem

/- Chapter 9's MemOk: a valid program, 49 words, a control word whose task the program has, values, and good entries of the log, of the model and of the program; nothing that was there is written. -/
namespace Go.Proofs.YtlicadaecfgklaaGreatDoor.mem
open Go.ChangeShapes Go.WideShapes Go.ChangeAt Go.RowKit Go.Proofs.YtlicadaecfgklaaGreatDoor.row Go.Proofs.YtlicadaecfgklaaGreatDoor.val Go.Proofs.YtlicadaecfgklaaGreatDoor.expr Go.Proofs.YtlicadaecfgklaaGreatDoor.stm Go.Proofs.YtlicadaecfgklaaGreatDoor.blk Go.Proofs.YtlicadaecfgklaaGreatDoor.prg Go.Proofs.YtlicadaecfgklaaGreatDoor.ctl

theorem wparts {x : Int} (h : wOk x = true) : ∃ t c n : Nat, t ≤ 5 ∧ c ≤ 8 ∧ n ≤ 24 ∧ (unT x = t ∧ unC x = c ∧ unN x = n) ∧ wT x = t ∧ wC x = c ∧ wN x = n := by
  obtain ⟨t, c, n, h1, h2, h3, e1, e2, e3⟩ := un_yes h
  refine ⟨t, c, n, h1, h2, h3, ⟨e1, e2, e3⟩, ?_, ?_, ?_⟩
  · rw [← e1]; simp [unT, h]
  · rw [← e2]; simp [unC, h]
  · rw [← e3]; simp [unN, h]
/-- A memory of the program. -/
def MemIs (P : List Tk) (L : List Int) : Prop :=
  IsPrg P ∧ L.length = 49 ∧ wOk (L.getD 8 0) = true ∧ wT (L.getD 8 0) < P.length ∧ (L.take 8).all isVal = true ∧ ((L.drop 25).take (wN (L.getD 8 0)).toNat).all isVal = true ∧ LogV L (wC (L.getD 8 0)).toNat
theorem mem_dec (P : List Tk) (L : List Int) : ∃ r : Bool, r = true ↔ MemIs P L := by
  rcases Classical.em (MemIs P L) with h | h
  · exact ⟨true, fun _ => h, fun _ => rfl⟩
  · exact ⟨false, fun e => (by cases e), fun e => absurd e h⟩
theorem not_mem {P : List Tk} {L : List Int} {r : Bool} (hr : r = true ↔ MemIs P L) (h : ¬ MemIs P L) : r = false := by
  rw [← Bool.not_eq_true]; intro e; exact h (hr.1 e)
theorem log_dec (L : List Int) (c : Nat) : ∃ r : Bool, r = true ↔ LogV L c := by
  rcases Classical.em (LogV L c) with h | h
  · exact ⟨true, fun _ => h, fun _ => rfl⟩
  · exact ⟨false, fun e => (by cases e), fun e => absurd e h⟩
theorem un_neg {x : Int} (h : wOk x = false) : ∃ q s t : Int, (unT x = q ∧ unC x = s ∧ unN x = t) ∧ q = -1 ∧ s = -1 ∧ t = -1 := ⟨_, _, _, ⟨rfl, rfl, rfl⟩, un_no h⟩

set_option maxRecDepth 100000 in
set_option maxHeartbeats 400000 in
theorem spec_are (w : World) (a : Option Addr) (n cap : Nat) (L : List Int) (hn : (n : Int) ≤ 1048576) (h : Row w a n L) (r : Bool) (hr : L.all isVal = r) :
    Calls Tryz.prog 71 #[.slice a n cap] w (RetB w r) := by
  subst hr
  have HL := Lib.hid h.1
  have HC : Hid (∀ k, k < n → ∃ (b off : Nat) (x : Int), a = some ⟨b, off, none⟩ ∧ L[k]? = some x ∧ w.cell? ⟨b, off + k, none⟩ = some (.int .i64 x)) := fun k hk => by
    obtain ⟨b, off, x, e, _, hx, hc⟩ := h.2 k hk
    exact ⟨b, off, x, e, hx, hc⟩
  clear h
  go_enter Tryz.func71, Tryz.ntmps71
  go_wp2
  go_loop [3] (fun i => ∃ k : Nat, k ≤ n ∧ i = .int .i64 k ∧ Hid (∀ y ∈ L.take k, isVal y = true)) (fun i => n - (intOf i).toNat)
  case atStart => exact ⟨0, Nat.zero_le _, rfl, by simp [Hid]⟩
  case round =>
    obtain ⟨k, hk, rfl, hA⟩ := hrel
    by_cases hlt : k < n
    · obtain ⟨b, off, x, rfl, hx, hc⟩ := HC.out k hlt
      have hI : (k : Int) < n := by omega
      have HX := Lib.hid hx
      clear hx
      cases hv : isVal x
      · have HF := Lib.hid (all_bad HX.out hv)
        go_wp2_with (go_at_call 117; refine (spec_isval _ _).mono ?_; rintro e w1 ⟨rfl, rfl⟩)
        go_ret
        exact ⟨by rw [HF.out]; rfl, rfl⟩
      · have HA2 := Lib.hid (all_step HX.out hA.out hv)
        go_wp2_with (go_at_call 117; refine (spec_isval _ _).mono ?_; rintro e w1 ⟨rfl, rfl⟩)
        go_round
        case rel => exact ⟨k + 1, by omega, by go_num, HA2⟩
        case measure => simp [intOf]; omega
    · have hkn : k = n := by omega
      subst hkn
      have HE := Lib.hid (all_end HL.out hA.out)
      clear hA
      go_wp2
      go_ret
      exact ⟨by rw [HE.out]; rfl, rfl⟩
set_option maxRecDepth 100000 in
set_option maxHeartbeats 4000000 in
theorem spec_memok (a : Option Addr) (n cap : Nat) (P : List Tk) (hz : Sizes P) (w : World) (h : TkRow w a n P) (ad : Option Addr) (nv cv : Nat) (V : List Int) (hnv : (nv : Int) ≤ 1048576) (hcv : nv ≤ cv) (hV : Row w ad nv V) (r : Bool) (hr : r = true ↔ MemIs P V) :
    Calls Tryz.prog 122 #[.agg #[.slice a n cap], .slice ad nv cv] w (BelB w r) := by
  obtain ⟨W, hW⟩ : ∃ W, W = w.alloc (.cells #[.slice a n cap] 26) := ⟨_, rfl⟩
  have hpw : PrgW w W a n cap P := by rw [hW]; exact prgW_new w a n cap P _ h
  have HP := Lib.hid hpw
  have HW := Lib.hid hW.symm
  have HZ := Lib.hid hz
  have HV := Lib.hid (hV.below hpw.2.2.1)
  have hlen := h.1
  have hvl := hV.1
  have hn : (n : Int) ≤ 1048576 := by have := hz.1; omega
  have hwl : w.heap.size < W.heap.size := by rw [hW]; simp
  have c0 : W.cell? ⟨w.heap.size, 0, none⟩ = some (.slice a n cap) := hpw.1
  clear h hz hW hpw hV
  obtain ⟨rp, hrp⟩ := prg_dec P
  have HRP := Lib.hid hrp
  cases rp
  · obtain rfl := not_mem hr (fun hp => by have := hrp.2 hp.1; cases this)
    clear hr hrp hlen hvl c0
    go_enter Tryz.func122, Tryz.ntmps122
    go_wp2_with (go_at_call 68; rw [HW.out]; (with_reducible refine (spec_programok a n cap P HZ.out _ HP.out.2.1 false HRP.out).mono ?_); rintro e w2 ⟨rfl, hb2⟩)
    go_ret
    exact ⟨rfl, HP.out.2.2.1.trans (hb2.mono (Nat.le_of_lt hwl))⟩
  · have HPR := Lib.hid (hrp.1 rfl)
    clear hrp
    by_cases h49 : nv = 49
    case neg =>
      obtain rfl := not_mem hr (fun hp => h49 (by rw [← hvl]; exact hp.2.1))
      have hq : ¬ (nv : Int) = 49 := by omega
      clear hr hlen hvl c0 h49
      go_enter Tryz.func122, Tryz.ntmps122
      go_wp2_with (go_at_call 68; rw [HW.out]; (with_reducible refine (spec_programok a n cap P HZ.out _ HP.out.2.1 true HRP.out).mono ?_); rintro e w2 ⟨rfl, hb2⟩)
      go_ret
      exact ⟨rfl, HP.out.2.2.1.trans (hb2.mono (Nat.le_of_lt hwl))⟩
    subst h49
    obtain ⟨b, off, rfl⟩ := row_some HV.out (by decide)
    obtain ⟨x, hx⟩ : ∃ x, V.getD 8 0 = x := ⟨_, rfl⟩
    have HX := Lib.hid hx
    have hc8 : Hid (∀ w', Below W.heap.size W w' → w'.cell? ⟨b, off + 8, none⟩ = some (.int .i64 x)) := fun w' hb' => by
      rw [← hx]; exact row_word (HV.out.below hb') (by decide)
    clear hx
    cases ho : wOk x
    · obtain rfl := not_mem hr (fun hp => by have := hp.2.2.1; rw [HX.out, ho] at this; cases this)
      have HU := Lib.hid (un_no ho)
      clear hr hlen hvl ho
      go_enter Tryz.func122, Tryz.ntmps122
      go_wp2_with (first
        | (go_at_call 68; rw [HW.out]; (with_reducible refine (spec_programok a n cap P HZ.out _ HP.out.2.1 true HRP.out).mono ?_); rintro e w2 ⟨rfl, hb2⟩; refine Hid.out ?_))
      have d8 := hc8.out w2 hb2
      have d0 : w2.cell? ⟨w.heap.size, 0, none⟩ = some (.slice a n cap) := (hb2.cell (p := ⟨w.heap.size, 0, none⟩) hwl).trans c0
      have HB2 := Lib.hid hb2
      clear hb2
      refine Lib.hid ?_
      go_wp2_with (go_at_call 21; refine (spec_unpack_is x _ _ _ HU.out _).mono ?_; rintro e w3 ⟨rfl, rfl⟩)
      go_ret
      exact ⟨rfl, HP.out.2.2.1.trans (HB2.out.mono (Nat.le_of_lt hwl))⟩
    · obtain ⟨t, c, m, ht, hc, hm, hu, e1, e2, e3⟩ := wparts ho
      have HU := Lib.hid hu
      have ht' : (t : Int) ≤ 5 := by omega
      have hc' : (c : Int) ≤ 8 := by omega
      have hm' : (m : Int) ≤ 24 := by omega
      have HM : Hid (MemIs P V ↔ t < n ∧ (V.take 8).all isVal = true ∧ ((V.drop 25).take m).all isVal = true ∧ LogV V c) := by
        show MemIs P V ↔ _
        unfold MemIs
        rw [HX.out, e1, e2, e3, Int.toNat_natCast, Int.toNat_natCast, hlen]
        constructor
        · rintro ⟨_, _, _, q1, q2, q3, q4⟩; exact ⟨by omega, q2, q3, q4⟩
        · rintro ⟨q1, q2, q3, q4⟩; exact ⟨HPR.out, hvl, ho, by omega, q2, q3, q4⟩
      have hs8 := cut_8 b off cv hcv
      have hsl := cut_lh b off cv m hcv hm
      have HV8 := Lib.hid (show ∀ w', Below W.heap.size W w' → Row w' (some ⟨b, off, none⟩) 8 (V.take 8) from fun w' hb' => by simpa using row_part (o := 0) (m := 8) (HV.out.below hb') (by omega))
      have HVM := Lib.hid (show ∀ w', Below W.heap.size W w' → Row w' (some ⟨b, off + 25, none⟩) m ((V.drop 25).take m) from fun w' hb' => row_part (o := 25) (m := m) (HV.out.below hb') (by omega))
      clear hu e1 e2 e3 ho hlen hvl
      by_cases htn : t < n
      case neg =>
        obtain rfl := not_mem hr (fun hp => htn (HM.out.1 hp).1)
        have htn' : ¬ (t : Int) < n := by omega
        clear hr htn
        go_enter Tryz.func122, Tryz.ntmps122
        go_wp2_with (first
          | (go_at_call 68; rw [HW.out]; (with_reducible refine (spec_programok a n cap P HZ.out _ HP.out.2.1 true HRP.out).mono ?_); rintro e w2 ⟨rfl, hb2⟩; refine Hid.out ?_))
        have d8 := hc8.out w2 hb2
        have d0 : w2.cell? ⟨w.heap.size, 0, none⟩ = some (.slice a n cap) := (hb2.cell (p := ⟨w.heap.size, 0, none⟩) hwl).trans c0
        have HB2 := Lib.hid hb2
        clear hb2
        refine Lib.hid ?_
        go_wp2_with (go_at_call 21; refine (spec_unpack_is x _ _ _ HU.out _).mono ?_; rintro e w3 ⟨rfl, rfl⟩)
        go_ret
        exact ⟨rfl, HP.out.2.2.1.trans (HB2.out.mono (Nat.le_of_lt hwl))⟩
      have htn' : (t : Int) < n := by omega
      cases h8 : (V.take 8).all isVal
      · obtain rfl := not_mem hr (fun hp => by have := (HM.out.1 hp).2.1; rw [h8] at this; cases this)
        have HA8 := Lib.hid h8
        clear hr h8 htn
        go_enter Tryz.func122, Tryz.ntmps122
        go_wp2_with (first
          | (go_at_call 68; rw [HW.out]; (with_reducible refine (spec_programok a n cap P HZ.out _ HP.out.2.1 true HRP.out).mono ?_); rintro e w2 ⟨rfl, hb2⟩; refine Hid.out ?_))
        have d8 := hc8.out w2 hb2
        have d0 : w2.cell? ⟨w.heap.size, 0, none⟩ = some (.slice a n cap) := (hb2.cell (p := ⟨w.heap.size, 0, none⟩) hwl).trans c0
        have HB2 := Lib.hid hb2
        have H8 := Lib.hid (HV8.out _ hb2)
        have HT := Lib.hid (HVM.out _ hb2)
        clear hb2
        refine Lib.hid ?_
        go_wp2_with (first
          | (go_at_call 21; refine (spec_unpack_is x _ _ _ HU.out _).mono ?_; rintro e w3 ⟨rfl, rfl⟩)
          | (go_at_call 71; first
            | ((with_reducible refine (spec_are _ (some ⟨b, off, none⟩) 8 cv _ (by omega) H8.out false HA8.out).mono ?_); rintro e w3 ⟨rfl, rfl⟩)
            | fail))
        go_ret
        exact ⟨rfl, HP.out.2.2.1.trans (HB2.out.mono (Nat.le_of_lt hwl))⟩
      cases hmv : ((V.drop 25).take m).all isVal
      · obtain rfl := not_mem hr (fun hp => by have := (HM.out.1 hp).2.2.1; rw [hmv] at this; cases this)
        have HA8 := Lib.hid h8
        have HAM := Lib.hid hmv
        have T1 : decide ((t : Int) < 0) = false := by simp
        have T2 : decide (n ≤ t) = false := by simp; omega
        clear hr h8 hmv htn
        go_enter Tryz.func122, Tryz.ntmps122
        go_wp2_with (first
          | (go_at_call 68; rw [HW.out]; (with_reducible refine (spec_programok a n cap P HZ.out _ HP.out.2.1 true HRP.out).mono ?_); rintro e w2 ⟨rfl, hb2⟩; refine Hid.out ?_))
        have d8 := hc8.out w2 hb2
        have d0 : w2.cell? ⟨w.heap.size, 0, none⟩ = some (.slice a n cap) := (hb2.cell (p := ⟨w.heap.size, 0, none⟩) hwl).trans c0
        have HB2 := Lib.hid hb2
        have H8 := Lib.hid (HV8.out _ hb2)
        have HT := Lib.hid (HVM.out _ hb2)
        clear hb2
        refine Lib.hid ?_
        go_wp2_with (first
          | (go_at_call 21; refine (spec_unpack_is x _ _ _ HU.out _).mono ?_; rintro e w3 ⟨rfl, rfl⟩)
          | (go_at_call 71; first
            | ((with_reducible refine (spec_are _ (some ⟨b, off, none⟩) 8 cv _ (by omega) H8.out true HA8.out).mono ?_); rintro e w3 ⟨rfl, rfl⟩)
            | ((with_reducible refine (spec_are _ (some ⟨b, off + 25, none⟩) m (cv - 25) _ (by omega) HT.out false HAM.out).mono ?_); rintro e w3 ⟨rfl, rfl⟩)))
        go_ret
        exact ⟨rfl, HP.out.2.2.1.trans (HB2.out.mono (Nat.le_of_lt hwl))⟩
      · have HR := Lib.hid (show r = true ↔ LogV V c from hr.trans (HM.out.trans ⟨fun hp => hp.2.2.2, fun hp => ⟨htn, h8, hmv, hp⟩⟩))
        have HA8 := Lib.hid h8
        have HAM := Lib.hid hmv
        have T1 : decide ((t : Int) < 0) = false := by simp
        have T2 : decide (n ≤ t) = false := by simp; omega
        clear hr h8 hmv htn
        go_enter Tryz.func122, Tryz.ntmps122
        go_wp2_with (first
          | (go_at_call 68; rw [HW.out]; (with_reducible refine (spec_programok a n cap P HZ.out _ HP.out.2.1 true HRP.out).mono ?_); rintro e w2 ⟨rfl, hb2⟩; refine Hid.out ?_))
        have d8 := hc8.out w2 hb2
        have d0 : w2.cell? ⟨w.heap.size, 0, none⟩ = some (.slice a n cap) := (hb2.cell (p := ⟨w.heap.size, 0, none⟩) hwl).trans c0
        have HB2 := Lib.hid hb2
        have H8 := Lib.hid (HV8.out _ hb2)
        have HT := Lib.hid (HVM.out _ hb2)
        clear hb2
        refine Lib.hid ?_
        go_wp2_with (first
          | (go_at_call 21; refine (spec_unpack_is x _ _ _ HU.out _).mono ?_; rintro e w3 ⟨rfl, rfl⟩)
          | (go_at_call 71; first
            | ((with_reducible refine (spec_are _ (some ⟨b, off, none⟩) 8 cv _ (by omega) H8.out true HA8.out).mono ?_); rintro e w3 ⟨rfl, rfl⟩)
            | ((with_reducible refine (spec_are _ (some ⟨b, off + 25, none⟩) m (cv - 25) _ (by omega) HT.out true HAM.out).mono ?_); rintro e w3 ⟨rfl, rfl⟩)))
        go_loop [8] (fun i => ∃ k : Nat, k ≤ c ∧ i = .int .i64 k ∧ Hid (LogV V k)) (fun i => c - (intOf i).toNat)
        case atStart => exact ⟨0, Nat.zero_le _, rfl, LogV.zero V⟩
        case round =>
          obtain ⟨k, hk, rfl, hV'⟩ := hrel
          by_cases hlt : k < c
          · have hI : (k : Int) < c := by omega
            obtain ⟨p, hp⟩ : ∃ p : Nat, p = 9 + 2 * k := ⟨_, rfl⟩
            have f0 := row_word (j := 9 + 2 * k) (HV.out.below HB2.out) (by omega)
            have f1 := row_word (j := 10 + 2 * k) (HV.out.below HB2.out) (by omega)
            obtain ⟨y, hy⟩ : ∃ y, V.getD (9 + 2 * k) 0 = y := ⟨_, rfl⟩
            obtain ⟨z, hz⟩ : ∃ z, V.getD (10 + 2 * k) 0 = z := ⟨_, rfl⟩
            rw [hy, ← hp] at f0
            rw [hz, show 10 + 2 * k = p + 1 by omega] at f1
            have hpk : (9 : Int) + 2 * (k : Int) = (p : Int) := by omega
            have hpb : (p : Int) ≤ 23 := by omega
            have HN := Lib.hid (And.intro hp (And.intro hy hz))
            clear hp hy hz d0 d8
            cases h1 : varOk y
            · have HV1 := Lib.hid (show (decide (0 ≤ y) && decide (y ≤ 7)) = false from h1)
              have HF := Lib.hid (logV_no hlt HR.out (.inl (by rw [HN.out.2.1]; exact h1)))
              clear h1
              go_wp2_with (go_at_call 70; refine (in_any _ _ _ _ HV1.out _).mono ?_; rintro e w3 ⟨rfl, rfl⟩)
              go_ret
              exact ⟨by rw [HF.out]; rfl, HP.out.2.2.1.trans (HB2.out.mono (Nat.le_of_lt hwl))⟩
            · have HV1 := Lib.hid (show (decide (0 ≤ y) && decide (y ≤ 7)) = true from h1)
              have HV1' := Lib.hid h1
              clear h1
              cases h2 : isVal z
              · have HF := Lib.hid (logV_no hlt HR.out (.inr (by rw [HN.out.2.2]; exact h2)))
                go_wp2_with (first
                  | (go_at_call 70; refine (in_any _ _ _ _ HV1.out _).mono ?_; rintro e w3 ⟨rfl, rfl⟩)
                  | (go_at_call 117; refine (spec_isval _ _).mono ?_; rintro e w3 ⟨rfl, rfl⟩))
                go_ret
                exact ⟨by rw [HF.out]; rfl, HP.out.2.2.1.trans (HB2.out.mono (Nat.le_of_lt hwl))⟩
              · have HV2 := Lib.hid (hV'.out.next (by rw [HN.out.2.1]; exact HV1'.out) (by rw [HN.out.2.2]; exact h2))
                go_wp2_with (first
                  | (go_at_call 70; refine (in_any _ _ _ _ HV1.out _).mono ?_; rintro e w3 ⟨rfl, rfl⟩)
                  | (go_at_call 117; refine (spec_isval _ _).mono ?_; rintro e w3 ⟨rfl, rfl⟩))
                go_round
                case rel => exact ⟨k + 1, by omega, by go_num, HV2⟩
                case measure => simp [intOf]; omega
          · have hkc : k = c := by omega
            subst hkc
            have HF := Lib.hid (HR.out.2 hV'.out)
            clear hV'
            go_wp2
            go_ret
            exact ⟨by rw [HF.out]; rfl, HP.out.2.2.1.trans (HB2.out.mono (Nat.le_of_lt hwl))⟩
end Go.Proofs.YtlicadaecfgklaaGreatDoor.mem
