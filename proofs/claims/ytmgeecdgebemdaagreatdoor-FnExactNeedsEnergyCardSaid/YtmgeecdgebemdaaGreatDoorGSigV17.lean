/- Several texts in one: VPrgI VMemL. -/
import Derived.Test.YtmgeecdgebemdaaGreatDoorGSigV8
import Derived.Test.YtmgeecdgebemdaaGreatDoorGSigV15
import Derived.Test.YtmgeecdgebemdaaGreatDoorGSigV16
import Derived.Test.YtmgeecdgebemdaaGreatDoorGSigV10
import Derived.Deep.RegionHeld3

/- Chapter 6's program: taskOk, ProgramOk, NextTask: what the plain relations say; nothing that was there is written. -/
namespace Go.Proofs.YtmgeecdgebemdaaGreatDoor.prg
open Go Go.ChangeShapes Go.WideShapes Go.ChangeAt Go.RowKit Go.Proofs.YtmgeecdgebemdaaGreatDoor.row Go.Proofs.YtmgeecdgebemdaaGreatDoor.val Go.Proofs.YtmgeecdgebemdaaGreatDoor.expr Go.Proofs.YtmgeecdgebemdaaGreatDoor.stm Go.Proofs.YtmgeecdgebemdaaGreatDoor.blk
set_option maxHeartbeats 2000000 in
set_option maxRecDepth 100000 in
theorem impl_taskok (ab : Option Addr) (nb cb : Nat) (t : Tk) (hnb : (nb : Int) ≤ 1048576) (w : World) (h : StRow w ab nb t.b) (r : Bool) (hr : r = true ↔ (IsBlk t.b ∧ exprOk t.o t.x t.y = true)) :
    Calls Tryz.prog 136 #[tkV ab nb cb t] w (BelB w r) := by
  obtain ⟨B, o, x, y⟩ := t
  obtain ⟨W, hW⟩ : ∃ W, W = w.alloc (.cells #[.slice ab nb cb, .int .i64 o, .int .i64 x, .int .i64 y] 96) := ⟨_, rfl⟩
  have hbx : Box w.heap.size #[.slice ab nb cb, .int .i64 o, .int .i64 x, .int .i64 y] 96 W := by rw [hW]; exact Box.new _ _ _
  have hBW : Below w.heap.size w W := by rw [hW]; exact below_new _ _
  have H := Lib.hid (And.intro hBW (h.below hBW))
  have HX := Lib.hid hbx
  have HW := Lib.hid hW.symm
  have c0 : W.cell? ⟨w.heap.size, 0, none⟩ = some (.slice ab nb cb) := hbx.cell 0
  obtain ⟨rb, hrb⟩ := blk_dec B
  have HRB := Lib.hid hrb
  clear h hbx hBW hW
  cases rb
  · have hrf : r = false := by rw [← Bool.not_eq_true]; intro e; have := hrb.2 (hr.1 e).1; cases this
    clear hrb hr
    subst hrf
    go_enter Tryz.func136, Tryz.ntmps136
    go_wp2_with (go_at_call 157; rw [HW.out]; (with_reducible refine (impl_blockok ab nb cb B hnb _ H.out.2 false HRB.out).mono ?_); rintro e w2 ⟨rfl, hb2⟩)
    go_ret
    exact ⟨rfl, below_then H.out.1 hb2⟩
  · have hre : exprOk o x y = r := by
      have h1 := hrb.1 rfl
      cases r
      · rw [← Bool.not_eq_true]; intro e; have := hr.2 ⟨h1, e⟩; cases this
      · exact (hr.1 rfl).2
    have HRE := Lib.hid hre
    clear hrb hr hre
    go_enter Tryz.func136, Tryz.ntmps136
    go_wp2_with (go_at_call 157; rw [HW.out]; (with_reducible refine (impl_blockok ab nb cb B hnb _ H.out.2 true HRB.out).mono ?_); rintro e w2 ⟨rfl, hb2⟩; refine Hid.out ?_)
    have HX2 := Lib.hid (HX.out.below hb2)
    have d1 : w2.cell? ⟨w.heap.size, 1, none⟩ = some (.int .i64 o) := HX2.out.cell 1
    have d2 : w2.cell? ⟨w.heap.size, 2, none⟩ = some (.int .i64 x) := HX2.out.cell 2
    have d3 : w2.cell? ⟨w.heap.size, 3, none⟩ = some (.int .i64 y) := HX2.out.cell 3
    have HB2 := Lib.hid (below_then H.out.1 hb2)
    clear hb2
    refine Lib.hid ?_
    go_wp2_with (go_at_call 180; (with_reducible refine (impl_exprok o x y r HRE.out _).mono ?_); rintro e w3 ⟨rfl, hb3⟩)
    go_ret
    exact ⟨rfl, below_then HB2.out hb3⟩
theorem tsk_dec (t : Tk) : ∃ r : Bool, r = true ↔ (IsBlk t.b ∧ exprOk t.o t.x t.y = true) := by
  rcases Classical.em (IsBlk t.b ∧ exprOk t.o t.x t.y = true) with h | h
  · exact ⟨true, fun _ => h, fun _ => rfl⟩
  · exact ⟨false, fun e => (by cases e), fun e => absurd e h⟩
set_option maxHeartbeats 4000000 in
set_option maxRecDepth 100000 in
theorem impl_programok (a : Option Addr) (n cap : Nat) (P : List Tk) (hz : Sizes P) (hcap : n ≤ cap) (w : World) (h : TkRow w a n P) (r : Bool) (hr : r = true ↔ IsPrg P) :
    Calls Tryz.prog 106 #[.agg #[.slice a n cap]] w (BelB w r) := by
  obtain ⟨W, hW⟩ : ∃ W, W = w.alloc (.cells #[.slice a n cap] 26) := ⟨_, rfl⟩
  have hpw : PrgW w W a n cap P := by rw [hW]; exact prgW_new w a n cap P _ h
  have c0 : W.cell? ⟨w.heap.size, 0, none⟩ = some (.slice a n cap) := hpw.1
  have HP := Lib.hid hpw
  have HW := Lib.hid hW.symm
  have HR := Lib.hid hr
  have HZ := Lib.hid hz
  have hlen := h.1
  have hn : (n : Int) ≤ 1048576 := by have := hz.1; omega
  have hwl : w.heap.size < W.heap.size := by rw [hW]; simp
  clear hpw
  by_cases h0 : n = 0
  · have hrf : r = false := by rw [← Bool.not_eq_true]; intro e; have := (hr.1 e).1; omega
    have hq : ((n : Int) == 0) = true := by rw [h0]; rfl
    clear h hr hz hW hlen h0
    subst hrf
    go_enter Tryz.func106, Tryz.ntmps106
    go_wp2
    rw [HW.out]
    go_wp2
    go_ret
    exact ⟨rfl, HP.out.2.2.1⟩
  · have hq : ((n : Int) == 0) = false := by rw [beq_eq_false_iff_ne]; omega
    by_cases h6 : (6 : Int) < n
    · have hrf : r = false := by rw [← Bool.not_eq_true]; intro e; have := (hr.1 e).2.1; omega
      clear h hr hz hW hlen h0
      subst hrf
      go_enter Tryz.func106, Tryz.ntmps106
      go_wp2
      rw [HW.out]
      go_wp2
      go_ret
      exact ⟨rfl, HP.out.2.2.1⟩
    · have HLN := Lib.hid hlen
      have H06 := Lib.hid (And.intro h0 h6)
      clear h hr hz hW hlen h0
      go_enter Tryz.func106, Tryz.ntmps106
      go_wp2
      rw [HW.out]
      go_wp2
      go_loopw [18] (fun i wr => ∃ k : Nat, k ≤ n ∧ i = .int .i64 k ∧ Hid (OkTasks P k) ∧ Below W.heap.size W wr) (fun i _ => n - (intOf i).toNat)
      case atStart => exact ⟨0, Nat.zero_le _, rfl, OkTasks.zero P, Below.refl _ _⟩
      case round =>
        obtain ⟨k, hk, rfl, hO, hbel⟩ := hrel
        by_cases hlt : k < n
        · obtain ⟨g, off, t, rfl, hlb, ht, ab, nb, cb, hrg, hbc, hrow⟩ := (HP.out.2.1.below hbel).2 k hlt
          have hI : (k : Int) < n := by omega
          have hnb : (nb : Int) ≤ 1048576 := by have := HZ.out.2 t (mem_at ht); rw [hrow.1] at this; omega
          have HT := Lib.hid (And.intro ht (And.intro hrow (And.intro hbel hrg)))
          have HX := Lib.hid (And.intro (Box.new wr zeroTk 96) ((Below.refl wr.heap.size wr).alloc (Nat.le_refl _) (.cells zeroTk 96)))
          obtain ⟨rb, hrb⟩ := tsk_dec t
          have HRB := Lib.hid hrb
          have hwl2 := Nat.lt_of_lt_of_le hwl hbel.size
          clear ht hrow hrg hbel
          go_wp2_with (first
            | (refine wpList_load_mid rfl 96 _ rfl g (off + k * 4) rfl (tkC ab nb cb t) _ HT.out.2.2.2 Tryz.underlying96 rfl (by kernel_rfl) ?_)
            | ((refine wpList_store_box rfl 96 _ _ rfl wr.heap.size _ _ HX.out.1 #[.slice ab nb cb, .int .i64 t.o, .int .i64 t.x, .int .i64 t.y] rfl rfl rfl (by kernel_rfl) (by simp [Value.oneCell']) ?_); intro w1 hx1 hg1; refine Hid.out ?_))
          have H1 := Lib.hid (And.intro hx1 (HX.out.2.grown hg1 HX.out.2.size (fun j hj => by cases hj; exact Nat.le_refl _)))
          clear hx1 hg1
          refine Lib.hid ?_
          cases rb
          · have hrf : r = false := by
              rw [← Bool.not_eq_true]; intro e
              have := hrb.2 ((HR.out.1 e).2.2 t (mem_at HT.out.1)); cases this
            clear hrb
            subst hrf
            go_wp2_with (first
              | (refine wpList_load_row rfl 96 _ rfl wr.heap.size rfl _ _ _ _ H1.out.1 Tryz.underlying96 rfl (by kernel_rfl) ?_)
              | (go_at_call 136; (with_reducible refine (impl_taskok ab nb cb t hnb _ (HT.out.2.1.below H1.out.2) false HRB.out).mono ?_); rintro e w2 ⟨rfl, hb2⟩))
            go_ret
            exact ⟨rfl, HP.out.2.2.1.trans ((below_then HT.out.2.2.1 (below_then H1.out.2 hb2)).mono (Nat.le_of_lt hwl))⟩
          · have HBK := Lib.hid (hrb.1 rfl)
            clear hrb
            go_wp2_with (first
              | (refine wpList_load_row rfl 96 _ rfl wr.heap.size rfl _ _ _ _ H1.out.1 Tryz.underlying96 rfl (by kernel_rfl) ?_)
              | (go_at_call 136; (with_reducible refine (impl_taskok ab nb cb t hnb _ (HT.out.2.1.below H1.out.2) true HRB.out).mono ?_); rintro e w2 ⟨rfl, hb2⟩; refine Hid.out ?_))
            have HB2 := Lib.hid (below_then HT.out.2.2.1 (below_then H1.out.2 hb2))
            clear hb2
            refine Lib.hid ?_
            go_wp2
            go_roundw
            case rel => exact ⟨k + 1, by omega, by go_num, hO.out.next HT.out.1 HBK.out.1 HBK.out.2, HB2.out⟩
            case measure => simp [intOf]; omega
        · obtain rfl : k = n := by omega
          have hI : ¬ (k : Int) < k := by omega
          have hrt : r = true := HR.out.2 (isPrg_iff.2 ⟨by rw [HLN.out]; have := H06.out; omega, by rw [HLN.out]; exact hO.out⟩)
          have HBB := Lib.hid hbel
          clear hbel
          subst hrt
          go_wp2
          go_ret
          exact ⟨rfl, HP.out.2.2.1.trans (HBB.out.mono (Nat.le_of_lt hwl))⟩
theorem nx_twice {v : Int} {n : Nat} (hn : 0 < n) : (v.tmod n + n).tmod n = nx v n := by
  have h := tmod_bds (v := v) hn
  unfold nx
  split
  · rw [Int.tmod_eq_of_lt (by omega) (by omega)]
  · rw [Int.tmod_eq_emod_of_nonneg (by omega), Int.add_emod_right, Int.emod_eq_of_lt (by omega) (by omega)]
theorem impl_modulo (v : Int) (n : Nat) (hn : 0 < n) (h6 : n ≤ 6) (w : World) : Calls Tryz.prog 148 #[.int .i64 v, .int .i64 n] w (Ret w (nx v n)) := by
  have h := tmod_bds (v := v) hn
  have HX := Lib.hid (nx_twice (v := v) hn)
  have HX2 := Lib.hid (show (v.tmod n + n) % (n : Int) = nx v n by rw [← Int.tmod_eq_emod_of_nonneg (by omega)]; exact HX.out)
  have hr := nx_range (v := v) hn
  have hnz : (n == 0) = false := by rw [beq_eq_false_iff_ne]; omega
  have hnz2 : ¬ n = 0 := by omega
  have hnz3 : ((n : Int) == 0) = false := by rw [beq_eq_false_iff_ne]; omega
  have hw1 : IntKind.i64.wrap (v.tmod n) = v.tmod n := IntWalk.i64_in _ (by omega)
  have hw2 : IntKind.i64.wrap ((v.tmod n + n).tmod n) = (v.tmod n + n).tmod n := IntWalk.i64_in _ (by rw [HX.out]; omega)
  have ha := h.1
  have hb := h.2
  clear h hr
  go_enter Tryz.func148, Tryz.ntmps148
  go_wp2
  go_ret
  exact ⟨by rw [← HX2.out]; rfl, rfl⟩
theorem impl_istaskof (a : Option Addr) (n cap : Nat) (i : Int) (r : Bool) (hr : r = (decide (0 ≤ i) && decide (i < n))) (w : World) : Calls Tryz.prog 107 #[.agg #[.slice a n cap], .int .i64 i] w (BelB w r) := by
  have c0 : (w.alloc (.cells #[.slice a n cap] 26)).cell? ⟨w.heap.size, 0, none⟩ = some (.slice a n cap) := (Box.new w #[.slice a n cap] _).cell 0
  by_cases h0 : 0 ≤ i
  · by_cases h1 : i < n
    · have HR := Lib.hid (show r = true by rw [hr]; simp [h0, h1])
      clear hr
      go_enter Tryz.func107, Tryz.ntmps107
      go_wp2
      go_ret
      exact ⟨by rw [HR.out]; rfl, below_new _ _⟩
    · have HR := Lib.hid (show r = false by rw [hr]; simp [h0]; omega)
      clear hr
      go_enter Tryz.func107, Tryz.ntmps107
      go_wp2
      go_ret
      exact ⟨by rw [HR.out]; rfl, below_new _ _⟩
  · have HR := Lib.hid (show r = false by rw [hr]; simp [h0])
    clear hr
    go_enter Tryz.func107, Tryz.ntmps107
    go_wp2
    go_ret
    exact ⟨by rw [HR.out]; rfl, below_new _ _⟩
/-- The arguments can be executed. -/
def CanRun (P : List Tk) (V : List Int) (i : Int) : Prop := IsPrg P ∧ varsOk V = true ∧ 0 ≤ i ∧ i < P.length
set_option maxHeartbeats 4000000 in
set_option maxRecDepth 100000 in
theorem impl_can (a : Option Addr) (n cap : Nat) (P : List Tk) (hz : Sizes P) (hcap : n ≤ cap) (w : World) (h : TkRow w a n P) (ad : Option Addr) (nv cv : Nat) (V : List Int) (hnv : (nv : Int) ≤ 1048576) (hV : Row w ad nv V) (i : Int) (r : Bool) (hr : r = true ↔ CanRun P V i) :
    Calls Tryz.prog 147 #[.agg #[.slice a n cap], .int .i64 i, .slice ad nv cv] w (BelB w r) := by
  obtain ⟨W, hW⟩ : ∃ W, W = w.alloc (.cells #[.slice a n cap] 26) := ⟨_, rfl⟩
  have hpw : PrgW w W a n cap P := by rw [hW]; exact prgW_new w a n cap P _ h
  have HP := Lib.hid hpw
  have HW := Lib.hid hW.symm
  have HZ := Lib.hid hz
  have HV := Lib.hid (hV.below hpw.2.2.1)
  have hlen := h.1
  have hn : (n : Int) ≤ 1048576 := by have := hz.1; omega
  have hwl : w.heap.size < W.heap.size := by rw [hW]; simp
  clear h hz hW hpw hV
  have c0 : W.cell? ⟨w.heap.size, 0, none⟩ = some (.slice a n cap) := HP.out.1
  obtain ⟨rp, hrp⟩ := prg_dec P
  have HRP := Lib.hid hrp
  cases rp
  · obtain rfl : r = false := by
      rw [← Bool.not_eq_true]; intro e
      have := hrp.2 (hr.1 e).1; cases this
    clear hr hrp hlen
    go_enter Tryz.func147, Tryz.ntmps147
    go_wp2_with (go_at_call 106; rw [HW.out]; (with_reducible refine (impl_programok a n cap P HZ.out hcap _ HP.out.2.1 false HRP.out).mono ?_); rintro e w2 ⟨rfl, hb2⟩)
    go_ret
    exact ⟨rfl, HP.out.2.2.1.trans (hb2.mono (Nat.le_of_lt hwl))⟩
  · have HPR := Lib.hid (hrp.1 rfl)
    clear hrp
    cases hv : varsOk V
    · obtain rfl : r = false := by
        rw [← Bool.not_eq_true]; intro e
        have := (hr.1 e).2.1; rw [hv] at this; cases this
      have HVF := Lib.hid hv
      clear hr hlen hv
      go_enter Tryz.func147, Tryz.ntmps147
      go_wp2_with (first
        | (go_at_call 106; rw [HW.out]; (with_reducible refine (impl_programok a n cap P HZ.out hcap _ HP.out.2.1 true HRP.out).mono ?_); rintro e w2 ⟨rfl, hb2⟩; refine Hid.out ?_))
      have d0 : w2.cell? ⟨w.heap.size, 0, none⟩ = some (.slice a n cap) := (hb2.cell (p := ⟨w.heap.size, 0, none⟩) hwl).trans c0
      have HB2 := Lib.hid hb2
      clear hb2
      refine Lib.hid ?_
      go_wp2_with (first
        | (go_at_call 108; refine (impl_vars _ ad nv cv V hnv (HV.out.below HB2.out) false HVF.out).mono ?_; rintro e w3 ⟨rfl, rfl⟩))
      go_ret
      exact ⟨rfl, HP.out.2.2.1.trans (HB2.out.mono (Nat.le_of_lt hwl))⟩
    · have HVT := Lib.hid hv
      obtain ⟨q, hq⟩ : ∃ q, q = (decide (0 ≤ i) && decide (i < (n : Int))) := ⟨_, rfl⟩
      obtain rfl : r = q := by
        rw [Bool.eq_iff_iff, hr, hq]
        simp only [CanRun, hlen, Bool.and_eq_true, decide_eq_true_eq]
        exact ⟨fun h => h.2.2, fun h => ⟨HPR.out, hv, h⟩⟩
      have HIN := Lib.hid hq
      clear hr hlen hv hq
      go_enter Tryz.func147, Tryz.ntmps147
      go_wp2_with (first
        | (go_at_call 106; rw [HW.out]; (with_reducible refine (impl_programok a n cap P HZ.out hcap _ HP.out.2.1 true HRP.out).mono ?_); rintro e w2 ⟨rfl, hb2⟩; refine Hid.out ?_))
      have d0 : w2.cell? ⟨w.heap.size, 0, none⟩ = some (.slice a n cap) := (hb2.cell (p := ⟨w.heap.size, 0, none⟩) hwl).trans c0
      have HB2 := Lib.hid hb2
      clear hb2
      refine Lib.hid ?_
      go_wp2_with (first
        | (go_at_call 108; refine (impl_vars _ ad nv cv V hnv (HV.out.below HB2.out) true HVT.out).mono ?_; rintro e w3 ⟨rfl, rfl⟩)
        | (go_at_call 107; (with_reducible refine (impl_istaskof a n cap _ r HIN.out _).mono ?_); rintro e w3 ⟨rfl, hb3⟩))
      go_ret
      exact ⟨rfl, HP.out.2.2.1.trans ((below_then HB2.out hb3).mono (Nat.le_of_lt hwl))⟩
theorem can_next {P : List Tk} {V : List Int} {i : Int} (h : ¬ CanRun P V i) : ¬ IsPrg P ∨ varsOk V = false ∨ i < 0 ∨ (P.length : Int) ≤ i := by
  rcases Classical.em (IsPrg P) with h1 | h1
  · cases h2 : varsOk V
    · exact .inr (.inl rfl)
    · right; right
      rcases (show i < 0 ∨ (P.length : Int) ≤ i ∨ (0 ≤ i ∧ i < P.length) by omega) with h3 | h3 | h3
      · exact .inl h3
      · exact .inr h3
      · exact absurd ⟨h1, h2, h3⟩ h
  · exact .inl h1
theorem can_dec (P : List Tk) (V : List Int) (i : Int) : ∃ r : Bool, r = true ↔ CanRun P V i := by
  rcases Classical.em (CanRun P V i) with h | h
  · exact ⟨true, by simp [h]⟩
  · exact ⟨false, by simp [h]⟩
set_option maxHeartbeats 4000000 in
set_option maxRecDepth 100000 in
theorem impl_nexttask (a : Option Addr) (n cap : Nat) (P : List Tk) (hz : Sizes P) (hcap : n ≤ cap) (w : World) (h : TkRow w a n P) (ad : Option Addr) (nv cv : Nat) (V : List Int) (hnv : (nv : Int) ≤ 1048576) (hV : Row w ad nv V) (i X : Int) (hX : NextIs P V i X) :
    Calls Tryz.prog 86 #[.agg #[.slice a n cap], .slice ad nv cv, .int .i64 i] w (BelI w X) := by
  obtain ⟨W, hW⟩ : ∃ W, W = w.alloc (.cells #[.slice a n cap] 26) := ⟨_, rfl⟩
  have hpw : PrgW w W a n cap P := by rw [hW]; exact prgW_new w a n cap P _ h
  have HP := Lib.hid hpw
  have HW := Lib.hid hW.symm
  have HZ := Lib.hid hz
  have HV := Lib.hid (hV.below hpw.2.2.1)
  have hlen := h.1
  have hn : (n : Int) ≤ 1048576 := by have := hz.1; omega
  have hwl : w.heap.size < W.heap.size := by rw [hW]; simp
  clear h hz hW hpw hV
  have c0 : W.cell? ⟨w.heap.size, 0, none⟩ = some (.slice a n cap) := HP.out.1
  obtain ⟨rc, hrc⟩ := can_dec P V i
  have HRC := Lib.hid hrc
  cases rc
  · obtain rfl := hX.not (by
      rcases can_next (show ¬ CanRun P V i from fun h => by have := hrc.2 h; cases this) with h | h | h | h
      · exact .inl h
      · exact .inr (.inl h)
      · exact .inr (.inr (.inl h))
      · exact .inr (.inr (.inr h)))
    clear hX hrc hlen
    go_enter Tryz.func86, Tryz.ntmps86
    go_wp2_with (go_at_call 147; rw [HW.out]; (with_reducible refine (impl_can a n cap P HZ.out hcap _ HP.out.2.1 ad nv cv V hnv HV.out i false HRC.out).mono ?_); rintro e w2 ⟨rfl, hb2⟩)
    go_ret
    exact ⟨rfl, HP.out.2.2.1.trans (hb2.mono (Nat.le_of_lt hwl))⟩
  · have hcan := hrc.1 rfl
    have HPR := Lib.hid hcan.1
    have hv := hcan.2.1
    have h0 := hcan.2.2.1
    have h1 := hcan.2.2.2
    rw [hlen] at h1
    clear hrc hcan
    obtain ⟨j, rfl⟩ : ∃ j : Nat, i = j := ⟨i.toNat, by omega⟩
    obtain ⟨t, ht⟩ := prg_at (show j < P.length by omega)
    have hXe := hX.yes HPR.out hv ht
    rw [hlen] at hXe
    have hjn : j < n := by omega
    have hn6 : n ≤ 6 := by have := HPR.out.2.1; omega
    have hn0 : 0 < n := by omega
    have HTK := Lib.hid (And.intro ht (HPR.out.2.2 t (mem_at ht)).2)
    have HXE := Lib.hid hXe
    clear hX hv hXe ht
    go_enter Tryz.func86, Tryz.ntmps86
    go_wp2_with (first
      | (go_at_call 147; rw [HW.out]; (with_reducible refine (impl_can a n cap P HZ.out hcap _ HP.out.2.1 ad nv cv V hnv HV.out j true HRC.out).mono ?_); rintro e w3 ⟨rfl, hb3⟩; refine Hid.out ?_))
    have HB3 := Lib.hid hb3
    have HV3 := Lib.hid (HV.out.below HB3.out)
    obtain ⟨g, off, t', ha, hlb, ht', ab, nb, cb, hrg, hbc, hrow⟩ := (HP.out.2.1.below HB3.out).2 j hjn
    obtain rfl : t' = t := by have := HTK.out.1; rw [ht'] at this; exact (Option.some.inj this)
    subst ha
    have e0 : w3.cell? ⟨w.heap.size, 0, none⟩ = some (.slice (some ⟨g, off, none⟩) n cap) := (HB3.out.cell (p := ⟨w.heap.size, 0, none⟩) hwl).trans c0
    have hwl3 := Nat.lt_of_lt_of_le hwl HB3.out.size
    have q := range4 hrg
    have e0' : w3.drew.cell? ⟨w.heap.size, 0, none⟩ = some (.slice (some ⟨g, off, none⟩) n cap) := e0
    have q1 : w3.drew.cell? ⟨g, off + j * 4 + 1, none⟩ = some (.int .i64 t'.o) := q.2.1
    have q2 : w3.drew.cell? ⟨g, off + j * 4 + 2, none⟩ = some (.int .i64 t'.x) := q.2.2.1
    have q3 : w3.drew.cell? ⟨g, off + j * 4 + 3, none⟩ = some (.int .i64 t'.y) := q.2.2.2
    have hI : (j : Int) < n := by omega
    obtain ⟨v, hvv⟩ : ∃ v, evalV V t'.o t'.x t'.y = v := ⟨_, rfl⟩
    have HEV := Lib.hid (show ∀ w', Row w' ad nv V → Calls Tryz.prog 149 #[.slice ad nv cv, ev t'.o t'.x t'.y] w' (BelI w' v) from fun w' hr => by have h9 := impl_evalExpr w' ad nv cv V hnv hr t'.o t'.x t'.y; rw [hvv] at h9; exact h9)
    rw [hvv] at HXE
    clear hb3 q hrg hrow hbc ht' hvv
    refine Lib.hid ?_
    go_wp2
    go_region_held3 (fun w' => w'.cell? ⟨w.heap.size, 0, none⟩ = some (.slice (some ⟨g, off, none⟩) n cap) ∧ w'.cell? ⟨g, off + j * 4 + 1, none⟩ = some (.int .i64 t'.o) ∧ w'.cell? ⟨g, off + j * 4 + 2, none⟩ = some (.int .i64 t'.x) ∧ w'.cell? ⟨g, off + j * 4 + 3, none⟩ = some (.int .i64 t'.y))
      (first | (exact ⟨e0', q1, q2, q3⟩) | (exact ⟨(drew_below hb4).cell (p := ⟨w.heap.size, 0, none⟩) hwl3 |>.trans e0, (drew_below hb4).cell (p := ⟨g, off + j * 4 + 1, none⟩) hlb |>.trans q1, (drew_below hb4).cell (p := ⟨g, off + j * 4 + 2, none⟩) hlb |>.trans q2, (drew_below hb4).cell (p := ⟨g, off + j * 4 + 3, none⟩) hlb |>.trans q3⟩))
      (first
        | (go_at_call 149; refine (HEV.out _ (HV3.out.below (Below.drew (Below.refl _ w3)))).mono ?_; rintro e w4 ⟨rfl, hb4⟩)
        | (go_at_call 148; refine (impl_modulo v n hn0 hn6 _).mono ?_; rintro e w5 ⟨rfl, rfl⟩))
    have HB4 := Lib.hid (HB3.out.trans ((drew_below hb4).mono HB3.out.size))
    clear hb4 e0 e0' q1 q2 q3
    refine Lib.hid ?_
    go_wp2
    go_ret
    exact ⟨by rw [HXE.out]; rfl, HP.out.2.2.1.trans (HB4.out.mono (Nat.le_of_lt hwl))⟩
end Go.Proofs.YtmgeecdgebemdaaGreatDoor.prg

/- Chapter 9's memory: the entries of the log that the control word counts, of the program; what makes a memory valid. -/
namespace Go.Proofs.YtmgeecdgebemdaaGreatDoor.mem
open Go.ChangeShapes Go.WideShapes Go.ChangeAt Go.RowKit Go.Proofs.YtmgeecdgebemdaaGreatDoor.row Go.Proofs.YtmgeecdgebemdaaGreatDoor.val Go.Proofs.YtmgeecdgebemdaaGreatDoor.expr Go.Proofs.YtmgeecdgebemdaaGreatDoor.stm Go.Proofs.YtmgeecdgebemdaaGreatDoor.blk Go.Proofs.YtmgeecdgebemdaaGreatDoor.prg Go.Proofs.YtmgeecdgebemdaaGreatDoor.ctl
/-- The first 'k' entries of the log are good. -/
def LogV (L : List Int) (k : Nat) : Prop := ∀ i, i < k → varOk (L.getD (9 + 2 * i) 0) = true ∧ isVal (L.getD (10 + 2 * i) 0) = true
theorem LogV.zero (L : List Int) : LogV L 0 := fun i hi => by omega
theorem LogV.next {L : List Int} {k : Nat} (h : LogV L k) (h1 : varOk (L.getD (9 + 2 * k) 0) = true) (h2 : isVal (L.getD (10 + 2 * k) 0) = true) : LogV L (k + 1) := fun i hi => by
  rcases (show i < k ∨ i = k by omega) with h' | rfl
  · exact h i h'
  · exact ⟨h1, h2⟩
theorem logV_no {L : List Int} {k c : Nat} (hk : k < c) {r : Bool} (hr : r = true ↔ LogV L c) (h : varOk (L.getD (9 + 2 * k) 0) = false ∨ isVal (L.getD (10 + 2 * k) 0) = false) : r = false := by
  rw [← Bool.not_eq_true]; intro e
  have := hr.1 e k hk
  rcases h with h | h
  · rw [this.1] at h; cases h
  · rw [this.2] at h; cases h
theorem row_word {w : World} {b off n j : Nat} {L : List Int} (h : Row w (some ⟨b, off, none⟩) n L) (hj : j < n) : w.cell? ⟨b, off + j, none⟩ = some (.int .i64 (L.getD j 0)) := by
  obtain ⟨b', off', x, e, _, hx, hc⟩ := h.2 j hj
  cases e
  rw [hc, List.getD_eq_getElem?_getD, hx]; rfl

set_option maxRecDepth 100000 in
set_option maxHeartbeats 2000000 in
theorem impl_logok (w : World) (L : List Int) (hL : L.length = 49) (c : Nat) (hc : c ≤ 8) (r : Bool) (hr : r = true ↔ LogV L c) :
    Calls Tryz.prog 110 #[memV L, .int .i64 c] w (BelB w r) := by
  have HBX := Lib.hid (show Box w.heap.size (ivs L).toArray TM (w.alloc (.cells (ivs L).toArray TM)) from Box.new _ _ _)
  have HB := Lib.hid (below_new w (.cells (ivs L).toArray TM))
  have HI := Lib.hid (mem_info hL)
  have HR := Lib.hid hr
  have HLL := Lib.hid hL
  have hc8 : (c : Int) ≤ 8 := by omega
  obtain ⟨W, hW⟩ : ∃ W, w.alloc (.cells (ivs L).toArray TM) = W := ⟨_, rfl⟩
  rw [hW] at HBX HB
  have HCC := Lib.hid hc
  clear hr hc hL
  go_enter Tryz.func110, Tryz.ntmps110
  (try rw [hW])
  go_wp2
  go_loopw [5, 6, 7, 9] (fun _ _ _ i wr => ∃ k : Nat, k ≤ c ∧ i = .int .i64 k ∧ Hid (LogV L k) ∧ Hid (Box w.heap.size (ivs L).toArray TM wr ∧ Below w.heap.size w wr)) (fun _ _ _ i _ => c - (intOf i).toNat)
  case atStart => exact ⟨0, Nat.zero_le _, rfl, LogV.zero L, HBX.out, HB.out⟩
  case round =>
    obtain ⟨k, hk, rfl, hV, HK⟩ := hrel
    by_cases hlt : k < c
    · have hI : (k : Int) < c := by omega
      obtain ⟨x, hx⟩ : ∃ x, L.getD (9 + 2 * k) 0 = x := ⟨_, rfl⟩
      obtain ⟨y, hy⟩ : ∃ y, L.getD (10 + 2 * k) 0 = y := ⟨_, rfl⟩
      have HEN := Lib.hid (impl_logentry wr L HLL.out k (by have := HCC.out; omega) x y hx hy)
      have HN := Lib.hid (And.intro hx hy)
      clear hx hy
      cases h1 : varOk x
      · have HV1 := Lib.hid h1
        have HF := Lib.hid (logV_no hlt HR.out (.inl (by rw [HN.out.1]; exact h1)))
        clear h1
        go_wp2_with (first
          | (refine wpList_load_row rfl TM _ rfl w.heap.size rfl _ _ _ _ HK.out.1 Tryz.underlying121 rfl HI.out ?_)
          | (go_at_call 116; (with_reducible refine HEN.out.mono ?_); rintro e w2 ⟨rfl, hb2⟩; refine Hid.out ?_))
        have HB2 := Lib.hid (below_then HK.out.2 hb2)
        clear hb2
        refine Lib.hid ?_
        go_wp2_with (go_at_call 117; refine (varnum _ _ HV1.out _).mono ?_; rintro e w3 ⟨rfl, rfl⟩)
        go_ret
        exact ⟨by rw [HF.out]; rfl, HB2.out⟩
      · have HV1 := Lib.hid h1
        clear h1
        cases h2 : isVal y
        · have HV2 := Lib.hid (show isVal y = false from h2)
          have HF := Lib.hid (logV_no hlt HR.out (.inr (by rw [HN.out.2]; exact h2)))
          go_wp2_with (first
            | (refine wpList_load_row rfl TM _ rfl w.heap.size rfl _ _ _ _ HK.out.1 Tryz.underlying121 rfl HI.out ?_)
            | (go_at_call 116; (with_reducible refine HEN.out.mono ?_); rintro e w2 ⟨rfl, hb2⟩; refine Hid.out ?_))
          have HB2 := Lib.hid (below_then HK.out.2 hb2)
          clear hb2
          refine Lib.hid ?_
          go_wp2_with (first
            | (go_at_call 117; refine (varnum _ _ HV1.out _).mono ?_; rintro e w3 ⟨rfl, rfl⟩)
            | (go_at_call 159; refine (impl_isval _ _).mono ?_; rintro e w3 ⟨rfl, rfl⟩))
          go_ret
          exact ⟨by rw [HF.out]; rfl, HB2.out⟩
        · have HV2 := Lib.hid (hV.out.next (by rw [HN.out.1]; exact HV1.out) (by rw [HN.out.2]; exact h2))
          go_wp2_with (first
            | (refine wpList_load_row rfl TM _ rfl w.heap.size rfl _ _ _ _ HK.out.1 Tryz.underlying121 rfl HI.out ?_)
            | (go_at_call 116; (with_reducible refine HEN.out.mono ?_); rintro e w2 ⟨rfl, hb2⟩; refine Hid.out ?_))
          have HB2 := Lib.hid (And.intro (HK.out.1.below hb2) (below_then HK.out.2 hb2))
          clear hb2
          refine Lib.hid ?_
          go_wp2_with (first
            | (go_at_call 117; refine (varnum _ _ HV1.out _).mono ?_; rintro e w3 ⟨rfl, rfl⟩)
            | (go_at_call 159; refine (impl_isval _ _).mono ?_; rintro e w3 ⟨rfl, rfl⟩))
          go_roundw
          case rel => exact ⟨k + 1, by omega, by go_num, HV2, HB2⟩
          case measure => simp [intOf]; omega
    · have hkc : k = c := by omega
      subst hkc
      have HF := Lib.hid (HR.out.2 hV.out)
      clear hV
      go_wp2
      go_ret
      exact ⟨by rw [HF.out]; rfl, HK.out.2⟩
end Go.Proofs.YtmgeecdgebemdaaGreatDoor.mem
