/- Several texts in one: EvalC PrgI MemL. -/
import Derived.Test.YtlicadaecfgklaaGreatGHub14
import Derived.Deep.QuietTactic
import Derived.BigQuiet
import Derived.Test.YtlicadaecfgklaaGreatGHub21
import Derived.Test.YtlicadaecfgklaaGreatGHub12
import Derived.Deep.RegionHeld3

/- Chapter 3's EvalExpr of the program: the plain function 'evalV'; nothing that was there is written. -/
namespace Go.Proofs.YtlicadaecfgklaaGreat.expr
open Go.ChangeShapes Go.WideShapes Go.ChangeAt Go.RowKit Go.Proofs.YtlicadaecfgklaaGreat.row Go.Proofs.YtlicadaecfgklaaGreat.val

theorem retq {P : Program} {f : FuncId} {args : Array Value} {w : World} {x : Int} (h : Calls P f args w (Ret w x)) : Calls P f args w fun e w' => e = .returned (.int .i64 x) ∧ w' = w := h.mono fun _ _ ⟨a, b⟩ => ⟨a, b.symm⟩
end Go.Proofs.YtlicadaecfgklaaGreat.expr

/- Chapter 6's program: taskOk, ProgramOk, NextTask: what the plain relations say; nothing that was there is written. -/
namespace Go.Proofs.YtlicadaecfgklaaGreat.prg
open Go Go.ChangeShapes Go.WideShapes Go.ChangeAt Go.RowKit Go.Proofs.YtlicadaecfgklaaGreat.row Go.Proofs.YtlicadaecfgklaaGreat.val Go.Proofs.YtlicadaecfgklaaGreat.expr Go.Proofs.YtlicadaecfgklaaGreat.stm Go.Proofs.YtlicadaecfgklaaGreat.blk

set_option maxHeartbeats 2000000 in
set_option maxRecDepth 100000 in
theorem impl_taskok (ab : Option Addr) (nb cb : Nat) (t : Tk) (hnb : (nb : Int) ≤ 1048576) (w : World) (h : StRow w ab nb t.b) (r : Bool) (hr : r = true ↔ (IsBlk t.b ∧ exprOk t.o t.x t.y = true)) :
    Calls Tryz.prog 53 #[tkV ab nb cb t] w (BelB w r) := by
  obtain ⟨B, o, x, y⟩ := t
  obtain ⟨W, hW⟩ : ∃ W, W = w.alloc (.cells #[.slice ab nb cb, .int .i64 o, .int .i64 x, .int .i64 y] 47) := ⟨_, rfl⟩
  have hbx : Box w.heap.size #[.slice ab nb cb, .int .i64 o, .int .i64 x, .int .i64 y] 47 W := by rw [hW]; exact Box.new _ _ _
  have hBW : Below w.heap.size w W := by rw [hW]; exact below_new _ _
  have H := Lib.hid (And.intro hBW (h.below hBW))
  have HX := Lib.hid hbx
  have HW := Lib.hid hW.symm
  have c0 : W.cell? ⟨w.heap.size, 0, none⟩ = some (.slice ab nb cb) := hbx.cell 0
  obtain ⟨rb, hrb⟩ := blk_dec B
  have HRB := Lib.hid hrb
  clear h hbx hBW hW
  cases rb
  · have hrf : r = false := by rw [← Bool.not_eq_true]; intro e; have := hrb.2 (hr.1 e).1; cases this
    clear hrb hr
    subst hrf
    go_enter Tryz.func53, Tryz.ntmps53
    go_wp2_with (go_at_call 50; rw [HW.out]; (with_reducible refine (impl_blockok ab nb cb B hnb _ H.out.2 false HRB.out).mono ?_); rintro e w2 ⟨rfl, hb2⟩)
    go_ret
    exact ⟨rfl, below_then H.out.1 hb2⟩
  · have hre : exprOk o x y = r := by
      have h1 := hrb.1 rfl
      cases r
      · rw [← Bool.not_eq_true]; intro e; have := hr.2 ⟨h1, e⟩; cases this
      · exact (hr.1 rfl).2
    have HRE := Lib.hid hre
    clear hrb hr hre
    go_enter Tryz.func53, Tryz.ntmps53
    go_wp2_with (go_at_call 50; rw [HW.out]; (with_reducible refine (impl_blockok ab nb cb B hnb _ H.out.2 true HRB.out).mono ?_); rintro e w2 ⟨rfl, hb2⟩; refine Hid.out ?_)
    have HX2 := Lib.hid (HX.out.below hb2)
    have d1 : w2.cell? ⟨w.heap.size, 1, none⟩ = some (.int .i64 o) := HX2.out.cell 1
    have d2 : w2.cell? ⟨w.heap.size, 2, none⟩ = some (.int .i64 x) := HX2.out.cell 2
    have d3 : w2.cell? ⟨w.heap.size, 3, none⟩ = some (.int .i64 y) := HX2.out.cell 3
    have HB2 := Lib.hid (below_then H.out.1 hb2)
    clear hb2
    refine Lib.hid ?_
    go_wp2_with (go_at_call 75; (with_reducible refine (impl_exprok o x y r HRE.out _).mono ?_); rintro e w3 ⟨rfl, hb3⟩)
    go_ret
    exact ⟨rfl, below_then HB2.out hb3⟩
theorem tsk_dec (t : Tk) : ∃ r : Bool, r = true ↔ (IsBlk t.b ∧ exprOk t.o t.x t.y = true) := by
  rcases Classical.em (IsBlk t.b ∧ exprOk t.o t.x t.y = true) with h | h
  · exact ⟨true, fun _ => h, fun _ => rfl⟩
  · exact ⟨false, fun e => (by cases e), fun e => absurd e h⟩
set_option maxHeartbeats 4000000 in
set_option maxRecDepth 100000 in
theorem impl_programok (a : Option Addr) (n cap : Nat) (P : List Tk) (hz : Sizes P) (hcap : n ≤ cap) (w : World) (h : TkRow w a n P) (r : Bool) (hr : r = true ↔ IsPrg P) :
    Calls Tryz.prog 42 #[.agg #[.slice a n cap]] w (BelB w r) := by
  obtain ⟨W, hW⟩ : ∃ W, W = w.alloc (.cells #[.slice a n cap] 30) := ⟨_, rfl⟩
  have hpw : PrgW w W a n cap P := by rw [hW]; exact prgW_new w a n cap P _ h
  have c0 : W.cell? ⟨w.heap.size, 0, none⟩ = some (.slice a n cap) := hpw.1
  have HP := Lib.hid hpw
  have HW := Lib.hid hW.symm
  have HR := Lib.hid hr
  have HZ := Lib.hid hz
  have hlen := h.1
  have hn : (n : Int) ≤ 1048576 := by have := hz.1; omega
  have hwl : w.heap.size < W.heap.size := by rw [hW]; simp
  clear hpw
  by_cases h0 : n = 0
  · have hrf : r = false := by rw [← Bool.not_eq_true]; intro e; have := (hr.1 e).1; omega
    have hq : ((n : Int) == 0) = true := by rw [h0]; rfl
    clear h hr hz hW hlen h0
    subst hrf
    go_enter Tryz.func42, Tryz.ntmps42
    go_wp2
    rw [HW.out]
    go_wp2
    go_ret
    exact ⟨rfl, HP.out.2.2.1⟩
  · have hq : ((n : Int) == 0) = false := by rw [beq_eq_false_iff_ne]; omega
    by_cases h6 : (6 : Int) < n
    · have hrf : r = false := by rw [← Bool.not_eq_true]; intro e; have := (hr.1 e).2.1; omega
      clear h hr hz hW hlen h0
      subst hrf
      go_enter Tryz.func42, Tryz.ntmps42
      go_wp2
      rw [HW.out]
      go_wp2
      go_ret
      exact ⟨rfl, HP.out.2.2.1⟩
    · have HLN := Lib.hid hlen
      have H06 := Lib.hid (And.intro h0 h6)
      clear h hr hz hW hlen h0
      go_enter Tryz.func42, Tryz.ntmps42
      go_wp2
      rw [HW.out]
      go_wp2
      go_loopw [18] (fun i wr => ∃ k : Nat, k ≤ n ∧ i = .int .i64 k ∧ Hid (OkTasks P k) ∧ Below W.heap.size W wr) (fun i _ => n - (intOf i).toNat)
      case atStart => exact ⟨0, Nat.zero_le _, rfl, OkTasks.zero P, Below.refl _ _⟩
      case round =>
        obtain ⟨k, hk, rfl, hO, hbel⟩ := hrel
        by_cases hlt : k < n
        · obtain ⟨g, off, t, rfl, hlb, ht, ab, nb, cb, hrg, hbc, hrow⟩ := (HP.out.2.1.below hbel).2 k hlt
          have hI : (k : Int) < n := by omega
          have hnb : (nb : Int) ≤ 1048576 := by have := HZ.out.2 t (mem_at ht); rw [hrow.1] at this; omega
          have HT := Lib.hid (And.intro ht (And.intro hrow (And.intro hbel hrg)))
          have HX := Lib.hid (And.intro (Box.new wr zeroTk 47) ((Below.refl wr.heap.size wr).alloc (Nat.le_refl _) (.cells zeroTk 47)))
          obtain ⟨rb, hrb⟩ := tsk_dec t
          have HRB := Lib.hid hrb
          have hwl2 := Nat.lt_of_lt_of_le hwl hbel.size
          clear ht hrow hrg hbel
          go_wp2_with (first
            | (refine wpList_load_mid rfl 47 _ rfl g (off + k * 4) rfl (tkC ab nb cb t) _ HT.out.2.2.2 Tryz.underlying47 rfl (by kernel_rfl) ?_)
            | ((refine wpList_store_box rfl 47 _ _ rfl wr.heap.size _ _ HX.out.1 #[.slice ab nb cb, .int .i64 t.o, .int .i64 t.x, .int .i64 t.y] rfl rfl rfl (by kernel_rfl) (by simp [Value.oneCell']) ?_); intro w1 hx1 hg1; refine Hid.out ?_))
          have H1 := Lib.hid (And.intro hx1 (HX.out.2.grown hg1 HX.out.2.size (fun j hj => by cases hj; exact Nat.le_refl _)))
          clear hx1 hg1
          refine Lib.hid ?_
          cases rb
          · have hrf : r = false := by
              rw [← Bool.not_eq_true]; intro e
              have := hrb.2 ((HR.out.1 e).2.2 t (mem_at HT.out.1)); cases this
            clear hrb
            subst hrf
            go_wp2_with (first
              | (refine wpList_load_row rfl 47 _ rfl wr.heap.size rfl _ _ _ _ H1.out.1 Tryz.underlying47 rfl (by kernel_rfl) ?_)
              | (go_at_call 53; (with_reducible refine (impl_taskok ab nb cb t hnb _ (HT.out.2.1.below H1.out.2) false HRB.out).mono ?_); rintro e w2 ⟨rfl, hb2⟩))
            go_ret
            exact ⟨rfl, HP.out.2.2.1.trans ((below_then HT.out.2.2.1 (below_then H1.out.2 hb2)).mono (Nat.le_of_lt hwl))⟩
          · have HBK := Lib.hid (hrb.1 rfl)
            clear hrb
            go_wp2_with (first
              | (refine wpList_load_row rfl 47 _ rfl wr.heap.size rfl _ _ _ _ H1.out.1 Tryz.underlying47 rfl (by kernel_rfl) ?_)
              | (go_at_call 53; (with_reducible refine (impl_taskok ab nb cb t hnb _ (HT.out.2.1.below H1.out.2) true HRB.out).mono ?_); rintro e w2 ⟨rfl, hb2⟩; refine Hid.out ?_))
            have HB2 := Lib.hid (below_then HT.out.2.2.1 (below_then H1.out.2 hb2))
            clear hb2
            refine Lib.hid ?_
            go_wp2
            go_roundw
            case rel => exact ⟨k + 1, by omega, by go_num, hO.out.next HT.out.1 HBK.out.1 HBK.out.2, HB2.out⟩
            case measure => simp [intOf]; omega
        · obtain rfl : k = n := by omega
          have hI : ¬ (k : Int) < k := by omega
          have hrt : r = true := HR.out.2 (isPrg_iff.2 ⟨by rw [HLN.out]; have := H06.out; omega, by rw [HLN.out]; exact hO.out⟩)
          have HBB := Lib.hid hbel
          clear hbel
          subst hrt
          go_wp2
          go_ret
          exact ⟨rfl, HP.out.2.2.1.trans (HBB.out.mono (Nat.le_of_lt hwl))⟩
theorem nx_twice {v : Int} {n : Nat} (hn : 0 < n) : (v.tmod n + n).tmod n = nx v n := by
  have h := tmod_bds (v := v) hn
  unfold nx
  split
  · rw [Int.tmod_eq_of_lt (by omega) (by omega)]
  · rw [Int.tmod_eq_emod_of_nonneg (by omega), Int.add_emod_right, Int.emod_eq_of_lt (by omega) (by omega)]
theorem impl_istaskof (a : Option Addr) (n cap : Nat) (i : Int) (r : Bool) (hr : r = (decide (0 ≤ i) && decide (i < n))) (w : World) : Calls Tryz.prog 43 #[.agg #[.slice a n cap], .int .i64 i] w (BelB w r) := by
  have c0 : (w.alloc (.cells #[.slice a n cap] 30)).cell? ⟨w.heap.size, 0, none⟩ = some (.slice a n cap) := (Box.new w #[.slice a n cap] _).cell 0
  by_cases h0 : 0 ≤ i
  · by_cases h1 : i < n
    · have HR := Lib.hid (show r = true by rw [hr]; simp [h0, h1])
      clear hr
      go_enter Tryz.func43, Tryz.ntmps43
      go_wp2
      go_ret
      exact ⟨by rw [HR.out]; rfl, below_new _ _⟩
    · have HR := Lib.hid (show r = false by rw [hr]; simp [h0]; omega)
      clear hr
      go_enter Tryz.func43, Tryz.ntmps43
      go_wp2
      go_ret
      exact ⟨by rw [HR.out]; rfl, below_new _ _⟩
  · have HR := Lib.hid (show r = false by rw [hr]; simp [h0])
    clear hr
    go_enter Tryz.func43, Tryz.ntmps43
    go_wp2
    go_ret
    exact ⟨by rw [HR.out]; rfl, below_new _ _⟩
/-- The arguments can be executed. -/
def CanRun (P : List Tk) (V : List Int) (i : Int) : Prop := IsPrg P ∧ varsOk V = true ∧ 0 ≤ i ∧ i < P.length
theorem can_next {P : List Tk} {V : List Int} {i : Int} (h : ¬ CanRun P V i) : ¬ IsPrg P ∨ varsOk V = false ∨ i < 0 ∨ (P.length : Int) ≤ i := by
  rcases Classical.em (IsPrg P) with h1 | h1
  · cases h2 : varsOk V
    · exact .inr (.inl rfl)
    · right; right
      rcases (show i < 0 ∨ (P.length : Int) ≤ i ∨ (0 ≤ i ∧ i < P.length) by omega) with h3 | h3 | h3
      · exact .inl h3
      · exact .inr h3
      · exact absurd ⟨h1, h2, h3⟩ h
  · exact .inl h1
theorem can_dec (P : List Tk) (V : List Int) (i : Int) : ∃ r : Bool, r = true ↔ CanRun P V i := by
  rcases Classical.em (CanRun P V i) with h | h
  · exact ⟨true, by simp [h]⟩
  · exact ⟨false, by simp [h]⟩
end Go.Proofs.YtlicadaecfgklaaGreat.prg

/- Chapter 9's memory: the entries of the log that the control word counts, of the program; what makes a memory valid. -/
namespace Go.Proofs.YtlicadaecfgklaaGreat.mem
open Go.ChangeShapes Go.WideShapes Go.ChangeAt Go.RowKit Go.Proofs.YtlicadaecfgklaaGreat.row Go.Proofs.YtlicadaecfgklaaGreat.val Go.Proofs.YtlicadaecfgklaaGreat.expr Go.Proofs.YtlicadaecfgklaaGreat.stm Go.Proofs.YtlicadaecfgklaaGreat.blk Go.Proofs.YtlicadaecfgklaaGreat.prg Go.Proofs.YtlicadaecfgklaaGreat.ctl

/-- The first 'k' entries of the log are good. -/
def LogV (L : List Int) (k : Nat) : Prop := ∀ i, i < k → varOk (L.getD (9 + 2 * i) 0) = true ∧ isVal (L.getD (10 + 2 * i) 0) = true
theorem LogV.zero (L : List Int) : LogV L 0 := fun i hi => by omega
theorem LogV.next {L : List Int} {k : Nat} (h : LogV L k) (h1 : varOk (L.getD (9 + 2 * k) 0) = true) (h2 : isVal (L.getD (10 + 2 * k) 0) = true) : LogV L (k + 1) := fun i hi => by
  rcases (show i < k ∨ i = k by omega) with h' | rfl
  · exact h i h'
  · exact ⟨h1, h2⟩
theorem logV_no {L : List Int} {k c : Nat} (hk : k < c) {r : Bool} (hr : r = true ↔ LogV L c) (h : varOk (L.getD (9 + 2 * k) 0) = false ∨ isVal (L.getD (10 + 2 * k) 0) = false) : r = false := by
  rw [← Bool.not_eq_true]; intro e
  have := hr.1 e k hk
  rcases h with h | h
  · rw [this.1] at h; cases h
  · rw [this.2] at h; cases h
theorem word_at {L : List Int} {n j : Nat} (hl : L.length = n) (hj : j < n) : L[j]? = some (L.getD j 0) := by
  rw [List.getD_eq_getElem?_getD, List.getElem?_eq_getElem (by omega)]; rfl
theorem row_word {w : World} {b off n j : Nat} {L : List Int} (h : Row w (some ⟨b, off, none⟩) n L) (hj : j < n) : w.cell? ⟨b, off + j, none⟩ = some (.int .i64 (L.getD j 0)) := by
  obtain ⟨b', off', x, e, _, hx, hc⟩ := h.2 j hj
  cases e
  rw [hc, List.getD_eq_getElem?_getD, hx]; rfl

set_option maxRecDepth 100000 in
set_option maxHeartbeats 2000000 in
theorem impl_logok (w : World) (L : List Int) (hL : L.length = 49) (c : Nat) (hc : c ≤ 8) (r : Bool) (hr : r = true ↔ LogV L c) :
    Calls Tryz.prog 47 #[memV L, .int .i64 c] w (BelB w r) := by
  have HBX := Lib.hid (show Box w.heap.size (ivs L).toArray TM (w.alloc (.cells (ivs L).toArray TM)) from Box.new _ _ _)
  have HB := Lib.hid (below_new w (.cells (ivs L).toArray TM))
  have HI := Lib.hid (mem_info hL)
  have HR := Lib.hid hr
  have HLL := Lib.hid hL
  have hc8 : (c : Int) ≤ 8 := by omega
  obtain ⟨W, hW⟩ : ∃ W, w.alloc (.cells (ivs L).toArray TM) = W := ⟨_, rfl⟩
  rw [hW] at HBX HB
  have HCC := Lib.hid hc
  clear hr hc hL
  go_enter Tryz.func47, Tryz.ntmps47
  (try rw [hW])
  go_wp2
  go_loopw [5, 6, 7, 9] (fun _ _ _ i wr => ∃ k : Nat, k ≤ c ∧ i = .int .i64 k ∧ Hid (LogV L k) ∧ Hid (Box w.heap.size (ivs L).toArray TM wr ∧ Below w.heap.size w wr)) (fun _ _ _ i _ => c - (intOf i).toNat)
  case atStart => exact ⟨0, Nat.zero_le _, rfl, LogV.zero L, HBX.out, HB.out⟩
  case round =>
    obtain ⟨k, hk, rfl, hV, HK⟩ := hrel
    by_cases hlt : k < c
    · have hI : (k : Int) < c := by omega
      obtain ⟨x, hx⟩ : ∃ x, L.getD (9 + 2 * k) 0 = x := ⟨_, rfl⟩
      obtain ⟨y, hy⟩ : ∃ y, L.getD (10 + 2 * k) 0 = y := ⟨_, rfl⟩
      have HEN := Lib.hid (impl_logentry wr L HLL.out k (by have := HCC.out; omega) x y hx hy)
      have HN := Lib.hid (And.intro hx hy)
      clear hx hy
      cases h1 : varOk x
      · have HV1 := Lib.hid h1
        have HF := Lib.hid (logV_no hlt HR.out (.inl (by rw [HN.out.1]; exact h1)))
        clear h1
        go_wp2_with (first
          | (refine wpList_load_row rfl TM _ rfl w.heap.size rfl _ _ _ _ HK.out.1 Tryz.underlying73 rfl HI.out ?_)
          | (go_at_call 68; (with_reducible refine HEN.out.mono ?_); rintro e w2 ⟨rfl, hb2⟩; refine Hid.out ?_))
        have HB2 := Lib.hid (below_then HK.out.2 hb2)
        clear hb2
        refine Lib.hid ?_
        go_wp2_with (go_at_call 69; refine (varnum _ _ HV1.out _).mono ?_; rintro e w3 ⟨rfl, rfl⟩)
        go_ret
        exact ⟨by rw [HF.out]; rfl, HB2.out⟩
      · have HV1 := Lib.hid h1
        clear h1
        cases h2 : isVal y
        · have HV2 := Lib.hid (show isVal y = false from h2)
          have HF := Lib.hid (logV_no hlt HR.out (.inr (by rw [HN.out.2]; exact h2)))
          go_wp2_with (first
            | (refine wpList_load_row rfl TM _ rfl w.heap.size rfl _ _ _ _ HK.out.1 Tryz.underlying73 rfl HI.out ?_)
            | (go_at_call 68; (with_reducible refine HEN.out.mono ?_); rintro e w2 ⟨rfl, hb2⟩; refine Hid.out ?_))
          have HB2 := Lib.hid (below_then HK.out.2 hb2)
          clear hb2
          refine Lib.hid ?_
          go_wp2_with (first
            | (go_at_call 69; refine (varnum _ _ HV1.out _).mono ?_; rintro e w3 ⟨rfl, rfl⟩)
            | (go_at_call 66; refine (impl_isval _ _).mono ?_; rintro e w3 ⟨rfl, rfl⟩))
          go_ret
          exact ⟨by rw [HF.out]; rfl, HB2.out⟩
        · have HV2 := Lib.hid (hV.out.next (by rw [HN.out.1]; exact HV1.out) (by rw [HN.out.2]; exact h2))
          go_wp2_with (first
            | (refine wpList_load_row rfl TM _ rfl w.heap.size rfl _ _ _ _ HK.out.1 Tryz.underlying73 rfl HI.out ?_)
            | (go_at_call 68; (with_reducible refine HEN.out.mono ?_); rintro e w2 ⟨rfl, hb2⟩; refine Hid.out ?_))
          have HB2 := Lib.hid (And.intro (HK.out.1.below hb2) (below_then HK.out.2 hb2))
          clear hb2
          refine Lib.hid ?_
          go_wp2_with (first
            | (go_at_call 69; refine (varnum _ _ HV1.out _).mono ?_; rintro e w3 ⟨rfl, rfl⟩)
            | (go_at_call 66; refine (impl_isval _ _).mono ?_; rintro e w3 ⟨rfl, rfl⟩))
          go_roundw
          case rel => exact ⟨k + 1, by omega, by go_num, HV2, HB2⟩
          case measure => simp [intOf]; omega
    · have hkc : k = c := by omega
      subst hkc
      have HF := Lib.hid (HR.out.2 hV.out)
      clear hV
      go_wp2
      go_ret
      exact ⟨by rw [HF.out]; rfl, HK.out.2⟩
end Go.Proofs.YtlicadaecfgklaaGreat.mem
