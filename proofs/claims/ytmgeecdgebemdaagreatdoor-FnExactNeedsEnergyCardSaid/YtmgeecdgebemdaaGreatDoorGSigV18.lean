/- Several texts in one: VMemO VSetB. -/
import Derived.Test.YtmgeecdgebemdaaGreatDoorGSigV17
import Derived.Test.YtmgeecdgebemdaaGreatDoorGSigV6
import Derived.Test.YtmgeecdgebemdaaGreatDoorGSigV10
import Derived.Test.YtmgeecdgebemdaaGreatDoorGSigV7

/- Chapter 9's MemOk: a valid program, 49 words, a control word whose task the program has, values, and good entries of the log, of the model and of the program; nothing that was there is written. -/
namespace Go.Proofs.YtmgeecdgebemdaaGreatDoor.mem
open Go.ChangeShapes Go.WideShapes Go.ChangeAt Go.RowKit Go.Proofs.YtmgeecdgebemdaaGreatDoor.row Go.Proofs.YtmgeecdgebemdaaGreatDoor.val Go.Proofs.YtmgeecdgebemdaaGreatDoor.expr Go.Proofs.YtmgeecdgebemdaaGreatDoor.stm Go.Proofs.YtmgeecdgebemdaaGreatDoor.blk Go.Proofs.YtmgeecdgebemdaaGreatDoor.prg Go.Proofs.YtmgeecdgebemdaaGreatDoor.ctl
theorem wparts {x : Int} (h : wOk x = true) : ∃ t c n : Nat, t ≤ 5 ∧ c ≤ 8 ∧ n ≤ 24 ∧ (unT x = t ∧ unC x = c ∧ unN x = n) ∧ wT x = t ∧ wC x = c ∧ wN x = n := by
  obtain ⟨t, c, n, h1, h2, h3, e1, e2, e3⟩ := un_yes h
  refine ⟨t, c, n, h1, h2, h3, ⟨e1, e2, e3⟩, ?_, ?_, ?_⟩
  · rw [← e1]; simp [unT, h]
  · rw [← e2]; simp [unC, h]
  · rw [← e3]; simp [unN, h]
/-- A memory of the program. -/
def MemIs (P : List Tk) (L : List Int) : Prop :=
  IsPrg P ∧ L.length = 49 ∧ wOk (L.getD 8 0) = true ∧ wT (L.getD 8 0) < P.length ∧ (L.take 8).all isVal = true ∧ ((L.drop 25).take (wN (L.getD 8 0)).toNat).all isVal = true ∧ LogV L (wC (L.getD 8 0)).toNat
theorem mem_dec (P : List Tk) (L : List Int) : ∃ r : Bool, r = true ↔ MemIs P L := by
  rcases Classical.em (MemIs P L) with h | h
  · exact ⟨true, fun _ => h, fun _ => rfl⟩
  · exact ⟨false, fun e => (by cases e), fun e => absurd e h⟩
theorem not_mem {P : List Tk} {L : List Int} {r : Bool} (hr : r = true ↔ MemIs P L) (h : ¬ MemIs P L) : r = false := by
  rw [← Bool.not_eq_true]; intro e; exact h (hr.1 e)
set_option maxRecDepth 100000 in
set_option maxHeartbeats 400000 in
theorem spec_are (w : World) (a : Option Addr) (n cap : Nat) (L : List Int) (hn : (n : Int) ≤ 1048576) (h : Row w a n L) (r : Bool) (hr : L.all isVal = r) :
    Calls Tryz.prog 89 #[.slice a n cap] w (RetB w r) := by
  subst hr
  have HL := Lib.hid h.1
  have HC : Hid (∀ k, k < n → ∃ (b off : Nat) (x : Int), a = some ⟨b, off, none⟩ ∧ L[k]? = some x ∧ w.cell? ⟨b, off + k, none⟩ = some (.int .i64 x)) := fun k hk => by
    obtain ⟨b, off, x, e, _, hx, hc⟩ := h.2 k hk
    exact ⟨b, off, x, e, hx, hc⟩
  clear h
  go_enter Tryz.func89, Tryz.ntmps89
  go_wp2
  go_loop [3] (fun i => ∃ k : Nat, k ≤ n ∧ i = .int .i64 k ∧ Hid (∀ y ∈ L.take k, isVal y = true)) (fun i => n - (intOf i).toNat)
  case atStart => exact ⟨0, Nat.zero_le _, rfl, by simp [Hid]⟩
  case round =>
    obtain ⟨k, hk, rfl, hA⟩ := hrel
    by_cases hlt : k < n
    · obtain ⟨b, off, x, rfl, hx, hc⟩ := HC.out k hlt
      have hI : (k : Int) < n := by omega
      have HX := Lib.hid hx
      clear hx
      cases hv : isVal x
      · have HF := Lib.hid (all_bad HX.out hv)
        go_wp2_with (go_at_call 152; refine (spec_isval _ _).mono ?_; rintro e w1 ⟨rfl, rfl⟩)
        go_ret
        exact ⟨by rw [HF.out]; rfl, rfl⟩
      · have HA2 := Lib.hid (all_step HX.out hA.out hv)
        go_wp2_with (go_at_call 152; refine (spec_isval _ _).mono ?_; rintro e w1 ⟨rfl, rfl⟩)
        go_round
        case rel => exact ⟨k + 1, by omega, by go_num, HA2⟩
        case measure => simp [intOf]; omega
    · have hkn : k = n := by omega
      subst hkn
      have HE := Lib.hid (all_end HL.out hA.out)
      clear hA
      go_wp2
      go_ret
      exact ⟨by rw [HE.out]; rfl, rfl⟩
set_option maxRecDepth 100000 in
set_option maxHeartbeats 4000000 in
theorem spec_memok (a : Option Addr) (n cap : Nat) (P : List Tk) (hz : Sizes P) (w : World) (h : TkRow w a n P) (ad : Option Addr) (nv cv : Nat) (V : List Int) (hnv : (nv : Int) ≤ 1048576) (hcv : nv ≤ cv) (hV : Row w ad nv V) (r : Bool) (hr : r = true ↔ MemIs P V) :
    Calls Tryz.prog 123 #[.agg #[.slice a n cap], .slice ad nv cv] w (BelB w r) := by
  obtain ⟨W, hW⟩ : ∃ W, W = w.alloc (.cells #[.slice a n cap] 26) := ⟨_, rfl⟩
  have hpw : PrgW w W a n cap P := by rw [hW]; exact prgW_new w a n cap P _ h
  have HP := Lib.hid hpw
  have HW := Lib.hid hW.symm
  have HZ := Lib.hid hz
  have HV := Lib.hid (hV.below hpw.2.2.1)
  have hlen := h.1
  have hvl := hV.1
  have hn : (n : Int) ≤ 1048576 := by have := hz.1; omega
  have hwl : w.heap.size < W.heap.size := by rw [hW]; simp
  have c0 : W.cell? ⟨w.heap.size, 0, none⟩ = some (.slice a n cap) := hpw.1
  clear h hz hW hpw hV
  obtain ⟨rp, hrp⟩ := prg_dec P
  have HRP := Lib.hid hrp
  cases rp
  · obtain rfl := not_mem hr (fun hp => by have := hrp.2 hp.1; cases this)
    clear hr hrp hlen hvl c0
    go_enter Tryz.func123, Tryz.ntmps123
    go_wp2_with (go_at_call 87; rw [HW.out]; (with_reducible refine (spec_programok a n cap P HZ.out _ HP.out.2.1 false HRP.out).mono ?_); rintro e w2 ⟨rfl, hb2⟩)
    go_ret
    exact ⟨rfl, HP.out.2.2.1.trans (hb2.mono (Nat.le_of_lt hwl))⟩
  · have HPR := Lib.hid (hrp.1 rfl)
    clear hrp
    by_cases h49 : nv = 49
    case neg =>
      obtain rfl := not_mem hr (fun hp => h49 (by rw [← hvl]; exact hp.2.1))
      have hq : ¬ (nv : Int) = 49 := by omega
      clear hr hlen hvl c0 h49
      go_enter Tryz.func123, Tryz.ntmps123
      go_wp2_with (go_at_call 87; rw [HW.out]; (with_reducible refine (spec_programok a n cap P HZ.out _ HP.out.2.1 true HRP.out).mono ?_); rintro e w2 ⟨rfl, hb2⟩)
      go_ret
      exact ⟨rfl, HP.out.2.2.1.trans (hb2.mono (Nat.le_of_lt hwl))⟩
    subst h49
    obtain ⟨b, off, rfl⟩ := row_some HV.out (by decide)
    obtain ⟨x, hx⟩ : ∃ x, V.getD 8 0 = x := ⟨_, rfl⟩
    have HX := Lib.hid hx
    have hc8 : Hid (∀ w', Below W.heap.size W w' → w'.cell? ⟨b, off + 8, none⟩ = some (.int .i64 x)) := fun w' hb' => by
      rw [← hx]; exact row_word (HV.out.below hb') (by decide)
    clear hx
    cases ho : wOk x
    · obtain rfl := not_mem hr (fun hp => by have := hp.2.2.1; rw [HX.out, ho] at this; cases this)
      have HU := Lib.hid (un_no ho)
      clear hr hlen hvl ho
      go_enter Tryz.func123, Tryz.ntmps123
      go_wp2_with (first
        | (go_at_call 87; rw [HW.out]; (with_reducible refine (spec_programok a n cap P HZ.out _ HP.out.2.1 true HRP.out).mono ?_); rintro e w2 ⟨rfl, hb2⟩; refine Hid.out ?_))
      have d8 := hc8.out w2 hb2
      have d0 : w2.cell? ⟨w.heap.size, 0, none⟩ = some (.slice a n cap) := (hb2.cell (p := ⟨w.heap.size, 0, none⟩) hwl).trans c0
      have HB2 := Lib.hid hb2
      clear hb2
      refine Lib.hid ?_
      go_wp2_with (go_at_call 30; refine (spec_unpack_is x _ _ _ HU.out _).mono ?_; rintro e w3 ⟨rfl, rfl⟩)
      go_ret
      exact ⟨rfl, HP.out.2.2.1.trans (HB2.out.mono (Nat.le_of_lt hwl))⟩
    · obtain ⟨t, c, m, ht, hc, hm, hu, e1, e2, e3⟩ := wparts ho
      have HU := Lib.hid hu
      have ht' : (t : Int) ≤ 5 := by omega
      have hc' : (c : Int) ≤ 8 := by omega
      have hm' : (m : Int) ≤ 24 := by omega
      have HM : Hid (MemIs P V ↔ t < n ∧ (V.take 8).all isVal = true ∧ ((V.drop 25).take m).all isVal = true ∧ LogV V c) := by
        show MemIs P V ↔ _
        unfold MemIs
        rw [HX.out, e1, e2, e3, Int.toNat_natCast, Int.toNat_natCast, hlen]
        constructor
        · rintro ⟨_, _, _, q1, q2, q3, q4⟩; exact ⟨by omega, q2, q3, q4⟩
        · rintro ⟨q1, q2, q3, q4⟩; exact ⟨HPR.out, hvl, ho, by omega, q2, q3, q4⟩
      have hs8 := cut_8 b off cv hcv
      have hsl := cut_lh b off cv m hcv hm
      have HV8 := Lib.hid (show ∀ w', Below W.heap.size W w' → Row w' (some ⟨b, off, none⟩) 8 (V.take 8) from fun w' hb' => by simpa using row_part (o := 0) (m := 8) (HV.out.below hb') (by omega))
      have HVM := Lib.hid (show ∀ w', Below W.heap.size W w' → Row w' (some ⟨b, off + 25, none⟩) m ((V.drop 25).take m) from fun w' hb' => row_part (o := 25) (m := m) (HV.out.below hb') (by omega))
      clear hu e1 e2 e3 ho hlen hvl
      by_cases htn : t < n
      case neg =>
        obtain rfl := not_mem hr (fun hp => htn (HM.out.1 hp).1)
        have htn' : ¬ (t : Int) < n := by omega
        clear hr htn
        go_enter Tryz.func123, Tryz.ntmps123
        go_wp2_with (first
          | (go_at_call 87; rw [HW.out]; (with_reducible refine (spec_programok a n cap P HZ.out _ HP.out.2.1 true HRP.out).mono ?_); rintro e w2 ⟨rfl, hb2⟩; refine Hid.out ?_))
        have d8 := hc8.out w2 hb2
        have d0 : w2.cell? ⟨w.heap.size, 0, none⟩ = some (.slice a n cap) := (hb2.cell (p := ⟨w.heap.size, 0, none⟩) hwl).trans c0
        have HB2 := Lib.hid hb2
        clear hb2
        refine Lib.hid ?_
        go_wp2_with (go_at_call 30; refine (spec_unpack_is x _ _ _ HU.out _).mono ?_; rintro e w3 ⟨rfl, rfl⟩)
        go_ret
        exact ⟨rfl, HP.out.2.2.1.trans (HB2.out.mono (Nat.le_of_lt hwl))⟩
      have htn' : (t : Int) < n := by omega
      cases h8 : (V.take 8).all isVal
      · obtain rfl := not_mem hr (fun hp => by have := (HM.out.1 hp).2.1; rw [h8] at this; cases this)
        have HA8 := Lib.hid h8
        clear hr h8 htn
        go_enter Tryz.func123, Tryz.ntmps123
        go_wp2_with (first
          | (go_at_call 87; rw [HW.out]; (with_reducible refine (spec_programok a n cap P HZ.out _ HP.out.2.1 true HRP.out).mono ?_); rintro e w2 ⟨rfl, hb2⟩; refine Hid.out ?_))
        have d8 := hc8.out w2 hb2
        have d0 : w2.cell? ⟨w.heap.size, 0, none⟩ = some (.slice a n cap) := (hb2.cell (p := ⟨w.heap.size, 0, none⟩) hwl).trans c0
        have HB2 := Lib.hid hb2
        have H8 := Lib.hid (HV8.out _ hb2)
        have HT := Lib.hid (HVM.out _ hb2)
        clear hb2
        refine Lib.hid ?_
        go_wp2_with (first
          | (go_at_call 30; refine (spec_unpack_is x _ _ _ HU.out _).mono ?_; rintro e w3 ⟨rfl, rfl⟩)
          | (go_at_call 89; first
            | ((with_reducible refine (spec_are _ (some ⟨b, off, none⟩) 8 cv _ (by omega) H8.out false HA8.out).mono ?_); rintro e w3 ⟨rfl, rfl⟩)
            | fail))
        go_ret
        exact ⟨rfl, HP.out.2.2.1.trans (HB2.out.mono (Nat.le_of_lt hwl))⟩
      cases hmv : ((V.drop 25).take m).all isVal
      · obtain rfl := not_mem hr (fun hp => by have := (HM.out.1 hp).2.2.1; rw [hmv] at this; cases this)
        have HA8 := Lib.hid h8
        have HAM := Lib.hid hmv
        have T1 : decide ((t : Int) < 0) = false := by simp
        have T2 : decide (n ≤ t) = false := by simp; omega
        clear hr h8 hmv htn
        go_enter Tryz.func123, Tryz.ntmps123
        go_wp2_with (first
          | (go_at_call 87; rw [HW.out]; (with_reducible refine (spec_programok a n cap P HZ.out _ HP.out.2.1 true HRP.out).mono ?_); rintro e w2 ⟨rfl, hb2⟩; refine Hid.out ?_))
        have d8 := hc8.out w2 hb2
        have d0 : w2.cell? ⟨w.heap.size, 0, none⟩ = some (.slice a n cap) := (hb2.cell (p := ⟨w.heap.size, 0, none⟩) hwl).trans c0
        have HB2 := Lib.hid hb2
        have H8 := Lib.hid (HV8.out _ hb2)
        have HT := Lib.hid (HVM.out _ hb2)
        clear hb2
        refine Lib.hid ?_
        go_wp2_with (first
          | (go_at_call 30; refine (spec_unpack_is x _ _ _ HU.out _).mono ?_; rintro e w3 ⟨rfl, rfl⟩)
          | (go_at_call 89; first
            | ((with_reducible refine (spec_are _ (some ⟨b, off, none⟩) 8 cv _ (by omega) H8.out true HA8.out).mono ?_); rintro e w3 ⟨rfl, rfl⟩)
            | ((with_reducible refine (spec_are _ (some ⟨b, off + 25, none⟩) m (cv - 25) _ (by omega) HT.out false HAM.out).mono ?_); rintro e w3 ⟨rfl, rfl⟩)))
        go_ret
        exact ⟨rfl, HP.out.2.2.1.trans (HB2.out.mono (Nat.le_of_lt hwl))⟩
      · have HR := Lib.hid (show r = true ↔ LogV V c from hr.trans (HM.out.trans ⟨fun hp => hp.2.2.2, fun hp => ⟨htn, h8, hmv, hp⟩⟩))
        have HA8 := Lib.hid h8
        have HAM := Lib.hid hmv
        have T1 : decide ((t : Int) < 0) = false := by simp
        have T2 : decide (n ≤ t) = false := by simp; omega
        clear hr h8 hmv htn
        go_enter Tryz.func123, Tryz.ntmps123
        go_wp2_with (first
          | (go_at_call 87; rw [HW.out]; (with_reducible refine (spec_programok a n cap P HZ.out _ HP.out.2.1 true HRP.out).mono ?_); rintro e w2 ⟨rfl, hb2⟩; refine Hid.out ?_))
        have d8 := hc8.out w2 hb2
        have d0 : w2.cell? ⟨w.heap.size, 0, none⟩ = some (.slice a n cap) := (hb2.cell (p := ⟨w.heap.size, 0, none⟩) hwl).trans c0
        have HB2 := Lib.hid hb2
        have H8 := Lib.hid (HV8.out _ hb2)
        have HT := Lib.hid (HVM.out _ hb2)
        clear hb2
        refine Lib.hid ?_
        go_wp2_with (first
          | (go_at_call 30; refine (spec_unpack_is x _ _ _ HU.out _).mono ?_; rintro e w3 ⟨rfl, rfl⟩)
          | (go_at_call 89; first
            | ((with_reducible refine (spec_are _ (some ⟨b, off, none⟩) 8 cv _ (by omega) H8.out true HA8.out).mono ?_); rintro e w3 ⟨rfl, rfl⟩)
            | ((with_reducible refine (spec_are _ (some ⟨b, off + 25, none⟩) m (cv - 25) _ (by omega) HT.out true HAM.out).mono ?_); rintro e w3 ⟨rfl, rfl⟩)))
        go_loop [8] (fun i => ∃ k : Nat, k ≤ c ∧ i = .int .i64 k ∧ Hid (LogV V k)) (fun i => c - (intOf i).toNat)
        case atStart => exact ⟨0, Nat.zero_le _, rfl, LogV.zero V⟩
        case round =>
          obtain ⟨k, hk, rfl, hV'⟩ := hrel
          by_cases hlt : k < c
          · have hI : (k : Int) < c := by omega
            obtain ⟨p, hp⟩ : ∃ p : Nat, p = 9 + 2 * k := ⟨_, rfl⟩
            have f0 := row_word (j := 9 + 2 * k) (HV.out.below HB2.out) (by omega)
            have f1 := row_word (j := 10 + 2 * k) (HV.out.below HB2.out) (by omega)
            obtain ⟨y, hy⟩ : ∃ y, V.getD (9 + 2 * k) 0 = y := ⟨_, rfl⟩
            obtain ⟨z, hz⟩ : ∃ z, V.getD (10 + 2 * k) 0 = z := ⟨_, rfl⟩
            rw [hy, ← hp] at f0
            rw [hz, show 10 + 2 * k = p + 1 by omega] at f1
            have hpk : (9 : Int) + 2 * (k : Int) = (p : Int) := by omega
            have hpb : (p : Int) ≤ 23 := by omega
            have HN := Lib.hid (And.intro hp (And.intro hy hz))
            clear hp hy hz d0 d8
            cases h1 : varOk y
            · have HV1 := Lib.hid (show (decide (0 ≤ y) && decide (y ≤ 7)) = false from h1)
              have HF := Lib.hid (logV_no hlt HR.out (.inl (by rw [HN.out.2.1]; exact h1)))
              clear h1
              go_wp2_with (go_at_call 63; refine (in_any _ _ _ _ HV1.out _).mono ?_; rintro e w3 ⟨rfl, rfl⟩)
              go_ret
              exact ⟨by rw [HF.out]; rfl, HP.out.2.2.1.trans (HB2.out.mono (Nat.le_of_lt hwl))⟩
            · have HV1 := Lib.hid (show (decide (0 ≤ y) && decide (y ≤ 7)) = true from h1)
              have HV1' := Lib.hid h1
              clear h1
              cases h2 : isVal z
              · have HF := Lib.hid (logV_no hlt HR.out (.inr (by rw [HN.out.2.2]; exact h2)))
                go_wp2_with (first
                  | (go_at_call 63; refine (in_any _ _ _ _ HV1.out _).mono ?_; rintro e w3 ⟨rfl, rfl⟩)
                  | (go_at_call 152; refine (spec_isval _ _).mono ?_; rintro e w3 ⟨rfl, rfl⟩))
                go_ret
                exact ⟨by rw [HF.out]; rfl, HP.out.2.2.1.trans (HB2.out.mono (Nat.le_of_lt hwl))⟩
              · have HV2 := Lib.hid (hV'.out.next (by rw [HN.out.2.1]; exact HV1'.out) (by rw [HN.out.2.2]; exact h2))
                go_wp2_with (first
                  | (go_at_call 63; refine (in_any _ _ _ _ HV1.out _).mono ?_; rintro e w3 ⟨rfl, rfl⟩)
                  | (go_at_call 152; refine (spec_isval _ _).mono ?_; rintro e w3 ⟨rfl, rfl⟩))
                go_round
                case rel => exact ⟨k + 1, by omega, by go_num, HV2⟩
                case measure => simp [intOf]; omega
          · have hkc : k = c := by omega
            subst hkc
            have HF := Lib.hid (HR.out.2 hV'.out)
            clear hV'
            go_wp2
            go_ret
            exact ⟨by rw [HF.out]; rfl, HP.out.2.2.1.trans (HB2.out.mono (Nat.le_of_lt hwl))⟩
end Go.Proofs.YtmgeecdgebemdaaGreatDoor.mem

/- Rows of eight bools as sets of variables; the model's l07List, l07Writes. -/
namespace Go.Proofs.YtmgeecdgebemdaaGreatDoor.sets
open Go Go.ChangeShapes Go.WideShapes Go.ChangeAt Go.RowKit Go.Proofs.YtmgeecdgebemdaaGreatDoor.row Go.Proofs.YtmgeecdgebemdaaGreatDoor.val Go.Proofs.YtmgeecdgebemdaaGreatDoor.stm Go.Proofs.YtmgeecdgebemdaaGreatDoor.blk Go.Proofs.YtmgeecdgebemdaaGreatDoor.expr
/-- The block 'g' holds the set 'f'. -/
def Bset (g : Nat) (f : Nat → Bool) (w : World) : Prop := ∃ (cs : Array Value) (t : TypeId), Box g cs t w ∧ ∀ v, v < 8 → cs[v]? = some (.bool (f v))
section
variable {g : Nat} {f : Nat → Bool} {w w' : World}
theorem Bset.cell (h : Bset g f w) {v : Nat} (hv : v < 8) : w.cell? ⟨g, v, none⟩ = some (.bool (f v)) := by
  obtain ⟨cs, t, hb, hc⟩ := h
  rw [hb.cell]; exact hc v hv
theorem Bset.frozen (h : Bset g f w) (v : Nat) : w.frozen? ⟨g, v, none⟩ = false := by
  obtain ⟨cs, t, hb, _⟩ := h
  exact hb.frozen v
theorem Bset.lt (h : Bset g f w) : g < w.heap.size := by
  obtain ⟨cs, t, hb, _⟩ := h
  exact hb.lt
theorem Bset.same (h : Bset g f w) (he : w'.heap[g]? = w.heap[g]?) : Bset g f w' := by
  obtain ⟨cs, t, hb, hc⟩ := h
  exact ⟨cs, t, he.trans hb, hc⟩
theorem Bset.below (h : Bset g f w) (hb : Below w.heap.size w w') : Bset g f w' := h.same (hb.block g h.lt)
theorem Bset.put (h : Bset g f w) {v : Nat} (hv : v < 8) : Bset g (fun u => decide (u = v) || f u) (w.setCell ⟨g, v, none⟩ (.bool true)) := by
  obtain ⟨cs, t, hb, hc⟩ := h
  have hs : v < cs.size := (Array.getElem?_eq_some_iff.1 (hc v hv)).1
  refine ⟨_, t, hb.set v _, fun u hu => ?_⟩
  by_cases e : u = v
  · subst e; simp [hs]
  · rw [Array.getElem?_setIfInBounds_ne (by omega), hc u hu]; simp [e]
theorem Bset.congr {f' : Nat → Bool} (h : Bset g f w) (hf : ∀ v, v < 8 → f v = f' v) : Bset g f' w := by
  obtain ⟨cs, t, hb, hc⟩ := h
  exact ⟨cs, t, hb, fun v hv => by rw [hc v hv, hf v hv]⟩
theorem Bset.made (w : World) (t : TypeId) : Bset w.heap.size (fun _ => false) (w.alloc (.cells #[.bool false, .bool false, .bool false, .bool false, .bool false, .bool false, .bool false, .bool false] t)) := by
  refine ⟨_, t, Box.new w _ t, fun v hv => ?_⟩
  have : v = 0 ∨ v = 1 ∨ v = 2 ∨ v = 3 ∨ v = 4 ∨ v = 5 ∨ v = 6 ∨ v = 7 := by omega
  rcases this with rfl | rfl | rfl | rfl | rfl | rfl | rfl | rfl <;> rfl
end
theorem own_slice {w : World} {base size n : Nat} {e : TypeId} {v : Value} {xs : List Value} (h : w.ownsRow base e size v n xs) : ∃ (a : Option Addr) (c : Nat), v = .slice a n c := by
  rcases h.2 with ⟨h1, h2⟩ | ⟨g, c, cur, h1, _⟩
  · exact ⟨none, 0, by rw [h1, h2]⟩
  · exact ⟨_, c, h1⟩
set_option maxHeartbeats 2000000 in
set_option maxRecDepth 100000 in
theorem spec_list (g c : Nat) (f : Nat → Bool) (w : World) (h : Bset g f w) : Calls Tryz.prog 208 #[.slice (some ⟨g, 0, none⟩) 8 c] w (NewInts w (lst f 8)) := by
  obtain ⟨i0, hi, hz0, hz1, hz2⟩ := info_parts infoInt
  have HS := Lib.hid h
  clear h
  go_enter Tryz.func208, Tryz.ntmps208
  go_wp2
  go_loopw [3, 4] (fun v i wr => ∃ k : Nat, k ≤ 8 ∧ i = .int .i64 k ∧ wr.ownsRow w.heap.size 3 1 v (lst f k).length (ivs (lst f k)) ∧ Hid (Below w.heap.size w wr)) (fun _ i _ => 8 - (intOf i).toNat)
  case atStart => exact ⟨0, Nat.zero_le _, rfl, World.ownsRow_made w #[] 0 (Nat.le_refl _) (by decide) rfl, below_new w _⟩
  case round =>
    obtain ⟨k, hk, rfl, hown, HB⟩ := hrel
    obtain ⟨a4, cap4, rfl⟩ := own_slice hown
    have hll := lst_len f k
    by_cases hlt : k < 8
    · have hI : (k : Int) < 8 := by omega
      have c0 : wr.cell? ⟨g, k, none⟩ = some (.bool (f k)) := (HS.out.below HB.out).cell hlt
      have hsz := HB.out.size
      cases hf : f k
      · rw [hf] at c0
        have HL := Lib.hid (show lst f (k + 1) = lst f k from lst_no hf)
        go_wp2
        go_roundw
        case rel => exact ⟨k + 1, by omega, by go_num, by rw [HL.out]; exact hown, HB⟩
        case measure => simp [intOf]; omega
      · rw [hf] at c0
        have HL := Lib.hid (show lst f (k + 1) = lst f k ++ [(k : Int)] from lst_yes hf)
        go_wp2_with (at_builtin; refine wpList_append_own _ rfl _ _ 27 rfl w.heap.size 3 i0 (.int .i64 0) 1 8 Tryz.underlying27 hi hz0 hz1 hz2 rfl (by decide) _ _ _ rfl (hown.alloc _) ⟨wr.heap.size, 0, none⟩ 1 1 [.int .i64 (k : Int)] rfl rfl (World.news_of_block (cs := #[.int .i64 (k : Int)]) (t := 3) (fr := (0, 0)) (heap_alloc_new wr _)) (by simp [Value.oneCell']) (by unfold maxLen; omega) (by omega) (by simp; omega) ?_; intro v4 w4 hown4 hgrow4 _; refine Hid.out ?_)
        have hb4 : Below w.heap.size w w4 := (HB.out.alloc hsz _).grown hgrow4 (by simp; omega) (fun j hj => (hown.lt j hj).1)
        have HO := Lib.hid (And.intro (show w4.ownsRow w.heap.size 3 1 v4 (lst f (k + 1)).length (ivs (lst f (k + 1))) by rw [HL.out, List.length_append, ← ivs_snoc]; exact hown4) hb4)
        clear hown hown4 hgrow4 hb4
        refine Lib.hid ?_
        go_wp2
        go_roundw
        case rel => exact ⟨k + 1, by omega, by go_num, HO.out.1, HO.out.2⟩
        case measure => simp [intOf]; omega
    · obtain rfl : k = 8 := by omega
      have hI : ¬ ((8 : Nat) : Int) < 8 := by omega
      go_wp2
      go_ret
      exact ⟨_, _, _, rfl, hown, HB.out⟩
theorem spec_writes (s : Sm) (r : Bool) (hr : r = true ↔ wr s) (w : World) : Calls Tryz.prog 207 #[stV s] w (BelB w r) := by
  have c0 : (w.alloc (.cells #[.int .i64 s.k, .int .i64 s.v, .int .i64 s.n, .int .i64 s.o, .int .i64 s.a, .int .i64 s.b] 112)).cell? ⟨w.heap.size, 0, none⟩ = some (.int .i64 s.k) := (Box.new w #[.int .i64 s.k, .int .i64 s.v, .int .i64 s.n, .int .i64 s.o, .int .i64 s.a, .int .i64 s.b] _).cell 0
  have HR := Lib.hid hr
  by_cases h1 : s.k = 1
  · have hrt : r = true := hr.2 (.inl h1)
    subst hrt
    rw [h1] at c0
    clear hr
    go_enter Tryz.func207, Tryz.ntmps207
    go_wp2
    go_ret
    exact ⟨rfl, below_new _ _⟩
  · by_cases h2 : s.k = 2
    · have hrt : r = true := hr.2 (.inr h2)
      subst hrt
      rw [h2] at c0
      clear hr
      go_enter Tryz.func207, Tryz.ntmps207
      go_wp2
      go_ret
      exact ⟨rfl, below_new _ _⟩
    · have hrf : r = false := by rw [← Bool.not_eq_true]; intro e; rcases hr.1 e with h | h <;> omega
      subst hrf
      clear hr
      have b1 : (s.k == 1) = false := by simpa using h1
      have b2 : (s.k == 2) = false := by simpa using h2
      go_enter Tryz.func207, Tryz.ntmps207
      go_wp2
      go_ret
      exact ⟨rfl, below_new _ _⟩
end Go.Proofs.YtmgeecdgebemdaaGreatDoor.sets
