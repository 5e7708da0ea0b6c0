/- Several texts in one: RefM. -/
import Derived.Test.YtlinpefeojpjnaaGreatGHub17
import Derived.Test.YtlinpefeojpjnaaGreatGHub20

/- Chapter 13 of the model: whether the arguments of a reference run are valid; the outbox; nothing else that was there is written. -/
namespace Go.Proofs.YtlinpefeojpjnaaGreat.ref
open Go Go.ChangeShapes Go.WideShapes Go.ChangeAt Go.RowKit Go.Proofs.YtlinpefeojpjnaaGreat.row Go.Proofs.YtlinpefeojpjnaaGreat.val Go.Proofs.YtlinpefeojpjnaaGreat.expr Go.Proofs.YtlinpefeojpjnaaGreat.stm Go.Proofs.YtlinpefeojpjnaaGreat.blk Go.Proofs.YtlinpefeojpjnaaGreat.prg Go.Proofs.YtlinpefeojpjnaaGreat.exe Go.Proofs.YtlinpefeojpjnaaGreat.srow
set_option maxHeartbeats 4000000 in
set_option maxRecDepth 100000 in
theorem spec_refok (a : Option Addr) (n cap : Nat) (P : List Tk) (hz : Sizes P) (w : World) (h : TkRow w a n P) (ad : Option Addr) (nv cv : Nat) (V : List Int) (hnv : (nv : Int) ≤ 1048576) (hV : Row w ad nv V) (au : Option Addr) (nu cu : Nat) (UU : List (List Int)) (hsz : SSizes UU) (hU : SRow w au nu UU)
    (i : Int) (r : Bool) (hr : r = true ↔ RefOk P V UU i) :
    Calls Tryz.prog 26 #[.agg #[.slice a n cap], .int .i64 i, .slice ad nv cv, .slice au nu cu] w (BelB w r) := by
  obtain ⟨W, hW⟩ : ∃ W, w.alloc (.cells #[.slice a n cap] 35) = W := ⟨_, rfl⟩
  have hBW : Below w.heap.size w W := by rw [← hW]; exact below_new w _
  have hpx : Box w.heap.size #[.slice a n cap] 35 W := by rw [← hW]; exact Box.new w _ _
  have hWl : w.heap.size < W.heap.size := hpx.lt
  have c0 : W.cell? ⟨w.heap.size, 0, none⟩ = some (.slice a n cap) := hpx.cell 0
  have hlen := h.1
  have HW := Lib.hid hW
  have HZ := Lib.hid (And.intro hz hsz)
  have H0 := Lib.hid (And.intro hpx (And.intro hBW (And.intro (h.below hBW) (And.intro (hV.below hBW) (hU.below hBW)))))
  have hul := hU.1
  have hn : (n : Int) ≤ 1048576 := by have := hz.1; omega
  have hnu : (nu : Int) ≤ 1048576 := by have := hsz.1; omega
  have HR := Lib.hid hr
  clear hpx hBW h hV hU hz hsz hW hr
  obtain ⟨rp, hrp⟩ := prg_dec P
  have HRP := Lib.hid hrp
  cases rp
  · obtain rfl : r = false := by
      rw [← Bool.not_eq_true]; intro e
      have := hrp.2 (HR.out.1 e).1.1; cases this
    clear hrp
    go_enter Tryz.func26, Tryz.ntmps26
    go_wp2_with (go_at_call 37; rw [HW.out]; (with_reducible refine (spec_programok a n cap P HZ.out.1 _ H0.out.2.2.1 false HRP.out).mono ?_); rintro e w2 ⟨rfl, hb2⟩)
    go_ret
    exact ⟨rfl, H0.out.2.1.trans (hb2.mono (Nat.le_of_lt hWl))⟩
  · have HPR := Lib.hid (hrp.1 rfl)
    clear hrp
    cases hv : varsOk V
    · obtain rfl : r = false := by
        rw [← Bool.not_eq_true]; intro e
        have := (HR.out.1 e).1.2.1; rw [hv] at this; cases this
      have HV := Lib.hid hv
      clear hv
      go_enter Tryz.func26, Tryz.ntmps26
      go_wp2_with (go_at_call 37; rw [HW.out]; (with_reducible refine (spec_programok a n cap P HZ.out.1 _ H0.out.2.2.1 true HRP.out).mono ?_); rintro e w2 ⟨rfl, hb2⟩; refine Hid.out ?_)
      have HB2 := Lib.hid hb2
      have d0 : w2.cell? ⟨w.heap.size, 0, none⟩ = some (.slice a n cap) := (hb2.cell (p := ⟨w.heap.size, 0, none⟩) hWl).trans c0
      clear hb2 c0
      refine Lib.hid ?_
      go_wp2_with (go_at_call 38; (with_reducible refine (spec_vars _ ad nv cv V hnv (H0.out.2.2.2.1.below HB2.out) false HV.out).mono ?_); rintro e w3 ⟨rfl, rfl⟩)
      go_ret
      exact ⟨rfl, H0.out.2.1.trans (HB2.out.mono (Nat.le_of_lt hWl))⟩
    · have HV := Lib.hid hv
      clear hv
      cases hi9 : (decide (0 ≤ i) && decide (i ≤ (n : Int) - 1))
      · obtain rfl : r = false := by
          rw [← Bool.not_eq_true]; intro e
          have h1 := (HR.out.1 e).1.2.2
          simp at hi9; omega
        have HIN := Lib.hid hi9
        clear hi9
        go_enter Tryz.func26, Tryz.ntmps26
        go_wp2_with (go_at_call 37; rw [HW.out]; (with_reducible refine (spec_programok a n cap P HZ.out.1 _ H0.out.2.2.1 true HRP.out).mono ?_); rintro e w2 ⟨rfl, hb2⟩; refine Hid.out ?_)
        have HB2 := Lib.hid hb2
        have d0 : w2.cell? ⟨w.heap.size, 0, none⟩ = some (.slice a n cap) := (hb2.cell (p := ⟨w.heap.size, 0, none⟩) hWl).trans c0
        clear hb2 c0
        refine Lib.hid ?_
        go_wp2_with (first
          | (go_at_call 38; (with_reducible refine (spec_vars _ ad nv cv V hnv (H0.out.2.2.2.1.below HB2.out) true HV.out).mono ?_); rintro e w3 ⟨rfl, rfl⟩)
          | (go_at_call 39; (with_reducible refine (in_any _ 0 _ false HIN.out _).mono ?_); rintro e w3 ⟨rfl, rfl⟩))
        go_ret
        exact ⟨rfl, H0.out.2.1.trans (HB2.out.mono (Nat.le_of_lt hWl))⟩
      · have HIN := Lib.hid hi9
        have hin : 0 ≤ i ∧ i < n := by simp at hi9; omega
        clear hi9
        by_cases h100 : (100 : Int) < nu
        · obtain rfl : r = false := by
            rw [← Bool.not_eq_true]; intro e
            have := (HR.out.1 e).2.1; omega
          go_enter Tryz.func26, Tryz.ntmps26
          go_wp2_with (go_at_call 37; rw [HW.out]; (with_reducible refine (spec_programok a n cap P HZ.out.1 _ H0.out.2.2.1 true HRP.out).mono ?_); rintro e w2 ⟨rfl, hb2⟩; refine Hid.out ?_)
          have HB2 := Lib.hid hb2
          have d0 : w2.cell? ⟨w.heap.size, 0, none⟩ = some (.slice a n cap) := (hb2.cell (p := ⟨w.heap.size, 0, none⟩) hWl).trans c0
          clear hb2 c0
          refine Lib.hid ?_
          go_wp2_with (first
            | (go_at_call 38; (with_reducible refine (spec_vars _ ad nv cv V hnv (H0.out.2.2.2.1.below HB2.out) true HV.out).mono ?_); rintro e w3 ⟨rfl, rfl⟩)
            | (go_at_call 39; (with_reducible refine (in_any _ 0 _ true HIN.out _).mono ?_); rintro e w3 ⟨rfl, rfl⟩))
          go_ret
          exact ⟨rfl, H0.out.2.1.trans (HB2.out.mono (Nat.le_of_lt hWl))⟩
        · have HAL := Lib.hid (show r = true ↔ ∀ u ∈ UU, allV u = true from ⟨fun e => (HR.out.1 e).2.2, fun h => HR.out.2 ⟨⟨HPR.out, HV.out, hin.1, by rw [hlen]; exact hin.2⟩, by omega, h⟩⟩)
          go_enter Tryz.func26, Tryz.ntmps26
          go_wp2_with (go_at_call 37; rw [HW.out]; (with_reducible refine (spec_programok a n cap P HZ.out.1 _ H0.out.2.2.1 true HRP.out).mono ?_); rintro e w2 ⟨rfl, hb2⟩; refine Hid.out ?_)
          have HB2 := Lib.hid hb2
          have d0 : w2.cell? ⟨w.heap.size, 0, none⟩ = some (.slice a n cap) := (hb2.cell (p := ⟨w.heap.size, 0, none⟩) hWl).trans c0
          clear hb2 c0
          refine Lib.hid ?_
          go_wp2_with (first
            | (go_at_call 38; (with_reducible refine (spec_vars _ ad nv cv V hnv (H0.out.2.2.2.1.below HB2.out) true HV.out).mono ?_); rintro e w3 ⟨rfl, rfl⟩)
            | (go_at_call 39; (with_reducible refine (in_any _ 0 _ true HIN.out _).mono ?_); rintro e w3 ⟨rfl, rfl⟩))
          clear d0
          have HBW := Lib.hid (H0.out.2.1.trans (HB2.out.mono (Nat.le_of_lt hWl)))
          have HUU := Lib.hid (H0.out.2.2.2.2.below HB2.out)
          go_loopw [9] (fun i wr => ∃ k : Nat, k ≤ nu ∧ i = .int .i64 k ∧ Hid (∀ u ∈ UU.take k, allV u = true) ∧ wr = w2) (fun i _ => nu - (intOf i).toNat)
          case atStart => exact ⟨0, Nat.zero_le _, rfl, by simp [Hid], rfl⟩
          case round =>
            obtain ⟨k, hk, rfl, hA, rfl⟩ := hrel
            by_cases hlt : k < nu
            · have hI : (k : Int) < nu := by omega
              obtain ⟨b, off, L, ab, nb, cb, rfl, hlb, hL, hc, hle, hrow⟩ := HUU.out.2 k hlt
              have hnb : (nb : Int) ≤ 1048576 := by have := HZ.out.2.2 L (mem_atS hL); rw [hrow.1] at this; omega
              have HLL := Lib.hid (And.intro hL hrow)
              clear hL hrow hle
              cases hv9 : allV L
              · obtain rfl : r = false := by
                  rw [← Bool.not_eq_true]; intro e
                  have := HAL.out.1 e L (mem_atS HLL.out.1); rw [hv9] at this; cases this
                have HV9 := Lib.hid hv9
                clear hv9
                go_wp2_with (go_at_call 40; (with_reducible refine (spec_vals _ ab nb cb L hnb HLL.out.2 false HV9.out).mono ?_); rintro e w3 ⟨rfl, rfl⟩)
                go_ret
                exact ⟨rfl, HBW.out⟩
              · have HV9 := Lib.hid hv9
                have hA2 := Lib.hid (show ∀ u ∈ UU.take (k + 1), allV u = true from fun u hu => by
                  rw [List.take_add_one, HLL.out.1] at hu
                  rcases List.mem_append.1 hu with h | h
                  · exact hA.out u h
                  · simp at h; rw [h]; exact HV9.out)
                clear hv9
                go_wp2_with (go_at_call 40; (with_reducible refine (spec_vals _ ab nb cb L hnb HLL.out.2 true HV9.out).mono ?_); rintro e w3 ⟨rfl, rfl⟩)
                go_roundw
                case rel => exact ⟨k + 1, by omega, by go_num, hA2, trivial⟩
                case measure => simp [intOf]; omega
            · obtain rfl : k = nu := by omega
              have hI : ¬ (k : Int) < k := by omega
              obtain rfl : r = true := HAL.out.2 (fun u hu => hA.out u (by rw [List.take_of_length_le (by omega)]; exact hu))
              go_wp2
              go_ret
              exact ⟨rfl, HBW.out⟩
theorem box_more {S M : List Int} {k : Nat} {x : Int} (hx : M[k]? = some x) (h : (box S (M.take k)).length < 24) : box S (M.take (k + 1)) = box S (M.take k) ++ [x] := by
  rw [List.take_add_one, hx, ← box_box]
  show (box S (M.take k) ++ [x]).take 24 = _
  rw [List.take_of_length_le (by simp; omega)]
theorem box_full {S M : List Int} {k : Nat} (h : 24 ≤ (box S (M.take k)).length) : box S M = box S (M.take k) := by
  have h1 := box_box S (M.take k) (M.drop k)
  rw [List.take_append_drop] at h1
  rw [← h1]
  show (box S (M.take k) ++ M.drop k).take 24 = _
  have h2 := box_le S (M.take k)
  rw [List.take_append_of_le_length (by omega), List.take_of_length_le h2]
/-- The outbox with further values: the row has grown in place or moved. -/
def SendOut (B : Nat) (w : World) (v : Value) (S : List Int) (e : Ending) (w' : World) : Prop :=
  ∃ a' n' c', e = .returned (.slice a' n' c') ∧ w'.ownsRow B 3 1 (.slice a' n' c') n' (ivs S) ∧ w.grownBy w' v.ownBlock ∧ ((Value.slice a' n' c').ownBlock = v.ownBlock ∨ ∀ b, (Value.slice a' n' c').ownBlock = some b → w.heap.size ≤ b)
set_option maxHeartbeats 4000000 in
set_option maxRecDepth 100000 in
theorem spec_send (B : Nat) (w : World) (hB : B ≤ w.heap.size) (a : Option Addr) (n c : Nat) (S : List Int) (hS : w.ownsRow B 3 1 (.slice a n c) n (ivs S)) (hS24 : S.length ≤ 24) (am : Option Addr) (m cm : Nat) (M : List Int) (hm : (m : Int) ≤ 1048576) (hM : Row w am m M) (hap : ∀ g off, am = some ⟨g, off, none⟩ → some g ≠ (Value.slice a n c).ownBlock) :
    Calls Tryz.prog 41 #[.slice a n c, .slice am m cm] w (SendOut B w (.slice a n c) (box S M)) := by
  obtain ⟨i0, hi, hz0, hz1, hz2⟩ := info_parts row.infoInt
  obtain ⟨v0, hv0⟩ : ∃ v0, (Value.slice a n c).ownBlock = v0 := ⟨_, rfl⟩
  have hMl := hM.1
  have H0 := Lib.hid (And.intro hS (And.intro hM hap))
  have HBX := Lib.hid (show S = box S (M.take 0) by rw [List.take_zero, box_nil hS24])
  have HV0 := Lib.hid hv0
  clear hS hM hap
  go_enter Tryz.func41, Tryz.ntmps41
  go_wp2
  go_loopw [0, 5] (fun s i wr => ∃ (k : Nat) (a' : Option Addr) (n' c' : Nat), k ≤ m ∧ i = .int .i64 k ∧ s = .slice a' n' c' ∧ n' ≤ 24 ∧ Hid (wr.ownsRow B 3 1 (.slice a' n' c') n' (ivs (box S (M.take k)))) ∧ Hid (w.grownBy wr v0 ∧ ((Value.slice a' n' c').ownBlock = v0 ∨ ∀ b, (Value.slice a' n' c').ownBlock = some b → w.heap.size ≤ b))) (fun _ i _ => m - (intOf i).toNat)
  case atStart => exact ⟨0, a, n, c, Nat.zero_le _, rfl, rfl, by have := own_len H0.out.1; omega, by rw [← HBX.out]; exact H0.out.1, row.grown_refl _ _, .inl HV0.out⟩
  case round =>
    obtain ⟨k, a', n', c', hk, rfl, rfl, hn24, HO, HG⟩ := hrel
    have hnl : (box S (M.take k)).length = n' := own_len HO.out
    by_cases hlt : k < m
    · have hI : (k : Int) < m := by omega
      by_cases hfull : n' < 24
      · have hF : (n' : Int) < 24 := by omega
        obtain ⟨b, off, x, rfl, hlb, hx, hcx⟩ := H0.out.2.1.2 k hlt
        have hcw : wr.cell? ⟨b, off + k, none⟩ = some (.int .i64 x) := HG.out.1.cell hcx (by rw [← HV0.out]; exact H0.out.2.2 b off rfl)
        have HMORE := Lib.hid (box_more (S := S) hx (by omega))
        clear hcx hx
        go_wp2_with (at_builtin; refine wpList_append_own_at _ rfl _ _ 25 rfl B 3 i0 (.int .i64 0) 1 8 Tryz.underlying25 hi hz0 hz1 hz2 rfl (by decide) _ _ _ rfl (HO.out.alloc _) ⟨wr.heap.size, 0, none⟩ 1 1 [.int .i64 x] rfl rfl (World.news_of_block (cs := #[.int .i64 x]) (t := 3) (fr := (0, 0)) (heap_alloc_new wr _)) (by simp [Value.oneCell']) (by unfold maxLen; omega) (by omega) (by simp; have := HG.out.1.size; omega) ?_; intro v4 w4 hown4 hgrow4 _ hat4; refine Hid.out ?_)
        rw [ivs_snoc, ← HMORE.out] at hown4
        obtain ⟨g4, c4, rfl, hg4, hg4l⟩ := hown4.form (by omega)
        have hgw : w.grownBy w4 v0 := by
          have h1 : wr.grownBy w4 (Value.slice a' n' c').ownBlock := grown_trans (World.grownBy_alloc wr _ _) hgrow4
          rcases HG.out.2 with h2 | h2
          · rw [h2] at h1; exact grown_trans HG.out.1 h1
          · exact ⟨h1.os.trans HG.out.1.os, h1.tape.trans HG.out.1.tape, h1.output.trans HG.out.1.output, Nat.le_trans HG.out.1.size h1.size, fun j hj hne => (h1.block j (Nat.lt_of_lt_of_le hj HG.out.1.size) (fun e => by have := h2 j e.symm; omega)).trans (HG.out.1.block j hj hne)⟩
        have hat : (Value.slice (some ⟨g4, 0, none⟩) (n' + 1) c4).ownBlock = v0 ∨ ∀ b, (Value.slice (some ⟨g4, 0, none⟩) (n' + 1) c4).ownBlock = some b → w.heap.size ≤ b := by
          rcases hat4 with h | h
          · have h' : (Value.slice (some ⟨g4, 0, none⟩) (n' + 1) c4).ownBlock = (Value.slice a' n' c').ownBlock := h
            rcases HG.out.2 with h2 | h2
            · left; rw [← h2]; exact h'
            · right; intro q hq; exact h2 q (by rw [← h']; exact hq)
          · right; intro q hq
            have h3 : some g4 = some (wr.heap.size + 1) := by simpa [Value.ownBlock] using h
            have h4 : some g4 = some q := hq
            have := HG.out.1.size
            have := Option.some.inj h3; have := Option.some.inj h4; omega
        have H4 := Lib.hid (And.intro hown4 (And.intro hgw hat))
        clear hown4 hgrow4 hat4 hgw hat hcw
        refine Lib.hid ?_
        go_wp2
        go_roundw
        case rel => exact ⟨k + 1, some ⟨g4, 0, none⟩, n' + 1, c4, by omega, by go_num, rfl, by omega, H4.out.1, H4.out.2⟩
        case measure => simp [intOf]; omega
      · have hF : ¬ (n' : Int) < 24 := by omega
        have HX := Lib.hid (box_full (S := S) (M := M) (k := k) (by omega))
        go_wp2
        go_ret
        exact ⟨a', n', c', rfl, by rw [HX.out]; exact HO.out, by rw [HV0.out]; exact HG.out.1, by rw [HV0.out]; exact HG.out.2⟩
    · obtain rfl : k = m := by omega
      have hI : ¬ (k : Int) < k := by omega
      have HX := Lib.hid (show box S M = box S (M.take k) by rw [List.take_of_length_le (by omega)])
      go_wp2
      go_ret
      exact ⟨a', n', c', rfl, by rw [HX.out]; exact HO.out, by rw [HV0.out]; exact HG.out.1, by rw [HV0.out]; exact HG.out.2⟩
end Go.Proofs.YtlinpefeojpjnaaGreat.ref
