/- Chapter 5's model: LongestRun: how many statements run; nothing that was there is written. -/
import Derived.Test.YtdbgjcfcjehmbaaBlkE
import Derived.IntWalk
namespace Go.Proofs.Ytdbgjcfcjehmbaa.blk
open Go Go.ChangeShapes Go.WideShapes Go.ChangeAt Go.RowKit Go.Proofs.Ytdbgjcfcjehmbaa.row Go.Proofs.Ytdbgjcfcjehmbaa.val Go.Proofs.Ytdbgjcfcjehmbaa.expr Go.Proofs.Ytdbgjcfcjehmbaa.stm

/-- The call returns how many statements run between these places. -/
def LongOut (L : List Go.Proofs.Ytdbgjcfcjehmbaa.stm.St) (a b : Nat) (w : World) (e : Ending) (w' : World) : Prop := ∃ x : Int, e = .returned (.int .i64 x) ∧ Hid (Runs L a b x) ∧ Below w.heap.size w w'
theorem times_ok {n y : Int} (hn : n ≤ 5) (h0 : 0 ≤ y) (h1 : y ≤ 3000) : 0 ≤ max 1 n * y ∧ max 1 n * y ≤ 15000 := by
  obtain ⟨m, hm⟩ : ∃ m, max 1 n = m := ⟨_, rfl⟩
  have hm1 : 1 ≤ m ∧ m ≤ 5 := by omega
  rw [hm]
  have h2 : 0 ≤ m * y := Int.mul_nonneg (by omega) h0
  have h3 : m * y ≤ 5 * y := Int.mul_le_mul_of_nonneg_right hm1.2 h0
  omega
set_option maxHeartbeats 8000000 in
set_option maxRecDepth 100000 in
theorem spec_longest (ad : Option Addr) (n cap : Nat) (L : List Go.Proofs.Ytdbgjcfcjehmbaa.stm.St) (hb : IsBlk L) (hlen : L.length = n) : ∀ (m a b : Nat), b - a ≤ m → Flat L a b → ∀ (w : World), StRow w ad n L →
    Calls Try.prog 34 #[.slice ad n cap, .int .i64 a, .int .i64 b] w (LongOut L a b w) := by
  intro m
  induction m with
  | zero =>
    intro a b hm hF w h
    obtain rfl : a = b := by have := hF.1; omega
    have HN := Lib.hid (Runs.nil (L := L) a)
    have hI : ¬ (a : Int) < a := by omega
    clear h hF
    go_enter Try.func34, Try.ntmps34
    go_wp2
    go_loopw [7, 8] (fun x' k' wr => x' = .int .i64 0 ∧ k' = .int .i64 a ∧ Below w.heap.size w wr) (fun _ _ _ => 0)
    case atStart => exact ⟨rfl, rfl, Below.refl _ _⟩
    case round =>
      obtain ⟨rfl, rfl, hbel⟩ := hrel
      have HBB := Lib.hid hbel
      clear hbel
      go_wp2
      go_ret
      exact ⟨0, rfl, HN, HBB.out⟩
  | succ m ih =>
    intro a b hm hF w h
    have HL := Lib.hid h
    have HF := Lib.hid hF
    have HB := Lib.hid hb
    have hab := hF.1
    have hbn : b ≤ n := by have := hF.2.1; omega
    have hn24 : n ≤ 24 := by have := hb.2.2; omega
    have HI := Lib.hid ih
    clear h hF ih
    go_enter Try.func34, Try.ntmps34
    go_wp2
    go_loopw [7, 8] (fun x' k' wr => ∃ (k : Nat) (x : Int), a ≤ k ∧ k ≤ b ∧ k' = .int .i64 k ∧ x' = .int .i64 x ∧ 0 ≤ x ∧ x ≤ 3000 ∧ Hid (Runs L a k x ∧ hAt L k = hAt L a) ∧ Below w.heap.size w wr) (fun _ k' _ => b - (intOf k').toNat)
    case atStart => exact ⟨a, 0, Nat.le_refl _, hab, rfl, rfl, by omega, by omega, ⟨.nil a, rfl⟩, Below.refl _ _⟩
    case round =>
      obtain ⟨k, x, hak, hkb, rfl, rfl, hx0, hx1, hR, hbel⟩ := hrel
      by_cases hlt : k < b
      · obtain ⟨g, off, s, rfl, hlb, hs, hrg⟩ := (HL.out.below hbel).2 k (by omega)
        have HS := Lib.hid (And.intro hrg (And.intro hs hbel))
        have hI : (k : Int) < b := by omega
        have hI2 : (k : Int) < n := by omega
        have hc0 := (range6 hrg).1
        have hc2 := (range6 hrg).2.2.1
        have h6 := flat_not_end HF.out hlt hak hR.out.2 hs
        have hsn := n_le (blk_stOk HB.out hs)
        clear hrg hs hbel
        rcases (show (s.k = 4 ∨ s.k = 5) ∨ (s.k ≠ 4 ∧ s.k ≠ 5) by omega) with hk | ⟨hk4, hk5⟩
        · have ho : opn s = true := by unfold opn; rcases hk with h | h <;> rw [h] <;> rfl
          obtain ⟨e, he⟩ := end_exists HB.out HS.out.2.1 ho
          have heb := flat_end HF.out hlt hR.out.2 he
          have hke := he.1
          have HE := Lib.hid he
          have HFB := Lib.hid (flat_body he)
          have hq : (s.k == 4) = true ∨ ((s.k == 4) = false ∧ (s.k == 5) = true) := by
            rcases hk with h | h
            · exact .inl (by rw [h]; rfl)
            · exact .inr ⟨by rw [h]; rfl, by rw [h]; rfl⟩
          have HC := Lib.hid (show ∀ w : World, StRow w (some ⟨g, off, none⟩) n L → Calls Try.prog 34 #[.slice (some ⟨g, off, none⟩) n cap, .int .i64 ((k : Int) + 1), .int .i64 e] w (LongOut L (k + 1) e w) from fun w hw => by
            have h9 := HI.out (k + 1) e (by omega) HFB.out w hw
            rw [show ((k + 1 : Nat) : Int) = (k : Int) + 1 by omega] at h9
            exact h9)
          have hwk : IntKind.i64.wrap ((k : Int) + 1) = (k : Int) + 1 := IntWalk.i64_in _ (by omega)
          clear ho he hk
          rcases hq with hq4 | ⟨hq4, hq5⟩
          all_goals
            go_wp2_with (go_at_call 33; refine (spec_end _ n cap L _ (HL.out.below HS.out.2.2) HB.out k e HE.out _ rfl).mono ?_; rintro e2 w2 ⟨rfl, hb2⟩; refine Hid.out ?_)
            have hd2 : w2.drew.cell? ⟨g, off + k * 6 + 2, none⟩ = some (.int .i64 s.n) := (hb2.cell (p := ⟨g, off + k * 6 + 2, none⟩) hlb).trans hc2
            have hlb2 : g < w2.drew.heap.size := Nat.lt_of_lt_of_le hlb hb2.size
            have HB2 := Lib.hid (below_then HS.out.2.2 hb2)
            clear hb2
            rcases (show s.n ≤ 1 ∨ 1 < s.n by omega) with hn1 | hn1
            · have HMX := Lib.hid (show max 1 s.n = 1 by omega)
              have hn2 : ¬ 1 < s.n := by omega
              have hn3 : (if 1 < s.n then s.n else 1) = 1 := if_neg hn2
              refine Lib.hid ?_
              go_wp2
              go_region_held3 (fun w' => w'.cell? ⟨g, off + k * 6 + 2, none⟩ = some (.int .i64 s.n))
                (first | (exact hd2) | (exact (hb3.cell (p := ⟨g, off + k * 6 + 2, none⟩) hlb2).trans hd2))
                (first
                  | (go_at_call 34; (with_reducible refine (HC.out _ (HL.out.below (Below.drew HB2.out))).mono ?_); rintro e3 w3 ⟨y, rfl, hY, hb3⟩; have hys := runs_small HB.out hY.out (by omega); have hty := times_ok hsn hys.1 hys.2; have hw1 : IntKind.i64.wrap y = y := IntWalk.i64_in _ (by omega); have hw2 : IntKind.i64.wrap (x + y) = x + y := IntWalk.i64_in _ (by omega)))
              all_goals
                have HB3 := Lib.hid (below_then HB2.out (Below.trans (Below.drew (Below.refl _ w2)) hb3))
                have HR2 := Lib.hid (show Runs L a (e + 1) (x + y) from by have h9 := hR.out.1.snest HS.out.2.1 HE.out hY.out; rw [HMX.out, Int.one_mul] at h9; exact h9)
                have hrs := runs_small HB.out HR2.out (by omega)
                have hr0 := hrs.1
                have hr1 := hrs.2
                have HH2 := Lib.hid (show hAt L (e + 1) = hAt L a by rw [HE.out.2.2.1]; exact hR.out.2)
                clear hb3 hd2 hrs hys hty
                go_wp2
                go_roundw
                case rel => exact ⟨e + 1, _, by omega, by omega, by go_num, rfl, hr0, hr1, ⟨HR2.out, HH2.out⟩, HB3.out⟩
                case measure => simp [intOf]; omega
            · have HMX := Lib.hid (show max 1 s.n = s.n by omega)
              have hn2 : ¬ s.n < 1 := by omega
              refine Lib.hid ?_
              go_wp2
              go_region_held3 (fun w' => w'.cell? ⟨g, off + k * 6 + 2, none⟩ = some (.int .i64 s.n))
                (first | (exact hd2) | (exact (hb3.cell (p := ⟨g, off + k * 6 + 2, none⟩) hlb2).trans hd2))
                (first
                  | (go_at_call 34; (with_reducible refine (HC.out _ (HL.out.below (Below.drew HB2.out))).mono ?_); rintro e3 w3 ⟨y, rfl, hY, hb3⟩; have hys := runs_small HB.out hY.out (by omega); have hty := times_ok hsn hys.1 hys.2; have hw1 : IntKind.i64.wrap (s.n * y) = s.n * y := IntWalk.i64_in _ (by rw [HMX.out] at hty; omega); have hw2 : IntKind.i64.wrap (x + s.n * y) = x + s.n * y := IntWalk.i64_in _ (by rw [HMX.out] at hty; omega)))
              all_goals
                have HB3 := Lib.hid (below_then HB2.out (Below.trans (Below.drew (Below.refl _ w2)) hb3))
                have HR2 := Lib.hid (show Runs L a (e + 1) (x + s.n * y) from by have h9 := hR.out.1.snest HS.out.2.1 HE.out hY.out; rw [HMX.out] at h9; exact h9)
                have hrs := runs_small HB.out HR2.out (by omega)
                have hr0 := hrs.1
                have hr1 := hrs.2
                have HH2 := Lib.hid (show hAt L (e + 1) = hAt L a by rw [HE.out.2.2.1]; exact hR.out.2)
                clear hb3 hd2 hrs hys hty
                go_wp2
                go_roundw
                case rel => exact ⟨e + 1, _, by omega, by omega, by go_num, rfl, hr0, hr1, ⟨HR2.out, HH2.out⟩, HB3.out⟩
                case measure => simp [intOf]; omega
        · have ho : opn s = false := by unfold opn; rw [show (s.k == 4) = false from by rw [beq_eq_false_iff_ne]; exact hk4, show (s.k == 5) = false from by rw [beq_eq_false_iff_ne]; exact hk5]; rfl
          have hq4 : (s.k == 4) = false := by rw [beq_eq_false_iff_ne]; exact hk4
          have hq5 : (s.k == 5) = false := by rw [beq_eq_false_iff_ne]; exact hk5
          have HR2 := Lib.hid (hR.out.1.snoc HS.out.2.1 ho h6)
          have hrs := runs_small HB.out HR2.out (by omega)
          have hr0 := hrs.1
          have hr1 := hrs.2
          have hd := hAt_succ HS.out.2.1
          have HH2 := Lib.hid (show hAt L (k + 1) = hAt L a by rw [hd, dlt_flat ho h6, hR.out.2]; omega)
          have HBB := Lib.hid HS.out.2.2
          clear ho hk4 hk5 hrs hd
          go_wp2
          go_roundw
          case rel => exact ⟨k + 1, x + 1, by omega, by omega, by go_num, rfl, hr0, hr1, ⟨HR2.out, HH2.out⟩, HBB.out⟩
          case measure => simp [intOf]; omega
      · obtain rfl : k = b := by omega
        have hI : ¬ (k : Int) < k := by omega
        have HBB := Lib.hid hbel
        have HR2 := Lib.hid hR.out.1
        clear hbel
        go_wp2
        go_ret
        exact ⟨x, rfl, HR2, HBB.out⟩
theorem longIs_not {L : List Go.Proofs.Ytdbgjcfcjehmbaa.stm.St} {x : Int} (h : LongIs L x) (hn : ¬ IsBlk L) : x = -1 := h.unique (.inr ⟨rfl, hn⟩)
set_option maxHeartbeats 4000000 in
theorem spec_longestrun (a : Option Addr) (n cap : Nat) (L : List Go.Proofs.Ytdbgjcfcjehmbaa.stm.St) (hn : (n : Int) ≤ 1048576) (w : World) (h : StRow w a n L) (X : Int) (hX : LongIs L X) :
    Calls Try.prog 19 #[.slice a n cap] w (BelI w X) := by
  have HL := Lib.hid h
  have hlen : L.length = n := h.1
  by_cases hb : IsBlk L
  · have HBT := Lib.hid (show true = true ↔ IsBlk L from ⟨fun _ => hb, fun _ => rfl⟩)
    have HC := Lib.hid (show ∀ w : World, StRow w a n L → Calls Try.prog 34 #[.slice a n cap, .int .i64 0, .int .i64 n] w (BelI w X) from fun w hw => by
      have h9 := spec_longest a n cap L hb hlen n 0 n (by omega) (by rw [← hlen]; exact flat_all hb) w hw
      refine h9.mono ?_
      rintro e w' ⟨x, rfl, hx, hbl⟩
      have : X = x := hX.unique (.inl ⟨hb, by rw [hlen]; exact hx.out⟩)
      exact ⟨by rw [this], hbl⟩)
    clear h hX hb hlen
    go_enter Try.func19, Try.ntmps19
    go_wp2_with (go_at_call 14; refine (spec_blockok a n cap L hn _ HL.out true HBT.out).mono ?_; rintro e w2 ⟨rfl, hb2⟩; refine Hid.out ?_)
    have HB2 := Lib.hid hb2
    clear hb2
    refine Lib.hid ?_
    go_wp2_with (go_at_call 34; (with_reducible refine (HC.out _ (HL.out.below HB2.out)).mono ?_); rintro e w3 ⟨rfl, hb3⟩)
    go_ret
    exact ⟨rfl, below_then HB2.out hb3⟩
  · obtain rfl := longIs_not hX hb
    have HBF := Lib.hid (show false = true ↔ IsBlk L from ⟨fun h => (by cases h), fun h => absurd h hb⟩)
    clear h hX hb hlen
    go_enter Try.func19, Try.ntmps19
    go_wp2_with (go_at_call 14; refine (spec_blockok a n cap L hn _ HL.out false HBF.out).mono ?_; rintro e w2 ⟨rfl, hb2⟩)
    go_ret
    exact ⟨rfl, hb2⟩
end Go.Proofs.Ytdbgjcfcjehmbaa.blk
