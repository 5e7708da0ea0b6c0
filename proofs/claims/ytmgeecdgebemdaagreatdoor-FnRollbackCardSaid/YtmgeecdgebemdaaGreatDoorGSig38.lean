/- Several texts in one: TrcQ. -/
import Derived.Test.YtmgeecdgebemdaaGreatDoorGSig25
import Derived.Deep.RegionLaw
import Derived.Deep.AppendLies

/- Chapter 14 of the model: TraceCost, WritesOf, CountSteps; nothing that was there is written. -/
namespace Go.Proofs.YtmgeecdgebemdaaGreatDoor.trc
open Go Go.ChangeShapes Go.WideShapes Go.ChangeAt Go.RowKit Go.Proofs.YtmgeecdgebemdaaGreatDoor.row Go.Proofs.YtmgeecdgebemdaaGreatDoor.val Go.Proofs.YtmgeecdgebemdaaGreatDoor.expr Go.Proofs.YtmgeecdgebemdaaGreatDoor.grow Go.Proofs.YtmgeecdgebemdaaGreatDoor.wrt
theorem csts_snoc {M : List Mic} {k : Nat} {m : Mic} (h : M[k]? = some m) : costW (csts (M.take (k + 1))) = IntKind.i64.wrap (costW (csts (M.take k)) + m.c) := by
  rw [List.take_add_one, h]
  simp [csts, costW]
set_option maxHeartbeats 2000000 in
set_option maxRecDepth 100000 in
theorem spec_tracecost (w : World) (a1 : Option Addr) (n1 c1 : Nat) (a2 : Option Addr) (n2 c2 : Nat) (M : List Mic) (U : List Int) (h : TrRow w a1 n1 a2 n2 M U) (q : Int) (hq : costW (csts M) = q) :
    Calls Tryz.prog 73 #[trV a1 n1 c1 a2 n2 c2] w (BelI w q) := by
  obtain ⟨W, hW⟩ : ∃ W, w.alloc (.cells #[.slice a1 n1 c1, .slice a2 n2 c2] 54) = W := ⟨_, rfl⟩
  have hbx : Box w.heap.size #[.slice a1 n1 c1, .slice a2 n2 c2] 54 W := by rw [← hW]; exact Box.new w _ _
  have hBW : Below w.heap.size w W := by rw [← hW]; exact below_new w _
  have H := Lib.hid (And.intro hBW (h.below hBW))
  have hn : (n1 : Int) ≤ 1048576 := h.2.2.1
  have HQ := Lib.hid hq
  have c0 : W.cell? ⟨w.heap.size, 0, none⟩ = some (.slice a1 n1 c1) := hbx.cell 0
  clear h hbx hBW hq
  go_enter Tryz.func73, Tryz.ntmps73
  go_wp2
  go_loop [3, 4] (fun s i => ∃ k : Nat, k ≤ n1 ∧ i = .int .i64 k ∧ s = .int .i64 (costW (csts (M.take k)))) (fun _ i => n1 - (intOf i).toNat)
  case atStart => exact ⟨0, Nat.zero_le _, rfl, rfl⟩
  case round =>
    obtain ⟨k, hk, rfl, rfl⟩ := hrel
    by_cases hlt : k < n1
    · obtain ⟨b, off, m, rfl, hlb, hm, hr⟩ := H.out.2.1.2 k hlt
      have hI : (k : Int) < n1 := by omega
      have hk0 : (0 : Int) ≤ k := by omega
      have r0 := (range3 hr).1
      have HM := Lib.hid (csts_snoc hm)
      clear hr hm
      go_wp2
      go_round
      case rel => exact ⟨k + 1, by omega, by go_num, by rw [HM.out, IntKind.wrap_i64]; unfold wrap64; rfl⟩
      case measure => simp [intOf]; omega
    · obtain rfl : k = n1 := by omega
      have HE := Lib.hid (show costW (csts (M.take k)) = q by rw [List.take_of_length_le (by have := H.out.2.1.1; omega)]; exact HQ.out)
      go_wp2
      go_ret
      exact ⟨by rw [HE.out]; rfl, H.out.1⟩
theorem i64_low (n : Int) : bits .and .i64 n 4294967295 = n % 4294967296 := by
  have h32 : (BitVec.ofInt 64 4294967295).toNat = 2 ^ 32 - 1 := by decide
  have key : (BitVec.ofInt 64 n &&& BitVec.ofInt 64 4294967295).toNat = (n % ((2 ^ 64 : Nat) : Int)).toNat % 2 ^ 32 := by
    rw [BitVec.toNat_and, BitVec.toNat_ofInt, h32, Nat.and_two_pow_sub_one_eq_mod]
  show IntKind.i64.wrap ((BitVec.ofInt 64 n &&& BitVec.ofInt 64 4294967295).toNat : Nat) = n % 4294967296
  rw [key, IntKind.wrap_i64]
  omega
/-- How many steps an energy allows, one step at a time. -/
theorem cnt_next {M : List Mic} {k : Nat} {m : Mic} {e S : Int} (h : M[k]? = some m) : cntC e S (csts (M.drop k)) = if S + m.c ≤ e then cntC e (S + m.c) (csts (M.drop (k + 1))) + 1 else 0 := by
  obtain ⟨hk, rfl⟩ := List.getElem?_eq_some_iff.1 h
  rw [List.drop_eq_getElem_cons hk]
  rfl
set_option maxHeartbeats 4000000 in
set_option maxRecDepth 100000 in
theorem spec_countsteps (w : World) (a1 : Option Addr) (n1 c1 : Nat) (a2 : Option Addr) (n2 c2 : Nat) (M : List Mic) (U : List Int) (h : TrRow w a1 n1 a2 n2 M U) (hM : MicOk M) (e : Int) (he : i64r e) (q : Nat) (hq : cntE (csts M) e = q) :
    Calls Tryz.prog 125 #[trV a1 n1 c1 a2 n2 c2, .int .i64 e] w (BelI w q) := by
  obtain ⟨W, hW⟩ : ∃ W, w.alloc (.cells #[.slice a1 n1 c1, .slice a2 n2 c2] 54) = W := ⟨_, rfl⟩
  have hbx : Box w.heap.size #[.slice a1 n1 c1, .slice a2 n2 c2] 54 W := by rw [← hW]; exact Box.new w _ _
  have hBW : Below w.heap.size w W := by rw [← hW]; exact below_new w _
  have H := Lib.hid (And.intro hBW (And.intro (h.below hBW) hM))
  have hn : (n1 : Int) ≤ 1048576 := h.2.2.1
  have HQ := Lib.hid hq
  have c0 : W.cell? ⟨w.heap.size, 0, none⟩ = some (.slice a1 n1 c1) := hbx.cell 0
  have hlen : M.length = n1 := h.1.1
  have HL := Lib.hid hlen
  clear h hbx hBW hq hM hlen
  go_enter Tryz.func125, Tryz.ntmps125
  go_wp2
  by_cases he0 : 0 ≤ e
  · obtain ⟨eh, hs3⟩ : ∃ eh, e / 4294967296 = eh := ⟨_, rfl⟩
    obtain ⟨el, hr3⟩ : ∃ el, e % 4294967296 = el := ⟨_, rfl⟩
    have hb3 : bits .and .i64 e 4294967295 = el := by rw [i64_low, hr3]
    go_loop [5, 6, 7] (fun i lo hi => ∃ (k : Nat) (l g S : Int), k ≤ n1 ∧ i = .int .i64 k ∧ lo = .int .i64 l ∧ hi = .int .i64 g ∧ 0 ≤ l ∧ l ≤ 4294967295 ∧ g * 4294967296 + l = S ∧ -(k * 2147483648) ≤ g ∧ g ≤ k * 2147483648 ∧ Hid (k + cntC e S (csts (M.drop k)) = q)) (fun i _ _ => n1 - (intOf i).toNat)
    case atStart => exact ⟨0, 0, 0, 0, Nat.zero_le _, rfl, rfl, rfl, by omega, by omega, by omega, by omega, by omega, by
      have h9 := HQ.out
      unfold cntE at h9
      rw [if_neg (by omega)] at h9
      show 0 + cntC e 0 (csts (M.drop 0)) = q
      rw [Nat.zero_add]; exact h9⟩
    case round =>
      obtain ⟨k, l, g, S, hk, rfl, rfl, rfl, hl0, hl1, hS, hg0, hg1, HI⟩ := hrel
      by_cases hlt : k < n1
      · obtain ⟨b, off, m, rfl, hlb, hm, hr⟩ := H.out.2.1.1.2 k hlt
        have hI : (k : Int) < n1 := by omega
        have hk0 : (0 : Int) ≤ k := by omega
        have hcr := H.out.2.2 m (List.mem_of_getElem? hm)
        have HCN := Lib.hid (cnt_next (e := e) (S := S) hm)
        obtain ⟨c, hc⟩ : ∃ c, m.c = c := ⟨_, rfl⟩
        have r0 := (range3 hr).1
        have HC := Lib.hid hc
        rw [hc] at r0 hcr
        obtain ⟨cl, hr1⟩ : ∃ cl, c % 4294967296 = cl := ⟨_, rfl⟩
        obtain ⟨ch, hs1⟩ : ∃ ch, c / 4294967296 = ch := ⟨_, rfl⟩
        obtain ⟨ls, hls⟩ : ∃ ls, l + cl = ls := ⟨_, rfl⟩
        obtain ⟨cy, hs2⟩ : ∃ cy, ls / 4294967296 = cy := ⟨_, rfl⟩
        obtain ⟨l', hr2⟩ : ∃ l', ls % 4294967296 = l' := ⟨_, rfl⟩
        obtain ⟨g1, hg1e⟩ : ∃ g1, g + ch = g1 := ⟨_, rfl⟩
        obtain ⟨g', hg'⟩ : ∃ g', g1 + cy = g' := ⟨_, rfl⟩
        have hb1 : bits .and .i64 c 4294967295 = cl := by rw [i64_low, hr1]
        have hb2 : bits .and .i64 ls 4294967295 = l' := by rw [i64_low, hr2]
        have hw1 : IntKind.i64.wrap (l + cl) = ls := by rw [IntWalk.i64_in _ (by omega)]; exact hls
        have hw2 : IntKind.i64.wrap (g + ch) = g1 := by rw [IntWalk.i64_in _ (by omega)]; exact hg1e
        have hw3 : IntKind.i64.wrap (g1 + cy) = g' := by rw [IntWalk.i64_in _ (by omega)]; exact hg'
        have hwk : IntKind.i64.wrap ((k : Int) + 1) = k + 1 := IntWalk.i64_in _ (by omega)
        have HNX := Lib.hid (show 0 ≤ l' ∧ l' ≤ 4294967295 ∧ g' * 4294967296 + l' = S + c ∧ -((k + 1 : Nat) * 2147483648 : Int) ≤ g' ∧ g' ≤ ((k + 1 : Nat) * 2147483648 : Int) from by omega)
        have HGT := Lib.hid (show (g' > eh → ¬ S + c ≤ e) ∧ (g' = eh → l' > el → ¬ S + c ≤ e) ∧ (¬ g' > eh → ¬ (g' = eh ∧ l' > el) → S + c ≤ e) from by omega)
        have HR := Lib.hid (And.intro hS (And.intro hg0 hg1))
        clear hr hm hc hr1 hls hr2 hg1e hg' hS hg0 hg1 hcr hl0 hl1 hr3
        by_cases hgt : eh < g'
        · have HX := Lib.hid (show k = q by have h1 := HI.out; rw [HCN.out, HC.out, if_neg (HGT.out.1 hgt)] at h1; exact h1)
          go_wp2
          go_ret
          exact ⟨by rw [HX.out]; rfl, H.out.1⟩
        · have hg2 : ¬ g' > eh := hgt
          cases heq : (g' == eh)
          · have HX := Lib.hid (show ((k + 1 : Nat) + cntC e (S + c) (csts (M.drop (k + 1))) = q) from by
              have h1 := HI.out
              have h2 : ¬ g' = eh := by simpa using heq
              rw [HCN.out, HC.out, if_pos (HGT.out.2.2 hg2 (fun h => h2 h.1))] at h1; omega)
            go_wp2
            go_round
            case rel => exact ⟨k + 1, l', g', S + c, by omega, by go_num, rfl, rfl, HNX.out.1, HNX.out.2.1, HNX.out.2.2.1, HNX.out.2.2.2.1, HNX.out.2.2.2.2, HX.out⟩
            case measure => simp [intOf]; omega
          · have h2 : g' = eh := by simpa using heq
            by_cases hl : el < l'
            · have HX := Lib.hid (show k = q by have h1 := HI.out; rw [HCN.out, HC.out, if_neg (HGT.out.2.1 h2 hl)] at h1; exact h1)
              clear h2
              go_wp2
              go_ret
              exact ⟨by rw [HX.out]; rfl, H.out.1⟩
            · have HX := Lib.hid (show ((k + 1 : Nat) + cntC e (S + c) (csts (M.drop (k + 1))) = q) from by
                have h1 := HI.out
                rw [HCN.out, HC.out, if_pos (HGT.out.2.2 hg2 (fun h => hl h.2))] at h1; omega)
              clear h2
              go_wp2
              go_round
              case rel => exact ⟨k + 1, l', g', S + c, by omega, by go_num, rfl, rfl, HNX.out.1, HNX.out.2.1, HNX.out.2.2.1, HNX.out.2.2.2.1, HNX.out.2.2.2.2, HX.out⟩
              case measure => simp [intOf]; omega
      · obtain rfl : k = n1 := by omega
        have HX := Lib.hid (show k = q by
          have h1 := HI.out
          rw [List.drop_eq_nil_of_le (by rw [HL.out]; exact Nat.le_refl _)] at h1
          exact h1)
        clear hS hg0 hg1
        go_wp2
        go_ret
        exact ⟨by rw [HX.out]; rfl, H.out.1⟩
  · have HX := Lib.hid (show (0 : Nat) = q by have h1 := HQ.out; unfold cntE at h1; rw [if_pos (by omega)] at h1; exact h1)
    go_loop [5] (fun i => i = .int .i64 0) (fun i => 0)
    case atStart => rfl
    case round =>
      obtain rfl := hrel
      by_cases hlt : 0 < n1
      · have hI : (0 : Int) < n1 := by omega
        have hI2 : ¬ 0 ≤ e := he0
        go_wp2
        go_ret
        exact ⟨by rw [← HX.out]; rfl, H.out.1⟩
      · have hI : ¬ (0 : Int) < n1 := by omega
        go_wp2
        go_ret
        exact ⟨by rw [← HX.out]; rfl, H.out.1⟩
end Go.Proofs.YtmgeecdgebemdaaGreatDoor.trc
