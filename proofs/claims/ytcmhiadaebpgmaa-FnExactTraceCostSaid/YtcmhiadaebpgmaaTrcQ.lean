/- Chapter 14 of the model: TraceCost, WritesOf, CountSteps; nothing that was there is written. -/
import Derived.Test.YtcmhiadaebpgmaaTrcV
import Derived.Deep.RegionLaw
import Derived.Deep.AppendLies
namespace Go.Proofs.Ytcmhiadaebpgmaa.trc
open Go Go.ChangeShapes Go.WideShapes Go.ChangeAt Go.RowKit Go.Proofs.Ytcmhiadaebpgmaa.row Go.Proofs.Ytcmhiadaebpgmaa.val Go.Proofs.Ytcmhiadaebpgmaa.expr Go.Proofs.Ytcmhiadaebpgmaa.grow Go.Proofs.Ytcmhiadaebpgmaa.wrt
theorem csts_snoc {M : List Mic} {k : Nat} {m : Mic} (h : M[k]? = some m) : costW (csts (M.take (k + 1))) = IntKind.i64.wrap (costW (csts (M.take k)) + m.c) := by
  rw [List.take_add_one, h]
  simp [csts, costW]
set_option maxHeartbeats 2000000 in
set_option maxRecDepth 100000 in
theorem spec_tracecost (w : World) (a1 : Option Addr) (n1 c1 : Nat) (a2 : Option Addr) (n2 c2 : Nat) (M : List Mic) (U : List Int) (h : TrRow w a1 n1 a2 n2 M U) (q : Int) (hq : costW (csts M) = q) :
    Calls Try.prog 7 #[trV a1 n1 c1 a2 n2 c2] w (BelI w q) := by
  obtain ⟨W, hW⟩ : ∃ W, w.alloc (.cells #[.slice a1 n1 c1, .slice a2 n2 c2] 30) = W := ⟨_, rfl⟩
  have hbx : Box w.heap.size #[.slice a1 n1 c1, .slice a2 n2 c2] 30 W := by rw [← hW]; exact Box.new w _ _
  have hBW : Below w.heap.size w W := by rw [← hW]; exact below_new w _
  have H := Lib.hid (And.intro hBW (h.below hBW))
  have hn : (n1 : Int) ≤ 1048576 := h.2.2.1
  have HQ := Lib.hid hq
  have c0 : W.cell? ⟨w.heap.size, 0, none⟩ = some (.slice a1 n1 c1) := hbx.cell 0
  clear h hbx hBW hq
  go_enter Try.func7, Try.ntmps7
  go_wp2
  go_loop [3, 4] (fun s i => ∃ k : Nat, k ≤ n1 ∧ i = .int .i64 k ∧ s = .int .i64 (costW (csts (M.take k)))) (fun _ i => n1 - (intOf i).toNat)
  case atStart => exact ⟨0, Nat.zero_le _, rfl, rfl⟩
  case round =>
    obtain ⟨k, hk, rfl, rfl⟩ := hrel
    by_cases hlt : k < n1
    · obtain ⟨b, off, m, rfl, hlb, hm, hr⟩ := H.out.2.1.2 k hlt
      have hI : (k : Int) < n1 := by omega
      have hk0 : (0 : Int) ≤ k := by omega
      have r0 := (range3 hr).1
      have HM := Lib.hid (csts_snoc hm)
      clear hr hm
      go_wp2
      go_round
      case rel => exact ⟨k + 1, by omega, by go_num, by rw [HM.out, IntKind.wrap_i64]; unfold wrap64; rfl⟩
      case measure => simp [intOf]; omega
    · obtain rfl : k = n1 := by omega
      have HE := Lib.hid (show costW (csts (M.take k)) = q by rw [List.take_of_length_le (by have := H.out.2.1.1; omega)]; exact HQ.out)
      go_wp2
      go_ret
      exact ⟨by rw [HE.out]; rfl, H.out.1⟩
theorem wrs_snoc {M : List Mic} {k : Nat} {m : Mic} (h : M[k]? = some m) : wrs (M.take (k + 1)) = if m.a = -1 then wrs (M.take k) else wrs (M.take k) ++ [⟨m.a, m.v⟩] := by
  rw [List.take_add_one, h]
  simp only [Option.toList_some, wrs_app]
  split
  · rename_i h1; simp [wrs, h1]
  · rename_i h1; simp [wrs, h1]
theorem wrs_len (M : List Mic) : (wrs M).length ≤ M.length := by unfold wrs; rw [List.length_map]; exact List.length_filter_le _ _
theorem writesC_snoc (L : List Wt) (s : Wt) : writesC L ++ [.int .i64 s.p, .int .i64 s.v] = writesC (L ++ [s]) := by simp [writesC, gcs, writeC]
set_option maxHeartbeats 4000000 in
set_option maxRecDepth 100000 in
theorem spec_writesof (w : World) (a1 : Option Addr) (n1 c1 : Nat) (a2 : Option Addr) (n2 c2 : Nat) (M : List Mic) (U : List Int) (h : TrRow w a1 n1 a2 n2 M U) (L : List Wt) (hL : wrs M = L) :
    Calls Try.prog 11 #[trV a1 n1 c1 a2 n2 c2] w (NewWts w L) := by
  obtain ⟨i0, hi, hz0, hz1, hz2⟩ := info_parts infoWrite
  obtain ⟨W, hW⟩ : ∃ W, w.alloc (.cells #[.slice a1 n1 c1, .slice a2 n2 c2] 30) = W := ⟨_, rfl⟩
  have hbx : Box w.heap.size #[.slice a1 n1 c1, .slice a2 n2 c2] 30 W := by rw [← hW]; exact Box.new w _ _
  have hBW : Below w.heap.size w W := by rw [← hW]; exact below_new w _
  have hWs : W.heap.size = w.heap.size + 1 := by rw [← hW]; simp
  have hn : (n1 : Int) ≤ 1048576 := h.2.2.1
  have hlen : M.length = n1 := h.1.1
  have H := Lib.hid (And.intro hbx (And.intro hBW (h.below hBW)))
  have HL := Lib.hid (And.intro hL hlen)
  clear h hbx hBW hL hlen
  go_enter Try.func11, Try.ntmps11
  go_wp2
  go_loopw [3, 4] (fun v i wr => ∃ (k n g cap : Nat), k ≤ n1 ∧ i = .int .i64 k ∧ v = .slice (some ⟨g, 0, none⟩) n cap ∧ Hid (wr.ownsRow W.heap.size 49 2 (.slice (some ⟨g, 0, none⟩) n cap) n (writesC (wrs (M.take k))) ∧ Below W.heap.size W wr)) (fun _ i _ => n1 - (intOf i).toNat)
  case atStart => exact ⟨0, 0, W.heap.size, 0, Nat.zero_le _, rfl, by rw [hWs], World.ownsRow_made W #[] 0 (Nat.le_refl _) (by decide) rfl, below_new _ _⟩
  case round =>
    obtain ⟨k, n, g, cap, hk, rfl, rfl, HO⟩ := hrel
    have hbxr := (HO.out.2.block _ (by omega)).trans H.out.1
    have hbxr' : Box w.heap.size #[.slice a1 n1 c1, .slice a2 n2 c2] 30 wr := hbxr
    have c0 : wr.cell? ⟨w.heap.size, 0, none⟩ = some (.slice a1 n1 c1) := hbxr'.cell 0
    have d0 : wr.drew.cell? ⟨w.heap.size, 0, none⟩ = some (.slice a1 n1 c1) := c0
    have hnn : n ≤ n1 := by
      have h1 := HO.out.1.1
      rw [writesC_len] at h1
      have h2 := wrs_len (M.take k)
      rw [List.length_take] at h2
      omega
    clear hbxr hbxr'
    by_cases hlt : k < n1
    · obtain ⟨b, off, m, rfl, hlb, hm, hr⟩ := (H.out.2.2.1.below HO.out.2).2 k hlt
      have hI : (k : Int) < n1 := by omega
      have hk0 : (0 : Int) ≤ k := by omega
      obtain ⟨_, r1, r2⟩ := range3 hr
      have HS := Lib.hid (wrs_snoc hm)
      obtain ⟨c, a, v⟩ := m
      dsimp only at r1 r2
      have s1 : wr.drew.cell? ⟨b, off + k * 3 + 1, none⟩ = some (.int .i64 a) := r1
      have s2 : wr.drew.cell? ⟨b, off + k * 3 + 2, none⟩ = some (.int .i64 v) := r2
      clear hr hm
      cases ha : (a != -1)
      · have HS2 := Lib.hid (show wrs (M.take (k + 1)) = wrs (M.take k) from by rw [HS.out]; exact if_pos (by simpa using ha))
        go_wp2
        go_roundw
        case rel => exact ⟨k + 1, n, g, cap, by omega, by go_num, rfl, by rw [HS2.out]; exact HO.out.1, HO.out.2⟩
        case measure => simp [intOf]; omega
      · have HS2 := Lib.hid (show wrs (M.take (k + 1)) = wrs (M.take k) ++ [⟨a, v⟩] from by rw [HS.out]; exact if_neg (by simpa using ha))
        have HOA := Lib.hid (show ((wr.alloc (.cells #[.int .i64 a, .int .i64 v] 49)).drew).ownsRow W.heap.size 49 2 (.slice (some ⟨g, 0, none⟩) n cap) n (writesC (wrs (M.take k))) from HO.out.1.alloc _)
        have hWr := HO.out.2.size
        go_wp2
        go_region_law (first
          | ((refine step_append_lies _ (by rfl) _ _ _ (by rfl) W.heap.size 49 i0 (.agg #[.int .i64 0, .int .i64 0]) 2 16 Try.underlying34 hi hz0 hz1 hz2 rfl (by decide) _ n _ (by rfl) HOA.out ⟨wr.heap.size, 0, none⟩ 1 1 [.int .i64 a, .int .i64 v] (by rfl) (by rfl) (World.news_of_block (cs := #[.int .i64 a, .int .i64 v]) (t := 49) (fr := (0, 0)) (heap_alloc_new wr _)) (by simp [Value.oneCell']) (by omega) (by unfold maxLen; omega) (by omega) (by simp; omega) (wr.heap.size + 1) (by simp) ?_); intro g7 c7 w7 hown7 hgrow7 hat7 hlt7))
        all_goals
          have h7 : w7.ownsRow W.heap.size 49 2 (.slice (some ⟨g7, 0, none⟩) (n + 1) c7) (n + 1) (writesC (wrs (M.take (k + 1)))) := by
            rw [HS2.out, ← writesC_snoc]; exact hown7
          have hb7 : Below W.heap.size W w7 := (Below.drew (HO.out.2.alloc hWr _)).grown hgrow7 (by show W.heap.size ≤ (wr.alloc _).heap.size; simp; omega) (fun j hj => (HO.out.1.lt j hj).1)
          have H7 := Lib.hid (And.intro h7 hb7)
          clear h7 hb7 hown7 hgrow7 hat7 hlt7
          refine Lib.hid ?_
          go_wp2
          go_roundw
          case rel => exact ⟨k + 1, n + 1, g7, c7, by omega, by go_num, rfl, H7.out⟩
          case measure => simp [intOf]; omega
    · obtain rfl : k = n1 := by omega
      have HE := Lib.hid (show wrs (M.take k) = L by rw [List.take_of_length_le (by have := HL.out.2; omega)]; exact HL.out.1)
      have H9 := Lib.hid (show ∃ q, q = writesC L ∧ wr.ownsRow w.heap.size 49 2 (.slice (some ⟨g, 0, none⟩) n cap) n q from ⟨_, rfl, by rw [← HE.out]; exact HO.out.1.mono (by omega)⟩)
      have HB := Lib.hid (show Below w.heap.size w wr from H.out.2.1.trans (HO.out.2.mono (by omega)))
      go_wp2
      go_ret
      obtain ⟨q, rfl, h9⟩ := H9.out
      exact ⟨_, _, _, rfl, h9, HB.out⟩
theorem i64_low (n : Int) : bits .and .i64 n 4294967295 = n % 4294967296 := by
  have h32 : (BitVec.ofInt 64 4294967295).toNat = 2 ^ 32 - 1 := by decide
  have key : (BitVec.ofInt 64 n &&& BitVec.ofInt 64 4294967295).toNat = (n % ((2 ^ 64 : Nat) : Int)).toNat % 2 ^ 32 := by
    rw [BitVec.toNat_and, BitVec.toNat_ofInt, h32, Nat.and_two_pow_sub_one_eq_mod]
  show IntKind.i64.wrap ((BitVec.ofInt 64 n &&& BitVec.ofInt 64 4294967295).toNat : Nat) = n % 4294967296
  rw [key, IntKind.wrap_i64]
  omega
/-- How many steps an energy allows, one step at a time. -/
theorem cnt_next {M : List Mic} {k : Nat} {m : Mic} {e S : Int} (h : M[k]? = some m) : cntC e S (csts (M.drop k)) = if S + m.c ≤ e then cntC e (S + m.c) (csts (M.drop (k + 1))) + 1 else 0 := by
  obtain ⟨hk, rfl⟩ := List.getElem?_eq_some_iff.1 h
  rw [List.drop_eq_getElem_cons hk]
  rfl
set_option maxHeartbeats 4000000 in
set_option maxRecDepth 100000 in
theorem spec_countsteps (w : World) (a1 : Option Addr) (n1 c1 : Nat) (a2 : Option Addr) (n2 c2 : Nat) (M : List Mic) (U : List Int) (h : TrRow w a1 n1 a2 n2 M U) (hM : MicOk M) (e : Int) (he : i64r e) (q : Nat) (hq : cntE (csts M) e = q) :
    Calls Try.prog 17 #[trV a1 n1 c1 a2 n2 c2, .int .i64 e] w (BelI w q) := by
  obtain ⟨W, hW⟩ : ∃ W, w.alloc (.cells #[.slice a1 n1 c1, .slice a2 n2 c2] 30) = W := ⟨_, rfl⟩
  have hbx : Box w.heap.size #[.slice a1 n1 c1, .slice a2 n2 c2] 30 W := by rw [← hW]; exact Box.new w _ _
  have hBW : Below w.heap.size w W := by rw [← hW]; exact below_new w _
  have H := Lib.hid (And.intro hBW (And.intro (h.below hBW) hM))
  have hn : (n1 : Int) ≤ 1048576 := h.2.2.1
  have HQ := Lib.hid hq
  have c0 : W.cell? ⟨w.heap.size, 0, none⟩ = some (.slice a1 n1 c1) := hbx.cell 0
  have hlen : M.length = n1 := h.1.1
  have HL := Lib.hid hlen
  clear h hbx hBW hq hM hlen
  go_enter Try.func17, Try.ntmps17
  go_wp2
  by_cases he0 : 0 ≤ e
  · obtain ⟨eh, hs3⟩ : ∃ eh, e / 4294967296 = eh := ⟨_, rfl⟩
    obtain ⟨el, hr3⟩ : ∃ el, e % 4294967296 = el := ⟨_, rfl⟩
    have hb3 : bits .and .i64 e 4294967295 = el := by rw [i64_low, hr3]
    go_loop [5, 6, 7] (fun i lo hi => ∃ (k : Nat) (l g S : Int), k ≤ n1 ∧ i = .int .i64 k ∧ lo = .int .i64 l ∧ hi = .int .i64 g ∧ 0 ≤ l ∧ l ≤ 4294967295 ∧ g * 4294967296 + l = S ∧ -(k * 2147483648) ≤ g ∧ g ≤ k * 2147483648 ∧ Hid (k + cntC e S (csts (M.drop k)) = q)) (fun i _ _ => n1 - (intOf i).toNat)
    case atStart => exact ⟨0, 0, 0, 0, Nat.zero_le _, rfl, rfl, rfl, by omega, by omega, by omega, by omega, by omega, by
      have h9 := HQ.out
      unfold cntE at h9
      rw [if_neg (by omega)] at h9
      show 0 + cntC e 0 (csts (M.drop 0)) = q
      rw [Nat.zero_add]; exact h9⟩
    case round =>
      obtain ⟨k, l, g, S, hk, rfl, rfl, rfl, hl0, hl1, hS, hg0, hg1, HI⟩ := hrel
      by_cases hlt : k < n1
      · obtain ⟨b, off, m, rfl, hlb, hm, hr⟩ := H.out.2.1.1.2 k hlt
        have hI : (k : Int) < n1 := by omega
        have hk0 : (0 : Int) ≤ k := by omega
        have hcr := H.out.2.2 m (List.mem_of_getElem? hm)
        have HCN := Lib.hid (cnt_next (e := e) (S := S) hm)
        obtain ⟨c, hc⟩ : ∃ c, m.c = c := ⟨_, rfl⟩
        have r0 := (range3 hr).1
        have HC := Lib.hid hc
        rw [hc] at r0 hcr
        obtain ⟨cl, hr1⟩ : ∃ cl, c % 4294967296 = cl := ⟨_, rfl⟩
        obtain ⟨ch, hs1⟩ : ∃ ch, c / 4294967296 = ch := ⟨_, rfl⟩
        obtain ⟨ls, hls⟩ : ∃ ls, l + cl = ls := ⟨_, rfl⟩
        obtain ⟨cy, hs2⟩ : ∃ cy, ls / 4294967296 = cy := ⟨_, rfl⟩
        obtain ⟨l', hr2⟩ : ∃ l', ls % 4294967296 = l' := ⟨_, rfl⟩
        obtain ⟨g1, hg1e⟩ : ∃ g1, g + ch = g1 := ⟨_, rfl⟩
        obtain ⟨g', hg'⟩ : ∃ g', g1 + cy = g' := ⟨_, rfl⟩
        have hb1 : bits .and .i64 c 4294967295 = cl := by rw [i64_low, hr1]
        have hb2 : bits .and .i64 ls 4294967295 = l' := by rw [i64_low, hr2]
        have hw1 : IntKind.i64.wrap (l + cl) = ls := by rw [IntWalk.i64_in _ (by omega)]; exact hls
        have hw2 : IntKind.i64.wrap (g + ch) = g1 := by rw [IntWalk.i64_in _ (by omega)]; exact hg1e
        have hw3 : IntKind.i64.wrap (g1 + cy) = g' := by rw [IntWalk.i64_in _ (by omega)]; exact hg'
        have hwk : IntKind.i64.wrap ((k : Int) + 1) = k + 1 := IntWalk.i64_in _ (by omega)
        have HNX := Lib.hid (show 0 ≤ l' ∧ l' ≤ 4294967295 ∧ g' * 4294967296 + l' = S + c ∧ -((k + 1 : Nat) * 2147483648 : Int) ≤ g' ∧ g' ≤ ((k + 1 : Nat) * 2147483648 : Int) from by omega)
        have HGT := Lib.hid (show (g' > eh → ¬ S + c ≤ e) ∧ (g' = eh → l' > el → ¬ S + c ≤ e) ∧ (¬ g' > eh → ¬ (g' = eh ∧ l' > el) → S + c ≤ e) from by omega)
        have HR := Lib.hid (And.intro hS (And.intro hg0 hg1))
        clear hr hm hc hr1 hls hr2 hg1e hg' hS hg0 hg1 hcr hl0 hl1 hr3
        by_cases hgt : eh < g'
        · have HX := Lib.hid (show k = q by have h1 := HI.out; rw [HCN.out, HC.out, if_neg (HGT.out.1 hgt)] at h1; exact h1)
          go_wp2
          go_ret
          exact ⟨by rw [HX.out]; rfl, H.out.1⟩
        · have hg2 : ¬ g' > eh := hgt
          cases heq : (g' == eh)
          · have HX := Lib.hid (show ((k + 1 : Nat) + cntC e (S + c) (csts (M.drop (k + 1))) = q) from by
              have h1 := HI.out
              have h2 : ¬ g' = eh := by simpa using heq
              rw [HCN.out, HC.out, if_pos (HGT.out.2.2 hg2 (fun h => h2 h.1))] at h1; omega)
            go_wp2
            go_round
            case rel => exact ⟨k + 1, l', g', S + c, by omega, by go_num, rfl, rfl, HNX.out.1, HNX.out.2.1, HNX.out.2.2.1, HNX.out.2.2.2.1, HNX.out.2.2.2.2, HX.out⟩
            case measure => simp [intOf]; omega
          · have h2 : g' = eh := by simpa using heq
            by_cases hl : el < l'
            · have HX := Lib.hid (show k = q by have h1 := HI.out; rw [HCN.out, HC.out, if_neg (HGT.out.2.1 h2 hl)] at h1; exact h1)
              clear h2
              go_wp2
              go_ret
              exact ⟨by rw [HX.out]; rfl, H.out.1⟩
            · have HX := Lib.hid (show ((k + 1 : Nat) + cntC e (S + c) (csts (M.drop (k + 1))) = q) from by
                have h1 := HI.out
                rw [HCN.out, HC.out, if_pos (HGT.out.2.2 hg2 (fun h => hl h.2))] at h1; omega)
              clear h2
              go_wp2
              go_round
              case rel => exact ⟨k + 1, l', g', S + c, by omega, by go_num, rfl, rfl, HNX.out.1, HNX.out.2.1, HNX.out.2.2.1, HNX.out.2.2.2.1, HNX.out.2.2.2.2, HX.out⟩
              case measure => simp [intOf]; omega
      · obtain rfl : k = n1 := by omega
        have HX := Lib.hid (show k = q by
          have h1 := HI.out
          rw [List.drop_eq_nil_of_le (by rw [HL.out]; exact Nat.le_refl _)] at h1
          exact h1)
        clear hS hg0 hg1
        go_wp2
        go_ret
        exact ⟨by rw [HX.out]; rfl, H.out.1⟩
  · have HX := Lib.hid (show (0 : Nat) = q by have h1 := HQ.out; unfold cntE at h1; rw [if_pos (by omega)] at h1; exact h1)
    go_loop [5] (fun i => i = .int .i64 0) (fun i => 0)
    case atStart => rfl
    case round =>
      obtain rfl := hrel
      by_cases hlt : 0 < n1
      · have hI : (0 : Int) < n1 := by omega
        have hI2 : ¬ 0 ≤ e := he0
        go_wp2
        go_ret
        exact ⟨by rw [← HX.out]; rfl, H.out.1⟩
      · have hI : ¬ (0 : Int) < n1 := by omega
        go_wp2
        go_ret
        exact ⟨by rw [← HX.out]; rfl, H.out.1⟩
end Go.Proofs.Ytcmhiadaebpgmaa.trc
