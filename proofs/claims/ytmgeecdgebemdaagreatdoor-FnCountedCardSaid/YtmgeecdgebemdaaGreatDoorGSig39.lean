/- Several texts in one: TrcI. -/
import Derived.Test.YtmgeecdgebemdaaGreatDoorGSig38
import Derived.Test.YtmgeecdgebemdaaGreatDoorGSig4
import Derived.Shelf.Lays7
import Derived.Laws.Externs
import Derived.Shelf.Spec.BitsCarry

/- Chapter 14 of the program: TraceCost, WritesOf, CountSteps; nothing that was there is written. -/
namespace Go.Proofs.YtmgeecdgebemdaaGreatDoor.trc
open Go Go.ChangeShapes Go.WideShapes Go.ChangeAt Go.RowKit Go.Proofs.YtmgeecdgebemdaaGreatDoor.row Go.Proofs.YtmgeecdgebemdaaGreatDoor.val Go.Proofs.YtmgeecdgebemdaaGreatDoor.expr Go.Proofs.YtmgeecdgebemdaaGreatDoor.grow Go.Proofs.YtmgeecdgebemdaaGreatDoor.wrt
set_option maxHeartbeats 2000000 in
set_option maxRecDepth 100000 in
theorem impl_tracecost : TcC := by
  intro w a1 n1 c1 a2 n2 c2 M U hcap h _ q hq
  obtain ⟨W, hW⟩ : ∃ W, w.alloc (.cells #[.slice a1 n1 c1, .slice a2 n2 c2] 54) = W := ⟨_, rfl⟩
  have hbx : Box w.heap.size #[.slice a1 n1 c1, .slice a2 n2 c2] 54 W := by rw [← hW]; exact Box.new w _ _
  have hBW : Below w.heap.size w W := by rw [← hW]; exact below_new w _
  have H := Lib.hid (And.intro hBW (h.below hBW))
  have hn : (n1 : Int) ≤ 1048576 := h.2.2.1
  have HQ := Lib.hid hq
  have c0 : W.cell? ⟨w.heap.size, 0, none⟩ = some (.slice a1 n1 c1) := hbx.cell 0
  clear h hbx hBW hq hcap
  go_enter Tryz.func40, Tryz.ntmps40
  go_wp2
  go_loopw [3, 5, 9] (fun s _ i wr => ∃ k : Nat, k ≤ n1 ∧ i = .int .i64 k ∧ s = .int .i64 (costW (csts (M.take k))) ∧ Hid (Below W.heap.size W wr)) (fun _ _ i _ => n1 - (intOf i).toNat)
  case atStart => exact ⟨0, Nat.zero_le _, rfl, rfl, Below.refl _ _⟩
  case round =>
    obtain ⟨k, hk, rfl, rfl, HB⟩ := hrel
    by_cases hlt : k < n1
    · obtain ⟨b, off, m, rfl, hlb, hm, hr⟩ := (H.out.2.1.below HB.out).2 k hlt
      have hI : (k : Int) < n1 := by omega
      have HR := Lib.hid hr
      have HM := Lib.hid (csts_snoc hm)
      obtain ⟨mc, ma, mv⟩ := m
      clear hr hm
      go_wp2_with (first
        | (refine wpList_load_mid rfl 98 _ rfl b (off + k * 3) rfl (microC ⟨mc, ma, mv⟩) _ HR.out Tryz.underlying98 rfl (by kernel_rfl) ?_)
        | (refine wpList_store_box rfl 98 _ _ rfl wr.heap.size _ _ (Box.new wr _ _) #[.int .i64 mc, .int .i64 ma, .int .i64 mv] rfl rfl rfl (by kernel_rfl) (by simp [Value.oneCell']) ?_; intro w2 hx2 hg2; refine Hid.out ?_))
      have hb2 : Below wr.heap.size wr w2 := (below_new wr _).grown hg2 (by simp) (fun j hj => by cases hj; exact Nat.le_refl _)
      have c0 := hx2.cell 0
      have HB2 := Lib.hid (below_then HB.out hb2)
      clear hx2 hg2 hb2
      refine Lib.hid ?_
      go_wp2
      go_roundw
      case rel => exact ⟨k + 1, by omega, by go_num, by rw [HM.out, IntKind.wrap_i64]; unfold wrap64; rfl, HB2.out⟩
      case measure => simp [intOf]; omega
    · obtain rfl : k = n1 := by omega
      have HE := Lib.hid (show costW (csts (M.take k)) = q by rw [List.take_of_length_le (by have := H.out.2.1.1; omega)]; exact HQ.out)
      have hI : ¬ (k : Int) < k := by omega
      go_wp2
      go_ret
      exact ⟨by rw [HE.out]; rfl, below_then H.out.1 HB.out⟩
theorem wrs_snocI {M : List Mic} {k : Nat} {m : Mic} (h : M[k]? = some m) : wrs (M.take (k + 1)) = if m.a = -1 then wrs (M.take k) else wrs (M.take k) ++ [⟨m.a, m.v⟩] := by
  rw [List.take_add_one, h]
  simp only [Option.toList_some, wrs_app]
  split
  · rename_i h1; simp [wrs, h1]
  · rename_i h1; simp [wrs, h1]
theorem wrs_lenI (M : List Mic) : (wrs M).length ≤ M.length := by unfold wrs; rw [List.length_map]; exact List.length_filter_le _ _
theorem writesC_snocI (L : List Wt) (s : Wt) : writesC L ++ [.int .i64 s.p, .int .i64 s.v] = writesC (L ++ [s]) := by simp [writesC, gcs, writeC]
set_option maxHeartbeats 4000000 in
set_option maxRecDepth 100000 in
theorem impl_writesof : WoC := by
  intro w a1 n1 c1 a2 n2 c2 M U hcap h _ L hL
  obtain ⟨i0, hi, hz0, hz1, hz2⟩ := info_parts infoWrite
  obtain ⟨W, hW⟩ : ∃ W, w.alloc (.cells #[.slice a1 n1 c1, .slice a2 n2 c2] 54) = W := ⟨_, rfl⟩
  have hbx : Box w.heap.size #[.slice a1 n1 c1, .slice a2 n2 c2] 54 W := by rw [← hW]; exact Box.new w _ _
  have hBW : Below w.heap.size w W := by rw [← hW]; exact below_new w _
  have hWs : W.heap.size = w.heap.size + 1 := by rw [← hW]; simp
  have hn : (n1 : Int) ≤ 1048576 := h.2.2.1
  have hlen : M.length = n1 := h.1.1
  have H := Lib.hid (And.intro hbx (And.intro hBW (h.below hBW)))
  have HL := Lib.hid (And.intro hL hlen)
  obtain ⟨V, hV⟩ : ∃ V, W.alloc (.cells #[] 100) = V := ⟨_, rfl⟩
  have hBV : Below W.heap.size W V := by rw [← hV]; exact below_new W _
  have hOV : V.ownsRow W.heap.size 100 2 (.slice (some ⟨W.heap.size, 0, none⟩) 0 0) 0 (writesC (wrs (M.take 0))) := by rw [← hV]; exact World.ownsRow_made W #[] 0 (Nat.le_refl _) (by decide) rfl
  have HV := Lib.hid (And.intro hBV hOV)
  have c0 : V.cell? ⟨w.heap.size, 0, none⟩ = some (.slice a1 n1 c1) := (hBV.cell (p := ⟨w.heap.size, 0, none⟩) (by show w.heap.size < W.heap.size; omega)).trans (hbx.cell 0)
  clear h hbx hBW hL hlen hcap hBV hOV
  go_enter Tryz.func33, Tryz.ntmps33
  go_wp2
  go_loopw [3, 5, 10] (fun v _ i wr => ∃ (k n g cap : Nat), k ≤ n1 ∧ i = .int .i64 k ∧ v = .slice (some ⟨g, 0, none⟩) n cap ∧ Hid (wr.ownsRow W.heap.size 100 2 (.slice (some ⟨g, 0, none⟩) n cap) n (writesC (wrs (M.take k))) ∧ Below W.heap.size W wr)) (fun _ _ i _ => n1 - (intOf i).toNat)
  case atStart => exact ⟨0, 0, W.heap.size, 0, Nat.zero_le _, rfl, by rw [hWs], HV.out.2, HV.out.1⟩
  case round =>
    obtain ⟨k, n, g, cap, hk, rfl, rfl, HO⟩ := hrel
    have hnn : n ≤ n1 := by
      have h1 := HO.out.1.1
      rw [writesC_len] at h1
      have h2 := wrs_lenI (M.take k)
      rw [List.length_take] at h2
      omega
    by_cases hlt : k < n1
    · obtain ⟨b, off, m, rfl, hlb, hm, hr⟩ := (H.out.2.2.1.below HO.out.2).2 k hlt
      have hI : (k : Int) < n1 := by omega
      have HR := Lib.hid hr
      have HS := Lib.hid (wrs_snocI hm)
      obtain ⟨c, a, v⟩ := m
      clear hr hm
      go_wp2_with (first
        | (refine wpList_load_mid rfl 98 _ rfl b (off + k * 3) rfl (microC ⟨c, a, v⟩) _ HR.out Tryz.underlying98 rfl (by kernel_rfl) ?_)
        | (refine wpList_store_box rfl 98 _ _ rfl wr.heap.size _ _ (Box.new wr _ _) #[.int .i64 c, .int .i64 a, .int .i64 v] rfl rfl rfl (by kernel_rfl) (by simp [Value.oneCell']) ?_; intro w2 hx2 hg2; refine Hid.out ?_))
      have hb2 : Below wr.heap.size wr w2 := (below_new wr _).grown hg2 (by simp) (fun j hj => by cases hj; exact Nat.le_refl _)
      have c1 : w2.cell? ⟨wr.heap.size, 1, none⟩ = some (.int .i64 a) := hx2.cell 1
      have c2 : w2.cell? ⟨wr.heap.size, 2, none⟩ = some (.int .i64 v) := hx2.cell 2
      have d1 : w2.drew.cell? ⟨wr.heap.size, 1, none⟩ = some (.int .i64 a) := c1
      have d2 : w2.drew.cell? ⟨wr.heap.size, 2, none⟩ = some (.int .i64 v) := c2
      have H2 := Lib.hid (And.intro (HO.out.1.kept (grown_below hb2 none) (.inr (by simp [Value.ownBlock]))) (below_then HO.out.2 hb2))
      have hB2 := HO.out.2.size
      have hs2 := hb2.size
      have HB2 := Lib.hid hb2
      clear hx2 hg2 hb2
      cases ha : (a != -1)
      · have HS2 := Lib.hid (show wrs (M.take (k + 1)) = wrs (M.take k) from by rw [HS.out]; exact if_pos (by simpa using ha))
        refine Lib.hid ?_
        go_wp2
        go_roundw
        case rel => exact ⟨k + 1, n, g, cap, by omega, by go_num, rfl, by rw [HS2.out]; exact H2.out.1, H2.out.2⟩
        case measure => simp [intOf]; omega
      · have HS2 := Lib.hid (show wrs (M.take (k + 1)) = wrs (M.take k) ++ [⟨a, v⟩] from by rw [HS.out]; exact if_neg (by simpa using ha))
        refine Lib.hid ?_
        go_wp2_with (at_builtin; refine wpList_append_own_at _ rfl _ _ 63 rfl W.heap.size 100 i0 (.agg #[.int .i64 0, .int .i64 0]) 2 16 Tryz.underlying63 hi hz0 hz1 hz2 rfl (by decide) _ _ _ rfl (H2.out.1.alloc _) ⟨w2.heap.size, 0, none⟩ 1 1 [.int .i64 a, .int .i64 v] rfl rfl (World.news_of_block (cs := #[.int .i64 a, .int .i64 v]) (t := 100) (fr := (0, 0)) (heap_alloc_new w2 _)) (by simp [Value.oneCell']) (by unfold maxLen; omega) (by omega) (by simp; omega) ?_; intro v7 w7 hown7 hgrow7 _ hat7; refine Hid.out ?_)
        rw [show writesC (wrs (M.take k)) ++ [.int .i64 a, .int .i64 v] = writesC (wrs (M.take (k + 1))) from by rw [HS2.out, ← writesC_snocI]] at hown7
        obtain ⟨g7, c7, rfl, hg7, _⟩ := hown7.form (by omega)
        have hb7 : Below W.heap.size W w7 := (H2.out.2.alloc (by omega) _).grown hgrow7 (by show W.heap.size ≤ (w2.alloc _).heap.size; simp; omega) (fun j hj => (H2.out.1.lt j hj).1)
        have H7 := Lib.hid (And.intro hown7 hb7)
        clear hown7 hb7 hgrow7 hat7
        refine Lib.hid ?_
        go_wp2
        go_roundw
        case rel => exact ⟨k + 1, n + 1, g7, c7, by omega, by go_num, rfl, H7.out⟩
        case measure => simp [intOf]; omega
    · obtain rfl : k = n1 := by omega
      have HE := Lib.hid (show wrs (M.take k) = L by rw [List.take_of_length_le (by have := HL.out.2; omega)]; exact HL.out.1)
      have H9 := Lib.hid (show ∃ q, q = writesC L ∧ wr.ownsRow w.heap.size 100 2 (.slice (some ⟨g, 0, none⟩) n cap) n q from ⟨_, rfl, by rw [← HE.out]; exact HO.out.1.mono (by omega)⟩)
      have HB := Lib.hid (show Below w.heap.size w wr from H.out.2.1.trans (HO.out.2.mono (by omega)))
      have hI : ¬ (k : Int) < k := by omega
      go_wp2
      go_ret
      obtain ⟨q, rfl, h9⟩ := H9.out
      exact ⟨_, _, _, rfl, h9, HB.out⟩
abbrev wd (V : Int) : Array Value := #[.int .u64 (V / 18446744073709551616 % 18446744073709551616), .int .u64 (V % 18446744073709551616)]
theorem sub64 (x y b : Int) (hx : 0 ≤ x) (hy : 0 ≤ y) (hy' : y < 18446744073709551616) (hb0 : 0 ≤ b) (hb : b ≤ 1) (w : World) : (callFunc 154 #[.int .u64 x, .int .u64 y, .int .u64 b]).run Tryz.prog w =
    .ok (.value (.tuple #[.int .u64 ((x - y - b) % 18446744073709551616), .int .u64 (if x < y + b then 1 else 0)])) w := by
  obtain ⟨x, rfl⟩ := Int.eq_ofNat_of_zero_le hx
  obtain ⟨y, rfl⟩ := Int.eq_ofNat_of_zero_le hy
  obtain ⟨b, rfl⟩ := Int.eq_ofNat_of_zero_le hb0
  have e1 : (((x + 18446744073709551616 - y - b) % 18446744073709551616 : Nat) : Int) = ((x : Int) - y - b) % 18446744073709551616 := by omega
  have e2 : ((if x < y + b then 1 else 0 : Nat) : Int) = if (x : Int) < y + b then 1 else 0 := by split <;> split <;> omega
  rw [← e1, ← e2, run_callFunc_extern Tryz.func154 (by kernel_rfl) (by kernel_rfl) (by kernel_rfl) (e := sub64Entry) (by kernel_rfl), run_sub64 x y b (by omega)]
  rfl
def bor (x y : Int) : Int := if x < y then 1 else 0
theorem sub64_0 (x y : Int) (hx : 0 ≤ x) (hy : 0 ≤ y) (hy' : y < 18446744073709551616) (D B : Int) (hD : (x - y) % 18446744073709551616 = D) (hB : bor x y = B) (w : World) : (callFunc 154 #[.int .u64 x, .int .u64 y, .int .u64 0]).run Tryz.prog w =
    .ok (.value (.tuple #[.int .u64 D, .int .u64 B])) w := by
  subst hD hB
  simpa [bor] using sub64 x y 0 hx hy hy' (Int.le_refl 0) (by decide) w
theorem sub64_1 (x y b : Int) (hx : 0 ≤ x) (hy : 0 ≤ y) (hy' : y < 18446744073709551616) (hb0 : 0 ≤ b) (hb : b ≤ 1) (D B : Int) (hD : (x - y - b) % 18446744073709551616 = D) (hB : bor x (y + b) = B) (w : World) : (callFunc 154 #[.int .u64 x, .int .u64 y, .int .u64 b]).run Tryz.prog w =
    .ok (.value (.tuple #[.int .u64 D, .int .u64 B])) w := by
  subst hD hB
  exact sub64 x y b hx hy hy' hb0 hb w
/-- The call returns this wide number; nothing that was there is written. -/
def BelWd (w : World) (V : Int) (e : Ending) (w' : World) : Prop := e = .returned (.agg (wd V)) ∧ Below w.heap.size w w'
set_option maxHeartbeats 2000000 in
set_option maxRecDepth 100000 in
theorem impl_wideof (n : Int) (hn : i64r n) (w : World) : Calls Tryz.prog 97 #[.int .i64 n] w (BelWd w n) := by
  obtain ⟨sh, hs⟩ : ∃ sh, n / 9223372036854775808 = sh := ⟨_, rfl⟩
  obtain ⟨lo, hl⟩ : ∃ lo, n % 18446744073709551616 = lo := ⟨_, rfl⟩
  obtain ⟨hi, hh⟩ : ∃ hi, n / 18446744073709551616 % 18446744073709551616 = hi := ⟨_, rfl⟩
  have hc1 : IntKind.u64.wrap sh = hi := by
    have : IntKind.u64.wrap sh = sh % 18446744073709551616 := by rfl
    rw [this]; omega
  have hc2 : IntKind.u64.wrap n = lo := by
    have : IntKind.u64.wrap n = n % 18446744073709551616 := by rfl
    rw [this]; omega
  have HV := Lib.hid (show BelWd w n (.returned (.agg #[.int .u64 hi, .int .u64 lo])) = BelWd w n (.returned (.agg (wd n))) by rw [← hl, ← hh])
  clear hl hh
  go_enter Tryz.func97, Tryz.ntmps97
  go_wp2_with ((refine wpList_store_box rfl 127 _ _ rfl w.heap.size _ _ (Box.new w _ _) #[.int .u64 hi, .int .u64 lo] rfl rfl rfl (by kernel_rfl) (by simp [Value.oneCell']) ?_); intro w2 hx2 hg2; refine Hid.out ?_)
  have hb2 : Below w.heap.size w w2 := (below_new w _).grown hg2 (by simp) (fun j hj => by cases hj; exact Nat.le_refl _)
  have H2 := Lib.hid (And.intro hx2 hb2)
  clear hx2 hg2 hb2
  refine Lib.hid ?_
  go_wp2
  refine bodyPost_ret (v := .agg #[.int .u64 hi, .int .u64 lo]) (results_cell_row rfl _ _ w.heap.size _ _ _ _ rfl H2.out.1 Tryz.underlying127 rfl (by kernel_rfl)) rfl ?_
  rw [HV.out]
  exact ⟨rfl, H2.out.2⟩
set_option maxHeartbeats 4000000 in
set_option maxRecDepth 100000 in
theorem impl_wneg (V : Int) (r : Bool) (hV : -170141183460469231731687303715884105728 ≤ V ∧ V < 170141183460469231731687303715884105728) (hr : decide (V < 0) = r) (w : World) : Calls Tryz.prog 98 #[.agg (wd V)] w (BelB w r) := by
  obtain ⟨lo, hl⟩ : ∃ lo, V % 18446744073709551616 = lo := ⟨_, rfl⟩
  obtain ⟨hi, hh⟩ : ∃ hi, V / 18446744073709551616 % 18446744073709551616 = hi := ⟨_, rfl⟩
  obtain ⟨q, hq⟩ : ∃ q, hi / 9223372036854775808 = q := ⟨_, rfl⟩
  rw [show wd V = #[.int .u64 hi, .int .u64 lo] by rw [← hl, ← hh]]
  have hr2 : (q != 0) = r := by
    subst hr
    by_cases h : V < 0
    · have : q = 1 := by omega
      subst this; simp [h]
    · have : q = 0 := by omega
      subst this; simp [h]
  clear hl hh hV hr
  go_enter Tryz.func98, Tryz.ntmps98
  go_wp2
  go_ret
  exact ⟨rfl, (Below.refl _ _).alloc (Nat.le_refl _) _⟩
set_option maxHeartbeats 4000000 in
set_option maxRecDepth 100000 in
theorem impl_wminus (V n X : Int) (hn : i64r n) (hX : V - n = X) (w : World) : Calls Tryz.prog 99 #[.agg (wd V), .int .i64 n] w (BelWd w X) := by
  obtain ⟨lo, hl⟩ : ∃ lo, V % 18446744073709551616 = lo := ⟨_, rfl⟩
  obtain ⟨hi, hh⟩ : ∃ hi, V / 18446744073709551616 % 18446744073709551616 = hi := ⟨_, rfl⟩
  obtain ⟨nl, hnl⟩ : ∃ nl, n % 18446744073709551616 = nl := ⟨_, rfl⟩
  obtain ⟨nh, hnh⟩ : ∃ nh, n / 18446744073709551616 % 18446744073709551616 = nh := ⟨_, rfl⟩
  obtain ⟨b, hb⟩ : ∃ b, bor lo nl = b := ⟨_, rfl⟩
  obtain ⟨D, hD⟩ : ∃ D, (lo - nl) % 18446744073709551616 = D := ⟨_, rfl⟩
  obtain ⟨H, hH⟩ : ∃ H, (hi - nh - b) % 18446744073709551616 = H := ⟨_, rfl⟩
  obtain ⟨B2, hB2⟩ : ∃ B2, bor hi (nh + b) = B2 := ⟨_, rfl⟩
  have hb01 : 0 ≤ b ∧ b ≤ 1 := by rw [← hb]; unfold bor; split <;> omega
  have hv : wd X = #[.int .u64 H, .int .u64 D] := by
    have h1 : X / 18446744073709551616 % 18446744073709551616 = H := by
      unfold bor at hb
      split at hb <;> omega
    have h2 : X % 18446744073709551616 = D := by omega
    unfold wd; rw [h1, h2]
  have S1 := sub64_0 lo nl (by omega) (by omega) (by omega) D b hD hb
  have S2 := sub64_1 hi nh b (by omega) (by omega) (by omega) hb01.1 hb01.2 H B2 hH hB2
  have HO := Lib.hid (show ∀ w', Calls Tryz.prog 97 #[.int .i64 n] w' (fun e w'' => e = .returned (.agg #[.int .u64 nh, .int .u64 nl]) ∧ Below w'.heap.size w' w'') from fun w' => (impl_wideof n hn w').mono fun e w'' h => by rw [← hnl, ← hnh]; exact h)
  have HV := Lib.hid hv
  rw [show wd V = #[.int .u64 hi, .int .u64 lo] by rw [← hl, ← hh]]
  clear hl hh hnl hnh hb hD hH hB2 hb01 hv hX hn
  obtain ⟨W, hW⟩ : ∃ W, (w.alloc (.cells #[.int .u64 hi, .int .u64 lo] 127)).alloc (.cells #[.int .u64 0, .int .u64 0] 127) = W := ⟨_, rfl⟩
  have hbW : Below w.heap.size w W := by rw [← hW]; exact below_then (below_new w _) (below_new _ _)
  have hx1 : Box w.heap.size #[.int .u64 hi, .int .u64 lo] 127 W := by rw [← hW]; exact (Box.new w _ _).alloc _
  have hx2 : Box (w.heap.size + 1) #[.int .u64 0, .int .u64 0] 127 W := by
    have h9 := Box.new (w.alloc (.cells #[.int .u64 hi, .int .u64 lo] 127)) #[.int .u64 0, .int .u64 0] 127
    rw [World.size_alloc] at h9
    rw [← hW]; exact h9
  have H0 := Lib.hid (And.intro hbW (And.intro hx1 hx2))
  clear hbW hx1 hx2
  go_enter Tryz.func99, Tryz.ntmps99
  go_wp2_with (go_at_call 97; (with_reducible refine (HO.out _).mono ?_); rintro e w3 ⟨rfl, hb3⟩; refine Hid.out ?_)
  have H3 := Lib.hid hb3
  clear hb3
  refine Lib.hid ?_
  go_wp2_with ((refine wpList_store_box rfl 127 _ _ rfl w3.heap.size _ _ (Box.new w3 _ _) #[.int .u64 nh, .int .u64 nl] rfl rfl rfl (by kernel_rfl) (by simp [Value.oneCell']) ?_); intro w4 hx4 hg4; refine Hid.out ?_)
  have hb4 : Below w3.heap.size w3 w4 := (below_new w3 _).grown hg4 (by simp) (fun j hj => by cases hj; exact Nat.le_refl _)
  have hWl : w.heap.size < W.heap.size ∧ w.heap.size + 1 < W.heap.size := ⟨H0.out.2.1.lt, H0.out.2.2.lt⟩
  have hb04 : Below W.heap.size W w4 := below_then H3.out hb4
  have k0 : w4.cell? ⟨w.heap.size, 0, none⟩ = some (.int .u64 hi) := (H0.out.2.1.below hb04).cell 0
  have k1 : w4.cell? ⟨w.heap.size, 1, none⟩ = some (.int .u64 lo) := (H0.out.2.1.below hb04).cell 1
  have j0 : w4.cell? ⟨w3.heap.size, 0, none⟩ = some (.int .u64 nh) := hx4.cell 0
  have j1 : w4.cell? ⟨w3.heap.size, 1, none⟩ = some (.int .u64 nl) := hx4.cell 1
  have H4 := Lib.hid (And.intro (H0.out.2.2.below hb04) (H0.out.1.trans (hb04.mono (Nat.le_of_lt hWl.1))))
  clear hb04 hx4 hg4 hb4
  refine Lib.hid ?_
  go_wp2_with (first
    | ((refine wpList_store_box rfl 127 _ _ rfl (w.heap.size + 1) _ _ H4.out.1 #[.int .u64 H, .int .u64 D] rfl rfl rfl (by kernel_rfl) (by simp [Value.oneCell']) ?_); intro w5 hx5 hg5; refine Hid.out ?_))
  have H5 := Lib.hid (And.intro hx5 (H4.out.2.grown hg5 H4.out.2.size (fun j hj => by cases hj; omega)))
  clear hx5 hg5
  refine Lib.hid ?_
  go_wp2
  refine bodyPost_ret (v := .agg #[.int .u64 H, .int .u64 D]) (results_cell_row rfl _ _ (w.heap.size + 1) _ _ _ _ rfl H5.out.1 Tryz.underlying127 rfl (by kernel_rfl)) rfl ?_
  exact ⟨by rw [HV.out], H5.out.2⟩
theorem cnt_nextI {M : List Mic} {k : Nat} {m : Mic} {e S : Int} (h : M[k]? = some m) : cntC e S (csts (M.drop k)) = if S + m.c ≤ e then cntC e (S + m.c) (csts (M.drop (k + 1))) + 1 else 0 := by
  obtain ⟨hk, rfl⟩ := List.getElem?_eq_some_iff.1 h
  rw [List.drop_eq_getElem_cons hk]
  rfl
set_option maxHeartbeats 4000000 in
set_option maxRecDepth 100000 in
theorem impl_countsteps : CsC := by
  intro w a1 n1 c1 a2 n2 c2 M U hcap h hM e he q hq
  obtain ⟨W, hW⟩ : ∃ W, w.alloc (.cells #[.slice a1 n1 c1, .slice a2 n2 c2] 54) = W := ⟨_, rfl⟩
  have hbx : Box w.heap.size #[.slice a1 n1 c1, .slice a2 n2 c2] 54 W := by rw [← hW]; exact Box.new w _ _
  have hBW : Below w.heap.size w W := by rw [← hW]; exact below_new w _
  have hWl : w.heap.size < W.heap.size := hbx.lt
  have H := Lib.hid (And.intro hBW (And.intro (h.below hBW) (And.intro hM hbx)))
  have hn : (n1 : Int) ≤ 1048576 := h.2.2.1
  have HQ := Lib.hid hq
  have HE := Lib.hid he
  have hlen : M.length = n1 := h.1.1
  have HL := Lib.hid hlen
  have hi64 : -9223372036854775808 ≤ e ∧ e ≤ 9223372036854775807 := he
  clear h hbx hBW hq hM hlen hcap he
  cases h0 : decide (e < 0)
  · have HG := Lib.hid h0
    have he0 : ¬ e < 0 := by simpa using h0
    clear h0
    go_enter Tryz.func39, Tryz.ntmps39
    go_wp2_with (go_at_call 97; (with_reducible refine (impl_wideof e HE.out _).mono ?_); rintro e3 w3 ⟨rfl, hb3⟩; refine Hid.out ?_)
    have H3 := Lib.hid hb3
    clear hb3
    refine Lib.hid ?_
    go_wp2_with ((refine wpList_store_box rfl 127 _ _ rfl w3.heap.size _ _ (Box.new w3 _ _) (wd e) rfl rfl rfl (by kernel_rfl) (by simp [Value.oneCell']) ?_); intro w4 hx4 hg4; refine Hid.out ?_)
    have hb4 : Below w3.heap.size w3 w4 := (below_new w3 _).grown hg4 (by simp) (fun j hj => by cases hj; exact Nat.le_refl _)
    have hs3 := H3.out.size
    have H4 := Lib.hid (And.intro hx4 (below_then H3.out hb4))
    clear hb4 hx4 hg4
    refine Lib.hid ?_
    go_wp2_with (first
      | (refine wpList_load_row rfl 127 _ rfl w3.heap.size rfl _ _ _ _ H4.out.1 Tryz.underlying127 rfl (by kernel_rfl) ?_)
      | (go_at_call 98; (with_reducible refine (impl_wneg e false (by omega) HG.out _).mono ?_); rintro e5 w5 ⟨rfl, hb5⟩; refine Hid.out ?_))
    have H5 := Lib.hid (And.intro (H4.out.1.below hb5) (below_then H4.out.2 hb5))
    clear hb5
    have k0 : w5.cell? ⟨w.heap.size, 0, none⟩ = some (.slice a1 n1 c1) := (H.out.2.2.2.below H5.out.2).cell 0
    have HC0 := Lib.hid (show 0 + cntC e 0 (csts (M.drop 0)) = q by
      have h9 := HQ.out
      unfold cntE at h9
      rw [if_neg (by omega)] at h9
      rw [Nat.zero_add]; exact h9)
    refine Lib.hid ?_
    go_wp2
    go_loopw [6, 7, 15] (fun _ _ i wr => ∃ (k : Nat) (S : Int), k ≤ n1 ∧ i = .int .i64 k ∧ -(k * 9223372036854775808) ≤ S ∧ S ≤ k * 9223372036854775808 ∧ Hid (Box w3.heap.size (wd (e - S)) 127 wr) ∧ Hid (Below W.heap.size W wr) ∧ Hid (k + cntC e S (csts (M.drop k)) = q)) (fun _ _ i _ => n1 - (intOf i).toNat)
    case atStart => exact ⟨0, 0, Nat.zero_le _, rfl, by omega, by omega, by rw [Int.sub_zero]; exact H5.out.1, H5.out.2, HC0.out⟩
    case round =>
      obtain ⟨k, S, hk, rfl, hS0, hS1, HX, HB, HI⟩ := hrel
      by_cases hlt : k < n1
      · obtain ⟨b, off, m, rfl, hlb, hm, hr⟩ := (H.out.2.1.below HB.out).1.2 k hlt
        have hI : (k : Int) < n1 := by omega
        have hcr := H.out.2.2.1 m (List.mem_of_getElem? hm)
        have HCN := Lib.hid (cnt_nextI (e := e) (S := S) hm)
        have HR := Lib.hid hr
        obtain ⟨mc, ma, mv⟩ := m
        have hcr2 : -9223372036854775808 ≤ mc ∧ mc ≤ 9223372036854775807 := hcr
        have HCR := Lib.hid (show i64r mc from hcr)
        obtain ⟨X, hX⟩ : ∃ X, e - S - mc = X := ⟨_, rfl⟩
        have hXb : -170141183460469231731687303715884105728 ≤ X ∧ X < 170141183460469231731687303715884105728 := by omega
        have hS2 : -((k + 1 : Nat) * 9223372036854775808 : Int) ≤ S + mc ∧ S + mc ≤ ((k + 1 : Nat) * 9223372036854775808 : Int) := by omega
        have HXE := Lib.hid (show X = e - (S + mc) by omega)
        have HXS := Lib.hid (And.intro hX (And.intro hXb hS2))
        have hws := HB.out.size
        have hl3 := HX.out.lt
        clear hr hm hcr hX hcr2 hXb hS2 hS0 hS1
        go_wp2_with (first
          | (refine wpList_load_mid rfl 98 _ rfl b (off + k * 3) rfl (microC ⟨mc, ma, mv⟩) _ HR.out Tryz.underlying98 rfl (by kernel_rfl) ?_)
          | (refine wpList_store_box rfl 98 _ _ rfl wr.heap.size _ _ (Box.new wr _ _) #[.int .i64 mc, .int .i64 ma, .int .i64 mv] rfl rfl rfl (by kernel_rfl) (by simp [Value.oneCell']) ?_; intro w6 hx6 hg6; refine Hid.out ?_))
        have hb6 : Below wr.heap.size wr w6 := (below_new wr _).grown hg6 (by simp) (fun j hj => by cases hj; exact Nat.le_refl _)
        have c6 : w6.cell? ⟨wr.heap.size, 0, none⟩ = some (.int .i64 mc) := hx6.cell 0
        have H6 := Lib.hid (And.intro (HX.out.below hb6) (below_then HB.out hb6))
        clear hx6 hg6 hb6
        refine Lib.hid ?_
        go_wp2_with (first
          | (refine wpList_load_row rfl 127 _ rfl w3.heap.size rfl _ _ _ _ H6.out.1 Tryz.underlying127 rfl (by kernel_rfl) ?_)
          | (go_at_call 99; (with_reducible refine (impl_wminus (e - S) mc X HCR.out HXS.out.1 _).mono ?_); rintro e7 w7 ⟨rfl, hb7⟩; refine Hid.out ?_))
        have H7 := Lib.hid (And.intro (H6.out.1.below hb7) (below_then H6.out.2 hb7))
        clear hb7 c6
        refine Lib.hid ?_
        go_wp2_with ((refine wpList_store_box rfl 127 _ _ rfl w3.heap.size _ _ H7.out.1 (wd X) rfl rfl rfl (by kernel_rfl) (by simp [Value.oneCell']) ?_); intro w8 hx8 hg8; refine Hid.out ?_)
        have H8 := Lib.hid (And.intro hx8 (H7.out.2.grown hg8 H7.out.2.size (fun j hj => by cases hj; exact H3.out.size)))
        clear hx8 hg8
        cases hneg : decide (X < 0)
        · have HN := Lib.hid hneg
          have HX2 := Lib.hid (show ((k + 1 : Nat) + cntC e (S + mc) (csts (M.drop (k + 1))) = q) from by
            have h1 := HI.out
            have h2 : ¬ X < 0 := by simpa using hneg
            have h3 := HXE.out
            rw [HCN.out, if_pos (by omega)] at h1; omega)
          clear hneg
          refine Lib.hid ?_
          go_wp2_with (first
            | (refine wpList_load_row rfl 127 _ rfl w3.heap.size rfl _ _ _ _ H8.out.1 Tryz.underlying127 rfl (by kernel_rfl) ?_)
            | (go_at_call 98; (with_reducible refine (impl_wneg X false HXS.out.2.1 HN.out _).mono ?_); rintro e9 w9 ⟨rfl, hb9⟩; refine Hid.out ?_))
          have H9 := Lib.hid (And.intro (H8.out.1.below hb9) (below_then H8.out.2 hb9))
          clear hb9
          refine Lib.hid ?_
          go_wp2
          go_roundw
          case rel => exact ⟨k + 1, S + mc, by omega, by go_num, HXS.out.2.2.1, HXS.out.2.2.2, by rw [← HXE.out]; exact H9.out.1, H9.out.2, HX2.out⟩
          case measure => simp [intOf]; omega
        · have HN := Lib.hid hneg
          have HX2 := Lib.hid (show k = q from by
            have h1 := HI.out
            have h2 : X < 0 := by simpa using hneg
            have h3 := HXE.out
            rw [HCN.out, if_neg (by omega)] at h1; omega)
          clear hneg
          refine Lib.hid ?_
          go_wp2_with (first
            | (refine wpList_load_row rfl 127 _ rfl w3.heap.size rfl _ _ _ _ H8.out.1 Tryz.underlying127 rfl (by kernel_rfl) ?_)
            | (go_at_call 98; (with_reducible refine (impl_wneg X true HXS.out.2.1 HN.out _).mono ?_); rintro e9 w9 ⟨rfl, hb9⟩; refine Hid.out ?_))
          have H9 := Lib.hid (below_then H8.out.2 hb9)
          clear hb9
          refine Lib.hid ?_
          go_wp2
          go_ret
          exact ⟨by rw [HX2.out]; rfl, below_then H.out.1 H9.out⟩
      · obtain rfl : k = n1 := by omega
        have hI : ¬ (k : Int) < k := by omega
        have HX2 := Lib.hid (show k = q by
          have h1 := HI.out
          rw [List.drop_eq_nil_of_le (by rw [HL.out]; exact Nat.le_refl _)] at h1
          exact h1)
        have k9 : wr.cell? ⟨w.heap.size, 0, none⟩ = some (.slice a1 k c1) := (H.out.2.2.2.below HB.out).cell 0
        clear hS0 hS1 k0
        go_wp2
        go_ret
        exact ⟨by rw [HX2.out]; rfl, below_then H.out.1 HB.out⟩
  · have HG := Lib.hid h0
    have HX2 := Lib.hid (show (0 : Nat) = q by
      have h9 := HQ.out
      have h8 : e < 0 := by simpa using h0
      unfold cntE at h9
      rw [if_pos h8] at h9
      exact h9)
    clear h0
    go_enter Tryz.func39, Tryz.ntmps39
    go_wp2_with (go_at_call 97; (with_reducible refine (impl_wideof e HE.out _).mono ?_); rintro e3 w3 ⟨rfl, hb3⟩; refine Hid.out ?_)
    have H3 := Lib.hid hb3
    clear hb3
    refine Lib.hid ?_
    go_wp2_with ((refine wpList_store_box rfl 127 _ _ rfl w3.heap.size _ _ (Box.new w3 _ _) (wd e) rfl rfl rfl (by kernel_rfl) (by simp [Value.oneCell']) ?_); intro w4 hx4 hg4; refine Hid.out ?_)
    have hb4 : Below w3.heap.size w3 w4 := (below_new w3 _).grown hg4 (by simp) (fun j hj => by cases hj; exact Nat.le_refl _)
    have H4 := Lib.hid (And.intro hx4 (below_then H3.out hb4))
    clear hb4 hx4 hg4
    refine Lib.hid ?_
    go_wp2_with (first
      | (refine wpList_load_row rfl 127 _ rfl w3.heap.size rfl _ _ _ _ H4.out.1 Tryz.underlying127 rfl (by kernel_rfl) ?_)
      | (go_at_call 98; (with_reducible refine (impl_wneg e true (by omega) HG.out _).mono ?_); rintro e5 w5 ⟨rfl, hb5⟩; refine Hid.out ?_))
    have H5 := Lib.hid (below_then H4.out.2 hb5)
    clear hb5
    refine Lib.hid ?_
    go_wp2
    go_ret
    exact ⟨by rw [← HX2.out]; rfl, below_then H.out.1 H5.out⟩
end Go.Proofs.YtmgeecdgebemdaaGreatDoor.trc
