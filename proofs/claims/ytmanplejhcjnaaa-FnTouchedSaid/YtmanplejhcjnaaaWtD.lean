/- What the draw of words and of writes to them returns: a new row of twelve words below 99, and a new row of at most nine writes; nothing that was there is written. The law's own comparison of two rows that are the same. -/
import Derived.Test.YtmanplejhcjnaaaWtM
import Derived.Test.YtmanplejhcjnaaaPlaces
namespace Go.Proofs.Ytmanplejhcjnaaa.wrt
open Go Go.ChangeShapes Go.WideShapes Go.ChangeAt Go.RowKit Go.Proofs.Ytmanplejhcjnaaa.row Go.Proofs.Ytmanplejhcjnaaa.val Go.Proofs.Ytmanplejhcjnaaa.expr Go.Proofs.Ytmanplejhcjnaaa.grow Go.Proofs.Ytmanplejhcjnaaa.cur

/-- Twelve words and some writes, in new memory. -/
def DrawnW (w : World) (e : Ending) (w' : World) : Prop :=
  ∃ (g : Nat) (M : List Int) (ad : Option Addr) (n c : Nat) (L : List Wt), e = .returned (.tuple #[.slice (some ⟨g, 0, none⟩) 12 12, .slice ad n c]) ∧ n ≤ 9 ∧ n ≤ c ∧ (∀ x, ad = some x → x.spot = none) ∧ Hid (∀ x ∈ M, 0 ≤ x ∧ x < 99) ∧
    Row w' (some ⟨g, 0, none⟩) 12 M ∧ WriteRow w' ad n L ∧ Below w.heap.size w w'
theorem own_shape {w : World} {B m n : Nat} {ty : TypeId} {v : Value} {xs : List Value} (h : w.ownsRow B ty m v n xs) : ∃ ad c, v = .slice ad n c ∧ n ≤ c ∧ ∀ x, ad = some x → x.spot = none := by
  rcases h.2 with ⟨e, e0⟩ | ⟨g, c, _, e, _, _, h4, _⟩
  · exact ⟨none, 0, by rw [e, e0], by omega, fun x hx => by cases hx⟩
  · exact ⟨some ⟨g, 0, none⟩, c, e, h4, fun x hx => by cases hx; rfl⟩
theorem words_set {M : List Int} (h : ∀ x ∈ M, 0 ≤ x ∧ x < 99) {q : Int} (h0 : 0 ≤ q) (h1 : q < 99) (j : Nat) : ∀ x ∈ M.set j q, 0 ≤ x ∧ x < 99 := by
  intro x hx
  rcases List.mem_or_eq_of_mem_set hx with h2 | rfl
  · exact h x h2
  · exact ⟨h0, h1⟩
theorem words_zero (n : Nat) : ∀ x ∈ List.replicate n (0 : Int), 0 ≤ x ∧ x < 99 := by
  intro x hx; rw [List.eq_of_mem_replicate hx]; omega
theorem writes_snoc (L : List Wt) (p v : Int) : writesC L ++ [Value.int .i64 p, .int .i64 v] = writesC (L ++ [⟨p, v⟩]) := by
  show _ = gcs writeC (L ++ [_])
  rw [gcs_app, gcs_one]; rfl
theorem block_ne {w : World} {B m n : Nat} {ty : TypeId} {v : Value} {xs : List Value} (h : w.ownsRow B ty m v n xs) {b : Nat} (hb : b < B) : v.ownBlock = none ∨ v.ownBlock ≠ some b := by
  cases hv : v.ownBlock with
  | none => exact .inl rfl
  | some j => right; have := (h.lt j hv).1; intro e; injection e; omega
set_option maxHeartbeats 4000000 in
set_option maxRecDepth 100000 in
theorem drawwrites_any (a : Option Addr) (len cap : Nat) (w : World) (hlm : (len : Int) ≤ 1048576) (hb : ∀ i : Nat, i < len → ∃ (b off : Nat) (v : Int), a = some ⟨b, off, none⟩ ∧ w.cell? ⟨b, off + i, none⟩ = some (.int .u8 v)) :
    Calls Try.prog 10 #[.slice a len cap] w (DrawnW w) := by
  obtain ⟨i0, hi, hz0, hz1, hz2⟩ := info_parts row.infoInt
  obtain ⟨iw, hiw, hzw0, hzw1, hzw2⟩ := info_parts infoWrite
  have HB := Lib.hid hb
  clear hb
  go_enter Try.func10, Try.ntmps10
  go_wp2_with (go_at_call 31; refine (new_any a len cap _ hlm HB.out).mono ?_; rintro e w1 ⟨rfl, hc1, hb1⟩; refine Hid.out ?_)
  have hs1 : w.heap.size < w1.heap.size := hc1.lt
  have H1 := Lib.hid (And.intro hc1 hb1)
  clear hc1 hb1
  refine Lib.hid ?_
  go_wp2_with ((refine wpList_make_full _ rfl _ _ 24 rfl w1.heap.size 3 i0 _ 1 Try.underlying24 hi hz0 hz1 .i64 .i64 _ _ 12 rfl rfl rfl rfl (by rw [hz2]; omega) (by unfold maxLen; omega) (Nat.le_refl _) ?_); intro w2 hown2 hg2; refine Hid.out ?_)
  rw [made_zeros] at hown2
  have H2 := Lib.hid (And.intro hown2 (And.intro (H1.out.1.keep hg2 (fun j hj => by cases hj)) hg2))
  clear hown2 hg2
  refine Lib.hid ?_
  go_wp2
  go_loopw [6] (fun i wr => ∃ (k : Nat) (M : List Int), k ≤ 12 ∧ i = .int .i64 k ∧ Hid (∀ x ∈ M, 0 ≤ x ∧ x < 99) ∧ wr.ownsRow w1.heap.size 3 1 (.slice (some ⟨w1.heap.size, 0, none⟩) 12 12) 12 (ivs M) ∧ Cur w.heap.size a len cap wr ∧ w1.grownBy wr (some w.heap.size)) (fun i _ => 12 - (intOf i).toNat)
  case atStart => exact ⟨0, _, Nat.zero_le _, rfl, words_zero 12, H2.out.1, H2.out.2.1, grownBy_own (grownBy_refl _ _) H2.out.2.2 (fun k hk => by cases hk)⟩
  case round =>
    obtain ⟨k, M, hk, rfl, HM, hown, hcu, hgr⟩ := hrel
    by_cases hlt : k < 12
    · have hI : (k : Int) < 12 := by omega
      have HO := Lib.hid (And.intro hown (And.intro hcu hgr))
      clear hown hcu hgr
      go_wp2_with (go_at_call 32; refine (below_any w.heap.size a len cap 99 (by omega) _ HO.out.2.1).mono ?_; rintro e w3 ⟨x, rfl, hx0, hx1, hc3, hg3⟩; refine Hid.out ?_)
      have hown3 := HO.out.1.kept hg3 (block_ne HO.out.1 hs1)
      obtain ⟨g', X, eg, _, hgl, hX, hfz⟩ := own_store hown3 hlt
      obtain rfl : w1.heap.size = g' := by injection eg with e1; injection e1
      clear eg
      have HX := Lib.hid (words_set HM.out hx0 hx1 k)
      have H3 := Lib.hid (And.intro (stored_put (m := k) (v := x) hown3) (And.intro (hc3.keep (grown_setCell w3 w1.heap.size k (.int .i64 x)) (fun j hj => by cases hj; exact hs1)) (grownBy_own (grownBy_trans HO.out.2.2 hg3) (grown_setCell w3 w1.heap.size k (.int .i64 x)) (fun j hj => by cases hj; exact Nat.le_refl _))))
      clear hown3 hc3 hg3 hx0 hx1
      refine Lib.hid ?_
      go_wp2
      go_roundw
      case rel => exact ⟨k + 1, _, by omega, by go_num, HX, H3.out.1, H3.out.2.1, H3.out.2.2⟩
      case measure => simp [intOf]; omega
    · have hI : ¬ (k : Int) < 12 := by omega
      obtain ⟨w5, rfl⟩ : ∃ x, x = wr := ⟨_, rfl⟩
      have hs5 := hgr.size
      have H5 := Lib.hid (And.intro hown (And.intro hcu hgr))
      clear hown hcu hgr
      go_wp2
      go_loopw [7, 8] (fun v i wr => ∃ (n : Nat) (L : List Wt), n ≤ 9 ∧ i = .int .i64 n ∧ wr.ownsRow w5.heap.size 34 2 v n (writesC L) ∧ Cur w.heap.size a len cap wr ∧ w5.grownBy wr (some w.heap.size)) (fun _ i _ => 9 - (intOf i).toNat)
      case atStart => exact ⟨0, [], Nat.zero_le _, rfl, World.ownsRow_made w5 #[] 0 (Nat.le_refl _) (by decide) rfl, H5.out.2.1.alloc _, World.grownBy_alloc _ _ _⟩
      case round =>
        obtain ⟨n, L, hn, rfl, hown, hcu, hgr⟩ := hrel
        have HO := Lib.hid (And.intro hown (And.intro hcu hgr))
        clear hown hcu hgr
        go_wp2_with (go_at_call 32; refine (below_any w.heap.size a len cap 9 (by omega) _ HO.out.2.1).mono ?_; rintro e w6 ⟨y, rfl, hy0, hy1, hc6, hg6⟩; refine Hid.out ?_)
        have H6 := Lib.hid (And.intro (HO.out.1.kept hg6 (block_ne HO.out.1 (by omega))) (And.intro hc6 (grownBy_trans HO.out.2.2 hg6)))
        clear hc6 hg6
        by_cases hyn : (n : Int) < y
        · have hn8 : n + 1 ≤ 9 := by omega
          refine Lib.hid ?_
          go_wp2_with (go_at_call 32; refine (below_any w.heap.size a len cap 12 (by omega) _ H6.out.2.1).mono ?_; rintro e w7 ⟨p, rfl, hp0, hp1, hc7, hg7⟩; refine Hid.out ?_)
          have H7 := Lib.hid hc7
          clear hc7
          refine Lib.hid ?_
          go_wp2_with (go_at_call 32; refine (below_any w.heap.size a len cap 99 (by omega) _ H7.out).mono ?_; rintro e w8 ⟨v, rfl, hv0, hv1, hc8, hg8⟩; refine Hid.out ?_)
          have hg68 := grownBy_trans hg7 hg8
          have H8 := Lib.hid (And.intro (H6.out.1.kept hg68 (block_ne H6.out.1 (by omega))) (And.intro hc8 (grownBy_trans H6.out.2.2 hg68)))
          have HBL := Lib.hid (fun j hj => (H8.out.1.lt j hj).1)
          have hs8 := H8.out.2.2.size
          clear hg7 hc8 hg8 hg68
          refine Lib.hid ?_
          go_wp2_with (at_builtin; refine wpList_append_own _ rfl _ _ 25 rfl w5.heap.size 34 iw _ 2 16 Try.underlying25 hiw hzw0 hzw1 hzw2 rfl (by decide) _ _ _ rfl (H8.out.1.alloc _) ⟨w8.heap.size, 0, none⟩ 1 1 [.int .i64 p, .int .i64 v] rfl rfl (World.news_of_block (cs := #[.int .i64 p, .int .i64 v]) (t := 34) (fr := (0, 0)) (heap_alloc_new w8 _)) (by simp [Value.oneCell']) (by unfold maxLen; omega) (by omega) (by simp; omega) ?_; intro v9 w9 hown9 hgrow9 _; refine Hid.out ?_)
          rw [writes_snoc] at hown9
          have H9 := Lib.hid (And.intro hown9 (And.intro ((H8.out.2.1.alloc (.cells #[.int .i64 p, .int .i64 v] 34)).keep hgrow9 (fun j hj => by have := HBL.out j hj; omega)) (grownBy_own (grownBy_trans H8.out.2.2 (World.grownBy_alloc w8 (.cells #[.int .i64 p, .int .i64 v] 34) _)) hgrow9 (fun j hj => HBL.out j hj))))
          clear hown9 hgrow9
          refine Lib.hid ?_
          go_wp2
          go_roundw
          case rel => exact ⟨n + 1, _, hn8, by go_num, H9.out.1, H9.out.2.1, H9.out.2.2⟩
          case measure => simp [intOf]; omega
        · refine Lib.hid ?_
          have HM5 := Lib.hid (H5.out.1.kept H6.out.2.2 (block_ne H5.out.1 hs1))
          have HBW := Lib.hid ((H1.out.2.grown H5.out.2.2 (by omega) (fun j hj => by cases hj; exact Nat.le_refl _)).grown H6.out.2.2 (by omega) (fun j hj => by cases hj; exact Nat.le_refl _))
          have HSH := Lib.hid (own_shape H6.out.1)
          obtain ⟨ad, c, rfl, hc, hsp⟩ := HSH.out
          clear hy0 hy1 hs5
          go_wp2
          refine bodyPost_ret (v := .tuple #[.slice (some ⟨w1.heap.size, 0, none⟩) 12 12, .slice ad n c]) (results_tmp2 (t := 2) (u := 3) rfl _ _ _) rfl ?_
          exact ⟨_, M, ad, n, c, L, rfl, by omega, hc, hsp, HM, Row.of_own HM5.out, GRow.of_own writeC_len (by decide) H6.out.1, HBW.out⟩
set_option maxHeartbeats 1000000 in
theorem same_any (w : World) (a a' : Option Addr) (n cap cap' : Nat) (L : List Int) (hn : (n : Int) ≤ 1048576) (h1 : Row w a n L) (h2 : Row w a' n L) :
    Calls Try.prog 14 #[.slice a n cap, .slice a' n cap'] w fun e w' => e = .returned (.bool true) ∧ w.grownBy w' none := by
  have HC : Hid (∀ k, k < n → ∃ (g o g' o' : Nat) (X : Int), a = some ⟨g, o, none⟩ ∧ a' = some ⟨g', o', none⟩ ∧ w.cell? ⟨g, o + k, none⟩ = some (.int .i64 X) ∧ w.cell? ⟨g', o' + k, none⟩ = some (.int .i64 X)) := by
    intro k hk
    obtain ⟨g, o, X, e1, _, x1, c1⟩ := h1.2 k hk
    obtain ⟨g', o', X', e2, _, x2, c2⟩ := h2.2 k hk
    obtain rfl : X = X' := by rw [x1] at x2; exact Option.some.inj x2
    exact ⟨g, o, g', o', X, e1, e2, c1, c2⟩
  clear h1 h2
  go_enter Try.func14, Try.ntmps14
  go_wp2
  go_loopw [5] (fun i wr => ∃ k : Nat, k ≤ n ∧ i = .int .i64 k ∧ w.grownBy wr none) (fun i _ => n - (intOf i).toNat)
  case atStart => exact ⟨0, Nat.zero_le _, rfl, row.grown_refl _ _⟩
  case round =>
    obtain ⟨k, hk, rfl, hg⟩ := hrel
    by_cases hlt : k < n
    · obtain ⟨g, o, g', o', X, rfl, rfl, c1, c2⟩ := HC.out k hlt
      have d1 := hg.cell c1 (by simp)
      have d2 := hg.cell c2 (by simp)
      have hI : (k : Int) < n := by omega
      clear c1 c2
      go_wp2
      go_quiet (fail)
      go_wp2
      go_roundw
      case rel => exact ⟨k + 1, by omega, by go_num, row.grown_drewN hg _⟩
      case measure => simp [intOf]; omega
    · go_wp2
      go_ret
      exact ⟨rfl, hg⟩
end Go.Proofs.Ytmanplejhcjnaaa.wrt
