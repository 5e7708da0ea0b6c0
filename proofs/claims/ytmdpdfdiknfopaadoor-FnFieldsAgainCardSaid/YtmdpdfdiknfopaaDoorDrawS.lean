/- The contract of the drawn line: some string of a bounded length. -/
import Derived.Test.YtmdpdfdiknfopaaDoorText
import Derived.Deep.DeepCutAuto
namespace Go.Proofs.YtmdpdfdiknfopaaDoor.cur
open Go.ChangeShapes Go.WideShapes Go.ChangeAt Go.RowKit Go.Proofs.YtmdpdfdiknfopaaDoor.byt

/-- A row of strings of at most 'M' bytes in block 'lb'. -/
def StrRow (lb n : Nat) (M : Int) (w : World) : Prop := ∀ i : Nat, i < n → ∃ X : ByteArray, w.cell? ⟨lb, i, none⟩ = some (.string X) ∧ (X.size : Int) ≤ M

theorem pick_from (w0 : World) (cb : Nat) (a : Option Addr) (len cap : Nat) (lb n : Nat) (M : Int) (hn : 0 < n) (hnm : (n : Int) ≤ 1048576) (w : World) (hc : Cur cb a len cap w) (hg : w0.grownBy w (some cb)) (hL : StrRow lb n M w) (hne : lb ≠ cb) :
    Calls Tryd.prog 30 #[.pointer (some ⟨cb, 0, none⟩), .slice (some ⟨lb, 0, none⟩) n n] w (TextOut M cb a len cap w0) := by
  have HL : Hid (∀ w' : World, w.grownBy w' (some cb) → StrRow lb n M w') := fun w' hg i hi => by
    obtain ⟨v, hv, hw⟩ := hL i hi
    exact ⟨v, hg.cell hv (by simpa using hne), hw⟩
  clear hL
  go_enter Tryd.func30, Tryd.ntmps30
  go_wp2_with (go_at_call 24; refine (below_any cb a len cap n (by omega) _ hc).mono ?_; rintro e w1 ⟨x, rfl, hx0, hx1, hc1, hg1⟩; obtain ⟨v, hv, hM⟩ := HL.out w1 hg1 x.toNat (by omega))
  go_ret
  exact ⟨v, rfl, hM, hc1, grownBy_trans hg hg1⟩

theorem strRow_alloc (w : World) (L : List ByteArray) (t : TypeId) (M : Int) (hw : ∀ v ∈ L, (v.size : Int) ≤ M) : StrRow w.heap.size L.length M (w.alloc (.cells (L.map Value.string).toArray t)) := by
  intro i hi
  refine ⟨L[i], ?_, hw _ (List.getElem_mem hi)⟩
  have h : (w.alloc (.cells (L.map Value.string).toArray t)).heap[w.heap.size]? = some (.cells (L.map Value.string).toArray t (0, 0)) := Array.getElem?_push_size
  rw [cell_of_row _ _ i _ _ _ h]
  simp [hi]

/-- A text of the drawn line: the cursor stays one. -/
theorem grown_of_below {w0 w w' : World} {r : Option Nat} (h : w0.grownBy w r) (hb : Below w.heap.size w w') : w0.grownBy w' r :=
  ⟨hb.os.trans h.os, hb.tape.trans h.tape, hb.output.trans h.output, Nat.le_trans h.size hb.size,
    fun k hk hne => (hb.block k (Nat.lt_of_lt_of_le hk h.size)).trans (h.block k hk hne)⟩
theorem Cur.below {cb : Nat} {a : Option Addr} {len cap : Nat} {w w' : World} (h : Cur cb a len cap w) (hb : Below w.heap.size w w') : Cur cb a len cap w' :=
  h.other fun k hk => hb.block k hk

theorem prod_bd {x y : Int} (h0 : 0 ≤ x) (h1 : x < 2) (h2 : 0 ≤ y) (h3 : y < 3) : 0 ≤ x * y ∧ x * y ≤ 2 := by
  rcases (show x = 0 ∨ x = 1 by omega) with rfl | rfl
  · simp
  · rw [Int.one_mul]; omega

theorem app_size (s t : ByteArray) : (s ++ t).size = s.size + t.size := ByteArray.size_append

theorem one_lo {x y : Int} (h0 : 0 ≤ x) (h1 : x < 2) (h2 : 0 ≤ y) (h3 : y < 3) : 0 ≤ 1 + x * y := by have := prod_bd h0 h1 h2 h3; omega
theorem one_hi {x y : Int} (h0 : 0 ≤ x) (h1 : x < 2) (h2 : 0 ≤ y) (h3 : y < 3) : 1 + x * y ≤ 3 := by have := prod_bd h0 h1 h2 h3; omega
theorem conv_one (w : World) (x : Int) (h0 : 0 ≤ x) (h1 : x < 256) : (convert 22 9 (.slice (some ⟨w.heap.size, 0, none⟩) 1 1)).run Tryd.prog (w.alloc (.cells #[.int .u8 x] 5)) = .ok (.string ⟨#[UInt8.ofNat x.toNat]⟩) (w.alloc (.cells #[.int .u8 x] 5)) :=
  run_convert_bytes_back (P := Tryd.prog) (w.alloc (.cells #[.int .u8 x] 5)) 22 9 5 ⟨w.heap.size, 0, none⟩ 1 [UInt8.ofNat x.toNat] Tryd.underlying22 Tryd.underlying5 Tryd.underlying9 (fun j hj => by
    have : j = 0 := by simp at hj; omega
    subst this
    rw [show ((⟨w.heap.size, 0, none⟩ : Addr).add 0) = ⟨w.heap.size, 0, none⟩ from rfl, World.cell?_alloc_mark]
    simp only [List.getElem_cons_zero]
    have e : ((UInt8.ofNat x.toNat).toNat : Int) = x := by simp; omega
    rw [e]; rfl)
theorem one_size (c : UInt8) : (⟨#[c]⟩ : ByteArray).size = 1 := rfl

set_option maxHeartbeats 4000000 in
set_option maxRecDepth 100000 in
theorem drawS_any (a : Option Addr) (len cap : Nat) (w : World) (hlm : (len : Int) ≤ 1048576) (hb : ∀ i : Nat, i < len → ∃ (b off : Nat) (v : Int), a = some ⟨b, off, none⟩ ∧ w.cell? ⟨b, off + i, none⟩ = some (.int .u8 v)) :
    Calls Tryd.prog 15 #[.slice a len cap] w (LongOut 1000 w) := by
  have HB := Lib.hid hb
  clear hb
  go_enter Tryd.func15, Tryd.ntmps15
  go_wp2_with (go_at_call 21; refine (new_any a len cap _ hlm HB.out).mono ?_; rintro e w1 ⟨rfl, hc1, hb1⟩; refine Hid.out ?_)
  have hg0 := grownBy_refl w1 (some w.heap.size)
  have fin : Hid (∀ w', w1.grownBy w' (some w.heap.size) → Below w.heap.size w w') := fun w' g => hb1.grown g hb1.size (fun k hk => by cases hk; exact Nat.le_refl _)
  refine Lib.hid ?_
  go_wp2_with (go_at_call 24; refine (below_from w1 _ a len cap _ (by omega) _ hc1 hg0).mono ?_; rintro e w2 ⟨n0, rfl, hn0, hn1, hc2, hg2⟩; refine Hid.out ?_)
  clear hc1 hg0
  refine Lib.hid ?_
  go_wp2_with (go_at_call 22; refine (once_from w1 _ a len cap _ (by omega) _ hc2 hg2).mono ?_; rintro e w3 ⟨x, rfl, hc3, hg3⟩; refine Hid.out ?_)
  clear hc2 hg2
  cases x
  · have hc4 := hc3
    have hg4 := hg3
    have hm1 : n0 ≤ 25 := by omega
    clear hc3 hg3
    refine Lib.hid ?_
    go_wp2
    clear hn0 hn1
    go_loopw [5, 6] (fun s i wr => ∃ (k : Nat) (t : ByteArray), s = .string t ∧ i = .int .i64 k ∧ (k : Int) ≤ 25 ∧ (t.size : Int) ≤ 10 * k ∧ Cur w.heap.size a len cap wr ∧ w1.grownBy wr (some w.heap.size)) (fun _ i _ => 25 - (intOf i).toNat)
    case atStart => exact ⟨0, ByteArray.empty, rfl, rfl, by omega, by simp, hc4, hg4⟩
    case round =>
      obtain ⟨k, t, rfl, rfl, hk, ht, hcu, hgr⟩ := hrel
      clear hc4 hg4
      by_cases hlt : (k : Int) < n0
      · by_cases hk0 : (k : Int) ≤ 0
        · go_wp2_with (go_at_call 22; refine (once_from w1 _ a len cap _ (by omega) _ hcu hgr).mono ?_; rintro e w5 ⟨z, rfl, hcz, hgz⟩; refine Hid.out ?_)
          cases z
          · have hc7 := hcz
            have hg7 := hgz
            have hs7 : (t.size : Int) ≤ 10 * k + 3 := by omega
            clear hcz hgz hcu hgr
            refine Lib.hid ?_
            go_wp2
            go_loopw [5, 7] (fun s q wr => ∃ (j : Nat) (t5 : ByteArray), s = .string t5 ∧ q = .int .i64 j ∧ (j : Int) ≤ 5 ∧ (t5.size : Int) ≤ 10 * k + 3 + j ∧ Cur w.heap.size a len cap wr ∧ w1.grownBy wr (some w.heap.size)) (fun _ q _ => 5 - (intOf q).toNat)
            case atStart => exact ⟨0, _, rfl, rfl, by omega, by omega, hc7, hg7⟩
            case round =>
              obtain ⟨j, t5, rfl, rfl, hj, ht5, hcj, hgj⟩ := hrel
              clear hc7 hg7
              go_wp2_with (go_at_call 24; (with_reducible refine (below_from w1 _ a len cap 5 (by omega) _ hcj hgj).mono ?_); rintro e w8 ⟨q, rfl, hq0, hq1, hc8, hg8⟩; refine Hid.out ?_)
              by_cases hjq : (j : Int) ≤ q
              · refine Lib.hid ?_
                go_wp2_with (go_at_call 24; (with_reducible refine (below_from w1 _ a len cap 94 (by omega) _ hc8 hg8).mono ?_); rintro e w9 ⟨r, rfl, hr0, hr1, hc9, hg9⟩; refine Hid.out ?_)
                have hcv := conv_one w9 (33 + r) (by omega) (by omega)
                have h1 := one_size (UInt8.ofNat (33 + r).toNat)
                have hsz : ((t5 ++ (⟨#[UInt8.ofNat (33 + r).toNat]⟩ : ByteArray)).size : Int) ≤ 10 * k + 3 + (j + 1 : Nat) := by rw [app_size, h1]; omega
                have hadd := run_string_add_sum (P := Tryd.prog) (w9.alloc (.cells #[.int .u8 (33 + r)] 5)) t5 ⟨#[UInt8.ofNat (33 + r).toNat]⟩ (by rw [h1]; omega)
                have HSZ := Lib.hid hsz
                have hc10 := hc9.alloc (.cells #[.int .u8 (33 + r)] 5)
                have hg10 := grownBy_trans hg9 (World.grownBy_alloc w9 (.cells #[.int .u8 (33 + r)] 5) (some w.heap.size))
                clear hsz h1 hc8 hg8
                refine Lib.hid ?_
                go_wp2
                go_roundw
                case rel => exact ⟨j + 1, _, rfl, by go_num, by omega, HSZ.out, hc10, hg10⟩
                case measure => simp [intOf]; omega
              · refine Lib.hid ?_
                go_wp2
                go_roundw
                case rel => exact ⟨k + 1, t5, rfl, by go_num, by omega, by omega, hc8, hg8⟩
                case measure => simp [intOf]; omega
          · refine Lib.hid ?_
            go_wp2_with (first
              | (go_at_call 24; (with_reducible refine (below_from w1 _ a len cap 2 (by omega) _ hcz hgz).mono ?_); rintro e w6 ⟨z1, rfl, hz0, hz1, hc6, hg6⟩)
              | (go_at_call 24; (with_reducible refine (below_from w1 _ a len cap 3 (by omega) _ hc6 hg6).mono ?_); rintro e w5 ⟨z2, rfl, hy2, hy3, hc5, hg5⟩; obtain ⟨hp0, hp1⟩ := prod_bd hz0 hz1 hy2 hy3))
            refine (long_any _ _ (by omega) (by omega) (by omega) (by omega) _).mono ?_
            rintro e w7 ⟨t2, rfl, ht2, hb7⟩
            have hc7 := Cur.below hc5 hb7
            have hg7 := grown_of_below hg5 hb7
            have hs7 : ((t ++ t2).size : Int) ≤ 10 * k + 3 := by rw [app_size]; omega
            have hadd := run_string_add_sum (P := Tryd.prog) w7 t t2 (by omega)
            clear hb7 ht2 hp0 hp1 hz0 hz1 hy2 hy3 hc5 hg5 hc6 hg6 hcz hgz hcu hgr
            go_wp2
            clear hadd
            go_loopw [5, 7] (fun s q wr => ∃ (j : Nat) (t5 : ByteArray), s = .string t5 ∧ q = .int .i64 j ∧ (j : Int) ≤ 5 ∧ (t5.size : Int) ≤ 10 * k + 3 + j ∧ Cur w.heap.size a len cap wr ∧ w1.grownBy wr (some w.heap.size)) (fun _ q _ => 5 - (intOf q).toNat)
            case atStart => exact ⟨0, _, rfl, rfl, by omega, by omega, hc7, hg7⟩
            case round =>
              obtain ⟨j, t5, rfl, rfl, hj, ht5, hcj, hgj⟩ := hrel
              clear hc7 hg7
              go_wp2_with (go_at_call 24; (with_reducible refine (below_from w1 _ a len cap 5 (by omega) _ hcj hgj).mono ?_); rintro e w8 ⟨q, rfl, hq0, hq1, hc8, hg8⟩; refine Hid.out ?_)
              by_cases hjq : (j : Int) ≤ q
              · refine Lib.hid ?_
                go_wp2_with (go_at_call 24; (with_reducible refine (below_from w1 _ a len cap 94 (by omega) _ hc8 hg8).mono ?_); rintro e w9 ⟨r, rfl, hr0, hr1, hc9, hg9⟩; refine Hid.out ?_)
                have hcv := conv_one w9 (33 + r) (by omega) (by omega)
                have h1 := one_size (UInt8.ofNat (33 + r).toNat)
                have hsz : ((t5 ++ (⟨#[UInt8.ofNat (33 + r).toNat]⟩ : ByteArray)).size : Int) ≤ 10 * k + 3 + (j + 1 : Nat) := by rw [app_size, h1]; omega
                have hadd := run_string_add_sum (P := Tryd.prog) (w9.alloc (.cells #[.int .u8 (33 + r)] 5)) t5 ⟨#[UInt8.ofNat (33 + r).toNat]⟩ (by rw [h1]; omega)
                have HSZ := Lib.hid hsz
                have hc10 := hc9.alloc (.cells #[.int .u8 (33 + r)] 5)
                have hg10 := grownBy_trans hg9 (World.grownBy_alloc w9 (.cells #[.int .u8 (33 + r)] 5) (some w.heap.size))
                clear hsz h1 hc8 hg8
                refine Lib.hid ?_
                go_wp2
                go_roundw
                case rel => exact ⟨j + 1, _, rfl, by go_num, by omega, HSZ.out, hc10, hg10⟩
                case measure => simp [intOf]; omega
              · refine Lib.hid ?_
                go_wp2
                go_roundw
                case rel => exact ⟨k + 1, t5, rfl, by go_num, by omega, by omega, hc8, hg8⟩
                case measure => simp [intOf]; omega
        · go_wp2_with (first
            | (go_at_call 24; (with_reducible refine (below_from w1 _ a len cap 2 (by omega) _ hcu hgr).mono ?_); rintro e w6 ⟨z1, rfl, hz0, hz1, hc6, hg6⟩)
            | (go_at_call 24; (with_reducible refine (below_from w1 _ a len cap 3 (by omega) _ hc6 hg6).mono ?_); rintro e w5 ⟨z2, rfl, hy2, hy3, hc5, hg5⟩; obtain ⟨hp0, hp1⟩ := prod_bd hz0 hz1 hy2 hy3))
          refine (long_any _ _ (by omega) (by omega) (by omega) (by omega) _).mono ?_
          rintro e w7 ⟨t2, rfl, ht2, hb7⟩
          have hc7 := Cur.below hc5 hb7
          have hg7 := grown_of_below hg5 hb7
          have hs7 : ((t ++ t2).size : Int) ≤ 10 * k + 3 := by rw [app_size]; omega
          have hadd := run_string_add_sum (P := Tryd.prog) w7 t t2 (by omega)
          clear hb7 ht2 hp0 hp1 hz0 hz1 hy2 hy3 hc5 hg5 hc6 hg6 hcu hgr
          go_wp2
          clear hadd
          go_loopw [5, 7] (fun s q wr => ∃ (j : Nat) (t5 : ByteArray), s = .string t5 ∧ q = .int .i64 j ∧ (j : Int) ≤ 5 ∧ (t5.size : Int) ≤ 10 * k + 3 + j ∧ Cur w.heap.size a len cap wr ∧ w1.grownBy wr (some w.heap.size)) (fun _ q _ => 5 - (intOf q).toNat)
          case atStart => exact ⟨0, _, rfl, rfl, by omega, by omega, hc7, hg7⟩
          case round =>
            obtain ⟨j, t5, rfl, rfl, hj, ht5, hcj, hgj⟩ := hrel
            clear hc7 hg7
            go_wp2_with (go_at_call 24; (with_reducible refine (below_from w1 _ a len cap 5 (by omega) _ hcj hgj).mono ?_); rintro e w8 ⟨q, rfl, hq0, hq1, hc8, hg8⟩; refine Hid.out ?_)
            by_cases hjq : (j : Int) ≤ q
            · refine Lib.hid ?_
              go_wp2_with (go_at_call 24; (with_reducible refine (below_from w1 _ a len cap 94 (by omega) _ hc8 hg8).mono ?_); rintro e w9 ⟨r, rfl, hr0, hr1, hc9, hg9⟩; refine Hid.out ?_)
              have hcv := conv_one w9 (33 + r) (by omega) (by omega)
              have h1 := one_size (UInt8.ofNat (33 + r).toNat)
              have hsz : ((t5 ++ (⟨#[UInt8.ofNat (33 + r).toNat]⟩ : ByteArray)).size : Int) ≤ 10 * k + 3 + (j + 1 : Nat) := by rw [app_size, h1]; omega
              have hadd := run_string_add_sum (P := Tryd.prog) (w9.alloc (.cells #[.int .u8 (33 + r)] 5)) t5 ⟨#[UInt8.ofNat (33 + r).toNat]⟩ (by rw [h1]; omega)
              have HSZ := Lib.hid hsz
              have hc10 := hc9.alloc (.cells #[.int .u8 (33 + r)] 5)
              have hg10 := grownBy_trans hg9 (World.grownBy_alloc w9 (.cells #[.int .u8 (33 + r)] 5) (some w.heap.size))
              clear hsz h1 hc8 hg8
              refine Lib.hid ?_
              go_wp2
              go_roundw
              case rel => exact ⟨j + 1, _, rfl, by go_num, by omega, HSZ.out, hc10, hg10⟩
              case measure => simp [intOf]; omega
            · refine Lib.hid ?_
              go_wp2
              go_roundw
              case rel => exact ⟨k + 1, t5, rfl, by go_num, by omega, by omega, hc8, hg8⟩
              case measure => simp [intOf]; omega
      · go_wp2_with (go_at_call 24; refine (below_from w1 _ a len cap _ (by omega) _ hcu hgr).mono ?_; rintro e w5 ⟨z, rfl, hz0, hz1, hc5, hg5⟩; refine Hid.out ?_)
        by_cases h0 : z = 0
        · subst h0
          have HROW := Lib.hid (strRow_alloc w5 [⟨#[32]⟩, ⟨#[32, 32]⟩, ⟨#[9]⟩, ⟨#[10]⟩, ⟨#[127]⟩, ⟨#[233]⟩] 9 2 (by decide))
          have hlt5 := hc5.lt
          refine Lib.hid ?_
          go_wp2_with fail
          refine (pick_from w1 _ a len cap _ 6 2 (by omega) (by omega) _ (hc5.alloc _) (grownBy_trans hg5 (World.grownBy_alloc _ _ _)) HROW.out (by omega)).mono ?_
          rintro e w6 ⟨t2, rfl, ht2, hc6, hg6⟩
          have hs7 : ((t ++ t2).size : Int) ≤ 1000 := by rw [app_size]; omega
          have HS := Lib.hid hs7
          have hadd := run_string_add_sum (P := Tryd.prog) w6 t t2 (by omega)
          clear hs7
          go_wp2
          go_ret
          exact ⟨_, rfl, HS.out, fin.out _ hg6⟩
        · have h0' : (z == 0) = false := by simpa using h0
          by_cases h1 : z = 1
          · subst h1
            by_cases h6 : (t.size : Int) < 600
            · refine Lib.hid ?_
              go_wp2_with (go_at_call 24; (with_reducible refine (below_from w1 _ a len cap 2 (by omega) _ hc5 hg5).mono ?_); rintro e w6 ⟨z2, rfl, hy2, hy3, hc6, hg6⟩)
              refine (long_any _ _ (by omega) (by omega) (by omega) (by omega) _).mono ?_
              rintro e w7 ⟨t2, rfl, ht2, hb7⟩
              have hg7 := grown_of_below hg6 hb7
              have hs7 : ((t ++ t2).size : Int) ≤ 1000 := by rw [app_size]; omega
              have HS := Lib.hid hs7
              have hadd := run_string_add_sum (P := Tryd.prog) w7 t t2 (by omega)
              clear hs7
              go_wp2
              go_ret
              exact ⟨_, rfl, HS.out, fin.out _ hg7⟩
            · refine Lib.hid ?_
              go_wp2
              go_ret
              exact ⟨_, rfl, by omega, fin.out _ hg5⟩
          · have h1' : (z == 1) = false := by simpa using h1
            refine Lib.hid ?_
            go_wp2
            go_ret
            exact ⟨_, rfl, by omega, fin.out _ hg5⟩
  · refine Lib.hid ?_
    go_wp2_with (go_at_call 24; refine (below_from w1 _ a len cap _ (by omega) _ hc3 hg3).mono ?_; rintro e w4 ⟨y, rfl, hy0, hy1, hc4, hg4⟩; refine Hid.out ?_)
    obtain ⟨m, hm⟩ : ∃ m : Int, 24 + y = m := ⟨_, rfl⟩
    have hm1 : m ≤ 25 := by omega
    clear hc3 hg3
    refine Lib.hid ?_
    go_wp2
    have HM := Lib.hid hm
    clear hm hn0 hn1 hy0 hy1
    go_loopw [5, 6] (fun s i wr => ∃ (k : Nat) (t : ByteArray), s = .string t ∧ i = .int .i64 k ∧ (k : Int) ≤ 25 ∧ (t.size : Int) ≤ 10 * k ∧ Cur w.heap.size a len cap wr ∧ w1.grownBy wr (some w.heap.size)) (fun _ i _ => 25 - (intOf i).toNat)
    case atStart => exact ⟨0, ByteArray.empty, rfl, rfl, by omega, by simp, hc4, hg4⟩
    case round =>
      obtain ⟨k, t, rfl, rfl, hk, ht, hcu, hgr⟩ := hrel
      clear hc4 hg4
      by_cases hlt : (k : Int) < m
      · by_cases hk0 : (k : Int) ≤ 0
        · go_wp2_with (go_at_call 22; refine (once_from w1 _ a len cap _ (by omega) _ hcu hgr).mono ?_; rintro e w5 ⟨z, rfl, hcz, hgz⟩; refine Hid.out ?_)
          cases z
          · have hc7 := hcz
            have hg7 := hgz
            have hs7 : (t.size : Int) ≤ 10 * k + 3 := by omega
            clear hcz hgz hcu hgr
            refine Lib.hid ?_
            go_wp2
            go_loopw [5, 7] (fun s q wr => ∃ (j : Nat) (t5 : ByteArray), s = .string t5 ∧ q = .int .i64 j ∧ (j : Int) ≤ 5 ∧ (t5.size : Int) ≤ 10 * k + 3 + j ∧ Cur w.heap.size a len cap wr ∧ w1.grownBy wr (some w.heap.size)) (fun _ q _ => 5 - (intOf q).toNat)
            case atStart => exact ⟨0, _, rfl, rfl, by omega, by omega, hc7, hg7⟩
            case round =>
              obtain ⟨j, t5, rfl, rfl, hj, ht5, hcj, hgj⟩ := hrel
              clear hc7 hg7
              go_wp2_with (go_at_call 24; (with_reducible refine (below_from w1 _ a len cap 5 (by omega) _ hcj hgj).mono ?_); rintro e w8 ⟨q, rfl, hq0, hq1, hc8, hg8⟩; refine Hid.out ?_)
              by_cases hjq : (j : Int) ≤ q
              · refine Lib.hid ?_
                go_wp2_with (go_at_call 24; (with_reducible refine (below_from w1 _ a len cap 94 (by omega) _ hc8 hg8).mono ?_); rintro e w9 ⟨r, rfl, hr0, hr1, hc9, hg9⟩; refine Hid.out ?_)
                have hcv := conv_one w9 (33 + r) (by omega) (by omega)
                have h1 := one_size (UInt8.ofNat (33 + r).toNat)
                have hsz : ((t5 ++ (⟨#[UInt8.ofNat (33 + r).toNat]⟩ : ByteArray)).size : Int) ≤ 10 * k + 3 + (j + 1 : Nat) := by rw [app_size, h1]; omega
                have hadd := run_string_add_sum (P := Tryd.prog) (w9.alloc (.cells #[.int .u8 (33 + r)] 5)) t5 ⟨#[UInt8.ofNat (33 + r).toNat]⟩ (by rw [h1]; omega)
                have HSZ := Lib.hid hsz
                have hc10 := hc9.alloc (.cells #[.int .u8 (33 + r)] 5)
                have hg10 := grownBy_trans hg9 (World.grownBy_alloc w9 (.cells #[.int .u8 (33 + r)] 5) (some w.heap.size))
                clear hsz h1 hc8 hg8
                refine Lib.hid ?_
                go_wp2
                go_roundw
                case rel => exact ⟨j + 1, _, rfl, by go_num, by omega, HSZ.out, hc10, hg10⟩
                case measure => simp [intOf]; omega
              · refine Lib.hid ?_
                go_wp2
                go_roundw
                case rel => exact ⟨k + 1, t5, rfl, by go_num, by omega, by omega, hc8, hg8⟩
                case measure => simp [intOf]; omega
          · refine Lib.hid ?_
            go_wp2_with (first
              | (go_at_call 24; (with_reducible refine (below_from w1 _ a len cap 2 (by omega) _ hcz hgz).mono ?_); rintro e w6 ⟨z1, rfl, hz0, hz1, hc6, hg6⟩)
              | (go_at_call 24; (with_reducible refine (below_from w1 _ a len cap 3 (by omega) _ hc6 hg6).mono ?_); rintro e w5 ⟨z2, rfl, hy2, hy3, hc5, hg5⟩; obtain ⟨hp0, hp1⟩ := prod_bd hz0 hz1 hy2 hy3))
            refine (long_any _ _ (by omega) (by omega) (by omega) (by omega) _).mono ?_
            rintro e w7 ⟨t2, rfl, ht2, hb7⟩
            have hc7 := Cur.below hc5 hb7
            have hg7 := grown_of_below hg5 hb7
            have hs7 : ((t ++ t2).size : Int) ≤ 10 * k + 3 := by rw [app_size]; omega
            have hadd := run_string_add_sum (P := Tryd.prog) w7 t t2 (by omega)
            clear hb7 ht2 hp0 hp1 hz0 hz1 hy2 hy3 hc5 hg5 hc6 hg6 hcz hgz hcu hgr
            go_wp2
            clear hadd
            go_loopw [5, 7] (fun s q wr => ∃ (j : Nat) (t5 : ByteArray), s = .string t5 ∧ q = .int .i64 j ∧ (j : Int) ≤ 5 ∧ (t5.size : Int) ≤ 10 * k + 3 + j ∧ Cur w.heap.size a len cap wr ∧ w1.grownBy wr (some w.heap.size)) (fun _ q _ => 5 - (intOf q).toNat)
            case atStart => exact ⟨0, _, rfl, rfl, by omega, by omega, hc7, hg7⟩
            case round =>
              obtain ⟨j, t5, rfl, rfl, hj, ht5, hcj, hgj⟩ := hrel
              clear hc7 hg7
              go_wp2_with (go_at_call 24; (with_reducible refine (below_from w1 _ a len cap 5 (by omega) _ hcj hgj).mono ?_); rintro e w8 ⟨q, rfl, hq0, hq1, hc8, hg8⟩; refine Hid.out ?_)
              by_cases hjq : (j : Int) ≤ q
              · refine Lib.hid ?_
                go_wp2_with (go_at_call 24; (with_reducible refine (below_from w1 _ a len cap 94 (by omega) _ hc8 hg8).mono ?_); rintro e w9 ⟨r, rfl, hr0, hr1, hc9, hg9⟩; refine Hid.out ?_)
                have hcv := conv_one w9 (33 + r) (by omega) (by omega)
                have h1 := one_size (UInt8.ofNat (33 + r).toNat)
                have hsz : ((t5 ++ (⟨#[UInt8.ofNat (33 + r).toNat]⟩ : ByteArray)).size : Int) ≤ 10 * k + 3 + (j + 1 : Nat) := by rw [app_size, h1]; omega
                have hadd := run_string_add_sum (P := Tryd.prog) (w9.alloc (.cells #[.int .u8 (33 + r)] 5)) t5 ⟨#[UInt8.ofNat (33 + r).toNat]⟩ (by rw [h1]; omega)
                have HSZ := Lib.hid hsz
                have hc10 := hc9.alloc (.cells #[.int .u8 (33 + r)] 5)
                have hg10 := grownBy_trans hg9 (World.grownBy_alloc w9 (.cells #[.int .u8 (33 + r)] 5) (some w.heap.size))
                clear hsz h1 hc8 hg8
                refine Lib.hid ?_
                go_wp2
                go_roundw
                case rel => exact ⟨j + 1, _, rfl, by go_num, by omega, HSZ.out, hc10, hg10⟩
                case measure => simp [intOf]; omega
              · refine Lib.hid ?_
                go_wp2
                go_roundw
                case rel => exact ⟨k + 1, t5, rfl, by go_num, by omega, by omega, hc8, hg8⟩
                case measure => simp [intOf]; omega
        · go_wp2_with (first
            | (go_at_call 24; (with_reducible refine (below_from w1 _ a len cap 2 (by omega) _ hcu hgr).mono ?_); rintro e w6 ⟨z1, rfl, hz0, hz1, hc6, hg6⟩)
            | (go_at_call 24; (with_reducible refine (below_from w1 _ a len cap 3 (by omega) _ hc6 hg6).mono ?_); rintro e w5 ⟨z2, rfl, hy2, hy3, hc5, hg5⟩; obtain ⟨hp0, hp1⟩ := prod_bd hz0 hz1 hy2 hy3))
          refine (long_any _ _ (by omega) (by omega) (by omega) (by omega) _).mono ?_
          rintro e w7 ⟨t2, rfl, ht2, hb7⟩
          have hc7 := Cur.below hc5 hb7
          have hg7 := grown_of_below hg5 hb7
          have hs7 : ((t ++ t2).size : Int) ≤ 10 * k + 3 := by rw [app_size]; omega
          have hadd := run_string_add_sum (P := Tryd.prog) w7 t t2 (by omega)
          clear hb7 ht2 hp0 hp1 hz0 hz1 hy2 hy3 hc5 hg5 hc6 hg6 hcu hgr
          go_wp2
          clear hadd
          go_loopw [5, 7] (fun s q wr => ∃ (j : Nat) (t5 : ByteArray), s = .string t5 ∧ q = .int .i64 j ∧ (j : Int) ≤ 5 ∧ (t5.size : Int) ≤ 10 * k + 3 + j ∧ Cur w.heap.size a len cap wr ∧ w1.grownBy wr (some w.heap.size)) (fun _ q _ => 5 - (intOf q).toNat)
          case atStart => exact ⟨0, _, rfl, rfl, by omega, by omega, hc7, hg7⟩
          case round =>
            obtain ⟨j, t5, rfl, rfl, hj, ht5, hcj, hgj⟩ := hrel
            clear hc7 hg7
            go_wp2_with (go_at_call 24; (with_reducible refine (below_from w1 _ a len cap 5 (by omega) _ hcj hgj).mono ?_); rintro e w8 ⟨q, rfl, hq0, hq1, hc8, hg8⟩; refine Hid.out ?_)
            by_cases hjq : (j : Int) ≤ q
            · refine Lib.hid ?_
              go_wp2_with (go_at_call 24; (with_reducible refine (below_from w1 _ a len cap 94 (by omega) _ hc8 hg8).mono ?_); rintro e w9 ⟨r, rfl, hr0, hr1, hc9, hg9⟩; refine Hid.out ?_)
              have hcv := conv_one w9 (33 + r) (by omega) (by omega)
              have h1 := one_size (UInt8.ofNat (33 + r).toNat)
              have hsz : ((t5 ++ (⟨#[UInt8.ofNat (33 + r).toNat]⟩ : ByteArray)).size : Int) ≤ 10 * k + 3 + (j + 1 : Nat) := by rw [app_size, h1]; omega
              have hadd := run_string_add_sum (P := Tryd.prog) (w9.alloc (.cells #[.int .u8 (33 + r)] 5)) t5 ⟨#[UInt8.ofNat (33 + r).toNat]⟩ (by rw [h1]; omega)
              have HSZ := Lib.hid hsz
              have hc10 := hc9.alloc (.cells #[.int .u8 (33 + r)] 5)
              have hg10 := grownBy_trans hg9 (World.grownBy_alloc w9 (.cells #[.int .u8 (33 + r)] 5) (some w.heap.size))
              clear hsz h1 hc8 hg8
              refine Lib.hid ?_
              go_wp2
              go_roundw
              case rel => exact ⟨j + 1, _, rfl, by go_num, by omega, HSZ.out, hc10, hg10⟩
              case measure => simp [intOf]; omega
            · refine Lib.hid ?_
              go_wp2
              go_roundw
              case rel => exact ⟨k + 1, t5, rfl, by go_num, by omega, by omega, hc8, hg8⟩
              case measure => simp [intOf]; omega
      · go_wp2_with (go_at_call 24; refine (below_from w1 _ a len cap _ (by omega) _ hcu hgr).mono ?_; rintro e w5 ⟨z, rfl, hz0, hz1, hc5, hg5⟩; refine Hid.out ?_)
        by_cases h0 : z = 0
        · subst h0
          have HROW := Lib.hid (strRow_alloc w5 [⟨#[32]⟩, ⟨#[32, 32]⟩, ⟨#[9]⟩, ⟨#[10]⟩, ⟨#[127]⟩, ⟨#[233]⟩] 9 2 (by decide))
          have hlt5 := hc5.lt
          refine Lib.hid ?_
          go_wp2_with fail
          refine (pick_from w1 _ a len cap _ 6 2 (by omega) (by omega) _ (hc5.alloc _) (grownBy_trans hg5 (World.grownBy_alloc _ _ _)) HROW.out (by omega)).mono ?_
          rintro e w6 ⟨t2, rfl, ht2, hc6, hg6⟩
          have hs7 : ((t ++ t2).size : Int) ≤ 1000 := by rw [app_size]; omega
          have HS := Lib.hid hs7
          have hadd := run_string_add_sum (P := Tryd.prog) w6 t t2 (by omega)
          clear hs7
          go_wp2
          go_ret
          exact ⟨_, rfl, HS.out, fin.out _ hg6⟩
        · have h0' : (z == 0) = false := by simpa using h0
          by_cases h1 : z = 1
          · subst h1
            by_cases h6 : (t.size : Int) < 600
            · refine Lib.hid ?_
              go_wp2_with (go_at_call 24; (with_reducible refine (below_from w1 _ a len cap 2 (by omega) _ hc5 hg5).mono ?_); rintro e w6 ⟨z2, rfl, hy2, hy3, hc6, hg6⟩)
              refine (long_any _ _ (by omega) (by omega) (by omega) (by omega) _).mono ?_
              rintro e w7 ⟨t2, rfl, ht2, hb7⟩
              have hg7 := grown_of_below hg6 hb7
              have hs7 : ((t ++ t2).size : Int) ≤ 1000 := by rw [app_size]; omega
              have HS := Lib.hid hs7
              have hadd := run_string_add_sum (P := Tryd.prog) w7 t t2 (by omega)
              clear hs7
              go_wp2
              go_ret
              exact ⟨_, rfl, HS.out, fin.out _ hg7⟩
            · refine Lib.hid ?_
              go_wp2
              go_ret
              exact ⟨_, rfl, by omega, fin.out _ hg5⟩
          · have h1' : (z == 1) = false := by simpa using h1
            refine Lib.hid ?_
            go_wp2
            go_ret
            exact ⟨_, rfl, by omega, fin.out _ hg5⟩
end Go.Proofs.YtmdpdfdiknfopaaDoor.cur
