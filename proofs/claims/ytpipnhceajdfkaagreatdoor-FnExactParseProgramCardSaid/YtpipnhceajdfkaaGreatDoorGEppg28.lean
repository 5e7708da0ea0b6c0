/- Several texts in one: TexN TexF. -/
import Derived.Test.YtpipnhceajdfkaaGreatDoorGEppg13
import Derived.Test.YtpipnhceajdfkaaGreatDoorGEppg21
import Derived.Test.YtpipnhceajdfkaaGreatDoorGEppg25
import Derived.Test.YtpipnhceajdfkaaGreatDoorGEppg24

/- The program's wordAndNumbers: a statement's word and its numbers, in the order of its text. -/
namespace Go.Proofs.YtpipnhceajdfkaaGreatDoor.tex
open Go Go.ChangeShapes Go.WideShapes Go.ChangeAt Go.RowKit Go.Proofs.YtpipnhceajdfkaaGreatDoor.row Go.Proofs.YtpipnhceajdfkaaGreatDoor.stm Go.Proofs.YtpipnhceajdfkaaGreatDoor.expr

/-- The call returns this word and these numbers. -/
def WnO (w : World) (k : Int) (L : List Int) (e : Ending) (w' : World) : Prop :=
  ∃ (a : Option Addr) (c : Nat), e = .returned (.tuple #[.string ⟨(word k).toArray⟩, .slice a L.length c]) ∧ Row w' a L.length L ∧ Below w.heap.size w w'
theorem row_made (w : World) (L : List Int) (t : TypeId) : Row (w.alloc (.cells (ivs L).toArray t)) (some ⟨w.heap.size, 0, none⟩) L.length L :=
  ⟨rfl, fun k hk => ⟨w.heap.size, 0, L[k], rfl, by simp, by simp [hk], by rw [new_cell]; simp [ivs, hk]⟩⟩
theorem row_made1 (w : World) (o : Obj) (L : List Int) (t : TypeId) : Row ((w.alloc o).alloc (.cells (ivs L).toArray t)) (some ⟨w.heap.size + 1, 0, none⟩) L.length L := by
  have h := row_made (w.alloc o) L t
  rw [World.size_alloc] at h
  exact h
theorem row_none (w : World) : Row w none 0 [] := ⟨rfl, fun k hk => by omega⟩
set_option maxHeartbeats 1000000 in
theorem wn1 (v o a b : Int) (w : World) : Calls Tryz.prog 35 #[if1 v o a b] w (WnO w 1 [v, o, a, b]) := by
  have t1 := as1_yes (.agg #[.int .i64 v, .int .i64 o, .int .i64 a, .int .i64 b])
  go_enter Tryz.func35, Tryz.ntmps35
  go_wp2
  go_region
  go_wp2
  go_ret2
  exact ⟨_, _, rfl, row_made1 w _ [v, o, a, b] _, Below.drew (((Below.refl _ w).alloc (Nat.le_refl _) _).alloc (by simp) _)⟩
set_option maxHeartbeats 1000000 in
theorem wn2 (v n : Int) (w : World) : Calls Tryz.prog 35 #[if2 v n] w (WnO w 2 [v, n]) := by
  have t2 := as2_yes (.agg #[.int .i64 v, .int .i64 n])
  have t1 := as2_no1 (.agg #[.int .i64 v, .int .i64 n])
  go_enter Tryz.func35, Tryz.ntmps35
  go_wp2
  go_region
  go_wp2
  go_ret2
  exact ⟨_, _, rfl, row_made1 w _ [v, n] _, Below.drew (((Below.refl _ w).alloc (Nat.le_refl _) _).alloc (by simp) _)⟩
set_option maxHeartbeats 1000000 in
theorem wn3 (o a b : Int) (w : World) : Calls Tryz.prog 35 #[if3 o a b] w (WnO w 3 [o, a, b]) := by
  have t3 := as3_yes (.agg #[.int .i64 o, .int .i64 a, .int .i64 b])
  have t1 := as3_no1 (.agg #[.int .i64 o, .int .i64 a, .int .i64 b])
  have t2 := as3_no2 (.agg #[.int .i64 o, .int .i64 a, .int .i64 b])
  go_enter Tryz.func35, Tryz.ntmps35
  go_wp2
  go_region
  go_wp2
  go_ret2
  exact ⟨_, _, rfl, row_made1 w _ [o, a, b] _, Below.drew (((Below.refl _ w).alloc (Nat.le_refl _) _).alloc (by simp) _)⟩
set_option maxHeartbeats 1000000 in
theorem wn4 (o a b : Int) (w : World) : Calls Tryz.prog 35 #[if4 o a b] w (WnO w 4 [o, a, b]) := by
  have t4 := as4_yes (.agg #[.int .i64 o, .int .i64 a, .int .i64 b])
  have t1 := as4_no1 (.agg #[.int .i64 o, .int .i64 a, .int .i64 b])
  have t2 := as4_no2 (.agg #[.int .i64 o, .int .i64 a, .int .i64 b])
  have t3 := as4_no3 (.agg #[.int .i64 o, .int .i64 a, .int .i64 b])
  go_enter Tryz.func35, Tryz.ntmps35
  go_wp2
  go_region
  go_wp2
  go_ret2
  exact ⟨_, _, rfl, row_made1 w _ [o, a, b] _, Below.drew (((Below.refl _ w).alloc (Nat.le_refl _) _).alloc (by simp) _)⟩
set_option maxHeartbeats 1000000 in
theorem wn5 (n : Int) (w : World) : Calls Tryz.prog 35 #[if5 n] w (WnO w 5 [n]) := by
  have t5 := as5_yes (.agg #[.int .i64 n])
  have t1 := as5_no1 (.agg #[.int .i64 n])
  have t2 := as5_no2 (.agg #[.int .i64 n])
  have t3 := as5_no3 (.agg #[.int .i64 n])
  have t4 := as5_no4 (.agg #[.int .i64 n])
  go_enter Tryz.func35, Tryz.ntmps35
  go_wp2
  go_region
  go_wp2
  go_ret2
  exact ⟨_, _, rfl, row_made1 w _ [n] _, Below.drew (((Below.refl _ w).alloc (Nat.le_refl _) _).alloc (by simp) _)⟩
set_option maxHeartbeats 1000000 in
theorem wn6 (w : World) : Calls Tryz.prog 35 #[if6 ] w (WnO w 6 []) := by
  have t6 := as6_yes (.agg #[])
  have t1 := as6_no1 (.agg #[])
  have t2 := as6_no2 (.agg #[])
  have t3 := as6_no3 (.agg #[])
  have t4 := as6_no4 (.agg #[])
  have t5 := as6_no5 (.agg #[])
  go_enter Tryz.func35, Tryz.ntmps35
  go_wp2
  go_ret2
  exact ⟨_, _, rfl, row_none _, (Below.refl _ w).alloc (Nat.le_refl _) _⟩
theorem wn_any (s : S) (h : stOk s = true) (w : World) : Calls Tryz.prog 35 #[ifSt s] w (WnO w s.k (nums s)) := by
  rcases st_form h with ⟨v, o, a, b, rfl, hv, he⟩ | ⟨v, n, rfl, hv, h0, h1⟩ | ⟨o, a, b, rfl, he⟩ | ⟨o, a, b, rfl, he⟩ | ⟨n, rfl, h0, h1⟩ | rfl
  · exact wn1 v o a b w
  · exact wn2 v n w
  · exact wn3 o a b w
  · exact wn4 o a b w
  · exact wn5 n w
  · exact wn6 w
theorem valid_ok (s : S) (h : stOk s = true) (w : World) : Calls Tryz.prog 34 #[stV s] w (BelP w (ifSt s) true) := by
  have := valid_any s w
  rw [h] at this
  exact this
theorem valid_bad (s : S) (h : stOk s = false) (w : World) : Calls Tryz.prog 34 #[stV s] w (BelP w .nilIface false) := by
  have := valid_any s w
  rw [h] at this
  exact this
end Go.Proofs.YtpipnhceajdfkaaGreatDoor.tex

/- Chapter 4's FormatStmt of the program: it is the statement's text; nothing that was there is written. -/
namespace Go.Proofs.YtpipnhceajdfkaaGreatDoor.tex
open Go Go.ChangeShapes Go.WideShapes Go.ChangeAt Go.RowKit Go.Proofs.YtpipnhceajdfkaaGreatDoor.row Go.Proofs.YtpipnhceajdfkaaGreatDoor.val Go.Proofs.YtpipnhceajdfkaaGreatDoor.stm Go.Proofs.YtpipnhceajdfkaaGreatDoor.expr Go.Proofs.YtpipnhceajdfkaaGreatDoor.spl Go.Proofs.YtpipnhceajdfkaaGreatDoor.lay

/-- The fields of a statement's text, as strings. -/
def fb (s : S) : List ByteArray := (flds s).map fun f => ⟨f.toArray⟩
theorem fb_lists (s : S) : (fb s).map (·.data.toList) = flds s := by simp [fb, Function.comp_def]
theorem fb_len (s : S) : (fb s).length = (nums s).length + 1 := by simp [fb, flds]
theorem fb_take_one (s : S) : (fb s).take 1 = [⟨(word s.k).toArray⟩] := by simp [fb, flds]
theorem fb_next (s : S) {k : Nat} {x : Int} (h : (nums s)[k]? = some x) : (fb s).take (k + 2) = (fb s).take (k + 1) ++ [⟨(Lib.itoa x).toArray⟩] := by
  rw [List.take_add_one (i := k + 1)]
  congr 1
  simp [fb, flds, h]
theorem fb_all (s : S) : (fb s).take ((nums s).length + 1) = fb s := List.take_of_length_le (by rw [fb_len]; exact Nat.le_refl _)
theorem strs_snoc (L : List ByteArray) (x : ByteArray) : spl.strs (L ++ [x]) = spl.strs L ++ [Value.string x] := by simp [spl.strs]
theorem impl_small {n : Int} (h : Small n) (w : World) (hT : Lib.TabIs Tryz.prog w "internal/strconv.uint64pow10" .u64 Lib.pow10Tab) : Calls Tryz.prog 58 #[.int .i64 n] w (RetS w (Lib.itoa n)) := by
  unfold Small at h; exact impl_fmt n (by omega) (by omega) w hT
theorem text_join_fb (s : S) : Lib.join ((fb s).map (·.data.toList)) [32] = text s := by rw [fb_lists]; rfl
/-- A word and numbers, as strings. -/
def fw (u : ByteArray) (L : List Int) : List ByteArray := u :: L.map fun n => ⟨(Lib.itoa n).toArray⟩
theorem fw_lists (u : ByteArray) (L : List Int) : (fw u L).map (·.data.toList) = u.data.toList :: L.map Lib.itoa := by simp [fw, Function.comp_def]
theorem fw_take_one (u : ByteArray) (L : List Int) : (fw u L).take 1 = [u] := by simp [fw]
theorem fw_next (u : ByteArray) {L : List Int} {k : Nat} {x : Int} (h : L[k]? = some x) : (fw u L).take (k + 2) = (fw u L).take (k + 1) ++ [⟨(Lib.itoa x).toArray⟩] := by
  rw [List.take_add_one (i := k + 1)]
  congr 1
  simp [fw, h]
theorem fw_all (u : ByteArray) (L : List Int) : (fw u L).take (L.length + 1) = fw u L := List.take_of_length_le (by simp [fw])
/-- The text of a word and numbers. -/
def lineW (u : ByteArray) (L : List Int) : List UInt8 := Lib.join (u.data.toList :: L.map Lib.itoa) [32]
set_option maxHeartbeats 2000000 in
set_option maxRecDepth 100000 in
theorem impl_lineof (u : ByteArray) (L : List Int) (a : Option Addr) (n c : Nat) (w : World) (hN : (∀ x ∈ L, Small x) ∧ L.length ≤ 4) (hJ : (lineW u L).length ≤ 1048576) (hR : Row w a n L) (hT : Lib.TabBelow Tryz.prog w.heap.size w "internal/strconv.uint64pow10" .u64 Lib.pow10Tab) :
    Calls Tryz.prog 33 #[.string u, .slice a n c] w (RetS w (lineW u L)) := by
  obtain rfl : L.length = n := hR.1
  have HL := Lib.hid (show (Lib.join ((fw u L).map (·.data.toList)) [32]).length ≤ 1048576 by rw [fw_lists]; exact hJ)
  have HU := Lib.hid (show lineW u L = Lib.join ((fw u L).map (·.data.toList)) [32] by rw [fw_lists]; rfl)
  have HN := Lib.hid hN
  have HT := Lib.hid hT
  have HK := Lib.hid hR
  clear hN hJ hR hT
  obtain ⟨i0, hi, hz0, hz1, hz2⟩ := info_parts infoStr
  go_enter Tryz.func33, Tryz.ntmps33
  go_wp2
  have hmade : (w.alloc (.cells #[.string u] 9)).ownsRow w.heap.size 9 1 (.slice (some ⟨w.heap.size, 0, none⟩) 1 1) 1 (spl.strs ((fw u L).take 1)) :=
    ⟨by rw [fw_take_one]; rfl, .inr ⟨w.heap.size, 1, #[.string u], rfl, Nat.le_refl _, heap_alloc_new _ _, Nat.le_refl _, by decide, by simp, by rw [fw_take_one]; rfl⟩⟩
  go_loopw [5, 12] (fun vf i wr => ∃ k : Nat, k ≤ L.length ∧ i = .int .i64 k ∧ wr.ownsRow w.heap.size 9 1 vf (k + 1) (spl.strs ((fw u L).take (k + 1))) ∧ Below w.heap.size w wr) (fun _ i _ => L.length - (intOf i).toNat)
  case atStart => exact ⟨0, Nat.zero_le _, rfl, hmade, below_new w _⟩
  case round =>
    obtain ⟨k, hk, rfl, hown, hbel⟩ := hrel
    obtain ⟨a4, cap4, rfl⟩ := own_form hown
    have hN4 := HN.out.2
    have hb2 := hbel.size
    by_cases hlt : k < L.length
    · have hkI : (k : Int) < L.length := by omega
      obtain ⟨g, off, x, rfl, hg, hx, hcell⟩ := HK.out.2 k hlt
      have hcell2 := hbel.cell (p := ⟨g, off + k, none⟩) hg
      rw [hcell] at hcell2
      have HX := Lib.hid (And.intro (fw_next u hx) (HN.out.1 x (List.mem_of_getElem? hx)))
      have HTr := Lib.hid (HT.out.on hbel).here
      clear hx hcell
      go_wp2_with (first
        | (go_at_call 58; refine (impl_small HX.out.2 _ HTr.out).mono ?_; rintro e w3 ⟨rfl, hb3⟩)
        | (at_builtin; refine wpList_append_own _ rfl _ _ 47 rfl w.heap.size 9 i0 (.string ByteArray.empty) 1 16 Tryz.underlying47 hi hz0 hz1 hz2 rfl (by decide) _ _ _ rfl ((hown.kept (grown_below hb3 none) (by cases a4 <;> simp [Value.ownBlock])).alloc _) ⟨w3.heap.size, 0, none⟩ 1 1 [.string ⟨(Lib.itoa x).toArray⟩] rfl rfl (World.news_of_block (cs := #[.string ⟨(Lib.itoa x).toArray⟩]) (t := 9) (fr := (0, 0)) (heap_alloc_new w3 _)) (by simp [Value.oneCell']) (by unfold maxLen; omega) (by omega) (by simp; have := hb3.size; omega) ?_; intro v4 w4 hown4 hgrow4 _; refine Hid.out ?_))
      have hb4 : Below w.heap.size w w4 := ((below_then hbel hb3).alloc (Nat.le_trans hb2 hb3.size) _).grown hgrow4 (by have := hb3.size; simp; omega) (fun j hj => (hown.lt j hj).1)
      have HO := Lib.hid (show w4.ownsRow w.heap.size 9 1 v4 (k + 1 + 1) (spl.strs ((fw u L).take (k + 2))) by rw [HX.out.1, strs_snoc]; exact hown4)
      clear hown hown4 hgrow4 hb3
      refine Lib.hid ?_
      go_wp2
      go_roundw
      case rel => exact ⟨k + 1, by omega, by go_num, HO.out, hb4⟩
      case measure => simp [intOf]; omega
    · obtain rfl : k = L.length := by omega
      have hkI : ¬ (L.length : Int) < L.length := by omega
      rw [fw_all] at hown
      have HB := Lib.hid hbel
      go_wp2_with (go_at_call 59; refine (join_own (fw u L) w.heap.size _ _ _ hown HL.out (by omega)).mono ?_; rintro e w5 ⟨rfl, hb5⟩)
      go_ret
      exact ⟨by rw [HU.out]; rfl, below_then HB.out hb5⟩
set_option maxHeartbeats 2000000 in
set_option maxRecDepth 100000 in
theorem impl_fmtstmt (s : S) (w : World) (hT : Lib.TabBelow Tryz.prog w.heap.size w "internal/strconv.uint64pow10" .u64 Lib.pow10Tab) : Calls Tryz.prog 17 #[stV s] w (RetS w (textR s)) := by
  cases hs : stOk s
  · have HR := Lib.hid (textR_bad hs)
    have HS := Lib.hid hs
    clear hs hT
    go_enter Tryz.func17, Tryz.ntmps17
    go_wp2_with (go_at_call 34; refine (valid_bad s HS.out _).mono ?_; rintro e w1 ⟨rfl, hb1⟩)
    go_ret
    exact ⟨by rw [HR.out]; rfl, below_then (below_new _ _) hb1⟩
  · have HR := Lib.hid (textR_ok hs)
    have HS := Lib.hid hs
    have HN := Lib.hid (nums_small hs)
    have HT := Lib.hid hT
    have HJ := Lib.hid (show (lineW ⟨(word s.k).toArray⟩ (nums s)).length ≤ 1048576 by have := text_short hs; unfold text flds at this; simpa [lineW] using (by omega : _ ≤ 1048576))
    clear hs hT
    go_enter Tryz.func17, Tryz.ntmps17
    go_wp2_with (first
      | (go_at_call 34; refine (valid_ok s HS.out _).mono ?_; rintro e w1 ⟨rfl, hb1⟩)
      | (go_at_call 35; refine (wn_any s HS.out _).mono ?_; rintro e w2 ⟨a, c, rfl, hR, hb2⟩; refine Hid.out ?_))
    have HB := Lib.hid (below_then (below_then (below_new w _) hb1) hb2)
    have HRR := Lib.hid hR
    have HTB := Lib.hid (show Lib.TabBelow Tryz.prog w2.heap.size w2 "internal/strconv.uint64pow10" .u64 Lib.pow10Tab from fun w' hw' => (HT.out.on HB.out) w' (hw'.mono HB.out.size))
    clear hR hb1 hb2
    refine Lib.hid ?_
    go_wp2_with (go_at_call 33; (with_reducible refine (impl_lineof ⟨(word s.k).toArray⟩ (nums s) a (nums s).length c w2 HN.out HJ.out HRR.out HTB.out).mono ?_); rintro e w3 ⟨rfl, hb3⟩)
    go_ret
    exact ⟨by rw [HR.out]; rfl, below_then HB.out hb3⟩
end Go.Proofs.YtpipnhceajdfkaaGreatDoor.tex
