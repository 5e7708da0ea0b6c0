/- Several texts in one: Itoa PuW SplB SplW. -/
import Derived.Test.YtpipnhceajdfkaaGreatDoorGEppg22
import Derived.Test.YtpipnhceajdfkaaGreatDoorShelf
import Derived.Lib.AppendIntMem
import Derived.WalkKit
import Derived.ProofKit
import Derived.Test.YtpipnhceajdfkaaGreatDoorGEppg20
import Derived.WalkSmall
import Derived.Test.YtpipnhceajdfkaaGreatDoorGEppg21
import Derived.Test.YtpipnhceajdfkaaGreatDoorGEppg19
import Derived.Deep.AppendLies
import Derived.Laws.OwnMore

/- The program's own FormatInt: it is the numeral. -/
namespace Go.Proofs.YtpipnhceajdfkaaGreatDoor.lay
open Go Go.RowKit

theorem impl_fmt (n : Int) (hn0 : -9223372036854775808 ≤ n) (hn1 : n ≤ 9223372036854775807) (w : World) (hT : Lib.TabIs Tryz.prog w "internal/strconv.uint64pow10" .u64 Lib.pow10Tab) :
    Calls Tryz.prog 58 #[.int .i64 n] w fun e w' => e = .returned (.string ⟨(Lib.itoa n).toArray⟩) ∧ Below w.heap.size w w' := by
  have HT := Lib.hid hT
  have H0 := Lib.hid hn0
  have H1 := Lib.hid hn1
  clear hT hn0 hn1
  go_enter Tryz.func58, Tryz.ntmps58
  go_wp2_with (go_at_call 76; refine (Tryz.strconv_Itoa n H0.out H1.out _ HT.out).mono ?_; rintro e w1 ⟨rfl, k, os, rfl⟩)
  go_ret
  exact ⟨rfl, Lib.below_grow _ _ (Nat.le_refl _) _ _⟩
end Go.Proofs.YtpipnhceajdfkaaGreatDoor.lay

/- The walks of the two parsers of decimal text: both end as they must. -/
namespace Go.Proofs.YtpipnhceajdfkaaGreatDoor.pu
open Go Go.ChangeShapes Go.WideShapes Go.ChangeAt Go.RowKit Go.Proofs.YtpipnhceajdfkaaGreatDoor.byt Go.Proofs.YtpipnhceajdfkaaGreatDoor.dec Go.Proofs.YtpipnhceajdfkaaGreatDoor.lay

theorem fmt_zero (w : World) : Calls Tryz.prog 50 #[.int .i64 0] w fun e w' => e = .returned (.string ⟨(Lib.itoa 0).toArray⟩) ∧ Below w.heap.size w w' := by
  have H := Lib.hid itoa_zero
  go_enter Tryz.func50, Tryz.ntmps50
  go_wp2
  go_ret
  exact ⟨by rw [H.out]; rfl, Below.refl _ _⟩
theorem fmt_any (n : Int) (hn0 : -9223372036854775808 ≤ n) (hn1 : n ≤ 9223372036854775807) (w : World) :
    Calls Tryz.prog 50 #[.int .i64 n] w fun e w' => e = .returned (.string ⟨(Lib.itoa n).toArray⟩) ∧ Below w.heap.size w w' := by
  by_cases h : n = 0
  · subst h; exact fmt_zero w
  · exact spec_fmt n hn0 hn1 h w

/-- What a parser hands back. -/
def PuOut (l : List UInt8) (w : World) (e : Ending) (w' : World) : Prop := ∃ (v : Int) (b : Bool), e = .returned (.tuple #[.int .i64 v, .bool b]) ∧ IsPu l v b ∧ Below w.heap.size w w'

theorem text_ne {l : List UInt8} {s : ByteArray} (h : (!l == s.toList) = true) : l ≠ s.data.toList := by
  rw [ByteArray.toList_eq] at h; simpa using h
theorem text_eq {l : List UInt8} {s : ByteArray} (h : (!l == s.toList) = false) : l = s.data.toList := by
  rw [ByteArray.toList_eq] at h; simpa using h
theorem val_take (s : ByteArray) (k : Nat) (h : k < s.size) : val (s.data.toList.take (k + 1)) = 10 * val (s.data.toList.take k) + (s[k].toNat - 48) := by
  rw [take_snoc s k h, val_snoc]
theorem mem_at (s : ByteArray) (k : Nat) (h : k < s.size) : s[k] ∈ s.data.toList := by
  have : s.data.toList[k]'(by simpa using h) = s[k] := rfl
  rw [← this]; exact List.getElem_mem _
theorem val_lt : ∀ (l : List UInt8), (∀ c ∈ l, isDig c) → val l < 10 ^ l.length := by
  have h2 : ∀ (l : List UInt8) (acc : Nat), allDig l → l.foldl (fun a c => 10 * a + (c.toNat - 48)) acc < (acc + 1) * 10 ^ l.length := by
    intro l
    induction l with
    | nil => intro acc _; simp
    | cons x t ih =>
      intro acc hx
      have h0 := hx x (by simp)
      unfold isDig at h0
      have := ih (10 * acc + (x.toNat - 48)) (fun y hy => hx y (by simp [hy]))
      rw [List.foldl_cons, List.length_cons, Nat.pow_succ]
      refine Nat.lt_of_lt_of_le this ?_
      refine Nat.le_trans (Nat.mul_le_mul_right _ (show 10 * acc + (x.toNat - 48) + 1 ≤ (acc + 1) * 10 by omega)) ?_
      rw [Nat.mul_assoc, Nat.mul_comm 10]; exact Nat.le_refl _
  intro l hd
  have h3 := h2 l 0 hd
  rw [Nat.zero_add, Nat.one_mul] at h3
  exact h3
theorem val_ten {l : List UInt8} (hd : allDig l) (hl : l.length ≤ 10) : (val l : Int) < 10000000000 := by
  have h := val_lt l hd
  have h4 : (10 : Nat) ^ l.length ≤ 10 ^ 10 := Nat.pow_le_pow_right (by omega) hl
  have h5 : (10 : Nat) ^ 10 = 10000000000 := by decide
  omega
theorem allDig_step {s : ByteArray} {k : Nat} (h : k < s.size) (hd : allDig (s.data.toList.take k)) (hc : isDig s[k]) : allDig (s.data.toList.take (k + 1)) := by
  rw [take_snoc s k h]
  intro c hm
  rcases List.mem_append.1 hm with hm | hm
  · exact hd c hm
  · rw [List.mem_singleton] at hm; subst hm; exact hc

end Go.Proofs.YtpipnhceajdfkaaGreatDoor.pu

/- What a splitter hands back, and the laws of a row of strings. -/
namespace Go.Proofs.YtpipnhceajdfkaaGreatDoor.spl
open Go.ChangeShapes Go.WideShapes Go.ChangeAt Go.RowKit Go.Proofs.YtpipnhceajdfkaaGreatDoor.byt

theorem infoStr : (Tryz.prog.info? 9).map (fun i => (i.zero, i.size, i.bytes)) = some (some (.string ByteArray.empty), 1, 16) := by kernel_rfl

/-- What a splitter hands back: the fields, in a row of its own, and whether the line is one. -/
def SplOut (l : List UInt8) (w : World) (e : Ending) (w' : World) : Prop :=
  ∃ (a : Option Addr) (n cap : Nat), e = .returned (.tuple #[.slice a n cap, .bool (okB l)]) ∧ w'.ownsRow w.heap.size 9 1 (.slice a n cap) (fieldsR l).length (strCells (fieldsR l)) ∧ Below w.heap.size w w'

theorem own_len {w : World} {base : Nat} {e : TypeId} {a : Option Addr} {n cap m : Nat} {xs : List Value} (h : w.ownsRow base e 1 (.slice a n cap) m xs) : n = m := by
  rcases h.2 with ⟨h1, h2⟩ | ⟨g, c, cur, h1, _⟩
  · injection h1 with _ h3 _; omega
  · injection h1

theorem out_bad {l : List UInt8} {w w' : World} (h : okB l = false) (hb : Below w.heap.size w w') {a : Option Addr} {cap : Nat} (hown : w'.ownsRow w.heap.size 9 1 (.slice a 0 cap) 0 []) :
    SplOut l w (.returned (.tuple #[.slice a 0 cap, .bool false])) w' := by
  refine ⟨a, 0, cap, by rw [h], ?_, hb⟩
  rw [fieldsR_bad h]; exact hown
theorem out_good {l : List UInt8} {w w' : World} (h : okB l = true) (hb : Below w.heap.size w w') {a : Option Addr} {n cap : Nat} (hown : w'.ownsRow w.heap.size 9 1 (.slice a n cap) (fieldsOf l).length (strCells (fieldsOf l))) :
    SplOut l w (.returned (.tuple #[.slice a n cap, .bool true])) w' := by
  refine ⟨a, n, cap, by rw [h], ?_, hb⟩
  rw [fieldsR_good h]; exact hown

theorem own_form {w : World} {base : Nat} {e : TypeId} {v : Value} {m : Nat} {xs : List Value} (h : w.ownsRow base e 1 v m xs) : ∃ a cap, v = .slice a m cap := by
  rcases h.2 with ⟨h1, h2⟩ | ⟨g, c, cur, h1, _⟩
  · exact ⟨none, 0, by rw [h1, h2]⟩
  · exact ⟨_, c, h1⟩

theorem part_str (s : ByteArray) (b k : Nat) : s.extract b k = ⟨((s.data.toList.drop b).take (k - b)).toArray⟩ := by
  apply ByteArray.ext
  rw [ByteArray.data_extract]
  apply Array.ext'
  rw [Array.toList_extract, List.extract_eq_take_drop]
theorem own_ne {w : World} {b1 b2 : Nat} {e1 e2 : TypeId} {s1 s2 : Nat} {v1 v2 : Value} {n1 n2 : Nat} {x1 x2 : List Value} (h1 : w.ownsRow b1 e1 s1 v1 n1 x1) (h2 : w.ownsRow b2 e2 s2 v2 n2 x2) (he : e1 ≠ e2) :
    v1.ownBlock = none ∨ v1.ownBlock ≠ v2.ownBlock := by
  rcases h1.2 with ⟨rfl, _⟩ | ⟨g, c, cur, rfl, _, hg, _⟩
  · exact .inl rfl
  · right
    rcases h2.2 with ⟨rfl, _⟩ | ⟨g', c', cur', rfl, _, hg', _⟩
    · simp [Value.ownBlock]
    · simp only [Value.ownBlock]
      intro e
      injection e with e
      subst e
      rw [hg] at hg'
      injection hg' with hg'
      injection hg' with _ h _
      exact he h
theorem own_cut {w : World} {base : Nat} {e : TypeId} {g n m cap : Nat} {xs : List Value} (h : w.ownsRow base e 1 (.slice (some ⟨g, 0, none⟩) n cap) m xs) : w.ownsRow base e 1 (.slice (some ⟨g, 0, none⟩) 0 cap) 0 [] := by
  rcases h.2 with ⟨h1, _⟩ | ⟨g', c, cur, h1, hb, hg, hn, hm, hs, _⟩
  · injection h1 with h1; cases h1
  · injection h1 with h1 h2 h3
    injection h1 with h1; injection h1 with h1
    subst h1; subst h3
    exact ⟨rfl, .inr ⟨g, cap, cur, rfl, hb, hg, Nat.zero_le _, hm, hs, rfl⟩⟩
theorem mem_of (s : ByteArray) (k : Nat) (h : k < s.size) : s[k] ∈ s.data.toList := by
  have : s.data.toList[k]'(by simpa using h) = s[k] := rfl
  rw [← this]; exact List.getElem_mem _
theorem cells_push (F : List (List UInt8)) (f : List UInt8) : strCells F ++ [Value.string ⟨f.toArray⟩] = strCells (F ++ [f]) := by rw [strCells_snoc]
theorem byte_push (cur : List UInt8) (c : UInt8) : Lib.byteCells cur ++ [Value.int .u8 (c.toNat : Int)] = Lib.byteCells (cur ++ [c]) := by rw [byteCells_app]; rfl
theorem cells_next (s : ByteArray) (b k : Nat) (F : List (List UInt8)) : strCells F ++ [Value.string (s.extract b k)] = strCells (F ++ [(s.data.toList.drop b).take (k - b)]) := by
  rw [strCells_snoc, part_str]
theorem len_next (F : List (List UInt8)) (f : List UInt8) : (F ++ [f]).length = F.length + 1 := by simp
end Go.Proofs.YtpipnhceajdfkaaGreatDoor.spl

/- The walk of the model's splitter. -/
namespace Go.Proofs.YtpipnhceajdfkaaGreatDoor.spl
open Go.ChangeShapes Go.WideShapes Go.ChangeAt Go.RowKit Go.Proofs.YtpipnhceajdfkaaGreatDoor.byt

set_option maxHeartbeats 2000000 in
set_option maxRecDepth 100000 in
theorem spec_spl (s : ByteArray) (hs : (s.size : Int) ≤ 600) (w : World) :
    Calls Tryz.prog 43 #[.string s] w (SplOut s.data.toList w) := by
  obtain ⟨i0, hi, hz0, hz1, hz2⟩ := info_parts infoStr
  have hsl : s.data.toList.length = s.size := Array.length_toList
  have HSL := Lib.hid hsl
  clear hsl
  go_enter Tryz.func43, Tryz.ntmps43
  go_wp2
  go_loopw [4, 5, 6] (fun v b i wr => ∃ (k bb : Nat) (F : List (List UInt8)), k ≤ s.size + 1 ∧ i = .int .i64 k ∧ b = .int .i64 bb ∧ bb ≤ k ∧ Hid (Scan s.data.toList k bb F) ∧ wr.ownsRow w.heap.size 9 1 v F.length (strCells F) ∧ Below w.heap.size w wr) (fun _ _ i _ => s.size + 1 - (intOf i).toNat)
  case atStart => exact ⟨0, 0, [], Nat.zero_le _, rfl, rfl, Nat.le_refl _, scan_start _, World.ownsRow_made w #[] 0 (Nat.le_refl _) (by decide) rfl, (Below.refl _ _).alloc (Nat.le_refl _) _⟩
  case round =>
    obtain ⟨k, b, F, hk, rfl, rfl, hbk, hS, hown, hbel⟩ := hrel
    have hb2 := hbel.size
    have hF := scan_len hS.out
    have hF2 : (F.length : Int) ≤ 600 := by have := HSL.out; omega
    clear hF
    by_cases hlt : k < s.size
    · have hmem := Lib.hid (mem_of s k hlt)
      have hkl : k < s.data.toList.length := by rw [HSL.out]; exact hlt
      have hkI : (k : Int) < s.size := by omega
      have hc1 : (s[k].toNat : Int) < 256 := by have := s[k].toNat_lt; omega
      rcases (show (s[k].toNat : Int) < 32 ∨ (32 ≤ (s[k].toNat : Int) ∧ 126 < (s[k].toNat : Int)) ∨ ((33 ≤ (s[k].toNat : Int) ∧ (s[k].toNat : Int) ≤ 126) ∨ (32 ≤ (s[k].toNat : Int) ∧ (s[k].toNat : Int) ≤ 32)) by omega) with h | ⟨h, h'⟩ | ⟨h, h'⟩ | ⟨h, h'⟩
      · have HB := Lib.hid (bad_byte hmem.out (by omega))
        have HO := Lib.hid (World.ownsRow_made (base := w.heap.size) (e := 9) (size := 1) wr #[] 0 hb2 (by decide) rfl)
        clear hown
        go_wp2
        go_ret2
        exact out_bad HB.out (hbel.alloc hb2 _) HO.out
      · have HB := Lib.hid (bad_byte hmem.out (by omega))
        have HO := Lib.hid (World.ownsRow_made (base := w.heap.size) (e := 9) (size := 1) wr #[] 0 hb2 (by decide) rfl)
        clear hown
        go_wp2
        go_ret2
        exact out_bad HB.out (hbel.alloc hb2 _) HO.out
      · have HSC := Lib.hid (scan_on hS.out hkl hbk (by have : s.data.toList[k] = s[k] := rfl; rw [this]; omega) (by have : s.data.toList[k] = s[k] := rfl; rw [this]; intro e; rw [e] at h; simp at h))
        have HO := Lib.hid hown
        clear hown
        go_wp2
        go_roundw
        case rel => exact ⟨k + 1, b, F, by omega, by go_num, rfl, by omega, HSC, HO.out, hbel⟩
        case measure => simp [intOf]; omega
      · have hc32 : s.data.toList[k] = 32 := by
          have e : s.data.toList[k] = s[k] := rfl
          rw [e]; apply UInt8.toNat.inj; show s[k].toNat = 32; omega
        rcases Nat.lt_or_ge b k with hbl | hbg
        · have HSC := Lib.hid (scan_cut hS.out hkl hbl hc32)
          have hbI : (b : Int) < k := by omega
          clear hc32
          go_wp2_with (at_builtin; refine wpList_append_own _ rfl _ _ 47 rfl w.heap.size 9 i0 (.string ByteArray.empty) 1 16 Tryz.underlying47 hi hz0 hz1 hz2 rfl (by decide) _ _ _ rfl (hown.alloc _) ⟨wr.heap.size, 0, none⟩ 1 1 [.string (s.extract b k)] rfl rfl (World.news_of_block (cs := #[.string (s.extract b k)]) (t := 9) (fr := (0, 0)) (heap_alloc_new wr _)) (by simp [Value.oneCell']) (by unfold maxLen; omega) (by omega) (by simp; omega) ?_; intro v2 w2 hown2 hgrow2 _; refine Hid.out ?_)
          have hbel2 : Below w.heap.size w w2 := (hbel.alloc hb2 _).grown hgrow2 (by simp; omega) (fun j hj => (hown.lt j hj).1)
          rw [cells_next] at hown2
          have HO := Lib.hid hown2
          clear hown2 hgrow2 hown
          refine Lib.hid ?_
          go_wp2
          go_roundw
          case rel => exact ⟨k + 1, k + 1, _, by omega, by go_num, by go_num, Nat.le_refl _, HSC, by rw [len_next]; exact HO.out, hbel2⟩
          case measure => simp [intOf]; omega
        · obtain rfl : b = k := by omega
          have HSC := Lib.hid (scan_space hS.out hkl hc32)
          have HO := Lib.hid hown
          clear hown hc32
          go_wp2
          go_roundw
          case rel => exact ⟨b + 1, b + 1, F, by omega, by go_num, by go_num, Nat.le_refl _, HSC, HO.out, hbel⟩
          case measure => simp [intOf]; omega
    · rcases Nat.lt_or_ge s.size k with hgt | hle
      · have hgI : (s.size : Int) < k := by omega
        obtain ⟨a, cap, rfl⟩ := own_form hown
        have HFE := Lib.hid (hS.out.2.1 (by rw [HSL.out]; exact hgt))
        have HAL := Lib.hid hS.out.2.2
        by_cases h24 : (24 : Int) < F.length
        · have HB := Lib.hid (bad_many (l := s.data.toList) (by rw [← HFE.out]; omega))
          have HO := Lib.hid (World.ownsRow_made (base := w.heap.size) (e := 9) (size := 1) wr #[] 0 hb2 (by decide) rfl)
          clear hown
          go_wp2
          go_ret2
          exact out_bad HB.out (hbel.alloc hb2 _) HO.out
        · have HG := Lib.hid (good (l := s.data.toList) (by rw [HSL.out]; omega) (by have := HAL.out; rw [List.take_of_length_le (by rw [HSL.out]; omega)] at this; exact this) (by rw [← HFE.out]; omega))
          have HO := Lib.hid hown
          clear hown
          go_wp2
          go_ret2
          exact out_good HG.out hbel (by rw [← HFE.out]; exact HO.out)
      · have hkl : k = s.data.toList.length := by rw [HSL.out]; omega
        have hkI : (k : Int) ≤ s.size := by omega
        have hkJ : (s.size : Int) ≤ k := by omega
        rcases Nat.lt_or_ge b k with hbl | hbg
        · have HSC := Lib.hid (scan_last hS.out hkl hbl)
          have hbI : (b : Int) < k := by omega
          clear hkl
          go_wp2_with (at_builtin; refine wpList_append_own _ rfl _ _ 47 rfl w.heap.size 9 i0 (.string ByteArray.empty) 1 16 Tryz.underlying47 hi hz0 hz1 hz2 rfl (by decide) _ _ _ rfl (hown.alloc _) ⟨wr.heap.size, 0, none⟩ 1 1 [.string (s.extract b k)] rfl rfl (World.news_of_block (cs := #[.string (s.extract b k)]) (t := 9) (fr := (0, 0)) (heap_alloc_new wr _)) (by simp [Value.oneCell']) (by unfold maxLen; omega) (by omega) (by simp; omega) ?_; intro v2 w2 hown2 hgrow2 _; refine Hid.out ?_)
          have hbel2 : Below w.heap.size w w2 := (hbel.alloc hb2 _).grown hgrow2 (by simp; omega) (fun j hj => (hown.lt j hj).1)
          rw [cells_next] at hown2
          have HO := Lib.hid hown2
          clear hown2 hgrow2 hown
          refine Lib.hid ?_
          go_wp2
          go_roundw
          case rel => exact ⟨k + 1, k + 1, _, by omega, by go_num, by go_num, Nat.le_refl _, HSC, by rw [len_next]; exact HO.out, hbel2⟩
          case measure => simp [intOf]; omega
        · have HSC := Lib.hid (scan_end hS.out hkl (by omega))
          have HO := Lib.hid hown
          have hbI : ¬ (b : Int) < k := by omega
          clear hown hkl
          go_wp2
          go_roundw
          case rel => exact ⟨k + 1, k + 1, F, by omega, by go_num, by go_num, Nat.le_refl _, HSC, HO.out, hbel⟩
          case measure => simp [intOf]; omega
end Go.Proofs.YtpipnhceajdfkaaGreatDoor.spl
