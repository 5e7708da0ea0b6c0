/- The walks of the two decoders: both return what the text decodes to. -/
import Derived.Test.YtmdpdfdiknfopaaBytes
import Derived.Test.YtmdpdfdiknfopaaDecA
import Derived.Laws.BitsLemmas
import Derived.Deep.AppendLies
namespace Go.Proofs.Ytmdpdfdiknfopaa.hex
open Go.ChangeShapes Go.WideShapes Go.ChangeAt Go.RowKit Go.Proofs.Ytmdpdfdiknfopaa.byt

theorem ret_v {k : IntKind} {a b : Int} (h : a = b) : Ending.returned (.int k a) = .returned (.int k b) := by rw [h]
theorem ret_tb {k : IntKind} {a b : Int} {c : Bool} (h : a = b) : Ending.returned (.tuple #[.int k a, .bool c]) = .returned (.tuple #[.int k b, .bool c]) := by rw [h]

theorem val_any (x : Int) (w : World) (h0 : 0 ≤ x) (h1 : x < 256) :
    Calls Try.prog 26 #[.int .u8 x] w fun e w' => e = .returned (.int .i64 (hv x)) ∧ w = w' := by
  rcases (show x < 48 ∨ (48 ≤ x ∧ x ≤ 57) ∨ (57 < x ∧ x < 97) ∨ (97 ≤ x ∧ x ≤ 102) ∨ 102 < x by omega) with h | ⟨h, h'⟩ | ⟨h, h'⟩ | ⟨h, h'⟩ | h
  · have H := Lib.hid (hv_no (Or.inl h))
    go_enter Try.func26, Try.ntmps26
    go_wp2
    go_ret
    exact ⟨ret_v H.out.symm, rfl⟩
  · have H := Lib.hid (hv_num h h')
    go_enter Try.func26, Try.ntmps26
    go_wp2
    go_ret
    exact ⟨ret_v H.out.symm, rfl⟩
  · have H := Lib.hid (hv_no (Or.inr (Or.inl ⟨h, h'⟩)))
    go_enter Try.func26, Try.ntmps26
    go_wp2
    go_ret
    exact ⟨ret_v H.out.symm, rfl⟩
  · have H := Lib.hid (hv_let h h')
    go_enter Try.func26, Try.ntmps26
    go_wp2
    go_ret
    exact ⟨ret_v (by rw [H.out]; omega), rfl⟩
  · have H := Lib.hid (hv_no (Or.inr (Or.inr h)))
    go_enter Try.func26, Try.ntmps26
    go_wp2
    go_ret
    exact ⟨ret_v H.out.symm, rfl⟩

theorem hex_yes (x : Int) (w : World) (h0 : 0 ≤ x) (h1 : x < 256) (hy : 0 ≤ hv x) :
    Calls Try.prog 27 #[.int .u8 x] w fun e w' => e = .returned (.tuple #[.int .u8 (hv x), .bool true]) ∧ w = w' := by
  rcases (show x < 48 ∨ (48 ≤ x ∧ x ≤ 57) ∨ (57 < x ∧ x < 97) ∨ (97 ≤ x ∧ x ≤ 102) ∨ 102 < x by omega) with h | ⟨h, h'⟩ | ⟨h, h'⟩ | ⟨h, h'⟩ | h
  · rw [hv_no (Or.inl h)] at hy; omega
  · have H := Lib.hid (hv_num h h')
    clear hy
    go_enter Try.func27, Try.ntmps27
    go_wp2
    go_ret2
    exact ⟨ret_tb H.out.symm, rfl⟩
  · rw [hv_no (Or.inr (Or.inl ⟨h, h'⟩))] at hy; omega
  · have H := Lib.hid (hv_let h h')
    clear hy
    go_enter Try.func27, Try.ntmps27
    go_wp2
    go_ret2
    exact ⟨ret_tb (by rw [H.out]; omega), rfl⟩
  · rw [hv_no (Or.inr (Or.inr h))] at hy; omega

theorem hex_no (x : Int) (w : World) (h0 : 0 ≤ x) (h1 : x < 256) (hy : hv x < 0) :
    Calls Try.prog 27 #[.int .u8 x] w fun e w' => e = .returned (.tuple #[.int .u8 0, .bool false]) ∧ w = w' := by
  rcases (show x < 48 ∨ (48 ≤ x ∧ x ≤ 57) ∨ (57 < x ∧ x < 97) ∨ (97 ≤ x ∧ x ≤ 102) ∨ 102 < x by omega) with h | ⟨h, h'⟩ | ⟨h, h'⟩ | ⟨h, h'⟩ | h
  · clear hy
    go_enter Try.func27, Try.ntmps27
    go_wp2
    go_ret2
    exact ⟨rfl, rfl⟩
  · rw [hv_num h h'] at hy; omega
  · clear hy
    go_enter Try.func27, Try.ntmps27
    go_wp2
    go_ret2
    exact ⟨rfl, rfl⟩
  · rw [hv_let h h'] at hy; omega
  · clear hy
    go_enter Try.func27, Try.ntmps27
    go_wp2
    go_ret2
    exact ⟨rfl, rfl⟩

/-- What a decoder hands back. -/
def DecOut (s : ByteArray) (w : World) (e : Ending) (w' : World) : Prop :=
  e = .returned (.tuple #[.string ⟨(decS s.data.toList).toArray⟩, .bool (decB s.data.toList)]) ∧ Below w.heap.size w w'

theorem decOut_bad {s : ByteArray} {w w' : World} {j : Nat} {acc : List UInt8} (h : Upto s.data.toList j acc) (hj : j + 1 < s.size) (h0 : ¬ (0 ≤ hv (s[j].toNat) ∧ 0 ≤ hv (s[j + 1].toNat))) (hb : Below w.heap.size w w') :
    DecOut s w (.returned (.tuple #[.string ByteArray.empty, .bool false])) w' := by
  obtain ⟨e1, e2⟩ := upto_bad h (by simpa using hj) h0
  unfold DecOut
  rw [e1, e2]
  exact ⟨rfl, hb⟩

theorem decOut_end {s : ByteArray} {w w' : World} {j : Nat} {acc : List UInt8} (h : Upto s.data.toList j acc) (hj : s.size ≤ j) (hb : Below w.heap.size w w') :
    DecOut s w (.returned (.tuple #[.string ⟨acc.toArray⟩, .bool true])) w' := by
  obtain ⟨e1, e2⟩ := upto_end h (by simpa using hj)
  unfold DecOut
  rw [e1, e2]
  exact ⟨rfl, hb⟩

theorem cells_step {s : ByteArray} {j : Nat} (acc : List UInt8) (hj : j + 1 < s.size) (h0 : 0 ≤ hv (s[j].toNat)) (h1 : 0 ≤ hv (s[j + 1].toNat)) :
    Lib.byteCells (acc ++ [join s[j] s[j + 1]]) = Lib.byteCells acc ++ [Value.int .u8 (16 * hv (s[j].toNat) + hv (s[j + 1].toNat))] := by
  rw [byteCells_app]
  congr 1
  simp only [Lib.byteCells, List.map_cons, List.map_nil]
  rw [join_toNat _ _ h0 h1]

theorem step_up {s : ByteArray} {j : Nat} {acc : List UInt8} (h : Upto s.data.toList j acc) (hj : j + 1 < s.size) (h0 : 0 ≤ hv (s[j].toNat)) (h1 : 0 ≤ hv (s[j + 1].toNat)) :
    Upto s.data.toList (j + 2) (acc ++ [join s[j] s[j + 1]]) := upto_step h (by simpa using hj) h0 h1

set_option maxHeartbeats 1000000 in
set_option maxRecDepth 100000 in
theorem spec_dec (s : ByteArray) (hs : (s.size : Int) ≤ 40000) (he : (s.size : Int) % 2 = 0) (w : World) :
    Calls Try.prog 13 #[.string s] w (DecOut s w) := by
  obtain ⟨i0, hi, hz0, hz1, hz2⟩ := info_parts infoByte
  have HE := Lib.hid he
  have he' : ((s.size : Int) % 2 != 0) = false := by simp [he]
  clear he
  go_enter Try.func13, Try.ntmps13
  go_wp2
  go_outline
  go_loopw [4, 5] (fun v i wr => ∃ (j : Nat) (acc : List UInt8), j ≤ s.size ∧ i = .int .i64 j ∧ Hid (Upto s.data.toList j acc) ∧ wr.ownsRow w.heap.size 5 1 v acc.length (Lib.byteCells acc) ∧ Below w.heap.size w wr) (fun _ i _ => s.size - (intOf i).toNat)
  case atStart => exact ⟨0, [], Nat.zero_le _, rfl, upto_zero _, World.ownsRow_made w #[] 0 (Nat.le_refl _) (by decide) rfl, (Below.refl _ _).alloc (Nat.le_refl _) _⟩
  case round =>
    obtain ⟨j, acc, hj, rfl, hU, hown, hbel⟩ := hrel
    have hacc : 2 * acc.length = j := hU.out.2
    have hA0 : (acc.length : Int) ≤ 20000 := by omega
    by_cases hlt : j < s.size
    · have hj2 : j + 1 < s.size := by have := HE.out; omega
      have hx := (hv_bd (s[j].toNat)).2
      have hy := (hv_bd (s[j + 1].toNat)).2
      have ha0 : (s[j].toNat : Int) < 256 := by have := s[j].toNat_lt; omega
      have hb0 : (s[j + 1].toNat : Int) < 256 := by have := s[j + 1].toNat_lt; omega
      clear hacc
      by_cases h0 : 0 ≤ hv (s[j].toNat)
      · by_cases h1 : 0 ≤ hv (s[j + 1].toNat)
        · have hb2 := hbel.size
          go_wp2_with (first
            | (go_at_call 26; refine (val_any _ _ (by omega) (by omega)).mono ?_; rintro e w' ⟨rfl, rfl⟩)
            | (at_builtin; refine wpList_append_own _ rfl _ _ 22 rfl w.heap.size 5 i0 (.int .u8 0) 1 1 Try.underlying22 hi hz0 hz1 hz2 rfl (by decide) _ _ _ rfl (hown.alloc _) ⟨wr.heap.size, 0, none⟩ 1 1 [.int .u8 (16 * hv (s[j].toNat) + hv (s[j + 1].toNat))] rfl rfl (World.news_of_block (cs := #[.int .u8 (16 * hv (s[j].toNat) + hv (s[j + 1].toNat))]) (t := 5) (fr := (0, 0)) (heap_alloc_new wr _)) (by simp [Value.oneCell']) (by unfold maxLen; omega) (by omega) (by simp; omega) ?_; intro v1 w1 hown1 hgrow1 _))
          have hbel1 : Below w.heap.size w w1 := (hbel.alloc hb2 _).grown hgrow1 (by simp; omega) (fun j hj => (hown.lt j hj).1)
          have hU1 := step_up hU.out hj2 h0 h1
          clear hown
          go_roundw
          case rel => exact ⟨j + 2, _, by omega, by go_num, hU1, by rw [cells_step acc hj2 h0 h1]; simpa using hown1, hbel1⟩
          case measure => simp [intOf]; omega
        · have HBAD := Lib.hid (decOut_bad (w := w) (w' := wr) hU.out hj2 (fun h => h1 h.2) hbel)
          have h1' : hv (s[j + 1].toNat) < 0 := by omega
          clear h1 hown
          go_wp2_with (go_at_call 26; refine (val_any _ _ (by omega) (by omega)).mono ?_; rintro e w' ⟨rfl, rfl⟩)
          go_ret2
          exact HBAD.out
      · have HBAD := Lib.hid (decOut_bad (w := w) (w' := wr) hU.out hj2 (fun h => h0 h.1) hbel)
        have h0' : hv (s[j].toNat) < 0 := by omega
        clear h0 hown
        by_cases h1 : hv (s[j + 1].toNat) < 0
        all_goals
          go_wp2_with (go_at_call 26; refine (val_any _ _ (by omega) (by omega)).mono ?_; rintro e w' ⟨rfl, rfl⟩)
          go_ret2
          exact HBAD.out
    · have hE := decOut_end (w := w) (w' := wr) hU.out (by omega) hbel
      have hcv := conv_own hown
      have HEND := Lib.hid hE
      clear hE
      go_wp2
      go_ret2
      exact HEND.out
end Go.Proofs.Ytmdpdfdiknfopaa.hex
