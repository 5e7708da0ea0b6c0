/- Several texts in one: Itoa PuW SplB. -/
import Derived.Test.YtpipnhceajdfkaaDoorGEptx34
import Derived.Test.YtpipnhceajdfkaaDoorShelf
import Derived.Lib.AppendIntMem
import Derived.WalkKit
import Derived.ProofKit
import Derived.Test.YtpipnhceajdfkaaDoorGEptx31
import Derived.WalkSmall
import Derived.Test.YtpipnhceajdfkaaDoorGEptx33
import Derived.Test.YtpipnhceajdfkaaDoorGEptx29
import Derived.Deep.AppendLies
import Derived.Laws.OwnMore

/- The program's own FormatInt: it is the numeral. -/
namespace Go.Proofs.YtpipnhceajdfkaaDoor.lay
open Go Go.RowKit

theorem impl_fmt (n : Int) (hn0 : -9223372036854775808 ≤ n) (hn1 : n ≤ 9223372036854775807) (w : World) (hT : Lib.TabIs Tryd.prog w "internal/strconv.uint64pow10" .u64 Lib.pow10Tab) :
    Calls Tryd.prog 51 #[.int .i64 n] w fun e w' => e = .returned (.string ⟨(Lib.itoa n).toArray⟩) ∧ Below w.heap.size w w' := by
  have HT := Lib.hid hT
  have H0 := Lib.hid hn0
  have H1 := Lib.hid hn1
  clear hT hn0 hn1
  go_enter Tryd.func51, Tryd.ntmps51
  go_wp2_with (go_at_call 68; refine (Tryd.strconv_Itoa n H0.out H1.out _ HT.out).mono ?_; rintro e w1 ⟨rfl, k, os, rfl⟩)
  go_ret
  exact ⟨rfl, Lib.below_grow _ _ (Nat.le_refl _) _ _⟩
end Go.Proofs.YtpipnhceajdfkaaDoor.lay

/- The walks of the two parsers of decimal text: both end as they must. -/
namespace Go.Proofs.YtpipnhceajdfkaaDoor.pu
open Go Go.ChangeShapes Go.WideShapes Go.ChangeAt Go.RowKit Go.Proofs.YtpipnhceajdfkaaDoor.byt Go.Proofs.YtpipnhceajdfkaaDoor.dec Go.Proofs.YtpipnhceajdfkaaDoor.lay

theorem fmt_zero (w : World) : Calls Tryd.prog 33 #[.int .i64 0] w fun e w' => e = .returned (.string ⟨(Lib.itoa 0).toArray⟩) ∧ Below w.heap.size w w' := by
  have H := Lib.hid itoa_zero
  go_enter Tryd.func33, Tryd.ntmps33
  go_wp2
  go_ret
  exact ⟨by rw [H.out]; rfl, Below.refl _ _⟩
theorem fmt_any (n : Int) (hn0 : -9223372036854775808 ≤ n) (hn1 : n ≤ 9223372036854775807) (w : World) :
    Calls Tryd.prog 33 #[.int .i64 n] w fun e w' => e = .returned (.string ⟨(Lib.itoa n).toArray⟩) ∧ Below w.heap.size w w' := by
  by_cases h : n = 0
  · subst h; exact fmt_zero w
  · exact spec_fmt n hn0 hn1 h w

/-- What a parser hands back. -/
def PuOut (l : List UInt8) (w : World) (e : Ending) (w' : World) : Prop := ∃ (v : Int) (b : Bool), e = .returned (.tuple #[.int .i64 v, .bool b]) ∧ IsPu l v b ∧ Below w.heap.size w w'

theorem text_ne {l : List UInt8} {s : ByteArray} (h : (!l == s.toList) = true) : l ≠ s.data.toList := by
  rw [ByteArray.toList_eq] at h; simpa using h
theorem text_eq {l : List UInt8} {s : ByteArray} (h : (!l == s.toList) = false) : l = s.data.toList := by
  rw [ByteArray.toList_eq] at h; simpa using h
theorem val_take (s : ByteArray) (k : Nat) (h : k < s.size) : val (s.data.toList.take (k + 1)) = 10 * val (s.data.toList.take k) + (s[k].toNat - 48) := by
  rw [take_snoc s k h, val_snoc]
theorem mem_at (s : ByteArray) (k : Nat) (h : k < s.size) : s[k] ∈ s.data.toList := by
  have : s.data.toList[k]'(by simpa using h) = s[k] := rfl
  rw [← this]; exact List.getElem_mem _
theorem val_lt : ∀ (l : List UInt8), (∀ c ∈ l, isDig c) → val l < 10 ^ l.length := by
  have h2 : ∀ (l : List UInt8) (acc : Nat), allDig l → l.foldl (fun a c => 10 * a + (c.toNat - 48)) acc < (acc + 1) * 10 ^ l.length := by
    intro l
    induction l with
    | nil => intro acc _; simp
    | cons x t ih =>
      intro acc hx
      have h0 := hx x (by simp)
      unfold isDig at h0
      have := ih (10 * acc + (x.toNat - 48)) (fun y hy => hx y (by simp [hy]))
      rw [List.foldl_cons, List.length_cons, Nat.pow_succ]
      refine Nat.lt_of_lt_of_le this ?_
      refine Nat.le_trans (Nat.mul_le_mul_right _ (show 10 * acc + (x.toNat - 48) + 1 ≤ (acc + 1) * 10 by omega)) ?_
      rw [Nat.mul_assoc, Nat.mul_comm 10]; exact Nat.le_refl _
  intro l hd
  have h3 := h2 l 0 hd
  rw [Nat.zero_add, Nat.one_mul] at h3
  exact h3
theorem val_ten {l : List UInt8} (hd : allDig l) (hl : l.length ≤ 10) : (val l : Int) < 10000000000 := by
  have h := val_lt l hd
  have h4 : (10 : Nat) ^ l.length ≤ 10 ^ 10 := Nat.pow_le_pow_right (by omega) hl
  have h5 : (10 : Nat) ^ 10 = 10000000000 := by decide
  omega
theorem allDig_step {s : ByteArray} {k : Nat} (h : k < s.size) (hd : allDig (s.data.toList.take k)) (hc : isDig s[k]) : allDig (s.data.toList.take (k + 1)) := by
  rw [take_snoc s k h]
  intro c hm
  rcases List.mem_append.1 hm with hm | hm
  · exact hd c hm
  · rw [List.mem_singleton] at hm; subst hm; exact hc

end Go.Proofs.YtpipnhceajdfkaaDoor.pu

/- What a splitter hands back, and the laws of a row of strings. -/
namespace Go.Proofs.YtpipnhceajdfkaaDoor.spl
open Go.ChangeShapes Go.WideShapes Go.ChangeAt Go.RowKit Go.Proofs.YtpipnhceajdfkaaDoor.byt

theorem infoStr : (Tryd.prog.info? 9).map (fun i => (i.zero, i.size, i.bytes)) = some (some (.string ByteArray.empty), 1, 16) := by kernel_rfl

/-- What a splitter hands back: the fields, in a row of its own, and whether the line is one. -/
def SplOut (l : List UInt8) (w : World) (e : Ending) (w' : World) : Prop :=
  ∃ (a : Option Addr) (n cap : Nat), e = .returned (.tuple #[.slice a n cap, .bool (okB l)]) ∧ w'.ownsRow w.heap.size 9 1 (.slice a n cap) (fieldsR l).length (strCells (fieldsR l)) ∧ Below w.heap.size w w'

theorem own_len {w : World} {base : Nat} {e : TypeId} {a : Option Addr} {n cap m : Nat} {xs : List Value} (h : w.ownsRow base e 1 (.slice a n cap) m xs) : n = m := by
  rcases h.2 with ⟨h1, h2⟩ | ⟨g, c, cur, h1, _⟩
  · injection h1 with _ h3 _; omega
  · injection h1

theorem out_bad {l : List UInt8} {w w' : World} (h : okB l = false) (hb : Below w.heap.size w w') {a : Option Addr} {cap : Nat} (hown : w'.ownsRow w.heap.size 9 1 (.slice a 0 cap) 0 []) :
    SplOut l w (.returned (.tuple #[.slice a 0 cap, .bool false])) w' := by
  refine ⟨a, 0, cap, by rw [h], ?_, hb⟩
  rw [fieldsR_bad h]; exact hown
theorem out_good {l : List UInt8} {w w' : World} (h : okB l = true) (hb : Below w.heap.size w w') {a : Option Addr} {n cap : Nat} (hown : w'.ownsRow w.heap.size 9 1 (.slice a n cap) (fieldsOf l).length (strCells (fieldsOf l))) :
    SplOut l w (.returned (.tuple #[.slice a n cap, .bool true])) w' := by
  refine ⟨a, n, cap, by rw [h], ?_, hb⟩
  rw [fieldsR_good h]; exact hown

theorem own_form {w : World} {base : Nat} {e : TypeId} {v : Value} {m : Nat} {xs : List Value} (h : w.ownsRow base e 1 v m xs) : ∃ a cap, v = .slice a m cap := by
  rcases h.2 with ⟨h1, h2⟩ | ⟨g, c, cur, h1, _⟩
  · exact ⟨none, 0, by rw [h1, h2]⟩
  · exact ⟨_, c, h1⟩

theorem part_str (s : ByteArray) (b k : Nat) : s.extract b k = ⟨((s.data.toList.drop b).take (k - b)).toArray⟩ := by
  apply ByteArray.ext
  rw [ByteArray.data_extract]
  apply Array.ext'
  rw [Array.toList_extract, List.extract_eq_take_drop]
theorem own_ne {w : World} {b1 b2 : Nat} {e1 e2 : TypeId} {s1 s2 : Nat} {v1 v2 : Value} {n1 n2 : Nat} {x1 x2 : List Value} (h1 : w.ownsRow b1 e1 s1 v1 n1 x1) (h2 : w.ownsRow b2 e2 s2 v2 n2 x2) (he : e1 ≠ e2) :
    v1.ownBlock = none ∨ v1.ownBlock ≠ v2.ownBlock := by
  rcases h1.2 with ⟨rfl, _⟩ | ⟨g, c, cur, rfl, _, hg, _⟩
  · exact .inl rfl
  · right
    rcases h2.2 with ⟨rfl, _⟩ | ⟨g', c', cur', rfl, _, hg', _⟩
    · simp [Value.ownBlock]
    · simp only [Value.ownBlock]
      intro e
      injection e with e
      subst e
      rw [hg] at hg'
      injection hg' with hg'
      injection hg' with _ h _
      exact he h
theorem own_cut {w : World} {base : Nat} {e : TypeId} {g n m cap : Nat} {xs : List Value} (h : w.ownsRow base e 1 (.slice (some ⟨g, 0, none⟩) n cap) m xs) : w.ownsRow base e 1 (.slice (some ⟨g, 0, none⟩) 0 cap) 0 [] := by
  rcases h.2 with ⟨h1, _⟩ | ⟨g', c, cur, h1, hb, hg, hn, hm, hs, _⟩
  · injection h1 with h1; cases h1
  · injection h1 with h1 h2 h3
    injection h1 with h1; injection h1 with h1
    subst h1; subst h3
    exact ⟨rfl, .inr ⟨g, cap, cur, rfl, hb, hg, Nat.zero_le _, hm, hs, rfl⟩⟩
theorem mem_of (s : ByteArray) (k : Nat) (h : k < s.size) : s[k] ∈ s.data.toList := by
  have : s.data.toList[k]'(by simpa using h) = s[k] := rfl
  rw [← this]; exact List.getElem_mem _
theorem cells_push (F : List (List UInt8)) (f : List UInt8) : strCells F ++ [Value.string ⟨f.toArray⟩] = strCells (F ++ [f]) := by rw [strCells_snoc]
theorem byte_push (cur : List UInt8) (c : UInt8) : Lib.byteCells cur ++ [Value.int .u8 (c.toNat : Int)] = Lib.byteCells (cur ++ [c]) := by rw [byteCells_app]; rfl
theorem cells_next (s : ByteArray) (b k : Nat) (F : List (List UInt8)) : strCells F ++ [Value.string (s.extract b k)] = strCells (F ++ [(s.data.toList.drop b).take (k - b)]) := by
  rw [strCells_snoc, part_str]
theorem len_next (F : List (List UInt8)) (f : List UInt8) : (F ++ [f]).length = F.length + 1 := by simp
end Go.Proofs.YtpipnhceajdfkaaDoor.spl
