/- What a splitter hands back, and the laws of a row of strings. -/
import Derived.Test.YtpipnhceajdfkaaDoorBytes
import Derived.Test.YtpipnhceajdfkaaDoorSplA
import Derived.Deep.AppendLies
import Derived.Laws.OwnMore
namespace Go.Proofs.YtpipnhceajdfkaaDoor.spl
open Go.ChangeShapes Go.WideShapes Go.ChangeAt Go.RowKit Go.Proofs.YtpipnhceajdfkaaDoor.byt

theorem infoStr : (Tryd.prog.info? 9).map (fun i => (i.zero, i.size, i.bytes)) = some (some (.string ByteArray.empty), 1, 16) := by kernel_rfl

/-- What a splitter hands back: the fields, in a row of its own, and whether the line is one. -/
def SplOut (l : List UInt8) (w : World) (e : Ending) (w' : World) : Prop :=
  ∃ (a : Option Addr) (n cap : Nat), e = .returned (.tuple #[.slice a n cap, .bool (okB l)]) ∧ w'.ownsRow w.heap.size 9 1 (.slice a n cap) (fieldsR l).length (strCells (fieldsR l)) ∧ Below w.heap.size w w'

theorem own_len {w : World} {base : Nat} {e : TypeId} {a : Option Addr} {n cap m : Nat} {xs : List Value} (h : w.ownsRow base e 1 (.slice a n cap) m xs) : n = m := by
  rcases h.2 with ⟨h1, h2⟩ | ⟨g, c, cur, h1, _⟩
  · injection h1 with _ h3 _; omega
  · injection h1

theorem out_bad {l : List UInt8} {w w' : World} (h : okB l = false) (hb : Below w.heap.size w w') {a : Option Addr} {cap : Nat} (hown : w'.ownsRow w.heap.size 9 1 (.slice a 0 cap) 0 []) :
    SplOut l w (.returned (.tuple #[.slice a 0 cap, .bool false])) w' := by
  refine ⟨a, 0, cap, by rw [h], ?_, hb⟩
  rw [fieldsR_bad h]; exact hown
theorem out_good {l : List UInt8} {w w' : World} (h : okB l = true) (hb : Below w.heap.size w w') {a : Option Addr} {n cap : Nat} (hown : w'.ownsRow w.heap.size 9 1 (.slice a n cap) (fieldsOf l).length (strCells (fieldsOf l))) :
    SplOut l w (.returned (.tuple #[.slice a n cap, .bool true])) w' := by
  refine ⟨a, n, cap, by rw [h], ?_, hb⟩
  rw [fieldsR_good h]; exact hown

theorem own_form {w : World} {base : Nat} {e : TypeId} {v : Value} {m : Nat} {xs : List Value} (h : w.ownsRow base e 1 v m xs) : ∃ a cap, v = .slice a m cap := by
  rcases h.2 with ⟨h1, h2⟩ | ⟨g, c, cur, h1, _⟩
  · exact ⟨none, 0, by rw [h1, h2]⟩
  · exact ⟨_, c, h1⟩

theorem part_str (s : ByteArray) (b k : Nat) : s.extract b k = ⟨((s.data.toList.drop b).take (k - b)).toArray⟩ := by
  apply ByteArray.ext
  rw [ByteArray.data_extract]
  apply Array.ext'
  rw [Array.toList_extract, List.extract_eq_take_drop]
theorem own_ne {w : World} {b1 b2 : Nat} {e1 e2 : TypeId} {s1 s2 : Nat} {v1 v2 : Value} {n1 n2 : Nat} {x1 x2 : List Value} (h1 : w.ownsRow b1 e1 s1 v1 n1 x1) (h2 : w.ownsRow b2 e2 s2 v2 n2 x2) (he : e1 ≠ e2) :
    v1.ownBlock = none ∨ v1.ownBlock ≠ v2.ownBlock := by
  rcases h1.2 with ⟨rfl, _⟩ | ⟨g, c, cur, rfl, _, hg, _⟩
  · exact .inl rfl
  · right
    rcases h2.2 with ⟨rfl, _⟩ | ⟨g', c', cur', rfl, _, hg', _⟩
    · simp [Value.ownBlock]
    · simp only [Value.ownBlock]
      intro e
      injection e with e
      subst e
      rw [hg] at hg'
      injection hg' with hg'
      injection hg' with _ h _
      exact he h
theorem own_cut {w : World} {base : Nat} {e : TypeId} {g n m cap : Nat} {xs : List Value} (h : w.ownsRow base e 1 (.slice (some ⟨g, 0, none⟩) n cap) m xs) : w.ownsRow base e 1 (.slice (some ⟨g, 0, none⟩) 0 cap) 0 [] := by
  rcases h.2 with ⟨h1, _⟩ | ⟨g', c, cur, h1, hb, hg, hn, hm, hs, _⟩
  · injection h1 with h1; cases h1
  · injection h1 with h1 h2 h3
    injection h1 with h1; injection h1 with h1
    subst h1; subst h3
    exact ⟨rfl, .inr ⟨g, cap, cur, rfl, hb, hg, Nat.zero_le _, hm, hs, rfl⟩⟩
theorem mem_of (s : ByteArray) (k : Nat) (h : k < s.size) : s[k] ∈ s.data.toList := by
  have : s.data.toList[k]'(by simpa using h) = s[k] := rfl
  rw [← this]; exact List.getElem_mem _
theorem cells_push (F : List (List UInt8)) (f : List UInt8) : strCells F ++ [Value.string ⟨f.toArray⟩] = strCells (F ++ [f]) := by rw [strCells_snoc]
theorem byte_push (cur : List UInt8) (c : UInt8) : Lib.byteCells cur ++ [Value.int .u8 (c.toNat : Int)] = Lib.byteCells (cur ++ [c]) := by rw [byteCells_app]; rfl
theorem cells_next (s : ByteArray) (b k : Nat) (F : List (List UInt8)) : strCells F ++ [Value.string (s.extract b k)] = strCells (F ++ [(s.data.toList.drop b).take (k - b)]) := by
  rw [strCells_snoc, part_str]
theorem len_next (F : List (List UInt8)) (f : List UInt8) : (F ++ [f]).length = F.length + 1 := by simp
end Go.Proofs.YtpipnhceajdfkaaDoor.spl
