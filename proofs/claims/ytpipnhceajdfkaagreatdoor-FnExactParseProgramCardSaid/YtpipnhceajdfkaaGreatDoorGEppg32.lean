/- Several texts in one: TexT TexV. -/
import Derived.Test.YtpipnhceajdfkaaGreatDoorGEppg28
import Derived.Test.YtpipnhceajdfkaaGreatDoorGEppg31
import Derived.Test.YtpipnhceajdfkaaGreatDoorGEppg30
import Derived.Test.YtpipnhceajdfkaaGreatDoorGEppg2

/- The program's readStatement: the statement of a word and of numbers, or that there is none. -/
namespace Go.Proofs.YtpipnhceajdfkaaGreatDoor.tex
open Go Go.ChangeShapes Go.WideShapes Go.ChangeAt Go.RowKit Go.Proofs.YtpipnhceajdfkaaGreatDoor.row Go.Proofs.YtpipnhceajdfkaaGreatDoor.stm Go.Proofs.YtpipnhceajdfkaaGreatDoor.expr

/-- A statement that was built from this word and these numbers, or none. -/
def RsOut (l : List UInt8) (L : List Int) (w : World) (e : Ending) (w' : World) : Prop :=
  (∃ s : S, e = .returned (.tuple #[ifSt s, .bool true]) ∧ Hid (s = cand s.k L ∧ word s.k = l ∧ nums s = L ∧ 1 ≤ s.k ∧ s.k ≤ 6) ∧ Below w.heap.size w w') ∨
  (e = .returned (.tuple #[.nilIface, .bool false]) ∧ Hid (∀ s, stOk s = true → word s.k = l → nums s ≠ L) ∧ Below w.heap.size w w')
def lenOf (k : Int) : Nat := if k = 1 then 4 else if k = 2 then 2 else if k = 3 then 3 else if k = 4 then 3 else if k = 5 then 1 else 0
theorem nums_len (s : S) : (nums s).length = lenOf s.k := by
  unfold nums lenOf
  repeat' split
  all_goals rfl
theorem none_len {l : List UInt8} {k : Int} {L : List Int} (h1 : 1 ≤ k) (h2 : k ≤ 6) (hl : l = word k) (hL : L.length ≠ lenOf k) : ∀ s, stOk s = true → word s.k = l → nums s ≠ L := fun s hs e e2 => by
  subst hl
  have := kind_inj hs h1 h2 e
  rw [← e2, nums_len, this] at hL
  exact hL rfl
theorem none_other {l : List UInt8} {L : List Int} (h : ∀ k, 1 ≤ k → k ≤ 6 → l ≠ word k) : ∀ s, stOk s = true → word s.k = l → nums s ≠ L := fun s hs e _ => h s.k (kind_ok hs).1 (kind_ok hs).2 e.symm
set_option maxHeartbeats 2000000 in
set_option maxRecDepth 100000 in
theorem rs_yes1 (x0 x1 x2 x3 : Int) (a : Option Addr) (c : Nat) (w : World) (hR : Row w a 4 [x0, x1, x2, x3]) : Calls Tryz.prog 88 #[.string ⟨#[115, 101, 116]⟩, .slice a 4 c] w (RsOut (word 1) [x0, x1, x2, x3] w) := by
  obtain ⟨g, off, y0, rfl, hg, hy0, c0⟩ := hR.2 0 (by omega)
  simp at hy0 c0; subst hy0
  have c1 : w.cell? ⟨g, off + 1, none⟩ = some (.int .i64 x1) := by
    obtain ⟨g2, off2, y, he, _, hy, c⟩ := hR.2 1 (by omega)
    injection he with he; injection he with e1 e2 _; subst e1 e2; simp at hy; subst hy; exact c
  have c2 : w.cell? ⟨g, off + 2, none⟩ = some (.int .i64 x2) := by
    obtain ⟨g2, off2, y, he, _, hy, c⟩ := hR.2 2 (by omega)
    injection he with he; injection he with e1 e2 _; subst e1 e2; simp at hy; subst hy; exact c
  have c3 : w.cell? ⟨g, off + 3, none⟩ = some (.int .i64 x3) := by
    obtain ⟨g2, off2, y, he, _, hy, c⟩ := hR.2 3 (by omega)
    injection he with he; injection he with e1 e2 _; subst e1 e2; simp at hy; subst hy; exact c
  clear hR
  go_enter Tryz.func88, Tryz.ntmps88
  go_wp2
  go_region
  go_wp2
  go_ret2
  exact .inl ⟨⟨1, x0, 0, x1, x2, x3⟩, rfl, ⟨rfl, rfl, rfl, by simp, by simp⟩, Below.drew (Below.refl _ w)⟩
set_option maxHeartbeats 2000000 in
set_option maxRecDepth 100000 in
theorem rs_no1 (L : List Int) (hn : L.length ≠ 4) (a : Option Addr) (c : Nat) (w : World) : Calls Tryz.prog 88 #[.string ⟨#[115, 101, 116]⟩, .slice a L.length c] w (RsOut (word 1) L w) := by
  have HN := Lib.hid (none_len (l := word 1) (k := 1) (L := L) (by decide) (by decide) rfl hn)
  have hne : ((L.length : Int) == 4) = false := by rw [beq_eq_false_iff_ne]; omega
  clear hn
  go_enter Tryz.func88, Tryz.ntmps88
  go_wp2
  go_ret2
  exact .inr ⟨rfl, HN, Below.refl _ w⟩
set_option maxHeartbeats 2000000 in
set_option maxRecDepth 100000 in
theorem rs_yes2 (x0 x1 : Int) (a : Option Addr) (c : Nat) (w : World) (hR : Row w a 2 [x0, x1]) : Calls Tryz.prog 88 #[.string ⟨#[115, 101, 110, 115, 101]⟩, .slice a 2 c] w (RsOut (word 2) [x0, x1] w) := by
  obtain ⟨g, off, y0, rfl, hg, hy0, c0⟩ := hR.2 0 (by omega)
  simp at hy0 c0; subst hy0
  have c1 : w.cell? ⟨g, off + 1, none⟩ = some (.int .i64 x1) := by
    obtain ⟨g2, off2, y, he, _, hy, c⟩ := hR.2 1 (by omega)
    injection he with he; injection he with e1 e2 _; subst e1 e2; simp at hy; subst hy; exact c
  clear hR
  go_enter Tryz.func88, Tryz.ntmps88
  go_wp2
  go_region
  go_wp2
  go_ret2
  exact .inl ⟨⟨2, x0, x1, 0, 0, 0⟩, rfl, ⟨rfl, rfl, rfl, by simp, by simp⟩, Below.drew (Below.refl _ w)⟩
set_option maxHeartbeats 2000000 in
set_option maxRecDepth 100000 in
theorem rs_no2 (L : List Int) (hn : L.length ≠ 2) (a : Option Addr) (c : Nat) (w : World) : Calls Tryz.prog 88 #[.string ⟨#[115, 101, 110, 115, 101]⟩, .slice a L.length c] w (RsOut (word 2) L w) := by
  have HN := Lib.hid (none_len (l := word 2) (k := 2) (L := L) (by decide) (by decide) rfl hn)
  have hne : ((L.length : Int) == 2) = false := by rw [beq_eq_false_iff_ne]; omega
  clear hn
  go_enter Tryz.func88, Tryz.ntmps88
  go_wp2
  go_ret2
  exact .inr ⟨rfl, HN, Below.refl _ w⟩
set_option maxHeartbeats 2000000 in
set_option maxRecDepth 100000 in
theorem rs_yes3 (x0 x1 x2 : Int) (a : Option Addr) (c : Nat) (w : World) (hR : Row w a 3 [x0, x1, x2]) : Calls Tryz.prog 88 #[.string ⟨#[115, 101, 110, 100]⟩, .slice a 3 c] w (RsOut (word 3) [x0, x1, x2] w) := by
  obtain ⟨g, off, y0, rfl, hg, hy0, c0⟩ := hR.2 0 (by omega)
  simp at hy0 c0; subst hy0
  have c1 : w.cell? ⟨g, off + 1, none⟩ = some (.int .i64 x1) := by
    obtain ⟨g2, off2, y, he, _, hy, c⟩ := hR.2 1 (by omega)
    injection he with he; injection he with e1 e2 _; subst e1 e2; simp at hy; subst hy; exact c
  have c2 : w.cell? ⟨g, off + 2, none⟩ = some (.int .i64 x2) := by
    obtain ⟨g2, off2, y, he, _, hy, c⟩ := hR.2 2 (by omega)
    injection he with he; injection he with e1 e2 _; subst e1 e2; simp at hy; subst hy; exact c
  clear hR
  go_enter Tryz.func88, Tryz.ntmps88
  go_wp2
  go_region
  go_wp2
  go_ret2
  exact .inl ⟨⟨3, 0, 0, x0, x1, x2⟩, rfl, ⟨rfl, rfl, rfl, by simp, by simp⟩, Below.drew (Below.refl _ w)⟩
set_option maxHeartbeats 2000000 in
set_option maxRecDepth 100000 in
theorem rs_no3 (L : List Int) (hn : L.length ≠ 3) (a : Option Addr) (c : Nat) (w : World) : Calls Tryz.prog 88 #[.string ⟨#[115, 101, 110, 100]⟩, .slice a L.length c] w (RsOut (word 3) L w) := by
  have HN := Lib.hid (none_len (l := word 3) (k := 3) (L := L) (by decide) (by decide) rfl hn)
  have hne : ((L.length : Int) == 3) = false := by rw [beq_eq_false_iff_ne]; omega
  clear hn
  go_enter Tryz.func88, Tryz.ntmps88
  go_wp2
  go_ret2
  exact .inr ⟨rfl, HN, Below.refl _ w⟩
set_option maxHeartbeats 2000000 in
set_option maxRecDepth 100000 in
theorem rs_yes4 (x0 x1 x2 : Int) (a : Option Addr) (c : Nat) (w : World) (hR : Row w a 3 [x0, x1, x2]) : Calls Tryz.prog 88 #[.string ⟨#[105, 102]⟩, .slice a 3 c] w (RsOut (word 4) [x0, x1, x2] w) := by
  obtain ⟨g, off, y0, rfl, hg, hy0, c0⟩ := hR.2 0 (by omega)
  simp at hy0 c0; subst hy0
  have c1 : w.cell? ⟨g, off + 1, none⟩ = some (.int .i64 x1) := by
    obtain ⟨g2, off2, y, he, _, hy, c⟩ := hR.2 1 (by omega)
    injection he with he; injection he with e1 e2 _; subst e1 e2; simp at hy; subst hy; exact c
  have c2 : w.cell? ⟨g, off + 2, none⟩ = some (.int .i64 x2) := by
    obtain ⟨g2, off2, y, he, _, hy, c⟩ := hR.2 2 (by omega)
    injection he with he; injection he with e1 e2 _; subst e1 e2; simp at hy; subst hy; exact c
  clear hR
  go_enter Tryz.func88, Tryz.ntmps88
  go_wp2
  go_region
  go_wp2
  go_ret2
  exact .inl ⟨⟨4, 0, 0, x0, x1, x2⟩, rfl, ⟨rfl, rfl, rfl, by simp, by simp⟩, Below.drew (Below.refl _ w)⟩
set_option maxHeartbeats 2000000 in
set_option maxRecDepth 100000 in
theorem rs_no4 (L : List Int) (hn : L.length ≠ 3) (a : Option Addr) (c : Nat) (w : World) : Calls Tryz.prog 88 #[.string ⟨#[105, 102]⟩, .slice a L.length c] w (RsOut (word 4) L w) := by
  have HN := Lib.hid (none_len (l := word 4) (k := 4) (L := L) (by decide) (by decide) rfl hn)
  have hne : ((L.length : Int) == 3) = false := by rw [beq_eq_false_iff_ne]; omega
  clear hn
  go_enter Tryz.func88, Tryz.ntmps88
  go_wp2
  go_ret2
  exact .inr ⟨rfl, HN, Below.refl _ w⟩
set_option maxHeartbeats 2000000 in
set_option maxRecDepth 100000 in
theorem rs_yes5 (x0 : Int) (a : Option Addr) (c : Nat) (w : World) (hR : Row w a 1 [x0]) : Calls Tryz.prog 88 #[.string ⟨#[108, 111, 111, 112]⟩, .slice a 1 c] w (RsOut (word 5) [x0] w) := by
  obtain ⟨g, off, y0, rfl, hg, hy0, c0⟩ := hR.2 0 (by omega)
  simp at hy0 c0; subst hy0
  clear hR
  go_enter Tryz.func88, Tryz.ntmps88
  go_wp2
  go_ret2
  exact .inl ⟨⟨5, 0, x0, 0, 0, 0⟩, rfl, ⟨rfl, rfl, rfl, by simp, by simp⟩, Below.refl _ w⟩
set_option maxHeartbeats 2000000 in
set_option maxRecDepth 100000 in
theorem rs_no5 (L : List Int) (hn : L.length ≠ 1) (a : Option Addr) (c : Nat) (w : World) : Calls Tryz.prog 88 #[.string ⟨#[108, 111, 111, 112]⟩, .slice a L.length c] w (RsOut (word 5) L w) := by
  have HN := Lib.hid (none_len (l := word 5) (k := 5) (L := L) (by decide) (by decide) rfl hn)
  have hne : ((L.length : Int) == 1) = false := by rw [beq_eq_false_iff_ne]; omega
  clear hn
  go_enter Tryz.func88, Tryz.ntmps88
  go_wp2
  go_ret2
  exact .inr ⟨rfl, HN, Below.refl _ w⟩
set_option maxHeartbeats 2000000 in
set_option maxRecDepth 100000 in
theorem rs_yes6 (a : Option Addr) (c : Nat) (w : World) (_hR : Row w a 0 []) : Calls Tryz.prog 88 #[.string ⟨#[101, 110, 100]⟩, .slice a 0 c] w (RsOut (word 6) [] w) := by
  go_enter Tryz.func88, Tryz.ntmps88
  go_wp2
  go_ret2
  exact .inl ⟨⟨6, 0, 0, 0, 0, 0⟩, rfl, ⟨rfl, rfl, rfl, by simp, by simp⟩, Below.refl _ w⟩
set_option maxHeartbeats 2000000 in
set_option maxRecDepth 100000 in
theorem rs_no6 (L : List Int) (hn : L.length ≠ 0) (a : Option Addr) (c : Nat) (w : World) : Calls Tryz.prog 88 #[.string ⟨#[101, 110, 100]⟩, .slice a L.length c] w (RsOut (word 6) L w) := by
  have HN := Lib.hid (none_len (l := word 6) (k := 6) (L := L) (by decide) (by decide) rfl hn)
  have hne : ((L.length : Int) == 0) = false := by rw [beq_eq_false_iff_ne]; omega
  clear hn
  go_enter Tryz.func88, Tryz.ntmps88
  go_wp2
  go_ret2
  exact .inr ⟨rfl, HN, Below.refl _ w⟩
set_option maxHeartbeats 2000000 in
set_option maxRecDepth 100000 in
theorem rs_other (l : List UInt8) (L : List Int) (h : ∀ k, 1 ≤ k → k ≤ 6 → l ≠ word k) (a : Option Addr) (c : Nat) (w : World) : Calls Tryz.prog 88 #[.string ⟨l.toArray⟩, .slice a L.length c] w (RsOut l L w) := by
  have HN := Lib.hid (none_other (L := L) h)
  have h1 : (l == [115, 101, 116]) = false := by have := h 1 (by decide) (by decide); simpa [word] using this
  have h2 : (l == [115, 101, 110, 115, 101]) = false := by have := h 2 (by decide) (by decide); simpa [word] using this
  have h3 : (l == [115, 101, 110, 100]) = false := by have := h 3 (by decide) (by decide); simpa [word] using this
  have h4 : (l == [105, 102]) = false := by have := h 4 (by decide) (by decide); simpa [word] using this
  have h5 : (l == [108, 111, 111, 112]) = false := by have := h 5 (by decide) (by decide); simpa [word] using this
  have h6 : (l == [101, 110, 100]) = false := by have := h 6 (by decide) (by decide); simpa [word] using this
  clear h
  go_enter Tryz.func88, Tryz.ntmps88
  go_wp2
  go_ret2
  exact .inr ⟨rfl, HN, Below.refl _ w⟩
theorem rs_any (l : List UInt8) (L : List Int) (a : Option Addr) (c : Nat) (w : World) (hR : Row w a L.length L) : Calls Tryz.prog 88 #[.string ⟨l.toArray⟩, .slice a L.length c] w (RsOut l L w) := by
  by_cases h1 : l = word 1
  · subst h1
    by_cases hl : L.length = 4
    · match L, hl, hR with
      | [x0, x1, x2, x3], _, hR => exact rs_yes1 x0 x1 x2 x3 a c w hR
    · exact rs_no1 L hl a c w
  by_cases h2 : l = word 2
  · subst h2
    by_cases hl : L.length = 2
    · match L, hl, hR with
      | [x0, x1], _, hR => exact rs_yes2 x0 x1 a c w hR
    · exact rs_no2 L hl a c w
  by_cases h3 : l = word 3
  · subst h3
    by_cases hl : L.length = 3
    · match L, hl, hR with
      | [x0, x1, x2], _, hR => exact rs_yes3 x0 x1 x2 a c w hR
    · exact rs_no3 L hl a c w
  by_cases h4 : l = word 4
  · subst h4
    by_cases hl : L.length = 3
    · match L, hl, hR with
      | [x0, x1, x2], _, hR => exact rs_yes4 x0 x1 x2 a c w hR
    · exact rs_no4 L hl a c w
  by_cases h5 : l = word 5
  · subst h5
    by_cases hl : L.length = 1
    · match L, hl, hR with
      | [x0], _, hR => exact rs_yes5 x0 a c w hR
    · exact rs_no5 L hl a c w
  by_cases h6 : l = word 6
  · subst h6
    cases L with
    | nil => exact rs_yes6 a c w hR
    | cons x r => exact rs_no6 (x :: r) (by simp) a c w
  exact rs_other l L (fun k h7 h8 e => by
    rcases (show k = 1 ∨ k = 2 ∨ k = 3 ∨ k = 4 ∨ k = 5 ∨ k = 6 by omega) with rfl | rfl | rfl | rfl | rfl | rfl
    all_goals contradiction) a c w
end Go.Proofs.YtpipnhceajdfkaaGreatDoor.tex

/- What the program's ParseStmt is made of: the statement of a word and of numbers, kind by kind; the fields joined. -/
namespace Go.Proofs.YtpipnhceajdfkaaGreatDoor.tex
open Go Go.ChangeShapes Go.WideShapes Go.ChangeAt Go.RowKit Go.Proofs.YtpipnhceajdfkaaGreatDoor.row Go.Proofs.YtpipnhceajdfkaaGreatDoor.val Go.Proofs.YtpipnhceajdfkaaGreatDoor.stm Go.Proofs.YtpipnhceajdfkaaGreatDoor.expr Go.Proofs.YtpipnhceajdfkaaGreatDoor.spl Go.Proofs.YtpipnhceajdfkaaGreatDoor.lay Go.Proofs.YtpipnhceajdfkaaGreatDoor.pu

/-- The call returns what parsing these fields must give. -/
def ParseOut (l : List UInt8) (w : World) (e : Ending) (w' : World) : Prop :=
  ∃ (s : S) (b : Bool), e = .returned (.tuple #[stV s, .bool b]) ∧ Hid (IsParse (fieldsR l) s b) ∧ Below w.heap.size w w'
abbrev zeroC : Array Value := #[.int .i64 0, .int .i64 0, .int .i64 0, .int .i64 0, .int .i64 0, .int .i64 0]
theorem join_le : ∀ F : List (List UInt8), (Lib.join F [32]).length ≤ (joinF F).length
  | [] => by simp [Lib.join_nil]
  | x :: r => by rw [joinF_join (F := x :: r) (by simp)]; simp
theorem fields_len (l : List UInt8) : (joinF (fieldsR l)).length ≤ 1300 := by
  cases h : okB l
  · rw [fieldsR_bad h]; simp [joinF]
  · have := join_size l h; omega
theorem mem_joinF {F : List (List UInt8)} {f : List UInt8} (h : f ∈ F) : f.length ≤ (joinF F).length := by
  induction F with
  | nil => simp at h
  | cons x r ih =>
    have e : joinF (x :: r) = x ++ [32] ++ joinF r := by simp [joinF]
    rw [e]
    rcases List.mem_cons.1 h with rfl | h
    · simp; try omega
    · have := ih h; simp; omega
/-- A statement that was built from this word and these numbers. -/
def Good (l : List UInt8) (L : List Int) (s : S) : Prop := s = cand s.k L ∧ word s.k = l ∧ nums s = L ∧ 1 ≤ s.k ∧ s.k ≤ 6
def Rs6 (l : List UInt8) (L : List Int) (w : World) (e : Ending) (w' : World) : Prop :=
  (∃ v o a b, e = .returned (.tuple #[if1 v o a b, .bool true]) ∧ Hid (Good l L ⟨1, v, 0, o, a, b⟩) ∧ Below w.heap.size w w') ∨
  (∃ v n, e = .returned (.tuple #[if2 v n, .bool true]) ∧ Hid (Good l L ⟨2, v, n, 0, 0, 0⟩) ∧ Below w.heap.size w w') ∨
  (∃ o a b, e = .returned (.tuple #[if3 o a b, .bool true]) ∧ Hid (Good l L ⟨3, 0, 0, o, a, b⟩) ∧ Below w.heap.size w w') ∨
  (∃ o a b, e = .returned (.tuple #[if4 o a b, .bool true]) ∧ Hid (Good l L ⟨4, 0, 0, o, a, b⟩) ∧ Below w.heap.size w w') ∨
  (∃ n, e = .returned (.tuple #[if5 n, .bool true]) ∧ Hid (Good l L ⟨5, 0, n, 0, 0, 0⟩) ∧ Below w.heap.size w w') ∨
  (e = .returned (.tuple #[if6 , .bool true]) ∧ Hid (Good l L ⟨6, 0, 0, 0, 0, 0⟩) ∧ Below w.heap.size w w') ∨
  (e = .returned (.tuple #[.nilIface, .bool false]) ∧ Hid (∀ s, stOk s = true → word s.k = l → nums s ≠ L) ∧ Below w.heap.size w w')
theorem rs_six (l : List UInt8) (L : List Int) (a : Option Addr) (c : Nat) (w : World) (hR : Row w a L.length L) : Calls Tryz.prog 88 #[.string ⟨l.toArray⟩, .slice a L.length c] w (Rs6 l L w) :=
  (rs_any l L a c w hR).mono fun e w' h => by
    rcases h with ⟨s, he, hg, hb⟩ | h
    · have hg' : Good l L s := hg.out
      rcases cand_form (L := L) hg.out.2.2.2.1 hg.out.2.2.2.2 with ⟨v, o, a, b, h⟩ | ⟨v, n, h⟩ | ⟨o, a, b, h⟩ | ⟨o, a, b, h⟩ | ⟨n, h⟩ | h
      · have e1 := hg.out.1.trans h; subst e1; exact .inl ⟨v, o, a, b, he, hg', hb⟩
      · have e1 := hg.out.1.trans h; subst e1; exact .inr (.inl ⟨v, n, he, hg', hb⟩)
      · have e1 := hg.out.1.trans h; subst e1; exact .inr (.inr (.inl ⟨o, a, b, he, hg', hb⟩))
      · have e1 := hg.out.1.trans h; subst e1; exact .inr (.inr (.inr (.inl ⟨o, a, b, he, hg', hb⟩)))
      · have e1 := hg.out.1.trans h; subst e1; exact .inr (.inr (.inr (.inr (.inl ⟨n, he, hg', hb⟩))))
      · have e1 := hg.out.1.trans h; subst e1; exact .inr (.inr (.inr (.inr (.inr (.inl ⟨he, hg', hb⟩)))))
    · exact .inr (.inr (.inr (.inr (.inr (.inr h)))))
theorem join_flds (F : List (List UInt8)) (J : List UInt8) (hJ : Lib.join F [32] = J) (hl : J.length ≤ 1300) (base : Nat) (v : Value) (n : Nat) (hn : n ≤ 1000) (w : World) (ho : w.ownsRow base 9 1 v n (spl.strs (F.map fun f => ⟨f.toArray⟩))) :
    Calls Tryz.prog 59 #[v, .string ⟨#[32]⟩] w (RetS w J) := by
  have e : (F.map fun f => (⟨f.toArray⟩ : ByteArray)).map (·.data.toList) = F := by simp [Function.comp_def]
  have h := join_own (F.map fun f => ⟨f.toArray⟩) base v n w ho (by rw [e, hJ]; omega) (by omega)
  rw [e, hJ] at h
  exact h
end Go.Proofs.YtpipnhceajdfkaaGreatDoor.tex
