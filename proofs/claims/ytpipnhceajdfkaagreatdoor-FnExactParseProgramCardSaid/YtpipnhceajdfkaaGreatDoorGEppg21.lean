/- Several texts in one: TexA Bytes HexA. -/
import Derived.Test.YtpipnhceajdfkaaGreatDoorGEppg1
import Derived.Test.YtpipnhceajdfkaaGreatDoorGEppg19
import Derived.Test.YtpipnhceajdfkaaGreatDoorGEppg20
import Derived.Lib.Join
import Derived.Test.YtpipnhceajdfkaaGreatDoorRows
import Derived.WalkKit
import Derived.ProofKit
import Derived.OpenShut
import Derived.Lib.Hide
import Derived.Laws.IdiomStrings
import Derived.Lib.UnsafeStr
import Derived.OwnWalk
import Derived.StillTailTactics
import Derived.Below

/- The text of a statement: its word and its numbers, joined by single spaces; it has these fields again, and no two valid statements have the same. Plain mathematics. -/
namespace Go.Proofs.YtpipnhceajdfkaaGreatDoor.tex
open Go Go.Proofs.YtpipnhceajdfkaaGreatDoor.spl Go.Proofs.YtpipnhceajdfkaaGreatDoor.stm Go.Proofs.YtpipnhceajdfkaaGreatDoor.pu Go.Proofs.YtpipnhceajdfkaaGreatDoor.expr

abbrev S := Go.Proofs.YtpipnhceajdfkaaGreatDoor.stm.St
def word (k : Int) : List UInt8 :=
  if k = 1 then [115, 101, 116] else if k = 2 then [115, 101, 110, 115, 101] else if k = 3 then [115, 101, 110, 100]
  else if k = 4 then [105, 102] else if k = 5 then [108, 111, 111, 112] else [101, 110, 100]
def nums (s : S) : List Int :=
  if s.k = 1 then [s.v, s.o, s.a, s.b] else if s.k = 2 then [s.v, s.n] else if s.k = 3 then [s.o, s.a, s.b]
  else if s.k = 4 then [s.o, s.a, s.b] else if s.k = 5 then [s.n] else []
def flds (s : S) : List (List UInt8) := word s.k :: (nums s).map Lib.itoa
def text (s : S) : List UInt8 := Lib.join (flds s) [32]
def textR (s : S) : List UInt8 := if stOk s = true then text s else []
/-- The statement of a kind with these numbers. -/
def cand (k : Int) (L : List Int) : S :=
  if k = 1 then ⟨1, L.getD 0 0, 0, L.getD 1 0, L.getD 2 0, L.getD 3 0⟩ else if k = 2 then ⟨2, L.getD 0 0, L.getD 1 0, 0, 0, 0⟩
  else if k = 3 then ⟨3, 0, 0, L.getD 0 0, L.getD 1 0, L.getD 2 0⟩ else if k = 4 then ⟨4, 0, 0, L.getD 0 0, L.getD 1 0, L.getD 2 0⟩
  else if k = 5 then ⟨5, 0, L.getD 0 0, 0, 0, 0⟩ else ⟨6, 0, 0, 0, 0, 0⟩

theorem st_form {s : S} (h : stOk s = true) :
    (∃ v o a b, s = ⟨1, v, 0, o, a, b⟩ ∧ varOk v = true ∧ exprOk o a b = true) ∨ (∃ v n, s = ⟨2, v, n, 0, 0, 0⟩ ∧ varOk v = true ∧ 0 ≤ n ∧ n ≤ 3) ∨
    (∃ o a b, s = ⟨3, 0, 0, o, a, b⟩ ∧ exprOk o a b = true) ∨ (∃ o a b, s = ⟨4, 0, 0, o, a, b⟩ ∧ exprOk o a b = true) ∨
    (∃ n, s = ⟨5, 0, n, 0, 0, 0⟩ ∧ 1 ≤ n ∧ n ≤ 5) ∨ s = ⟨6, 0, 0, 0, 0, 0⟩ := by
  obtain ⟨k, v, n, o, a, b⟩ := s
  by_cases h1 : k = 1
  · subst h1; simp [stOk] at h; obtain ⟨x, rfl, y⟩ := h; exact .inl ⟨v, o, a, b, rfl, x, y⟩
  by_cases h2 : k = 2
  · subst h2; simp [stOk, exprZ] at h; obtain ⟨x, ⟨y, z⟩, rfl, rfl, rfl⟩ := h; exact .inr (.inl ⟨v, n, rfl, x, y, z⟩)
  by_cases h3 : k = 3
  · subst h3; simp [stOk] at h; obtain ⟨rfl, rfl, y⟩ := h; exact .inr (.inr (.inl ⟨o, a, b, rfl, y⟩))
  by_cases h4 : k = 4
  · subst h4; simp [stOk] at h; obtain ⟨rfl, rfl, y⟩ := h; exact .inr (.inr (.inr (.inl ⟨o, a, b, rfl, y⟩)))
  by_cases h5 : k = 5
  · subst h5; simp [stOk, exprZ] at h; obtain ⟨rfl, ⟨y, z⟩, rfl, rfl, rfl⟩ := h; exact .inr (.inr (.inr (.inr (.inl ⟨n, rfl, y, z⟩))))
  by_cases h6 : k = 6
  · subst h6; simp [stOk, exprZ] at h; obtain ⟨rfl, rfl, rfl, rfl, rfl⟩ := h; exact .inr (.inr (.inr (.inr (.inr rfl))))
  · simp [stOk, h1, h2, h3, h4, h5, h6] at h

def Small (n : Int) : Prop := -8 ≤ n ∧ n ≤ 999
theorem expr_small {o a b : Int} (h : exprOk o a b = true) : Small o ∧ Small a ∧ Small b := by
  simp [exprOk, opOk, opndOk] at h; unfold Small; omega
theorem var_small {v : Int} (h : varOk v = true) : Small v := by simp [varOk] at h; unfold Small; omega
theorem nums_small {s : S} (h : stOk s = true) : (∀ n ∈ nums s, Small n) ∧ (nums s).length ≤ 4 := by
  rcases st_form h with ⟨v, o, a, b, rfl, hv, he⟩ | ⟨v, n, rfl, hv, h0, h1⟩ | ⟨o, a, b, rfl, he⟩ | ⟨o, a, b, rfl, he⟩ | ⟨n, rfl, h0, h1⟩ | rfl
  · have := expr_small he; have := var_small hv; simp [nums, *]
  · have := var_small hv; have : Small n := ⟨by omega, by omega⟩; simp [nums, *]
  · have := expr_small he; simp [nums, *]
  · have := expr_small he; simp [nums, *]
  · have : Small n := ⟨by omega, by omega⟩; simp [nums, *]
  · simp [nums]
theorem cand_nums {s : S} (h : stOk s = true) : cand s.k (nums s) = s := by
  rcases st_form h with ⟨v, o, a, b, rfl, hv, he⟩ | ⟨v, n, rfl, hv, h0, h1⟩ | ⟨o, a, b, rfl, he⟩ | ⟨o, a, b, rfl, he⟩ | ⟨n, rfl, h0, h1⟩ | rfl <;> simp [cand, nums]
/-- The kind of a word. -/
def kindW (l : List UInt8) : Int :=
  if l = [115, 101, 116] then 1 else if l = [115, 101, 110, 115, 101] then 2 else if l = [115, 101, 110, 100] then 3 else if l = [105, 102] then 4 else if l = [108, 111, 111, 112] then 5 else 6
theorem kind_word {s : S} (h : stOk s = true) : kindW (word s.k) = s.k := by
  rcases st_form h with ⟨v, o, a, b, rfl, hv, he⟩ | ⟨v, n, rfl, hv, h0, h1⟩ | ⟨o, a, b, rfl, he⟩ | ⟨o, a, b, rfl, he⟩ | ⟨n, rfl, h0, h1⟩ | rfl <;> simp [kindW, word]
theorem itoa_n {n : Int} (h : n < 0) : Lib.itoa n = 45 :: Lib.decDigits n.natAbs := by unfold Lib.itoa; rw [if_pos h]
theorem itoa_inj {n m : Int} (h : Lib.itoa n = Lib.itoa m) : n = m := by
  have key : ∀ {n m : Int}, 0 ≤ n → m < 0 → Lib.itoa n ≠ Lib.itoa m := fun {n m} h0 h1 e => by
    rw [itoa_nat h0, itoa_n h1] at e
    have := dig_dec n.toNat
    rw [e] at this
    have := this 45 (by simp)
    unfold isDig at this
    simp at this
  rcases Int.lt_or_le n 0 with hn | hn <;> rcases Int.lt_or_le m 0 with hm | hm
  · rw [itoa_n hn, itoa_n hm] at h
    have := congrArg val (List.cons.inj h).2
    rw [val_dec, val_dec] at this
    omega
  · exact absurd h.symm (key hm hn)
  · exact absurd h (key hn hm)
  · have := congrArg (fun l => (val l : Int)) h
    simp only [val_itoa hn, val_itoa hm] at this
    exact this
theorem flds_inj {s t : S} (hs : stOk s = true) (ht : stOk t = true) (h : flds s = flds t) : s = t := by
  have hk : s.k = t.k := by rw [← kind_word hs, ← kind_word ht, (List.cons.inj h).1]
  have hn : nums s = nums t := (List.map_inj_right fun _ _ => itoa_inj).1 (List.cons.inj h).2
  rw [← cand_nums hs, ← cand_nums ht, hk, hn]

theorem itoa_ne (n : Int) : Lib.itoa n ≠ [] := by
  unfold Lib.itoa; split
  · simp
  · exact pos_dec _
theorem dig_good {c : UInt8} (h : isDig c) : goodC c := by
  unfold isDig at h
  refine ⟨fun e => ?_, by omega, by omega⟩
  subst e; simp at h
theorem itoa_good (n : Int) : ∀ c ∈ Lib.itoa n, goodC c := by
  intro c hc
  unfold Lib.itoa at hc
  split at hc
  · rcases List.mem_cons.1 hc with rfl | hc
    · exact ⟨by decide, by decide, by decide⟩
    · exact dig_good (dig_dec _ c hc)
  · exact dig_good (dig_dec _ c hc)
theorem word_good (k : Int) : word k ≠ [] ∧ ∀ c ∈ word k, goodC c := by
  unfold word goodC
  split
  · decide
  split
  · decide
  split
  · decide
  split
  · decide
  split
  · decide
  · decide
theorem flds_good (s : S) : ∀ f ∈ flds s, f ≠ [] ∧ ∀ c ∈ f, goodC c := by
  intro f hf
  rcases List.mem_cons.1 hf with rfl | hf
  · exact word_good _
  · obtain ⟨n, _, rfl⟩ := List.mem_map.1 hf
    exact ⟨itoa_ne n, itoa_good n⟩
theorem joinF_join : ∀ {F : List (List UInt8)}, F ≠ [] → joinF F = Lib.join F [32] ++ [32] := by
  intro F hF
  cases F with
  | nil => exact absurd rfl hF
  | cons x r =>
    rw [Lib.join_cons]
    have key : ∀ r : List (List UInt8), [32] ++ joinF r = Lib.joinTail [32] r ++ [32] := fun r => by
      induction r with
      | nil => simp [joinF, Lib.joinTail]
      | cons y r ih => simp [joinF, Lib.joinTail] at ih ⊢; rw [ih]
    rw [List.append_assoc, ← key r]
    simp [joinF]
theorem fieldsOf_snoc (l : List UInt8) : fieldsOf (l ++ [32]) = fieldsOf l := by
  unfold fieldsOf
  rw [stF_snoc]
  by_cases h : (stF l).2 = []
  · rw [step_space rfl h]
  · rw [step_cut rfl h]; simp [endF, h]
theorem fieldsOf_join {F : List (List UInt8)} (hF : F ≠ []) (h : ∀ f ∈ F, f ≠ [] ∧ ∀ c ∈ f, goodC c) : fieldsOf (Lib.join F [32]) = F := by
  rw [← fieldsOf_snoc, ← joinF_join hF, fields_join h]
theorem fieldsOf_text (s : S) : fieldsOf (text s) = flds s := fieldsOf_join (by simp [flds]) (flds_good s)
/-- Fields have a statement's text exactly if they are the statement's own. -/
theorem text_join {s : S} {F : List (List UInt8)} (hF : F ≠ []) (h : ∀ f ∈ F, f ≠ [] ∧ ∀ c ∈ f, goodC c) (e : text s = Lib.join F [32]) : flds s = F := by
  rw [← fieldsOf_text s, e, fieldsOf_join hF h]
theorem join_ne {F : List (List UInt8)} (hF : F ≠ []) (h : ∀ f ∈ F, f ≠ [] ∧ ∀ c ∈ f, goodC c) : Lib.join F [32] ≠ [] := by
  intro e
  have := fieldsOf_join hF h
  rw [e] at this
  exact hF (by rw [← this]; rfl)
theorem textR_join {s : S} {F : List (List UInt8)} (hF : F ≠ []) (h : ∀ f ∈ F, f ≠ [] ∧ ∀ c ∈ f, goodC c) (e : textR s = Lib.join F [32]) : stOk s = true ∧ flds s = F := by
  unfold textR at e
  split at e
  · rename_i hs; exact ⟨hs, text_join hF h e⟩
  · exact absurd e.symm (join_ne hF h)
theorem textR_eq {s : S} {F : List (List UInt8)} (hs : stOk s = true) (e : flds s = F) : textR s = Lib.join F [32] := by
  unfold textR; rw [if_pos hs, text, e]
theorem textR_ok {s : S} (h : stOk s = true) : textR s = text s := by unfold textR; rw [if_pos h]
theorem textR_bad {s : S} (h : stOk s = false) : textR s = [] := by unfold textR; rw [h]; rfl
theorem itoa_short {n : Int} (h : Small n) : (Lib.itoa n).length ≤ 4 := by
  unfold Small at h
  unfold Lib.itoa
  split
  · have := len_dec 0 n.natAbs (by omega); simp; omega
  · have := len_dec 2 n.toNat (by omega); omega
theorem lens_itoa : ∀ (L : List Int), (∀ n ∈ L, Small n) → Lib.lens (L.map Lib.itoa) ≤ 4 * L.length
  | [], _ => by simp [Lib.lens]
  | n :: L, h => by
    have h1 := lens_itoa L (fun x hx => h x (by simp [hx]))
    have h2 := itoa_short (h n (by simp))
    simp only [Lib.lens, List.map_cons, List.sum_cons, List.length_cons] at *
    omega
theorem word_short (k : Int) : (word k).length ≤ 5 := by
  unfold word
  split
  · decide
  split
  · decide
  split
  · decide
  split
  · decide
  split
  · decide
  · decide
theorem text_short {s : S} (h : stOk s = true) : (text s).length ≤ 25 := by
  obtain ⟨h1, h2⟩ := nums_small h
  have h3 := lens_itoa _ h1
  have h4 := word_short s.k
  unfold text flds
  rw [Lib.join_length]
  simp only [Lib.lens, List.map_cons, List.sum_cons, List.length_cons, List.length_nil, List.length_map] at *
  omega
theorem textR_short (s : S) : (textR s).length ≤ 25 := by
  unfold textR; split
  · rename_i h; exact text_short h
  · simp
theorem text_bytes (s : S) : ∀ c ∈ text s, 32 ≤ c.toNat ∧ c.toNat ≤ 126 := by
  intro c hc
  refine join_bytes (flds_good s) c ?_
  rw [joinF_join (by simp [flds])]
  exact List.mem_append_left _ hc
theorem text_ok {s : S} (h : stOk s = true) : okB (text s) = true ∧ fieldsR (text s) = flds s := by
  have h1 : (text s).length ≤ 600 := by have := text_short h; omega
  have h2 : okB (text s) = true := good h1 (text_bytes s) (by
    rw [fieldsOf_text]
    have := (nums_small h).2
    simp [flds]; omega)
  exact ⟨h2, by rw [fieldsR_good h2, fieldsOf_text]⟩

/-- What parsing must give for these fields. -/
def IsParse (p : List (List UInt8)) (s : S) (b : Bool) : Prop :=
  (b = true ∧ stOk s = true ∧ flds s = p) ∨ (b = false ∧ s = ⟨0, 0, 0, 0, 0, 0⟩ ∧ ∀ t, stOk t = true → flds t ≠ p)
theorem IsParse.unique {p : List (List UInt8)} {s t : S} {b c : Bool} (h : IsParse p s b) (h' : IsParse p t c) : s = t ∧ b = c := by
  rcases h with ⟨rfl, h1, h2⟩ | ⟨rfl, rfl, h1⟩ <;> rcases h' with ⟨rfl, h3, h4⟩ | ⟨rfl, rfl, h3⟩
  · exact ⟨flds_inj h1 h3 (h2.trans h4.symm), rfl⟩
  · exact absurd h2 (h3 _ h1)
  · exact absurd h4 (h1 _ h3)
  · exact ⟨rfl, rfl⟩
theorem parse_none {p : List (List UInt8)} (h : ∀ t, stOk t = true → flds t ≠ p) : IsParse p ⟨0, 0, 0, 0, 0, 0⟩ false := .inr ⟨rfl, rfl, h⟩
theorem parse_empty : IsParse [] ⟨0, 0, 0, 0, 0, 0⟩ false := parse_none fun t _ e => by simp [flds] at e

/-- What the model's reader of numbers gives. -/
def numU (l : List UInt8) (sign : Int) : Int := if l = [] ∨ 4 < l.length ∨ ¬ (∀ c ∈ l, 48 ≤ c.toNat ∧ c.toNat ≤ 57) then 5000 else sign * val l
def numV (l : List UInt8) : Int := match l with | 45 :: r => numU r (-1) | l => numU l 1
theorem numU_dec {m : Nat} (sign : Int) (h : m < 1000) : numU (Lib.decDigits m) sign = sign * m := by
  have h1 := len_dec 2 m (by omega)
  have h2 := pos_dec m
  have h3 := dig_dec m
  unfold numU
  rw [if_neg, val_dec]
  rintro (h | h | h)
  · exact h2 h
  · omega
  · exact h h3
theorem numV_minus (r : List UInt8) : numV (45 :: r) = numU r (-1) := rfl
theorem numV_plus {l : List UInt8} (h : l.head? ≠ some 45) : numV l = numU l 1 := by
  unfold numV
  split
  · simp at h
  · rfl
theorem numV_itoa {n : Int} (h : Small n) : numV (Lib.itoa n) = n := by
  unfold Small at h
  rcases Int.lt_or_le n 0 with hn | hn
  · rw [itoa_n hn, numV_minus, numU_dec _ (by omega)]; omega
  · rw [itoa_nat hn, numV_plus, numU_dec _ (by omega)]
    · omega
    · intro e
      have := dig_dec n.toNat 45 (List.mem_of_mem_head? e)
      unfold isDig at this
      simp at this
theorem cand_of {s : S} {p0 : List UInt8} {ps : List (List UInt8)} (h : stOk s = true) (e : flds s = p0 :: ps) : cand s.k (ps.map numV) = s := by
  have hn : ps.map numV = nums s := by
    rw [← (List.cons.inj e).2, List.map_map]
    conv => rhs; rw [← List.map_id (nums s)]
    exact List.map_congr_left fun n hn => numV_itoa ((nums_small h).1 n hn)
  rw [hn, cand_nums h]
end Go.Proofs.YtpipnhceajdfkaaGreatDoor.tex

/- Small laws on rows of bytes: what 'string(b)' reads, one byte's cell, a list that grows at its end. -/
namespace Go.Proofs.YtpipnhceajdfkaaGreatDoor.byt
open Go.ChangeShapes Go.WideShapes Go.ChangeAt Go.RowKit

theorem infoByte : (Tryz.prog.info? 5).map (fun i => (i.zero, i.size, i.bytes)) = some (some (.int .u8 0), 1, 1) := by kernel_rfl

/-- 'string(b)' over a row that is owned. -/
theorem conv_own {w : World} {base : Nat} {v : Value} {n : Nat} {l : List UInt8} (h : w.ownsRow base 5 1 v n (Lib.byteCells l)) :
    (convert 22 9 v).run Tryz.prog w = .ok (.string ⟨l.toArray⟩) w := by
  have hn : n = l.length := by have := h.1; simp [Lib.byteCells] at this; omega
  subst hn
  rcases h.2 with ⟨rfl, h0⟩ | ⟨g, cap, cur, rfl, -⟩
  · have : l = [] := List.length_eq_zero_iff.1 h0
    subst this
    rw [run_convert_bytes_string w _ _ 5 _ _ _ Tryz.underlying22 Tryz.underlying5 Tryz.underlying9]
    rfl
  · exact run_convert_bytes_back (P := Tryz.prog) w 22 9 5 ⟨g, 0, none⟩ cap l Tryz.underlying22 Tryz.underlying5 Tryz.underlying9 (fun j hj => h.cells (g := g) rfl j _ (by simp [Lib.byteCells, hj]))

theorem take_snoc (s : ByteArray) (k : Nat) (h : k < s.size) : s.data.toList.take (k + 1) = s.data.toList.take k ++ [s[k]] := by
  rw [List.take_succ_eq_append_getElem (by simpa using h)]; rfl
theorem take_all (s : ByteArray) (k : Nat) (h : s.size ≤ k) : s.data.toList.take k = s.data.toList := List.take_of_length_le (by simpa using h)
theorem byteCells_app (a b : List UInt8) : Lib.byteCells (a ++ b) = Lib.byteCells a ++ Lib.byteCells b := by simp [Lib.byteCells]
end Go.Proofs.YtpipnhceajdfkaaGreatDoor.byt

/- The plain mathematics of hexadecimal text. -/
namespace Go.Proofs.YtpipnhceajdfkaaGreatDoor.hex

/-- The digit of a half byte, as a number. -/
def fig (x : Int) : Int := if x < 10 then 48 + x else 87 + x
def digit (x : Nat) : UInt8 := UInt8.ofNat (if x < 10 then 48 + x else 87 + x)
def enc1 (b : UInt8) : List UInt8 := [digit (b.toNat / 16), digit (b.toNat % 16)]
def enc (l : List UInt8) : List UInt8 := l.flatMap enc1

theorem enc_snoc (l : List UInt8) (b : UInt8) : enc (l ++ [b]) = enc l ++ enc1 b := by simp [enc]
theorem enc_length (l : List UInt8) : (enc l).length = 2 * l.length := by
  induction l with
  | nil => rfl
  | cons b l ih => simp [enc] at ih ⊢; rw [ih]; simp [enc1]; omega
theorem fig_bd (x : Int) (h0 : 0 ≤ x) (h1 : x < 16) : 48 ≤ fig x ∧ fig x ≤ 102 := by unfold fig; split <;> omega
theorem digit_toNat (x : Nat) (h : x < 16) : ((digit x).toNat : Int) = fig x := by
  unfold digit fig
  by_cases h10 : x < 10
  · rw [if_pos h10, if_pos (by omega)]; simp; omega
  · rw [if_neg h10, if_neg (by omega)]; simp; omega
theorem cells_enc1 (b : UInt8) : Lib.byteCells (enc1 b) = [Value.int .u8 (fig ((b.toNat : Int) / 16)), Value.int .u8 (fig ((b.toNat : Int) % 16))] := by
  have hb : b.toNat < 256 := b.toNat_lt
  simp only [enc1, Lib.byteCells, List.map_cons, List.map_nil]
  rw [digit_toNat _ (by omega), digit_toNat _ (by omega)]
  simp
end Go.Proofs.YtpipnhceajdfkaaGreatDoor.hex
