/- Several texts in one: PrgR. -/
import Derived.Test.YtpipnhceajdfkaaGreatDoorGEppg27
import Derived.Test.YtpipnhceajdfkaaGreatDoorGEppg32

/- Parsing a program: how far the reading has come, what a line is, how long what has been built is. Plain mathematics. -/
namespace Go.Proofs.YtpipnhceajdfkaaGreatDoor.prg
open Go Go.Proofs.YtpipnhceajdfkaaGreatDoor.stm Go.Proofs.YtpipnhceajdfkaaGreatDoor.blk Go.Proofs.YtpipnhceajdfkaaGreatDoor.tex Go.Proofs.YtpipnhceajdfkaaGreatDoor.expr Go.Proofs.YtpipnhceajdfkaaGreatDoor.spl

theorem st_yes {l : List UInt8} {s : Go.Proofs.YtpipnhceajdfkaaGreatDoor.stm.St} (h : IsParse (fieldsR l) s true) (e : text s = l) : StIs l s := by
  rcases h with ⟨_, h1, h2⟩ | ⟨h, _⟩
  · exact ⟨h1, e.symm⟩
  · cases h
theorem st_same {l : List UInt8} {s t : Go.Proofs.YtpipnhceajdfkaaGreatDoor.stm.St} {b : Bool} (h : IsParse (fieldsR l) s b) (ht : StIs l t) : s = t ∧ b = true := by
  obtain ⟨h1, h2⟩ := ht
  have h3 := (text_ok h1).2
  rw [← h2] at h3
  exact IsParse.unique h (.inl ⟨rfl, h1, h3.symm⟩)
theorem st_no {l : List UInt8} {s : Go.Proofs.YtpipnhceajdfkaaGreatDoor.stm.St} (h : IsParse (fieldsR l) s false) : ∀ t, ¬ StIs l t := fun t ht => by
  have := (st_same h ht).2; cases this
theorem st_other {l : List UInt8} {s : Go.Proofs.YtpipnhceajdfkaaGreatDoor.stm.St} (h : IsParse (fieldsR l) s true) (e : text s ≠ l) : ∀ t, ¬ StIs l t := fun t ht => by
  obtain ⟨rfl, _⟩ := st_same h ht
  exact e ht.2.symm
theorem st_valid {l : List UInt8} {s : Go.Proofs.YtpipnhceajdfkaaGreatDoor.stm.St} (h : IsParse (fieldsR l) s true) : stOk s = true := by
  rcases h with ⟨_, h1, _⟩ | ⟨h, _⟩
  · exact h1
  · cases h
theorem addSt_len : ∀ (P : List Tk) (s : Go.Proofs.YtpipnhceajdfkaaGreatDoor.stm.St), (addSt P s).length = P.length
  | [], _ => rfl
  | [t], _ => rfl
  | t :: u :: P, s => by
    show (addSt (u :: P) s).length + 1 = _
    rw [addSt_len (u :: P) s]; rfl
theorem addSt_mem {m : Nat} : ∀ (P : List Tk) (s : Go.Proofs.YtpipnhceajdfkaaGreatDoor.stm.St), (∀ t ∈ P, t.b.length ≤ m) → ∀ t ∈ addSt P s, t.b.length ≤ m + 1
  | [], _, _, t, ht => by cases ht
  | [u], s, h, t, ht => by
    have h1 := h u (List.mem_cons_self ..)
    simp only [addSt, List.mem_cons, List.not_mem_nil, or_false] at ht
    subst ht
    simp
    omega
  | u :: v :: P, s, h, t, ht => by
    rcases List.mem_cons.1 (show t ∈ u :: addSt (v :: P) s from ht) with rfl | h2
    · exact Nat.le_succ_of_le (h _ (List.mem_cons_self ..))
    · exact addSt_mem (v :: P) s (fun x hx => h x (List.mem_cons_of_mem _ hx)) t h2
theorem Built.len {A : List (List UInt8)} {P : List Tk} (h : Built A P) : P.length ≤ A.length ∧ ∀ t ∈ P, t.b.length ≤ A.length := by
  induction h with
  | nil => exact ⟨Nat.le_refl _, fun t ht => by cases ht⟩
  | @head A P l o x y h hl ih =>
    refine ⟨by simp; exact ih.1, fun t ht => ?_⟩
    rcases List.mem_append.1 ht with h1 | h1
    · have := ih.2 t h1; simp; omega
    · simp at h1; subst h1; simp
  | @st A P l s h hl ih =>
    refine ⟨by rw [addSt_len]; simp; omega, fun t ht => ?_⟩
    have := addSt_mem P s ih.2 t ht
    simpa using this
theorem lines_len : ∀ (r acc : List UInt8), (linesAux acc r).length ≤ r.length + 1
  | [], acc => by
    rw [linesAux]
    split <;> simp
  | c :: r, acc => by
    rw [linesAux]
    split
    · have := lines_len r []; simp; omega
    · have := lines_len r (acc ++ [c]); simp; omega
/-- The reading stands at byte 'i', the line begins at 'b', 'A' are the lines that have been read. -/
def At (l : List UInt8) (i b : Nat) (A : List (List UInt8)) : Prop := b ≤ i ∧ i ≤ l.length ∧ linesOf l = A ++ linesAux ((l.drop b).take (i - b)) (l.drop i)
theorem At.start (l : List UInt8) : At l 0 0 [] := ⟨Nat.le_refl _, Nat.zero_le _, by simp [linesOf]⟩
theorem piece_next {l : List UInt8} {i b : Nat} {c : UInt8} (hb : b ≤ i) (hc : l[i]? = some c) : (l.drop b).take (i + 1 - b) = (l.drop b).take (i - b) ++ [c] := by
  rw [show i + 1 - b = (i - b) + 1 by omega, List.take_add_one, List.getElem?_drop, show b + (i - b) = i by omega, hc]; rfl
theorem drop_at {l : List UInt8} {i : Nat} {c : UInt8} (hc : l[i]? = some c) : l.drop i = c :: l.drop (i + 1) := by
  obtain ⟨h, rfl⟩ := List.getElem?_eq_some_iff.1 hc
  exact List.drop_eq_getElem_cons h
theorem At.go {l : List UInt8} {i b : Nat} {A : List (List UInt8)} {c : UInt8} (h : At l i b A) (hc : l[i]? = some c) (hn : c ≠ 10) : At l (i + 1) b A := by
  obtain ⟨h1, h2, h3⟩ := h
  have hi := (List.getElem?_eq_some_iff.1 hc).1
  exact ⟨by omega, by omega, by rw [h3, drop_at hc, lines_go hn, piece_next h1 hc]⟩
theorem At.cut {l : List UInt8} {i b : Nat} {A : List (List UInt8)} (h : At l i b A) (hc : l[i]? = some 10) : At l (i + 1) (i + 1) (A ++ [(l.drop b).take (i - b)]) := by
  obtain ⟨h1, h2, h3⟩ := h
  have hi := (List.getElem?_eq_some_iff.1 hc).1
  refine ⟨Nat.le_refl _, by omega, ?_⟩
  rw [h3, drop_at hc, lines_cut]
  simp
theorem At.over {l : List UInt8} {A : List (List UInt8)} (h : At l l.length l.length A) : linesOf l = A := by
  rw [h.2.2]; simp [lines_nil]
theorem At.last {l : List UInt8} {b : Nat} {A : List (List UInt8)} (h : At l l.length b A) (hb : b < l.length) : linesOf l = A ++ [(l.drop b).take (l.length - b)] := by
  have hne : (l.drop b).take (l.length - b) ≠ [] := by
    intro e
    have := congrArg List.length e
    simp at this
    omega
  rw [h.2.2, List.drop_length, lines_end hne]
/-- The line that the reading has come to is one of the text's, the one behind those that have been read. -/
theorem At.here {l : List UInt8} {i b : Nat} {A : List (List UInt8)} (h : At l i b A) (hc : l[i]? = some 10 ∨ (i = l.length ∧ b < i)) : ∃ B, linesOf l = A ++ (l.drop b).take (i - b) :: B := by
  rcases hc with hc | ⟨rfl, hb⟩
  · exact ⟨linesAux [] (l.drop (i + 1)), by rw [h.2.2, drop_at hc, lines_cut]⟩
  · exact ⟨[], by rw [h.last hb]⟩
theorem At.few {l : List UInt8} {i b : Nat} {A : List (List UInt8)} (h : At l i b A) : A.length ≤ l.length + 1 := by
  have h1 := lines_len l []
  have h2 : (linesOf l).length = A.length + (linesAux ((l.drop b).take (i - b)) (l.drop i)).length := by rw [h.2.2, List.length_append]
  unfold linesOf at h2
  omega
/-- What the loop over the bytes keeps. -/
def Rd (l : List UInt8) (k b : Nat) (A : List (List UInt8)) (P : List Tk) : Prop := Built A P ∧ A.length ≤ l.length + 1 ∧ b ≤ l.length + 1 ∧ (At l k b A ∨ (k = l.length + 1 ∧ linesOf l = A))
theorem Rd.start (l : List UInt8) : Rd l 0 0 [] [] := ⟨.nil, by simp, by omega, .inl (At.start l)⟩
theorem Rd.at {l : List UInt8} {k b : Nat} {A : List (List UInt8)} {P : List Tk} (h : Rd l k b A P) (hk : k ≤ l.length) : At l k b A := by
  rcases h.2.2.2 with h1 | ⟨h1, _⟩
  · exact h1
  · omega
theorem Rd.skip {l : List UInt8} {k b : Nat} {A : List (List UInt8)} {P : List Tk} (h : Rd l k b A P) (hk : k ≤ l.length) (hs : (∃ c, l[k]? = some c ∧ c ≠ 10) ∨ (k = l.length ∧ b = k)) : Rd l (k + 1) b A P := by
  refine ⟨h.1, h.2.1, h.2.2.1, ?_⟩
  rcases hs with ⟨c, hc, hn⟩ | ⟨rfl, rfl⟩
  · exact .inl ((h.at hk).go hc hn)
  · exact .inr ⟨rfl, (h.at hk).over⟩
theorem Rd.next {l : List UInt8} {k b : Nat} {A : List (List UInt8)} {P Q : List Tk} (h : Rd l k b A P) (hk : k ≤ l.length) (hc : l[k]? = some 10 ∨ (k = l.length ∧ b < k)) (hB : Built (A ++ [(l.drop b).take (k - b)]) Q) : Rd l (k + 1) (k + 1) (A ++ [(l.drop b).take (k - b)]) Q := by
  have h1 := h.at hk
  rcases hc with hc | ⟨rfl, hb⟩
  · have h2 := h1.cut hc
    exact ⟨hB, h2.few, by omega, .inl h2⟩
  · have h2 := h1.last hb
    refine ⟨hB, ?_, by omega, .inr ⟨rfl, h2⟩⟩
    rw [← h2]; exact lines_len l []
theorem Rd.done {l : List UInt8} {k b : Nat} {A : List (List UInt8)} {P : List Tk} (h : Rd l k b A P) (hk : l.length < k) : Built (linesOf l) P := by
  rcases h.2.2.2 with h1 | ⟨_, h1⟩
  · have := h1.2.1; omega
  · rw [h1]; exact h.1
theorem Rd.sizes {l : List UInt8} {k b : Nat} {A : List (List UInt8)} {P : List Tk} (h : Rd l k b A P) (hl : l.length ≤ 20000) : P.length ≤ 20001 ∧ ∀ t ∈ P, t.b.length ≤ 20001 := by
  have h1 := h.1.len
  have h2 := h.2.1
  exact ⟨by omega, fun t ht => by have := h1.2 t ht; omega⟩
theorem Rd.bad {l : List UInt8} {k b : Nat} {A : List (List UInt8)} {P : List Tk} (h : Rd l k b A P) (hk : k ≤ l.length) (hc : l[k]? = some 10 ∨ (k = l.length ∧ b < k)) (hl : l.length ≤ 20000) (hb : Bad ((l.drop b).take (k - b))) : ParseIs l [] (A.length + 1) := by
  obtain ⟨B, e⟩ := (h.at hk).here hc
  exact .inr (.inl ⟨hl, A, _, B, P, e, h.1, hb, rfl, rfl⟩)
end Go.Proofs.YtpipnhceajdfkaaGreatDoor.prg
