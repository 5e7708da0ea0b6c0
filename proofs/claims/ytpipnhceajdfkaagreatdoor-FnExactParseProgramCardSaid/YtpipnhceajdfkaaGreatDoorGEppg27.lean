/- Several texts in one: PrgT PrgP. -/
import Derived.Test.YtpipnhceajdfkaaGreatDoorGEppg26
import Derived.Test.YtpipnhceajdfkaaGreatDoorGEppg6

/- The text of a program: its lines; no two valid programs have the same. Plain mathematics. -/
namespace Go.Proofs.YtpipnhceajdfkaaGreatDoor.prg
open Go Go.Proofs.YtpipnhceajdfkaaGreatDoor.stm Go.Proofs.YtpipnhceajdfkaaGreatDoor.blk Go.Proofs.YtpipnhceajdfkaaGreatDoor.tex Go.Proofs.YtpipnhceajdfkaaGreatDoor.expr

abbrev taskW : List UInt8 := [116, 97, 115, 107]
/-- The line of a task, without its newline. -/
def headL (t : Tk) : List UInt8 := taskW ++ exT t.o t.x t.y
def headT (t : Tk) : List UInt8 := headL t ++ [10]
def lineT (s : Go.Proofs.YtpipnhceajdfkaaGreatDoor.stm.St) : List UInt8 := textR s ++ [10]
def bodyT (B : List Go.Proofs.YtpipnhceajdfkaaGreatDoor.stm.St) : List UInt8 := B.flatMap lineT
def taskT (t : Tk) : List UInt8 := headT t ++ bodyT t.b
def progT (P : List Tk) : List UInt8 := P.flatMap taskT
/-- What ProgramText must give. -/
def ProgIs (P : List Tk) (T : List UInt8) : Prop := (IsPrg P ∧ T = progT P) ∨ (¬ IsPrg P ∧ T = [])
theorem progIs_ex (P : List Tk) : ∃ T, ProgIs P T := by
  rcases Classical.em (IsPrg P) with h | h
  · exact ⟨_, .inl ⟨h, rfl⟩⟩
  · exact ⟨_, .inr ⟨h, rfl⟩⟩
theorem ProgIs.unique {P : List Tk} {T U : List UInt8} (h : ProgIs P T) (h' : ProgIs P U) : T = U := by
  rcases h with ⟨h1, rfl⟩ | ⟨h1, rfl⟩ <;> rcases h' with ⟨h2, rfl⟩ | ⟨h2, rfl⟩
  · rfl
  · exact absurd h1 h2
  · exact absurd h2 h1
  · rfl
theorem headL_short {t : Tk} (h : exprOk t.o t.x t.y = true) : (headL t).length ≤ 19 := by
  obtain ⟨h1, h2, h3⟩ := expr_small h
  have := exT_short h1 h2 h3
  unfold headL; simp; omega
theorem bodyT_short : ∀ (B : List Go.Proofs.YtpipnhceajdfkaaGreatDoor.stm.St), (bodyT B).length ≤ 26 * B.length
  | [] => by simp [bodyT]
  | s :: B => by
    have h1 := bodyT_short B
    have h2 := textR_short s
    have e : bodyT (s :: B) = lineT s ++ bodyT B := by simp [bodyT]
    rw [e]
    simp [lineT]; omega
theorem bodyT_take {B : List Go.Proofs.YtpipnhceajdfkaaGreatDoor.stm.St} {k : Nat} {s : Go.Proofs.YtpipnhceajdfkaaGreatDoor.stm.St} (h : B[k]? = some s) : bodyT (B.take (k + 1)) = bodyT (B.take k) ++ lineT s := by
  rw [List.take_add_one, h]; simp [bodyT]
theorem progT_take {P : List Tk} {k : Nat} {t : Tk} (h : P[k]? = some t) : progT (P.take (k + 1)) = progT (P.take k) ++ taskT t := by
  rw [List.take_add_one, h]; simp [progT]
theorem taskT_short {t : Tk} (h : exprOk t.o t.x t.y = true) (hb : t.b.length ≤ 24) : (taskT t).length ≤ 644 := by
  have h1 := headL_short h
  have h2 := bodyT_short t.b
  unfold taskT headT; simp; omega
theorem progT_short : ∀ (P : List Tk), (∀ t ∈ P, IsBlk t.b ∧ exprOk t.o t.x t.y = true) → (progT P).length ≤ 644 * P.length
  | [], _ => by simp [progT]
  | t :: P, h => by
    have h1 := progT_short P (fun u hu => h u (List.mem_cons_of_mem _ hu))
    have h2 := h t (List.mem_cons_self ..)
    have h3 := taskT_short h2.2 h2.1.2.2
    have e : progT (t :: P) = taskT t ++ progT P := by simp [progT]
    rw [e]; simp; omega
theorem progT_take_short {P : List Tk} (h : IsPrg P) (k : Nat) : (progT (P.take k)).length ≤ 3864 := by
  have h1 := progT_short (P.take k) (fun t ht => h.2.2 t (List.mem_of_mem_take ht))
  have h2 := h.2.1
  have : (P.take k).length ≤ P.length := by simp; omega
  omega
end Go.Proofs.YtpipnhceajdfkaaGreatDoor.prg

/- What parsing a program must give: the lines of a text, what each of them is, the program that they make; the lines of a program's text make that program again. Plain mathematics. -/
namespace Go.Proofs.YtpipnhceajdfkaaGreatDoor.prg
open Go Go.Proofs.YtpipnhceajdfkaaGreatDoor.stm Go.Proofs.YtpipnhceajdfkaaGreatDoor.blk Go.Proofs.YtpipnhceajdfkaaGreatDoor.tex Go.Proofs.YtpipnhceajdfkaaGreatDoor.expr Go.Proofs.YtpipnhceajdfkaaGreatDoor.spl

/-- The lines of a text, 'acc' being what has been read of the first. -/
def linesAux : List UInt8 → List UInt8 → List (List UInt8)
  | acc, [] => if acc = [] then [] else [acc]
  | acc, c :: r => if c = 10 then acc :: linesAux [] r else linesAux (acc ++ [c]) r
def linesOf (l : List UInt8) : List (List UInt8) := linesAux [] l
theorem lines_cut (acc r : List UInt8) : linesAux acc (10 :: r) = acc :: linesAux [] r := by rw [linesAux, if_pos rfl]
theorem lines_go {c : UInt8} (h : c ≠ 10) (acc r : List UInt8) : linesAux acc (c :: r) = linesAux (acc ++ [c]) r := by rw [linesAux, if_neg h]
theorem lines_nil : linesAux [] [] = [] := by rw [linesAux, if_pos rfl]
theorem lines_end {acc : List UInt8} (h : acc ≠ []) : linesAux acc [] = [acc] := by rw [linesAux, if_neg h]
theorem lines_app : ∀ (a : List UInt8) (acc r : List UInt8), (∀ c ∈ a, c ≠ 10) → linesAux acc (a ++ 10 :: r) = (acc ++ a) :: linesAux [] r
  | [], acc, r, _ => by rw [List.nil_append, lines_cut, List.append_nil]
  | c :: a, acc, r, h => by
    rw [List.cons_append, lines_go (h c (List.mem_cons_self ..)), lines_app a (acc ++ [c]) r (fun d hd => h d (List.mem_cons_of_mem _ hd))]
    simp
/-- The line is the line of a task. -/
def HeadIs (l : List UInt8) (o x y : Int) : Prop := exprOk o x y = true ∧ l = taskW ++ exT o x y
/-- The line is the text of a statement. -/
def StIs (l : List UInt8) (s : Go.Proofs.YtpipnhceajdfkaaGreatDoor.stm.St) : Prop := stOk s = true ∧ l = text s
def Bad (l : List UInt8) : Prop := (∀ o x y, ¬ HeadIs l o x y) ∧ ∀ s, ¬ StIs l s
def headF (o x y : Int) : List (List UInt8) := taskW :: [o, x, y].map Lib.itoa
theorem head_join (o x y : Int) : taskW ++ exT o x y = Lib.join (headF o x y) [32] := by unfold headF exT; rw [Lib.join_cons]
theorem headF_good (o x y : Int) : ∀ f ∈ headF o x y, f ≠ [] ∧ ∀ c ∈ f, goodC c := by
  intro f hf
  rcases List.mem_cons.1 hf with rfl | hf
  · refine ⟨by decide, fun c hc => ?_⟩
    simp at hc
    rcases hc with rfl | rfl | rfl | rfl <;> (unfold goodC; decide)
  · obtain ⟨n, _, rfl⟩ := List.mem_map.1 hf
    exact ⟨itoa_ne n, itoa_good n⟩
theorem head_fields (o x y : Int) : fieldsOf (taskW ++ exT o x y) = headF o x y := by rw [head_join]; exact fieldsOf_join (by simp [headF]) (headF_good o x y)
theorem word_ne (k : Int) : word k ≠ taskW := by unfold word; split <;> (try split) <;> (try split) <;> (try split) <;> (try split) <;> decide
theorem head_not_st {l : List UInt8} {o x y : Int} {s : Go.Proofs.YtpipnhceajdfkaaGreatDoor.stm.St} (h : HeadIs l o x y) (h' : StIs l s) : False := by
  have e := head_fields o x y
  rw [← h.2, h'.2, fieldsOf_text] at e
  unfold flds headF at e
  exact word_ne _ (List.cons.inj e).1
theorem head_unique {l : List UInt8} {o x y o' x' y' : Int} (h : HeadIs l o x y) (h' : HeadIs l o' x' y') : o = o' ∧ x = x' ∧ y = y' := by
  have e := head_fields o x y
  rw [← h.2, h'.2, head_fields] at e
  unfold headF at e
  have e2 := (List.cons.inj e).2
  simp at e2
  exact ⟨itoa_inj e2.1.symm, itoa_inj e2.2.1.symm, itoa_inj e2.2.2.symm⟩
theorem st_unique {l : List UInt8} {s t : Go.Proofs.YtpipnhceajdfkaaGreatDoor.stm.St} (h : StIs l s) (h' : StIs l t) : s = t := by
  have e := fieldsOf_text s
  rw [← h.2, h'.2, fieldsOf_text] at e
  exact flds_inj h.1 h'.1 e.symm
/-- A statement behind the last task's. -/
def addSt : List Tk → Go.Proofs.YtpipnhceajdfkaaGreatDoor.stm.St → List Tk
  | [], _ => []
  | [t], s => [{ t with b := t.b ++ [s] }]
  | t :: u :: P, s => t :: addSt (u :: P) s
theorem addSt_snoc : ∀ (P : List Tk) (t : Tk) (s : Go.Proofs.YtpipnhceajdfkaaGreatDoor.stm.St), addSt (P ++ [t]) s = P ++ [{ t with b := t.b ++ [s] }]
  | [], _, _ => rfl
  | [u], t, s => rfl
  | u :: v :: P, t, s => by
    have := addSt_snoc (v :: P) t s
    show u :: addSt (v :: (P ++ [t])) s = _
    rw [show v :: (P ++ [t]) = (v :: P) ++ [t] from rfl, this]; rfl
/-- The lines make this list of tasks. -/
inductive Built : List (List UInt8) → List Tk → Prop
  | nil : Built [] []
  | head {A : List (List UInt8)} {P : List Tk} {l : List UInt8} {o x y : Int} (h : Built A P) (hl : HeadIs l o x y) : Built (A ++ [l]) (P ++ [⟨[], o, x, y⟩])
  | st {A : List (List UInt8)} {P : List Tk} {l : List UInt8} {s : Go.Proofs.YtpipnhceajdfkaaGreatDoor.stm.St} (h : Built A P) (hl : StIs l s) : Built (A ++ [l]) (addSt P s)
theorem snoc_inj {α : Type} {A B : List α} {a b : α} (h : A ++ [a] = B ++ [b]) : A = B ∧ a = b := by
  have := List.append_inj' h rfl
  exact ⟨this.1, (List.cons.inj this.2).1⟩
theorem Built.unique {A : List (List UInt8)} {P : List Tk} (h : Built A P) : ∀ {Q}, Built A Q → P = Q := by
  induction h with
  | nil =>
    intro Q h'
    generalize hA : ([] : List (List UInt8)) = A at h'
    cases h' with
    | nil => rfl
    | head => exact absurd hA (by simp)
    | st => exact absurd hA (by simp)
  | @head A P l o x y h hl ih =>
    intro Q h'
    generalize hA : A ++ [l] = B at h'
    cases h' with
    | nil => exact absurd hA (by simp)
    | head h1 h2 =>
      obtain ⟨rfl, rfl⟩ := snoc_inj hA
      obtain ⟨rfl, rfl, rfl⟩ := head_unique hl h2
      rw [ih h1]
    | st h1 h2 =>
      obtain ⟨rfl, rfl⟩ := snoc_inj hA
      exact (head_not_st hl h2).elim
  | @st A P l s h hl ih =>
    intro Q h'
    generalize hA : A ++ [l] = B at h'
    cases h' with
    | nil => exact absurd hA (by simp)
    | head h1 h2 =>
      obtain ⟨rfl, rfl⟩ := snoc_inj hA
      exact (head_not_st h2 hl).elim
    | st h1 h2 =>
      obtain ⟨rfl, rfl⟩ := snoc_inj hA
      obtain rfl := st_unique hl h2
      rw [ih h1]
theorem Built.good {A : List (List UInt8)} {P : List Tk} (h : Built A P) : ∀ l ∈ A, ¬ Bad l := by
  induction h with
  | nil => intro l hl; cases hl
  | head h hl ih =>
    intro m hm
    rcases List.mem_append.1 hm with h1 | h1
    · exact ih m h1
    · simp at h1; subst h1; exact fun hb => hb.1 _ _ _ hl
  | st h hl ih =>
    intro m hm
    rcases List.mem_append.1 hm with h1 | h1
    · exact ih m h1
    · simp at h1; subst h1; exact fun hb => hb.2 _ hl
/-- What ParseProgram must give. -/
def ParseIs (T : List UInt8) (P : List Tk) (n : Int) : Prop :=
  (20000 < T.length ∧ P = [] ∧ n = -1) ∨
  (T.length ≤ 20000 ∧ ∃ (A : List (List UInt8)) (l : List UInt8) (B : List (List UInt8)) (Q : List Tk), linesOf T = A ++ l :: B ∧ Built A Q ∧ Bad l ∧ P = [] ∧ n = A.length + 1) ∨
  (T.length ≤ 20000 ∧ Built (linesOf T) P ∧ IsPrg P ∧ progT P = T ∧ n = 0) ∨
  (T.length ≤ 20000 ∧ ∃ Q, Built (linesOf T) Q ∧ ¬ (IsPrg Q ∧ progT Q = T) ∧ P = [] ∧ n = -2)
theorem first_bad {A A' B B' : List (List UInt8)} {l l' : List UInt8} (h : A ++ l :: B = A' ++ l' :: B') (h1 : ∀ m ∈ A, ¬ Bad m) (h2 : Bad l) (h1' : ∀ m ∈ A', ¬ Bad m) (h2' : Bad l') : A.length = A'.length := by
  rcases Nat.lt_trichotomy A.length A'.length with hlt | he | hlt
  · have e : (A ++ l :: B)[A.length]? = some l := by rw [List.getElem?_append_right (Nat.le_refl _), Nat.sub_self]; rfl
    rw [h, List.getElem?_append_left hlt] at e
    exact absurd h2 (h1' l (List.mem_of_getElem? e))
  · exact he
  · have e : (A' ++ l' :: B')[A'.length]? = some l' := by rw [List.getElem?_append_right (Nat.le_refl _), Nat.sub_self]; rfl
    rw [← h, List.getElem?_append_left hlt] at e
    exact absurd h2' (h1 l' (List.mem_of_getElem? e))
theorem ParseIs.unique {T : List UInt8} {P Q : List Tk} {n m : Int} (h : ParseIs T P n) (h' : ParseIs T Q m) : P = Q ∧ n = m := by
  rcases h with ⟨a, rfl, rfl⟩ | ⟨a, A, l, B, R, e, hB, hb, rfl, rfl⟩ | ⟨a, hB, hp, ht, rfl⟩ | ⟨a, R, hB, hn, rfl, rfl⟩ <;>
  rcases h' with ⟨a', rfl, rfl⟩ | ⟨a', A', l', B', R', e', hB', hb', rfl, rfl⟩ | ⟨a', hB', hp', ht', rfl⟩ | ⟨a', R', hB', hn', rfl, rfl⟩
  case inl.inl => exact ⟨rfl, rfl⟩
  case inr.inl.inr.inl => exact ⟨rfl, by rw [first_bad (e.symm.trans e') hB.good hb hB'.good hb']⟩
  case inr.inl.inr.inr.inl => exact absurd hb (hB'.good l (by rw [e]; simp))
  case inr.inl.inr.inr.inr => exact absurd hb (hB'.good l (by rw [e]; simp))
  case inr.inr.inl.inr.inl => exact absurd hb' (hB.good l' (by rw [e']; simp))
  case inr.inr.inl.inr.inr.inl => exact ⟨hB.unique hB', rfl⟩
  case inr.inr.inl.inr.inr.inr => obtain rfl := hB.unique hB'; exact absurd ⟨hp, ht⟩ hn'
  case inr.inr.inr.inr.inl => exact absurd hb' (hB.good l' (by rw [e']; simp))
  case inr.inr.inr.inr.inr.inl => obtain rfl := hB.unique hB'; exact absurd ⟨hp', ht'⟩ hn
  case inr.inr.inr.inr.inr.inr => exact ⟨rfl, rfl⟩
  all_goals omega
theorem good_ne10 {c : UInt8} (h : goodC c) : c ≠ 10 := by
  rintro rfl
  unfold goodC at h
  revert h; decide
theorem headL_ne10 (t : Tk) : ∀ c ∈ headL t, c ≠ 10 := by
  intro c hc
  unfold headL at hc
  rw [exT_eq] at hc
  simp only [List.mem_append, List.mem_cons, List.not_mem_nil, or_false] at hc
  have h32 : ∀ d : UInt8, d = 32 → d ≠ 10 := fun d hd => by subst hd; decide
  rcases hc with (rfl | rfl | rfl | rfl) | (((((h | h) | h) | h) | h) | h)
  · decide
  · decide
  · decide
  · decide
  · exact h32 c h
  · exact good_ne10 (itoa_good _ c h)
  · exact h32 c h
  · exact good_ne10 (itoa_good _ c h)
  · exact h32 c h
  · exact good_ne10 (itoa_good _ c h)
theorem text_ne10 (s : Go.Proofs.YtpipnhceajdfkaaGreatDoor.stm.St) : ∀ c ∈ text s, c ≠ 10 := fun c hc e => by
  have := text_bytes s c hc
  subst e
  exact absurd this.1 (by decide)
theorem lines_body : ∀ (B : List Go.Proofs.YtpipnhceajdfkaaGreatDoor.stm.St) (r : List UInt8), (∀ s ∈ B, stOk s = true) → linesAux [] (bodyT B ++ r) = B.map text ++ linesAux [] r
  | [], r, _ => by simp [bodyT]
  | s :: B, r, h => by
    have e : bodyT (s :: B) ++ r = text s ++ 10 :: (bodyT B ++ r) := by
      simp [bodyT, lineT, textR_ok (h s (List.mem_cons_self ..))]
    rw [e, lines_app _ _ _ (text_ne10 s), lines_body B r (fun u hu => h u (List.mem_cons_of_mem _ hu))]
    simp
def lns (t : Tk) : List (List UInt8) := headL t :: t.b.map text
def TkV (t : Tk) : Prop := (∀ s ∈ t.b, stOk s = true) ∧ exprOk t.o t.x t.y = true
theorem lines_prog : ∀ (P : List Tk), (∀ t ∈ P, TkV t) → linesAux [] (progT P) = P.flatMap lns
  | [], _ => by simp [progT, lines_nil]
  | t :: P, h => by
    have e : progT (t :: P) = headL t ++ 10 :: (bodyT t.b ++ progT P) := by simp [progT, taskT, headT]
    rw [e, lines_app _ _ _ (headL_ne10 t), lines_body t.b _ (h t (List.mem_cons_self ..)).1, lines_prog P (fun u hu => h u (List.mem_cons_of_mem _ hu))]
    simp [lns]
theorem built_body : ∀ (B : List Go.Proofs.YtpipnhceajdfkaaGreatDoor.stm.St) (A : List (List UInt8)) (Q : List Tk) (t : Tk), Built A (Q ++ [t]) → (∀ s ∈ B, stOk s = true) → Built (A ++ B.map text) (Q ++ [{ t with b := t.b ++ B }])
  | [], A, Q, t, h, _ => by simpa using h
  | s :: B, A, Q, t, h, hB => by
    have h1 := Built.st (s := s) h ⟨hB s (List.mem_cons_self ..), rfl⟩
    rw [addSt_snoc] at h1
    have h2 := built_body B _ Q _ h1 (fun u hu => hB u (List.mem_cons_of_mem _ hu))
    simpa using h2
theorem built_prog : ∀ (P : List Tk) (A : List (List UInt8)) (Q : List Tk), Built A Q → (∀ t ∈ P, TkV t) → Built (A ++ P.flatMap lns) (Q ++ P)
  | [], A, Q, h, _ => by simpa using h
  | t :: P, A, Q, h, hP => by
    have ht := hP t (List.mem_cons_self ..)
    have h1 := Built.head (o := t.o) (x := t.x) (y := t.y) h ⟨ht.2, rfl⟩
    have h2 := built_body t.b _ Q _ h1 ht.1
    have h3 := built_prog P _ _ h2 (fun u hu => hP u (List.mem_cons_of_mem _ hu))
    simpa [lns, headL] using h3
theorem prg_tkV {P : List Tk} (h : IsPrg P) : ∀ t ∈ P, TkV t := fun t ht =>
  ⟨fun s hs => by
    obtain ⟨j, hj⟩ := List.mem_iff_getElem?.1 hs
    exact blk_stOk (h.2.2 t ht).1 hj, (h.2.2 t ht).2⟩
/-- The text of a valid program is parsed to that program. -/
theorem parse_prog {P : List Tk} (h : IsPrg P) : ParseIs (progT P) P 0 := by
  have hs := progT_short P h.2.2
  have := h.2.1
  refine .inr (.inr (.inl ⟨by omega, ?_, h, rfl, rfl⟩))
  have h1 := built_prog P [] [] .nil (prg_tkV h)
  unfold linesOf
  rw [lines_prog P (prg_tkV h)]
  simpa using h1
theorem progT_ne {P : List Tk} (h : IsPrg P) : progT P ≠ [] := by
  cases P with
  | nil => have := h.1; simp at this
  | cons t P => simp [progT, taskT, headT, headL]
end Go.Proofs.YtpipnhceajdfkaaGreatDoor.prg
