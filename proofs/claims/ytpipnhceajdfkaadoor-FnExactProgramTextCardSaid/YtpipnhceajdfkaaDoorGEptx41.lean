/- Several texts in one: PrgT. -/
import Derived.Test.YtpipnhceajdfkaaDoorGEptx40
import Derived.Test.YtpipnhceajdfkaaDoorGEptx10

/- The text of a program: its lines; no two valid programs have the same. Plain mathematics. -/
namespace Go.Proofs.YtpipnhceajdfkaaDoor.prg
open Go Go.Proofs.YtpipnhceajdfkaaDoor.stm Go.Proofs.YtpipnhceajdfkaaDoor.blk Go.Proofs.YtpipnhceajdfkaaDoor.tex Go.Proofs.YtpipnhceajdfkaaDoor.expr

abbrev taskW : List UInt8 := [116, 97, 115, 107]
/-- The line of a task, without its newline. -/
def headL (t : Tk) : List UInt8 := taskW ++ exT t.o t.x t.y
def headT (t : Tk) : List UInt8 := headL t ++ [10]
def lineT (s : Go.Proofs.YtpipnhceajdfkaaDoor.stm.St) : List UInt8 := textR s ++ [10]
def bodyT (B : List Go.Proofs.YtpipnhceajdfkaaDoor.stm.St) : List UInt8 := B.flatMap lineT
def taskT (t : Tk) : List UInt8 := headT t ++ bodyT t.b
def progT (P : List Tk) : List UInt8 := P.flatMap taskT
/-- What ProgramText must give. -/
def ProgIs (P : List Tk) (T : List UInt8) : Prop := (IsPrg P ∧ T = progT P) ∨ (¬ IsPrg P ∧ T = [])
theorem progIs_ex (P : List Tk) : ∃ T, ProgIs P T := by
  rcases Classical.em (IsPrg P) with h | h
  · exact ⟨_, .inl ⟨h, rfl⟩⟩
  · exact ⟨_, .inr ⟨h, rfl⟩⟩
theorem ProgIs.unique {P : List Tk} {T U : List UInt8} (h : ProgIs P T) (h' : ProgIs P U) : T = U := by
  rcases h with ⟨h1, rfl⟩ | ⟨h1, rfl⟩ <;> rcases h' with ⟨h2, rfl⟩ | ⟨h2, rfl⟩
  · rfl
  · exact absurd h1 h2
  · exact absurd h2 h1
  · rfl
theorem headL_short {t : Tk} (h : exprOk t.o t.x t.y = true) : (headL t).length ≤ 19 := by
  obtain ⟨h1, h2, h3⟩ := expr_small h
  have := exT_short h1 h2 h3
  unfold headL; simp; omega
theorem bodyT_short : ∀ (B : List Go.Proofs.YtpipnhceajdfkaaDoor.stm.St), (bodyT B).length ≤ 26 * B.length
  | [] => by simp [bodyT]
  | s :: B => by
    have h1 := bodyT_short B
    have h2 := textR_short s
    have e : bodyT (s :: B) = lineT s ++ bodyT B := by simp [bodyT]
    rw [e]
    simp [lineT]; omega
theorem bodyT_take {B : List Go.Proofs.YtpipnhceajdfkaaDoor.stm.St} {k : Nat} {s : Go.Proofs.YtpipnhceajdfkaaDoor.stm.St} (h : B[k]? = some s) : bodyT (B.take (k + 1)) = bodyT (B.take k) ++ lineT s := by
  rw [List.take_add_one, h]; simp [bodyT]
theorem progT_take {P : List Tk} {k : Nat} {t : Tk} (h : P[k]? = some t) : progT (P.take (k + 1)) = progT (P.take k) ++ taskT t := by
  rw [List.take_add_one, h]; simp [progT]
theorem taskT_short {t : Tk} (h : exprOk t.o t.x t.y = true) (hb : t.b.length ≤ 24) : (taskT t).length ≤ 644 := by
  have h1 := headL_short h
  have h2 := bodyT_short t.b
  unfold taskT headT; simp; omega
theorem progT_short : ∀ (P : List Tk), (∀ t ∈ P, IsBlk t.b ∧ exprOk t.o t.x t.y = true) → (progT P).length ≤ 644 * P.length
  | [], _ => by simp [progT]
  | t :: P, h => by
    have h1 := progT_short P (fun u hu => h u (List.mem_cons_of_mem _ hu))
    have h2 := h t (List.mem_cons_self ..)
    have h3 := taskT_short h2.2 h2.1.2.2
    have e : progT (t :: P) = taskT t ++ progT P := by simp [progT]
    rw [e]; simp; omega
theorem progT_take_short {P : List Tk} (h : IsPrg P) (k : Nat) : (progT (P.take k)).length ≤ 3864 := by
  have h1 := progT_short (P.take k) (fun t ht => h.2.2 t (List.mem_of_mem_take ht))
  have h2 := h.2.1
  have : (P.take k).length ≤ P.length := by simp; omega
  omega
end Go.Proofs.YtpipnhceajdfkaaDoor.prg
