/- Several texts in one: PrgW. -/
import Derived.Test.YtodlbbojjnkneaaGHub20
import Derived.Test.YtodlbbojjnkneaaGHub12
import Derived.Deep.RegionHeld3
import Derived.IntWalk

/- Chapter 6's model: ProgramOk, NextTask: what the plain relations say; nothing that was there is written. -/
namespace Go.Proofs.Ytodlbbojjnkneaa.prg
open Go Go.ChangeShapes Go.WideShapes Go.ChangeAt Go.RowKit Go.Proofs.Ytodlbbojjnkneaa.row Go.Proofs.Ytodlbbojjnkneaa.val Go.Proofs.Ytodlbbojjnkneaa.expr Go.Proofs.Ytodlbbojjnkneaa.stm Go.Proofs.Ytodlbbojjnkneaa.blk

/-- Each task ahead of 'k' is valid. -/
def OkTasks (P : List Tk) (k : Nat) : Prop := ∀ j t, j < k → P[j]? = some t → IsBlk t.b ∧ exprOk t.o t.x t.y = true
theorem OkTasks.zero (P : List Tk) : OkTasks P 0 := fun j t h => by omega
theorem OkTasks.next {P : List Tk} {k : Nat} {t : Tk} (h : OkTasks P k) (ht : P[k]? = some t) (hb : IsBlk t.b) (he : exprOk t.o t.x t.y = true) : OkTasks P (k + 1) := fun j t' hj ht' => by
  by_cases e : j = k
  · subst e; rw [ht] at ht'; cases ht'; exact ⟨hb, he⟩
  · exact h j t' (by omega) ht'
theorem isPrg_iff {P : List Tk} : IsPrg P ↔ (1 ≤ P.length ∧ P.length ≤ 6) ∧ OkTasks P P.length := by
  refine ⟨fun h => ⟨⟨h.1, h.2.1⟩, fun j t _ ht => h.2.2 t (mem_at ht)⟩, fun h => ⟨h.1.1, h.1.2, fun t ht => ?_⟩⟩
  obtain ⟨j, hj⟩ := List.mem_iff_getElem?.1 ht
  exact h.2 j t (List.getElem?_eq_some_iff.1 hj).1 hj
theorem not_prg {P : List Tk} {k : Nat} {t : Tk} (ht : P[k]? = some t) (h : ¬ IsBlk t.b ∨ exprOk t.o t.x t.y = false) : ¬ IsPrg P := fun hp => by
  have := hp.2.2 t (mem_at ht)
  rcases h with h | h
  · exact h this.1
  · rw [h] at this; exact absurd this.2 (by decide)
theorem prg_dec (P : List Tk) : ∃ r : Bool, r = true ↔ IsPrg P := by
  rcases Classical.em (IsPrg P) with h | h
  · exact ⟨true, fun _ => h, fun _ => rfl⟩
  · exact ⟨false, fun e => (by cases e), fun e => absurd e h⟩
/-- The program's argument: its block, and what lies behind. -/
abbrev PrgW (w W : World) (a : Option Addr) (n cap : Nat) (P : List Tk) : Prop :=
  W.cell? ⟨w.heap.size, 0, none⟩ = some (.slice a n cap) ∧ TkRow W a n P ∧ Below w.heap.size w W ∧ W.heap.size = w.heap.size + 1
theorem prgW_new (w : World) (a : Option Addr) (n cap : Nat) (P : List Tk) (t : TypeId) (h : TkRow w a n P) : PrgW w (w.alloc (.cells #[.slice a n cap] t)) a n cap P :=
  ⟨(Box.new w #[.slice a n cap] t).cell 0, h.below (below_new w _), below_new w _, by simp⟩
/-- The remainder from 0 on. -/
def nx (v : Int) (n : Nat) : Int := if v.tmod n < 0 then v.tmod n + n else v.tmod n
theorem tmod_bds {v : Int} {n : Nat} (hn : 0 < n) : -(n : Int) < v.tmod n ∧ v.tmod n < n := ⟨Int.lt_tmod_of_pos v (by omega), Int.tmod_lt_of_pos v (by omega)⟩
theorem nx_range {v : Int} {n : Nat} (hn : 0 < n) : 0 ≤ nx v n ∧ nx v n < n := by
  have := tmod_bds (v := v) hn
  unfold nx; split <;> omega
theorem nx_emod {v : Int} {n : Nat} (hn : 0 < n) : nx v n = v % (n : Int) := by
  have h1 := nx_range (v := v) hn
  have h2 : nx v n = (nx v n) % (n : Int) := (Int.emod_eq_of_lt h1.1 h1.2).symm
  rw [h2]
  have h3 : v = (n : Int) * v.tdiv n + v.tmod n := (Int.mul_tdiv_add_tmod v n).symm
  unfold nx
  split
  · rw [Int.add_emod_right]; conv => rhs; rw [h3]
    rw [Int.add_comm, Int.add_mul_emod_self_left]
  · conv => rhs; rw [h3]
    rw [Int.add_comm, Int.add_mul_emod_self_left]
/-- What NextTask must give. -/
def NextIs (P : List Tk) (V : List Int) (i x : Int) : Prop :=
  (∃ (j : Nat) (t : Tk), i = j ∧ P[j]? = some t ∧ IsPrg P ∧ varsOk V = true ∧ x = nx (evalV V t.o t.x t.y) P.length) ∨ (x = -1 ∧ (¬ IsPrg P ∨ varsOk V = false ∨ i < 0 ∨ (P.length : Int) ≤ i))
theorem nextIs_ex (P : List Tk) (V : List Int) (i : Int) : ∃ x, NextIs P V i x := by
  rcases Classical.em (IsPrg P) with hp | hp
  · cases hv : varsOk V
    · exact ⟨-1, .inr ⟨rfl, .inr (.inl hv)⟩⟩
    · rcases (show i < 0 ∨ (P.length : Int) ≤ i ∨ (0 ≤ i ∧ i < P.length) by omega) with h | h | h
      · exact ⟨-1, .inr ⟨rfl, .inr (.inr (.inl h))⟩⟩
      · exact ⟨-1, .inr ⟨rfl, .inr (.inr (.inr h))⟩⟩
      · obtain ⟨j, rfl⟩ : ∃ j : Nat, i = j := ⟨i.toNat, by omega⟩
        obtain ⟨t, ht⟩ := prg_at (show j < P.length by omega)
        exact ⟨_, .inl ⟨j, t, rfl, ht, hp, hv, rfl⟩⟩
  · exact ⟨-1, .inr ⟨rfl, .inl hp⟩⟩
theorem NextIs.not {P : List Tk} {V : List Int} {i x : Int} (h : NextIs P V i x) (hn : ¬ IsPrg P ∨ varsOk V = false ∨ i < 0 ∨ (P.length : Int) ≤ i) : x = -1 := by
  rcases h with ⟨j, t, rfl, ht, hp, hv, rfl⟩ | ⟨rfl, _⟩
  · have := (List.getElem?_eq_some_iff.1 ht).1
    rcases hn with h | h | h | h
    · exact absurd hp h
    · rw [h] at hv; cases hv
    · omega
    · omega
  · rfl
theorem NextIs.yes {P : List Tk} {V : List Int} {j : Nat} {x : Int} {t : Tk} (h : NextIs P V j x) (hp : IsPrg P) (hv : varsOk V = true) (ht : P[j]? = some t) : x = nx (evalV V t.o t.x t.y) P.length := by
  have := (List.getElem?_eq_some_iff.1 ht).1
  rcases h with ⟨j', t', hj, ht', _, _, rfl⟩ | ⟨_, h⟩
  · obtain rfl : j = j' := by omega
    rw [ht] at ht'; cases ht'; rfl
  · rcases h with h | h | h | h
    · exact absurd hp h
    · rw [h] at hv; cases hv
    · omega
    · omega
theorem ev_small (V : List Int) (o a b : Int) : -1000000 ≤ evalV V o a b ∧ evalV V o a b ≤ 1000000 := by
  have := evalV_val V o a b
  unfold isVal at this
  simp at this
  exact this
end Go.Proofs.Ytodlbbojjnkneaa.prg
