/- Several texts in one: SetE SetF SetG LogA ExeF. -/
import Derived.Test.YtndpadnjjbbkkaaGreatGHub40
import Derived.Test.YtndpadnjjbbkkaaGreatGHub20
import Derived.Deep.AppendLies
import Derived.Test.YtndpadnjjbbkkaaGreatGHub14
import Derived.Test.YtndpadnjjbbkkaaGreatGHub33
import Derived.Test.YtndpadnjjbbkkaaGreatGHub15

/- The model's l07Note: what an expression reads and is not written yet. -/
namespace Go.Proofs.YtndpadnjjbbkkaaGreat.sets
open Go Go.ChangeShapes Go.WideShapes Go.ChangeAt Go.RowKit Go.Proofs.YtndpadnjjbbkkaaGreat.row Go.Proofs.YtndpadnjjbbkkaaGreat.val Go.Proofs.YtndpadnjjbbkkaaGreat.stm Go.Proofs.YtndpadnjjbbkkaaGreat.blk Go.Proofs.YtndpadnjjbbkkaaGreat.expr

theorem rd_nat {a b x : Int} (h : x ∈ rd a b 8) : ∃ v : Nat, x = v ∧ v < 8 := by
  unfold rd at h
  obtain ⟨v, hv, rfl⟩ := List.mem_map.1 h
  exact ⟨v, rfl, List.mem_range.1 (List.mem_filter.1 hv).1⟩
theorem take_mem {L : List Int} {k v : Nat} {x : Int} (h : L[k]? = some x) : (v : Int) ∈ L.take (k + 1) ↔ (v : Int) ∈ L.take k ∨ (v : Int) = x := by
  rw [List.take_add_one, h]; simp
theorem Bset.grown {g : Nat} {f : Nat → Bool} {w w' : World} {r : Option Nat} (h : Bset g f w) (hg : w.grownBy w' r) (hn : some g ≠ r) : Bset g f w' := h.same (hg.block g h.lt hn)
/-- What noting leaves: the set at 'gf' has what is read and not in 'W'. -/
def Noted (gf : Nat) (F W : Nat → Bool) (L : List Int) (w : World) (e : Ending) (w' : World) : Prop :=
  e = .returned (.tuple #[]) ∧ w.grownBy w' (some gf) ∧ ∃ F', Hid (Bset gf F' w' ∧ Is F' (fun v => F v = true ∨ ((v : Int) ∈ L ∧ W v = false)))
end Go.Proofs.YtndpadnjjbbkkaaGreat.sets

/- The model's l07Pass: the sets are carried through a part of a block. -/
namespace Go.Proofs.YtndpadnjjbbkkaaGreat.sets
open Go Go.ChangeShapes Go.WideShapes Go.ChangeAt Go.RowKit Go.Proofs.YtndpadnjjbbkkaaGreat.row Go.Proofs.YtndpadnjjbbkkaaGreat.val Go.Proofs.YtndpadnjjbbkkaaGreat.stm Go.Proofs.YtndpadnjjbbkkaaGreat.blk Go.Proofs.YtndpadnjjbbkkaaGreat.expr

/-- Of what was there only the blocks 'f' and 'g' are written. -/
def Two (f g : Nat) (w w' : World) : Prop := Below 0 w w' ∧ ∀ k, k < w.heap.size → k ≠ f → k ≠ g → w'.heap[k]? = w.heap[k]?
section
variable {f g f' g' n : Nat} {w w1 w2 : World}
theorem Two.refl (f g : Nat) (w : World) : Two f g w w := ⟨Below.refl 0 w, fun _ _ _ _ => rfl⟩
theorem Two.trans (h : Two f g w w1) (h' : Two f g w1 w2) : Two f g w w2 := ⟨h.1.trans h'.1, fun k hk h1 h2 => (h'.2 k (Nat.lt_of_lt_of_le hk h.1.size) h1 h2).trans (h.2 k hk h1 h2)⟩
theorem Two.of_grown {r : Nat} (h : w.grownBy w1 (some r)) (hr : r = f ∨ r = g) : Two f g w w1 := ⟨⟨h.os, h.tape, h.output, h.size, fun k hk => by omega⟩, fun k hk h1 h2 => h.block k hk (fun e => by have := Option.some.inj e; omega)⟩
theorem Two.of_below (h : Below w.heap.size w w1) : Two f g w w1 := ⟨h.mono (Nat.zero_le _), fun k hk _ _ => h.block k hk⟩
/-- A third block that is new counts for nothing. -/
theorem Two.skip (h : Two f g w w1) (h' : Two f g' w1 w2) (hn : w.heap.size ≤ g') : Two f g w w2 := ⟨h.1.trans h'.1, fun k hk h1 h2 => (h'.2 k (Nat.lt_of_lt_of_le hk h.1.size) h1 (by omega)).trans (h.2 k hk h1 h2)⟩
theorem Two.lift {B : Nat} (h : Two f g w w1) (hB : B ≤ w.heap.size) (hf : B ≤ f) (hg : B ≤ g) : Below B w w1 := ⟨h.1.os, h.1.tape, h.1.output, h.1.size, fun k hk => h.2 k (by omega) (by omega) (by omega)⟩
theorem Bset.two {x : Nat} {F : Nat → Bool} (h : Bset x F w) (ht : Two f g w w1) (h1 : x ≠ f) (h2 : x ≠ g) : Bset x F w1 := h.same (ht.2 x h.lt h1 h2)
/-- The list's block is none of the two. -/
def Far2 (n : Nat) (a : Option Addr) (f g : Nat) : Prop := 0 < n → ∀ b off, a = some ⟨b, off, none⟩ → b ≠ f ∧ b ≠ g
theorem row_two {a : Option Addr} {B : List Sm} (h : StRow w a n B) (ht : Two f g w w1) (hfar : Far2 n a f g) : StRow w1 a n B := ⟨h.1, fun k hk => by
  obtain ⟨b, off, s, ha, hlt, hs, hr⟩ := h.2 k hk
  have h9 := ht.2 b hlt (hfar (by omega) b off ha).1 (hfar (by omega) b off ha).2
  exact ⟨b, off, s, ha, Nat.lt_of_lt_of_le hlt ht.1.size, hs, fun j v hj => (World.cell?_of_block h9).trans (hr j v hj)⟩⟩
end
theorem row_lt {w : World} {n k : Nat} {B : List Sm} {b off : Nat} (h : StRow w (some ⟨b, off, none⟩) n B) (hk : k < n) : b < w.heap.size := by
  obtain ⟨b', off', s, ha, hlt, _⟩ := h.2 k hk
  cases ha; exact hlt
theorem end_open {B : List Sm} {i p e : Nat} (h : IsEnd B i e) (h' : IsEnd B p e) : i = p := by
  rcases Nat.lt_trichotomy i p with hlt | rfl | hlt
  · have := end_in h' h hlt (by have := h'.1; omega); omega
  · rfl
  · have := end_in h h' hlt (by have := h.1; omega); omega
theorem Is.neg {f : Nat → Bool} {p : Nat → Prop} (h : Is f p) {v : Nat} (hv : v < 8) : f v = false ↔ ¬ p v := by
  rw [← h v hv]; simp
/-- The set of what has been read first, one statement on, where the statement reads. -/
theorem Is.note {F F' W : Nat → Bool} {B : List Sm} {p : Nat} {s : Sm} (hs : B[p]? = some s) (hr : rds s) (hF : Is F (FAt B p)) (hW : Is W (WAt B p)) (hF' : Is F' (fun v => F v = true ∨ ((v : Int) ∈ rd s.a s.b 8 ∧ W v = false))) : Is F' (FAt B (p + 1)) := fun v hv => by
  refine (hF' v hv).trans ?_
  rw [fAt_succ]
  refine or_congr (hF v hv) (and_congr ⟨fun h => ⟨s, hs, hr, h⟩, fun ⟨t, ht, _, h⟩ => ?_⟩ (hW.neg hv))
  rw [hs] at ht; cases ht; exact h
theorem Is.still {F : Nat → Bool} {B : List Sm} {p : Nat} (hn : ∀ v, ¬ RdAt B p v) (hF : Is F (FAt B p)) : Is F (FAt B (p + 1)) := hF.congr (fun _ => by
  rw [fAt_succ]
  exact ⟨fun h => h.resolve_right (fun h => hn _ h.1), .inl⟩)
theorem rdAt_no {B : List Sm} {p v : Nat} {s : Sm} (hs : B[p]? = some s) (hr : ¬ rds s) : ¬ RdAt B p v := fun ⟨t, ht, h, _⟩ => by
  rw [hs] at ht; cases ht; exact hr h
theorem Is.wstill {W : Nat → Bool} {B : List Sm} {p : Nat} {s : Sm} (hs : B[p]? = some s) (hw : ¬ wr s) (hp : ∀ i t, B[i]? = some t → t.k = 4 → ¬ IsEnd B i p) (hW : Is W (WAt B p)) : Is W (WAt B (p + 1)) := hW.congr (fun _ => by
  rw [wAt_succ hp]
  exact ⟨fun h => h.resolve_right (wrAt_no hs hw), .inl⟩)
theorem Is.wput {W : Nat → Bool} {B : List Sm} {p u : Nat} {s : Sm} (hs : B[p]? = some s) (hw : wr s) (hu : s.v = u) (hp : ∀ i t, B[i]? = some t → t.k = 4 → ¬ IsEnd B i p) (hW : Is W (WAt B p)) : Is (fun v => decide (v = u) || W v) (WAt B (p + 1)) :=
  hW.put (fun _ => (wAt_succ hp).trans (or_congr Iff.rfl (wrAt_iff hs hw hu)))
theorem st_expr {s : Sm} (h : stOk s = true) (hr : rds s) : exprOk s.o s.a s.b = true := by
  rcases hr with e | e | e <;> simp [stOk, e] at h
  · exact h.2.2
  · exact h.2.2
  · exact h.2.2
theorem st_kind {s : Sm} (h : stOk s = true) : s.k = 1 ∨ s.k = 2 ∨ s.k = 3 ∨ s.k = 4 ∨ s.k = 5 ∨ s.k = 6 := by
  by_cases h1 : s.k = 1
  · exact .inl h1
  by_cases h2 : s.k = 2
  · exact .inr (.inl h2)
  by_cases h3 : s.k = 3
  · exact .inr (.inr (.inl h3))
  by_cases h4 : s.k = 4
  · exact .inr (.inr (.inr (.inl h4)))
  by_cases h5 : s.k = 5
  · exact .inr (.inr (.inr (.inr (.inl h5))))
  by_cases h6 : s.k = 6
  · exact .inr (.inr (.inr (.inr (.inr h6))))
  exact absurd h (by simp [stOk, h1, h2, h3, h4, h5, h6])
theorem infoBool : (Tryz.prog.info? 4).map (fun i => (i.zero, i.size, i.bytes)) = some (some (.bool false), 1, 1) := by kernel_rfl
/-- The eight cells of a set. -/
def eight (W : Nat → Bool) : List Value := [.bool (W 0), .bool (W 1), .bool (W 2), .bool (W 3), .bool (W 4), .bool (W 5), .bool (W 6), .bool (W 7)]
theorem eight_at (W : Nat → Bool) {v : Nat} (h : v < 8) : (eight W)[v]? = some (.bool (W v)) := by
  have : v = 0 ∨ v = 1 ∨ v = 2 ∨ v = 3 ∨ v = 4 ∨ v = 5 ∨ v = 6 ∨ v = 7 := by omega
  rcases this with rfl | rfl | rfl | rfl | rfl | rfl | rfl | rfl <;> rfl
theorem Bset.news {g : Nat} {W : Nat → Bool} {w : World} (h : Bset g W w) : ∀ j u, (eight W)[j]? = some u → w.cell? ((⟨g, 0, none⟩ : Addr).add j) = some u := fun j u hu => by
  have hj : j < 8 := by have := (List.getElem?_eq_some_iff.1 hu).1; simpa [eight] using this
  rw [eight_at W hj] at hu
  cases hu
  have hadd : (⟨g, 0, none⟩ : Addr).add j = ⟨g, j, none⟩ := by unfold Addr.add; split <;> simp_all
  rw [hadd]
  exact h.cell hj
theorem Bset.of_own {base g c n : Nat} {e : TypeId} {W : Nat → Bool} {w : World} (h : w.ownsRow base e 1 (.slice (some ⟨g, 0, none⟩) n c) n (eight W)) : Bset g W w := by
  rcases h.2 with ⟨h1, _⟩ | ⟨q, cap, cur, h1, _, h3, _, _, _, h6⟩
  · cases h1
  · cases h1
    refine ⟨cur, e, h3, fun v hv => ?_⟩
    have h7 : (cur.toList.take (n * 1))[v]? = some (.bool (W v)) := by rw [h6]; exact eight_at W hv
    rw [List.getElem?_take] at h7
    split at h7
    · simpa using h7
    · cases h7
/-- What carrying the sets from 'a' to 'b' leaves. -/
def Passed (gf gw : Nat) (B : List Sm) (b : Nat) (w : World) (e : Ending) (w' : World) : Prop :=
  e = .returned (.tuple #[]) ∧ Two gf gw w w' ∧ ∃ F W : Nat → Bool, Hid (Bset gf F w' ∧ Is F (FAt B b)) ∧ Hid (Bset gw W w' ∧ Is W (WAt B b))
abbrev zero6 : Array Value := #[.int .i64 0, .int .i64 0, .int .i64 0, .int .i64 0, .int .i64 0, .int .i64 0]
end Go.Proofs.YtndpadnjjbbkkaaGreat.sets

/- The model's MayReadFirst and HasVar; nothing that was there is written. -/
namespace Go.Proofs.YtndpadnjjbbkkaaGreat.sets
open Go Go.ChangeShapes Go.WideShapes Go.ChangeAt Go.RowKit Go.Proofs.YtndpadnjjbbkkaaGreat.row Go.Proofs.YtndpadnjjbbkkaaGreat.val Go.Proofs.YtndpadnjjbbkkaaGreat.stm Go.Proofs.YtndpadnjjbbkkaaGreat.blk Go.Proofs.YtndpadnjjbbkkaaGreat.expr Go.Proofs.YtndpadnjjbbkkaaGreat.prg

/-- What a task can read before it is written. -/
def FirstP (t : Tk) (v : Nat) : Prop := (IsBlk t.b ∧ exprOk t.o t.x t.y = true) ∧ (FAt t.b t.b.length v ∨ ((v : Int) ∈ rd t.x t.y 8 ∧ ¬ WAt t.b t.b.length v))
theorem far_new {w : World} {a : Option Addr} {n f g : Nat} {B : List Sm} (h : StRow w a n B) (hf : w.heap.size ≤ f) (hg : w.heap.size ≤ g) : Far2 n a f g := fun hn b off ha => by
  obtain ⟨b', off', s, ha', hlt, _⟩ := h.2 0 hn
  rw [ha] at ha'; cases ha'
  exact ⟨by omega, by omega⟩
end Go.Proofs.YtndpadnjjbbkkaaGreat.sets

/- What must be logged: plain mathematics. -/
namespace Go.Proofs.YtndpadnjjbbkkaaGreat.sets
open Go Go.Proofs.YtndpadnjjbbkkaaGreat.stm Go.Proofs.YtndpadnjjbbkkaaGreat.blk Go.Proofs.YtndpadnjjbbkkaaGreat.expr Go.Proofs.YtndpadnjjbbkkaaGreat.prg

/-- The variable must be logged. -/
def LogP (t : Tk) (v : Nat) : Prop := (IsBlk t.b ∧ exprOk t.o t.x t.y = true) ∧ MayTo t.b t.b.length v ∧ (FirstP t v ∨ ¬ WAt t.b t.b.length v)
theorem is_ex (p : Nat → Prop) : ∃ f, Is f p := by
  classical exact ⟨fun v => decide (p v), fun v _ => decide_eq_true_iff⟩
theorem lst_filter {f g : Nat → Bool} {p : Int → Bool} : ∀ k, (∀ v : Nat, v < k → g v = (f v && p v)) → (lst f k).filter p = lst g k
  | 0, _ => rfl
  | k + 1, h => by
    have ih := lst_filter (f := f) (g := g) (p := p) k (fun v hv => h v (by omega))
    have hk := h k (by omega)
    cases hf : f k
    · rw [hf, Bool.false_and] at hk
      rw [lst_no hf, lst_no hk, ih]
    · rw [hf, Bool.true_and] at hk
      rw [lst_yes hf, List.filter_append, ih]
      cases hp : p k
      · rw [hp] at hk
        rw [lst_no hk]; simp [hp]
      · rw [hp] at hk
        rw [lst_yes hk]; simp [hp]
/-- The model's choice. -/
theorem log_model {t : Tk} (ht : IsBlk t.b ∧ exprOk t.o t.x t.y = true) {fm fu ff f : Nat → Bool} (hm : Is fm (fun v => IsBlk t.b ∧ MayTo t.b t.b.length v)) (hu : Is fu (fun v => IsBlk t.b ∧ WAt t.b t.b.length v)) (hf : Is ff (FirstP t)) (h : Is f (LogP t)) :
    (lst fm 8).filter (fun x => decide (x ∈ lst ff 8) || !decide (x ∈ lst fu 8)) = lst f 8 := by
  refine lst_filter 8 (fun v hv => ?_)
  have h1 := hm v hv
  have h2 := hu v hv
  have h3 := hf v hv
  have h4 := h v hv
  have e1 : decide ((v : Int) ∈ lst ff 8) = ff v := by rw [Bool.eq_iff_iff, decide_eq_true_eq, lst_mem]; exact ⟨fun h => h.2, fun h => ⟨hv, h⟩⟩
  have e2 : decide ((v : Int) ∈ lst fu 8) = fu v := by rw [Bool.eq_iff_iff, decide_eq_true_eq, lst_mem]; exact ⟨fun h => h.2, fun h => ⟨hv, h⟩⟩
  rw [e1, e2, Bool.eq_iff_iff, h4]
  simp only [Bool.and_eq_true, Bool.or_eq_true, Bool.not_eq_true', h1, h3]
  have h2n : fu v = false ↔ ¬ WAt t.b t.b.length v := by
    rw [← Bool.not_eq_true, h2]
    exact ⟨fun h e => h ⟨ht.1, e⟩, fun h e => h e.2⟩
  rw [h2n]
  unfold LogP
  exact ⟨fun h => ⟨⟨ht.1, h.2.1⟩, h.2.2⟩, fun h => ⟨ht, h.1.2, h.2⟩⟩
/-- The program's choice: twice without. -/
theorem log_prog {t : Tk} (ht : IsBlk t.b ∧ exprOk t.o t.x t.y = true) {fm fu ff f : Nat → Bool} (hm : Is fm (fun v => IsBlk t.b ∧ MayTo t.b t.b.length v)) (hu : Is fu (fun v => IsBlk t.b ∧ WAt t.b t.b.length v)) (hf : Is ff (FirstP t)) (h : Is f (LogP t)) :
    (lst fm 8).filter (fun x => !decide (x ∈ (lst fu 8).filter (fun y => !decide (y ∈ lst ff 8)))) = lst f 8 := by
  rw [← log_model ht hm hu hf h]
  congr 1
  funext x
  simp only [List.mem_filter]
  rw [Bool.eq_iff_iff]
  simp
  by_cases h1 : x ∈ lst fu 8 <;> by_cases h2 : x ∈ lst ff 8 <;> simp [h1, h2]
theorem log_none {t : Tk} (ht : ¬ (IsBlk t.b ∧ exprOk t.o t.x t.y = true)) {f : Nat → Bool} (h : Is f (LogP t)) : lst f 8 = [] := by
  rw [lst_congr (g := fun _ => false) (fun v hv => by
    cases h9 : f v
    · rfl
    · exact absurd ((h v hv).1 h9).1 ht)]
  exact lst_nil (fun _ => rfl) 8
noncomputable def logF (t : Tk) : Nat → Bool := fun v => @decide (LogP t v) (Classical.propDecidable _)
theorem logF_is (t : Tk) : Is (logF t) (LogP t) := fun v _ => by unfold logF; exact @decide_eq_true_iff _ (Classical.propDecidable _)
/-- How many variables a task logs. -/
noncomputable def logN (t : Tk) : Nat := (lst (logF t) 8).length
theorem logN_le (t : Tk) : logN t ≤ 8 := lst_len _ 8
noncomputable def roomN (P : List Tk) (k : Nat) : Nat := ((P.take k).map logN).foldl max 0
theorem roomN_zero (P : List Tk) : roomN P 0 = 0 := rfl
theorem roomN_succ {P : List Tk} {k : Nat} {t : Tk} (h : P[k]? = some t) : roomN P (k + 1) = max (roomN P k) (logN t) := by
  unfold roomN
  rw [List.take_add_one, h]
  simp [List.foldl_append]
theorem roomN_le (P : List Tk) : ∀ k, roomN P k ≤ 8
  | 0 => by rw [roomN_zero]; omega
  | k + 1 => by
    cases h : P[k]? with
    | none =>
      have : roomN P (k + 1) = roomN P k := by unfold roomN; rw [List.take_add_one, h]; simp
      rw [this]; exact roomN_le P k
    | some t =>
      rw [roomN_succ h]
      have := roomN_le P k
      have := logN_le t
      omega
theorem roomN_ge {P : List Tk} : ∀ {k i : Nat} {t : Tk}, P[i]? = some t → i < k → logN t ≤ roomN P k
  | 0, _, _, _, h => by omega
  | k + 1, i, t, ht, h => by
    cases hk : P[k]? with
    | none =>
      have h1 := (List.getElem?_eq_some_iff.1 ht).1
      have h2 := List.getElem?_eq_none_iff.1 hk
      have h3 : roomN P (k + 1) = roomN P k := by unfold roomN; rw [List.take_add_one, hk]; simp
      rw [h3]; exact roomN_ge (k := k) ht (by omega)
    | some u =>
      rw [roomN_succ hk]
      by_cases e : i = k
      · subst e; rw [hk] at ht; cases ht; omega
      · have := roomN_ge (k := k) ht (by omega); omega
/-- What LogRoom must give. -/
def RoomIs (P : List Tk) (X : Int) : Prop := (IsPrg P ∧ X = roomN P P.length) ∨ (¬ IsPrg P ∧ X = -1)
theorem room_ex (P : List Tk) : ∃ X, RoomIs P X := by
  rcases Classical.em (IsPrg P) with h | h
  · exact ⟨_, .inl ⟨h, rfl⟩⟩
  · exact ⟨_, .inr ⟨h, rfl⟩⟩
theorem RoomIs.yes {P : List Tk} {X : Int} (h : RoomIs P X) (hp : IsPrg P) : X = roomN P P.length := by
  rcases h with ⟨_, h⟩ | ⟨h, _⟩
  · exact h
  · exact absurd hp h
theorem RoomIs.no {P : List Tk} {X : Int} (h : RoomIs P X) (hp : ¬ IsPrg P) : X = -1 := by
  rcases h with ⟨h, _⟩ | ⟨_, h⟩
  · exact absurd h hp
  · exact h
end Go.Proofs.YtndpadnjjbbkkaaGreat.sets

/- Two effects from variables that agree where something is read first. Plain mathematics. -/
namespace Go.Proofs.YtndpadnjjbbkkaaGreat.exe
open Go Go.Proofs.YtndpadnjjbbkkaaGreat.stm Go.Proofs.YtndpadnjjbbkkaaGreat.blk Go.Proofs.YtndpadnjjbbkkaaGreat.expr Go.Proofs.YtndpadnjjbbkkaaGreat.sets Go.Proofs.YtndpadnjjbbkkaaGreat.val Go.Proofs.YtndpadnjjbbkkaaGreat.prg

/-- Two effects from variables that agree outside of 'K', where nothing of 'K' is read first. -/
theorem eff_agree {P : List Tk} {V W Y : List Int} {j : Nat} {t : Tk} {T : Fst} (h : TaskAt P V Y j t T) (hW : varsOk W = true) {K : Nat → Prop} (hK : ∀ v, K v → ¬ FirstP t v) (hVW : ∀ v : Nat, ¬ K v → V[v]? = W[v]?) {r r' : Bool} {E E' : Eff}
    (hE : EffIs P V Y j r E) (hE' : EffIs P W Y j r' E') : r = true ∧ r' = true ∧ E.S = E'.S ∧ E.N = E'.N ∧ E.U = E'.U ∧ E.V.length = 8 ∧ E'.V.length = 8 ∧ ∀ v : Nat, (¬ K v ∨ WAt t.b t.b.length v) → E.V[v]? = E'.V[v]? := by
  have h2 : TaskAt P W Y j t T := ⟨h.1, hW, h.2.2⟩
  obtain ⟨rfl, rfl⟩ := hE.at h
  obtain ⟨rfl, rfl⟩ := hE'.at h2
  have hb := h.blk
  have hY := h.2.2.1
  obtain ⟨_, hV, _, k, _, _, hT⟩ := h
  have ha := block_agree (listSrc_val hY) hb.1 hT (K := K) (fun v hv hf => hK v hv ⟨hb, .inl hf⟩) hV hW hVW
  obtain ⟨g1, g2, g3, g4, g5⟩ := ha
  refine ⟨rfl, rfl, g4, ?_, ?_, ?_, ?_, fun v hv => g3 v hv⟩
  · show nx (evalV _ t.o t.x t.y) _ = nx (evalV _ t.o t.x t.y) _
    rw [evalV_agree g1 g2 (fun v hv => g3 v (Classical.byContradiction fun hn => by
      have hkv : K v := Classical.byContradiction fun e => hn (.inl e)
      exact hK v hkv ⟨hb, .inr ⟨hv, fun e => hn (.inr e)⟩⟩))]
  · show ((exec _ T _).U.length : Int) = ((exec _ T _).U.length : Int)
    rw [g5]
  · exact ((varsOk_iff _).1 g1).1
  · exact ((varsOk_iff _).1 g2).1
/-- What the law of the unlogged variables asks: variables that may be written and need not be logged are not read first, and are certainly written. -/
theorem unlogged {t : Tk} (ht : IsBlk t.b ∧ exprOk t.o t.x t.y = true) {v : Nat} (hm : MayTo t.b t.b.length v) (hl : ¬ LogP t v) : ¬ FirstP t v ∧ WAt t.b t.b.length v :=
  ⟨fun h => hl ⟨ht, hm, .inl h⟩, Classical.byContradiction fun h => hl ⟨ht, hm, .inr h⟩⟩
end Go.Proofs.YtndpadnjjbbkkaaGreat.exe
