/- Several texts in one: BlkK BlkN. -/
import Derived.Test.YtlicadaecfgklaaGreatGHub19
import Derived.StillTailTactics
import Derived.Deep.RegionHeld3

/- Chapter 5's program: a block's first statement, its body and what stands behind; LongestRun: what the plain relations say; nothing that was there is written. -/
namespace Go.Proofs.YtlicadaecfgklaaGreat.blk
open Go Go.ChangeShapes Go.WideShapes Go.ChangeAt Go.RowKit Go.Proofs.YtlicadaecfgklaaGreat.row Go.Proofs.YtlicadaecfgklaaGreat.val Go.Proofs.YtlicadaecfgklaaGreat.expr Go.Proofs.YtlicadaecfgklaaGreat.stm

theorem results_cell_tmp2 {fn : Func} {p u v : Tmp} {ty : TypeId} (h : fn.results = #[.cell p ty, .tmp u, .tmp v]) (tmps : Array Value) (P : Program) (w : World) :
    (results fn tmps).run P w =
      ((asAddr (tmps.getD p undef)).run P w).andThen fun a w₁ => ((loadVar ty a).run P w₁).andThen fun x w₂ => .ok (.tuple #[x, tmps.getD u undef, tmps.getD v undef]) w₂ := by
  simp only [results, h]
  simp [Sem.run_bind, Result.andThen]
/-- Three results: a struct in a block that is known whole, and two values. -/
theorem results_box3 {P : Program} {fn : Func} {p u v : Tmp} {ty : TypeId} (h : fn.results = #[.cell p ty, .tmp u, .tmp v]) (tmps : Array Value) (w : World) (g : Nat) (t : TypeId) (cs : Array Value) (d : TypeDesc) (r q : Value)
    (hp : tmps.getD p undef = .pointer (some ⟨g, 0, none⟩)) (hr : tmps.getD u undef = r) (hq : tmps.getD v undef = q) (hg : Box g cs t w)
    (hu : P.underlying ty = some d) (hd : (match d with | .struct _ | .array _ _ => true | _ => false) = true) (hi : (P.info? ty).map (·.size) = some cs.size) :
    (results fn tmps).run P w = .ok (.tuple #[.agg cs, r, q]) w := by
  rw [results_cell_tmp2 h, hp, hr, hq]
  simp [asAddr, run_loadVar_row w g t ty cs (0, 0) d hg hu hd hi, Result.andThen]
/-- The first statement of a block, its body, what stands behind. -/
def CutOut (w : World) (n e : Nat) (L : List Go.Proofs.YtlicadaecfgklaaGreat.stm.St) (s : Go.Proofs.YtlicadaecfgklaaGreat.stm.St) (x : Ending) (w' : World) : Prop :=
  ∃ a1 a2 : Option Addr, x = .returned (.tuple #[stV s, .slice a1 (e - 1) (e - 1), .slice a2 (n - (e + 1)) (n - (e + 1))]) ∧ Hid (StRow w' a1 (e - 1) (part L 1 (e - 1)) ∧ StRow w' a2 (n - (e + 1)) (part L (e + 1) (n - (e + 1)))) ∧ Below w.heap.size w w'
/-- The same, and the parts are parts of it in every world in which the block is there. -/
def CutAll (w : World) (a : Option Addr) (n e : Nat) (L : List Go.Proofs.YtlicadaecfgklaaGreat.stm.St) (s : Go.Proofs.YtlicadaecfgklaaGreat.stm.St) (x : Ending) (w' : World) : Prop :=
  ∃ a1 a2 : Option Addr, x = .returned (.tuple #[stV s, .slice a1 (e - 1) (e - 1), .slice a2 (n - (e + 1)) (n - (e + 1))]) ∧ Hid (∀ W0 : World, StRow W0 a n L → StRow W0 a1 (e - 1) (part L 1 (e - 1)) ∧ StRow W0 a2 (n - (e + 1)) (part L (e + 1) (n - (e + 1)))) ∧ Below w.heap.size w w'
theorem cells6 {w : World} {g : Nat} {t : TypeId} {x0 x1 x2 x3 x4 x5 : Value} (h : Box g #[x0, x1, x2, x3, x4, x5] t w) :
    w.cell? ⟨g, 0, none⟩ = some x0 ∧ w.cell? ⟨g, 1, none⟩ = some x1 ∧ w.cell? ⟨g, 2, none⟩ = some x2 ∧ w.cell? ⟨g, 3, none⟩ = some x3 ∧ w.cell? ⟨g, 4, none⟩ = some x4 ∧ w.cell? ⟨g, 5, none⟩ = some x5 :=
  ⟨h.cell 0, h.cell 1, h.cell 2, h.cell 3, h.cell 4, h.cell 5⟩
theorem cells6d {w : World} {g : Nat} {t : TypeId} {x0 x1 x2 x3 x4 x5 : Value} (h : Box g #[x0, x1, x2, x3, x4, x5] t w) : w.drew.cell? ⟨g, 0, none⟩ = some x0 ∧ w.drew.cell? ⟨g, 1, none⟩ = some x1 ∧ w.drew.cell? ⟨g, 2, none⟩ = some x2 ∧ w.drew.cell? ⟨g, 3, none⟩ = some x3 ∧ w.drew.cell? ⟨g, 4, none⟩ = some x4 ∧ w.drew.cell? ⟨g, 5, none⟩ = some x5 := cells6 h
theorem six_box {w : World} {g : Nat} {t : TypeId} {x0 x1 x2 x3 x4 x5 : Value} (h : Box g #[x0, x1, x2, x3, x4, x5] t w) : Box g #[x0, x1, x2, x3, x4, x5] t ((((((w.setCell ⟨g, 0, none⟩ x0).setCell ⟨g, 1, none⟩ x1).setCell ⟨g, 2, none⟩ x2).setCell ⟨g, 3, none⟩ x3).setCell ⟨g, 4, none⟩ x4).setCell ⟨g, 5, none⟩ x5) :=
  (((((h.set 0 x0).set 1 x1).set 2 x2).set 3 x3).set 4 x4).set 5 x5
theorem six_cells {w : World} {g : Nat} {t : TypeId} {x0 x1 x2 x3 x4 x5 : Value} (h : Box g #[x0, x1, x2, x3, x4, x5] t w) :
    ((((((w.setCell ⟨g, 0, none⟩ x0).setCell ⟨g, 1, none⟩ x1).setCell ⟨g, 2, none⟩ x2).setCell ⟨g, 3, none⟩ x3).setCell ⟨g, 4, none⟩ x4).setCell ⟨g, 5, none⟩ x5).cell? ⟨g, 0, none⟩ = some x0 ∧ ((((((w.setCell ⟨g, 0, none⟩ x0).setCell ⟨g, 1, none⟩ x1).setCell ⟨g, 2, none⟩ x2).setCell ⟨g, 3, none⟩ x3).setCell ⟨g, 4, none⟩ x4).setCell ⟨g, 5, none⟩ x5).cell? ⟨g, 1, none⟩ = some x1 ∧ ((((((w.setCell ⟨g, 0, none⟩ x0).setCell ⟨g, 1, none⟩ x1).setCell ⟨g, 2, none⟩ x2).setCell ⟨g, 3, none⟩ x3).setCell ⟨g, 4, none⟩ x4).setCell ⟨g, 5, none⟩ x5).cell? ⟨g, 2, none⟩ = some x2 ∧ ((((((w.setCell ⟨g, 0, none⟩ x0).setCell ⟨g, 1, none⟩ x1).setCell ⟨g, 2, none⟩ x2).setCell ⟨g, 3, none⟩ x3).setCell ⟨g, 4, none⟩ x4).setCell ⟨g, 5, none⟩ x5).cell? ⟨g, 3, none⟩ = some x3 ∧ ((((((w.setCell ⟨g, 0, none⟩ x0).setCell ⟨g, 1, none⟩ x1).setCell ⟨g, 2, none⟩ x2).setCell ⟨g, 3, none⟩ x3).setCell ⟨g, 4, none⟩ x4).setCell ⟨g, 5, none⟩ x5).cell? ⟨g, 4, none⟩ = some x4 ∧ ((((((w.setCell ⟨g, 0, none⟩ x0).setCell ⟨g, 1, none⟩ x1).setCell ⟨g, 2, none⟩ x2).setCell ⟨g, 3, none⟩ x3).setCell ⟨g, 4, none⟩ x4).setCell ⟨g, 5, none⟩ x5).cell? ⟨g, 5, none⟩ = some x5 := cells6 (six_box h)
theorem six_cellsd {w : World} {g : Nat} {t : TypeId} {x0 x1 x2 x3 x4 x5 : Value} (h : Box g #[x0, x1, x2, x3, x4, x5] t w) :
    ((((((w.setCell ⟨g, 0, none⟩ x0).setCell ⟨g, 1, none⟩ x1).setCell ⟨g, 2, none⟩ x2).setCell ⟨g, 3, none⟩ x3).setCell ⟨g, 4, none⟩ x4).setCell ⟨g, 5, none⟩ x5).drew.cell? ⟨g, 0, none⟩ = some x0 ∧ ((((((w.setCell ⟨g, 0, none⟩ x0).setCell ⟨g, 1, none⟩ x1).setCell ⟨g, 2, none⟩ x2).setCell ⟨g, 3, none⟩ x3).setCell ⟨g, 4, none⟩ x4).setCell ⟨g, 5, none⟩ x5).drew.cell? ⟨g, 1, none⟩ = some x1 ∧ ((((((w.setCell ⟨g, 0, none⟩ x0).setCell ⟨g, 1, none⟩ x1).setCell ⟨g, 2, none⟩ x2).setCell ⟨g, 3, none⟩ x3).setCell ⟨g, 4, none⟩ x4).setCell ⟨g, 5, none⟩ x5).drew.cell? ⟨g, 2, none⟩ = some x2 ∧ ((((((w.setCell ⟨g, 0, none⟩ x0).setCell ⟨g, 1, none⟩ x1).setCell ⟨g, 2, none⟩ x2).setCell ⟨g, 3, none⟩ x3).setCell ⟨g, 4, none⟩ x4).setCell ⟨g, 5, none⟩ x5).drew.cell? ⟨g, 3, none⟩ = some x3 ∧ ((((((w.setCell ⟨g, 0, none⟩ x0).setCell ⟨g, 1, none⟩ x1).setCell ⟨g, 2, none⟩ x2).setCell ⟨g, 3, none⟩ x3).setCell ⟨g, 4, none⟩ x4).setCell ⟨g, 5, none⟩ x5).drew.cell? ⟨g, 4, none⟩ = some x4 ∧ ((((((w.setCell ⟨g, 0, none⟩ x0).setCell ⟨g, 1, none⟩ x1).setCell ⟨g, 2, none⟩ x2).setCell ⟨g, 3, none⟩ x3).setCell ⟨g, 4, none⟩ x4).setCell ⟨g, 5, none⟩ x5).drew.cell? ⟨g, 5, none⟩ = some x5 := cells6d (six_box h)
theorem six_below {B : Nat} {W w : World} {g : Nat} {x0 x1 x2 x3 x4 x5 : Value} (h : Below B W w) (hg : B ≤ g) : Below B W ((((((w.setCell ⟨g, 0, none⟩ x0).setCell ⟨g, 1, none⟩ x1).setCell ⟨g, 2, none⟩ x2).setCell ⟨g, 3, none⟩ x3).setCell ⟨g, 4, none⟩ x4).setCell ⟨g, 5, none⟩ x5) :=
  (((((h.setCell hg x0).setCell hg x1).setCell hg x2).setCell hg x3).setCell hg x4).setCell hg x5
abbrev zeroSt : Array Value := #[.int .i64 0, .int .i64 0, .int .i64 0, .int .i64 0, .int .i64 0, .int .i64 0]
end Go.Proofs.YtlicadaecfgklaaGreat.blk

/- Chapter 5's program: LongestRun: how many statements run; nothing that was there is written. -/
namespace Go.Proofs.YtlicadaecfgklaaGreat.blk
open Go Go.ChangeShapes Go.WideShapes Go.ChangeAt Go.RowKit Go.Proofs.YtlicadaecfgklaaGreat.row Go.Proofs.YtlicadaecfgklaaGreat.val Go.Proofs.YtlicadaecfgklaaGreat.expr Go.Proofs.YtlicadaecfgklaaGreat.stm

def lenV : Value → Nat
  | .slice _ n _ => n
  | _ => 0
/-- 'x' statements have run, and 'M' is still to run. -/
def Rest (L M : List Go.Proofs.YtlicadaecfgklaaGreat.stm.St) (x : Int) : Prop := ∀ y, Runs M 0 M.length y → Runs L 0 L.length (x + y)
theorem Rest.start (L : List Go.Proofs.YtlicadaecfgklaaGreat.stm.St) : Rest L L 0 := fun y h => by rw [Int.zero_add]; exact h
theorem Rest.done {L : List Go.Proofs.YtlicadaecfgklaaGreat.stm.St} {x : Int} (h : Rest L [] x) : Runs L 0 L.length x := by
  have := h 0 (.nil 0)
  rw [Int.add_zero] at this; exact this
theorem Rest.small {L M : List Go.Proofs.YtlicadaecfgklaaGreat.stm.St} {x : Int} (h : Rest L M x) (hL : IsBlk L) (hM : IsBlk M) : x ≤ 3000 := by
  obtain ⟨y, hy⟩ := runs_ex hM M.length 0 M.length (by omega) (flat_all hM)
  have h1 := runs_small hL (h y hy) (Nat.le_refl _)
  have h2 := runs_small hM hy (Nat.le_refl _)
  omega
theorem Rest.one {L M : List Go.Proofs.YtlicadaecfgklaaGreat.stm.St} {x : Int} {n : Nat} {s : Go.Proofs.YtlicadaecfgklaaGreat.stm.St} (h : Rest L M x) (hb : IsBlk M) (hn : M.length = n) (hs : M[0]? = some s) (ho : opn s = false) :
    IsBlk (part M (0 + 1) (n - (0 + 1))) ∧ Rest L (part M (0 + 1) (n - (0 + 1))) (x + 1) := by
  subst hn
  have hlt := (List.getElem?_eq_some_iff.1 hs).1
  have h1 := hAt_succ hs
  rw [hAt_zero] at h1
  have h6 : s.k ≠ 6 := fun h6 => by
    rw [dlt_end h6] at h1
    have := (blk_bounds hb (0 + 1)).1; omega
  rw [dlt_flat ho h6] at h1
  refine ⟨rest_blk hb (by omega) (by omega), fun y hy => ?_⟩
  rw [Int.add_assoc]
  exact h _ (runs_flat (by omega) hs ho h6 hy)
theorem Rest.nest {L M : List Go.Proofs.YtlicadaecfgklaaGreat.stm.St} {x y : Int} {n e : Nat} {s : Go.Proofs.YtlicadaecfgklaaGreat.stm.St} (h : Rest L M x) (hb : IsBlk M) (hn : M.length = n) (hs : M[0]? = some s) (he : IsEnd M 0 e) (hy : Runs (part M 1 (e - 1)) 0 (part M 1 (e - 1)).length y) :
    IsBlk (part M (e + 1) (n - (e + 1))) ∧ Rest L (part M (e + 1) (n - (e + 1))) (x + max 1 s.n * y) := by
  subst hn
  have h1 := he.2.1
  refine ⟨rest_blk hb (by omega) (by rw [he.2.2.1, hAt_zero]), fun z hz => ?_⟩
  rw [Int.add_assoc]
  exact h _ (runs_nest hs he hy hz)
/-- The call returns how many statements of the block run. -/
abbrev RunOut (L : List Go.Proofs.YtlicadaecfgklaaGreat.stm.St) (w : World) := LongOut L 0 L.length w
end Go.Proofs.YtlicadaecfgklaaGreat.blk
