/- Several texts in one: BlkC BlkH BlkL. -/
import Derived.Test.YtlicadaecfgklaaGHub20
import Derived.Test.YtlicadaecfgklaaGHub18
import Derived.Test.YtlicadaecfgklaaGHub30
import Derived.Test.YtlicadaecfgklaaGHub27
import Derived.IntWalk

/- Parts of a block: a stretch at one height is a valid block of its own; what runs in the part runs in the whole. Plain mathematics. -/
namespace Go.Proofs.Ytlicadaecfgklaa.blk
open Go Go.ChangeShapes Go.WideShapes Go.ChangeAt Go.RowKit Go.Proofs.Ytlicadaecfgklaa.row Go.Proofs.Ytlicadaecfgklaa.stm

/-- The part of 'm' statements from 'c' on. -/
def part (L : List Go.Proofs.Ytlicadaecfgklaa.stm.St) (c m : Nat) : List Go.Proofs.Ytlicadaecfgklaa.stm.St := (L.drop c).take m
theorem part_len {L : List Go.Proofs.Ytlicadaecfgklaa.stm.St} {c m : Nat} (h : c + m ≤ L.length) : (part L c m).length = m := by
  unfold part; rw [List.length_take, List.length_drop]; omega
theorem part_at {L : List Go.Proofs.Ytlicadaecfgklaa.stm.St} {c m j : Nat} (h : j < m) : (part L c m)[j]? = L[c + j]? := by
  unfold part; rw [List.getElem?_take, if_pos h, List.getElem?_drop]
theorem part_ht {L : List Go.Proofs.Ytlicadaecfgklaa.stm.St} {c m : Nat} (h : c + m ≤ L.length) : ∀ t, t ≤ m → hAt (part L c m) t = hAt L (c + t) - hAt L c := by
  intro t
  induction t with
  | zero => intro _; rw [hAt_zero, Nat.add_zero]; omega
  | succ t ih =>
    intro ht
    obtain ⟨s, hs⟩ := at_lt (show c + t < L.length by omega)
    have h1 := hAt_succ hs
    have h2 := hAt_succ (show (part L c m)[t]? = some s by rw [part_at (by omega)]; exact hs)
    rw [h2, ih (by omega), show c + (t + 1) = c + t + 1 by omega, h1]; omega
theorem part_end {L : List Go.Proofs.Ytlicadaecfgklaa.stm.St} {c m i e : Nat} (h : c + m ≤ L.length) (hE : IsEnd (part L c m) i e) : IsEnd L (c + i) (c + e) := by
  obtain ⟨h1, h2, h3, h4⟩ := hE
  rw [part_len h] at h2
  have k1 := part_ht h (e + 1) (by omega)
  have k2 := part_ht h i (by omega)
  refine ⟨by omega, by omega, by rw [show c + e + 1 = c + (e + 1) by omega]; omega, fun j hj hje => ?_⟩
  obtain ⟨t, rfl⟩ : ∃ t, j = c + t := ⟨j - c, by omega⟩
  have := h4 t (by omega) (by omega)
  have := part_ht h t (by omega)
  omega
theorem part_runs {L : List Go.Proofs.Ytlicadaecfgklaa.stm.St} {c m a b : Nat} {x : Int} (h : c + m ≤ L.length) (hr : Runs (part L c m) a b x) : b ≤ m → Runs L (c + a) (c + b) x := by
  induction hr with
  | nil a => intro _; exact .nil _
  | one a b x s hs ho h6 hr ih =>
    intro hb
    have hl := hr.le
    refine .one _ _ _ s (by rw [← part_at (show a < m by omega)]; exact hs) ho h6 ?_
    have := ih hb
    rw [show c + (a + 1) = c + a + 1 by omega] at this; exact this
  | nest a e b x y s hs he hbb hr ih1 ih2 =>
    intro hb
    have hl := hr.le
    have hae := he.1
    have h1 := ih1 (by omega)
    have h2 := ih2 hb
    rw [show c + (a + 1) = c + a + 1 by omega] at h1
    rw [show c + (e + 1) = c + e + 1 by omega] at h2
    exact .nest _ (c + e) _ _ _ s (by rw [← part_at (show a < m by omega)]; exact hs) (part_end h he) h1 h2
theorem part_blk {L : List Go.Proofs.Ytlicadaecfgklaa.stm.St} {c m : Nat} (hb : IsBlk L) (hF : Flat L c (c + m)) : IsBlk (part L c m) := by
  obtain ⟨_, h2, h3, h4⟩ := hF
  have hl := part_len h2
  refine ⟨fun j s hj hs => ?_, ?_, by rw [hl]; have := hb.2.2; omega⟩
  · rw [hl] at hj
    have hs' : L[c + j]? = some s := by rw [← part_at hj]; exact hs
    have k1 := part_ht h2 (j + 1) (by omega)
    have k2 := h4 (c + (j + 1)) (by omega) (by omega)
    have k3 := (blk_bounds hb (c + (j + 1))).2
    have k4 := (blk_bounds hb c).1
    exact ⟨blk_stOk hb hs', by omega, by omega⟩
  · rw [hl, part_ht h2 m (Nat.le_refl _)]; omega
/-- The body of a statement that opens, at the head of a block. -/
theorem body_blk {L : List Go.Proofs.Ytlicadaecfgklaa.stm.St} (hb : IsBlk L) {e : Nat} (he : IsEnd L 0 e) : IsBlk (part L 1 (e - 1)) := by
  have := flat_body he
  have h0 := he.1
  rw [show e = 1 + (e - 1) by omega] at this
  exact part_blk hb this
/-- What stands behind a place at height 0. -/
theorem rest_blk {L : List Go.Proofs.Ytlicadaecfgklaa.stm.St} (hb : IsBlk L) {c : Nat} (hc : c ≤ L.length) (h0 : hAt L c = 0) : IsBlk (part L c (L.length - c)) := by
  refine part_blk hb ⟨by omega, by omega, ?_, fun t _ _ => by rw [h0]; exact (blk_bounds hb t).1⟩
  rw [show c + (L.length - c) = L.length by omega, hb.2.1, h0]
/-- A block that begins with a statement that neither opens nor ends. -/
theorem runs_flat {L : List Go.Proofs.Ytlicadaecfgklaa.stm.St} {s : Go.Proofs.Ytlicadaecfgklaa.stm.St} {y : Int} (hl : 1 ≤ L.length) (hs : L[0]? = some s) (ho : opn s = false) (h6 : s.k ≠ 6) (h : Runs (part L 1 (L.length - 1)) 0 (part L 1 (L.length - 1)).length y) : Runs L 0 L.length (1 + y) := by
  have hp : 1 + (L.length - 1) ≤ L.length := by omega
  rw [part_len hp] at h
  have h1 := part_runs hp h (Nat.le_refl _)
  rw [Nat.add_zero, show 1 + (L.length - 1) = L.length by omega] at h1
  exact .one 0 _ y s hs ho h6 h1
/-- A block that begins with a statement that opens. -/
theorem runs_nest {L : List Go.Proofs.Ytlicadaecfgklaa.stm.St} {s : Go.Proofs.Ytlicadaecfgklaa.stm.St} {e : Nat} {x y : Int} (hs : L[0]? = some s) (he : IsEnd L 0 e) (hx : Runs (part L 1 (e - 1)) 0 (part L 1 (e - 1)).length x) (h : Runs (part L (e + 1) (L.length - (e + 1))) 0 (part L (e + 1) (L.length - (e + 1))).length y) :
    Runs L 0 L.length (max 1 s.n * x + y) := by
  have h0 := he.1
  have h1 := he.2.1
  have hp : 1 + (e - 1) ≤ L.length := by omega
  have hq : (e + 1) + (L.length - (e + 1)) ≤ L.length := by omega
  rw [part_len hp] at hx
  rw [part_len hq] at h
  have k1 := part_runs hp hx (Nat.le_refl _)
  have k2 := part_runs hq h (Nat.le_refl _)
  rw [Nat.add_zero, show 1 + (e - 1) = e by omega] at k1
  rw [Nat.add_zero, show (e + 1) + (L.length - (e + 1)) = L.length by omega] at k2
  exact .nest 0 e _ x y s hs he k1 k2
/-- How often the body of a valid statement that opens runs. -/
theorem n_if {s : Go.Proofs.Ytlicadaecfgklaa.stm.St} (h : stOk s = true) (h4 : s.k = 4) : max 1 s.n = 1 := by
  unfold stOk at h
  rw [if_neg (by omega), if_neg (by omega), if_neg (by omega), if_pos h4] at h
  simp at h; omega
theorem n_loop {s : Go.Proofs.Ytlicadaecfgklaa.stm.St} (h : stOk s = true) (h5 : s.k = 5) : max 1 s.n = s.n := by
  unfold stOk at h
  rw [if_neg (by omega), if_neg (by omega), if_neg (by omega), if_neg (by omega), if_pos h5] at h
  simp at h; omega
/-- A part of a slice. -/
theorem StRow.cut {w : World} {a A : Option Addr} {n : Nat} {L : List Go.Proofs.Ytlicadaecfgklaa.stm.St} (h : StRow w a n L) (c m : Nat) (hcm : c + m ≤ n) (hA : ∀ b off, a = some ⟨b, off, none⟩ → 0 < m → A = some ⟨b, off + c * 6, none⟩) : StRow w A m (part L c m) :=
  ⟨part_len (by rw [h.1]; exact hcm), fun k hk => by
    obtain ⟨b, off, s, ha, hlt, hs, hr⟩ := h.2 (c + k) (by omega)
    refine ⟨b, off + c * 6, s, hA b off ha (by omega), hlt, by rw [part_at hk]; exact hs, ?_⟩
    rw [show off + c * 6 + k * 6 = off + (c + k) * 6 by omega]; exact hr⟩
theorem own_le {w : World} {base n cap : Nat} {a : Option Addr} {t : TypeId} {z : Nat} {xs : List Value} (h : w.ownsRow base t z (.slice a n cap) n xs) : n ≤ cap := by
  rcases h.2 with ⟨hv, h0⟩ | ⟨g, c, cur, hv, _, _, hle, _⟩
  · omega
  · simp only [Value.slice.injEq] at hv; omega
end Go.Proofs.Ytlicadaecfgklaa.blk

/- Chapter 5's program: DepthOf: the height ahead of the statement; nothing that was there is written. -/
namespace Go.Proofs.Ytlicadaecfgklaa.blk
open Go Go.ChangeShapes Go.WideShapes Go.ChangeAt Go.RowKit Go.Proofs.Ytlicadaecfgklaa.row Go.Proofs.Ytlicadaecfgklaa.val Go.Proofs.Ytlicadaecfgklaa.expr Go.Proofs.Ytlicadaecfgklaa.stm

end Go.Proofs.Ytlicadaecfgklaa.blk

/- Chapter 5's model: LongestRun: how many statements run; nothing that was there is written. -/
namespace Go.Proofs.Ytlicadaecfgklaa.blk
open Go Go.ChangeShapes Go.WideShapes Go.ChangeAt Go.RowKit Go.Proofs.Ytlicadaecfgklaa.row Go.Proofs.Ytlicadaecfgklaa.val Go.Proofs.Ytlicadaecfgklaa.expr Go.Proofs.Ytlicadaecfgklaa.stm

/-- The call returns how many statements run between these places. -/
def LongOut (L : List Go.Proofs.Ytlicadaecfgklaa.stm.St) (a b : Nat) (w : World) (e : Ending) (w' : World) : Prop := ∃ x : Int, e = .returned (.int .i64 x) ∧ Hid (Runs L a b x) ∧ Below w.heap.size w w'
theorem times_ok {n y : Int} (hn : n ≤ 5) (h0 : 0 ≤ y) (h1 : y ≤ 3000) : 0 ≤ max 1 n * y ∧ max 1 n * y ≤ 15000 := by
  obtain ⟨m, hm⟩ : ∃ m, max 1 n = m := ⟨_, rfl⟩
  have hm1 : 1 ≤ m ∧ m ≤ 5 := by omega
  rw [hm]
  have h2 : 0 ≤ m * y := Int.mul_nonneg (by omega) h0
  have h3 : m * y ≤ 5 * y := Int.mul_le_mul_of_nonneg_right hm1.2 h0
  omega
theorem longIs_not {L : List Go.Proofs.Ytlicadaecfgklaa.stm.St} {x : Int} (h : LongIs L x) (hn : ¬ IsBlk L) : x = -1 := h.unique (.inr ⟨rfl, hn⟩)
end Go.Proofs.Ytlicadaecfgklaa.blk
