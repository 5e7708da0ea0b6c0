/- Several texts in one: SsM SsN ReadA SetA. -/
import Derived.Test.YtlinpefeojpjnaaGreatGHub10
import Derived.Test.YtlinpefeojpjnaaGreatGHub8
import Derived.Lib.SlicesCompact
import Derived.Test.YtlinpefeojpjnaaGreatGHub4

/- The law's marks in rows of its own: which blocks are written. -/
namespace Go.Proofs.YtlinpefeojpjnaaGreat.mrk
open Go Go.ChangeShapes Go.WideShapes Go.ChangeAt Go.RowKit Go.Proofs.YtlinpefeojpjnaaGreat.row Go.Proofs.YtlinpefeojpjnaaGreat.stm Go.Proofs.YtlinpefeojpjnaaGreat.prg Go.Proofs.YtlinpefeojpjnaaGreat.srow

/-- Rows in blocks from 'lo' to 'hi', each known whole: their sizes alone. -/
def MkS (lo hi : Nat) (w : World) (g n : Nat) (L : List Nat) : Prop :=
  L.length = n ∧ g < hi ∧ ∃ cs : Array Value, Box g cs 25 w ∧ ∀ j, j < n → ∃ (m b : Nat) (X : List Int), L[j]? = some m ∧ cs[j]? = some (.slice (some ⟨b, 0, none⟩) m m) ∧ lo ≤ b ∧ b ≠ g ∧ b < hi ∧ X.length = m ∧ Box b (ivs X).toArray 3 w
theorem MkS.below {lo hi g n : Nat} {w w' : World} {L : List Nat} (h : MkS lo hi w g n L) (hb : Below w.heap.size w w') : MkS lo hi w' g n L := by
  obtain ⟨h1, h2, cs, h3, h4⟩ := h
  refine ⟨h1, h2, cs, h3.below hb, fun j hj => ?_⟩
  obtain ⟨m, b, X, q1, q2, q3, q4, q5, q6, q7⟩ := h4 j hj
  exact ⟨m, b, X, q1, q2, q3, q4, q5, q6, q7.below hb⟩
theorem MkS.body {lo hi g n b m : Nat} {w w' : World} {L : List Nat} {X : List Int} (h : MkS lo hi w g n L) (hg : w.grownBy w' (some b)) (hne : b ≠ g) (h0 : Box b (ivs X).toArray 3 w) (hX : X.length = m) {X' : List Int} (h1 : Box b (ivs X').toArray 3 w') (hX' : X'.length = m) : MkS lo hi w' g n L := by
  obtain ⟨q1, q2, cs, q3, q4⟩ := h
  refine ⟨q1, q2, cs, q3.grown hg (fun e => hne (Option.some.inj e).symm), fun j hj => ?_⟩
  obtain ⟨m', b', Y, p1, p2, p3, p4, p5, p6, p7⟩ := q4 j hj
  by_cases e : b' = b
  · subst e
    have e2 := box_one p7 h0
    have e3 : Y.length = X.length := by have := congrArg Array.size e2; simpa [ivs] using this
    exact ⟨m', b', X', p1, p2, p3, p4, p5, by omega, h1⟩
  · exact ⟨m', b', Y, p1, p2, p3, p4, p5, p6, p7.grown hg (fun e9 => e (Option.some.inj e9))⟩
/-- A copy of the law's own, its blocks in bounds. -/
theorem mks_of {lo n : Nat} {w : World} {a : Option Addr} {LL : List (List Int)} (h : SsX lo w a n LL) : ∃ g, a = some ⟨g, 0, none⟩ ∧ g < w.heap.size ∧ MkS lo w.heap.size w g n (LL.map List.length) := by
  obtain ⟨hl, g, cs, rfl, hlo, hb, hs, hP⟩ := h
  refine ⟨g, rfl, hb.lt, by simpa using hl, hb.lt, cs, hb, fun j hj => ?_⟩
  obtain ⟨L, b, h1, h2, h3, h4⟩ := hP j hj
  exact ⟨L.length, b, L, by simp [h1], h2, by omega, by omega, h4.lt, rfl, h4⟩
theorem lens_of {LL : List (List Int)} (hz : SSizes LL) : ∀ m ∈ LL.map List.length, m ≤ 1048576 := by
  intro m hm
  obtain ⟨t, ht, rfl⟩ := List.mem_map.1 hm
  exact hz.2 t ht
theorem own_of_box {w : World} {B g n : Nat} {L : List Int} {t : TypeId} (h : Box g (ivs L).toArray t w) (hB : B ≤ g) (hl : L.length = n) (hn : n ≤ maxLen) : w.ownsRow B t 1 (.slice (some ⟨g, 0, none⟩) n n) n (ivs L) :=
  ⟨by simp [ivs, hl], .inr ⟨g, n, (ivs L).toArray, rfl, hB, h, Nat.le_refl _, hn, by simp [ivs, hl], by rw [Nat.mul_one]; exact List.take_of_length_le (by simp [ivs, hl])⟩⟩
/-- What the marks leave. -/
def MarkS (lo hi : Nat) (w : World) (n : Nat) (k : Int) (e : Ending) (w' : World) : Prop :=
  ∃ r : Int, e = .returned (.int .i64 r) ∧ k ≤ r ∧ r ≤ k + n * 1048576 ∧ (Below lo w w' ∧ Far hi w w') ∧ w.heap.size ≤ w'.heap.size
set_option maxHeartbeats 4000000 in
set_option maxRecDepth 100000 in
theorem markss_wide (lo hi : Nat) (w : World) (g n cap : Nat) (L : List Nat) (h : MkS lo hi w g n L) (hL : ∀ m ∈ L, m ≤ 1048576) (hlo : lo ≤ w.heap.size) (k : Nat) (hk1 : (k : Int) ≤ 10000000000000) (hn : n ≤ 1048576) :
    Calls Tryz.prog 18 #[.slice (some ⟨g, 0, none⟩) n cap, .int .i64 k] w (MarkS lo hi w n k) := by
  have HT := Lib.hid h
  have HLL := Lib.hid hL
  clear h hL
  go_enter Tryz.func18, Tryz.ntmps18
  go_wp2
  go_loopw [1, 5] (fun kk i wr => ∃ (m K : Nat), m ≤ n ∧ i = .int .i64 m ∧ kk = .int .i64 K ∧ (k : Int) ≤ K ∧ (K : Int) ≤ k + m * 1048576 ∧ Hid ((Below lo w wr ∧ Far hi w wr) ∧ w.heap.size ≤ wr.heap.size ∧ MkS lo hi wr g n L)) (fun _ i _ => n - (intOf i).toNat)
  case atStart => exact ⟨0, k, Nat.zero_le _, rfl, rfl, Int.le_refl _, by simp, ⟨⟨rfl, rfl, rfl, Nat.le_refl _, fun _ _ => rfl⟩, fun _ _ _ => rfl⟩, Nat.le_refl _, HT.out⟩
  case round =>
    obtain ⟨m, K, hm, rfl, rfl, hKl, hKh, HI⟩ := hrel
    by_cases hlt : m < n
    · have hI : (m : Int) < n := by omega
      obtain ⟨_, _, cs', hbx, hrow⟩ := HI.out.2.2
      obtain ⟨nb, b, X, hLm, hc, hb1, hb2, hb3, hX, hbb⟩ := hrow m hlt
      have hnb := HLL.out nb (List.mem_of_getElem? hLm)
      have hnbI : (nb : Int) ≤ 1048576 := by omega
      have hK1 : (K : Int) ≤ 1000000000000000 := by omega
      have c0 : wr.cell? ⟨g, m, none⟩ = some (.slice (some ⟨b, 0, none⟩) nb nb) := by rw [hbx.cell]; exact hc
      have HA0 := Lib.hid (And.intro hbb (And.intro hb1 (And.intro hb2 (And.intro hb3 hX))))
      clear hbx hc hb1 hb2 hb3 hbb hrow hLm hX
      go_wp2_with (go_at_call 17; (with_reducible refine (markInts_wide _ b _ nb nb K X hnbI hK1 (own_of_box HA0.out.1 (Nat.le_refl _) HA0.out.2.2.2.2 (by unfold maxLen; omega))).mono ?_); rintro e w2 ⟨rfl, hg2, X', ho2, _⟩; refine Hid.out ?_)
      have hX2 : X'.length = nb := own_len ho2
      have hbx2 := grow.own_box ho2
      have hg2' : wr.grownBy w2 (some b) := hg2
      have H2 := Lib.hid (And.intro (HI.out.2.2.body hg2' HA0.out.2.2.1 HA0.out.1 HA0.out.2.2.2.2 hbx2 hX2) (And.intro (bf_grown HI.out.1 HI.out.2.1 hlo hg2' HA0.out.2.1 HA0.out.2.2.2.1) (Nat.le_trans HI.out.2.1 hg2.size)))
      clear hg2 hg2' ho2 hbx2 c0
      refine Lib.hid ?_
      go_wp2
      go_roundw
      case rel => exact ⟨m + 1, K + nb, by omega, by go_num, rfl, by push_cast; omega, by push_cast; omega, H2.out.2.1, H2.out.2.2, H2.out.1⟩
      case measure => simp [intOf]; omega
    · obtain rfl : m = n := by omega
      have hI : ¬ (m : Int) < m := by omega
      go_wp2
      go_ret
      exact ⟨K, rfl, hKl, hKh, HI.out.1, HI.out.2.1⟩
end Go.Proofs.YtlinpefeojpjnaaGreat.mrk

/- A copy of rows, by its blocks' bounds: what other writes leave of it. -/
namespace Go.Proofs.YtlinpefeojpjnaaGreat.mrk
open Go Go.ChangeShapes Go.WideShapes Go.ChangeAt Go.RowKit Go.Proofs.YtlinpefeojpjnaaGreat.row Go.Proofs.YtlinpefeojpjnaaGreat.stm Go.Proofs.YtlinpefeojpjnaaGreat.prg Go.Proofs.YtlinpefeojpjnaaGreat.srow

def MkT (lo hi : Nat) (w : World) (g n : Nat) (L : List Nat) : Prop := lo ≤ g ∧ MkS lo hi w g n L
theorem MkT.below {lo hi g n : Nat} {w w' : World} {L : List Nat} (h : MkT lo hi w g n L) (hb : Below w.heap.size w w') : MkT lo hi w' g n L := ⟨h.1, h.2.below hb⟩
theorem MkT.far {lo hi g n lo2 hi2 : Nat} {w w' : World} {L : List Nat} (h : MkT lo hi w g n L) (hbf : Below lo2 w w' ∧ Far hi2 w w') (hl : hi2 ≤ lo) : MkT lo hi w' g n L := by
  obtain ⟨h0, h1, h2, cs, h3, h4⟩ := h
  refine ⟨h0, h1, h2, cs, box_far h3 hbf (.inr (Nat.le_trans hl h0)), fun j hj => ?_⟩
  obtain ⟨m, b, X, q1, q2, q3, q4, q5, q6, q7⟩ := h4 j hj
  exact ⟨m, b, X, q1, q2, q3, q4, q5, q6, box_far q7 hbf (.inr (Nat.le_trans hl q3))⟩
theorem MkT.grown {lo hi g n : Nat} {w w' : World} {r : Option Nat} {L : List Nat} (h : MkT lo hi w g n L) (hg : w.grownBy w' r) (hr : ∀ q, r = some q → q < lo) : MkT lo hi w' g n L := by
  obtain ⟨h0, h1, h2, cs, h3, h4⟩ := h
  refine ⟨h0, h1, h2, cs, h3.grown hg (fun e => by have := hr _ e.symm; omega), fun j hj => ?_⟩
  obtain ⟨m, b, X, q1, q2, q3, q4, q5, q6, q7⟩ := h4 j hj
  exact ⟨m, b, X, q1, q2, q3, q4, q5, q6, q7.grown hg (fun e => by have := hr _ e.symm; omega)⟩
theorem mkt_of {lo n : Nat} {w : World} {a : Option Addr} {LL : List (List Int)} (h : SsX lo w a n LL) : ∃ g, a = some ⟨g, 0, none⟩ ∧ g < w.heap.size ∧ MkT lo w.heap.size w g n (LL.map List.length) := by
  obtain ⟨g', e, h1, h2⟩ := mks_of h
  obtain ⟨_, g, _, e2, hlo, _⟩ := h
  have e3 : g' = g := by rw [e] at e2; injection e2 with e2; injection e2 with e2
  subst e3
  exact ⟨g', e, h1, hlo, h2⟩
end Go.Proofs.YtlinpefeojpjnaaGreat.mrk

/- The numbers of the variables that two operands name: found by a search from 0 on, or collected, sorted and made single: the same list. Plain mathematics; no condition but that the operands are valid. -/
namespace Go.Proofs.YtlinpefeojpjnaaGreat.expr

/-- The numbers below 'k' that one of the operands names. -/
def rd (a b : Int) (k : Nat) : List Int := ((List.range k).filter fun (j : Nat) => decide (a = -1 - (j : Int)) || decide (b = -1 - (j : Int))).map fun (j : Nat) => (j : Int)
theorem rd_zero (a b : Int) : rd a b 0 = [] := rfl
theorem rd_yes {a b : Int} {k : Nat} (h : a = -1 - (k : Int) ∨ b = -1 - (k : Int)) : rd a b (k + 1) = rd a b k ++ [(k : Int)] := by
  have hc : (decide (a = -1 - (k : Int)) || decide (b = -1 - (k : Int))) = true := by simpa using h
  simp [rd, List.range_succ, hc]
theorem rd_no {a b : Int} {k : Nat} (h : ¬ (a = -1 - (k : Int) ∨ b = -1 - (k : Int))) : rd a b (k + 1) = rd a b k := by
  have hc : (decide (a = -1 - (k : Int)) || decide (b = -1 - (k : Int))) = false := by simpa using h
  simp [rd, List.range_succ, hc]
theorem rd_len (a b : Int) (k : Nat) : (rd a b k).length ≤ k := by
  unfold rd; rw [List.length_map]; exact Nat.le_trans (List.length_filter_le _ _) (by simp)
theorem rd_b {a b : Int} (h : 0 ≤ b) (k : Nat) : rd a b k = rd a 0 k := by
  unfold rd; congr 1; apply List.filter_congr; intro j _
  have h1 : ¬ b = -1 - (j : Int) := by omega
  have h2 : ¬ (0 : Int) = -1 - (j : Int) := by omega
  simp only [h1, h2]
theorem rd_a {a b : Int} (h : 0 ≤ a) (k : Nat) : rd a b k = rd 0 b k := by
  unfold rd; congr 1; apply List.filter_congr; intro j _
  have h1 : ¬ a = -1 - (j : Int) := by omega
  have h2 : ¬ (0 : Int) = -1 - (j : Int) := by omega
  simp only [h1, h2]

/-- The variable that an operand names, if it does. -/
def vk (x : Int) : List Int := if x < 0 then [-1 - x] else []
theorem vk_neg {x : Int} (h : x < 0) : vk x = [-1 - x] := by simp [vk, h]
theorem vk_pos {x : Int} (h : ¬ x < 0) : vk x = [] := by simp [vk, h]
theorem compact0 : Lib.compact ([] : List Int) = [] := by simp [Lib.compact, Lib.compactUpTo]
theorem compact1 (x : Int) : Lib.compact [x] = [x] := by simp [Lib.compact, Lib.compactUpTo, Lib.keeps, List.range_succ]
theorem compact2 (x y : Int) : Lib.compact [x, y] = if x = y then [x] else [x, y] := by
  by_cases h : x = y
  · subst h; simp [Lib.compact, Lib.compactUpTo, Lib.keeps, List.range_succ]
  · have h' : ¬ y = x := fun e => h e.symm
    simp [Lib.compact, Lib.compactUpTo, Lib.keeps, List.range_succ, h, h']
def srt (L : List Int) : List Int := L.mergeSort fun x y => decide (x ≤ y)
theorem srt0 : srt [] = [] := by simp [srt]
theorem srt1 (x : Int) : srt [x] = [x] := by simp [srt]
theorem srt2 (x y : Int) : srt [x, y] = if x ≤ y then [x, y] else [y, x] := by
  unfold srt
  by_cases h : x ≤ y <;> simp [List.mergeSort, h]
theorem one_rd (i : Fin 8) : rd (-1 - (i.val : Int)) 0 8 = [(i.val : Int)] ∧ rd 0 (-1 - (i.val : Int)) 8 = [(i.val : Int)] := by
  revert i; decide
theorem two_rd (i j : Fin 8) : rd (-1 - (i.val : Int)) (-1 - (j.val : Int)) 8 = if (i.val : Int) = j.val then [(i.val : Int)] else if (i.val : Int) ≤ j.val then [(i.val : Int), (j.val : Int)] else [(j.val : Int), (i.val : Int)] := by
  revert i j; decide
theorem reads_same (a b : Int) (ha : -8 ≤ a) (hb : -8 ≤ b) : Lib.compact (srt (vk a ++ vk b)) = rd a b 8 := by
  by_cases h1 : a < 0 <;> by_cases h2 : b < 0
  · obtain ⟨i, hi, rfl⟩ : ∃ i : Nat, i < 8 ∧ a = -1 - (i : Int) := ⟨(-1 - a).toNat, by omega, by omega⟩
    obtain ⟨j, hj, rfl⟩ : ∃ j : Nat, j < 8 ∧ b = -1 - (j : Int) := ⟨(-1 - b).toNat, by omega, by omega⟩
    have e := two_rd ⟨i, hi⟩ ⟨j, hj⟩
    simp only at e
    rw [e, vk_neg h1, vk_neg h2, show (-1 - (-1 - (i : Int))) = i by omega, show (-1 - (-1 - (j : Int))) = j by omega]
    show Lib.compact (srt [(i : Int), (j : Int)]) = _
    rw [srt2]
    by_cases hle : (i : Int) ≤ j
    · simp only [if_pos hle, compact2]
    · have he : ¬ (j : Int) = i := by omega
      have he' : ¬ (i : Int) = j := by omega
      simp only [if_neg hle, compact2, if_neg he, if_neg he']
  · obtain ⟨i, hi, rfl⟩ : ∃ i : Nat, i < 8 ∧ a = -1 - (i : Int) := ⟨(-1 - a).toNat, by omega, by omega⟩
    rw [rd_b (by omega), vk_neg h1, vk_pos h2, show (-1 - (-1 - (i : Int))) = i by omega, List.append_nil, srt1, compact1]
    exact (one_rd ⟨i, hi⟩).1.symm
  · obtain ⟨j, hj, rfl⟩ : ∃ j : Nat, j < 8 ∧ b = -1 - (j : Int) := ⟨(-1 - b).toNat, by omega, by omega⟩
    rw [rd_a (by omega), vk_neg h2, vk_pos h1, show (-1 - (-1 - (j : Int))) = j by omega, List.nil_append, srt1, compact1]
    exact (one_rd ⟨j, hj⟩).2.symm
  · rw [rd_a (by omega), rd_b (by omega), vk_pos h1, vk_pos h2, List.nil_append, srt0, compact0]; decide
end Go.Proofs.YtlinpefeojpjnaaGreat.expr

/- The sets of variables of a block: what may be written, what is certainly written ahead of a place, what can be read before it is written. Plain mathematics. -/
namespace Go.Proofs.YtlinpefeojpjnaaGreat.sets
open Go Go.Proofs.YtlinpefeojpjnaaGreat.stm Go.Proofs.YtlinpefeojpjnaaGreat.blk Go.Proofs.YtlinpefeojpjnaaGreat.expr

abbrev Sm := Go.Proofs.YtlinpefeojpjnaaGreat.stm.St
/-- The statement writes its variable. -/
def wr (s : Sm) : Prop := s.k = 1 ∨ s.k = 2
/-- The statement reads its expression. -/
def rds (s : Sm) : Prop := s.k = 1 ∨ s.k = 3 ∨ s.k = 4
/-- The variables of a set, in ascending order, below 'k'. -/
def lst (f : Nat → Bool) (k : Nat) : List Int := ((List.range k).filter f).map fun (j : Nat) => (j : Int)
theorem lst_zero (f : Nat → Bool) : lst f 0 = [] := rfl
theorem lst_yes {f : Nat → Bool} {k : Nat} (h : f k = true) : lst f (k + 1) = lst f k ++ [(k : Int)] := by simp [lst, List.range_succ, h]
theorem lst_no {f : Nat → Bool} {k : Nat} (h : f k = false) : lst f (k + 1) = lst f k := by simp [lst, List.range_succ, h]
theorem lst_len (f : Nat → Bool) (k : Nat) : (lst f k).length ≤ k := by
  have := List.length_filter_le f (List.range k)
  simpa [lst] using this
theorem lst_congr {f g : Nat → Bool} {k : Nat} (h : ∀ v, v < k → f v = g v) : lst f k = lst g k := by
  unfold lst
  rw [List.filter_congr (fun v hv => h v (List.mem_range.1 hv))]
theorem lst_mem {f : Nat → Bool} {k v : Nat} : (v : Int) ∈ lst f k ↔ v < k ∧ f v = true := by
  unfold lst
  simp only [List.mem_map, List.mem_filter, List.mem_range]
  constructor
  · rintro ⟨a, h, e⟩
    obtain rfl : a = v := by omega
    exact h
  · exact fun h => ⟨v, h, rfl⟩
theorem lst_nil {f : Nat → Bool} (h : ∀ v, f v = false) : ∀ k, lst f k = []
  | 0 => rfl
  | k + 1 => by rw [lst_no (h k), lst_nil h k]
/-- The statement 'j' writes the variable 'v'. -/
def WrAt (B : List Sm) (j v : Nat) : Prop := ∃ s, B[j]? = some s ∧ wr s ∧ s.v = v
/-- Written ahead of the place 'p', in some execution. -/
def MayTo (B : List Sm) (p v : Nat) : Prop := ∃ j, j < p ∧ WrAt B j v
/-- The place 'p' lies inside the condition 'i'. -/
def InIf (B : List Sm) (i p : Nat) : Prop := ∃ e s, B[i]? = some s ∧ s.k = 4 ∧ IsEnd B i e ∧ i < p ∧ p ≤ e
/-- Certainly written ahead of the place 'p'. -/
def WAt (B : List Sm) (p v : Nat) : Prop := ∃ j, j < p ∧ WrAt B j v ∧ ∀ i, InIf B i j → InIf B i p
/-- The statement 'j' reads the variable 'v'. -/
def RdAt (B : List Sm) (j v : Nat) : Prop := ∃ s, B[j]? = some s ∧ rds s ∧ (v : Int) ∈ rd s.a s.b 8
/-- Read ahead of the place 'p', before it is certainly written. -/
def FAt (B : List Sm) (p v : Nat) : Prop := ∃ j, j < p ∧ RdAt B j v ∧ ¬ WAt B j v

theorem mayTo_zero {B : List Sm} {v : Nat} : ¬ MayTo B 0 v := fun ⟨j, h, _⟩ => by omega
theorem mayTo_succ {B : List Sm} {p v : Nat} : MayTo B (p + 1) v ↔ MayTo B p v ∨ WrAt B p v := by
  constructor
  · rintro ⟨j, hj, h⟩
    by_cases e : j = p
    · subst e; exact .inr h
    · exact .inl ⟨j, by omega, h⟩
  · rintro (⟨j, hj, h⟩ | h)
    · exact ⟨j, by omega, h⟩
    · exact ⟨p, by omega, h⟩
/-- Ends are nested. -/
theorem end_in {B : List Sm} {i e i' e' : Nat} (h : IsEnd B i e) (h' : IsEnd B i' e') (h1 : i' < i) (h2 : i ≤ e') : e < e' := by
  have a1 := h'.2.2.2 i h1 h2
  rcases Nat.lt_trichotomy e e' with hlt | rfl | hlt
  · exact hlt
  · have := h.2.2.1; have := h'.2.2.1; omega
  · have := h.2.2.2 (e' + 1) (by omega) (by omega); have := h'.2.2.1; omega
theorem wAt_zero {B : List Sm} {v : Nat} : ¬ WAt B 0 v := fun ⟨j, h, _⟩ => by omega
theorem WrAt.not6 {B : List Sm} {j v i e : Nat} (h : WrAt B j v) (he : IsEnd B i e) : j ≠ e := by
  rintro rfl
  obtain ⟨s, hs, hw, _⟩ := h
  obtain ⟨t, ht, h6⟩ := he.kind
  rw [hs] at ht
  cases ht
  rcases hw with h | h <;> omega
/-- One place on, where no condition ends. -/
theorem wAt_succ {B : List Sm} {p v : Nat} (hp : ∀ i s, B[i]? = some s → s.k = 4 → ¬ IsEnd B i p) : WAt B (p + 1) v ↔ WAt B p v ∨ WrAt B p v := by
  constructor
  · rintro ⟨j, hj, hw, hi⟩
    by_cases e : j = p
    · subst e; exact .inr hw
    · refine .inl ⟨j, by omega, hw, fun i h => ?_⟩
      obtain ⟨e1, s1, h1, h2, h3, h4, h5⟩ := h
      obtain ⟨e2, s2, g1, g2, g3, g4, g5⟩ := hi i ⟨e1, s1, h1, h2, h3, h4, h5⟩
      exact ⟨e2, s2, g1, g2, g3, by omega, by omega⟩
  · rintro (⟨j, hj, hw, hi⟩ | hw)
    · refine ⟨j, by omega, hw, fun i h => ?_⟩
      obtain ⟨e2, s2, g1, g2, g3, g4, g5⟩ := hi i h
      have : p ≠ e2 := fun e => hp i s2 g1 g2 (by rw [e]; exact g3)
      exact ⟨e2, s2, g1, g2, g3, by omega, by omega⟩
    · refine ⟨p, by omega, hw, fun i h => ?_⟩
      obtain ⟨e2, s2, g1, g2, g3, g4, g5⟩ := h
      have := hw.not6 g3
      exact ⟨e2, s2, g1, g2, g3, by omega, by omega⟩
/-- A condition discards what it wrote. -/
theorem wAt_if {B : List Sm} {i e v : Nat} {s : Sm} (hs : B[i]? = some s) (h4 : s.k = 4) (he : IsEnd B i e) : WAt B (e + 1) v ↔ WAt B i v := by
  constructor
  · rintro ⟨j, hj, hw, hi⟩
    have hji : j < i := by
      by_cases h : j < i
      · exact h
      · exfalso
        by_cases e2 : j = i
        · subst e2
          obtain ⟨t, ht, hw2, _⟩ := hw
          rw [hs] at ht; cases ht
          rcases hw2 with h | h <;> omega
        · obtain ⟨e2, s2, g1, g2, g3, g4, g5⟩ := hi i ⟨e, s, hs, h4, he, by omega, by omega⟩
          have := he.unique g3
          omega
    refine ⟨j, hji, hw, fun i' h => ?_⟩
    obtain ⟨e1, s1, h1, h2, h3, h5, h6⟩ := h
    obtain ⟨e2, s2, g1, g2, g3, g4, g5⟩ := hi i' ⟨e1, s1, h1, h2, h3, h5, h6⟩
    have := he.1
    exact ⟨e2, s2, g1, g2, g3, by omega, by omega⟩
  · rintro ⟨j, hj, hw, hi⟩
    refine ⟨j, by have := he.1; omega, hw, fun i' h => ?_⟩
    obtain ⟨e2, s2, g1, g2, g3, g4, g5⟩ := hi i' h
    have := end_in he g3 g4 g5
    exact ⟨e2, s2, g1, g2, g3, by have := he.1; omega, by omega⟩
theorem fAt_zero {B : List Sm} {v : Nat} : ¬ FAt B 0 v := fun ⟨j, h, _⟩ => by omega
theorem fAt_succ {B : List Sm} {p v : Nat} : FAt B (p + 1) v ↔ FAt B p v ∨ (RdAt B p v ∧ ¬ WAt B p v) := by
  constructor
  · rintro ⟨j, hj, h⟩
    by_cases e : j = p
    · subst e; exact .inr h
    · exact .inl ⟨j, by omega, h⟩
  · rintro (⟨j, hj, h⟩ | h)
    · exact ⟨j, by omega, h⟩
    · exact ⟨p, by omega, h⟩
/-- The end reads and writes nothing. -/
theorem end_nothing {B : List Sm} {i e v : Nat} (he : IsEnd B i e) : ¬ WrAt B e v ∧ ¬ RdAt B e v := by
  obtain ⟨t, ht, h6⟩ := he.kind
  constructor
  · rintro ⟨s, hs, hw, _⟩
    rw [hs] at ht; cases ht
    rcases hw with h | h <;> omega
  · rintro ⟨s, hs, hw, _⟩
    rw [hs] at ht; cases ht
    rcases hw with h | h | h <;> omega
/-- No condition is around the place. -/
def Out (B : List Sm) (p : Nat) : Prop := ∀ i, ¬ InIf B i p
theorem Out.zero (B : List Sm) : Out B 0 := fun i ⟨_, _, _, _, _, h, _⟩ => by omega
theorem Out.noEnd {B : List Sm} {p : Nat} (h : Out B p) : ∀ i s, B[i]? = some s → s.k = 4 → ¬ IsEnd B i p := fun i s hs h4 he => h i ⟨p, s, hs, h4, he, he.1, Nat.le_refl _⟩
theorem Out.succ {B : List Sm} {p : Nat} {s : Sm} (h : Out B p) (hs : B[p]? = some s) (h4 : s.k ≠ 4) : Out B (p + 1) := fun i ⟨e, t, h1, h2, h3, h5, h6⟩ => by
  by_cases e1 : i = p
  · subst e1; rw [hs] at h1; cases h1; exact h4 h2
  · exact h i ⟨e, t, h1, h2, h3, by omega, by omega⟩
theorem Out.jump {B : List Sm} {i e : Nat} (h : Out B i) (he : IsEnd B i e) : Out B (e + 1) := fun i' ⟨e', t, h1, h2, h3, h5, h6⟩ => by
  rcases Nat.lt_trichotomy i' i with hlt | rfl | hlt
  · exact h i' ⟨e', t, h1, h2, h3, hlt, by have := he.1; omega⟩
  · have := he.unique h3; omega
  · have := end_in h3 he hlt (by omega); omega
/-- A part of a block that begins and ends at the same height and is nowhere lower. -/
def Seg (B : List Sm) (a b : Nat) : Prop := a ≤ b ∧ b ≤ B.length ∧ hAt B b = hAt B a ∧ ∀ j, a ≤ j → j ≤ b → hAt B a ≤ hAt B j
theorem Seg.all {B : List Sm} (h : IsBlk B) : Seg B 0 B.length := ⟨Nat.zero_le _, Nat.le_refl _, by rw [h.2.1, hAt_zero], fun j _ _ => by rw [hAt_zero]; exact (blk_bounds h j).1⟩
theorem Seg.not6 {B : List Sm} {a b p : Nat} {s : Sm} (h : Seg B a b) (hp : a ≤ p) (hpb : p < b) (hh : hAt B p = hAt B a) (hs : B[p]? = some s) : s.k ≠ 6 := fun h6 => by
  have h1 := hAt_succ hs
  rw [dlt_end h6] at h1
  have := h.2.2.2 (p + 1) (by omega) (by omega)
  omega
theorem Seg.noEnd {B : List Sm} {a b p : Nat} (h : Seg B a b) (hp : a ≤ p) (hpb : p < b) (hh : hAt B p = hAt B a) : ∀ i s, B[i]? = some s → s.k = 4 → ¬ IsEnd B i p := fun i s _ _ he => by
  obtain ⟨t, ht, h6⟩ := he.kind
  exact h.not6 hp hpb hh ht h6
theorem Seg.inner {B : List Sm} {a b i e : Nat} (h : Seg B a b) (hib : i < b) (hh : hAt B i = hAt B a) (he : IsEnd B i e) : e < b ∧ Seg B (i + 1) e ∧ hAt B (e + 1) = hAt B a := by
  have h1 := he.2.2.1
  have heb : e < b := by
    by_cases h9 : e < b
    · exact h9
    · have := he.2.2.2 b hib (by omega); have := h.2.2.1; omega
  obtain ⟨s, hs, ho⟩ := he.opens
  have h2 := hAt_succ hs
  rw [dlt_opn ho] at h2
  refine ⟨heb, ⟨by have := he.1; omega, by have := h.2.1; omega, ?_, fun j h3 h4 => ?_⟩, by omega⟩
  · have := he.depth; omega
  · have := he.2.2.2 j (by omega) h4; omega
end Go.Proofs.YtlinpefeojpjnaaGreat.sets
