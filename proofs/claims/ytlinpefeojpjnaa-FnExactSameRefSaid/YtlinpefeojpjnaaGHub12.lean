/- Several texts in one: RefL WtA. -/
import Derived.Test.YtlinpefeojpjnaaGHub10
import Derived.Test.YtlinpefeojpjnaaGHub2
import Derived.Test.YtlinpefeojpjnaaGHub5
import Derived.Lib.RowBridge

/- The law's own size and copy of a reference. -/
namespace Go.Proofs.Ytlinpefeojpjnaa.ref
open Go Go.ChangeShapes Go.WideShapes Go.ChangeAt Go.RowKit Go.Proofs.Ytlinpefeojpjnaa.row Go.Proofs.Ytlinpefeojpjnaa.val Go.Proofs.Ytlinpefeojpjnaa.expr Go.Proofs.Ytlinpefeojpjnaa.srow
set_option maxHeartbeats 2000000 in
set_option maxRecDepth 100000 in
theorem szref_any (w : World) (a1 : Option Addr) (n1 c1 : Nat) (a2 : Option Addr) (n2 c2 : Nat) (T : Int) (hn1 : n1 ≤ maxLen) (hn2 : n2 ≤ maxLen) (q : Int) (hq0 : 0 ≤ q) (hq1 : q ≤ 1048576) :
    Calls Try.prog 6 #[.agg #[.slice a1 n1 c1, .slice a2 n2 c2, .int .i64 T], .int .i64 q] w fun e w' => ∃ r : Int, e = .returned (.int .i64 r) ∧ -1 ≤ r ∧ r ≤ 1048576 ∧ Hid (0 ≤ r → (n1 : Int) ≤ 1048576 ∧ (n2 : Int) ≤ 1048576) ∧ Below w.heap.size w w' := by
  obtain ⟨W, hW⟩ : ∃ W, w.alloc (.cells #[.slice a1 n1 c1, .slice a2 n2 c2, .int .i64 T] 24) = W := ⟨_, rfl⟩
  have hBW : Below w.heap.size w W := by rw [← hW]; exact below_new w _
  have hx : Box w.heap.size #[.slice a1 n1 c1, .slice a2 n2 c2, .int .i64 T] 24 W := by rw [← hW]; exact Box.new w _ _
  have x0 : W.cell? ⟨w.heap.size, 0, none⟩ = some (.slice a1 n1 c1) := hx.cell 0
  have H0 := Lib.hid (And.intro hBW hx)
  clear hBW hx
  go_enter Try.func6, Try.ntmps6
  go_wp2_with (go_at_call 18; (with_reducible refine (szints_any _ a1 n1 c1 hn1 q hq0 hq1).mono ?_); rintro e w2 ⟨r, rfl, hr, hb2⟩; refine Hid.out ?_)
  have H2 := Lib.hid (And.intro (below_then H0.out.1 hb2) (H0.out.2.below hb2))
  clear hb2 x0
  rcases hr.out with ⟨rfl, hr1⟩ | ⟨rfl, hr1⟩
  · refine Lib.hid ?_
    go_wp2
    go_ret
    exact ⟨-1, rfl, by omega, by omega, fun h => by omega, H2.out.1⟩
  · have hn : ¬ q - (n1 : Int) < 0 := by omega
    have x1 : w2.cell? ⟨w.heap.size, 1, none⟩ = some (.slice a2 n2 c2) := H2.out.2.cell 1
    refine Lib.hid ?_
    go_wp2_with (go_at_call 18; (with_reducible refine (szints_any _ a2 n2 c2 hn2 (q - n1) (by omega) (by omega)).mono ?_); rintro e w3 ⟨r, rfl, hr2, hb3⟩; refine Hid.out ?_)
    have H3 := Lib.hid (below_then H2.out.1 hb3)
    clear hb3 x1
    rcases hr2.out with ⟨rfl, hr3⟩ | ⟨rfl, hr3⟩
    · refine Lib.hid ?_
      go_wp2
      go_ret
      exact ⟨-1, rfl, by omega, by omega, fun h => by omega, H3.out⟩
    · have hn2 : ¬ q - (n1 : Int) - n2 < 0 := by omega
      refine Lib.hid ?_
      go_wp2
      go_ret
      exact ⟨q - n1 - n2, rfl, by omega, by omega, fun _ => ⟨by omega, by omega⟩, H3.out⟩
theorem ne_ownL {v : Value} {a b g : Nat} (h : ∀ q, v.ownBlock = some q → a ≤ q ∧ q < b) (hg : g < a ∨ b ≤ g) : v.ownBlock = none ∨ v.ownBlock ≠ some g := by
  cases hq : v.ownBlock with
  | none => exact .inl rfl
  | some q => right; intro e; have := h q hq; have := Option.some.inj e; omega
set_option maxHeartbeats 4000000 in
set_option maxRecDepth 100000 in
theorem toref_new (w : World) (a1 : Option Addr) (n1 c1 : Nat) (a2 : Option Addr) (n2 c2' : Nat) (R : Rf) (hn1 : (n1 : Int) ≤ 1048576) (hn2 : (n2 : Int) ≤ 1048576) (h1 : Row w a1 n1 R.V) (h2 : Row w a2 n2 R.S) :
    Calls Try.prog 8 #[refV a1 n1 c1 a2 n2 c2' R] w (NewRef w R) := by
  obtain ⟨V, S, T⟩ := R
  show Calls Try.prog 8 #[.agg #[.slice a1 n1 c1, .slice a2 n2 c2', .int .i64 T]] w (NewRef w ⟨V, S, T⟩)
  dsimp only at h1 h2
  obtain ⟨W, hW⟩ : ∃ W, ((w.alloc (.cells #[.slice a1 n1 c1, .slice a2 n2 c2', .int .i64 T] 24)).alloc (.cells zero3R 27)).alloc (.cells zero3R 27) = W := ⟨_, rfl⟩
  have hBW : Below w.heap.size w W := by rw [← hW]; exact below_then (below_then (below_new w _) (below_new _ _)) (below_new _ _)
  have hx : Box w.heap.size #[.slice a1 n1 c1, .slice a2 n2 c2', .int .i64 T] 24 W := by rw [← hW]; exact ((Box.new w _ _).alloc _).alloc _
  have hy : Box (w.heap.size + 1) zero3R 27 W := by
    have h9 := Box.new (w.alloc (.cells #[.slice a1 n1 c1, .slice a2 n2 c2', .int .i64 T] 24)) zero3R 27
    rw [World.size_alloc] at h9
    rw [← hW]; exact h9.alloc _
  have hz : Box (w.heap.size + 1 + 1) zero3R 27 W := by
    have h9 := Box.new ((w.alloc (.cells #[.slice a1 n1 c1, .slice a2 n2 c2', .int .i64 T] 24)).alloc (.cells zero3R 27)) zero3R 27
    rw [World.size_alloc, World.size_alloc] at h9
    rw [← hW]; exact h9
  have x0 : W.cell? ⟨w.heap.size, 0, none⟩ = some (.slice a1 n1 c1) := hx.cell 0
  have H0 := Lib.hid (And.intro hBW (And.intro hx (And.intro hy (And.intro hz (And.intro (h1.below hBW) (h2.below hBW))))))
  have HR2 := Lib.hid h2
  have hWl : w.heap.size + 1 + 1 < W.heap.size := hz.lt
  clear hBW hx hy hz h1 h2
  go_enter Try.func8, Try.ntmps8
  go_wp2_with (go_at_call 20; (with_reducible refine (toInts_new _ a1 n1 c1 V hn1 H0.out.2.2.2.2.1).mono ?_); rintro e w2 ⟨g1, rfl, ho, hb⟩; refine Hid.out ?_)
  have hz2 := H0.out.2.2.2.1.below hb
  have hg3 := grown_setCell w2 (w.heap.size + 1 + 1) 0 (.slice (some ⟨g1, 0, none⟩) n1 n1)
  have hz3 := hz2.set 0 (.slice (some ⟨g1, 0, none⟩) n1 n1)
  have c2 : w2.cell? ⟨w.heap.size + 1 + 1, 0, none⟩ = some (.slice none 0 0) := hz2.cell 0
  have f2 : w2.frozen? ⟨w.heap.size + 1 + 1, 0, none⟩ = false := hz2.frozen 0
  have ho3 := ho.kept hg3 (ne_ownL ho.lt (.inl hWl))
  have hb3 := (below_then H0.out.1 hb).grown hg3 (below_then H0.out.1 hb).size (fun q hq => by cases hq; omega)
  have hx3 := (H0.out.2.1.below hb).grown hg3 (fun e => by have := Option.some.inj e; omega)
  have hy3 := (H0.out.2.2.1.below hb).grown hg3 (fun e => by have := Option.some.inj e; omega)
  obtain ⟨w3, hw3⟩ : ∃ w3, w2.setCell ⟨w.heap.size + 1 + 1, 0, none⟩ (.slice (some ⟨g1, 0, none⟩) n1 n1) = w3 := ⟨_, rfl⟩
  rw [hw3] at hg3 hz3 ho3 hb3 hx3 hy3
  have hs3 : W.heap.size ≤ w3.heap.size := Nat.le_trans hb.size hg3.size
  have x1 : w3.cell? ⟨w.heap.size, 1, none⟩ = some (.slice a2 n2 c2') := hx3.cell 1
  have H3 := Lib.hid (And.intro hb3 (And.intro hx3 (And.intro hy3 (And.intro hz3 ho3))))
  clear hg3 hz3 ho3 hb3 hx3 hy3 hz2 ho hb x0
  refine Lib.hid ?_
  go_wp2_with (go_at_call 20; (with_reducible refine (toInts_new _ a2 n2 c2' S hn2 (HR2.out.below H3.out.1)).mono ?_); rintro e w4 ⟨g2, rfl, ho, hb⟩; refine Hid.out ?_)
  have hz4 := H3.out.2.2.2.1.below hb
  have hg5 := grown_setCell w4 (w.heap.size + 1 + 1) 1 (.slice (some ⟨g2, 0, none⟩) n2 n2)
  have hz5 := hz4.set 1 (.slice (some ⟨g2, 0, none⟩) n2 n2)
  have c4 : w4.cell? ⟨w.heap.size + 1 + 1, 1, none⟩ = some (.slice none 0 0) := hz4.cell 1
  have f4 : w4.frozen? ⟨w.heap.size + 1 + 1, 1, none⟩ = false := hz4.frozen 1
  have ho5 := ho.kept hg5 (ne_ownL ho.lt (.inl (Nat.lt_of_lt_of_le hWl hs3)))
  have hp5 := (H3.out.2.2.2.2.kept (grown_below hb none) (by simp [Value.ownBlock])).kept hg5 (ne_ownL (H3.out.2.2.2.2.kept (grown_below hb none) (by simp [Value.ownBlock])).lt (.inl hWl))
  have hap : g1 ≠ g2 := by have h1 := (H3.out.2.2.2.2.lt g1 rfl).2; have h2 := (ho.lt g2 rfl).1; omega
  have hb5 := (below_then H3.out.1 hb).grown hg5 (below_then H3.out.1 hb).size (fun q hq => by cases hq; omega)
  have hx5 := (H3.out.2.1.below hb).grown hg5 (fun e => by have := Option.some.inj e; omega)
  have hy5 := (H3.out.2.2.1.below hb).grown hg5 (fun e => by have := Option.some.inj e; omega)
  obtain ⟨w5, hw5⟩ : ∃ w3, w4.setCell ⟨w.heap.size + 1 + 1, 1, none⟩ (.slice (some ⟨g2, 0, none⟩) n2 n2) = w3 := ⟨_, rfl⟩
  rw [hw5] at hg5 hz5 ho5 hp5 hb5 hx5 hy5
  have x2 : w5.cell? ⟨w.heap.size, 2, none⟩ = some (.int .i64 T) := hx5.cell 2
  have c5 : w5.cell? ⟨w.heap.size + 1 + 1, 2, none⟩ = some (.int .i64 0) := hz5.cell 2
  have f5 : w5.frozen? ⟨w.heap.size + 1 + 1, 2, none⟩ = false := hz5.frozen 2
  have hg6 := grown_setCell w5 (w.heap.size + 1 + 1) 2 (.int .i64 T)
  have hz6 := hz5.set 2 (.int .i64 T)
  have ho6 := ho5.kept hg6 (ne_ownL ho5.lt (.inl (Nat.lt_of_lt_of_le hWl hs3)))
  have hp6 := hp5.kept hg6 (ne_ownL hp5.lt (.inl hWl))
  have hb6 := hb5.grown hg6 hb5.size (fun q hq => by cases hq; omega)
  have hy6 := hy5.grown hg6 (fun e => by have := Option.some.inj e; omega)
  obtain ⟨w6, hw6⟩ : ∃ w3, w5.setCell ⟨w.heap.size + 1 + 1, 2, none⟩ (.int .i64 T) = w3 := ⟨_, rfl⟩
  rw [hw6] at hg6 hz6 ho6 hp6 hb6 hy6
  have H6 := Lib.hid (And.intro hb6 (And.intro hy6 (And.intro (show Box (w.heap.size + 1 + 1) #[.slice (some ⟨g1, 0, none⟩) n1 n1, .slice (some ⟨g2, 0, none⟩) n2 n2, .int .i64 T] 27 w6 from hz6) (And.intro hp6 ho6))))
  clear hg6 hz6 ho6 hp6 hb6 hy6 hg5 hz5 ho5 hp5 hb5 hx5 hy5 hz4 ho hb x1
  refine Lib.hid ?_
  go_wp2_with (first
    | (refine wpList_load_row rfl 27 _ rfl (w.heap.size + 1 + 1) rfl _ _ _ _ H6.out.2.2.1 Try.underlying27 rfl (by kernel_rfl) ?_)
    | ((refine wpList_store_box rfl 27 _ _ rfl (w.heap.size + 1) _ _ H6.out.2.1 #[.slice (some ⟨g1, 0, none⟩) n1 n1, .slice (some ⟨g2, 0, none⟩) n2 n2, .int .i64 T] rfl rfl rfl (by kernel_rfl) (by simp [Value.oneCell']) ?_); intro w7 hx7 hg7; refine Hid.out ?_))
  have hb7 := H6.out.1.grown hg7 H6.out.1.size (fun q hq => by cases hq; omega)
  have ho7 := (H6.out.2.2.2.1.kept hg7 (ne_ownL H6.out.2.2.2.1.lt (.inl (by omega)))).mono (show w.heap.size ≤ W.heap.size by omega)
  have hp7 := (H6.out.2.2.2.2.kept hg7 (ne_ownL H6.out.2.2.2.2.lt (.inl (by omega)))).mono (show w.heap.size ≤ w3.heap.size by omega)
  have H7 := Lib.hid (And.intro hx7 (And.intro hb7 (And.intro ho7 hp7)))
  clear hx7 hg7 hb7 ho7 hp7
  refine Lib.hid ?_
  go_wp2
  exact bodyPost_ret (v := refV (some ⟨g1, 0, none⟩) n1 n1 (some ⟨g2, 0, none⟩) n2 n2 ⟨V, S, T⟩) (results_cell_row rfl _ _ (w.heap.size + 1) _ _ _ _ rfl H7.out.1 Try.underlying27 rfl (by kernel_rfl)) rfl ⟨_, n1, n1, _, n2, n2, rfl, ⟨H7.out.2.2.1, H7.out.2.2.2, .inr (by simpa [Value.ownBlock] using hap)⟩, H7.out.2.1⟩
end Go.Proofs.Ytlinpefeojpjnaa.ref

/- Chapter 10, plain mathematics: writes, what applying them makes of a row, the first place where two rows differ, and the places of a list of writes in ascending order, each once. -/
namespace Go.Proofs.Ytlinpefeojpjnaa.wrt
open Go.Proofs.Ytlinpefeojpjnaa.expr

/-- A write: the place, the value. -/
structure Wt where
  (p v : Int)
deriving DecidableEq

/-- The row behind one write. -/
def put1 (M : List Int) (x : Wt) : List Int := if 0 ≤ x.p ∧ x.p < M.length then M.set x.p.toNat x.v else M
theorem put1_in {M : List Int} {x : Wt} {k : Nat} (hk : x.p = k) (h : k < M.length) : put1 M x = M.set k x.v := by
  unfold put1; rw [if_pos ⟨by omega, by omega⟩, show x.p.toNat = k by omega]
theorem put1_out {M : List Int} {x : Wt} (h : ¬ (0 ≤ x.p ∧ x.p < M.length)) : put1 M x = M := by unfold put1; rw [if_neg h]
theorem put1_len (M : List Int) (x : Wt) : (put1 M x).length = M.length := by unfold put1; split <;> simp
/-- The row behind all these writes. -/
def putAll (M : List Int) (L : List Wt) : List Int := L.foldl put1 M
theorem putAll_len (L : List Wt) : ∀ M, (putAll M L).length = M.length := by
  induction L with
  | nil => intro M; rfl
  | cons x L ih => intro M; show (putAll (put1 M x) L).length = _; rw [ih, put1_len]
theorem putAll_snoc {M : List Int} {L : List Wt} {k : Nat} {x : Wt} (h : L[k]? = some x) : putAll M (L.take (k + 1)) = put1 (putAll M (L.take k)) x := by
  unfold putAll; rw [List.take_add_one, h]; simp
theorem putAll_app (M : List Int) (K L : List Wt) : putAll M (K ++ L) = putAll (putAll M K) L := by unfold putAll; rw [List.foldl_append]
/-- What ApplyWrites answers. -/
def appW (M : List Int) (L : List Wt) (c : Int) : List Int := putAll M (L.take c.toNat)
theorem appW_len (M : List Int) (L : List Wt) (c : Int) : (appW M L c).length = M.length := putAll_len _ _
theorem appW_all (M : List Int) (L : List Wt) {c : Int} (h : (L.length : Int) ≤ c) : appW M L c = putAll M L := by
  unfold appW; rw [List.take_of_length_le (by omega)]
theorem put1_other {M : List Int} {x : Wt} {k : Nat} (h : x.p ≠ k) : (put1 M x)[k]? = M[k]? := by
  unfold put1
  split
  · rw [List.getElem?_set_ne (by omega)]
  · rfl
theorem putAll_other {k : Nat} : ∀ (L : List Wt) (M : List Int), (∀ x ∈ L, x.p ≠ k) → (putAll M L)[k]? = M[k]?
  | [], _, _ => rfl
  | x :: L, M, h => by
    show (putAll (put1 M x) L)[k]? = _
    rw [putAll_other L (put1 M x) (fun y hy => h y (List.mem_cons_of_mem _ hy)), put1_other (h x (List.mem_cons_self ..))]

/-- 'r' is the first place where the rows differ, or -1. -/
def FdIs (A B : List Int) (r : Int) : Prop := (r = -1 ∧ A = B) ∨ ∃ k : Nat, r = k ∧ (∀ j, j < k → A[j]? = B[j]?) ∧ A[k]? ≠ B[k]?
theorem fd_ex (A B : List Int) : ∃ r, FdIs A B r := by
  induction A generalizing B with
  | nil =>
    cases B with
    | nil => exact ⟨-1, .inl ⟨rfl, rfl⟩⟩
    | cons b B => exact ⟨0, .inr ⟨0, rfl, fun j hj => absurd hj (by omega), by simp⟩⟩
  | cons a A ih =>
    cases B with
    | nil => exact ⟨0, .inr ⟨0, rfl, fun j hj => absurd hj (by omega), by simp⟩⟩
    | cons b B =>
      by_cases h : a = b
      · subst h
        obtain ⟨r, hr⟩ := ih B
        rcases hr with ⟨rfl, rfl⟩ | ⟨k, rfl, h1, h2⟩
        · exact ⟨-1, .inl ⟨rfl, rfl⟩⟩
        · refine ⟨((k + 1 : Nat) : Int), .inr ⟨k + 1, rfl, fun j hj => ?_, by simpa using h2⟩⟩
          cases j with
          | zero => rfl
          | succ j => simpa using h1 j (by omega)
      · exact ⟨0, .inr ⟨0, rfl, fun j hj => absurd hj (by omega), by simpa using h⟩⟩
theorem fd_at {A B : List Int} {r : Int} (h : FdIs A B r) {k : Nat} (h1 : ∀ j, j < k → A[j]? = B[j]?) (h2 : A[k]? ≠ B[k]?) : r = k := by
  rcases h with ⟨_, rfl⟩ | ⟨m, rfl, h3, h4⟩
  · exact absurd rfl h2
  · rcases Nat.lt_trichotomy k m with hl | hl | hl
    · exact absurd (h3 k hl) h2
    · rw [hl]
    · exact absurd (h1 m hl) h4
theorem fd_none {A B : List Int} {r : Int} (h : FdIs A B r) (h1 : A = B) : r = -1 := by
  rcases h with ⟨h, _⟩ | ⟨m, _, _, h4⟩
  · exact h
  · subst h1; exact absurd rfl h4
theorem fd_end {A B : List Int} {r : Int} (h : FdIs A B r) {k : Nat} (h1 : ∀ j, j < k → A[j]? = B[j]?) (h2 : A.length ≤ k) (h3 : B.length ≤ k) : r = -1 := by
  refine fd_none h (List.ext_getElem? fun j => ?_)
  by_cases hj : j < k
  · exact h1 j hj
  · rw [List.getElem?_eq_none (by omega), List.getElem?_eq_none (by omega)]
theorem fd_set {A : List Int} {k : Nat} {x y : Int} (hx : A[k]? = some x) (hy : y ≠ x) : FdIs A (A.set k y) k := by
  have hk := (List.getElem?_eq_some_iff.1 hx).1
  refine .inr ⟨k, rfl, fun j hj => by rw [List.getElem?_set_ne (by omega)], ?_⟩
  rw [hx, List.getElem?_set_self hk]; intro e; exact hy (Option.some.inj e).symm

/-- Strictly ascending. -/
abbrev Asc (L : List Int) : Prop := L.Pairwise (· < ·)
theorem asc_ext {K L : List Int} (h1 : Asc K) (h2 : Asc L) (h : ∀ x, x ∈ K ↔ x ∈ L) : K = L := by
  have n1 : K.Nodup := h1.imp (fun h => by omega)
  have n2 : L.Nodup := h2.imp (fun h => by omega)
  have hp : K.Perm L := (List.perm_ext_iff_of_nodup n1 n2).2 h
  exact List.Perm.eq_of_pairwise (le := (· < ·)) (fun a b _ _ h1 h2 => by omega) h1 h2 hp
theorem asc_at {L : List Int} (h : Asc L) {i j : Nat} (hij : i < j) {x y : Int} (hx : L[i]? = some x) (hy : L[j]? = some y) : x < y := by
  obtain ⟨h1, rfl⟩ := List.getElem?_eq_some_iff.1 hx
  obtain ⟨h2, rfl⟩ := List.getElem?_eq_some_iff.1 hy
  exact List.pairwise_iff_getElem.1 h i j h1 h2 hij
theorem compact_asc {L : List Int} (h : L.Pairwise (· ≤ ·)) : Asc (Lib.compact L) ∧ ∀ x, x ∈ Lib.compact L ↔ x ∈ L := by
  have hg : ∀ j, j < L.length → L.toArray[j]! = L.getD j 0 := fun j hj => by
    simp [List.getD_eq_getElem?_getD, hj]
  have key : ∀ m, m ≤ L.length → Asc (Lib.compactUpTo L.toArray m) ∧ (∀ x, x ∈ Lib.compactUpTo L.toArray m ↔ x ∈ L.take m) := by
    intro m
    induction m with
    | zero => intro _; simp [Lib.compactUpTo]
    | succ m ih =>
      intro hm
      obtain ⟨i1, i2⟩ := ih (by omega)
      have hmL : L[m]? = some (L.getD m 0) := by simp [List.getD_eq_getElem?_getD, show m < L.length by omega]
      have htk : L.take (m + 1) = L.take m ++ [L.getD m 0] := by rw [List.take_add_one, hmL]; rfl
      have hle : ∀ x ∈ L.take m, x ≤ L.getD m 0 := by
        intro x hx
        obtain ⟨i, hi, rfl⟩ := List.mem_iff_getElem.1 hx
        have hi' : i < m := by simp at hi; omega
        rw [List.getElem_take]
        have := List.pairwise_iff_getElem.1 h i m (by omega) (by omega) hi'
        simpa [List.getD_eq_getElem?_getD, show m < L.length by omega] using this
      rw [Lib.compactUpTo_succ, hg m (by omega)]
      by_cases hk : Lib.keeps L.toArray m = true
      · rw [if_pos hk]
        have hnew : ∀ x ∈ L.take m, x < L.getD m 0 := by
          intro x hx
          have hx1 := hle x hx
          rcases Int.lt_or_eq_of_le hx1 with hlt | heq
          · exact hlt
          · exfalso
            subst heq
            have hm0 : m ≠ 0 := by intro e; subst e; simp at hx
            have hne : L.toArray[m]! ≠ L.toArray[m - 1]! := by
              simp only [Lib.keeps, decide_eq_true_eq] at hk
              rcases hk with hk | hk
              · exact absurd hk hm0
              · exact hk
            rw [hg m (by omega), hg (m - 1) (by omega)] at hne
            obtain ⟨i, hi, hxi⟩ := List.mem_iff_getElem.1 hx
            have hi' : i < m := by simp at hi; omega
            rw [List.getElem_take] at hxi
            have h1 : L[i] ≤ L[m - 1] := by
              rcases Nat.lt_or_ge i (m - 1) with hl | hl
              · exact List.pairwise_iff_getElem.1 h i (m - 1) (by omega) (by omega) hl
              · have : i = m - 1 := by omega
                subst this; exact Int.le_refl _
            have h2 : L[m - 1] ≤ L[m] := List.pairwise_iff_getElem.1 h (m - 1) m (by omega) (by omega) (by omega)
            have e1 : L.getD m 0 = L[m] := by simp [List.getD_eq_getElem?_getD, show m < L.length by omega]
            have e2 : L.getD (m - 1) 0 = L[m - 1] := by simp [List.getD_eq_getElem?_getD, show m - 1 < L.length by omega]
            rw [e1, e2] at hne
            rw [e1] at hxi
            omega
        refine ⟨List.pairwise_append.2 ⟨i1, by simp, fun a ha b hb => ?_⟩, fun x => ?_⟩
        · rw [List.mem_singleton] at hb; subst hb
          exact hnew a ((i2 a).1 ha)
        · rw [htk, List.mem_append, List.mem_append, i2 x]
      · rw [if_neg hk, List.append_nil]
        refine ⟨i1, fun x => ?_⟩
        rw [htk, List.mem_append, i2 x]
        constructor
        · exact .inl
        · rintro (hx | hx)
          · exact hx
          · rw [List.mem_singleton] at hx; subst hx
            have hk' : ¬ (m = 0 ∨ L.toArray[m]! ≠ L.toArray[m - 1]!) := by simpa [Lib.keeps] using hk
            have hm0 : m ≠ 0 := fun e => hk' (.inl e)
            have he : L.toArray[m]! = L.toArray[m - 1]! := by
              by_cases he : L.toArray[m]! = L.toArray[m - 1]!
              · exact he
              · exact absurd (.inr he) hk'
            rw [hg m (by omega), hg (m - 1) (by omega)] at he
            rw [he]
            refine List.mem_iff_getElem.2 ⟨m - 1, by simp; omega, ?_⟩
            rw [List.getElem_take]
            simp [List.getD_eq_getElem?_getD, show m - 1 < L.length by omega]
  have := key L.length (Nat.le_refl _)
  rw [List.take_length] at this
  exact this
theorem srt_le (L : List Int) : (srt L).Pairwise (· ≤ ·) := by
  have h := List.pairwise_mergeSort (le := fun (x y : Int) => decide (x ≤ y)) (fun a b c h1 h2 => by simp only [decide_eq_true_eq] at *; omega) (fun a b => by simp only [Bool.or_eq_true, decide_eq_true_eq]; omega) L
  exact h.imp (fun h => by simpa using h)
/-- What TouchedWords answers. -/
def tch (L : List Wt) : List Int := Lib.compact (srt (L.map (·.p)))
theorem tch_asc (L : List Wt) : Asc (tch L) := (compact_asc (srt_le _)).1
theorem tch_mem {L : List Wt} {x : Int} : x ∈ tch L ↔ ∃ y ∈ L, y.p = x := by
  unfold tch
  rw [(compact_asc (srt_le _)).2, srt, List.mem_mergeSort, List.mem_map]
theorem tch_of {L : List Wt} {T : List Int} (h : Asc T) (hm : ∀ x, x ∈ T ↔ ∃ y ∈ L, y.p = x) : T = tch L :=
  asc_ext h (tch_asc L) (fun x => (hm x).trans tch_mem.symm)
theorem tch_len (L : List Wt) : (tch L).length ≤ L.length := by
  have h1 := Lib.compact_length_le (srt (L.map (·.p)))
  have h2 : (srt (L.map (·.p))).length = (L.map (·.p)).length := List.length_mergeSort _
  rw [h2, List.length_map] at h1
  exact h1
/-- A number is put in at its place. -/
theorem asc_ins {T : List Int} {k : Nat} {q : Int} (h : Asc T) (hk : k ≤ T.length) (hlo : ∀ i x, i < k → T[i]? = some x → x < q) (hhi : ∀ i x, k ≤ i → T[i]? = some x → q < x) : Asc (T.take k ++ (q :: T.drop k)) := by
  have hs : Asc (T.take k ++ T.drop k) := by rw [List.take_append_drop]; exact h
  obtain ⟨h1, h2, h3⟩ := List.pairwise_append.1 hs
  refine List.pairwise_append.2 ⟨h1, List.pairwise_cons.2 ⟨fun b hb => ?_, h2⟩, fun a ha b hb => ?_⟩
  · obtain ⟨i, hi, rfl⟩ := List.mem_iff_getElem.1 hb
    have hi' : k + i < T.length := by simp at hi; omega
    exact hhi (k + i) _ (by omega) (by rw [List.getElem_drop]; simp [hi'])
  · rcases List.mem_cons.1 hb with rfl | hb
    · obtain ⟨i, hi, rfl⟩ := List.mem_iff_getElem.1 ha
      have hi' : i < k ∧ i < T.length := by simp at hi; omega
      exact hlo i _ hi'.1 (by rw [List.getElem_take]; simp [hi'.2])
    · exact h3 a ha b hb
theorem mem_ins {T : List Int} {k : Nat} {q x : Int} : x ∈ T.take k ++ (q :: T.drop k) ↔ x ∈ T ∨ x = q := by
  have e : x ∈ T ↔ x ∈ T.take k ∨ x ∈ T.drop k := by rw [← List.mem_append, List.take_append_drop]
  rw [List.mem_append, List.mem_cons, e]
  constructor
  · rintro (h | h | h)
    · exact .inl (.inl h)
    · exact .inr h
    · exact .inl (.inr h)
  · rintro ((h | h) | h)
    · exact .inl h
    · exact .inr (.inr h)
    · exact .inr (.inl h)
theorem mem_take_succ {L : List Wt} {k : Nat} {s : Wt} (hs : L[k]? = some s) (x : Int) : (∃ y ∈ L.take (k + 1), y.p = x) ↔ (∃ y ∈ L.take k, y.p = x) ∨ x = s.p := by
  rw [List.take_add_one, hs]
  constructor
  · rintro ⟨y, hy, rfl⟩
    rcases List.mem_append.1 hy with h | h
    · exact .inl ⟨y, h, rfl⟩
    · simp at h; subst h; exact .inr rfl
  · rintro (⟨y, hy, rfl⟩ | rfl)
    · exact ⟨y, List.mem_append_left _ hy, rfl⟩
    · exact ⟨s, by simp, rfl⟩
end Go.Proofs.Ytlinpefeojpjnaa.wrt
