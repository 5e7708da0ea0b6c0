/- Rows of rows of numbers: a slice of slices that reads as a list of lists; the law's own copy, size and comparison of such a slice. -/
import Derived.Test.YtcmhiadaebpgmaaExpr
import Derived.Test.YtcmhiadaebpgmaaGRow
import Derived.Deep.RegionHeld3
namespace Go.Proofs.Ytcmhiadaebpgmaa.srow
open Go Go.ChangeShapes Go.WideShapes Go.ChangeAt Go.RowKit Go.Proofs.Ytcmhiadaebpgmaa.row Go.Proofs.Ytcmhiadaebpgmaa.val Go.Proofs.Ytcmhiadaebpgmaa.expr

/-- The slice at 'a' of 'n' slices reads as the list 'LL'. -/
def SRow (w : World) (a : Option Addr) (n : Nat) (LL : List (List Int)) : Prop :=
  LL.length = n ∧ ∀ k, k < n → ∃ (g off : Nat) (L : List Int) (ab : Option Addr) (nb cb : Nat), a = some ⟨g, off, none⟩ ∧ g < w.heap.size ∧ LL[k]? = some L ∧ w.cell? ⟨g, off + k, none⟩ = some (.slice ab nb cb) ∧ nb ≤ cb ∧ Row w ab nb L
theorem SRow.below {w w' : World} {a : Option Addr} {n : Nat} {LL : List (List Int)} (h : SRow w a n LL) (hb : Below w.heap.size w w') : SRow w' a n LL :=
  ⟨h.1, fun k hk => by
    obtain ⟨g, off, L, ab, nb, cb, e, hlt, hL, hc, hle, hr⟩ := h.2 k hk
    exact ⟨g, off, L, ab, nb, cb, e, Nat.lt_of_lt_of_le hlt hb.size, hL, (hb.cell (p := ⟨g, off + k, none⟩) hlt).trans hc, hle, hr.below hb⟩⟩
theorem SRow.nil (w : World) (a : Option Addr) : SRow w a 0 [] := ⟨rfl, fun k hk => by omega⟩
/-- No list is longer than this. -/
def SSizes (LL : List (List Int)) : Prop := LL.length ≤ 1048576 ∧ ∀ L ∈ LL, L.length ≤ 1048576
theorem mem_atS {LL : List (List Int)} {k : Nat} {L : List Int} (h : LL[k]? = some L) : L ∈ LL := List.mem_of_getElem? h
/-- The first 'k' lists lie in these cells, each in a block behind 'G', known whole. -/
def PrefS (w : World) (LL : List (List Int)) (G : Nat) (cs : Array Value) (k : Nat) : Prop :=
  ∀ j, j < k → ∃ (L : List Int) (g : Nat), LL[j]? = some L ∧ cs[j]? = some (.slice (some ⟨g, 0, none⟩) L.length L.length) ∧ G < g ∧ Box g (ivs L).toArray 3 w
theorem PrefS.zero (w : World) (LL : List (List Int)) (G : Nat) (cs : Array Value) : PrefS w LL G cs 0 := fun j h => by omega
theorem PrefS.below {w w' : World} {LL : List (List Int)} {G : Nat} {cs : Array Value} {k : Nat} (h : PrefS w LL G cs k) (hb : Below w.heap.size w w') : PrefS w' LL G cs k := fun j hj => by
  obtain ⟨L, g, h1, h2, h3, h4⟩ := h j hj
  exact ⟨L, g, h1, h2, h3, h4.below hb⟩
theorem PrefS.grown {w w' : World} {LL : List (List Int)} {G : Nat} {cs : Array Value} {k : Nat} (h : PrefS w LL G cs k) (hg : w.grownBy w' (some G)) : PrefS w' LL G cs k := fun j hj => by
  obtain ⟨L, g, h1, h2, h3, h4⟩ := h j hj
  exact ⟨L, g, h1, h2, h3, h4.grown hg (fun e => by have := Option.some.inj e; omega)⟩
theorem PrefS.next {w : World} {LL : List (List Int)} {G : Nat} {cs : Array Value} {k g : Nat} {L : List Int} (h : PrefS w LL G cs k) (hL : LL[k]? = some L) (hs : k < cs.size) (hne : G < g) (hr : Box g (ivs L).toArray 3 w) :
    PrefS w LL G (cs.setIfInBounds k (.slice (some ⟨g, 0, none⟩) L.length L.length)) (k + 1) := fun j hj => by
  by_cases e : j = k
  · subst e
    exact ⟨L, g, hL, by simp [hs], hne, hr⟩
  · obtain ⟨L', g', h1, h2, h3, h4⟩ := h j (by omega)
    exact ⟨L', g', h1, by rw [Array.getElem?_setIfInBounds_ne (Ne.symm e)]; exact h2, h3, h4⟩
/-- Rows in blocks from 'lo' on, each block known whole. -/
def SsX (lo : Nat) (w : World) (a : Option Addr) (n : Nat) (LL : List (List Int)) : Prop :=
  LL.length = n ∧ ∃ (g : Nat) (cs : Array Value), a = some ⟨g, 0, none⟩ ∧ lo ≤ g ∧ Box g cs 23 w ∧ cs.size = n ∧ PrefS w LL g cs n
theorem row_box {w : World} {g n : Nat} {L : List Int} {t : TypeId} (h : Box g (ivs L).toArray t w) (hn : L.length = n) : Row w (some ⟨g, 0, none⟩) n L :=
  ⟨hn, fun k hk => ⟨g, 0, L[k]'(by omega), rfl, h.lt, by simp [show k < L.length by omega], by rw [h.cell]; simp [ivs, show k < L.length by omega]⟩⟩
theorem SsX.row {lo : Nat} {w : World} {a : Option Addr} {n : Nat} {LL : List (List Int)} (h : SsX lo w a n LL) : SRow w a n LL := by
  obtain ⟨hl, g, cs, rfl, hlo, hb, hs, hP⟩ := h
  refine ⟨hl, fun k hk => ?_⟩
  obtain ⟨L, b, h1, h2, h3, h4⟩ := hP k hk
  exact ⟨g, 0, L, some ⟨b, 0, none⟩, L.length, L.length, rfl, hb.lt, h1, by rw [Nat.zero_add, hb.cell]; exact h2, Nat.le_refl _, row_box h4 rfl⟩
theorem SsX.mono {lo lo' : Nat} {w : World} {a : Option Addr} {n : Nat} {LL : List (List Int)} (h : SsX lo w a n LL) (hl : lo' ≤ lo) : SsX lo' w a n LL := by
  obtain ⟨h1, g, cs, h2, h3, h4⟩ := h
  exact ⟨h1, g, cs, h2, Nat.le_trans hl h3, h4⟩
theorem SsX.below {lo : Nat} {w w' : World} {a : Option Addr} {n : Nat} {LL : List (List Int)} (h : SsX lo w a n LL) (hb : Below w.heap.size w w') : SsX lo w' a n LL := by
  obtain ⟨h1, g, cs, h2, h3, h4, h5, h6⟩ := h
  exact ⟨h1, g, cs, h2, h3, h4.below hb, h5, h6.below hb⟩
/-- A copy of the rows in new memory. -/
def MadeSs (w : World) (n : Nat) (LL : List (List Int)) (e : Ending) (w' : World) : Prop :=
  ∃ a' : Option Addr, e = .returned (.slice a' n n) ∧ Hid (SsX w.heap.size w' a' n LL) ∧ Below w.heap.size w w'
set_option maxHeartbeats 1000000 in
set_option maxRecDepth 100000 in
theorem szints_any (w : World) (a : Option Addr) (n cap : Nat) (hn : n ≤ maxLen) (q : Int) (hq0 : 0 ≤ q) (hq1 : q ≤ 1048576) :
    Calls Try.prog 20 #[.slice a n cap, .int .i64 q] w fun e w' => ∃ r : Int, e = .returned (.int .i64 r) ∧ Hid ((r = -1 ∧ q < n) ∨ (r = q - n ∧ (n : Int) ≤ q)) ∧ Below w.heap.size w w' := by
  unfold maxLen at hn
  have hw : IntKind.i64.wrap (q - n) = q - n := IntWalk.i64_in _ (by omega)
  by_cases h : q < n
  · have h1 : q - (n : Int) < 0 := by omega
    go_enter Try.func20, Try.ntmps20
    go_wp2
    go_ret
    exact ⟨-1, rfl, .inl ⟨rfl, h⟩, Below.refl _ _⟩
  · have h1 : ¬ q - (n : Int) < 0 := by omega
    go_enter Try.func20, Try.ntmps20
    go_wp2
    go_ret
    exact ⟨q - n, rfl, by first | exact .inr ⟨rfl, by omega⟩ | exact .inr rfl, Below.refl _ _⟩
end Go.Proofs.Ytcmhiadaebpgmaa.srow
