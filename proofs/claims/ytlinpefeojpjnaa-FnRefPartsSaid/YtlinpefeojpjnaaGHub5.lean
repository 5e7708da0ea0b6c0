/- Several texts in one: SsA SsO ReadA. -/
import Derived.Test.YtlinpefeojpjnaaGHub1
import Derived.Test.YtlinpefeojpjnaaGHub4
import Derived.Deep.RegionHeld3
import Derived.Lib.SlicesCompact

/- Rows of rows of numbers: a slice of slices that reads as a list of lists; the law's own copy, size and comparison of such a slice. -/
namespace Go.Proofs.Ytlinpefeojpjnaa.srow
open Go Go.ChangeShapes Go.WideShapes Go.ChangeAt Go.RowKit Go.Proofs.Ytlinpefeojpjnaa.row Go.Proofs.Ytlinpefeojpjnaa.val Go.Proofs.Ytlinpefeojpjnaa.expr

/-- The slice at 'a' of 'n' slices reads as the list 'LL'. -/
def SRow (w : World) (a : Option Addr) (n : Nat) (LL : List (List Int)) : Prop :=
  LL.length = n ∧ ∀ k, k < n → ∃ (g off : Nat) (L : List Int) (ab : Option Addr) (nb cb : Nat), a = some ⟨g, off, none⟩ ∧ g < w.heap.size ∧ LL[k]? = some L ∧ w.cell? ⟨g, off + k, none⟩ = some (.slice ab nb cb) ∧ nb ≤ cb ∧ Row w ab nb L
theorem SRow.below {w w' : World} {a : Option Addr} {n : Nat} {LL : List (List Int)} (h : SRow w a n LL) (hb : Below w.heap.size w w') : SRow w' a n LL :=
  ⟨h.1, fun k hk => by
    obtain ⟨g, off, L, ab, nb, cb, e, hlt, hL, hc, hle, hr⟩ := h.2 k hk
    exact ⟨g, off, L, ab, nb, cb, e, Nat.lt_of_lt_of_le hlt hb.size, hL, (hb.cell (p := ⟨g, off + k, none⟩) hlt).trans hc, hle, hr.below hb⟩⟩
theorem SRow.nil (w : World) (a : Option Addr) : SRow w a 0 [] := ⟨rfl, fun k hk => by omega⟩
/-- No list is longer than this. -/
def SSizes (LL : List (List Int)) : Prop := LL.length ≤ 1048576 ∧ ∀ L ∈ LL, L.length ≤ 1048576
theorem mem_atS {LL : List (List Int)} {k : Nat} {L : List Int} (h : LL[k]? = some L) : L ∈ LL := List.mem_of_getElem? h
/-- The first 'k' lists lie in these cells, each in a block behind 'G', known whole. -/
def PrefS (w : World) (LL : List (List Int)) (G : Nat) (cs : Array Value) (k : Nat) : Prop :=
  ∀ j, j < k → ∃ (L : List Int) (g : Nat), LL[j]? = some L ∧ cs[j]? = some (.slice (some ⟨g, 0, none⟩) L.length L.length) ∧ G < g ∧ Box g (ivs L).toArray 3 w
theorem PrefS.zero (w : World) (LL : List (List Int)) (G : Nat) (cs : Array Value) : PrefS w LL G cs 0 := fun j h => by omega
theorem PrefS.below {w w' : World} {LL : List (List Int)} {G : Nat} {cs : Array Value} {k : Nat} (h : PrefS w LL G cs k) (hb : Below w.heap.size w w') : PrefS w' LL G cs k := fun j hj => by
  obtain ⟨L, g, h1, h2, h3, h4⟩ := h j hj
  exact ⟨L, g, h1, h2, h3, h4.below hb⟩
theorem PrefS.grown {w w' : World} {LL : List (List Int)} {G : Nat} {cs : Array Value} {k : Nat} (h : PrefS w LL G cs k) (hg : w.grownBy w' (some G)) : PrefS w' LL G cs k := fun j hj => by
  obtain ⟨L, g, h1, h2, h3, h4⟩ := h j hj
  exact ⟨L, g, h1, h2, h3, h4.grown hg (fun e => by have := Option.some.inj e; omega)⟩
theorem PrefS.next {w : World} {LL : List (List Int)} {G : Nat} {cs : Array Value} {k g : Nat} {L : List Int} (h : PrefS w LL G cs k) (hL : LL[k]? = some L) (hs : k < cs.size) (hne : G < g) (hr : Box g (ivs L).toArray 3 w) :
    PrefS w LL G (cs.setIfInBounds k (.slice (some ⟨g, 0, none⟩) L.length L.length)) (k + 1) := fun j hj => by
  by_cases e : j = k
  · subst e
    exact ⟨L, g, hL, by simp [hs], hne, hr⟩
  · obtain ⟨L', g', h1, h2, h3, h4⟩ := h j (by omega)
    exact ⟨L', g', h1, by rw [Array.getElem?_setIfInBounds_ne (Ne.symm e)]; exact h2, h3, h4⟩
/-- Rows in blocks from 'lo' on, each block known whole. -/
def SsX (lo : Nat) (w : World) (a : Option Addr) (n : Nat) (LL : List (List Int)) : Prop :=
  LL.length = n ∧ ∃ (g : Nat) (cs : Array Value), a = some ⟨g, 0, none⟩ ∧ lo ≤ g ∧ Box g cs 22 w ∧ cs.size = n ∧ PrefS w LL g cs n
theorem row_box {w : World} {g n : Nat} {L : List Int} {t : TypeId} (h : Box g (ivs L).toArray t w) (hn : L.length = n) : Row w (some ⟨g, 0, none⟩) n L :=
  ⟨hn, fun k hk => ⟨g, 0, L[k]'(by omega), rfl, h.lt, by simp [show k < L.length by omega], by rw [h.cell]; simp [ivs, show k < L.length by omega]⟩⟩
theorem SsX.row {lo : Nat} {w : World} {a : Option Addr} {n : Nat} {LL : List (List Int)} (h : SsX lo w a n LL) : SRow w a n LL := by
  obtain ⟨hl, g, cs, rfl, hlo, hb, hs, hP⟩ := h
  refine ⟨hl, fun k hk => ?_⟩
  obtain ⟨L, b, h1, h2, h3, h4⟩ := hP k hk
  exact ⟨g, 0, L, some ⟨b, 0, none⟩, L.length, L.length, rfl, hb.lt, h1, by rw [Nat.zero_add, hb.cell]; exact h2, Nat.le_refl _, row_box h4 rfl⟩
theorem SsX.mono {lo lo' : Nat} {w : World} {a : Option Addr} {n : Nat} {LL : List (List Int)} (h : SsX lo w a n LL) (hl : lo' ≤ lo) : SsX lo' w a n LL := by
  obtain ⟨h1, g, cs, h2, h3, h4⟩ := h
  exact ⟨h1, g, cs, h2, Nat.le_trans hl h3, h4⟩
theorem SsX.below {lo : Nat} {w w' : World} {a : Option Addr} {n : Nat} {LL : List (List Int)} (h : SsX lo w a n LL) (hb : Below w.heap.size w w') : SsX lo w' a n LL := by
  obtain ⟨h1, g, cs, h2, h3, h4, h5, h6⟩ := h
  exact ⟨h1, g, cs, h2, h3, h4.below hb, h5, h6.below hb⟩
/-- A copy of the rows in new memory. -/
def MadeSs (w : World) (n : Nat) (LL : List (List Int)) (e : Ending) (w' : World) : Prop :=
  ∃ a' : Option Addr, e = .returned (.slice a' n n) ∧ Hid (SsX w.heap.size w' a' n LL) ∧ Below w.heap.size w w'
theorem infoInts : (Try.prog.info? 22).map (fun i => (i.zero, i.size, i.bytes)) = some (some (.slice none 0 0), 1, 24) := by kernel_rfl
set_option maxHeartbeats 1000000 in
set_option maxRecDepth 100000 in
theorem szints_any (w : World) (a : Option Addr) (n cap : Nat) (hn : n ≤ maxLen) (q : Int) (hq0 : 0 ≤ q) (hq1 : q ≤ 1048576) :
    Calls Try.prog 18 #[.slice a n cap, .int .i64 q] w fun e w' => ∃ r : Int, e = .returned (.int .i64 r) ∧ Hid ((r = -1 ∧ q < n) ∨ (r = q - n ∧ (n : Int) ≤ q)) ∧ Below w.heap.size w w' := by
  unfold maxLen at hn
  have hw : IntKind.i64.wrap (q - n) = q - n := IntWalk.i64_in _ (by omega)
  by_cases h : q < n
  · have h1 : q - (n : Int) < 0 := by omega
    go_enter Try.func18, Try.ntmps18
    go_wp2
    go_ret
    exact ⟨-1, rfl, .inl ⟨rfl, h⟩, Below.refl _ _⟩
  · have h1 : ¬ q - (n : Int) < 0 := by omega
    go_enter Try.func18, Try.ntmps18
    go_wp2
    go_ret
    exact ⟨q - n, rfl, by first | exact .inr ⟨rfl, by omega⟩ | exact .inr rfl, Below.refl _ _⟩
end Go.Proofs.Ytlinpefeojpjnaa.srow

/- What a law's argument is made of: a slice of slices of numbers; a reference of the laws' own (two slices of numbers and a number). -/
namespace Go.Proofs.Ytlinpefeojpjnaa.opn
open Go.ChangeShapes Go.WideShapes Go.ChangeAt Go.RowKit Go.Joins Go.Deep Go.Proofs.Ytlinpefeojpjnaa.row Go.Proofs.Ytlinpefeojpjnaa.srow

set_option maxRecDepth 100000 in
/-- One cell that reads as a slice of numbers. -/
theorem ints_trod {H : Type} {enc : TypeId × Value → H} {w : World} {base : Nat} {spare : Nat → Bool} {held : Bool} {fuel : Nat} {c : Value} {x : DataW H × List MemPlace}
    (hf : DataW.trod enc Try.prog w base spare held fuel 22 [c] = some x) : ∃ (a : Option Addr) (len cap : Nat) (L : List Int), c = .slice a len cap ∧ len ≤ cap ∧ len ≤ maxLen ∧ Row w a len L := by
  have hI : Try.prog.cellsOf 3 = 1 := by kernel_rfl
  rcases open_slice Try.underlying22 hf with ⟨hcs, _⟩ | ⟨x, l, c', m, n, D, Pl, hcs, _, hl, hm, hmm, _, hx⟩
  · simp at hcs
    subst hcs
    exact ⟨none, 0, 0, [], rfl, Nat.le_refl _, Nat.zero_le _, Row.none_ _⟩
  · simp at hcs
    subst hcs
    have hlm : l ≤ m := by rw [hmm]; split <;> omega
    have each : ∀ i, i < l → ∃ s : Int, w.cell? (x.add i) = some (.int .i64 s) := by
      intro i hi
      obtain ⟨cs, h1, h2⟩ := hx i (by omega)
      rw [hI] at h1
      obtain ⟨_, hlen, hcell⟩ := World.cells?_some h1
      match cs, hlen, h2, hcell with
      | [c0], _, h2, hcell =>
        obtain ⟨k, e0, _, _⟩ := DataW.trod_int Try.underlying3 h2
        simp at e0
        subst e0
        have := hcell 0 (by omega)
        rw [add_add, Nat.mul_one, Nat.add_zero] at this
        exact ⟨k, by simpa using this⟩
    obtain ⟨L, hL, hLs⟩ := list_ofG (P := fun i s => w.cell? (x.add i) = some (.int .i64 s)) l each
    refine ⟨some x, l, c', L, rfl, hl, by omega, hL, fun k hk => ?_⟩
    have hkL : k < L.length := by omega
    have hs : L[k]? = some L[k] := by simp [hkL]
    have hc := hLs k _ hs
    have h0L : 0 < L.length := by omega
    have hc00 := hLs 0 L[0] (by simp)
    obtain ⟨b, off, spot⟩ := x
    have hspot : spot = none := by simpa [Addr.add] using World.cell?_spot hc00
    subst hspot
    rw [Go.WideShapes.add_plain] at hc
    exact ⟨b, off, L[k], rfl, World.block_lt_of_cell? w _ hc, hs, hc⟩
/-- Rows of numbers that came in. -/
def IsSsV (w : World) (v : Value) : Prop := ∃ (a : Option Addr) (len cap : Nat) (LL : List (List Int)), v = .slice a len cap ∧ len ≤ maxLen ∧ (∀ L ∈ LL, L.length ≤ maxLen) ∧ SRow w a len LL
set_option maxRecDepth 100000 in
theorem open_IntSS {H : Type} {enc : TypeId × Value → H} {w : World} {base : Nat} {spare : Nat → Bool} {held : Bool} {r : Reach} {b0 : Nat} {v : Value} {d : DataW H} {p : List MemPlace}
    (hv : Value.okWide Try.prog w r b0 37 v) (h : DataW.Trod enc Try.prog w base spare held 37 v d p) : IsSsV w v := by
  obtain ⟨a, len, cap, rfl⟩ := okWide_slice Try.underlying37 hv
  obtain ⟨fuel, hf⟩ := h
  have hL : Try.prog.cellsOf 22 = 1 := by kernel_rfl
  rcases open_slice Try.underlying37 hf with ⟨hcs, _⟩ | ⟨x, l, c, m, n, D, Pl, hcs, _, hl, hm, hmm, _, hx⟩
  · simp [Value.cells] at hcs
    obtain ⟨rfl, rfl, rfl⟩ := hcs
    exact ⟨none, 0, 0, [], rfl, Nat.zero_le _, (fun L hL => by cases hL), SRow.nil _ _⟩
  · simp [Value.cells] at hcs
    obtain ⟨rfl, rfl, rfl⟩ := hcs
    have hlm : len ≤ m := by rw [hmm]; split <;> omega
    have each : ∀ i, i < len → ∃ L : List Int, ∃ (ab : Option Addr) (nb cb : Nat), w.cell? (x.add i) = some (.slice ab nb cb) ∧ nb ≤ cb ∧ nb ≤ maxLen ∧ Row w ab nb L := by
      intro i hi
      obtain ⟨cs, h1, h2⟩ := hx i (by omega)
      rw [hL] at h1
      obtain ⟨_, hlen, hcell⟩ := World.cells?_some h1
      match cs, hlen, h2, hcell with
      | [c0], _, h2, hcell =>
        obtain ⟨ab, nb, cb, L, rfl, hbc, hbm, hB⟩ := ints_trod h2
        have := hcell 0 (by omega)
        rw [add_add, Nat.mul_one, Nat.add_zero] at this
        exact ⟨L, ab, nb, cb, by simpa using this, hbc, hbm, hB⟩
    obtain ⟨LL, hLL, hLs⟩ := list_ofG (P := fun i L => ∃ (ab : Option Addr) (nb cb : Nat), w.cell? (x.add i) = some (.slice ab nb cb) ∧ nb ≤ cb ∧ nb ≤ maxLen ∧ Row w ab nb L) len each
    refine ⟨some x, len, cap, LL, rfl, by omega, fun L hL => ?_, hLL, fun k hk => ?_⟩
    · obtain ⟨j, hj⟩ := List.mem_iff_getElem?.1 hL
      obtain ⟨_, nb, _, _, _, hnb, hB⟩ := hLs j L hj
      rw [hB.1]; exact hnb
    have hkL : k < LL.length := by omega
    have hs : LL[k]? = some LL[k] := by simp [hkL]
    obtain ⟨ab, nb, cb, hc, hbc, _, hB⟩ := hLs k _ hs
    have h0L : 0 < LL.length := by omega
    obtain ⟨ab0, nb0, cb0, hc00, _⟩ := hLs 0 LL[0] (by simp)
    obtain ⟨b, off, spot⟩ := x
    have hspot : spot = none := by simpa [Addr.add] using World.cell?_spot hc00
    subst hspot
    rw [Go.WideShapes.add_plain] at hc
    exact ⟨b, off, LL[k], ab, nb, cb, rfl, World.block_lt_of_cell? w _ hc, hs, hc, hbc, hB⟩
/-- A reference that came in. -/
def IsRefV (w : World) (v : Value) : Prop := ∃ (a1 : Option Addr) (n1 c1 : Nat) (a2 : Option Addr) (n2 c2 : Nat) (V S : List Int) (T : Int), v = .agg #[.slice a1 n1 c1, .slice a2 n2 c2, .int .i64 T] ∧ n1 ≤ maxLen ∧ n2 ≤ maxLen ∧ Row w a1 n1 V ∧ Row w a2 n2 S
set_option maxRecDepth 100000 in
theorem open_Ref {H : Type} {enc : TypeId × Value → H} {w : World} {base : Nat} {spare : Nat → Bool} {held : Bool} {r : Reach} {b0 : Nat} {v : Value} {d : DataW H} {p : List MemPlace}
    (hv : Value.okWide Try.prog w r b0 24 v) (h : DataW.Trod enc Try.prog w base spare held 24 v d p) : IsRefV w v := by
  obtain ⟨⟨cs⟩, rfl, hsz⟩ := okWide_struct Try.underlying24 hv
  obtain ⟨fuel, hf⟩ := h
  have hI : Try.prog.cellsOf 3 = 1 := by kernel_rfl
  have hL : Try.prog.cellsOf 22 = 1 := by kernel_rfl
  have hC : Try.prog.cellsOf 24 = 3 := by kernel_rfl
  rw [hC] at hsz
  match cs, hsz, hf with
  | [c0, c1, c2], _, hf =>
    obtain ⟨z0, z1, z2, m3, _, _, h4, h5, h6⟩ := trod_struct3 Try.underlying24 hf
    simp [Value.cells, hI, hL] at h4 h5 h6
    obtain ⟨a1, n1, k1, V, rfl, _, hm1, hV⟩ := ints_trod h4
    obtain ⟨a2, n2, k2, S, rfl, _, hm2, hS⟩ := ints_trod h5
    obtain ⟨T, e6, _, _⟩ := DataW.trod_int Try.underlying3 h6
    simp at e6
    subst e6
    exact ⟨a1, n1, k1, a2, n2, k2, V, S, T, rfl, hm1, hm2, hV, hS⟩
end Go.Proofs.Ytlinpefeojpjnaa.opn

/- The numbers of the variables that two operands name: found by a search from 0 on, or collected, sorted and made single: the same list. Plain mathematics; no condition but that the operands are valid. -/
namespace Go.Proofs.Ytlinpefeojpjnaa.expr

/-- The numbers below 'k' that one of the operands names. -/
def rd (a b : Int) (k : Nat) : List Int := ((List.range k).filter fun (j : Nat) => decide (a = -1 - (j : Int)) || decide (b = -1 - (j : Int))).map fun (j : Nat) => (j : Int)
theorem rd_zero (a b : Int) : rd a b 0 = [] := rfl
theorem rd_yes {a b : Int} {k : Nat} (h : a = -1 - (k : Int) ∨ b = -1 - (k : Int)) : rd a b (k + 1) = rd a b k ++ [(k : Int)] := by
  have hc : (decide (a = -1 - (k : Int)) || decide (b = -1 - (k : Int))) = true := by simpa using h
  simp [rd, List.range_succ, hc]
theorem rd_no {a b : Int} {k : Nat} (h : ¬ (a = -1 - (k : Int) ∨ b = -1 - (k : Int))) : rd a b (k + 1) = rd a b k := by
  have hc : (decide (a = -1 - (k : Int)) || decide (b = -1 - (k : Int))) = false := by simpa using h
  simp [rd, List.range_succ, hc]
theorem rd_len (a b : Int) (k : Nat) : (rd a b k).length ≤ k := by
  unfold rd; rw [List.length_map]; exact Nat.le_trans (List.length_filter_le _ _) (by simp)
theorem rd_b {a b : Int} (h : 0 ≤ b) (k : Nat) : rd a b k = rd a 0 k := by
  unfold rd; congr 1; apply List.filter_congr; intro j _
  have h1 : ¬ b = -1 - (j : Int) := by omega
  have h2 : ¬ (0 : Int) = -1 - (j : Int) := by omega
  simp only [h1, h2]
theorem rd_a {a b : Int} (h : 0 ≤ a) (k : Nat) : rd a b k = rd 0 b k := by
  unfold rd; congr 1; apply List.filter_congr; intro j _
  have h1 : ¬ a = -1 - (j : Int) := by omega
  have h2 : ¬ (0 : Int) = -1 - (j : Int) := by omega
  simp only [h1, h2]

/-- The variable that an operand names, if it does. -/
def vk (x : Int) : List Int := if x < 0 then [-1 - x] else []
theorem vk_neg {x : Int} (h : x < 0) : vk x = [-1 - x] := by simp [vk, h]
theorem vk_pos {x : Int} (h : ¬ x < 0) : vk x = [] := by simp [vk, h]
theorem compact0 : Lib.compact ([] : List Int) = [] := by simp [Lib.compact, Lib.compactUpTo]
theorem compact1 (x : Int) : Lib.compact [x] = [x] := by simp [Lib.compact, Lib.compactUpTo, Lib.keeps, List.range_succ]
theorem compact2 (x y : Int) : Lib.compact [x, y] = if x = y then [x] else [x, y] := by
  by_cases h : x = y
  · subst h; simp [Lib.compact, Lib.compactUpTo, Lib.keeps, List.range_succ]
  · have h' : ¬ y = x := fun e => h e.symm
    simp [Lib.compact, Lib.compactUpTo, Lib.keeps, List.range_succ, h, h']
def srt (L : List Int) : List Int := L.mergeSort fun x y => decide (x ≤ y)
theorem srt0 : srt [] = [] := by simp [srt]
theorem srt1 (x : Int) : srt [x] = [x] := by simp [srt]
theorem srt2 (x y : Int) : srt [x, y] = if x ≤ y then [x, y] else [y, x] := by
  unfold srt
  by_cases h : x ≤ y <;> simp [List.mergeSort, h]
theorem one_rd (i : Fin 8) : rd (-1 - (i.val : Int)) 0 8 = [(i.val : Int)] ∧ rd 0 (-1 - (i.val : Int)) 8 = [(i.val : Int)] := by
  revert i; decide
theorem two_rd (i j : Fin 8) : rd (-1 - (i.val : Int)) (-1 - (j.val : Int)) 8 = if (i.val : Int) = j.val then [(i.val : Int)] else if (i.val : Int) ≤ j.val then [(i.val : Int), (j.val : Int)] else [(j.val : Int), (i.val : Int)] := by
  revert i j; decide
theorem reads_same (a b : Int) (ha : -8 ≤ a) (hb : -8 ≤ b) : Lib.compact (srt (vk a ++ vk b)) = rd a b 8 := by
  by_cases h1 : a < 0 <;> by_cases h2 : b < 0
  · obtain ⟨i, hi, rfl⟩ : ∃ i : Nat, i < 8 ∧ a = -1 - (i : Int) := ⟨(-1 - a).toNat, by omega, by omega⟩
    obtain ⟨j, hj, rfl⟩ : ∃ j : Nat, j < 8 ∧ b = -1 - (j : Int) := ⟨(-1 - b).toNat, by omega, by omega⟩
    have e := two_rd ⟨i, hi⟩ ⟨j, hj⟩
    simp only at e
    rw [e, vk_neg h1, vk_neg h2, show (-1 - (-1 - (i : Int))) = i by omega, show (-1 - (-1 - (j : Int))) = j by omega]
    show Lib.compact (srt [(i : Int), (j : Int)]) = _
    rw [srt2]
    by_cases hle : (i : Int) ≤ j
    · simp only [if_pos hle, compact2]
    · have he : ¬ (j : Int) = i := by omega
      have he' : ¬ (i : Int) = j := by omega
      simp only [if_neg hle, compact2, if_neg he, if_neg he']
  · obtain ⟨i, hi, rfl⟩ : ∃ i : Nat, i < 8 ∧ a = -1 - (i : Int) := ⟨(-1 - a).toNat, by omega, by omega⟩
    rw [rd_b (by omega), vk_neg h1, vk_pos h2, show (-1 - (-1 - (i : Int))) = i by omega, List.append_nil, srt1, compact1]
    exact (one_rd ⟨i, hi⟩).1.symm
  · obtain ⟨j, hj, rfl⟩ : ∃ j : Nat, j < 8 ∧ b = -1 - (j : Int) := ⟨(-1 - b).toNat, by omega, by omega⟩
    rw [rd_a (by omega), vk_neg h2, vk_pos h1, show (-1 - (-1 - (j : Int))) = j by omega, List.nil_append, srt1, compact1]
    exact (one_rd ⟨j, hj⟩).2.symm
  · rw [rd_a (by omega), rd_b (by omega), vk_pos h1, vk_pos h2, List.nil_append, srt0, compact0]; decide
end Go.Proofs.Ytlinpefeojpjnaa.expr
