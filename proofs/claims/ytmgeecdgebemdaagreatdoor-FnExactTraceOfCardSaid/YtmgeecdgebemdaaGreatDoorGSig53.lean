/- Several texts in one: SsA TrcL ExeK TrcK. -/
import Derived.Test.YtmgeecdgebemdaaGreatDoorGSig1
import Derived.Test.YtmgeecdgebemdaaGreatDoorGSig24
import Derived.Deep.RegionHeld3
import Derived.Test.YtmgeecdgebemdaaGreatDoorGSig25
import Derived.Test.YtmgeecdgebemdaaGreatDoorGSig4
import Derived.Test.YtmgeecdgebemdaaGreatDoorGSig7
import Derived.Test.YtmgeecdgebemdaaGreatDoorGSig49
import Derived.BigQuiet

/- Rows of rows of numbers: a slice of slices that reads as a list of lists; the law's own copy, size and comparison of such a slice. -/
namespace Go.Proofs.YtmgeecdgebemdaaGreatDoor.srow
open Go Go.ChangeShapes Go.WideShapes Go.ChangeAt Go.RowKit Go.Proofs.YtmgeecdgebemdaaGreatDoor.row Go.Proofs.YtmgeecdgebemdaaGreatDoor.val Go.Proofs.YtmgeecdgebemdaaGreatDoor.expr

/-- The slice at 'a' of 'n' slices reads as the list 'LL'. -/
def SRow (w : World) (a : Option Addr) (n : Nat) (LL : List (List Int)) : Prop :=
  LL.length = n ∧ ∀ k, k < n → ∃ (g off : Nat) (L : List Int) (ab : Option Addr) (nb cb : Nat), a = some ⟨g, off, none⟩ ∧ g < w.heap.size ∧ LL[k]? = some L ∧ w.cell? ⟨g, off + k, none⟩ = some (.slice ab nb cb) ∧ nb ≤ cb ∧ Row w ab nb L
theorem SRow.below {w w' : World} {a : Option Addr} {n : Nat} {LL : List (List Int)} (h : SRow w a n LL) (hb : Below w.heap.size w w') : SRow w' a n LL :=
  ⟨h.1, fun k hk => by
    obtain ⟨g, off, L, ab, nb, cb, e, hlt, hL, hc, hle, hr⟩ := h.2 k hk
    exact ⟨g, off, L, ab, nb, cb, e, Nat.lt_of_lt_of_le hlt hb.size, hL, (hb.cell (p := ⟨g, off + k, none⟩) hlt).trans hc, hle, hr.below hb⟩⟩
theorem SRow.nil (w : World) (a : Option Addr) : SRow w a 0 [] := ⟨rfl, fun k hk => by omega⟩
/-- No list is longer than this. -/
def SSizes (LL : List (List Int)) : Prop := LL.length ≤ 1048576 ∧ ∀ L ∈ LL, L.length ≤ 1048576
theorem mem_atS {LL : List (List Int)} {k : Nat} {L : List Int} (h : LL[k]? = some L) : L ∈ LL := List.mem_of_getElem? h
/-- The first 'k' lists lie in these cells, each in a block behind 'G', known whole. -/
def PrefS (w : World) (LL : List (List Int)) (G : Nat) (cs : Array Value) (k : Nat) : Prop :=
  ∀ j, j < k → ∃ (L : List Int) (g : Nat), LL[j]? = some L ∧ cs[j]? = some (.slice (some ⟨g, 0, none⟩) L.length L.length) ∧ G < g ∧ Box g (ivs L).toArray 3 w
theorem PrefS.zero (w : World) (LL : List (List Int)) (G : Nat) (cs : Array Value) : PrefS w LL G cs 0 := fun j h => by omega
theorem PrefS.below {w w' : World} {LL : List (List Int)} {G : Nat} {cs : Array Value} {k : Nat} (h : PrefS w LL G cs k) (hb : Below w.heap.size w w') : PrefS w' LL G cs k := fun j hj => by
  obtain ⟨L, g, h1, h2, h3, h4⟩ := h j hj
  exact ⟨L, g, h1, h2, h3, h4.below hb⟩
theorem PrefS.grown {w w' : World} {LL : List (List Int)} {G : Nat} {cs : Array Value} {k : Nat} (h : PrefS w LL G cs k) (hg : w.grownBy w' (some G)) : PrefS w' LL G cs k := fun j hj => by
  obtain ⟨L, g, h1, h2, h3, h4⟩ := h j hj
  exact ⟨L, g, h1, h2, h3, h4.grown hg (fun e => by have := Option.some.inj e; omega)⟩
theorem PrefS.next {w : World} {LL : List (List Int)} {G : Nat} {cs : Array Value} {k g : Nat} {L : List Int} (h : PrefS w LL G cs k) (hL : LL[k]? = some L) (hs : k < cs.size) (hne : G < g) (hr : Box g (ivs L).toArray 3 w) :
    PrefS w LL G (cs.setIfInBounds k (.slice (some ⟨g, 0, none⟩) L.length L.length)) (k + 1) := fun j hj => by
  by_cases e : j = k
  · subst e
    exact ⟨L, g, hL, by simp [hs], hne, hr⟩
  · obtain ⟨L', g', h1, h2, h3, h4⟩ := h j (by omega)
    exact ⟨L', g', h1, by rw [Array.getElem?_setIfInBounds_ne (Ne.symm e)]; exact h2, h3, h4⟩
/-- Rows in blocks from 'lo' on, each block known whole. -/
def SsX (lo : Nat) (w : World) (a : Option Addr) (n : Nat) (LL : List (List Int)) : Prop :=
  LL.length = n ∧ ∃ (g : Nat) (cs : Array Value), a = some ⟨g, 0, none⟩ ∧ lo ≤ g ∧ Box g cs 27 w ∧ cs.size = n ∧ PrefS w LL g cs n
theorem row_box {w : World} {g n : Nat} {L : List Int} {t : TypeId} (h : Box g (ivs L).toArray t w) (hn : L.length = n) : Row w (some ⟨g, 0, none⟩) n L :=
  ⟨hn, fun k hk => ⟨g, 0, L[k]'(by omega), rfl, h.lt, by simp [show k < L.length by omega], by rw [h.cell]; simp [ivs, show k < L.length by omega]⟩⟩
theorem SsX.row {lo : Nat} {w : World} {a : Option Addr} {n : Nat} {LL : List (List Int)} (h : SsX lo w a n LL) : SRow w a n LL := by
  obtain ⟨hl, g, cs, rfl, hlo, hb, hs, hP⟩ := h
  refine ⟨hl, fun k hk => ?_⟩
  obtain ⟨L, b, h1, h2, h3, h4⟩ := hP k hk
  exact ⟨g, 0, L, some ⟨b, 0, none⟩, L.length, L.length, rfl, hb.lt, h1, by rw [Nat.zero_add, hb.cell]; exact h2, Nat.le_refl _, row_box h4 rfl⟩
theorem SsX.mono {lo lo' : Nat} {w : World} {a : Option Addr} {n : Nat} {LL : List (List Int)} (h : SsX lo w a n LL) (hl : lo' ≤ lo) : SsX lo' w a n LL := by
  obtain ⟨h1, g, cs, h2, h3, h4⟩ := h
  exact ⟨h1, g, cs, h2, Nat.le_trans hl h3, h4⟩
theorem SsX.below {lo : Nat} {w w' : World} {a : Option Addr} {n : Nat} {LL : List (List Int)} (h : SsX lo w a n LL) (hb : Below w.heap.size w w') : SsX lo w' a n LL := by
  obtain ⟨h1, g, cs, h2, h3, h4, h5, h6⟩ := h
  exact ⟨h1, g, cs, h2, h3, h4.below hb, h5, h6.below hb⟩
/-- A copy of the rows in new memory. -/
def MadeSs (w : World) (n : Nat) (LL : List (List Int)) (e : Ending) (w' : World) : Prop :=
  ∃ a' : Option Addr, e = .returned (.slice a' n n) ∧ Hid (SsX w.heap.size w' a' n LL) ∧ Below w.heap.size w w'
theorem infoInts : (Tryz.prog.info? 27).map (fun i => (i.zero, i.size, i.bytes)) = some (some (.slice none 0 0), 1, 24) := by kernel_rfl
set_option maxHeartbeats 2000000 in
set_option maxRecDepth 100000 in
theorem eqss_any (w : World) (a a' : Option Addr) (n cap cap' : Nat) (LL : List (List Int)) (hz : SSizes LL) (h1 : SRow w a n LL) (h2 : SRow w a' n LL) :
    Calls Tryz.prog 66 #[.slice a n cap, .slice a' n cap'] w (BelB w true) := by
  have hn : (n : Int) ≤ 1048576 := by have := hz.1; rw [h1.1] at this; omega
  have HC : Hid (∀ wr : World, Below w.heap.size w wr → ∀ k, k < n → ∃ (g o g' o' : Nat) (L : List Int) (m : Nat) (b b' : Option Addr) (c c' : Nat), a = some ⟨g, o, none⟩ ∧ a' = some ⟨g', o', none⟩ ∧ g < wr.heap.size ∧ g' < wr.heap.size ∧
      wr.cell? ⟨g, o + k, none⟩ = some (.slice b m c) ∧ wr.cell? ⟨g', o' + k, none⟩ = some (.slice b' m c') ∧ (m : Int) ≤ 1048576 ∧ Row wr b m L ∧ Row wr b' m L) := by
    intro wr hb k hk
    obtain ⟨g, o, L, b, m, c, e1, l1, x1, k1, _, k3⟩ := (h1.below hb).2 k hk
    obtain ⟨g', o', L', b', m', c', e2, l2, x2, q1, _, q3⟩ := (h2.below hb).2 k hk
    obtain rfl : L = L' := by rw [x1] at x2; exact Option.some.inj x2
    obtain rfl : m = m' := by have := k3.1; have := q3.1; omega
    exact ⟨g, o, g', o', L, m, b, b', c, c', e1, e2, l1, l2, k1, q1, by have := hz.2 L (mem_atS x1); rw [k3.1] at this; omega, k3, q3⟩
  clear h1 h2
  go_enter Tryz.func66, Tryz.ntmps66
  go_wp2
  go_loopw [5] (fun i wr => ∃ k : Nat, k ≤ n ∧ i = .int .i64 k ∧ Below w.heap.size w wr) (fun i _ => n - (intOf i).toNat)
  case atStart => exact ⟨0, Nat.zero_le _, rfl, Below.refl _ _⟩
  case round =>
    obtain ⟨k, hk, rfl, hbel⟩ := hrel
    by_cases hlt : k < n
    · obtain ⟨g, o, g', o', L, m, b, b', c, c', rfl, rfl, hgl, hgl', c1, c2, hm, s1, s2⟩ := HC.out wr hbel k hlt
      have hI : (k : Int) < n := by omega
      have HB := Lib.hid (And.intro hbel (And.intro s1 s2))
      have r0 : wr.drew.cell? ⟨g, o + k, none⟩ = some (.slice b m c) ∧ wr.drew.cell? ⟨g', o' + k, none⟩ = some (.slice b' m c') := ⟨c1, c2⟩
      have r1 : wr.cell? ⟨g, o + k, none⟩ = some (.slice b m c) ∧ wr.cell? ⟨g', o' + k, none⟩ = some (.slice b' m c') := ⟨c1, c2⟩
      clear hbel s1 s2
      go_wp2
      go_region_held3 (fun w' => w'.cell? ⟨g, o + k, none⟩ = some (.slice b m c) ∧ w'.cell? ⟨g', o' + k, none⟩ = some (.slice b' m c'))
        (first | (exact r0) | (exact ⟨(hb2.cell (p := ⟨g, o + k, none⟩) (by simpa using hgl)).trans c1, (hb2.cell (p := ⟨g', o' + k, none⟩) (by simpa using hgl')).trans c2⟩))
        (first
          | (go_at_call 23; refine (eqInts_any _ b b' m c c' L hm (HB.out.2.1.below (Below.drew (Below.refl _ wr))) (HB.out.2.2.below (Below.drew (Below.refl _ wr)))).mono ?_; rintro e w2 ⟨rfl, hg2⟩; have hb2 := below_grown hg2))
      all_goals
        have hb3 := Lib.hid (HB.out.1.trans ((Below.trans (Below.drew (Below.refl _ wr)) hb2).mono HB.out.1.size))
        clear hb2 hg2 r0 r1 c1 c2
        go_wp2
        go_roundw
        case rel => exact ⟨k + 1, by omega, by go_num, hb3.out⟩
        case measure => simp [intOf]; omega
    · have hI : ¬ (k : Int) < n := by omega
      have HB := Lib.hid hbel
      clear hbel
      go_wp2
      go_ret
      exact ⟨rfl, HB.out⟩
end Go.Proofs.YtmgeecdgebemdaaGreatDoor.srow

/- The law's own size, copy, comparison and marks of a trace. -/
namespace Go.Proofs.YtmgeecdgebemdaaGreatDoor.trc
open Go Go.ChangeShapes Go.WideShapes Go.ChangeAt Go.RowKit Go.Proofs.YtmgeecdgebemdaaGreatDoor.row Go.Proofs.YtmgeecdgebemdaaGreatDoor.val Go.Proofs.YtmgeecdgebemdaaGreatDoor.expr Go.Proofs.YtmgeecdgebemdaaGreatDoor.grow Go.Proofs.YtmgeecdgebemdaaGreatDoor.srow
theorem ne_ownL {v : Value} {a b g : Nat} (h : ∀ q, v.ownBlock = some q → a ≤ q ∧ q < b) (hg : g < a ∨ b ≤ g) : v.ownBlock = none ∨ v.ownBlock ≠ some g := by
  cases hq : v.ownBlock with
  | none => exact .inl rfl
  | some q => right; intro e; have := h q hq; have := Option.some.inj e; omega
/-- A trace of the law's own: its rows are new. -/
def MadeTr (w : World) (n1 n2 : Nat) (M : List Mic) (U : List Int) (e : Ending) (w' : World) : Prop :=
  ∃ g1 g2, e = .returned (trV (some ⟨g1, 0, none⟩) n1 n1 (some ⟨g2, 0, none⟩) n2 n2) ∧ (w.heap.size ≤ g1 ∧ w.heap.size ≤ g2 ∧ g1 ≠ g2) ∧ Box g1 (microsC M).toArray 98 w' ∧ w'.ownsRow w.heap.size 3 1 (.slice (some ⟨g2, 0, none⟩) n2 n2) n2 (ivs U) ∧ Below w.heap.size w w'
set_option maxHeartbeats 4000000 in
theorem eqtrace_any (w : World) (M : List Mic) (U : List Int) (a1 : Option Addr) (n1 c1 : Nat) (a2 : Option Addr) (n2 c2 : Nat) (b1 : Option Addr) (d1 : Nat) (b2 : Option Addr) (d2 : Nat)
    (r : TrRow w a1 n1 a2 n2 M U) (s : TrRow w b1 n1 b2 n2 M U) :
    Calls Tryz.prog 42 #[trV a1 n1 c1 a2 n2 c2, trV b1 n1 d1 b2 n2 d2] w (BelB w true) := by
  obtain ⟨W, hW⟩ : ∃ W, (w.alloc (.cells #[.slice a1 n1 c1, .slice a2 n2 c2] 54)).alloc (.cells #[.slice b1 n1 d1, .slice b2 n2 d2] 54) = W := ⟨_, rfl⟩
  have hBW : Below w.heap.size w W := by rw [← hW]; exact below_then (below_new w _) (below_new _ _)
  have hx : Box w.heap.size #[.slice a1 n1 c1, .slice a2 n2 c2] 54 W := by rw [← hW]; exact (Box.new w _ _).alloc _
  have hy : Box (w.heap.size + 1) #[.slice b1 n1 d1, .slice b2 n2 d2] 54 W := by
    have h9 := Box.new (w.alloc (.cells #[.slice a1 n1 c1, .slice a2 n2 c2] 54)) #[.slice b1 n1 d1, .slice b2 n2 d2] 54
    rw [World.size_alloc] at h9
    rw [← hW]; exact h9
  have hn1 := r.2.2.1
  have hn2 := r.2.2.2
  have H0 := Lib.hid (And.intro hBW (And.intro (r.below hBW) (s.below hBW)))
  have HE1 := Lib.hid (eqMicros_any W a1 b1 n1 c1 d1 M hn1 (r.below hBW).1 (s.below hBW).1)
  have HU := Lib.hid (And.intro r.2.1 s.2.1)
  have x0 : W.cell? ⟨w.heap.size, 0, none⟩ = some (.slice a1 n1 c1) := hx.cell 0
  have y0 : W.cell? ⟨w.heap.size + 1, 0, none⟩ = some (.slice b1 n1 d1) := hy.cell 0
  have HX := Lib.hid (And.intro hx hy)
  clear hBW r s hx hy
  go_enter Tryz.func42, Tryz.ntmps42
  go_wp2_with (go_at_call 101; (with_reducible refine HE1.out.mono ?_); rintro e w2 ⟨rfl, hb2⟩; refine Hid.out ?_)
  have hX2 := HX.out.1.below hb2
  have hY2 := HX.out.2.below hb2
  have H2 := Lib.hid (And.intro (below_then H0.out.1 hb2) (And.intro (HU.out.1.below (below_then H0.out.1 hb2)) (HU.out.2.below (below_then H0.out.1 hb2))))
  have x1 : w2.cell? ⟨w.heap.size, 1, none⟩ = some (.slice a2 n2 c2) := hX2.cell 1
  have y1 : w2.cell? ⟨w.heap.size + 1, 1, none⟩ = some (.slice b2 n2 d2) := hY2.cell 1
  clear hb2 x0 y0 hX2 hY2
  refine Lib.hid ?_
  go_wp2_with (go_at_call 23; (with_reducible refine (eqInts_any _ a2 b2 n2 c2 d2 U hn2 H2.out.2.1 H2.out.2.2).mono ?_); rintro e w3 ⟨rfl, hg3⟩; refine Hid.out ?_)
  have hb3 : Below w2.heap.size w2 w3 := (Below.refl _ w2).grown hg3 (Nat.le_refl _) (fun k hk => by cases hk)
  have HB3 := Lib.hid (below_then H2.out.1 hb3)
  clear hg3 hb3 x1 y1
  refine Lib.hid ?_
  go_wp2
  go_ret
  exact ⟨rfl, HB3.out⟩
/-- What the marks leave: only the two rows are written. -/
def MarkTr (w : World) (g1 g2 : Nat) (k : Int) (n1 n2 : Nat) (e : Ending) (w' : World) : Prop :=
  e = .returned (.int .i64 (k + 3 * n1 + n2)) ∧ w'.os = w.os ∧ w'.tape = w.tape ∧ w'.output = w.output ∧ w.heap.size ≤ w'.heap.size ∧ ∀ b, b < w.heap.size → b ≠ g1 → b ≠ g2 → w'.heap[b]? = w.heap[b]?
set_option maxHeartbeats 4000000 in
theorem marktrace_any (w : World) (g1 n1 c1 g2 n2 c2 : Nat) (M : List Mic) (U : List Int) (B : Nat) (hx : Box g1 (microsC M).toArray 98 w) (hlM : M.length = n1) (ho : w.ownsRow B 3 1 (.slice (some ⟨g2, 0, none⟩) n2 c2) n2 (ivs U)) (hn1 : (n1 : Int) ≤ 1048576) (hn2 : (n2 : Int) ≤ 1048576) (h12 : g1 ≠ g2) :
    Calls Tryz.prog 43 #[trV (some ⟨g1, 0, none⟩) n1 c1 (some ⟨g2, 0, none⟩) n2 c2, .int .i64 1] w (MarkTr w g1 g2 1 n1 n2) := by
  obtain ⟨W, hW⟩ : ∃ W, w.alloc (.cells #[.slice (some ⟨g1, 0, none⟩) n1 c1, .slice (some ⟨g2, 0, none⟩) n2 c2] 54) = W := ⟨_, rfl⟩
  have hBW : Below w.heap.size w W := by rw [← hW]; exact below_new w _
  have hxp : Box w.heap.size #[.slice (some ⟨g1, 0, none⟩) n1 c1, .slice (some ⟨g2, 0, none⟩) n2 c2] 54 W := by rw [← hW]; exact Box.new w _ _
  have hg1l := hx.lt
  have hg2l : g2 < w.heap.size := (ho.lt g2 rfl).2
  have H0 := Lib.hid (And.intro hBW (And.intro hxp (And.intro (hx.below hBW) (ho.kept (grown_below hBW none) (.inr (by simp [Value.ownBlock]))))))
  have x0 : W.cell? ⟨w.heap.size, 0, none⟩ = some (.slice (some ⟨g1, 0, none⟩) n1 c1) := hxp.cell 0
  have hsz : n1 * 3 ≤ (microsC M).toArray.size := by rw [List.size_toArray, microsC_len, hlM]; exact Nat.le_refl _
  have hn1' : n1 ≤ 1048576 := by omega
  clear hBW hxp hx ho
  go_enter Tryz.func43, Tryz.ntmps43
  go_wp2_with (go_at_call 102; (refine (markMicros_any _ g1 n1 c1 _ _ H0.out.2.2.1 hsz 1 (by decide) (by decide) hn1').mono ?_); rintro e w2 ⟨rfl, hg2, cs', hx2, _, _⟩; refine Hid.out ?_)
  have H2 := Lib.hid (And.intro hg2 (And.intro (H0.out.2.1.grown hg2 (fun e => by have := Option.some.inj e; omega)) (H0.out.2.2.2.kept hg2 (.inr (by simp [Value.ownBlock]; omega)))))
  have x1 : w2.cell? ⟨w.heap.size, 1, none⟩ = some (.slice (some ⟨g2, 0, none⟩) n2 c2) := H2.out.2.1.cell 1
  obtain ⟨q, hq⟩ : ∃ q : Nat, (q : Int) = 1 + 3 * n1 := ⟨(1 + 3 * (n1 : Int)).toNat, by omega⟩
  rw [← hq]
  have HQ := Lib.hid hq
  have hq9 : (q : Int) ≤ 1073741824 := by omega
  clear hg2 hx2 x0 hq
  refine Lib.hid ?_
  go_wp2_with (go_at_call 25; (refine (markInts_any _ _ _ _ _ q _ hn2 hq9 H2.out.2.2).mono ?_); rintro e w3 ⟨rfl, hg3, L2, ho2, hM2⟩; refine Hid.out ?_)
  have H3 := Lib.hid hg3
  clear hg3 ho2 hM2 x1
  refine Lib.hid ?_
  go_wp2
  go_ret
  refine ⟨congrArg (fun x => Ending.returned (Value.int .i64 x)) (show ((q : Int) + (n2 : Int)) = 1 + 3 * (n1 : Int) + n2 by have := HQ.out; omega), ?_⟩
  refine ⟨H3.out.os.trans (H2.out.1.os.trans H0.out.1.os), H3.out.tape.trans (H2.out.1.tape.trans H0.out.1.tape), H3.out.output.trans (H2.out.1.output.trans H0.out.1.output), Nat.le_trans H0.out.1.size (Nat.le_trans H2.out.1.size H3.out.size), fun b hb h1 h2 => ?_⟩
  have hbW : b < W.heap.size := Nat.lt_of_lt_of_le hb H0.out.1.size
  have hb2 : b < w2.heap.size := Nat.lt_of_lt_of_le hbW H2.out.1.size
  exact (H3.out.block b hb2 (fun e => by have e9 : b = g2 := Option.some.inj e; omega)).trans ((H2.out.1.block b hbW (fun e => by have e9 : b = g1 := Option.some.inj e; omega)).trans (H0.out.1.block b hb))
end Go.Proofs.YtmgeecdgebemdaaGreatDoor.trc

/- The law's comparison of two effects, its marks in an effect of its own and its look at them. -/
namespace Go.Proofs.YtmgeecdgebemdaaGreatDoor.exe
open Go Go.ChangeShapes Go.WideShapes Go.ChangeAt Go.RowKit Go.Proofs.YtmgeecdgebemdaaGreatDoor.row Go.Proofs.YtmgeecdgebemdaaGreatDoor.val Go.Proofs.YtmgeecdgebemdaaGreatDoor.expr Go.Proofs.YtmgeecdgebemdaaGreatDoor.mrk

theorem okn (ad : Option Addr) (n c : Nat) : (Value.slice ad n c).ownBlock = none ∨ (Value.slice ad n c).ownBlock ≠ none := by cases ad <;> simp [Value.ownBlock]
theorem bf_own {lo hi : Nat} {w wr w' : World} {r : Option Nat} (h : Below lo w wr ∧ Far hi w wr) (hs : w.heap.size ≤ wr.heap.size) (hlo : lo ≤ w.heap.size) (hg : wr.grownBy w' r) (hr : ∀ q, r = some q → lo ≤ q ∧ q < hi) : Below lo w w' ∧ Far hi w w' :=
  ⟨h.1.grown hg (Nat.le_trans hlo hs) (fun q hq => (hr q hq).1), fun b hb hbw => (hg.block b (by omega) (fun e => by have := (hr b e.symm).2; omega)).trans (h.2 b hb hbw)⟩
end Go.Proofs.YtmgeecdgebemdaaGreatDoor.exe

/- The law's marks in a trace that somebody owns, and its look at them. -/
namespace Go.Proofs.YtmgeecdgebemdaaGreatDoor.trc
open Go Go.ChangeShapes Go.WideShapes Go.ChangeAt Go.RowKit Go.Proofs.YtmgeecdgebemdaaGreatDoor.row Go.Proofs.YtmgeecdgebemdaaGreatDoor.val Go.Proofs.YtmgeecdgebemdaaGreatDoor.expr Go.Proofs.YtmgeecdgebemdaaGreatDoor.mrk Go.Proofs.YtmgeecdgebemdaaGreatDoor.exe Go.Proofs.YtmgeecdgebemdaaGreatDoor.grow
/-- These cells count up. -/
def MarkedC (xs : List Value) (k : Int) (m : Nat) : Prop := ∀ j : Nat, j < m → xs[j]? = some (.int .i64 (k + j))
/-- A row of steps that somebody owns reads as the list. -/
theorem mrow_own {w : World} {B : Nat} {a : Option Addr} {n c : Nat} {M : List Mic} (h : w.ownsRow B 98 3 (.slice a n c) n (microsC M)) : MicroRow w a n M := by
  have hl : M.length = n := by have h1 := h.1; rw [microsC_len] at h1; omega
  refine ⟨hl, fun k hk => ?_⟩
  obtain ⟨g, c', e, _, hlt⟩ := h.form (by omega)
  cases e
  refine ⟨g, 0, M[k]'(by omega), rfl, hlt, by simp [show k < M.length by omega], fun j v hv => ?_⟩
  have hj : j < 3 := by have := (List.getElem?_eq_some_iff.1 hv).1; rw [microC_len] at this; exact this
  have h1 := h.cells (g := g) rfl (k * 3 + j) v (by rw [gcs_at microC_len (s := M[k]'(by omega)) (by simp [show k < M.length by omega]) j hj]; exact hv)
  rw [Addr.add_mid] at h1
  rw [show 0 + k * 3 + j = 0 + (k * 3 + j) by omega]
  exact h1
theorem mlen_own {w : World} {B : Nat} {a : Option Addr} {n c : Nat} {M : List Mic} (h : w.ownsRow B 98 3 (.slice a n c) n (microsC M)) : M.length = n := (mrow_own h).1
set_option maxRecDepth 100000 in
theorem markmicros_nil (w : World) (c : Nat) (k : Int) : Calls Tryz.prog 102 #[.slice none 0 c, .int .i64 k] w fun e w' => e = .returned (.int .i64 k) ∧ w' = w := by
  go_enter Tryz.func102, Tryz.ntmps102
  go_wp2
  go_loop [1, 5] (fun kk i => kk = .int .i64 k ∧ i = .int .i64 0) (fun _ i => 0)
  case atStart => exact ⟨rfl, rfl⟩
  case round =>
    obtain ⟨rfl, rfl⟩ := hrel
    go_wp2
    go_ret
    exact ⟨rfl, rfl⟩
theorem markmicros_own (w : World) (B : Nat) (a : Option Addr) (n c : Nat) (xs : List Value) (ho : w.ownsRow B 98 3 (.slice a n c) n xs) (hn : (n : Int) ≤ 1048576) (k : Int) (hk0 : 0 ≤ k) (hk1 : k ≤ 1000000000) :
    Calls Tryz.prog 102 #[.slice a n c, .int .i64 k] w fun e w' => e = .returned (.int .i64 (k + 3 * n)) ∧ w.grownBy w' (Value.slice a n c).ownBlock ∧ ∃ xs', w'.ownsRow B 98 3 (.slice a n c) n xs' ∧ MarkedC xs' k (n * 3) := by
  rcases ho.2 with ⟨e, e0⟩ | ⟨g, cap, cur, e, hb, hg, hnc, hcm, hsz, _⟩
  · cases e
    exact (markmicros_nil w 0 k).mono fun e w' ⟨h1, h2⟩ => ⟨by rw [h1]; simp, by rw [h2]; exact grown_refl w _, xs, by rw [h2]; exact ho, fun j hj => by omega⟩
  · cases e
    have hle : n * 3 ≤ c * 3 := Nat.mul_le_mul_right 3 hnc
    refine (markMicros_any w g n c cur _ hg (by rw [hsz]; exact hle) k hk0 hk1 (by omega)).mono fun e w' ⟨h1, h2, cs', h3, h5, h4⟩ => ⟨h1, h2, cs'.toList.take (n * 3), ⟨?_, .inr ⟨g, c, cs', rfl, hb, h3, hnc, hcm, by rw [h5, hsz], rfl⟩⟩, fun j hj => ?_⟩
    · rw [List.length_take, Array.length_toList, h5, hsz]; omega
    · rw [List.getElem?_take_of_lt hj, Array.getElem?_toList]; exact h4 j hj
set_option maxRecDepth 100000 in
theorem heldmicros_nil (w : World) (c : Nat) (k : Int) : Calls Tryz.prog 103 #[.slice none 0 c, .int .i64 k] w fun e w' => e = .returned (.int .i64 k) ∧ w' = w := by
  go_enter Tryz.func103, Tryz.ntmps103
  go_wp2
  go_loop [1, 5] (fun kk i => kk = .int .i64 k ∧ i = .int .i64 0) (fun _ i => 0)
  case atStart => exact ⟨rfl, rfl⟩
  case round =>
    obtain ⟨rfl, rfl⟩ := hrel
    go_wp2
    go_ret
    exact ⟨rfl, rfl⟩
theorem heldmicros_own (w : World) (B : Nat) (a : Option Addr) (n c : Nat) (xs : List Value) (ho : w.ownsRow B 98 3 (.slice a n c) n xs) (hn : (n : Int) ≤ 1048576) (k : Int) (hk0 : 0 ≤ k) (hk1 : k ≤ 1000000000) (hM : MarkedC xs k (n * 3)) :
    Calls Tryz.prog 103 #[.slice a n c, .int .i64 k] w fun e w' => e = .returned (.int .i64 (k + 3 * n)) ∧ w' = w := by
  rcases ho.2 with ⟨e, e0⟩ | ⟨g, cap, cur, e, hb, hg, hnc, hcm, hsz, hx⟩
  · cases e
    exact (heldmicros_nil w 0 k).mono fun e w' ⟨h1, h2⟩ => ⟨by rw [h1]; simp, h2⟩
  · cases e
    exact heldMicros_any w g n c cur _ hg k (fun j hj => by have h9 := hM j hj; rw [← hx, List.getElem?_take_of_lt hj, Array.getElem?_toList] at h9; exact h9) hk0 hk1 (by omega)
theorem oknT (a : Option Addr) (n c : Nat) : (Value.slice a n c).ownBlock = none ∨ (Value.slice a n c).ownBlock ≠ none := by cases a <;> simp [Value.ownBlock]
/-- What the marks leave. -/
def MarkT (B lo hi : Nat) (w : World) (a1 : Option Addr) (n1 c1 : Nat) (a2 : Option Addr) (n2 c2 : Nat) (e : Ending) (w' : World) : Prop :=
  e = .returned (.int .i64 ((1 + 3 * n1 + n2 : Nat) : Int)) ∧ (Below lo w w' ∧ Far hi w w') ∧ w.heap.size ≤ w'.heap.size ∧ ∃ (xs : List Value) (L2 : List Int), Hid (w'.ownsRow B 98 3 (.slice a1 n1 c1) n1 xs ∧ w'.ownsRow B 3 1 (.slice a2 n2 c2) n2 (ivs L2) ∧ MarkedC xs 1 (n1 * 3) ∧ Marked L2 (1 + 3 * n1) n2)
set_option maxHeartbeats 4000000 in
theorem marktr_any (B lo hi : Nat) (w : World) (a1 : Option Addr) (n1 c1 : Nat) (a2 : Option Addr) (n2 c2 : Nat) (M : List Mic) (U : List Int) (hn1 : (n1 : Int) ≤ 1048576) (hn2 : (n2 : Int) ≤ 1048576) (hlo : lo ≤ w.heap.size) (_hhi : hi ≤ w.heap.size) (h1 : ∀ g, (Value.slice a1 n1 c1).ownBlock = some g → lo ≤ g ∧ g < hi) (h2 : ∀ g, (Value.slice a2 n2 c2).ownBlock = some g → lo ≤ g ∧ g < hi)
    (hm : TrMem B a1 n1 c1 a2 n2 c2 M U w) :
    Calls Tryz.prog 43 #[trV a1 n1 c1 a2 n2 c2, .int .i64 1] w (MarkT B lo hi w a1 n1 c1 a2 n2 c2) := by
  obtain ⟨W, hW⟩ : ∃ W, w.alloc (.cells #[.slice a1 n1 c1, .slice a2 n2 c2] 54) = W := ⟨_, rfl⟩
  have hBW : Below w.heap.size w W := by rw [← hW]; exact below_new w _
  have hx : Box w.heap.size #[.slice a1 n1 c1, .slice a2 n2 c2] 54 W := by rw [← hW]; exact Box.new w _ _
  have H0 := Lib.hid (And.intro hBW (And.intro hx (And.intro (hm.1.kept (grown_below hBW none) (oknT _ _ _)) (hm.2.1.kept (grown_below hBW none) (oknT _ _ _)))))
  have HAP := Lib.hid hm.2.2
  have H12 := Lib.hid (And.intro h1 h2)
  have x0 : W.cell? ⟨w.heap.size, 0, none⟩ = some (.slice a1 n1 c1) := hx.cell 0
  have HMM := Lib.hid (markmicros_own W B a1 n1 c1 _ H0.out.2.2.1 hn1 1 (by decide) (by decide))
  clear hBW hx hm h1 h2
  go_enter Tryz.func43, Tryz.ntmps43
  go_wp2_with (go_at_call 102; (with_reducible refine HMM.out.mono ?_); rintro e w2 ⟨rfl, hg2, xs, ho1, hM1⟩; refine Hid.out ?_)
  have hbf0 : Below lo w W ∧ Far hi w W := ⟨H0.out.1.mono hlo, fun b _ hb => H0.out.1.block b hb⟩
  have H2 := Lib.hid (And.intro (bf_own hbf0 H0.out.1.size hlo hg2 H12.out.1) (And.intro (H0.out.2.1.grown hg2 (fun e => by have := (H12.out.1 _ e.symm).2; omega)) (And.intro ho1 (And.intro (H0.out.2.2.2.kept hg2 (by
      cases hq2 : (Value.slice a2 n2 c2).ownBlock with
      | none => exact .inl rfl
      | some g =>
        right; intro e
        rcases HAP.out with h | h
        · rw [h] at e; cases e
        · exact h (by rw [hq2]; exact e.symm))) (Nat.le_trans H0.out.1.size hg2.size)))))
  have HM1 := Lib.hid hM1
  have x1 : w2.cell? ⟨w.heap.size, 1, none⟩ = some (.slice a2 n2 c2) := H2.out.2.1.cell 1
  obtain ⟨q, hq⟩ : ∃ q : Nat, 1 + 3 * (n1 : Int) = (q : Int) := ⟨1 + 3 * n1, by omega⟩
  have hqn : q = 1 + 3 * n1 := by omega
  have HMI := Lib.hid (markInts_wide w2 B a2 n2 c2 q U hn2 (by omega) H2.out.2.2.2.1)
  clear hg2 ho1 hM1 hbf0 x0
  rw [hq]
  have HQN := Lib.hid hqn
  clear hq hqn
  refine Lib.hid ?_
  go_wp2_with (go_at_call 25; (with_reducible refine HMI.out.mono ?_); rintro e w3 ⟨rfl, hg3, L2, ho2, hM2⟩; refine Hid.out ?_)
  have H3 := Lib.hid (And.intro (bf_own H2.out.1 H2.out.2.2.2.2 hlo hg3 H12.out.2) (And.intro (Nat.le_trans H2.out.2.2.2.2 hg3.size) (And.intro (H2.out.2.2.1.kept hg3 HAP.out) ho2)))
  have HM2 := Lib.hid hM2
  clear hg3 ho2 hM2 x1
  refine Lib.hid ?_
  go_wp2
  go_ret
  obtain rfl := HQN.out
  exact ⟨rfl, H3.out.1, H3.out.2.1, xs, L2, H3.out.2.2.1, H3.out.2.2.2, HM1.out, HM2.out⟩
set_option maxHeartbeats 4000000 in
theorem heldtr_any (w : World) (B : Nat) (a1 : Option Addr) (n1 c1 : Nat) (a2 : Option Addr) (n2 c2 : Nat) (xs : List Value) (L2 : List Int) (hn1 : (n1 : Int) ≤ 1048576) (hn2 : (n2 : Int) ≤ 1048576) (h1 : w.ownsRow B 98 3 (.slice a1 n1 c1) n1 xs) (h2 : Row w a2 n2 L2) (hM1 : MarkedC xs 1 (n1 * 3)) (hM2 : Marked L2 (1 + 3 * n1) n2) :
    Calls Tryz.prog 44 #[trV a1 n1 c1 a2 n2 c2, .int .i64 1] w fun e w' => e = .returned (.int .i64 ((1 + 3 * n1 + n2 : Nat) : Int)) ∧ Below w.heap.size w w' := by
  obtain ⟨W, hW⟩ : ∃ W, w.alloc (.cells #[.slice a1 n1 c1, .slice a2 n2 c2] 54) = W := ⟨_, rfl⟩
  have hBW : Below w.heap.size w W := by rw [← hW]; exact below_new w _
  have hx : Box w.heap.size #[.slice a1 n1 c1, .slice a2 n2 c2] 54 W := by rw [← hW]; exact Box.new w _ _
  have H0 := Lib.hid (And.intro hBW hx)
  have x0 : W.cell? ⟨w.heap.size, 0, none⟩ = some (.slice a1 n1 c1) := hx.cell 0
  have x1 : W.cell? ⟨w.heap.size, 1, none⟩ = some (.slice a2 n2 c2) := hx.cell 1
  obtain ⟨q, hq⟩ : ∃ q : Nat, 1 + 3 * (n1 : Int) = (q : Int) := ⟨1 + 3 * n1, by omega⟩
  have hqn : q = 1 + 3 * n1 := by omega
  have HH := Lib.hid (heldmicros_own W B a1 n1 c1 xs (h1.kept (grown_below hBW none) (oknT _ _ _)) hn1 1 (by decide) (by decide) hM1)
  have HI := Lib.hid (heldInts_any W a2 n2 c2 q L2 hn2 (by omega) (h2.below hBW) (by rw [hqn]; exact hM2))
  have k1 : ¬ (q : Int) < 0 := by omega
  have k2 : ¬ ((q + n2 : Nat) : Int) < 0 := by omega
  rw [hq] at HH
  have HQN := Lib.hid hqn
  clear hBW hx h1 h2 hM1 hM2 hq hqn
  go_enter Tryz.func44, Tryz.ntmps44
  go_wp2_with (first
    | (go_at_call 103; (with_reducible refine HH.out.mono ?_); rintro e w2 ⟨rfl, rfl⟩)
    | (go_at_call 70; (with_reducible refine HI.out.mono ?_); rintro e w3 ⟨rfl, hg3⟩; refine Hid.out ?_))
  have HB3 := Lib.hid (below_then H0.out.1 (below_grown hg3))
  clear hg3 x1
  refine Lib.hid ?_
  go_wp2
  go_ret
  obtain rfl := HQN.out
  exact ⟨rfl, HB3.out⟩
end Go.Proofs.YtmgeecdgebemdaaGreatDoor.trc
