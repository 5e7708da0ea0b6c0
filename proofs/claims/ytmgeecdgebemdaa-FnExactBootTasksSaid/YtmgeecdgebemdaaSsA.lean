/- Rows of rows of numbers: a slice of slices that reads as a list of lists; the law's own copy, size and comparison of such a slice. -/
import Derived.Test.YtmgeecdgebemdaaExpr
import Derived.Test.YtmgeecdgebemdaaGRow
import Derived.Deep.RegionHeld3
namespace Go.Proofs.Ytmgeecdgebemdaa.srow
open Go Go.ChangeShapes Go.WideShapes Go.ChangeAt Go.RowKit Go.Proofs.Ytmgeecdgebemdaa.row Go.Proofs.Ytmgeecdgebemdaa.val Go.Proofs.Ytmgeecdgebemdaa.expr

/-- The slice at 'a' of 'n' slices reads as the list 'LL'. -/
def SRow (w : World) (a : Option Addr) (n : Nat) (LL : List (List Int)) : Prop :=
  LL.length = n ∧ ∀ k, k < n → ∃ (g off : Nat) (L : List Int) (ab : Option Addr) (nb cb : Nat), a = some ⟨g, off, none⟩ ∧ g < w.heap.size ∧ LL[k]? = some L ∧ w.cell? ⟨g, off + k, none⟩ = some (.slice ab nb cb) ∧ nb ≤ cb ∧ Row w ab nb L
theorem SRow.below {w w' : World} {a : Option Addr} {n : Nat} {LL : List (List Int)} (h : SRow w a n LL) (hb : Below w.heap.size w w') : SRow w' a n LL :=
  ⟨h.1, fun k hk => by
    obtain ⟨g, off, L, ab, nb, cb, e, hlt, hL, hc, hle, hr⟩ := h.2 k hk
    exact ⟨g, off, L, ab, nb, cb, e, Nat.lt_of_lt_of_le hlt hb.size, hL, (hb.cell (p := ⟨g, off + k, none⟩) hlt).trans hc, hle, hr.below hb⟩⟩
theorem SRow.nil (w : World) (a : Option Addr) : SRow w a 0 [] := ⟨rfl, fun k hk => by omega⟩
/-- No list is longer than this. -/
def SSizes (LL : List (List Int)) : Prop := LL.length ≤ 1048576 ∧ ∀ L ∈ LL, L.length ≤ 1048576
theorem mem_atS {LL : List (List Int)} {k : Nat} {L : List Int} (h : LL[k]? = some L) : L ∈ LL := List.mem_of_getElem? h
/-- The first 'k' lists lie in these cells, each in a block behind 'G', known whole. -/
def PrefS (w : World) (LL : List (List Int)) (G : Nat) (cs : Array Value) (k : Nat) : Prop :=
  ∀ j, j < k → ∃ (L : List Int) (g : Nat), LL[j]? = some L ∧ cs[j]? = some (.slice (some ⟨g, 0, none⟩) L.length L.length) ∧ G < g ∧ Box g (ivs L).toArray 3 w
theorem PrefS.zero (w : World) (LL : List (List Int)) (G : Nat) (cs : Array Value) : PrefS w LL G cs 0 := fun j h => by omega
theorem PrefS.below {w w' : World} {LL : List (List Int)} {G : Nat} {cs : Array Value} {k : Nat} (h : PrefS w LL G cs k) (hb : Below w.heap.size w w') : PrefS w' LL G cs k := fun j hj => by
  obtain ⟨L, g, h1, h2, h3, h4⟩ := h j hj
  exact ⟨L, g, h1, h2, h3, h4.below hb⟩
theorem PrefS.grown {w w' : World} {LL : List (List Int)} {G : Nat} {cs : Array Value} {k : Nat} (h : PrefS w LL G cs k) (hg : w.grownBy w' (some G)) : PrefS w' LL G cs k := fun j hj => by
  obtain ⟨L, g, h1, h2, h3, h4⟩ := h j hj
  exact ⟨L, g, h1, h2, h3, h4.grown hg (fun e => by have := Option.some.inj e; omega)⟩
theorem PrefS.next {w : World} {LL : List (List Int)} {G : Nat} {cs : Array Value} {k g : Nat} {L : List Int} (h : PrefS w LL G cs k) (hL : LL[k]? = some L) (hs : k < cs.size) (hne : G < g) (hr : Box g (ivs L).toArray 3 w) :
    PrefS w LL G (cs.setIfInBounds k (.slice (some ⟨g, 0, none⟩) L.length L.length)) (k + 1) := fun j hj => by
  by_cases e : j = k
  · subst e
    exact ⟨L, g, hL, by simp [hs], hne, hr⟩
  · obtain ⟨L', g', h1, h2, h3, h4⟩ := h j (by omega)
    exact ⟨L', g', h1, by rw [Array.getElem?_setIfInBounds_ne (Ne.symm e)]; exact h2, h3, h4⟩
/-- Rows in blocks from 'lo' on, each block known whole. -/
def SsX (lo : Nat) (w : World) (a : Option Addr) (n : Nat) (LL : List (List Int)) : Prop :=
  LL.length = n ∧ ∃ (g : Nat) (cs : Array Value), a = some ⟨g, 0, none⟩ ∧ lo ≤ g ∧ Box g cs 22 w ∧ cs.size = n ∧ PrefS w LL g cs n
theorem row_box {w : World} {g n : Nat} {L : List Int} {t : TypeId} (h : Box g (ivs L).toArray t w) (hn : L.length = n) : Row w (some ⟨g, 0, none⟩) n L :=
  ⟨hn, fun k hk => ⟨g, 0, L[k]'(by omega), rfl, h.lt, by simp [show k < L.length by omega], by rw [h.cell]; simp [ivs, show k < L.length by omega]⟩⟩
theorem SsX.row {lo : Nat} {w : World} {a : Option Addr} {n : Nat} {LL : List (List Int)} (h : SsX lo w a n LL) : SRow w a n LL := by
  obtain ⟨hl, g, cs, rfl, hlo, hb, hs, hP⟩ := h
  refine ⟨hl, fun k hk => ?_⟩
  obtain ⟨L, b, h1, h2, h3, h4⟩ := hP k hk
  exact ⟨g, 0, L, some ⟨b, 0, none⟩, L.length, L.length, rfl, hb.lt, h1, by rw [Nat.zero_add, hb.cell]; exact h2, Nat.le_refl _, row_box h4 rfl⟩
theorem SsX.mono {lo lo' : Nat} {w : World} {a : Option Addr} {n : Nat} {LL : List (List Int)} (h : SsX lo w a n LL) (hl : lo' ≤ lo) : SsX lo' w a n LL := by
  obtain ⟨h1, g, cs, h2, h3, h4⟩ := h
  exact ⟨h1, g, cs, h2, Nat.le_trans hl h3, h4⟩
theorem SsX.below {lo : Nat} {w w' : World} {a : Option Addr} {n : Nat} {LL : List (List Int)} (h : SsX lo w a n LL) (hb : Below w.heap.size w w') : SsX lo w' a n LL := by
  obtain ⟨h1, g, cs, h2, h3, h4, h5, h6⟩ := h
  exact ⟨h1, g, cs, h2, h3, h4.below hb, h5, h6.below hb⟩
/-- A copy of the rows in new memory. -/
def MadeSs (w : World) (n : Nat) (LL : List (List Int)) (e : Ending) (w' : World) : Prop :=
  ∃ a' : Option Addr, e = .returned (.slice a' n n) ∧ Hid (SsX w.heap.size w' a' n LL) ∧ Below w.heap.size w w'
theorem infoInts : (Try.prog.info? 22).map (fun i => (i.zero, i.size, i.bytes)) = some (some (.slice none 0 0), 1, 24) := by kernel_rfl
set_option maxHeartbeats 2000000 in
set_option maxRecDepth 100000 in
theorem toss_box (w : World) (a : Option Addr) (n cap : Nat) (LL : List (List Int)) (hz : SSizes LL) (h : SRow w a n LL) : Calls Try.prog 12 #[.slice a n cap] w (MadeSs w n LL) := by
  obtain ⟨i0, hi, hz0, hz1, hz2⟩ := info_parts infoInts
  have HL := Lib.hid h
  have HZ := Lib.hid hz
  have hn : (n : Int) ≤ 1048576 := by have := hz.1; rw [h.1] at this; omega
  clear h hz
  go_enter Try.func12, Try.ntmps12
  go_wp2_with ((refine wpList_make_full _ rfl _ _ 23 rfl w.heap.size 22 i0 _ 1 Try.underlying23 hi hz0 hz1 .i64 .i64 _ _ n rfl rfl rfl rfl (by rw [hz2]; omega) (by unfold maxLen; omega) (Nat.le_refl _) ?_); intro w1 hown1 hg1; refine Hid.out ?_)
  have hsz1 := hown1.1
  have hx1 := grow.own_box hown1
  have hb1 := below_grown hg1
  obtain ⟨cs0, hcs0⟩ : ∃ cs0, (madeCells (Value.slice none 0 0).cells (n * 1)).toList.toArray = cs0 := ⟨_, rfl⟩
  rw [hcs0] at hx1
  have hs0 : cs0.size = n := by rw [← hcs0, List.size_toArray]; simpa using hsz1
  clear hg1 hown1 hsz1 hcs0
  refine Lib.hid ?_
  go_wp2
  go_loopw [4] (fun i wr => ∃ (k : Nat) (cs : Array Value), k ≤ n ∧ i = .int .i64 k ∧ Box w.heap.size cs 22 wr ∧ Hid (cs.size = n ∧ PrefS wr LL w.heap.size cs k) ∧ Below w.heap.size w wr) (fun i _ => n - (intOf i).toNat)
  case atStart => exact ⟨0, cs0, Nat.zero_le _, rfl, hx1, ⟨hs0, PrefS.zero _ _ _ _⟩, hb1⟩
  case round =>
    obtain ⟨k, cs, hk, rfl, hbx, hPF, hbel⟩ := hrel
    by_cases hlt : k < n
    · obtain ⟨b, off, L, ab, nb, cb, rfl, hlb, hL, hc, hle, hrow⟩ := (HL.out.below hbel).2 k hlt
      have hnb : (nb : Int) ≤ 1048576 := by have := HZ.out.2 L (mem_atS hL); rw [hrow.1] at this; omega
      have HR := Lib.hid (And.intro hL (And.intro hbx (And.intro hbel hrow)))
      have hI : (k : Int) < n := by omega
      clear hL hbx hbel hrow hle
      go_wp2_with (go_at_call 11; (with_reducible refine (toInts_at _ ab nb cb L hnb HR.out.2.2.2).mono ?_); rintro e w2 ⟨rfl, ho2, hb2⟩; refine Hid.out ?_)
      have hnl : L.length = nb := own_len ho2
      have hx2 := grow.own_box ho2
      have HGL := Lib.hid HR.out.2.1.lt
      have hbx2 := HR.out.2.1.below hb2
      have hPF2 := hPF.out.2.below hb2
      have hcs := hPF.out.1
      have HB2 := Lib.hid (below_then HR.out.2.2.1 hb2)
      have c4 : w2.cell? ⟨w.heap.size, k, none⟩ = some (cs[k]'(by omega)) := by rw [hbx2.cell]; simp
      have f4 : w2.frozen? ⟨w.heap.size, k, none⟩ = false := hbx2.frozen k
      have hg3 := grown_setCell w2 w.heap.size k (.slice (some ⟨wr.heap.size, 0, none⟩) nb nb)
      have hx3 := hbx2.set k (.slice (some ⟨wr.heap.size, 0, none⟩) nb nb)
      have hP3 := (hPF2.grown hg3).next (g := wr.heap.size) HR.out.1 (by omega) HGL.out (hx2.grown hg3 (fun e => by have := Option.some.inj e; have := HGL.out; omega))
      rw [hnl] at hP3
      have hsz3 : (cs.setIfInBounds k (.slice (some ⟨wr.heap.size, 0, none⟩) nb nb)).size = n := by simpa using hcs
      obtain ⟨w3, hw3⟩ : ∃ w3, w2.setCell ⟨w.heap.size, k, none⟩ (.slice (some ⟨wr.heap.size, 0, none⟩) nb nb) = w3 := ⟨_, rfl⟩
      have hb3 := HB2.out.grown hg3 HB2.out.size (fun j hj => by cases hj; exact Nat.le_refl _)
      rw [hw3] at hx3 hP3 hb3
      have H3 := Lib.hid (And.intro hx3 (And.intro (And.intro hsz3 hP3) hb3))
      have HW3 := Lib.hid hw3
      clear hx3 hP3 hb3 hg3 hw3 hsz3 hPF2 hbx2 hx2 ho2 hb2
      refine Lib.hid ?_
      go_wp2
      rw [HW3.out]
      go_roundw
      case rel => exact ⟨k + 1, _, by omega, by go_num, H3.out.1, H3.out.2.1, H3.out.2.2⟩
      case measure => simp [intOf]; omega
    · obtain rfl : k = n := by omega
      have hI : ¬ (k : Int) < k := by omega
      have HB := Lib.hid (And.intro (show SsX w.heap.size wr (some ⟨w.heap.size, 0, none⟩) k LL from ⟨HL.out.1, w.heap.size, cs, rfl, Nat.le_refl _, hbx, hPF.out.1, hPF.out.2⟩) hbel)
      clear hbx hbel
      go_wp2
      go_ret
      exact ⟨_, rfl, HB.out.1, HB.out.2⟩
set_option maxHeartbeats 1000000 in
set_option maxRecDepth 100000 in
theorem szints_any (w : World) (a : Option Addr) (n cap : Nat) (hn : n ≤ maxLen) (q : Int) (hq0 : 0 ≤ q) (hq1 : q ≤ 1048576) :
    Calls Try.prog 9 #[.slice a n cap, .int .i64 q] w fun e w' => ∃ r : Int, e = .returned (.int .i64 r) ∧ Hid ((r = -1 ∧ q < n) ∨ (r = q - n ∧ (n : Int) ≤ q)) ∧ Below w.heap.size w w' := by
  unfold maxLen at hn
  have hw : IntKind.i64.wrap (q - n) = q - n := IntWalk.i64_in _ (by omega)
  by_cases h : q < n
  · have h1 : q - (n : Int) < 0 := by omega
    go_enter Try.func9, Try.ntmps9
    go_wp2
    go_ret
    exact ⟨-1, rfl, .inl ⟨rfl, h⟩, Below.refl _ _⟩
  · have h1 : ¬ q - (n : Int) < 0 := by omega
    go_enter Try.func9, Try.ntmps9
    go_wp2
    go_ret
    exact ⟨q - n, rfl, by first | exact .inr ⟨rfl, by omega⟩ | exact .inr rfl, Below.refl _ _⟩
set_option maxHeartbeats 2000000 in
set_option maxRecDepth 100000 in
theorem szss_any (w : World) (a : Option Addr) (n cap : Nat) (LL : List (List Int)) (hn : n ≤ maxLen) (hm : ∀ L ∈ LL, L.length ≤ maxLen) (h : SRow w a n LL) (q : Int) (hq0 : 0 ≤ q) (hq1 : q ≤ 1048576) :
    Calls Try.prog 10 #[.slice a n cap, .int .i64 q] w fun e w' => ∃ r : Int, e = .returned (.int .i64 r) ∧ -1 ≤ r ∧ r ≤ 1048576 ∧ Hid (0 ≤ r → SSizes LL) ∧ Below w.heap.size w w' := by
  have HL := Lib.hid h
  have HM := Lib.hid hm
  have hlen := h.1
  have hn2 := hn
  unfold maxLen at hn2
  have hw : IntKind.i64.wrap (q - n) = q - n := IntWalk.i64_in _ (by omega)
  clear h hm
  by_cases hbig : q < n
  · have h1 : q - (n : Int) < 0 := by omega
    go_enter Try.func10, Try.ntmps10
    go_wp2
    go_ret
    exact ⟨-1, rfl, by omega, by omega, fun h => by omega, Below.refl _ _⟩
  · have h1 : ¬ q - (n : Int) < 0 := by omega
    go_enter Try.func10, Try.ntmps10
    go_wp2
    go_loopw [1, 5] (fun l i wr => ∃ (k : Nat) (x : Int), k ≤ n ∧ i = .int .i64 k ∧ l = .int .i64 x ∧ 0 ≤ x ∧ x ≤ 1048576 ∧ Hid (∀ L ∈ LL.take k, L.length ≤ 1048576) ∧ Hid (Below w.heap.size w wr)) (fun _ i _ => n - (intOf i).toNat)
    case atStart => exact ⟨0, q - n, Nat.zero_le _, rfl, rfl, by omega, by omega, by simp [Hid], Below.refl _ _⟩
    case round =>
      obtain ⟨k, x, hk, rfl, rfl, hx0, hx1, HA, HB⟩ := hrel
      by_cases hlt : k < n
      · have hI : (k : Int) < n := by omega
        obtain ⟨b, off, L, ab, nb, cb, rfl, hlb, hL, hc, hle, hrow⟩ := (HL.out.below HB.out).2 k hlt
        have hnb : nb ≤ maxLen := by rw [← hrow.1]; exact HM.out L (mem_atS hL)
        have HLL := Lib.hid (And.intro hL hrow.1)
        clear hL hrow hle
        go_wp2_with (go_at_call 9; (with_reducible refine (szints_any _ ab nb cb hnb x hx0 hx1).mono ?_); rintro e w2 ⟨r, rfl, hr, hb2⟩; refine Hid.out ?_)
        have HB2 := Lib.hid (below_then HB.out hb2)
        clear hb2 hc
        rcases hr.out with ⟨rfl, _⟩ | ⟨rfl, hr'⟩
        · refine Lib.hid ?_
          go_wp2
          go_ret
          exact ⟨-1, rfl, by omega, by omega, fun h => by omega, HB2.out⟩
        · have hng : ¬ x - (nb : Int) < 0 := by omega
          have hA2 := Lib.hid (show ∀ L ∈ LL.take (k + 1), L.length ≤ 1048576 from fun L' h' => by
            rw [List.take_add_one, HLL.out.1] at h'
            rcases List.mem_append.1 h' with h | h
            · exact HA.out L' h
            · simp at h; rw [h, HLL.out.2]; omega)
          refine Lib.hid ?_
          go_wp2
          go_roundw
          case rel => exact ⟨k + 1, x - nb, by omega, by go_num, rfl, by omega, by omega, hA2, HB2⟩
          case measure => simp [intOf]; omega
      · obtain rfl : k = n := by omega
        have hI : ¬ (k : Int) < k := by omega
        have HS := Lib.hid (show SSizes LL from ⟨by rw [hlen]; omega, fun L hL => HA.out L (by rw [List.take_of_length_le (by omega)]; exact hL)⟩)
        go_wp2
        go_ret
        exact ⟨x, rfl, by omega, by omega, fun _ => HS.out, HB.out⟩
set_option maxHeartbeats 2000000 in
set_option maxRecDepth 100000 in
theorem eqss_any (w : World) (a a' : Option Addr) (n cap cap' : Nat) (LL : List (List Int)) (hz : SSizes LL) (h1 : SRow w a n LL) (h2 : SRow w a' n LL) :
    Calls Try.prog 14 #[.slice a n cap, .slice a' n cap'] w (BelB w true) := by
  have hn : (n : Int) ≤ 1048576 := by have := hz.1; rw [h1.1] at this; omega
  have HC : Hid (∀ wr : World, Below w.heap.size w wr → ∀ k, k < n → ∃ (g o g' o' : Nat) (L : List Int) (m : Nat) (b b' : Option Addr) (c c' : Nat), a = some ⟨g, o, none⟩ ∧ a' = some ⟨g', o', none⟩ ∧ g < wr.heap.size ∧ g' < wr.heap.size ∧
      wr.cell? ⟨g, o + k, none⟩ = some (.slice b m c) ∧ wr.cell? ⟨g', o' + k, none⟩ = some (.slice b' m c') ∧ (m : Int) ≤ 1048576 ∧ Row wr b m L ∧ Row wr b' m L) := by
    intro wr hb k hk
    obtain ⟨g, o, L, b, m, c, e1, l1, x1, k1, _, k3⟩ := (h1.below hb).2 k hk
    obtain ⟨g', o', L', b', m', c', e2, l2, x2, q1, _, q3⟩ := (h2.below hb).2 k hk
    obtain rfl : L = L' := by rw [x1] at x2; exact Option.some.inj x2
    obtain rfl : m = m' := by have := k3.1; have := q3.1; omega
    exact ⟨g, o, g', o', L, m, b, b', c, c', e1, e2, l1, l2, k1, q1, by have := hz.2 L (mem_atS x1); rw [k3.1] at this; omega, k3, q3⟩
  clear h1 h2
  go_enter Try.func14, Try.ntmps14
  go_wp2
  go_loopw [5] (fun i wr => ∃ k : Nat, k ≤ n ∧ i = .int .i64 k ∧ Below w.heap.size w wr) (fun i _ => n - (intOf i).toNat)
  case atStart => exact ⟨0, Nat.zero_le _, rfl, Below.refl _ _⟩
  case round =>
    obtain ⟨k, hk, rfl, hbel⟩ := hrel
    by_cases hlt : k < n
    · obtain ⟨g, o, g', o', L, m, b, b', c, c', rfl, rfl, hgl, hgl', c1, c2, hm, s1, s2⟩ := HC.out wr hbel k hlt
      have hI : (k : Int) < n := by omega
      have HB := Lib.hid (And.intro hbel (And.intro s1 s2))
      have r0 : wr.drew.cell? ⟨g, o + k, none⟩ = some (.slice b m c) ∧ wr.drew.cell? ⟨g', o' + k, none⟩ = some (.slice b' m c') := ⟨c1, c2⟩
      have r1 : wr.cell? ⟨g, o + k, none⟩ = some (.slice b m c) ∧ wr.cell? ⟨g', o' + k, none⟩ = some (.slice b' m c') := ⟨c1, c2⟩
      clear hbel s1 s2
      go_wp2
      go_region_held3 (fun w' => w'.cell? ⟨g, o + k, none⟩ = some (.slice b m c) ∧ w'.cell? ⟨g', o' + k, none⟩ = some (.slice b' m c'))
        (first | (exact r0) | (exact ⟨(hb2.cell (p := ⟨g, o + k, none⟩) (by simpa using hgl)).trans c1, (hb2.cell (p := ⟨g', o' + k, none⟩) (by simpa using hgl')).trans c2⟩))
        (first
          | (go_at_call 13; refine (eqInts_any _ b b' m c c' L hm (HB.out.2.1.below (Below.drew (Below.refl _ wr))) (HB.out.2.2.below (Below.drew (Below.refl _ wr)))).mono ?_; rintro e w2 ⟨rfl, hg2⟩; have hb2 := below_grown hg2))
      all_goals
        have hb3 := Lib.hid (HB.out.1.trans ((Below.trans (Below.drew (Below.refl _ wr)) hb2).mono HB.out.1.size))
        clear hb2 hg2 r0 r1 c1 c2
        go_wp2
        go_roundw
        case rel => exact ⟨k + 1, by omega, by go_num, hb3.out⟩
        case measure => simp [intOf]; omega
    · have hI : ¬ (k : Int) < n := by omega
      have HB := Lib.hid hbel
      clear hbel
      go_wp2
      go_ret
      exact ⟨rfl, HB.out⟩
end Go.Proofs.Ytmgeecdgebemdaa.srow
