/- Several texts in one: SsA SsO SsM SsN. -/
import Derived.Test.YtekdnhhmiabngaaGreatGHub1
import Derived.Test.YtekdnhhmiabngaaGreatGHub21
import Derived.Deep.RegionHeld3
import Derived.Test.YtekdnhhmiabngaaGreatGHub6
import Derived.Test.YtekdnhhmiabngaaGreatGHub5

/- Rows of rows of numbers: a slice of slices that reads as a list of lists; the law's own copy, size and comparison of such a slice. -/
namespace Go.Proofs.YtekdnhhmiabngaaGreat.srow
open Go Go.ChangeShapes Go.WideShapes Go.ChangeAt Go.RowKit Go.Proofs.YtekdnhhmiabngaaGreat.row Go.Proofs.YtekdnhhmiabngaaGreat.val Go.Proofs.YtekdnhhmiabngaaGreat.expr

/-- The slice at 'a' of 'n' slices reads as the list 'LL'. -/
def SRow (w : World) (a : Option Addr) (n : Nat) (LL : List (List Int)) : Prop :=
  LL.length = n ∧ ∀ k, k < n → ∃ (g off : Nat) (L : List Int) (ab : Option Addr) (nb cb : Nat), a = some ⟨g, off, none⟩ ∧ g < w.heap.size ∧ LL[k]? = some L ∧ w.cell? ⟨g, off + k, none⟩ = some (.slice ab nb cb) ∧ nb ≤ cb ∧ Row w ab nb L
theorem SRow.below {w w' : World} {a : Option Addr} {n : Nat} {LL : List (List Int)} (h : SRow w a n LL) (hb : Below w.heap.size w w') : SRow w' a n LL :=
  ⟨h.1, fun k hk => by
    obtain ⟨g, off, L, ab, nb, cb, e, hlt, hL, hc, hle, hr⟩ := h.2 k hk
    exact ⟨g, off, L, ab, nb, cb, e, Nat.lt_of_lt_of_le hlt hb.size, hL, (hb.cell (p := ⟨g, off + k, none⟩) hlt).trans hc, hle, hr.below hb⟩⟩
theorem SRow.nil (w : World) (a : Option Addr) : SRow w a 0 [] := ⟨rfl, fun k hk => by omega⟩
/-- No list is longer than this. -/
def SSizes (LL : List (List Int)) : Prop := LL.length ≤ 1048576 ∧ ∀ L ∈ LL, L.length ≤ 1048576
theorem mem_atS {LL : List (List Int)} {k : Nat} {L : List Int} (h : LL[k]? = some L) : L ∈ LL := List.mem_of_getElem? h
/-- The first 'k' lists lie in these cells, each in a block behind 'G', known whole. -/
def PrefS (w : World) (LL : List (List Int)) (G : Nat) (cs : Array Value) (k : Nat) : Prop :=
  ∀ j, j < k → ∃ (L : List Int) (g : Nat), LL[j]? = some L ∧ cs[j]? = some (.slice (some ⟨g, 0, none⟩) L.length L.length) ∧ G < g ∧ Box g (ivs L).toArray 3 w
theorem PrefS.zero (w : World) (LL : List (List Int)) (G : Nat) (cs : Array Value) : PrefS w LL G cs 0 := fun j h => by omega
theorem PrefS.below {w w' : World} {LL : List (List Int)} {G : Nat} {cs : Array Value} {k : Nat} (h : PrefS w LL G cs k) (hb : Below w.heap.size w w') : PrefS w' LL G cs k := fun j hj => by
  obtain ⟨L, g, h1, h2, h3, h4⟩ := h j hj
  exact ⟨L, g, h1, h2, h3, h4.below hb⟩
theorem PrefS.grown {w w' : World} {LL : List (List Int)} {G : Nat} {cs : Array Value} {k : Nat} (h : PrefS w LL G cs k) (hg : w.grownBy w' (some G)) : PrefS w' LL G cs k := fun j hj => by
  obtain ⟨L, g, h1, h2, h3, h4⟩ := h j hj
  exact ⟨L, g, h1, h2, h3, h4.grown hg (fun e => by have := Option.some.inj e; omega)⟩
theorem PrefS.next {w : World} {LL : List (List Int)} {G : Nat} {cs : Array Value} {k g : Nat} {L : List Int} (h : PrefS w LL G cs k) (hL : LL[k]? = some L) (hs : k < cs.size) (hne : G < g) (hr : Box g (ivs L).toArray 3 w) :
    PrefS w LL G (cs.setIfInBounds k (.slice (some ⟨g, 0, none⟩) L.length L.length)) (k + 1) := fun j hj => by
  by_cases e : j = k
  · subst e
    exact ⟨L, g, hL, by simp [hs], hne, hr⟩
  · obtain ⟨L', g', h1, h2, h3, h4⟩ := h j (by omega)
    exact ⟨L', g', h1, by rw [Array.getElem?_setIfInBounds_ne (Ne.symm e)]; exact h2, h3, h4⟩
/-- Rows in blocks from 'lo' on, each block known whole. -/
def SsX (lo : Nat) (w : World) (a : Option Addr) (n : Nat) (LL : List (List Int)) : Prop :=
  LL.length = n ∧ ∃ (g : Nat) (cs : Array Value), a = some ⟨g, 0, none⟩ ∧ lo ≤ g ∧ Box g cs 28 w ∧ cs.size = n ∧ PrefS w LL g cs n
theorem row_box {w : World} {g n : Nat} {L : List Int} {t : TypeId} (h : Box g (ivs L).toArray t w) (hn : L.length = n) : Row w (some ⟨g, 0, none⟩) n L :=
  ⟨hn, fun k hk => ⟨g, 0, L[k]'(by omega), rfl, h.lt, by simp [show k < L.length by omega], by rw [h.cell]; simp [ivs, show k < L.length by omega]⟩⟩
theorem SsX.row {lo : Nat} {w : World} {a : Option Addr} {n : Nat} {LL : List (List Int)} (h : SsX lo w a n LL) : SRow w a n LL := by
  obtain ⟨hl, g, cs, rfl, hlo, hb, hs, hP⟩ := h
  refine ⟨hl, fun k hk => ?_⟩
  obtain ⟨L, b, h1, h2, h3, h4⟩ := hP k hk
  exact ⟨g, 0, L, some ⟨b, 0, none⟩, L.length, L.length, rfl, hb.lt, h1, by rw [Nat.zero_add, hb.cell]; exact h2, Nat.le_refl _, row_box h4 rfl⟩
theorem SsX.mono {lo lo' : Nat} {w : World} {a : Option Addr} {n : Nat} {LL : List (List Int)} (h : SsX lo w a n LL) (hl : lo' ≤ lo) : SsX lo' w a n LL := by
  obtain ⟨h1, g, cs, h2, h3, h4⟩ := h
  exact ⟨h1, g, cs, h2, Nat.le_trans hl h3, h4⟩
theorem SsX.below {lo : Nat} {w w' : World} {a : Option Addr} {n : Nat} {LL : List (List Int)} (h : SsX lo w a n LL) (hb : Below w.heap.size w w') : SsX lo w' a n LL := by
  obtain ⟨h1, g, cs, h2, h3, h4, h5, h6⟩ := h
  exact ⟨h1, g, cs, h2, h3, h4.below hb, h5, h6.below hb⟩
/-- A copy of the rows in new memory. -/
def MadeSs (w : World) (n : Nat) (LL : List (List Int)) (e : Ending) (w' : World) : Prop :=
  ∃ a' : Option Addr, e = .returned (.slice a' n n) ∧ Hid (SsX w.heap.size w' a' n LL) ∧ Below w.heap.size w w'
theorem infoInts : (Tryz.prog.info? 28).map (fun i => (i.zero, i.size, i.bytes)) = some (some (.slice none 0 0), 1, 24) := by kernel_rfl
set_option maxHeartbeats 2000000 in
set_option maxRecDepth 100000 in
theorem toss_box (w : World) (a : Option Addr) (n cap : Nat) (LL : List (List Int)) (hz : SSizes LL) (h : SRow w a n LL) : Calls Tryz.prog 40 #[.slice a n cap] w (MadeSs w n LL) := by
  obtain ⟨i0, hi, hz0, hz1, hz2⟩ := info_parts infoInts
  have HL := Lib.hid h
  have HZ := Lib.hid hz
  have hn : (n : Int) ≤ 1048576 := by have := hz.1; rw [h.1] at this; omega
  clear h hz
  go_enter Tryz.func40, Tryz.ntmps40
  go_wp2_with ((refine wpList_make_full _ rfl _ _ 57 rfl w.heap.size 28 i0 _ 1 Tryz.underlying57 hi hz0 hz1 .i64 .i64 _ _ n rfl rfl rfl rfl (by rw [hz2]; omega) (by unfold maxLen; omega) (Nat.le_refl _) ?_); intro w1 hown1 hg1; refine Hid.out ?_)
  have hsz1 := hown1.1
  have hx1 := grow.own_box hown1
  have hb1 := below_grown hg1
  obtain ⟨cs0, hcs0⟩ : ∃ cs0, (madeCells (Value.slice none 0 0).cells (n * 1)).toList.toArray = cs0 := ⟨_, rfl⟩
  rw [hcs0] at hx1
  have hs0 : cs0.size = n := by rw [← hcs0, List.size_toArray]; simpa using hsz1
  clear hg1 hown1 hsz1 hcs0
  refine Lib.hid ?_
  go_wp2
  go_loopw [4] (fun i wr => ∃ (k : Nat) (cs : Array Value), k ≤ n ∧ i = .int .i64 k ∧ Box w.heap.size cs 28 wr ∧ Hid (cs.size = n ∧ PrefS wr LL w.heap.size cs k) ∧ Below w.heap.size w wr) (fun i _ => n - (intOf i).toNat)
  case atStart => exact ⟨0, cs0, Nat.zero_le _, rfl, hx1, ⟨hs0, PrefS.zero _ _ _ _⟩, hb1⟩
  case round =>
    obtain ⟨k, cs, hk, rfl, hbx, hPF, hbel⟩ := hrel
    by_cases hlt : k < n
    · obtain ⟨b, off, L, ab, nb, cb, rfl, hlb, hL, hc, hle, hrow⟩ := (HL.out.below hbel).2 k hlt
      have hnb : (nb : Int) ≤ 1048576 := by have := HZ.out.2 L (mem_atS hL); rw [hrow.1] at this; omega
      have HR := Lib.hid (And.intro hL (And.intro hbx (And.intro hbel hrow)))
      have hI : (k : Int) < n := by omega
      clear hL hbx hbel hrow hle
      go_wp2_with (go_at_call 27; (with_reducible refine (toInts_at _ ab nb cb L hnb HR.out.2.2.2).mono ?_); rintro e w2 ⟨rfl, ho2, hb2⟩; refine Hid.out ?_)
      have hnl : L.length = nb := own_len ho2
      have hx2 := grow.own_box ho2
      have HGL := Lib.hid HR.out.2.1.lt
      have hbx2 := HR.out.2.1.below hb2
      have hPF2 := hPF.out.2.below hb2
      have hcs := hPF.out.1
      have HB2 := Lib.hid (below_then HR.out.2.2.1 hb2)
      have c4 : w2.cell? ⟨w.heap.size, k, none⟩ = some (cs[k]'(by omega)) := by rw [hbx2.cell]; simp
      have f4 : w2.frozen? ⟨w.heap.size, k, none⟩ = false := hbx2.frozen k
      have hg3 := grown_setCell w2 w.heap.size k (.slice (some ⟨wr.heap.size, 0, none⟩) nb nb)
      have hx3 := hbx2.set k (.slice (some ⟨wr.heap.size, 0, none⟩) nb nb)
      have hP3 := (hPF2.grown hg3).next (g := wr.heap.size) HR.out.1 (by omega) HGL.out (hx2.grown hg3 (fun e => by have := Option.some.inj e; have := HGL.out; omega))
      rw [hnl] at hP3
      have hsz3 : (cs.setIfInBounds k (.slice (some ⟨wr.heap.size, 0, none⟩) nb nb)).size = n := by simpa using hcs
      obtain ⟨w3, hw3⟩ : ∃ w3, w2.setCell ⟨w.heap.size, k, none⟩ (.slice (some ⟨wr.heap.size, 0, none⟩) nb nb) = w3 := ⟨_, rfl⟩
      have hb3 := HB2.out.grown hg3 HB2.out.size (fun j hj => by cases hj; exact Nat.le_refl _)
      rw [hw3] at hx3 hP3 hb3
      have H3 := Lib.hid (And.intro hx3 (And.intro (And.intro hsz3 hP3) hb3))
      have HW3 := Lib.hid hw3
      clear hx3 hP3 hb3 hg3 hw3 hsz3 hPF2 hbx2 hx2 ho2 hb2
      refine Lib.hid ?_
      go_wp2
      rw [HW3.out]
      go_roundw
      case rel => exact ⟨k + 1, _, by omega, by go_num, H3.out.1, H3.out.2.1, H3.out.2.2⟩
      case measure => simp [intOf]; omega
    · obtain rfl : k = n := by omega
      have hI : ¬ (k : Int) < k := by omega
      have HB := Lib.hid (And.intro (show SsX w.heap.size wr (some ⟨w.heap.size, 0, none⟩) k LL from ⟨HL.out.1, w.heap.size, cs, rfl, Nat.le_refl _, hbx, hPF.out.1, hPF.out.2⟩) hbel)
      clear hbx hbel
      go_wp2
      go_ret
      exact ⟨_, rfl, HB.out.1, HB.out.2⟩
set_option maxHeartbeats 1000000 in
set_option maxRecDepth 100000 in
theorem szints_any (w : World) (a : Option Addr) (n cap : Nat) (hn : n ≤ maxLen) (q : Int) (hq0 : 0 ≤ q) (hq1 : q ≤ 1048576) :
    Calls Tryz.prog 79 #[.slice a n cap, .int .i64 q] w fun e w' => ∃ r : Int, e = .returned (.int .i64 r) ∧ Hid ((r = -1 ∧ q < n) ∨ (r = q - n ∧ (n : Int) ≤ q)) ∧ Below w.heap.size w w' := by
  unfold maxLen at hn
  have hw : IntKind.i64.wrap (q - n) = q - n := IntWalk.i64_in _ (by omega)
  by_cases h : q < n
  · have h1 : q - (n : Int) < 0 := by omega
    go_enter Tryz.func79, Tryz.ntmps79
    go_wp2
    go_ret
    exact ⟨-1, rfl, .inl ⟨rfl, h⟩, Below.refl _ _⟩
  · have h1 : ¬ q - (n : Int) < 0 := by omega
    go_enter Tryz.func79, Tryz.ntmps79
    go_wp2
    go_ret
    exact ⟨q - n, rfl, by first | exact .inr ⟨rfl, by omega⟩ | exact .inr rfl, Below.refl _ _⟩
set_option maxHeartbeats 2000000 in
set_option maxRecDepth 100000 in
theorem szss_any (w : World) (a : Option Addr) (n cap : Nat) (LL : List (List Int)) (hn : n ≤ maxLen) (hm : ∀ L ∈ LL, L.length ≤ maxLen) (h : SRow w a n LL) (q : Int) (hq0 : 0 ≤ q) (hq1 : q ≤ 1048576) :
    Calls Tryz.prog 38 #[.slice a n cap, .int .i64 q] w fun e w' => ∃ r : Int, e = .returned (.int .i64 r) ∧ -1 ≤ r ∧ r ≤ 1048576 ∧ Hid (0 ≤ r → SSizes LL) ∧ Below w.heap.size w w' := by
  have HL := Lib.hid h
  have HM := Lib.hid hm
  have hlen := h.1
  have hn2 := hn
  unfold maxLen at hn2
  have hw : IntKind.i64.wrap (q - n) = q - n := IntWalk.i64_in _ (by omega)
  clear h hm
  by_cases hbig : q < n
  · have h1 : q - (n : Int) < 0 := by omega
    go_enter Tryz.func38, Tryz.ntmps38
    go_wp2
    go_ret
    exact ⟨-1, rfl, by omega, by omega, fun h => by omega, Below.refl _ _⟩
  · have h1 : ¬ q - (n : Int) < 0 := by omega
    go_enter Tryz.func38, Tryz.ntmps38
    go_wp2
    go_loopw [1, 5] (fun l i wr => ∃ (k : Nat) (x : Int), k ≤ n ∧ i = .int .i64 k ∧ l = .int .i64 x ∧ 0 ≤ x ∧ x ≤ 1048576 ∧ Hid (∀ L ∈ LL.take k, L.length ≤ 1048576) ∧ Hid (Below w.heap.size w wr)) (fun _ i _ => n - (intOf i).toNat)
    case atStart => exact ⟨0, q - n, Nat.zero_le _, rfl, rfl, by omega, by omega, by simp [Hid], Below.refl _ _⟩
    case round =>
      obtain ⟨k, x, hk, rfl, rfl, hx0, hx1, HA, HB⟩ := hrel
      by_cases hlt : k < n
      · have hI : (k : Int) < n := by omega
        obtain ⟨b, off, L, ab, nb, cb, rfl, hlb, hL, hc, hle, hrow⟩ := (HL.out.below HB.out).2 k hlt
        have hnb : nb ≤ maxLen := by rw [← hrow.1]; exact HM.out L (mem_atS hL)
        have HLL := Lib.hid (And.intro hL hrow.1)
        clear hL hrow hle
        go_wp2_with (go_at_call 79; (with_reducible refine (szints_any _ ab nb cb hnb x hx0 hx1).mono ?_); rintro e w2 ⟨r, rfl, hr, hb2⟩; refine Hid.out ?_)
        have HB2 := Lib.hid (below_then HB.out hb2)
        clear hb2 hc
        rcases hr.out with ⟨rfl, _⟩ | ⟨rfl, hr'⟩
        · refine Lib.hid ?_
          go_wp2
          go_ret
          exact ⟨-1, rfl, by omega, by omega, fun h => by omega, HB2.out⟩
        · have hng : ¬ x - (nb : Int) < 0 := by omega
          have hA2 := Lib.hid (show ∀ L ∈ LL.take (k + 1), L.length ≤ 1048576 from fun L' h' => by
            rw [List.take_add_one, HLL.out.1] at h'
            rcases List.mem_append.1 h' with h | h
            · exact HA.out L' h
            · simp at h; rw [h, HLL.out.2]; omega)
          refine Lib.hid ?_
          go_wp2
          go_roundw
          case rel => exact ⟨k + 1, x - nb, by omega, by go_num, rfl, by omega, by omega, hA2, HB2⟩
          case measure => simp [intOf]; omega
      · obtain rfl : k = n := by omega
        have hI : ¬ (k : Int) < k := by omega
        have HS := Lib.hid (show SSizes LL from ⟨by rw [hlen]; omega, fun L hL => HA.out L (by rw [List.take_of_length_le (by omega)]; exact hL)⟩)
        go_wp2
        go_ret
        exact ⟨x, rfl, by omega, by omega, fun _ => HS.out, HB.out⟩
set_option maxHeartbeats 2000000 in
set_option maxRecDepth 100000 in
theorem eqss_any (w : World) (a a' : Option Addr) (n cap cap' : Nat) (LL : List (List Int)) (hz : SSizes LL) (h1 : SRow w a n LL) (h2 : SRow w a' n LL) :
    Calls Tryz.prog 43 #[.slice a n cap, .slice a' n cap'] w (BelB w true) := by
  have hn : (n : Int) ≤ 1048576 := by have := hz.1; rw [h1.1] at this; omega
  have HC : Hid (∀ wr : World, Below w.heap.size w wr → ∀ k, k < n → ∃ (g o g' o' : Nat) (L : List Int) (m : Nat) (b b' : Option Addr) (c c' : Nat), a = some ⟨g, o, none⟩ ∧ a' = some ⟨g', o', none⟩ ∧ g < wr.heap.size ∧ g' < wr.heap.size ∧
      wr.cell? ⟨g, o + k, none⟩ = some (.slice b m c) ∧ wr.cell? ⟨g', o' + k, none⟩ = some (.slice b' m c') ∧ (m : Int) ≤ 1048576 ∧ Row wr b m L ∧ Row wr b' m L) := by
    intro wr hb k hk
    obtain ⟨g, o, L, b, m, c, e1, l1, x1, k1, _, k3⟩ := (h1.below hb).2 k hk
    obtain ⟨g', o', L', b', m', c', e2, l2, x2, q1, _, q3⟩ := (h2.below hb).2 k hk
    obtain rfl : L = L' := by rw [x1] at x2; exact Option.some.inj x2
    obtain rfl : m = m' := by have := k3.1; have := q3.1; omega
    exact ⟨g, o, g', o', L, m, b, b', c, c', e1, e2, l1, l2, k1, q1, by have := hz.2 L (mem_atS x1); rw [k3.1] at this; omega, k3, q3⟩
  clear h1 h2
  go_enter Tryz.func43, Tryz.ntmps43
  go_wp2
  go_loopw [5] (fun i wr => ∃ k : Nat, k ≤ n ∧ i = .int .i64 k ∧ Below w.heap.size w wr) (fun i _ => n - (intOf i).toNat)
  case atStart => exact ⟨0, Nat.zero_le _, rfl, Below.refl _ _⟩
  case round =>
    obtain ⟨k, hk, rfl, hbel⟩ := hrel
    by_cases hlt : k < n
    · obtain ⟨g, o, g', o', L, m, b, b', c, c', rfl, rfl, hgl, hgl', c1, c2, hm, s1, s2⟩ := HC.out wr hbel k hlt
      have hI : (k : Int) < n := by omega
      have HB := Lib.hid (And.intro hbel (And.intro s1 s2))
      have r0 : wr.drew.cell? ⟨g, o + k, none⟩ = some (.slice b m c) ∧ wr.drew.cell? ⟨g', o' + k, none⟩ = some (.slice b' m c') := ⟨c1, c2⟩
      have r1 : wr.cell? ⟨g, o + k, none⟩ = some (.slice b m c) ∧ wr.cell? ⟨g', o' + k, none⟩ = some (.slice b' m c') := ⟨c1, c2⟩
      clear hbel s1 s2
      go_wp2
      go_region_held3 (fun w' => w'.cell? ⟨g, o + k, none⟩ = some (.slice b m c) ∧ w'.cell? ⟨g', o' + k, none⟩ = some (.slice b' m c'))
        (first | (exact r0) | (exact ⟨(hb2.cell (p := ⟨g, o + k, none⟩) (by simpa using hgl)).trans c1, (hb2.cell (p := ⟨g', o' + k, none⟩) (by simpa using hgl')).trans c2⟩))
        (first
          | (go_at_call 30; refine (eqInts_any _ b b' m c c' L hm (HB.out.2.1.below (Below.drew (Below.refl _ wr))) (HB.out.2.2.below (Below.drew (Below.refl _ wr)))).mono ?_; rintro e w2 ⟨rfl, hg2⟩; have hb2 := below_grown hg2))
      all_goals
        have hb3 := Lib.hid (HB.out.1.trans ((Below.trans (Below.drew (Below.refl _ wr)) hb2).mono HB.out.1.size))
        clear hb2 hg2 r0 r1 c1 c2
        go_wp2
        go_roundw
        case rel => exact ⟨k + 1, by omega, by go_num, hb3.out⟩
        case measure => simp [intOf]; omega
    · have hI : ¬ (k : Int) < n := by omega
      have HB := Lib.hid hbel
      clear hbel
      go_wp2
      go_ret
      exact ⟨rfl, HB.out⟩
end Go.Proofs.YtekdnhhmiabngaaGreat.srow

/- What a law's argument is made of: a slice of slices of numbers; a reference of the laws' own (two slices of numbers and a number). -/
namespace Go.Proofs.YtekdnhhmiabngaaGreat.opn
open Go.ChangeShapes Go.WideShapes Go.ChangeAt Go.RowKit Go.Joins Go.Deep Go.Proofs.YtekdnhhmiabngaaGreat.row Go.Proofs.YtekdnhhmiabngaaGreat.srow

set_option maxRecDepth 100000 in
/-- One cell that reads as a slice of numbers. -/
theorem ints_trod {H : Type} {enc : TypeId × Value → H} {w : World} {base : Nat} {spare : Nat → Bool} {held : Bool} {fuel : Nat} {c : Value} {x : DataW H × List MemPlace}
    (hf : DataW.trod enc Tryz.prog w base spare held fuel 28 [c] = some x) : ∃ (a : Option Addr) (len cap : Nat) (L : List Int), c = .slice a len cap ∧ len ≤ cap ∧ len ≤ maxLen ∧ Row w a len L := by
  have hI : Tryz.prog.cellsOf 3 = 1 := by kernel_rfl
  rcases open_slice Tryz.underlying28 hf with ⟨hcs, _⟩ | ⟨x, l, c', m, n, D, Pl, hcs, _, hl, hm, hmm, _, hx⟩
  · simp at hcs
    subst hcs
    exact ⟨none, 0, 0, [], rfl, Nat.le_refl _, Nat.zero_le _, Row.none_ _⟩
  · simp at hcs
    subst hcs
    have hlm : l ≤ m := by rw [hmm]; split <;> omega
    have each : ∀ i, i < l → ∃ s : Int, w.cell? (x.add i) = some (.int .i64 s) := by
      intro i hi
      obtain ⟨cs, h1, h2⟩ := hx i (by omega)
      rw [hI] at h1
      obtain ⟨_, hlen, hcell⟩ := World.cells?_some h1
      match cs, hlen, h2, hcell with
      | [c0], _, h2, hcell =>
        obtain ⟨k, e0, _, _⟩ := DataW.trod_int Tryz.underlying3 h2
        simp at e0
        subst e0
        have := hcell 0 (by omega)
        rw [add_add, Nat.mul_one, Nat.add_zero] at this
        exact ⟨k, by simpa using this⟩
    obtain ⟨L, hL, hLs⟩ := list_ofG (P := fun i s => w.cell? (x.add i) = some (.int .i64 s)) l each
    refine ⟨some x, l, c', L, rfl, hl, by omega, hL, fun k hk => ?_⟩
    have hkL : k < L.length := by omega
    have hs : L[k]? = some L[k] := by simp [hkL]
    have hc := hLs k _ hs
    have h0L : 0 < L.length := by omega
    have hc00 := hLs 0 L[0] (by simp)
    obtain ⟨b, off, spot⟩ := x
    have hspot : spot = none := by simpa [Addr.add] using World.cell?_spot hc00
    subst hspot
    rw [Go.WideShapes.add_plain] at hc
    exact ⟨b, off, L[k], rfl, World.block_lt_of_cell? w _ hc, hs, hc⟩
/-- Rows of numbers that came in. -/
def IsSsV (w : World) (v : Value) : Prop := ∃ (a : Option Addr) (len cap : Nat) (LL : List (List Int)), v = .slice a len cap ∧ len ≤ maxLen ∧ (∀ L ∈ LL, L.length ≤ maxLen) ∧ SRow w a len LL
set_option maxRecDepth 100000 in
theorem open_IntSS {H : Type} {enc : TypeId × Value → H} {w : World} {base : Nat} {spare : Nat → Bool} {held : Bool} {r : Reach} {b0 : Nat} {v : Value} {d : DataW H} {p : List MemPlace}
    (hv : Value.okWide Tryz.prog w r b0 57 v) (h : DataW.Trod enc Tryz.prog w base spare held 57 v d p) : IsSsV w v := by
  obtain ⟨a, len, cap, rfl⟩ := okWide_slice Tryz.underlying57 hv
  obtain ⟨fuel, hf⟩ := h
  have hL : Tryz.prog.cellsOf 28 = 1 := by kernel_rfl
  rcases open_slice Tryz.underlying57 hf with ⟨hcs, _⟩ | ⟨x, l, c, m, n, D, Pl, hcs, _, hl, hm, hmm, _, hx⟩
  · simp [Value.cells] at hcs
    obtain ⟨rfl, rfl, rfl⟩ := hcs
    exact ⟨none, 0, 0, [], rfl, Nat.zero_le _, (fun L hL => by cases hL), SRow.nil _ _⟩
  · simp [Value.cells] at hcs
    obtain ⟨rfl, rfl, rfl⟩ := hcs
    have hlm : len ≤ m := by rw [hmm]; split <;> omega
    have each : ∀ i, i < len → ∃ L : List Int, ∃ (ab : Option Addr) (nb cb : Nat), w.cell? (x.add i) = some (.slice ab nb cb) ∧ nb ≤ cb ∧ nb ≤ maxLen ∧ Row w ab nb L := by
      intro i hi
      obtain ⟨cs, h1, h2⟩ := hx i (by omega)
      rw [hL] at h1
      obtain ⟨_, hlen, hcell⟩ := World.cells?_some h1
      match cs, hlen, h2, hcell with
      | [c0], _, h2, hcell =>
        obtain ⟨ab, nb, cb, L, rfl, hbc, hbm, hB⟩ := ints_trod h2
        have := hcell 0 (by omega)
        rw [add_add, Nat.mul_one, Nat.add_zero] at this
        exact ⟨L, ab, nb, cb, by simpa using this, hbc, hbm, hB⟩
    obtain ⟨LL, hLL, hLs⟩ := list_ofG (P := fun i L => ∃ (ab : Option Addr) (nb cb : Nat), w.cell? (x.add i) = some (.slice ab nb cb) ∧ nb ≤ cb ∧ nb ≤ maxLen ∧ Row w ab nb L) len each
    refine ⟨some x, len, cap, LL, rfl, by omega, fun L hL => ?_, hLL, fun k hk => ?_⟩
    · obtain ⟨j, hj⟩ := List.mem_iff_getElem?.1 hL
      obtain ⟨_, nb, _, _, _, hnb, hB⟩ := hLs j L hj
      rw [hB.1]; exact hnb
    have hkL : k < LL.length := by omega
    have hs : LL[k]? = some LL[k] := by simp [hkL]
    obtain ⟨ab, nb, cb, hc, hbc, _, hB⟩ := hLs k _ hs
    have h0L : 0 < LL.length := by omega
    obtain ⟨ab0, nb0, cb0, hc00, _⟩ := hLs 0 LL[0] (by simp)
    obtain ⟨b, off, spot⟩ := x
    have hspot : spot = none := by simpa [Addr.add] using World.cell?_spot hc00
    subst hspot
    rw [Go.WideShapes.add_plain] at hc
    exact ⟨b, off, LL[k], ab, nb, cb, rfl, World.block_lt_of_cell? w _ hc, hs, hc, hbc, hB⟩
end Go.Proofs.YtekdnhhmiabngaaGreat.opn

/- The law's marks in rows of its own: which blocks are written. -/
namespace Go.Proofs.YtekdnhhmiabngaaGreat.mrk
open Go Go.ChangeShapes Go.WideShapes Go.ChangeAt Go.RowKit Go.Proofs.YtekdnhhmiabngaaGreat.row Go.Proofs.YtekdnhhmiabngaaGreat.stm Go.Proofs.YtekdnhhmiabngaaGreat.prg Go.Proofs.YtekdnhhmiabngaaGreat.srow

/-- Rows in blocks from 'lo' to 'hi', each known whole: their sizes alone. -/
def MkS (lo hi : Nat) (w : World) (g n : Nat) (L : List Nat) : Prop :=
  L.length = n ∧ g < hi ∧ ∃ cs : Array Value, Box g cs 28 w ∧ ∀ j, j < n → ∃ (m b : Nat) (X : List Int), L[j]? = some m ∧ cs[j]? = some (.slice (some ⟨b, 0, none⟩) m m) ∧ lo ≤ b ∧ b ≠ g ∧ b < hi ∧ X.length = m ∧ Box b (ivs X).toArray 3 w
theorem MkS.below {lo hi g n : Nat} {w w' : World} {L : List Nat} (h : MkS lo hi w g n L) (hb : Below w.heap.size w w') : MkS lo hi w' g n L := by
  obtain ⟨h1, h2, cs, h3, h4⟩ := h
  refine ⟨h1, h2, cs, h3.below hb, fun j hj => ?_⟩
  obtain ⟨m, b, X, q1, q2, q3, q4, q5, q6, q7⟩ := h4 j hj
  exact ⟨m, b, X, q1, q2, q3, q4, q5, q6, q7.below hb⟩
theorem MkS.body {lo hi g n b m : Nat} {w w' : World} {L : List Nat} {X : List Int} (h : MkS lo hi w g n L) (hg : w.grownBy w' (some b)) (hne : b ≠ g) (h0 : Box b (ivs X).toArray 3 w) (hX : X.length = m) {X' : List Int} (h1 : Box b (ivs X').toArray 3 w') (hX' : X'.length = m) : MkS lo hi w' g n L := by
  obtain ⟨q1, q2, cs, q3, q4⟩ := h
  refine ⟨q1, q2, cs, q3.grown hg (fun e => hne (Option.some.inj e).symm), fun j hj => ?_⟩
  obtain ⟨m', b', Y, p1, p2, p3, p4, p5, p6, p7⟩ := q4 j hj
  by_cases e : b' = b
  · subst e
    have e2 := box_one p7 h0
    have e3 : Y.length = X.length := by have := congrArg Array.size e2; simpa [ivs] using this
    exact ⟨m', b', X', p1, p2, p3, p4, p5, by omega, h1⟩
  · exact ⟨m', b', Y, p1, p2, p3, p4, p5, p6, p7.grown hg (fun e9 => e (Option.some.inj e9))⟩
/-- A copy of the law's own, its blocks in bounds. -/
theorem mks_of {lo n : Nat} {w : World} {a : Option Addr} {LL : List (List Int)} (h : SsX lo w a n LL) : ∃ g, a = some ⟨g, 0, none⟩ ∧ g < w.heap.size ∧ MkS lo w.heap.size w g n (LL.map List.length) := by
  obtain ⟨hl, g, cs, rfl, hlo, hb, hs, hP⟩ := h
  refine ⟨g, rfl, hb.lt, by simpa using hl, hb.lt, cs, hb, fun j hj => ?_⟩
  obtain ⟨L, b, h1, h2, h3, h4⟩ := hP j hj
  exact ⟨L.length, b, L, by simp [h1], h2, by omega, by omega, h4.lt, rfl, h4⟩
theorem lens_of {LL : List (List Int)} (hz : SSizes LL) : ∀ m ∈ LL.map List.length, m ≤ 1048576 := by
  intro m hm
  obtain ⟨t, ht, rfl⟩ := List.mem_map.1 hm
  exact hz.2 t ht
theorem own_of_box {w : World} {B g n : Nat} {L : List Int} {t : TypeId} (h : Box g (ivs L).toArray t w) (hB : B ≤ g) (hl : L.length = n) (hn : n ≤ maxLen) : w.ownsRow B t 1 (.slice (some ⟨g, 0, none⟩) n n) n (ivs L) :=
  ⟨by simp [ivs, hl], .inr ⟨g, n, (ivs L).toArray, rfl, hB, h, Nat.le_refl _, hn, by simp [ivs, hl], by rw [Nat.mul_one]; exact List.take_of_length_le (by simp [ivs, hl])⟩⟩
/-- What the marks leave. -/
def MarkS (lo hi : Nat) (w : World) (n : Nat) (k : Int) (e : Ending) (w' : World) : Prop :=
  ∃ r : Int, e = .returned (.int .i64 r) ∧ k ≤ r ∧ r ≤ k + n * 1048576 ∧ (Below lo w w' ∧ Far hi w w') ∧ w.heap.size ≤ w'.heap.size
set_option maxHeartbeats 4000000 in
set_option maxRecDepth 100000 in
theorem markss_wide (lo hi : Nat) (w : World) (g n cap : Nat) (L : List Nat) (h : MkS lo hi w g n L) (hL : ∀ m ∈ L, m ≤ 1048576) (hlo : lo ≤ w.heap.size) (k : Nat) (hk1 : (k : Int) ≤ 10000000000000) (hn : n ≤ 1048576) :
    Calls Tryz.prog 44 #[.slice (some ⟨g, 0, none⟩) n cap, .int .i64 k] w (MarkS lo hi w n k) := by
  have HT := Lib.hid h
  have HLL := Lib.hid hL
  clear h hL
  go_enter Tryz.func44, Tryz.ntmps44
  go_wp2
  go_loopw [1, 5] (fun kk i wr => ∃ (m K : Nat), m ≤ n ∧ i = .int .i64 m ∧ kk = .int .i64 K ∧ (k : Int) ≤ K ∧ (K : Int) ≤ k + m * 1048576 ∧ Hid ((Below lo w wr ∧ Far hi w wr) ∧ w.heap.size ≤ wr.heap.size ∧ MkS lo hi wr g n L)) (fun _ i _ => n - (intOf i).toNat)
  case atStart => exact ⟨0, k, Nat.zero_le _, rfl, rfl, Int.le_refl _, by simp, ⟨⟨rfl, rfl, rfl, Nat.le_refl _, fun _ _ => rfl⟩, fun _ _ _ => rfl⟩, Nat.le_refl _, HT.out⟩
  case round =>
    obtain ⟨m, K, hm, rfl, rfl, hKl, hKh, HI⟩ := hrel
    by_cases hlt : m < n
    · have hI : (m : Int) < n := by omega
      obtain ⟨_, _, cs', hbx, hrow⟩ := HI.out.2.2
      obtain ⟨nb, b, X, hLm, hc, hb1, hb2, hb3, hX, hbb⟩ := hrow m hlt
      have hnb := HLL.out nb (List.mem_of_getElem? hLm)
      have hnbI : (nb : Int) ≤ 1048576 := by omega
      have hK1 : (K : Int) ≤ 1000000000000000 := by omega
      have c0 : wr.cell? ⟨g, m, none⟩ = some (.slice (some ⟨b, 0, none⟩) nb nb) := by rw [hbx.cell]; exact hc
      have HA0 := Lib.hid (And.intro hbb (And.intro hb1 (And.intro hb2 (And.intro hb3 hX))))
      clear hbx hc hb1 hb2 hb3 hbb hrow hLm hX
      go_wp2_with (go_at_call 32; (with_reducible refine (markInts_wide _ b _ nb nb K X hnbI hK1 (own_of_box HA0.out.1 (Nat.le_refl _) HA0.out.2.2.2.2 (by unfold maxLen; omega))).mono ?_); rintro e w2 ⟨rfl, hg2, X', ho2, _⟩; refine Hid.out ?_)
      have hX2 : X'.length = nb := own_len ho2
      have hbx2 := grow.own_box ho2
      have hg2' : wr.grownBy w2 (some b) := hg2
      have H2 := Lib.hid (And.intro (HI.out.2.2.body hg2' HA0.out.2.2.1 HA0.out.1 HA0.out.2.2.2.2 hbx2 hX2) (And.intro (bf_grown HI.out.1 HI.out.2.1 hlo hg2' HA0.out.2.1 HA0.out.2.2.2.1) (Nat.le_trans HI.out.2.1 hg2.size)))
      clear hg2 hg2' ho2 hbx2 c0
      refine Lib.hid ?_
      go_wp2
      go_roundw
      case rel => exact ⟨m + 1, K + nb, by omega, by go_num, rfl, by push_cast; omega, by push_cast; omega, H2.out.2.1, H2.out.2.2, H2.out.1⟩
      case measure => simp [intOf]; omega
    · obtain rfl : m = n := by omega
      have hI : ¬ (m : Int) < m := by omega
      go_wp2
      go_ret
      exact ⟨K, rfl, hKl, hKh, HI.out.1, HI.out.2.1⟩
end Go.Proofs.YtekdnhhmiabngaaGreat.mrk

/- A copy of rows, by its blocks' bounds: what other writes leave of it. -/
namespace Go.Proofs.YtekdnhhmiabngaaGreat.mrk
open Go Go.ChangeShapes Go.WideShapes Go.ChangeAt Go.RowKit Go.Proofs.YtekdnhhmiabngaaGreat.row Go.Proofs.YtekdnhhmiabngaaGreat.stm Go.Proofs.YtekdnhhmiabngaaGreat.prg Go.Proofs.YtekdnhhmiabngaaGreat.srow

def MkT (lo hi : Nat) (w : World) (g n : Nat) (L : List Nat) : Prop := lo ≤ g ∧ MkS lo hi w g n L
theorem MkT.below {lo hi g n : Nat} {w w' : World} {L : List Nat} (h : MkT lo hi w g n L) (hb : Below w.heap.size w w') : MkT lo hi w' g n L := ⟨h.1, h.2.below hb⟩
theorem MkT.far {lo hi g n lo2 hi2 : Nat} {w w' : World} {L : List Nat} (h : MkT lo hi w g n L) (hbf : Below lo2 w w' ∧ Far hi2 w w') (hl : hi2 ≤ lo) : MkT lo hi w' g n L := by
  obtain ⟨h0, h1, h2, cs, h3, h4⟩ := h
  refine ⟨h0, h1, h2, cs, box_far h3 hbf (.inr (Nat.le_trans hl h0)), fun j hj => ?_⟩
  obtain ⟨m, b, X, q1, q2, q3, q4, q5, q6, q7⟩ := h4 j hj
  exact ⟨m, b, X, q1, q2, q3, q4, q5, q6, box_far q7 hbf (.inr (Nat.le_trans hl q3))⟩
theorem MkT.grown {lo hi g n : Nat} {w w' : World} {r : Option Nat} {L : List Nat} (h : MkT lo hi w g n L) (hg : w.grownBy w' r) (hr : ∀ q, r = some q → q < lo) : MkT lo hi w' g n L := by
  obtain ⟨h0, h1, h2, cs, h3, h4⟩ := h
  refine ⟨h0, h1, h2, cs, h3.grown hg (fun e => by have := hr _ e.symm; omega), fun j hj => ?_⟩
  obtain ⟨m, b, X, q1, q2, q3, q4, q5, q6, q7⟩ := h4 j hj
  exact ⟨m, b, X, q1, q2, q3, q4, q5, q6, q7.grown hg (fun e => by have := hr _ e.symm; omega)⟩
theorem mkt_of {lo n : Nat} {w : World} {a : Option Addr} {LL : List (List Int)} (h : SsX lo w a n LL) : ∃ g, a = some ⟨g, 0, none⟩ ∧ g < w.heap.size ∧ MkT lo w.heap.size w g n (LL.map List.length) := by
  obtain ⟨g', e, h1, h2⟩ := mks_of h
  obtain ⟨_, g, _, e2, hlo, _⟩ := h
  have e3 : g' = g := by rw [e] at e2; injection e2 with e2; injection e2 with e2
  subst e3
  exact ⟨g', e, h1, hlo, h2⟩
end Go.Proofs.YtekdnhhmiabngaaGreat.mrk
