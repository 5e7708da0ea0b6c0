/- The struct Micro as plain data, and rows of it: the law's own copy, size, comparison, marks of such a value and of such a row; what a law's argument of these types is. -/
import Derived.Test.YtcmhiadaebpgmaaTrcC
import Derived.Test.YtcmhiadaebpgmaaGRow
import Derived.Test.YtcmhiadaebpgmaaVal
import Derived.Test.YtcmhiadaebpgmaaExpr
import Derived.Test.YtcmhiadaebpgmaaOpen
import Derived.Deep.Slices
import Derived.Deep.RegionHeld3
namespace Go.Proofs.Ytcmhiadaebpgmaa.trc
open Go Go.ChangeShapes Go.WideShapes Go.ChangeAt Go.RowKit Go.Joins Go.Deep Go.Proofs.Ytcmhiadaebpgmaa.row Go.Proofs.Ytcmhiadaebpgmaa.val Go.Proofs.Ytcmhiadaebpgmaa.expr Go.Proofs.Ytcmhiadaebpgmaa.grow

/-- The cells of one, its value, the cells of a list of them. -/
def microC (s : Mic) : List Value := [.int .i64 s.c, .int .i64 s.a, .int .i64 s.v]
theorem microC_len (s : Mic) : (microC s).length = 3 := rfl
abbrev microV (s : Mic) : Value := .agg #[.int .i64 s.c, .int .i64 s.a, .int .i64 s.v]
abbrev microsC (L : List Mic) : List Value := gcs microC L
theorem microsC_len (L : List Mic) : (microsC L).length = L.length * 3 := gcs_len microC_len L
/-- The slice reads as this list. -/
abbrev MicroRow (w : World) (a : Option Addr) (n : Nat) (L : List Mic) : Prop := GRow microC 3 w a n L
/-- The call returns this value; nothing that was there is written. -/
def BelMicro (w : World) (s : Mic) (e : Ending) (w' : World) : Prop := e = .returned (microV s) ∧ Below w.heap.size w w'
theorem drew_below {w w' : World} (h : Below w.drew.heap.size w.drew w') : Below w.heap.size w w' := (Below.drew (Below.refl _ w)).trans h
set_option maxHeartbeats 1000000 in
set_option maxRecDepth 100000 in
theorem toMicro_any (s : Mic) (w : World) : Calls Try.prog 31 #[microV s] w (BelMicro w s) := by
  go_enter Try.func31, Try.ntmps31
  go_wp2
  refine bodyPost_ret (v := microV s) (by simp [results, Try.results31, go_sem, microV]) rfl ⟨rfl, ?_⟩
  exact (((Below.refl _ _).alloc (Nat.le_refl _) _).alloc (by simp) _).alloc (by simp; omega) _
set_option maxRecDepth 100000 in
theorem eqMicro_same (s : Mic) (w : World) : Calls Try.prog 32 #[microV s, microV s] w (BelB w true) := by
  go_enter Try.func32, Try.ntmps32
  go_wp2
  go_ret
  exact ⟨rfl, ((Below.refl _ w).alloc (Nat.le_refl _) _).alloc (by simp) _⟩
/-- A copy of the row in new memory. -/
def MadeMicros (w : World) (n : Nat) (L : List Mic) (e : Ending) (w' : World) : Prop :=
  e = .returned (.slice (some ⟨w.heap.size, 0, none⟩) n n) ∧ Box w.heap.size (microsC L).toArray 43 w' ∧ Below w.heap.size w w'
theorem zeros_micro : ∀ i, i < (Value.agg #[.int .i64 0, .int .i64 0, .int .i64 0]).cells.size → (Value.agg #[.int .i64 0, .int .i64 0, .int .i64 0]).cells[i]! = .int .i64 0 := by
  intro i hi
  have : i < 3 := hi
  match i, this with
  | 0, _ => rfl
  | 1, _ => rfl
  | 2, _ => rfl
theorem infoMicro : (Try.prog.info? 43).map (fun i => (i.zero, i.size, i.bytes)) = some (some (.agg #[.int .i64 0, .int .i64 0, .int .i64 0]), 3, 24) := by kernel_rfl
set_option maxHeartbeats 2000000 in
set_option maxRecDepth 100000 in
theorem toMicros_any (w : World) (a : Option Addr) (n cap : Nat) (L : List Mic) (hn : (n : Int) ≤ 1048576) (h : MicroRow w a n L) : Calls Try.prog 21 #[.slice a n cap] w (MadeMicros w n L) := by
  obtain ⟨i0, hi, hz0, hz1, hz2⟩ := info_parts infoMicro
  have HL := Lib.hid h
  clear h
  go_enter Try.func21, Try.ntmps21
  go_wp2_with ((refine wpList_make_full _ rfl _ _ 28 rfl w.heap.size 43 i0 _ 3 Try.underlying28 hi hz0 hz1 .i64 .i64 _ _ n rfl rfl rfl rfl (by rw [hz2]; omega) (by unfold maxLen; omega) (Nat.le_refl _) ?_); intro w1 hown1 hg1; refine Hid.out ?_)
  rw [made_same (by decide) zeros_micro (n * 3)] at hown1
  have hx1 := own_box hown1
  have hb1 := below_grown hg1
  clear hg1 hown1
  refine Lib.hid ?_
  go_wp2
  go_loopw [4] (fun i wr => ∃ k : Nat, k ≤ n ∧ i = .int .i64 k ∧ Box w.heap.size (microsC (L.take k) ++ List.replicate ((n - k) * 3) (Value.int .i64 0)).toArray 43 wr ∧ Below w.heap.size w wr) (fun i _ => n - (intOf i).toNat)
  case atStart => exact ⟨0, Nat.zero_le _, rfl, by simpa [gcs] using hx1, hb1⟩
  case round =>
    obtain ⟨k, hk, rfl, hbx, hbel⟩ := hrel
    by_cases hlt : k < n
    · obtain ⟨b, off, s, rfl, hlb, hs, hr⟩ := (HL.out.below hbel).2 k hlt
      have HR := Lib.hid (And.intro hr (And.intro hs (And.intro hbx hbel)))
      have hI : (k : Int) < n := by omega
      have hlw := hbx.lt
      clear hr hs hbx hbel
      go_wp2_with (first
        | (refine wpList_load_mid rfl 59 _ rfl b (off + k * 3) rfl (microC s) _ HR.out.1 Try.underlying59 rfl (by kernel_rfl) ?_)
        | (go_at_call 31; refine (toMicro_any s _).mono ?_; rintro e w2 ⟨rfl, hb2⟩; refine Hid.out ?_))
      have H2 := Lib.hid (And.intro (HR.out.2.2.1.below hb2) (below_then HR.out.2.2.2 hb2))
      have hkn : k * 3 + 3 ≤ n * 3 := by omega
      have hsz : (microsC (L.take k) ++ List.replicate ((n - k) * 3) (Value.int .i64 0)).length = n * 3 := by
        rw [List.length_append, microsC_len, List.length_take, List.length_replicate, HL.out.1]; omega
      have HSZ := Lib.hid (show k * 3 + 3 ≤ (microsC (L.take k) ++ List.replicate ((n - k) * 3) (Value.int .i64 0)).toArray.size by rw [List.size_toArray, hsz]; exact hkn)
      clear hb2 hkn hsz
      refine Lib.hid ?_
      go_wp2_with ((refine wpList_store_part rfl 43 _ _ rfl w.heap.size (k * 3) _ _ H2.out.1 #[.int .i64 s.c, .int .i64 s.a, .int .i64 s.v] rfl rfl HSZ.out (by kernel_rfl) (by simp [Value.oneCell']) ?_); intro w3 hx3 hg3; refine Hid.out ?_)
      have H3 := Lib.hid (show Box w.heap.size (microsC (L.take (k + 1)) ++ List.replicate ((n - (k + 1)) * 3) (Value.int .i64 0)).toArray 43 w3 by rw [← copy_next microC_len _ HL.out.1 hlt HR.out.2.1]; exact hx3)
      have HB3 := Lib.hid (H2.out.2.grown hg3 H2.out.2.size (fun j hj => by cases hj; exact Nat.le_refl _))
      clear hx3 hg3
      refine Lib.hid ?_
      go_wp2
      go_roundw
      case rel => exact ⟨k + 1, by omega, by go_num, H3.out, HB3.out⟩
      case measure => simp [intOf]; omega
    · obtain rfl : k = n := by omega
      have hI : ¬ (k : Int) < k := by omega
      rw [List.take_of_length_le (by rw [HL.out.1]; exact Nat.le_refl _), Nat.sub_self, Nat.zero_mul, List.replicate_zero, List.append_nil] at hbx
      have HB := Lib.hid (And.intro hbx hbel)
      clear hbx hbel
      go_wp2
      go_ret
      exact ⟨rfl, HB.out.1, HB.out.2⟩
/-- A copy of the row in a new block. -/
def MadeMicrosNew (w : World) (n : Nat) (L : List Mic) (e : Ending) (w' : World) : Prop :=
  ∃ g, e = .returned (.slice (some ⟨g, 0, none⟩) n n) ∧ w.heap.size ≤ g ∧ Box g (microsC L).toArray 43 w' ∧ Below w.heap.size w w'
theorem toMicros_new (w : World) (a : Option Addr) (n cap : Nat) (L : List Mic) (hn : (n : Int) ≤ 1048576) (h : MicroRow w a n L) : Calls Try.prog 21 #[.slice a n cap] w (MadeMicrosNew w n L) :=
  (toMicros_any w a n cap L hn h).mono fun _ _ ⟨h1, h2, h3⟩ => ⟨_, h1, Nat.le_refl _, h2, h3⟩
theorem szMicros_any (a : Option Addr) (n cap : Nat) (x : Int) (hn : (n : Int) ≤ 9223372036854775807) (hx : 0 ≤ x) (hx2 : x ≤ 1000000000000) (w : World) :
    Calls Try.prog 19 #[.slice a n cap, .int .i64 x] w (Ret w (if x - n < 0 then -1 else x - n)) := by
  by_cases h : x - n < 0
  · rw [if_pos h]
    go_enter Try.func19, Try.ntmps19
    go_wp2
    go_ret
    exact ⟨rfl, rfl⟩
  · rw [if_neg h]
    go_enter Try.func19, Try.ntmps19
    go_wp2
    go_ret
    exact ⟨rfl, rfl⟩
theorem held3o {w w' : World} {g o : Nat} {x0 x1 x2 : Value} (hb : Below w.heap.size w w') (hg : g < w.heap.size)
    (h : w.cell? ⟨g, o, none⟩ = some (x0) ∧ w.cell? ⟨g, o + 1, none⟩ = some (x1) ∧ w.cell? ⟨g, o + 2, none⟩ = some (x2)) :
    w'.cell? ⟨g, o, none⟩ = some (x0) ∧ w'.cell? ⟨g, o + 1, none⟩ = some (x1) ∧ w'.cell? ⟨g, o + 2, none⟩ = some (x2) :=
  ⟨(hb.cell (p := ⟨g, o, none⟩) hg).trans h.1, (hb.cell (p := ⟨g, o + 1, none⟩) hg).trans h.2.1, (hb.cell (p := ⟨g, o + 2, none⟩) hg).trans h.2.2⟩
/-- The cells of one that lies in a row. -/
theorem range3 {w : World} {g o : Nat} {s : Mic} (h : w.rangeAt g o (microC s)) : w.cell? ⟨g, o, none⟩ = some (.int .i64 s.c) ∧ w.cell? ⟨g, o + 1, none⟩ = some (.int .i64 s.a) ∧ w.cell? ⟨g, o + 2, none⟩ = some (.int .i64 s.v) :=
  ⟨h 0 _ rfl, h 1 _ rfl, h 2 _ rfl⟩
set_option maxHeartbeats 2000000 in
set_option maxRecDepth 100000 in
theorem eqMicros_any (w : World) (a a' : Option Addr) (n cap cap' : Nat) (L : List Mic) (hn : (n : Int) ≤ 1048576) (h1 : MicroRow w a n L) (h2 : MicroRow w a' n L) :
    Calls Try.prog 23 #[.slice a n cap, .slice a' n cap'] w (BelB w true) := by
  have HC : Hid (∀ wr : World, Below w.heap.size w wr → ∀ k, k < n → ∃ (g o g' o' : Nat) (s : Mic), a = some ⟨g, o, none⟩ ∧ a' = some ⟨g', o', none⟩ ∧ wr.rangeAt g (o + k * 3) (microC s) ∧ wr.rangeAt g' (o' + k * 3) (microC s)) := by
    intro wr hb k hk
    obtain ⟨g, o, X, e1, _, x1, c1⟩ := (h1.below hb).2 k hk
    obtain ⟨g', o', X', e2, _, x2, c2⟩ := (h2.below hb).2 k hk
    obtain rfl : X = X' := by rw [x1] at x2; exact Option.some.inj x2
    exact ⟨g, o, g', o', X, e1, e2, c1, c2⟩
  clear h1 h2
  go_enter Try.func23, Try.ntmps23
  go_wp2
  go_loopw [5] (fun i wr => ∃ k : Nat, k ≤ n ∧ i = .int .i64 k ∧ Below w.heap.size w wr) (fun i _ => n - (intOf i).toNat)
  case atStart => exact ⟨0, Nat.zero_le _, rfl, Below.refl _ _⟩
  case round =>
    obtain ⟨k, hk, rfl, hbel⟩ := hrel
    by_cases hlt : k < n
    · obtain ⟨g, o, g', o', s, rfl, rfl, c1, c2⟩ := HC.out wr hbel k hlt
      have hI : (k : Int) < n := by omega
      have HB := Lib.hid hbel
      have hgl := range_lt c1 (show 0 < 3 by decide)
      have hgl' := range_lt c2 (show 0 < 3 by decide)
      have r0 : wr.drew.cell? ⟨g, o + k * 3, none⟩ = some (.int .i64 s.c) ∧ wr.drew.cell? ⟨g, o + k * 3 + 1, none⟩ = some (.int .i64 s.a) ∧ wr.drew.cell? ⟨g, o + k * 3 + 2, none⟩ = some (.int .i64 s.v) := range3 c1
      have t0 : wr.drew.cell? ⟨g', o' + k * 3, none⟩ = some (.int .i64 s.c) ∧ wr.drew.cell? ⟨g', o' + k * 3 + 1, none⟩ = some (.int .i64 s.a) ∧ wr.drew.cell? ⟨g', o' + k * 3 + 2, none⟩ = some (.int .i64 s.v) := range3 c2
      clear c1 c2 hbel
      go_wp2
      go_region_held3 (fun w' => (w'.cell? ⟨g, o + k * 3, none⟩ = some (.int .i64 s.c) ∧ w'.cell? ⟨g, o + k * 3 + 1, none⟩ = some (.int .i64 s.a) ∧ w'.cell? ⟨g, o + k * 3 + 2, none⟩ = some (.int .i64 s.v)) ∧ (w'.cell? ⟨g', o' + k * 3, none⟩ = some (.int .i64 s.c) ∧ w'.cell? ⟨g', o' + k * 3 + 1, none⟩ = some (.int .i64 s.a) ∧ w'.cell? ⟨g', o' + k * 3 + 2, none⟩ = some (.int .i64 s.v)))
        (first | (exact ⟨r0, t0⟩) | (exact ⟨held3o (drew_below hb2) hgl r0, held3o (drew_below hb2) hgl' t0⟩))
        (first
          | (go_at_call 32; refine (eqMicro_same s _).mono ?_; rintro e w2 ⟨rfl, hb2⟩))
      have hb3 := Lib.hid (HB.out.trans ((drew_below hb2).mono HB.out.size))
      clear hb2 r0 t0
      go_wp2
      go_roundw
      case rel => exact ⟨k + 1, by omega, by go_num, hb3.out⟩
      case measure => simp [intOf]; omega
    · have hI : ¬ (k : Int) < n := by omega
      have HB := Lib.hid hbel
      clear hbel
      go_wp2
      go_ret
      exact ⟨rfl, HB.out⟩
theorem nums_next {cs : Array Value} {k K : Int} {q : Nat} (h : Nums cs k (q * 3)) (hs : q * 3 + 3 ≤ cs.size) (hK : K = k + 3 * q) :
    Nums (setAll cs (q * 3) [.int .i64 K, .int .i64 (K + 1), .int .i64 (K + 1 + 1)]) k ((q + 1) * 3) := by
  intro j hj
  by_cases hlt : j < q * 3
  · rw [setAll_out _ _ _ _ (by left; exact hlt)]; exact h j hlt
  · obtain ⟨i, rfl⟩ : ∃ i, j = q * 3 + i := ⟨j - q * 3, by omega⟩
    rw [setAll_in _ _ _ i (by simp; omega) (by simp; omega)]
    have hi : i < 3 := by omega
    have : i = 0 ∨ i = 1 ∨ i = 2 := by omega
    rcases this with rfl | rfl | rfl <;> simp <;> omega
/-- What the marks leave. -/
def MarkMicros (w : World) (g n : Nat) (t : TypeId) (z : Nat) (k : Int) (e : Ending) (w' : World) : Prop :=
  e = .returned (.int .i64 (k + 3 * n)) ∧ w.grownBy w' (some g) ∧ ∃ cs', Box g cs' t w' ∧ cs'.size = z ∧ Nums cs' k (n * 3)
set_option maxHeartbeats 4000000 in
set_option maxRecDepth 100000 in
theorem markMicros_any (w : World) (g n cap : Nat) (cs : Array Value) (t : TypeId) (hb : Box g cs t w) (hs : n * 3 ≤ cs.size) (k : Int) (hk0 : 0 ≤ k) (hk1 : k ≤ 1000000000) (hn : n ≤ 1048576) :
    Calls Try.prog 26 #[.slice (some ⟨g, 0, none⟩) n cap, .int .i64 k] w (MarkMicros w g n t cs.size k) := by
  have HB := Lib.hid hb
  clear hb
  go_enter Try.func26, Try.ntmps26
  go_wp2
  go_loopw [1, 5] (fun kk i wr => ∃ (q : Nat) (K : Int) (cs' : Array Value), q ≤ n ∧ i = .int .i64 q ∧ kk = .int .i64 K ∧ K = k + 3 * q ∧ Hid (w.grownBy wr (some g) ∧ Box g cs' t wr ∧ cs'.size = cs.size ∧ Nums cs' k (q * 3))) (fun _ i _ => n - (intOf i).toNat)
  case atStart => exact ⟨0, k, cs, Nat.zero_le _, rfl, rfl, by simp, grown_refl _ _, HB.out, rfl, fun j h => absurd h (by omega)⟩
  case round =>
    obtain ⟨q, K, cs', hm, rfl, rfl, hK, HI⟩ := hrel
    by_cases hlt : q < n
    · have hI : (q : Int) < n := by omega
      have hsz : q * 3 + 3 ≤ cs'.size := by have := HI.out.2.2.1; omega
      have HSZ := Lib.hid hsz
      have cell : ∀ i, i < 3 → ∃ x, wr.cell? ⟨g, q * 3 + i, none⟩ = some x := fun i hi => ⟨cs'[q * 3 + i]'(by omega), by rw [HI.out.2.1.cell]; simp⟩
      obtain ⟨x0, c0⟩ := cell 0 (by omega)
      obtain ⟨x1, c1⟩ := cell 1 (by omega)
      obtain ⟨x2, c2⟩ := cell 2 (by omega)
      have f0 : wr.frozen? ⟨g, q * 3, none⟩ = false := HI.out.2.1.frozen _
      have f1 : wr.frozen? ⟨g, q * 3 + 1, none⟩ = false := HI.out.2.1.frozen _
      have f2 : wr.frozen? ⟨g, q * 3 + 2, none⟩ = false := HI.out.2.1.frozen _
      rw [Nat.add_zero] at c0
      have HK := Lib.hid hK
      have hK0 : 0 ≤ K := by omega
      have hK1 : K ≤ 1100000000 := by omega
      clear cell hsz hK
      go_wp2
      go_roundw
      case rel => exact ⟨q + 1, _, setAll cs' (q * 3) [.int .i64 K, .int .i64 (K + 1), .int .i64 (K + 1 + 1)], by omega, by go_num, rfl, by have := HK.out; omega,
        (grown_trans (grown_trans (grown_trans HI.out.1 (grown_setCell _ g _ _)) (grown_setCell _ g _ _)) (grown_setCell _ g _ _)),
        (((HI.out.2.1.set (q * 3) _).set (q * 3 + 1) _).set (q * 3 + 2) _),
        by rw [setAll_size]; exact HI.out.2.2.1, nums_next HI.out.2.2.2 HSZ.out HK.out⟩
      case measure => simp [intOf]; omega
    · obtain rfl : q = n := by omega
      have hI : ¬ (q : Int) < q := by omega
      go_wp2
      go_ret
      exact ⟨rfl, HI.out.1, _, HI.out.2.1, HI.out.2.2.1, HI.out.2.2.2⟩
end Go.Proofs.Ytcmhiadaebpgmaa.trc
namespace Go.Proofs.Ytcmhiadaebpgmaa.opn
open Go.ChangeShapes Go.WideShapes Go.ChangeAt Go.RowKit Go.Joins Go.Deep Go.Proofs.Ytcmhiadaebpgmaa.trc Go.Proofs.Ytcmhiadaebpgmaa.grow

/-- One that came in. -/
def IsMicro (_ : World) (v : Value) : Prop := ∃ s : Mic, v = microV s ∧ (Lit.int .i64 s.c).wf = true ∧ (Lit.int .i64 s.a).wf = true ∧ (Lit.int .i64 s.v).wf = true
set_option maxRecDepth 100000 in
theorem open_Micro {H : Type} {enc : TypeId × Value → H} {w w' : World} {base : Nat} {spare : Nat → Bool} {held : Bool} {r : Reach} {b0 : Nat} {v : Value} {d : DataW H} {p : List MemPlace}
    (hv : Value.okWide Try.prog w r b0 59 v) (h : DataW.Trod enc Try.prog w base spare held 59 v d p) : IsMicro w' v := by
  obtain ⟨⟨cs⟩, rfl, hsz⟩ := okWide_struct Try.underlying59 hv
  obtain ⟨fuel, hf⟩ := h
  have hC : Try.prog.cellsOf 59 = 3 := by kernel_rfl
  have hI : Try.prog.cellsOf 3 = 1 := by kernel_rfl
  rw [hC] at hsz
  match cs, hsz, hf with
  | [c0, c1, c2], _, hf =>
    obtain ⟨y0, y1, y2, m, _, _, h0, h1, h2⟩ := trod_struct3 Try.underlying59 hf
    simp [Value.cells, hI] at h0 h1 h2
    obtain ⟨z0, e0, _, w0⟩ := DataW.trod_int Try.underlying3 h0
    obtain ⟨z1, e1, _, w1⟩ := DataW.trod_int Try.underlying3 h1
    obtain ⟨z2, e2, _, w2⟩ := DataW.trod_int Try.underlying3 h2
    simp at e0 e1 e2
    subst e0 e1 e2
    exact ⟨⟨z0, z1, z2⟩, rfl, w0, w1, w2⟩
/-- A row that came in. -/
def IsMicros (w : World) (v : Value) : Prop := ∃ (a : Option Addr) (len cap : Nat) (L : List Mic), v = .slice a len cap ∧ len ≤ maxLen ∧ MicroRow w a len L ∧ ∀ s ∈ L, (Lit.int .i64 s.c).wf = true ∧ (Lit.int .i64 s.a).wf = true ∧ (Lit.int .i64 s.v).wf = true
set_option maxRecDepth 100000 in
theorem open_Micros {H : Type} {enc : TypeId × Value → H} {w : World} {base : Nat} {spare : Nat → Bool} {held : Bool} {r : Reach} {b0 : Nat} {v : Value} {d : DataW H} {p : List MemPlace}
    (hv : Value.okWide Try.prog w r b0 22 v) (h : DataW.Trod enc Try.prog w base spare held 22 v d p) : IsMicros w v := by
  obtain ⟨a, len, cap, rfl⟩ := okWide_slice Try.underlying22 hv
  obtain ⟨fuel, hf⟩ := h
  have hI : Try.prog.cellsOf 3 = 1 := by kernel_rfl
  have hS : Try.prog.cellsOf 59 = 3 := by kernel_rfl
  rcases open_slice Try.underlying22 hf with ⟨hcs, _⟩ | ⟨x, l, c, m, n, D, Pl, hcs, _, hl, hm, hmm, _, hx⟩
  · simp [Value.cells] at hcs
    obtain ⟨rfl, rfl, rfl⟩ := hcs
    exact ⟨none, 0, 0, [], rfl, Nat.zero_le _, GRow.nil _ _ _ _, by simp⟩
  · simp [Value.cells] at hcs
    obtain ⟨rfl, rfl, rfl⟩ := hcs
    have hlm : len ≤ m := by rw [hmm]; split <;> omega
    have each : ∀ i, i < len → ∃ s : Mic, (∀ j t, (microC s)[j]? = some t → w.cell? (x.add (i * 3 + j)) = some t) ∧ (Lit.int .i64 s.c).wf = true ∧ (Lit.int .i64 s.a).wf = true ∧ (Lit.int .i64 s.v).wf = true := by
      intro i hi
      obtain ⟨cs, h1, h2⟩ := hx i (by omega)
      rw [hS] at h1
      obtain ⟨_, hlen, hcell⟩ := World.cells?_some h1
      match cs, hlen, h2, hcell with
      | [c0, c1, c2], _, h2, hcell =>
        obtain ⟨y0, y1, y2, m2, _, _, g0, g1, g2⟩ := trod_struct3 Try.underlying59 h2
        simp [hI] at g0 g1 g2
        obtain ⟨z0, e0, _, w0⟩ := DataW.trod_int Try.underlying3 g0
        obtain ⟨z1, e1, _, w1⟩ := DataW.trod_int Try.underlying3 g1
        obtain ⟨z2, e2, _, w2⟩ := DataW.trod_int Try.underlying3 g2
        simp at e0 e1 e2
        subst e0 e1 e2
        refine ⟨⟨z0, z1, z2⟩, fun j t ht => ?_, w0, w1, w2⟩
        have hj : j < 3 := by have := (List.getElem?_eq_some_iff.1 ht).1; simpa [microC] using this
        have := hcell j hj
        rw [add_add] at this
        rw [this]; exact ht
    obtain ⟨L, hL, hLs⟩ := list_of len each
    refine ⟨some x, len, cap, L, rfl, by omega, ⟨hL, fun k hk => ?_⟩, fun s hs => ?_⟩
    · have hkL : k < L.length := by omega
      have h0L : 0 < L.length := by omega
      have hs : L[k]? = some L[k] := by simp [hkL]
      have hc := (hLs k _ hs).1
      have hc00 := (hLs 0 L[0] (by simp)).1 0 _ rfl
      obtain ⟨b, off, spot⟩ := x
      have hspot : spot = none := by simpa [Addr.add] using World.cell?_spot hc00
      subst hspot
      refine ⟨b, off, L[k], rfl, ?_, hs, fun j t ht => ?_⟩
      · have h0 := hc 0 _ rfl
        rw [Go.WideShapes.add_plain] at h0
        exact World.block_lt_of_cell? w _ h0
      · have h0 := hc j t ht
        rw [Go.WideShapes.add_plain, ← Nat.add_assoc] at h0
        exact h0
    · obtain ⟨i, hi, rfl⟩ := List.mem_iff_getElem.1 hs
      exact (hLs i L[i] (by simp [hi])).2
end Go.Proofs.Ytcmhiadaebpgmaa.opn
