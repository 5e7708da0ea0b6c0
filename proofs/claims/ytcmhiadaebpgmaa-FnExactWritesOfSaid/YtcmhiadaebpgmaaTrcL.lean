/- The law's own size, copy, comparison and marks of a trace. -/
import Derived.Test.YtcmhiadaebpgmaaTrcV
import Derived.Test.YtcmhiadaebpgmaaSsA
import Derived.Test.YtcmhiadaebpgmaaBox
namespace Go.Proofs.Ytcmhiadaebpgmaa.trc
open Go Go.ChangeShapes Go.WideShapes Go.ChangeAt Go.RowKit Go.Proofs.Ytcmhiadaebpgmaa.row Go.Proofs.Ytcmhiadaebpgmaa.val Go.Proofs.Ytcmhiadaebpgmaa.expr Go.Proofs.Ytcmhiadaebpgmaa.grow Go.Proofs.Ytcmhiadaebpgmaa.srow
set_option maxHeartbeats 2000000 in
set_option maxRecDepth 100000 in
theorem sztrace_any (w : World) (a1 : Option Addr) (n1 c1 : Nat) (a2 : Option Addr) (n2 c2 : Nat) (hn1 : n1 ≤ maxLen) (hn2 : n2 ≤ maxLen) (q : Int) (hq0 : 0 ≤ q) (hq1 : q ≤ 1048576) :
    Calls Try.prog 6 #[.agg #[.slice a1 n1 c1, .slice a2 n2 c2], .int .i64 q] w fun e w' => ∃ r : Int, e = .returned (.int .i64 r) ∧ -1 ≤ r ∧ r ≤ 1048576 ∧ Hid (0 ≤ r → (n1 : Int) ≤ 1048576 ∧ (n2 : Int) ≤ 1048576) ∧ Below w.heap.size w w' := by
  obtain ⟨W, hW⟩ : ∃ W, w.alloc (.cells #[.slice a1 n1 c1, .slice a2 n2 c2] 25) = W := ⟨_, rfl⟩
  have hBW : Below w.heap.size w W := by rw [← hW]; exact below_new w _
  have hx : Box w.heap.size #[.slice a1 n1 c1, .slice a2 n2 c2] 25 W := by rw [← hW]; exact Box.new w _ _
  have x0 : W.cell? ⟨w.heap.size, 0, none⟩ = some (.slice a1 n1 c1) := hx.cell 0
  have x1 : W.cell? ⟨w.heap.size, 1, none⟩ = some (.slice a2 n2 c2) := hx.cell 1
  have H0 := Lib.hid (And.intro hBW hx)
  clear hBW hx
  unfold maxLen at hn1
  have HS1 := Lib.hid (szMicros_any a1 n1 c1 q (by omega) hq0 (by omega))
  by_cases h1 : q - (n1 : Int) < 0
  · rw [if_pos h1] at HS1
    go_enter Try.func6, Try.ntmps6
    go_wp2_with (go_at_call 19; (with_reducible refine (HS1.out _).mono ?_); rintro e w2 ⟨rfl, rfl⟩)
    go_ret
    exact ⟨-1, rfl, by omega, by omega, fun h => by omega, H0.out.1⟩
  · rw [if_neg h1] at HS1
    have hneg : ¬ q - (n1 : Int) < 0 := h1
    go_enter Try.func6, Try.ntmps6
    go_wp2_with (first
      | (go_at_call 19; (with_reducible refine (HS1.out _).mono ?_); rintro e w2 ⟨rfl, rfl⟩)
      | (go_at_call 20; (with_reducible refine (szints_any _ a2 n2 c2 hn2 (q - n1) (by omega) (by omega)).mono ?_); rintro e w3 ⟨r, rfl, hr2, hb3⟩; refine Hid.out ?_))
    have H3 := Lib.hid (below_then H0.out.1 hb3)
    clear hb3 x1
    rcases hr2.out with ⟨rfl, hr3⟩ | ⟨rfl, hr3⟩
    · refine Lib.hid ?_
      go_wp2
      go_ret
      exact ⟨-1, rfl, by omega, by omega, fun h => by omega, H3.out⟩
    · have hn2 : ¬ q - (n1 : Int) - n2 < 0 := by omega
      refine Lib.hid ?_
      go_wp2
      go_ret
      exact ⟨q - n1 - n2, rfl, by omega, by omega, fun _ => ⟨by omega, by omega⟩, H3.out⟩
theorem ne_ownL {v : Value} {a b g : Nat} (h : ∀ q, v.ownBlock = some q → a ≤ q ∧ q < b) (hg : g < a ∨ b ≤ g) : v.ownBlock = none ∨ v.ownBlock ≠ some g := by
  cases hq : v.ownBlock with
  | none => exact .inl rfl
  | some q => right; intro e; have := h q hq; have := Option.some.inj e; omega
/-- A trace of the law's own: its rows are new. -/
def MadeTr (w : World) (n1 n2 : Nat) (M : List Mic) (U : List Int) (e : Ending) (w' : World) : Prop :=
  ∃ g1 g2, e = .returned (trV (some ⟨g1, 0, none⟩) n1 n1 (some ⟨g2, 0, none⟩) n2 n2) ∧ (w.heap.size ≤ g1 ∧ w.heap.size ≤ g2 ∧ g1 ≠ g2) ∧ Box g1 (microsC M).toArray 43 w' ∧ w'.ownsRow w.heap.size 3 1 (.slice (some ⟨g2, 0, none⟩) n2 n2) n2 (ivs U) ∧ Below w.heap.size w w'
set_option maxHeartbeats 4000000 in
set_option maxRecDepth 100000 in
theorem totrace_new (w : World) (a1 : Option Addr) (n1 c1 : Nat) (a2 : Option Addr) (n2 c2 : Nat) (M : List Mic) (U : List Int) (h : TrRow w a1 n1 a2 n2 M U) :
    Calls Try.prog 8 #[.agg #[.slice a1 n1 c1, .slice a2 n2 c2]] w (MadeTr w n1 n2 M U) := by
  obtain ⟨W, hW⟩ : ∃ W, ((w.alloc (.cells #[.slice a1 n1 c1, .slice a2 n2 c2] 25)).alloc (.cells zero2T 30)).alloc (.cells zero2T 30) = W := ⟨_, rfl⟩
  have hBW : Below w.heap.size w W := by rw [← hW]; exact below_then (below_then (below_new w _) (below_new _ _)) (below_new _ _)
  have hx : Box w.heap.size #[.slice a1 n1 c1, .slice a2 n2 c2] 25 W := by rw [← hW]; exact ((Box.new w _ _).alloc _).alloc _
  have hy : Box (w.heap.size + 1) zero2T 30 W := by
    have h9 := Box.new (w.alloc (.cells #[.slice a1 n1 c1, .slice a2 n2 c2] 25)) zero2T 30
    rw [World.size_alloc] at h9
    rw [← hW]; exact h9.alloc _
  have hz : Box (w.heap.size + 1 + 1) zero2T 30 W := by
    have h9 := Box.new ((w.alloc (.cells #[.slice a1 n1 c1, .slice a2 n2 c2] 25)).alloc (.cells zero2T 30)) zero2T 30
    rw [World.size_alloc, World.size_alloc] at h9
    rw [← hW]; exact h9
  have x0 : W.cell? ⟨w.heap.size, 0, none⟩ = some (.slice a1 n1 c1) := hx.cell 0
  have H0 := Lib.hid (And.intro hBW (And.intro hx (And.intro hy (And.intro hz (h.below hBW)))))
  have HR2 := Lib.hid h
  have hn1 := h.2.2.1
  have hn2 := h.2.2.2
  have hWl : w.heap.size + 1 + 1 < W.heap.size := hz.lt
  have HTM := Lib.hid (toMicros_new W a1 n1 c1 M hn1 (h.below hBW).1)
  have HTU := Lib.hid (show ∀ w', Below w.heap.size w w' → Calls Try.prog 22 #[.slice a2 n2 c2] w' (MadeNew w' n2 U) from fun w' hb => toInts_new _ a2 n2 c2 U hn2 (h.2.1.below hb))
  clear hBW hx hy hz h
  go_enter Try.func8, Try.ntmps8
  go_wp2_with (go_at_call 21; (with_reducible refine HTM.out.mono ?_); rintro e w2 ⟨g1, rfl, hg1, ho, hb⟩; refine Hid.out ?_)
  have hz2 := H0.out.2.2.2.1.below hb
  have hg3 := grown_setCell w2 (w.heap.size + 1 + 1) 0 (.slice (some ⟨g1, 0, none⟩) n1 n1)
  have hz3 := hz2.set 0 (.slice (some ⟨g1, 0, none⟩) n1 n1)
  have c2' : w2.cell? ⟨w.heap.size + 1 + 1, 0, none⟩ = some (.slice none 0 0) := hz2.cell 0
  have f2 : w2.frozen? ⟨w.heap.size + 1 + 1, 0, none⟩ = false := hz2.frozen 0
  have ho3 := ho.grown hg3 (fun e => by have := Option.some.inj e; omega)
  have hb3 := (below_then H0.out.1 hb).grown hg3 (below_then H0.out.1 hb).size (fun q hq => by cases hq; omega)
  have hx3 := (H0.out.2.1.below hb).grown hg3 (fun e => by have := Option.some.inj e; omega)
  have hy3 := (H0.out.2.2.1.below hb).grown hg3 (fun e => by have := Option.some.inj e; omega)
  obtain ⟨w3, hw3⟩ : ∃ w3, w2.setCell ⟨w.heap.size + 1 + 1, 0, none⟩ (.slice (some ⟨g1, 0, none⟩) n1 n1) = w3 := ⟨_, rfl⟩
  rw [hw3] at hg3 hz3 ho3 hb3 hx3 hy3
  have hs3 : W.heap.size ≤ w3.heap.size := Nat.le_trans hb.size hg3.size
  have x1 : w3.cell? ⟨w.heap.size, 1, none⟩ = some (.slice a2 n2 c2) := hx3.cell 1
  have H3 := Lib.hid (And.intro hb3 (And.intro hx3 (And.intro hy3 (And.intro hz3 ho3))))
  clear hg3 hz3 ho3 hb3 hx3 hy3 hz2 ho hb x0
  refine Lib.hid ?_
  go_wp2_with (go_at_call 22; (with_reducible refine (HTU.out _ H3.out.1).mono ?_); rintro e w4 ⟨g2, rfl, ho, hb⟩; refine Hid.out ?_)
  have hz4 := H3.out.2.2.2.1.below hb
  have hg5 := grown_setCell w4 (w.heap.size + 1 + 1) 1 (.slice (some ⟨g2, 0, none⟩) n2 n2)
  have hz5 := hz4.set 1 (.slice (some ⟨g2, 0, none⟩) n2 n2)
  have c4 : w4.cell? ⟨w.heap.size + 1 + 1, 1, none⟩ = some (.slice none 0 0) := hz4.cell 1
  have f4 : w4.frozen? ⟨w.heap.size + 1 + 1, 1, none⟩ = false := hz4.frozen 1
  have ho5 := ho.kept hg5 (ne_ownL ho.lt (.inl (Nat.lt_of_lt_of_le hWl hs3)))
  have hp5 := (H3.out.2.2.2.2.below hb).grown hg5 (fun e => by have := Option.some.inj e; omega)
  have hap : g1 ≠ g2 := by have h1 := H3.out.2.2.2.2.lt; have h2 := (ho.lt g2 rfl).1; omega
  have hg2l : w.heap.size + 1 + 1 < g2 := by have h2 := (ho.lt g2 rfl).1; omega
  have hb5 := (below_then H3.out.1 hb).grown hg5 (below_then H3.out.1 hb).size (fun q hq => by cases hq; omega)
  have hy5 := (H3.out.2.2.1.below hb).grown hg5 (fun e => by have := Option.some.inj e; omega)
  obtain ⟨w6, hw6⟩ : ∃ w3, w4.setCell ⟨w.heap.size + 1 + 1, 1, none⟩ (.slice (some ⟨g2, 0, none⟩) n2 n2) = w3 := ⟨_, rfl⟩
  rw [hw6] at hg5 hz5 ho5 hp5 hb5 hy5
  have H6 := Lib.hid (And.intro hb5 (And.intro hy5 (And.intro (show Box (w.heap.size + 1 + 1) #[.slice (some ⟨g1, 0, none⟩) n1 n1, .slice (some ⟨g2, 0, none⟩) n2 n2] 30 w6 from hz5) (And.intro hp5 ho5))))
  clear hg5 hz5 ho5 hp5 hb5 hy5 hz4 ho hb x1
  refine Lib.hid ?_
  go_wp2_with (first
    | (refine wpList_load_row rfl 30 _ rfl (w.heap.size + 1 + 1) rfl _ _ _ _ H6.out.2.2.1 Try.underlying30 rfl (by kernel_rfl) ?_)
    | ((refine wpList_store_box rfl 30 _ _ rfl (w.heap.size + 1) _ _ H6.out.2.1 #[.slice (some ⟨g1, 0, none⟩) n1 n1, .slice (some ⟨g2, 0, none⟩) n2 n2] rfl rfl rfl (by kernel_rfl) (by simp [Value.oneCell']) ?_); intro w7 hx7 hg7; refine Hid.out ?_))
  have hb7 := H6.out.1.grown hg7 H6.out.1.size (fun q hq => by cases hq; omega)
  have ho7 := H6.out.2.2.2.1.grown hg7 (fun e => by have := Option.some.inj e; omega)
  have hp7 := (H6.out.2.2.2.2.kept hg7 (ne_ownL H6.out.2.2.2.2.lt (.inl (by omega)))).mono (show w.heap.size ≤ w3.heap.size by omega)
  have H7 := Lib.hid (And.intro hx7 (And.intro hb7 (And.intro ho7 hp7)))
  clear hx7 hg7 hb7 ho7 hp7
  refine Lib.hid ?_
  go_wp2
  exact bodyPost_ret (v := trV (some ⟨g1, 0, none⟩) n1 n1 (some ⟨g2, 0, none⟩) n2 n2) (results_cell_row rfl _ _ (w.heap.size + 1) _ _ _ _ rfl H7.out.1 Try.underlying30 rfl (by kernel_rfl)) rfl ⟨g1, g2, rfl, ⟨by omega, by omega, hap⟩, H7.out.2.2.1, H7.out.2.2.2, H7.out.2.1⟩
set_option maxHeartbeats 4000000 in
theorem eqtrace_any (w : World) (M : List Mic) (U : List Int) (a1 : Option Addr) (n1 c1 : Nat) (a2 : Option Addr) (n2 c2 : Nat) (b1 : Option Addr) (d1 : Nat) (b2 : Option Addr) (d2 : Nat)
    (r : TrRow w a1 n1 a2 n2 M U) (s : TrRow w b1 n1 b2 n2 M U) :
    Calls Try.prog 10 #[trV a1 n1 c1 a2 n2 c2, trV b1 n1 d1 b2 n2 d2] w (BelB w true) := by
  obtain ⟨W, hW⟩ : ∃ W, (w.alloc (.cells #[.slice a1 n1 c1, .slice a2 n2 c2] 30)).alloc (.cells #[.slice b1 n1 d1, .slice b2 n2 d2] 30) = W := ⟨_, rfl⟩
  have hBW : Below w.heap.size w W := by rw [← hW]; exact below_then (below_new w _) (below_new _ _)
  have hx : Box w.heap.size #[.slice a1 n1 c1, .slice a2 n2 c2] 30 W := by rw [← hW]; exact (Box.new w _ _).alloc _
  have hy : Box (w.heap.size + 1) #[.slice b1 n1 d1, .slice b2 n2 d2] 30 W := by
    have h9 := Box.new (w.alloc (.cells #[.slice a1 n1 c1, .slice a2 n2 c2] 30)) #[.slice b1 n1 d1, .slice b2 n2 d2] 30
    rw [World.size_alloc] at h9
    rw [← hW]; exact h9
  have hn1 := r.2.2.1
  have hn2 := r.2.2.2
  have H0 := Lib.hid (And.intro hBW (And.intro (r.below hBW) (s.below hBW)))
  have HE1 := Lib.hid (eqMicros_any W a1 b1 n1 c1 d1 M hn1 (r.below hBW).1 (s.below hBW).1)
  have HU := Lib.hid (And.intro r.2.1 s.2.1)
  have x0 : W.cell? ⟨w.heap.size, 0, none⟩ = some (.slice a1 n1 c1) := hx.cell 0
  have y0 : W.cell? ⟨w.heap.size + 1, 0, none⟩ = some (.slice b1 n1 d1) := hy.cell 0
  have HX := Lib.hid (And.intro hx hy)
  clear hBW r s hx hy
  go_enter Try.func10, Try.ntmps10
  go_wp2_with (go_at_call 23; (with_reducible refine HE1.out.mono ?_); rintro e w2 ⟨rfl, hb2⟩; refine Hid.out ?_)
  have hX2 := HX.out.1.below hb2
  have hY2 := HX.out.2.below hb2
  have H2 := Lib.hid (And.intro (below_then H0.out.1 hb2) (And.intro (HU.out.1.below (below_then H0.out.1 hb2)) (HU.out.2.below (below_then H0.out.1 hb2))))
  have x1 : w2.cell? ⟨w.heap.size, 1, none⟩ = some (.slice a2 n2 c2) := hX2.cell 1
  have y1 : w2.cell? ⟨w.heap.size + 1, 1, none⟩ = some (.slice b2 n2 d2) := hY2.cell 1
  clear hb2 x0 y0 hX2 hY2
  refine Lib.hid ?_
  go_wp2_with (go_at_call 24; (with_reducible refine (eqInts_any _ a2 b2 n2 c2 d2 U hn2 H2.out.2.1 H2.out.2.2).mono ?_); rintro e w3 ⟨rfl, hg3⟩; refine Hid.out ?_)
  have hb3 : Below w2.heap.size w2 w3 := (Below.refl _ w2).grown hg3 (Nat.le_refl _) (fun k hk => by cases hk)
  have HB3 := Lib.hid (below_then H2.out.1 hb3)
  clear hg3 hb3 x1 y1
  refine Lib.hid ?_
  go_wp2
  go_ret
  exact ⟨rfl, HB3.out⟩
/-- What the marks leave: only the two rows are written. -/
def MarkTr (w : World) (g1 g2 : Nat) (k : Int) (n1 n2 : Nat) (e : Ending) (w' : World) : Prop :=
  e = .returned (.int .i64 (k + 3 * n1 + n2)) ∧ w'.os = w.os ∧ w'.tape = w.tape ∧ w'.output = w.output ∧ w.heap.size ≤ w'.heap.size ∧ ∀ b, b < w.heap.size → b ≠ g1 → b ≠ g2 → w'.heap[b]? = w.heap[b]?
set_option maxHeartbeats 4000000 in
theorem marktrace_any (w : World) (g1 n1 c1 g2 n2 c2 : Nat) (M : List Mic) (U : List Int) (B : Nat) (hx : Box g1 (microsC M).toArray 43 w) (hlM : M.length = n1) (ho : w.ownsRow B 3 1 (.slice (some ⟨g2, 0, none⟩) n2 c2) n2 (ivs U)) (hn1 : (n1 : Int) ≤ 1048576) (hn2 : (n2 : Int) ≤ 1048576) (h12 : g1 ≠ g2) :
    Calls Try.prog 14 #[trV (some ⟨g1, 0, none⟩) n1 c1 (some ⟨g2, 0, none⟩) n2 c2, .int .i64 1] w (MarkTr w g1 g2 1 n1 n2) := by
  obtain ⟨W, hW⟩ : ∃ W, w.alloc (.cells #[.slice (some ⟨g1, 0, none⟩) n1 c1, .slice (some ⟨g2, 0, none⟩) n2 c2] 30) = W := ⟨_, rfl⟩
  have hBW : Below w.heap.size w W := by rw [← hW]; exact below_new w _
  have hxp : Box w.heap.size #[.slice (some ⟨g1, 0, none⟩) n1 c1, .slice (some ⟨g2, 0, none⟩) n2 c2] 30 W := by rw [← hW]; exact Box.new w _ _
  have hg1l := hx.lt
  have hg2l : g2 < w.heap.size := (ho.lt g2 rfl).2
  have H0 := Lib.hid (And.intro hBW (And.intro hxp (And.intro (hx.below hBW) (ho.kept (grown_below hBW none) (.inr (by simp [Value.ownBlock]))))))
  have x0 : W.cell? ⟨w.heap.size, 0, none⟩ = some (.slice (some ⟨g1, 0, none⟩) n1 c1) := hxp.cell 0
  have hsz : n1 * 3 ≤ (microsC M).toArray.size := by rw [List.size_toArray, microsC_len, hlM]; exact Nat.le_refl _
  have hn1' : n1 ≤ 1048576 := by omega
  clear hBW hxp hx ho
  go_enter Try.func14, Try.ntmps14
  go_wp2_with (go_at_call 26; (refine (markMicros_any _ g1 n1 c1 _ _ H0.out.2.2.1 hsz 1 (by decide) (by decide) hn1').mono ?_); rintro e w2 ⟨rfl, hg2, cs', hx2, _, _⟩; refine Hid.out ?_)
  have H2 := Lib.hid (And.intro hg2 (And.intro (H0.out.2.1.grown hg2 (fun e => by have := Option.some.inj e; omega)) (H0.out.2.2.2.kept hg2 (.inr (by simp [Value.ownBlock]; omega)))))
  have x1 : w2.cell? ⟨w.heap.size, 1, none⟩ = some (.slice (some ⟨g2, 0, none⟩) n2 c2) := H2.out.2.1.cell 1
  obtain ⟨q, hq⟩ : ∃ q : Nat, (q : Int) = 1 + 3 * n1 := ⟨(1 + 3 * (n1 : Int)).toNat, by omega⟩
  rw [← hq]
  have HQ := Lib.hid hq
  have hq9 : (q : Int) ≤ 1073741824 := by omega
  clear hg2 hx2 x0 hq
  refine Lib.hid ?_
  go_wp2_with (go_at_call 27; (refine (markInts_any _ _ _ _ _ q _ hn2 hq9 H2.out.2.2).mono ?_); rintro e w3 ⟨rfl, hg3, L2, ho2, hM2⟩; refine Hid.out ?_)
  have H3 := Lib.hid hg3
  clear hg3 ho2 hM2 x1
  refine Lib.hid ?_
  go_wp2
  go_ret
  refine ⟨congrArg (fun x => Ending.returned (Value.int .i64 x)) (show ((q : Int) + (n2 : Int)) = 1 + 3 * (n1 : Int) + n2 by have := HQ.out; omega), ?_⟩
  refine ⟨H3.out.os.trans (H2.out.1.os.trans H0.out.1.os), H3.out.tape.trans (H2.out.1.tape.trans H0.out.1.tape), H3.out.output.trans (H2.out.1.output.trans H0.out.1.output), Nat.le_trans H0.out.1.size (Nat.le_trans H2.out.1.size H3.out.size), fun b hb h1 h2 => ?_⟩
  have hbW : b < W.heap.size := Nat.lt_of_lt_of_le hb H0.out.1.size
  have hb2 : b < w2.heap.size := Nat.lt_of_lt_of_le hbW H2.out.1.size
  exact (H3.out.block b hb2 (fun e => by have e9 : b = g2 := Option.some.inj e; omega)).trans ((H2.out.1.block b hbW (fun e => by have e9 : b = g1 := Option.some.inj e; omega)).trans (H0.out.1.block b hb))
end Go.Proofs.Ytcmhiadaebpgmaa.trc
