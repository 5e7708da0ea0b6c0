/- Several texts in one: TrcL ExeK TrcK. -/
import Derived.Test.YtlicadaecfgklaaGreatDoorGSig20
import Derived.Test.YtlicadaecfgklaaGreatDoorGSig42
import Derived.Test.YtlicadaecfgklaaGreatDoorGSig3
import Derived.Test.YtlicadaecfgklaaGreatDoorGSig6
import Derived.Test.YtlicadaecfgklaaGreatDoorGSig40
import Derived.BigQuiet

/- The law's own size, copy, comparison and marks of a trace. -/
namespace Go.Proofs.YtlicadaecfgklaaGreatDoor.trc
open Go Go.ChangeShapes Go.WideShapes Go.ChangeAt Go.RowKit Go.Proofs.YtlicadaecfgklaaGreatDoor.row Go.Proofs.YtlicadaecfgklaaGreatDoor.val Go.Proofs.YtlicadaecfgklaaGreatDoor.expr Go.Proofs.YtlicadaecfgklaaGreatDoor.grow Go.Proofs.YtlicadaecfgklaaGreatDoor.srow
theorem ne_ownL {v : Value} {a b g : Nat} (h : ∀ q, v.ownBlock = some q → a ≤ q ∧ q < b) (hg : g < a ∨ b ≤ g) : v.ownBlock = none ∨ v.ownBlock ≠ some g := by
  cases hq : v.ownBlock with
  | none => exact .inl rfl
  | some q => right; intro e; have := h q hq; have := Option.some.inj e; omega
/-- A trace of the law's own: its rows are new. -/
def MadeTr (w : World) (n1 n2 : Nat) (M : List Mic) (U : List Int) (e : Ending) (w' : World) : Prop :=
  ∃ g1 g2, e = .returned (trV (some ⟨g1, 0, none⟩) n1 n1 (some ⟨g2, 0, none⟩) n2 n2) ∧ (w.heap.size ≤ g1 ∧ w.heap.size ≤ g2 ∧ g1 ≠ g2) ∧ Box g1 (microsC M).toArray 76 w' ∧ w'.ownsRow w.heap.size 3 1 (.slice (some ⟨g2, 0, none⟩) n2 n2) n2 (ivs U) ∧ Below w.heap.size w w'
set_option maxHeartbeats 4000000 in
theorem eqtrace_any (w : World) (M : List Mic) (U : List Int) (a1 : Option Addr) (n1 c1 : Nat) (a2 : Option Addr) (n2 c2 : Nat) (b1 : Option Addr) (d1 : Nat) (b2 : Option Addr) (d2 : Nat)
    (r : TrRow w a1 n1 a2 n2 M U) (s : TrRow w b1 n1 b2 n2 M U) :
    Calls Tryz.prog 32 #[trV a1 n1 c1 a2 n2 c2, trV b1 n1 d1 b2 n2 d2] w (BelB w true) := by
  obtain ⟨W, hW⟩ : ∃ W, (w.alloc (.cells #[.slice a1 n1 c1, .slice a2 n2 c2] 33)).alloc (.cells #[.slice b1 n1 d1, .slice b2 n2 d2] 33) = W := ⟨_, rfl⟩
  have hBW : Below w.heap.size w W := by rw [← hW]; exact below_then (below_new w _) (below_new _ _)
  have hx : Box w.heap.size #[.slice a1 n1 c1, .slice a2 n2 c2] 33 W := by rw [← hW]; exact (Box.new w _ _).alloc _
  have hy : Box (w.heap.size + 1) #[.slice b1 n1 d1, .slice b2 n2 d2] 33 W := by
    have h9 := Box.new (w.alloc (.cells #[.slice a1 n1 c1, .slice a2 n2 c2] 33)) #[.slice b1 n1 d1, .slice b2 n2 d2] 33
    rw [World.size_alloc] at h9
    rw [← hW]; exact h9
  have hn1 := r.2.2.1
  have hn2 := r.2.2.2
  have H0 := Lib.hid (And.intro hBW (And.intro (r.below hBW) (s.below hBW)))
  have HE1 := Lib.hid (eqMicros_any W a1 b1 n1 c1 d1 M hn1 (r.below hBW).1 (s.below hBW).1)
  have HU := Lib.hid (And.intro r.2.1 s.2.1)
  have x0 : W.cell? ⟨w.heap.size, 0, none⟩ = some (.slice a1 n1 c1) := hx.cell 0
  have y0 : W.cell? ⟨w.heap.size + 1, 0, none⟩ = some (.slice b1 n1 d1) := hy.cell 0
  have HX := Lib.hid (And.intro hx hy)
  clear hBW r s hx hy
  go_enter Tryz.func32, Tryz.ntmps32
  go_wp2_with (go_at_call 82; (with_reducible refine HE1.out.mono ?_); rintro e w2 ⟨rfl, hb2⟩; refine Hid.out ?_)
  have hX2 := HX.out.1.below hb2
  have hY2 := HX.out.2.below hb2
  have H2 := Lib.hid (And.intro (below_then H0.out.1 hb2) (And.intro (HU.out.1.below (below_then H0.out.1 hb2)) (HU.out.2.below (below_then H0.out.1 hb2))))
  have x1 : w2.cell? ⟨w.heap.size, 1, none⟩ = some (.slice a2 n2 c2) := hX2.cell 1
  have y1 : w2.cell? ⟨w.heap.size + 1, 1, none⟩ = some (.slice b2 n2 d2) := hY2.cell 1
  clear hb2 x0 y0 hX2 hY2
  refine Lib.hid ?_
  go_wp2_with (go_at_call 34; (with_reducible refine (eqInts_any _ a2 b2 n2 c2 d2 U hn2 H2.out.2.1 H2.out.2.2).mono ?_); rintro e w3 ⟨rfl, hg3⟩; refine Hid.out ?_)
  have hb3 : Below w2.heap.size w2 w3 := (Below.refl _ w2).grown hg3 (Nat.le_refl _) (fun k hk => by cases hk)
  have HB3 := Lib.hid (below_then H2.out.1 hb3)
  clear hg3 hb3 x1 y1
  refine Lib.hid ?_
  go_wp2
  go_ret
  exact ⟨rfl, HB3.out⟩
/-- What the marks leave: only the two rows are written. -/
def MarkTr (w : World) (g1 g2 : Nat) (k : Int) (n1 n2 : Nat) (e : Ending) (w' : World) : Prop :=
  e = .returned (.int .i64 (k + 3 * n1 + n2)) ∧ w'.os = w.os ∧ w'.tape = w.tape ∧ w'.output = w.output ∧ w.heap.size ≤ w'.heap.size ∧ ∀ b, b < w.heap.size → b ≠ g1 → b ≠ g2 → w'.heap[b]? = w.heap[b]?
set_option maxHeartbeats 4000000 in
theorem marktrace_any (w : World) (g1 n1 c1 g2 n2 c2 : Nat) (M : List Mic) (U : List Int) (B : Nat) (hx : Box g1 (microsC M).toArray 76 w) (hlM : M.length = n1) (ho : w.ownsRow B 3 1 (.slice (some ⟨g2, 0, none⟩) n2 c2) n2 (ivs U)) (hn1 : (n1 : Int) ≤ 1048576) (hn2 : (n2 : Int) ≤ 1048576) (h12 : g1 ≠ g2) :
    Calls Tryz.prog 37 #[trV (some ⟨g1, 0, none⟩) n1 c1 (some ⟨g2, 0, none⟩) n2 c2, .int .i64 1] w (MarkTr w g1 g2 1 n1 n2) := by
  obtain ⟨W, hW⟩ : ∃ W, w.alloc (.cells #[.slice (some ⟨g1, 0, none⟩) n1 c1, .slice (some ⟨g2, 0, none⟩) n2 c2] 33) = W := ⟨_, rfl⟩
  have hBW : Below w.heap.size w W := by rw [← hW]; exact below_new w _
  have hxp : Box w.heap.size #[.slice (some ⟨g1, 0, none⟩) n1 c1, .slice (some ⟨g2, 0, none⟩) n2 c2] 33 W := by rw [← hW]; exact Box.new w _ _
  have hg1l := hx.lt
  have hg2l : g2 < w.heap.size := (ho.lt g2 rfl).2
  have H0 := Lib.hid (And.intro hBW (And.intro hxp (And.intro (hx.below hBW) (ho.kept (grown_below hBW none) (.inr (by simp [Value.ownBlock]))))))
  have x0 : W.cell? ⟨w.heap.size, 0, none⟩ = some (.slice (some ⟨g1, 0, none⟩) n1 c1) := hxp.cell 0
  have hsz : n1 * 3 ≤ (microsC M).toArray.size := by rw [List.size_toArray, microsC_len, hlM]; exact Nat.le_refl _
  have hn1' : n1 ≤ 1048576 := by omega
  clear hBW hxp hx ho
  go_enter Tryz.func37, Tryz.ntmps37
  go_wp2_with (go_at_call 85; (refine (markMicros_any _ g1 n1 c1 _ _ H0.out.2.2.1 hsz 1 (by decide) (by decide) hn1').mono ?_); rintro e w2 ⟨rfl, hg2, cs', hx2, _, _⟩; refine Hid.out ?_)
  have H2 := Lib.hid (And.intro hg2 (And.intro (H0.out.2.1.grown hg2 (fun e => by have := Option.some.inj e; omega)) (H0.out.2.2.2.kept hg2 (.inr (by simp [Value.ownBlock]; omega)))))
  have x1 : w2.cell? ⟨w.heap.size, 1, none⟩ = some (.slice (some ⟨g2, 0, none⟩) n2 c2) := H2.out.2.1.cell 1
  obtain ⟨q, hq⟩ : ∃ q : Nat, (q : Int) = 1 + 3 * n1 := ⟨(1 + 3 * (n1 : Int)).toNat, by omega⟩
  rw [← hq]
  have HQ := Lib.hid hq
  have hq9 : (q : Int) ≤ 1073741824 := by omega
  clear hg2 hx2 x0 hq
  refine Lib.hid ?_
  go_wp2_with (go_at_call 36; (refine (markInts_any _ _ _ _ _ q _ hn2 hq9 H2.out.2.2).mono ?_); rintro e w3 ⟨rfl, hg3, L2, ho2, hM2⟩; refine Hid.out ?_)
  have H3 := Lib.hid hg3
  clear hg3 ho2 hM2 x1
  refine Lib.hid ?_
  go_wp2
  go_ret
  refine ⟨congrArg (fun x => Ending.returned (Value.int .i64 x)) (show ((q : Int) + (n2 : Int)) = 1 + 3 * (n1 : Int) + n2 by have := HQ.out; omega), ?_⟩
  refine ⟨H3.out.os.trans (H2.out.1.os.trans H0.out.1.os), H3.out.tape.trans (H2.out.1.tape.trans H0.out.1.tape), H3.out.output.trans (H2.out.1.output.trans H0.out.1.output), Nat.le_trans H0.out.1.size (Nat.le_trans H2.out.1.size H3.out.size), fun b hb h1 h2 => ?_⟩
  have hbW : b < W.heap.size := Nat.lt_of_lt_of_le hb H0.out.1.size
  have hb2 : b < w2.heap.size := Nat.lt_of_lt_of_le hbW H2.out.1.size
  exact (H3.out.block b hb2 (fun e => by have e9 : b = g2 := Option.some.inj e; omega)).trans ((H2.out.1.block b hbW (fun e => by have e9 : b = g1 := Option.some.inj e; omega)).trans (H0.out.1.block b hb))
end Go.Proofs.YtlicadaecfgklaaGreatDoor.trc

/- The law's comparison of two effects, its marks in an effect of its own and its look at them. -/
namespace Go.Proofs.YtlicadaecfgklaaGreatDoor.exe
open Go Go.ChangeShapes Go.WideShapes Go.ChangeAt Go.RowKit Go.Proofs.YtlicadaecfgklaaGreatDoor.row Go.Proofs.YtlicadaecfgklaaGreatDoor.val Go.Proofs.YtlicadaecfgklaaGreatDoor.expr Go.Proofs.YtlicadaecfgklaaGreatDoor.mrk

theorem okn (ad : Option Addr) (n c : Nat) : (Value.slice ad n c).ownBlock = none ∨ (Value.slice ad n c).ownBlock ≠ none := by cases ad <;> simp [Value.ownBlock]
theorem bf_own {lo hi : Nat} {w wr w' : World} {r : Option Nat} (h : Below lo w wr ∧ Far hi w wr) (hs : w.heap.size ≤ wr.heap.size) (hlo : lo ≤ w.heap.size) (hg : wr.grownBy w' r) (hr : ∀ q, r = some q → lo ≤ q ∧ q < hi) : Below lo w w' ∧ Far hi w w' :=
  ⟨h.1.grown hg (Nat.le_trans hlo hs) (fun q hq => (hr q hq).1), fun b hb hbw => (hg.block b (by omega) (fun e => by have := (hr b e.symm).2; omega)).trans (h.2 b hb hbw)⟩
end Go.Proofs.YtlicadaecfgklaaGreatDoor.exe

/- The law's marks in a trace that somebody owns, and its look at them. -/
namespace Go.Proofs.YtlicadaecfgklaaGreatDoor.trc
open Go Go.ChangeShapes Go.WideShapes Go.ChangeAt Go.RowKit Go.Proofs.YtlicadaecfgklaaGreatDoor.row Go.Proofs.YtlicadaecfgklaaGreatDoor.val Go.Proofs.YtlicadaecfgklaaGreatDoor.expr Go.Proofs.YtlicadaecfgklaaGreatDoor.mrk Go.Proofs.YtlicadaecfgklaaGreatDoor.exe Go.Proofs.YtlicadaecfgklaaGreatDoor.grow
/-- These cells count up. -/
def MarkedC (xs : List Value) (k : Int) (m : Nat) : Prop := ∀ j : Nat, j < m → xs[j]? = some (.int .i64 (k + j))
/-- A row of steps that somebody owns reads as the list. -/
theorem mrow_own {w : World} {B : Nat} {a : Option Addr} {n c : Nat} {M : List Mic} (h : w.ownsRow B 76 3 (.slice a n c) n (microsC M)) : MicroRow w a n M := by
  have hl : M.length = n := by have h1 := h.1; rw [microsC_len] at h1; omega
  refine ⟨hl, fun k hk => ?_⟩
  obtain ⟨g, c', e, _, hlt⟩ := h.form (by omega)
  cases e
  refine ⟨g, 0, M[k]'(by omega), rfl, hlt, by simp [show k < M.length by omega], fun j v hv => ?_⟩
  have hj : j < 3 := by have := (List.getElem?_eq_some_iff.1 hv).1; rw [microC_len] at this; exact this
  have h1 := h.cells (g := g) rfl (k * 3 + j) v (by rw [gcs_at microC_len (s := M[k]'(by omega)) (by simp [show k < M.length by omega]) j hj]; exact hv)
  rw [Addr.add_mid] at h1
  rw [show 0 + k * 3 + j = 0 + (k * 3 + j) by omega]
  exact h1
theorem mlen_own {w : World} {B : Nat} {a : Option Addr} {n c : Nat} {M : List Mic} (h : w.ownsRow B 76 3 (.slice a n c) n (microsC M)) : M.length = n := (mrow_own h).1
set_option maxRecDepth 100000 in
theorem markmicros_nil (w : World) (c : Nat) (k : Int) : Calls Tryz.prog 85 #[.slice none 0 c, .int .i64 k] w fun e w' => e = .returned (.int .i64 k) ∧ w' = w := by
  go_enter Tryz.func85, Tryz.ntmps85
  go_wp2
  go_loop [1, 5] (fun kk i => kk = .int .i64 k ∧ i = .int .i64 0) (fun _ i => 0)
  case atStart => exact ⟨rfl, rfl⟩
  case round =>
    obtain ⟨rfl, rfl⟩ := hrel
    go_wp2
    go_ret
    exact ⟨rfl, rfl⟩
theorem markmicros_own (w : World) (B : Nat) (a : Option Addr) (n c : Nat) (xs : List Value) (ho : w.ownsRow B 76 3 (.slice a n c) n xs) (hn : (n : Int) ≤ 1048576) (k : Int) (hk0 : 0 ≤ k) (hk1 : k ≤ 1000000000) :
    Calls Tryz.prog 85 #[.slice a n c, .int .i64 k] w fun e w' => e = .returned (.int .i64 (k + 3 * n)) ∧ w.grownBy w' (Value.slice a n c).ownBlock ∧ ∃ xs', w'.ownsRow B 76 3 (.slice a n c) n xs' ∧ MarkedC xs' k (n * 3) := by
  rcases ho.2 with ⟨e, e0⟩ | ⟨g, cap, cur, e, hb, hg, hnc, hcm, hsz, _⟩
  · cases e
    exact (markmicros_nil w 0 k).mono fun e w' ⟨h1, h2⟩ => ⟨by rw [h1]; simp, by rw [h2]; exact grown_refl w _, xs, by rw [h2]; exact ho, fun j hj => by omega⟩
  · cases e
    have hle : n * 3 ≤ c * 3 := Nat.mul_le_mul_right 3 hnc
    refine (markMicros_any w g n c cur _ hg (by rw [hsz]; exact hle) k hk0 hk1 (by omega)).mono fun e w' ⟨h1, h2, cs', h3, h5, h4⟩ => ⟨h1, h2, cs'.toList.take (n * 3), ⟨?_, .inr ⟨g, c, cs', rfl, hb, h3, hnc, hcm, by rw [h5, hsz], rfl⟩⟩, fun j hj => ?_⟩
    · rw [List.length_take, Array.length_toList, h5, hsz]; omega
    · rw [List.getElem?_take_of_lt hj, Array.getElem?_toList]; exact h4 j hj
set_option maxRecDepth 100000 in
theorem heldmicros_nil (w : World) (c : Nat) (k : Int) : Calls Tryz.prog 86 #[.slice none 0 c, .int .i64 k] w fun e w' => e = .returned (.int .i64 k) ∧ w' = w := by
  go_enter Tryz.func86, Tryz.ntmps86
  go_wp2
  go_loop [1, 5] (fun kk i => kk = .int .i64 k ∧ i = .int .i64 0) (fun _ i => 0)
  case atStart => exact ⟨rfl, rfl⟩
  case round =>
    obtain ⟨rfl, rfl⟩ := hrel
    go_wp2
    go_ret
    exact ⟨rfl, rfl⟩
theorem heldmicros_own (w : World) (B : Nat) (a : Option Addr) (n c : Nat) (xs : List Value) (ho : w.ownsRow B 76 3 (.slice a n c) n xs) (hn : (n : Int) ≤ 1048576) (k : Int) (hk0 : 0 ≤ k) (hk1 : k ≤ 1000000000) (hM : MarkedC xs k (n * 3)) :
    Calls Tryz.prog 86 #[.slice a n c, .int .i64 k] w fun e w' => e = .returned (.int .i64 (k + 3 * n)) ∧ w' = w := by
  rcases ho.2 with ⟨e, e0⟩ | ⟨g, cap, cur, e, hb, hg, hnc, hcm, hsz, hx⟩
  · cases e
    exact (heldmicros_nil w 0 k).mono fun e w' ⟨h1, h2⟩ => ⟨by rw [h1]; simp, h2⟩
  · cases e
    exact heldMicros_any w g n c cur _ hg k (fun j hj => by have h9 := hM j hj; rw [← hx, List.getElem?_take_of_lt hj, Array.getElem?_toList] at h9; exact h9) hk0 hk1 (by omega)
theorem oknT (a : Option Addr) (n c : Nat) : (Value.slice a n c).ownBlock = none ∨ (Value.slice a n c).ownBlock ≠ none := by cases a <;> simp [Value.ownBlock]
/-- What the marks leave. -/
def MarkT (B lo hi : Nat) (w : World) (a1 : Option Addr) (n1 c1 : Nat) (a2 : Option Addr) (n2 c2 : Nat) (e : Ending) (w' : World) : Prop :=
  e = .returned (.int .i64 ((1 + 3 * n1 + n2 : Nat) : Int)) ∧ (Below lo w w' ∧ Far hi w w') ∧ w.heap.size ≤ w'.heap.size ∧ ∃ (xs : List Value) (L2 : List Int), Hid (w'.ownsRow B 76 3 (.slice a1 n1 c1) n1 xs ∧ w'.ownsRow B 3 1 (.slice a2 n2 c2) n2 (ivs L2) ∧ MarkedC xs 1 (n1 * 3) ∧ Marked L2 (1 + 3 * n1) n2)
set_option maxHeartbeats 4000000 in
theorem marktr_any (B lo hi : Nat) (w : World) (a1 : Option Addr) (n1 c1 : Nat) (a2 : Option Addr) (n2 c2 : Nat) (M : List Mic) (U : List Int) (hn1 : (n1 : Int) ≤ 1048576) (hn2 : (n2 : Int) ≤ 1048576) (hlo : lo ≤ w.heap.size) (_hhi : hi ≤ w.heap.size) (h1 : ∀ g, (Value.slice a1 n1 c1).ownBlock = some g → lo ≤ g ∧ g < hi) (h2 : ∀ g, (Value.slice a2 n2 c2).ownBlock = some g → lo ≤ g ∧ g < hi)
    (hm : TrMem B a1 n1 c1 a2 n2 c2 M U w) :
    Calls Tryz.prog 37 #[trV a1 n1 c1 a2 n2 c2, .int .i64 1] w (MarkT B lo hi w a1 n1 c1 a2 n2 c2) := by
  obtain ⟨W, hW⟩ : ∃ W, w.alloc (.cells #[.slice a1 n1 c1, .slice a2 n2 c2] 33) = W := ⟨_, rfl⟩
  have hBW : Below w.heap.size w W := by rw [← hW]; exact below_new w _
  have hx : Box w.heap.size #[.slice a1 n1 c1, .slice a2 n2 c2] 33 W := by rw [← hW]; exact Box.new w _ _
  have H0 := Lib.hid (And.intro hBW (And.intro hx (And.intro (hm.1.kept (grown_below hBW none) (oknT _ _ _)) (hm.2.1.kept (grown_below hBW none) (oknT _ _ _)))))
  have HAP := Lib.hid hm.2.2
  have H12 := Lib.hid (And.intro h1 h2)
  have x0 : W.cell? ⟨w.heap.size, 0, none⟩ = some (.slice a1 n1 c1) := hx.cell 0
  have HMM := Lib.hid (markmicros_own W B a1 n1 c1 _ H0.out.2.2.1 hn1 1 (by decide) (by decide))
  clear hBW hx hm h1 h2
  go_enter Tryz.func37, Tryz.ntmps37
  go_wp2_with (go_at_call 85; (with_reducible refine HMM.out.mono ?_); rintro e w2 ⟨rfl, hg2, xs, ho1, hM1⟩; refine Hid.out ?_)
  have hbf0 : Below lo w W ∧ Far hi w W := ⟨H0.out.1.mono hlo, fun b _ hb => H0.out.1.block b hb⟩
  have H2 := Lib.hid (And.intro (bf_own hbf0 H0.out.1.size hlo hg2 H12.out.1) (And.intro (H0.out.2.1.grown hg2 (fun e => by have := (H12.out.1 _ e.symm).2; omega)) (And.intro ho1 (And.intro (H0.out.2.2.2.kept hg2 (by
      cases hq2 : (Value.slice a2 n2 c2).ownBlock with
      | none => exact .inl rfl
      | some g =>
        right; intro e
        rcases HAP.out with h | h
        · rw [h] at e; cases e
        · exact h (by rw [hq2]; exact e.symm))) (Nat.le_trans H0.out.1.size hg2.size)))))
  have HM1 := Lib.hid hM1
  have x1 : w2.cell? ⟨w.heap.size, 1, none⟩ = some (.slice a2 n2 c2) := H2.out.2.1.cell 1
  obtain ⟨q, hq⟩ : ∃ q : Nat, 1 + 3 * (n1 : Int) = (q : Int) := ⟨1 + 3 * n1, by omega⟩
  have hqn : q = 1 + 3 * n1 := by omega
  have HMI := Lib.hid (markInts_wide w2 B a2 n2 c2 q U hn2 (by omega) H2.out.2.2.2.1)
  clear hg2 ho1 hM1 hbf0 x0
  rw [hq]
  have HQN := Lib.hid hqn
  clear hq hqn
  refine Lib.hid ?_
  go_wp2_with (go_at_call 36; (with_reducible refine HMI.out.mono ?_); rintro e w3 ⟨rfl, hg3, L2, ho2, hM2⟩; refine Hid.out ?_)
  have H3 := Lib.hid (And.intro (bf_own H2.out.1 H2.out.2.2.2.2 hlo hg3 H12.out.2) (And.intro (Nat.le_trans H2.out.2.2.2.2 hg3.size) (And.intro (H2.out.2.2.1.kept hg3 HAP.out) ho2)))
  have HM2 := Lib.hid hM2
  clear hg3 ho2 hM2 x1
  refine Lib.hid ?_
  go_wp2
  go_ret
  obtain rfl := HQN.out
  exact ⟨rfl, H3.out.1, H3.out.2.1, xs, L2, H3.out.2.2.1, H3.out.2.2.2, HM1.out, HM2.out⟩
set_option maxHeartbeats 4000000 in
theorem heldtr_any (w : World) (B : Nat) (a1 : Option Addr) (n1 c1 : Nat) (a2 : Option Addr) (n2 c2 : Nat) (xs : List Value) (L2 : List Int) (hn1 : (n1 : Int) ≤ 1048576) (hn2 : (n2 : Int) ≤ 1048576) (h1 : w.ownsRow B 76 3 (.slice a1 n1 c1) n1 xs) (h2 : Row w a2 n2 L2) (hM1 : MarkedC xs 1 (n1 * 3)) (hM2 : Marked L2 (1 + 3 * n1) n2) :
    Calls Tryz.prog 38 #[trV a1 n1 c1 a2 n2 c2, .int .i64 1] w fun e w' => e = .returned (.int .i64 ((1 + 3 * n1 + n2 : Nat) : Int)) ∧ Below w.heap.size w w' := by
  obtain ⟨W, hW⟩ : ∃ W, w.alloc (.cells #[.slice a1 n1 c1, .slice a2 n2 c2] 33) = W := ⟨_, rfl⟩
  have hBW : Below w.heap.size w W := by rw [← hW]; exact below_new w _
  have hx : Box w.heap.size #[.slice a1 n1 c1, .slice a2 n2 c2] 33 W := by rw [← hW]; exact Box.new w _ _
  have H0 := Lib.hid (And.intro hBW hx)
  have x0 : W.cell? ⟨w.heap.size, 0, none⟩ = some (.slice a1 n1 c1) := hx.cell 0
  have x1 : W.cell? ⟨w.heap.size, 1, none⟩ = some (.slice a2 n2 c2) := hx.cell 1
  obtain ⟨q, hq⟩ : ∃ q : Nat, 1 + 3 * (n1 : Int) = (q : Int) := ⟨1 + 3 * n1, by omega⟩
  have hqn : q = 1 + 3 * n1 := by omega
  have HH := Lib.hid (heldmicros_own W B a1 n1 c1 xs (h1.kept (grown_below hBW none) (oknT _ _ _)) hn1 1 (by decide) (by decide) hM1)
  have HI := Lib.hid (heldInts_any W a2 n2 c2 q L2 hn2 (by omega) (h2.below hBW) (by rw [hqn]; exact hM2))
  have k1 : ¬ (q : Int) < 0 := by omega
  have k2 : ¬ ((q + n2 : Nat) : Int) < 0 := by omega
  rw [hq] at HH
  have HQN := Lib.hid hqn
  clear hBW hx h1 h2 hM1 hM2 hq hqn
  go_enter Tryz.func38, Tryz.ntmps38
  go_wp2_with (first
    | (go_at_call 86; (with_reducible refine HH.out.mono ?_); rintro e w2 ⟨rfl, rfl⟩)
    | (go_at_call 87; (with_reducible refine HI.out.mono ?_); rintro e w3 ⟨rfl, hg3⟩; refine Hid.out ?_))
  have HB3 := Lib.hid (below_then H0.out.1 (below_grown hg3))
  clear hg3 x1
  refine Lib.hid ?_
  go_wp2
  go_ret
  obtain rfl := HQN.out
  exact ⟨rfl, HB3.out⟩
end Go.Proofs.YtlicadaecfgklaaGreatDoor.trc
