/- Several texts in one: ExeK RefK RngA. -/
import Derived.Test.YtlinpefeojpjnaaGreatGHub20
import Derived.Test.YtlinpefeojpjnaaGreatGHub8
import Derived.BigQuiet
import Derived.Test.YtlinpefeojpjnaaGreatGHub17
import Derived.Test.YtlinpefeojpjnaaGreatGHub0
import Derived.Test.YtlinpefeojpjnaaGreatGHub2
import Derived.RangeFuncNested
import Derived.RangeFuncBound
import Derived.RangeFuncLeaves
import Derived.RangeFuncRecord

/- The law's comparison of two effects, its marks in an effect of its own and its look at them. -/
namespace Go.Proofs.YtlinpefeojpjnaaGreat.exe
open Go Go.ChangeShapes Go.WideShapes Go.ChangeAt Go.RowKit Go.Proofs.YtlinpefeojpjnaaGreat.row Go.Proofs.YtlinpefeojpjnaaGreat.val Go.Proofs.YtlinpefeojpjnaaGreat.expr Go.Proofs.YtlinpefeojpjnaaGreat.mrk

theorem okn (ad : Option Addr) (n c : Nat) : (Value.slice ad n c).ownBlock = none ∨ (Value.slice ad n c).ownBlock ≠ none := by cases ad <;> simp [Value.ownBlock]
theorem bf_own {lo hi : Nat} {w wr w' : World} {r : Option Nat} (h : Below lo w wr ∧ Far hi w wr) (hs : w.heap.size ≤ wr.heap.size) (hlo : lo ≤ w.heap.size) (hg : wr.grownBy w' r) (hr : ∀ q, r = some q → lo ≤ q ∧ q < hi) : Below lo w w' ∧ Far hi w w' :=
  ⟨h.1.grown hg (Nat.le_trans hlo hs) (fun q hq => (hr q hq).1), fun b hb hbw => (hg.block b (by omega) (fun e => by have := (hr b e.symm).2; omega)).trans (h.2 b hb hbw)⟩
end Go.Proofs.YtlinpefeojpjnaaGreat.exe

/- The law's comparison of two references, its marks in a reference of its own and its look at them. -/
namespace Go.Proofs.YtlinpefeojpjnaaGreat.ref
open Go Go.ChangeShapes Go.WideShapes Go.ChangeAt Go.RowKit Go.Proofs.YtlinpefeojpjnaaGreat.row Go.Proofs.YtlinpefeojpjnaaGreat.val Go.Proofs.YtlinpefeojpjnaaGreat.expr Go.Proofs.YtlinpefeojpjnaaGreat.mrk Go.Proofs.YtlinpefeojpjnaaGreat.exe

set_option maxHeartbeats 4000000 in
theorem eqref_any (w : World) (E : Rf) (a1 : Option Addr) (n1 c1 : Nat) (a2 : Option Addr) (n2 c2 : Nat) (b1 : Option Addr) (d1 : Nat) (b2 : Option Addr) (d2 : Nat) (hn1 : (n1 : Int) ≤ 1048576) (hn2 : (n2 : Int) ≤ 1048576)
    (r1 : Row w a1 n1 E.V) (r2 : Row w a2 n2 E.S) (s1 : Row w b1 n1 E.V) (s2 : Row w b2 n2 E.S) :
    Calls Tryz.prog 12 #[refV a1 n1 c1 a2 n2 c2 E, refV b1 n1 d1 b2 n2 d2 E] w (BelB w true) := by
  obtain ⟨V, S, T⟩ := E
  show Calls Tryz.prog 12 #[.agg #[.slice a1 n1 c1, .slice a2 n2 c2, .int .i64 T], .agg #[.slice b1 n1 d1, .slice b2 n2 d2, .int .i64 T]] w (BelB w true)
  obtain ⟨W, hW⟩ : ∃ W, (w.alloc (.cells #[.slice a1 n1 c1, .slice a2 n2 c2, .int .i64 T] 30)).alloc (.cells #[.slice b1 n1 d1, .slice b2 n2 d2, .int .i64 T] 30) = W := ⟨_, rfl⟩
  have hBW : Below w.heap.size w W := by rw [← hW]; exact below_then (below_new w _) (below_new _ _)
  have hx : Box w.heap.size #[.slice a1 n1 c1, .slice a2 n2 c2, .int .i64 T] 30 W := by rw [← hW]; exact (Box.new w _ _).alloc _
  have hy : Box (w.heap.size + 1) #[.slice b1 n1 d1, .slice b2 n2 d2, .int .i64 T] 30 W := by
    have h9 := Box.new (w.alloc (.cells #[.slice a1 n1 c1, .slice a2 n2 c2, .int .i64 T] 30)) #[.slice b1 n1 d1, .slice b2 n2 d2, .int .i64 T] 30
    rw [World.size_alloc] at h9
    rw [← hW]; exact h9
  have H0 := Lib.hid (And.intro hBW (And.intro (r1.below hBW) (And.intro (r2.below hBW) (And.intro (s1.below hBW) (s2.below hBW)))))
  have x0 : W.cell? ⟨w.heap.size, 0, none⟩ = some (.slice a1 n1 c1) := hx.cell 0
  have y0 : W.cell? ⟨w.heap.size + 1, 0, none⟩ = some (.slice b1 n1 d1) := hy.cell 0
  have HX := Lib.hid (And.intro hx hy)
  clear hBW r1 r2 s1 s2 hx hy
  go_enter Tryz.func12, Tryz.ntmps12
  go_wp2_with (go_at_call 14; (with_reducible refine (eqInts_any _ a1 b1 n1 c1 d1 V hn1 H0.out.2.1 H0.out.2.2.2.1).mono ?_); rintro e w2 ⟨rfl, hg2⟩; refine Hid.out ?_)
  have hb2 : Below W.heap.size W w2 := (Below.refl _ W).grown hg2 (Nat.le_refl _) (fun k hk => by cases hk)
  have hX2 := HX.out.1.below hb2
  have hY2 := HX.out.2.below hb2
  have H2 := Lib.hid (And.intro (below_then H0.out.1 hb2) (And.intro (H0.out.2.2.1.below hb2) (H0.out.2.2.2.2.below hb2)))
  have x1 : w2.cell? ⟨w.heap.size, 1, none⟩ = some (.slice a2 n2 c2) := hX2.cell 1
  have y1 : w2.cell? ⟨w.heap.size + 1, 1, none⟩ = some (.slice b2 n2 d2) := hY2.cell 1
  have HX2 := Lib.hid (And.intro hX2 hY2)
  clear hg2 hb2 x0 y0 hX2 hY2
  refine Lib.hid ?_
  go_wp2_with (go_at_call 14; (with_reducible refine (eqInts_any _ a2 b2 n2 c2 d2 S hn2 H2.out.2.1 H2.out.2.2).mono ?_); rintro e w3 ⟨rfl, hg3⟩; refine Hid.out ?_)
  have hb3 : Below w2.heap.size w2 w3 := (Below.refl _ w2).grown hg3 (Nat.le_refl _) (fun k hk => by cases hk)
  have hX3 := HX2.out.1.below hb3
  have hY3 := HX2.out.2.below hb3
  have x2 : w3.cell? ⟨w.heap.size, 2, none⟩ = some (.int .i64 T) := hX3.cell 2
  have y2 : w3.cell? ⟨w.heap.size + 1, 2, none⟩ = some (.int .i64 T) := hY3.cell 2
  have HB3 := Lib.hid (below_then H2.out.1 hb3)
  clear hg3 hb3 x1 y1 hX3 hY3
  refine Lib.hid ?_
  go_wp2
  go_ret
  exact ⟨rfl, HB3.out⟩
/-- What the marks leave. -/
def MarkR (B lo hi : Nat) (w : World) (a1 : Option Addr) (n1 c1 : Nat) (a2 : Option Addr) (n2 c2 : Nat) (q : Nat) (e : Ending) (w' : World) : Prop :=
  e = .returned (.int .i64 ((q + n1 + n2 : Nat) : Int)) ∧ (Below lo w w' ∧ Far hi w w') ∧ w.heap.size ≤ w'.heap.size ∧ ∃ L1 L2 : List Int, Hid (w'.ownsRow B 3 1 (.slice a1 n1 c1) n1 (ivs L1) ∧ w'.ownsRow B 3 1 (.slice a2 n2 c2) n2 (ivs L2) ∧ Marked L1 q n1 ∧ Marked L2 (q + n1) n2)
set_option maxHeartbeats 4000000 in
theorem markref_any (B lo hi : Nat) (w : World) (a1 : Option Addr) (n1 c1 : Nat) (a2 : Option Addr) (n2 c2 : Nat) (E : Rf) (q : Nat) (hn1 : (n1 : Int) ≤ 1048576) (hn2 : (n2 : Int) ≤ 1048576) (hq : (q : Int) ≤ 1000000000) (hlo : lo ≤ w.heap.size) (hhi : hi ≤ w.heap.size) (h1 : ∀ g, (Value.slice a1 n1 c1).ownBlock = some g → lo ≤ g ∧ g < hi) (h2 : ∀ g, (Value.slice a2 n2 c2).ownBlock = some g → lo ≤ g ∧ g < hi)
    (hm : RefMem B a1 n1 c1 a2 n2 c2 E w) :
    Calls Tryz.prog 19 #[refV a1 n1 c1 a2 n2 c2 E, .int .i64 q] w (MarkR B lo hi w a1 n1 c1 a2 n2 c2 q) := by
  obtain ⟨V, S, T⟩ := E
  show Calls Tryz.prog 19 #[.agg #[.slice a1 n1 c1, .slice a2 n2 c2, .int .i64 T], .int .i64 q] w (MarkR B lo hi w a1 n1 c1 a2 n2 c2 q)
  obtain ⟨W, hW⟩ : ∃ W, w.alloc (.cells #[.slice a1 n1 c1, .slice a2 n2 c2, .int .i64 T] 30) = W := ⟨_, rfl⟩
  have hBW : Below w.heap.size w W := by rw [← hW]; exact below_new w _
  have hx : Box w.heap.size #[.slice a1 n1 c1, .slice a2 n2 c2, .int .i64 T] 30 W := by rw [← hW]; exact Box.new w _ _
  have H0 := Lib.hid (And.intro hBW (And.intro hx (And.intro (hm.1.kept (grown_below hBW none) (okn _ _ _)) (hm.2.1.kept (grown_below hBW none) (okn _ _ _)))))
  have HAP := Lib.hid hm.2.2
  have H12 := Lib.hid (And.intro h1 h2)
  have x0 : W.cell? ⟨w.heap.size, 0, none⟩ = some (.slice a1 n1 c1) := hx.cell 0
  clear hBW hx hm h1 h2
  go_enter Tryz.func19, Tryz.ntmps19
  go_wp2_with (go_at_call 17; refine (markInts_wide _ _ _ _ _ q _ hn1 (by omega) H0.out.2.2.1).mono ?_; rintro e w2 ⟨rfl, hg2, L1, ho1, hM1⟩; refine Hid.out ?_)
  have hbf0 : Below lo w W ∧ Far hi w W := ⟨H0.out.1.mono hlo, fun b _ hb => H0.out.1.block b hb⟩
  have H2 := Lib.hid (And.intro (bf_own hbf0 H0.out.1.size hlo hg2 H12.out.1) (And.intro (H0.out.2.1.grown hg2 (fun e => by have := (H12.out.1 _ e.symm).2; omega)) (And.intro ho1 (And.intro (H0.out.2.2.2.kept hg2 (by
      cases hq2 : (Value.slice a2 n2 c2).ownBlock with
      | none => exact .inl rfl
      | some g =>
        right; intro e
        rcases HAP.out with h | h
        · rw [h] at e; cases e
        · exact h (by rw [hq2]; exact e.symm))) (Nat.le_trans H0.out.1.size hg2.size)))))
  have HM1 := Lib.hid hM1
  have x1 : w2.cell? ⟨w.heap.size, 1, none⟩ = some (.slice a2 n2 c2) := H2.out.2.1.cell 1
  clear hg2 ho1 hM1 hbf0 x0
  refine Lib.hid ?_
  go_wp2_with (go_at_call 17; refine (markInts_wide _ _ _ _ _ (q + n1) _ hn2 (by omega) H2.out.2.2.2.1).mono ?_; rintro e w3 ⟨rfl, hg3, L2, ho2, hM2⟩; refine Hid.out ?_)
  have H3 := Lib.hid (And.intro (bf_own H2.out.1 H2.out.2.2.2.2 hlo hg3 H12.out.2) (And.intro (Nat.le_trans H2.out.2.2.2.2 hg3.size) (And.intro (H2.out.2.2.1.kept hg3 HAP.out) ho2)))
  have HM2 := Lib.hid hM2
  clear hg3 ho2 hM2 x1
  refine Lib.hid ?_
  go_wp2
  go_ret
  exact ⟨rfl, H3.out.1, H3.out.2.1, L1, L2, H3.out.2.2.1, H3.out.2.2.2, HM1.out, HM2.out⟩
set_option maxHeartbeats 4000000 in
theorem heldref_any (w : World) (a1 : Option Addr) (n1 c1 : Nat) (a2 : Option Addr) (n2 c2 : Nat) (T : Int) (q : Nat) (L1 L2 : List Int) (hn1 : (n1 : Int) ≤ 1048576) (hn2 : (n2 : Int) ≤ 1048576) (hq : (q : Int) ≤ 1000000000) (h1 : Row w a1 n1 L1) (h2 : Row w a2 n2 L2) (hM1 : Marked L1 q n1) (hM2 : Marked L2 (q + n1) n2) :
    Calls Tryz.prog 20 #[.agg #[.slice a1 n1 c1, .slice a2 n2 c2, .int .i64 T], .int .i64 q] w fun e w' => e = .returned (.int .i64 ((q + n1 + n2 : Nat) : Int)) ∧ Below w.heap.size w w' := by
  obtain ⟨W, hW⟩ : ∃ W, w.alloc (.cells #[.slice a1 n1 c1, .slice a2 n2 c2, .int .i64 T] 30) = W := ⟨_, rfl⟩
  have hBW : Below w.heap.size w W := by rw [← hW]; exact below_new w _
  have hx : Box w.heap.size #[.slice a1 n1 c1, .slice a2 n2 c2, .int .i64 T] 30 W := by rw [← hW]; exact Box.new w _ _
  have H0 := Lib.hid (And.intro hBW (And.intro hx (And.intro (h1.below hBW) (h2.below hBW))))
  have HMM := Lib.hid (And.intro hM1 hM2)
  have x0 : W.cell? ⟨w.heap.size, 0, none⟩ = some (.slice a1 n1 c1) := hx.cell 0
  have k1 : ¬ ((q + n1 : Nat) : Int) < 0 := by omega
  have k2 : ¬ ((q + n1 + n2 : Nat) : Int) < 0 := by omega
  clear hBW hx h1 h2 hM1 hM2
  go_enter Tryz.func20, Tryz.ntmps20
  go_wp2_with (go_at_call 23; refine (heldInts_any _ _ _ _ q _ hn1 (by omega) H0.out.2.2.1 HMM.out.1).mono ?_; rintro e w2 ⟨rfl, hg2⟩; refine Hid.out ?_)
  have hb2 := below_grown hg2
  have H2 := Lib.hid (And.intro (below_then H0.out.1 hb2) (And.intro (H0.out.2.1.below hb2) (H0.out.2.2.2.below hb2)))
  have x1 : w2.cell? ⟨w.heap.size, 1, none⟩ = some (.slice a2 n2 c2) := H2.out.2.1.cell 1
  clear hg2 hb2 x0
  refine Lib.hid ?_
  go_wp2_with (go_at_call 23; refine (heldInts_any _ _ _ _ (q + n1) _ hn2 (by omega) H2.out.2.2 HMM.out.2).mono ?_; rintro e w3 ⟨rfl, hg3⟩; refine Hid.out ?_)
  have HB3 := Lib.hid (below_then H2.out.1 (below_grown hg3))
  clear hg3 x1
  refine Lib.hid ?_
  go_wp2
  go_ret
  exact ⟨rfl, HB3.out⟩
end Go.Proofs.YtlinpefeojpjnaaGreat.ref

/- A range over a function of the program's own whose rounds are handed memory that the iterator has just made: a walk outside a round serves within one; one law for the loop, over what holds at each call of yield and what a round keeps. -/
namespace Go.Proofs.YtlinpefeojpjnaaGreat.rng
open Go Go.RowKit Go.Proofs.YtlinpefeojpjnaaGreat.row
variable {P : Program}

/-- The fence that lets everything in, and a round within it. -/
def Wide (F : Fence) : Prop := F = Fence.wide ∨ ∃ l, F = Fence.wide.inRound l
theorem wide_wide : Wide Fence.wide := .inl rfl
theorem wide_round (l : Nat) : Wide (Fence.wide.inRound l) := .inr ⟨l, rfl⟩
theorem calls_in {F : Fence} (hF : Wide F) {n : Nat} {f : FuncId} {args : Array Value} {w : World} {R : Ending → World → Prop} (h : Calls P f args w R) : CallsIn F n P f args w R := by
  rcases hF with rfl | ⟨l, rfl⟩
  · exact callsIn_wide.2 h
  · exact CallsIn.inRound l (callsIn_wide.2 h)
/-- An operation's law outside a round serves within one. -/
theorem oper_in {F : Fence} (hF : Wide F) {n : Nat} {o : Oper} {a : Act} {w : World} {K : Act → World → Prop} {Q : Exit → Act → World → Prop} (hd : ∀ c, o.op ≠ .defer c) (v : Value) (w' : World)
    (hr : (execOp a.eval o).run P w = .ok (.value v) w' ∨ ((execOp a.eval o).run P w = .ok .skip w' ∧ v = undef)) (h : K (a.put o.dst v) w') : o.wpIn F n P a w K Q := by
  refine ⟨fun _ _ => by rcases hF with rfl | ⟨l, rfl⟩ <;> trivial, ?_⟩
  rw [Oper.semAt_eq _ _ _ hd]
  rcases hr with hr | ⟨hr, rfl⟩
  · rw [hr]; exact h
  · rw [hr]; exact h
/-- What a round that goes on leaves behind. -/
def goesOn (T : World → Prop) : Exit → Act → World → Prop
  | .normal, _, W => T W
  | _, _, _ => False

/-- A range over an iterator. 'Px': what holds when a round is called; 'Kp': what a round keeps. -/
theorem wp_range {α : Type} {g : Operand} {ps : Array Tmp} {assign body : Code} {Q : Exit → Act → World → Prop} {a : Act} {w : World} {gf : Nat} {lb : Array Value}
    (hg : a.eval g = .func (.func gf) #[] lb) (eg : ∀ args w, (callFunc gf args).run P w = .ok (.enter gf args) w)
    (encs : α → Array Value) (hps : ∀ x, (encs x).size = ps.size) (Px : List α → α → World → Prop) (Kp : World → World → Prop) (S : List α → Prop)
    (hseq : ∀ (l : Nat) (J : List α → World → Prop) (W : World), Below w.heap.size w W → (∀ pre A B, J pre A → Below A.heap.size A B → J pre B) →
      (∀ pre x W1, J pre W1 → Px pre x W1 → YieldAt Fence.wide 0 P l (encs x) W1 fun e W' => e = .returned (.bool true) ∧ J (pre ++ [x]) W' ∧ Kp W1 W') → J [] W →
      Calls P gf (#[.func (.yield l) #[] #[]] ++ lb) W fun e W' => (∃ v, e = .returned v) ∧ ∃ xs, S xs ∧ J xs W')
    (hKt : ∀ {A B C : World}, Kp A B → Kp B C → Kp A C)
    (hKb : ∀ (W : World) (l : Nat) (o o' : Obj), w.heap.size ≤ l → W.heap[l]? = some o → o.isCells = false → Kp W (W.putObj l o'))
    (I : List α → World → Prop) (hI : OwnFrom w.heap.size I) (h0 : I [] w)
    (hround : ∀ (l : Nat) (pre : List α) (x : α) (W : World), I pre W → Px pre x W →
      assign.wpIn (Fence.wide.inRound l) 0 P (Exit.then (fun a₁ W₁ => KeepsFrom w.heap.size W W₁ ∧ Kp W W₁ ∧
        ∀ W₂ o, w.heap.size ≤ l → W₁.heap[l]? = some o → o.isCells = false → W₁.grownBy W₂ (some l) →
          body.wpIn (Fence.wide.inRound l) 0 P (goesOn fun W' => KeepsFrom w.heap.size W₂ W' ∧ Kp W₂ W' ∧ I (pre ++ [x]) W') a₁ W₂) (fun _ _ _ => False))
        { tmps := (ps.zip (encs x)).foldl (fun t (p, v) => t.setIfInBounds p v) a.tmps, defers := [] } W)
    (hdone : ∀ (D : Nat) (xs : List α) (W : World), w.heap.size ≤ D → S xs → I xs W → W.heap[D]? = some (.deferred (some [])) → Q .normal { a with defers := { target := .collected D, args := #[] } :: a.defers } W) :
    (Code.rangeFunc g ps assign body).wp P Q a w := by
  refine (wpIn_wide (n := 0)).1 (wpIn_rangeFunc fun fn _ => ?_)
  rw [Fence.wide_round]
  obtain ⟨rc, hrc⟩ : ∃ rc : LoopState → Loop, rc = fun st => { state := st, pending := none, fn, tmps := a.tmps, params := ps, assign, body, defers := w.heap.size } := ⟨_, rfl⟩
  obtain ⟨B, hB⟩ : ∃ B, (w.alloc (.deferred (some []))).alloc (.loop (rc .ready)) = B := ⟨_, rfl⟩
  have hBD : Below w.heap.size w (w.alloc (.deferred (some []))) := below_new w _
  have hBB : Below (w.heap.size + 1) (w.alloc (.deferred (some []))) B := by
    have := below_new (w.alloc (.deferred (some []))) (.loop (rc .ready))
    rw [World.size_alloc, hB] at this
    exact this
  have hlB : B.heap[w.heap.size + 1]? = some (.loop (rc .ready)) := by
    have := World.alloc_heap_new (w.alloc (.deferred (some []))) (.loop (rc .ready))
    rw [World.size_alloc, hB] at this
    exact this
  have hdB : B.heap[w.heap.size]? = some (.deferred (some [])) := (hBB.block _ (by omega)).trans (World.alloc_heap_new w _)
  have hbB : Below w.heap.size w B := hBD.trans (hBB.mono (by omega))
  have hiB : I [] B := hI _ _ _ none h0 (grown_below hbB none) (fun r e => by cases e)
  have hltB : w.heap.size + 1 < B.heap.size := (Array.getElem?_eq_some_iff.1 hlB).1
  refine ⟨w.heap.size + 1, [{ target := .collected w.heap.size, args := #[] }], B, { target := .fn (.func gf) lb, args := #[.func (.yield (w.heap.size + 1)) #[] #[]] }, B, gf, #[.func (.yield (w.heap.size + 1)) #[] #[]] ++ lb, B, ?_, ?_, fun _ _ => trivial, ?_, fun h => (by cases h), ?_⟩
  · rw [← hB, hrc]; exact run_enterLoop_outer _ _ _ _ _
  · simp only [resolve, hg]; simp [go_sem]
  · simp [invoke, go_sem, eg]
  refine callsIn_wide.2 ((hseq (w.heap.size + 1) (fun pre W => I pre W ∧ W.heap[w.heap.size + 1]? = some (.loop (rc .ready)) ∧ W.heap[w.heap.size]? = some (.deferred (some []))) B hbB ?_ ?_ ⟨hiB, hlB, hdB⟩).mono ?_)
  · rintro pre X Y ⟨hi, hl, hd⟩ hb
    exact ⟨hI _ _ _ none hi (grown_below hb none) (fun r e => by cases e), (hb.block _ (Array.getElem?_eq_some_iff.1 hl).1).trans hl, (hb.block _ (Array.getElem?_eq_some_iff.1 hd).1).trans hd⟩
  · rintro pre x W ⟨hi, hl, hd⟩ hp
    have hy := run_yield (P := P) (args := encs x) hl (by rw [hrc]; exact hps x)
    rw [hrc] at hy
    refine ⟨fn, _, assign, body, hy, roundIn_of_wpIn trivial (wpIn_mono (hround (w.heap.size + 1) pre x W hi hp) ?_)⟩
    intro e a₁ W₁ h1
    cases e with
    | normal =>
      obtain ⟨hk1, hp1, hrest⟩ := h1
      have hl1 := hk1.same _ _ (by omega) hl rfl
      have hd1 := hk1.same _ _ (Nat.le_refl _) hd rfl
      have hlt1 : w.heap.size + 1 < W₁.heap.size := (Array.getElem?_eq_some_iff.1 hl1).1
      refine ⟨_, run_beginRound hl1 (by rw [hrc]), wpIn_mono (hrest _ _ (by omega) hl1 rfl (grownBy_putObj' _ _ _)) ?_⟩
      have hl2 := World.putObj_heap_same (o := .loop { rc .ready with state := .busy }) hlt1
      have hd2 : (W₁.putObj (w.heap.size + 1) (.loop { rc .ready with state := .busy })).heap[w.heap.size]? = some (.deferred (some [])) := (World.putObj_heap_other (by omega)).trans hd1
      intro e2 a₂ W₃ h2
      cases e2 with
      | normal =>
        obtain ⟨hk3, hp3, hi3⟩ := h2
        have hl3 := hk3.same _ _ (by omega) hl2 rfl
        have hd3 := hk3.same _ _ (Nat.le_refl _) hd2 rfl
        have he := run_endRound (P := P) none hl3
        refine ⟨_, _, he, rfl, ⟨?_, ?_, ?_⟩, ?_⟩
        · exact hI _ _ _ _ hi3 (grownBy_putObj' _ _ _) (fun r e => by cases e; exact ⟨by omega, _, hl3, rfl⟩)
        · rw [World.putObj_heap_same (Array.getElem?_eq_some_iff.1 hl3).1, hrc]; rfl
        · exact (World.putObj_heap_other (by omega)).trans hd3
        · exact hKt hp1 (hKt (hKb _ _ _ _ (by omega) hl1 rfl) (hKt hp3 (hKb _ _ _ _ (by omega) hl3 rfl)))
      | ret => exact h2.elim
      | exit id => exact h2.elim
      | goto t => exact h2.elim
      | panic c => exact h2.elim
      | outgrown => exact h2.elim
    | ret => exact h1.elim
    | exit id => exact h1.elim
    | goto t => exact h1.elim
    | panic c => exact h1.elim
    | outgrown => exact h1.elim
  · rintro e W ⟨⟨v, rfl⟩, xs, hS, hi, hl, hd⟩
    have he := run_endLoop (P := P) hl (by rw [hrc]; simp)
    refine ⟨none, _, by rw [he, hrc], ?_⟩
    exact hdone _ xs _ (Nat.le_refl _) hS (hI _ _ _ _ hi (grownBy_putObj' _ _ _) (fun r e => by cases e; exact ⟨by omega, _, hl, rfl⟩)) ((World.putObj_heap_other (by omega)).trans hd)
/-- A function's contract out of its body's walk, where the body holds a range over a function. -/
theorem calls_of_wp_range {f : FuncId} {fn : Func} {c : Code} {args : Array Value} {w : World} {R : Ending → World → Prop} (hf : P.funcs[f]? = some fn) (hb : fn.body = some c)
    (h : c.wp P (bodyPostM Fence.wide 0 P fn R) { tmps := args ++ Array.replicate (fn.ntmps - args.size) undef, defers := [] } w) : Calls P f args w R :=
  callsIn_wide.1 (callsIn_of_wp_marks (n := 0) hf hb trivial (wpIn_wide.2 h) rfl)
end Go.Proofs.YtlinpefeojpjnaaGreat.rng
