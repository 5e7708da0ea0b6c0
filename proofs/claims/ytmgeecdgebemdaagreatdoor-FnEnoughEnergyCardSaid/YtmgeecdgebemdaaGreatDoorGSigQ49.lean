/- Several texts in one: QMemD QExeG. -/
import Derived.Test.YtmgeecdgebemdaaGreatDoorGSigQ48
import Derived.Test.YtmgeecdgebemdaaGreatDoorGSigQ31
import Derived.Test.YtmgeecdgebemdaaGreatDoorGSigQ16
import Derived.Test.YtmgeecdgebemdaaGreatDoorGSigQ46
import Derived.Test.YtmgeecdgebemdaaGreatDoorGSigQ45

/- The draw of a valid program with a valid memory (l09Mem, DrawMemory); nothing that was there is written, but the cursor. -/
namespace Go.Proofs.YtmgeecdgebemdaaGreatDoor.cur
open Go Go.ChangeShapes Go.WideShapes Go.ChangeAt Go.RowKit Go.Proofs.YtmgeecdgebemdaaGreatDoor.row Go.Proofs.YtmgeecdgebemdaaGreatDoor.val Go.Proofs.YtmgeecdgebemdaaGreatDoor.expr Go.Proofs.YtmgeecdgebemdaaGreatDoor.stm Go.Proofs.YtmgeecdgebemdaaGreatDoor.blk Go.Proofs.YtmgeecdgebemdaaGreatDoor.prg Go.Proofs.YtmgeecdgebemdaaGreatDoor.ctl Go.Proofs.YtmgeecdgebemdaaGreatDoor.mem
/-- A memory that is being drawn: its first values and so many words of its outbox are values. -/
def MInv (i : Nat) (L : List Int) : Prop := L.length = 49 ∧ (∀ j, j < 8 → ∃ x, L[j]? = some x ∧ isVal x = true) ∧ ∀ j, j < i → ∃ x, L[25 + j]? = some x ∧ isVal x = true
theorem MInv.put {i : Nat} {L : List Int} (h : MInv i L) {p : Nat} (x : Int) (h8 : 8 ≤ p) (h25 : p < 25) : MInv i (L.set p x) :=
  ⟨by rw [List.length_set]; exact h.1, fun j hj => by rw [List.getElem?_set_ne (by omega)]; exact h.2.1 j hj, fun j hj => by rw [List.getElem?_set_ne (by omega)]; exact h.2.2 j hj⟩
theorem MInv.box {i : Nat} {L : List Int} (h : MInv i L) (hi : i < 24) {x : Int} (hx : isVal x = true) {p : Nat} (hp : p = 25 + i) : MInv (i + 1) (L.set p x) := by
  subst hp
  refine ⟨by rw [List.length_set]; exact h.1, fun j hj => by rw [List.getElem?_set_ne (by omega)]; exact h.2.1 j hj, fun j hj => ?_⟩
  rcases (show j < i ∨ j = i by omega) with h' | rfl
  · rw [List.getElem?_set_ne (by omega)]; exact h.2.2 j h'
  · exact ⟨x, List.getElem?_set_self (by have := h.1; omega), hx⟩
theorem minv_new {V : List Int} (h8 : V.length = 8) (hV : ∀ x ∈ V, isVal x = true) : MInv 0 (newV V) := by
  have hv : varsOk V = true := (varsOk_iff V).2 ⟨h8, hV⟩
  obtain ⟨e, hl, _⟩ := newV_yes hv
  refine ⟨hl, fun j hj => ?_, fun j hj => by omega⟩
  rw [e, List.getElem?_append_left (by omega)]
  exact ⟨V[j]'(by omega), by simp [show j < V.length by omega], hV _ (List.getElem_mem _)⟩
theorem all_of {L : List Int} (h : ∀ j, j < L.length → ∃ x, L[j]? = some x ∧ isVal x = true) : L.all isVal = true := by
  rw [List.all_eq_true]
  intro x hx
  obtain ⟨i, hi, rfl⟩ := List.mem_iff_getElem.1 hx
  obtain ⟨y, hy, hv⟩ := h i hi
  rw [List.getElem?_eq_getElem hi] at hy
  rw [Option.some.inj hy]; exact hv
/-- Behind the last write the memory is valid, its log empty. -/
theorem mem_is {P : List Tk} {L : List Int} {tl j : Nat} (hP : IsPrg P) (h : MInv tl L) (hj : j < P.length) (htl : tl ≤ 24) (hc : L[8]? = some (packV j 0 tl)) : MemIs P L ∧ wC (L.getD 8 0) = 0 := by
  have h6 := hP.2.1
  have hok : ctlOk j 0 tl = true := (ctlOk_iff _ _ _).2 (by omega)
  have hp := parts_pack hok
  have h8 : L.getD 8 0 = packV j 0 tl := by rw [List.getD_eq_getElem?_getD, hc]; rfl
  rw [← h8] at hp
  refine ⟨⟨hP, h.1, ?_, by rw [hp.1]; omega, ?_, ?_, ?_⟩, hp.2.1⟩
  · unfold wOk; rw [hp.1, hp.2.1, hp.2.2]; exact hok
  · refine all_of fun i hi => ?_
    rw [List.length_take, h.1] at hi
    rw [List.getElem?_take_of_lt (by omega)]; exact h.2.1 i (by omega)
  · rw [hp.2.2]
    refine all_of fun i hi => ?_
    rw [List.length_take, List.length_drop, h.1] at hi
    rw [List.getElem?_take_of_lt (by omega), List.getElem?_drop]; exact h.2.2 i (by omega)
  · rw [hp.2.1]; exact LogV.zero L
theorem ivs_put (L : List Int) (p : Nat) (x : Int) : (ivs L).set p (.int .i64 x) = ivs (L.set p x) := (ivs_set L p x)
/-- A memory that was drawn: its control word, its log's entries, its outbox. -/
def MemOut (cb : Nat) (a : Option Addr) (len cap n : Nat) (w : World) (e : Ending) (w' : World) : Prop :=
  ∃ (g c : Nat) (L : List Int) (j k tl : Nat), e = .returned (.slice (some ⟨g, 0, none⟩) 49 c) ∧ 49 ≤ c ∧ Hid (MInv tl L ∧ L[8]? = some (packV j k tl)) ∧ j < n ∧ k ≤ 3 ∧ tl ≤ 4 ∧ w'.ownsRow w.heap.size 3 1 (.slice (some ⟨g, 0, none⟩) 49 c) 49 (ivs L) ∧ Cur cb a len cap w' ∧ w.grownBy w' (some cb)
/-- The row and the cursor while the memory is being drawn; a block of the draw's own stays. -/
def MAt (cb : Nat) (a : Option Addr) (len cap : Nat) (cs : Array Value) (t : TypeId) (w : World) (g c : Nat) (L : List Int) (w' : World) : Prop :=
  w'.ownsRow w.heap.size 3 1 (.slice (some ⟨g, 0, none⟩) 49 c) 49 (ivs L) ∧ Cur cb a len cap w' ∧ w.grownBy w' (some cb) ∧ Box w.heap.size cs t w' ∧ w.heap.size < g
section
variable {cb : Nat} {a : Option Addr} {len cap : Nat} {cs : Array Value} {t : TypeId} {w w1 w2 : World} {g c : Nat} {L : List Int}
theorem MAt.draw (h : MAt cb a len cap cs t w g c L w1) (hcb : cb < w.heap.size) (hc : Cur cb a len cap w2) (hg : w1.grownBy w2 (some cb)) : MAt cb a len cap cs t w g c L w2 :=
  ⟨h.1.kept hg (.inr (own_low h.1 hcb)), hc, grownBy_trans h.2.2.1 hg, h.2.2.2.1.grown hg (fun e => by have := Option.some.inj e; omega), h.2.2.2.2⟩
theorem MAt.cell (h : MAt cb a len cap cs t w g c L w1) {p : Nat} (hp : p < 49) : ∃ x, L[p]? = some x ∧ w1.cell? ⟨g, p, none⟩ = some (.int .i64 x) ∧ w1.frozen? ⟨g, p, none⟩ = false := by
  have hl := own_len h.1
  refine ⟨L[p]'(by omega), by simp [show p < L.length by omega], ?_, h.1.frozenAt p⟩
  have h1 := h.1.cellAt p (by simpa using hp)
  rw [h1]; simp [ivs, show p < L.length by omega]
theorem MAt.put (h : MAt cb a len cap cs t w g c L w1) (hcb : cb < w.heap.size) (p : Nat) (x : Int) : MAt cb a len cap cs t w g c (L.set p x) (w1.setCell ⟨g, p, none⟩ (.int .i64 x)) := by
  have hs := (h.1.stored p (.int .i64 x)).1
  rw [ivs_set] at hs
  have hgl : w.heap.size < g := h.2.2.2.2
  exact ⟨hs, h.2.1.keep (grownBy_setCell w1 g p _) (fun k hk => by cases hk; omega), grownBy_own h.2.2.1 (grownBy_setCell w1 g p _) (fun k hk => by cases hk; omega), h.2.2.2.1.grown (grownBy_setCell w1 g p _) (fun e => by have := Option.some.inj e; omega), hgl⟩
end
set_option maxHeartbeats 8000000 in
set_option maxRecDepth 100000 in
theorem l09mem_any (cb : Nat) (a : Option Addr) (len cap : Nat) (pd : Option Addr) (n pc : Nat) (hn1 : 1 ≤ n) (hn6 : n ≤ 6) (w : World) (hc : Cur cb a len cap w) :
    Calls Tryz.prog 52 #[.pointer (some ⟨cb, 0, none⟩), .agg #[.slice pd n pc]] w (MemOut cb a len cap n w) := by
  have hcb := hc.lt
  obtain ⟨W, hW⟩ : ∃ W, w.alloc (.cells #[.slice pd n pc] 26) = W := ⟨_, rfl⟩
  have hx : Box w.heap.size #[.slice pd n pc] 26 W := by rw [← hW]; exact Box.new w _ _
  have hcW : Cur cb a len cap W := by rw [← hW]; exact hc.alloc _
  have hgW : w.grownBy W (some cb) := by rw [← hW]; exact World.grownBy_alloc _ _ _
  have hWs : W.heap.size = w.heap.size + 1 := by rw [← hW]; simp
  have H0 := Lib.hid (And.intro hx (And.intro hcW (And.intro hgW hWs)))
  clear hx hcW hgW hWs hc
  go_enter Tryz.func52, Tryz.ntmps52
  go_wp2_with (go_at_call 114; (with_reducible refine (l03vars_any cb a len cap _ H0.out.2.1).mono ?_); rintro e w2 ⟨av, cv, V, rfl, HL, HV, ho2, hc2, hg2⟩; refine Hid.out ?_)
  have HVR := Lib.hid (Row.of_own ho2)
  have H2 := Lib.hid (And.intro hc2 (grownBy_trans H0.out.2.2.1 hg2))
  have HX2 := Lib.hid (H0.out.1.grown hg2 (fun e => by have := Option.some.inj e; omega))
  have hs2 := hg2.size
  clear ho2 hc2 hg2
  refine Lib.hid ?_
  go_wp2_with (go_at_call 113; (with_reducible refine (spec_memnew _ av 8 cv V (by decide) HVR.out).mono ?_); rintro e w3 ⟨ag, nn, cg, rfl, ho3, hb3⟩; refine Hid.out ?_)
  have hm0 := minv_new HL.out HV.out
  obtain rfl : nn = 49 := by have h1 := own_len ho3; have h2 := hm0.1; omega
  have hcap : 49 ≤ cg := by
    rcases ho3.2 with ⟨e, _⟩ | ⟨g', c', cur, e, _, _, h9, _⟩
    · cases e
    · cases e; exact h9
  obtain ⟨gm, cw, e, hgm, hgml⟩ := ho3.form (by omega)
  cases e
  have hs02 : w.heap.size + 1 ≤ w2.heap.size := by have h1 := H0.out.2.2.2; omega
  have HM3 := Lib.hid (show MAt cb a len cap #[.slice pd n pc] 26 w gm cg (newV V) w3 from ⟨ho3.mono (by omega), H2.out.1.other hb3.block, grownBy_trans H2.out.2 (grown_below hb3 (some cb)), HX2.out.below hb3, by omega⟩)
  have HC3 := Lib.hid HM3.out.2.1
  have HI0 := Lib.hid hm0
  clear ho3 hb3 hm0 hs2
  refine Lib.hid ?_
  go_wp2_with (go_at_call 55; (with_reducible refine (below_any cb a len cap 5 (by decide) _ HC3.out).mono ?_); rintro e w4 ⟨x4, rfl, hx0, hx1, hc4, hg4⟩; refine Hid.out ?_)
  have HM4 := Lib.hid (HM3.out.draw hcb hc4 hg4)
  obtain ⟨tl, rfl⟩ : ∃ t : Nat, x4 = t := ⟨x4.toNat, by omega⟩
  have htl : tl ≤ 4 := by omega
  clear hc4 hg4 hx0 hx1
  refine Lib.hid ?_
  go_wp2
  go_loopw [8] (fun i wr => ∃ (k : Nat) (L : List Int), k ≤ tl ∧ i = .int .i64 k ∧ Hid (MInv k L ∧ MAt cb a len cap #[.slice pd n pc] 26 w gm cg L wr)) (fun i _ => tl - (Go.RowKit.intOf i).toNat)
  case atStart => exact ⟨0, _, Nat.zero_le _, rfl, HI0.out, HM4.out⟩
  case round =>
    obtain ⟨k, L, hk, rfl, HQ⟩ := hrel
    by_cases hlt : k < tl
    · have hI : (k : Int) < tl := by omega
      obtain ⟨p, hp⟩ : ∃ p : Nat, p = 25 + k := ⟨_, rfl⟩
      have hpk : (25 : Int) + (k : Int) = (p : Int) := by omega
      have hpb : (p : Int) ≤ 30 := by omega
      have HPP := Lib.hid hp
      have HC5 := Lib.hid HQ.out.2.2.1
      clear hp
      go_wp2_with (go_at_call 55; (with_reducible refine (below_any cb a len cap 500 (by decide) _ HC5.out).mono ?_); rintro e w5 ⟨x5, rfl, hx0, hx1, hc5, hg5⟩; have hM5 := HQ.out.2.draw hcb hc5 hg5; obtain ⟨y5, _, hcy, hfy⟩ := hM5.cell (p := p) (by omega))
      have hM6 := hM5.put hcb p x5
      have hI6 := HQ.out.1.box (by omega) (x := x5) ((isVal_iff _).2 (by omega)) HPP.out
      go_roundw
      case rel => exact ⟨k + 1, _, by omega, by go_num, hI6, hM6⟩
      case measure => simp [Go.RowKit.intOf]; omega
    · obtain rfl : k = tl := by omega
      have HC7 := Lib.hid HQ.out.2.2.1
      go_wp2_with (go_at_call 55; (with_reducible refine (below_any cb a len cap 2 (by decide) _ HC7.out).mono ?_); rintro e w7 ⟨x7, rfl, h70, h71, hc7, hg7⟩; refine Hid.out ?_)
      have HM7 := Lib.hid (HQ.out.2.draw hcb hc7 hg7)
      have HC8 := Lib.hid HM7.out.2.1
      clear hc7 hg7
      refine Lib.hid ?_
      go_wp2_with (go_at_call 55; (with_reducible refine (below_any cb a len cap 4 (by decide) _ HC8.out).mono ?_); rintro e w8 ⟨x8, rfl, h80, h81, hc8, hg8⟩; refine Hid.out ?_)
      have HM8 := Lib.hid (HM7.out.draw hcb hc8 hg8)
      obtain ⟨q, hq, hq3⟩ : ∃ q : Nat, x7 * x8 = (q : Int) ∧ q ≤ 3 := by
        rcases (show x7 = 0 ∨ x7 = 1 by omega) with rfl | rfl
        · exact ⟨0, by simp, by omega⟩
        · exact ⟨x8.toNat, by omega, by omega⟩
      have hw : IntKind.i64.wrap (x7 * x8) = (q : Int) := by rw [hq]; exact IntWalk.i64_in _ (by omega)
      have HI8 := Lib.hid HQ.out.1
      clear hc8 hg8 hq h70 h71 h80 h81
      refine Lib.hid ?_
      go_wp2
      go_loopw [10] (fun i wr => ∃ (j : Nat) (L : List Int), j ≤ q ∧ i = .int .i64 j ∧ Hid (MInv k L ∧ MAt cb a len cap #[.slice pd n pc] 26 w gm cg L wr)) (fun i _ => q - (Go.RowKit.intOf i).toNat)
      case atStart => exact ⟨0, _, Nat.zero_le _, rfl, HI8.out, HM8.out⟩
      case round =>
        obtain ⟨j, L', hj, rfl, HR⟩ := hrel
        by_cases hlt2 : j < q
        · have hI : (j : Int) < q := by omega
          obtain ⟨p, hp⟩ : ∃ p : Nat, p = 9 + 2 * j := ⟨_, rfl⟩
          have hpk : (9 : Int) + 2 * (j : Int) = (p : Int) := by omega
          have hpb : (p : Int) ≤ 15 := by omega
          have HPP := Lib.hid hp
          obtain ⟨y9, _, hcy, hfy⟩ := HR.out.2.cell (p := p) (by omega)
          have HM9 := Lib.hid (HR.out.2.put hcb p j)
          have HC9 := Lib.hid HM9.out.2.1
          clear hp
          go_wp2_with (go_at_call 55; (with_reducible refine (below_any cb a len cap 900 (by decide) _ HC9.out).mono ?_); rintro e w9 ⟨x9, rfl, h90, h91, hc9, hg9⟩; have hM10 := HM9.out.draw hcb hc9 hg9; obtain ⟨y10, _, hcz, hfz⟩ := hM10.cell (p := p + 1) (by omega))
          have hM11 := hM10.put hcb (p + 1) x9
          have hI11 := (HR.out.1.put (p := p) (j : Int) (by have := HPP.out; omega) (by have := HPP.out; omega)).put (p := p + 1) x9 (by have := HPP.out; omega) (by have := HPP.out; omega)
          go_roundw
          case rel => exact ⟨j + 1, _, by omega, by go_num, hI11, hM11⟩
          case measure => simp [Go.RowKit.intOf]; omega
        · obtain rfl : j = q := by omega
          have hnI : (0 : Int) < n := by omega
          have c0 : wr.cell? ⟨w.heap.size, 0, none⟩ = some (.slice pd n pc) := HR.out.2.2.2.2.1.cell 0
          have HC12 := Lib.hid HR.out.2.2.1
          have hk0 : ¬ (j : Int) < j := by omega
          go_wp2_with (first
            | (go_at_call 55; (with_reducible refine (below_any cb a len cap n hnI _ HC12.out).mono ?_); rintro e w12 ⟨x12, rfl, h120, h121, hc12, hg12⟩; obtain ⟨jn, rfl⟩ : ∃ j : Nat, x12 = j := ⟨x12.toNat, by omega⟩; have hM12 := HR.out.2.draw hcb hc12 hg12; obtain ⟨y12, _, hcy, hfy⟩ := hM12.cell (p := 8) (by omega))
            | (go_at_call 53; (with_reducible refine (spec_pack (jn : Int) (j : Int) (k : Int) _).mono ?_); rintro e w13 ⟨rfl, rfl⟩))
          have hM13 := hM12.put hcb 8 (packV jn j k)
          have hI13 := HR.out.1.put (p := 8) (packV jn j k) (by omega) (by omega)
          go_ret
          exact ⟨gm, cg, _, jn, j, k, rfl, hcap, ⟨hI13, List.getElem?_set_self (by have := HR.out.1.1; omega)⟩, by omega, by omega, by omega, hM13.1, hM13.2.1, hM13.2.2.1⟩
theorem isPrg_of {P : List Tk} {n : Nat} (hl : P.length = n) (h1 : 1 ≤ n) (h3 : n ≤ 3) (h : ∀ t ∈ P, TkOk t) : IsPrg P := ⟨by omega, by omega, fun t ht => ⟨(h t ht).1, (h t ht).2.2⟩⟩
/-- A valid program and a valid memory of it whose log is empty, in new memory; nothing that was there is written. -/
def DrawnM (w : World) (e : Ending) (w' : World) : Prop :=
  ∃ (ad : Option Addr) (n c : Nat) (P : List Tk) (g cm : Nat) (L : List Int), e = .returned (.tuple #[.agg #[.slice ad n c], .slice (some ⟨g, 0, none⟩) 49 cm]) ∧ 1 ≤ n ∧ n ≤ 3 ∧ n ≤ c ∧ 49 ≤ cm ∧ Hid (∀ t ∈ P, TkOk t) ∧ Hid (TkFrom w.heap.size w' ad n P) ∧ Hid (MemIs P L ∧ wC (L.getD 8 0) = 0) ∧ w'.ownsRow w.heap.size 3 1 (.slice (some ⟨g, 0, none⟩) 49 cm) 49 (ivs L) ∧ Below w.heap.size w w'
set_option maxHeartbeats 4000000 in
set_option maxRecDepth 100000 in
theorem drawmemory_any (a : Option Addr) (len cap : Nat) (w : World) (hlm : (len : Int) ≤ 1048576) (hb : ∀ i : Nat, i < len → ∃ (b off : Nat) (v : Int), a = some ⟨b, off, none⟩ ∧ w.cell? ⟨b, off + i, none⟩ = some (.int .u8 v)) :
    Calls Tryz.prog 11 #[.slice a len cap] w (DrawnM w) := by
  obtain ⟨W, hW⟩ : ∃ W, W = w.alloc (.cells #[.slice none 0 0] 26) := ⟨_, rfl⟩
  have hbw : Below w.heap.size w W := by rw [hW]; exact below_new _ _
  have hbx : Box w.heap.size #[.slice none 0 0] 26 W := by rw [hW]; exact Box.new _ _ _
  have HB := Lib.hid (And.intro (show ∀ i : Nat, i < len → ∃ (b off : Nat) (v : Int), a = some ⟨b, off, none⟩ ∧ W.cell? ⟨b, off + i, none⟩ = some (.int .u8 v) from fun i hi => by
    obtain ⟨b, off, v, ha, hv⟩ := hb i hi
    exact ⟨b, off, v, ha, (hbw.cell (p := ⟨b, off + i, none⟩) (World.block_lt_of_cell? w _ hv)).trans hv⟩) (And.intro hbw hbx))
  have HW := Lib.hid hW.symm
  have HSW := Lib.hid (show W.heap.size = w.heap.size + 1 by rw [hW]; simp)
  clear hb hbw hbx hW
  go_enter Tryz.func11, Tryz.ntmps11
  go_wp2_with (go_at_call 50; rw [HW.out]; (with_reducible refine (new_any a len cap _ hlm HB.out.1).mono ?_); rintro e w1 ⟨rfl, hc1, hb1⟩; refine Hid.out ?_)
  have H1 := Lib.hid (And.intro (HB.out.2.2.below hb1) (HB.out.2.1.trans (hb1.mono (by have := HSW.out; omega))))
  have HS1 := Lib.hid hb1.size
  have hcb := hc1.lt
  clear hb1
  refine Lib.hid ?_
  go_wp2_with (go_at_call 51; (with_reducible refine (l06program_any _ a len cap _ hc1).mono ?_); rintro e w2 ⟨ad, n, c, P, rfl, hn1, hn3, hnc, HOK, HR, hc2, hg2⟩; refine Hid.out ?_)
  have H2 := Lib.hid (And.intro (H1.out.1.grown hg2 (by intro e; have := Option.some.inj e; have := HSW.out; omega)) (And.intro HR.out (And.intro (H1.out.2.grown hg2 (by have := HSW.out; have := HS1.out; omega) (fun q hq => by cases hq; have := HSW.out; omega)) hc2)))
  have hs12 : w1.heap.size ≤ w2.heap.size := hg2.size
  have HA := Lib.hid (And.intro (Box.new w2 #[.slice none 0 0] 26) (below_new w2 (.cells #[.slice none 0 0] 26)))
  have hPl : P.length = n := HR.out.row.1
  clear hg2 hc2 hc1 HR
  refine Lib.hid ?_
  go_wp2_with ((refine wpList_store_box rfl 26 _ _ rfl w2.heap.size _ _ HA.out.1 #[.slice ad n c] rfl rfl rfl (by kernel_rfl) (by simp [Value.oneCell']) ?_); intro w4 hx4 hg4; refine Hid.out ?_)
  have hb4 : Below w2.heap.size w2 w4 := HA.out.2.grown hg4 HA.out.2.size (fun k hk => by cases hk; exact Nat.le_refl _)
  have hs4 : w2.heap.size < w4.heap.size := hx4.lt
  have H4 := Lib.hid (And.intro hx4 (And.intro (H2.out.1.below hb4) (And.intro (H2.out.2.1.below hb4) (And.intro (below_then H2.out.2.2.1 hb4) (H2.out.2.2.2.other hb4.block)))))
  have hc4 := H4.out.2.2.2.2
  have HC4 := Lib.hid hc4
  clear hx4 hg4 hb4 hc4
  have c4 : w4.cell? ⟨w2.heap.size, 0, none⟩ = some (.slice ad n c) := H4.out.1.cell 0
  refine Lib.hid ?_
  go_wp2_with (go_at_call 52; (with_reducible refine (l09mem_any _ a len cap ad n c hn1 (by omega) _ HC4.out).mono ?_); rintro e w5 ⟨gm, cm, L, j, k, tl, rfl, hcm, HL, hj, hk, htl, ho5, hc5, hg5⟩; refine Hid.out ?_)
  have hL49 : L.length = 49 := HL.out.1.1
  have hok : ctlOk j k tl = true := (ctlOk_iff _ _ _).2 (by omega)
  have hpp := parts_pack hok
  have hwk : wOk (packV j k tl) = true := by unfold wOk; rw [hpp.1, hpp.2.1, hpp.2.2]; exact hok
  have HUN := Lib.hid (show ∀ w', Calls Tryz.prog 30 #[.int .i64 (packV j k tl)] w' (RetT w' (j : Int) (k : Int) (tl : Int)) from fun w' => spec_unpack_is _ _ _ _ ⟨by unfold unT; rw [if_pos hwk, hpp.1], by unfold unC; rw [if_pos hwk, hpp.2.1], by unfold unN; rw [if_pos hwk, hpp.2.2]⟩ w')
  have HPK := Lib.hid (show ∀ w', Calls Tryz.prog 53 #[.int .i64 (j : Int), .int .i64 0, .int .i64 (tl : Int)] w' (Ret w' (packV j 0 tl)) from fun w' => spec_pack _ _ _ w')
  obtain ⟨X, hX⟩ : ∃ X, packV j k tl = X := ⟨_, rfl⟩
  obtain ⟨Y, hY⟩ : ∃ Y, packV j 0 tl = Y := ⟨_, rfl⟩
  have c8 : w5.cell? ⟨gm, 8, none⟩ = some (.int .i64 X) := by
    rw [← hX]
    refine (ho5.cellAt 8 (by decide)).trans ?_
    have h9 := HL.out.2
    simp [ivs, h9]
  have f8 : w5.frozen? ⟨gm, 8, none⟩ = false := ho5.frozenAt 8
  rw [hX] at HUN
  rw [hY] at HPK
  have hgml : w4.heap.size ≤ gm := (ho5.lt gm rfl).1
  have hst := (ho5.stored 8 (.int .i64 Y)).1
  rw [ivs_set] at hst
  have hg6 := grownBy_own hg5 (grownBy_setCell w5 gm 8 (.int .i64 Y)) (fun k hk => by cases hk; exact hgml)
  have hMI := mem_is (j := j) (tl := tl) (isPrg_of hPl hn1 hn3 HOK.out) (HL.out.1.put (p := 8) Y (by decide) (by decide)) (by omega) (by omega) (by rw [← hY]; exact List.getElem?_set_self (by omega))
  obtain ⟨w6, hw6⟩ : ∃ w6, w5.setCell ⟨gm, 8, none⟩ (.int .i64 Y) = w6 := ⟨_, rfl⟩
  have H6 := Lib.hid (show Box w2.heap.size #[.slice ad n c] 26 w6 ∧ Box w.heap.size #[.slice none 0 0] 26 w6 ∧ TkFrom (w1.heap.size + 2) w6 ad n P ∧ Below w.heap.size w w6 ∧ w6.ownsRow w4.heap.size 3 1 (.slice (some ⟨gm, 0, none⟩) 49 cm) 49 (ivs (L.set 8 Y)) from by
    rw [← hw6]
    exact ⟨H4.out.1.grown hg6 (fun e => by have := Option.some.inj e; omega), H4.out.2.1.grown hg6 (fun e => by have := Option.some.inj e; have := HSW.out; omega), H4.out.2.2.1.grown hg6 (by omega), H4.out.2.2.2.1.grown hg6 H4.out.2.2.2.1.size (fun q hq => by cases hq; have := HSW.out; omega), hst⟩)
  have HMI := Lib.hid hMI
  have d6 : w6.cell? ⟨w2.heap.size, 0, none⟩ = some (.slice ad n c) := H6.out.1.cell 0
  clear ho5 hc5 hg5 hg6 hst hMI hpp hwk hok HL hX hY
  refine Lib.hid ?_
  go_wp2_with (first
    | (go_at_call 30; (with_reducible refine (HUN.out _).mono ?_); rintro e w9 ⟨rfl, rfl⟩)
    | (go_at_call 53; (with_reducible refine (HPK.out _).mono ?_); rintro e w9 ⟨rfl, rfl⟩)
    | ((refine wpList_store_box rfl 26 _ _ rfl w.heap.size _ _ H6.out.2.1 #[.slice ad n c] rfl rfl rfl (by kernel_rfl) (by simp [Value.oneCell']) ?_); intro w7 hx7 hg7; refine Hid.out ?_))
  have H7 := Lib.hid (And.intro hx7 (And.intro ((H6.out.2.2.1.grown hg7 (by have := HSW.out; have := HS1.out; omega)).mono (show w.heap.size ≤ w1.heap.size + 2 by have := HSW.out; have := HS1.out; omega)) (And.intro (H6.out.2.2.2.1.grown hg7 H6.out.2.2.2.1.size (fun q hq => by cases hq; exact Nat.le_refl _)) ((H6.out.2.2.2.2.kept hg7 (.inr (by simp [Value.ownBlock]; have := HSW.out; have := HS1.out; omega))).mono (show w.heap.size ≤ w4.heap.size by have := HSW.out; have := HS1.out; omega)))))
  clear hx7 hg7
  refine Lib.hid ?_
  go_wp2
  exact bodyPost_ret (v := .tuple #[.agg #[.slice ad n c], .slice (some ⟨gm, 0, none⟩) 49 cm]) (results_box2 rfl _ _ w.heap.size _ _ _ _ rfl rfl H7.out.1 Tryz.underlying26 rfl (by kernel_rfl)) rfl ⟨ad, n, c, P, gm, cm, _, rfl, hn1, hn3, hnc, hcm, HOK, H7.out.2.1, HMI.out, H7.out.2.2.2, H7.out.2.2.1⟩
end Go.Proofs.YtmgeecdgebemdaaGreatDoor.cur

/- The draw of readings: one to nine numbers from -200 to 599, in new memory; nothing that was there is written. -/
namespace Go.Proofs.YtmgeecdgebemdaaGreatDoor.cur
open Go Go.ChangeShapes Go.WideShapes Go.ChangeAt Go.RowKit
def RdgIn (L : List Int) : Prop := ∀ x ∈ L, -200 ≤ x ∧ x < 600
/-- Drawn readings in new memory; the cursor stays one. -/
def RdgBody (cb : Nat) (a : Option Addr) (len cap : Nat) (w : World) (e : Ending) (w' : World) : Prop :=
  ∃ (v : Value) (L : List Int), e = .returned v ∧ 1 ≤ L.length ∧ L.length ≤ 9 ∧ Hid (RdgIn L) ∧ w'.ownsRow w.heap.size 3 1 v L.length (ints L) ∧ Cur cb a len cap w' ∧ w.grownBy w' (some cb)
def RdgOut (w : World) (e : Ending) (w' : World) : Prop :=
  ∃ (v : Value) (L : List Int), e = .returned v ∧ 1 ≤ L.length ∧ L.length ≤ 9 ∧ Hid (RdgIn L) ∧ w'.ownsRow w.heap.size 3 1 v L.length (ints L) ∧ Below w.heap.size w w'
set_option maxHeartbeats 2000000 in
set_option maxRecDepth 100000 in
theorem readings_from (cb : Nat) (a : Option Addr) (len cap : Nat) (w : World) (hc : Cur cb a len cap w) :
    Calls Tryz.prog 54 #[.pointer (some ⟨cb, 0, none⟩)] w (RdgBody cb a len cap w) := by
  obtain ⟨i0, hi, hz0, hz1, hz2⟩ := info_parts (infoInt)
  have hg0 := grownBy_refl w (some cb)
  have hs1 : cb < w.heap.size := hc.lt
  go_enter Tryz.func54, Tryz.ntmps54
  go_wp2
  go_loopw [3, 4] (fun v i wr => ∃ (k : Nat) (L : List Int), k ≤ 9 ∧ i = .int .i64 k ∧ L.length = k ∧ Hid (RdgIn L) ∧ wr.ownsRow w.heap.size 3 1 v k (ints L) ∧ Cur cb a len cap wr ∧ w.grownBy wr (some cb) ∧ w.heap.size ≤ wr.heap.size) (fun _ i _ => 9 - (Go.RowKit.intOf i).toNat)
  case atStart => exact ⟨0, [], Nat.zero_le _, rfl, rfl, Lib.hid (by unfold RdgIn; simp), World.ownsRow_made w #[] 0 (Nat.le_refl _) (by decide) rfl, hc.alloc _, grownBy_trans hg0 (World.grownBy_alloc _ _ _), by simp⟩
  case round =>
    obtain ⟨k, L, hk, rfl, hl, HIN, hown0, hcu0, hgr0, hsw0⟩ := hrel
    have HL := Lib.hid hl
    clear hl
    have HBLK := Lib.hid (show ∀ j, u3.ownBlock = some j → w.heap.size ≤ j from fun j hj => (hown0.lt j hj).1)
    go_wp2_with (go_at_call 55; (with_reducible refine (below_any cb a len cap 9 (by omega) _ hcu0).mono ?_); rintro e wz ⟨z, rfl, hz0', hz1', hcu, hgz⟩; refine Hid.out ?_)
    have hown := hown0.kept hgz (by
      cases hv : u3.ownBlock with
      | none => exact .inl rfl
      | some j => right; have := HBLK.out j hv; intro e; injection e; omega)
    have hgr := grownBy_trans hgr0 hgz
    have hsw : w.heap.size ≤ wz.heap.size := Nat.le_trans hsw0 hgz.size
    clear hown0 hcu0 hgr0 hsw0 hgz
    by_cases hlt : (k : Int) < 1 + z
    · refine Lib.hid ?_
      go_wp2_with (go_at_call 55; (with_reducible refine (below_any cb a len cap 800 (by omega) _ hcu).mono ?_); rintro e w2 ⟨x, rfl, hx0, hx1, hc2, hg2⟩; refine Hid.out ?_)
      have hown1 := hown.kept hg2 (by
        cases hv : u3.ownBlock with
        | none => exact .inl rfl
        | some j => right; have := HBLK.out j hv; intro e; injection e; omega)
      have HX := Lib.hid (show -200 ≤ x - 200 ∧ x - 200 < 600 by omega)
      have HG2 := Lib.hid (grownBy_trans hgr hg2)
      have hsz2 := hg2.size
      clear hgr hg2 hown
      refine Lib.hid ?_
      go_wp2_with (at_builtin; refine wpList_append_own _ rfl _ _ 27 rfl w.heap.size 3 i0 (.int .i64 0) 1 8 Tryz.underlying27 hi hz0 hz1 hz2 rfl (by decide) _ _ _ rfl (hown1.alloc _) ⟨w2.heap.size, 0, none⟩ 1 1 [.int .i64 (x - 200)] rfl rfl (World.news_of_block (cs := #[.int .i64 (x - 200)]) (t := 3) (fr := (0, 0)) (heap_alloc_new w2 _)) (by simp [Value.oneCell']) (by unfold maxLen; omega) (by omega) (by simp; omega) ?_; intro v3 w3 hown3 hgrow3 _; refine Hid.out ?_)
      have hc3 : Cur cb a len cap w3 := (hc2.alloc _).keep hgrow3 (fun j hj => by have := HBLK.out j hj; omega)
      have hg3 := grownBy_own (grownBy_trans HG2.out (World.grownBy_alloc w2 _ _)) hgrow3 (fun j hj => by have := HBLK.out j hj; omega)
      have hs3 : w.heap.size ≤ w3.heap.size := by have := hgrow3.size; simp at this; omega
      have e3 : ints L ++ [Value.int .i64 (x - 200)] = ints (L ++ [x - 200]) := by simp [ints]
      rw [e3] at hown3
      have HO := Lib.hid hown3
      have HIN2 : Hid (RdgIn (L ++ [x - 200])) := by
        intro y hy
        rcases List.mem_append.1 hy with h | h
        · exact HIN.out y h
        · rw [List.mem_singleton.1 h]; exact HX.out
      clear hown3 hgrow3 e3 hown1
      refine Lib.hid ?_
      go_wp2
      go_roundw
      case rel => exact ⟨k + 1, _, by omega, by go_num, by have := HL.out; simp; omega, HIN2, HO.out, hc3, hg3, hs3⟩
      case measure => simp [Go.RowKit.intOf]; omega
    · refine Lib.hid ?_
      go_wp2
      go_ret
      exact ⟨_, L, rfl, by have := HL.out; omega, by have := HL.out; omega, HIN, by rw [HL.out]; exact hown, hcu, hgr⟩
theorem readings_any (a : Option Addr) (len cap : Nat) (w : World) (hlm : (len : Int) ≤ 1048576) (hb : ∀ i : Nat, i < len → ∃ (b off : Nat) (v : Int), a = some ⟨b, off, none⟩ ∧ w.cell? ⟨b, off + i, none⟩ = some (.int .u8 v)) :
    Calls Tryz.prog 12 #[.slice a len cap] w (RdgOut w) := by
  have HB := Lib.hid hb
  clear hb
  go_enter Tryz.func12, Tryz.ntmps12
  go_wp2_with (go_at_call 50; refine (new_any a len cap _ hlm HB.out).mono ?_; rintro e w1 ⟨rfl, hc1, hb1⟩; refine Hid.out ?_)
  have H1 := Lib.hid (And.intro hc1 hb1)
  clear hc1 hb1
  refine Lib.hid ?_
  go_wp2_with (go_at_call 54; refine (readings_from w.heap.size a len cap _ H1.out.1).mono ?_; rintro e w2 ⟨v, L, rfl, h1, h2, h3, h4, h5, h6⟩)
  go_ret
  exact ⟨v, L, rfl, h1, h2, h3, h4.mono H1.out.2.size, H1.out.2.grown h6 H1.out.2.size (fun j hj => by cases hj; exact Nat.le_refl _)⟩
end Go.Proofs.YtmgeecdgebemdaaGreatDoor.cur
