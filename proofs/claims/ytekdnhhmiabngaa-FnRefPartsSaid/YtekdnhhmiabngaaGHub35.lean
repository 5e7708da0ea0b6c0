/- Several texts in one: ExeG RefG SsC. -/
import Derived.Test.YtekdnhhmiabngaaGHub34
import Derived.Test.YtekdnhhmiabngaaGHub11
import Derived.Lib.SliceRun

/- The draw of readings: one to nine numbers from -200 to 599, in new memory; nothing that was there is written. -/
namespace Go.Proofs.Ytekdnhhmiabngaa.cur
open Go Go.ChangeShapes Go.WideShapes Go.ChangeAt Go.RowKit

def RdgIn (L : List Int) : Prop := ∀ x ∈ L, -200 ≤ x ∧ x < 600
/-- Drawn readings in new memory; the cursor stays one. -/
def RdgBody (cb : Nat) (a : Option Addr) (len cap : Nat) (w : World) (e : Ending) (w' : World) : Prop :=
  ∃ (v : Value) (L : List Int), e = .returned v ∧ 1 ≤ L.length ∧ L.length ≤ 9 ∧ Hid (RdgIn L) ∧ w'.ownsRow w.heap.size 3 1 v L.length (ints L) ∧ Cur cb a len cap w' ∧ w.grownBy w' (some cb)
def RdgOut (w : World) (e : Ending) (w' : World) : Prop :=
  ∃ (v : Value) (L : List Int), e = .returned v ∧ 1 ≤ L.length ∧ L.length ≤ 9 ∧ Hid (RdgIn L) ∧ w'.ownsRow w.heap.size 3 1 v L.length (ints L) ∧ Below w.heap.size w w'
set_option maxHeartbeats 2000000 in
set_option maxRecDepth 100000 in
theorem readings_from (cb : Nat) (a : Option Addr) (len cap : Nat) (w : World) (hc : Cur cb a len cap w) :
    Calls Try.prog 23 #[.pointer (some ⟨cb, 0, none⟩)] w (RdgBody cb a len cap w) := by
  obtain ⟨i0, hi, hz0, hz1, hz2⟩ := info_parts (infoInt)
  have hg0 := grownBy_refl w (some cb)
  have hs1 : cb < w.heap.size := hc.lt
  go_enter Try.func23, Try.ntmps23
  go_wp2
  go_loopw [3, 4] (fun v i wr => ∃ (k : Nat) (L : List Int), k ≤ 9 ∧ i = .int .i64 k ∧ L.length = k ∧ Hid (RdgIn L) ∧ wr.ownsRow w.heap.size 3 1 v k (ints L) ∧ Cur cb a len cap wr ∧ w.grownBy wr (some cb) ∧ w.heap.size ≤ wr.heap.size) (fun _ i _ => 9 - (intOf i).toNat)
  case atStart => exact ⟨0, [], Nat.zero_le _, rfl, rfl, Lib.hid (by unfold RdgIn; simp), World.ownsRow_made w #[] 0 (Nat.le_refl _) (by decide) rfl, hc.alloc _, grownBy_trans hg0 (World.grownBy_alloc _ _ _), by simp⟩
  case round =>
    obtain ⟨k, L, hk, rfl, hl, HIN, hown0, hcu0, hgr0, hsw0⟩ := hrel
    have HL := Lib.hid hl
    clear hl
    have HBLK := Lib.hid (show ∀ j, u3.ownBlock = some j → w.heap.size ≤ j from fun j hj => (hown0.lt j hj).1)
    go_wp2_with (go_at_call 31; (with_reducible refine (below_any cb a len cap 9 (by omega) _ hcu0).mono ?_); rintro e wz ⟨z, rfl, hz0', hz1', hcu, hgz⟩; refine Hid.out ?_)
    have hown := hown0.kept hgz (by
      cases hv : u3.ownBlock with
      | none => exact .inl rfl
      | some j => right; have := HBLK.out j hv; intro e; injection e; omega)
    have hgr := grownBy_trans hgr0 hgz
    have hsw : w.heap.size ≤ wz.heap.size := Nat.le_trans hsw0 hgz.size
    clear hown0 hcu0 hgr0 hsw0 hgz
    by_cases hlt : (k : Int) < 1 + z
    · refine Lib.hid ?_
      go_wp2_with (go_at_call 31; (with_reducible refine (below_any cb a len cap 800 (by omega) _ hcu).mono ?_); rintro e w2 ⟨x, rfl, hx0, hx1, hc2, hg2⟩; refine Hid.out ?_)
      have hown1 := hown.kept hg2 (by
        cases hv : u3.ownBlock with
        | none => exact .inl rfl
        | some j => right; have := HBLK.out j hv; intro e; injection e; omega)
      have HX := Lib.hid (show -200 ≤ x - 200 ∧ x - 200 < 600 by omega)
      have HG2 := Lib.hid (grownBy_trans hgr hg2)
      have hsz2 := hg2.size
      clear hgr hg2 hown
      refine Lib.hid ?_
      go_wp2_with (at_builtin; refine wpList_append_own _ rfl _ _ 28 rfl w.heap.size 3 i0 (.int .i64 0) 1 8 Try.underlying28 hi hz0 hz1 hz2 rfl (by decide) _ _ _ rfl (hown1.alloc _) ⟨w2.heap.size, 0, none⟩ 1 1 [.int .i64 (x - 200)] rfl rfl (World.news_of_block (cs := #[.int .i64 (x - 200)]) (t := 3) (fr := (0, 0)) (heap_alloc_new w2 _)) (by simp [Value.oneCell']) (by unfold maxLen; omega) (by omega) (by simp; omega) ?_; intro v3 w3 hown3 hgrow3 _; refine Hid.out ?_)
      have hc3 : Cur cb a len cap w3 := (hc2.alloc _).keep hgrow3 (fun j hj => by have := HBLK.out j hj; omega)
      have hg3 := grownBy_own (grownBy_trans HG2.out (World.grownBy_alloc w2 _ _)) hgrow3 (fun j hj => by have := HBLK.out j hj; omega)
      have hs3 : w.heap.size ≤ w3.heap.size := by have := hgrow3.size; simp at this; omega
      have e3 : ints L ++ [Value.int .i64 (x - 200)] = ints (L ++ [x - 200]) := by simp [ints]
      rw [e3] at hown3
      have HO := Lib.hid hown3
      have HIN2 : Hid (RdgIn (L ++ [x - 200])) := by
        intro y hy
        rcases List.mem_append.1 hy with h | h
        · exact HIN.out y h
        · rw [List.mem_singleton.1 h]; exact HX.out
      clear hown3 hgrow3 e3 hown1
      refine Lib.hid ?_
      go_wp2
      go_roundw
      case rel => exact ⟨k + 1, _, by omega, by go_num, by have := HL.out; simp; omega, HIN2, HO.out, hc3, hg3, hs3⟩
      case measure => simp [intOf]; omega
    · refine Lib.hid ?_
      go_wp2
      go_ret
      exact ⟨_, L, rfl, by have := HL.out; omega, by have := HL.out; omega, HIN, by rw [HL.out]; exact hown, hcu, hgr⟩
theorem readings_any (a : Option Addr) (len cap : Nat) (w : World) (hlm : (len : Int) ≤ 1048576) (hb : ∀ i : Nat, i < len → ∃ (b off : Nat) (v : Int), a = some ⟨b, off, none⟩ ∧ w.cell? ⟨b, off + i, none⟩ = some (.int .u8 v)) :
    Calls Try.prog 10 #[.slice a len cap] w (RdgOut w) := by
  have HB := Lib.hid hb
  clear hb
  go_enter Try.func10, Try.ntmps10
  go_wp2_with (go_at_call 21; refine (new_any a len cap _ hlm HB.out).mono ?_; rintro e w1 ⟨rfl, hc1, hb1⟩; refine Hid.out ?_)
  have H1 := Lib.hid (And.intro hc1 hb1)
  clear hc1 hb1
  refine Lib.hid ?_
  go_wp2_with (go_at_call 23; refine (readings_from w.heap.size a len cap _ H1.out.1).mono ?_; rintro e w2 ⟨v, L, rfl, h1, h2, h3, h4, h5, h6⟩)
  go_ret
  exact ⟨v, L, rfl, h1, h2, h3, h4.mono H1.out.2.size, H1.out.2.grown h6 H1.out.2.size (fun j hj => by cases hj; exact Nat.le_refl _)⟩
end Go.Proofs.Ytekdnhhmiabngaa.cur

/- The draw of values for the senses of some tasks: no more than four rows of readings, in new memory; nothing that was there is written. -/
namespace Go.Proofs.Ytekdnhhmiabngaa.cur
open Go Go.ChangeShapes Go.WideShapes Go.ChangeAt Go.RowKit Go.Proofs.Ytekdnhhmiabngaa.srow
abbrev RRow := @Go.Proofs.Ytekdnhhmiabngaa.row.Row
/-- The lists that these cells hold, in new memory apart from the block 'r'. -/
def Elems (B : Nat) (w : World) (r : Option Nat) (CS : List Value) (LL : List (List Int)) : Prop :=
  LL.length = CS.length ∧ ∀ j, j < CS.length → ∃ (L : List Int) (g c : Nat), LL[j]? = some L ∧ CS[j]? = some (.slice (some ⟨g, 0, none⟩) L.length c) ∧ L.length ≤ c ∧ B ≤ g ∧ g < w.heap.size ∧ r ≠ some g ∧ RdgIn L ∧ L.length ≤ 9 ∧ RRow w (some ⟨g, 0, none⟩) L.length L
theorem Elems.nil (B : Nat) (w : World) (r : Option Nat) : Elems B w r [] [] := ⟨rfl, fun j h => by simp at h⟩
theorem Elems.grown {B : Nat} {w w' : World} {r q : Option Nat} {CS : List Value} {LL : List (List Int)} (h : Elems B w r CS LL) (hg : w.grownBy w' q) (hq : ∀ b, q = some b → b < B ∨ r = some b) : Elems B w' r CS LL :=
  ⟨h.1, fun j hj => by
    obtain ⟨L, g, c, h1, h2, h3, h4, h5, h6, h7, h8, h9⟩ := h.2 j hj
    refine ⟨L, g, c, h1, h2, h3, h4, Nat.lt_of_lt_of_le h5 hg.size, h6, h7, h8, h9.grown hg fun b off e hb => ?_⟩
    have h0 : g = b := by injection e with e; injection e
    rcases hq b hb.symm with h10 | h10
    · omega
    · exact h6 (by rw [h10, h0])⟩
theorem Elems.next {B : Nat} {w : World} {r r' : Option Nat} {CS : List Value} {LL : List (List Int)} (h : Elems B w r CS LL) (hr : r' = r ∨ ∀ b, r' = some b → ∀ j L g c, j < CS.length → LL[j]? = some L → CS[j]? = some (.slice (some ⟨g, 0, none⟩) L.length c) → g ≠ b) {L : List Int} {g c : Nat} (hc : L.length ≤ c) (hB : B ≤ g) (hg : g < w.heap.size) (hrg : r' ≠ some g) (hi : RdgIn L) (hl : L.length ≤ 9) (hR : RRow w (some ⟨g, 0, none⟩) L.length L) : Elems B w r' (CS ++ [.slice (some ⟨g, 0, none⟩) L.length c]) (LL ++ [L]) := by
  refine ⟨by simp [h.1], fun j hj => ?_⟩
  by_cases e : j < CS.length
  · obtain ⟨L', g', c', h1, h2, h3, h4, h5, h6, h7, h8, h9⟩ := h.2 j e
    refine ⟨L', g', c', by rw [List.getElem?_append_left (by rw [h.1]; exact e)]; exact h1, by rw [List.getElem?_append_left e]; exact h2, h3, h4, h5, ?_, h7, h8, h9⟩
    rcases hr with rfl | hr
    · exact h6
    · exact fun e2 => hr g' e2 j L' g' c' e h1 h2 rfl
  · obtain rfl : j = CS.length := by simp at hj; omega
    refine ⟨L, g, c, by rw [← h.1]; simp, by simp, hc, hB, hg, hrg, hi, hl, hR⟩
def UsdFrom (cb : Nat) (w : World) (e : Ending) (w' : World) : Prop :=
  ∃ (g n c : Nat) (CS : List Value) (LL : List (List Int)), e = .returned (.slice (some ⟨g, 0, none⟩) n c) ∧ n ≤ 4 ∧ Hid (w'.ownsRow w.heap.size 28 1 (.slice (some ⟨g, 0, none⟩) n c) n CS) ∧ Hid (w.heap.size ≤ g ∧ n ≤ c ∧ g < w'.heap.size) ∧ Hid (Elems w.heap.size w' (some g) CS LL) ∧ w.grownBy w' (some cb)
/-- Drawn rows in new memory. -/
def UsdOut (w : World) (e : Ending) (w' : World) : Prop :=
  ∃ (g n c : Nat) (LL : List (List Int)), e = .returned (.slice (some ⟨g, 0, none⟩) n c) ∧ n ≤ c ∧ n ≤ 4 ∧ w.heap.size ≤ g ∧ Hid (∀ L ∈ LL, RdgIn L ∧ L.length ≤ 9) ∧ Hid (SRow w' (some ⟨g, 0, none⟩) n LL) ∧ Below w.heap.size w w'
set_option maxHeartbeats 4000000 in
set_option maxRecDepth 100000 in
theorem used_from (cb : Nat) (a : Option Addr) (len cap : Nat) (w : World) (hc : Cur cb a len cap w) :
    Calls Try.prog 35 #[.pointer (some ⟨cb, 0, none⟩)] w (UsdFrom cb w) := by
  obtain ⟨i0, hi, hz0, hz1, hz2⟩ := info_parts srow.infoInts
  have hs1 : cb < w.heap.size := hc.lt
  have h0s : (w.alloc (.cells #[] 28)).heap.size = w.heap.size + 1 := by simp
  have HC0 := Lib.hid (And.intro (hc.alloc (.cells #[] 28)) (And.intro (show (w.alloc (.cells #[] 28)).ownsRow w.heap.size 28 1 (.slice (some ⟨w.heap.size, 0, none⟩) 0 0) 0 [] from World.ownsRow_made w #[] 0 (Nat.le_refl _) (by decide) rfl) (grownBy_trans (grownBy_refl w (some cb)) (World.grownBy_alloc w (.cells #[] 28) (some cb)))))
  clear hc
  go_enter Try.func35, Try.ntmps35
  go_wp2
  go_loopw [3, 4] (fun v i wr => ∃ (k g c : Nat) (CS : List Value) (LL : List (List Int)), k ≤ 4 ∧ i = .int .i64 k ∧ v = .slice (some ⟨g, 0, none⟩) k c ∧ Hid (wr.ownsRow w.heap.size 28 1 (.slice (some ⟨g, 0, none⟩) k c) k CS) ∧ Hid (w.heap.size ≤ g ∧ k ≤ c ∧ g < wr.heap.size) ∧ Hid (Elems w.heap.size wr (some g) CS LL) ∧ Hid (Cur cb a len cap wr) ∧ Hid (w.grownBy wr (some cb))) (fun _ i _ => 5 - (intOf i).toNat)
  case atStart => exact ⟨0, w.heap.size, 0, [], [], Nat.zero_le _, rfl, rfl, HC0.out.2.1, ⟨Nat.le_refl _, Nat.le_refl _, by omega⟩, Elems.nil _ _ _, HC0.out.1, HC0.out.2.2⟩
  case round =>
    obtain ⟨k, g, c, CS, LL, hk, rfl, rfl, HO, HG, HE, HCU, HGR⟩ := hrel
    go_wp2_with (go_at_call 31; (with_reducible refine (below_any cb a len cap 5 (by omega) _ HCU.out).mono ?_); rintro e wz ⟨z, rfl, hz0', hz1', hcu, hgz⟩; refine Hid.out ?_)
    have hown := HO.out.kept hgz (.inr (fun e => by have h1 : g = cb := Option.some.inj e; have := HG.out.1; omega))
    have hel := HE.out.grown hgz (fun b hb => by left; have h1 : cb = b := Option.some.inj hb; omega)
    have hgr := grownBy_trans HGR.out hgz
    have H1 := Lib.hid (And.intro hown (And.intro hel (And.intro hcu (And.intro hgr (Nat.lt_of_lt_of_le HG.out.2.2 hgz.size)))))
    clear hown hel hcu hgr hgz
    by_cases hlt : (k : Int) < z
    · refine Lib.hid ?_
      go_wp2_with (go_at_call 23; (with_reducible refine (readings_from cb a len cap _ H1.out.2.2.1).mono ?_); rintro e w2 ⟨v2, L, rfl, hl1, hl9, hin, ho2, hc2, hg2⟩; refine Hid.out ?_)
      obtain ⟨g2, cp2, rfl, hb2, hl2⟩ := ho2.form (by omega)
      have hcap2 : L.length ≤ cp2 := by
        rcases ho2.2 with ⟨hv, _⟩ | ⟨q, cq, cur, hv, _, _, hle, _⟩
        · cases hv
        · simp only [Value.slice.injEq] at hv; omega
      have hown2 := H1.out.1.kept hg2 (.inr (fun e => by have h1 : g = cb := Option.some.inj e; have := HG.out.1; omega))
      have hel2 := H1.out.2.1.grown hg2 (fun b hb => by left; have h1 : cb = b := Option.some.inj hb; omega)
      have hrow2 : RRow w2 (some ⟨g2, 0, none⟩) L.length L := Go.Proofs.Ytekdnhhmiabngaa.row.Row.of_own ho2
      have hwz : w.heap.size ≤ wz.heap.size := H1.out.2.2.2.1.size
      have hgl := H1.out.2.2.2.2
      have hsz2 := hg2.size
      have H2 := Lib.hid (And.intro hown2 (And.intro hel2 (And.intro hrow2 (And.intro hc2 (grownBy_trans H1.out.2.2.2.1 hg2)))))
      have HIN := Lib.hid hin.out
      clear hown2 hel2 hrow2 hc2 hg2 ho2 hin
      refine Lib.hid ?_
      go_wp2_with (at_builtin; refine wpList_append_own_at _ rfl _ _ 42 rfl w.heap.size 28 i0 (.slice none 0 0) 1 24 Try.underlying42 hi hz0 hz1 hz2 rfl (by decide) _ _ _ rfl (H2.out.1.alloc _) ⟨w2.heap.size, 0, none⟩ 1 1 [.slice (some ⟨g2, 0, none⟩) L.length cp2] rfl rfl (World.news_of_block (cs := #[.slice (some ⟨g2, 0, none⟩) L.length cp2]) (t := 28) (fr := (0, 0)) (heap_alloc_new w2 _)) (by simp [Value.oneCell']) (by unfold maxLen; omega) (by omega) (by simp; omega) ?_; intro v3 w3 hown3 hgrow3 _ hat3; refine Hid.out ?_)
      obtain ⟨g3, c3, rfl, hg3, hg3l⟩ := hown3.form (by omega)
      have hc3' : k + 1 ≤ c3 := by
        rcases hown3.2 with ⟨hv, _⟩ | ⟨q, cq, cur, hv, _, _, hle, _⟩
        · cases hv
        · simp only [Value.slice.injEq] at hv; omega
      have hal := World.grownBy_alloc w2 (.cells #[.slice (some ⟨g2, 0, none⟩) L.length cp2] 28) (some g)
      have hgw : w2.grownBy w3 (some g) := grownBy_trans hal hgrow3
      have hel3 := H2.out.2.1.grown hgw (fun b hb => .inr hb)
      have hrow3 := H2.out.2.2.1.grown hgw (fun b off e hb => by
        have h1 : g2 = b := by injection e with e; injection e
        have h2 : b = g := Option.some.inj hb
        omega)
      have hrr : some g3 = some g ∨ ∀ b, some g3 = some b → ∀ j L' g' c', j < CS.length → LL[j]? = some L' → CS[j]? = some (.slice (some ⟨g', 0, none⟩) L'.length c') → g' ≠ b := by
        rcases hat3 with h | h
        · exact .inl h
        · right
          intro b hb j L' g' c' hj h1 h2 e
          have h3 : some g3 = some (w2.heap.size + 1) := by simpa [Value.ownBlock] using h
          obtain ⟨L8, g8, c8, k1, k2, _, _, k5, _⟩ := H2.out.2.1.2 j hj
          rw [k2] at h2
          have h4 : g8 = g' := by injection h2 with h2; injection h2 with h2; injection h2 with h2; injection h2
          have h5 := Option.some.inj h3; have h6 := Option.some.inj hb
          omega
      have hg23 : some g3 ≠ some g2 := fun e => by
        have h1 := Option.some.inj e
        rcases hat3 with h | h
        · have h2 : g3 = g := Option.some.inj h
          omega
        · have h3 : some g3 = some (w2.heap.size + 1) := by simpa [Value.ownBlock] using h
          have := Option.some.inj h3; omega
      have hs23 := hgw.size
      have hE3 := hel3.next hrr hcap2 (show w.heap.size ≤ g2 by omega) (show g2 < w3.heap.size by omega) hg23 HIN.out hl9 hrow3
      have hc3 : Cur cb a len cap w3 := (H2.out.2.2.2.1.alloc _).keep hgrow3 (fun j hj => by have h1 : g = j := Option.some.inj hj; have := HG.out.1; omega)
      have hg3' := grownBy_own (grownBy_trans H2.out.2.2.2.2 (World.grownBy_alloc w2 (.cells #[.slice (some ⟨g2, 0, none⟩) L.length cp2] 28) (some cb))) hgrow3 (fun j hj => by have h1 : g = j := Option.some.inj hj; have := HG.out.1; omega)
      have H3 := Lib.hid (And.intro hown3 (And.intro (And.intro hg3 (And.intro hc3' hg3l)) (And.intro hE3 (And.intro hc3 hg3'))))
      clear hown3 hgrow3 hat3 hal hgw hel3 hrow3 hrr hg23 hE3 hc3 hg3' hc3'
      refine Lib.hid ?_
      go_wp2
      go_roundw
      case rel => exact ⟨k + 1, g3, c3, _, _, by omega, by go_num, rfl, H3.out.1, H3.out.2.1, H3.out.2.2.1, H3.out.2.2.2.1, H3.out.2.2.2.2⟩
      case measure => simp [intOf]; omega
    · refine Lib.hid ?_
      go_wp2
      go_ret
      exact ⟨g, k, c, CS, LL, rfl, hk, H1.out.1, ⟨HG.out.1, HG.out.2.1, H1.out.2.2.2.2⟩, H1.out.2.1, H1.out.2.2.2.1⟩
theorem srow_of {w : World} {B g n c : Nat} {CS : List Value} {LL : List (List Int)} {ty : TypeId} (h : w.ownsRow B ty 1 (.slice (some ⟨g, 0, none⟩) n c) n CS) (hE : Elems B w (some g) CS LL) (hg : g < w.heap.size) : SRow w (some ⟨g, 0, none⟩) n LL := by
  have hl : CS.length = n := by have := h.1; omega
  refine ⟨by rw [hE.1, hl], fun k hk => ?_⟩
  obtain ⟨L, q, cq, h1, h2, h3, _, _, _, _, _, h9⟩ := hE.2 k (by omega)
  refine ⟨g, 0, L, _, _, _, rfl, hg, h1, ?_, h3, h9⟩
  rw [Nat.zero_add, h.cellAt k (by omega)]; exact h2
theorem used_any (a : Option Addr) (len cap : Nat) (w : World) (hlm : (len : Int) ≤ 1048576) (hb : ∀ i : Nat, i < len → ∃ (b off : Nat) (v : Int), a = some ⟨b, off, none⟩ ∧ w.cell? ⟨b, off + i, none⟩ = some (.int .u8 v)) :
    Calls Try.prog 16 #[.slice a len cap] w (UsdOut w) := by
  have HB := Lib.hid hb
  clear hb
  go_enter Try.func16, Try.ntmps16
  go_wp2_with (go_at_call 21; refine (new_any a len cap _ hlm HB.out).mono ?_; rintro e w1 ⟨rfl, hc1, hb1⟩; refine Hid.out ?_)
  have H1 := Lib.hid (And.intro hc1 hb1)
  clear hc1 hb1
  refine Lib.hid ?_
  go_wp2_with (go_at_call 35; refine (used_from w.heap.size a len cap _ H1.out.1).mono ?_; rintro e w2 ⟨g, n, c, CS, LL, rfl, h4, ho, hg, hE, hgr⟩; refine Hid.out ?_)
  have HR := Lib.hid (And.intro (srow_of ho.out hE.out hg.out.2.2) (H1.out.2.grown hgr H1.out.2.size (fun j hj => by cases hj; exact Nat.le_refl _)))
  have HI := Lib.hid (show ∀ L ∈ LL, RdgIn L ∧ L.length ≤ 9 from fun L hL => by
    obtain ⟨j, hj⟩ := List.mem_iff_getElem?.1 hL
    obtain ⟨L', _, _, k1, _, _, _, _, _, k7, k8, _⟩ := hE.out.2 j (by have := (List.getElem?_eq_some_iff.1 hj).1; have := hE.out.1; omega)
    rw [hj] at k1; cases k1; exact ⟨k7, k8⟩)
  have HGG := Lib.hid (And.intro hg.out.2.1 (Nat.le_trans H1.out.2.size hg.out.1))
  clear hgr hE ho hg
  refine Lib.hid ?_
  go_wp2
  go_ret
  exact ⟨g, n, c, LL, rfl, HGG.out.1, h4, HGG.out.2, HI, HR.out.1, HR.out.2⟩
end Go.Proofs.Ytekdnhhmiabngaa.cur

/- Parts of a slice of slices: 'u[:k]', 'u[k:]'. -/
namespace Go.Proofs.Ytekdnhhmiabngaa.srow
open Go Go.ChangeShapes Go.WideShapes Go.ChangeAt Go.RowKit Go.Proofs.Ytekdnhhmiabngaa.row
theorem elemSS : Try.prog.underlying 42 = some (.slice (Try.prog.elem 42)) := by kernel_rfl
theorem sizeSS (w : World) : (sizeOf (Try.prog.elem 42)).run Try.prog w = .ok 1 w := by kernel_rfl
theorem cut_hS (g n cap q : Nat) (hc : q ≤ cap) (w : World) : (Instr.sliceAt 42 (.slice (some ⟨g, 0, none⟩) n cap) none (some (.int .i64 q)) none).run Try.prog w = .ok (.slice (some ⟨g, 0, none⟩) q cap) w := by
  rw [run_sliceAt_slice w _ _ _ _ _ elemSS, Go.run_slice_h w _ _ _ _ elemSS _ _ (by omega) (by omega), sizeSS]
  simp only [Result.andThen, sliced]
  rw [Nat.sub_zero, show ((q : Int)).toNat = q by omega, Nat.zero_mul, Option.map_some, Addr.add_mid, Nat.add_zero, ite_self, Nat.sub_zero]
theorem cut_lS (g n cap q o r c : Nat) (Q : Int) (hQ : Q = q) (hq : q ≤ n) (ho : (if cap = q then 0 else q) = o) (hr : n - q = r) (hc : cap - q = c) (w : World) : (Instr.sliceAt 42 (.slice (some ⟨g, 0, none⟩) n cap) (some (.int .i64 Q)) none none).run Try.prog w = .ok (.slice (some ⟨g, o, none⟩) r c) w := by
  subst hQ hr hc
  rw [run_sliceAt_slice w _ _ _ _ _ elemSS, Go.run_slice_l w _ _ _ _ elemSS _ _ (by omega) (by omega), sizeSS]
  simp only [Result.andThen, sliced]
  rw [show ((q : Int)).toNat = q by omega, Nat.mul_one, Option.map_some, Addr.add_mid, Nat.zero_add, ← ho]
  by_cases h : cap = q
  · rw [if_pos h, if_pos h]
  · rw [if_neg h, if_neg h]
theorem SRow.head {w : World} {g n k : Nat} {LL : List (List Int)} (h : SRow w (some ⟨g, 0, none⟩) n LL) (hk : k ≤ n) : SRow w (some ⟨g, 0, none⟩) k (LL.take k) := by
  refine ⟨by rw [List.length_take, h.1]; omega, fun j hj => ?_⟩
  obtain ⟨q, off, L, ab, nb, cb, e, h1, h2, h3, h4, h5⟩ := h.2 j (by omega)
  exact ⟨q, off, L, ab, nb, cb, e, h1, by rw [List.getElem?_take_of_lt hj]; exact h2, h3, h4, h5⟩
theorem SRow.tail {w : World} {g n k o : Nat} {LL : List (List Int)} (h : SRow w (some ⟨g, 0, none⟩) n LL) (hk : k ≤ n) (ho : k < n → o = k) : SRow w (some ⟨g, o, none⟩) (n - k) (LL.drop k) := by
  refine ⟨by rw [List.length_drop, h.1], fun j hj => ?_⟩
  obtain ⟨q, off, L, ab, nb, cb, e, h1, h2, h3, h4, h5⟩ := h.2 (k + j) (by omega)
  have e0 : off = 0 ∧ q = g := by injection e with e; injection e with e1 e2; exact ⟨e2.symm, e1.symm⟩
  obtain ⟨rfl, rfl⟩ := e0
  refine ⟨q, o, L, ab, nb, cb, rfl, h1, by rw [List.getElem?_drop]; exact h2, ?_, h4, h5⟩
  rw [ho (by omega), ← h3]
  congr 2; omega
end Go.Proofs.Ytekdnhhmiabngaa.srow
