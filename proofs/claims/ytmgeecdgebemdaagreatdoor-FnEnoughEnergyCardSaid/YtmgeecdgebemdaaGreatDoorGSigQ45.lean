/- Several texts in one: QCur QPlaces. -/
import Derived.Test.YtmgeecdgebemdaaGreatDoorRows
import Derived.WalkKit
import Derived.ProofKit
import Derived.OpenShut
import Derived.Lib.Hide
import Derived.Deep.QuietTactic
import Derived.BigQuiet
import Derived.Below
import Derived.Laws.BitsLemmas
import Derived.Deep.AppendLies
import Derived.Laws.OwnMore
import Derived.WalkSpells
import Derived.Deep.Onto
import Derived.StillTailTactics
import Derived.OwnWalk

/- The contracts of the cursor over the drawn bytes: what each draw returns lies in its range, and nothing that was there is written. -/
namespace Go.Proofs.YtmgeecdgebemdaaGreatDoor.cur
open Go.ChangeShapes Go.WideShapes Go.ChangeAt Go.RowKit
theorem and255 (n : Int) : bits .and .i64 n 255 = n % 256 := by
  have h127 : (BitVec.ofInt 64 255).toNat = 2 ^ 8 - 1 := by decide
  have key : (BitVec.ofInt 64 n &&& BitVec.ofInt 64 255).toNat = (n % ((2 ^ 64 : Nat) : Int)).toNat % 2 ^ 8 := by
    rw [BitVec.toNat_and, BitVec.toNat_ofInt, h127, Nat.and_two_pow_sub_one_eq_mod]
  show IntKind.i64.wrap ((BitVec.ofInt 64 n &&& BitVec.ofInt 64 255).toNat : Nat) = n % 256
  rw [key, IntKind.wrap_i64]
  omega

theorem block_setCell {w : World} {g i : Nat} {cs : Array Value} {t : TypeId} {fr : Nat × Nat} (h : w.heap[g]? = some (.cells cs t fr)) (v : Value) : (w.setCell ⟨g, i, none⟩ v).heap[g]? = some (.cells (cs.setIfInBounds i v) t fr) := by
  simp [World.setCell, Array.getElem?_modify, h]

theorem grownBy_setCell (w : World) (b i : Nat) (v : Value) : w.grownBy (w.setCell ⟨b, i, none⟩ v) (some b) :=
  ⟨rfl, rfl, rfl, by simp, fun k hk hne => heap_setCell_other w _ k v (by intro e; exact hne (by rw [e]))⟩

theorem grownBy_trans {w w1 w2 : World} {r : Option Nat} (h : w.grownBy w1 r) (h2 : w1.grownBy w2 r) : w.grownBy w2 r :=
  ⟨h2.os.trans h.os, h2.tape.trans h.tape, h2.output.trans h.output, Nat.le_trans h.size h2.size,
    fun k hk hne => (h2.block k (Nat.lt_of_lt_of_le hk h.size) hne).trans (h.block k hk hne)⟩

theorem grownBy_drewN {w w1 : World} {r : Option Nat} (h : w.grownBy w1 r) (n : Nat) : w.grownBy (w1.drewN n) r :=
  ⟨h.os, h.tape, h.output, h.size, h.block⟩

theorem grownBy_refl (w : World) (r : Option Nat) : w.grownBy w r := ⟨rfl, rfl, rfl, Nat.le_refl _, fun _ _ _ => rfl⟩

/-- The cursor lies in block 'cb': the slice that it reads, its place and its number. -/
def CurAt (cb : Nat) (a : Option Addr) (len cap : Nat) (i h : Int) (w : World) : Prop :=
  w.heap[cb]? = some (.cells #[.slice a len cap, .int .i64 i, .int .i64 h] 136 (0, 0))

theorem CurAt.cells {cb : Nat} {a : Option Addr} {len cap : Nat} {i h : Int} {w : World} (c : CurAt cb a len cap i h w) :
    w.cell? ⟨cb, 0, none⟩ = some (.slice a len cap) ∧ w.cell? ⟨cb, 1, none⟩ = some (.int .i64 i) ∧ w.cell? ⟨cb, 2, none⟩ = some (.int .i64 h) ∧
    w.frozen? ⟨cb, 0, none⟩ = false ∧ w.frozen? ⟨cb, 1, none⟩ = false ∧ w.frozen? ⟨cb, 2, none⟩ = false := by
  unfold CurAt at c
  refine ⟨?_, ?_, ?_, ?_, ?_, ?_⟩ <;> simp [World.cell?, World.frozen?, c]

theorem CurAt.set2 {cb : Nat} {a : Option Addr} {len cap : Nat} {i h : Int} {w : World} (c : CurAt cb a len cap i h w) (h' : Int) :
    CurAt cb a len cap i h' (w.setCell ⟨cb, 2, none⟩ (.int .i64 h')) := by
  unfold CurAt at *; rw [block_setCell c]; rfl
theorem CurAt.set1 {cb : Nat} {a : Option Addr} {len cap : Nat} {i h : Int} {w : World} (c : CurAt cb a len cap i h w) (i' : Int) :
    CurAt cb a len cap i' h (w.setCell ⟨cb, 1, none⟩ (.int .i64 i')) := by
  unfold CurAt at *; rw [block_setCell c]; rfl

/-- What is known of the drawn bytes: each place below 'len' holds a byte, in a block that is not the cursor's. -/
def Bytes (cb : Nat) (a : Option Addr) (len : Nat) (w : World) : Prop :=
  len ≤ maxLen ∧ ∀ i : Nat, i < len → ∃ (b off : Nat) (v : Int), a = some ⟨b, off, none⟩ ∧ b < cb ∧ w.cell? ⟨b, off + i, none⟩ = some (.int .u8 v)

theorem Bytes.grown {cb : Nat} {a : Option Addr} {len : Nat} {w w' : World} (h : Bytes cb a len w) (g : w.grownBy w' (some cb)) : Bytes cb a len w' :=
  ⟨h.1, fun i hi => by
    obtain ⟨b, off, v, ha, hb, hv⟩ := h.2 i hi
    exact ⟨b, off, v, ha, hb, g.cell hv (by simp; omega)⟩⟩

def ByteOut (cb : Nat) (a : Option Addr) (len cap : Nat) (w : World) (e : Ending) (w' : World) : Prop :=
  ∃ x i' h' : Int, e = .returned (.int .i64 x) ∧ 0 ≤ x ∧ x ≤ 255 ∧ 0 ≤ i' ∧ CurAt cb a len cap i' h' w' ∧ w.grownBy w' (some cb)

theorem byte_end {cb : Nat} {a : Option Addr} {len cap : Nat} {i h : Int} {w : World} (hc : CurAt cb a len cap i h w) (h2 i2 : Int) (hi2 : 0 ≤ i2) (y : Int) (n : Nat) :
    ByteOut cb a len cap w (.returned (.int .i64 (bits .and .i64 y 255))) (((w.setCell ⟨cb, 2, none⟩ (.int .i64 h2)).drewN n).setCell ⟨cb, 1, none⟩ (.int .i64 i2)) := by
  refine ⟨_, i2, h2, rfl, by rw [and255]; omega, by rw [and255]; omega, hi2, ?_, ?_⟩
  · exact CurAt.set1 (w := (w.setCell ⟨cb, 2, none⟩ (.int .i64 h2)).drewN n) (hc.set2 h2) i2
  · exact grownBy_trans (grownBy_drewN (grownBy_setCell w cb 2 _) n) (grownBy_setCell _ cb 1 _)

theorem byte_end' {cb : Nat} {a : Option Addr} {len cap : Nat} {i h : Int} {w : World} (hc : CurAt cb a len cap i h w) (h2 : Int) (hi2 : 0 ≤ i) (y : Int) (n m : Nat) :
    ByteOut cb a len cap w (.returned (.int .i64 (bits .and .i64 y 255))) (((w.setCell ⟨cb, 2, none⟩ (.int .i64 h2)).drewN n).drewN m) :=
  ⟨_, i, h2, rfl, by rw [and255]; omega, by rw [and255]; omega, hi2, hc.set2 h2, grownBy_drewN (grownBy_drewN (grownBy_setCell w cb 2 _) n) m⟩

set_option maxRecDepth 100000 in
theorem byte_in (cb b off len cap : Nat) (i h v : Int) (w : World) (hc : CurAt cb (some ⟨b, off, none⟩) len cap i h w)
    (hv : w.cell? ⟨b, off + i.toNat, none⟩ = some (.int .u8 v)) (hne : b ≠ cb) (hi0 : 0 ≤ i) (hi : i < len) (hlm : len ≤ maxLen) :
    Calls Tryz.prog 115 #[.pointer (some ⟨cb, 0, none⟩)] w (ByteOut cb (some ⟨b, off, none⟩) len cap w) := by
  unfold maxLen at hlm
  obtain ⟨hc0, hc1, hc2, hf0, hf1, hf2⟩ := hc.cells
  go_enter Tryz.func115, Tryz.ntmps115
  go_wp2
  go_quiet (fail)
  go_wp2
  go_quiet (fail)
  go_wp2
  go_quiet (fail)
  go_wp2
  go_ret
  exact byte_end hc _ _ (by omega) _ _

set_option maxRecDepth 100000 in
theorem byte_out (cb len cap : Nat) (a : Option Addr) (i h : Int) (w : World) (hc : CurAt cb a len cap i h w) (hi0 : 0 ≤ i) (hi : ¬ i < len) :
    Calls Tryz.prog 115 #[.pointer (some ⟨cb, 0, none⟩)] w (ByteOut cb a len cap w) := by
  obtain ⟨hc0, hc1, hc2, hf0, hf1, hf2⟩ := hc.cells
  go_enter Tryz.func115, Tryz.ntmps115
  go_wp2
  go_quiet (fail)
  go_wp2
  go_quiet (fail)
  go_wp2
  go_ret
  exact byte_end' hc _ hi0 _ _ _

/-- The cursor and its bytes. -/
def Cur (cb : Nat) (a : Option Addr) (len cap : Nat) (w : World) : Prop := Bytes cb a len w ∧ ∃ i h : Int, 0 ≤ i ∧ CurAt cb a len cap i h w

theorem Cur.other {cb : Nat} {a : Option Addr} {len cap : Nat} {w w' : World} (h : Cur cb a len cap w) (hs : ∀ k, k < w.heap.size → w'.heap[k]? = w.heap[k]?) : Cur cb a len cap w' := by
  obtain ⟨⟨h1, h2⟩, i, x, h3, h4⟩ := h
  refine ⟨⟨h1, fun j hj => ?_⟩, i, x, h3, ?_⟩
  · obtain ⟨b, off, v, ha, hb, hv⟩ := h2 j hj
    exact ⟨b, off, v, ha, hb, (World.cell?_of_block (hs b (World.block_lt_of_cell? w _ hv))).trans hv⟩
  · unfold CurAt at *
    exact (hs cb (Array.getElem?_eq_some_iff.1 h4).1).trans h4

theorem Cur.alloc {cb : Nat} {a : Option Addr} {len cap : Nat} {w : World} (h : Cur cb a len cap w) (o : Obj) : Cur cb a len cap (w.alloc o) :=
  h.other fun k hk => Below.heap_alloc w o k hk

/-- A write to a row that lies above the cursor. -/
theorem Cur.keep {cb : Nat} {a : Option Addr} {len cap : Nat} {w w' : World} {row : Option Nat} (h : Cur cb a len cap w) (g : w.grownBy w' row) (hr : ∀ k, row = some k → cb < k) : Cur cb a len cap w' := by
  obtain ⟨⟨h1, h2⟩, i, x, h3, h4⟩ := h
  refine ⟨⟨h1, fun j hj => ?_⟩, i, x, h3, ?_⟩
  · obtain ⟨b, off, v, ha, hb, hv⟩ := h2 j hj
    exact ⟨b, off, v, ha, hb, g.cell hv (fun e => by have := hr b e.symm; omega)⟩
  · unfold CurAt at *
    rw [g.block cb (Array.getElem?_eq_some_iff.1 h4).1 (fun e => by have := hr cb e.symm; omega)]
    exact h4

theorem grownBy_own {w0 w1 w2 : World} {r r2 : Option Nat} (h : w0.grownBy w1 r) (h2 : w1.grownBy w2 r2) (hr : ∀ k, r2 = some k → w0.heap.size ≤ k) : w0.grownBy w2 r :=
  ⟨h2.os.trans h.os, h2.tape.trans h.tape, h2.output.trans h.output, Nat.le_trans h.size h2.size,
    fun k hk hne => (h2.block k (Nat.lt_of_lt_of_le hk h.size) (fun e => by have := hr k e.symm; omega)).trans (h.block k hk hne)⟩

theorem Cur.lt {cb : Nat} {a : Option Addr} {len cap : Nat} {w : World} (h : Cur cb a len cap w) : cb < w.heap.size := by
  obtain ⟨_, i, x, _, h4⟩ := h
  exact (Array.getElem?_eq_some_iff.1 h4).1

/-- A draw's end: a number from 0 on and below 'n'; the cursor stays one; no other block is touched. -/
def NumOut (n : Int) (cb : Nat) (a : Option Addr) (len cap : Nat) (w : World) (e : Ending) (w' : World) : Prop :=
  ∃ x : Int, e = .returned (.int .i64 x) ∧ 0 ≤ x ∧ x < n ∧ Cur cb a len cap w' ∧ w.grownBy w' (some cb)

theorem byte_any (cb : Nat) (a : Option Addr) (len cap : Nat) (w : World) (hc : Cur cb a len cap w) :
    Calls Tryz.prog 115 #[.pointer (some ⟨cb, 0, none⟩)] w (NumOut 256 cb a len cap w) := by
  obtain ⟨hb, i, h, hi, hc⟩ := hc
  have fin : ∀ e w', ByteOut cb a len cap w e w' → NumOut 256 cb a len cap w e w' := by
    rintro e w' ⟨x, i', h', rfl, hx0, hx1, hi', hc', hg⟩
    exact ⟨x, rfl, hx0, by omega, ⟨hb.grown hg, i', h', hi', hc'⟩, hg⟩
  by_cases hlt : i < len
  · obtain ⟨b, off, v, rfl, hne, hv⟩ := hb.2 i.toNat (by omega)
    exact (byte_in cb b off len cap i h v w hc hv (by omega) hi hlt hb.1).mono fin
  · exact (byte_out cb len cap a i h w hc hi hlt).mono fin

theorem byte_from (w0 : World) (cb : Nat) (a : Option Addr) (len cap : Nat) (w : World) (hc : Cur cb a len cap w) (hg : w0.grownBy w (some cb)) :
    Calls Tryz.prog 115 #[.pointer (some ⟨cb, 0, none⟩)] w (NumOut 256 cb a len cap w0) :=
  (byte_any cb a len cap w hc).mono fun _ _ ⟨x, he, h0, h1, h2, h3⟩ => ⟨x, he, h0, h1, h2, grownBy_trans hg h3⟩

set_option maxRecDepth 100000 in
theorem below_any (cb : Nat) (a : Option Addr) (len cap : Nat) (n : Int) (hn : 0 < n) (w : World) (hc : Cur cb a len cap w) :
    Calls Tryz.prog 55 #[.pointer (some ⟨cb, 0, none⟩), .int .i64 n] w (NumOut n cb a len cap w) := by
  have hg0 : w.grownBy w (some cb) := grownBy_refl w _
  by_cases hs : n ≤ 256
  · have hn' : ¬ n ≤ 0 := by omega
    go_enter Tryz.func55, Tryz.ntmps55
    go_wp2_with (go_at_call 115; refine (byte_from w cb a len cap _ hc hg0).mono ?_; rintro e w1 ⟨x, rfl, hx0, hx1, hc1, hg1⟩)
    go_ret
    exact ⟨_, rfl, Int.emod_nonneg _ (by omega), Int.emod_lt_of_pos _ hn, hc1, hg1⟩
  · have hn' : ¬ n ≤ 0 := by omega
    go_enter Tryz.func55, Tryz.ntmps55
    go_wp2_with (go_at_call 115; refine (byte_from w cb a len cap _ (by assumption) (by assumption)).mono ?_; rintro e w1 ⟨x, rfl, hx0, hx1, hc1, hg1⟩)
    go_ret
    exact ⟨_, rfl, Int.emod_nonneg _ (by omega), Int.emod_lt_of_pos _ hn, by assumption, by assumption⟩

theorem below_from (w0 : World) (cb : Nat) (a : Option Addr) (len cap : Nat) (n : Int) (hn : 0 < n) (w : World) (hc : Cur cb a len cap w) (hg : w0.grownBy w (some cb)) :
    Calls Tryz.prog 55 #[.pointer (some ⟨cb, 0, none⟩), .int .i64 n] w (NumOut n cb a len cap w0) :=
  (below_any cb a len cap n hn w hc).mono fun _ _ ⟨x, he, h0, h1, h2, h3⟩ => ⟨x, he, h0, h1, h2, grownBy_trans hg h3⟩

def BoolOut (cb : Nat) (a : Option Addr) (len cap : Nat) (w : World) (e : Ending) (w' : World) : Prop :=
  ∃ x : Bool, e = .returned (.bool x) ∧ Cur cb a len cap w' ∧ w.grownBy w' (some cb)

set_option maxRecDepth 100000 in
theorem once_from (w0 : World) (cb : Nat) (a : Option Addr) (len cap : Nat) (n : Int) (hn : 0 < n) (w : World) (hc : Cur cb a len cap w) (hg : w0.grownBy w (some cb)) :
    Calls Tryz.prog 203 #[.pointer (some ⟨cb, 0, none⟩), .int .i64 n] w (BoolOut cb a len cap w0) := by
  go_enter Tryz.func203, Tryz.ntmps203
  go_wp2_with (go_at_call 55; refine (below_from w0 cb a len cap n hn _ hc hg).mono ?_; rintro e w1 ⟨x, rfl, hx0, hx1, hc1, hg1⟩)
  go_ret
  exact ⟨_, rfl, hc1, hg1⟩

/-- What the maker of a cursor hands back: a new block, and nothing else. -/
def NewOut (a : Option Addr) (len cap : Nat) (w : World) (e : Ending) (w' : World) : Prop :=
  e = .returned (.pointer (some ⟨w.heap.size, 0, none⟩)) ∧ Cur w.heap.size a len cap w' ∧ Below w.heap.size w w'

theorem new_end (a : Option Addr) (len cap : Nat) (w : World) (hlm : (len : Int) ≤ 1048576) (hb : ∀ i : Nat, i < len → ∃ (b off : Nat) (v : Int), a = some ⟨b, off, none⟩ ∧ w.cell? ⟨b, off + i, none⟩ = some (.int .u8 v)) (h : Int) :
    NewOut a len cap w (.returned (.pointer (some ⟨w.heap.size, 0, none⟩))) (w.alloc (.cells #[.slice a len cap, .int .i64 0, .int .i64 h] 136)) := by
  refine ⟨rfl, ⟨⟨by unfold maxLen; omega, fun i hi => ?_⟩, 0, h, Int.le_refl _, ?_⟩, (Below.refl _ _).alloc (Nat.le_refl _) _⟩
  · obtain ⟨b, off, v, ha, hv⟩ := hb i hi
    have hlt := World.block_lt_of_cell? w _ hv
    exact ⟨b, off, v, ha, by simpa using hlt, (World.cell?_of_block (Below.heap_alloc w _ b hlt)).trans hv⟩
  · unfold CurAt; exact Array.getElem?_push_size

set_option maxRecDepth 100000 in
theorem new_any (a : Option Addr) (len cap : Nat) (w : World) (hlm : (len : Int) ≤ 1048576) (hb : ∀ i : Nat, i < len → ∃ (b off : Nat) (v : Int), a = some ⟨b, off, none⟩ ∧ w.cell? ⟨b, off + i, none⟩ = some (.int .u8 v)) :
    Calls Tryz.prog 50 #[.slice a len cap] w (NewOut a len cap w) := by
  have fin := Lib.hid (new_end a len cap w hlm hb)
  go_enter Tryz.func50, Tryz.ntmps50
  go_wp2
  go_loop [3, 4] (fun h i => ∃ k : Nat, k ≤ len ∧ i = .int .i64 k ∧ ∃ hh : Int, h = .int .i64 hh) (fun _ i => len - (intOf i).toNat)
  case atStart => exact ⟨0, Nat.zero_le _, rfl, _, rfl⟩
  case round =>
    obtain ⟨k, hk, rfl, hh, rfl⟩ := hrel
    by_cases hlt : k < len
    · obtain ⟨b, off, v, rfl, hv⟩ := hb k hlt
      by_cases h4 : (k : Int) < 4000
      · go_wp2
        go_round
        case rel => exact ⟨k + 1, by omega, by go_num, _, rfl⟩
        case measure => simp [intOf]; omega
      · go_wp2
        go_ret
        exact fin.out _
    · go_wp2
      go_ret
      exact fin.out _

set_option maxRecDepth 100000 in
theorem big_no (a : Option Addr) (len cap : Nat) (w : World) (h : (len : Int) ≤ 1048576) :
    Calls Tryz.prog 10 #[.slice a len cap] w fun e w' => e = .returned (.bool false) ∧ w = w' := by
  have h' : ¬ (1048576 : Int) < len := by omega
  go_enter Tryz.func10, Tryz.ntmps10
  go_wp2
  go_ret
  exact ⟨rfl, rfl⟩
set_option maxRecDepth 100000 in
theorem big_yes (a : Option Addr) (len cap : Nat) (w : World) (h' : (1048576 : Int) < len) :
    Calls Tryz.prog 10 #[.slice a len cap] w fun e w' => e = .returned (.bool true) ∧ w = w' := by
  go_enter Tryz.func10, Tryz.ntmps10
  go_wp2
  go_ret
  exact ⟨rfl, rfl⟩
end Go.Proofs.YtmgeecdgebemdaaGreatDoor.cur

/- What the draws of numbers return: any int, and a new row of twelve numbers from 0 to 9999; nothing that was there is written, but the cursor. -/
namespace Go.Proofs.YtmgeecdgebemdaaGreatDoor.cur
open Go.ChangeShapes Go.WideShapes Go.ChangeAt Go.RowKit
theorem infoInt : (Tryz.prog.info? 3).map (fun i => (i.zero, i.size, i.bytes)) = some (some (.int .i64 0), 1, 8) := by kernel_rfl

def ints (L : List Int) : List Value := L.map (Value.int .i64)
/-- Twelve places in a new row. -/
def PlacesOut (w : World) (e : Ending) (w' : World) : Prop :=
  ∃ (v : Value) (L : List Int), e = .returned v ∧ L.length = 12 ∧ Hid (∀ x ∈ L, 0 ≤ x ∧ x < 10000) ∧ w'.ownsRow w.heap.size 3 1 v 12 (ints L) ∧ Below w.heap.size w w'

theorem own_atI {w : World} {base : Nat} {v : Value} {n : Nat} {L : List Int} (h : w.ownsRow base 3 1 v n (ints L)) {k : Nat} (hk : k < n) :
    ∃ (g cap : Nat), v = .slice (some ⟨g, 0, none⟩) n cap ∧ base ≤ g ∧ g < w.heap.size ∧ ∃ x : Int, L[k]? = some x ∧ w.cell? ⟨g, k, none⟩ = some (.int .i64 x) := by
  have hl : L.length = n := by have := h.1; simp [ints] at this; omega
  obtain ⟨g, c, hv, hb, hg⟩ := h.form (by omega)
  subst hv
  have hk' : k < L.length := by omega
  refine ⟨g, c, rfl, hb, hg, L[k], by simp [hk'], ?_⟩
  rw [h.cellAt k (by omega)]; simp [ints, hk']

set_option maxHeartbeats 1000000 in
set_option maxRecDepth 100000 in
theorem places_any (a : Option Addr) (len cap : Nat) (w : World) (hlm : (len : Int) ≤ 1048576) (hb : ∀ i : Nat, i < len → ∃ (b off : Nat) (v : Int), a = some ⟨b, off, none⟩ ∧ w.cell? ⟨b, off + i, none⟩ = some (.int .u8 v)) :
    Calls Tryz.prog 13 #[.slice a len cap] w (PlacesOut w) := by
  obtain ⟨i0, hi, hz0, hz1, hz2⟩ := info_parts (infoInt)
  have HB := Lib.hid hb
  clear hb
  go_enter Tryz.func13, Tryz.ntmps13
  go_wp2_with (go_at_call 50; refine (new_any a len cap _ hlm HB.out).mono ?_; rintro e w1 ⟨rfl, hc1, hb1⟩; refine Hid.out ?_)
  have hg0 := grownBy_refl w1 (some w.heap.size)
  have hs1 : w.heap.size < w1.heap.size := hc1.lt
  refine Lib.hid ?_
  go_wp2
  go_loopw [4, 5] (fun v i wr => ∃ (k : Nat) (L : List Int), k ≤ 12 ∧ i = .int .i64 k ∧ L.length = k ∧ Hid (∀ x ∈ L, 0 ≤ x ∧ x < 10000) ∧ wr.ownsRow w1.heap.size 3 1 v k (ints L) ∧ Cur w.heap.size a len cap wr ∧ w1.grownBy wr (some w.heap.size) ∧ w1.heap.size ≤ wr.heap.size) (fun _ i _ => 12 - (intOf i).toNat)
  case atStart => exact ⟨0, [], Nat.zero_le _, rfl, rfl, Lib.hid (by simp), World.ownsRow_made w1 #[] 0 (Nat.le_refl _) (by decide) rfl, hc1.alloc _, grownBy_trans hg0 (World.grownBy_alloc _ _ _), by simp⟩
  case round =>
    obtain ⟨k, L, hk, rfl, hl, HIN, hown, hcu, hgr, hsw⟩ := hrel
    have HL := Lib.hid hl
    clear hl
    by_cases hlt : k < 12
    · have hblk : ∀ j, u4.ownBlock = some j → w1.heap.size ≤ j := fun j hj => (hown.lt j hj).1
      have HBLK := Lib.hid hblk
      clear hblk
      go_wp2_with (go_at_call 55; refine (below_any w.heap.size a len cap _ (by omega) _ hcu).mono ?_; rintro e w2 ⟨x, rfl, hx0, hx1, hc2, hg2⟩; refine Hid.out ?_)
      have hown1 := hown.kept hg2 (by
        cases hv : u4.ownBlock with
        | none => exact .inl rfl
        | some j => right; have := HBLK.out j hv; intro e; injection e; omega)
      have HX := Lib.hid (show 0 ≤ x ∧ x < 10000 from ⟨hx0, hx1⟩)
      have HG2 := Lib.hid (grownBy_trans hgr hg2)
      have hsz2 := hg2.size
      clear hgr hg2 hown
      refine Lib.hid ?_
      go_wp2_with (at_builtin; refine wpList_append_own _ rfl _ _ 27 rfl w1.heap.size 3 i0 (.int .i64 0) 1 8 Tryz.underlying27 hi hz0 hz1 hz2 rfl (by decide) _ _ _ rfl (hown1.alloc _) ⟨w2.heap.size, 0, none⟩ 1 1 [.int .i64 x] rfl rfl (World.news_of_block (cs := #[.int .i64 x]) (t := 3) (fr := (0, 0)) (heap_alloc_new w2 _)) (by simp [Value.oneCell']) (by unfold maxLen; omega) (by omega) (by simp; omega) ?_; intro v3 w3 hown3 hgrow3 _; refine Hid.out ?_)
      have hc3 : Cur w.heap.size a len cap w3 := (hc2.alloc _).keep hgrow3 (fun j hj => by have := HBLK.out j hj; omega)
      have hg3 := grownBy_own (grownBy_trans HG2.out (World.grownBy_alloc w2 _ _)) hgrow3 (fun j hj => by have := HBLK.out j hj; omega)
      have hs3 : w1.heap.size ≤ w3.heap.size := by have := hgrow3.size; simp at this; omega
      have e3 : ints L ++ [Value.int .i64 x] = ints (L ++ [x]) := by simp [ints]
      rw [e3] at hown3
      have HO := Lib.hid hown3
      have HIN2 : Hid (∀ y ∈ L ++ [x], 0 ≤ y ∧ y < 10000) := by
        intro y hy
        rcases List.mem_append.1 hy with h | h
        · exact HIN.out y h
        · rw [List.mem_singleton.1 h]; exact HX.out
      clear hown3 hgrow3 e3 hown1
      refine Lib.hid ?_
      go_wp2
      go_roundw
      case rel => exact ⟨k + 1, _, by omega, by go_num, by have := HL.out; simp; omega, HIN2, HO.out, hc3, hg3, hs3⟩
      case measure => simp [intOf]; omega
    · go_wp2
      go_ret
      have hk12 : k = 12 := by omega
      subst hk12
      exact ⟨_, L, rfl, HL.out, HIN, hown.mono (by omega), hb1.grown hgr (by omega) (fun j hj => by cases hj; exact Nat.le_refl _)⟩
end Go.Proofs.YtmgeecdgebemdaaGreatDoor.cur
