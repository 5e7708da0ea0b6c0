/- Several texts in one: MemW StmI. -/
import Derived.Test.YtcmhiadaebpgmaaGreatDoorGSig13
import Derived.Test.YtcmhiadaebpgmaaGreatDoorGSig1
import Derived.Deep.RegionWith

/- Chapter 9's memory, of the model: a new memory, its variables, what it says was sent, as new rows; nothing that was there is written. -/
namespace Go.Proofs.YtcmhiadaebpgmaaGreatDoor.mem
open Go.ChangeShapes Go.WideShapes Go.ChangeAt Go.RowKit Go.Proofs.YtcmhiadaebpgmaaGreatDoor.row Go.Proofs.YtcmhiadaebpgmaaGreatDoor.val Go.Proofs.YtcmhiadaebpgmaaGreatDoor.expr Go.Proofs.YtcmhiadaebpgmaaGreatDoor.ctl

theorem row_part {w : World} {b off n o m : Nat} {L : List Int} (h : Row w (some ⟨b, off, none⟩) n L) (hm : o + m ≤ n) : Row w (some ⟨b, off + o, none⟩) m ((L.drop o).take m) := by
  have hl := h.1
  refine ⟨by simp; omega, fun k hk => ?_⟩
  obtain ⟨b', off', x, e, hlt, hx, hc⟩ := h.2 (o + k) (by omega)
  cases e
  refine ⟨b, off + o, x, rfl, hlt, ?_, by rw [Nat.add_assoc]; exact hc⟩
  rw [List.getElem?_take_of_lt hk, List.getElem?_drop]; exact hx
theorem elemI : Tryz.prog.underlying 27 = some (.slice (Tryz.prog.elem 27)) := by kernel_rfl
theorem sizeI (w : World) : (sizeOf (Tryz.prog.elem 27)).run Tryz.prog w = .ok 1 w := by kernel_rfl
theorem cut_8 (b off cap : Nat) (hc : 49 ≤ cap) (w : World) : (Instr.sliceAt 27 (.slice (some ⟨b, off, none⟩) 49 cap) none (some (.int .i64 8)) none).run Tryz.prog w = .ok (.slice (some ⟨b, off, none⟩) 8 cap) w := by
  rw [run_sliceAt_slice w _ _ _ _ _ elemI, Go.run_slice_h w _ _ _ _ elemI _ _ (by omega) (by omega), sizeI]
  simp only [Result.andThen, sliced]
  rw [Nat.sub_zero, if_neg (by omega)]
  rfl
theorem cut_lh (b off cap n : Nat) (hc : 49 ≤ cap) (hn : n ≤ 24) (w : World) : (Instr.sliceAt 27 (.slice (some ⟨b, off, none⟩) 49 cap) (some (.int .i64 25)) (some (.int .i64 (25 + (n : Int)))) none).run Tryz.prog w = .ok (.slice (some ⟨b, off + 25, none⟩) n (cap - 25)) w := by
  rw [run_sliceAt_slice w _ _ _ _ _ elemI, Go.run_slice_lh w _ _ _ _ elemI _ _ _ _ (by omega) (by omega) (by omega), sizeI]
  simp only [Result.andThen, sliced]
  rw [show (25 + (n : Int)).toNat - (25 : Int).toNat = n by omega, show (25 : Int).toNat = 25 from rfl, if_neg (by omega), Nat.mul_one, Option.map_some, Addr.add_mid]
/-- What appending a row to an empty one asks. -/
theorem news_of (w : World) {b off n : Nat} {L : List Int} (h : Row w (some ⟨b, off, none⟩) n L) : ∀ j u, (ivs L)[j]? = some u → (w.alloc (.cells #[] 3)).cell? ((⟨b, off, none⟩ : Addr).add j) = some u := by
  intro j u hj
  rw [Addr.add_mid]
  exact World.rangeAt_alloc (row_range h) _ j u hj
theorem below_app {w w1 : World} {v : Value} {o : Obj} (hgrow : (w.alloc o).grownBy w1 v.ownBlock) (hv : ∀ k, v.ownBlock = some k → w.heap.size ≤ k) : Below w.heap.size w w1 :=
  ((Below.refl _ w).alloc (Nat.le_refl _) _).grown hgrow (by simp) hv
theorem own_slice {w : World} {B : Nat} {ty : TypeId} {v : Value} {n : Nat} {xs : List Value} (h : w.ownsRow B ty 1 v n xs) : ∃ ad cap, v = .slice ad n cap := by
  rcases h.2 with ⟨e, e0⟩ | ⟨g, c, _, e, _⟩
  · exact ⟨_, _, by rw [e, e0]⟩
  · exact ⟨_, _, e⟩

set_option maxRecDepth 100000 in
set_option maxHeartbeats 1000000 in
theorem spec_memvars_yes (w : World) (b off cap : Nat) (hcap : 49 ≤ cap) (L : List Int) (h : Row w (some ⟨b, off, none⟩) 49 L) :
    Calls Tryz.prog 12 #[.slice (some ⟨b, off, none⟩) 49 cap] w (NewInts w (L.take 8)) := by
  obtain ⟨i0, hi, hz0, hz1, hz2⟩ := info_parts infoInt
  have hsl := cut_8 b off cap hcap
  have hp : Row w (some ⟨b, off, none⟩) 8 (L.take 8) := by simpa using row_part (o := 0) (m := 8) h (by omega)
  have HL := Lib.hid (show (ivs (L.take 8)).length = 8 * 1 by rw [ivs_length, hp.1])
  have HN := Lib.hid (news_of w hp)
  have H1 := Lib.hid (ivs_one (L.take 8))
  clear h hp hcap
  go_enter Tryz.func12, Tryz.ntmps12
  go_wp2_with (at_builtin; refine wpList_append_own _ rfl _ _ 27 rfl w.heap.size 3 i0 (.int .i64 0) 1 8 Tryz.underlying27 hi hz0 hz1 hz2 rfl (by decide) _ _ _ rfl (World.ownsRow_made w #[] 0 (Nat.le_refl _) (Nat.zero_le _) rfl) ⟨b, off, none⟩ 8 cap (ivs (L.take 8)) rfl HL.out HN.out H1.out (by unfold maxLen; omega) (by omega) (by simp) ?_; intro v' w1 hown hgrow _; refine Hid.out ?_)
  have hb := below_app hgrow (fun k hk => by cases hk; exact Nat.le_refl _)
  rw [Nat.zero_add, List.nil_append] at hown
  obtain ⟨ad, c, rfl⟩ := own_slice hown
  have HF := Lib.hid (And.intro hown hb)
  clear hown hgrow hb
  refine Lib.hid ?_
  go_wp2
  go_ret
  exact ⟨_, _, _, rfl, HF.out.1, HF.out.2⟩
set_option maxRecDepth 100000 in
theorem spec_memvars_no (w : World) (a : Option Addr) (n cap : Nat) (h : ¬ n = 49) :
    Calls Tryz.prog 12 #[.slice a n cap] w (NewInts w []) := by
  have hq : ¬ (n : Int) = 49 := by omega
  clear h
  go_enter Tryz.func12, Tryz.ntmps12
  go_wp2
  go_ret
  exact ⟨_, _, _, rfl, World.ownsRow_made w #[] 0 (Nat.le_refl _) (Nat.zero_le _) rfl, below_new _ _⟩
set_option maxRecDepth 100000 in
set_option maxHeartbeats 1000000 in
theorem spec_memnew (w : World) (a : Option Addr) (n cap : Nat) (L : List Int) (hn : (n : Int) ≤ 1048576) (h : Row w a n L) :
    Calls Tryz.prog 76 #[.slice a n cap] w (NewMem w 3 (newV L) (varsOk L)) := by
  obtain ⟨i0, hi, hz0, hz1, hz2⟩ := info_parts infoInt
  cases hv : varsOk L
  · have HV := Lib.hid hv
    have HN := Lib.hid (newV_no hv)
    clear hv
    go_enter Tryz.func76, Tryz.ntmps76
    go_wp2_with (go_at_call 49; refine (spec_vars _ _ _ _ L hn h false HV.out).mono ?_; rintro e w1 ⟨rfl, rfl⟩)
    go_ret2
    refine ⟨_, _, _, rfl, ?_, below_new _ _⟩
    rw [HN.out]; exact World.ownsRow_made w #[] 0 (Nat.le_refl _) (Nat.zero_le _) rfl
  · obtain ⟨e1, e2, e3⟩ := newV_yes hv
    obtain rfl : n = 8 := by have := h.1; omega
    obtain ⟨b, off, rfl⟩ := row_some h (by decide)
    have HV := Lib.hid hv
    have HE := Lib.hid e1
    have HL := Lib.hid (show (ivs L).length = 8 * 1 by rw [ivs_length, e3])
    have HN := Lib.hid (news_of w h)
    have H1 := Lib.hid (ivs_one L)
    clear hv e1 e2 e3
    go_enter Tryz.func76, Tryz.ntmps76
    go_wp2_with (first
      | (go_at_call 49; refine (spec_vars _ _ _ _ L hn h true HV.out).mono ?_; rintro e w1 ⟨rfl, rfl⟩)
      | (at_builtin; refine wpList_append_own _ rfl _ _ 27 rfl w.heap.size 3 i0 (.int .i64 0) 1 8 Tryz.underlying27 hi hz0 hz1 hz2 rfl (by decide) _ _ _ rfl (World.ownsRow_made w #[] 0 (Nat.le_refl _) (Nat.zero_le _) rfl) ⟨b, off, none⟩ 8 cap (ivs L) rfl HL.out HN.out H1.out (by unfold maxLen; omega) (by omega) (by simp) ?_; intro v' w1 hown hgrow _; refine Hid.out ?_))
    have hb := below_app hgrow (fun k hk => by cases hk; exact Nat.le_refl _)
    rw [Nat.zero_add, List.nil_append] at hown
    obtain ⟨g, c, rfl, hbg, hgs⟩ := hown.form (by decide)
    have HF := Lib.hid (And.intro hown (And.intro hb hbg))
    have hbs := hb.size
    clear hown hgrow hb
    refine Lib.hid ?_
    go_wp2_with (at_builtin; refine wpList_append_zeros rfl _ 27 3 41 rfl w.heap.size 3 i0 Tryz.underlying27 Tryz.underlying3 hi hz0 hz1 hz2 g 8 c L rfl HF.out.1 (by decide) (by decide) hbs ?_; intro v2 w2 hown2 hgrow2; refine Hid.out ?_)
    obtain ⟨ad2, c2, rfl⟩ := own_slice hown2
    have HF2 := Lib.hid (And.intro hown2 (HF.out.2.1.grown hgrow2 hbs (fun k hk => by cases hk; exact HF.out.2.2)))
    clear hown2 hgrow2
    refine Lib.hid ?_
    go_wp2
    go_ret2
    refine ⟨_, _, _, rfl, ?_, HF2.out.2⟩
    rw [HE.out]; exact HF2.out.1
end Go.Proofs.YtcmhiadaebpgmaaGreatDoor.mem

/- Chapter 4's StmtOk of the program, and the functions that it is made of: the statement as a value of its own type, its fields' check, and the way back; nothing that was there is written. -/
namespace Go.Proofs.YtcmhiadaebpgmaaGreatDoor.stm
open Go.ChangeShapes Go.WideShapes Go.ChangeAt Go.RowKit Go.Proofs.YtcmhiadaebpgmaaGreatDoor.row Go.Proofs.YtcmhiadaebpgmaaGreatDoor.val Go.Proofs.YtcmhiadaebpgmaaGreatDoor.expr

/-- A statement of the kind 1 as a value of its own type. -/
abbrev if1 (v o a b : Int) : Value := .iface 218 (.agg #[.int .i64 v, .int .i64 o, .int .i64 a, .int .i64 b])
/-- A statement of the kind 2 as a value of its own type. -/
abbrev if2 (v n : Int) : Value := .iface 220 (.agg #[.int .i64 v, .int .i64 n])
/-- A statement of the kind 3 as a value of its own type. -/
abbrev if3 (o a b : Int) : Value := .iface 222 (.agg #[.int .i64 o, .int .i64 a, .int .i64 b])
/-- A statement of the kind 4 as a value of its own type. -/
abbrev if4 (o a b : Int) : Value := .iface 224 (.agg #[.int .i64 o, .int .i64 a, .int .i64 b])
/-- A statement of the kind 5 as a value of its own type. -/
abbrev if5 (n : Int) : Value := .iface 226 (.agg #[.int .i64 n])
/-- A statement of the kind 6 as a value of its own type. -/
abbrev if6 : Value := .iface 228 (.agg #[])
set_option maxHeartbeats 400000 in
theorem stmt_m1 (v o a b : Int) (w : World) : Calls Tryz.prog 245 #[.agg #[.int .i64 v, .int .i64 o, .int .i64 a, .int .i64 b]] w (BelS w ⟨1, v, 0, o, a, b⟩) := by
  go_enter Tryz.func245, Tryz.ntmps245
  go_wp2
  refine bodyPost_ret (v := stV ⟨1, v, 0, o, a, b⟩) (by simp [results, Tryz.results245, go_sem]) rfl ⟨rfl, ?_⟩
  all_goals repeat (first | exact Below.refl _ _ | refine Below.alloc ?_ (by simp; try omega) _ | refine Below.setCell ?_ (by simp) _)
set_option maxHeartbeats 400000 in
theorem stmt_m2 (v n : Int) (w : World) : Calls Tryz.prog 246 #[.agg #[.int .i64 v, .int .i64 n]] w (BelS w ⟨2, v, n, 0, 0, 0⟩) := by
  go_enter Tryz.func246, Tryz.ntmps246
  go_wp2
  refine bodyPost_ret (v := stV ⟨2, v, n, 0, 0, 0⟩) (by simp [results, Tryz.results246, go_sem]) rfl ⟨rfl, ?_⟩
  all_goals repeat (first | exact Below.refl _ _ | refine Below.alloc ?_ (by simp; try omega) _ | refine Below.setCell ?_ (by simp) _)
set_option maxHeartbeats 400000 in
theorem stmt_m3 (o a b : Int) (w : World) : Calls Tryz.prog 247 #[.agg #[.int .i64 o, .int .i64 a, .int .i64 b]] w (BelS w ⟨3, 0, 0, o, a, b⟩) := by
  go_enter Tryz.func247, Tryz.ntmps247
  go_wp2
  refine bodyPost_ret (v := stV ⟨3, 0, 0, o, a, b⟩) (by simp [results, Tryz.results247, go_sem]) rfl ⟨rfl, ?_⟩
  all_goals repeat (first | exact Below.refl _ _ | refine Below.alloc ?_ (by simp; try omega) _ | refine Below.setCell ?_ (by simp) _)
set_option maxHeartbeats 400000 in
theorem stmt_m4 (o a b : Int) (w : World) : Calls Tryz.prog 248 #[.agg #[.int .i64 o, .int .i64 a, .int .i64 b]] w (BelS w ⟨4, 0, 0, o, a, b⟩) := by
  go_enter Tryz.func248, Tryz.ntmps248
  go_wp2
  refine bodyPost_ret (v := stV ⟨4, 0, 0, o, a, b⟩) (by simp [results, Tryz.results248, go_sem]) rfl ⟨rfl, ?_⟩
  all_goals repeat (first | exact Below.refl _ _ | refine Below.alloc ?_ (by simp; try omega) _ | refine Below.setCell ?_ (by simp) _)
set_option maxHeartbeats 400000 in
theorem stmt_m5 (n : Int) (w : World) : Calls Tryz.prog 249 #[.agg #[.int .i64 n]] w (BelS w ⟨5, 0, n, 0, 0, 0⟩) := by
  go_enter Tryz.func249, Tryz.ntmps249
  go_wp2
  refine bodyPost_ret (v := stV ⟨5, 0, n, 0, 0, 0⟩) (by simp [results, Tryz.results249, go_sem]) rfl ⟨rfl, ?_⟩
  all_goals repeat (first | exact Below.refl _ _ | refine Below.alloc ?_ (by simp; try omega) _ | refine Below.setCell ?_ (by simp) _)
set_option maxHeartbeats 400000 in
theorem stmt_m6 (w : World) : Calls Tryz.prog 250 #[.agg #[]] w (BelS w ⟨6, 0, 0, 0, 0, 0⟩) := by
  go_enter Tryz.func250, Tryz.ntmps250
  go_wp2
  refine bodyPost_ret (v := stV ⟨6, 0, 0, 0, 0, 0⟩) (by simp [results, Tryz.results250, go_sem]) rfl ⟨rfl, ?_⟩
  all_goals repeat (first | exact Below.refl _ _ | refine Below.alloc ?_ (by simp; try omega) _ | refine Below.setCell ?_ (by simp) _)
/-- The call returns this pair of an interface value and a bool; nothing that was there is written. -/
def BelP (w : World) (v : Value) (b : Bool) (e : Ending) (w' : World) : Prop := e = .returned (.tuple #[v, .bool b]) ∧ Below w.heap.size w w'
set_option maxHeartbeats 400000 in
theorem of1 (v n o a b : Int) (w : World) : Calls Tryz.prog 173 #[stV ⟨1, v, n, o, a, b⟩] w (BelP w (if1 v o a b) true) := by
  go_enter Tryz.func173, Tryz.ntmps173
  go_wp2
  go_ret2
  exact ⟨rfl, (Below.refl _ _).alloc (Nat.le_refl _) _⟩
set_option maxHeartbeats 400000 in
theorem of2 (v n o a b : Int) (w : World) : Calls Tryz.prog 173 #[stV ⟨2, v, n, o, a, b⟩] w (BelP w (if2 v n) true) := by
  go_enter Tryz.func173, Tryz.ntmps173
  go_wp2
  go_ret2
  exact ⟨rfl, (Below.refl _ _).alloc (Nat.le_refl _) _⟩
set_option maxHeartbeats 400000 in
theorem of3 (v n o a b : Int) (w : World) : Calls Tryz.prog 173 #[stV ⟨3, v, n, o, a, b⟩] w (BelP w (if3 o a b) true) := by
  go_enter Tryz.func173, Tryz.ntmps173
  go_wp2
  go_ret2
  exact ⟨rfl, (Below.refl _ _).alloc (Nat.le_refl _) _⟩
set_option maxHeartbeats 400000 in
theorem of4 (v n o a b : Int) (w : World) : Calls Tryz.prog 173 #[stV ⟨4, v, n, o, a, b⟩] w (BelP w (if4 o a b) true) := by
  go_enter Tryz.func173, Tryz.ntmps173
  go_wp2
  go_ret2
  exact ⟨rfl, (Below.refl _ _).alloc (Nat.le_refl _) _⟩
set_option maxHeartbeats 400000 in
theorem of5 (v n o a b : Int) (w : World) : Calls Tryz.prog 173 #[stV ⟨5, v, n, o, a, b⟩] w (BelP w (if5 n) true) := by
  go_enter Tryz.func173, Tryz.ntmps173
  go_wp2
  go_ret2
  exact ⟨rfl, (Below.refl _ _).alloc (Nat.le_refl _) _⟩
set_option maxHeartbeats 400000 in
theorem of6 (v n o a b : Int) (w : World) : Calls Tryz.prog 173 #[stV ⟨6, v, n, o, a, b⟩] w (BelP w (if6 ) true) := by
  go_enter Tryz.func173, Tryz.ntmps173
  go_wp2
  go_ret2
  exact ⟨rfl, (Below.refl _ _).alloc (Nat.le_refl _) _⟩
set_option maxHeartbeats 400000 in
theorem of7 (k v n o a b : Int) (h1 : (k == 1) = false) (h2 : (k == 2) = false) (h3 : (k == 3) = false) (h4 : (k == 4) = false) (h5 : (k == 5) = false) (h6 : (k == 6) = false) (w : World) : Calls Tryz.prog 173 #[stV ⟨k, v, n, o, a, b⟩] w (BelP w .nilIface false) := by
  go_enter Tryz.func173, Tryz.ntmps173
  go_wp2
  go_ret2
  exact ⟨rfl, (Below.refl _ _).alloc (Nat.le_refl _) _⟩

section fields_
theorem as1_yes (v : Value) (w : World) : (Instr.typeAssert (.iface 218 v) 177 218 true).run Tryz.prog w = .ok (.tuple #[v, .bool true]) w := by kernel_rfl
theorem as2_yes (v : Value) (w : World) : (Instr.typeAssert (.iface 220 v) 177 220 true).run Tryz.prog w = .ok (.tuple #[v, .bool true]) w := by kernel_rfl
theorem as2_no1 (v : Value) (w : World) : (Instr.typeAssert (.iface 220 v) 177 218 true).run Tryz.prog w = .ok (.tuple #[.agg #[.int .i64 0, .int .i64 0, .int .i64 0, .int .i64 0], .bool false]) w := by kernel_rfl
theorem as3_yes (v : Value) (w : World) : (Instr.typeAssert (.iface 222 v) 177 222 true).run Tryz.prog w = .ok (.tuple #[v, .bool true]) w := by kernel_rfl
theorem as3_no1 (v : Value) (w : World) : (Instr.typeAssert (.iface 222 v) 177 218 true).run Tryz.prog w = .ok (.tuple #[.agg #[.int .i64 0, .int .i64 0, .int .i64 0, .int .i64 0], .bool false]) w := by kernel_rfl
theorem as3_no2 (v : Value) (w : World) : (Instr.typeAssert (.iface 222 v) 177 220 true).run Tryz.prog w = .ok (.tuple #[.agg #[.int .i64 0, .int .i64 0], .bool false]) w := by kernel_rfl
theorem as4_yes (v : Value) (w : World) : (Instr.typeAssert (.iface 224 v) 177 224 true).run Tryz.prog w = .ok (.tuple #[v, .bool true]) w := by kernel_rfl
theorem as4_no1 (v : Value) (w : World) : (Instr.typeAssert (.iface 224 v) 177 218 true).run Tryz.prog w = .ok (.tuple #[.agg #[.int .i64 0, .int .i64 0, .int .i64 0, .int .i64 0], .bool false]) w := by kernel_rfl
theorem as4_no2 (v : Value) (w : World) : (Instr.typeAssert (.iface 224 v) 177 220 true).run Tryz.prog w = .ok (.tuple #[.agg #[.int .i64 0, .int .i64 0], .bool false]) w := by kernel_rfl
theorem as4_no3 (v : Value) (w : World) : (Instr.typeAssert (.iface 224 v) 177 222 true).run Tryz.prog w = .ok (.tuple #[.agg #[.int .i64 0, .int .i64 0, .int .i64 0], .bool false]) w := by kernel_rfl
theorem as5_yes (v : Value) (w : World) : (Instr.typeAssert (.iface 226 v) 177 226 true).run Tryz.prog w = .ok (.tuple #[v, .bool true]) w := by kernel_rfl
theorem as5_no1 (v : Value) (w : World) : (Instr.typeAssert (.iface 226 v) 177 218 true).run Tryz.prog w = .ok (.tuple #[.agg #[.int .i64 0, .int .i64 0, .int .i64 0, .int .i64 0], .bool false]) w := by kernel_rfl
theorem as5_no2 (v : Value) (w : World) : (Instr.typeAssert (.iface 226 v) 177 220 true).run Tryz.prog w = .ok (.tuple #[.agg #[.int .i64 0, .int .i64 0], .bool false]) w := by kernel_rfl
theorem as5_no3 (v : Value) (w : World) : (Instr.typeAssert (.iface 226 v) 177 222 true).run Tryz.prog w = .ok (.tuple #[.agg #[.int .i64 0, .int .i64 0, .int .i64 0], .bool false]) w := by kernel_rfl
theorem as5_no4 (v : Value) (w : World) : (Instr.typeAssert (.iface 226 v) 177 224 true).run Tryz.prog w = .ok (.tuple #[.agg #[.int .i64 0, .int .i64 0, .int .i64 0], .bool false]) w := by kernel_rfl
theorem as6_yes (v : Value) (w : World) : (Instr.typeAssert (.iface 228 v) 177 228 true).run Tryz.prog w = .ok (.tuple #[v, .bool true]) w := by kernel_rfl
theorem as6_no1 (v : Value) (w : World) : (Instr.typeAssert (.iface 228 v) 177 218 true).run Tryz.prog w = .ok (.tuple #[.agg #[.int .i64 0, .int .i64 0, .int .i64 0, .int .i64 0], .bool false]) w := by kernel_rfl
theorem as6_no2 (v : Value) (w : World) : (Instr.typeAssert (.iface 228 v) 177 220 true).run Tryz.prog w = .ok (.tuple #[.agg #[.int .i64 0, .int .i64 0], .bool false]) w := by kernel_rfl
theorem as6_no3 (v : Value) (w : World) : (Instr.typeAssert (.iface 228 v) 177 222 true).run Tryz.prog w = .ok (.tuple #[.agg #[.int .i64 0, .int .i64 0, .int .i64 0], .bool false]) w := by kernel_rfl
theorem as6_no4 (v : Value) (w : World) : (Instr.typeAssert (.iface 228 v) 177 224 true).run Tryz.prog w = .ok (.tuple #[.agg #[.int .i64 0, .int .i64 0, .int .i64 0], .bool false]) w := by kernel_rfl
theorem as6_no5 (v : Value) (w : World) : (Instr.typeAssert (.iface 228 v) 177 226 true).run Tryz.prog w = .ok (.tuple #[.agg #[.int .i64 0], .bool false]) w := by kernel_rfl
theorem varnum (v : Int) (r : Bool) (hr : varOk v = r) (w : World) : Calls Tryz.prog 163 #[.int .i64 v] w (RetB w r) := by
  subst hr
  rcases (show v < 0 ∨ 7 < v ∨ (0 ≤ v ∧ v ≤ 7) by omega) with h | h | ⟨h, h2⟩
  · have HE := Lib.hid (show varOk v = false by simp [varOk]; omega)
    go_enter Tryz.func163, Tryz.ntmps163
    go_wp2
    go_ret
    exact ⟨by rw [HE.out]; rfl, rfl⟩
  · have HE := Lib.hid (show varOk v = false by simp [varOk]; omega)
    have h' : decide (v < 8) = false := by simp; omega
    go_enter Tryz.func163, Tryz.ntmps163
    go_wp2
    go_ret
    exact ⟨by rw [HE.out]; simp, rfl⟩
  · have HE := Lib.hid (show varOk v = true by simp [varOk]; omega)
    have h3 : v < 8 := by omega
    go_enter Tryz.func163, Tryz.ntmps163
    go_wp2
    go_ret
    exact ⟨by rw [HE.out]; rfl, rfl⟩
theorem sensnum (v : Int) (r : Bool) (hr : (decide (0 ≤ v) && decide (v ≤ 3)) = r) (w : World) : Calls Tryz.prog 129 #[.int .i64 v] w (RetB w r) := by
  subst hr
  rcases (show v < 0 ∨ 3 < v ∨ (0 ≤ v ∧ v ≤ 3) by omega) with h | h | ⟨h, h2⟩
  · have HE := Lib.hid (show (decide (0 ≤ v) && decide (v ≤ 3)) = false by simp; omega)
    go_enter Tryz.func129, Tryz.ntmps129
    go_wp2
    go_ret
    exact ⟨by rw [HE.out]; rfl, rfl⟩
  · have HE := Lib.hid (show (decide (0 ≤ v) && decide (v ≤ 3)) = false by simp; omega)
    have h' : decide (v < 4) = false := by simp; omega
    go_enter Tryz.func129, Tryz.ntmps129
    go_wp2
    go_ret
    exact ⟨by rw [HE.out]; simp, rfl⟩
  · have HE := Lib.hid (show (decide (0 ≤ v) && decide (v ≤ 3)) = true by simp; omega)
    have h3 : v < 4 := by omega
    go_enter Tryz.func129, Tryz.ntmps129
    go_wp2
    go_ret
    exact ⟨by rw [HE.out]; rfl, rfl⟩
set_option maxHeartbeats 1000000 in
theorem fields1 (v o a b : Int) (r : Bool) (hr : (varOk v && exprOk o a b) = r) (w : World) : Calls Tryz.prog 174 #[if1 v o a b] w (BelB w r) := by
  subst hr
  have t1 := as1_yes (.agg #[.int .i64 v, .int .i64 o, .int .i64 a, .int .i64 b])
  cases hv : varOk v <;> cases he : exprOk o a b
  all_goals
    have HV := Lib.hid hv
    clear hv
    go_enter Tryz.func174, Tryz.ntmps174
    go_wp2_with (first
      | (go_at_call 163; refine (varnum _ _ HV.out _).mono ?_; rintro e w2 ⟨rfl, rfl⟩)
      | (go_at_call 124; refine (impl_exprok _ _ _ _ he _).mono ?_; rintro e w3 ⟨rfl, hb3⟩))
    go_ret
    first
      | exact ⟨rfl, ((Below.refl _ _).alloc (Nat.le_refl _) _)⟩
      | exact ⟨rfl, below_then ((Below.refl _ _).alloc (Nat.le_refl _) _) hb3⟩
      | exact ⟨by simp; try omega, ((Below.refl _ _).alloc (Nat.le_refl _) _)⟩
set_option maxHeartbeats 1000000 in
theorem fields2 (v n : Int) (r : Bool) (hr : (varOk v && (decide (0 ≤ n) && decide (n ≤ 3))) = r) (w : World) : Calls Tryz.prog 174 #[if2 v n] w (BelB w r) := by
  subst hr
  have t2 := as2_yes (.agg #[.int .i64 v, .int .i64 n])
  have t1 := as2_no1 (.agg #[.int .i64 v, .int .i64 n])
  cases hv : varOk v <;> cases he : (decide (0 ≤ n) && decide (n ≤ 3))
  all_goals
    have HV := Lib.hid hv
    clear hv
    go_enter Tryz.func174, Tryz.ntmps174
    go_wp2_with (first
      | (go_at_call 163; refine (varnum _ _ HV.out _).mono ?_; rintro e w2 ⟨rfl, rfl⟩)
      | (go_at_call 129; refine (sensnum _ _ he _).mono ?_; rintro e w2 ⟨rfl, rfl⟩))
    go_ret
    first
      | exact ⟨rfl, ((Below.refl _ _).alloc (Nat.le_refl _) _)⟩
      | exact ⟨rfl, below_then ((Below.refl _ _).alloc (Nat.le_refl _) _) hb3⟩
      | exact ⟨by simp; try omega, ((Below.refl _ _).alloc (Nat.le_refl _) _)⟩
set_option maxHeartbeats 1000000 in
theorem fields3 (o a b : Int) (r : Bool) (hr : (exprOk o a b) = r) (w : World) : Calls Tryz.prog 174 #[if3 o a b] w (BelB w r) := by
  subst hr
  have t3 := as3_yes (.agg #[.int .i64 o, .int .i64 a, .int .i64 b])
  have t1 := as3_no1 (.agg #[.int .i64 o, .int .i64 a, .int .i64 b])
  have t2 := as3_no2 (.agg #[.int .i64 o, .int .i64 a, .int .i64 b])
  cases he : exprOk o a b
  all_goals
    go_enter Tryz.func174, Tryz.ntmps174
    go_wp2_with (first
      | (go_at_call 124; refine (impl_exprok _ _ _ _ he _).mono ?_; rintro e w3 ⟨rfl, hb3⟩))
    go_ret
    first
      | exact ⟨rfl, ((Below.refl _ _).alloc (Nat.le_refl _) _)⟩
      | exact ⟨rfl, below_then ((Below.refl _ _).alloc (Nat.le_refl _) _) hb3⟩
      | exact ⟨by simp; try omega, ((Below.refl _ _).alloc (Nat.le_refl _) _)⟩
set_option maxHeartbeats 1000000 in
theorem fields4 (o a b : Int) (r : Bool) (hr : (exprOk o a b) = r) (w : World) : Calls Tryz.prog 174 #[if4 o a b] w (BelB w r) := by
  subst hr
  have t4 := as4_yes (.agg #[.int .i64 o, .int .i64 a, .int .i64 b])
  have t1 := as4_no1 (.agg #[.int .i64 o, .int .i64 a, .int .i64 b])
  have t2 := as4_no2 (.agg #[.int .i64 o, .int .i64 a, .int .i64 b])
  have t3 := as4_no3 (.agg #[.int .i64 o, .int .i64 a, .int .i64 b])
  cases he : exprOk o a b
  all_goals
    go_enter Tryz.func174, Tryz.ntmps174
    go_wp2_with (first
      | (go_at_call 124; refine (impl_exprok _ _ _ _ he _).mono ?_; rintro e w3 ⟨rfl, hb3⟩))
    go_ret
    first
      | exact ⟨rfl, ((Below.refl _ _).alloc (Nat.le_refl _) _)⟩
      | exact ⟨rfl, below_then ((Below.refl _ _).alloc (Nat.le_refl _) _) hb3⟩
      | exact ⟨by simp; try omega, ((Below.refl _ _).alloc (Nat.le_refl _) _)⟩
set_option maxHeartbeats 1000000 in
theorem fields5 (n : Int) (r : Bool) (hr : (decide (1 ≤ n) && decide (n ≤ 5)) = r) (w : World) : Calls Tryz.prog 174 #[if5 n] w (BelB w r) := by
  subst hr
  have t5 := as5_yes (.agg #[.int .i64 n])
  have t1 := as5_no1 (.agg #[.int .i64 n])
  have t2 := as5_no2 (.agg #[.int .i64 n])
  have t3 := as5_no3 (.agg #[.int .i64 n])
  have t4 := as5_no4 (.agg #[.int .i64 n])
  rcases (show n < 1 ∨ 5 < n ∨ (1 ≤ n ∧ n ≤ 5) by omega) with h | h | ⟨h, h2⟩
  all_goals
    first | have hd : decide (n ≤ 5) = false := by simp; omega | skip
    go_enter Tryz.func174, Tryz.ntmps174
    go_wp2
    go_ret
    first
      | exact ⟨rfl, ((Below.refl _ _).alloc (Nat.le_refl _) _)⟩
      | exact ⟨rfl, below_then ((Below.refl _ _).alloc (Nat.le_refl _) _) hb3⟩
      | exact ⟨by simp; try omega, ((Below.refl _ _).alloc (Nat.le_refl _) _)⟩
set_option maxHeartbeats 1000000 in
theorem fields6 (r : Bool) (hr : (true) = r) (w : World) : Calls Tryz.prog 174 #[if6 ] w (BelB w r) := by
  subst hr
  have t6 := as6_yes (.agg #[])
  have t1 := as6_no1 (.agg #[])
  have t2 := as6_no2 (.agg #[])
  have t3 := as6_no3 (.agg #[])
  have t4 := as6_no4 (.agg #[])
  have t5 := as6_no5 (.agg #[])
  go_enter Tryz.func174, Tryz.ntmps174
  go_wp2
  go_ret
  first
    | exact ⟨rfl, ((Below.refl _ _).alloc (Nat.le_refl _) _)⟩
    | exact ⟨rfl, below_then ((Below.refl _ _).alloc (Nat.le_refl _) _) hb3⟩
    | exact ⟨by simp; try omega, ((Below.refl _ _).alloc (Nat.le_refl _) _)⟩
end fields_
end Go.Proofs.YtcmhiadaebpgmaaGreatDoor.stm
