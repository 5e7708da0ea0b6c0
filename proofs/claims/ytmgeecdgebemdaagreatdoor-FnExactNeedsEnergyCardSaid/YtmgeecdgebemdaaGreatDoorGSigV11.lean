/- Several texts in one: VBlkE VStmI. -/
import Derived.Test.YtmgeecdgebemdaaGreatDoorGSigV7
import Derived.Test.YtmgeecdgebemdaaGreatDoorGSigV1
import Derived.Deep.RegionWith

/- Chapter 5's model: what opens, the matching end, EndOf, DepthOf: what the plain relations say; nothing that was there is written. -/
namespace Go.Proofs.YtmgeecdgebemdaaGreatDoor.blk
open Go Go.ChangeShapes Go.WideShapes Go.ChangeAt Go.RowKit Go.Proofs.YtmgeecdgebemdaaGreatDoor.row Go.Proofs.YtmgeecdgebemdaaGreatDoor.val Go.Proofs.YtmgeecdgebemdaaGreatDoor.expr Go.Proofs.YtmgeecdgebemdaaGreatDoor.stm
theorem spec_opens (s : Go.Proofs.YtmgeecdgebemdaaGreatDoor.stm.St) (r : Bool) (hr : opn s = r) (w : World) : Calls Tryz.prog 216 #[stV s] w (BelB w r) := by
  subst hr
  by_cases h4 : s.k = 4
  · have HE := Lib.hid (show opn s = true by unfold opn; rw [h4]; rfl)
    have hq : (s.k == 4) = true := by rw [h4]; rfl
    clear h4
    go_enter Tryz.func216, Tryz.ntmps216
    go_wp2
    go_ret
    exact ⟨by rw [HE.out]; rfl, below_new w _⟩
  · have hq : (s.k == 4) = false := by rw [beq_eq_false_iff_ne]; exact h4
    by_cases h5 : s.k = 5
    · have HE := Lib.hid (show opn s = true by unfold opn; rw [h5]; rfl)
      have hq5 : (s.k == 5) = true := by rw [h5]; rfl
      clear h4 h5
      go_enter Tryz.func216, Tryz.ntmps216
      go_wp2
      go_ret
      exact ⟨by rw [HE.out]; rfl, below_new w _⟩
    · have hq5 : (s.k == 5) = false := by rw [beq_eq_false_iff_ne]; exact h5
      have HE := Lib.hid (show opn s = false by unfold opn; rw [hq, hq5]; rfl)
      clear h4 h5
      go_enter Tryz.func216, Tryz.ntmps216
      go_wp2
      go_ret
      exact ⟨by rw [HE.out]; rfl, below_new w _⟩
set_option maxHeartbeats 4000000 in
set_option maxRecDepth 100000 in
theorem spec_end (a : Option Addr) (n cap : Nat) (L : List Go.Proofs.YtmgeecdgebemdaaGreatDoor.stm.St) (w : World) (h : StRow w a n L) (hb : IsBlk L) (i e : Nat) (he : IsEnd L i e) (X : Int) (hX : X = e) :
    Calls Tryz.prog 178 #[.slice a n cap, .int .i64 i] w (BelI w X) := by
  have HL := Lib.hid h
  have HB := Lib.hid hb
  have HE := Lib.hid he
  have hie := he.1
  have hel : e < n := by have := he.2.1; rw [h.1] at this; exact this
  have hn24 : n ≤ 24 := by have := hb.2.2; rw [h.1] at this; exact this
  have HX := Lib.hid hX
  clear h hb he hX
  go_enter Tryz.func178, Tryz.ntmps178
  go_wp2
  go_loopw [5, 6] (fun o k' wr => ∃ (k : Nat) (x : Int), i ≤ k ∧ k ≤ e ∧ k' = .int .i64 k ∧ o = .int .i64 x ∧ -3 ≤ x ∧ x ≤ 3 ∧ Hid (x = hAt L k - hAt L i) ∧ Below w.heap.size w wr) (fun _ k' _ => e + 1 - (intOf k').toNat)
  case atStart => exact ⟨i, 0, Nat.le_refl _, by omega, rfl, rfl, by omega, by omega, show (0 : Int) = hAt L i - hAt L i by omega, Below.refl _ _⟩
  case round =>
    obtain ⟨k, x, hik, hke, rfl, rfl, hx0, hx3, hH, hbel⟩ := hrel
    obtain ⟨b, off, s, rfl, hlb, hs, hrg⟩ := (HL.out.below hbel).2 k (by omega)
    have HS := Lib.hid (And.intro hrg (And.intro hs hbel))
    have hI : (k : Int) < n := by omega
    have hnx := hAt_succ hs
    have hbd := blk_bounds HB.out (k + 1)
    have hbi := blk_bounds HB.out i
    obtain ⟨d, hd⟩ : ∃ d, dlt s = d := ⟨_, rfl⟩
    rw [hd] at hnx
    have hHo := hH.out
    have hend : k = e → s.k = 6 ∧ x + d = 0 := fun hk => by
      subst hk
      obtain ⟨t, ht, h6⟩ := HE.out.kind
      rw [hs] at ht; cases ht
      exact ⟨h6, by have := HE.out.2.2.1; omega⟩
    have hmid : k < e → 0 < x + d := fun hk => by have := HE.out.2.2.2 (k + 1) (by omega) (by omega); omega
    have HH := Lib.hid (show x + d = hAt L (k + 1) - hAt L i by omega)
    have hxd : -3 ≤ x + d ∧ x + d ≤ 3 := by omega
    clear hrg hs hbel hnx hbd hbi hHo
    rcases (show (opn s = true ∧ s.k ≠ 6 ∧ d = 1) ∨ (opn s = false ∧ s.k = 6 ∧ d = -1) ∨ (opn s = false ∧ s.k ≠ 6 ∧ d = 0) by rw [← hd]; exact dlt_cases s) with ⟨ho, h6, rfl⟩ | ⟨ho, h6, rfl⟩ | ⟨ho, h6, rfl⟩
    · have hlt : k < e := by
        rcases Nat.lt_or_ge k e with h | h
        · exact h
        · exact absurd (hend (by omega)).1 h6
      have hq6 : (s.k == 6) = false := by rw [beq_eq_false_iff_ne]; exact h6
      have HO := Lib.hid ho
      clear ho h6 hd hend hmid
      go_wp2_with (first
        | (refine wpList_load_mid rfl 112 _ rfl b (off + k * 6) rfl (stC s) _ HS.out.1 Tryz.underlying112 rfl (by kernel_rfl) ?_)
        | (go_at_call 216; refine (spec_opens s true HO.out _).mono ?_; rintro e w2 ⟨rfl, hb2⟩; refine Hid.out ?_))
      have hc2 := (hb2.cell (p := ⟨b, off + k * 6, none⟩) hlb).trans (range6 HS.out.1).1
      have HB2 := Lib.hid (below_then HS.out.2.2 hb2)
      clear hb2
      refine Lib.hid ?_
      go_wp2
      go_roundw
      case rel => exact ⟨k + 1, x + 1, by omega, by omega, by go_num, rfl, by omega, by omega, HH, HB2.out⟩
      case measure => simp [intOf]; omega
    · have hq6 : (s.k == 6) = true := by rw [h6]; rfl
      have HO := Lib.hid ho
      by_cases hk : k = e
      · have hz := (hend hk).2
        have hxe : x = 1 := by omega
        have HXK := Lib.hid (show X = (k : Int) by rw [HX.out, hk])
        subst hxe
        clear ho h6 hd hend hmid hz hk
        go_wp2_with (first
          | (refine wpList_load_mid rfl 112 _ rfl b (off + k * 6) rfl (stC s) _ HS.out.1 Tryz.underlying112 rfl (by kernel_rfl) ?_)
          | (go_at_call 216; refine (spec_opens s false HO.out _).mono ?_; rintro e w2 ⟨rfl, hb2⟩; refine Hid.out ?_))
        have hc2 := (hb2.cell (p := ⟨b, off + k * 6, none⟩) hlb).trans (range6 HS.out.1).1
        have HB2 := Lib.hid (below_then HS.out.2.2 hb2)
        clear hb2
        refine Lib.hid ?_
        go_wp2
        go_ret
        exact ⟨by rw [HXK.out]; rfl, HB2.out⟩
      · have hm := hmid (by omega)
        have hz : (x - 1 == 0) = false := by rw [beq_eq_false_iff_ne]; omega
        clear ho h6 hd hend hmid
        go_wp2_with (first
          | (refine wpList_load_mid rfl 112 _ rfl b (off + k * 6) rfl (stC s) _ HS.out.1 Tryz.underlying112 rfl (by kernel_rfl) ?_)
          | (go_at_call 216; refine (spec_opens s false HO.out _).mono ?_; rintro e w2 ⟨rfl, hb2⟩; refine Hid.out ?_))
        have hc2 := (hb2.cell (p := ⟨b, off + k * 6, none⟩) hlb).trans (range6 HS.out.1).1
        have HB2 := Lib.hid (below_then HS.out.2.2 hb2)
        clear hb2
        refine Lib.hid ?_
        go_wp2
        go_roundw
        case rel => exact ⟨k + 1, x - 1, by omega, by omega, by go_num, rfl, by omega, by omega, HH, HB2.out⟩
        case measure => simp [intOf]; omega
    · have hlt : k < e := by
        rcases Nat.lt_or_ge k e with h | h
        · exact h
        · exact absurd (hend (by omega)).1 h6
      have hq6 : (s.k == 6) = false := by rw [beq_eq_false_iff_ne]; exact h6
      have HO := Lib.hid ho
      have HH2 := Lib.hid (show x = hAt L (k + 1) - hAt L i by have := HH.out; omega)
      clear ho h6 hd hend hmid
      go_wp2_with (first
        | (refine wpList_load_mid rfl 112 _ rfl b (off + k * 6) rfl (stC s) _ HS.out.1 Tryz.underlying112 rfl (by kernel_rfl) ?_)
        | (go_at_call 216; refine (spec_opens s false HO.out _).mono ?_; rintro e w2 ⟨rfl, hb2⟩; refine Hid.out ?_))
      have hc2 := (hb2.cell (p := ⟨b, off + k * 6, none⟩) hlb).trans (range6 HS.out.1).1
      have HB2 := Lib.hid (below_then HS.out.2.2 hb2)
      clear hb2
      refine Lib.hid ?_
      go_wp2
      go_roundw
      case rel => exact ⟨k + 1, x, by omega, by omega, by go_num, rfl, by omega, by omega, HH2, HB2.out⟩
      case measure => simp [intOf]; omega
end Go.Proofs.YtmgeecdgebemdaaGreatDoor.blk

/- Chapter 4's StmtOk of the program, and the functions that it is made of: the statement as a value of its own type, its fields' check, and the way back; nothing that was there is written. -/
namespace Go.Proofs.YtmgeecdgebemdaaGreatDoor.stm
open Go.ChangeShapes Go.WideShapes Go.ChangeAt Go.RowKit Go.Proofs.YtmgeecdgebemdaaGreatDoor.row Go.Proofs.YtmgeecdgebemdaaGreatDoor.val Go.Proofs.YtmgeecdgebemdaaGreatDoor.expr
/-- A statement of the kind 1 as a value of its own type. -/
abbrev if1 (v o a b : Int) : Value := .iface 241 (.agg #[.int .i64 v, .int .i64 o, .int .i64 a, .int .i64 b])
/-- A statement of the kind 2 as a value of its own type. -/
abbrev if2 (v n : Int) : Value := .iface 243 (.agg #[.int .i64 v, .int .i64 n])
/-- A statement of the kind 3 as a value of its own type. -/
abbrev if3 (o a b : Int) : Value := .iface 245 (.agg #[.int .i64 o, .int .i64 a, .int .i64 b])
/-- A statement of the kind 4 as a value of its own type. -/
abbrev if4 (o a b : Int) : Value := .iface 247 (.agg #[.int .i64 o, .int .i64 a, .int .i64 b])
/-- A statement of the kind 5 as a value of its own type. -/
abbrev if5 (n : Int) : Value := .iface 249 (.agg #[.int .i64 n])
/-- A statement of the kind 6 as a value of its own type. -/
abbrev if6 : Value := .iface 250 (.agg #[])
set_option maxHeartbeats 400000 in
theorem stmt_m1 (v o a b : Int) (w : World) : Calls Tryz.prog 282 #[.agg #[.int .i64 v, .int .i64 o, .int .i64 a, .int .i64 b]] w (BelS w ⟨1, v, 0, o, a, b⟩) := by
  go_enter Tryz.func282, Tryz.ntmps282
  go_wp2
  refine bodyPost_ret (v := stV ⟨1, v, 0, o, a, b⟩) (by simp [results, Tryz.results282, go_sem]) rfl ⟨rfl, ?_⟩
  all_goals repeat (first | exact Below.refl _ _ | refine Below.alloc ?_ (by simp; try omega) _ | refine Below.setCell ?_ (by simp) _)
set_option maxHeartbeats 400000 in
theorem stmt_m2 (v n : Int) (w : World) : Calls Tryz.prog 283 #[.agg #[.int .i64 v, .int .i64 n]] w (BelS w ⟨2, v, n, 0, 0, 0⟩) := by
  go_enter Tryz.func283, Tryz.ntmps283
  go_wp2
  refine bodyPost_ret (v := stV ⟨2, v, n, 0, 0, 0⟩) (by simp [results, Tryz.results283, go_sem]) rfl ⟨rfl, ?_⟩
  all_goals repeat (first | exact Below.refl _ _ | refine Below.alloc ?_ (by simp; try omega) _ | refine Below.setCell ?_ (by simp) _)
set_option maxHeartbeats 400000 in
theorem stmt_m3 (o a b : Int) (w : World) : Calls Tryz.prog 284 #[.agg #[.int .i64 o, .int .i64 a, .int .i64 b]] w (BelS w ⟨3, 0, 0, o, a, b⟩) := by
  go_enter Tryz.func284, Tryz.ntmps284
  go_wp2
  refine bodyPost_ret (v := stV ⟨3, 0, 0, o, a, b⟩) (by simp [results, Tryz.results284, go_sem]) rfl ⟨rfl, ?_⟩
  all_goals repeat (first | exact Below.refl _ _ | refine Below.alloc ?_ (by simp; try omega) _ | refine Below.setCell ?_ (by simp) _)
set_option maxHeartbeats 400000 in
theorem stmt_m4 (o a b : Int) (w : World) : Calls Tryz.prog 285 #[.agg #[.int .i64 o, .int .i64 a, .int .i64 b]] w (BelS w ⟨4, 0, 0, o, a, b⟩) := by
  go_enter Tryz.func285, Tryz.ntmps285
  go_wp2
  refine bodyPost_ret (v := stV ⟨4, 0, 0, o, a, b⟩) (by simp [results, Tryz.results285, go_sem]) rfl ⟨rfl, ?_⟩
  all_goals repeat (first | exact Below.refl _ _ | refine Below.alloc ?_ (by simp; try omega) _ | refine Below.setCell ?_ (by simp) _)
set_option maxHeartbeats 400000 in
theorem stmt_m5 (n : Int) (w : World) : Calls Tryz.prog 286 #[.agg #[.int .i64 n]] w (BelS w ⟨5, 0, n, 0, 0, 0⟩) := by
  go_enter Tryz.func286, Tryz.ntmps286
  go_wp2
  refine bodyPost_ret (v := stV ⟨5, 0, n, 0, 0, 0⟩) (by simp [results, Tryz.results286, go_sem]) rfl ⟨rfl, ?_⟩
  all_goals repeat (first | exact Below.refl _ _ | refine Below.alloc ?_ (by simp; try omega) _ | refine Below.setCell ?_ (by simp) _)
set_option maxHeartbeats 400000 in
theorem stmt_m6 (w : World) : Calls Tryz.prog 287 #[.agg #[]] w (BelS w ⟨6, 0, 0, 0, 0, 0⟩) := by
  go_enter Tryz.func287, Tryz.ntmps287
  go_wp2
  refine bodyPost_ret (v := stV ⟨6, 0, 0, 0, 0, 0⟩) (by simp [results, Tryz.results287, go_sem]) rfl ⟨rfl, ?_⟩
  all_goals repeat (first | exact Below.refl _ _ | refine Below.alloc ?_ (by simp; try omega) _ | refine Below.setCell ?_ (by simp) _)
/-- The call returns this pair of an interface value and a bool; nothing that was there is written. -/
def BelP (w : World) (v : Value) (b : Bool) (e : Ending) (w' : World) : Prop := e = .returned (.tuple #[v, .bool b]) ∧ Below w.heap.size w w'
set_option maxHeartbeats 400000 in
theorem of1 (v n o a b : Int) (w : World) : Calls Tryz.prog 222 #[stV ⟨1, v, n, o, a, b⟩] w (BelP w (if1 v o a b) true) := by
  go_enter Tryz.func222, Tryz.ntmps222
  go_wp2
  go_ret2
  exact ⟨rfl, (Below.refl _ _).alloc (Nat.le_refl _) _⟩
set_option maxHeartbeats 400000 in
theorem of2 (v n o a b : Int) (w : World) : Calls Tryz.prog 222 #[stV ⟨2, v, n, o, a, b⟩] w (BelP w (if2 v n) true) := by
  go_enter Tryz.func222, Tryz.ntmps222
  go_wp2
  go_ret2
  exact ⟨rfl, (Below.refl _ _).alloc (Nat.le_refl _) _⟩
set_option maxHeartbeats 400000 in
theorem of3 (v n o a b : Int) (w : World) : Calls Tryz.prog 222 #[stV ⟨3, v, n, o, a, b⟩] w (BelP w (if3 o a b) true) := by
  go_enter Tryz.func222, Tryz.ntmps222
  go_wp2
  go_ret2
  exact ⟨rfl, (Below.refl _ _).alloc (Nat.le_refl _) _⟩
set_option maxHeartbeats 400000 in
theorem of4 (v n o a b : Int) (w : World) : Calls Tryz.prog 222 #[stV ⟨4, v, n, o, a, b⟩] w (BelP w (if4 o a b) true) := by
  go_enter Tryz.func222, Tryz.ntmps222
  go_wp2
  go_ret2
  exact ⟨rfl, (Below.refl _ _).alloc (Nat.le_refl _) _⟩
set_option maxHeartbeats 400000 in
theorem of5 (v n o a b : Int) (w : World) : Calls Tryz.prog 222 #[stV ⟨5, v, n, o, a, b⟩] w (BelP w (if5 n) true) := by
  go_enter Tryz.func222, Tryz.ntmps222
  go_wp2
  go_ret2
  exact ⟨rfl, (Below.refl _ _).alloc (Nat.le_refl _) _⟩
set_option maxHeartbeats 400000 in
theorem of6 (v n o a b : Int) (w : World) : Calls Tryz.prog 222 #[stV ⟨6, v, n, o, a, b⟩] w (BelP w (if6 ) true) := by
  go_enter Tryz.func222, Tryz.ntmps222
  go_wp2
  go_ret2
  exact ⟨rfl, (Below.refl _ _).alloc (Nat.le_refl _) _⟩
set_option maxHeartbeats 400000 in
theorem of7 (k v n o a b : Int) (h1 : (k == 1) = false) (h2 : (k == 2) = false) (h3 : (k == 3) = false) (h4 : (k == 4) = false) (h5 : (k == 5) = false) (h6 : (k == 6) = false) (w : World) : Calls Tryz.prog 222 #[stV ⟨k, v, n, o, a, b⟩] w (BelP w .nilIface false) := by
  go_enter Tryz.func222, Tryz.ntmps222
  go_wp2
  go_ret2
  exact ⟨rfl, (Below.refl _ _).alloc (Nat.le_refl _) _⟩

section fields_
theorem as1_yes (v : Value) (w : World) : (Instr.typeAssert (.iface 241 v) 207 241 true).run Tryz.prog w = .ok (.tuple #[v, .bool true]) w := by kernel_rfl
theorem as2_yes (v : Value) (w : World) : (Instr.typeAssert (.iface 243 v) 207 243 true).run Tryz.prog w = .ok (.tuple #[v, .bool true]) w := by kernel_rfl
theorem as2_no1 (v : Value) (w : World) : (Instr.typeAssert (.iface 243 v) 207 241 true).run Tryz.prog w = .ok (.tuple #[.agg #[.int .i64 0, .int .i64 0, .int .i64 0, .int .i64 0], .bool false]) w := by kernel_rfl
theorem as3_yes (v : Value) (w : World) : (Instr.typeAssert (.iface 245 v) 207 245 true).run Tryz.prog w = .ok (.tuple #[v, .bool true]) w := by kernel_rfl
theorem as3_no1 (v : Value) (w : World) : (Instr.typeAssert (.iface 245 v) 207 241 true).run Tryz.prog w = .ok (.tuple #[.agg #[.int .i64 0, .int .i64 0, .int .i64 0, .int .i64 0], .bool false]) w := by kernel_rfl
theorem as3_no2 (v : Value) (w : World) : (Instr.typeAssert (.iface 245 v) 207 243 true).run Tryz.prog w = .ok (.tuple #[.agg #[.int .i64 0, .int .i64 0], .bool false]) w := by kernel_rfl
theorem as4_yes (v : Value) (w : World) : (Instr.typeAssert (.iface 247 v) 207 247 true).run Tryz.prog w = .ok (.tuple #[v, .bool true]) w := by kernel_rfl
theorem as4_no1 (v : Value) (w : World) : (Instr.typeAssert (.iface 247 v) 207 241 true).run Tryz.prog w = .ok (.tuple #[.agg #[.int .i64 0, .int .i64 0, .int .i64 0, .int .i64 0], .bool false]) w := by kernel_rfl
theorem as4_no2 (v : Value) (w : World) : (Instr.typeAssert (.iface 247 v) 207 243 true).run Tryz.prog w = .ok (.tuple #[.agg #[.int .i64 0, .int .i64 0], .bool false]) w := by kernel_rfl
theorem as4_no3 (v : Value) (w : World) : (Instr.typeAssert (.iface 247 v) 207 245 true).run Tryz.prog w = .ok (.tuple #[.agg #[.int .i64 0, .int .i64 0, .int .i64 0], .bool false]) w := by kernel_rfl
theorem as5_yes (v : Value) (w : World) : (Instr.typeAssert (.iface 249 v) 207 249 true).run Tryz.prog w = .ok (.tuple #[v, .bool true]) w := by kernel_rfl
theorem as5_no1 (v : Value) (w : World) : (Instr.typeAssert (.iface 249 v) 207 241 true).run Tryz.prog w = .ok (.tuple #[.agg #[.int .i64 0, .int .i64 0, .int .i64 0, .int .i64 0], .bool false]) w := by kernel_rfl
theorem as5_no2 (v : Value) (w : World) : (Instr.typeAssert (.iface 249 v) 207 243 true).run Tryz.prog w = .ok (.tuple #[.agg #[.int .i64 0, .int .i64 0], .bool false]) w := by kernel_rfl
theorem as5_no3 (v : Value) (w : World) : (Instr.typeAssert (.iface 249 v) 207 245 true).run Tryz.prog w = .ok (.tuple #[.agg #[.int .i64 0, .int .i64 0, .int .i64 0], .bool false]) w := by kernel_rfl
theorem as5_no4 (v : Value) (w : World) : (Instr.typeAssert (.iface 249 v) 207 247 true).run Tryz.prog w = .ok (.tuple #[.agg #[.int .i64 0, .int .i64 0, .int .i64 0], .bool false]) w := by kernel_rfl
theorem as6_yes (v : Value) (w : World) : (Instr.typeAssert (.iface 250 v) 207 250 true).run Tryz.prog w = .ok (.tuple #[v, .bool true]) w := by kernel_rfl
theorem as6_no1 (v : Value) (w : World) : (Instr.typeAssert (.iface 250 v) 207 241 true).run Tryz.prog w = .ok (.tuple #[.agg #[.int .i64 0, .int .i64 0, .int .i64 0, .int .i64 0], .bool false]) w := by kernel_rfl
theorem as6_no2 (v : Value) (w : World) : (Instr.typeAssert (.iface 250 v) 207 243 true).run Tryz.prog w = .ok (.tuple #[.agg #[.int .i64 0, .int .i64 0], .bool false]) w := by kernel_rfl
theorem as6_no3 (v : Value) (w : World) : (Instr.typeAssert (.iface 250 v) 207 245 true).run Tryz.prog w = .ok (.tuple #[.agg #[.int .i64 0, .int .i64 0, .int .i64 0], .bool false]) w := by kernel_rfl
theorem as6_no4 (v : Value) (w : World) : (Instr.typeAssert (.iface 250 v) 207 247 true).run Tryz.prog w = .ok (.tuple #[.agg #[.int .i64 0, .int .i64 0, .int .i64 0], .bool false]) w := by kernel_rfl
theorem as6_no5 (v : Value) (w : World) : (Instr.typeAssert (.iface 250 v) 207 249 true).run Tryz.prog w = .ok (.tuple #[.agg #[.int .i64 0], .bool false]) w := by kernel_rfl
theorem varnum (v : Int) (r : Bool) (hr : varOk v = r) (w : World) : Calls Tryz.prog 117 #[.int .i64 v] w (RetB w r) := by
  subst hr
  rcases (show v < 0 ∨ 7 < v ∨ (0 ≤ v ∧ v ≤ 7) by omega) with h | h | ⟨h, h2⟩
  · have HE := Lib.hid (show varOk v = false by simp [varOk]; omega)
    go_enter Tryz.func117, Tryz.ntmps117
    go_wp2
    go_ret
    exact ⟨by rw [HE.out]; rfl, rfl⟩
  · have HE := Lib.hid (show varOk v = false by simp [varOk]; omega)
    have h' : decide (v < 8) = false := by simp; omega
    go_enter Tryz.func117, Tryz.ntmps117
    go_wp2
    go_ret
    exact ⟨by rw [HE.out]; simp, rfl⟩
  · have HE := Lib.hid (show varOk v = true by simp [varOk]; omega)
    have h3 : v < 8 := by omega
    go_enter Tryz.func117, Tryz.ntmps117
    go_wp2
    go_ret
    exact ⟨by rw [HE.out]; rfl, rfl⟩
theorem sensnum (v : Int) (r : Bool) (hr : (decide (0 ≤ v) && decide (v ≤ 3)) = r) (w : World) : Calls Tryz.prog 183 #[.int .i64 v] w (RetB w r) := by
  subst hr
  rcases (show v < 0 ∨ 3 < v ∨ (0 ≤ v ∧ v ≤ 3) by omega) with h | h | ⟨h, h2⟩
  · have HE := Lib.hid (show (decide (0 ≤ v) && decide (v ≤ 3)) = false by simp; omega)
    go_enter Tryz.func183, Tryz.ntmps183
    go_wp2
    go_ret
    exact ⟨by rw [HE.out]; rfl, rfl⟩
  · have HE := Lib.hid (show (decide (0 ≤ v) && decide (v ≤ 3)) = false by simp; omega)
    have h' : decide (v < 4) = false := by simp; omega
    go_enter Tryz.func183, Tryz.ntmps183
    go_wp2
    go_ret
    exact ⟨by rw [HE.out]; simp, rfl⟩
  · have HE := Lib.hid (show (decide (0 ≤ v) && decide (v ≤ 3)) = true by simp; omega)
    have h3 : v < 4 := by omega
    go_enter Tryz.func183, Tryz.ntmps183
    go_wp2
    go_ret
    exact ⟨by rw [HE.out]; rfl, rfl⟩
set_option maxHeartbeats 1000000 in
theorem fields1 (v o a b : Int) (r : Bool) (hr : (varOk v && exprOk o a b) = r) (w : World) : Calls Tryz.prog 223 #[if1 v o a b] w (BelB w r) := by
  subst hr
  have t1 := as1_yes (.agg #[.int .i64 v, .int .i64 o, .int .i64 a, .int .i64 b])
  cases hv : varOk v <;> cases he : exprOk o a b
  all_goals
    have HV := Lib.hid hv
    clear hv
    go_enter Tryz.func223, Tryz.ntmps223
    go_wp2_with (first
      | (go_at_call 117; refine (varnum _ _ HV.out _).mono ?_; rintro e w2 ⟨rfl, rfl⟩)
      | (go_at_call 180; refine (impl_exprok _ _ _ _ he _).mono ?_; rintro e w3 ⟨rfl, hb3⟩))
    go_ret
    first
      | exact ⟨rfl, ((Below.refl _ _).alloc (Nat.le_refl _) _)⟩
      | exact ⟨rfl, below_then ((Below.refl _ _).alloc (Nat.le_refl _) _) hb3⟩
      | exact ⟨by simp; try omega, ((Below.refl _ _).alloc (Nat.le_refl _) _)⟩
set_option maxHeartbeats 1000000 in
theorem fields2 (v n : Int) (r : Bool) (hr : (varOk v && (decide (0 ≤ n) && decide (n ≤ 3))) = r) (w : World) : Calls Tryz.prog 223 #[if2 v n] w (BelB w r) := by
  subst hr
  have t2 := as2_yes (.agg #[.int .i64 v, .int .i64 n])
  have t1 := as2_no1 (.agg #[.int .i64 v, .int .i64 n])
  cases hv : varOk v <;> cases he : (decide (0 ≤ n) && decide (n ≤ 3))
  all_goals
    have HV := Lib.hid hv
    clear hv
    go_enter Tryz.func223, Tryz.ntmps223
    go_wp2_with (first
      | (go_at_call 117; refine (varnum _ _ HV.out _).mono ?_; rintro e w2 ⟨rfl, rfl⟩)
      | (go_at_call 183; refine (sensnum _ _ he _).mono ?_; rintro e w2 ⟨rfl, rfl⟩))
    go_ret
    first
      | exact ⟨rfl, ((Below.refl _ _).alloc (Nat.le_refl _) _)⟩
      | exact ⟨rfl, below_then ((Below.refl _ _).alloc (Nat.le_refl _) _) hb3⟩
      | exact ⟨by simp; try omega, ((Below.refl _ _).alloc (Nat.le_refl _) _)⟩
set_option maxHeartbeats 1000000 in
theorem fields3 (o a b : Int) (r : Bool) (hr : (exprOk o a b) = r) (w : World) : Calls Tryz.prog 223 #[if3 o a b] w (BelB w r) := by
  subst hr
  have t3 := as3_yes (.agg #[.int .i64 o, .int .i64 a, .int .i64 b])
  have t1 := as3_no1 (.agg #[.int .i64 o, .int .i64 a, .int .i64 b])
  have t2 := as3_no2 (.agg #[.int .i64 o, .int .i64 a, .int .i64 b])
  cases he : exprOk o a b
  all_goals
    go_enter Tryz.func223, Tryz.ntmps223
    go_wp2_with (first
      | (go_at_call 180; refine (impl_exprok _ _ _ _ he _).mono ?_; rintro e w3 ⟨rfl, hb3⟩))
    go_ret
    first
      | exact ⟨rfl, ((Below.refl _ _).alloc (Nat.le_refl _) _)⟩
      | exact ⟨rfl, below_then ((Below.refl _ _).alloc (Nat.le_refl _) _) hb3⟩
      | exact ⟨by simp; try omega, ((Below.refl _ _).alloc (Nat.le_refl _) _)⟩
set_option maxHeartbeats 1000000 in
theorem fields4 (o a b : Int) (r : Bool) (hr : (exprOk o a b) = r) (w : World) : Calls Tryz.prog 223 #[if4 o a b] w (BelB w r) := by
  subst hr
  have t4 := as4_yes (.agg #[.int .i64 o, .int .i64 a, .int .i64 b])
  have t1 := as4_no1 (.agg #[.int .i64 o, .int .i64 a, .int .i64 b])
  have t2 := as4_no2 (.agg #[.int .i64 o, .int .i64 a, .int .i64 b])
  have t3 := as4_no3 (.agg #[.int .i64 o, .int .i64 a, .int .i64 b])
  cases he : exprOk o a b
  all_goals
    go_enter Tryz.func223, Tryz.ntmps223
    go_wp2_with (first
      | (go_at_call 180; refine (impl_exprok _ _ _ _ he _).mono ?_; rintro e w3 ⟨rfl, hb3⟩))
    go_ret
    first
      | exact ⟨rfl, ((Below.refl _ _).alloc (Nat.le_refl _) _)⟩
      | exact ⟨rfl, below_then ((Below.refl _ _).alloc (Nat.le_refl _) _) hb3⟩
      | exact ⟨by simp; try omega, ((Below.refl _ _).alloc (Nat.le_refl _) _)⟩
set_option maxHeartbeats 1000000 in
theorem fields5 (n : Int) (r : Bool) (hr : (decide (1 ≤ n) && decide (n ≤ 5)) = r) (w : World) : Calls Tryz.prog 223 #[if5 n] w (BelB w r) := by
  subst hr
  have t5 := as5_yes (.agg #[.int .i64 n])
  have t1 := as5_no1 (.agg #[.int .i64 n])
  have t2 := as5_no2 (.agg #[.int .i64 n])
  have t3 := as5_no3 (.agg #[.int .i64 n])
  have t4 := as5_no4 (.agg #[.int .i64 n])
  rcases (show n < 1 ∨ 5 < n ∨ (1 ≤ n ∧ n ≤ 5) by omega) with h | h | ⟨h, h2⟩
  all_goals
    first | have hd : decide (n ≤ 5) = false := by simp; omega | skip
    go_enter Tryz.func223, Tryz.ntmps223
    go_wp2
    go_ret
    first
      | exact ⟨rfl, ((Below.refl _ _).alloc (Nat.le_refl _) _)⟩
      | exact ⟨rfl, below_then ((Below.refl _ _).alloc (Nat.le_refl _) _) hb3⟩
      | exact ⟨by simp; try omega, ((Below.refl _ _).alloc (Nat.le_refl _) _)⟩
set_option maxHeartbeats 1000000 in
theorem fields6 (r : Bool) (hr : (true) = r) (w : World) : Calls Tryz.prog 223 #[if6 ] w (BelB w r) := by
  subst hr
  have t6 := as6_yes (.agg #[])
  have t1 := as6_no1 (.agg #[])
  have t2 := as6_no2 (.agg #[])
  have t3 := as6_no3 (.agg #[])
  have t4 := as6_no4 (.agg #[])
  have t5 := as6_no5 (.agg #[])
  go_enter Tryz.func223, Tryz.ntmps223
  go_wp2
  go_ret
  first
    | exact ⟨rfl, ((Below.refl _ _).alloc (Nat.le_refl _) _)⟩
    | exact ⟨rfl, below_then ((Below.refl _ _).alloc (Nat.le_refl _) _) hb3⟩
    | exact ⟨by simp; try omega, ((Below.refl _ _).alloc (Nat.le_refl _) _)⟩
end fields_
end Go.Proofs.YtmgeecdgebemdaaGreatDoor.stm
