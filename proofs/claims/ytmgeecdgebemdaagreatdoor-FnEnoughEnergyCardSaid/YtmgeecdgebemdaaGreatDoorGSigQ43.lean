/- Several texts in one: QBotZ QBotT QCopy QTrcI. -/
import Derived.Test.YtmgeecdgebemdaaGreatDoorGSigQ42
import Derived.Recover
import Derived.Laws.Pointers
import Derived.Test.YtmgeecdgebemdaaGreatDoorGSigQ17
import Derived.Test.YtmgeecdgebemdaaGreatDoorGSigQ18
import Derived.Test.YtmgeecdgebemdaaGreatDoorGSigQ0
import Derived.Test.YtmgeecdgebemdaaGreatDoorGSigQ1
import Derived.Test.YtmgeecdgebemdaaGreatDoorGSigQ6
import Derived.Laws.CopyOwn
import Derived.Lib.SliceRun
import Derived.Deep.Onto
import Derived.Test.YtmgeecdgebemdaaGreatDoorGSigQ31
import Derived.Test.YtmgeecdgebemdaaGreatDoorGSigQ3
import Derived.Shelf.Lays7
import Derived.Laws.Externs
import Derived.Shelf.Spec.BitsCarry

/- Chapter 16 of the program: a boot's work, ended by its last task or by a power failure that the deferred call recovers. -/
namespace Go.Proofs.YtmgeecdgebemdaaGreatDoor.bot
open Go Go.ChangeShapes Go.WideShapes Go.ChangeAt Go.RowKit Go.Proofs.YtmgeecdgebemdaaGreatDoor.row Go.Proofs.YtmgeecdgebemdaaGreatDoor.val Go.Proofs.YtmgeecdgebemdaaGreatDoor.expr Go.Proofs.YtmgeecdgebemdaaGreatDoor.stm Go.Proofs.YtmgeecdgebemdaaGreatDoor.blk Go.Proofs.YtmgeecdgebemdaaGreatDoor.prg Go.Proofs.YtmgeecdgebemdaaGreatDoor.exe Go.Proofs.YtmgeecdgebemdaaGreatDoor.ctl Go.Proofs.YtmgeecdgebemdaaGreatDoor.mem Go.Proofs.YtmgeecdgebemdaaGreatDoor.grow Go.Proofs.YtmgeecdgebemdaaGreatDoor.wrt Go.Proofs.YtmgeecdgebemdaaGreatDoor.trc Go.Proofs.YtmgeecdgebemdaaGreatDoor.cst Go.Proofs.YtmgeecdgebemdaaGreatDoor.rcv
theorem pf_yes (w : World) : (Instr.typeAssert PF 20 146 true).run Tryz.prog w = .ok (.tuple #[.agg #[], .bool true]) w := by kernel_rfl
theorem pf_no (w : World) : (Instr.typeAssert .nilIface 20 146 true).run Tryz.prog w = .ok (.tuple #[.agg #[], .bool false]) w := by kernel_rfl
set_option maxHeartbeats 4000000 in
set_option maxRecDepth 100000 in
theorem catch_pf (p : Addr) (x : Bool) (w : World) (hc : w.cell? p = some (.bool x)) (hz : w.frozen? p = false) :
    CallsD Tryz.prog 119 #[.pointer (some p)] (.panicking [{ v := PF, recovered := false }]) w fun e u' w' =>
      e = .returned (.tuple #[]) ∧ u' = .panicking [{ v := PF, recovered := true }] ∧ w' = w.setCell p (.bool true) := by
  refine callsD_of_wpS Tryz.func119 rfl fun c₀ cs hu => ?_
  have h1 := pf_yes
  apply wpS_seq
  apply wpS_region
  simp [wpOpsS, go_sem, recoverD, hu, Tryz.ntmps119, Exit.thenS]
  refine wpS_of_wp ?_
  rw [show #[Value.pointer (some p)] ++ (Array.replicate 6 undef).setIfInBounds 0 PF = #[.pointer (some p), PF, undef, undef, undef, undef, undef] from rfl]
  go_wp2
  exact ⟨rfl, _, rfl, _, results_none rfl _ _ _, rfl, rfl, rfl⟩
set_option maxHeartbeats 4000000 in
set_option maxRecDepth 100000 in
theorem catch_ok (p : Addr) (x : Bool) (w : World) (hc : w.cell? p = some (.bool x)) (hz : w.frozen? p = false) :
    CallsD Tryz.prog 119 #[.pointer (some p)] .returning w fun e u' w' =>
      e = .returned (.tuple #[]) ∧ u' = .returning ∧ w' = w.setCell p (.bool true) := by
  refine callsD_of_wpS Tryz.func119 rfl fun c₀ cs hu => ?_
  have h1 := pf_no
  apply wpS_seq
  apply wpS_region
  simp [wpOpsS, go_sem, recoverD, hu, Tryz.ntmps119, Exit.thenS]
  refine wpS_of_wp ?_
  rw [show #[Value.pointer (some p)] ++ (Array.replicate 6 undef).setIfInBounds 0 Value.nilIface = #[.pointer (some p), .nilIface, undef, undef, undef, undef, undef] from rfl]
  go_wp2
  exact ⟨rfl, .returning, by rw [← hu], _, results_none rfl _ _ _, rfl, rfl, rfl⟩
/-- What a boot's work must give. -/
def WorkR (w0 : World) (gb gm cm : Nat) (B : Bt) (w : World) (e : Ending) (w' : World) : Prop := e = .returned (.bool true) ∧ ∃ lu au nu cu CS, Hid (BAt w0 gb gm lu cm au nu cu CS B w' ∧ Kp w.heap.size gb gm w w')
theorem Kp.less {l l' f g : Nat} {w w' : World} (h : Kp l f g w w') (hl : l' ≤ l) : Kp l' f g w w' := ⟨h.1, fun k hk => h.2 k (by omega)⟩
theorem undo_stop {Mem : List Int} {Q : List Wt} {z en : Int} (h : 0 ≤ en) : undoB ⟨Mem, z, [], en⟩ Q (en / 3).toNat = ⟨putAll Mem (Q.take (en / 3).toNat), z, [], en - 3 * (en / 3)⟩ := by
  unfold undoB
  show (⟨putAll Mem (Q.take (en / 3).toNat), z, [], en - 3 * (((en / 3).toNat : Nat) : Int)⟩ : Bt) = _
  rw [show (((en / 3).toNat : Nat) : Int) = en / 3 by omega]
theorem undo_all (Mem : List Int) (Q : List Wt) (z en : Int) : undoB ⟨Mem, z, [], en⟩ Q Q.length = ⟨putAll Mem Q, z, [], en - 3 * (Q.length : Int)⟩ := by
  unfold undoB
  rw [List.take_length]
theorem word8 {P : List Tk} {W : List Int} (h : MemIs P W) : i64r (W.getD 8 0) := by
  have := pack_parts h.2.2.1
  omega
set_option maxHeartbeats 8000000 in
set_option maxRecDepth 100000 in
theorem impl_work (w0 : World) (gb gm lu cm : Nat) (Mem : List Int) (z en : Int) (w : World) (h : BAt w0 gb gm lu cm none 0 0 [] ⟨Mem, z, [], en⟩ w) (a : Option Addr) (n cap : Nat) (P : List Tk) (hz : Sizes P) (hcap : n ≤ cap) (hP : TkRow w0 a n P) (ar : Option Addr) (nr cr : Nat) (R : List Int) (hnr : (nr : Int) ≤ 1048576) (hcr : nr ≤ cr) (hR : Row w0 ar nr R) (hCT : CostTab w0)
    (B : Bt) (hB : BootIs P Mem R z en true B) :
    Calls Tryz.prog 60 #[.pointer (some ⟨gb, 0, none⟩), .agg #[.slice a n cap], .slice ar nr cr] w (WorkR w0 gb gm cm B w) := by
  rcases hB with ⟨e0, _⟩ | ⟨_, hok, Q, hQ, hor⟩
  · cases e0
  have hmf : ∀ (fn : Fn) (first cap : Array Value) (w : World), (Instr.makeFunc fn first cap).run Tryz.prog w = .ok (.func fn first cap) w := fun _ _ _ _ => rfl
  obtain ⟨W, hW⟩ : ∃ W, (w.alloc (.cells #[.slice a n cap] 26)).alloc (.cells #[.bool false] 4) = W := ⟨_, rfl⟩
  have hBW : Below w.heap.size w W := by rw [← hW]; exact below_then (below_new w _) (below_new _ _)
  have hpx : Box w.heap.size #[.slice a n cap] 26 W := by rw [← hW]; exact (Box.new w _ _).alloc _
  have hkx : Box (w.heap.size + 1) #[.bool false] 4 W := by
    have h9 := Box.new (w.alloc (.cells #[.slice a n cap] 26)) #[.bool false] 4
    rw [World.size_alloc] at h9
    rw [← hW]; exact h9
  have hgb : gb < w.heap.size := h.1.lt
  have hgm : gm < w.heap.size := by have := h.2.1; omega
  have hlw : lu ≤ w.heap.size := h.2.1.2.2.2.2.2.1
  have hkl : w.heap.size + 1 < W.heap.size := hkx.lt
  have h1 : BAt w0 gb gm W.heap.size cm none 0 0 [] ⟨Mem, z, [], en⟩ W := (h.below hBW).rise (by omega) (Nat.le_refl _)
  have hml : Mem.length = 49 := hok.1.1.2.1
  have HU := Lib.hid (impl_undo w0 gb gm W.heap.size cm none 0 0 [] ⟨Mem, z, [], en⟩ W h1 hml (word8 hok.1.1) Q hQ hok.2 ⟨hok.1.2.2.1, by have := hok.1.2.2.2; show z ≤ 1000000; omega⟩)
  have hwl : w0.heap.size ≤ w.heap.size := h.2.2.2.2.2.size
  have H0 := Lib.hid (And.intro hP (And.intro hR (And.intro hCT (And.intro hpx hkx))))
  have HBW := Lib.hid (show Kp w.heap.size gb gm w W from Kp.of_below hBW (Nat.le_refl _))
  clear h hP hR hCT hBW hpx hkx h1
  go_enter_defers Tryz.func60, Tryz.ntmps60
  rcases hor with ⟨hlt, hB⟩ | ⟨hle, hrun⟩
  · have HF := Lib.hid (HU.out.mono (R' := fun e w' => e = .panicked [{ v := PF, recovered := false }] ∧ Hid (BAt w0 gb gm W.heap.size cm none 0 0 [] B w' ∧ Pair gb gm W w')) (fun e w' hh => by
      obtain ⟨⟨_, h1, _⟩ | ⟨rfl, h1, h2⟩, h3⟩ := hh
      · exfalso; have h4 : (Q.length : Int) ≤ en / 3 := h1; omega
      · refine ⟨rfl, ?_, h3.out⟩
        rw [hB, ← undo_stop hok.2.1]
        exact h2.out))
    clear hB hlt HU
    go_wp2_with (go_at_call 120; (with_reducible refine HF.out.mono ?_); rintro e w2 ⟨rfl, hm⟩; refine Hid.out ?_)
    have H9 := Lib.hid hm
    clear hm
    have kx := H9.out.2.box H0.out.2.2.2.2 (by omega) (by omega)
    have kc : w2.cell? ⟨w.heap.size + 1, 0, none⟩ = some (.bool false) := kx.cell 0
    have kf : w2.frozen? ⟨w.heap.size + 1, 0, none⟩ = false := kx.frozen 0
    have kn : (w2.setCell ⟨w.heap.size + 1, 0, none⟩ (.bool true)).cell? ⟨w.heap.size + 1, 0, none⟩ = some (.bool true) := (kx.set 0 (.bool true)).cell 0
    have HG := Lib.hid (H9.out.1.low (grown_setCell w2 (w.heap.size + 1) 0 (.bool true)) (by omega) (by omega) (by omega) (by omega))
    have HKG := Lib.hid ((HBW.out.trans (Kp.of_pair H9.out.2 (by omega))).trans (Kp.of_grown (grown_setCell w2 (w.heap.size + 1) 0 (.bool true)) (by have h1 := (HBW.out.trans (Kp.of_pair H9.out.2 (by omega))).1.size; exact h1) (fun b hb => by cases hb; exact .inr (.inr (by show w.heap.size ≤ w.heap.size + 1; omega)))))
    clear kx
    refine Lib.hid (leaves_cons (f := 119) (args := #[.pointer (some ⟨w.heap.size + 1, 0, none⟩)]) (by simp) (by simp [go_sem]) ?_)
    refine (catch_pf ⟨w.heap.size + 1, 0, none⟩ false w2 kc kf).mono ?_
    rintro e9 u9 w9 ⟨rfl, rfl, rfl⟩
    refine ⟨.bool true, ?_, rfl, _, _, _, _, _, HG.out, HKG.out⟩
    simp [results, Tryz.results60, go_sem, kn]
  · have hbo := bootIs_start hok hQ hle
    have HF := Lib.hid (HU.out.mono (R' := fun e w' => e = .returned (.tuple #[]) ∧ Hid (BAt w0 gb gm W.heap.size cm none 0 0 [] ⟨putAll Mem Q, z, [], en - 3 * (Q.length : Int)⟩ w' ∧ Pair gb gm W w')) (fun e w' hh => by
      obtain ⟨⟨rfl, _, h2⟩ | ⟨_, h1, _⟩, h3⟩ := hh
      · refine ⟨rfl, ?_, h3.out⟩
        rw [← undo_all]
        exact h2.out
      · exfalso; have h4 : en / 3 < (Q.length : Int) := h1; omega))
    go_wp2_with (go_at_call 120; (with_reducible refine HF.out.mono ?_); rintro e w2 ⟨rfl, hm⟩; refine Hid.out ?_)
    have HA := Lib.hid (show BAt w0 gb gm W.heap.size cm none 0 0 [] ⟨putAll Mem Q, z, [], en - 3 * (Q.length : Int)⟩ w2 ∧ Kp W.heap.size gb gm W w2 from ⟨hm.1, Kp.of_pair hm.2 (Nat.le_refl _)⟩)
    have HRB := Lib.hid (And.intro hrun hbo)
    clear hm hrun hbo HF HU
    refine Lib.hid ?_
    go_wp2
    go_loopw [10] (fun i wr => ∃ (k N : Nat) (s : Bt) (au : Option Addr) (cu : Nat) (CS : List Value), k + N = 10 ∧ i = .int .i64 k ∧ Hid (RunB P R N s B ∧ BtOk P R N s) ∧ Hid (BAt w0 gb gm W.heap.size cm au k cu CS s wr ∧ Kp W.heap.size gb gm W wr)) (fun i _ => 10 - (intOf i).toNat)
    case atStart => exact ⟨0, 10, _, none, 0, [], rfl, rfl, HRB.out, HA.out⟩
    case round =>
      obtain ⟨k, N, s, au, cu, CS, hkN, rfl, HR, HBk⟩ := hrel
      cases N with
      | zero =>
        obtain rfl : k = 10 := by omega
        obtain rfl : B = s := by cases HR.out.1; rfl
        have H9 := HBk
        clear HR
        go_wp2
        have kx := H9.out.2.box H0.out.2.2.2.2 (by omega) (by omega) (by omega)
        have kc : wr.cell? ⟨w.heap.size + 1, 0, none⟩ = some (.bool false) := kx.cell 0
        have kf : wr.frozen? ⟨w.heap.size + 1, 0, none⟩ = false := kx.frozen 0
        have kn : (wr.setCell ⟨w.heap.size + 1, 0, none⟩ (.bool true)).cell? ⟨w.heap.size + 1, 0, none⟩ = some (.bool true) := (kx.set 0 (.bool true)).cell 0
        have HG := Lib.hid (H9.out.1.low (grown_setCell wr (w.heap.size + 1) 0 (.bool true)) (by omega) (by omega) (by omega) (by omega))
        have HKG := Lib.hid ((HBW.out.trans (H9.out.2.less (by omega))).trans (Kp.of_grown (grown_setCell wr (w.heap.size + 1) 0 (.bool true)) (by have h1 := (HBW.out.trans (H9.out.2.less (by omega))).1.size; exact h1) (fun b hb => by cases hb; exact .inr (.inr (by show w.heap.size ≤ w.heap.size + 1; omega)))))
        clear kx
        refine (leaves_cons (f := 119) (args := #[.pointer (some ⟨w.heap.size + 1, 0, none⟩)]) (by simp) (by simp [go_sem]) ?_)
        refine (catch_ok ⟨w.heap.size + 1, 0, none⟩ false wr kc kf).mono ?_
        rintro e9 u9 w9 ⟨rfl, rfl, rfl⟩
        refine ⟨.bool true, ?_, rfl, _, _, _, _, _, HG.out, HKG.out⟩
        simp [results, Tryz.results60, go_sem, kn]
      | succ N =>
        have hk : k < 10 := by omega
        have hI : (k : Int) < 10 := by omega
        obtain ⟨M, U, hT, hor⟩ := HR.out.1.split
        have hb := HR.out.2
        have hw9 := HBk.out.1.2.2.2.2.2
        have HC := Lib.hid (impl_complete w0 gb gm W.heap.size cm au k cu CS s wr HBk.out.1 a n cap P hz hcap (H0.out.1.below hw9) ar nr cr R hnr hcr (H0.out.2.1.below hw9) (H0.out.2.2.1.below hw9) (word8 hb.1) M U hT hb.1.2.1 hb.2.2.2.2 (by have := hb.2.2.1; omega) (by omega))
        have hpx := HBk.out.2.box H0.out.2.2.2.1 (by omega) (by omega) (by omega)
        rcases hor with ⟨hs, hBs⟩ | ⟨hall, hrun⟩
        · have HF := Lib.hid (HC.out.mono (R' := fun e w' => e = .panicked [{ v := PF, recovered := false }] ∧ Hid (BAt w0 gb gm W.heap.size cm au k cu CS B w' ∧ Kp W.heap.size gb gm wr w')) (fun e w' hh => by
            obtain ⟨⟨_, h1, _⟩ | ⟨rfl, h1, h2⟩, h3⟩ := hh
            · exfalso; omega
            · refine ⟨rfl, ?_, h3.out⟩
              rw [hBs]
              exact h2.out))
          have HPX := Lib.hid hpx
          clear HC hs hBs hpx hb hw9 hT
          go_wp2_with (first
            | (refine wpList_load_row rfl 26 _ rfl w.heap.size rfl _ _ _ _ HPX.out Tryz.underlying26 rfl (by kernel_rfl) ?_)
            | (go_at_call 121; (with_reducible refine HF.out.mono ?_); rintro e w3 ⟨rfl, hm⟩; refine Hid.out ?_))
          have H9 := Lib.hid (And.intro hm.1 (HBk.out.2.trans hm.2))
          clear hm
          have kx := H9.out.2.box H0.out.2.2.2.2 (by omega) (by omega) (by omega)
          have kc : w3.cell? ⟨w.heap.size + 1, 0, none⟩ = some (.bool false) := kx.cell 0
          have kf : w3.frozen? ⟨w.heap.size + 1, 0, none⟩ = false := kx.frozen 0
          have kn : (w3.setCell ⟨w.heap.size + 1, 0, none⟩ (.bool true)).cell? ⟨w.heap.size + 1, 0, none⟩ = some (.bool true) := (kx.set 0 (.bool true)).cell 0
          have HG := Lib.hid (H9.out.1.low (grown_setCell w3 (w.heap.size + 1) 0 (.bool true)) (by omega) (by omega) (by omega) (by omega))
          have HKG := Lib.hid ((HBW.out.trans (H9.out.2.less (by omega))).trans (Kp.of_grown (grown_setCell w3 (w.heap.size + 1) 0 (.bool true)) (by have h1 := (HBW.out.trans (H9.out.2.less (by omega))).1.size; exact h1) (fun b hb => by cases hb; exact .inr (.inr (by show w.heap.size ≤ w.heap.size + 1; omega)))))
          clear kx
          refine Lib.hid (leaves_cons (f := 119) (args := #[.pointer (some ⟨w.heap.size + 1, 0, none⟩)]) (by simp) (by simp [go_sem]) ?_)
          refine (catch_pf ⟨w.heap.size + 1, 0, none⟩ false w3 kc kf).mono ?_
          rintro e9 u9 w9 ⟨rfl, rfl, rfl⟩
          refine ⟨.bool true, ?_, rfl, _, _, _, _, _, HG.out, HKG.out⟩
          simp [results, Tryz.results60, go_sem, kn]
        · have HF := Lib.hid (HC.out.mono (R' := fun e w' => e = .returned (.tuple #[]) ∧ Hid (∃ au' cu' CS', BAt w0 gb gm W.heap.size cm au' (k + 1) cu' CS' (nextB s M U) w' ∧ Kp W.heap.size gb gm wr w')) (fun e w' hh => by
            obtain ⟨⟨rfl, _, au', cu', CS', h2⟩ | ⟨_, h1, _⟩, h3⟩ := hh
            · exact ⟨rfl, au', cu', CS', h2.out, h3.out⟩
            · exfalso; omega))
          have HPX := Lib.hid hpx
          have HNX := Lib.hid (And.intro hrun (hb.next hT hall))
          clear HC hrun hall hpx hb hw9 hT
          go_wp2_with (first
            | (refine wpList_load_row rfl 26 _ rfl w.heap.size rfl _ _ _ _ HPX.out Tryz.underlying26 rfl (by kernel_rfl) ?_)
            | (go_at_call 121; (with_reducible refine HF.out.mono ?_); rintro e w3 ⟨rfl, hm⟩; refine Hid.out ?_))
          obtain ⟨au', cu', CS', hm1, hm2⟩ := hm
          have H9 := Lib.hid (And.intro hm1 (HBk.out.2.trans hm2))
          clear hm1 hm2
          refine Lib.hid ?_
          go_wp2
          go_roundw
          case rel => exact ⟨k + 1, N, nextB s M U, au', cu', CS', by omega, by go_num, HNX.out, H9.out⟩
          case measure => simp [intOf]; omega
end Go.Proofs.YtmgeecdgebemdaaGreatDoor.bot

/- Chapter 16: BootTasks of the program and of the model. -/
namespace Go.Proofs.YtmgeecdgebemdaaGreatDoor.bot
open Go Go.ChangeShapes Go.WideShapes Go.ChangeAt Go.RowKit Go.Proofs.YtmgeecdgebemdaaGreatDoor.row Go.Proofs.YtmgeecdgebemdaaGreatDoor.val Go.Proofs.YtmgeecdgebemdaaGreatDoor.expr
set_option maxHeartbeats 2000000 in
set_option maxRecDepth 100000 in
theorem impl_boottasks (w : World) (am : Option Addr) (nm cm : Nat) (z : Int) (au : Option Addr) (nu cu : Nat) (e : Int) (_ : (nu : Int) ≤ 1048576) :
    Calls Tryz.prog 16 #[botV am nm cm z au nu cu e] w (BelI w nu) := by
  obtain ⟨W, hW⟩ : ∃ W, w.alloc (.cells #[.slice am nm cm, .int .i64 z, .slice au nu cu, .int .i64 e] 34) = W := ⟨_, rfl⟩
  have hBW : Below w.heap.size w W := by rw [← hW]; exact below_new w _
  have hx : Box w.heap.size #[.slice am nm cm, .int .i64 z, .slice au nu cu, .int .i64 e] 34 W := by rw [← hW]; exact Box.new w _ _
  have x2 : W.cell? ⟨w.heap.size, 2, none⟩ = some (.slice au nu cu) := hx.cell 2
  have H0 := Lib.hid hBW
  clear hBW hx
  go_enter Tryz.func16, Tryz.ntmps16
  go_wp2
  go_ret
  exact ⟨rfl, H0.out⟩
end Go.Proofs.YtmgeecdgebemdaaGreatDoor.bot

/- A copy of a row of numbers in new memory: the program's copyOf; nothing that was there is written. -/
namespace Go.Proofs.YtmgeecdgebemdaaGreatDoor.cop
open Go Go.ChangeShapes Go.WideShapes Go.ChangeAt Go.RowKit Go.Proofs.YtmgeecdgebemdaaGreatDoor.row Go.Proofs.YtmgeecdgebemdaaGreatDoor.val Go.Proofs.YtmgeecdgebemdaaGreatDoor.expr Go.Proofs.YtmgeecdgebemdaaGreatDoor.grow
theorem row_range {w : World} {b off n : Nat} {L : List Int} (h : Row w (some ⟨b, off, none⟩) n L) : w.rangeAt b off (ivs L) := by
  intro j v hj
  have hjl : j < n := by have := (List.getElem?_eq_some_iff.1 hj).1; rw [ivs_length] at this; have := h.1; omega
  obtain ⟨b', off', x, e, _, hx, hc⟩ := h.2 j hjl
  cases e
  rw [hc]
  simp [ivs, hx] at hj
  rw [hj]
theorem row_some {w : World} {a : Option Addr} {n : Nat} {L : List Int} (h : Row w a n L) (hn : 0 < n) : ∃ b off, a = some ⟨b, off, none⟩ := by
  obtain ⟨b, off, _, e, _⟩ := h.2 0 hn
  exact ⟨b, off, e⟩
theorem ivs_one (L : List Int) : ∀ v ∈ ivs L, v.oneCell' = true := by intro v hv; obtain ⟨x, _, rfl⟩ := List.mem_map.1 hv; rfl
theorem box_own {w : World} {B g n : Nat} {L : List Int} {t : TypeId} (h : Box g (ivs L).toArray t w) (hB : B ≤ g) (hl : L.length = n) (hn : n ≤ maxLen) : w.ownsRow B t 1 (.slice (some ⟨g, 0, none⟩) n n) n (ivs L) :=
  ⟨by simp [ivs, hl], .inr ⟨g, n, (ivs L).toArray, rfl, hB, h, Nat.le_refl _, hn, by simp [ivs, hl], by rw [Nat.mul_one]; exact List.take_of_length_le (by simp [ivs, hl])⟩⟩
/-- A new row of 'n' words in the first new block. -/
def NewAt (w : World) (n : Nat) (L : List Int) (e : Ending) (w' : World) : Prop :=
  ∃ g, e = .returned (.slice (some ⟨g, 0, none⟩) n n) ∧ w.heap.size ≤ g ∧ Box g (ivs L).toArray 3 w' ∧ Below w.heap.size w w'
theorem NewAt.ints {w : World} {n : Nat} {L : List Int} {e : Ending} {w' : World} (h : NewAt w n L e w') (hl : L.length = n) (hn : (n : Int) ≤ 1048576) : NewInts w L e w' := by
  obtain ⟨g, h1, h2, h3, h4⟩ := h
  exact ⟨_, _, _, h1, box_own h3 h2 hl (by unfold maxLen; omega), h4⟩
theorem splice_all {n : Nat} {L : List Int} (hl : L.length = n) : splice (ivs (List.replicate n 0)) 0 (ivs L) = ivs L := by simp [splice, ivs, hl]

set_option maxHeartbeats 1000000 in
set_option maxRecDepth 100000 in
theorem impl_copyof (w : World) (a : Option Addr) (n cap : Nat) (L : List Int) (hn : (n : Int) ≤ 1048576) (h : Row w a n L) :
    Calls Tryz.prog 59 #[.slice a n cap] w (NewAt w n L) := by
  obtain ⟨i0, hi, hz0, hz1, hz2⟩ := info_parts infoInt
  have HL := Lib.hid (show (ivs L).length = Nat.min n n by rw [ivs_length, h.1]; simp)
  have HF := Lib.hid (show 0 + (ivs L).length ≤ (ivs (List.replicate n 0)).length by simp [ivs, h.1])
  have HP : Hid (∀ w' : World, Below w.heap.size w w' → 0 < (ivs L).length → ∃ ad, a = some ad ∧ ∀ j v, (ivs L)[j]? = some v → w'.cell? (ad.add j) = some v) := fun w' hb h0 => by
    obtain ⟨b, off, rfl⟩ := row_some h (by rw [ivs_length, h.1] at h0; exact h0)
    exact ⟨_, rfl, fun j v hj => by rw [Addr.add_mid]; exact row_range (h.below hb) j v hj⟩
  have H1 := Lib.hid (ivs_one L)
  have HS := Lib.hid (splice_all h.1)
  clear h
  go_enter Tryz.func59, Tryz.ntmps59
  go_wp2_with ((refine wpList_make_full _ rfl _ _ 27 rfl w.heap.size 3 i0 _ 1 Tryz.underlying27 hi hz0 hz1 .i64 .i64 _ _ n rfl rfl rfl rfl (by rw [hz2]; omega) (by unfold maxLen; omega) (Nat.le_refl _) ?_); intro w1 hown1 hg1; refine Hid.out ?_)
  rw [made_zeros] at hown1
  have HX := Lib.hid (And.intro (own_box hown1) (below_grown hg1))
  clear hown1 hg1
  refine Lib.hid ?_
  go_wp2_with (refine wpList_copy_splice rfl _ _ 27 27 rfl 3 Tryz.underlying27 (by kernel_rfl) _ _ n n n cap rfl rfl w.heap.size 0 (ivs (List.replicate n 0)) 3 HX.out.1 (ivs L) HL.out (fun h0 => ⟨rfl, HP.out _ HX.out.2 h0⟩) HF.out H1.out w.heap.size w HX.out.2 (Nat.le_refl _) ?_; intro w3 hx3 hb3)
  go_ret
  exact ⟨w.heap.size, rfl, Nat.le_refl _, by have := hx3.out; rw [HS.out] at this; exact this, hb3⟩
end Go.Proofs.YtmgeecdgebemdaaGreatDoor.cop

/- Chapter 14 of the program: TraceCost, WritesOf, CountSteps; nothing that was there is written. -/
namespace Go.Proofs.YtmgeecdgebemdaaGreatDoor.trc
open Go Go.ChangeShapes Go.WideShapes Go.ChangeAt Go.RowKit Go.Proofs.YtmgeecdgebemdaaGreatDoor.row Go.Proofs.YtmgeecdgebemdaaGreatDoor.val Go.Proofs.YtmgeecdgebemdaaGreatDoor.expr Go.Proofs.YtmgeecdgebemdaaGreatDoor.grow Go.Proofs.YtmgeecdgebemdaaGreatDoor.wrt
set_option maxHeartbeats 2000000 in
set_option maxRecDepth 100000 in
theorem impl_tracecost : TcC := by
  intro w a1 n1 c1 a2 n2 c2 M U hcap h _ q hq
  obtain ⟨W, hW⟩ : ∃ W, w.alloc (.cells #[.slice a1 n1 c1, .slice a2 n2 c2] 54) = W := ⟨_, rfl⟩
  have hbx : Box w.heap.size #[.slice a1 n1 c1, .slice a2 n2 c2] 54 W := by rw [← hW]; exact Box.new w _ _
  have hBW : Below w.heap.size w W := by rw [← hW]; exact below_new w _
  have H := Lib.hid (And.intro hBW (h.below hBW))
  have hn : (n1 : Int) ≤ 1048576 := h.2.2.1
  have HQ := Lib.hid hq
  have c0 : W.cell? ⟨w.heap.size, 0, none⟩ = some (.slice a1 n1 c1) := hbx.cell 0
  clear h hbx hBW hq hcap
  go_enter Tryz.func40, Tryz.ntmps40
  go_wp2
  go_loopw [3, 5, 9] (fun s _ i wr => ∃ k : Nat, k ≤ n1 ∧ i = .int .i64 k ∧ s = .int .i64 (costW (csts (M.take k))) ∧ Hid (Below W.heap.size W wr)) (fun _ _ i _ => n1 - (Go.RowKit.intOf i).toNat)
  case atStart => exact ⟨0, Nat.zero_le _, rfl, rfl, Below.refl _ _⟩
  case round =>
    obtain ⟨k, hk, rfl, rfl, HB⟩ := hrel
    by_cases hlt : k < n1
    · obtain ⟨b, off, m, rfl, hlb, hm, hr⟩ := (H.out.2.1.below HB.out).2 k hlt
      have hI : (k : Int) < n1 := by omega
      have HR := Lib.hid hr
      have HM := Lib.hid (csts_snoc hm)
      obtain ⟨mc, ma, mv⟩ := m
      clear hr hm
      go_wp2_with (first
        | (refine wpList_load_mid rfl 98 _ rfl b (off + k * 3) rfl (microC ⟨mc, ma, mv⟩) _ HR.out Tryz.underlying98 rfl (by kernel_rfl) ?_)
        | (refine wpList_store_box rfl 98 _ _ rfl wr.heap.size _ _ (Box.new wr _ _) #[.int .i64 mc, .int .i64 ma, .int .i64 mv] rfl rfl rfl (by kernel_rfl) (by simp [Value.oneCell']) ?_; intro w2 hx2 hg2; refine Hid.out ?_))
      have hb2 : Below wr.heap.size wr w2 := (below_new wr _).grown hg2 (by simp) (fun j hj => by cases hj; exact Nat.le_refl _)
      have c0 := hx2.cell 0
      have HB2 := Lib.hid (below_then HB.out hb2)
      clear hx2 hg2 hb2
      refine Lib.hid ?_
      go_wp2
      go_roundw
      case rel => exact ⟨k + 1, by omega, by go_num, by rw [HM.out, IntKind.wrap_i64]; unfold wrap64; rfl, HB2.out⟩
      case measure => simp [Go.RowKit.intOf]; omega
    · obtain rfl : k = n1 := by omega
      have HE := Lib.hid (show costW (csts (M.take k)) = q by rw [List.take_of_length_le (by have := H.out.2.1.1; omega)]; exact HQ.out)
      have hI : ¬ (k : Int) < k := by omega
      go_wp2
      go_ret
      exact ⟨by rw [HE.out]; rfl, below_then H.out.1 HB.out⟩
end Go.Proofs.YtmgeecdgebemdaaGreatDoor.trc
