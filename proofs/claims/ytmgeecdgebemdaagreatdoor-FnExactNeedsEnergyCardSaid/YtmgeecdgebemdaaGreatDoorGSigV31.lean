/- Several texts in one: VSetR VSetI. -/
import Derived.Test.YtmgeecdgebemdaaGreatDoorGSigV30
import Derived.Test.YtmgeecdgebemdaaGreatDoorGSigV21
import Derived.Test.YtmgeecdgebemdaaGreatDoorGSigV17

/- The program's passBlock: what is certainly written behind the block, and what can be read before it is written; nothing that was there is written. -/
namespace Go.Proofs.YtmgeecdgebemdaaGreatDoor.sets
open Go Go.ChangeShapes Go.WideShapes Go.ChangeAt Go.RowKit Go.Maps Go.Proofs.YtmgeecdgebemdaaGreatDoor.row Go.Proofs.YtmgeecdgebemdaaGreatDoor.val Go.Proofs.YtmgeecdgebemdaaGreatDoor.stm Go.Proofs.YtmgeecdgebemdaaGreatDoor.blk Go.Proofs.YtmgeecdgebemdaaGreatDoor.expr
/-- What passing a block leaves: the two sets in two new blocks. -/
def Two2 (B : List Sm) (w : World) (e : Ending) (w' : World) : Prop :=
  ∃ (q r : Nat) (W G : Nat → Bool), e = .returned (.tuple #[.map (some q), .map (some r)]) ∧ q ≠ r ∧ w.heap.size ≤ q ∧ w.heap.size ≤ r ∧ Hid (Mset q W w' ∧ Is W (WAt B B.length)) ∧ Hid (Mset r G w' ∧ Is G (FAt B B.length)) ∧ Hid (Below w.heap.size w w')
set_option maxHeartbeats 8000000 in
set_option maxRecDepth 100000 in
theorem impl_pass (a : Option Addr) (n cap : Nat) (B : List Sm) (hn : (n : Int) ≤ 1048576) (hb : IsBlk B) (w : World) (h : StRow w a n B) :
    Calls Tryz.prog 181 #[.slice a n cap] w (Two2 B w) := by
  have hmm := @run_makeMap Tryz.prog
  have HL := Lib.hid h
  have HB := Lib.hid hb
  have hlen : B.length = n := h.1
  obtain ⟨W1, hW1⟩ : ∃ W1, (w.alloc (.map #[] 0)).alloc (.map #[] 0) = W1 := ⟨_, rfl⟩
  have H1 := Lib.hid (show W1.ownsMap Tryz.prog 3 mapEl w.heap.size 0 (.map []) ∧ Mset (w.heap.size + 1) (fun _ => false) W1 ∧ Below w.heap.size w W1 by
    rw [← hW1]
    refine ⟨(World.ownsMap_made w _ _ _).alloc _, ?_, ((Below.refl _ w).alloc (Nat.le_refl _) _).alloc (by simp) _⟩
    have h9 := Mset.made (w.alloc (.map #[] 0))
    rw [World.size_alloc] at h9
    exact h9)
  clear h hb
  go_enter Tryz.func181, Tryz.ntmps181
  go_wp2_with (refine wpList_insert_own _ rfl _ _ _ 228 rfl _ _ keyI topU mapEl w.heap.size 0 (.map []) rfl H1.out.1 (by unfold maxLen; omega) _ _ _ rfl rfl (keyOfI (x := (n : Int)) (by omega) (by omega)) _ [] rfl ?_; intro w3 ho3 hg3; refine Hid.out ?_)
  obtain ⟨b, hbd⟩ : ∃ b, b = w.heap.size := ⟨_, rfl⟩
  have hs3 := hg3.size
  have hs1 : w.heap.size + 2 ≤ W1.heap.size := by rw [← hW1]; simp
  obtain ⟨r, hrd⟩ : ∃ r, r = w3.heap.size := ⟨_, rfl⟩
  have hbr : b ≠ r := by omega
  have hbb : w.heap.size ≤ b := by omega
  have hrr : w.heap.size ≤ r := by omega
  obtain ⟨W4, hW4⟩ : ∃ W4, w3.alloc (.map #[] 0) = W4 := ⟨_, rfl⟩
  have H4 := Lib.hid (show TopD w.heap.size b r B 0 (fun _ => w.heap.size + 1) (fun _ _ => false) ((DataW.map []).put (.int .i64 (B.length : Int)) (.lit (.int .i64 ((w.heap.size + 1 : Nat) : Int)))) W4 ∧ Mset r (fun _ => false) W4 ∧ Below w.heap.size w W4 by
    rw [← hW4]
    have hB3 : Below w3.heap.size w3 (w3.alloc (.map #[] 0)) := (Below.refl _ w3).alloc (Nat.le_refl _) _
    have hq3 : Mset (w.heap.size + 1) (fun _ => false) w3 := H1.out.2.1.kept hg3 (by simp)
    refine ⟨(top_start (base := w.heap.size) (b := b) (r := r) (by rw [hlen, hbd]; exact ho3) hq3 (by omega) (by omega) (by omega)).below hB3, by rw [hrd]; exact Mset.made w3, ?_⟩
    exact below_then (H1.out.2.2.grown hg3 H1.out.2.2.size (fun j hj => by cases hj; exact Nat.le_refl _)) hB3)
  clear ho3 hg3 hW1
  refine Lib.hid ?_
  go_wp2
  rw [← hbd, ← hrd]
  clear hW4 hmm hbd hrd
  go_loopw [16] (fun i wr => ∃ (p : Nat) (m : Nat → Nat) (F : Nat → Nat → Bool) (D : DataW Unit) (G : Nat → Bool), p ≤ n ∧ i = .int .i64 p ∧ Hid (TopD w.heap.size b r B p m F D wr) ∧ Hid (Mset r G wr ∧ Is G (FAt B p)) ∧ Hid (Below w.heap.size w wr)) (fun i _ => n - (intOf i).toNat)
  case atStart => exact ⟨0, _, _, _, _, Nat.zero_le _, rfl, H4.out.1, ⟨H4.out.2.1, fun v _ => ⟨fun e => (by cases e), fun e => absurd e fAt_zero⟩⟩, H4.out.2.2⟩
  case round =>
    obtain ⟨p, m, F, D, G, hp, rfl, HT, HG, HR⟩ := hrel
    by_cases hlt : p < n
    · have hI : (p : Int) < n := by omega
      obtain ⟨g, off, s, rfl, hlb, hs, hrs⟩ := (HL.out.below HR.out).2 p hlt
      have HS := Lib.hid (And.intro hs (And.intro hrs (blk_stOk HB.out hs)))
      have HX := Lib.hid (And.intro (Box.new wr zero6 112) (below_new wr (.cells zero6 112)))
      have hkind := st_kind HS.out.2.2
      obtain ⟨q0, hq0⟩ := top_min HT.out
      have HQ := Lib.hid hq0
      have hq0n : q0 ≤ n := by have := hq0.1.le; omega
      have hrm : r ≠ m q0 := fun e9 => (HT.out.2.1 q0 hq0.1).2.2.1 e9.symm
      clear hs hrs hq0
      go_wp2_with (first
        | (refine wpList_load_mid rfl 112 _ rfl g (off + p * 6) rfl (stC s) _ HS.out.2.1 Tryz.underlying112 rfl (by kernel_rfl) ?_)
        | ((refine wpList_store_box rfl 112 _ _ rfl wr.heap.size _ _ HX.out.1 #[.int .i64 s.k, .int .i64 s.v, .int .i64 s.n, .int .i64 s.o, .int .i64 s.a, .int .i64 s.b] rfl rfl rfl (by kernel_rfl) (by simp [Value.oneCell']) ?_); intro w5 hx5 hg5; refine Hid.out ?_))
      have hb5 : Below wr.heap.size wr w5 := HX.out.2.grown hg5 HX.out.2.size (fun j hj => by cases hj; exact Nat.le_refl _)
      have H5 := Lib.hid (And.intro hx5 (And.intro (HT.out.below hb5) (And.intro (HG.out.1.below hb5) (below_then HR.out hb5))))
      have hlx := hx5.lt
      clear hx5 hg5 hb5
      have HINN := Lib.hid (impl_innermost b (p + 1) D _ H5.out.2.1.1.1 (by omega) q0 (m q0) HQ.out.2.2.1 HQ.out.2.2.2.1 (by omega) (H5.out.2.1.1.2.2 q0 HQ.out.1))
      refine Lib.hid ?_
      go_wp2_with (go_at_call 218; (with_reducible refine HINN.out.mono ?_); rintro e w6 ⟨rfl, hb6⟩; refine Hid.out ?_)
      have H6 := Lib.hid (And.intro (H5.out.1.below hb6) (And.intro (H5.out.2.1.below hb6) (And.intro (H5.out.2.2.1.below hb6) (below_then H5.out.2.2.2 hb6))))
      clear hb6
      have d3 : w6.cell? ⟨wr.heap.size, 3, none⟩ = some (.int .i64 s.o) := H6.out.1.cell 3
      have d4 : w6.cell? ⟨wr.heap.size, 3 + 1, none⟩ = some (.int .i64 s.a) := H6.out.1.cell 4
      have d5 : w6.cell? ⟨wr.heap.size, 3 + 2, none⟩ = some (.int .i64 s.b) := H6.out.1.cell 5
      have HADD := Lib.hid (impl_addfirst r (m q0) G (F q0) hrm s.o s.a s.b w6 H6.out.2.2.1 (H6.out.2.1.2.1 q0 HQ.out.1).2.2.2.1)
      refine Lib.hid ?_
      go_wp2_with (go_at_call 182; (with_reducible refine HADD.out.mono ?_); rintro e9 w7 ⟨rfl, hg7, G7, hG7⟩; refine Hid.out ?_)
      have hxr : wr.heap.size ≠ r := fun e9 => by have := HG.out.1.lt; omega
      have H7 := Lib.hid (And.intro (H6.out.1.grown hg7 (fun e9 => hxr (Option.some.inj e9))) (And.intro (H6.out.2.1.kept hg7 hbr) (And.intro hG7.out.1 (H6.out.2.2.2.grown hg7 H6.out.2.2.2.size (fun j hj => by cases hj; exact hrr)))))
      have HG7 := Lib.hid (is_reads HS.out.1 HS.out.2.2 HG.out.2 HQ.out.2.2.2.2 hG7.out.2)
      clear hg7 hG7 d3 d4 d5
      refine Lib.hid ?_
      rcases hkind with hk | hk | hk | hk | hk | hk
      · have HWR : true = true ↔ Go.Proofs.YtmgeecdgebemdaaGreatDoor.sets.wr s := ⟨fun _ => .inl hk, fun _ => rfl⟩
        obtain ⟨u, hu, hu8⟩ := wr_var HS.out.2.2 (.inl hk)
        have HU := Lib.hid hu
        clear hu
        have HWC := Lib.hid (show ∀ w', Calls Tryz.prog 142 #[stV s] w' (BelB w' true) from fun w' => impl_writes s true HWR w')
        have HK := Lib.hid hk
        clear hk HWR
        go_wp2_with (first
          | (refine wpList_load_row rfl 112 _ rfl wr.heap.size rfl _ _ _ _ H7.out.1 Tryz.underlying112 rfl (by kernel_rfl) ?_)
          | (go_at_call 142; (with_reducible refine (HWC.out _).mono ?_); rintro e w8 ⟨rfl, hb8⟩; refine Hid.out ?_))
        have H8 := Lib.hid (And.intro (H7.out.1.below hb8) (And.intro (H7.out.2.1.below hb8) (And.intro (H7.out.2.2.1.below hb8) (below_then H7.out.2.2.2 hb8))))
        have hs8 := hb8.size
        clear hb8
        have d1 : w8.cell? ⟨wr.heap.size, 1, none⟩ = some (.int .i64 (u : Int)) := by rw [← HU.out]; exact H8.out.1.cell 1
        refine Lib.hid ?_
        go_wp2_with (at_mapUpdate; (refine wpList_put_set _ rfl _ _ _ rfl (m q0) (F q0) rfl (H8.out.2.1.2.1 q0 HQ.out.1).2.2.2.1 u hu8 rfl rfl ?_); intro w9 hm9 hg9; refine Hid.out ?_)
        have H9 := Lib.hid (And.intro (top_write H8.out.2.1 HS.out.1 (by have := HK.out; omega) (fun i t _ _ => six_not HS.out.1 (by have := HK.out; omega)) (.inl HK.out) HU.out HQ.out.1 HQ.out.2.1 hm9 hg9) (And.intro (H8.out.2.2.1.kept hg9 (fun e9 => (H8.out.2.1.2.1 q0 HQ.out.1).2.2.1 (Option.some.inj e9).symm)) (H8.out.2.2.2.grown hg9 H8.out.2.2.2.size (fun j hj => by cases hj; exact (H8.out.2.1.2.1 q0 HQ.out.1).1))))
        clear hm9 hg9
        refine Lib.hid ?_
        go_wp2
        go_roundw
        case rel => exact ⟨p + 1, m, _, D, G7, by omega, by go_num, H9.out.1, ⟨H9.out.2.1, HG7.out⟩, H9.out.2.2⟩
        case measure => simp [intOf]; omega
      · have HWR : true = true ↔ Go.Proofs.YtmgeecdgebemdaaGreatDoor.sets.wr s := ⟨fun _ => .inr hk, fun _ => rfl⟩
        obtain ⟨u, hu, hu8⟩ := wr_var HS.out.2.2 (.inr hk)
        have HU := Lib.hid hu
        clear hu
        have HWC := Lib.hid (show ∀ w', Calls Tryz.prog 142 #[stV s] w' (BelB w' true) from fun w' => impl_writes s true HWR w')
        have HK := Lib.hid hk
        clear hk HWR
        go_wp2_with (first
          | (refine wpList_load_row rfl 112 _ rfl wr.heap.size rfl _ _ _ _ H7.out.1 Tryz.underlying112 rfl (by kernel_rfl) ?_)
          | (go_at_call 142; (with_reducible refine (HWC.out _).mono ?_); rintro e w8 ⟨rfl, hb8⟩; refine Hid.out ?_))
        have H8 := Lib.hid (And.intro (H7.out.1.below hb8) (And.intro (H7.out.2.1.below hb8) (And.intro (H7.out.2.2.1.below hb8) (below_then H7.out.2.2.2 hb8))))
        have hs8 := hb8.size
        clear hb8
        have d1 : w8.cell? ⟨wr.heap.size, 1, none⟩ = some (.int .i64 (u : Int)) := by rw [← HU.out]; exact H8.out.1.cell 1
        refine Lib.hid ?_
        go_wp2_with (at_mapUpdate; (refine wpList_put_set _ rfl _ _ _ rfl (m q0) (F q0) rfl (H8.out.2.1.2.1 q0 HQ.out.1).2.2.2.1 u hu8 rfl rfl ?_); intro w9 hm9 hg9; refine Hid.out ?_)
        have H9 := Lib.hid (And.intro (top_write H8.out.2.1 HS.out.1 (by have := HK.out; omega) (fun i t _ _ => six_not HS.out.1 (by have := HK.out; omega)) (.inr HK.out) HU.out HQ.out.1 HQ.out.2.1 hm9 hg9) (And.intro (H8.out.2.2.1.kept hg9 (fun e9 => (H8.out.2.1.2.1 q0 HQ.out.1).2.2.1 (Option.some.inj e9).symm)) (H8.out.2.2.2.grown hg9 H8.out.2.2.2.size (fun j hj => by cases hj; exact (H8.out.2.1.2.1 q0 HQ.out.1).1))))
        clear hm9 hg9
        refine Lib.hid ?_
        go_wp2
        go_roundw
        case rel => exact ⟨p + 1, m, _, D, G7, by omega, by go_num, H9.out.1, ⟨H9.out.2.1, HG7.out⟩, H9.out.2.2⟩
        case measure => simp [intOf]; omega
      · have HWR : false = true ↔ Go.Proofs.YtmgeecdgebemdaaGreatDoor.sets.wr s := ⟨fun h => (by cases h), fun h => by rcases h with h | h <;> omega⟩
        have HWC := Lib.hid (show ∀ w', Calls Tryz.prog 142 #[stV s] w' (BelB w' false) from fun w' => impl_writes s false HWR w')
        have HK := Lib.hid hk
        clear hk HWR
        go_wp2_with (first
          | (refine wpList_load_row rfl 112 _ rfl wr.heap.size rfl _ _ _ _ H7.out.1 Tryz.underlying112 rfl (by kernel_rfl) ?_)
          | (go_at_call 142; (with_reducible refine (HWC.out _).mono ?_); rintro e w8 ⟨rfl, hb8⟩; refine Hid.out ?_))
        have H8 := Lib.hid (And.intro (H7.out.1.below hb8) (And.intro (H7.out.2.1.below hb8) (And.intro (H7.out.2.2.1.below hb8) (below_then H7.out.2.2.2 hb8))))
        have hs8 := hb8.size
        clear hb8
        have d0 : w8.cell? ⟨wr.heap.size, 0, none⟩ = some (.int .i64 3) := by rw [← HK.out]; exact H8.out.1.cell 0
        have HT9 := Lib.hid (top_still H8.out.2.1 HS.out.1 (by have := HK.out; omega) (fun i t _ _ => six_not HS.out.1 (by have := HK.out; omega)) (by have := HK.out; intro h; rcases h with h | h <;> omega))
        refine Lib.hid ?_
        go_wp2
        go_roundw
        case rel => exact ⟨p + 1, m, F, D, G7, by omega, by go_num, HT9.out, ⟨H8.out.2.2.1, HG7.out⟩, H8.out.2.2.2⟩
        case measure => simp [intOf]; omega
      · have HWR : false = true ↔ Go.Proofs.YtmgeecdgebemdaaGreatDoor.sets.wr s := ⟨fun h => (by cases h), fun h => by rcases h with h | h <;> omega⟩
        obtain ⟨e, he⟩ := end_exists HB.out HS.out.1 (show opn s = true by unfold opn; simp [hk])
        have HE := Lib.hid he
        have hen : e < n := by have := he.2.1; omega
        have hpe : p < e := he.1
        clear he
        have HWC := Lib.hid (show ∀ w', Calls Tryz.prog 142 #[stV s] w' (BelB w' false) from fun w' => impl_writes s false HWR w')
        have HK := Lib.hid hk
        clear hk HWR
        go_wp2_with (first
          | (refine wpList_load_row rfl 112 _ rfl wr.heap.size rfl _ _ _ _ H7.out.1 Tryz.underlying112 rfl (by kernel_rfl) ?_)
          | (go_at_call 142; (with_reducible refine (HWC.out _).mono ?_); rintro e w8 ⟨rfl, hb8⟩; refine Hid.out ?_))
        have H8 := Lib.hid (And.intro (H7.out.1.below hb8) (And.intro (H7.out.2.1.below hb8) (And.intro (H7.out.2.2.1.below hb8) (below_then H7.out.2.2.2 hb8))))
        have hs8 := hb8.size
        clear hb8
        have d0 : w8.cell? ⟨wr.heap.size, 0, none⟩ = some (.int .i64 4) := by rw [← HK.out]; exact H8.out.1.cell 0
        refine Lib.hid ?_
        go_wp2_with (go_at_call 189; (with_reducible refine (impl_end _ n cap B _ (HL.out.below H8.out.2.2.2) HB.out p e HE.out (e : Int) rfl).mono ?_); rintro e9 w9 ⟨rfl, hb9⟩; refine Hid.out ?_)
        have H9 := Lib.hid (And.intro (H8.out.2.1.below hb9) (And.intro (H8.out.2.2.1.below hb9) (below_then H8.out.2.2.2 hb9)))
        clear hb9 d0
        have HCL := Lib.hid (clone_set (m q0) (F q0) _ (H9.out.1.2.1 q0 HQ.out.1).2.2.2.1)
        refine Lib.hid ?_
        go_wp2_with (go_at_call 219; (with_reducible refine HCL.out.mono ?_); rintro e9 w10 ⟨rfl, hm10, hb10⟩; refine Hid.out ?_)
        have H10 := Lib.hid (And.intro (H9.out.1.below hb10) (And.intro (H9.out.2.1.below hb10) (And.intro (below_then H9.out.2.2 hb10) hm10)))
        have HC := Lib.hid (show (∀ q, Opn B p q → w9.heap.size ≠ m q) ∧ w9.heap.size ≠ b ∧ w9.heap.size ≠ r ∧ w.heap.size ≤ w9.heap.size from ⟨fun q hq e9 => by have := (H9.out.1.2.1 q hq).2.2.2.1.lt; omega, fun e9 => by have := H9.out.1.1.1.lt; omega, fun e9 => by have := H9.out.2.1.lt; omega, H9.out.2.2.size⟩)
        clear hm10 hb10
        refine Lib.hid ?_
        go_wp2_with (at_mapUpdate; (refine wpList_mapUpdate_own _ rfl _ _ _ 228 rfl _ _ keyI topU mapEl b (p + 1) D rfl H10.out.1.1.1 (by unfold maxLen; omega) _ _ _ rfl rfl (keyOfI (x := (e : Int)) (by omega) (by omega)) _ [] rfl ?_); intro w11 ho11 hg11; refine Hid.out ?_)
        have H11 := Lib.hid (And.intro (top_if H10.out.1 HS.out.1 HK.out HE.out HQ.out.1 HQ.out.2.1 H10.out.2.2.2 HC.out.2.2.2 HC.out.2.1 HC.out.2.2.1 HC.out.1 ho11 hg11) (And.intro (H10.out.2.1.kept hg11 (fun e9 => hbr (Option.some.inj e9).symm)) (H10.out.2.2.1.grown hg11 H10.out.2.2.1.size (fun j hj => by cases hj; omega))))
        clear ho11 hg11
        refine Lib.hid ?_
        go_wp2
        go_roundw
        case rel => exact ⟨p + 1, _, _, _, G7, by omega, by go_num, H11.out.1, ⟨H11.out.2.1, HG7.out⟩, H11.out.2.2⟩
        case measure => simp [intOf]; omega
      · have HWR : false = true ↔ Go.Proofs.YtmgeecdgebemdaaGreatDoor.sets.wr s := ⟨fun h => (by cases h), fun h => by rcases h with h | h <;> omega⟩
        have HWC := Lib.hid (show ∀ w', Calls Tryz.prog 142 #[stV s] w' (BelB w' false) from fun w' => impl_writes s false HWR w')
        have HK := Lib.hid hk
        clear hk HWR
        go_wp2_with (first
          | (refine wpList_load_row rfl 112 _ rfl wr.heap.size rfl _ _ _ _ H7.out.1 Tryz.underlying112 rfl (by kernel_rfl) ?_)
          | (go_at_call 142; (with_reducible refine (HWC.out _).mono ?_); rintro e w8 ⟨rfl, hb8⟩; refine Hid.out ?_))
        have H8 := Lib.hid (And.intro (H7.out.1.below hb8) (And.intro (H7.out.2.1.below hb8) (And.intro (H7.out.2.2.1.below hb8) (below_then H7.out.2.2.2 hb8))))
        have hs8 := hb8.size
        clear hb8
        have d0 : w8.cell? ⟨wr.heap.size, 0, none⟩ = some (.int .i64 5) := by rw [← HK.out]; exact H8.out.1.cell 0
        have HT9 := Lib.hid (top_still H8.out.2.1 HS.out.1 (by have := HK.out; omega) (fun i t _ _ => six_not HS.out.1 (by have := HK.out; omega)) (by have := HK.out; intro h; rcases h with h | h <;> omega))
        refine Lib.hid ?_
        go_wp2
        go_roundw
        case rel => exact ⟨p + 1, m, F, D, G7, by omega, by go_num, HT9.out, ⟨H8.out.2.2.1, HG7.out⟩, H8.out.2.2.2⟩
        case measure => simp [intOf]; omega
      · have HWR : false = true ↔ Go.Proofs.YtmgeecdgebemdaaGreatDoor.sets.wr s := ⟨fun h => (by cases h), fun h => by rcases h with h | h <;> omega⟩
        have HWC := Lib.hid (show ∀ w', Calls Tryz.prog 142 #[stV s] w' (BelB w' false) from fun w' => impl_writes s false HWR w')
        have HK := Lib.hid hk
        clear hk HWR
        go_wp2_with (first
          | (refine wpList_load_row rfl 112 _ rfl wr.heap.size rfl _ _ _ _ H7.out.1 Tryz.underlying112 rfl (by kernel_rfl) ?_)
          | (go_at_call 142; (with_reducible refine (HWC.out _).mono ?_); rintro e w8 ⟨rfl, hb8⟩; refine Hid.out ?_))
        have H8 := Lib.hid (And.intro (H7.out.1.below hb8) (And.intro (H7.out.2.1.below hb8) (And.intro (H7.out.2.2.1.below hb8) (below_then H7.out.2.2.2 hb8))))
        have hs8 := hb8.size
        clear hb8
        have d0 : w8.cell? ⟨wr.heap.size, 0, none⟩ = some (.int .i64 6) := by rw [← HK.out]; exact H8.out.1.cell 0
        refine Lib.hid ?_
        go_wp2_with (at_delete; (refine wpList_delete_own _ rfl _ _ 228 3 rfl _ keyI topU _ b (p + 1) D rfl H8.out.2.1.1.1 _ _ rfl (keyOfI (x := (p : Int)) (by omega) (by omega)) ?_); intro w9 ho9 ht9; refine Hid.out ?_)
        have hg9 := ht9.grown
        have H9 := Lib.hid (And.intro (top_end H8.out.2.1 HS.out.1 HK.out ho9 hg9) (And.intro (H8.out.2.2.1.kept hg9 (fun e9 => hbr (Option.some.inj e9).symm)) (H8.out.2.2.2.grown hg9 H8.out.2.2.2.size (fun j hj => by cases hj; omega))))
        clear ho9 hg9 ht9
        refine Lib.hid ?_
        go_wp2
        go_roundw
        case rel => exact ⟨p + 1, m, F, _, G7, by omega, by go_num, H9.out.1, ⟨H9.out.2.1, HG7.out⟩, H9.out.2.2⟩
        case measure => simp [intOf]; omega
    · obtain rfl : p = n := by omega
      have hI : ¬ (p : Int) < p := by omega
      have HO := Lib.hid (show Opn B p p from .inl hlen.symm)
      go_wp2_with (at_lookup; (refine wpList_look_top _ rfl _ _ rfl b (p + 1) D rfl HT.out.1.1 p (m p) (by omega) rfl (HT.out.1.2.2 p HO.out) ?_))
      have h9 := HT.out.2.1 p HO.out
      refine bodyPost_ret (v := .tuple #[.map (some (m p)), .map (some r)]) (results_tmp2 (t := 2) (u := 3) rfl _ _ _) rfl ?_
      refine ⟨m p, r, F p, G, rfl, h9.2.2.1, h9.1, hrr, ⟨h9.2.2.2.1, ?_⟩, ⟨HG.out.1, by rw [hlen]; exact HG.out.2⟩, HR⟩
      rw [hlen]
      exact h9.2.2.2.2.congr (fun v => (sAt_min (fun q' hq' => by rw [← hlen] at hq'; rw [opn_last.1 hq', hlen]; exact Nat.le_refl _)).symm)
end Go.Proofs.YtmgeecdgebemdaaGreatDoor.sets

/- The program's MustWrite, MayReadFirst and HasVar, and the model's HasVar: what the plain relations say; nothing that was there is written. -/
namespace Go.Proofs.YtmgeecdgebemdaaGreatDoor.sets
open Go Go.ChangeShapes Go.WideShapes Go.ChangeAt Go.RowKit Go.Maps Go.Proofs.YtmgeecdgebemdaaGreatDoor.row Go.Proofs.YtmgeecdgebemdaaGreatDoor.val Go.Proofs.YtmgeecdgebemdaaGreatDoor.stm Go.Proofs.YtmgeecdgebemdaaGreatDoor.blk Go.Proofs.YtmgeecdgebemdaaGreatDoor.expr Go.Proofs.YtmgeecdgebemdaaGreatDoor.prg
set_option maxHeartbeats 2000000 in
set_option maxRecDepth 100000 in
theorem impl_mustwrite (a : Option Addr) (n cap : Nat) (B : List Sm) (hn : (n : Int) ≤ 1048576) (_ : n ≤ cap) (w : World) (h : StRow w a n B) (f : Nat → Bool) (hf : Is f (fun v => IsBlk B ∧ WAt B n v)) :
    Calls Tryz.prog 137 #[.slice a n cap] w (NewInts w (lst f 8)) := by
  have HL := Lib.hid h
  have HF := Lib.hid hf
  have hlen := h.1
  clear h hf
  rcases Classical.em (IsBlk B) with hb | hb
  · have HB := Lib.hid hb
    clear hb
    go_enter Tryz.func137, Tryz.ntmps137
    go_wp2_with (go_at_call 157; (with_reducible refine (impl_blockok _ n cap B hn _ HL.out true ⟨fun _ => HB.out, fun _ => rfl⟩).mono ?_); rintro e w2 ⟨rfl, hb2⟩; refine Hid.out ?_)
    have H2 := Lib.hid (And.intro (HL.out.below hb2) hb2)
    clear hb2
    refine Lib.hid ?_
    go_wp2_with (go_at_call 181; (with_reducible refine (impl_pass _ n cap B hn HB.out _ H2.out.1).mono ?_); rintro e w3 ⟨q, r, W, G, rfl, _, _, _, hW, _, hb3⟩; refine Hid.out ?_)
    have H3 := Lib.hid (And.intro hW.out (below_then H2.out.2 hb3.out))
    clear hW hb3
    have HFL := Lib.hid (show lst W 8 = lst f 8 from lst_congr (Is.eq H3.out.1.2 (HF.out.congr (fun u => by rw [hlen]; exact ⟨fun h => ⟨HB.out, h⟩, fun h => h.2⟩))))
    refine Lib.hid ?_
    go_wp2_with (go_at_call 158; (with_reducible refine (impl_ascending q W _ H3.out.1.1).mono ?_); rintro e w5 ⟨ad, m, c5, rfl, hown, hb5⟩)
    go_ret
    exact ⟨ad, m, c5, rfl, by rw [← HFL.out]; exact hown.mono H3.out.2.size, below_then H3.out.2 hb5⟩
  · have HB := Lib.hid hb
    have HFL := Lib.hid (isFalse HF.out hb)
    clear hb
    go_enter Tryz.func137, Tryz.ntmps137
    go_wp2_with (go_at_call 157; (with_reducible refine (impl_blockok _ n cap B hn _ HL.out false ⟨fun h => (by cases h), fun h => absurd h HB.out⟩).mono ?_); rintro e w2 ⟨rfl, hb2⟩)
    go_ret
    exact ⟨none, 0, 0, rfl, by rw [HFL.out]; exact World.ownsRow_nil _ _ _ _, hb2⟩
set_option maxHeartbeats 4000000 in
set_option maxRecDepth 100000 in
theorem impl_mayread (ab : Option Addr) (nb cb : Nat) (t : Tk) (hn : (nb : Int) ≤ 1048576) (w : World) (h : StRow w ab nb t.b) (f : Nat → Bool) (hf : Is f (FirstP t)) :
    Calls Tryz.prog 138 #[tkV ab nb cb t] w (NewInts w (lst f 8)) := by
  obtain ⟨r, hr⟩ := tsk_dec t
  have HTO := Lib.hid (show ∀ w', StRow w' ab nb t.b → Calls Tryz.prog 136 #[tkV ab nb cb t] w' (BelB w' r) from fun w' h' => impl_taskok ab nb cb t hn w' h' r hr)
  obtain ⟨B, o, x, y⟩ := t
  obtain ⟨W, hW⟩ : ∃ W, w.alloc (.cells #[.slice ab nb cb, .int .i64 o, .int .i64 x, .int .i64 y] 96) = W := ⟨_, rfl⟩
  have hbx : Box w.heap.size #[.slice ab nb cb, .int .i64 o, .int .i64 x, .int .i64 y] 96 W := by rw [← hW]; exact Box.new _ _ _
  have hBW : Below w.heap.size w W := by rw [← hW]; exact below_new _ _
  have H := Lib.hid (And.intro hbx (And.intro hBW (h.below hBW)))
  have HF := Lib.hid hf
  have hlen : B.length = nb := h.1
  clear h hbx hBW hf
  cases r
  · have HFL := Lib.hid (show lst f 8 = [] by
      rw [lst_congr (g := fun _ => false) (fun v hv => by
        cases h9 : f v
        · rfl
        · exact absurd (hr.2 ((HF.out v hv).1 h9).1) (by simp))]
      exact lst_nil (fun _ => rfl) 8)
    clear hr
    go_enter Tryz.func138, Tryz.ntmps138
    go_wp2_with (first
      | (refine wpList_load_row rfl 96 _ rfl w.heap.size rfl _ _ _ _ H.out.1 Tryz.underlying96 rfl (by kernel_rfl) ?_)
      | (go_at_call 136; (with_reducible refine (HTO.out _ H.out.2.2).mono ?_); rintro e w2 ⟨rfl, hb2⟩))
    go_ret
    exact ⟨none, 0, 0, rfl, by rw [HFL.out]; exact World.ownsRow_nil _ _ _ _, below_then H.out.2.1 hb2⟩
  · have HBE := Lib.hid (hr.1 rfl)
    clear hr
    go_enter Tryz.func138, Tryz.ntmps138
    go_wp2_with (first
      | (refine wpList_load_row rfl 96 _ rfl w.heap.size rfl _ _ _ _ H.out.1 Tryz.underlying96 rfl (by kernel_rfl) ?_)
      | (go_at_call 136; (with_reducible refine (HTO.out _ H.out.2.2).mono ?_); rintro e w2 ⟨rfl, hb2⟩; refine Hid.out ?_))
    have H2 := Lib.hid (And.intro (H.out.1.below hb2) (And.intro (below_then H.out.2.1 hb2) (H.out.2.2.below hb2)))
    clear hb2 hW
    have c0 : w2.cell? ⟨w.heap.size, 0, none⟩ = some (.slice ab nb cb) := H2.out.1.cell 0
    refine Lib.hid ?_
    go_wp2_with (go_at_call 181; (with_reducible refine (impl_pass ab nb cb B hn HBE.out.1 _ H2.out.2.2).mono ?_); rintro e w3 ⟨q, r, W3, G3, rfl, hqr, _, hrb, hW3, hG3, hb3⟩; refine Hid.out ?_)
    have H3 := Lib.hid (And.intro (H2.out.1.below hb3.out) (And.intro hW3.out (And.intro hG3.out (below_then H2.out.2.1 hb3.out))))
    have hrw : w.heap.size ≤ r := Nat.le_trans H2.out.2.1.size hrb
    have k1 : w3.cell? ⟨w.heap.size, 1, none⟩ = some (.int .i64 o) := H3.out.1.cell 1
    have k2 : w3.cell? ⟨w.heap.size, 1 + 1, none⟩ = some (.int .i64 x) := H3.out.1.cell 2
    have k3 : w3.cell? ⟨w.heap.size, 1 + 2, none⟩ = some (.int .i64 y) := H3.out.1.cell 3
    have HADD := Lib.hid (impl_addfirst r q G3 W3 (Ne.symm hqr) o x y w3 H3.out.2.2.1.1 H3.out.2.1.1)
    clear hW3 hG3 hb3 c0 hqr
    refine Lib.hid ?_
    go_wp2_with (go_at_call 182; (with_reducible refine HADD.out.mono ?_); rintro e w4 ⟨rfl, hg4, G4, hG4⟩; refine Hid.out ?_)
    have H4 := Lib.hid (And.intro hG4.out.1 (H3.out.2.2.2.grown hg4 H3.out.2.2.2.size (fun j hj => by cases hj; exact hrw)))
    have HFL := Lib.hid (show lst G4 8 = lst f 8 from lst_congr (Is.eq (p := FirstP ⟨B, o, x, y⟩) (fun v hv => by
      refine (hG4.out.2 v hv).trans ?_
      have hrd : readsV o x y = rd x y 8 := if_pos HBE.out.2
      rw [hrd]
      unfold FirstP
      constructor
      · rintro (h | ⟨h1, h2⟩)
        · exact ⟨HBE.out, .inl ((H3.out.2.2.1.2 v hv).1 h)⟩
        · exact ⟨HBE.out, .inr ⟨h1, (H3.out.2.1.2.neg hv).1 h2⟩⟩
      · rintro ⟨_, h | ⟨h1, h2⟩⟩
        · exact .inl ((H3.out.2.2.1.2 v hv).2 h)
        · exact .inr ⟨h1, (H3.out.2.1.2.neg hv).2 h2⟩) HF.out))
    clear hg4 hG4 k1 k2 k3
    refine Lib.hid ?_
    go_wp2_with (go_at_call 158; (with_reducible refine (impl_ascending r G4 _ H4.out.1).mono ?_); rintro e w5 ⟨ad, m, c5, rfl, hown, hb5⟩)
    go_ret
    exact ⟨ad, m, c5, rfl, by rw [← HFL.out]; exact hown.mono H4.out.2.size, below_then H4.out.2 hb5⟩
theorem row_cells {w : World} {a : Option Addr} {n : Nat} {L : List Int} (h : Row w a n L) (hn : 0 < n) : ∃ b off, a = some ⟨b, off, none⟩ ∧ ∀ j, j < L.length → w.cell? ⟨b, off + j, none⟩ = some (.int .i64 (L.getD j 0)) := by
  obtain ⟨b, off, x, ha, _⟩ := h.2 0 hn
  refine ⟨b, off, ha, fun j hj => ?_⟩
  obtain ⟨b', off', x', ha', _, hx, hc⟩ := h.2 j (by have := h.1; omega)
  rw [ha] at ha'
  cases ha'
  rw [hc]; simp [List.getD, hx]
theorem contains_any (w : World) (a : Option Addr) (n cap : Nat) (L : List Int) (q : Int) (r : Bool) (hn : (n : Int) ≤ 1048576) (h : Row w a n L) (hr : decide (q ∈ L) = r) :
    Calls Tryz.prog 156 #[.slice a n cap, .int .i64 q] w fun e w' => e = .returned (.bool r) ∧ w' = w := by
  rcases Nat.eq_zero_or_pos n with h0 | h0
  · subst h0
    have hL : L = [] := List.length_eq_zero_iff.1 h.1
    subst hL
    have hrf : r = false := by rw [← hr]; simp
    rw [hrf]
    exact Any.slices_Contains_int_empty Tryz.lays107 a cap q w
  · obtain ⟨b, off, rfl, hc⟩ := row_cells h h0
    have h9 := Any.slices_Contains_int Tryz.lays107 b off n cap L q w (by have := h.1; omega) (by omega) hc
    rw [List.take_of_length_le (by have := h.1; omega)] at h9
    have h8 : L.contains q = r := by
      rw [← hr, Bool.eq_iff_iff]
      simp
    rw [h8] at h9
    exact h9
theorem impl_hasvar (w : World) (a : Option Addr) (n cap : Nat) (L : List Int) (q : Int) (r : Bool) (hn : (n : Int) ≤ 1048576) (h : Row w a n L) (hr : decide (q ∈ L) = r) :
    Calls Tryz.prog 186 #[.slice a n cap, .int .i64 q] w (RetB w r) := by
  have HC := Lib.hid (contains_any w a n cap L q r hn h hr)
  clear h hr
  go_enter Tryz.func186, Tryz.ntmps186
  go_wp2_with (go_at_call 156; (with_reducible refine HC.out.mono ?_); rintro e w' ⟨rfl, rfl⟩)
  go_ret
  exact ⟨rfl, rfl⟩
set_option maxRecDepth 100000 in
theorem spec_hasvar (w : World) (a : Option Addr) (n cap : Nat) (L : List Int) (q : Int) (r : Bool) (hn : (n : Int) ≤ 1048576) (h : Row w a n L) (hr : decide (q ∈ L) = r) :
    Calls Tryz.prog 173 #[.slice a n cap, .int .i64 q] w (RetB w r) := by
  subst hr
  have HL := Lib.hid h.1
  have HC : Hid (∀ k, k < n → ∃ (b off : Nat) (x : Int), a = some ⟨b, off, none⟩ ∧ L[k]? = some x ∧ w.cell? ⟨b, off + k, none⟩ = some (.int .i64 x)) := fun k hk => by
    obtain ⟨b, off, x, e, _, hx, hc⟩ := h.2 k hk
    exact ⟨b, off, x, e, hx, hc⟩
  clear h
  go_enter Tryz.func173, Tryz.ntmps173
  go_wp2
  go_loop [5] (fun i => ∃ k : Nat, k ≤ n ∧ i = .int .i64 k ∧ Hid (¬ q ∈ L.take k)) (fun i => n - (intOf i).toNat)
  case atStart => exact ⟨0, Nat.zero_le _, rfl, by simp [Hid]⟩
  case round =>
    obtain ⟨k, hk, rfl, hA⟩ := hrel
    by_cases hlt : k < n
    · obtain ⟨b, off, x, rfl, hx, hc⟩ := HC.out k hlt
      have hI : (k : Int) < n := by omega
      by_cases hq : x = q
      · subst hq
        have HF : Hid (decide (x ∈ L) = true) := by
          show _ = _
          rw [decide_eq_true_eq]; exact List.mem_of_getElem? hx
        clear hx
        go_wp2
        go_ret
        exact ⟨by rw [HF.out]; rfl, rfl⟩
      · have hqb : (x == q) = false := by simpa using hq
        have HA2 : Hid (¬ q ∈ L.take (k + 1)) := by
          show ¬ _
          rw [List.take_add_one, hx, List.mem_append]
          rintro (h | h)
          · exact hA.out h
          · simp at h; exact hq h.symm
        clear hx hq
        go_wp2
        go_round
        case rel => exact ⟨k + 1, by omega, by go_num, HA2⟩
        case measure => simp [intOf]; omega
    · have hkn : k = n := by omega
      subst hkn
      have HF : Hid (decide (q ∈ L) = false) := by
        show _ = _
        rw [decide_eq_false_iff_not]
        have := hA.out
        rwa [List.take_of_length_le (by have := HL.out; omega)] at this
      clear hA
      go_wp2
      go_ret
      exact ⟨by rw [HF.out]; rfl, rfl⟩
end Go.Proofs.YtmgeecdgebemdaaGreatDoor.sets
