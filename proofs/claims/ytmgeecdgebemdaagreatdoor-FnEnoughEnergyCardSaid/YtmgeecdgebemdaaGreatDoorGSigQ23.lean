/- Several texts in one: QRecM QWtJ. -/
import Derived.Test.YtmgeecdgebemdaaGreatDoorGSigQ22
import Derived.Deep.RegionLaw
import Derived.Deep.AppendLies
import Derived.Test.YtmgeecdgebemdaaGreatDoorGSigQ19

/- Chapter 15 of the model: RecoveryWrites, Recovered, IsClean; nothing that was there is written. -/
namespace Go.Proofs.YtmgeecdgebemdaaGreatDoor.rcv
open Go Go.ChangeShapes Go.WideShapes Go.ChangeAt Go.RowKit Go.Proofs.YtmgeecdgebemdaaGreatDoor.row Go.Proofs.YtmgeecdgebemdaaGreatDoor.val Go.Proofs.YtmgeecdgebemdaaGreatDoor.expr Go.Proofs.YtmgeecdgebemdaaGreatDoor.stm Go.Proofs.YtmgeecdgebemdaaGreatDoor.ctl Go.Proofs.YtmgeecdgebemdaaGreatDoor.grow Go.Proofs.YtmgeecdgebemdaaGreatDoor.wrt
theorem own_slc {w : World} {B m : Nat} {v : Value} {xs : List Value} (h : w.ownsRow B 100 2 v m xs) : ∃ g c, v = .slice g m c := by
  rcases h.2 with ⟨e, e0⟩ | ⟨g, c, cur, e, _⟩
  · exact ⟨none, 0, by rw [e, e0]⟩
  · exact ⟨_, _, e⟩
theorem wsC_snoc (L : List Wt) (s : Wt) : writesC L ++ [.int .i64 s.p, .int .i64 s.v] = writesC (L ++ [s]) := by simp [writesC, gcs, writeC]
/-- A row of writes that somebody owns reads as the list. -/
theorem wrow_own {w : World} {B : Nat} {a : Option Addr} {n c : Nat} {L : List Wt} (h : w.ownsRow B 100 2 (.slice a n c) n (writesC L)) (hl : L.length = n) : WriteRow w a n L := by
  refine ⟨hl, fun k hk => ?_⟩
  obtain ⟨g, c', e, _, hlt⟩ := h.form (by omega)
  cases e
  refine ⟨g, 0, L[k]'(by omega), rfl, hlt, by simp [show k < L.length by omega], fun j v hv => ?_⟩
  have hj : j < 2 := by have := (List.getElem?_eq_some_iff.1 hv).1; rw [writeC_len] at this; exact this
  have h1 := h.cells (g := g) rfl (k * 2 + j) v (by rw [gcs_at writeC_len (s := L[k]'(by omega)) (by simp [show k < L.length by omega]) j hj]; exact hv)
  rw [Addr.add_mid] at h1
  rw [show 0 + k * 2 + j = 0 + (k * 2 + j) by omega]
  exact h1
theorem RecIs.len {W : List Int} {Q : List Wt} (h : RecIs W Q) : Q.length ≤ 9 := by
  rcases h with ⟨h1, rfl⟩ | ⟨_, rfl⟩
  · have := (ctlOk_iff _ _ _).1 h1.2.1
    have hl : (recEnt W (wC (W.getD 8 0)).toNat).length = (wC (W.getD 8 0)).toNat := by unfold recEnt; rw [List.length_map, List.length_reverse, List.length_range]
    rw [List.length_append, hl]
    show _ + 1 ≤ 9
    omega
  · exact Nat.zero_le _
theorem app_all (L : List Int) (Q : List Wt) {n : Nat} (h : Q.length = n) : appW L Q (n : Int) = putAll L Q := by
  unfold appW; rw [show ((n : Int)).toNat = n by omega, List.take_of_length_le (by omega)]
end Go.Proofs.YtmgeecdgebemdaaGreatDoor.rcv

/- Chapter 10 of the program: ApplyWrites, WriteWord; nothing that was there is written. -/
namespace Go.Proofs.YtmgeecdgebemdaaGreatDoor.wrt
open Go Go.ChangeShapes Go.WideShapes Go.ChangeAt Go.RowKit Go.Proofs.YtmgeecdgebemdaaGreatDoor.row Go.Proofs.YtmgeecdgebemdaaGreatDoor.val Go.Proofs.YtmgeecdgebemdaaGreatDoor.expr Go.Proofs.YtmgeecdgebemdaaGreatDoor.grow
theorem ivs_put (P : List Int) (m : Nat) (v : Int) : (ivs P).toArray.setIfInBounds m (.int .i64 v) = (ivs (P.set m v)).toArray := by
  rw [← ivs_set]; simp
set_option maxHeartbeats 2000000 in
set_option maxRecDepth 100000 in
theorem impl_apply (w : World) (a : Option Addr) (n cap : Nat) (M : List Int) (b : Option Addr) (k kc : Nat) (L : List Wt) (c : Int) (hn : (n : Int) ≤ 1048576) (hk : (k : Int) ≤ 1048576) (hkc : k ≤ kc) (hsp : ∀ x, b = some x → x.spot = none)
    (hM : Row w a n M) (hL : WriteRow w b k L) :
    Calls Tryz.prog 34 #[.slice a n cap, .slice b k kc, .int .i64 c] w (NewAt w n (appW M L c)) := by
  obtain ⟨q, hq⟩ : ∃ q, cntW c k = q := ⟨_, rfl⟩
  have hqk : q ≤ k := by rw [← hq]; exact cntW_le c k
  have HQ := Lib.hid (show L.take q = L.take c.toNat by rw [← hq, ← hL.1]; exact take_cnt L c)
  have HCL := Lib.hid (show ∀ w' : World, Calls Tryz.prog 91 #[.int .i64 c, .int .i64 0, .int .i64 k] w' (Ret w' q) from fun w' => by rw [← hq]; exact impl_cut c k hk w')
  have hsl := cut_h b k kc q hsp (by omega)
  have HM := Lib.hid hM
  have HL := Lib.hid hL
  have hml := hM.1
  clear hq hsp hM hL hkc
  go_enter Tryz.func34, Tryz.ntmps34
  go_wp2_with (first
    | (go_at_call 59; refine (impl_copyof _ _ _ _ M hn HM.out).mono ?_; rintro e w1 ⟨g, rfl, hg, hx, hb⟩; refine Hid.out ?_))
  have HX := Lib.hid (And.intro hx hb)
  clear hx hb
  refine Lib.hid ?_
  go_wp2_with (first
    | (go_at_call 91; (with_reducible refine (HCL.out _).mono ?_); rintro e w2 ⟨rfl, rfl⟩))
  go_loopw [9, 19] (fun _ i wr => ∃ j : Nat, j ≤ q ∧ i = .int .i64 j ∧ Box g (ivs (putAll M (L.take j))).toArray 3 wr ∧ Below w.heap.size w wr) (fun _ i _ => q - (intOf i).toNat)
  case atStart => exact ⟨0, Nat.zero_le _, rfl, HX.out.1, HX.out.2⟩
  case round =>
    obtain ⟨j, hj, rfl, hbx, hbel⟩ := hrel
    by_cases hlt : j < q
    · have hI : (j : Int) < q := by omega
      obtain ⟨b0, off, s, rfl, hlb, hs, hr⟩ := (HL.out.below hbel).2 j (by omega)
      have HS := Lib.hid (putAll_snoc (M := M) hs)
      obtain ⟨p, v⟩ := s
      have HR := Lib.hid (And.intro hr (And.intro hbx hbel))
      have hgl := hbx.lt
      have hpl : (putAll M (L.take j)).length = n := by rw [putAll_len]; exact hml
      clear hr hbx hbel hs
      go_wp2_with (first
        | (refine wpList_load_mid rfl 100 _ rfl b0 (off + j * 2) rfl (writeC ⟨p, v⟩) _ HR.out.1 Tryz.underlying100 rfl (by kernel_rfl) ?_)
        | (refine wpList_store_box rfl 100 _ _ rfl wr.heap.size _ _ (Box.new wr _ _) #[.int .i64 p, .int .i64 v] rfl rfl rfl (by kernel_rfl) (by simp [Value.oneCell']) ?_; intro w2 hx2 hg2; refine Hid.out ?_))
      have hb2 : Below wr.heap.size wr w2 := (below_new wr _).grown hg2 (by simp) (fun j hj => by cases hj; exact Nat.le_refl _)
      have c0 := hx2.cell 0
      have c1 := hx2.cell 1
      have H2 := Lib.hid (And.intro (HR.out.2.1.below hb2) (below_then HR.out.2.2 hb2))
      clear hx2 hg2 hb2
      by_cases hin : 0 ≤ p ∧ p < n
      · obtain ⟨m, rfl⟩ : ∃ m : Nat, p = m := ⟨p.toNat, by omega⟩
        have hmn : m < n := by omega
        have hd : (decide (0 ≤ (m : Int)) && decide ((m : Int) < n)) = true := by simp; omega
        have HIW := Lib.hid (show ∀ w' : World, Calls Tryz.prog 92 #[.slice (some ⟨g, 0, none⟩) n n, .int .i64 (m : Int)] w' (RetB w' true) from fun w' => impl_isword _ _ _ _ true hd w')
        have HP := Lib.hid (put1_in (M := putAll M (L.take j)) (x := ⟨m, v⟩) rfl (by rw [hpl]; exact hmn))
        obtain ⟨X, hX⟩ : ∃ X, w2.cell? ⟨g, m, none⟩ = some (.int .i64 X) := ⟨(putAll M (L.take j))[m]'(by omega), by rw [H2.out.1.cell]; simp [ivs, hpl, hmn]⟩
        have hfz : w2.frozen? ⟨g, m, none⟩ = false := H2.out.1.frozen _
        clear hd hin hpl
        refine Lib.hid ?_
        go_wp2_with (first
          | (go_at_call 92; (with_reducible refine (HIW.out _).mono ?_); rintro e w3 ⟨rfl, rfl⟩))
        go_roundw
        case rel => exact ⟨j + 1, by omega, by go_num, by rw [HS.out, HP.out, ← ivs_put]; exact H2.out.1.set m _, H2.out.2.grown (grown_setCell _ g m _) H2.out.2.size (fun j hj => by cases hj; exact hg)⟩
        case measure => simp [intOf]; omega
      · have hd : (decide (0 ≤ p) && decide (p < n)) = false := by
          rw [← Bool.not_eq_true, Bool.and_eq_true, decide_eq_true_eq, decide_eq_true_eq]; exact hin
        have HD := Lib.hid hd
        have HP := Lib.hid (put1_out (M := putAll M (L.take j)) (x := ⟨p, v⟩) (by rw [hpl]; exact hin))
        clear hd hin hpl
        refine Lib.hid ?_
        go_wp2_with (first
          | (go_at_call 92; refine (impl_isword _ _ _ _ false HD.out _).mono ?_; rintro e w3 ⟨rfl, rfl⟩))
        go_roundw
        case rel => exact ⟨j + 1, by omega, by go_num, by rw [HS.out, HP.out]; exact H2.out.1, H2.out.2⟩
        case measure => simp [intOf]; omega
    · obtain rfl : j = q := by omega
      have hI : ¬ (j : Int) < j := by omega
      have HB := Lib.hid (And.intro hbx hbel)
      clear hbx hbel
      go_wp2
      go_ret
      exact ⟨g, rfl, hg, by show Box g (ivs (putAll M (L.take c.toNat))).toArray _ _; rw [← HQ.out]; exact HB.out.1, HB.out.2⟩
end Go.Proofs.YtmgeecdgebemdaaGreatDoor.wrt
