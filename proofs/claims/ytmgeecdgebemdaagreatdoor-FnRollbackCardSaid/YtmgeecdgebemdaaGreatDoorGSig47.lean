/- Several texts in one: MemS WtM WtJ WtD. -/
import Derived.Test.YtmgeecdgebemdaaGreatDoorGSig18
import Derived.Test.YtmgeecdgebemdaaGreatDoorGSig35
import Derived.Laws.AppendOwn
import Derived.Test.YtmgeecdgebemdaaGreatDoorGSig40

/- MemSent of a memory whose control word is an int; nothing that was there is written. -/
namespace Go.Proofs.YtmgeecdgebemdaaGreatDoor.mem
open Go.ChangeShapes Go.WideShapes Go.ChangeAt Go.RowKit Go.Proofs.YtmgeecdgebemdaaGreatDoor.row Go.Proofs.YtmgeecdgebemdaaGreatDoor.val Go.Proofs.YtmgeecdgebemdaaGreatDoor.expr Go.Proofs.YtmgeecdgebemdaaGreatDoor.ctl
set_option maxRecDepth 100000 in
set_option maxHeartbeats 1000000 in
theorem impl_memsent_yes8 (w : World) (b off cap : Nat) (L : List Int) (h : Row w (some ⟨b, off, none⟩) 49 L) (hw : -9223372036854775808 ≤ L.getD 8 0 ∧ L.getD 8 0 ≤ 9223372036854775807) :
    Calls Tryz.prog 35 #[.slice (some ⟨b, off, none⟩) 49 cap] w (NewInts w (sentV L)) := by
  have HLL := Lib.hid h.1
  have HI := Lib.hid (mem_info h.1)
  have HL : Hid (∀ cs : Array Value, cs.size = 49 → (ivs L).toArray.size = cs.size) := fun cs hc => by rw [List.size_toArray, ivs_length, h.1, hc]
  obtain ⟨x, hx⟩ : ∃ x, L[8]? = some x := ⟨L[8]'(by have := h.1; omega), by simp [h.1]⟩
  have hxw : -9223372036854775808 ≤ x ∧ x ≤ 9223372036854775807 := by rw [List.getD_eq_getElem?_getD, hx] at hw; exact hw
  have HC := Lib.hid (show ∀ (w' : World) (g : Nat), Box g (ivs L).toArray TM w' → w'.cell? ⟨g, 8, none⟩ = some (.int .i64 x) from fun w' g hb => by rw [hb.cell]; simp [ivs, hx])
  have HX := Lib.hid hx
  clear hx hw
  cases ho : wOk x
  · have HU := Lib.hid (un_no ho)
    have HS := Lib.hid (sentV_no HX.out ho)
    clear ho
    go_enter Tryz.func35, Tryz.ntmps35
    go_wp2_with (first
      | (go_at_call 93; refine (impl_memoryof_yes _ b off cap L h).mono ?_; rintro e w1 ⟨rfl, hb1⟩)
      | (refine wpList_store_box rfl TM _ _ rfl w1.heap.size _ _ (Box.new w1 _ _) (ivs L).toArray rfl rfl (HL.out _ rfl) HI.out (mem_all L) ?_; intro w2 hx2 hg2; have hc2 := HC.out _ _ hx2)
      | (go_at_call 36; refine (impl_unpack_is x _ _ _ hxw HU.out _).mono ?_; rintro e w3 ⟨rfl, rfl⟩))
    go_ret
    refine ⟨_, _, _, rfl, ?_, (below_then hb1 (below_new w1 _)).grown hg2 (show w.heap.size ≤ _ by have := hb1.size; simp; omega) (fun k hk => by cases hk; exact hb1.size)⟩
    rw [HS.out]; exact World.ownsRow_nil _ _ _ _
  · obtain ⟨t, c, n, ht, hc, hn, e1, e2, e3⟩ := un_yes ho
    have HU := Lib.hid (show unT x = t ∧ unC x = c ∧ unN x = n from ⟨e1, e2, e3⟩)
    have HS := Lib.hid (sentV_yes HX.out ho e3)
    clear ho e1 e2 e3
    go_enter Tryz.func35, Tryz.ntmps35
    go_wp2_with (first
      | (go_at_call 93; refine (impl_memoryof_yes _ b off cap L h).mono ?_; rintro e w1 ⟨rfl, hb1⟩)
      | (refine wpList_store_box rfl TM _ _ rfl w1.heap.size _ _ (Box.new w1 _ _) (ivs L).toArray rfl rfl (HL.out _ rfl) HI.out (mem_all L) ?_; intro w2 hx2 hg2; have hc2 := HC.out _ _ hx2)
      | (go_at_call 36; refine (impl_unpack_is x _ _ _ hxw HU.out _).mono ?_; rintro e w3 ⟨rfl, rfl⟩)
      | (refine wpList_load_row rfl TM _ rfl w1.heap.size rfl _ (ivs L).toArray _ _ hx2 Tryz.underlying121 rfl HI.out ?_)
      | (go_at_call 94; refine (impl_sent _ L HLL.out n hn).mono ?_; rintro e w4 ⟨ad, n4, c4, rfl, ho4, hb4⟩; refine Hid.out ?_))
    have hb2 := ((below_then hb1 (below_new w1 _)).grown hg2 (show w.heap.size ≤ _ by have := hb1.size; simp; omega) (fun k hk => by cases hk; exact hb1.size))
    have HF := Lib.hid (And.intro (ho4.mono hb2.size) (below_then hb2 hb4))
    clear ho4 hb4 hb2
    refine Lib.hid ?_
    go_wp2
    go_ret
    refine ⟨_, _, _, rfl, ?_, HF.out.2⟩
    rw [HS.out]; exact HF.out.1
end Go.Proofs.YtmgeecdgebemdaaGreatDoor.mem

/- Chapter 10 of the model: WriteWord, ApplyWrites; new rows; nothing that was there is written. -/
namespace Go.Proofs.YtmgeecdgebemdaaGreatDoor.wrt
open Go Go.ChangeShapes Go.WideShapes Go.ChangeAt Go.RowKit Go.Proofs.YtmgeecdgebemdaaGreatDoor.row Go.Proofs.YtmgeecdgebemdaaGreatDoor.val Go.Proofs.YtmgeecdgebemdaaGreatDoor.expr Go.Proofs.YtmgeecdgebemdaaGreatDoor.grow

theorem made_at (w : World) (k B : Nat) (hk : w.heap.size = k) (hB : B ≤ k) (e : TypeId) : (w.alloc (.cells #[] e)).ownsRow B e 1 (.slice (some ⟨k, 0, none⟩) 0 0) 0 [] := by
  subst hk; exact World.ownsRow_made w #[] 0 hB (Nat.zero_le _) rfl
theorem own_slice {w : World} {B : Nat} {ty : TypeId} {v : Value} {n : Nat} {xs : List Value} (h : w.ownsRow B ty 1 v n xs) : ∃ ad cap, v = .slice ad n cap := by
  rcases h.2 with ⟨e, e0⟩ | ⟨g, c, _, e, _⟩
  · exact ⟨_, _, by rw [e, e0]⟩
  · exact ⟨_, _, e⟩
theorem stored_put {w : World} {B g n c m : Nat} {P : List Int} {v : Int} (h : w.ownsRow B 3 1 (.slice (some ⟨g, 0, none⟩) n c) n (ivs P)) : (w.setCell ⟨g, m, none⟩ (.int .i64 v)).ownsRow B 3 1 (.slice (some ⟨g, 0, none⟩) n c) n (ivs (P.set m v)) := by
  have := (h.stored m (.int .i64 v)).1
  rw [ivs_set] at this; exact this
theorem word_in {p : Int} {n m : Nat} (hp : p = m) (hm : m < n) : (decide (0 ≤ p) && decide (p ≤ (n : Int) - 1)) = true := by simp; omega
theorem word_out {p : Int} {n : Nat} (h : ¬ (0 ≤ p ∧ p < n)) : (decide (0 ≤ p) && decide (p ≤ (n : Int) - 1)) = false := by
  rw [← Bool.not_eq_true, Bool.and_eq_true, decide_eq_true_eq, decide_eq_true_eq]; omega
end Go.Proofs.YtmgeecdgebemdaaGreatDoor.wrt

/- Chapter 10 of the program: ApplyWrites, WriteWord; nothing that was there is written. -/
namespace Go.Proofs.YtmgeecdgebemdaaGreatDoor.wrt
open Go Go.ChangeShapes Go.WideShapes Go.ChangeAt Go.RowKit Go.Proofs.YtmgeecdgebemdaaGreatDoor.row Go.Proofs.YtmgeecdgebemdaaGreatDoor.val Go.Proofs.YtmgeecdgebemdaaGreatDoor.expr Go.Proofs.YtmgeecdgebemdaaGreatDoor.grow

theorem ivs_put (P : List Int) (m : Nat) (v : Int) : (ivs P).toArray.setIfInBounds m (.int .i64 v) = (ivs (P.set m v)).toArray := by
  rw [← ivs_set]; simp
set_option maxHeartbeats 2000000 in
set_option maxRecDepth 100000 in
theorem impl_apply (w : World) (a : Option Addr) (n cap : Nat) (M : List Int) (b : Option Addr) (k kc : Nat) (L : List Wt) (c : Int) (hn : (n : Int) ≤ 1048576) (hk : (k : Int) ≤ 1048576) (hkc : k ≤ kc) (hsp : ∀ x, b = some x → x.spot = none)
    (hM : Row w a n M) (hL : WriteRow w b k L) :
    Calls Tryz.prog 34 #[.slice a n cap, .slice b k kc, .int .i64 c] w (NewAt w n (appW M L c)) := by
  obtain ⟨q, hq⟩ : ∃ q, cntW c k = q := ⟨_, rfl⟩
  have hqk : q ≤ k := by rw [← hq]; exact cntW_le c k
  have HQ := Lib.hid (show L.take q = L.take c.toNat by rw [← hq, ← hL.1]; exact take_cnt L c)
  have HCL := Lib.hid (show ∀ w' : World, Calls Tryz.prog 91 #[.int .i64 c, .int .i64 0, .int .i64 k] w' (Ret w' q) from fun w' => by rw [← hq]; exact impl_cut c k hk w')
  have hsl := cut_h b k kc q hsp (by omega)
  have HM := Lib.hid hM
  have HL := Lib.hid hL
  have hml := hM.1
  clear hq hsp hM hL hkc
  go_enter Tryz.func34, Tryz.ntmps34
  go_wp2_with (first
    | (go_at_call 59; refine (impl_copyof _ _ _ _ M hn HM.out).mono ?_; rintro e w1 ⟨g, rfl, hg, hx, hb⟩; refine Hid.out ?_))
  have HX := Lib.hid (And.intro hx hb)
  clear hx hb
  refine Lib.hid ?_
  go_wp2_with (first
    | (go_at_call 91; (with_reducible refine (HCL.out _).mono ?_); rintro e w2 ⟨rfl, rfl⟩))
  go_loopw [9, 19] (fun _ i wr => ∃ j : Nat, j ≤ q ∧ i = .int .i64 j ∧ Box g (ivs (putAll M (L.take j))).toArray 3 wr ∧ Below w.heap.size w wr) (fun _ i _ => q - (intOf i).toNat)
  case atStart => exact ⟨0, Nat.zero_le _, rfl, HX.out.1, HX.out.2⟩
  case round =>
    obtain ⟨j, hj, rfl, hbx, hbel⟩ := hrel
    by_cases hlt : j < q
    · have hI : (j : Int) < q := by omega
      obtain ⟨b0, off, s, rfl, hlb, hs, hr⟩ := (HL.out.below hbel).2 j (by omega)
      have HS := Lib.hid (putAll_snoc (M := M) hs)
      obtain ⟨p, v⟩ := s
      have HR := Lib.hid (And.intro hr (And.intro hbx hbel))
      have hgl := hbx.lt
      have hpl : (putAll M (L.take j)).length = n := by rw [putAll_len]; exact hml
      clear hr hbx hbel hs
      go_wp2_with (first
        | (refine wpList_load_mid rfl 100 _ rfl b0 (off + j * 2) rfl (writeC ⟨p, v⟩) _ HR.out.1 Tryz.underlying100 rfl (by kernel_rfl) ?_)
        | (refine wpList_store_box rfl 100 _ _ rfl wr.heap.size _ _ (Box.new wr _ _) #[.int .i64 p, .int .i64 v] rfl rfl rfl (by kernel_rfl) (by simp [Value.oneCell']) ?_; intro w2 hx2 hg2; refine Hid.out ?_))
      have hb2 : Below wr.heap.size wr w2 := (below_new wr _).grown hg2 (by simp) (fun j hj => by cases hj; exact Nat.le_refl _)
      have c0 := hx2.cell 0
      have c1 := hx2.cell 1
      have H2 := Lib.hid (And.intro (HR.out.2.1.below hb2) (below_then HR.out.2.2 hb2))
      clear hx2 hg2 hb2
      by_cases hin : 0 ≤ p ∧ p < n
      · obtain ⟨m, rfl⟩ : ∃ m : Nat, p = m := ⟨p.toNat, by omega⟩
        have hmn : m < n := by omega
        have hd : (decide (0 ≤ (m : Int)) && decide ((m : Int) < n)) = true := by simp; omega
        have HIW := Lib.hid (show ∀ w' : World, Calls Tryz.prog 92 #[.slice (some ⟨g, 0, none⟩) n n, .int .i64 (m : Int)] w' (RetB w' true) from fun w' => impl_isword _ _ _ _ true hd w')
        have HP := Lib.hid (put1_in (M := putAll M (L.take j)) (x := ⟨m, v⟩) rfl (by rw [hpl]; exact hmn))
        obtain ⟨X, hX⟩ : ∃ X, w2.cell? ⟨g, m, none⟩ = some (.int .i64 X) := ⟨(putAll M (L.take j))[m]'(by omega), by rw [H2.out.1.cell]; simp [ivs, hpl, hmn]⟩
        have hfz : w2.frozen? ⟨g, m, none⟩ = false := H2.out.1.frozen _
        clear hd hin hpl
        refine Lib.hid ?_
        go_wp2_with (first
          | (go_at_call 92; (with_reducible refine (HIW.out _).mono ?_); rintro e w3 ⟨rfl, rfl⟩))
        go_roundw
        case rel => exact ⟨j + 1, by omega, by go_num, by rw [HS.out, HP.out, ← ivs_put]; exact H2.out.1.set m _, H2.out.2.grown (grown_setCell _ g m _) H2.out.2.size (fun j hj => by cases hj; exact hg)⟩
        case measure => simp [intOf]; omega
      · have hd : (decide (0 ≤ p) && decide (p < n)) = false := by
          rw [← Bool.not_eq_true, Bool.and_eq_true, decide_eq_true_eq, decide_eq_true_eq]; exact hin
        have HD := Lib.hid hd
        have HP := Lib.hid (put1_out (M := putAll M (L.take j)) (x := ⟨p, v⟩) (by rw [hpl]; exact hin))
        clear hd hin hpl
        refine Lib.hid ?_
        go_wp2_with (first
          | (go_at_call 92; refine (impl_isword _ _ _ _ false HD.out _).mono ?_; rintro e w3 ⟨rfl, rfl⟩))
        go_roundw
        case rel => exact ⟨j + 1, by omega, by go_num, by rw [HS.out, HP.out]; exact H2.out.1, H2.out.2⟩
        case measure => simp [intOf]; omega
    · obtain rfl : j = q := by omega
      have hI : ¬ (j : Int) < j := by omega
      have HB := Lib.hid (And.intro hbx hbel)
      clear hbx hbel
      go_wp2
      go_ret
      exact ⟨g, rfl, hg, by show Box g (ivs (putAll M (L.take c.toNat))).toArray _ _; rw [← HQ.out]; exact HB.out.1, HB.out.2⟩
end Go.Proofs.YtmgeecdgebemdaaGreatDoor.wrt

/- What the draw of words and of writes to them returns: a new row of twelve words below 99, and a new row of at most nine writes; nothing that was there is written. The law's own comparison of two rows that are the same. -/
namespace Go.Proofs.YtmgeecdgebemdaaGreatDoor.wrt
open Go Go.ChangeShapes Go.WideShapes Go.ChangeAt Go.RowKit Go.Proofs.YtmgeecdgebemdaaGreatDoor.row Go.Proofs.YtmgeecdgebemdaaGreatDoor.val Go.Proofs.YtmgeecdgebemdaaGreatDoor.expr Go.Proofs.YtmgeecdgebemdaaGreatDoor.grow Go.Proofs.YtmgeecdgebemdaaGreatDoor.cur

/-- Twelve words and some writes, in new memory. -/
def DrawnW (w : World) (e : Ending) (w' : World) : Prop :=
  ∃ (g : Nat) (M : List Int) (ad : Option Addr) (n c : Nat) (L : List Wt), e = .returned (.tuple #[.slice (some ⟨g, 0, none⟩) 12 12, .slice ad n c]) ∧ n ≤ 9 ∧ n ≤ c ∧ (∀ x, ad = some x → x.spot = none) ∧ Hid (∀ x ∈ M, 0 ≤ x ∧ x < 99) ∧
    Row w' (some ⟨g, 0, none⟩) 12 M ∧ WriteRow w' ad n L ∧ Below w.heap.size w w'
theorem own_shape {w : World} {B m n : Nat} {ty : TypeId} {v : Value} {xs : List Value} (h : w.ownsRow B ty m v n xs) : ∃ ad c, v = .slice ad n c ∧ n ≤ c ∧ ∀ x, ad = some x → x.spot = none := by
  rcases h.2 with ⟨e, e0⟩ | ⟨g, c, _, e, _, _, h4, _⟩
  · exact ⟨none, 0, by rw [e, e0], by omega, fun x hx => by cases hx⟩
  · exact ⟨some ⟨g, 0, none⟩, c, e, h4, fun x hx => by cases hx; rfl⟩
theorem words_set {M : List Int} (h : ∀ x ∈ M, 0 ≤ x ∧ x < 99) {q : Int} (h0 : 0 ≤ q) (h1 : q < 99) (j : Nat) : ∀ x ∈ M.set j q, 0 ≤ x ∧ x < 99 := by
  intro x hx
  rcases List.mem_or_eq_of_mem_set hx with h2 | rfl
  · exact h x h2
  · exact ⟨h0, h1⟩
theorem words_zero (n : Nat) : ∀ x ∈ List.replicate n (0 : Int), 0 ≤ x ∧ x < 99 := by
  intro x hx; rw [List.eq_of_mem_replicate hx]; omega
theorem writes_snoc (L : List Wt) (p v : Int) : writesC L ++ [Value.int .i64 p, .int .i64 v] = writesC (L ++ [⟨p, v⟩]) := by
  show _ = gcs writeC (L ++ [_])
  rw [gcs_app, gcs_one]; rfl
theorem block_ne {w : World} {B m n : Nat} {ty : TypeId} {v : Value} {xs : List Value} (h : w.ownsRow B ty m v n xs) {b : Nat} (hb : b < B) : v.ownBlock = none ∨ v.ownBlock ≠ some b := by
  cases hv : v.ownBlock with
  | none => exact .inl rfl
  | some j => right; have := (h.lt j hv).1; intro e; injection e; omega
set_option maxHeartbeats 1000000 in
theorem same_any (w : World) (a a' : Option Addr) (n cap cap' : Nat) (L : List Int) (hn : (n : Int) ≤ 1048576) (h1 : Row w a n L) (h2 : Row w a' n L) :
    Calls Tryz.prog 37 #[.slice a n cap, .slice a' n cap'] w fun e w' => e = .returned (.bool true) ∧ w.grownBy w' none := by
  have HC : Hid (∀ k, k < n → ∃ (g o g' o' : Nat) (X : Int), a = some ⟨g, o, none⟩ ∧ a' = some ⟨g', o', none⟩ ∧ w.cell? ⟨g, o + k, none⟩ = some (.int .i64 X) ∧ w.cell? ⟨g', o' + k, none⟩ = some (.int .i64 X)) := by
    intro k hk
    obtain ⟨g, o, X, e1, _, x1, c1⟩ := h1.2 k hk
    obtain ⟨g', o', X', e2, _, x2, c2⟩ := h2.2 k hk
    obtain rfl : X = X' := by rw [x1] at x2; exact Option.some.inj x2
    exact ⟨g, o, g', o', X, e1, e2, c1, c2⟩
  clear h1 h2
  go_enter Tryz.func37, Tryz.ntmps37
  go_wp2
  go_loopw [5] (fun i wr => ∃ k : Nat, k ≤ n ∧ i = .int .i64 k ∧ w.grownBy wr none) (fun i _ => n - (intOf i).toNat)
  case atStart => exact ⟨0, Nat.zero_le _, rfl, row.grown_refl _ _⟩
  case round =>
    obtain ⟨k, hk, rfl, hg⟩ := hrel
    by_cases hlt : k < n
    · obtain ⟨g, o, g', o', X, rfl, rfl, c1, c2⟩ := HC.out k hlt
      have d1 := hg.cell c1 (by simp)
      have d2 := hg.cell c2 (by simp)
      have hI : (k : Int) < n := by omega
      clear c1 c2
      go_wp2
      go_quiet (fail)
      go_wp2
      go_roundw
      case rel => exact ⟨k + 1, by omega, by go_num, row.grown_drewN hg _⟩
      case measure => simp [intOf]; omega
    · go_wp2
      go_ret
      exact ⟨rfl, hg⟩
end Go.Proofs.YtmgeecdgebemdaaGreatDoor.wrt
