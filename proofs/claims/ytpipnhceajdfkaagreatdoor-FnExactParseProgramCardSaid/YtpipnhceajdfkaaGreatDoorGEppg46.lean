/- Several texts in one: PrgS. -/
import Derived.Test.YtpipnhceajdfkaaGreatDoorGEppg44
import Derived.Test.YtpipnhceajdfkaaGreatDoorGEppg38
import Derived.Test.YtpipnhceajdfkaaGreatDoorGEppg33
import Derived.Test.YtpipnhceajdfkaaGreatDoorGEppg45
import Derived.Test.YtpipnhceajdfkaaGreatDoorGEppg35
import Derived.Deep.AppendLies
import Derived.Deep.RegionLaw

/- Chapter 6's model: a program is parsed from its text; nothing that was there is written. -/
namespace Go.Proofs.YtpipnhceajdfkaaGreatDoor.prg
open Go Go.ChangeShapes Go.WideShapes Go.ChangeAt Go.RowKit Go.Proofs.YtpipnhceajdfkaaGreatDoor.row Go.Proofs.YtpipnhceajdfkaaGreatDoor.val Go.Proofs.YtpipnhceajdfkaaGreatDoor.expr Go.Proofs.YtpipnhceajdfkaaGreatDoor.stm Go.Proofs.YtpipnhceajdfkaaGreatDoor.blk Go.Proofs.YtpipnhceajdfkaaGreatDoor.tex Go.Proofs.YtpipnhceajdfkaaGreatDoor.spl

theorem hat_ofS {g H : Nat} {n c m : Nat} {o : Option Nat} (hm : m = H) (h : o = some g ∨ g = H) : (Value.slice (some ⟨g, 0, none⟩) n c).ownBlock = o ∨ ∃ q, (Value.slice (some ⟨g, 0, none⟩) n c).ownBlock = some q ∧ m ≤ q := by
  rcases h with h | h
  · exact .inl (by rw [h]; rfl)
  · exact .inr ⟨g, rfl, by omega⟩
/-- The parsed program and the number of the line. -/
def PrgParsed (l : List UInt8) (w : World) (e : Ending) (w' : World) : Prop :=
  ∃ (a : Option Addr) (n c : Nat) (P : List Tk) (k : Int), e = .returned (.tuple #[.agg #[.slice a n c], .int .i64 k]) ∧ Hid (ParseIs l P k) ∧ n ≤ c ∧ Hid (TkRow w' a n P) ∧ Below w.heap.size w w'
theorem piece_ext (s : ByteArray) (b k : Nat) : (s.extract b k).data.toList = (s.data.toList.drop b).take (k - b) := by
  simp
/-- The three variables of the parser and the program that is built. -/
def Hand (w wr : World) (v : Value) (n : Nat) (xs : List Value) (bv : Nat → Value) (P : List Tk) : Prop :=
  Box w.heap.size #[.slice none 0 0] 26 wr ∧ Box (w.heap.size + 1) #[.slice none 0 0] 26 wr ∧ Box (w.heap.size + 2) #[v] 26 wr ∧ Fam (w.heap.size + 3) wr v n xs bv P 42 45 ∧ Below w.heap.size w wr
theorem Hand.below {w wr w1 : World} {v : Value} {n : Nat} {xs : List Value} {bv : Nat → Value} {P : List Tk} (h : Hand w wr v n xs bv P) (hb : Below wr.heap.size wr w1) : Hand w w1 v n xs bv P :=
  ⟨h.1.below hb, h.2.1.below hb, h.2.2.1.below hb, h.2.2.2.1.kept (grown_of_below hb) (fun g e => by cases e), below_then h.2.2.2.2 hb⟩
theorem Hand.push {w wr w4 : World} {v v4 : Value} {n : Nat} {xs : List Value} {bv : Nat → Value} {P : List Tk} {o x y : Int} (h : Hand w wr v n xs bv P) (ho : w4.ownsRow (w.heap.size + 3) 42 4 v4 (n + 1) (xs ++ [.slice none 0 0, .int .i64 o, .int .i64 x, .int .i64 y])) (hg : wr.grownBy w4 v.ownBlock)
    (hat : v4.ownBlock = v.ownBlock ∨ v4.ownBlock = some wr.heap.size) :
    (w4.cell? ⟨w.heap.size + 2, 0, none⟩ = some v ∧ w4.frozen? ⟨w.heap.size + 2, 0, none⟩ = false) ∧ Hand w (w4.setCell ⟨w.heap.size + 2, 0, none⟩ v4) v4 (n + 1) (xs ++ tkC none 0 0 ⟨[], o, x, y⟩) (put bv n (.slice none 0 0)) (P ++ [⟨[], o, x, y⟩]) := by
  obtain ⟨h1, h2, h3, h4, h5⟩ := h
  have hv := h4.2.1.lt
  have hl := h3.lt
  have low : ∀ b, b < w.heap.size + 3 → some b ≠ v.ownBlock := fun b hb e => by have := (hv b e.symm).1; omega
  have k1 := h1.grown hg (low _ (by omega))
  have k2 := h2.grown hg (low _ (by omega))
  have k3 := h3.grown hg (low _ (by omega))
  have k4 := h4.head ho hg (hat.imp id (fun e => ⟨_, e, Nat.le_refl _⟩))
  have k5 := h5.grown hg h5.size (fun q hq => by have := (hv q hq).1; omega)
  have hs := grown_setCell w4 (w.heap.size + 2) 0 v4
  exact ⟨⟨k3.cell 0, k3.frozen 0⟩, k1.grown hs (by intro e; have := Option.some.inj e; omega), k2.grown hs (by intro e; have := Option.some.inj e; omega), k3.set 0 v4, k4.kept hs (fun g e => by have := Option.some.inj e; omega), k5.setCell (p := ⟨w.heap.size + 2, 0, none⟩) (show w.heap.size ≤ w.heap.size + 2 by omega) v4⟩
theorem Hand.more {w wr w5 : World} {g cap m : Nat} {t : Tk} {st : Go.Proofs.YtpipnhceajdfkaaGreatDoor.stm.St} {b' : Value} {xs : List Value} {bv : Nat → Value} {P : List Tk} (h : Hand w wr (.slice (some ⟨g, 0, none⟩) (m + 1) cap) (m + 1) xs bv (P ++ [t]))
    (ho : w5.ownsRow (w.heap.size + 3) 45 6 b' (t.b.length + 1) (stsC t.b ++ stC st)) (hg : wr.grownBy w5 (bv m).ownBlock) (hat : b'.ownBlock = (bv m).ownBlock ∨ ∃ q, b'.ownBlock = some q ∧ wr.heap.size ≤ q) :
    (w5.cell? ⟨g, m * 4, none⟩ = some (bv m) ∧ w5.frozen? ⟨g, m * 4, none⟩ = false ∧ w5.cell? ⟨w.heap.size + 2, 0, none⟩ = some (.slice (some ⟨g, 0, none⟩) (m + 1) cap)) ∧ Hand w (w5.setCell ⟨g, m * 4, none⟩ b') (.slice (some ⟨g, 0, none⟩) (m + 1) cap) (m + 1) (xs.set (m * 4) b') (put bv m b') (addSt (P ++ [t]) st) := by
  obtain ⟨h1, h2, h3, h4, h5⟩ := h
  have hP : P.length = m := by have := h4.1; simpa using this
  have hbm := h4.2.2.1 m t (by rw [List.getElem?_append_right (by omega), hP, Nat.sub_self]; rfl)
  have hv := hbm.1.lt
  have hgg := (h4.2.1.lt g rfl).1
  have low : ∀ b, b < w.heap.size + 3 → some b ≠ (bv m).ownBlock := fun b hb e => by have := (hv b e.symm).1; omega
  have k1 := h1.grown hg (low _ (by omega))
  have k2 := h2.grown hg (low _ (by omega))
  have k3 := h3.grown hg (low _ (by omega))
  have kr := h4.2.1.kept hg (apart_of (fun q hq e => by cases hq; exact h4.2.2.2.1 m (by omega) g e rfl))
  have k4 := h4.st ho hg hat
  have k5 := h5.grown hg h5.size (fun q hq => by have := (hv q hq).1; omega)
  have hs := grown_setCell w5 g (m * 4) b'
  have ng : ∀ b, b < w.heap.size + 3 → some b ≠ some g := fun b hb e => by have := Option.some.inj e; omega
  refine ⟨⟨?_, kr.frozenAt _, k3.cell 0⟩, k1.grown hs (ng _ (by omega)), k2.grown hs (ng _ (by omega)), k3.grown hs (ng _ (by omega)), k4, k5.setCell (p := ⟨g, m * 4, none⟩) (show w.heap.size ≤ g by omega) b'⟩
  rw [kr.cellAt (m * 4) (by omega)]
  exact hbm.2 0 (bv m) rfl
theorem Hand.last {w wr : World} {g cap m : Nat} {t : Tk} {xs : List Value} {bv : Nat → Value} {P : List Tk} (h : Hand w wr (.slice (some ⟨g, 0, none⟩) (m + 1) cap) (m + 1) xs bv (P ++ [t])) :
    wr.cell? ⟨g, m * 4, none⟩ = some (bv m) ∧ wr.ownsRow (w.heap.size + 3) 45 6 (bv m) t.b.length (stsC t.b) := by
  obtain ⟨h1, h2, h3, h4, h5⟩ := h
  have hP : P.length = m := by have := h4.1; simpa using this
  have hbm := h4.2.2.1 m t (by rw [List.getElem?_append_right (by omega), hP, Nat.sub_self]; rfl)
  exact ⟨by rw [h4.2.1.cellAt (m * 4) (by omega)]; exact hbm.2 0 (bv m) rfl, hbm.1⟩
theorem Hand.slice {w wr : World} {v : Value} {n : Nat} {xs : List Value} {bv : Nat → Value} {P : List Tk} (h : Hand w wr v n xs bv P) : ∃ (a : Option Addr) (c : Nat), v = .slice a n c ∧ n ≤ c := by
  rcases h.2.2.2.1.2.1.2 with ⟨h1, h2⟩ | ⟨g, c, cur, h1, _, _, hle, _⟩
  · exact ⟨none, 0, by rw [h1, h2], by omega⟩
  · exact ⟨_, c, h1, hle⟩
theorem byte_at (s : ByteArray) (k : Nat) (h : k < s.size) : s.data.toList[k]? = some s[k] := by
  rw [List.getElem?_eq_getElem (by simpa using h)]; rfl
set_option maxHeartbeats 8000000 in
set_option maxRecDepth 100000 in
set_option linter.unusedSimpArgs false in
theorem spec_parseprogram (s : ByteArray) (w : World) : Calls Tryz.prog 10 #[.string s] w (PrgParsed s.data.toList w) := by
  obtain ⟨i0, hi, hz0, hz1, hz2⟩ := info_parts infoTaskP
  obtain ⟨j0, hj, jz0, jz1, jz2⟩ := info_parts Go.Proofs.YtpipnhceajdfkaaGreatDoor.stm.infoStmt
  have hsl : s.data.toList.length = s.size := Array.length_toList
  have HSL := Lib.hid hsl
  obtain ⟨W, hW⟩ : ∃ W, W = ((w.alloc (.cells #[.slice none 0 0] 26)).alloc (.cells #[.slice none 0 0] 26)).alloc (.cells #[.slice none 0 0] 26) := ⟨_, rfl⟩
  have e1 : ∀ (u : World) (x : Obj), (u.alloc x).heap.size = u.heap.size + 1 := fun u x => by simp
  have hs : W.heap.size = w.heap.size + 3 := by rw [hW, e1, e1, e1]
  have H0 := Lib.hid (show Hand w W (.slice none 0 0) 0 [] (fun _ => undef) [] from by
    rw [hW]
    refine ⟨((Box.new w _ _).alloc _).alloc _, ?_, ?_, Fam.nil _ _ _ _ _, ((Below.alloc (Below.refl _ w) (Nat.le_refl _) _).alloc (by rw [e1]; omega) _).alloc (by rw [e1, e1]; omega) _⟩
    · have h9 := (Box.new (w.alloc (.cells #[.slice none 0 0] 26)) #[.slice none 0 0] 26).alloc (.cells #[.slice none 0 0] 26)
      rw [e1] at h9; exact h9
    · have h9 := Box.new ((w.alloc (.cells #[.slice none 0 0] 26)).alloc (.cells #[.slice none 0 0] 26)) #[.slice none 0 0] 26
      rw [e1, e1] at h9; exact h9)
  have HW := Lib.hid hW.symm
  clear hW hs e1 hsl
  go_enter Tryz.func10, Tryz.ntmps10
  by_cases hlen : (20000 : Int) < s.size
  · have HP := Lib.hid (show ParseIs s.data.toList [] (-1) from .inl ⟨by rw [HSL.out]; omega, rfl, rfl⟩)
    go_wp2_with (first
      | (rw [HW.out]; refine wpList_load_row rfl 26 _ rfl (w.heap.size + 1) rfl _ _ _ _ H0.out.2.1 Tryz.underlying26 rfl (by kernel_rfl) ?_)
      | ((refine wpList_store_box rfl 26 _ _ rfl w.heap.size _ _ H0.out.1 #[.slice none 0 0] rfl rfl rfl (by kernel_rfl) (by simp [Value.oneCell']) ?_); intro w4 hx4 hg4; refine Hid.out ?_))
    have HZ := Lib.hid (And.intro hx4 (H0.out.2.2.2.2.grown hg4 H0.out.2.2.2.2.size (fun q hq => by cases hq; exact Nat.le_refl _)))
    clear hx4 hg4
    refine Lib.hid ?_
    go_wp2
    exact bodyPost_ret (v := .tuple #[.agg #[.slice none 0 0], .int .i64 (-1)]) (results_box2 rfl _ _ w.heap.size _ _ _ _ rfl rfl HZ.out.1 Tryz.underlying26 rfl (by kernel_rfl)) rfl ⟨none, 0, 0, [], -1, rfl, HP, Nat.le_refl _, TkRow.nil _ _, HZ.out.2⟩
  · have hl20 : s.data.toList.length ≤ 20000 := by rw [HSL.out]; omega
    have HL20 := Lib.hid hl20
    clear hl20
    go_wp2
    rw [HW.out]
    go_loopw [6, 7, 8] (fun b ln i wr => ∃ (k bb n : Nat) (A : List (List UInt8)) (v : Value) (xs : List Value) (bv : Nat → Value) (P : List Tk), k ≤ s.size + 1 ∧ i = .int .i64 k ∧ b = .int .i64 bb ∧ ln = .int .i64 A.length ∧ Hid (Rd s.data.toList k bb A P) ∧ Hid (Hand w wr v n xs bv P)) (fun _ _ i _ => s.size + 1 - (intOf i).toNat)
    case atStart => exact ⟨0, 0, 0, [], _, [], _, [], Nat.zero_le _, rfl, rfl, rfl, Rd.start _, H0.out⟩
    case round =>
      obtain ⟨k, bb, n, A, v, xs, bv, P, hk, rfl, rfl, rfl, HR, HH⟩ := hrel
      by_cases hkl : k ≤ s.size
      · have hkn : k ≤ s.data.toList.length := by rw [HSL.out]; exact hkl
        have hbk : bb ≤ k := (HR.out.at hkn).1
        have hbI : (bb : Int) ≤ k := by omega
        have hkI : (k : Int) ≤ s.size := by omega
        have hA := HR.out.2.1
        have hAI : (A.length : Int) ≤ 20001 := by have := HL20.out; omega
        have hsI : (s.size : Int) ≤ 20000 := by omega
        have hk0 : (0 : Int) ≤ (bb : Int) := by omega
        clear hA
        have hway : (∃ h : k < s.size, s[k] ≠ 10) ∨ (k = s.size ∧ bb = k) ∨ (∃ h : k < s.size, s[k] = 10) ∨ (k = s.size ∧ bb < k) := by
          rcases Nat.lt_or_ge k s.size with h | h
          · by_cases h9 : s[k] = 10
            · exact .inr (.inr (.inl ⟨h, h9⟩))
            · exact .inl ⟨h, h9⟩
          · by_cases h9 : bb = k
            · exact .inr (.inl ⟨by omega, h9⟩)
            · exact .inr (.inr (.inr ⟨by omega, by omega⟩))
        rcases hway with ⟨hlt, hc⟩ | ⟨hke, hbe⟩ | ⟨hlt, hc⟩ | ⟨hke, hbl⟩
        · have HR2 := Lib.hid (HR.out.skip hkn (.inl ⟨_, byte_at s k hlt, hc⟩))
          have hltI : (k : Int) < s.size := by omega
          have hcI : ¬ (s[k].toNat : Int) = 10 := fun e => hc (by apply UInt8.toNat.inj; show s[k].toNat = 10; omega)
          have hcB : ((s[k].toNat : Int) != 10) = true := by simpa using hcI
          clear hc
          go_wp2
          go_roundw
          case rel => exact ⟨k + 1, bb, n, A, v, xs, bv, P, by omega, by go_num, rfl, rfl, HR2, HH⟩
          case measure => simp [intOf]; omega
        · have HR2 := Lib.hid (HR.out.skip hkn (.inr ⟨by rw [HSL.out]; exact hke, hbe⟩))
          subst hbe
          subst hke
          have hltI : ¬ (s.size : Int) < s.size := by omega
          go_wp2
          go_roundw
          case rel => exact ⟨s.size + 1, s.size, n, A, v, xs, bv, P, by omega, by go_num, rfl, rfl, HR2, HH⟩
          case measure => simp [intOf]
        · have HCUT := Lib.hid (show s.data.toList[k]? = some 10 ∨ (k = s.data.toList.length ∧ bb < k) from .inl (by rw [byte_at s k hlt, hc]))
          have hltI : (k : Int) < s.size := by omega
          have hcI : (s[k].toNat : Int) = 10 := by rw [hc]; rfl
          have hcB : ((s[k].toNat : Int) != 10) = false := by simp [hcI]
          have hkeI : ¬ (k : Int) = s.size := by omega
          clear hc
          go_wp2_with (go_at_call 22; (with_reducible refine (spec_head _ _).mono ?_); rintro e w1 ⟨o, x, y, r, rfl, HD, hb1⟩; refine Hid.out ?_)
          have H1 := Lib.hid (HH.out.below hb1)
          clear hb1 HH
          refine Lib.hid ?_
          go_wp2_with (go_at_call 23; (with_reducible refine (spec_parse _ _).mono ?_); rintro e w2 ⟨st, b, rfl, HT, hb2⟩; refine Hid.out ?_)
          have bE : Box w1.heap.size #[.int .i64 o, .int .i64 x, .int .i64 y] 40 w2 := (Box.new w1 #[.int .i64 o, .int .i64 x, .int .i64 y] 40).below hb2
          have H2 := Lib.hid ((H1.out.below (below_new w1 (.cells #[.int .i64 o, .int .i64 x, .int .i64 y] 40))).below hb2)
          have H3 := Lib.hid (H2.out.below (below_new w2 (.cells #[.int .i64 st.k, .int .i64 st.v, .int .i64 st.n, .int .i64 st.o, .int .i64 st.a, .int .i64 st.b] 45)))
          have HE3 := Lib.hid (bE.alloc (.cells #[.int .i64 st.k, .int .i64 st.v, .int .i64 st.n, .int .i64 st.o, .int .i64 st.a, .int .i64 st.b] 45))
          clear hb2 H1 bE
          have c2 : (w2.alloc (.cells #[.int .i64 st.k, .int .i64 st.v, .int .i64 st.n, .int .i64 st.o, .int .i64 st.a, .int .i64 st.b] 45)).cell? ⟨w.heap.size + 2, 0, none⟩ = some v := H3.out.2.2.1.cell 0
          have d0 : (w2.alloc (.cells #[.int .i64 st.k, .int .i64 st.v, .int .i64 st.n, .int .i64 st.o, .int .i64 st.a, .int .i64 st.b] 45)).cell? ⟨w1.heap.size, 0, none⟩ = some (.int .i64 o) := HE3.out.cell 0
          have d1 : (w2.alloc (.cells #[.int .i64 st.k, .int .i64 st.v, .int .i64 st.n, .int .i64 st.o, .int .i64 st.a, .int .i64 st.b] 45)).cell? ⟨w1.heap.size, 1, none⟩ = some (.int .i64 x) := HE3.out.cell 1
          have d2 : (w2.alloc (.cells #[.int .i64 st.k, .int .i64 st.v, .int .i64 st.n, .int .i64 st.o, .int .i64 st.a, .int .i64 st.b] 45)).cell? ⟨w1.heap.size, 2, none⟩ = some (.int .i64 y) := HE3.out.cell 2
          cases r
          · have HNH := Lib.hid (show ∀ o' x' y', ¬ HeadIs ((s.data.toList.drop bb).take (k - bb)) o' x' y' by rcases HD.out with ⟨h, _⟩ | ⟨_, h⟩; cases h; (rw [piece_ext] at h; exact h))
            cases b
            · have HBAD := Lib.hid (HR.out.bad hkn HCUT.out HL20.out ⟨HNH.out, by have h := HT.out; rw [piece_ext] at h; exact st_no h⟩)
              clear c2 d0 d1 d2
              refine Lib.hid ?_
              go_wp2_with (first
                | (refine wpList_load_row rfl 26 _ rfl (w.heap.size + 1) rfl _ _ _ _ H3.out.2.1 Tryz.underlying26 rfl (by kernel_rfl) ?_)
                | ((refine wpList_store_box rfl 26 _ _ rfl w.heap.size _ _ H3.out.1 #[.slice none 0 0] rfl rfl rfl (by kernel_rfl) (by simp [Value.oneCell']) ?_); intro w6 hx6 hg6; refine Hid.out ?_))
              have HZ := Lib.hid (And.intro hx6 (H3.out.2.2.2.2.grown hg6 H3.out.2.2.2.2.size (fun q hq => by cases hq; exact Nat.le_refl _)))
              clear hx6 hg6
              refine Lib.hid ?_
              go_wp2
              exact bodyPost_ret (v := .tuple #[.agg #[.slice none 0 0], .int .i64 (A.length + 1)]) (results_box2 rfl _ _ w.heap.size _ _ _ _ rfl rfl HZ.out.1 Tryz.underlying26 rfl (by kernel_rfl)) rfl ⟨none, 0, 0, [], _, rfl, HBAD, Nat.le_refl _, TkRow.nil _ _, HZ.out.2⟩
            · have hok := st_valid HT.out
              have HFT := Lib.hid (textR_ok hok)
              clear d0 d1 d2 hok
              refine Lib.hid ?_
              go_wp2_with (go_at_call 24; (with_reducible refine (spec_fmtstmt st _).mono ?_); rintro e w3 ⟨rfl, hb3⟩; refine Hid.out ?_)
              have H4 := Lib.hid (H3.out.below hb3)
              obtain ⟨va, vc, rfl, hvc⟩ := H4.out.slice
              have c3 : w3.cell? ⟨w.heap.size + 2, 0, none⟩ = some (.slice va n vc) := H4.out.2.2.1.cell 0
              rw [HFT.out]
              cases hq : (text st == (s.extract bb k).toList)
              · have HBAD := Lib.hid (HR.out.bad hkn HCUT.out HL20.out ⟨HNH.out, by
                  have h := HT.out
                  rw [piece_ext] at h
                  exact st_other h (fun e => by rw [← piece_ext] at e; rw [(test_bytes _ _).2 e] at hq; cases hq)⟩)
                clear c3 c2 hb3
                refine Lib.hid ?_
                go_wp2_with (first
                  | (refine wpList_load_row rfl 26 _ rfl (w.heap.size + 1) rfl _ _ _ _ H4.out.2.1 Tryz.underlying26 rfl (by kernel_rfl) ?_)
                  | ((refine wpList_store_box rfl 26 _ _ rfl w.heap.size _ _ H4.out.1 #[.slice none 0 0] rfl rfl rfl (by kernel_rfl) (by simp [Value.oneCell']) ?_); intro w6 hx6 hg6; refine Hid.out ?_))
                have HZ := Lib.hid (And.intro hx6 (H4.out.2.2.2.2.grown hg6 H4.out.2.2.2.2.size (fun q hq => by cases hq; exact Nat.le_refl _)))
                clear hx6 hg6
                refine Lib.hid ?_
                go_wp2
                exact bodyPost_ret (v := .tuple #[.agg #[.slice none 0 0], .int .i64 (A.length + 1)]) (results_box2 rfl _ _ w.heap.size _ _ _ _ rfl rfl HZ.out.1 Tryz.underlying26 rfl (by kernel_rfl)) rfl ⟨none, 0, 0, [], _, rfl, HBAD, Nat.le_refl _, TkRow.nil _ _, HZ.out.2⟩
              · have HST := Lib.hid (show StIs ((s.data.toList.drop bb).take (k - bb)) st by
                  have h := HT.out
                  rw [piece_ext] at h
                  exact st_yes h (by rw [← piece_ext]; exact (test_bytes _ _).1 hq))
                have HR2 := Lib.hid (HR.out.next hkn HCUT.out (Built.st HR.out.1 HST.out))
                rcases Nat.eq_zero_or_pos n with hn0 | hnp
                · subst hn0
                  have hP0 : P = [] := List.length_eq_zero_iff.1 H4.out.2.2.2.1.1
                  have HP0 := Lib.hid hP0
                  clear hP0 hb3 c2
                  refine Lib.hid ?_
                  go_wp2
                  go_roundw
                  case rel => exact ⟨k + 1, k + 1, 0, A ++ [(s.data.toList.drop bb).take (k - bb)], _, _, _, P, by omega, by go_num, by go_num, by simp, by have h := HR2.out; rw [HP0.out] at h ⊢; exact h, H4⟩
                  case measure => simp [intOf]; omega
                · obtain ⟨m, rfl⟩ : ∃ m, n = m + 1 := ⟨n - 1, by omega⟩
                  rcases List.eq_nil_or_concat P with rfl | ⟨P0, t, hPc⟩
                  · have := H4.out.2.2.2.1.1; simp at this
                  · rw [List.concat_eq_append] at hPc
                    subst hPc
                    obtain ⟨g, c', hv', hlog, hltg⟩ := H4.out.2.2.2.1.2.1.form (by omega)
                    injection hv' with q1 q2 q3
                    subst q1
                    clear q2 q3
                    obtain ⟨bm, hbm⟩ : ∃ bm, bv m = bm := ⟨_, rfl⟩
                    have HBM := Lib.hid hbm
                    obtain ⟨g2, c2', hv2, _, hltg2⟩ := H2.out.2.2.2.1.2.1.form (by omega)
                    injection hv2 with r1 r2 r3
                    injection r1 with r1
                    injection r1 with r1
                    subst r1
                    have hlast2 := H2.out.last
                    rw [hbm] at hlast2
                    have HLB := Lib.hid (show w.heap.size + 2 < w2.heap.size ∧ g < w2.heap.size ∧ ∀ q, bm.ownBlock = some q → q < w2.heap.size from ⟨H2.out.2.2.1.lt, hltg2, fun q hq => (hlast2.2.lt q hq).2⟩)
                    have hb3a : Below w3.heap.size w3 (w3.alloc (.cells #[.int .i64 st.k, .int .i64 st.v, .int .i64 st.n, .int .i64 st.o, .int .i64 st.a, .int .i64 st.b] 45)).drew := Below.drew (below_new w3 _)
                    have bS : Box w2.heap.size #[.int .i64 st.k, .int .i64 st.v, .int .i64 st.n, .int .i64 st.o, .int .i64 st.a, .int .i64 st.b] 45 w3 := (Box.new w2 #[.int .i64 st.k, .int .i64 st.v, .int .i64 st.n, .int .i64 st.o, .int .i64 st.a, .int .i64 st.b] 45).below hb3
                    have HBX := Lib.hid (show Box w2.heap.size #[.int .i64 st.k, .int .i64 st.v, .int .i64 st.n, .int .i64 st.o, .int .i64 st.a, .int .i64 st.b] 45 w3.drew from bS)
                    have HBXa := Lib.hid (show Box w2.heap.size #[.int .i64 st.k, .int .i64 st.v, .int .i64 st.n, .int .i64 st.o, .int .i64 st.a, .int .i64 st.b] 45 (w3.alloc (.cells #[.int .i64 st.k, .int .i64 st.v, .int .i64 st.n, .int .i64 st.o, .int .i64 st.a, .int .i64 st.b] 45)).drew from bS.below hb3a)
                    have HHG := Lib.hid (show Hand w w3.drew _ _ xs bv _ from H4.out.below (Below.drew (Below.refl _ w3)))
                    have HHGa := Lib.hid (show Hand w (w3.alloc (.cells #[.int .i64 st.k, .int .i64 st.v, .int .i64 st.n, .int .i64 st.o, .int .i64 st.a, .int .i64 st.b] 45)).drew _ _ xs bv _ from H4.out.below hb3a)
                    have HOWN := Lib.hid (show ((w3.alloc (.cells #[.int .i64 st.k, .int .i64 st.v, .int .i64 st.n, .int .i64 st.o, .int .i64 st.a, .int .i64 st.b] 45)).drew).ownsRow (w.heap.size + 3) 45 6 bm t.b.length (stsC t.b) by rw [← hbm]; exact HHGa.out.last.2)
                    have HNEW := Lib.hid (World.news_of_block (w := (w3.alloc (.cells #[.int .i64 st.k, .int .i64 st.v, .int .i64 st.n, .int .i64 st.o, .int .i64 st.a, .int .i64 st.b] 45)).drew) (cs := #[.int .i64 st.k, .int .i64 st.v, .int .i64 st.n, .int .i64 st.o, .int .i64 st.a, .int .i64 st.b]) (t := 45) (fr := (0, 0)) (heap_alloc_new w3 (.cells #[.int .i64 st.k, .int .i64 st.v, .int .i64 st.n, .int .i64 st.o, .int .i64 st.a, .int .i64 st.b] 45)))
                    have HSA := Lib.hid (show ((w3.alloc (.cells #[.int .i64 st.k, .int .i64 st.v, .int .i64 st.n, .int .i64 st.o, .int .i64 st.a, .int .i64 st.b] 45)).drew).heap.size = w3.heap.size + 1 by simp)
                    have HBA := Lib.hid (show w.heap.size + 3 ≤ ((w3.alloc (.cells #[.int .i64 st.k, .int .i64 st.v, .int .i64 st.n, .int .i64 st.o, .int .i64 st.a, .int .i64 st.b] 45)).drew).heap.size by have := HSA.out; have := H4.out.2.2.1.lt; omega)
                    have hb20 : t.b.length ≤ 20001 := (HR.out.sizes HL20.out).2 t (by simp)
                    have kT : w3.drew.cell? ⟨g, m * 4, none⟩ = some bm := by rw [← hbm]; exact HHG.out.last.1
                    have kTa : ((w3.alloc (.cells #[.int .i64 st.k, .int .i64 st.v, .int .i64 st.n, .int .i64 st.o, .int .i64 st.a, .int .i64 st.b] 45)).drew).cell? ⟨g, m * 4, none⟩ = some bm := by rw [← hbm]; exact HHGa.out.last.1
                    clear hbm c2 hb3 hb3a bS hlast2 hltg2 r2 r3
                    have hm0 : (0 : Int) ≤ (m : Int) := by omega
                    have hm1 : (m : Int) < (m : Int) + 1 := by omega
                    have hmp : (0 : Int) < (m : Int) + 1 := by omega
                    have hm20 : (m : Int) ≤ 20001 := by have := (HR.out.sizes HL20.out).1; have := H4.out.2.2.2.1.1; omega
                    refine Lib.hid ?_
                    go_wp2
                    clear c3
                    refine wp_region_held_drew (S := fun w' => w'.cell? ⟨w.heap.size + 2, 0, none⟩ = some (.slice (some ⟨g, 0, none⟩) (m + 1) vc) ∧ w'.cell? ⟨w2.heap.size, 0, none⟩ = some (.int .i64 st.k) ∧ w'.cell? ⟨w2.heap.size, 1, none⟩ = some (.int .i64 st.v) ∧ w'.cell? ⟨w2.heap.size, 2, none⟩ = some (.int .i64 st.n) ∧ w'.cell? ⟨w2.heap.size, 3, none⟩ = some (.int .i64 st.o) ∧ w'.cell? ⟨w2.heap.size, 4, none⟩ = some (.int .i64 st.a) ∧ w'.cell? ⟨w2.heap.size, 5, none⟩ = some (.int .i64 st.b)) (by kernel_rfl) ⟨HHG.out.2.2.1.cell 0, cellsS HBX.out⟩ (fun _ => ?_)
                    refine wpAnyH_take (i := 0) (v := .pointer (some ⟨w.heap.size + 2, 0, none⟩)) rfl (by kernel_rfl) (by kernel_rfl) (by kernel_rfl) (fun _ _ _ h => h) (Or.inl ⟨by rfl, (by intro w' hSw; (try dsimp only at hSw); go_simp)⟩) (by assumption) ?_
                    try simp only [Act.put, List.getElem_toArray, List.getElem_cons_zero, List.getElem_cons_succ, List.setIfInBounds_toArray, List.set_cons_zero, List.set_cons_succ]
                    refine wpAnyH_take (i := 1) (v := .slice (some ⟨g, 0, none⟩) (m + 1) vc) rfl (by kernel_rfl) (by kernel_rfl) (by kernel_rfl) (fun _ _ _ h => h) (Or.inl ⟨by rfl, (by intro w' hSw; (try dsimp only at hSw); go_simp)⟩) (by assumption) ?_
                    try simp only [Act.put, List.getElem_toArray, List.getElem_cons_zero, List.getElem_cons_succ, List.setIfInBounds_toArray, List.set_cons_zero, List.set_cons_succ]
                    refine wpAnyH_take (i := 2) (v := .int .i64 m) rfl (by kernel_rfl) (by kernel_rfl) (by kernel_rfl) (fun _ _ _ h => h) (Or.inl ⟨by rfl, (by intro w' hSw; (try dsimp only at hSw); go_simp)⟩) (by assumption) ?_
                    try simp only [Act.put, List.getElem_toArray, List.getElem_cons_zero, List.getElem_cons_succ, List.setIfInBounds_toArray, List.set_cons_zero, List.set_cons_succ]
                    refine wpAnyH_take (i := 3) (v := .pointer (some ⟨w.heap.size + 2, 0, none⟩)) rfl (by kernel_rfl) (by kernel_rfl) (by kernel_rfl) (fun _ _ _ h => h) (Or.inl ⟨by rfl, (by intro w' hSw; (try dsimp only at hSw); go_simp)⟩) (by assumption) ?_
                    try simp only [Act.put, List.getElem_toArray, List.getElem_cons_zero, List.getElem_cons_succ, List.setIfInBounds_toArray, List.set_cons_zero, List.set_cons_succ]
                    refine wpAnyH_take (i := 4) (v := .slice (some ⟨g, 0, none⟩) (m + 1) vc) rfl (by kernel_rfl) (by kernel_rfl) (by kernel_rfl) (fun _ _ _ h => h) (Or.inl ⟨by rfl, (by intro w' hSw; (try dsimp only at hSw); go_simp)⟩) (by assumption) ?_
                    try simp only [Act.put, List.getElem_toArray, List.getElem_cons_zero, List.getElem_cons_succ, List.setIfInBounds_toArray, List.set_cons_zero, List.set_cons_succ]
                    refine wpAnyH_take (i := 5) (v := .int .i64 m) rfl (by kernel_rfl) (by kernel_rfl) (by kernel_rfl) (fun _ _ _ h => h) (Or.inl ⟨by rfl, (by intro w' hSw; (try dsimp only at hSw); go_simp)⟩) (by assumption) ?_
                    try simp only [Act.put, List.getElem_toArray, List.getElem_cons_zero, List.getElem_cons_succ, List.setIfInBounds_toArray, List.set_cons_zero, List.set_cons_succ]
                    refine wpAnyH_take (i := 6) (v := .pointer (some ⟨g, m * 4, none⟩)) rfl (by kernel_rfl) (by kernel_rfl) (by kernel_rfl) (fun _ _ _ h => h) (Or.inl ⟨by rfl, (by intro w' hSw; (try dsimp only at hSw); go_simp)⟩) (by assumption) ?_
                    try simp only [Act.put, List.getElem_toArray, List.getElem_cons_zero, List.getElem_cons_succ, List.setIfInBounds_toArray, List.set_cons_zero, List.set_cons_succ]
                    refine wpAnyH_take (i := 7) (v := .pointer (some ⟨g, m * 4, none⟩)) rfl (by kernel_rfl) (by kernel_rfl) (by kernel_rfl) (fun _ _ _ h => h) (Or.inl ⟨by rfl, (by intro w' hSw; (try dsimp only at hSw); go_simp)⟩) (by assumption) ?_
                    try simp only [Act.put, List.getElem_toArray, List.getElem_cons_zero, List.getElem_cons_succ, List.setIfInBounds_toArray, List.set_cons_zero, List.set_cons_succ]
                    refine wpAnyH_take (i := 9) (v := stV st) rfl (by kernel_rfl) (by kernel_rfl) (by kernel_rfl) (fun _ _ _ h => h) (Or.inl ⟨by rfl, (by intro w' hSw; (try dsimp only at hSw); go_simp)⟩) (by assumption) ?_
                    try simp only [Act.put, List.getElem_toArray, List.getElem_cons_zero, List.getElem_cons_succ, List.setIfInBounds_toArray, List.set_cons_zero, List.set_cons_succ]
                    refine wpAnyH_ready (rs := [8, 10]) (by kernel_rfl) (by simp) ?_
                    refine AllReadyH.cons rfl (fun K hK => ?_) (AllReadyH.cons rfl (fun K hK => ?_) AllReadyH.nil)
                    · rw [if_pos (by kernel_rfl)]
                      go_simp
                      refine hK.out _ _ (⟨HHG.out.2.2.1.cell 0, cellsS HBX.out⟩) (fun _ => ?_)
                      clear hK K
                      try simp only [Act.put, List.getElem_toArray, List.getElem_cons_zero, List.getElem_cons_succ, List.setIfInBounds_toArray, List.set_cons_zero, List.set_cons_succ]
                      refine wpAnyH_ready (rs := [10]) (by kernel_rfl) (by simp) ?_
                      refine AllReadyH.cons rfl (fun K hK => ?_) AllReadyH.nil
                      rw [if_pos (by kernel_rfl)]
                      go_simp
                      refine hK.out _ _ (⟨HHGa.out.2.2.1.cell 0, cellsS HBXa.out⟩) (fun _ => ?_)
                      clear hK K
                      try simp only [Act.put, List.getElem_toArray, List.getElem_cons_zero, List.getElem_cons_succ, List.setIfInBounds_toArray, List.set_cons_zero, List.set_cons_succ]
                      refine wpAnyH_ready (rs := [11]) (by kernel_rfl) (by simp) ?_
                      refine AllReadyH.cons rfl (fun K hK => ?_) AllReadyH.nil
                      refine step_append_lies _ (by rfl) _ _ _ (by rfl) (w.heap.size + 3) 45 j0 _ 6 48 Tryz.underlying38 hj jz0 jz1 jz2 rfl (by omega) bm t.b.length (stsC t.b) (by rfl) HOWN.out ⟨w3.heap.size, 0, none⟩ 1 1 [.int .i64 st.k, .int .i64 st.v, .int .i64 st.n, .int .i64 st.o, .int .i64 st.a, .int .i64 st.b] (by rfl) (by rfl) HNEW.out (by simp [Value.oneCell']) (by omega) (by unfold maxLen; omega) (by omega) HBA.out (w3.heap.size + 1) HSA.out ?_
                      intro gg cap' w5 hown5 hgrow5 hat5 hlt5
                      have hmo := Hand.more (b' := .slice (some ⟨gg, 0, none⟩) (t.b.length + 1) cap') (st := st) HHGa.out hown5 (by rw [HBM.out]; exact hgrow5) (by rw [HBM.out]; exact hat_ofS HSA.out hat5)
                      have k5 : w5.cell? ⟨g, m * 4, none⟩ = some bm := by rw [← HBM.out]; exact hmo.1.1
                      have f5 := hmo.1.2.1
                      have c5 := hmo.1.2.2
                      have hx5 := HBXa.out.grown hgrow5 (fun e => by have := HLB.out.2.2 _ e.symm; omega)
                      refine hK.out _ _ ⟨c5, cellsS hx5⟩ (fun _ => ?_)
                      clear hK K
                      try simp only [Act.put, List.getElem_toArray, List.getElem_cons_zero, List.getElem_cons_succ, List.setIfInBounds_toArray, List.set_cons_zero, List.set_cons_succ]
                      refine wpAnyH_take (i := 12) (v := .pointer (some ⟨g, m * 4, none⟩)) rfl (by kernel_rfl) (by kernel_rfl) (by kernel_rfl) (fun _ _ _ h => h) (Or.inl ⟨by rfl, (by intro w' hSw; (try dsimp only at hSw); go_simp)⟩) (by assumption) ?_
                      try simp only [Act.put, List.getElem_toArray, List.getElem_cons_zero, List.getElem_cons_succ, List.setIfInBounds_toArray, List.set_cons_zero, List.set_cons_succ]
                      refine wpAnyH_take (i := 13) (v := .pointer (some ⟨g, m * 4, none⟩)) rfl (by kernel_rfl) (by kernel_rfl) (by kernel_rfl) (fun _ _ _ h => h) (Or.inl ⟨by rfl, (by intro w' hSw; (try dsimp only at hSw); go_simp)⟩) (by assumption) ?_
                      try simp only [Act.put, List.getElem_toArray, List.getElem_cons_zero, List.getElem_cons_succ, List.setIfInBounds_toArray, List.set_cons_zero, List.set_cons_succ]
                      refine wpAnyH_ready (rs := [14]) (by kernel_rfl) (by simp) ?_
                      refine AllReadyH.cons rfl (fun K hK => ?_) AllReadyH.nil
                      rw [if_pos (by kernel_rfl)]
                      go_simp
                      refine hK.out _ _ ⟨hmo.2.2.2.1.cell 0, cellsS (hx5.grown (grown_setCell _ _ _ _) (fun e => by have := Option.some.inj e; have := HLB.out.2.1; omega))⟩ (fun _ => ?_)
                      clear hK K
                      try simp only [Act.put, List.getElem_toArray, List.getElem_cons_zero, List.getElem_cons_succ, List.setIfInBounds_toArray, List.set_cons_zero, List.set_cons_succ]
                      refine wpAnyH_done (by kernel_rfl) ?_ _
                      have HZ := Lib.hid hmo.2
                      clear hmo k5 c5 f5 hx5 hown5 hgrow5 hat5 hlt5
                      refine Lib.hid ?_
                      go_wp2
                      go_roundw
                      case rel => exact ⟨k + 1, k + 1, m + 1, A ++ [(s.data.toList.drop bb).take (k - bb)], _, _, _, _, by omega, by go_num, by go_num, by simp, HR2, HZ⟩
                      case measure => simp [intOf]; omega
                    · rw [if_pos (by kernel_rfl)]
                      go_simp
                      refine hK.out _ _ (⟨HHGa.out.2.2.1.cell 0, cellsS HBXa.out⟩) (fun _ => ?_)
                      clear hK K
                      try simp only [Act.put, List.getElem_toArray, List.getElem_cons_zero, List.getElem_cons_succ, List.setIfInBounds_toArray, List.set_cons_zero, List.set_cons_succ]
                      refine wpAnyH_ready (rs := [8]) (by kernel_rfl) (by simp) ?_
                      refine AllReadyH.cons rfl (fun K hK => ?_) AllReadyH.nil
                      rw [if_pos (by kernel_rfl)]
                      go_simp
                      refine hK.out _ _ (⟨HHGa.out.2.2.1.cell 0, cellsS HBXa.out⟩) (fun _ => ?_)
                      clear hK K
                      try simp only [Act.put, List.getElem_toArray, List.getElem_cons_zero, List.getElem_cons_succ, List.setIfInBounds_toArray, List.set_cons_zero, List.set_cons_succ]
                      refine wpAnyH_ready (rs := [11]) (by kernel_rfl) (by simp) ?_
                      refine AllReadyH.cons rfl (fun K hK => ?_) AllReadyH.nil
                      refine step_append_lies _ (by rfl) _ _ _ (by rfl) (w.heap.size + 3) 45 j0 _ 6 48 Tryz.underlying38 hj jz0 jz1 jz2 rfl (by omega) bm t.b.length (stsC t.b) (by rfl) HOWN.out ⟨w3.heap.size, 0, none⟩ 1 1 [.int .i64 st.k, .int .i64 st.v, .int .i64 st.n, .int .i64 st.o, .int .i64 st.a, .int .i64 st.b] (by rfl) (by rfl) HNEW.out (by simp [Value.oneCell']) (by omega) (by unfold maxLen; omega) (by omega) HBA.out (w3.heap.size + 1) HSA.out ?_
                      intro gg cap' w5 hown5 hgrow5 hat5 hlt5
                      have hmo := Hand.more (b' := .slice (some ⟨gg, 0, none⟩) (t.b.length + 1) cap') (st := st) HHGa.out hown5 (by rw [HBM.out]; exact hgrow5) (by rw [HBM.out]; exact hat_ofS HSA.out hat5)
                      have k5 : w5.cell? ⟨g, m * 4, none⟩ = some bm := by rw [← HBM.out]; exact hmo.1.1
                      have f5 := hmo.1.2.1
                      have c5 := hmo.1.2.2
                      have hx5 := HBXa.out.grown hgrow5 (fun e => by have := HLB.out.2.2 _ e.symm; omega)
                      refine hK.out _ _ ⟨c5, cellsS hx5⟩ (fun _ => ?_)
                      clear hK K
                      try simp only [Act.put, List.getElem_toArray, List.getElem_cons_zero, List.getElem_cons_succ, List.setIfInBounds_toArray, List.set_cons_zero, List.set_cons_succ]
                      refine wpAnyH_take (i := 12) (v := .pointer (some ⟨g, m * 4, none⟩)) rfl (by kernel_rfl) (by kernel_rfl) (by kernel_rfl) (fun _ _ _ h => h) (Or.inl ⟨by rfl, (by intro w' hSw; (try dsimp only at hSw); go_simp)⟩) (by assumption) ?_
                      try simp only [Act.put, List.getElem_toArray, List.getElem_cons_zero, List.getElem_cons_succ, List.setIfInBounds_toArray, List.set_cons_zero, List.set_cons_succ]
                      refine wpAnyH_take (i := 13) (v := .pointer (some ⟨g, m * 4, none⟩)) rfl (by kernel_rfl) (by kernel_rfl) (by kernel_rfl) (fun _ _ _ h => h) (Or.inl ⟨by rfl, (by intro w' hSw; (try dsimp only at hSw); go_simp)⟩) (by assumption) ?_
                      try simp only [Act.put, List.getElem_toArray, List.getElem_cons_zero, List.getElem_cons_succ, List.setIfInBounds_toArray, List.set_cons_zero, List.set_cons_succ]
                      refine wpAnyH_ready (rs := [14]) (by kernel_rfl) (by simp) ?_
                      refine AllReadyH.cons rfl (fun K hK => ?_) AllReadyH.nil
                      rw [if_pos (by kernel_rfl)]
                      go_simp
                      refine hK.out _ _ ⟨hmo.2.2.2.1.cell 0, cellsS (hx5.grown (grown_setCell _ _ _ _) (fun e => by have := Option.some.inj e; have := HLB.out.2.1; omega))⟩ (fun _ => ?_)
                      clear hK K
                      try simp only [Act.put, List.getElem_toArray, List.getElem_cons_zero, List.getElem_cons_succ, List.setIfInBounds_toArray, List.set_cons_zero, List.set_cons_succ]
                      refine wpAnyH_done (by kernel_rfl) ?_ _
                      have HZ := Lib.hid hmo.2
                      clear hmo k5 c5 f5 hx5 hown5 hgrow5 hat5 hlt5
                      refine Lib.hid ?_
                      go_wp2
                      go_roundw
                      case rel => exact ⟨k + 1, k + 1, m + 1, A ++ [(s.data.toList.drop bb).take (k - bb)], _, _, _, _, by omega, by go_num, by go_num, by simp, HR2, HZ⟩
                      case measure => simp [intOf]; omega
          · have HHD := Lib.hid (show HeadIs ((s.data.toList.drop bb).take (k - bb)) o x y by rcases HD.out with ⟨_, h⟩ | ⟨h, _⟩; (rw [piece_ext] at h; exact h); cases h)
            have HR2 := Lib.hid (HR.out.next hkn HCUT.out (Built.head HR.out.1 HHD.out))
            have HX := Lib.hid (H3.out.below (below_new (w2.alloc (.cells #[.int .i64 st.k, .int .i64 st.v, .int .i64 st.n, .int .i64 st.o, .int .i64 st.a, .int .i64 st.b] 45)) (.cells #[.slice none 0 0, .int .i64 o, .int .i64 x, .int .i64 y] 42)))
            have hn20 : n ≤ 20001 := by have := (HR.out.sizes HL20.out).1; have := H3.out.2.2.2.1.1; omega
            have hw2 : w.heap.size + 2 < w2.heap.size := H2.out.2.2.1.lt
            have HNEW := Lib.hid (show ∀ j u, ([.slice none 0 0, .int .i64 o, .int .i64 x, .int .i64 y] : List Value)[j]? = some u → ((w2.alloc (.cells #[.int .i64 st.k, .int .i64 st.v, .int .i64 st.n, .int .i64 st.o, .int .i64 st.a, .int .i64 st.b] 45)).alloc (.cells #[.slice none 0 0, .int .i64 o, .int .i64 x, .int .i64 y] 42)).cell? ((⟨w2.heap.size + 1, 0, none⟩ : Addr).add j) = some u from by
              have h9 := World.news_of_block (cs := #[.slice none 0 0, .int .i64 o, .int .i64 x, .int .i64 y]) (t := 42) (fr := (0, 0)) (heap_alloc_new (w2.alloc (.cells #[.int .i64 st.k, .int .i64 st.v, .int .i64 st.n, .int .i64 st.o, .int .i64 st.a, .int .i64 st.b] 45)) (.cells #[.slice none 0 0, .int .i64 o, .int .i64 x, .int .i64 y] 42))
              rw [show (w2.alloc (.cells #[.int .i64 st.k, .int .i64 st.v, .int .i64 st.n, .int .i64 st.o, .int .i64 st.a, .int .i64 st.b] 45)).heap.size = w2.heap.size + 1 by simp] at h9
              exact h9)
            refine Lib.hid ?_
            go_wp2_with (at_builtin; refine wpList_append_own_at _ rfl _ _ 24 rfl (w.heap.size + 3) 42 i0 _ 4 48 Tryz.underlying24 hi hz0 hz1 hz2 rfl (by omega) v n xs rfl HX.out.2.2.2.1.2.1 ⟨w2.heap.size + 1, 0, none⟩ 1 1 [.slice none 0 0, .int .i64 o, .int .i64 x, .int .i64 y] rfl rfl HNEW.out (by simp [Value.oneCell']) (by unfold maxLen; omega) (by omega) (by simp; omega) ?_; intro v4 w4 hown4 hgrow4 _ hat4; obtain ⟨gt, ct, rfl, hlo4, hlt4⟩ := hown4.form (by omega); refine Hid.out ?_)
            have hp := HX.out.push hown4 hgrow4 hat4
            have c4 := hp.1.1
            have f4 := hp.1.2
            have H5 := Lib.hid hp.2
            clear hp hown4 hgrow4 hat4 c2 d0 d1 d2
            refine Lib.hid ?_
            go_wp2
            go_roundw
            case rel => exact ⟨k + 1, k + 1, n + 1, A ++ [(s.data.toList.drop bb).take (k - bb)], .slice (some ⟨gt, 0, none⟩) (n + 1) ct, _, _, _, by omega, by go_num, by go_num, by simp, HR2, H5⟩
            case measure => simp [intOf]; omega
        · have HCUT := Lib.hid (show s.data.toList[k]? = some 10 ∨ (k = s.data.toList.length ∧ bb < k) from .inr ⟨by rw [HSL.out]; exact hke, hbl⟩)
          subst hke
          have hltI : ¬ (s.size : Int) < s.size := by omega
          have hbeI : ¬ (bb : Int) = s.size := by omega
          go_wp2_with (go_at_call 22; (with_reducible refine (spec_head _ _).mono ?_); rintro e w1 ⟨o, x, y, r, rfl, HD, hb1⟩; refine Hid.out ?_)
          have H1 := Lib.hid (HH.out.below hb1)
          clear hb1 HH
          refine Lib.hid ?_
          go_wp2_with (go_at_call 23; (with_reducible refine (spec_parse _ _).mono ?_); rintro e w2 ⟨st, b, rfl, HT, hb2⟩; refine Hid.out ?_)
          have bE : Box w1.heap.size #[.int .i64 o, .int .i64 x, .int .i64 y] 40 w2 := (Box.new w1 #[.int .i64 o, .int .i64 x, .int .i64 y] 40).below hb2
          have H2 := Lib.hid ((H1.out.below (below_new w1 (.cells #[.int .i64 o, .int .i64 x, .int .i64 y] 40))).below hb2)
          have H3 := Lib.hid (H2.out.below (below_new w2 (.cells #[.int .i64 st.k, .int .i64 st.v, .int .i64 st.n, .int .i64 st.o, .int .i64 st.a, .int .i64 st.b] 45)))
          have HE3 := Lib.hid (bE.alloc (.cells #[.int .i64 st.k, .int .i64 st.v, .int .i64 st.n, .int .i64 st.o, .int .i64 st.a, .int .i64 st.b] 45))
          clear hb2 H1 bE
          have c2 : (w2.alloc (.cells #[.int .i64 st.k, .int .i64 st.v, .int .i64 st.n, .int .i64 st.o, .int .i64 st.a, .int .i64 st.b] 45)).cell? ⟨w.heap.size + 2, 0, none⟩ = some v := H3.out.2.2.1.cell 0
          have d0 : (w2.alloc (.cells #[.int .i64 st.k, .int .i64 st.v, .int .i64 st.n, .int .i64 st.o, .int .i64 st.a, .int .i64 st.b] 45)).cell? ⟨w1.heap.size, 0, none⟩ = some (.int .i64 o) := HE3.out.cell 0
          have d1 : (w2.alloc (.cells #[.int .i64 st.k, .int .i64 st.v, .int .i64 st.n, .int .i64 st.o, .int .i64 st.a, .int .i64 st.b] 45)).cell? ⟨w1.heap.size, 1, none⟩ = some (.int .i64 x) := HE3.out.cell 1
          have d2 : (w2.alloc (.cells #[.int .i64 st.k, .int .i64 st.v, .int .i64 st.n, .int .i64 st.o, .int .i64 st.a, .int .i64 st.b] 45)).cell? ⟨w1.heap.size, 2, none⟩ = some (.int .i64 y) := HE3.out.cell 2
          cases r
          · have HNH := Lib.hid (show ∀ o' x' y', ¬ HeadIs ((s.data.toList.drop bb).take (s.size - bb)) o' x' y' by rcases HD.out with ⟨h, _⟩ | ⟨_, h⟩; cases h; (rw [piece_ext] at h; exact h))
            cases b
            · have HBAD := Lib.hid (HR.out.bad hkn HCUT.out HL20.out ⟨HNH.out, by have h := HT.out; rw [piece_ext] at h; exact st_no h⟩)
              clear c2 d0 d1 d2
              refine Lib.hid ?_
              go_wp2_with (first
                | (refine wpList_load_row rfl 26 _ rfl (w.heap.size + 1) rfl _ _ _ _ H3.out.2.1 Tryz.underlying26 rfl (by kernel_rfl) ?_)
                | ((refine wpList_store_box rfl 26 _ _ rfl w.heap.size _ _ H3.out.1 #[.slice none 0 0] rfl rfl rfl (by kernel_rfl) (by simp [Value.oneCell']) ?_); intro w6 hx6 hg6; refine Hid.out ?_))
              have HZ := Lib.hid (And.intro hx6 (H3.out.2.2.2.2.grown hg6 H3.out.2.2.2.2.size (fun q hq => by cases hq; exact Nat.le_refl _)))
              clear hx6 hg6
              refine Lib.hid ?_
              go_wp2
              exact bodyPost_ret (v := .tuple #[.agg #[.slice none 0 0], .int .i64 (A.length + 1)]) (results_box2 rfl _ _ w.heap.size _ _ _ _ rfl rfl HZ.out.1 Tryz.underlying26 rfl (by kernel_rfl)) rfl ⟨none, 0, 0, [], _, rfl, HBAD, Nat.le_refl _, TkRow.nil _ _, HZ.out.2⟩
            · have hok := st_valid HT.out
              have HFT := Lib.hid (textR_ok hok)
              clear d0 d1 d2 hok
              refine Lib.hid ?_
              go_wp2_with (go_at_call 24; (with_reducible refine (spec_fmtstmt st _).mono ?_); rintro e w3 ⟨rfl, hb3⟩; refine Hid.out ?_)
              have H4 := Lib.hid (H3.out.below hb3)
              obtain ⟨va, vc, rfl, hvc⟩ := H4.out.slice
              have c3 : w3.cell? ⟨w.heap.size + 2, 0, none⟩ = some (.slice va n vc) := H4.out.2.2.1.cell 0
              rw [HFT.out]
              cases hq : (text st == (s.extract bb s.size).toList)
              · have HBAD := Lib.hid (HR.out.bad hkn HCUT.out HL20.out ⟨HNH.out, by
                  have h := HT.out
                  rw [piece_ext] at h
                  exact st_other h (fun e => by rw [← piece_ext] at e; rw [(test_bytes _ _).2 e] at hq; cases hq)⟩)
                clear c3 c2 hb3
                refine Lib.hid ?_
                go_wp2_with (first
                  | (refine wpList_load_row rfl 26 _ rfl (w.heap.size + 1) rfl _ _ _ _ H4.out.2.1 Tryz.underlying26 rfl (by kernel_rfl) ?_)
                  | ((refine wpList_store_box rfl 26 _ _ rfl w.heap.size _ _ H4.out.1 #[.slice none 0 0] rfl rfl rfl (by kernel_rfl) (by simp [Value.oneCell']) ?_); intro w6 hx6 hg6; refine Hid.out ?_))
                have HZ := Lib.hid (And.intro hx6 (H4.out.2.2.2.2.grown hg6 H4.out.2.2.2.2.size (fun q hq => by cases hq; exact Nat.le_refl _)))
                clear hx6 hg6
                refine Lib.hid ?_
                go_wp2
                exact bodyPost_ret (v := .tuple #[.agg #[.slice none 0 0], .int .i64 (A.length + 1)]) (results_box2 rfl _ _ w.heap.size _ _ _ _ rfl rfl HZ.out.1 Tryz.underlying26 rfl (by kernel_rfl)) rfl ⟨none, 0, 0, [], _, rfl, HBAD, Nat.le_refl _, TkRow.nil _ _, HZ.out.2⟩
              · have HST := Lib.hid (show StIs ((s.data.toList.drop bb).take (s.size - bb)) st by
                  have h := HT.out
                  rw [piece_ext] at h
                  exact st_yes h (by rw [← piece_ext]; exact (test_bytes _ _).1 hq))
                have HR2 := Lib.hid (HR.out.next hkn HCUT.out (Built.st HR.out.1 HST.out))
                rcases Nat.eq_zero_or_pos n with hn0 | hnp
                · subst hn0
                  have hP0 : P = [] := List.length_eq_zero_iff.1 H4.out.2.2.2.1.1
                  have HP0 := Lib.hid hP0
                  clear hP0 hb3 c2
                  refine Lib.hid ?_
                  go_wp2
                  go_roundw
                  case rel => exact ⟨s.size + 1, s.size + 1, 0, A ++ [(s.data.toList.drop bb).take (s.size - bb)], _, _, _, P, by omega, by go_num, by go_num, by simp, by have h := HR2.out; rw [HP0.out] at h ⊢; exact h, H4⟩
                  case measure => simp [intOf]
                · obtain ⟨m, rfl⟩ : ∃ m, n = m + 1 := ⟨n - 1, by omega⟩
                  rcases List.eq_nil_or_concat P with rfl | ⟨P0, t, hPc⟩
                  · have := H4.out.2.2.2.1.1; simp at this
                  · rw [List.concat_eq_append] at hPc
                    subst hPc
                    obtain ⟨g, c', hv', hlog, hltg⟩ := H4.out.2.2.2.1.2.1.form (by omega)
                    injection hv' with q1 q2 q3
                    subst q1
                    clear q2 q3
                    obtain ⟨bm, hbm⟩ : ∃ bm, bv m = bm := ⟨_, rfl⟩
                    have HBM := Lib.hid hbm
                    obtain ⟨g2, c2', hv2, _, hltg2⟩ := H2.out.2.2.2.1.2.1.form (by omega)
                    injection hv2 with r1 r2 r3
                    injection r1 with r1
                    injection r1 with r1
                    subst r1
                    have hlast2 := H2.out.last
                    rw [hbm] at hlast2
                    have HLB := Lib.hid (show w.heap.size + 2 < w2.heap.size ∧ g < w2.heap.size ∧ ∀ q, bm.ownBlock = some q → q < w2.heap.size from ⟨H2.out.2.2.1.lt, hltg2, fun q hq => (hlast2.2.lt q hq).2⟩)
                    have hb3a : Below w3.heap.size w3 (w3.alloc (.cells #[.int .i64 st.k, .int .i64 st.v, .int .i64 st.n, .int .i64 st.o, .int .i64 st.a, .int .i64 st.b] 45)).drew := Below.drew (below_new w3 _)
                    have bS : Box w2.heap.size #[.int .i64 st.k, .int .i64 st.v, .int .i64 st.n, .int .i64 st.o, .int .i64 st.a, .int .i64 st.b] 45 w3 := (Box.new w2 #[.int .i64 st.k, .int .i64 st.v, .int .i64 st.n, .int .i64 st.o, .int .i64 st.a, .int .i64 st.b] 45).below hb3
                    have HBX := Lib.hid (show Box w2.heap.size #[.int .i64 st.k, .int .i64 st.v, .int .i64 st.n, .int .i64 st.o, .int .i64 st.a, .int .i64 st.b] 45 w3.drew from bS)
                    have HBXa := Lib.hid (show Box w2.heap.size #[.int .i64 st.k, .int .i64 st.v, .int .i64 st.n, .int .i64 st.o, .int .i64 st.a, .int .i64 st.b] 45 (w3.alloc (.cells #[.int .i64 st.k, .int .i64 st.v, .int .i64 st.n, .int .i64 st.o, .int .i64 st.a, .int .i64 st.b] 45)).drew from bS.below hb3a)
                    have HHG := Lib.hid (show Hand w w3.drew _ _ xs bv _ from H4.out.below (Below.drew (Below.refl _ w3)))
                    have HHGa := Lib.hid (show Hand w (w3.alloc (.cells #[.int .i64 st.k, .int .i64 st.v, .int .i64 st.n, .int .i64 st.o, .int .i64 st.a, .int .i64 st.b] 45)).drew _ _ xs bv _ from H4.out.below hb3a)
                    have HOWN := Lib.hid (show ((w3.alloc (.cells #[.int .i64 st.k, .int .i64 st.v, .int .i64 st.n, .int .i64 st.o, .int .i64 st.a, .int .i64 st.b] 45)).drew).ownsRow (w.heap.size + 3) 45 6 bm t.b.length (stsC t.b) by rw [← hbm]; exact HHGa.out.last.2)
                    have HNEW := Lib.hid (World.news_of_block (w := (w3.alloc (.cells #[.int .i64 st.k, .int .i64 st.v, .int .i64 st.n, .int .i64 st.o, .int .i64 st.a, .int .i64 st.b] 45)).drew) (cs := #[.int .i64 st.k, .int .i64 st.v, .int .i64 st.n, .int .i64 st.o, .int .i64 st.a, .int .i64 st.b]) (t := 45) (fr := (0, 0)) (heap_alloc_new w3 (.cells #[.int .i64 st.k, .int .i64 st.v, .int .i64 st.n, .int .i64 st.o, .int .i64 st.a, .int .i64 st.b] 45)))
                    have HSA := Lib.hid (show ((w3.alloc (.cells #[.int .i64 st.k, .int .i64 st.v, .int .i64 st.n, .int .i64 st.o, .int .i64 st.a, .int .i64 st.b] 45)).drew).heap.size = w3.heap.size + 1 by simp)
                    have HBA := Lib.hid (show w.heap.size + 3 ≤ ((w3.alloc (.cells #[.int .i64 st.k, .int .i64 st.v, .int .i64 st.n, .int .i64 st.o, .int .i64 st.a, .int .i64 st.b] 45)).drew).heap.size by have := HSA.out; have := H4.out.2.2.1.lt; omega)
                    have hb20 : t.b.length ≤ 20001 := (HR.out.sizes HL20.out).2 t (by simp)
                    have kT : w3.drew.cell? ⟨g, m * 4, none⟩ = some bm := by rw [← hbm]; exact HHG.out.last.1
                    have kTa : ((w3.alloc (.cells #[.int .i64 st.k, .int .i64 st.v, .int .i64 st.n, .int .i64 st.o, .int .i64 st.a, .int .i64 st.b] 45)).drew).cell? ⟨g, m * 4, none⟩ = some bm := by rw [← hbm]; exact HHGa.out.last.1
                    clear hbm c2 hb3 hb3a bS hlast2 hltg2 r2 r3
                    have hm0 : (0 : Int) ≤ (m : Int) := by omega
                    have hm1 : (m : Int) < (m : Int) + 1 := by omega
                    have hmp : (0 : Int) < (m : Int) + 1 := by omega
                    have hm20 : (m : Int) ≤ 20001 := by have := (HR.out.sizes HL20.out).1; have := H4.out.2.2.2.1.1; omega
                    refine Lib.hid ?_
                    go_wp2
                    clear c3
                    refine wp_region_held_drew (S := fun w' => w'.cell? ⟨w.heap.size + 2, 0, none⟩ = some (.slice (some ⟨g, 0, none⟩) (m + 1) vc) ∧ w'.cell? ⟨w2.heap.size, 0, none⟩ = some (.int .i64 st.k) ∧ w'.cell? ⟨w2.heap.size, 1, none⟩ = some (.int .i64 st.v) ∧ w'.cell? ⟨w2.heap.size, 2, none⟩ = some (.int .i64 st.n) ∧ w'.cell? ⟨w2.heap.size, 3, none⟩ = some (.int .i64 st.o) ∧ w'.cell? ⟨w2.heap.size, 4, none⟩ = some (.int .i64 st.a) ∧ w'.cell? ⟨w2.heap.size, 5, none⟩ = some (.int .i64 st.b)) (by kernel_rfl) ⟨HHG.out.2.2.1.cell 0, cellsS HBX.out⟩ (fun _ => ?_)
                    refine wpAnyH_take (i := 0) (v := .pointer (some ⟨w.heap.size + 2, 0, none⟩)) rfl (by kernel_rfl) (by kernel_rfl) (by kernel_rfl) (fun _ _ _ h => h) (Or.inl ⟨by rfl, (by intro w' hSw; (try dsimp only at hSw); go_simp)⟩) (by assumption) ?_
                    try simp only [Act.put, List.getElem_toArray, List.getElem_cons_zero, List.getElem_cons_succ, List.setIfInBounds_toArray, List.set_cons_zero, List.set_cons_succ]
                    refine wpAnyH_take (i := 1) (v := .slice (some ⟨g, 0, none⟩) (m + 1) vc) rfl (by kernel_rfl) (by kernel_rfl) (by kernel_rfl) (fun _ _ _ h => h) (Or.inl ⟨by rfl, (by intro w' hSw; (try dsimp only at hSw); go_simp)⟩) (by assumption) ?_
                    try simp only [Act.put, List.getElem_toArray, List.getElem_cons_zero, List.getElem_cons_succ, List.setIfInBounds_toArray, List.set_cons_zero, List.set_cons_succ]
                    refine wpAnyH_take (i := 2) (v := .int .i64 m) rfl (by kernel_rfl) (by kernel_rfl) (by kernel_rfl) (fun _ _ _ h => h) (Or.inl ⟨by rfl, (by intro w' hSw; (try dsimp only at hSw); go_simp)⟩) (by assumption) ?_
                    try simp only [Act.put, List.getElem_toArray, List.getElem_cons_zero, List.getElem_cons_succ, List.setIfInBounds_toArray, List.set_cons_zero, List.set_cons_succ]
                    refine wpAnyH_take (i := 3) (v := .pointer (some ⟨w.heap.size + 2, 0, none⟩)) rfl (by kernel_rfl) (by kernel_rfl) (by kernel_rfl) (fun _ _ _ h => h) (Or.inl ⟨by rfl, (by intro w' hSw; (try dsimp only at hSw); go_simp)⟩) (by assumption) ?_
                    try simp only [Act.put, List.getElem_toArray, List.getElem_cons_zero, List.getElem_cons_succ, List.setIfInBounds_toArray, List.set_cons_zero, List.set_cons_succ]
                    refine wpAnyH_take (i := 4) (v := .slice (some ⟨g, 0, none⟩) (m + 1) vc) rfl (by kernel_rfl) (by kernel_rfl) (by kernel_rfl) (fun _ _ _ h => h) (Or.inl ⟨by rfl, (by intro w' hSw; (try dsimp only at hSw); go_simp)⟩) (by assumption) ?_
                    try simp only [Act.put, List.getElem_toArray, List.getElem_cons_zero, List.getElem_cons_succ, List.setIfInBounds_toArray, List.set_cons_zero, List.set_cons_succ]
                    refine wpAnyH_take (i := 5) (v := .int .i64 m) rfl (by kernel_rfl) (by kernel_rfl) (by kernel_rfl) (fun _ _ _ h => h) (Or.inl ⟨by rfl, (by intro w' hSw; (try dsimp only at hSw); go_simp)⟩) (by assumption) ?_
                    try simp only [Act.put, List.getElem_toArray, List.getElem_cons_zero, List.getElem_cons_succ, List.setIfInBounds_toArray, List.set_cons_zero, List.set_cons_succ]
                    refine wpAnyH_take (i := 6) (v := .pointer (some ⟨g, m * 4, none⟩)) rfl (by kernel_rfl) (by kernel_rfl) (by kernel_rfl) (fun _ _ _ h => h) (Or.inl ⟨by rfl, (by intro w' hSw; (try dsimp only at hSw); go_simp)⟩) (by assumption) ?_
                    try simp only [Act.put, List.getElem_toArray, List.getElem_cons_zero, List.getElem_cons_succ, List.setIfInBounds_toArray, List.set_cons_zero, List.set_cons_succ]
                    refine wpAnyH_take (i := 7) (v := .pointer (some ⟨g, m * 4, none⟩)) rfl (by kernel_rfl) (by kernel_rfl) (by kernel_rfl) (fun _ _ _ h => h) (Or.inl ⟨by rfl, (by intro w' hSw; (try dsimp only at hSw); go_simp)⟩) (by assumption) ?_
                    try simp only [Act.put, List.getElem_toArray, List.getElem_cons_zero, List.getElem_cons_succ, List.setIfInBounds_toArray, List.set_cons_zero, List.set_cons_succ]
                    refine wpAnyH_take (i := 9) (v := stV st) rfl (by kernel_rfl) (by kernel_rfl) (by kernel_rfl) (fun _ _ _ h => h) (Or.inl ⟨by rfl, (by intro w' hSw; (try dsimp only at hSw); go_simp)⟩) (by assumption) ?_
                    try simp only [Act.put, List.getElem_toArray, List.getElem_cons_zero, List.getElem_cons_succ, List.setIfInBounds_toArray, List.set_cons_zero, List.set_cons_succ]
                    refine wpAnyH_ready (rs := [8, 10]) (by kernel_rfl) (by simp) ?_
                    refine AllReadyH.cons rfl (fun K hK => ?_) (AllReadyH.cons rfl (fun K hK => ?_) AllReadyH.nil)
                    · rw [if_pos (by kernel_rfl)]
                      go_simp
                      refine hK.out _ _ (⟨HHG.out.2.2.1.cell 0, cellsS HBX.out⟩) (fun _ => ?_)
                      clear hK K
                      try simp only [Act.put, List.getElem_toArray, List.getElem_cons_zero, List.getElem_cons_succ, List.setIfInBounds_toArray, List.set_cons_zero, List.set_cons_succ]
                      refine wpAnyH_ready (rs := [10]) (by kernel_rfl) (by simp) ?_
                      refine AllReadyH.cons rfl (fun K hK => ?_) AllReadyH.nil
                      rw [if_pos (by kernel_rfl)]
                      go_simp
                      refine hK.out _ _ (⟨HHGa.out.2.2.1.cell 0, cellsS HBXa.out⟩) (fun _ => ?_)
                      clear hK K
                      try simp only [Act.put, List.getElem_toArray, List.getElem_cons_zero, List.getElem_cons_succ, List.setIfInBounds_toArray, List.set_cons_zero, List.set_cons_succ]
                      refine wpAnyH_ready (rs := [11]) (by kernel_rfl) (by simp) ?_
                      refine AllReadyH.cons rfl (fun K hK => ?_) AllReadyH.nil
                      refine step_append_lies _ (by rfl) _ _ _ (by rfl) (w.heap.size + 3) 45 j0 _ 6 48 Tryz.underlying38 hj jz0 jz1 jz2 rfl (by omega) bm t.b.length (stsC t.b) (by rfl) HOWN.out ⟨w3.heap.size, 0, none⟩ 1 1 [.int .i64 st.k, .int .i64 st.v, .int .i64 st.n, .int .i64 st.o, .int .i64 st.a, .int .i64 st.b] (by rfl) (by rfl) HNEW.out (by simp [Value.oneCell']) (by omega) (by unfold maxLen; omega) (by omega) HBA.out (w3.heap.size + 1) HSA.out ?_
                      intro gg cap' w5 hown5 hgrow5 hat5 hlt5
                      have hmo := Hand.more (b' := .slice (some ⟨gg, 0, none⟩) (t.b.length + 1) cap') (st := st) HHGa.out hown5 (by rw [HBM.out]; exact hgrow5) (by rw [HBM.out]; exact hat_ofS HSA.out hat5)
                      have k5 : w5.cell? ⟨g, m * 4, none⟩ = some bm := by rw [← HBM.out]; exact hmo.1.1
                      have f5 := hmo.1.2.1
                      have c5 := hmo.1.2.2
                      have hx5 := HBXa.out.grown hgrow5 (fun e => by have := HLB.out.2.2 _ e.symm; omega)
                      refine hK.out _ _ ⟨c5, cellsS hx5⟩ (fun _ => ?_)
                      clear hK K
                      try simp only [Act.put, List.getElem_toArray, List.getElem_cons_zero, List.getElem_cons_succ, List.setIfInBounds_toArray, List.set_cons_zero, List.set_cons_succ]
                      refine wpAnyH_take (i := 12) (v := .pointer (some ⟨g, m * 4, none⟩)) rfl (by kernel_rfl) (by kernel_rfl) (by kernel_rfl) (fun _ _ _ h => h) (Or.inl ⟨by rfl, (by intro w' hSw; (try dsimp only at hSw); go_simp)⟩) (by assumption) ?_
                      try simp only [Act.put, List.getElem_toArray, List.getElem_cons_zero, List.getElem_cons_succ, List.setIfInBounds_toArray, List.set_cons_zero, List.set_cons_succ]
                      refine wpAnyH_take (i := 13) (v := .pointer (some ⟨g, m * 4, none⟩)) rfl (by kernel_rfl) (by kernel_rfl) (by kernel_rfl) (fun _ _ _ h => h) (Or.inl ⟨by rfl, (by intro w' hSw; (try dsimp only at hSw); go_simp)⟩) (by assumption) ?_
                      try simp only [Act.put, List.getElem_toArray, List.getElem_cons_zero, List.getElem_cons_succ, List.setIfInBounds_toArray, List.set_cons_zero, List.set_cons_succ]
                      refine wpAnyH_ready (rs := [14]) (by kernel_rfl) (by simp) ?_
                      refine AllReadyH.cons rfl (fun K hK => ?_) AllReadyH.nil
                      rw [if_pos (by kernel_rfl)]
                      go_simp
                      refine hK.out _ _ ⟨hmo.2.2.2.1.cell 0, cellsS (hx5.grown (grown_setCell _ _ _ _) (fun e => by have := Option.some.inj e; have := HLB.out.2.1; omega))⟩ (fun _ => ?_)
                      clear hK K
                      try simp only [Act.put, List.getElem_toArray, List.getElem_cons_zero, List.getElem_cons_succ, List.setIfInBounds_toArray, List.set_cons_zero, List.set_cons_succ]
                      refine wpAnyH_done (by kernel_rfl) ?_ _
                      have HZ := Lib.hid hmo.2
                      clear hmo k5 c5 f5 hx5 hown5 hgrow5 hat5 hlt5
                      refine Lib.hid ?_
                      go_wp2
                      go_roundw
                      case rel => exact ⟨s.size + 1, s.size + 1, m + 1, A ++ [(s.data.toList.drop bb).take (s.size - bb)], _, _, _, _, by omega, by go_num, by go_num, by simp, HR2, HZ⟩
                      case measure => simp [intOf]
                    · rw [if_pos (by kernel_rfl)]
                      go_simp
                      refine hK.out _ _ (⟨HHGa.out.2.2.1.cell 0, cellsS HBXa.out⟩) (fun _ => ?_)
                      clear hK K
                      try simp only [Act.put, List.getElem_toArray, List.getElem_cons_zero, List.getElem_cons_succ, List.setIfInBounds_toArray, List.set_cons_zero, List.set_cons_succ]
                      refine wpAnyH_ready (rs := [8]) (by kernel_rfl) (by simp) ?_
                      refine AllReadyH.cons rfl (fun K hK => ?_) AllReadyH.nil
                      rw [if_pos (by kernel_rfl)]
                      go_simp
                      refine hK.out _ _ (⟨HHGa.out.2.2.1.cell 0, cellsS HBXa.out⟩) (fun _ => ?_)
                      clear hK K
                      try simp only [Act.put, List.getElem_toArray, List.getElem_cons_zero, List.getElem_cons_succ, List.setIfInBounds_toArray, List.set_cons_zero, List.set_cons_succ]
                      refine wpAnyH_ready (rs := [11]) (by kernel_rfl) (by simp) ?_
                      refine AllReadyH.cons rfl (fun K hK => ?_) AllReadyH.nil
                      refine step_append_lies _ (by rfl) _ _ _ (by rfl) (w.heap.size + 3) 45 j0 _ 6 48 Tryz.underlying38 hj jz0 jz1 jz2 rfl (by omega) bm t.b.length (stsC t.b) (by rfl) HOWN.out ⟨w3.heap.size, 0, none⟩ 1 1 [.int .i64 st.k, .int .i64 st.v, .int .i64 st.n, .int .i64 st.o, .int .i64 st.a, .int .i64 st.b] (by rfl) (by rfl) HNEW.out (by simp [Value.oneCell']) (by omega) (by unfold maxLen; omega) (by omega) HBA.out (w3.heap.size + 1) HSA.out ?_
                      intro gg cap' w5 hown5 hgrow5 hat5 hlt5
                      have hmo := Hand.more (b' := .slice (some ⟨gg, 0, none⟩) (t.b.length + 1) cap') (st := st) HHGa.out hown5 (by rw [HBM.out]; exact hgrow5) (by rw [HBM.out]; exact hat_ofS HSA.out hat5)
                      have k5 : w5.cell? ⟨g, m * 4, none⟩ = some bm := by rw [← HBM.out]; exact hmo.1.1
                      have f5 := hmo.1.2.1
                      have c5 := hmo.1.2.2
                      have hx5 := HBXa.out.grown hgrow5 (fun e => by have := HLB.out.2.2 _ e.symm; omega)
                      refine hK.out _ _ ⟨c5, cellsS hx5⟩ (fun _ => ?_)
                      clear hK K
                      try simp only [Act.put, List.getElem_toArray, List.getElem_cons_zero, List.getElem_cons_succ, List.setIfInBounds_toArray, List.set_cons_zero, List.set_cons_succ]
                      refine wpAnyH_take (i := 12) (v := .pointer (some ⟨g, m * 4, none⟩)) rfl (by kernel_rfl) (by kernel_rfl) (by kernel_rfl) (fun _ _ _ h => h) (Or.inl ⟨by rfl, (by intro w' hSw; (try dsimp only at hSw); go_simp)⟩) (by assumption) ?_
                      try simp only [Act.put, List.getElem_toArray, List.getElem_cons_zero, List.getElem_cons_succ, List.setIfInBounds_toArray, List.set_cons_zero, List.set_cons_succ]
                      refine wpAnyH_take (i := 13) (v := .pointer (some ⟨g, m * 4, none⟩)) rfl (by kernel_rfl) (by kernel_rfl) (by kernel_rfl) (fun _ _ _ h => h) (Or.inl ⟨by rfl, (by intro w' hSw; (try dsimp only at hSw); go_simp)⟩) (by assumption) ?_
                      try simp only [Act.put, List.getElem_toArray, List.getElem_cons_zero, List.getElem_cons_succ, List.setIfInBounds_toArray, List.set_cons_zero, List.set_cons_succ]
                      refine wpAnyH_ready (rs := [14]) (by kernel_rfl) (by simp) ?_
                      refine AllReadyH.cons rfl (fun K hK => ?_) AllReadyH.nil
                      rw [if_pos (by kernel_rfl)]
                      go_simp
                      refine hK.out _ _ ⟨hmo.2.2.2.1.cell 0, cellsS (hx5.grown (grown_setCell _ _ _ _) (fun e => by have := Option.some.inj e; have := HLB.out.2.1; omega))⟩ (fun _ => ?_)
                      clear hK K
                      try simp only [Act.put, List.getElem_toArray, List.getElem_cons_zero, List.getElem_cons_succ, List.setIfInBounds_toArray, List.set_cons_zero, List.set_cons_succ]
                      refine wpAnyH_done (by kernel_rfl) ?_ _
                      have HZ := Lib.hid hmo.2
                      clear hmo k5 c5 f5 hx5 hown5 hgrow5 hat5 hlt5
                      refine Lib.hid ?_
                      go_wp2
                      go_roundw
                      case rel => exact ⟨s.size + 1, s.size + 1, m + 1, A ++ [(s.data.toList.drop bb).take (s.size - bb)], _, _, _, _, by omega, by go_num, by go_num, by simp, HR2, HZ⟩
                      case measure => simp [intOf]
          · have HHD := Lib.hid (show HeadIs ((s.data.toList.drop bb).take (s.size - bb)) o x y by rcases HD.out with ⟨_, h⟩ | ⟨h, _⟩; (rw [piece_ext] at h; exact h); cases h)
            have HR2 := Lib.hid (HR.out.next hkn HCUT.out (Built.head HR.out.1 HHD.out))
            have HX := Lib.hid (H3.out.below (below_new (w2.alloc (.cells #[.int .i64 st.k, .int .i64 st.v, .int .i64 st.n, .int .i64 st.o, .int .i64 st.a, .int .i64 st.b] 45)) (.cells #[.slice none 0 0, .int .i64 o, .int .i64 x, .int .i64 y] 42)))
            have hn20 : n ≤ 20001 := by have := (HR.out.sizes HL20.out).1; have := H3.out.2.2.2.1.1; omega
            have hw2 : w.heap.size + 2 < w2.heap.size := H2.out.2.2.1.lt
            have HNEW := Lib.hid (show ∀ j u, ([.slice none 0 0, .int .i64 o, .int .i64 x, .int .i64 y] : List Value)[j]? = some u → ((w2.alloc (.cells #[.int .i64 st.k, .int .i64 st.v, .int .i64 st.n, .int .i64 st.o, .int .i64 st.a, .int .i64 st.b] 45)).alloc (.cells #[.slice none 0 0, .int .i64 o, .int .i64 x, .int .i64 y] 42)).cell? ((⟨w2.heap.size + 1, 0, none⟩ : Addr).add j) = some u from by
              have h9 := World.news_of_block (cs := #[.slice none 0 0, .int .i64 o, .int .i64 x, .int .i64 y]) (t := 42) (fr := (0, 0)) (heap_alloc_new (w2.alloc (.cells #[.int .i64 st.k, .int .i64 st.v, .int .i64 st.n, .int .i64 st.o, .int .i64 st.a, .int .i64 st.b] 45)) (.cells #[.slice none 0 0, .int .i64 o, .int .i64 x, .int .i64 y] 42))
              rw [show (w2.alloc (.cells #[.int .i64 st.k, .int .i64 st.v, .int .i64 st.n, .int .i64 st.o, .int .i64 st.a, .int .i64 st.b] 45)).heap.size = w2.heap.size + 1 by simp] at h9
              exact h9)
            refine Lib.hid ?_
            go_wp2_with (at_builtin; refine wpList_append_own_at _ rfl _ _ 24 rfl (w.heap.size + 3) 42 i0 _ 4 48 Tryz.underlying24 hi hz0 hz1 hz2 rfl (by omega) v n xs rfl HX.out.2.2.2.1.2.1 ⟨w2.heap.size + 1, 0, none⟩ 1 1 [.slice none 0 0, .int .i64 o, .int .i64 x, .int .i64 y] rfl rfl HNEW.out (by simp [Value.oneCell']) (by unfold maxLen; omega) (by omega) (by simp; omega) ?_; intro v4 w4 hown4 hgrow4 _ hat4; obtain ⟨gt, ct, rfl, hlo4, hlt4⟩ := hown4.form (by omega); refine Hid.out ?_)
            have hp := HX.out.push hown4 hgrow4 hat4
            have c4 := hp.1.1
            have f4 := hp.1.2
            have H5 := Lib.hid hp.2
            clear hp hown4 hgrow4 hat4 c2 d0 d1 d2
            refine Lib.hid ?_
            go_wp2
            go_roundw
            case rel => exact ⟨s.size + 1, s.size + 1, n + 1, A ++ [(s.data.toList.drop bb).take (s.size - bb)], .slice (some ⟨gt, 0, none⟩) (n + 1) ct, _, _, _, by omega, by go_num, by go_num, by simp, HR2, H5⟩
            case measure => simp [intOf]
      · have HBU := Lib.hid (HR.out.done (by rw [HSL.out]; omega))
        have hkI : ¬ (k : Int) ≤ s.size := by omega
        obtain ⟨va, vc, rfl, hvc⟩ := HH.out.slice
        obtain ⟨T, hT⟩ := progIs_ex P
        have HT := Lib.hid hT
        have HSZ := Lib.hid (show Sizes P from ⟨by have := (HR.out.sizes HL20.out).1; omega, fun t ht => by have := (HR.out.sizes HL20.out).2 t ht; omega⟩)
        have c2 : wr.cell? ⟨w.heap.size + 2, 0, none⟩ = some (.slice va n vc) := HH.out.2.2.1.cell 0
        have HROW := Lib.hid HH.out.2.2.2.1.row
        clear hT
        go_wp2_with (go_at_call 25; (with_reducible refine (spec_programtext va n vc P HSZ.out _ HROW.out T HT.out).mono ?_); rintro e w1 ⟨rfl, hb1⟩; refine Hid.out ?_)
        have H1 := Lib.hid (HH.out.below hb1)
        have c3 : w1.cell? ⟨w.heap.size + 2, 0, none⟩ = some (.slice va n vc) := H1.out.2.2.1.cell 0
        have b3 : w.heap.size + 2 < w1.heap.size := H1.out.2.2.1.lt
        clear hb1 c2 HH
        cases hq : (T == s.toList)
        · have hne : ¬ (IsPrg P ∧ progT P = s.data.toList) := fun hh => by
            have h9 : T = s.data.toList := by
              rcases HT.out with ⟨_, h⟩ | ⟨h, _⟩
              · exact h.trans hh.2
              · exact absurd hh.1 h
            rw [(test_bytes s T).2 h9] at hq
            cases hq
          have HPI := Lib.hid (show ParseIs s.data.toList [] (-2) from .inr (.inr (.inr ⟨HL20.out, P, HBU.out, hne, rfl, rfl⟩)))
          have hq2 : (T != s.toList) = true := by rw [bne, hq]; rfl
          clear hne c3
          refine Lib.hid ?_
          go_wp2_with (first
            | (refine wpList_load_row rfl 26 _ rfl (w.heap.size + 1) rfl _ _ _ _ H1.out.2.1 Tryz.underlying26 rfl (by kernel_rfl) ?_)
            | ((refine wpList_store_box rfl 26 _ _ rfl w.heap.size _ _ H1.out.1 #[.slice none 0 0] rfl rfl rfl (by kernel_rfl) (by simp [Value.oneCell']) ?_); intro w6 hx6 hg6; refine Hid.out ?_))
          have HZ := Lib.hid (And.intro hx6 (H1.out.2.2.2.2.grown hg6 H1.out.2.2.2.2.size (fun q hq => by cases hq; exact Nat.le_refl _)))
          clear hx6 hg6
          refine Lib.hid ?_
          go_wp2
          exact bodyPost_ret (v := .tuple #[.agg #[.slice none 0 0], .int .i64 (-2)]) (results_box2 rfl _ _ w.heap.size _ _ _ _ rfl rfl HZ.out.1 Tryz.underlying26 rfl (by kernel_rfl)) rfl ⟨none, 0, 0, [], _, rfl, HPI, Nat.le_refl _, TkRow.nil _ _, HZ.out.2⟩
        · have hq2 : (T != s.toList) = false := by rw [bne, hq]; rfl
          have hTe := (test_bytes s T).1 hq
          by_cases hP : IsPrg P
          · have HPI := Lib.hid (show ParseIs s.data.toList P 0 from .inr (.inr (.inl ⟨HL20.out, HBU.out, hP, by
              rcases HT.out with ⟨_, h⟩ | ⟨h, _⟩
              · rw [← h, hTe]
              · exact absurd hP h, rfl⟩)))
            have HIP := Lib.hid hP
            have HRW := Lib.hid H1.out.2.2.2.1.row
            clear hP hTe
            refine Lib.hid ?_
            go_wp2_with (go_at_call 26; (with_reducible refine (spec_programok va n vc P HSZ.out _ HRW.out true ⟨fun _ => HIP.out, fun _ => rfl⟩).mono ?_); rintro e w3 ⟨rfl, hb3⟩; refine Hid.out ?_)
            have H3 := Lib.hid (H1.out.below hb3)
            clear hb3 c3
            refine Lib.hid ?_
            go_wp2_with (first
              | (refine wpList_load_row rfl 26 _ rfl (w.heap.size + 2) rfl _ _ _ _ H3.out.2.2.1 Tryz.underlying26 rfl (by kernel_rfl) ?_)
              | ((refine wpList_store_box rfl 26 _ _ rfl w.heap.size _ _ H3.out.1 #[.slice va n vc] rfl rfl rfl (by kernel_rfl) (by simp [Value.oneCell']) ?_); intro w6 hx6 hg6; refine Hid.out ?_))
            have HF6 := Lib.hid (H3.out.2.2.2.1.kept hg6 (fun g e => by have := Option.some.inj e; omega))
            have HZ := Lib.hid (And.intro hx6 (H3.out.2.2.2.2.grown hg6 H3.out.2.2.2.2.size (fun q hq => by cases hq; exact Nat.le_refl _)))
            clear hx6 hg6
            refine Lib.hid ?_
            go_wp2
            exact bodyPost_ret (v := .tuple #[.agg #[.slice va n vc], .int .i64 0]) (results_box2 rfl _ _ w.heap.size _ _ _ _ rfl rfl HZ.out.1 Tryz.underlying26 rfl (by kernel_rfl)) rfl ⟨va, n, vc, P, 0, rfl, HPI, hvc, HF6.out.row, HZ.out.2⟩
          · have HPI := Lib.hid (show ParseIs s.data.toList [] (-2) from .inr (.inr (.inr ⟨HL20.out, P, HBU.out, fun hh => hP hh.1, rfl, rfl⟩)))
            have HIP := Lib.hid hP
            have HRW := Lib.hid H1.out.2.2.2.1.row
            clear hP hTe
            refine Lib.hid ?_
            go_wp2_with (go_at_call 26; (with_reducible refine (spec_programok va n vc P HSZ.out _ HRW.out false ⟨fun h => (Bool.noConfusion h), fun h => absurd h HIP.out⟩).mono ?_); rintro e w3 ⟨rfl, hb3⟩; refine Hid.out ?_)
            have H3 := Lib.hid (H1.out.below hb3)
            clear hb3 c3
            refine Lib.hid ?_
            go_wp2_with (first
              | (refine wpList_load_row rfl 26 _ rfl (w.heap.size + 1) rfl _ _ _ _ H3.out.2.1 Tryz.underlying26 rfl (by kernel_rfl) ?_)
              | ((refine wpList_store_box rfl 26 _ _ rfl w.heap.size _ _ H3.out.1 #[.slice none 0 0] rfl rfl rfl (by kernel_rfl) (by simp [Value.oneCell']) ?_); intro w6 hx6 hg6; refine Hid.out ?_))
            have HZ := Lib.hid (And.intro hx6 (H3.out.2.2.2.2.grown hg6 H3.out.2.2.2.2.size (fun q hq => by cases hq; exact Nat.le_refl _)))
            clear hx6 hg6
            refine Lib.hid ?_
            go_wp2
            exact bodyPost_ret (v := .tuple #[.agg #[.slice none 0 0], .int .i64 (-2)]) (results_box2 rfl _ _ w.heap.size _ _ _ _ rfl rfl HZ.out.1 Tryz.underlying26 rfl (by kernel_rfl)) rfl ⟨none, 0, 0, [], _, rfl, HPI, Nat.le_refl _, TkRow.nil _ _, HZ.out.2⟩
end Go.Proofs.YtpipnhceajdfkaaGreatDoor.prg
