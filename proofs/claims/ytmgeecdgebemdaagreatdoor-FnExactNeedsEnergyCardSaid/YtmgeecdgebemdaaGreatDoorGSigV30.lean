/- Several texts in one: VSetQ VSetT. -/
import Derived.Test.YtmgeecdgebemdaaGreatDoorGSigV29

/- The program's addFirstReads: what an expression reads and is not written yet. -/
namespace Go.Proofs.YtmgeecdgebemdaaGreatDoor.sets
open Go Go.ChangeShapes Go.WideShapes Go.ChangeAt Go.RowKit Go.Maps Go.Proofs.YtmgeecdgebemdaaGreatDoor.row Go.Proofs.YtmgeecdgebemdaaGreatDoor.val Go.Proofs.YtmgeecdgebemdaaGreatDoor.stm Go.Proofs.YtmgeecdgebemdaaGreatDoor.blk Go.Proofs.YtmgeecdgebemdaaGreatDoor.expr
theorem readsV_nat {o a b x : Int} (h : x ∈ readsV o a b) : ∃ v : Nat, x = v ∧ v < 8 := by
  unfold readsV at h
  split at h
  · exact rd_nat h
  · cases h
theorem readsV_len (o a b : Int) : (readsV o a b).length ≤ 8 := by
  unfold readsV
  split
  · exact rd_len a b 8
  · simp
/-- What adding leaves: the set at 'r' has what is read and not in 'W'. -/
def Added (r : Nat) (G W : Nat → Bool) (L : List Int) (w : World) (e : Ending) (w' : World) : Prop :=
  e = .returned (.tuple #[]) ∧ w.grownBy w' (some r) ∧ ∃ G', Hid (Mset r G' w' ∧ Is G' (fun v => G v = true ∨ ((v : Int) ∈ L ∧ W v = false)))
set_option maxHeartbeats 4000000 in
set_option maxRecDepth 100000 in
theorem impl_addfirst (r q : Nat) (G W : Nat → Bool) (hne : r ≠ q) (o x y : Int) (w : World) (hG : Mset r G w) (hW : Mset q W w) :
    Calls Tryz.prog 182 #[.map (some r), .map (some q), ev o x y] w (Added r G W (readsV o x y) w) := by
  have HG := Lib.hid hG
  have HWS := Lib.hid hW
  obtain ⟨L, hL⟩ : ∃ L, readsV o x y = L := ⟨_, rfl⟩
  have HRD := Lib.hid (show ∀ w', Calls Tryz.prog 220 #[ev o x y] w' (NewInts w' L) from fun w' => by rw [← hL]; exact impl_reads w' o x y)
  have HLN := Lib.hid (show ∀ z ∈ L, ∃ v : Nat, z = v ∧ v < 8 from fun z hz => readsV_nat (by rw [hL]; exact hz))
  have hl8 : L.length ≤ 8 := by rw [← hL]; exact readsV_len o x y
  rw [hL]
  have hlr := hG.lt
  have hlq := hW.lt
  clear hG hW hL
  have c0 : (w.alloc (.cells #[.int .i64 o, .int .i64 x, .int .i64 y] 94)).cell? ⟨w.heap.size, 0, none⟩ = some (.int .i64 o) := (Box.new w #[.int .i64 o, .int .i64 x, .int .i64 y] _).cell 0
  have c1 : (w.alloc (.cells #[.int .i64 o, .int .i64 x, .int .i64 y] 94)).cell? ⟨w.heap.size, 1, none⟩ = some (.int .i64 x) := (Box.new w #[.int .i64 o, .int .i64 x, .int .i64 y] _).cell 1
  have c2 : (w.alloc (.cells #[.int .i64 o, .int .i64 x, .int .i64 y] 94)).cell? ⟨w.heap.size, 2, none⟩ = some (.int .i64 y) := (Box.new w #[.int .i64 o, .int .i64 x, .int .i64 y] _).cell 2
  go_enter Tryz.func182, Tryz.ntmps182
  go_wp2_with (go_at_call 220; refine (HRD.out _).mono ?_; rintro e w1 ⟨ad, m, cap, rfl, hown, hb1⟩; refine Hid.out ?_)
  have hbw1 : Below w.heap.size w w1 := below_then (below_new w (.cells #[.int .i64 o, .int .i64 x, .int .i64 y] 94)) hb1
  have HG1 := Lib.hid (show w.grownBy w1 none from ⟨hbw1.os, hbw1.tape, hbw1.output, hbw1.size, fun k hk _ => hbw1.block k hk⟩)
  have HO1 := Lib.hid (show w1.ownsRow w.heap.size 3 1 (.slice ad m cap) m (ivs L) from hown.mono (by simp))
  have hml : L.length = m := by have := hown.1; simp [ivs] at this; exact this
  have hm8 : m ≤ 8 := by omega
  clear hown hb1 hbw1 c0 c1 c2
  refine Lib.hid ?_
  go_wp2
  go_loopw [11] (fun i wr => ∃ (k : Nat) (Gk : Nat → Bool), k ≤ m ∧ i = .int .i64 k ∧ Hid (Mset r Gk wr ∧ Is Gk (fun v => G v = true ∨ ((v : Int) ∈ L.take k ∧ W v = false))) ∧ Hid (w.grownBy wr (some r) ∧ wr.ownsRow w.heap.size 3 1 (.slice ad m cap) m (ivs L))) (fun i _ => m - (intOf i).toNat)
  case atStart => exact ⟨0, G, Nat.zero_le _, rfl, ⟨HG.out.kept HG1.out (by simp), fun v _ => ⟨fun h => .inl h, fun h => h.resolve_right (fun h => by simp at h)⟩⟩, ⟨⟨HG1.out.os, HG1.out.tape, HG1.out.output, HG1.out.size, fun k hk _ => HG1.out.block k hk (by simp)⟩, HO1.out⟩⟩
  case round =>
    obtain ⟨k, Gk, hk, rfl, HK, HI⟩ := hrel
    by_cases hlt : k < m
    · have hI : (k : Int) < m := by omega
      obtain ⟨g, off, z, rfl, hlg, hz, hcell⟩ := (Row.of_own HI.out.2).2 k hlt
      obtain ⟨v, rfl, hv8⟩ := HLN.out z (List.mem_of_getElem? hz)
      have HZ := Lib.hid hz
      have HW2 := Lib.hid (HWS.out.kept HI.out.1 (fun e => hne (Option.some.inj e).symm))
      clear hz
      cases hw : W v
      · have HW0 := Lib.hid hw
        have HN := Lib.hid (show Is (fun u => decide (u = v) || Gk u) (fun u => G u = true ∨ ((u : Int) ∈ L.take (k + 1) ∧ W u = false)) from HK.out.2.put (fun u => by
          rw [take_mem HZ.out]
          constructor
          · rintro (h | ⟨h | h, h2⟩)
            · exact .inl (.inl h)
            · exact .inl (.inr ⟨h, h2⟩)
            · exact .inr (by omega)
          · rintro ((h | ⟨h, h2⟩) | h)
            · exact .inl h
            · exact .inr ⟨.inl h, h2⟩
            · subst h; exact .inr ⟨.inr rfl, HW0.out⟩))
        clear hw
        go_wp2_with (first
          | (at_lookup; (refine wpList_look_set _ rfl _ _ rfl q W rfl HW2.out v hv8 rfl ?_); rw [HW0.out])
          | (at_mapUpdate; (refine wpList_put_set _ rfl _ _ _ rfl r Gk rfl HK.out.1 v hv8 rfl rfl ?_); intro w7 hm7 hg7; refine Hid.out ?_))
        have HN2 := Lib.hid (And.intro hm7 (And.intro (grown_trans HI.out.1 hg7) (HI.out.2.kept hg7 (by
          rcases HI.out.2.2 with ⟨h, _⟩ | ⟨q9, c9, cur, h, hq, _⟩
          · exact .inl (by rw [h]; rfl)
          · exact .inr (by rw [h]; intro e; have := Option.some.inj e; have : q9 = r := this; omega)))))
        clear hm7 hg7
        refine Lib.hid ?_
        go_wp2
        go_roundw
        case rel => exact ⟨k + 1, _, by omega, by go_num, ⟨HN2.out.1, HN.out⟩, HN2.out.2⟩
        case measure => simp [intOf]; omega
      · have HW0 := Lib.hid hw
        have HN := Lib.hid (And.intro HK.out.1 (show Is Gk (fun u => G u = true ∨ ((u : Int) ∈ L.take (k + 1) ∧ W u = false)) from HK.out.2.congr (fun u => by
          rw [take_mem HZ.out]
          constructor
          · rintro (h | ⟨h | h, h2⟩)
            · exact .inl h
            · exact .inr ⟨h, h2⟩
            · exfalso
              have : u = v := by omega
              subst this
              rw [HW0.out] at h2; cases h2
          · rintro (h | ⟨h, h2⟩)
            · exact .inl h
            · exact .inr ⟨.inl h, h2⟩)))
        clear hw
        go_wp2_with (at_lookup; (refine wpList_look_set _ rfl _ _ rfl q W rfl HW2.out v hv8 rfl ?_); rw [HW0.out])
        go_roundw
        case rel => exact ⟨k + 1, Gk, by omega, by go_num, HN, HI⟩
        case measure => simp [intOf]; omega
    · obtain rfl : k = m := by omega
      have hI : ¬ (k : Int) < k := by omega
      have HTK : Hid (L.take k = L) := by rw [← hml, List.take_length]; exact rfl
      go_wp2
      exact bodyPost_ret (results_none rfl _ _ _) rfl ⟨rfl, HI.out.1, Gk, Lib.hid ⟨HK.out.1, by rw [← HTK.out]; exact HK.out.2⟩⟩
end Go.Proofs.YtmgeecdgebemdaaGreatDoor.sets

/- The map of the open sets at a place of a block, and how it goes on by one statement. No walk. -/
namespace Go.Proofs.YtmgeecdgebemdaaGreatDoor.sets
open Go Go.ChangeShapes Go.WideShapes Go.ChangeAt Go.RowKit Go.Maps Go.Proofs.YtmgeecdgebemdaaGreatDoor.row Go.Proofs.YtmgeecdgebemdaaGreatDoor.val Go.Proofs.YtmgeecdgebemdaaGreatDoor.stm Go.Proofs.YtmgeecdgebemdaaGreatDoor.blk Go.Proofs.YtmgeecdgebemdaaGreatDoor.expr
theorem reads_none {s : Sm} (h : stOk s = true) (hr : ¬ rds s) : readsV s.o s.a s.b = [] := by
  have hz : s.o = 0 ∧ s.a = 0 ∧ s.b = 0 := by
    rcases st_kind h with e | e | e | e | e | e
    · exact absurd (.inl e) hr
    · simp [stOk, e, exprZ] at h; omega
    · exact absurd (.inr (.inl e)) hr
    · exact absurd (.inr (.inr e)) hr
    · simp [stOk, e, exprZ] at h; omega
    · simp [stOk, e, exprZ] at h; omega
  rw [hz.1, hz.2.1, hz.2.2]
  decide
/-- What has been read first, one statement on. -/
theorem is_reads {B : List Sm} {p : Nat} {s : Sm} {G G' W : Nat → Bool} (hs : B[p]? = some s) (hk : stOk s = true) (hG : Is G (FAt B p)) (hW : Is W (WAt B p)) (h : Is G' (fun v => G v = true ∨ ((v : Int) ∈ readsV s.o s.a s.b ∧ W v = false))) : Is G' (FAt B (p + 1)) := by
  by_cases hr : rds s
  · have e : readsV s.o s.a s.b = rd s.a s.b 8 := by unfold readsV; rw [if_pos (st_expr hk hr)]
    rw [e] at h
    exact Is.note hs hr hG hW h
  · rw [reads_none hk hr] at h
    have h2 : Is G' (FAt B p) := fun v hv => by
      rw [h v hv, ← hG v hv]
      simp
    exact Is.still (fun v => rdAt_no hs hr) h2
/-- The open sets at 'p': the map in the block 'b' leads from each place where one ends to its block 'm q', which holds 'F q'. -/
def TopD (base b r : Nat) (B : List Sm) (p : Nat) (m : Nat → Nat) (F : Nat → Nat → Bool) (D : DataW Unit) (w : World) : Prop :=
  (w.ownsMap Tryz.prog 3 mapEl b (p + 1) D ∧ (∀ x : Int, has D (.int .i64 x) = true ↔ ∃ q : Nat, x = q ∧ Opn B p q) ∧ ∀ q : Nat, Opn B p q → D.atKey (.int .i64 (q : Int)) (.lit (.bool false)) = .lit (.int .i64 (m q : Int))) ∧
  (∀ q, Opn B p q → base ≤ m q ∧ m q ≠ b ∧ m q ≠ r ∧ Mset (m q) (F q) w ∧ Is (F q) (SAt B p q)) ∧
  (∀ q q', Opn B p q → Opn B p q' → m q = m q' → q = q')
section
variable {base b r p : Nat} {B : List Sm} {m : Nat → Nat} {F : Nat → Nat → Bool} {D : DataW Unit} {w w' : World}
theorem TopD.below (h : TopD base b r B p m F D w) (hb : Below w.heap.size w w') : TopD base b r B p m F D w' :=
  ⟨⟨own_below h.1.1 hb, h.1.2⟩, fun q hq => ⟨(h.2.1 q hq).1, (h.2.1 q hq).2.1, (h.2.1 q hq).2.2.1, (h.2.1 q hq).2.2.2.1.below hb, (h.2.1 q hq).2.2.2.2⟩, h.2.2⟩
theorem TopD.kept (h : TopD base b r B p m F D w) (hg : w.grownBy w' (some r)) (hn : b ≠ r) : TopD base b r B p m F D w' :=
  ⟨⟨h.1.1.kept hg (fun e => hn (Option.some.inj e)), h.1.2⟩, fun q hq => ⟨(h.2.1 q hq).1, (h.2.1 q hq).2.1, (h.2.1 q hq).2.2.1, (h.2.1 q hq).2.2.2.1.kept hg (fun e => (h.2.1 q hq).2.2.1 (Option.some.inj e)), (h.2.1 q hq).2.2.2.2⟩, h.2.2⟩
theorem top_start {q0 : Nat} (hown : w.ownsMap Tryz.prog 3 mapEl b 1 ((DataW.map []).put (.int .i64 (B.length : Int)) (.lit (.int .i64 (q0 : Int))))) (hq : Mset q0 (fun _ => false) w) (h1 : base ≤ q0) (h2 : q0 ≠ b) (h3 : q0 ≠ r) :
    TopD base b r B 0 (fun _ => q0) (fun _ _ => false) ((DataW.map []).put (.int .i64 (B.length : Int)) (.lit (.int .i64 (q0 : Int)))) w := by
  refine ⟨⟨hown, fun x => ?_, fun q hq => ?_⟩, fun q _ => ⟨h1, h2, h3, hq, fun v _ => ⟨fun e => (by cases e), fun e => absurd e sAt_zero⟩⟩, fun q q' hq hq' _ => by rw [opn_zero.1 hq, opn_zero.1 hq']⟩
  · by_cases e : x = (B.length : Int)
    · subst e
      rw [has_put_same isMap_empty isKeyI]
      exact ⟨fun _ => ⟨_, rfl, opn_zero.2 rfl⟩, fun _ => rfl⟩
    · rw [has_put_other (by intro e2; cases e2; exact e rfl)]
      constructor
      · intro h; simp [has_eq] at h
      · rintro ⟨q, rfl, hq⟩; rw [opn_zero.1 hq] at e; exact absurd rfl e
  · rw [opn_zero.1 hq, atKey_put_same isMap_empty isKeyI]
theorem top_still (h : TopD base b r B p m F D w) {s : Sm} (hs : B[p]? = some s) (h4 : s.k ≠ 4) (hn : ∀ i t, B[i]? = some t → t.k = 4 → ¬ IsEnd B i p) (hw : ¬ wr s) : TopD base b r B (p + 1) m F D w := by
  have hp : p < B.length := (List.getElem?_eq_some_iff.1 hs).1
  have ho := fun q => opn_same (q := q) hs h4 hn
  refine ⟨⟨h.1.1.mono (by omega), fun x => (h.1.2.1 x).trans ⟨?_, ?_⟩, fun q hq => h.1.2.2 q ((ho q).1 hq)⟩, fun q hq => ?_, fun q q' hq hq' => h.2.2 q q' ((ho q).1 hq) ((ho q').1 hq')⟩
  · rintro ⟨q, e, hq⟩; exact ⟨q, e, (ho q).2 hq⟩
  · rintro ⟨q, e, hq⟩; exact ⟨q, e, (ho q).1 hq⟩
  · obtain ⟨a1, a2, a3, a4, a5⟩ := h.2.1 q ((ho q).1 hq)
    exact ⟨a1, a2, a3, a4, a5.congr (fun v => sAt_still (fun u => wrAt_no hs hw) (hq.ge (by omega)))⟩
theorem top_write (h : TopD base b r B p m F D w) {s : Sm} (hs : B[p]? = some s) (h4 : s.k ≠ 4) (hn : ∀ i t, B[i]? = some t → t.k = 4 → ¬ IsEnd B i p) (hw : wr s) {u : Nat} (hu : s.v = u) {q0 : Nat} (hq0 : Opn B p q0) (hmin : ∀ q, Opn B p q → q0 ≤ q)
    (hm : Mset (m q0) (fun v => decide (v = u) || F q0 v) w') (hg : w.grownBy w' (some (m q0))) : TopD base b r B (p + 1) m (fun q => if q = q0 then (fun v => decide (v = u) || F q0 v) else F q) D w' := by
  have hp : p < B.length := (List.getElem?_eq_some_iff.1 hs).1
  have ho := fun q => opn_same (q := q) hs h4 hn
  obtain ⟨b1, b2, b3, b4, b5⟩ := h.2.1 q0 hq0
  refine ⟨⟨(h.1.1.kept hg (fun e => b2 (Option.some.inj e).symm)).mono (by omega), fun x => (h.1.2.1 x).trans ⟨?_, ?_⟩, fun q hq => h.1.2.2 q ((ho q).1 hq)⟩, fun q hq => ?_, fun q q' hq hq' => h.2.2 q q' ((ho q).1 hq) ((ho q').1 hq')⟩
  · rintro ⟨q, e, hq⟩; exact ⟨q, e, (ho q).2 hq⟩
  · rintro ⟨q, e, hq⟩; exact ⟨q, e, (ho q).1 hq⟩
  · have hge := hq.ge (by omega)
    have hq' := (ho q).1 hq
    obtain ⟨a1, a2, a3, a4, a5⟩ := h.2.1 q hq'
    by_cases e : q = q0
    · subst e
      simp only [if_pos]
      exact ⟨a1, a2, a3, hm, a5.put (fun v => (sAt_put hmin hge).trans (or_congr Iff.rfl (wrAt_iff hs hw hu)))⟩
    · simp only [if_neg e]
      have hlt : q0 < q := by have := hmin q hq'; omega
      exact ⟨a1, a2, a3, a4.kept hg (fun e9 => e (h.2.2 q q0 hq' hq0 (Option.some.inj e9))), a5.congr (fun v => sAt_other hq0 hlt hq.le hge)⟩
theorem top_if (h : TopD base b r B p m F D w) {s : Sm} (hs : B[p]? = some s) (h4 : s.k = 4) {e : Nat} (he : IsEnd B p e) {q0 : Nat} (hq0 : Opn B p q0) (hmin : ∀ q, Opn B p q → q0 ≤ q) {c : Nat} (hc : Mset c (F q0) w) (hc1 : base ≤ c) (hc2 : c ≠ b) (hc3 : c ≠ r) (hc4 : ∀ q, Opn B p q → c ≠ m q)
    (hown : w'.ownsMap Tryz.prog 3 mapEl b (p + 1 + 1) (D.put (.int .i64 (e : Int)) (.lit (.int .i64 (c : Int))))) (hg : w.grownBy w' (some b)) :
    TopD base b r B (p + 1) (fun q => if q = e then c else m q) (fun q => if q = e then F q0 else F q) (D.put (.int .i64 (e : Int)) (.lit (.int .i64 (c : Int)))) w' := by
  have hp : p < B.length := (List.getElem?_eq_some_iff.1 hs).1
  have ho := fun q => opn_if (q := q) hs h4 he
  have hlt := fun q hq => opn_if_lt (q := q) he hq
  have hD := h.1.1.isMap
  have hnw : ∀ u, ¬ WrAt B p u := fun u => wrAt_no hs (by intro hw; rcases hw with h | h <;> omega)
  refine ⟨⟨hown, fun x => ?_, fun q hq => ?_⟩, fun q hq => ?_, fun q q' hq hq' heq => ?_⟩
  · by_cases e9 : x = (e : Int)
    · subst e9
      rw [has_put_same hD isKeyI]
      exact ⟨fun _ => ⟨_, rfl, (ho e).2 (.inr rfl)⟩, fun _ => rfl⟩
    · rw [has_put_other (by intro e2; cases e2; exact e9 rfl), h.1.2.1]
      constructor
      · rintro ⟨q, e1, hq⟩; exact ⟨q, e1, (ho q).2 (.inl hq)⟩
      · rintro ⟨q, e1, hq⟩
        rcases (ho q).1 hq with hq | rfl
        · exact ⟨q, e1, hq⟩
        · exact absurd e1 e9
  · by_cases e9 : q = e
    · subst e9; rw [atKey_put_same hD isKeyI]; simp only [if_pos]
    · rw [atKey_put_other (by intro e2; cases e2; exact e9 rfl)]
      simp only [if_neg e9]
      exact h.1.2.2 q (((ho q).1 hq).resolve_right e9)
  · by_cases e9 : q = e
    · subst e9
      simp only [if_pos]
      exact ⟨hc1, hc2, hc3, hc.kept hg (fun e1 => hc2 (Option.some.inj e1)), (h.2.1 q0 hq0).2.2.2.2.congr (fun v => (sAt_if hs h4 he).trans (sAt_min hmin).symm)⟩
    · simp only [if_neg e9]
      have hq' := ((ho q).1 hq).resolve_right e9
      obtain ⟨a1, a2, a3, a4, a5⟩ := h.2.1 q hq'
      exact ⟨a1, a2, a3, a4.kept hg (fun e1 => a2 (Option.some.inj e1)), a5.congr (fun v => sAt_still hnw (hq.ge (by omega)))⟩
  · by_cases e9 : q = e
    · by_cases e8 : q' = e
      · omega
      · simp only [if_pos e9, if_neg e8] at heq
        exact absurd heq (hc4 q' (((ho q').1 hq').resolve_right e8))
    · by_cases e8 : q' = e
      · simp only [if_pos e8, if_neg e9] at heq
        exact absurd heq.symm (hc4 q (((ho q).1 hq).resolve_right e9))
      · simp only [if_neg e8, if_neg e9] at heq
        exact h.2.2 q q' (((ho q).1 hq).resolve_right e9) (((ho q').1 hq').resolve_right e8) heq
theorem top_end (h : TopD base b r B p m F D w) {s : Sm} (hs : B[p]? = some s) (h6 : s.k = 6) (hown : w'.ownsMap Tryz.prog 3 mapEl b (p + 1) (D.del (.int .i64 (p : Int)))) (hg : w.grownBy w' (some b)) : TopD base b r B (p + 1) m F (D.del (.int .i64 (p : Int))) w' := by
  have hp : p < B.length := (List.getElem?_eq_some_iff.1 hs).1
  have hnw : ∀ u, ¬ WrAt B p u := fun u => wrAt_no hs (by intro hw; rcases hw with h | h <;> omega)
  have ho : ∀ q, Opn B (p + 1) q ↔ Opn B p q ∧ q ≠ p := by
    intro q
    rcases Classical.em (∃ i t, B[i]? = some t ∧ t.k = 4 ∧ IsEnd B i p) with ⟨i, t, h1, h2, h3⟩ | hno
    · exact opn_end h3
    · rw [opn_same hs (by omega) (fun i t h1 h2 h3 => hno ⟨i, t, h1, h2, h3⟩)]
      refine ⟨fun hq => ⟨hq, fun e => ?_⟩, fun hq => hq.1⟩
      subst e
      rcases hq with hq | ⟨i, ⟨e', t, h1, h2, h3, h5, h6⟩, h7⟩
      · omega
      · exact hno ⟨i, t, h1, h2, h7⟩
  refine ⟨⟨hown.mono (by omega), fun x => ?_, fun q hq => ?_⟩, fun q hq => ?_, fun q q' hq hq' => h.2.2 q q' ((ho q).1 hq).1 ((ho q').1 hq').1⟩
  · by_cases e : x = (p : Int)
    · subst e
      rw [has_del_same]
      constructor
      · intro h9; cases h9
      · rintro ⟨q, e1, hq⟩
        exact absurd (by omega) ((ho q).1 hq).2
    · rw [has_del_other (by intro e2; cases e2; exact e rfl), h.1.2.1]
      constructor
      · rintro ⟨q, e1, hq⟩; exact ⟨q, e1, (ho q).2 ⟨hq, by omega⟩⟩
      · rintro ⟨q, e1, hq⟩; exact ⟨q, e1, ((ho q).1 hq).1⟩
  · have hq' := (ho q).1 hq
    rw [atKey_del_other (by intro e2; cases e2; exact hq'.2 rfl)]
    exact h.1.2.2 q hq'.1
  · obtain ⟨a1, a2, a3, a4, a5⟩ := h.2.1 q ((ho q).1 hq).1
    exact ⟨a1, a2, a3, a4.kept hg (fun e1 => a2 (Option.some.inj e1)), a5.congr (fun v => sAt_still hnw (hq.ge (by omega)))⟩
/-- What the innermost set is. -/
theorem top_min (h : TopD base b r B p m F D w) : ∃ q0, Opn B p q0 ∧ (∀ q, Opn B p q → q0 ≤ q) ∧ has D (.int .i64 (q0 : Int)) = true ∧ (∀ x : Int, has D (.int .i64 x) = true → (q0 : Int) ≤ x) ∧ Is (F q0) (WAt B p) := by
  obtain ⟨q0, h1, h2⟩ := opn_min B p
  refine ⟨q0, h1, h2, (h.1.2.1 _).2 ⟨q0, rfl, h1⟩, fun x hx => ?_, (h.2.1 q0 h1).2.2.2.2.congr (fun v => (sAt_min h2).symm)⟩
  obtain ⟨q, rfl, hq⟩ := (h.1.2.1 x).1 hx
  have := h2 q hq; omega
end
end Go.Proofs.YtmgeecdgebemdaaGreatDoor.sets
