/- Several texts in one: MarkR PrgN. -/
import Derived.Test.YtpipnhceajdfkaaGreatDoorGEppg48
import Derived.Test.YtpipnhceajdfkaaGreatDoorGEppg38

/- The law's look at the marks in a list of tasks and in a program; the marks in a program. -/
namespace Go.Proofs.YtpipnhceajdfkaaGreatDoor.mrk
open Go Go.ChangeShapes Go.WideShapes Go.ChangeAt Go.RowKit Go.Proofs.YtpipnhceajdfkaaGreatDoor.row Go.Proofs.YtpipnhceajdfkaaGreatDoor.stm Go.Proofs.YtpipnhceajdfkaaGreatDoor.prg

set_option maxHeartbeats 4000000 in
set_option maxRecDepth 100000 in
theorem heldtasks_any (lo : Nat) (w : World) (g n cap : Nat) (cs : Array Value) (t ts : TypeId) (gb nb : Nat → Nat) (hT : Tks lo w g n cs t ts gb nb) (k : Int) (hM : Mks w cs ts gb nb k n) (hk0 : 0 ≤ k) (hk1 : k ≤ 1000) (hn : n ≤ 1000) :
    Calls Tryz.prog 29 #[.slice (some ⟨g, 0, none⟩) n cap, .int .i64 k] w fun e w' => e = .returned (.int .i64 (st nb k n)) ∧ w' = w := by
  have HT := Lib.hid (And.intro hT hM)
  clear hT hM
  go_enter Tryz.func29, Tryz.ntmps29
  go_wp2
  go_loopw [1, 5] (fun kk i wr => ∃ m : Nat, m ≤ n ∧ i = .int .i64 m ∧ kk = .int .i64 (st nb k m) ∧ wr = w) (fun _ i _ => n - (intOf i).toNat)
  case atStart => exact ⟨0, Nat.zero_le _, rfl, rfl, rfl⟩
  case round =>
    obtain ⟨m, hm, rfl, rfl, rfl⟩ := hrel
    by_cases hlt : m < n
    · have hI : (m : Int) < n := by omega
      have hT := HT.out.1
      obtain ⟨ab, cb, hrow, hab⟩ := hT.row m hlt
      obtain ⟨hnow, h1, h2, h3⟩ := HT.out.2 m hlt
      have hbd := st_bound (nb := nb) (k := k) m (fun i hi => hT.small i (by omega))
      have hsm := hT.small m hlt
      have hK0 : 0 ≤ st nb k m := by omega
      have hK1 : st nb k m ≤ 10000000 := by omega
      have HST := Lib.hid (show st nb k (m + 1) = st nb k m + 6 * (nb m : Int) + 3 from rfl)
      have c0 : wr.cell? ⟨g, m * 4, none⟩ = some (.slice ab (nb m) cb) := by rw [hT.box.cell]; exact hrow
      have c1 : wr.cell? ⟨g, m * 4 + 1, none⟩ = some (.int .i64 (st nb k m + 6 * (nb m : Int))) := by rw [hT.box.cell]; exact h1
      have c2 : wr.cell? ⟨g, m * 4 + 1 + 1, none⟩ = some (.int .i64 (st nb k m + 6 * (nb m : Int) + 1)) := by rw [hT.box.cell]; exact h2
      have c3 : wr.cell? ⟨g, m * 4 + 1 + 2, none⟩ = some (.int .i64 (st nb k m + 6 * (nb m : Int) + 1 + 1)) := by rw [hT.box.cell]; exact h3
      clear hbd hrow hT h1 h2 h3
      by_cases hz : nb m = 0
      · have HZ := Lib.hid hz
        rw [hz] at c0
        have e0 : st nb k m + 6 * ((nb m : Nat) : Int) = st nb k m := by rw [hz]; simp
        rw [e0] at c1 c2 c3
        clear hz e0 hab hnow
        have hnn : ¬ st nb k m < 0 := by omega
        go_wp2_with (go_at_call 54; (with_reducible refine (heldstmts_nil _ ab cb _).mono ?_); rintro e w2 ⟨rfl, rfl⟩)
        go_roundw
        case rel => exact ⟨m + 1, by omega, by go_num, by rw [HST.out, HZ.out]; congr 1; simp; omega, trivial⟩
        case measure => simp [intOf]; omega
      · obtain ⟨csb, hbb, hnum⟩ : ∃ csb, Box (gb m) csb ts wr ∧ Nums csb (st nb k m) (nb m * 6) := by
          rcases hnow with h | h
          · exact absurd h hz
          · exact h
        obtain rfl : ab = some ⟨gb m, 0, none⟩ := by
          rcases hab with h | h
          · exact absurd h hz
          · exact h
        have HBB := Lib.hid (And.intro hbb hnum)
        have hsmI : (nb m : Int) ≤ 1000 := by omega
        have hnn : ¬ st nb k m + 6 * (nb m : Int) < 0 := by omega
        clear hz hab hnow hbb hnum
        go_wp2_with (go_at_call 54; (with_reducible refine (heldstmts_any _ (gb m) (nb m) cb csb ts HBB.out.1 _ HBB.out.2 hK0 (by omega) (by omega)).mono ?_); rintro e w2 ⟨rfl, rfl⟩)
        go_roundw
        case rel => exact ⟨m + 1, by omega, by go_num, by rw [HST.out]; congr 1; omega, trivial⟩
        case measure => simp [intOf]; omega
    · obtain rfl : m = n := by omega
      have hI : ¬ (m : Int) < m := by omega
      go_wp2
      go_ret
      exact ⟨rfl, rfl⟩
/-- A program of the answer's own: no task, or a row of tasks of its own. -/
def OwnP (lo : Nat) (w : World) (a : Option Addr) (n : Nat) (gb nb : Nat → Nat) : Prop :=
  n = 0 ∨ ∃ g cs, a = some ⟨g, 0, none⟩ ∧ Tks lo w g n cs 42 45 gb nb
/-- The same, marked. -/
def MarkedP (lo : Nat) (w : World) (a : Option Addr) (n : Nat) (gb nb : Nat → Nat) (k : Int) : Prop :=
  n = 0 ∨ ∃ g cs, a = some ⟨g, 0, none⟩ ∧ Tks lo w g n cs 42 45 gb nb ∧ Mks w cs 45 gb nb k n
theorem marktasks_nil (w : World) (a : Option Addr) (cap : Nat) (k : Int) : Calls Tryz.prog 28 #[.slice a 0 cap, .int .i64 k] w fun e w' => e = .returned (.int .i64 k) ∧ w' = w := by
  have hI : ¬ (0 : Int) < 0 := by omega
  go_enter Tryz.func28, Tryz.ntmps28
  go_wp2
  go_loopw [1, 5] (fun kk i wr => i = .int .i64 0 ∧ kk = .int .i64 k ∧ wr = w) (fun _ _ _ => 0)
  case atStart => exact ⟨rfl, rfl, rfl⟩
  case round =>
    obtain ⟨rfl, rfl, rfl⟩ := hrel
    go_wp2
    go_ret
    exact ⟨rfl, rfl⟩
theorem heldtasks_nil (w : World) (a : Option Addr) (cap : Nat) (k : Int) : Calls Tryz.prog 29 #[.slice a 0 cap, .int .i64 k] w fun e w' => e = .returned (.int .i64 k) ∧ w' = w := by
  have hI : ¬ (0 : Int) < 0 := by omega
  go_enter Tryz.func29, Tryz.ntmps29
  go_wp2
  go_loopw [1, 5] (fun kk i wr => i = .int .i64 0 ∧ kk = .int .i64 k ∧ wr = w) (fun _ _ _ => 0)
  case atStart => exact ⟨rfl, rfl, rfl⟩
  case round =>
    obtain ⟨rfl, rfl, rfl⟩ := hrel
    go_wp2
    go_ret
    exact ⟨rfl, rfl⟩
theorem Tks.below {lo g n : Nat} {w w' : World} {cs : Array Value} {t ts : TypeId} {gb nb : Nat → Nat} (h : Tks lo w g n cs t ts gb nb) (hb : Below w.heap.size w w') : Tks lo w' g n cs t ts gb nb where
  box := h.box.below hb
  big := h.big
  low := h.low
  row := h.row
  small := h.small
  body := fun j hj => by
    rcases h.body j hj with h1 | ⟨h1, h2, csj, h3, h4⟩
    · exact .inl h1
    · exact .inr ⟨h1, h2, csj, h3.below hb, h4⟩
  apart := h.apart
theorem Mks.below {w w' : World} {cs : Array Value} {ts : TypeId} {gb nb : Nat → Nat} {k : Int} {m : Nat} (h : Mks w cs ts gb nb k m) (hb : Below w.heap.size w w') : Mks w' cs ts gb nb k m := fun i hi => by
  obtain ⟨h1, h2⟩ := h i hi
  refine ⟨?_, h2⟩
  rcases h1 with h1 | ⟨csb, h3, h4⟩
  · exact .inl h1
  · exact .inr ⟨csb, h3.below hb, h4⟩
theorem OwnP.below {lo n : Nat} {w w' : World} {a : Option Addr} {gb nb : Nat → Nat} (h : OwnP lo w a n gb nb) (hb : Below w.heap.size w w') : OwnP lo w' a n gb nb := by
  rcases h with h | ⟨g, cs, h1, h2⟩
  · exact .inl h
  · exact .inr ⟨g, cs, h1, h2.below hb⟩
theorem MarkedP.below {lo n : Nat} {w w' : World} {a : Option Addr} {gb nb : Nat → Nat} {k : Int} (h : MarkedP lo w a n gb nb k) (hb : Below w.heap.size w w') : MarkedP lo w' a n gb nb k := by
  rcases h with h | ⟨g, cs, h1, h2, h3⟩
  · exact .inl h
  · exact .inr ⟨g, cs, h1, h2.below hb, h3.below hb⟩
set_option maxHeartbeats 2000000 in
set_option maxRecDepth 100000 in
theorem markprogram_any (lo hi : Nat) (w : World) (a : Option Addr) (n cap : Nat) (gb nb : Nat → Nat) (h : OwnP lo w a n gb nb) (hlo : lo ≤ w.heap.size) (hgh : ∀ g, a = some ⟨g, 0, none⟩ → g < hi) (hgb : ∀ j, j < n → nb j = 0 ∨ gb j < hi) (k : Int) (hk0 : 0 ≤ k) (hk1 : k ≤ 1000) (hn : n ≤ 1000) :
    Calls Tryz.prog 12 #[.agg #[.slice a n cap], .int .i64 k] w fun e w' => e = .returned (.int .i64 (st nb k n)) ∧ (Below lo w w' ∧ Far hi w w') ∧ Hid (MarkedP lo w' a n gb nb k) := by
  have HH := Lib.hid (h.below (below_new w (.cells #[.slice a n cap] 26)))
  have HB := Lib.hid ((below_new w (.cells #[.slice a n cap] 26)).mono hlo)
  clear h
  rcases HH.out with h | ⟨g, cs, rfl, hT⟩
  · subst h
    go_enter Tryz.func12, Tryz.ntmps12
    go_wp2_with (go_at_call 28; (with_reducible refine (marktasks_nil _ a cap k).mono ?_); rintro e w2 ⟨rfl, rfl⟩)
    go_ret
    exact ⟨rfl, ⟨HB.out, fun b _ hb => (below_new w (.cells #[.slice a 0 cap] 26)).block b hb⟩, .inl rfl⟩
  · have HT := Lib.hid hT
    have HGG := Lib.hid (hgh g rfl)
    have HGB := Lib.hid hgb
    have HLO := Lib.hid (show lo ≤ (w.alloc (.cells #[.slice (some ⟨g, 0, none⟩) n cap] 26)).heap.size by simp; omega)
    clear hT hgh hgb
    go_enter Tryz.func12, Tryz.ntmps12
    go_wp2_with (go_at_call 28; (with_reducible refine (marktasks_any lo hi _ g n cap cs _ _ gb nb HT.out HLO.out HGG.out HGB.out k hk0 hk1 hn).mono ?_); rintro e w2 ⟨rfl, hb2, cs2, hT2, hM2⟩; refine Hid.out ?_)
    have H2 := Lib.hid (And.intro (And.intro (HB.out.trans hb2.1) (show Far hi w w2 from fun b hb hbw => (hb2.2 b hb (by simp; omega)).trans ((below_new w (.cells #[.slice (some ⟨g, 0, none⟩) n cap] 26)).block b hbw))) (And.intro hT2 hM2))
    clear hb2 hT2 hM2
    refine Lib.hid ?_
    go_wp2
    go_ret
    exact ⟨rfl, H2.out.1, .inr ⟨g, cs2, rfl, H2.out.2.1, H2.out.2.2⟩⟩
set_option maxHeartbeats 2000000 in
set_option maxRecDepth 100000 in
theorem heldprogram_any (lo : Nat) (w : World) (a : Option Addr) (n cap : Nat) (gb nb : Nat → Nat) (k : Int) (h : MarkedP lo w a n gb nb k) (hk0 : 0 ≤ k) (hk1 : k ≤ 1000) (hn : n ≤ 1000) (hnb : ∀ i, i < n → nb i ≤ 1000) :
    Calls Tryz.prog 13 #[.agg #[.slice a n cap], .int .i64 k] w fun e w' => e = .returned (.int .i64 (st nb k n)) ∧ Below w.heap.size w w' := by
  have HH := Lib.hid (h.below (below_new w (.cells #[.slice a n cap] 26)))
  have HB := Lib.hid (below_new w (.cells #[.slice a n cap] 26))
  have hbd := st_bound (nb := nb) (k := k) n hnb
  have hnn : ¬ st nb k n < 0 := by omega
  clear h hbd
  rcases HH.out with h | ⟨g, cs, rfl, hT, hM⟩
  · subst h
    have HZ := Lib.hid (show st nb k 0 = k from rfl)
    have hk : ¬ k < 0 := by omega
    go_enter Tryz.func13, Tryz.ntmps13
    go_wp2_with (go_at_call 29; (with_reducible refine (heldtasks_nil _ a cap k).mono ?_); rintro e w2 ⟨rfl, rfl⟩)
    go_ret
    exact ⟨rfl, HB.out⟩
  · have HT := Lib.hid (And.intro hT hM)
    clear hT hM
    go_enter Tryz.func13, Tryz.ntmps13
    go_wp2_with (go_at_call 29; (with_reducible refine (heldtasks_any lo _ g n cap cs _ _ gb nb HT.out.1 k HT.out.2 hk0 hk1 hn).mono ?_); rintro e w2 ⟨rfl, rfl⟩)
    go_ret
    exact ⟨rfl, HB.out⟩
end Go.Proofs.YtpipnhceajdfkaaGreatDoor.mrk

/- The program that the parser returns lies in memory of its own, as the law's marks want it. -/
namespace Go.Proofs.YtpipnhceajdfkaaGreatDoor.prg
open Go Go.ChangeShapes Go.WideShapes Go.ChangeAt Go.RowKit Go.Proofs.YtpipnhceajdfkaaGreatDoor.row Go.Proofs.YtpipnhceajdfkaaGreatDoor.val Go.Proofs.YtpipnhceajdfkaaGreatDoor.expr Go.Proofs.YtpipnhceajdfkaaGreatDoor.stm Go.Proofs.YtpipnhceajdfkaaGreatDoor.blk Go.Proofs.YtpipnhceajdfkaaGreatDoor.tex Go.Proofs.YtpipnhceajdfkaaGreatDoor.mrk

/-- The blocks of the tasks' statements, and how many there are. -/
def gbOf (bv : Nat → Value) (j : Nat) : Nat := (bv j).ownBlock.getD 0
def nbOf (P : List Tk) (j : Nat) : Nat := ((P[j]?).map (fun t => t.b.length)).getD 0
theorem nbOf_at {P : List Tk} {j : Nat} {t : Tk} (h : P[j]? = some t) : nbOf P j = t.b.length := by unfold nbOf; rw [h]; rfl
/-- A row of statements of the call's own: none, or a block known whole. -/
theorem own_split {w : World} {base n : Nat} {e : TypeId} {v : Value} {xs : List Value} (h : w.ownsRow base e 6 v n xs) :
    (n = 0 ∧ v = .slice none 0 0) ∨ ∃ g c cur, v = .slice (some ⟨g, 0, none⟩) n c ∧ base ≤ g ∧ Box g cur e w ∧ n * 6 ≤ cur.size := by
  rcases h.2 with ⟨h1, h2⟩ | ⟨g, c, cur, h1, h2, h3, h4, _, h5, _⟩
  · exact .inl ⟨h2, h1⟩
  · exact .inr ⟨g, c, cur, h1, h2, h3, by rw [h5]; exact Nat.mul_le_mul_right 6 h4⟩
theorem own_of {base n c : Nat} {w : World} {a : Option Addr} {xs : List Value} {bv : Nat → Value} {P : List Tk} (h : Fam base w (.slice a n c) n xs bv P 42 45) (hs : ∀ t ∈ P, t.b.length ≤ 1000) :
    OwnP base w a n (gbOf bv) (nbOf P) ∧ (∀ g, a = some ⟨g, 0, none⟩ → g < w.heap.size) ∧ (∀ j, j < n → nbOf P j = 0 ∨ gbOf bv j < w.heap.size) ∧ ∀ j, j < n → nbOf P j ≤ 1000 := by
  have hat := @Fam.at _ _ _ _ _ _ _ _ _ h
  obtain ⟨h1, h2, h3, h4, h5⟩ := h
  have hsm : ∀ j, j < n → nbOf P j ≤ 1000 := fun j hj => by
    obtain ⟨t, ht⟩ := hat hj
    rw [nbOf_at ht]
    exact hs t (List.mem_of_getElem? ht)
  refine ⟨?_, fun g hg => ?_, fun j hj => ?_, hsm⟩
  · rcases h2.2 with ⟨_, h0⟩ | ⟨g, cap, cur, hv, hbg, hblk, hnc, _, hsz, htake⟩
    · exact .inl h0
    · injection hv with e1 e2 e3
      subst e1
      subst e3
      have hxs : ∀ j, j < n → ∀ u, xs[j * 4]? = some u → cur[j * 4]? = some u := fun j hj u hu => by
        rw [← htake, List.getElem?_take, if_pos (by omega)] at hu
        simpa using hu
      have hrow : ∀ j, j < n → ∃ t, P[j]? = some t ∧ w.ownsRow base 45 6 (bv j) t.b.length (stsC t.b) ∧ cur[j * 4]? = some (bv j) := fun j hj => by
        obtain ⟨t, ht⟩ := hat hj
        exact ⟨t, ht, (h3 j t ht).1, hxs j hj _ ((h3 j t ht).2 0 (bv j) rfl)⟩
      refine .inr ⟨g, cur, rfl, hblk, by rw [hsz]; omega, hbg, fun j hj => ?_, hsm, fun j hj => ?_, fun i j hi hj hne => ?_⟩
      · obtain ⟨t, ht, ho, hc⟩ := hrow j hj
        rw [nbOf_at ht]
        rcases own_split ho with ⟨hl, hv⟩ | ⟨g', c', cur', hv, _, _, _⟩
        · exact ⟨none, 0, by rw [hc, hv, hl], .inl hl⟩
        · exact ⟨_, c', by rw [hc, hv], .inr (by unfold gbOf; rw [hv]; rfl)⟩
      · obtain ⟨t, ht, ho, hc⟩ := hrow j hj
        rw [nbOf_at ht]
        rcases own_split ho with ⟨hl, hv⟩ | ⟨g', c', cur', hv, hb', hx', hs'⟩
        · exact .inl hl
        · have e : gbOf bv j = g' := by unfold gbOf; rw [hv]; rfl
          rw [e]
          exact .inr ⟨hb', fun e2 => h4 j hj g' (by rw [hv]; rfl) (by rw [e2]; rfl), cur', hx', hs'⟩
      · obtain ⟨t, ht, ho, _⟩ := hrow i hi
        obtain ⟨u, hu, hq, _⟩ := hrow j hj
        rw [nbOf_at ht, nbOf_at hu]
        rcases own_split ho with ⟨hl, _⟩ | ⟨g1, c1, cur1, hv1, _, _, _⟩
        · exact .inl hl
        · rcases own_split hq with ⟨hl, _⟩ | ⟨g2, c2, cur2, hv2, _, _, _⟩
          · exact .inr (.inl hl)
          · refine .inr (.inr fun e => ?_)
            have e1 : gbOf bv i = g1 := by unfold gbOf; rw [hv1]; rfl
            have e2 : gbOf bv j = g2 := by unfold gbOf; rw [hv2]; rfl
            rw [e1, e2] at e
            exact h5 i j hi hj hne g1 (by rw [hv1]; rfl) (by rw [hv2, e]; rfl)
  · subst hg
    exact (h2.lt g rfl).2
  · obtain ⟨t, ht⟩ := hat hj
    rw [nbOf_at ht]
    rcases own_split (h3 j t ht).1 with ⟨hl, _⟩ | ⟨g', c', cur', hv, _, hx', _⟩
    · exact .inl hl
    · have e : gbOf bv j = g' := by unfold gbOf; rw [hv]; rfl
      rw [e]
      exact .inr hx'.lt
end Go.Proofs.YtpipnhceajdfkaaGreatDoor.prg
