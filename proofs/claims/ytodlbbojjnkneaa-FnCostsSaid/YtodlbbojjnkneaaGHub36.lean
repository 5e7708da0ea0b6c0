/- Several texts in one: SetQ. -/
import Derived.Test.YtodlbbojjnkneaaGHub34
import Derived.Test.YtodlbbojjnkneaaGHub35

/- The program's addFirstReads: what an expression reads and is not written yet. -/
namespace Go.Proofs.Ytodlbbojjnkneaa.sets
open Go Go.ChangeShapes Go.WideShapes Go.ChangeAt Go.RowKit Go.Maps Go.Proofs.Ytodlbbojjnkneaa.row Go.Proofs.Ytodlbbojjnkneaa.val Go.Proofs.Ytodlbbojjnkneaa.stm Go.Proofs.Ytodlbbojjnkneaa.blk Go.Proofs.Ytodlbbojjnkneaa.expr

theorem readsV_nat {o a b x : Int} (h : x ∈ readsV o a b) : ∃ v : Nat, x = v ∧ v < 8 := by
  unfold readsV at h
  split at h
  · exact rd_nat h
  · cases h
theorem readsV_len (o a b : Int) : (readsV o a b).length ≤ 8 := by
  unfold readsV
  split
  · exact rd_len a b 8
  · simp
/-- What adding leaves: the set at 'r' has what is read and not in 'W'. -/
def Added (r : Nat) (G W : Nat → Bool) (L : List Int) (w : World) (e : Ending) (w' : World) : Prop :=
  e = .returned (.tuple #[]) ∧ w.grownBy w' (some r) ∧ ∃ G', Hid (Mset r G' w' ∧ Is G' (fun v => G v = true ∨ ((v : Int) ∈ L ∧ W v = false)))
set_option maxHeartbeats 4000000 in
set_option maxRecDepth 100000 in
theorem impl_addfirst (r q : Nat) (G W : Nat → Bool) (hne : r ≠ q) (o x y : Int) (w : World) (hG : Mset r G w) (hW : Mset q W w) :
    Calls Try.prog 62 #[.map (some r), .map (some q), ev o x y] w (Added r G W (readsV o x y) w) := by
  have HG := Lib.hid hG
  have HWS := Lib.hid hW
  obtain ⟨L, hL⟩ : ∃ L, readsV o x y = L := ⟨_, rfl⟩
  have HRD := Lib.hid (show ∀ w', Calls Try.prog 75 #[ev o x y] w' (NewInts w' L) from fun w' => by rw [← hL]; exact impl_reads w' o x y)
  have HLN := Lib.hid (show ∀ z ∈ L, ∃ v : Nat, z = v ∧ v < 8 from fun z hz => readsV_nat (by rw [hL]; exact hz))
  have hl8 : L.length ≤ 8 := by rw [← hL]; exact readsV_len o x y
  rw [hL]
  have hlr := hG.lt
  have hlq := hW.lt
  clear hG hW hL
  have c0 : (w.alloc (.cells #[.int .i64 o, .int .i64 x, .int .i64 y] 26)).cell? ⟨w.heap.size, 0, none⟩ = some (.int .i64 o) := (Box.new w #[.int .i64 o, .int .i64 x, .int .i64 y] _).cell 0
  have c1 : (w.alloc (.cells #[.int .i64 o, .int .i64 x, .int .i64 y] 26)).cell? ⟨w.heap.size, 1, none⟩ = some (.int .i64 x) := (Box.new w #[.int .i64 o, .int .i64 x, .int .i64 y] _).cell 1
  have c2 : (w.alloc (.cells #[.int .i64 o, .int .i64 x, .int .i64 y] 26)).cell? ⟨w.heap.size, 2, none⟩ = some (.int .i64 y) := (Box.new w #[.int .i64 o, .int .i64 x, .int .i64 y] _).cell 2
  go_enter Try.func62, Try.ntmps62
  go_wp2_with (go_at_call 75; refine (HRD.out _).mono ?_; rintro e w1 ⟨ad, m, cap, rfl, hown, hb1⟩; refine Hid.out ?_)
  have hbw1 : Below w.heap.size w w1 := below_then (below_new w (.cells #[.int .i64 o, .int .i64 x, .int .i64 y] 26)) hb1
  have HG1 := Lib.hid (show w.grownBy w1 none from ⟨hbw1.os, hbw1.tape, hbw1.output, hbw1.size, fun k hk _ => hbw1.block k hk⟩)
  have HO1 := Lib.hid (show w1.ownsRow w.heap.size 3 1 (.slice ad m cap) m (ivs L) from hown.mono (by simp))
  have hml : L.length = m := by have := hown.1; simp [ivs] at this; exact this
  have hm8 : m ≤ 8 := by omega
  clear hown hb1 hbw1 c0 c1 c2
  refine Lib.hid ?_
  go_wp2
  go_loopw [11] (fun i wr => ∃ (k : Nat) (Gk : Nat → Bool), k ≤ m ∧ i = .int .i64 k ∧ Hid (Mset r Gk wr ∧ Is Gk (fun v => G v = true ∨ ((v : Int) ∈ L.take k ∧ W v = false))) ∧ Hid (w.grownBy wr (some r) ∧ wr.ownsRow w.heap.size 3 1 (.slice ad m cap) m (ivs L))) (fun i _ => m - (intOf i).toNat)
  case atStart => exact ⟨0, G, Nat.zero_le _, rfl, ⟨HG.out.kept HG1.out (by simp), fun v _ => ⟨fun h => .inl h, fun h => h.resolve_right (fun h => by simp at h)⟩⟩, ⟨⟨HG1.out.os, HG1.out.tape, HG1.out.output, HG1.out.size, fun k hk _ => HG1.out.block k hk (by simp)⟩, HO1.out⟩⟩
  case round =>
    obtain ⟨k, Gk, hk, rfl, HK, HI⟩ := hrel
    by_cases hlt : k < m
    · have hI : (k : Int) < m := by omega
      obtain ⟨g, off, z, rfl, hlg, hz, hcell⟩ := (Row.of_own HI.out.2).2 k hlt
      obtain ⟨v, rfl, hv8⟩ := HLN.out z (List.mem_of_getElem? hz)
      have HZ := Lib.hid hz
      have HW2 := Lib.hid (HWS.out.kept HI.out.1 (fun e => hne (Option.some.inj e).symm))
      clear hz
      cases hw : W v
      · have HW0 := Lib.hid hw
        have HN := Lib.hid (show Is (fun u => decide (u = v) || Gk u) (fun u => G u = true ∨ ((u : Int) ∈ L.take (k + 1) ∧ W u = false)) from HK.out.2.put (fun u => by
          rw [take_mem HZ.out]
          constructor
          · rintro (h | ⟨h | h, h2⟩)
            · exact .inl (.inl h)
            · exact .inl (.inr ⟨h, h2⟩)
            · exact .inr (by omega)
          · rintro ((h | ⟨h, h2⟩) | h)
            · exact .inl h
            · exact .inr ⟨.inl h, h2⟩
            · subst h; exact .inr ⟨.inr rfl, HW0.out⟩))
        clear hw
        go_wp2_with (first
          | (at_lookup; (refine wpList_look_set _ rfl _ _ rfl q W rfl HW2.out v hv8 rfl ?_); rw [HW0.out])
          | (at_mapUpdate; (refine wpList_put_set _ rfl _ _ _ rfl r Gk rfl HK.out.1 v hv8 rfl rfl ?_); intro w7 hm7 hg7; refine Hid.out ?_))
        have HN2 := Lib.hid (And.intro hm7 (And.intro (grown_trans HI.out.1 hg7) (HI.out.2.kept hg7 (by
          rcases HI.out.2.2 with ⟨h, _⟩ | ⟨q9, c9, cur, h, hq, _⟩
          · exact .inl (by rw [h]; rfl)
          · exact .inr (by rw [h]; intro e; have := Option.some.inj e; have : q9 = r := this; omega)))))
        clear hm7 hg7
        refine Lib.hid ?_
        go_wp2
        go_roundw
        case rel => exact ⟨k + 1, _, by omega, by go_num, ⟨HN2.out.1, HN.out⟩, HN2.out.2⟩
        case measure => simp [intOf]; omega
      · have HW0 := Lib.hid hw
        have HN := Lib.hid (And.intro HK.out.1 (show Is Gk (fun u => G u = true ∨ ((u : Int) ∈ L.take (k + 1) ∧ W u = false)) from HK.out.2.congr (fun u => by
          rw [take_mem HZ.out]
          constructor
          · rintro (h | ⟨h | h, h2⟩)
            · exact .inl h
            · exact .inr ⟨h, h2⟩
            · exfalso
              have : u = v := by omega
              subst this
              rw [HW0.out] at h2; cases h2
          · rintro (h | ⟨h, h2⟩)
            · exact .inl h
            · exact .inr ⟨.inl h, h2⟩)))
        clear hw
        go_wp2_with (at_lookup; (refine wpList_look_set _ rfl _ _ rfl q W rfl HW2.out v hv8 rfl ?_); rw [HW0.out])
        go_roundw
        case rel => exact ⟨k + 1, Gk, by omega, by go_num, HN, HI⟩
        case measure => simp [intOf]; omega
    · obtain rfl : k = m := by omega
      have hI : ¬ (k : Int) < k := by omega
      have HTK : Hid (L.take k = L) := by rw [← hml, List.take_length]; exact rfl
      go_wp2
      exact bodyPost_ret (results_none rfl _ _ _) rfl ⟨rfl, HI.out.1, Gk, Lib.hid ⟨HK.out.1, by rw [← HTK.out]; exact HK.out.2⟩⟩
end Go.Proofs.Ytodlbbojjnkneaa.sets
