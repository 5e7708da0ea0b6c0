/- Several texts in one: SetE. -/
import Derived.Test.YtlicadaecfgklaaGreatGHub25
import Derived.Test.YtlicadaecfgklaaGreatGHub11

/- The model's l07Note: what an expression reads and is not written yet. -/
namespace Go.Proofs.YtlicadaecfgklaaGreat.sets
open Go Go.ChangeShapes Go.WideShapes Go.ChangeAt Go.RowKit Go.Proofs.YtlicadaecfgklaaGreat.row Go.Proofs.YtlicadaecfgklaaGreat.val Go.Proofs.YtlicadaecfgklaaGreat.stm Go.Proofs.YtlicadaecfgklaaGreat.blk Go.Proofs.YtlicadaecfgklaaGreat.expr

theorem rd_nat {a b x : Int} (h : x ∈ rd a b 8) : ∃ v : Nat, x = v ∧ v < 8 := by
  unfold rd at h
  obtain ⟨v, hv, rfl⟩ := List.mem_map.1 h
  exact ⟨v, rfl, List.mem_range.1 (List.mem_filter.1 hv).1⟩
theorem take_mem {L : List Int} {k v : Nat} {x : Int} (h : L[k]? = some x) : (v : Int) ∈ L.take (k + 1) ↔ (v : Int) ∈ L.take k ∨ (v : Int) = x := by
  rw [List.take_add_one, h]; simp
theorem Bset.grown {g : Nat} {f : Nat → Bool} {w w' : World} {r : Option Nat} (h : Bset g f w) (hg : w.grownBy w' r) (hn : some g ≠ r) : Bset g f w' := h.same (hg.block g h.lt hn)
/-- What noting leaves: the set at 'gf' has what is read and not in 'W'. -/
def Noted (gf : Nat) (F W : Nat → Bool) (L : List Int) (w : World) (e : Ending) (w' : World) : Prop :=
  e = .returned (.tuple #[]) ∧ w.grownBy w' (some gf) ∧ ∃ F', Hid (Bset gf F' w' ∧ Is F' (fun v => F v = true ∨ ((v : Int) ∈ L ∧ W v = false)))
set_option maxHeartbeats 4000000 in
set_option maxRecDepth 100000 in
theorem spec_note (gf gw cf cw : Nat) (F W : Nat → Bool) (hne : gf ≠ gw) (o x y : Int) (he : exprOk o x y = true) (w : World) (hF : Bset gf F w) (hW : Bset gw W w) :
    Calls Tryz.prog 63 #[.slice (some ⟨gf, 0, none⟩) 8 cf, .slice (some ⟨gw, 0, none⟩) 8 cw, ev o x y] w (Noted gf F W (rd x y 8) w) := by
  have HF := Lib.hid hF
  have HWS := Lib.hid hW
  obtain ⟨L, hL⟩ : ∃ L, rd x y 8 = L := ⟨_, rfl⟩
  have HRD := Lib.hid (show ∀ w', Calls Tryz.prog 83 #[ev o x y] w' (NewInts w' L) from fun w' => by rw [← hL]; exact spec_reads_ok w' o x y he)
  have HLN := Lib.hid (show ∀ z ∈ L, ∃ v : Nat, z = v ∧ v < 8 from fun z hz => rd_nat (by rw [hL]; exact hz))
  have hl8 : L.length ≤ 8 := by rw [← hL]; exact rd_len x y 8
  rw [hL]
  have hlf := hF.lt
  have hlw := hW.lt
  clear hF hW he hL
  have c0 : (w.alloc (.cells #[.int .i64 o, .int .i64 x, .int .i64 y] 45)).cell? ⟨w.heap.size, 0, none⟩ = some (.int .i64 o) := (Box.new w #[.int .i64 o, .int .i64 x, .int .i64 y] _).cell 0
  have c1 : (w.alloc (.cells #[.int .i64 o, .int .i64 x, .int .i64 y] 45)).cell? ⟨w.heap.size, 1, none⟩ = some (.int .i64 x) := (Box.new w #[.int .i64 o, .int .i64 x, .int .i64 y] _).cell 1
  have c2 : (w.alloc (.cells #[.int .i64 o, .int .i64 x, .int .i64 y] 45)).cell? ⟨w.heap.size, 2, none⟩ = some (.int .i64 y) := (Box.new w #[.int .i64 o, .int .i64 x, .int .i64 y] _).cell 2
  go_enter Tryz.func63, Tryz.ntmps63
  go_wp2_with (go_at_call 83; refine (HRD.out _).mono ?_; rintro e w1 ⟨ad, m, cap, rfl, hown, hb1⟩; refine Hid.out ?_)
  have hbw1 : Below w.heap.size w w1 := below_then (below_new w (.cells #[.int .i64 o, .int .i64 x, .int .i64 y] 45)) hb1
  have HG1 := Lib.hid (show w.grownBy w1 none from ⟨hbw1.os, hbw1.tape, hbw1.output, hbw1.size, fun k hk _ => hbw1.block k hk⟩)
  have HO1 := Lib.hid (show w1.ownsRow w.heap.size 3 1 (.slice ad m cap) m (ivs L) from hown.mono (by simp))
  have hml : L.length = m := by have := hown.1; simp [ivs] at this; exact this
  have hm8 : m ≤ 8 := by omega
  clear hown hb1 hbw1 c0 c1 c2
  refine Lib.hid ?_
  go_wp2
  go_loopw [7] (fun i wr => ∃ (k : Nat) (Fk : Nat → Bool), k ≤ m ∧ i = .int .i64 k ∧ Hid (Bset gf Fk wr ∧ Is Fk (fun v => F v = true ∨ ((v : Int) ∈ L.take k ∧ W v = false))) ∧ Hid (w.grownBy wr (some gf) ∧ wr.ownsRow w.heap.size 3 1 (.slice ad m cap) m (ivs L))) (fun i _ => m - (intOf i).toNat)
  case atStart => exact ⟨0, F, Nat.zero_le _, rfl, ⟨HF.out.grown HG1.out (by simp), fun v _ => ⟨fun h => .inl h, fun h => h.resolve_right (fun h => by simp at h)⟩⟩, ⟨⟨HG1.out.os, HG1.out.tape, HG1.out.output, HG1.out.size, fun k hk _ => HG1.out.block k hk (by simp)⟩, HO1.out⟩⟩
  case round =>
    obtain ⟨k, Fk, hk, rfl, HK, HI⟩ := hrel
    by_cases hlt : k < m
    · have hI : (k : Int) < m := by omega
      obtain ⟨g, off, z, rfl, hlg, hz, hcell⟩ := (Row.of_own HI.out.2).2 k hlt
      obtain ⟨v, rfl, hv8⟩ := HLN.out z (List.mem_of_getElem? hz)
      have HZ := Lib.hid hz
      have hv0 : (0 : Int) ≤ (v : Int) := by omega
      have hv9 : (v : Int) < 8 := by omega
      have b1 : wr.cell? ⟨gw, v, none⟩ = some (.bool (W v)) := (HWS.out.grown HI.out.1 (fun e => hne (Option.some.inj e).symm)).cell hv8
      have b2 : wr.cell? ⟨gf, v, none⟩ = some (.bool (Fk v)) := HK.out.1.cell hv8
      have f2 : wr.frozen? ⟨gf, v, none⟩ = false := HK.out.1.frozen v
      clear hz
      cases hw : W v
      · rw [hw] at b1
        have HW0 := Lib.hid hw
        have HN := Lib.hid (And.intro (HK.out.1.put hv8) (show Is (fun u => decide (u = v) || Fk u) (fun u => F u = true ∨ ((u : Int) ∈ L.take (k + 1) ∧ W u = false)) from HK.out.2.put (fun u => by
          rw [take_mem HZ.out]
          constructor
          · rintro (h | ⟨h | h, h2⟩)
            · exact .inl (.inl h)
            · exact .inl (.inr ⟨h, h2⟩)
            · exact .inr (by omega)
          · rintro ((h | ⟨h, h2⟩) | h)
            · exact .inl h
            · exact .inr ⟨.inl h, h2⟩
            · subst h; exact .inr ⟨.inr rfl, HW0.out⟩)))
        have hgs := grown_setCell wr gf v (.bool true)
        have HN2 := Lib.hid (And.intro (grown_trans HI.out.1 hgs) (HI.out.2.kept hgs (by
          rcases HI.out.2.2 with ⟨h, _⟩ | ⟨q, c9, cur, h, hq, _⟩
          · exact .inl (by rw [h]; rfl)
          · exact .inr (by rw [h]; intro e; have := Option.some.inj e; have : q = gf := this; omega))))
        clear hw hgs
        go_wp2
        go_roundw
        case rel => exact ⟨k + 1, _, by omega, by go_num, HN, HN2⟩
        case measure => simp [intOf]; omega
      · rw [hw] at b1
        have HW0 := Lib.hid hw
        have HN := Lib.hid (And.intro HK.out.1 (show Is Fk (fun u => F u = true ∨ ((u : Int) ∈ L.take (k + 1) ∧ W u = false)) from HK.out.2.congr (fun u => by
          rw [take_mem HZ.out]
          constructor
          · rintro (h | ⟨h | h, h2⟩)
            · exact .inl h
            · exact .inr ⟨h, h2⟩
            · exfalso
              have : u = v := by omega
              subst this
              rw [HW0.out] at h2; cases h2
          · rintro (h | ⟨h, h2⟩)
            · exact .inl h
            · exact .inr ⟨.inl h, h2⟩)))
        clear hw
        go_wp2
        go_roundw
        case rel => exact ⟨k + 1, _, by omega, by go_num, HN, HI⟩
        case measure => simp [intOf]; omega
    · obtain rfl : k = m := by omega
      have hI : ¬ (k : Int) < k := by omega
      have HEND := Lib.hid (And.intro HK.out.1 (show Is Fk (fun u => F u = true ∨ ((u : Int) ∈ L ∧ W u = false)) by
        have h9 := HK.out.2
        rw [List.take_of_length_le (by omega)] at h9
        exact h9))
      go_wp2
      exact bodyPost_ret (results_none rfl _ _ _) rfl ⟨rfl, HI.out.1, Fk, HEND⟩
end Go.Proofs.YtlicadaecfgklaaGreat.sets
