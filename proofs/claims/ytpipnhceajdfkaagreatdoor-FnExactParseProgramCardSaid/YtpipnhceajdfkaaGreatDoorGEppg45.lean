/- Several texts in one: PrgX. -/
import Derived.Test.YtpipnhceajdfkaaGreatDoorGEppg10
import Derived.Test.YtpipnhceajdfkaaGreatDoorGEppg27
import Derived.Test.YtpipnhceajdfkaaGreatDoorGEppg21
import Derived.Lib.AppendStr

/- Chapter 6's model: ProgramText: the text of the program; nothing that was there is written. -/
namespace Go.Proofs.YtpipnhceajdfkaaGreatDoor.prg
open Go Go.ChangeShapes Go.WideShapes Go.ChangeAt Go.RowKit Go.Proofs.YtpipnhceajdfkaaGreatDoor.row Go.Proofs.YtpipnhceajdfkaaGreatDoor.val Go.Proofs.YtpipnhceajdfkaaGreatDoor.expr Go.Proofs.YtpipnhceajdfkaaGreatDoor.stm Go.Proofs.YtpipnhceajdfkaaGreatDoor.blk Go.Proofs.YtpipnhceajdfkaaGreatDoor.tex

/-- A row of bytes of the call's own. -/
def BRow (base : Nat) (w : World) (v : Value) (L : List UInt8) : Prop := w.ownsRow base 5 1 v L.length (Lib.byteCells L)
theorem BRow.app {base : Nat} {w' : World} {v' : Value} {L X : List UInt8} (h : w'.ownsRow base 5 1 v' (L.length + (⟨X.toArray⟩ : ByteArray).size) (Lib.byteCells L ++ Lib.strCells ⟨X.toArray⟩)) : BRow base w' v' (L ++ X) := by
  unfold BRow
  have e : Lib.byteCells (L ++ X) = Lib.byteCells L ++ Lib.strCells ⟨X.toArray⟩ := by rw [Lib.strCells_eq, byt.byteCells_app]
  rw [e, List.length_append]; simpa [ByteArray.size] using h
theorem BRow.low {base : Nat} {w : World} {v : Value} {L : List UInt8} (h : BRow base w v L) : ∀ k, v.ownBlock = some k → base ≤ k := fun k hk => (h.lt k hk).1
theorem BRow.below {base : Nat} {w w' : World} {v : Value} {L : List UInt8} (h : BRow base w v L) (hb : Below w.heap.size w w') : BRow base w' v L :=
  World.ownsRow.kept h (grown_below hb none) (by cases v.ownBlock <;> simp)
theorem bytes_size (X : List UInt8) : (⟨X.toArray⟩ : ByteArray).size = X.length := by simp [ByteArray.size]
set_option maxHeartbeats 8000000 in
set_option maxRecDepth 100000 in
theorem spec_programtext (a : Option Addr) (n cap : Nat) (P : List Tk) (hz : Sizes P) (w : World) (h : TkRow w a n P) (T : List UInt8) (hT : ProgIs P T) :
    Calls Tryz.prog 25 #[.agg #[.slice a n cap]] w (RetS w T) := by
  obtain ⟨i0, hi, hz0, hz1, hz2⟩ := info_parts byt.infoByte
  obtain ⟨W, hW⟩ : ∃ W, W = w.alloc (.cells #[.slice a n cap] 26) := ⟨_, rfl⟩
  have HP := Lib.hid (show PrgW w W a n cap P from by rw [hW]; exact prgW_new w a n cap P _ h)
  have HW := Lib.hid hW.symm
  have HZ := Lib.hid hz
  have hlen := h.1
  have HLN := Lib.hid hlen
  have hwl : w.heap.size < W.heap.size := by rw [hW]; simp
  have HSZ := Lib.hid (show W.heap.size = w.heap.size + 1 by rw [hW]; simp)
  have HE := Lib.hid (show BRow W.heap.size (W.alloc (.cells #[] 5)) (.slice (some ⟨w.heap.size + 1, 0, none⟩) 0 0) [] by rw [← HSZ.out]; exact World.ownsRow_made (base := W.heap.size) (e := 5) (size := 1) W #[] 0 (Nat.le_refl _) (by decide) rfl)
  have HBE := Lib.hid (below_new W (.cells #[] 5))
  clear h hz hW hlen
  rcases hT with ⟨hip, rfl⟩ | ⟨hip, rfl⟩
  · have HIP := Lib.hid hip
    have HRT := Lib.hid (show true = true ↔ IsPrg P from ⟨fun _ => hip, fun _ => rfl⟩)
    have hn6 : n ≤ 6 := by have := hip.2.1; have := HLN.out; omega
    clear hip
    go_enter Tryz.func25, Tryz.ntmps25
    go_wp2
    rw [HW.out]
    go_loopw [3, 4] (fun b i wr => ∃ (k : Nat) (v : Value), k ≤ n ∧ i = .int .i64 k ∧ b = v ∧ Hid (BRow W.heap.size wr v (progT (P.take k)) ∧ Below W.heap.size W wr)) (fun _ i _ => n - (intOf i).toNat)
    case atStart => exact ⟨0, _, Nat.zero_le _, rfl, rfl, HE.out, HBE.out⟩
    case round =>
      obtain ⟨k, v, hk, rfl, rfl, HI⟩ := hrel
      have hbel := HI.out.2
      have c0 : wr.cell? ⟨w.heap.size, 0, none⟩ = some (.slice a n cap) := (hbel.cell (p := ⟨w.heap.size, 0, none⟩) hwl).trans HP.out.1
      have hwl1 := Nat.lt_of_lt_of_le hwl hbel.size
      by_cases hlt : k < n
      · obtain ⟨g, off, t, rfl, hlb, ht, ab, nb, cb, hrg, hbc, hrow⟩ := (HP.out.2.1.below hbel).2 k hlt
        have hI : (k : Int) < n := by omega
        have hTK := HIP.out.2.2 t (mem_at ht)
        have hsm := expr_small hTK.2
        have hnb : (nb : Int) ≤ 24 := by have := hTK.1.2.2; rw [hrow.1] at this; omega
        have hxs := exT_short hsm.1 hsm.2.1 hsm.2.2
        obtain ⟨X1, e1, q1⟩ := addS taskW (exT t.o t.x t.y) (by simp; omega)
        obtain ⟨X2, e2, q2⟩ := addS X1 [10] (by rw [e1]; simp; omega)
        have hX2 : X2 = headT t := by rw [e2, e1]; rfl
        have hl0 := progT_take_short HIP.out k
        have hX2l : X2.length ≤ 20 := by rw [hX2]; have := headL_short hTK.2; simp [headT]; omega
        have HT := Lib.hid (And.intro ht (And.intro hrow (And.intro hrg hX2)))
        have HSM := Lib.hid hsm
        have HBL := Lib.hid hbel
        have HBR := Lib.hid HI.out.1
        clear ht hrow hrg hTK hsm hxs e1 e2 hX2 hbel HI
        go_wp2_with (go_at_call 26; (with_reducible refine (spec_programok (some ⟨g, off, none⟩) n cap P HZ.out _ (HP.out.2.1.below HBL.out) true ⟨fun _ => HIP.out, fun _ => rfl⟩).mono ?_); rintro e w2 ⟨rfl, hb2⟩; refine Hid.out ?_)
        have c2 : w2.cell? ⟨w.heap.size, 0, none⟩ = some (.slice (some ⟨g, off, none⟩) n cap) := (hb2.cell (p := ⟨w.heap.size, 0, none⟩) hwl1).trans c0
        have d := held4o hb2 hlb (range4 HT.out.2.2.1)
        have d0 := d.1
        have d1 := d.2.1
        have d2 := d.2.2.1
        have d3 := d.2.2.2
        have hwl2 := Nat.lt_of_lt_of_le hwl1 hb2.size
        have hlb2 := Nat.lt_of_lt_of_le hlb hb2.size
        have H2 := Lib.hid (And.intro (HBR.out.below hb2) (And.intro (below_then HBL.out hb2) (And.intro (HT.out.2.1.below hb2) d)))
        clear hb2 d
        refine Lib.hid ?_
        go_wp2_with (go_at_call 46; (with_reducible refine (spec_l04expr t.o t.x t.y HSM.out.1 HSM.out.2.1 HSM.out.2.2 _).mono ?_); rintro e w3 ⟨rfl, hb3⟩; refine Hid.out ?_)
        have H3 := Lib.hid (And.intro (H2.out.1.below hb3) (And.intro (below_then H2.out.2.1 hb3) (And.intro (H2.out.2.2.1.below hb3) (held4o hb3 hlb2 H2.out.2.2.2))))
        clear hb3 c0 c2 d0 d1 d2 d3 H2
        refine Lib.hid ?_
        go_wp2_with (at_builtin; refine Lib.wpList_append_own_string _ rfl _ _ 22 9 rfl W.heap.size 5 i0 Tryz.underlying22 Tryz.underlying9 hi hz0 hz1 hz2 _ _ _ rfl H3.out.1 ⟨X2.toArray⟩ rfl (by rw [bytes_size]; unfold maxLen; omega) (by rw [bytes_size]; omega) H3.out.2.1.size ?_; intro v4 w4 hown4 hgrow4 _; refine Hid.out ?_)
        have hbr4 := BRow.app hown4
        have hlo4 := H3.out.1.low
        have hb34 : Below W.heap.size W w4 := H3.out.2.1.grown hgrow4 H3.out.2.1.size (fun q hq => hlo4 q hq)
        have H4 := Lib.hid (And.intro (show BRow W.heap.size w4 v4 (progT (P.take k) ++ headT t ++ bodyT (t.b.take 0)) by rw [List.take_zero, show bodyT [] = [] from rfl, List.append_nil, ← HT.out.2.2.2]; exact hbr4) hb34)
        clear hown4 hgrow4 hbr4 hlo4 hb34 H3
        refine Lib.hid ?_
        go_wp2
        go_loopw [3, 5] (fun b j wr => ∃ (m : Nat) (v : Value), m ≤ nb ∧ j = .int .i64 m ∧ b = v ∧ Hid (BRow W.heap.size wr v (progT (P.take k) ++ headT t ++ bodyT (t.b.take m)) ∧ Below W.heap.size W wr)) (fun _ j _ => nb - (intOf j).toNat)
        case atStart => exact ⟨0, _, Nat.zero_le _, rfl, rfl, H4.out.1, H4.out.2⟩
        case round =>
          obtain ⟨m, v, hm, rfl, rfl, HJ⟩ := hrel
          have hbel := HJ.out.2
          have c0 : wr.cell? ⟨w.heap.size, 0, none⟩ = some (.slice (some ⟨g, off, none⟩) n cap) := (hbel.cell (p := ⟨w.heap.size, 0, none⟩) hwl).trans HP.out.1
          obtain ⟨g', off', t', ha', hlb', ht', ab', nb', cb', hrg', hbc', hrow'⟩ := (HP.out.2.1.below hbel).2 k hlt
          simp only [Option.some.injEq, Addr.mk.injEq, and_true] at ha'
          obtain ⟨rfl, rfl⟩ := ha'
          obtain rfl : t' = t := by have := HT.out.1; rw [this] at ht'; exact (Option.some.inj ht').symm
          obtain rfl : nb' = nb := by have h1 := hrow'.1; have h2 := HT.out.2.1.1; omega
          have q0 := (range4 hrg').1
          by_cases hmlt : m < nb'
          · obtain ⟨gs, offs, s, rfl, hls, hs, hrs⟩ := hrow'.2 m hmlt
            have hJ : (m : Int) < nb' := by omega
            have hss := textR_short s
            obtain ⟨Y, eY, qY⟩ := addS (textR s) [10] (by simp; omega)
            have hY : Y = lineT s := eY
            have hYl : Y.length ≤ 26 := by rw [eY]; simp; omega
            have hbl := bodyT_short (t'.b.take m)
            have hbl2 : (bodyT (t'.b.take m)).length ≤ 624 := by
              have h9 : (t'.b.take m).length ≤ m := by simp; omega
              omega
            have hl2 : (progT (P.take k) ++ headT t' ++ bodyT (t'.b.take m)).length ≤ 10000 := by
              have h1 := progT_take_short HIP.out k
              have h2 := hX2l
              rw [HT.out.2.2.2] at h2
              simp only [List.length_append]; omega
            have HS := Lib.hid (And.intro hrs (And.intro hs hY))
            have HBJ := Lib.hid (And.intro HJ.out.1 hbel)
            clear hrs hs eY hY hbel HJ hbl hrg' hrow' ht' hss
            go_wp2_with (first
              | (refine wpList_load_mid rfl 45 _ rfl gs (offs + m * 6) rfl (stC s) _ HS.out.1 Tryz.underlying45 rfl (by kernel_rfl) ?_)
              | (go_at_call 24; refine (spec_fmtstmt s _).mono ?_; rintro e w6 ⟨rfl, hb6⟩; refine Hid.out ?_))
            have H6 := Lib.hid (And.intro (HBJ.out.1.below hb6) (below_then HBJ.out.2 hb6))
            clear hb6 c0 q0
            refine Lib.hid ?_
            go_wp2_with (at_builtin; refine Lib.wpList_append_own_string _ rfl _ _ 22 9 rfl W.heap.size 5 i0 Tryz.underlying22 Tryz.underlying9 hi hz0 hz1 hz2 _ _ _ rfl H6.out.1 ⟨Y.toArray⟩ rfl (by rw [bytes_size]; unfold maxLen; omega) (by rw [bytes_size]; omega) H6.out.2.size ?_; intro v7 w7 hown7 hgrow7 _; refine Hid.out ?_)
            have hbr7 := BRow.app hown7
            have hlo7 := H6.out.1.low
            have hb67 : Below W.heap.size W w7 := H6.out.2.grown hgrow7 H6.out.2.size (fun q hq => hlo7 q hq)
            have H7 := Lib.hid (And.intro (show BRow W.heap.size w7 v7 (progT (P.take k) ++ headT t' ++ bodyT (t'.b.take (m + 1))) by rw [bodyT_take HS.out.2.1, ← HS.out.2.2, ← List.append_assoc]; exact hbr7) hb67)
            clear hown7 hgrow7 hbr7 hlo7 hb67 H6
            refine Lib.hid ?_
            go_wp2
            go_roundw
            case rel => exact ⟨m + 1, _, by omega, by go_num, rfl, H7.out.1, H7.out.2⟩
            case measure => simp [intOf]; omega
          · obtain rfl : m = nb' := by omega
            have hJ : ¬ (m : Int) < m := by omega
            have HK := Lib.hid (And.intro (show BRow W.heap.size wr _ (progT (P.take (k + 1))) by
              have h1 := HJ.out.1
              have e9 : t'.b.take m = t'.b := List.take_of_length_le (by rw [hrow'.1]; exact Nat.le_refl _)
              rw [e9, List.append_assoc] at h1
              rw [progT_take HT.out.1]
              exact h1) hbel)
            clear hbel HJ hrg' hrow' ht'
            go_wp2
            go_roundw
            case rel => exact ⟨k + 1, _, by omega, by go_num, rfl, HK.out.1, HK.out.2⟩
            case measure => simp [intOf]; omega
      · obtain rfl : k = n := by omega
        have hI : ¬ (k : Int) < k := by omega
        have hcv := byt.conv_own (show wr.ownsRow W.heap.size 5 1 _ _ (Lib.byteCells (progT P)) by
          have h1 := HI.out.1
          rw [List.take_of_length_le (by rw [HLN.out]; exact Nat.le_refl _)] at h1; exact h1)
        have HBB := Lib.hid hbel
        clear hbel HI
        go_wp2
        go_ret
        exact ⟨rfl, HP.out.2.2.1.trans (HBB.out.mono (Nat.le_of_lt hwl))⟩
  · have HIP := Lib.hid hip
    clear hip
    go_enter Tryz.func25, Tryz.ntmps25
    go_wp2
    rw [HW.out]
    go_loopw [3, 4] (fun b i wr => i = .int .i64 0 ∧ b = .slice (some ⟨w.heap.size + 1, 0, none⟩) 0 0 ∧ Hid (BRow W.heap.size wr (.slice (some ⟨w.heap.size + 1, 0, none⟩) 0 0) [] ∧ Below W.heap.size W wr)) (fun _ _ _ => 0)
    case atStart => exact ⟨rfl, rfl, HE.out, HBE.out⟩
    case round =>
      obtain ⟨rfl, rfl, HI⟩ := hrel
      have hbel := HI.out.2
      have c0 : wr.cell? ⟨w.heap.size, 0, none⟩ = some (.slice a n cap) := (hbel.cell (p := ⟨w.heap.size, 0, none⟩) hwl).trans HP.out.1
      rcases Nat.eq_zero_or_pos n with hn0 | hn0
      · have hI : ¬ (0 : Int) < n := by omega
        have hcv := byt.conv_own (show wr.ownsRow W.heap.size 5 1 (.slice (some ⟨w.heap.size + 1, 0, none⟩) 0 0) 0 (Lib.byteCells []) from HI.out.1)
        have HBB := Lib.hid hbel
        clear hbel hn0 HI
        go_wp2
        go_ret
        exact ⟨rfl, HP.out.2.2.1.trans (HBB.out.mono (Nat.le_of_lt hwl))⟩
      · have hI : (0 : Int) < n := by omega
        have HBB := Lib.hid hbel
        clear hbel
        go_wp2_with (go_at_call 26; (with_reducible refine (spec_programok a n cap P HZ.out _ (HP.out.2.1.below HBB.out) false ⟨fun h => (by cases h), fun h => absurd h HIP.out⟩).mono ?_); rintro e w2 ⟨rfl, hb2⟩; refine Hid.out ?_)
        have hcv := byt.conv_own (show w2.ownsRow W.heap.size 5 1 (.slice (some ⟨w.heap.size + 1, 0, none⟩) 0 0) 0 (Lib.byteCells []) from HI.out.1.below hb2)
        have HB2 := Lib.hid (below_then HBB.out hb2)
        clear hb2 HI
        refine Lib.hid ?_
        go_wp2
        go_ret
        exact ⟨rfl, HP.out.2.2.1.trans (HB2.out.mono (Nat.le_of_lt hwl))⟩
end Go.Proofs.YtpipnhceajdfkaaGreatDoor.prg
