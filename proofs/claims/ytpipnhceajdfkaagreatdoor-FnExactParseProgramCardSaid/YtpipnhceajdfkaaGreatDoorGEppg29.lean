/- Several texts in one: PrgJ. -/
import Derived.Test.YtpipnhceajdfkaaGreatDoorGEppg18
import Derived.Test.YtpipnhceajdfkaaGreatDoorGEppg27
import Derived.Test.YtpipnhceajdfkaaGreatDoorGEppg28

/- Chapter 6's program: taskLine, ProgramText: the text of the program; nothing that was there is written. -/
namespace Go.Proofs.YtpipnhceajdfkaaGreatDoor.prg
open Go Go.ChangeShapes Go.WideShapes Go.ChangeAt Go.RowKit Go.Proofs.YtpipnhceajdfkaaGreatDoor.row Go.Proofs.YtpipnhceajdfkaaGreatDoor.val Go.Proofs.YtpipnhceajdfkaaGreatDoor.expr Go.Proofs.YtpipnhceajdfkaaGreatDoor.stm Go.Proofs.YtpipnhceajdfkaaGreatDoor.blk Go.Proofs.YtpipnhceajdfkaaGreatDoor.tex Go.Proofs.YtpipnhceajdfkaaGreatDoor.lay

/-- The table of powers of ten, as the calls want it. -/
abbrev TabB (w : World) : Prop := Lib.TabBelow Tryz.prog w.heap.size w "internal/strconv.uint64pow10" .u64 Lib.pow10Tab
theorem TabB.on {w w1 : World} (h : TabB w) (hb : Below w.heap.size w w1) : TabB w1 := fun w' hw' => (Lib.TabBelow.on h hb) w' (hw'.mono hb.size)
abbrev zeroStm : Array Value := #[.int .i64 0, .int .i64 0, .int .i64 0, .int .i64 0, .int .i64 0, .int .i64 0]
theorem taskW_line (o x y : Int) : lineW ⟨#[116, 97, 115, 107]⟩ [o, x, y] = taskW ++ exT o x y := by unfold lineW; rw [head_join]; rfl
set_option maxHeartbeats 2000000 in
set_option maxRecDepth 100000 in
theorem impl_taskline {o x y : Int} (ho : Small o) (hx : Small x) (hy : Small y) (w : World) (hT : TabB w) :
    Calls Tryz.prog 16 #[ev o x y] w (RetS w (taskW ++ exT o x y)) := by
  have c0 : (w.alloc (.cells #[.int .i64 o, .int .i64 x, .int .i64 y] 40)).cell? ⟨w.heap.size, 0, none⟩ = some (.int .i64 o) := (Box.new w #[.int .i64 o, .int .i64 x, .int .i64 y] _).cell 0
  have c1 : (w.alloc (.cells #[.int .i64 o, .int .i64 x, .int .i64 y] 40)).cell? ⟨w.heap.size, 1, none⟩ = some (.int .i64 x) := (Box.new w #[.int .i64 o, .int .i64 x, .int .i64 y] _).cell 1
  have c2 : (w.alloc (.cells #[.int .i64 o, .int .i64 x, .int .i64 y] 40)).cell? ⟨w.heap.size, 2, none⟩ = some (.int .i64 y) := (Box.new w #[.int .i64 o, .int .i64 x, .int .i64 y] _).cell 2
  have hbw : Below w.heap.size w ((w.alloc (.cells #[.int .i64 o, .int .i64 x, .int .i64 y] 40)).alloc (.cells #[.int .i64 o, .int .i64 x, .int .i64 y] 3)) := ((Below.refl _ w).alloc (Nat.le_refl _) _).alloc (by simp) _
  have HB := Lib.hid hbw
  have HT := Lib.hid (TabB.on hT hbw)
  have HN := Lib.hid (show (∀ n ∈ [o, x, y], Small n) ∧ [o, x, y].length ≤ 4 from ⟨fun n hn => by
    simp only [List.mem_cons, List.not_mem_nil, or_false] at hn
    rcases hn with rfl | rfl | rfl
    · exact ho
    · exact hx
    · exact hy, by simp⟩)
  have HJ := Lib.hid (show (lineW ⟨#[116, 97, 115, 107]⟩ [o, x, y]).length ≤ 1048576 by rw [taskW_line]; have := exT_short ho hx hy; simp; omega)
  have HE := Lib.hid (taskW_line o x y)
  clear hT hbw ho hx hy
  go_enter Tryz.func16, Tryz.ntmps16
  go_wp2_with (go_at_call 33; refine (impl_lineof ⟨#[116, 97, 115, 107]⟩ [o, x, y] _ 3 3 _ HN.out HJ.out (row_made1 w _ [o, x, y] _) HT.out).mono ?_; rintro e w3 ⟨rfl, hb3⟩)
  go_ret
  exact ⟨by rw [HE.out]; rfl, below_then HB.out hb3⟩
set_option maxHeartbeats 8000000 in
set_option maxRecDepth 100000 in
theorem impl_programtext (a : Option Addr) (n cap : Nat) (P : List Tk) (hz : Sizes P) (hcap : n ≤ cap) (w : World) (h : TkRow w a n P) (T : List UInt8) (hT : ProgIs P T) (hTab : TabB w) :
    Calls Tryz.prog 7 #[.agg #[.slice a n cap]] w (RetS w T) := by
  obtain ⟨W, hW⟩ : ∃ W, W = w.alloc (.cells #[.slice a n cap] 26) := ⟨_, rfl⟩
  have hpw : PrgW w W a n cap P := by rw [hW]; exact prgW_new w a n cap P _ h
  have HP := Lib.hid hpw
  have HW := Lib.hid hW.symm
  have HZ := Lib.hid hz
  have HTAB := Lib.hid hTab
  have hlen := h.1
  have HLN := Lib.hid hlen
  have hwl : w.heap.size < W.heap.size := by rw [hW]; simp
  have c0 : W.cell? ⟨w.heap.size, 0, none⟩ = some (.slice a n cap) := hpw.1
  clear h hz hW hlen hTab hpw
  rcases hT with ⟨hip, rfl⟩ | ⟨hip, rfl⟩
  · have HIP := Lib.hid hip
    have hn6 : n ≤ 6 := by have := hip.2.1; have := HLN.out; omega
    clear hip
    go_enter Tryz.func7, Tryz.ntmps7
    go_wp2_with (go_at_call 9; rw [HW.out]; (with_reducible refine (impl_programok a n cap P HZ.out hcap _ HP.out.2.1 true ⟨fun _ => HIP.out, fun _ => rfl⟩).mono ?_); rintro e w1 ⟨rfl, hb1⟩; refine Hid.out ?_)
    have HB1 := Lib.hid hb1
    have d0 : w1.cell? ⟨w.heap.size, 0, none⟩ = some (.slice a n cap) := (hb1.cell (p := ⟨w.heap.size, 0, none⟩) hwl).trans c0
    clear hb1 c0
    refine Lib.hid ?_
    go_wp2
    go_loopw [3, 14] (fun s i wr => ∃ k : Nat, k ≤ n ∧ i = .int .i64 k ∧ s = .string ⟨(progT (P.take k)).toArray⟩ ∧ Hid (Below W.heap.size W wr)) (fun _ i _ => n - (intOf i).toNat)
    case atStart => exact ⟨0, Nat.zero_le _, rfl, rfl, HB1.out⟩
    case round =>
      obtain ⟨k, hk, rfl, rfl, HBR⟩ := hrel
      obtain ⟨wo, rfl⟩ : ∃ wo, wo = wr := ⟨_, rfl⟩
      by_cases hlt : k < n
      · obtain ⟨g, off, t, rfl, hlb, ht, ab, nb, cb, hrg, hbc, hrow⟩ := (HP.out.2.1.below HBR.out).2 k hlt
        have hI : (k : Int) < n := by omega
        have hTK := HIP.out.2.2 t (mem_at ht)
        have hsm := expr_small hTK.2
        have hnb : (nb : Int) ≤ 24 := by have := hTK.1.2.2; rw [hrow.1] at this; omega
        have hxs := exT_short hsm.1 hsm.2.1 hsm.2.2
        have hl0 := progT_take_short HIP.out k
        obtain ⟨X0, hX0⟩ : ∃ X0 : List UInt8, X0 = taskW ++ exT t.o t.x t.y := ⟨_, rfl⟩
        have hX0l : X0.length ≤ 19 := by rw [hX0]; simp; omega
        obtain ⟨X1, e1, q1⟩ := addS X0 [10] (by simp; omega)
        have hX1l : X1.length ≤ 20 := by rw [e1]; simp; omega
        obtain ⟨X2, e2, q2⟩ := addS (progT (P.take k)) X1 (by omega)
        have hX2 : X2 = progT (P.take k) ++ headT t := by rw [e2, e1, hX0]; rfl
        have hX2l : X2.length ≤ 3884 := by rw [e2, List.length_append]; omega
        have HT := Lib.hid (And.intro ht (And.intro hrow (And.intro hrg hX2)))
        have HTL := Lib.hid (show ∀ w', TabB w' → Calls Tryz.prog 16 #[ev t.o t.x t.y] w' (RetS w' X0) from fun w' h' => by rw [hX0]; exact impl_taskline hsm.1 hsm.2.1 hsm.2.2 w' h')
        have HX := Lib.hid (And.intro (Box.new wo zeroTk 42) ((Below.refl wo.heap.size wo).alloc (Nat.le_refl _) (.cells zeroTk 42)))
        have HBW := Lib.hid (HP.out.2.2.1.trans (HBR.out.mono (Nat.le_of_lt hwl)))
        clear ht hrow hrg hTK hsm hxs e1 e2 hX2 hX0
        go_wp2_with (first
          | (refine wpList_load_mid rfl 42 _ rfl g (off + k * 4) rfl (tkC ab nb cb t) _ HT.out.2.2.1 Tryz.underlying42 rfl (by kernel_rfl) ?_)
          | ((refine wpList_store_box rfl 42 _ _ rfl wo.heap.size _ _ HX.out.1 #[.slice ab nb cb, .int .i64 t.o, .int .i64 t.x, .int .i64 t.y] rfl rfl rfl (by kernel_rfl) (by simp [Value.oneCell']) ?_); intro w1 hx1 hg1; refine Hid.out ?_))
        have hb1 : Below wo.heap.size wo w1 := HX.out.2.grown hg1 HX.out.2.size (fun j hj => by cases hj; exact Nat.le_refl _)
        have H1 := Lib.hid (And.intro hx1 (And.intro hb1 (TabB.on (TabB.on HTAB.out HBW.out) hb1)))
        have d1 : w1.cell? ⟨wo.heap.size, 1, none⟩ = some (.int .i64 t.o) := hx1.cell 1
        have d2 : w1.cell? ⟨wo.heap.size, 2, none⟩ = some (.int .i64 t.x) := hx1.cell 2
        have d3 : w1.cell? ⟨wo.heap.size, 3, none⟩ = some (.int .i64 t.y) := hx1.cell 3
        clear hx1 hg1 hb1
        refine Lib.hid ?_
        go_wp2_with (go_at_call 16; (with_reducible refine (HTL.out _ H1.out.2.2).mono ?_); rintro e w3 ⟨rfl, hb3⟩; refine Hid.out ?_)
        have e0 : w3.cell? ⟨wo.heap.size, 0, none⟩ = some (.slice ab nb cb) := (H1.out.1.below hb3).cell 0
        have H3 := Lib.hid (below_then H1.out.2.1 hb3)
        clear hb3 d1 d2 d3
        refine Lib.hid ?_
        go_wp2
        go_loopw [3, 27] (fun s j wr => ∃ (m : Nat) (Z : List UInt8), m ≤ nb ∧ j = .int .i64 m ∧ s = .string ⟨Z.toArray⟩ ∧ Hid (Z = progT (P.take k) ++ headT t ++ bodyT (t.b.take m)) ∧ Hid (Below wo.heap.size wo wr)) (fun _ j _ => nb - (intOf j).toNat)
        case atStart => exact ⟨0, X2, Nat.zero_le _, rfl, rfl, by rw [HT.out.2.2.2, List.take_zero, show bodyT [] = [] from rfl, List.append_nil]; exact rfl, H3.out⟩
        case round =>
          obtain ⟨m, Z0, hm, rfl, rfl, HZ0, HJ⟩ := hrel
          by_cases hmlt : m < nb
          · obtain ⟨gs, offs, s, rfl, hls, hs, hrs⟩ := (HT.out.2.1.below HJ.out).2 m hmlt
            have hJ : (m : Int) < nb := by omega
            have hss := textR_short s
            obtain ⟨Y, eY, qY⟩ := addS (textR s) [10] (by simp; omega)
            have hY : Y = lineT s := eY
            have hYl : Y.length ≤ 26 := by rw [eY]; simp; omega
            have hbl := bodyT_short (t.b.take m)
            have hl2 : Z0.length ≤ 10000 := by
              rw [HZ0.out]
              have h9 : (t.b.take m).length ≤ m := by simp; omega
              have h2 := hX2l
              rw [HT.out.2.2.2] at h2
              rw [List.length_append]; omega
            obtain ⟨Z, eZ, qZ⟩ := addS Z0 Y (by omega)
            have HS := Lib.hid (And.intro hrs (show Z = progT (P.take k) ++ headT t ++ bodyT (t.b.take (m + 1)) by rw [eZ, HZ0.out, hY, bodyT_take hs, ← List.append_assoc]))
            have HXS := Lib.hid (And.intro (Box.new wr zeroStm 45) ((Below.refl wr.heap.size wr).alloc (Nat.le_refl _) (.cells zeroStm 45)))
            have HTQ := Lib.hid (TabB.on (TabB.on HTAB.out HBW.out) HJ.out)
            clear hrs hs eY hY hbl hss eZ
            go_wp2_with (first
              | (refine wpList_load_mid rfl 45 _ rfl gs (offs + m * 6) rfl (stC s) _ HS.out.1 Tryz.underlying45 rfl (by kernel_rfl) ?_)
              | ((refine wpList_store_box rfl 45 _ _ rfl wr.heap.size _ _ HXS.out.1 #[.int .i64 s.k, .int .i64 s.v, .int .i64 s.n, .int .i64 s.o, .int .i64 s.a, .int .i64 s.b] rfl rfl rfl (by kernel_rfl) (by simp [Value.oneCell']) ?_); intro w5 hx5 hg5; refine Hid.out ?_))
            have hb5 : Below wr.heap.size wr w5 := HXS.out.2.grown hg5 HXS.out.2.size (fun j hj => by cases hj; exact Nat.le_refl _)
            have H5 := Lib.hid (And.intro hx5 (And.intro hb5 (TabB.on HTQ.out hb5)))
            clear hx5 hg5 hb5
            refine Lib.hid ?_
            go_wp2_with (first
              | (refine wpList_load_row rfl 45 _ rfl wr.heap.size rfl _ _ _ _ H5.out.1 Tryz.underlying45 rfl (by kernel_rfl) ?_)
              | (go_at_call 17; refine (impl_fmtstmt s _ H5.out.2.2).mono ?_; rintro e w6 ⟨rfl, hb6⟩; refine Hid.out ?_))
            have H6 := Lib.hid (below_then HJ.out (below_then H5.out.2.1 hb6))
            clear hb6
            refine Lib.hid ?_
            go_wp2
            go_roundw
            case rel => exact ⟨m + 1, Z, by omega, by go_num, rfl, HS.out.2, H6.out⟩
            case measure => simp [intOf]; omega
          · obtain rfl : m = nb := by omega
            have hJ : ¬ (m : Int) < m := by omega
            have HK := Lib.hid (show progT (P.take k) ++ headT t ++ bodyT (t.b.take m) = progT (P.take (k + 1)) by
              rw [List.take_of_length_le (show t.b.length ≤ m by rw [HT.out.2.1.1]; exact Nat.le_refl _), progT_take HT.out.1, List.append_assoc]; rfl)
            have HBQ := Lib.hid (below_then HBR.out HJ.out)
            go_wp2
            go_roundw
            case rel => exact ⟨k + 1, by omega, by go_num, by rw [HZ0.out, HK.out], HBQ.out⟩
            case measure => simp [intOf]; omega
      · obtain rfl : k = n := by omega
        have hI : ¬ (k : Int) < k := by omega
        have HE := Lib.hid (show progT (P.take k) = progT P by rw [List.take_of_length_le (by rw [HLN.out]; exact Nat.le_refl _)])
        go_wp2
        go_ret
        exact ⟨by rw [HE.out]; rfl, HP.out.2.2.1.trans (HBR.out.mono (Nat.le_of_lt hwl))⟩
  · have HIP := Lib.hid hip
    clear hip
    go_enter Tryz.func7, Tryz.ntmps7
    go_wp2_with (go_at_call 9; rw [HW.out]; (with_reducible refine (impl_programok a n cap P HZ.out hcap _ HP.out.2.1 false ⟨fun h => (by cases h), fun h => absurd h HIP.out⟩).mono ?_); rintro e w1 ⟨rfl, hb1⟩)
    go_ret
    exact ⟨rfl, HP.out.2.2.1.trans (hb1.mono (Nat.le_of_lt hwl))⟩
end Go.Proofs.YtpipnhceajdfkaaGreatDoor.prg
