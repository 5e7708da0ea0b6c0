/- Several texts in one: ApS RefH. -/
import Derived.Test.YtekdnhhmiabngaaGHub11
import Derived.Maps.AppendAt
import Derived.Laws.AppendOwnNone
import Derived.Lib.SliceRun
import Derived.RegionTactic
import Derived.Test.YtekdnhhmiabngaaGHub21

/- append of a slice that the caller owns, nil or not; the head of a row of numbers; the load of a struct behind a test that holds. -/
namespace Go.Proofs.Ytekdnhhmiabngaa.aps
open Go Go.ChangeShapes Go.WideShapes Go.ChangeAt Go.RowKit Go.Proofs.Ytekdnhhmiabngaa.row

section
variable {P : Program} (w : World)
theorem run_append_src (t ty : TypeId) (base base2 : Nat) (e : TypeId) (i : TypeInfo) (z : Value) (size bytes : Nat) (ht : P.underlying t = some (.slice e)) (hi : P.info? e = some i) (hz : i.zero = some z)
    (hsize : i.size = size) (hby : i.bytes = bytes) (hzs : z.cells.size = size) (hsz : 0 < size)
    (v : Value) (n : Nat) (xs : List Value) (hown : w.ownsRow base e size v n xs) (vx : Value) (m : Nat) (ys : List Value) (hX : w.ownsRow base2 e size vx m ys) (h1 : ∀ u ∈ ys, u.oneCell' = true)
    (h63 : n + m ≤ maxLen) (hbytes : (n + m) * bytes ≤ 140737488355328) (hbase : base ≤ w.heap.size) :
    ∃ v' w', (Builtin.append_ #[t, t] ty #[v, vx]).run P w = .ok v' w' ∧ w'.ownsRow base e size v' (n + m) (xs ++ ys) ∧ w.grownBy w' v.ownBlock ∧ (v'.ownBlock = v.ownBlock ∨ v'.ownBlock = some w.heap.size) := by
  rcases hX.2 with ⟨rfl, rfl⟩ | ⟨g, cap, cur, rfl, _⟩
  · have hy : ys = [] := List.eq_nil_of_length_eq_zero (by have := hX.1; simpa using this)
    subst hy
    exact ⟨v, w, run_append_owned_none (P := P) (w := w) base t ty e i size ht hi v n xs hown, by simpa using hown, ⟨rfl, rfl, rfl, Nat.le_refl _, fun _ _ _ => rfl⟩, .inl rfl⟩
  · obtain ⟨v', w', hr, h2, h3, _, h5⟩ := run_append_own_at (P := P) w base t ty e i z size bytes ht hi hz hsize hby hzs hsz v n xs hown ⟨g, 0, none⟩ m cap ys hX.1 (hX.cells (g := g) rfl) h1 h63 hbytes hbase
    exact ⟨v', w', hr, h2, h3, h5⟩
theorem step_append_src {ops : Array Oper} {o : Oper} {a : Act} {K : Act → World → Prop} {Q : Exit → Act → World → Prop} {E : Prop} (hgd : o.guard = none) (s x : Operand) (t : TypeId)
    (ho : o.op = .call { callee := .builtin .append, args := #[s, x], argTypes := #[t, t] })
    (base base2 : Nat) (e : TypeId) (i : TypeInfo) (z : Value) (size bytes : Nat) (ht : P.underlying t = some (.slice e)) (hi : P.info? e = some i) (hz : i.zero = some z)
    (hsize : i.size = size) (hby : i.bytes = bytes) (hzs : z.cells.size = size) (hsz : 0 < size)
    (v : Value) (n : Nat) (xs : List Value) (hs : a.eval s = v) (hown : w.ownsRow base e size v n xs) (vx : Value) (m : Nat) (ys : List Value) (hx : a.eval x = vx) (hX : w.ownsRow base2 e size vx m ys) (h1 : ∀ u ∈ ys, u.oneCell' = true)
    (h63 : n + m ≤ maxLen) (hbytes : (n + m) * bytes ≤ 140737488355328) (hbase : base ≤ w.heap.size)
    (h : ∀ v' w', w'.ownsRow base e size v' (n + m) (xs ++ ys) → w.grownBy w' v.ownBlock → (v'.ownBlock = v.ownBlock ∨ v'.ownBlock = some w.heap.size) → K (a.put o.dst v') w') :
    if Region.wanted o (yielded ops a.tmps) = true then Oper.wp P o a w K Q else E := by
  have hw : Region.wanted o (yielded ops a.tmps) = true := by simp [Region.wanted, hgd]
  rw [if_pos hw]
  obtain ⟨v', w', hr, h2, h3, h4⟩ := run_append_src (P := P) w t o.type base base2 e i z size bytes ht hi hz hsize hby hzs hsz v n xs hown vx m ys hX h1 h63 hbytes hbase
  unfold Oper.wp execOp
  simp only [ho, resolve, invoke, builtin, Sem.run_bind, Sem.run_pure, Result.andThen_ok, List.map_toArray, List.map_cons, List.map_nil, hs, hx, hr]
  exact h v' w' h2 h3 h4
end
theorem made_ati (w : World) (k B : Nat) (hk : w.heap.size = k) (hB : B ≤ k) (e : TypeId) : (w.alloc (.cells #[] e)).ownsRow B e 1 (.slice (some ⟨k, 0, none⟩) 0 0) 0 [] := by
  subst hk; exact World.ownsRow_made w #[] 0 hB (Nat.zero_le _) rfl
theorem own_sliceA {w : World} {B : Nat} {ty : TypeId} {v : Value} {n : Nat} {xs : List Value} (h : w.ownsRow B ty 1 v n xs) : ∃ ad cap, v = .slice ad n cap ∧ n ≤ cap ∧ (0 < n → ∃ g, ad = some ⟨g, 0, none⟩) := by
  rcases h.2 with ⟨e, e0⟩ | ⟨g, c, cur, e, _, _, hnc, _⟩
  · exact ⟨_, _, by rw [e, e0], by omega, fun h0 => by omega⟩
  · exact ⟨_, _, e, hnc, fun _ => ⟨g, rfl⟩⟩
theorem ivs_one (A : List Int) : ∀ u ∈ ivs A, u.oneCell' = true := by
  intro u hu
  obtain ⟨x, _, rfl⟩ := List.mem_map.1 hu
  rfl
/-- The load of a whole struct behind a test that holds. -/
theorem load_on {P : Program} {ops : Array Oper} {rest : List Oper} {o : Oper} {a : Act} {w : World} {Q : Exit → Act → World → Prop} (hw : Region.wanted o (yielded ops a.tmps) = true) (ty : TypeId) (x : Operand) (ho : o.op = .load ty x)
    (g : Nat) (hx : a.eval x = .pointer (some ⟨g, 0, none⟩)) (t : TypeId) (cs : Array Value) (fr : Nat × Nat) (d : TypeDesc) (hg : w.heap[g]? = some (.cells cs t fr))
    (hu : P.underlying ty = some d) (hd : (match d with | .struct _ | .array _ _ => true | _ => false) = true) (hi : (P.info? ty).map (·.size) = some cs.size)
    (h : wpList P ops Q rest (a.put o.dst (.agg cs)) w) : wpList P ops Q (o :: rest) a w :=
  wpList_step fun K hK => by
    rw [if_pos hw]
    exact wp_load_row ty x ho g hx t cs fr d hg hu hd hi (hK _ _ h)
theorem elemI : Try.prog.underlying 28 = some (.slice (Try.prog.elem 28)) := by kernel_rfl
theorem sizeI (w : World) : (sizeOf (Try.prog.elem 28)).run Try.prog w = .ok 1 w := by kernel_rfl
theorem cut_hI (g n cap q : Nat) (Q : Int) (hQ : Q = q) (hc : q ≤ cap) (w : World) : (Instr.sliceAt 28 (.slice (some ⟨g, 0, none⟩) n cap) none (some (.int .i64 Q)) none).run Try.prog w = .ok (.slice (some ⟨g, 0, none⟩) q cap) w := by
  subst hQ
  rw [run_sliceAt_slice w _ _ _ _ _ elemI, Go.run_slice_h w _ _ _ _ elemI _ _ (by omega) (by omega), sizeI]
  simp only [Result.andThen, sliced]
  rw [Nat.sub_zero, show ((q : Int)).toNat = q by omega, Nat.zero_mul, Option.map_some, Addr.add_mid, Nat.add_zero, ite_self, Nat.sub_zero]
theorem row_head {w : World} {g n k : Nat} {L : List Int} (h : Row w (some ⟨g, 0, none⟩) n L) (hk : k ≤ n) : Row w (some ⟨g, 0, none⟩) k (L.take k) := by
  refine ⟨by rw [List.length_take, h.1]; omega, fun j hj => ?_⟩
  obtain ⟨q, off, x, e, h1, h2, h3⟩ := h.2 j (by omega)
  exact ⟨q, off, x, e, h1, by rw [List.getElem?_take_of_lt hj]; exact h2, h3⟩
end Go.Proofs.Ytekdnhhmiabngaa.aps

/- Chapter 13 of the program: whether the arguments of a reference run are valid (canRun); the outbox (addToBox); nothing else that was there is written. -/
namespace Go.Proofs.Ytekdnhhmiabngaa.ref
open Go Go.ChangeShapes Go.WideShapes Go.ChangeAt Go.RowKit Go.Proofs.Ytekdnhhmiabngaa.row Go.Proofs.Ytekdnhhmiabngaa.val Go.Proofs.Ytekdnhhmiabngaa.expr Go.Proofs.Ytekdnhhmiabngaa.stm Go.Proofs.Ytekdnhhmiabngaa.blk Go.Proofs.Ytekdnhhmiabngaa.prg Go.Proofs.Ytekdnhhmiabngaa.exe Go.Proofs.Ytekdnhhmiabngaa.srow
theorem can_sound {P : List Tk} {V : List Int} {i : Int} : CanRun P V i ↔ Sound P V i := Iff.rfl
set_option maxHeartbeats 4000000 in
set_option maxRecDepth 100000 in
theorem impl_canrun (a : Option Addr) (n cap : Nat) (P : List Tk) (hz : Sizes P) (hcap : n ≤ cap) (w : World) (h : TkRow w a n P) (ad : Option Addr) (nv cv : Nat) (V : List Int) (hnv : (nv : Int) ≤ 1048576) (hV : Row w ad nv V) (au : Option Addr) (nu cu : Nat) (UU : List (List Int)) (hsz : SSizes UU) (hU : SRow w au nu UU)
    (i : Int) (r : Bool) (hr : r = true ↔ RefOk P V UU i) :
    Calls Try.prog 36 #[.agg #[.slice a n cap], .int .i64 i, .slice ad nv cv, .slice au nu cu] w (BelB w r) := by
  obtain ⟨W, hW⟩ : ∃ W, w.alloc (.cells #[.slice a n cap] 26) = W := ⟨_, rfl⟩
  have hBW : Below w.heap.size w W := by rw [← hW]; exact below_new w _
  have hpx : Box w.heap.size #[.slice a n cap] 26 W := by rw [← hW]; exact Box.new w _ _
  have hWl : w.heap.size < W.heap.size := hpx.lt
  have c0 : W.cell? ⟨w.heap.size, 0, none⟩ = some (.slice a n cap) := hpx.cell 0
  have HW := Lib.hid hW
  have HZ := Lib.hid (And.intro hz hsz)
  have H0 := Lib.hid (And.intro hBW (And.intro (h.below hBW) (And.intro (hV.below hBW) (hU.below hBW))))
  have hul := hU.1
  have hnu : (nu : Int) ≤ 1048576 := by have := hsz.1; omega
  have HR := Lib.hid hr
  clear hpx hBW h hV hU hz hsz hW hr
  obtain ⟨rc, hrc⟩ := can_dec P V i
  have HRC := Lib.hid hrc
  cases rc
  · obtain rfl : r = false := by
      rw [← Bool.not_eq_true]; intro e
      have := hrc.2 (HR.out.1 e).1; cases this
    clear hrc
    go_enter Try.func36, Try.ntmps36
    go_wp2_with (go_at_call 26; rw [HW.out]; (with_reducible refine (impl_can a n cap P HZ.out.1 hcap _ H0.out.2.1 ad nv cv V hnv H0.out.2.2.1 i false HRC.out).mono ?_); rintro e w2 ⟨rfl, hb2⟩; refine Hid.out ?_)
    have HB2 := Lib.hid (H0.out.1.trans (hb2.mono (Nat.le_of_lt hWl)))
    clear hb2 c0
    refine Lib.hid ?_
    go_wp2
    go_ret
    exact ⟨rfl, HB2.out⟩
  · have HCAN := Lib.hid (hrc.1 rfl)
    clear hrc
    by_cases h100 : (100 : Int) < nu
    · obtain rfl : r = false := by
        rw [← Bool.not_eq_true]; intro e
        have := (HR.out.1 e).2.1; omega
      go_enter Try.func36, Try.ntmps36
      go_wp2_with (go_at_call 26; rw [HW.out]; (with_reducible refine (impl_can a n cap P HZ.out.1 hcap _ H0.out.2.1 ad nv cv V hnv H0.out.2.2.1 i true HRC.out).mono ?_); rintro e w2 ⟨rfl, hb2⟩; refine Hid.out ?_)
      have HB2 := Lib.hid (H0.out.1.trans (hb2.mono (Nat.le_of_lt hWl)))
      clear hb2 c0
      refine Lib.hid ?_
      go_wp2
      go_ret
      exact ⟨rfl, HB2.out⟩
    · have HAL := Lib.hid (show r = true ↔ ∀ u ∈ UU, allV u = true from ⟨fun e => (HR.out.1 e).2.2, fun h => HR.out.2 ⟨HCAN.out, by omega, h⟩⟩)
      go_enter Try.func36, Try.ntmps36
      go_wp2_with (go_at_call 26; rw [HW.out]; (with_reducible refine (impl_can a n cap P HZ.out.1 hcap _ H0.out.2.1 ad nv cv V hnv H0.out.2.2.1 i true HRC.out).mono ?_); rintro e w2 ⟨rfl, hb2⟩; refine Hid.out ?_)
      have HBW := Lib.hid (H0.out.1.trans (hb2.mono (Nat.le_of_lt hWl)))
      have HUU := Lib.hid (H0.out.2.2.2.below hb2)
      clear hb2 c0
      refine Lib.hid ?_
      go_wp2
      go_loopw [23] (fun i wr => ∃ k : Nat, k ≤ nu ∧ i = .int .i64 k ∧ Hid (∀ u ∈ UU.take k, allV u = true) ∧ wr = w2) (fun i _ => nu - (intOf i).toNat)
      case atStart => exact ⟨0, Nat.zero_le _, rfl, by simp [Hid], rfl⟩
      case round =>
        obtain ⟨k, hk, rfl, hA, rfl⟩ := hrel
        by_cases hlt : k < nu
        · have hI : (k : Int) < nu := by omega
          obtain ⟨b, off, L, ab, nb, cb, rfl, hlb, hL, hc, hle, hrow⟩ := HUU.out.2 k hlt
          have hnb : (nb : Int) ≤ 1048576 := by have := HZ.out.2.2 L (mem_atS hL); rw [hrow.1] at this; omega
          have HLL := Lib.hid (And.intro hL hrow)
          clear hL hrow hle
          cases hv9 : allV L
          · obtain rfl : r = false := by
              rw [← Bool.not_eq_true]; intro e
              have := HAL.out.1 e L (mem_atS HLL.out.1); rw [hv9] at this; cases this
            have HV9 := Lib.hid (show L.all isVal = false from hv9)
            clear hv9
            go_wp2_with (go_at_call 27; (with_reducible refine (impl_are _ ab nb cb L hnb HLL.out.2 false HV9.out).mono ?_); rintro e w3 ⟨rfl, rfl⟩)
            go_ret
            exact ⟨rfl, HBW.out⟩
          · have HV9 := Lib.hid (show L.all isVal = true from hv9)
            have hA2 := Lib.hid (show ∀ u ∈ UU.take (k + 1), allV u = true from fun u hu => by
              rw [List.take_add_one, HLL.out.1] at hu
              rcases List.mem_append.1 hu with h | h
              · exact hA.out u h
              · simp at h; rw [h]; exact HV9.out)
            clear hv9
            go_wp2_with (go_at_call 27; (with_reducible refine (impl_are _ ab nb cb L hnb HLL.out.2 true HV9.out).mono ?_); rintro e w3 ⟨rfl, rfl⟩)
            go_roundw
            case rel => exact ⟨k + 1, by omega, by go_num, hA2, trivial⟩
            case measure => simp [intOf]; omega
        · obtain rfl : k = nu := by omega
          have hI : ¬ (k : Int) < k := by omega
          obtain rfl : r = true := HAL.out.2 (fun u hu => hA.out u (by rw [List.take_of_length_le (by omega)]; exact hu))
          go_wp2
          go_ret
          exact ⟨rfl, HBW.out⟩
/-- The outbox with further values, as many as there is room for: the row has grown in place or moved. -/
def AddOut (B : Nat) (w : World) (v : Value) (S : List Int) (e : Ending) (w' : World) : Prop :=
  ∃ a' n' c', e = .returned (.slice a' n' c') ∧ w'.ownsRow B 3 1 (.slice a' n' c') n' (ivs S) ∧ w.grownBy w' v.ownBlock ∧ ((Value.slice a' n' c').ownBlock = v.ownBlock ∨ (Value.slice a' n' c').ownBlock = some w.heap.size)
theorem list_append_src {P : Program} (w : World) {ops : Array Oper} {rest : List Oper} {o : Oper} {a : Act} {Q : Exit → Act → World → Prop} (hgd : o.guard = none) (s x : Operand) (t : TypeId)
    (ho : o.op = .call { callee := .builtin .append, args := #[s, x], argTypes := #[t, t] })
    (base base2 : Nat) (e : TypeId) (i : TypeInfo) (z : Value) (size bytes : Nat) (ht : P.underlying t = some (.slice e)) (hi : P.info? e = some i) (hz : i.zero = some z)
    (hsize : i.size = size) (hby : i.bytes = bytes) (hzs : z.cells.size = size) (hsz : 0 < size)
    (v : Value) (n : Nat) (xs : List Value) (hs : a.eval s = v) (hown : w.ownsRow base e size v n xs) (vx : Value) (m : Nat) (ys : List Value) (hx : a.eval x = vx) (hX : w.ownsRow base2 e size vx m ys) (h1 : ∀ u ∈ ys, u.oneCell' = true)
    (h63 : n + m ≤ maxLen) (hbytes : (n + m) * bytes ≤ 140737488355328) (hbase : base ≤ w.heap.size)
    (h : ∀ v' w', w'.ownsRow base e size v' (n + m) (xs ++ ys) → w.grownBy w' v.ownBlock → (v'.ownBlock = v.ownBlock ∨ v'.ownBlock = some w.heap.size) → wpList P ops Q rest (a.put o.dst v') w') :
    wpList P ops Q (o :: rest) a w :=
  wpList_step fun _ hK => aps.step_append_src w hgd s x t ho base base2 e i z size bytes ht hi hz hsize hby hzs hsz v n xs hs hown vx m ys hx hX h1 h63 hbytes hbase (fun v' w' h2 h3 h4 => hK _ _ (h v' w' h2 h3 h4))
/-- The head of a row that is owned. -/
theorem own_head {w : World} {B g m cm q : Nat} {M : List Int} (h : w.ownsRow B 3 1 (.slice (some ⟨g, 0, none⟩) m cm) m (ivs M)) (hq : q ≤ m) : w.ownsRow B 3 1 (.slice (some ⟨g, 0, none⟩) q cm) q (ivs (M.take q)) := by
  have hl := own_len h
  rcases h.2 with ⟨e, _⟩ | ⟨g', cap, cur, e, hB, hg, hnc, hcm, hcs, htk⟩
  · cases e
  · cases e
    refine ⟨by simp [ivs, List.length_take]; omega, .inr ⟨g, cm, cur, rfl, hB, hg, by omega, hcm, hcs, ?_⟩⟩
    have : ivs (M.take q) = (ivs M).take q := by simp [ivs, List.map_take]
    rw [this, ← htk, List.take_take, Nat.mul_one, Nat.mul_one, Nat.min_eq_left hq]
theorem cut_h0 (w : World) : (Instr.sliceAt 28 (.slice none 0 0) none (some (.int .i64 0)) none).run Try.prog w = .ok (.slice none 0 0) w := by kernel_rfl
theorem box_min (S M : List Int) (hS : S.length ≤ 24) : S ++ M.take (min (24 - S.length) M.length) = box S M := by
  unfold box
  rw [List.take_append, List.take_of_length_le hS]
  congr 1
  by_cases h : 24 - S.length ≤ M.length
  · rw [Nat.min_eq_left h]
  · rw [Nat.min_eq_right (by omega), List.take_of_length_le (Nat.le_refl _), List.take_of_length_le (by omega)]
theorem ivs_append (A B : List Int) : ivs A ++ ivs B = ivs (A ++ B) := by simp [ivs]
set_option maxHeartbeats 4000000 in
set_option maxRecDepth 100000 in
theorem impl_addtobox (B B2 : Nat) (w : World) (hB : B ≤ w.heap.size) (a : Option Addr) (n c : Nat) (S : List Int) (hS : w.ownsRow B 3 1 (.slice a n c) n (ivs S)) (hS24 : S.length ≤ 24) (am : Option Addr) (m cm : Nat) (M : List Int) (hm : (m : Int) ≤ 1048576) (hM : w.ownsRow B2 3 1 (.slice am m cm) m (ivs M)) :
    Calls Try.prog 39 #[.slice a n c, .slice am m cm] w (AddOut B w (.slice a n c) (box S M)) := by
  obtain ⟨i0, hi, hz0, hz1, hz2⟩ := info_parts row.infoInt
  have hSl := own_len hS
  have hMl := own_len hM
  obtain ⟨q, hq⟩ : ∃ q : Nat, min (24 - n) m = q := ⟨_, rfl⟩
  have hqm : q ≤ m := by omega
  have hqn : n + q ≤ 24 := by omega
  have h24 : IntKind.i64.wrap (24 - (n : Int)) = ((24 - n : Nat) : Int) := by rw [IntWalk.i64_in _ (by omega)]; omega
  have hmin : (if ((24 - n : Nat) : Int) < (m : Int) then ((24 - n : Nat) : Int) else (m : Int)) = (q : Int) := by split <;> omega
  have HBX := Lib.hid (box_min S M hS24)
  have HS := Lib.hid hS
  obtain ⟨am2, hcut, hM2⟩ : ∃ am2 : Option Addr × Nat, (∀ w, (Instr.sliceAt 28 (.slice am m cm) none (some (.int .i64 (q : Int))) none).run Try.prog w = .ok (.slice am2.1 q am2.2) w) ∧ w.ownsRow B2 3 1 (.slice am2.1 q am2.2) q (ivs (M.take q)) := by
    rcases hM.2 with ⟨e, e0⟩ | ⟨g, cap, cur, e, hB9, hg9, hnc, _⟩
    · cases e
      obtain rfl : q = 0 := by omega
      exact ⟨(none, 0), cut_h0, by rw [List.take_zero]; exact World.ownsRow_nil _ _ _ _⟩
    · cases e
      exact ⟨(some ⟨g, 0, none⟩, cm), aps.cut_hI g m cm q q rfl (by omega), own_head hM hqm⟩
  obtain ⟨am2, cm2⟩ := am2
  have HM2 := Lib.hid hM2
  have hcut' : ∀ w, (Instr.sliceAt 28 (.slice am m cm) none (some (.int .i64 (q : Int))) none).run Try.prog w = .ok (.slice am2 q cm2) w := hcut
  clear hcut hM2 hS hM
  by_cases hlt : m < 24 - n
  · obtain rfl : q = m := by omega
    clear hmin hq
    rw [show min (24 - S.length) M.length = q by omega] at HBX
    go_enter Try.func39, Try.ntmps39
    go_wp2_with (at_builtin; refine list_append_src _ rfl _ _ 28 rfl B B2 3 i0 (.int .i64 0) 1 8 Try.underlying28 hi hz0 hz1 hz2 rfl (by decide) _ _ _ rfl HS.out _ _ _ rfl HM2.out (aps.ivs_one _) (by unfold maxLen; omega) (by omega) hB ?_; intro v4 w4 hown4 hgrow4 hat4; refine Hid.out ?_)
    rw [ivs_append, HBX.out] at hown4
    obtain ⟨a4, c4, rfl, _⟩ := aps.own_sliceA hown4
    have H4 := Lib.hid (And.intro hown4 (And.intro hgrow4 hat4))
    clear hown4 hgrow4 hat4
    refine Lib.hid ?_
    go_wp2
    go_ret
    exact ⟨a4, _, c4, rfl, H4.out.1, H4.out.2.1, H4.out.2.2⟩
  · obtain rfl : q = 24 - n := by omega
    clear hmin hq
    rw [show min (24 - S.length) M.length = 24 - n by omega] at HBX
    go_enter Try.func39, Try.ntmps39
    go_wp2_with (at_builtin; refine list_append_src _ rfl _ _ 28 rfl B B2 3 i0 (.int .i64 0) 1 8 Try.underlying28 hi hz0 hz1 hz2 rfl (by decide) _ _ _ rfl HS.out _ _ _ rfl HM2.out (aps.ivs_one _) (by unfold maxLen; omega) (by omega) hB ?_; intro v4 w4 hown4 hgrow4 hat4; refine Hid.out ?_)
    rw [ivs_append, HBX.out] at hown4
    obtain ⟨a4, c4, rfl, _⟩ := aps.own_sliceA hown4
    have H4 := Lib.hid (And.intro hown4 (And.intro hgrow4 hat4))
    clear hown4 hgrow4 hat4
    refine Lib.hid ?_
    go_wp2
    go_ret
    exact ⟨a4, _, c4, rfl, H4.out.1, H4.out.2.1, H4.out.2.2⟩
end Go.Proofs.Ytekdnhhmiabngaa.ref
