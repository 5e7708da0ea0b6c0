/- The law's marks in a row of writes that somebody owns, nil or not, and its look at them. -/
import Derived.Test.YtcmhiadaebpgmaaWtR
namespace Go.Proofs.Ytcmhiadaebpgmaa.wrt
open Go Go.ChangeShapes Go.WideShapes Go.ChangeAt Go.RowKit Go.Proofs.Ytcmhiadaebpgmaa.row Go.Proofs.Ytcmhiadaebpgmaa.val Go.Proofs.Ytcmhiadaebpgmaa.expr Go.Proofs.Ytcmhiadaebpgmaa.grow
/-- The row holds the marks. -/
def HeldW (w : World) (a : Option Addr) (n : Nat) : Prop := (a = none ∧ n = 0) ∨ ∃ (g : Nat) (cs : Array Value) (t : TypeId), a = some ⟨g, 0, none⟩ ∧ Box g cs t w ∧ Nums cs 1 (n * 2)
theorem HeldW.below {w w' : World} {a : Option Addr} {n : Nat} (h : HeldW w a n) (hb : Below w.heap.size w w') : HeldW w' a n :=
  h.imp id fun ⟨g, cs, t, e, hx, hN⟩ => ⟨g, cs, t, e, hx.below hb, hN⟩
set_option maxRecDepth 100000 in
theorem markwrites_nil (w : World) : Calls Try.prog 15 #[.slice none 0 0, .int .i64 1] w fun e w' => e = .returned (.int .i64 1) ∧ w' = w := by
  go_enter Try.func15, Try.ntmps15
  go_wp2
  go_loop [1, 5] (fun kk i => kk = .int .i64 1 ∧ i = .int .i64 0) (fun _ i => 0)
  case atStart => exact ⟨rfl, rfl⟩
  case round =>
    obtain ⟨rfl, rfl⟩ := hrel
    go_wp2
    go_ret
    exact ⟨rfl, rfl⟩
theorem markwrites_own (w : World) (B : Nat) (a : Option Addr) (n c : Nat) (xs : List Value) (ho : w.ownsRow B 49 2 (.slice a n c) n xs) (hn : (n : Int) ≤ 1048576) :
    Calls Try.prog 15 #[.slice a n c, .int .i64 1] w fun e w' => e = .returned (.int .i64 (1 + 2 * n)) ∧ w.grownBy w' (Value.slice a n c).ownBlock ∧ HeldW w' a n := by
  rcases ho.2 with ⟨e, e0⟩ | ⟨g, cap, cur, e, hb, hg, hnc, _, hsz, _⟩
  · cases e
    exact (markwrites_nil w).mono fun e w' ⟨h1, h2⟩ => ⟨by rw [h1]; rfl, by rw [h2]; exact grown_refl w _, .inl ⟨rfl, rfl⟩⟩
  · cases e
    refine (markWrites_any w g n c cur _ hg (by rw [hsz]; exact Nat.mul_le_mul_right 2 hnc) 1 (by decide) (by decide) (by omega)).mono fun e w' ⟨h1, h2, cs', h3, _, h4⟩ => ⟨h1, h2, .inr ⟨g, cs', _, rfl, h3, h4⟩⟩
set_option maxRecDepth 100000 in
theorem heldwrites_nil (w : World) (c : Nat) : Calls Try.prog 16 #[.slice none 0 c, .int .i64 1] w fun e w' => e = .returned (.int .i64 1) ∧ w' = w := by
  go_enter Try.func16, Try.ntmps16
  go_wp2
  go_loop [1, 5] (fun kk i => kk = .int .i64 1 ∧ i = .int .i64 0) (fun _ i => 0)
  case atStart => exact ⟨rfl, rfl⟩
  case round =>
    obtain ⟨rfl, rfl⟩ := hrel
    go_wp2
    go_ret
    exact ⟨rfl, rfl⟩
theorem heldwrites_own (w : World) (a : Option Addr) (n c : Nat) (h : HeldW w a n) (hn : (n : Int) ≤ 1048576) :
    Calls Try.prog 16 #[.slice a n c, .int .i64 1] w fun e w' => e = .returned (.int .i64 (1 + 2 * n)) ∧ w' = w := by
  rcases h with ⟨rfl, rfl⟩ | ⟨g, cs, t, rfl, hx, hN⟩
  · exact (heldwrites_nil w c).mono fun e w' ⟨h1, h2⟩ => ⟨by rw [h1]; rfl, h2⟩
  · exact heldWrites_any w g n c cs t hx 1 hN (by decide) (by decide) (by omega)
/-- A row that somebody owns stays where its block stays. -/
theorem own_same {w w' : World} {B sz : Nat} {e : TypeId} {v : Value} {n : Nat} {xs : List Value} (h : w.ownsRow B e sz v n xs) (hk : ∀ b, v.ownBlock = some b → w'.heap[b]? = w.heap[b]?) : w'.ownsRow B e sz v n xs := by
  refine ⟨h.1, h.2.imp id ?_⟩
  rintro ⟨g, cap, cur, rfl, hb, hg, rest⟩
  exact ⟨g, cap, cur, rfl, hb, (hk g rfl).trans hg, rest⟩
/-- A row of writes that somebody owns reads as the list. -/
theorem row_own {w : World} {B : Nat} {a : Option Addr} {n c : Nat} {L : List Wt} (h : w.ownsRow B 49 2 (.slice a n c) n (writesC L)) (hl : L.length = n) : WriteRow w a n L := by
  refine ⟨hl, fun k hk => ?_⟩
  obtain ⟨g, c', e, _, hlt⟩ := h.form (by omega)
  cases e
  refine ⟨g, 0, L[k]'(by omega), rfl, hlt, by simp [show k < L.length by omega], fun j v hv => ?_⟩
  have hj : j < 2 := by have := (List.getElem?_eq_some_iff.1 hv).1; rw [writeC_len] at this; exact this
  have h1 := h.cells (g := g) rfl (k * 2 + j) v (by rw [gcs_at writeC_len (s := L[k]'(by omega)) (by simp [show k < L.length by omega]) j hj]; exact hv)
  rw [Addr.add_mid] at h1
  rw [show 0 + k * 2 + j = 0 + (k * 2 + j) by omega]
  exact h1
end Go.Proofs.Ytcmhiadaebpgmaa.wrt
