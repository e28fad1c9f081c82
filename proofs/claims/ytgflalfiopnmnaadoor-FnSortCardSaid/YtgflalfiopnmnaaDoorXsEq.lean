import Derived.Test.YtgflalfiopnmnaaDoorSoSort
import Derived.Test.YtgflalfiopnmnaaDoorRkEq
namespace Go.Proofs.YtgflalfiopnmnaaDoor
open Go.RowKit Rk So

/-- A row of questions, as it is read. -/
def AskR (w : World) (A : Option Addr) (L B : Nat) (f g : Nat → Int) : Prop := ∀ c, c < L → A = some ⟨B, 0, none⟩ ∧ w.cell? ⟨B, c * 2, none⟩ = some (.int .i64 (f c)) ∧ w.cell? ⟨B, c * 2 + 1, none⟩ = some (.int .i64 (g c))

theorem AskR.below {w w' : World} {A : Option Addr} {L B : Nat} {f g : Nat → Int} (h : AskR w A L B f g) (hb : Below w.heap.size w w') : AskR w' A L B f g :=
  fun c hc => ⟨(h c hc).1, (hb.cell (p := ⟨B, c * 2, none⟩) (World.block_lt_of_cell? _ _ (h c hc).2.1)).trans (h c hc).2.1, (hb.cell (p := ⟨B, c * 2 + 1, none⟩) (World.block_lt_of_cell? _ _ (h c hc).2.2)).trans (h c hc).2.2⟩

set_option maxHeartbeats 1000000 in
theorem eqAsk_same (a b : Int) (w : World) :
    Calls Tryd.prog 47 #[.agg #[.int .i64 a, .int .i64 b], .agg #[.int .i64 a, .int .i64 b]] w fun e w' => e = .returned (.bool true) ∧ Below w.heap.size w w' := by
  go_enter Tryd.func47, Tryd.ntmps47
  go_wp2
  go_ret
  exact ⟨rfl, ((Below.refl _ _).alloc (Nat.le_refl _) _).alloc (by simp) _⟩

theorem keep4 {w2 w w' : World} {B B' k : Nat} {a b c d : Value} (h : w.cell? ⟨B, k * 2, none⟩ = some a ∧ w.cell? ⟨B, k * 2 + 1, none⟩ = some b ∧ w.cell? ⟨B', k * 2, none⟩ = some c ∧ w.cell? ⟨B', k * 2 + 1, none⟩ = some d ∧ Below w2.heap.size w2 w) (hb : Below w.heap.size w w') :
    w'.cell? ⟨B, k * 2, none⟩ = some a ∧ w'.cell? ⟨B, k * 2 + 1, none⟩ = some b ∧ w'.cell? ⟨B', k * 2, none⟩ = some c ∧ w'.cell? ⟨B', k * 2 + 1, none⟩ = some d ∧ Below w2.heap.size w2 w' :=
  ⟨(hb.cell (p := ⟨B, k * 2, none⟩) (World.block_lt_of_cell? _ _ h.1)).trans h.1, (hb.cell (p := ⟨B, k * 2 + 1, none⟩) (World.block_lt_of_cell? _ _ h.2.1)).trans h.2.1, (hb.cell (p := ⟨B', k * 2, none⟩) (World.block_lt_of_cell? _ _ h.2.2.1)).trans h.2.2.1, (hb.cell (p := ⟨B', k * 2 + 1, none⟩) (World.block_lt_of_cell? _ _ h.2.2.2.1)).trans h.2.2.2.1, h.2.2.2.2.trans (hb.mono h.2.2.2.2.size)⟩

set_option maxHeartbeats 1000000 in
/-- 'eqAskS' of two rows with the same questions. -/
theorem eqAskS_same (A A' : Option Addr) (L C C' B B' : Nat) (f g : Nat → Int) (w : World) (hL : L ≤ 1048576) (HR : Hid (AskR w A L B f g)) (HR' : Hid (AskR w A' L B' f g)) :
    Calls Tryd.prog 35 #[.slice A L C, .slice A' L C'] w fun e w' => e = .returned (.bool true) ∧ Below w.heap.size w w' := by
  go_enter Tryd.func35, Tryd.ntmps35
  go_wp2
  go_loopw [5] (fun i wr => ∃ k : Nat, k ≤ L ∧ i = .int .i64 k ∧ Hid (Below w.heap.size w wr)) (fun i _ => L - (intOf i).toNat)
  case atStart => exact ⟨0, Nat.zero_le _, rfl, Below.refl _ _⟩
  case round =>
    obtain ⟨k, hk, rfl, HW⟩ := hrel
    by_cases hlt : k < L
    · obtain ⟨e1, v1, v2⟩ := HR.out.below HW.out k hlt
      obtain ⟨e2, v3, v4⟩ := HR'.out.below HW.out k hlt
      subst e1 e2
      have ik : (k : Int) < (L : Int) := by omega
      have hS0 : wr.drew.cell? ⟨B, k * 2, none⟩ = some (.int .i64 (f k)) ∧ wr.drew.cell? ⟨B, k * 2 + 1, none⟩ = some (.int .i64 (g k)) ∧ wr.drew.cell? ⟨B', k * 2, none⟩ = some (.int .i64 (f k)) ∧ wr.drew.cell? ⟨B', k * 2 + 1, none⟩ = some (.int .i64 (g k)) ∧ Below w.heap.size w wr.drew := ⟨v1, v2, v3, v4, HW.out.drew⟩
      go_wp2_with fail
      go_region_held3 (fun w' => w'.cell? ⟨B, k * 2, none⟩ = some (.int .i64 (f k)) ∧ w'.cell? ⟨B, k * 2 + 1, none⟩ = some (.int .i64 (g k)) ∧ w'.cell? ⟨B', k * 2, none⟩ = some (.int .i64 (f k)) ∧ w'.cell? ⟨B', k * 2 + 1, none⟩ = some (.int .i64 (g k)) ∧ Below w.heap.size w w')
        (first | assumption | exact keep4 (by assumption) hb2)
        ((go_at_call 47; refine (eqAsk_same (f k) (g k) _).mono ?_; rintro e w2 ⟨rfl, hb2⟩))
      have HB2 : Hid (Below w.heap.size w w2) := HW.out.drew.trans (hb2.mono HW.out.size)
      go_wp2
      go_roundw
      case rel => exact ⟨k + 1, by omega, by go_num, HB2⟩
      case measure => simp [intOf]; omega
    · go_wp2
      go_ret
      exact ⟨rfl, HW.out⟩

end Go.Proofs.YtgflalfiopnmnaaDoor
