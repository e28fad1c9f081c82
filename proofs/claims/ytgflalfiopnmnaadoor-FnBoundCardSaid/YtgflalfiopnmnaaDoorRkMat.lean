import Derived.Test.YtgflalfiopnmnaaDoorProg
import Derived.Test.YtgflalfiopnmnaaDoorRk
import Derived.WalkKit
import Derived.WalkLawsBesides
import Derived.Deep.OwnRows
namespace Go.Proofs.YtgflalfiopnmnaaDoor
open Go.RowKit

/-- A slice of slices of numbers: row r lies at A r, has L r numbers, number c of it is M r c. -/
structure MatR (w : World) (gb go n : Nat) (A : Nat → Option Addr) (L C RB RO : Nat → Nat) (M : Nat → Nat → Int) : Prop where
  top : ∀ r, r < n → w.cell? ⟨gb, go + r, none⟩ = some (.slice (A r) (L r) (C r))
  row : ∀ r, r < n → ∀ c, c < L r → A r = some ⟨RB r, RO r, none⟩ ∧ w.cell? ⟨RB r, RO r + c, none⟩ = some (.int .i64 (M r c))

theorem MatR.below {w w' : World} {gb go n : Nat} {A : Nat → Option Addr} {L C RB RO : Nat → Nat} {M : Nat → Nat → Int} (h : MatR w gb go n A L C RB RO M) (hb : Below w.heap.size w w') : MatR w' gb go n A L C RB RO M :=
  ⟨fun r hr => (hb.cell (p := ⟨gb, go + r, none⟩) (World.block_lt_of_cell? _ _ (h.top r hr))).trans (h.top r hr),
   fun r hr c hc => ⟨(h.row r hr c hc).1, (hb.cell (p := ⟨RB r, RO r + c, none⟩) (World.block_lt_of_cell? _ _ (h.row r hr c hc).2)).trans (h.row r hr c hc).2⟩⟩

/-- One row alone. -/
def RowR (w : World) (A : Option Addr) (L B O : Nat) (f : Nat → Int) : Prop := ∀ c, c < L → A = some ⟨B, O, none⟩ ∧ w.cell? ⟨B, O + c, none⟩ = some (.int .i64 (f c))

theorem RowR.below {w w' : World} {A : Option Addr} {L B O : Nat} {f : Nat → Int} (h : RowR w A L B O f) (hb : Below w.heap.size w w') : RowR w' A L B O f :=
  fun c hc => ⟨(h c hc).1, (hb.cell (p := ⟨B, O + c, none⟩) (World.block_lt_of_cell? _ _ (h c hc).2)).trans (h c hc).2⟩

theorem Tryd.info3 : (Tryd.prog.info? 3).map (fun i => (i.zero, i.size, i.bytes)) = some (some (.int .i64 0), 1, 8) := by kernel_rfl
theorem Tryd.info25 : (Tryd.prog.info? 25).map (fun i => (i.zero, i.size, i.bytes)) = some (some (.slice none 0 0), 1, 24) := by kernel_rfl

/-- 'szIntS'. -/
theorem szS_any (A : Option Addr) (L C : Nat) (k : Int) (w : World) (hk0 : 0 ≤ k) (hk1 : k ≤ 1048576) (hL : L ≤ 9223372036854775807) :
    Calls Tryd.prog 32 #[.slice A L C, .int .i64 k] w fun e w' => e = .returned (.int .i64 (if k < L then -1 else k - L)) ∧ w' = w := by
  by_cases h : k - L < 0
  · rw [if_pos (by omega)]
    go_enter Tryd.func32, Tryd.ntmps32
    go_wp2
    go_ret
    exact ⟨rfl, rfl⟩
  · rw [if_neg (by omega)]
    go_enter Tryd.func32, Tryd.ntmps32
    go_wp2
    go_ret
    exact ⟨rfl, rfl⟩

/-- 'szIntSS': what is not too much has at most so many rows, each of at most so many numbers. -/
theorem szSS_any (ga : Option Addr) (gb go n cp : Nat) (A : Nat → Option Addr) (L C RB RO : Nat → Nat) (M : Nat → Nat → Int) (w : World) (hga : 0 < n → ga = some ⟨gb, go, none⟩)
    (hn : n ≤ 9223372036854775807) (hL : ∀ r, r < n → L r ≤ 9223372036854775807) (hM : MatR w gb go n A L C RB RO M) :
    Calls Tryd.prog 16 #[.slice ga n cp, .int .i64 1048576] w fun e w' => ∃ k : Int, e = .returned (.int .i64 k) ∧ w' = w ∧ (0 ≤ k → n ≤ 1048576 ∧ ∀ r, r < n → L r ≤ 1048576) := by
  by_cases h : (1048576 : Int) - n < 0
  · go_enter Tryd.func16, Tryd.ntmps16
    go_wp2
    go_ret
    exact ⟨_, rfl, rfl, fun h => by omega⟩
  · go_enter Tryd.func16, Tryd.ntmps16
    go_wp2
    go_loop [1, 5] (fun l i => ∃ (k : Nat) (q : Int), k ≤ n ∧ i = .int .i64 k ∧ l = .int .i64 q ∧ 0 ≤ q ∧ q ≤ 1048576 ∧ Hid (∀ r, r < k → L r ≤ 1048576)) (fun _ i => n - (intOf i).toNat)
    case atStart => exact ⟨0, _, Nat.zero_le _, rfl, rfl, by omega, by omega, fun r hr => absurd hr (Nat.not_lt_zero _)⟩
    case round =>
      obtain ⟨k, q, hk, rfl, rfl, hq0, hq1, HL⟩ := hrel
      by_cases hlt : k < n
      · obtain rfl := hga (by omega)
        have hc := hM.top k hlt
        have hLk := hL k hlt
        clear hL hM
        by_cases hq : q < L k
        · go_wp2_with (go_at_call 32; refine (szS_any _ _ _ _ _ hq0 hq1 hLk).mono ?_; rintro e w' ⟨rfl, rfl⟩)
          go_ret
          exact ⟨_, rfl, rfl, fun h => by omega⟩
        · go_wp2_with (go_at_call 32; refine (szS_any _ _ _ _ _ hq0 hq1 hLk).mono ?_; rintro e w' ⟨rfl, rfl⟩)
          go_round
          case rel => exact ⟨k + 1, q - L k, by omega, by go_num, by rw [if_neg (by omega)], by omega, by omega, fun r hr => by
            by_cases e : r = k
            · subst e; omega
            · exact HL.out r (by omega)⟩
          case measure => simp [intOf]; omega
      · have HK : Hid (k = n) := show k = n by omega
        go_wp2
        go_ret
        exact ⟨_, rfl, rfl, fun _ => ⟨by omega, by rw [← HK.out]; exact HL.out⟩⟩

end Go.Proofs.YtgflalfiopnmnaaDoor
