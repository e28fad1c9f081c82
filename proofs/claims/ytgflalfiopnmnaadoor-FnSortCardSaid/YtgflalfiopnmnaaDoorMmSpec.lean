import Derived.Test.YtgflalfiopnmnaaDoorProg
import Derived.Test.YtgflalfiopnmnaaDoorMm
import Derived.WalkKit
namespace Go.Proofs.YtgflalfiopnmnaaDoor
open Go.RowKit Mm
theorem ret_int {k : IntKind} {a b : Int} (h : a = b) : Ending.returned (.int k a) = .returned (.int k b) := by rw [h]

set_option maxHeartbeats 400000 in
theorem specMost_no (a : Int) (h : a < 0 ∨ 200 < a) (w : World) :
    Calls Tryd.prog 15 #[.int .i64 a] w fun e w' => e = .returned (.int .i64 (-1)) ∧ w' = w := by
  by_cases h0 : a < 0
  · go_enter Tryd.func15, Tryd.ntmps15
    go_wp2
    go_ret
    exact ⟨rfl, rfl⟩
  · have h1 : 200 < a := by omega
    go_enter Tryd.func15, Tryd.ntmps15
    go_wp2
    go_ret
    exact ⟨rfl, rfl⟩

set_option maxHeartbeats 1000000 in
theorem specMost_yes (n : Nat) (hn : n ≤ 200) (w : World) :
    Calls Tryd.prog 15 #[.int .i64 n] w fun e w' => e = .returned (.int .i64 (outer n 1 0 : Nat)) ∧ w' = w := by
  obtain ⟨V, HV⟩ : ∃ V, Hid (outer n 1 0 = V) := ⟨_, rfl⟩
  rw [HV.out]
  go_enter Tryd.func15, Tryd.ntmps15
  go_wp2
  go_loop [3, 4] (fun o t => ∃ s a : Nat, 0 < s ∧ s ≤ 400 ∧ a ≤ 100000 * s ∧ t = .int .i64 s ∧ o = .int .i64 a ∧ Hid (outer n s a = V)) (fun _ t => 400 - (intOf t).toNat)
  case atStart => exact ⟨1, 0, by omega, by omega, by omega, rfl, rfl, HV⟩
  case round =>
    obtain ⟨s, a, hs0, hs1, ha, rfl, rfl, HO⟩ := hrel
    by_cases hlt : s < n
    · obtain ⟨U, HU⟩ : ∃ U, Hid (inner n s 0 a = U) := ⟨_, rfl⟩
      have HN : Hid (outer n (2 * s) U = V) := by rw [← HU.out, ← outer_yes hlt hs0]; exact HO
      clear HO
      go_wp2
      go_loop [3, 5] (fun o t => ∃ f b : Nat, f ≤ 600 ∧ f < n + s ∧ b ≤ 100000 * s + 200 * f ∧ t = .int .i64 f ∧ o = .int .i64 b ∧ Hid (inner n s f b = U)) (fun _ t => 600 - (intOf t).toNat)
      case atStart => exact ⟨0, a, by omega, by omega, by omega, rfl, rfl, HU⟩
      case round =>
        obtain ⟨f, b, hf0, hf1, hb, rfl, rfl, HI⟩ := hrel
        by_cases hfl : f + s < n
        · have HM : Hid (inner n s (f + 2 * s) (b + (min (f + 2 * s) n - f - 1)) = U) := by rw [← inner_yes hfl hs0]; exact HI
          clear HI
          by_cases hg : n < f + 2 * s
          all_goals
            go_wp2
            go_round
            case rel => exact ⟨f + 2 * s, b + (min (f + 2 * s) n - f - 1), by omega, by omega, by omega, by go_num, by go_num, HM⟩
            case measure => simp [intOf]; omega
        · have HE : Hid (b = U) := by rw [← HI.out, inner_no hfl]; rfl
          clear HI
          go_wp2
          go_round
          case rel => exact ⟨2 * s, b, by omega, by omega, by omega, by go_num, rfl, by rw [HE.out]; exact HN⟩
          case measure => simp [intOf]; omega
    · have HE : Hid (a = V) := by rw [← HO.out, outer_no hlt]; rfl
      clear HO
      go_wp2
      go_ret
      exact ⟨ret_int (by rw [HE.out]), rfl⟩
end Go.Proofs.YtgflalfiopnmnaaDoor
