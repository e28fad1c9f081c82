import Derived.Test.YtgflalfiopnmnaaDoorXsRes
import Derived.Test.YtgflalfiopnmnaaDoorDsSq
namespace Go.Proofs.YtgflalfiopnmnaaDoor
open Go.RowKit Rk So

set_option maxHeartbeats 1000000 in
/-- 'wInts' of two rows with the same numbers. -/
theorem wInts_same (A A' : Option Addr) (L C C' B O B' O' : Nat) (f : Nat → Int) (w : World) (hL : L ≤ 1048576) (hr : RowR w A L B O f) (hr' : RowR w A' L B' O' f) :
    Calls Tryd.prog 9 #[.slice A L C, .slice A' L C'] w fun e w' => e = .returned (.bool true) ∧ ∃ m, w' = w.drewN m := by
  go_enter Tryd.func9, Tryd.ntmps9
  go_wp2
  go_loopw [13] (fun i wr => ∃ k m : Nat, k ≤ L ∧ i = .int .i64 k ∧ wr = w.drewN m) (fun i _ => L - (intOf i).toNat)
  case atStart => exact ⟨0, 0, Nat.zero_le _, rfl, rfl⟩
  case round =>
    obtain ⟨k, m, hk, rfl, rfl⟩ := hrel
    by_cases hlt : k < L
    · obtain ⟨rfl, v⟩ := hr k hlt
      obtain ⟨rfl, v'⟩ := hr' k hlt
      clear hr hr'
      have ik : (k : Int) < (L : Int) := by omega
      go_wp2_with fail
      go_quiet (fail)
      go_wp2
      go_roundw
      case rel => exact ⟨k + 1, m + nq, by omega, by go_num, rfl⟩
      case measure => simp [intOf]; omega
    · go_wp2
      go_ret
      exact ⟨rfl, m, rfl⟩

set_option maxHeartbeats 1000000 in
/-- 'wAsks' of two rows with the same questions. -/
theorem wAsks_same (A A' : Option Addr) (L C C' B B' : Nat) (f g : Nat → Int) (w : World) (hL : L ≤ 1048576) (hr : AskR w A L B f g) (hr' : AskR w A' L B' f g) :
    Calls Tryd.prog 10 #[.slice A L C, .slice A' L C'] w fun e w' => e = .returned (.bool true) ∧ ∃ m, w' = w.drewN m := by
  go_enter Tryd.func10, Tryd.ntmps10
  go_wp2
  go_loopw [13] (fun i wr => ∃ k m : Nat, k ≤ L ∧ i = .int .i64 k ∧ wr = w.drewN m) (fun i _ => L - (intOf i).toNat)
  case atStart => exact ⟨0, 0, Nat.zero_le _, rfl, rfl⟩
  case round =>
    obtain ⟨k, m, hk, rfl, rfl⟩ := hrel
    by_cases hlt : k < L
    · obtain ⟨rfl, v, u⟩ := hr k hlt
      obtain ⟨rfl, v', u'⟩ := hr' k hlt
      clear hr hr'
      have ik : (k : Int) < (L : Int) := by omega
      go_wp2_with fail
      go_quiet (fail)
      go_wp2
      go_roundw
      case rel => exact ⟨k + 1, m + nq, by omega, by go_num, rfl⟩
      case measure => simp [intOf]; omega
    · go_wp2
      go_ret
      exact ⟨rfl, m, rfl⟩

/-- 'DrawSort'. -/
theorem draw_any (w : World) (ca : Option Addr) (cl cc cb co : Nat) (HB : Hid (ByteR w ca cl cb co)) (hcb : cb < w.heap.size) (hcl : cl ≤ 1048576) :
    Calls Tryd.prog 6 #[.slice ca cl cc] w fun e w' => DrEnd w w' e := by
  go_enter Tryd.func6, Tryd.ntmps6
  go_wp2_with fail
  refine (square_any w ca cl cc cb co HB hcb hcl).mono ?_
  rintro e w1 ⟨n, v, L, B, M, h1, h2, rfl, h3, h4⟩
  have H1 : Hid _ := h3
  have H2 : Hid _ := h4
  clear h3 h4
  go_wp2
  go_ret
  exact ⟨n, v, L, B, M, h1, h2, rfl, H1.out, H2.out⟩

end Go.Proofs.YtgflalfiopnmnaaDoor
