import Derived.Test.YtgflalfiopnmnaaDoorRkMat
import Derived.BigQuiet
import Derived.WalkSmall
namespace Go.Proofs.YtgflalfiopnmnaaDoor
open Go.RowKit Rk

theorem RowR.drew {w : World} {A : Option Addr} {L B O : Nat} {f : Nat → Int} (h : RowR w A L B O f) (m : Nat) : RowR (w.drewN m) A L B O f := h.below (below_drewN (Below.refl _ _) m)
theorem MatR.drew {w : World} {gb go n : Nat} {A : Nat → Option Addr} {L C RB RO : Nat → Nat} {M : Nat → Nat → Int} (h : MatR w gb go n A L C RB RO M) (m : Nat) : MatR (w.drewN m) gb go n A L C RB RO M := h.below (below_drewN (Below.refl _ _) m)

set_option maxHeartbeats 1000000 in
/-- 'eqIntS' of two rows with the same numbers. -/
theorem eqS_same (A A' : Option Addr) (L C C' B O B' O' : Nat) (f : Nat → Int) (w : World) (hL : L ≤ 1048576) (hr : RowR w A L B O f) (hr' : RowR w A' L B' O' f) :
    Calls Tryd.prog 34 #[.slice A L C, .slice A' L C'] w fun e w' => e = .returned (.bool true) ∧ ∃ m, w' = w.drewN m := by
  go_enter Tryd.func34, Tryd.ntmps34
  go_wp2
  go_loopw [5] (fun i wr => ∃ k m : Nat, k ≤ L ∧ i = .int .i64 k ∧ wr = w.drewN m) (fun i _ => L - (intOf i).toNat)
  case atStart => exact ⟨0, 0, Nat.zero_le _, rfl, rfl⟩
  case round =>
    obtain ⟨k, m, hk, rfl, rfl⟩ := hrel
    by_cases hlt : k < L
    · obtain ⟨rfl, v⟩ := hr k hlt
      obtain ⟨rfl, v'⟩ := hr' k hlt
      clear hr hr'
      have ik : (k : Int) < (L : Int) := by omega
      go_wp2_with fail
      go_quiet (fail)
      go_wp2
      go_roundw
      case rel => exact ⟨k + 1, m + nq, by omega, by go_num, rfl⟩
      case measure => simp [intOf]; omega
    · go_wp2
      go_ret
      exact ⟨rfl, m, rfl⟩

set_option maxHeartbeats 1000000 in
/-- 'eqIntSS' of two with the same numbers. -/
theorem eqSS_same (ga ga' : Option Addr) (gb go gb' go' n cp cp' : Nat) (A A' : Nat → Option Addr) (L C C' RB RO RB' RO' : Nat → Nat) (M : Nat → Nat → Int) (w : World)
    (hga : 0 < n → ga = some ⟨gb, go, none⟩) (hga' : 0 < n → ga' = some ⟨gb', go', none⟩) (hn : n ≤ 1048576) (hL : ∀ r, r < n → L r ≤ 1048576) (hM : MatR w gb go n A L C RB RO M) (hM' : MatR w gb' go' n A' L C' RB' RO' M) :
    Calls Tryd.prog 19 #[.slice ga n cp, .slice ga' n cp'] w fun e w' => e = .returned (.bool true) ∧ ∃ m, w' = w.drewN m := by
  go_enter Tryd.func19, Tryd.ntmps19
  go_wp2
  go_loopw [5] (fun i wr => ∃ k : Nat, k ≤ n ∧ i = .int .i64 k ∧ Hid (∃ m, wr = w.drewN m)) (fun i _ => n - (intOf i).toNat)
  case atStart => exact ⟨0, Nat.zero_le _, rfl, 0, rfl⟩
  case round =>
    obtain ⟨k, hk, rfl, HW⟩ := hrel
    by_cases hlt : k < n
    · obtain rfl := hga (by omega)
      obtain rfl := hga' (by omega)
      have hb : Below w.heap.size w wr := by
        obtain ⟨m, rfl⟩ := HW.out
        exact below_drewN (Below.refl _ _) m
      have t := (hM.below hb).top k hlt
      have t' := (hM'.below hb).top k hlt
      have HR : Hid (RowR wr (A k) (L k) (RB k) (RO k) (M k)) := (hM.below hb).row k hlt
      have HR' : Hid (RowR wr (A' k) (L k) (RB' k) (RO' k) (M k)) := (hM'.below hb).row k hlt
      have hLk := hL k hlt
      clear hM hM' hL hb
      have ik : (k : Int) < (n : Int) := by omega
      go_wp2_with fail
      go_quiet ((go_at_call 34; refine Calls.quiet_of (eqS_same _ _ _ _ _ (RB k) (RO k) (RB' k) (RO' k) (M k) _ hLk (HR.out.drew _) (HR'.out.drew _))))
      go_wp2
      go_roundw
      case rel =>
        refine ⟨k + 1, by omega, by go_num, ?_⟩
        obtain ⟨m, hm⟩ := HW.out
        exact ⟨m + nq, by rw [hm, World.drewN_drewN]⟩
      case measure => simp [intOf]; omega
    · go_wp2
      go_ret
      exact ⟨rfl, HW.out⟩

end Go.Proofs.YtgflalfiopnmnaaDoor
