import Derived.Test.YtgflalfiopnmnaaGreatDoorVlOrd
import Derived.Test.YtgflalfiopnmnaaGreatDoorVlSp
namespace Go.Proofs.YtgflalfiopnmnaaGreatDoor
open Go.RowKit Vl

theorem nanI_any (a : Int) (w : World) : Calls Tryz.prog 147 #[.int .i64 a] w fun e w' => e = .returned (.bool false) ∧ w' = w := by
  go_enter Tryz.func147, Tryz.ntmps147
  go_wp2
  go_ret
  exact ⟨by simp, rfl⟩
theorem nanL_any (a : Int) (w : World) : Calls Tryz.prog 148 #[.int .i64 a] w fun e w' => e = .returned (.bool false) ∧ w' = w := by
  go_enter Tryz.func148, Tryz.ntmps148
  go_wp2
  go_ret
  exact ⟨by simp, rfl⟩
theorem nanS_any (a : ByteArray) (w : World) : Calls Tryz.prog 149 #[.string a] w fun e w' => e = .returned (.bool false) ∧ w' = w := by
  go_enter Tryz.func149, Tryz.ntmps149
  go_wp2
  go_ret
  exact ⟨by simp, rfl⟩

theorem cmpI_any (a b : Int) (w : World) : Calls Tryz.prog 112 #[.int .i64 a, .int .i64 b] w fun e w' => e = .returned (.int .i64 (cmpI a b)) ∧ w' = w := by
  unfold cmpI
  by_cases h1 : a < b
  · rw [if_pos h1]
    go_enter Tryz.func112, Tryz.ntmps112
    go_wp2_with (go_at_call 147; refine (nanI_any _ _).mono ?_; rintro e w' ⟨rfl, rfl⟩)
    go_ret
    exact ⟨rfl, rfl⟩
  · rw [if_neg h1]
    by_cases h2 : b < a
    · rw [if_pos h2]
      go_enter Tryz.func112, Tryz.ntmps112
      go_wp2_with (go_at_call 147; refine (nanI_any _ _).mono ?_; rintro e w' ⟨rfl, rfl⟩)
      go_ret
      exact ⟨rfl, rfl⟩
    · rw [if_neg h2]
      go_enter Tryz.func112, Tryz.ntmps112
      go_wp2_with (go_at_call 147; refine (nanI_any _ _).mono ?_; rintro e w' ⟨rfl, rfl⟩)
      go_ret
      exact ⟨rfl, rfl⟩

theorem cmpL_any (a b : Int) (w : World) : Calls Tryz.prog 113 #[.int .i64 a, .int .i64 b] w fun e w' => e = .returned (.int .i64 (cmpI a b)) ∧ w' = w := by
  unfold cmpI
  by_cases h1 : a < b
  · rw [if_pos h1]
    go_enter Tryz.func113, Tryz.ntmps113
    go_wp2_with (go_at_call 148; refine (nanL_any _ _).mono ?_; rintro e w' ⟨rfl, rfl⟩)
    go_ret
    exact ⟨rfl, rfl⟩
  · rw [if_neg h1]
    by_cases h2 : b < a
    · rw [if_pos h2]
      go_enter Tryz.func113, Tryz.ntmps113
      go_wp2_with (go_at_call 148; refine (nanL_any _ _).mono ?_; rintro e w' ⟨rfl, rfl⟩)
      go_ret
      exact ⟨rfl, rfl⟩
    · rw [if_neg h2]
      go_enter Tryz.func113, Tryz.ntmps113
      go_wp2_with (go_at_call 148; refine (nanL_any _ _).mono ?_; rintro e w' ⟨rfl, rfl⟩)
      go_ret
      exact ⟨rfl, rfl⟩

theorem cmpS_any (a b : ByteArray) (w : World) : Calls Tryz.prog 114 #[.string a, .string b] w fun e w' => e = .returned (.int .i64 (cmpS a b)) ∧ w' = w := by
  unfold cmpS
  obtain ⟨b1, h1⟩ : ∃ x, Op.bytesLess a.toList b.toList = x := ⟨_, rfl⟩
  obtain ⟨b2, h2⟩ : ∃ x, (a.toList == b.toList) = x := ⟨_, rfl⟩
  rw [h2, h1]
  cases b1 <;> cases b2
  all_goals
    go_enter Tryz.func114, Tryz.ntmps114
    go_wp2_with (go_at_call 149; refine (nanS_any _ _).mono ?_; rintro e w' ⟨rfl, rfl⟩)
    go_ret
    exact ⟨rfl, rfl⟩

def or3 (a b c : Int) (j : Nat) : Int := if j = 0 then a else if j = 1 then b else c

theorem or_any (a b c : Int) (B : Nat) (w : World) (h0 : w.cell? ⟨B, 0, none⟩ = some (.int .i64 a)) (h1 : w.cell? ⟨B, 1, none⟩ = some (.int .i64 b)) (h2 : w.cell? ⟨B, 2, none⟩ = some (.int .i64 c)) :
    Calls Tryz.prog 111 #[.slice (some ⟨B, 0, none⟩) 3 3] w fun e w' => e = .returned (.int .i64 (orI a b c)) ∧ w' = w := by
  have H : Hid (∀ j, j < 3 → w.cell? ⟨B, j, none⟩ = some (.int .i64 (or3 a b c j))) := show ∀ j, j < 3 → _ from fun j hj => by
    rcases (by omega : j = 0 ∨ j = 1 ∨ j = 2) with rfl | rfl | rfl
    · exact h0
    · exact h1
    · exact h2
  obtain ⟨r, HR⟩ : ∃ r, Hid (orI a b c = r) := ⟨_, rfl⟩
  rw [HR.out]
  clear h0 h1 h2
  go_enter Tryz.func111, Tryz.ntmps111
  go_wp2
  go_loop [8] (fun i => ∃ k : Nat, k ≤ 3 ∧ i = .int .i64 k ∧ Hid (∀ j, j < k → or3 a b c j = 0)) (fun i => 3 - (intOf i).toNat)
  case atStart => exact ⟨0, by omega, rfl, fun j hj => absurd hj (Nat.not_lt_zero _)⟩
  case round =>
    obtain ⟨k, hk, rfl, HZ⟩ := hrel
    by_cases hlt : k < 3
    · have hc := H.out k hlt
      obtain ⟨x, HX⟩ : ∃ x, Hid (or3 a b c k = x) := ⟨_, rfl⟩
      rw [HX.out] at hc
      by_cases hx : x = 0
      · subst hx
        have HZ' : Hid (∀ j, j < k + 1 → or3 a b c j = 0) := show ∀ j, j < k + 1 → or3 a b c j = 0 from fun j hj => by
          by_cases e : j = k
          · subst e; exact HX.out
          · exact HZ.out j (by omega)
        clear HZ HX
        go_wp2
        go_round
        case rel => exact ⟨k + 1, by omega, by go_num, HZ'⟩
        case measure => simp [intOf]; omega
      · have hr : Hid (x = r) := by
          rw [← HX.out, ← HR.out]
          have z := HZ.out
          rcases (by omega : k = 0 ∨ k = 1 ∨ k = 2) with rfl | rfl | rfl
          · have : a ≠ 0 := by rw [← HX.out] at hx; exact hx
            show or3 a b c 0 = orI a b c
            simp [orI, or3, this]
          · have e0 : a = 0 := z 0 (by omega)
            have : b ≠ 0 := by rw [← HX.out] at hx; exact hx
            show or3 a b c 1 = orI a b c
            simp [orI, or3, this, e0]
          · have e0 : a = 0 := z 0 (by omega)
            have e1 : b = 0 := z 1 (by omega)
            show or3 a b c 2 = orI a b c
            simp [orI, or3, e0, e1]
        have hne : (x != 0) = true := by simpa using hx
        clear HZ HX hx
        go_wp2
        go_ret
        exact ⟨by rw [← hr.out]; rfl, rfl⟩
    · have hr : Hid (0 = r) := by
        rw [← HR.out]
        have z := HZ.out
        have e0 : a = 0 := z 0 (by omega)
        have e1 : b = 0 := z 1 (by omega)
        have e2 : c = 0 := z 2 (by omega)
        show 0 = orI a b c
        simp [orI, e0, e1, e2]
      clear HZ
      go_wp2
      go_ret
      exact ⟨by rw [← hr.out]; rfl, rfl⟩

end Go.Proofs.YtgflalfiopnmnaaGreatDoor
