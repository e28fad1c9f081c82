import Derived.Test.YtgflalfiopnmnaaDoorRkMat
namespace Go.Proofs.YtgflalfiopnmnaaDoor
open Go.RowKit Rk

/-- The call answers whether p. -/
def Says (p : Prop) (e : Ending) : Prop := ∃ b : Bool, e = .returned (.bool b) ∧ (b = true ↔ p)
theorem says_true {p : Prop} (h : p) : Says p (.returned (.bool true)) := ⟨true, rfl, by simp [h]⟩
theorem says_false {p : Prop} (h : ¬ p) : Says p (.returned (.bool false)) := ⟨false, rfl, by simp [h]⟩

theorem sq_len {n : Nat} {L : Nat → Nat} {M : Nat → Nat → Int} {k : Nat} (hk : k < n) (h : ¬ L k = n) : ¬ Sq n L M := fun s => h (s.2 k hk).1
theorem sq_lo {n : Nat} {L : Nat → Nat} {M : Nat → Nat → Int} {k c : Nat} (hk : k < n) (hc : c < n) (h : M k c < 0) : ¬ Sq n L M := fun s => by have := ((s.2 k hk).2 c hc).1; omega
theorem sq_hi {n : Nat} {L : Nat → Nat} {M : Nat → Nat → Int} {k c : Nat} (hk : k < n) (hc : c < n) (h : 2 < M k c) : ¬ Sq n L M := fun s => by have := ((s.2 k hk).2 c hc).2; omega
theorem below_succ {p : Nat → Prop} {k : Nat} (h : ∀ x, x < k → p x) (hk : p k) : ∀ x, x < k + 1 → p x := fun x hx => by
  by_cases e : x = k
  · subst e; exact hk
  · exact h x (by omega)

set_option maxHeartbeats 1000000 in
/-- 'l1square'. -/
theorem specSq_any (ga : Option Addr) (gb go n cp : Nat) (A : Nat → Option Addr) (L C RB RO : Nat → Nat) (M : Nat → Nat → Int) (w : World) (hga : 0 < n → ga = some ⟨gb, go, none⟩)
    (hn : n ≤ 1048576) (hL : ∀ r, r < n → L r ≤ 1048576) (hM : MatR w gb go n A L C RB RO M) :
    Calls Tryd.prog 27 #[.slice ga n cp] w fun e w' => Says (Sq n L M) e ∧ w' = w := by
  by_cases h200 : 200 < n
  · go_enter Tryd.func27, Tryd.ntmps27
    go_wp2
    go_ret
    exact ⟨says_false fun s => by have := s.1; omega, rfl⟩
  · go_enter Tryd.func27, Tryd.ntmps27
    go_wp2
    go_loop [14] (fun i => ∃ k : Nat, k ≤ n ∧ i = .int .i64 k ∧ Hid (∀ r, r < k → L r = n ∧ ∀ c, c < n → 0 ≤ M r c ∧ M r c ≤ 2)) (fun i => n - (intOf i).toNat)
    case atStart => exact ⟨0, Nat.zero_le _, rfl, fun r hr => absurd hr (Nat.not_lt_zero _)⟩
    case round =>
      obtain ⟨k, hk, rfl, HP⟩ := hrel
      by_cases hlt : k < n
      · obtain rfl := hga (by omega)
        have hc := hM.top k hlt
        have hrow : RowR w (A k) (L k) (RB k) (RO k) (M k) := hM.row k hlt
        have hLk := hL k hlt
        clear hM hL
        obtain ⟨l, hl⟩ : ∃ l, L k = l := ⟨_, rfl⟩
        obtain ⟨Ak, hAk⟩ : ∃ a, A k = a := ⟨_, rfl⟩
        rw [hl] at hc hrow hLk
        rw [hAk] at hc hrow
        clear hAk
        have Hl : Hid (L k = l) := hl
        clear hl
        by_cases hLn : l = n
        · subst hLn
          go_wp2
          go_loop [24] (fun i => ∃ c : Nat, c ≤ l ∧ i = .int .i64 c ∧ Hid (∀ x, x < c → 0 ≤ M k x ∧ M k x ≤ 2)) (fun i => l - (intOf i).toNat)
          case atStart => exact ⟨0, Nat.zero_le _, rfl, fun r hr => absurd hr (Nat.not_lt_zero _)⟩
          case round =>
            obtain ⟨c, hcl, rfl, HQ⟩ := hrel
            by_cases hct : c < l
            · obtain ⟨rfl, hv⟩ := hrow c hct
              clear hrow
              by_cases h0 : M k c < 0
              · go_wp2
                go_ret
                exact ⟨says_false (sq_lo hlt hct h0), rfl⟩
              · by_cases h2 : 2 < M k c
                · go_wp2
                  go_ret
                  exact ⟨says_false (sq_hi hlt hct h2), rfl⟩
                · go_wp2
                  go_round
                  case rel => exact ⟨c + 1, by omega, by go_num, below_succ HQ.out ⟨by omega, by omega⟩⟩
                  case measure => simp [intOf]; omega
            · have HC : Hid (c = l) := show c = l by omega
              go_wp2
              go_round
              case rel => exact ⟨k + 1, by omega, by go_num, below_succ HP.out ⟨Hl.out, by rw [← HC.out]; exact HQ.out⟩⟩
              case measure => simp [intOf]; omega
        · have hb : ((l : Int) != (n : Int)) = true := by simp; omega
          go_wp2
          go_ret
          exact ⟨says_false (sq_len hlt (by rw [Hl.out]; exact hLn)), rfl⟩
      · obtain rfl : k = n := by omega
        go_wp2
        go_ret
        exact ⟨says_true ⟨by omega, HP.out⟩, rfl⟩

set_option maxHeartbeats 1000000 in
/-- 'isSquare'. -/
theorem implSq_any (ga : Option Addr) (gb go n cp : Nat) (A : Nat → Option Addr) (L C RB RO : Nat → Nat) (M : Nat → Nat → Int) (w : World) (hga : 0 < n → ga = some ⟨gb, go, none⟩)
    (hn : n ≤ 1048576) (hL : ∀ r, r < n → L r ≤ 1048576) (hM : MatR w gb go n A L C RB RO M) :
    Calls Tryd.prog 24 #[.slice ga n cp] w fun e w' => Says (Sq n L M) e ∧ w' = w := by
  by_cases h200 : 200 < n
  · go_enter Tryd.func24, Tryd.ntmps24
    go_wp2
    go_ret
    exact ⟨says_false fun s => by have := s.1; omega, rfl⟩
  · go_enter Tryd.func24, Tryd.ntmps24
    go_wp2
    go_loop [12] (fun i => ∃ k : Nat, k ≤ n ∧ i = .int .i64 k ∧ Hid (∀ r, r < k → L r = n ∧ ∀ c, c < n → 0 ≤ M r c ∧ M r c ≤ 2)) (fun i => n - (intOf i).toNat)
    case atStart => exact ⟨0, Nat.zero_le _, rfl, fun r hr => absurd hr (Nat.not_lt_zero _)⟩
    case round =>
      obtain ⟨k, hk, rfl, HP⟩ := hrel
      by_cases hlt : k < n
      · obtain rfl := hga (by omega)
        have hc := hM.top k hlt
        have hrow : RowR w (A k) (L k) (RB k) (RO k) (M k) := hM.row k hlt
        have hLk := hL k hlt
        clear hM hL
        obtain ⟨l, hl⟩ : ∃ l, L k = l := ⟨_, rfl⟩
        obtain ⟨Ak, hAk⟩ : ∃ a, A k = a := ⟨_, rfl⟩
        rw [hl] at hc hrow hLk
        rw [hAk] at hc hrow
        clear hAk
        have Hl : Hid (L k = l) := hl
        clear hl
        by_cases hLn : l = n
        · subst hLn
          go_wp2
          go_loop [23] (fun i => ∃ c : Nat, c ≤ l ∧ i = .int .i64 c ∧ Hid (∀ x, x < c → 0 ≤ M k x ∧ M k x ≤ 2)) (fun i => l - (intOf i).toNat)
          case atStart => exact ⟨0, Nat.zero_le _, rfl, fun r hr => absurd hr (Nat.not_lt_zero _)⟩
          case round =>
            obtain ⟨c, hcl, rfl, HQ⟩ := hrel
            by_cases hct : c < l
            · obtain ⟨rfl, hv⟩ := hrow c hct
              clear hrow
              by_cases h0 : M k c < 0
              · go_wp2
                go_ret
                exact ⟨says_false (sq_lo hlt hct h0), rfl⟩
              · by_cases h2 : 2 < M k c
                · go_wp2
                  go_ret
                  exact ⟨says_false (sq_hi hlt hct h2), rfl⟩
                · go_wp2
                  go_round
                  case rel => exact ⟨c + 1, by omega, by go_num, below_succ HQ.out ⟨by omega, by omega⟩⟩
                  case measure => simp [intOf]; omega
            · have HC : Hid (c = l) := show c = l by omega
              go_wp2
              go_round
              case rel => exact ⟨k + 1, by omega, by go_num, below_succ HP.out ⟨Hl.out, by rw [← HC.out]; exact HQ.out⟩⟩
              case measure => simp [intOf]; omega
        · have hb : ((l : Int) != (n : Int)) = true := by simp; omega
          go_wp2
          go_ret
          exact ⟨says_false (sq_len hlt (by rw [Hl.out]; exact hLn)), rfl⟩
      · obtain rfl : k = n := by omega
        go_wp2
        go_ret
        exact ⟨says_true ⟨by omega, HP.out⟩, rfl⟩

end Go.Proofs.YtgflalfiopnmnaaDoor
