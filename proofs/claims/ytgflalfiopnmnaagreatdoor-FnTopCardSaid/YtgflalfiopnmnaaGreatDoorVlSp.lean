import Derived.Test.YtgflalfiopnmnaaGreatDoorVlOf2
namespace Go.Proofs.YtgflalfiopnmnaaGreatDoor
open Go.RowKit Vl

set_option maxHeartbeats 1000000 in
set_option maxRecDepth 100000 in
/-- 'l2val'. -/
theorem l2val_any (k0 n0 : Int) (s0 : ByteArray) (a0 : Int) (ta : Option Addr) (m cp : Nat) (v : V) (w : World) :
    Calls Tryz.prog 42 #[.agg #[.int .i64 k0, .int .i64 n0, .string s0, .int .i64 a0, .slice ta m cp], .agg #[.int .i64 v.k, .int .i64 v.n, .string v.s, .int .i64 v.a]] w fun e w' => e = .returned (.bool (isV m v)) ∧ Below w.heap.size w w' := by
  obtain ⟨k, n, s, a⟩ := v
  simp only
  have hes : (ByteArray.mk #[]).toList = [] := by rw [ByteArray.toList_eq]
  have hbel : Hid (Below w.heap.size w ((w.alloc (Obj.cells #[.int .i64 k0, .int .i64 n0, .string s0, .int .i64 a0, .slice ta m cp] 27)).alloc (Obj.cells #[.int .i64 k, .int .i64 n, .string s, .int .i64 a] 24))) := ((Below.refl _ _).alloc (Nat.le_refl _) _).alloc (by simp) _
  by_cases k0 : k = 0
  · subst k0
    obtain ⟨b1, h1⟩ : ∃ b, (n == 0) = b := ⟨_, rfl⟩
    obtain ⟨b2, h2⟩ : ∃ b, (s.toList == []) = b := ⟨_, rfl⟩
    obtain ⟨b3, h3⟩ : ∃ b, (a == 0) = b := ⟨_, rfl⟩
    have e : isV m ⟨0, n, s, a⟩ = (b1 && (b2 && b3)) := by rw [← h1, ← h2, ← h3]; rfl
    rw [e]
    clear e
    cases b1 <;> cases b2 <;> cases b3
    all_goals
      go_enter Tryz.func42, Tryz.ntmps42
      go_wp2
      go_ret
      exact ⟨rfl, hbel.out⟩
  by_cases k1 : k = 1
  · subst k1
    obtain ⟨b1, h1⟩ : ∃ b, (n == 0) = b := ⟨_, rfl⟩
    obtain ⟨b1', h1'⟩ : ∃ b, (n == 1) = b := ⟨_, rfl⟩
    obtain ⟨b2, h2⟩ : ∃ b, (s.toList == []) = b := ⟨_, rfl⟩
    obtain ⟨b3, h3⟩ : ∃ b, (a == 0) = b := ⟨_, rfl⟩
    have e : isV m ⟨1, n, s, a⟩ = ((b1 || b1') && (b2 && b3)) := by rw [← h1, ← h1', ← h2, ← h3]; rfl
    rw [e]
    clear e
    cases b1 <;> cases b1' <;> cases b2 <;> cases b3
    all_goals
      go_enter Tryz.func42, Tryz.ntmps42
      go_wp2
      go_ret
      exact ⟨rfl, hbel.out⟩
  by_cases k2 : k = 2
  · subst k2
    obtain ⟨b2, h2⟩ : ∃ b, (s.toList == []) = b := ⟨_, rfl⟩
    obtain ⟨b3, h3⟩ : ∃ b, (a == 0) = b := ⟨_, rfl⟩
    have e : isV m ⟨2, n, s, a⟩ = (b2 && b3) := by rw [← h2, ← h3]; rfl
    rw [e]
    clear e
    cases b2 <;> cases b3
    all_goals
      go_enter Tryz.func42, Tryz.ntmps42
      go_wp2
      go_ret
      exact ⟨rfl, hbel.out⟩
  by_cases k3 : k = 3
  · subst k3
    obtain ⟨b1, h1⟩ : ∃ b, (n == 0) = b := ⟨_, rfl⟩
    obtain ⟨b3, h3⟩ : ∃ b, (a == 0) = b := ⟨_, rfl⟩
    obtain ⟨b2, h2⟩ : ∃ b, decide ((s.size : Int) ≤ 500) = b := ⟨_, rfl⟩
    have e : isV m ⟨3, n, s, a⟩ = (b1 && (b3 && b2)) := by
      have : decide (s.size ≤ 500) = decide ((s.size : Int) ≤ 500) := by rw [decide_eq_decide]; omega
      rw [← h1, ← h2, ← h3, ← this]; rfl
    rw [e]
    clear e
    cases b1 <;> cases b2 <;> cases b3
    all_goals
      go_enter Tryz.func42, Tryz.ntmps42
      go_wp2
      go_ret
      exact ⟨rfl, hbel.out⟩
  by_cases k4 : k = 4
  · subst k4
    obtain ⟨b1, h1⟩ : ∃ b, (n == 0) = b := ⟨_, rfl⟩
    obtain ⟨b2, h2⟩ : ∃ b, (s.toList == []) = b := ⟨_, rfl⟩
    obtain ⟨b3, h3⟩ : ∃ b, decide (0 ≤ a) = b := ⟨_, rfl⟩
    obtain ⟨b4, h4⟩ : ∃ b, decide (a < (m : Int)) = b := ⟨_, rfl⟩
    have e : isV m ⟨4, n, s, a⟩ = (b1 && (b2 && (b3 && b4))) := by rw [← h1, ← h2, ← h3, ← h4]; rfl
    rw [e]
    clear e
    cases b1 <;> cases b2 <;> cases b3 <;> cases b4
    all_goals
      go_enter Tryz.func42, Tryz.ntmps42
      go_wp2
      go_ret
      exact ⟨rfl, hbel.out⟩
  · have hno : isV m ⟨k, n, s, a⟩ = false := by simp [isV, k0, k1, k2, k3, k4]
    rw [hno]
    have h0 : (k == 0) = false := by simpa using k0
    have h1 : (k == 1) = false := by simpa using k1
    have h2 : (k == 2) = false := by simpa using k2
    have h3 : (k == 3) = false := by simpa using k3
    have h4 : (k == 4) = false := by simpa using k4
    clear hno k0 k1 k2 k3 k4
    go_enter Tryz.func42, Tryz.ntmps42
    go_wp2
    go_ret
    exact ⟨rfl, hbel.out⟩

set_option maxHeartbeats 1000000 in
/-- 'l2key'. -/
theorem l2key_any (v : V) (w : World) :
    Calls Tryz.prog 43 #[.agg #[.int .i64 v.k, .int .i64 v.n, .string v.s, .int .i64 v.a]] w fun e w' => e = .returned (.bool (isK v)) ∧ Below w.heap.size w w' := by
  obtain ⟨k, n, s, a⟩ := v
  simp only
  have hof := fun w => l2val_any 0 0 ⟨#[]⟩ 0 none 0 0 ⟨k, n, s, a⟩ w
  have hb0 : Hid (Below w.heap.size w (w.alloc (Obj.cells #[.int .i64 k, .int .i64 n, .string s, .int .i64 a] 24))) := (Below.refl _ _).alloc (Nat.le_refl _) _
  obtain ⟨b1, h1⟩ : ∃ b, (k == 1) = b := ⟨_, rfl⟩
  obtain ⟨b2, h2⟩ : ∃ b, (k == 2) = b := ⟨_, rfl⟩
  obtain ⟨b3, h3⟩ : ∃ b, (k == 3) = b := ⟨_, rfl⟩
  have e : isK ⟨k, n, s, a⟩ = ((b1 || b2 || b3) && isV 0 ⟨k, n, s, a⟩) := by rw [← h1, ← h2, ← h3]; rfl
  rw [e]
  clear e
  by_cases hk : (b1 || b2 || b3) = true
  · rw [hk, Bool.true_and]
    cases b1 <;> cases b2 <;> cases b3
    all_goals first | (exfalso; revert hk; decide) | skip
    all_goals
      go_enter Tryz.func43, Tryz.ntmps43
      go_wp2_with fail
      refine (hof _).mono ?_
      rintro e w1 ⟨rfl, hb1⟩
      go_wp2
      go_ret
      exact ⟨rfl, grw hb0.out hb1⟩
  · have hk' : (b1 || b2 || b3) = false := by simpa using hk
    rw [hk', Bool.false_and]
    cases b1 <;> cases b2 <;> cases b3
    all_goals first | (exfalso; revert hk; decide) | skip
    go_enter Tryz.func43, Tryz.ntmps43
    go_wp2
    go_ret
    exact ⟨rfl, hb0.out⟩

theorem boxes (w : World) (u v : V) : Below w.heap.size w ((w.alloc (Obj.cells #[.int .i64 u.k, .int .i64 u.n, .string u.s, .int .i64 u.a] 24)).alloc (Obj.cells #[.int .i64 v.k, .int .i64 v.n, .string v.s, .int .i64 v.a] 24)) :=
  ((Below.refl _ _).alloc (Nat.le_refl _) _).alloc (by simp) _


end Go.Proofs.YtgflalfiopnmnaaGreatDoor
