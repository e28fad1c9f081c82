import Derived.Test.YtgflalfiopnmnabGrMem
namespace Go.Proofs.Ytgflalfiopnmnab
open Go.RowKit Vl

set_option maxHeartbeats 1000000 in
set_option maxRecDepth 100000 in
/-- 'szPairS': what is not too much has at most so many pairs, and its texts are not too long. -/
theorem szPairS_any (pa : Option Addr) (L C B O : Nat) (K X : Nat → V) (k : Int) (w : World) (hk0 : 0 ≤ k) (hk1 : k ≤ 1048576) (hL : L ≤ 9223372036854775807)
    (HS : Hid (∀ c, c < L → (K c).s.size ≤ 9223372036854775807 ∧ (X c).s.size ≤ 9223372036854775807)) (HP : Hid (PairsAt w pa L B O K X)) :
    Calls Try.prog 99 #[.slice pa L C, .int .i64 k] w fun e w' => (∃ q : Int, e = .returned (.int .i64 q) ∧ q ≤ k ∧ (0 ≤ q → L ≤ 1048576 ∧ ∀ c, c < L → (K c).s.size ≤ 1048576 ∧ (X c).s.size ≤ 1048576)) ∧ Below w.heap.size w w' := by
  by_cases h : k - L < 0
  · go_enter Try.func99, Try.ntmps99
    go_wp2
    go_ret
    exact ⟨⟨_, rfl, by omega, by omega⟩, Below.refl _ _⟩
  · go_enter Try.func99, Try.ntmps99
    go_wp2
    go_loopw [1, 5] (fun l i wr => ∃ (c : Nat) (q : Int), c ≤ L ∧ i = .int .i64 c ∧ l = .int .i64 q ∧ 0 ≤ q ∧ q ≤ k ∧ Hid (∀ j, j < c → (K j).s.size ≤ 1048576 ∧ (X j).s.size ≤ 1048576) ∧ Hid (Below w.heap.size w wr)) (fun _ i _ => L - (intOf i).toNat)
    case atStart => exact ⟨0, _, Nat.zero_le _, rfl, rfl, by omega, by omega, fun r hr => absurd hr (Nat.not_lt_zero _), Below.refl _ _⟩
    case round =>
      obtain ⟨c, q, hc, rfl, rfl, hq0, hq1, HZ, HW⟩ := hrel
      by_cases hlt : c < L
      · obtain rfl := HP.out.top (by omega)
        obtain ⟨⟨k0, k1, k2, k3⟩, ⟨x0, x1, x2, x3⟩⟩ := (HP.out.below HW.out).cells hlt
        have hs := HS.out c hlt
        go_wp2_with fail
        refine (szPair_any (K c) (X c) q _ hq0 (by omega) hs.1 hs.2).mono ?_
        rintro e w1 ⟨⟨q1, rfl, hq2, hq3⟩, hb1⟩
        have HW1 : Hid (Below w.heap.size w w1) := grw HW.out hb1
        clear hb1 HW k0 k1 k2 k3 x0 x1 x2 x3 hs
        by_cases hq : q1 < 0
        · clear hq3
          go_wp2
          go_ret
          exact ⟨⟨_, rfl, by omega, by omega⟩, HW1.out⟩
        · have HZ1 : Hid (∀ j, j < c + 1 → (K j).s.size ≤ 1048576 ∧ (X j).s.size ≤ 1048576) := show ∀ j, j < c + 1 → _ from fun j hj => by
            by_cases e : j = c
            · subst e; exact hq3 (by omega)
            · exact HZ.out j (by omega)
          clear hq3 HZ
          go_wp2
          go_roundw
          case rel => exact ⟨c + 1, q1, by omega, by go_num, rfl, by omega, by omega, HZ1, HW1⟩
          case measure => simp [intOf]; omega
      · have HK : Hid (c = L) := show c = L by omega
        go_wp2
        go_ret
        exact ⟨⟨_, rfl, by omega, fun _ => ⟨by omega, by rw [← HK.out]; exact HZ.out⟩⟩, HW.out⟩

/-- 'szTable'. -/
theorem szTable_any (pa : Option Addr) (L C B O : Nat) (K X : Nat → V) (k : Int) (w : World) (hk0 : 0 ≤ k) (hk1 : k ≤ 1048576) (hL : L ≤ 9223372036854775807)
    (HS : Hid (∀ c, c < L → (K c).s.size ≤ 9223372036854775807 ∧ (X c).s.size ≤ 9223372036854775807)) (HP : Hid (PairsAt w pa L B O K X)) :
    Calls Try.prog 75 #[.agg #[.slice pa L C], .int .i64 k] w fun e w' => (∃ q : Int, e = .returned (.int .i64 q) ∧ q ≤ k ∧ (0 ≤ q → L ≤ 1048576 ∧ ∀ c, c < L → (K c).s.size ≤ 1048576 ∧ (X c).s.size ≤ 1048576)) ∧ Below w.heap.size w w' := by
  have hb0 : Hid (Below w.heap.size w (w.alloc (Obj.cells #[.slice pa L C] 125))) := (Below.refl _ _).alloc (Nat.le_refl _) _
  have hs := szPairS_any pa L C B O K X k _ hk0 hk1 hL HS (HP.out.below hb0.out)
  go_enter Try.func75, Try.ntmps75
  go_wp2_with fail
  refine hs.mono ?_
  clear hs
  rintro e w1 ⟨⟨q1, rfl, hq2, hq3⟩, hb1⟩
  have HW1 : Hid (Below w.heap.size w w1) := grw hb0.out hb1
  have HQ3 : Hid _ := hq3
  clear hb1 hb0 hq3
  by_cases hq : q1 < 0
  · go_wp2
    go_ret
    exact ⟨⟨_, rfl, by omega, by omega⟩, HW1.out⟩
  · go_wp2
    go_ret
    exact ⟨⟨_, rfl, by omega, HQ3.out⟩, HW1.out⟩

/-- Every text of the tables is no longer than m, and the pairs no more. -/
def Small (m n : Nat) (L : Nat → Nat) (K X : Nat → Nat → V) : Prop := ∀ r, r < n → L r ≤ m ∧ ∀ c, c < L r → (K r c).s.size ≤ m ∧ (X r c).s.size ≤ m

set_option maxHeartbeats 1000000 in
set_option maxRecDepth 100000 in
/-- 'szTableS'. -/
theorem szTableS_any (ta : Option Addr) (n cp TB TO : Nat) (A : Nat → Option Addr) (L C RB RO : Nat → Nat) (K X : Nat → Nat → V) (k : Int) (w : World) (hk0 : 0 ≤ k) (hk1 : k ≤ 1048576) (hn : n ≤ 9223372036854775807)
    (HS : Hid (Small 9223372036854775807 n L K X)) (HT : Hid (TabsAt w ta n TB TO A L C RB RO K X)) :
    Calls Try.prog 43 #[.slice ta n cp, .int .i64 k] w fun e w' => (∃ q : Int, e = .returned (.int .i64 q) ∧ q ≤ k ∧ (0 ≤ q → n ≤ 1048576 ∧ Small 1048576 n L K X)) ∧ Below w.heap.size w w' := by
  by_cases h : k - n < 0
  · go_enter Try.func43, Try.ntmps43
    go_wp2
    go_ret
    exact ⟨⟨_, rfl, by omega, by omega⟩, Below.refl _ _⟩
  · go_enter Try.func43, Try.ntmps43
    go_wp2
    go_loopw [1, 5] (fun l i wr => ∃ (c : Nat) (q : Int), c ≤ n ∧ i = .int .i64 c ∧ l = .int .i64 q ∧ 0 ≤ q ∧ q ≤ k ∧ Hid (Small 1048576 c L K X) ∧ Hid (Below w.heap.size w wr)) (fun _ i _ => n - (intOf i).toNat)
    case atStart => exact ⟨0, _, Nat.zero_le _, rfl, rfl, by omega, by omega, fun r hr => absurd hr (Nat.not_lt_zero _), Below.refl _ _⟩
    case round =>
      obtain ⟨c, q, hc, rfl, rfl, hq0, hq1, HZ, HW⟩ := hrel
      by_cases hlt : c < n
      · obtain rfl := HT.out.top (by omega)
        have t0 := (HT.out.below HW.out).tab c hlt
        have hz := szTable_any (A c) (L c) (C c) (RB c) (RO c) (K c) (X c) q wr hq0 (by omega) (HS.out c hlt).1 (HS.out c hlt).2 ((HT.out.below HW.out).row c hlt)
        go_wp2_with fail
        refine hz.mono ?_
        clear hz
        rintro e w1 ⟨⟨q1, rfl, hq2, hq3⟩, hb1⟩
        have HW1 : Hid (Below w.heap.size w w1) := grw HW.out hb1
        clear hb1 HW t0
        by_cases hq : q1 < 0
        · clear hq3
          go_wp2
          go_ret
          exact ⟨⟨_, rfl, by omega, by omega⟩, HW1.out⟩
        · have HZ1 : Hid (Small 1048576 (c + 1) L K X) := show Small 1048576 (c + 1) L K X from fun j hj => by
            by_cases e : j = c
            · subst e; exact hq3 (by omega)
            · exact HZ.out j (by omega)
          clear hq3 HZ
          go_wp2
          go_roundw
          case rel => exact ⟨c + 1, q1, by omega, by go_num, rfl, by omega, by omega, HZ1, HW1⟩
          case measure => simp [intOf]; omega
      · have HK : Hid (c = n) := show c = n by omega
        go_wp2
        go_ret
        exact ⟨⟨_, rfl, by omega, fun _ => ⟨by omega, by rw [← HK.out]; exact HZ.out⟩⟩, HW.out⟩

set_option maxHeartbeats 1000000 in
set_option maxRecDepth 100000 in
/-- 'szGraph'. -/
theorem szGraph_any (u : V) (ta : Option Addr) (n cp TB TO : Nat) (A : Nat → Option Addr) (L C RB RO : Nat → Nat) (K X : Nat → Nat → V) (k : Int) (w : World) (hk0 : 0 ≤ k) (hk1 : k ≤ 1048576) (hu : u.s.size ≤ 9223372036854775807) (hn : n ≤ 9223372036854775807)
    (HS : Hid (Small 9223372036854775807 n L K X)) (HT : Hid (TabsAt w ta n TB TO A L C RB RO K X)) :
    Calls Try.prog 11 #[.agg #[.int .i64 u.k, .int .i64 u.n, .string u.s, .int .i64 u.a, .slice ta n cp], .int .i64 k] w fun e w' => (∃ q : Int, e = .returned (.int .i64 q) ∧ q ≤ k ∧ (0 ≤ q → u.s.size ≤ 1048576 ∧ n ≤ 1048576 ∧ Small 1048576 n L K X)) ∧ Below w.heap.size w w' := by
  have hb0 : Hid (Below w.heap.size w (w.alloc (Obj.cells #[.int .i64 u.k, .int .i64 u.n, .string u.s, .int .i64 u.a, .slice ta n cp] 26))) := (Below.refl _ _).alloc (Nat.le_refl _) _
  have hc : Hid (∀ w', Below (w.alloc (Obj.cells #[.int .i64 u.k, .int .i64 u.n, .string u.s, .int .i64 u.a, .slice ta n cp] 26)).heap.size (w.alloc (Obj.cells #[.int .i64 u.k, .int .i64 u.n, .string u.s, .int .i64 u.a, .slice ta n cp] 26)) w' →
      w'.cell? ⟨w.heap.size, 4, none⟩ = some (.slice ta n cp)) := show ∀ w', _ from fun w' h => by
    rw [h.cell (by simp)]; simp [World.cell?_alloc_new]
  have HT0 : Hid (TabsAt (w.alloc (Obj.cells #[.int .i64 u.k, .int .i64 u.n, .string u.s, .int .i64 u.a, .slice ta n cp] 26)) ta n TB TO A L C RB RO K X) := HT.out.below hb0.out
  go_enter Try.func11, Try.ntmps11
  go_wp2_with fail
  refine (szVal_any u k _ hk0 hk1 hu).mono ?_
  rintro e w1 ⟨rfl, hb1⟩
  have c4 := hc.out w1 hb1
  have HW1 : Hid (Below w.heap.size w w1) := grw hb0.out hb1
  have HT1 : Hid (TabsAt w1 ta n TB TO A L C RB RO K X) := HT0.out.below hb1
  clear hc hb1 hb0 HT0 HT
  by_cases h1 : k < u.s.size
  · rw [if_pos h1]
    go_wp2
    go_ret
    exact ⟨⟨_, rfl, by omega, by omega⟩, HW1.out⟩
  · rw [if_neg h1]
    have hn1 : ¬ k - u.s.size < 0 := by omega
    have hz := szTableS_any ta n cp TB TO A L C RB RO K X (k - u.s.size) w1 (by omega) (by omega) hn HS HT1
    go_wp2_with fail
    refine hz.mono ?_
    clear hz
    rintro e w2 ⟨⟨q1, rfl, hq2, hq3⟩, hb2⟩
    have HW2 : Hid (Below w.heap.size w w2) := grw HW1.out hb2
    have HQ3 : Hid _ := hq3
    clear hb2 HW1 c4 hq3 HT1
    by_cases hq : q1 < 0
    · go_wp2
      go_ret
      exact ⟨⟨_, rfl, by omega, by omega⟩, HW2.out⟩
    · go_wp2
      go_ret
      exact ⟨⟨_, rfl, by omega, fun h => ⟨by omega, HQ3.out h⟩⟩, HW2.out⟩

end Go.Proofs.Ytgflalfiopnmnab
