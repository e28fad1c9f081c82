import Derived.Test.YtgflalfiopnmnabG5
import Derived.Test.YtgflalfiopnmnabVlOrd
import Derived.Test.YtgflalfiopnmnabVlSp
import Derived.Test.YtgflalfiopnmnabGrMema
import Derived.Test.YtgflalfiopnmnabGrSza
import Derived.Test.YtgflalfiopnmnabGrToa
import Derived.Test.YtgflalfiopnmnabGrTo2a
import Derived.Test.YtgflalfiopnmnabGrTo3a
import Derived.Test.YtgflalfiopnmnabGrEqa
import Derived.Test.YtgflalfiopnmnabGrEq2a
import Derived.ProofKit
import Derived.OpenShut
import Derived.ShutString
import Derived.ChangeOld
import Derived.Lib.SmallJoins
import Derived.Deep.Slices
import Derived.Test.YtgflalfiopnmnabGrOpena
namespace Go.Proofs.Ytgflalfiopnmnab
open Go.RowKit Vl

/-- 'toVal'. -/
theorem toVal_any (v : V) (w : World) :
    Calls Try.prog 18 #[.agg #[.int .i64 v.k, .int .i64 v.n, .string v.s, .int .i64 v.a]] w fun e w' => e = .returned (.agg #[.int .i64 v.k, .int .i64 v.n, .string v.s, .int .i64 v.a]) ∧ Below w.heap.size w w' := by
  go_enter Try.func18, Try.ntmps18
  go_wp2
  refine bodyPost_ret (v := .agg #[.int .i64 v.k, .int .i64 v.n, .string v.s, .int .i64 v.a]) (by simp [results, Try.results18, go_sem]) rfl ⟨rfl, ?_⟩
  exact (((Below.refl _ _).alloc (Nat.le_refl _) _).alloc (by simp) _).alloc (by simp; omega) _

/-- 'szVal'. -/
theorem szVal_any (v : V) (k : Int) (w : World) (hk0 : 0 ≤ k) (hk1 : k ≤ 1048576) (hs : v.s.size ≤ 9223372036854775807) :
    Calls Try.prog 16 #[.agg #[.int .i64 v.k, .int .i64 v.n, .string v.s, .int .i64 v.a], .int .i64 k] w fun e w' => e = .returned (.int .i64 (if k < v.s.size then -1 else k - v.s.size)) ∧ Below w.heap.size w w' := by
  have hb0 : Hid (Below w.heap.size w (w.alloc (Obj.cells #[.int .i64 v.k, .int .i64 v.n, .string v.s, .int .i64 v.a] 23))) := (Below.refl _ _).alloc (Nat.le_refl _) _
  by_cases h : k - v.s.size < 0
  · rw [if_pos (by omega)]
    go_enter Try.func16, Try.ntmps16
    go_wp2
    go_ret
    exact ⟨rfl, hb0.out⟩
  · rw [if_neg (by omega)]
    go_enter Try.func16, Try.ntmps16
    go_wp2
    go_ret
    exact ⟨rfl, hb0.out⟩

end Go.Proofs.Ytgflalfiopnmnab

namespace Go.Proofs.Ytgflalfiopnmnab
open Go.RowKit Vl

set_option maxHeartbeats 400000 in
/-- 'szPair'. -/
theorem szPair_any (u v : V) (k : Int) (w : World) (hk0 : 0 ≤ k) (hk1 : k ≤ 1048576) (hu : u.s.size ≤ 9223372036854775807) (hv : v.s.size ≤ 9223372036854775807) :
    Calls Try.prog 114 #[.agg #[.int .i64 u.k, .int .i64 u.n, .string u.s, .int .i64 u.a, .int .i64 v.k, .int .i64 v.n, .string v.s, .int .i64 v.a], .int .i64 k] w fun e w' => (∃ q : Int, e = .returned (.int .i64 q) ∧ q ≤ k ∧ (0 ≤ q → u.s.size ≤ 1048576 ∧ v.s.size ≤ 1048576)) ∧ Below w.heap.size w w' := by
  have hb0 : Hid (Below w.heap.size w (w.alloc (Obj.cells #[.int .i64 u.k, .int .i64 u.n, .string u.s, .int .i64 u.a, .int .i64 v.k, .int .i64 v.n, .string v.s, .int .i64 v.a] 191))) := (Below.refl _ _).alloc (Nat.le_refl _) _
  have hc : ∀ w', Below (w.alloc (Obj.cells #[.int .i64 u.k, .int .i64 u.n, .string u.s, .int .i64 u.a, .int .i64 v.k, .int .i64 v.n, .string v.s, .int .i64 v.a] 191)).heap.size (w.alloc (Obj.cells #[.int .i64 u.k, .int .i64 u.n, .string u.s, .int .i64 u.a, .int .i64 v.k, .int .i64 v.n, .string v.s, .int .i64 v.a] 191)) w' →
      w'.cell? ⟨w.heap.size, 4, none⟩ = some (.int .i64 v.k) ∧ w'.cell? ⟨w.heap.size, 5, none⟩ = some (.int .i64 v.n) ∧ w'.cell? ⟨w.heap.size, 6, none⟩ = some (.string v.s) ∧ w'.cell? ⟨w.heap.size, 7, none⟩ = some (.int .i64 v.a) := fun w' h => by
    refine ⟨?_, ?_, ?_, ?_⟩ <;> (rw [h.cell (by simp)]; simp [World.cell?_alloc_new])
  go_enter Try.func114, Try.ntmps114
  go_wp2_with fail
  refine (szVal_any u k _ hk0 hk1 hu).mono ?_
  rintro e w1 ⟨rfl, hb1⟩
  obtain ⟨c4, c5, c6, c7⟩ := hc w1 hb1
  have HW1 : Hid (Below w.heap.size w w1) := grw hb0.out hb1
  clear hc hb1 hb0
  by_cases h1 : k < u.s.size
  · rw [if_pos h1]
    go_wp2
    go_ret
    exact ⟨⟨_, rfl, by omega, by omega⟩, HW1.out⟩
  · rw [if_neg h1]
    have hn : ¬ k - u.s.size < 0 := by omega
    go_wp2_with fail
    refine (szVal_any v _ _ (by omega) (by omega) hv).mono ?_
    rintro e w2 ⟨rfl, hb2⟩
    have HW2 : Hid (Below w.heap.size w w2) := grw HW1.out hb2
    clear hb2 HW1 c4 c5 c6 c7
    by_cases h2 : k - u.s.size < v.s.size
    · rw [if_pos h2]
      go_wp2
      go_ret
      exact ⟨⟨_, rfl, by omega, by omega⟩, HW2.out⟩
    · rw [if_neg h2]
      have hn2 : ¬ k - u.s.size - v.s.size < 0 := by omega
      go_wp2
      go_ret
      exact ⟨⟨_, rfl, by omega, by omega⟩, HW2.out⟩

end Go.Proofs.Ytgflalfiopnmnab

namespace Go.Proofs.Ytgflalfiopnmnab
open Go.RowKit Vl

set_option maxHeartbeats 1000000 in
set_option maxRecDepth 100000 in
/-- 'szPairS': what is not too much has at most so many pairs, and its texts are not too long. -/
theorem szPairS_any (pa : Option Addr) (L C B O : Nat) (K X : Nat → V) (k : Int) (w : World) (hk0 : 0 ≤ k) (hk1 : k ≤ 1048576) (hL : L ≤ 9223372036854775807)
    (HS : Hid (∀ c, c < L → (K c).s.size ≤ 9223372036854775807 ∧ (X c).s.size ≤ 9223372036854775807)) (HP : Hid (PairsAt w pa L B O K X)) :
    Calls Try.prog 99 #[.slice pa L C, .int .i64 k] w fun e w' => (∃ q : Int, e = .returned (.int .i64 q) ∧ q ≤ k ∧ (0 ≤ q → L ≤ 1048576 ∧ ∀ c, c < L → (K c).s.size ≤ 1048576 ∧ (X c).s.size ≤ 1048576)) ∧ Below w.heap.size w w' := by
  by_cases h : k - L < 0
  · go_enter Try.func99, Try.ntmps99
    go_wp2
    go_ret
    exact ⟨⟨_, rfl, by omega, by omega⟩, Below.refl _ _⟩
  · go_enter Try.func99, Try.ntmps99
    go_wp2
    go_loopw [1, 5] (fun l i wr => ∃ (c : Nat) (q : Int), c ≤ L ∧ i = .int .i64 c ∧ l = .int .i64 q ∧ 0 ≤ q ∧ q ≤ k ∧ Hid (∀ j, j < c → (K j).s.size ≤ 1048576 ∧ (X j).s.size ≤ 1048576) ∧ Hid (Below w.heap.size w wr)) (fun _ i _ => L - (intOf i).toNat)
    case atStart => exact ⟨0, _, Nat.zero_le _, rfl, rfl, by omega, by omega, fun r hr => absurd hr (Nat.not_lt_zero _), Below.refl _ _⟩
    case round =>
      obtain ⟨c, q, hc, rfl, rfl, hq0, hq1, HZ, HW⟩ := hrel
      by_cases hlt : c < L
      · obtain rfl := HP.out.top (by omega)
        obtain ⟨⟨k0, k1, k2, k3⟩, ⟨x0, x1, x2, x3⟩⟩ := (HP.out.below HW.out).cells hlt
        have hs := HS.out c hlt
        go_wp2_with fail
        refine (szPair_any (K c) (X c) q _ hq0 (by omega) hs.1 hs.2).mono ?_
        rintro e w1 ⟨⟨q1, rfl, hq2, hq3⟩, hb1⟩
        have HW1 : Hid (Below w.heap.size w w1) := grw HW.out hb1
        clear hb1 HW k0 k1 k2 k3 x0 x1 x2 x3 hs
        by_cases hq : q1 < 0
        · clear hq3
          go_wp2
          go_ret
          exact ⟨⟨_, rfl, by omega, by omega⟩, HW1.out⟩
        · have HZ1 : Hid (∀ j, j < c + 1 → (K j).s.size ≤ 1048576 ∧ (X j).s.size ≤ 1048576) := show ∀ j, j < c + 1 → _ from fun j hj => by
            by_cases e : j = c
            · subst e; exact hq3 (by omega)
            · exact HZ.out j (by omega)
          clear hq3 HZ
          go_wp2
          go_roundw
          case rel => exact ⟨c + 1, q1, by omega, by go_num, rfl, by omega, by omega, HZ1, HW1⟩
          case measure => simp [intOf]; omega
      · have HK : Hid (c = L) := show c = L by omega
        go_wp2
        go_ret
        exact ⟨⟨_, rfl, by omega, fun _ => ⟨by omega, by rw [← HK.out]; exact HZ.out⟩⟩, HW.out⟩

/-- 'szTable'. -/
theorem szTable_any (pa : Option Addr) (L C B O : Nat) (K X : Nat → V) (k : Int) (w : World) (hk0 : 0 ≤ k) (hk1 : k ≤ 1048576) (hL : L ≤ 9223372036854775807)
    (HS : Hid (∀ c, c < L → (K c).s.size ≤ 9223372036854775807 ∧ (X c).s.size ≤ 9223372036854775807)) (HP : Hid (PairsAt w pa L B O K X)) :
    Calls Try.prog 75 #[.agg #[.slice pa L C], .int .i64 k] w fun e w' => (∃ q : Int, e = .returned (.int .i64 q) ∧ q ≤ k ∧ (0 ≤ q → L ≤ 1048576 ∧ ∀ c, c < L → (K c).s.size ≤ 1048576 ∧ (X c).s.size ≤ 1048576)) ∧ Below w.heap.size w w' := by
  have hb0 : Hid (Below w.heap.size w (w.alloc (Obj.cells #[.slice pa L C] 125))) := (Below.refl _ _).alloc (Nat.le_refl _) _
  have hs := szPairS_any pa L C B O K X k _ hk0 hk1 hL HS (HP.out.below hb0.out)
  go_enter Try.func75, Try.ntmps75
  go_wp2_with fail
  refine hs.mono ?_
  clear hs
  rintro e w1 ⟨⟨q1, rfl, hq2, hq3⟩, hb1⟩
  have HW1 : Hid (Below w.heap.size w w1) := grw hb0.out hb1
  have HQ3 : Hid _ := hq3
  clear hb1 hb0 hq3
  by_cases hq : q1 < 0
  · go_wp2
    go_ret
    exact ⟨⟨_, rfl, by omega, by omega⟩, HW1.out⟩
  · go_wp2
    go_ret
    exact ⟨⟨_, rfl, by omega, HQ3.out⟩, HW1.out⟩

set_option maxHeartbeats 1000000 in
set_option maxRecDepth 100000 in
/-- 'szTableS'. -/
theorem szTableS_any (ta : Option Addr) (n cp TB TO : Nat) (A : Nat → Option Addr) (L C RB RO : Nat → Nat) (K X : Nat → Nat → V) (k : Int) (w : World) (hk0 : 0 ≤ k) (hk1 : k ≤ 1048576) (hn : n ≤ 9223372036854775807)
    (HS : Hid (Small 9223372036854775807 n L K X)) (HT : Hid (TabsAt w ta n TB TO A L C RB RO K X)) :
    Calls Try.prog 43 #[.slice ta n cp, .int .i64 k] w fun e w' => (∃ q : Int, e = .returned (.int .i64 q) ∧ q ≤ k ∧ (0 ≤ q → n ≤ 1048576 ∧ Small 1048576 n L K X)) ∧ Below w.heap.size w w' := by
  by_cases h : k - n < 0
  · go_enter Try.func43, Try.ntmps43
    go_wp2
    go_ret
    exact ⟨⟨_, rfl, by omega, by omega⟩, Below.refl _ _⟩
  · go_enter Try.func43, Try.ntmps43
    go_wp2
    go_loopw [1, 5] (fun l i wr => ∃ (c : Nat) (q : Int), c ≤ n ∧ i = .int .i64 c ∧ l = .int .i64 q ∧ 0 ≤ q ∧ q ≤ k ∧ Hid (Small 1048576 c L K X) ∧ Hid (Below w.heap.size w wr)) (fun _ i _ => n - (intOf i).toNat)
    case atStart => exact ⟨0, _, Nat.zero_le _, rfl, rfl, by omega, by omega, fun r hr => absurd hr (Nat.not_lt_zero _), Below.refl _ _⟩
    case round =>
      obtain ⟨c, q, hc, rfl, rfl, hq0, hq1, HZ, HW⟩ := hrel
      by_cases hlt : c < n
      · obtain rfl := HT.out.top (by omega)
        have t0 := (HT.out.below HW.out).tab c hlt
        have hz := szTable_any (A c) (L c) (C c) (RB c) (RO c) (K c) (X c) q wr hq0 (by omega) (HS.out c hlt).1 (HS.out c hlt).2 ((HT.out.below HW.out).row c hlt)
        go_wp2_with fail
        refine hz.mono ?_
        clear hz
        rintro e w1 ⟨⟨q1, rfl, hq2, hq3⟩, hb1⟩
        have HW1 : Hid (Below w.heap.size w w1) := grw HW.out hb1
        clear hb1 HW t0
        by_cases hq : q1 < 0
        · clear hq3
          go_wp2
          go_ret
          exact ⟨⟨_, rfl, by omega, by omega⟩, HW1.out⟩
        · have HZ1 : Hid (Small 1048576 (c + 1) L K X) := show Small 1048576 (c + 1) L K X from fun j hj => by
            by_cases e : j = c
            · subst e; exact hq3 (by omega)
            · exact HZ.out j (by omega)
          clear hq3 HZ
          go_wp2
          go_roundw
          case rel => exact ⟨c + 1, q1, by omega, by go_num, rfl, by omega, by omega, HZ1, HW1⟩
          case measure => simp [intOf]; omega
      · have HK : Hid (c = n) := show c = n by omega
        go_wp2
        go_ret
        exact ⟨⟨_, rfl, by omega, fun _ => ⟨by omega, by rw [← HK.out]; exact HZ.out⟩⟩, HW.out⟩

set_option maxHeartbeats 1000000 in
set_option maxRecDepth 100000 in
/-- 'szGraph'. -/
theorem szGraph_any (u : V) (ta : Option Addr) (n cp TB TO : Nat) (A : Nat → Option Addr) (L C RB RO : Nat → Nat) (K X : Nat → Nat → V) (k : Int) (w : World) (hk0 : 0 ≤ k) (hk1 : k ≤ 1048576) (hu : u.s.size ≤ 9223372036854775807) (hn : n ≤ 9223372036854775807)
    (HS : Hid (Small 9223372036854775807 n L K X)) (HT : Hid (TabsAt w ta n TB TO A L C RB RO K X)) :
    Calls Try.prog 11 #[.agg #[.int .i64 u.k, .int .i64 u.n, .string u.s, .int .i64 u.a, .slice ta n cp], .int .i64 k] w fun e w' => (∃ q : Int, e = .returned (.int .i64 q) ∧ q ≤ k ∧ (0 ≤ q → u.s.size ≤ 1048576 ∧ n ≤ 1048576 ∧ Small 1048576 n L K X)) ∧ Below w.heap.size w w' := by
  have hb0 : Hid (Below w.heap.size w (w.alloc (Obj.cells #[.int .i64 u.k, .int .i64 u.n, .string u.s, .int .i64 u.a, .slice ta n cp] 26))) := (Below.refl _ _).alloc (Nat.le_refl _) _
  have hc : Hid (∀ w', Below (w.alloc (Obj.cells #[.int .i64 u.k, .int .i64 u.n, .string u.s, .int .i64 u.a, .slice ta n cp] 26)).heap.size (w.alloc (Obj.cells #[.int .i64 u.k, .int .i64 u.n, .string u.s, .int .i64 u.a, .slice ta n cp] 26)) w' →
      w'.cell? ⟨w.heap.size, 4, none⟩ = some (.slice ta n cp)) := show ∀ w', _ from fun w' h => by
    rw [h.cell (by simp)]; simp [World.cell?_alloc_new]
  have HT0 : Hid (TabsAt (w.alloc (Obj.cells #[.int .i64 u.k, .int .i64 u.n, .string u.s, .int .i64 u.a, .slice ta n cp] 26)) ta n TB TO A L C RB RO K X) := HT.out.below hb0.out
  go_enter Try.func11, Try.ntmps11
  go_wp2_with fail
  refine (szVal_any u k _ hk0 hk1 hu).mono ?_
  rintro e w1 ⟨rfl, hb1⟩
  have c4 := hc.out w1 hb1
  have HW1 : Hid (Below w.heap.size w w1) := grw hb0.out hb1
  have HT1 : Hid (TabsAt w1 ta n TB TO A L C RB RO K X) := HT0.out.below hb1
  clear hc hb1 hb0 HT0 HT
  by_cases h1 : k < u.s.size
  · rw [if_pos h1]
    go_wp2
    go_ret
    exact ⟨⟨_, rfl, by omega, by omega⟩, HW1.out⟩
  · rw [if_neg h1]
    have hn1 : ¬ k - u.s.size < 0 := by omega
    have hz := szTableS_any ta n cp TB TO A L C RB RO K X (k - u.s.size) w1 (by omega) (by omega) hn HS HT1
    go_wp2_with fail
    refine hz.mono ?_
    clear hz
    rintro e w2 ⟨⟨q1, rfl, hq2, hq3⟩, hb2⟩
    have HW2 : Hid (Below w.heap.size w w2) := grw HW1.out hb2
    have HQ3 : Hid _ := hq3
    clear hb2 HW1 c4 hq3 HT1
    by_cases hq : q1 < 0
    · go_wp2
      go_ret
      exact ⟨⟨_, rfl, by omega, by omega⟩, HW2.out⟩
    · go_wp2
      go_ret
      exact ⟨⟨_, rfl, by omega, fun h => ⟨by omega, HQ3.out h⟩⟩, HW2.out⟩

end Go.Proofs.Ytgflalfiopnmnab

namespace Go.Proofs.Ytgflalfiopnmnab
open Go.RowKit Vl

set_option maxHeartbeats 1000000 in
set_option maxRecDepth 100000 in
/-- 'toPair'. -/
theorem toPair_any (u v : V) (w : World) :
    Calls Try.prog 115 #[.agg #[.int .i64 u.k, .int .i64 u.n, .string u.s, .int .i64 u.a, .int .i64 v.k, .int .i64 v.n, .string v.s, .int .i64 v.a]] w fun e w' => e = .returned (.agg #[.int .i64 u.k, .int .i64 u.n, .string u.s, .int .i64 u.a, .int .i64 v.k, .int .i64 v.n, .string v.s, .int .i64 v.a]) ∧ Below w.heap.size w w' := by
  have A3 : Hid _ := alloc3 w (.cells #[.int .i64 u.k, .int .i64 u.n, .string u.s, .int .i64 u.a, .int .i64 v.k, .int .i64 v.n, .string v.s, .int .i64 v.a] 191) (.cells #[.int .i64 0, .int .i64 0, .string ⟨#[]⟩, .int .i64 0, .int .i64 0, .int .i64 0, .string ⟨#[]⟩, .int .i64 0] 63) (.cells #[.int .i64 0, .int .i64 0, .string ⟨#[]⟩, .int .i64 0, .int .i64 0, .int .i64 0, .string ⟨#[]⟩, .int .i64 0] 63)
  go_enter Try.func115, Try.ntmps115
  go_wp2_with fail
  refine (toVal_any u _).mono ?_
  rintro e w1 ⟨rfl, hb1⟩
  obtain ⟨p0, p1, p2, ps, pb⟩ := A3.out
  have P0 : Hid (w1.heap[w.heap.size]? = _) := (hb1.block _ (by omega)).trans p0
  have P1 : Hid (w1.heap[w.heap.size + 1]? = _) := (hb1.block _ (by omega)).trans p1
  have P2 : Hid (w1.heap[w.heap.size + 2]? = _) := (hb1.block _ (by omega)).trans p2
  have HW1 : Hid (Below w.heap.size w w1) := grw pb hb1
  clear hb1 p0 p1 p2 ps pb A3
  obtain ⟨c0, c1, c2, c3, c4, c5, c6, c7, z0⟩ := cells8 P2.out
  obtain ⟨d0, d1, d2, d3, d4, d5, d6, d7, _⟩ := cells8 P0.out
  go_wp2_with fail
  refine (toVal_any v _).mono ?_
  rintro e w2 ⟨rfl, hb2⟩
  have Q2 : Hid (w2.heap[w.heap.size + 2]? = some (.cells #[.int .i64 u.k, .int .i64 u.n, .string u.s, .int .i64 u.a, .int .i64 0, .int .i64 0, .string ⟨#[]⟩, .int .i64 0] 63 (0, 0))) := by
    rw [hb2.block _ (by simp [World.setCell]; exact blk_lt P2.out)]; exact put8lo P2.out _ _ _ _
  have Q1 : Hid (w2.heap[w.heap.size + 1]? = some (.cells #[.int .i64 0, .int .i64 0, .string ⟨#[]⟩, .int .i64 0, .int .i64 0, .int .i64 0, .string ⟨#[]⟩, .int .i64 0] 63 (0, 0))) := by
    rw [hb2.block _ (by simp [World.setCell]; exact blk_lt P1.out)]; exact (set4_far (by omega)).trans P1.out
  have HW2 : Hid (Below w.heap.size w w2) := grw (HW1.out.trans (set4_below.mono (by omega))) hb2
  clear hb2 P0 P1 P2 HW1 c0 c1 c2 c3 c4 c5 c6 c7 z0 d0 d1 d2 d3 d4 d5 d6 d7
  obtain ⟨c0, c1, c2, c3, c4, c5, c6, c7, z0⟩ := cells8 Q2.out
  obtain ⟨d0, d1, d2, d3, d4, d5, d6, d7, z1⟩ := cells8 Q1.out
  go_wp2
  have F := put8hi (put8lo ((set4_far (w := w2) (B := w.heap.size + 2) (i := 4) (j := 5) (k := 6) (l := 7) (a' := .int .i64 v.k) (b' := .int .i64 v.n) (c' := .string v.s) (d' := .int .i64 v.a) (show w.heap.size + 1 ≠ w.heap.size + 2 by omega)).trans Q1.out) (.int .i64 u.k) (.int .i64 u.n) (.string u.s) (.int .i64 u.a)) (.int .i64 v.k) (.int .i64 v.n) (.string v.s) (.int .i64 v.a)
  have HB : Hid (Below w.heap.size w _) := ((HW2.out.trans (set4_below (w := w2) (B := w.heap.size + 2) (i := 4) (j := 5) (k := 6) (l := 7) (a' := .int .i64 v.k) (b' := .int .i64 v.n) (c' := .string v.s) (d' := .int .i64 v.a) |>.mono (by omega))).trans ((set4_below (B := w.heap.size + 1) (i := 0) (j := 1) (k := 2) (l := 3) (a' := .int .i64 u.k) (b' := .int .i64 u.n) (c' := .string u.s) (d' := .int .i64 u.a)).mono (by omega))).trans ((set4_below (B := w.heap.size + 1) (i := 4) (j := 5) (k := 6) (l := 7) (a' := .int .i64 v.k) (b' := .int .i64 v.n) (c' := .string v.s) (d' := .int .i64 v.a)).mono (by omega))
  obtain ⟨q0, q1, q2, q3, q4, q5, q6, q7, _⟩ := cells8 F
  refine bodyPost_ret (v := .agg #[.int .i64 u.k, .int .i64 u.n, .string u.s, .int .i64 u.a, .int .i64 v.k, .int .i64 v.n, .string v.s, .int .i64 v.a]) (by simp [results, Try.results115, go_sem, q0, q1, q2, q3, q4, q5, q6, q7]) rfl ⟨rfl, HB.out⟩

set_option maxHeartbeats 1000000 in
set_option maxRecDepth 100000 in
/-- 'toPairS'. -/
theorem toPairS_any (pa : Option Addr) (L C B O : Nat) (K X : Nat → V) (w : World) (hL : L ≤ 1048576) (HP : Hid (PairsAt w pa L B O K X)) :
    Calls Try.prog 100 #[.slice pa L C] w fun e w' => e = .returned (.slice (some ⟨w.heap.size, 0, none⟩) L L) ∧ PairsAt w' (some ⟨w.heap.size, 0, none⟩) L w.heap.size 0 K X ∧ (∃ f, w'.rowIs w.heap.size 63 (L * 8) f) ∧ w.heap.size < w'.heap.size ∧ Below w.heap.size w w' := by
  have hmk := run_make_n 59 63 _ 8 80 Try.underlying59 Try.info63 L (by omega) (by omega)
  obtain ⟨z, hz⟩ : ∃ z : Nat → Value, PRow (w.alloc (.cells (madeCells (Value.agg #[.int .i64 0, .int .i64 0, .string ⟨#[]⟩, .int .i64 0, .int .i64 0, .int .i64 0, .string ⟨#[]⟩, .int .i64 0]).cells (L * 8)) 63)) w.heap.size L 0 K X z :=
    ⟨_, (row_made w _ (L * 8) 63).congr (fun i _ => by rw [if_neg (by omega)])⟩
  have HZ : Hid _ := hz
  clear hz
  go_enter Try.func100, Try.ntmps100
  go_wp2
  clear hmk
  go_loopw [4] (fun i wr => ∃ c : Nat, c ≤ L ∧ i = .int .i64 c ∧ Hid (PRow wr w.heap.size L c K X z) ∧ Hid (Below w.heap.size w wr)) (fun i _ => L - (intOf i).toNat)
  case atStart => exact ⟨0, Nat.zero_le _, rfl, HZ, (Below.refl _ _).alloc (Nat.le_refl _) _⟩
  case round =>
    obtain ⟨c, hc, rfl, HR, HW⟩ := hrel
    clear HZ
    by_cases hlt : c < L
    · obtain rfl := HP.out.top (by omega)
      obtain ⟨⟨k0, k1, k2, k3⟩, ⟨x0, x1, x2, x3⟩⟩ := (HP.out.below HW.out).cells hlt
      go_wp2_with fail
      refine (toPair_any (K c) (X c) _).mono ?_
      rintro e w1 ⟨rfl, hb1⟩
      have HR1 : Hid (PRow w1 w.heap.size L c K X z) := HR.out.below hb1
      have HW1 : Hid (Below w.heap.size w w1) := grw HW.out hb1
      clear hb1 HW HR k0 k1 k2 k3 x0 x1 x2 x3
      have c0 := HR1.out.cell (i := c * 8) (by omega)
      have c1 := HR1.out.cell (i := c * 8 + 1) (by omega)
      have c2 := HR1.out.cell (i := c * 8 + 2) (by omega)
      have c3 := HR1.out.cell (i := c * 8 + 3) (by omega)
      have c4 := HR1.out.cell (i := c * 8 + 4) (by omega)
      have c5 := HR1.out.cell (i := c * 8 + 5) (by omega)
      have c6 := HR1.out.cell (i := c * 8 + 6) (by omega)
      have c7 := HR1.out.cell (i := c * 8 + 7) (by omega)
      have z0 := HR1.out.frozen
      go_wp2
      go_roundw
      case rel =>
        refine ⟨c + 1, by omega, by go_num, HR1.out.put, ?_⟩
        exact (((((((HW1.out.setCell (Nat.le_refl _) _).setCell (Nat.le_refl _) _).setCell (Nat.le_refl _) _).setCell (Nat.le_refl _) _).setCell (Nat.le_refl _) _).setCell (Nat.le_refl _) _).setCell (Nat.le_refl _) _).setCell (Nat.le_refl _) _
      case measure => simp [intOf]; omega
    · obtain rfl : c = L := by omega
      go_wp2
      go_ret
      exact ⟨rfl, HR.out.pairs (fun _ => rfl) (Nat.le_refl _), ⟨_, (show World.rowIs _ _ _ _ _ from HR.out)⟩, HR.out.lt, HW.out⟩

end Go.Proofs.Ytgflalfiopnmnab

namespace Go.Proofs.Ytgflalfiopnmnab
open Go.RowKit Vl

set_option maxHeartbeats 1000000 in
set_option maxRecDepth 100000 in
/-- 'toTable'. -/
theorem toTable_any (pa : Option Addr) (L C B O : Nat) (K X : Nat → V) (w : World) (hL : L ≤ 1048576) (HP : Hid (PairsAt w pa L B O K X)) :
    Calls Try.prog 76 #[.agg #[.slice pa L C]] w fun e w' => (∃ G, e = .returned (.agg #[.slice (some ⟨G, 0, none⟩) L L]) ∧ w.heap.size ≤ G ∧ G < w'.heap.size ∧ PairsAt w' (some ⟨G, 0, none⟩) L G 0 K X ∧ ∃ f, w'.rowIs G 63 (L * 8) f) ∧ Below w.heap.size w w' := by
  have A3 : Hid _ := alloc3 w (.cells #[.slice pa L C] 125) (.cells #[.slice none 0 0] 61) (.cells #[.slice none 0 0] 61)
  have hto := toPairS_any pa L C B O K X _ hL (HP.out.below A3.out.2.2.2.2)
  go_enter Try.func76, Try.ntmps76
  go_wp2_with fail
  refine hto.mono ?_
  clear hto
  rintro e w1 ⟨rfl, hP1, hf1, hlt1, hb1⟩
  obtain ⟨p0, p1, p2, ps, pb⟩ := A3.out
  have P1 : Hid (w1.heap[w.heap.size + 1]? = some (.cells #[.slice none 0 0] 61 (0, 0))) := (hb1.block _ (by omega)).trans p1
  have P2 : Hid (w1.heap[w.heap.size + 2]? = some (.cells #[.slice none 0 0] 61 (0, 0))) := (hb1.block _ (by omega)).trans p2
  have HW1 : Hid (Below w.heap.size w w1) := grw pb hb1
  rw [ps] at hP1 hf1 hlt1 ⊢
  have HF1 : Hid (∃ f, w1.rowIs (w.heap.size + 3) 63 (L * 8) f) := hf1
  have HP1 : Hid (PairsAt w1 (some ⟨w.heap.size + 3, 0, none⟩) L (w.heap.size + 3) 0 K X) := hP1
  have hsz : Hid (w.heap.size + 3 < w1.heap.size) := hlt1
  clear hb1 p0 p1 p2 ps pb A3 hP1 hlt1 hf1
  obtain ⟨c0, z0⟩ := one_at P2.out
  obtain ⟨d0, z1⟩ := one_at P1.out
  go_wp2
  have F := one_put ((Below.heap_setCell w1 ⟨w.heap.size + 2, 0, none⟩ (.slice (some ⟨w.heap.size + 3, 0, none⟩) L L) (w.heap.size + 1) (show w.heap.size + 1 ≠ w.heap.size + 2 by omega)).trans P1.out) (.slice (some ⟨w.heap.size + 3, 0, none⟩) L L)
  obtain ⟨q0, _⟩ := one_at F
  refine bodyPost_ret (v := .agg #[.slice (some ⟨w.heap.size + 3, 0, none⟩) L L]) (by simp [results, Try.results76, go_sem, q0]) rfl ⟨⟨w.heap.size + 3, rfl, by omega, ?_, ?_, ?_⟩, ?_⟩
  · simp only [World.setCell, Array.size_modify]; exact hsz.out
  · refine HP1.out.same ?_
    rw [Below.heap_setCell _ _ _ _ (show w.heap.size + 3 ≠ w.heap.size + 1 by omega), Below.heap_setCell _ _ _ _ (show w.heap.size + 3 ≠ w.heap.size + 2 by omega)]
  · obtain ⟨f, hf⟩ := HF1.out
    refine ⟨f, hf.of_block ?_⟩
    rw [Below.heap_setCell _ _ _ _ (show w.heap.size + 3 ≠ w.heap.size + 1 by omega), Below.heap_setCell _ _ _ _ (show w.heap.size + 3 ≠ w.heap.size + 2 by omega)]
  · exact (HW1.out.setCell (by show w.heap.size ≤ w.heap.size + 2; omega) _).setCell (by show w.heap.size ≤ w.heap.size + 1; omega) _

set_option maxHeartbeats 1000000 in
set_option maxRecDepth 100000 in
/-- 'toTableS'. -/
theorem toTableS_any (ta : Option Addr) (n cp TB TO : Nat) (A : Nat → Option Addr) (L C RB RO : Nat → Nat) (K X : Nat → Nat → V) (w : World) (hn : n ≤ 1048576)
    (HS : Hid (Small 1048576 n L K X)) (HT : Hid (TabsAt w ta n TB TO A L C RB RO K X)) :
    Calls Try.prog 46 #[.slice ta n cp] w fun e w' => e = .returned (.slice (some ⟨w.heap.size, 0, none⟩) n n) ∧ (∃ G, Copied w w' n G L K X ∧ w'.rowIs w.heap.size 61 n (fun i => .slice (some ⟨G i, 0, none⟩) (L i) (L i))) ∧ Below w.heap.size w w' := by
  have hmk := run_make_n 30 61 _ 1 24 Try.underlying30 Try.info61 n (by omega) (by omega)
  simp only [Nat.mul_one] at hmk
  obtain ⟨z, hz⟩ : ∃ z : Nat → Value, TRow (w.alloc (.cells (madeCells (Value.agg #[.slice none 0 0]).cells n) 61)) w.heap.size n 0 (fun _ => 0) L z :=
    ⟨_, (row_made w _ n 61).congr (fun i _ => by rw [if_neg (by omega)])⟩
  have HZ : Hid _ := hz
  clear hz
  go_enter Try.func46, Try.ntmps46
  go_wp2
  clear hmk
  go_loopw [4] (fun i wr => ∃ (c : Nat) (G : Nat → Nat), c ≤ n ∧ i = .int .i64 c ∧ Hid (TRow wr w.heap.size n c G L z) ∧ Hid (Copied w wr c G L K X) ∧ Hid (Below w.heap.size w wr)) (fun i _ => n - (intOf i).toNat)
  case atStart => exact ⟨0, _, Nat.zero_le _, rfl, HZ, ⟨fun r hr => by omega, fun i j _ hj => by omega, fun r hr => by omega, fun r hr => by omega⟩, (Below.refl _ _).alloc (Nat.le_refl _) _⟩
  case round =>
    obtain ⟨c, G, hc, rfl, HR, HC, HW⟩ := hrel
    clear HZ
    by_cases hlt : c < n
    · obtain rfl := HT.out.top (by omega)
      have t0 := (HT.out.below HW.out).tab c hlt
      have hto := toTable_any (A c) (L c) (C c) (RB c) (RO c) (K c) (X c) wr (HS.out c hlt).1 ((HT.out.below HW.out).row c hlt)
      go_wp2_with fail
      refine hto.mono ?_
      clear hto
      rintro e w1 ⟨⟨g, rfl, hg0, hg1, hgp, hgf⟩, hb1⟩
      have HR1 : Hid (TRow w1 w.heap.size n c G L z) := (show World.rowIs _ _ _ _ _ from HR.out).of_block (hb1.block _ (show World.rowIs _ _ _ _ _ from HR.out).lt)
      have hlt0 : w.heap.size < wr.heap.size := (show World.rowIs _ _ _ _ _ from HR.out).lt
      have HC1 : Hid (Copied w w1 (c + 1) (fun i => if i = c then g else G i) L K X) := (HC.out.below hb1).snoc (by omega) hg1 (fun r hr => by have := (HC.out.new r hr).2; omega) hgp hgf
      have HW1 : Hid (Below w.heap.size w w1) := grw HW.out hb1
      have c0 := (show World.rowIs _ _ _ _ _ from HR1.out).cell hlt
      have z0 := (show World.rowIs _ _ _ _ _ from HR1.out).frozen
      clear hb1 HW HR HC t0 hg0 hg1 hgp hgf hlt0
      go_wp2
      go_roundw
      case rel => exact ⟨c + 1, (fun i => if i = c then g else G i), by omega, by go_num, HR1.out.put g, HC1.out.set c _, HW1.out.setCell (Nat.le_refl _) _⟩
      case measure => simp [intOf]; omega
    · obtain rfl : c = n := by omega
      go_wp2
      go_ret
      exact ⟨rfl, ⟨G, HC.out, (show World.rowIs _ _ _ _ _ from HR.out).congr (fun i hi => by rw [if_pos hi])⟩, HW.out⟩

end Go.Proofs.Ytgflalfiopnmnab

namespace Go.Proofs.Ytgflalfiopnmnab
open Go.RowKit Vl

set_option maxHeartbeats 1000000 in
set_option maxRecDepth 100000 in
/-- 'toGraph'. -/
theorem toGraph_any (u : V) (ta : Option Addr) (n cp TB TO : Nat) (A : Nat → Option Addr) (L C RB RO : Nat → Nat) (K X : Nat → Nat → V) (w : World) (hn : n ≤ 1048576)
    (HS : Hid (Small 1048576 n L K X)) (HT : Hid (TabsAt w ta n TB TO A L C RB RO K X)) :
    Calls Try.prog 13 #[.agg #[.int .i64 u.k, .int .i64 u.n, .string u.s, .int .i64 u.a, .slice ta n cp]] w fun e w' => (∃ B, e = .returned (.agg #[.int .i64 u.k, .int .i64 u.n, .string u.s, .int .i64 u.a, .slice (some ⟨B, 0, none⟩) n n]) ∧ w.heap.size ≤ B ∧
      ∃ (w0 : World) (G : Nat → Nat), w0.heap.size = B ∧ Copied w0 w' n G L K X ∧ w'.rowIs B 61 n (fun i => .slice (some ⟨G i, 0, none⟩) (L i) (L i))) ∧ Below w.heap.size w w' := by
  have A3 : Hid _ := alloc3 w (.cells #[.int .i64 u.k, .int .i64 u.n, .string u.s, .int .i64 u.a, .slice ta n cp] 26) (.cells #[.int .i64 0, .int .i64 0, .string ⟨#[]⟩, .int .i64 0, .slice none 0 0] 32) (.cells #[.int .i64 0, .int .i64 0, .string ⟨#[]⟩, .int .i64 0, .slice none 0 0] 32)
  go_enter Try.func13, Try.ntmps13
  go_wp2_with fail
  refine (toVal_any u _).mono ?_
  rintro e w1 ⟨rfl, hb1⟩
  obtain ⟨p0, p1, p2, ps, pb⟩ := A3.out
  have P0 : Hid (w1.heap[w.heap.size]? = some (.cells #[.int .i64 u.k, .int .i64 u.n, .string u.s, .int .i64 u.a, .slice ta n cp] 26 (0, 0))) := (hb1.block _ (by omega)).trans p0
  have P1 : Hid (w1.heap[w.heap.size + 1]? = some (.cells #[.int .i64 0, .int .i64 0, .string ⟨#[]⟩, .int .i64 0, .slice none 0 0] 32 (0, 0))) := (hb1.block _ (by omega)).trans p1
  have P2 : Hid (w1.heap[w.heap.size + 2]? = some (.cells #[.int .i64 0, .int .i64 0, .string ⟨#[]⟩, .int .i64 0, .slice none 0 0] 32 (0, 0))) := (hb1.block _ (by omega)).trans p2
  have HW1 : Hid (Below w.heap.size w w1) := grw pb hb1
  clear hb1 p0 p1 p2 ps pb A3
  obtain ⟨c0, c1, c2, c3, c4, z0⟩ := cells5 P2.out
  obtain ⟨d0, d1, d2, d3, d4, _⟩ := cells5 P0.out
  obtain ⟨wa, hwa⟩ : ∃ wa, wa = ((((w1.setCell ⟨w.heap.size + 2, 0, none⟩ (.int .i64 u.k)).setCell ⟨w.heap.size + 2, 1, none⟩ (.int .i64 u.n)).setCell ⟨w.heap.size + 2, 2, none⟩ (.string u.s)).setCell ⟨w.heap.size + 2, 3, none⟩ (.int .i64 u.a)) := ⟨_, rfl⟩
  have HWa : Hid (Below w.heap.size w wa) := by rw [hwa]; exact HW1.out.trans (set4_below.mono (by omega))
  have Q2 : Hid (wa.heap[w.heap.size + 2]? = some (.cells #[.int .i64 u.k, .int .i64 u.n, .string u.s, .int .i64 u.a, .slice none 0 0] 32 (0, 0))) := by rw [hwa]; exact put5lo P2.out _ _ _ _
  have Q1 : Hid (wa.heap[w.heap.size + 1]? = some (.cells #[.int .i64 0, .int .i64 0, .string ⟨#[]⟩, .int .i64 0, .slice none 0 0] 32 (0, 0))) := by rw [hwa]; exact (set4_far (by omega)).trans P1.out
  have hto := toTableS_any ta n cp TB TO A L C RB RO K X wa hn HS (HT.out.below HWa.out)
  go_wp2_with fail
  rw [← hwa]
  refine hto.mono ?_
  clear hto HT hwa c0 c1 c2 c3 c4 z0 d0 d1 d2 d3 d4 P0 P1 P2 HW1
  rintro e w2 ⟨rfl, ⟨G, hC, hR⟩, hb2⟩
  have R2 : Hid (w2.heap[w.heap.size + 2]? = some (.cells #[.int .i64 u.k, .int .i64 u.n, .string u.s, .int .i64 u.a, .slice none 0 0] 32 (0, 0))) := (hb2.block _ (blk_lt Q2.out)).trans Q2.out
  have R1 : Hid (w2.heap[w.heap.size + 1]? = some (.cells #[.int .i64 0, .int .i64 0, .string ⟨#[]⟩, .int .i64 0, .slice none 0 0] 32 (0, 0))) := (hb2.block _ (blk_lt Q1.out)).trans Q1.out
  have HW2 : Hid (Below w.heap.size w w2) := grw HWa.out hb2
  have hsz : Hid (w.heap.size + 2 < wa.heap.size) := blk_lt Q2.out
  have HC : Hid (Copied wa w2 n G L K X) := hC
  have HR : Hid (w2.rowIs wa.heap.size 61 n (fun i => .slice (some ⟨G i, 0, none⟩) (L i) (L i))) := hR
  clear Q1 Q2 hb2 hC hR
  obtain ⟨c0, c1, c2, c3, c4, z0⟩ := cells5 R2.out
  obtain ⟨d0, d1, d2, d3, d4, z1⟩ := cells5 R1.out
  go_wp2
  obtain ⟨B, hB⟩ : ∃ B, wa.heap.size = B := ⟨_, rfl⟩
  obtain ⟨wb, hwb⟩ : ∃ wb, wb = (((((w2.setCell ⟨w.heap.size + 2, 4, none⟩ (.slice (some ⟨wa.heap.size, 0, none⟩) n n)).setCell ⟨w.heap.size + 1, 0, none⟩ (.int .i64 u.k)).setCell ⟨w.heap.size + 1, 1, none⟩ (.int .i64 u.n)).setCell ⟨w.heap.size + 1, 2, none⟩ (.string u.s)).setCell ⟨w.heap.size + 1, 3, none⟩ (.int .i64 u.a)).setCell ⟨w.heap.size + 1, 4, none⟩ (.slice (some ⟨wa.heap.size, 0, none⟩) n n) := ⟨_, rfl⟩
  have F : wb.heap[w.heap.size + 1]? = some (.cells #[.int .i64 u.k, .int .i64 u.n, .string u.s, .int .i64 u.a, .slice (some ⟨wa.heap.size, 0, none⟩) n n] 32 (0, 0)) := by
    rw [hwb]
    exact put5hi (put5lo ((Below.heap_setCell _ _ _ _ (by show w.heap.size + 1 ≠ w.heap.size + 2; omega)).trans R1.out) _ _ _ _) _
  have hfar : ∀ k, w.heap.size + 2 < k → wb.heap[k]? = w2.heap[k]? := fun k hk => by
    rw [hwb, Below.heap_setCell _ _ _ _ (by show k ≠ w.heap.size + 1; omega), set4_far (by omega), Below.heap_setCell _ _ _ _ (by show k ≠ w.heap.size + 2; omega)]
  have HWb : Hid (Below w.heap.size w wb) := by
    rw [hwb]
    exact ((HW2.out.setCell (by show w.heap.size ≤ w.heap.size + 2; omega) _).trans (set4_below.mono (by omega))).setCell (by show w.heap.size ≤ w.heap.size + 1; omega) _
  have hsz2 : wb.heap.size = w2.heap.size := by rw [hwb]; simp [World.setCell]
  have hA0 : w.heap.size + 2 < wa.heap.size := hsz.out
  obtain ⟨q0, q1, q2, q3, q4, _⟩ := cells5 F
  rw [← hwb]
  clear hwb F c0 c1 c2 c3 c4 z0 d0 d1 d2 d3 d4 z1 R1 R2
  refine bodyPost_ret (v := .agg #[.int .i64 u.k, .int .i64 u.n, .string u.s, .int .i64 u.a, .slice (some ⟨wa.heap.size, 0, none⟩) n n]) (by simp [results, Try.results13, go_sem, q0, q1, q2, q3, q4]) rfl ⟨⟨wa.heap.size, rfl, by omega, wa, G, rfl, ?_, ?_⟩, HWb.out⟩
  · have h := HC.out
    exact ⟨fun r hr => ⟨(h.new r hr).1, by have := (h.new r hr).2; omega⟩, h.inc, fun r hr => (h.row r hr).same (hfar _ (by have := (h.new r hr).1; omega)), fun r hr => by obtain ⟨f, hf⟩ := h.blk r hr; exact ⟨f, hf.of_block (hfar _ (by have := (h.new r hr).1; omega))⟩⟩
  · exact HR.out.of_block (hfar _ (by omega))

end Go.Proofs.Ytgflalfiopnmnab

namespace Go.Proofs.Ytgflalfiopnmnab
open Go.RowKit Vl

set_option maxHeartbeats 1000000 in
/-- 'eqVal' of a value and itself. -/
theorem eqVal_same (u : V) (w : World) :
    Calls Try.prog 28 #[.agg #[.int .i64 u.k, .int .i64 u.n, .string u.s, .int .i64 u.a], .agg #[.int .i64 u.k, .int .i64 u.n, .string u.s, .int .i64 u.a]] w fun e w' => e = .returned (.bool true) ∧ Below w.heap.size w w' := by
  have hb0 : Hid _ := boxes w u u
  have h1 : (u.k != u.k) = false := by simp
  have h2 : (u.n != u.n) = false := by simp
  have h3 : (u.s.toList == u.s.toList) = true := by simp
  have h4 : (u.a != u.a) = false := by simp
  go_enter Try.func28, Try.ntmps28
  go_wp2
  go_ret
  exact ⟨rfl, hb0.out⟩

set_option maxHeartbeats 1000000 in
set_option maxRecDepth 100000 in
/-- 'eqPair' of a pair and itself. -/
theorem eqPair_same (u v : V) (w : World) :
    Calls Try.prog 116 #[.agg #[.int .i64 u.k, .int .i64 u.n, .string u.s, .int .i64 u.a, .int .i64 v.k, .int .i64 v.n, .string v.s, .int .i64 v.a], .agg #[.int .i64 u.k, .int .i64 u.n, .string u.s, .int .i64 u.a, .int .i64 v.k, .int .i64 v.n, .string v.s, .int .i64 v.a]] w fun e w' => e = .returned (.bool true) ∧ Below w.heap.size w w' := by
  have A2 : Hid _ := alloc2 w (.cells #[.int .i64 u.k, .int .i64 u.n, .string u.s, .int .i64 u.a, .int .i64 v.k, .int .i64 v.n, .string v.s, .int .i64 v.a] 63) (.cells #[.int .i64 u.k, .int .i64 u.n, .string u.s, .int .i64 u.a, .int .i64 v.k, .int .i64 v.n, .string v.s, .int .i64 v.a] 63)
  go_enter Try.func116, Try.ntmps116
  go_wp2_with fail
  refine (eqVal_same u _).mono ?_
  rintro e w1 ⟨rfl, hb1⟩
  obtain ⟨p0, p1, ps, pb⟩ := A2.out
  have P0 : Hid (w1.heap[w.heap.size]? = some (.cells #[.int .i64 u.k, .int .i64 u.n, .string u.s, .int .i64 u.a, .int .i64 v.k, .int .i64 v.n, .string v.s, .int .i64 v.a] 63 (0, 0))) := (hb1.block _ (by omega)).trans p0
  have P1 : Hid (w1.heap[w.heap.size + 1]? = some (.cells #[.int .i64 u.k, .int .i64 u.n, .string u.s, .int .i64 u.a, .int .i64 v.k, .int .i64 v.n, .string v.s, .int .i64 v.a] 63 (0, 0))) := (hb1.block _ (by omega)).trans p1
  have HW1 : Hid (Below w.heap.size w w1) := grw pb hb1
  clear hb1 p0 p1 ps pb A2
  obtain ⟨c0, c1, c2, c3, c4, c5, c6, c7, _⟩ := cells8 P0.out
  obtain ⟨d0, d1, d2, d3, d4, d5, d6, d7, _⟩ := cells8 P1.out
  go_wp2_with fail
  refine (eqVal_same v _).mono ?_
  rintro e w2 ⟨rfl, hb2⟩
  have HW2 : Hid (Below w.heap.size w w2) := grw HW1.out hb2
  clear hb2 P0 P1 HW1 c0 c1 c2 c3 c4 c5 c6 c7 d0 d1 d2 d3 d4 d5 d6 d7
  go_wp2
  go_ret
  exact ⟨rfl, HW2.out⟩

set_option maxHeartbeats 1000000 in
set_option maxRecDepth 100000 in
/-- 'eqPairS' of the same pairs. -/
theorem eqPairS_same (pa pa' : Option Addr) (L C C' B O B' O' : Nat) (K X : Nat → V) (w : World) (hL : L ≤ 1048576) (HP : Hid (PairsAt w pa L B O K X)) (HP' : Hid (PairsAt w pa' L B' O' K X)) :
    Calls Try.prog 103 #[.slice pa L C, .slice pa' L C'] w fun e w' => e = .returned (.bool true) ∧ Below w.heap.size w w' := by
  have hne : ((L : Int) != (L : Int)) = false := by simp
  go_enter Try.func103, Try.ntmps103
  go_wp2
  clear hne
  go_loopw [5] (fun i wr => ∃ c : Nat, c ≤ L ∧ i = .int .i64 c ∧ Hid (Below w.heap.size w wr)) (fun i _ => L - (intOf i).toNat)
  case atStart => exact ⟨0, Nat.zero_le _, rfl, Below.refl _ _⟩
  case round =>
    obtain ⟨c, hc, rfl, HW⟩ := hrel
    by_cases hlt : c < L
    · obtain rfl := HP.out.top (by omega)
      obtain rfl := HP'.out.top (by omega)
      have hh := (HP.out.below HW.out).cells hlt
      have hh' := (HP'.out.below HW.out).cells hlt
      have HH : Hid _ := hh
      have HH' : Hid _ := hh'
      obtain ⟨⟨k0, k1, k2, k3⟩, ⟨x0, x1, x2, x3⟩⟩ := hh
      obtain ⟨⟨l0, l1, l2, l3⟩, ⟨y0, y1, y2, y3⟩⟩ := hh'
      go_wp2
      go_region_held3 (fun w' => ((w'.cell? ⟨B, O + c * 8, none⟩ = some (.int .i64 (K c).k) ∧ w'.cell? ⟨B, O + c * 8 + 1, none⟩ = some (.int .i64 (K c).n) ∧ w'.cell? ⟨B, O + c * 8 + 2, none⟩ = some (.string (K c).s) ∧ w'.cell? ⟨B, O + c * 8 + 3, none⟩ = some (.int .i64 (K c).a)) ∧ (w'.cell? ⟨B, O + c * 8 + 4, none⟩ = some (.int .i64 (X c).k) ∧ w'.cell? ⟨B, O + c * 8 + 5, none⟩ = some (.int .i64 (X c).n) ∧ w'.cell? ⟨B, O + c * 8 + 6, none⟩ = some (.string (X c).s) ∧ w'.cell? ⟨B, O + c * 8 + 7, none⟩ = some (.int .i64 (X c).a))) ∧
          ((w'.cell? ⟨B', O' + c * 8, none⟩ = some (.int .i64 (K c).k) ∧ w'.cell? ⟨B', O' + c * 8 + 1, none⟩ = some (.int .i64 (K c).n) ∧ w'.cell? ⟨B', O' + c * 8 + 2, none⟩ = some (.string (K c).s) ∧ w'.cell? ⟨B', O' + c * 8 + 3, none⟩ = some (.int .i64 (K c).a)) ∧ (w'.cell? ⟨B', O' + c * 8 + 4, none⟩ = some (.int .i64 (X c).k) ∧ w'.cell? ⟨B', O' + c * 8 + 5, none⟩ = some (.int .i64 (X c).n) ∧ w'.cell? ⟨B', O' + c * 8 + 6, none⟩ = some (.string (X c).s) ∧ w'.cell? ⟨B', O' + c * 8 + 7, none⟩ = some (.int .i64 (X c).a))) ∧ Hid (Below w.heap.size w w'))
        (first | exact keep8 ‹_ ∧ _› hb1 | exact ⟨HH.out, HH'.out, HW.out.drew⟩)
        ((go_at_call 116; refine (eqPair_same (K c) (X c) _).mono ?_; rintro e w1 ⟨rfl, hb1⟩))
      rename_i hS
      have HW1 := hS.2.2
      clear hS hb1 HH HH' k0 k1 k2 k3 x0 x1 x2 x3 l0 l1 l2 l3 y0 y1 y2 y3 HW
      go_wp2
      go_roundw
      case rel => exact ⟨c + 1, by omega, by go_num, HW1⟩
      case measure => simp [intOf]; omega
    · go_wp2
      go_ret
      exact ⟨rfl, HW.out⟩

end Go.Proofs.Ytgflalfiopnmnab

namespace Go.Proofs.Ytgflalfiopnmnab
open Go.RowKit Vl

set_option maxHeartbeats 1000000 in
set_option maxRecDepth 100000 in
/-- 'eqTable' of the same pairs. -/
theorem eqTable_same (pa pa' : Option Addr) (L C C' B O B' O' : Nat) (K X : Nat → V) (w : World) (hL : L ≤ 1048576) (HP : Hid (PairsAt w pa L B O K X)) (HP' : Hid (PairsAt w pa' L B' O' K X)) :
    Calls Try.prog 79 #[.agg #[.slice pa L C], .agg #[.slice pa' L C']] w fun e w' => e = .returned (.bool true) ∧ Below w.heap.size w w' := by
  have A2 : Hid _ := alloc2 w (.cells #[.slice pa L C] 61) (.cells #[.slice pa' L C'] 61)
  have h := eqPairS_same pa pa' L C C' B O B' O' K X _ hL (HP.out.below A2.out.2.2.2) (HP'.out.below A2.out.2.2.2)
  have HB : Hid (Below w.heap.size w ((w.alloc (.cells #[.slice pa L C] 61)).alloc (.cells #[.slice pa' L C'] 61))) := A2.out.2.2.2
  clear A2
  go_enter Try.func79, Try.ntmps79
  go_wp2_with fail
  refine h.mono ?_
  clear h
  rintro e w1 ⟨rfl, hb1⟩
  have HW1 : Hid (Below w.heap.size w w1) := grw HB.out hb1
  clear hb1 HB
  go_wp2
  go_ret
  exact ⟨rfl, HW1.out⟩

set_option maxHeartbeats 1000000 in
set_option maxRecDepth 100000 in
/-- 'eqTableS' of the same tables. -/
theorem eqTableS_same (ta ta' : Option Addr) (n cp cp' TB TO TB' TO' : Nat) (A A' : Nat → Option Addr) (L C C' RB RO RB' RO' : Nat → Nat) (K X : Nat → Nat → V) (w : World) (hn : n ≤ 1048576) (HS : Hid (Small 1048576 n L K X))
    (HT : Hid (TabsAt w ta n TB TO A L C RB RO K X)) (HT' : Hid (TabsAt w ta' n TB' TO' A' L C' RB' RO' K X)) :
    Calls Try.prog 48 #[.slice ta n cp, .slice ta' n cp'] w fun e w' => e = .returned (.bool true) ∧ Below w.heap.size w w' := by
  have hne : ((n : Int) != (n : Int)) = false := by simp
  go_enter Try.func48, Try.ntmps48
  go_wp2
  clear hne
  go_loopw [5] (fun i wr => ∃ c : Nat, c ≤ n ∧ i = .int .i64 c ∧ Hid (Below w.heap.size w wr)) (fun i _ => n - (intOf i).toNat)
  case atStart => exact ⟨0, Nat.zero_le _, rfl, Below.refl _ _⟩
  case round =>
    obtain ⟨c, hc, rfl, HW⟩ := hrel
    by_cases hlt : c < n
    · obtain rfl := HT.out.top (by omega)
      obtain rfl := HT'.out.top (by omega)
      have t0 := (HT.out.below HW.out).tab c hlt
      have t1 := (HT'.out.below HW.out).tab c hlt
      have HE : Hid (∀ w', Below wr.heap.size wr w' → Calls Try.prog 79 #[.agg #[.slice (A c) (L c) (C c)], .agg #[.slice (A' c) (L c) (C' c)]] w' fun e w'' => e = .returned (.bool true) ∧ Below w'.heap.size w' w'') := show ∀ w', _ from fun w' hb' =>
        eqTable_same (A c) (A' c) (L c) (C c) (C' c) (RB c) (RO c) (RB' c) (RO' c) (K c) (X c) w' (HS.out c hlt).1 ((HT.out.below (grw HW.out hb')).row c hlt) ((HT'.out.below (grw HW.out hb')).row c hlt)
      go_wp2
      go_region_held3 (fun w' => w'.cell? ⟨TB, TO + c, none⟩ = some (.slice (A c) (L c) (C c)) ∧ w'.cell? ⟨TB', TO' + c, none⟩ = some (.slice (A' c) (L c) (C' c)) ∧ Hid (Below w.heap.size w w'))
        (first | exact keep2c ‹_ ∧ _› hb1 | exact ⟨t0, t1, HW.out.drew⟩)
        ((go_at_call 79; refine (HE.out _ ((Below.refl _ _).drew)).mono ?_; rintro e w1 ⟨rfl, hb1⟩))
      rename_i hS
      have HW1 := hS.2.2
      clear hS hb1 t0 t1 HE HW
      go_wp2
      go_roundw
      case rel => exact ⟨c + 1, by omega, by go_num, HW1⟩
      case measure => simp [intOf]; omega
    · go_wp2
      go_ret
      exact ⟨rfl, HW.out⟩

set_option maxHeartbeats 1000000 in
set_option maxRecDepth 100000 in
/-- 'eqGraph' of the same graphs. -/
theorem eqGraph_same (u : V) (ta ta' : Option Addr) (n cp cp' TB TO TB' TO' : Nat) (A A' : Nat → Option Addr) (L C C' RB RO RB' RO' : Nat → Nat) (K X : Nat → Nat → V) (w : World) (hn : n ≤ 1048576) (HS : Hid (Small 1048576 n L K X))
    (HT : Hid (TabsAt w ta n TB TO A L C RB RO K X)) (HT' : Hid (TabsAt w ta' n TB' TO' A' L C' RB' RO' K X)) :
    Calls Try.prog 15 #[.agg #[.int .i64 u.k, .int .i64 u.n, .string u.s, .int .i64 u.a, .slice ta n cp], .agg #[.int .i64 u.k, .int .i64 u.n, .string u.s, .int .i64 u.a, .slice ta' n cp']] w fun e w' => e = .returned (.bool true) ∧ Below w.heap.size w w' := by
  have A2 : Hid _ := alloc2 w (.cells #[.int .i64 u.k, .int .i64 u.n, .string u.s, .int .i64 u.a, .slice ta n cp] 32) (.cells #[.int .i64 u.k, .int .i64 u.n, .string u.s, .int .i64 u.a, .slice ta' n cp'] 32)
  go_enter Try.func15, Try.ntmps15
  go_wp2_with fail
  refine (eqVal_same u _).mono ?_
  rintro e w1 ⟨rfl, hb1⟩
  obtain ⟨p0, p1, ps, pb⟩ := A2.out
  have P0 : Hid (w1.heap[w.heap.size]? = some (.cells #[.int .i64 u.k, .int .i64 u.n, .string u.s, .int .i64 u.a, .slice ta n cp] 32 (0, 0))) := (hb1.block _ (by omega)).trans p0
  have P1 : Hid (w1.heap[w.heap.size + 1]? = some (.cells #[.int .i64 u.k, .int .i64 u.n, .string u.s, .int .i64 u.a, .slice ta' n cp'] 32 (0, 0))) := (hb1.block _ (by omega)).trans p1
  have HW1 : Hid (Below w.heap.size w w1) := grw pb hb1
  clear hb1 p0 p1 ps pb A2
  obtain ⟨c0, c1, c2, c3, c4, _⟩ := cells5 P0.out
  obtain ⟨d0, d1, d2, d3, d4, _⟩ := cells5 P1.out
  have h := eqTableS_same ta ta' n cp cp' TB TO TB' TO' A A' L C C' RB RO RB' RO' K X w1 hn HS (HT.out.below HW1.out) (HT'.out.below HW1.out)
  go_wp2_with fail
  refine h.mono ?_
  clear h
  rintro e w2 ⟨rfl, hb2⟩
  have HW2 : Hid (Below w.heap.size w w2) := grw HW1.out hb2
  clear hb2 P0 P1 HW1 c0 c1 c2 c3 c4 d0 d1 d2 d3 d4
  go_wp2
  go_ret
  exact ⟨rfl, HW2.out⟩

end Go.Proofs.Ytgflalfiopnmnab

namespace Go.Proofs.Ytgflalfiopnmnab
open Go.RowKit Vl
open Go.ChangeShapes Go.WideShapes Go.ChangeAt Go.Joins

theorem cellsG_val : Try.prog.cellsOf 23 = 4 := by kernel_rfl
theorem cellsG_pair : Try.prog.cellsOf 191 = 8 := by kernel_rfl
theorem cellsG_table : Try.prog.cellsOf 125 = 1 := by kernel_rfl
theorem cellsG_pairs : Try.prog.cellsOf 123 = 1 := by kernel_rfl
theorem cellsG_tables : Try.prog.cellsOf 24 = 1 := by kernel_rfl
theorem cellsG_graph : Try.prog.cellsOf 26 = 5 := by kernel_rfl

section
variable {H : Type} {enc : TypeId × Value → H} {w : World} {base : Nat} {spare : Nat → Bool} {held : Bool}

theorem opens_val {fuel : Nat} {cs : List Value} {x : DataW H × List MemPlace} (h : DataW.trod enc Try.prog w base spare held fuel 23 cs = some x) : ∃ v : V, cs = vCells v ∧ v.s.size ≤ 9223372036854775807 := by
  obtain ⟨xs, n, _, _, hlen, hl, hf⟩ := DataW.trod_struct Try.underlying23 h
  rw [cellsG_val] at hlen
  obtain ⟨c0, c1, c2, c3, rfl⟩ := four_of hlen
  have hl4 : xs.length = 4 := hl
  have f0 : DataW.trod enc Try.prog w base spare held n 3 (([c0, c1, c2, c3].drop 0).take (Try.prog.cellsOf 3)) = xs[0]? := hf 0 _ rfl
  have f1 : DataW.trod enc Try.prog w base spare held n 2 (([c0, c1, c2, c3].drop 1).take (Try.prog.cellsOf 2)) = xs[1]? := hf 1 _ rfl
  have f2 : DataW.trod enc Try.prog w base spare held n 9 (([c0, c1, c2, c3].drop 2).take (Try.prog.cellsOf 9)) = xs[2]? := hf 2 _ rfl
  have f3 : DataW.trod enc Try.prog w base spare held n 3 (([c0, c1, c2, c3].drop 3).take (Try.prog.cellsOf 3)) = xs[3]? := hf 3 _ rfl
  rw [cellsG_int] at f0 f3
  rw [cellsG_int64] at f1
  rw [cellsG_string] at f2
  obtain ⟨k, rfl⟩ := opens_int Try.underlying3 (c := c0) f0 (isSome_at (by omega))
  obtain ⟨m, rfl⟩ := opens_int Try.underlying2 (c := c1) f1 (isSome_at (by omega))
  obtain ⟨s, rfl, hs⟩ := opens_string Try.underlying9 (c := c2) f2 (isSome_at (by omega))
  obtain ⟨a, rfl⟩ := opens_int Try.underlying3 (c := c3) f3 (isSome_at (by omega))
  exact ⟨⟨k, m, s, a⟩, rfl, hs⟩

theorem opens_pair {fuel : Nat} {cs : List Value} {x : DataW H × List MemPlace} (h : DataW.trod enc Try.prog w base spare held fuel 191 cs = some x) : ∃ u v : V, cs = vCells u ++ vCells v ∧ u.s.size ≤ 9223372036854775807 ∧ v.s.size ≤ 9223372036854775807 := by
  obtain ⟨xs, n, _, _, hlen, hl, hf⟩ := DataW.trod_struct Try.underlying191 h
  rw [cellsG_pair] at hlen
  have hl2 : xs.length = 2 := hl
  have f0 : DataW.trod enc Try.prog w base spare held n 23 ((cs.drop 0).take (Try.prog.cellsOf 23)) = xs[0]? := hf 0 _ rfl
  have f1 : DataW.trod enc Try.prog w base spare held n 23 ((cs.drop 4).take (Try.prog.cellsOf 23)) = xs[1]? := hf 1 _ rfl
  rw [cellsG_val] at f0 f1
  obtain ⟨y0, e0⟩ := Option.isSome_iff_exists.1 (isSome_at (l := xs) (i := 0) (by omega))
  obtain ⟨y1, e1⟩ := Option.isSome_iff_exists.1 (isSome_at (l := xs) (i := 1) (by omega))
  rw [e0] at f0
  rw [e1] at f1
  obtain ⟨u, hu, su⟩ := opens_val f0
  obtain ⟨v, hv, sv⟩ := opens_val f1
  refine ⟨u, v, ?_, su, sv⟩
  obtain ⟨c0, c1, c2, c3, c4, c5, c6, c7, rfl⟩ := eight_of hlen
  rw [← hu, ← hv]
  rfl

/-- A slice of pairs that came in. -/
theorem opens_pairs {fuel : Nat} {c : Value} {x : DataW H × List MemPlace} (h : DataW.trod enc Try.prog w base (fun _ => true) held fuel 123 [c] = some x) :
    ∃ (pa : Option Addr) (L C B O : Nat) (K X : Nat → V), c = .slice pa L C ∧ L ≤ 9223372036854775807 ∧ PairsAt w pa L B O K X ∧ ∀ j, j < L → (K j).s.size ≤ 9223372036854775807 ∧ (X j).s.size ≤ 9223372036854775807 := by
  rcases Deep.open_slice Try.underlying123 h with ⟨hcs, _⟩ | ⟨a, len, cap, m, n, D, Pl, hcs, hb, hl, hm, hmm, hx, hall⟩
  · obtain rfl : c = .slice none 0 0 := by simpa using hcs
    exact ⟨none, 0, 0, 0, 0, fun _ => ⟨0, 0, ⟨#[]⟩, 0⟩, fun _ => ⟨0, 0, ⟨#[]⟩, 0⟩, rfl, by omega, ⟨fun h => by omega, fun j hj => by omega, fun j hj => by omega⟩, fun j hj => by omega⟩
  · obtain rfl : c = .slice (some a) len cap := by simpa using hcs
    unfold maxLen at hm
    simp only [if_true] at hmm
    have each : ∀ j, j < len → ∃ q : V × V, (∀ i v, (vCells q.1 ++ vCells q.2)[i]? = some v → w.cell? (a.add (j * 8 + i)) = some v) ∧ q.1.s.size ≤ 9223372036854775807 ∧ q.2.s.size ≤ 9223372036854775807 := by
      intro j hj
      obtain ⟨cs', h1, h2⟩ := hall j (by omega)
      rw [cellsG_pair] at h1
      obtain ⟨u, v, rfl, su, sv⟩ := opens_pair h2
      obtain ⟨_, hlen, hcell⟩ := World.cells?_some h1
      refine ⟨(u, v), fun i y hy => ?_, su, sv⟩
      have hi : i < 8 := by
        rcases Nat.lt_or_ge i 8 with h | h
        · exact h
        · rw [List.getElem?_eq_none (by simp [vCells]; omega)] at hy; cases hy
      have := hcell i hi
      rw [Deep.add_add, hy] at this
      exact this
    obtain ⟨q, hq⟩ := Deep.choose_lt (α := V × V) (n := len) (p := fun j q => (∀ i v, (vCells q.1 ++ vCells q.2)[i]? = some v → w.cell? (a.add (j * 8 + i)) = some v) ∧ q.1.s.size ≤ 9223372036854775807 ∧ q.2.s.size ≤ 9223372036854775807) each
    have hp : 0 < len → a = ⟨a.block, a.off, none⟩ := fun h0 => plain_of (v := .int .i64 (q 0).1.k) (by have := (hq 0 h0).1 0 _ rfl; simpa using this)
    refine ⟨some a, len, cap, a.block, a.off, fun j => (q j).1, fun j => (q j).2, rfl, by omega, ⟨fun h0 => by rw [← hp h0], fun j hj => ?_, fun j hj => ?_⟩, fun j hj => (hq j hj).2⟩
    all_goals
      have g : ∀ i v, (vCells (q j).1 ++ vCells (q j).2)[i]? = some v → w.cell? ⟨a.block, a.off + (j * 8 + i), none⟩ = some v := fun i v hv => by
        have := (hq j hj).1 i v hv
        rw [hp (by omega), add_plain] at this
        exact this
    · exact ⟨g 0 _ rfl, g 1 _ rfl, g 2 _ rfl, g 3 _ rfl⟩
    · exact ⟨g 4 _ rfl, g 5 _ rfl, g 6 _ rfl, g 7 _ rfl⟩

/-- A slice of tables that came in. -/
theorem opens_tables {fuel : Nat} {c : Value} {x : DataW H × List MemPlace} (h : DataW.trod enc Try.prog w base (fun _ => true) held fuel 24 [c] = some x) :
    ∃ (ta : Option Addr) (n cp TB TO : Nat) (A : Nat → Option Addr) (L C RB RO : Nat → Nat) (K X : Nat → Nat → V), c = .slice ta n cp ∧ n ≤ 9223372036854775807 ∧ TabsAt w ta n TB TO A L C RB RO K X ∧ Small 9223372036854775807 n L K X := by
  rcases Deep.open_slice1 Try.underlying24 cellsG_table h with ⟨hcs, _⟩ | ⟨a, len, cap, m, n, V', D, Pl, hcs, hb, hl, hm, hmm, hx, hall⟩
  · obtain rfl : c = .slice none 0 0 := by simpa using hcs
    exact ⟨none, 0, 0, 0, 0, fun _ => none, fun _ => 0, fun _ => 0, fun _ => 0, fun _ => 0, fun _ _ => ⟨0, 0, ⟨#[]⟩, 0⟩, fun _ _ => ⟨0, 0, ⟨#[]⟩, 0⟩, rfl, by omega, ⟨fun h => by omega, fun j hj => by omega, fun j hj => by omega⟩, fun j hj => by omega⟩
  · obtain rfl : c = .slice (some a) len cap := by simpa using hcs
    unfold maxLen at hm
    simp only [if_true] at hmm
    have each : ∀ r, r < len → ∃ y : Option Addr × Nat × Nat × Nat × Nat × (Nat → V) × (Nat → V), w.cell? (a.add r) = some (.slice y.1 y.2.1 y.2.2.1) ∧ y.2.1 ≤ 9223372036854775807 ∧ PairsAt w y.1 y.2.1 y.2.2.2.1 y.2.2.2.2.1 y.2.2.2.2.2.1 y.2.2.2.2.2.2 ∧ ∀ j, j < y.2.1 → (y.2.2.2.2.2.1 j).s.size ≤ 9223372036854775807 ∧ (y.2.2.2.2.2.2 j).s.size ≤ 9223372036854775807 := by
      intro r hr
      obtain ⟨h1, h2⟩ := hall r (by omega)
      obtain ⟨xs, k, _, _, hlen, hl2, hf⟩ := DataW.trod_struct Try.underlying125 h2
      have hl1 : xs.length = 1 := hl2
      have f0 : DataW.trod enc Try.prog w base (fun _ => true) held k 123 (([V' r].drop 0).take (Try.prog.cellsOf 123)) = xs[0]? := hf 0 _ rfl
      rw [cellsG_pairs] at f0
      obtain ⟨y0, e0⟩ := Option.isSome_iff_exists.1 (isSome_at (l := xs) (i := 0) (by omega))
      rw [e0] at f0
      obtain ⟨pa, L, C, B, O, K, X, hc, hL, hP, hS⟩ := opens_pairs (c := V' r) f0
      exact ⟨(pa, L, C, B, O, K, X), by rw [h1, hc], hL, hP, hS⟩
    obtain ⟨y, hy⟩ := Deep.choose_lt (α := Option Addr × Nat × Nat × Nat × Nat × (Nat → V) × (Nat → V)) (n := len) (p := fun r y => w.cell? (a.add r) = some (.slice y.1 y.2.1 y.2.2.1) ∧ y.2.1 ≤ 9223372036854775807 ∧ PairsAt w y.1 y.2.1 y.2.2.2.1 y.2.2.2.2.1 y.2.2.2.2.2.1 y.2.2.2.2.2.2 ∧ ∀ j, j < y.2.1 → (y.2.2.2.2.2.1 j).s.size ≤ 9223372036854775807 ∧ (y.2.2.2.2.2.2 j).s.size ≤ 9223372036854775807) each
    have hp : 0 < len → a = ⟨a.block, a.off, none⟩ := fun h0 => plain_of (hy 0 h0).1
    refine ⟨some a, len, cap, a.block, a.off, fun r => (y r).1, fun r => (y r).2.1, fun r => (y r).2.2.1, fun r => (y r).2.2.2.1, fun r => (y r).2.2.2.2.1, fun r => (y r).2.2.2.2.2.1, fun r => (y r).2.2.2.2.2.2, rfl, by omega, ⟨fun h0 => by rw [← hp h0], fun r hr => ?_, fun r hr => (hy r hr).2.2.1⟩, fun r hr => ⟨(hy r hr).2.1, (hy r hr).2.2.2⟩⟩
    have := (hy r hr).1
    rw [hp (by omega), add_plain] at this
    exact this

set_option maxRecDepth 100000 in
/-- A graph that came in. -/
theorem opens_graph {r : Reach} {b0 : Nat} {v : Value} {d : DataW H} {p : List MemPlace} (hv : Value.okWide Try.prog w r b0 26 v) (h : DataW.Trod enc Try.prog w base (fun _ => true) held 26 v d p) :
    ∃ (u : V) (ta : Option Addr) (n cp TB TO : Nat) (A : Nat → Option Addr) (L C RB RO : Nat → Nat) (K X : Nat → Nat → V), v = .agg #[.int .i64 u.k, .int .i64 u.n, .string u.s, .int .i64 u.a, .slice ta n cp] ∧ u.s.size ≤ 9223372036854775807 ∧ n ≤ 9223372036854775807 ∧ TabsAt w ta n TB TO A L C RB RO K X ∧ Small 9223372036854775807 n L K X := by
  obtain ⟨cs, rfl, hsz⟩ := okWide_struct Try.underlying26 hv
  obtain ⟨fuel, hf0⟩ := h
  obtain ⟨xs, k, _, _, hlen, hl2, hf⟩ := DataW.trod_struct Try.underlying26 hf0
  have hl : xs.length = 2 := hl2
  have hcs : cs.toList.length = 5 := by rw [Array.length_toList, hsz]; exact cellsG_graph
  obtain ⟨c0, c1, c2, c3, c4, e5⟩ := five_of hcs
  obtain rfl : cs = #[c0, c1, c2, c3, c4] := by cases cs; simp_all
  have f0 : DataW.trod enc Try.prog w base (fun _ => true) held k 23 (([c0, c1, c2, c3, c4].drop 0).take (Try.prog.cellsOf 23)) = xs[0]? := hf 0 _ rfl
  have f1 : DataW.trod enc Try.prog w base (fun _ => true) held k 24 (([c0, c1, c2, c3, c4].drop 4).take (Try.prog.cellsOf 24)) = xs[1]? := hf 1 _ rfl
  rw [cellsG_val] at f0
  rw [cellsG_tables] at f1
  obtain ⟨y0, e0⟩ := Option.isSome_iff_exists.1 (isSome_at (l := xs) (i := 0) (by omega))
  obtain ⟨y1, e1⟩ := Option.isSome_iff_exists.1 (isSome_at (l := xs) (i := 1) (by omega))
  rw [e0] at f0
  rw [e1] at f1
  obtain ⟨u, hu, su⟩ := opens_val (cs := [c0, c1, c2, c3]) f0
  obtain ⟨ta, n, cp, TB, TO, A, L, C, RB, RO, K, X, hc, hn, hT, hS⟩ := opens_tables (c := c4) f1
  unfold vCells at hu
  simp only [List.cons.injEq, and_true] at hu
  obtain ⟨rfl, rfl, rfl, rfl⟩ := hu
  subst hc
  exact ⟨u, ta, n, cp, TB, TO, A, L, C, RB, RO, K, X, rfl, su, hn, hT, hS⟩
end

end Go.Proofs.Ytgflalfiopnmnab

namespace Go.Proofs.Ytgflalfiopnmnab
open Go.RowKit Vl
open Go.ChangeShapes Go.WideShapes Go.ChangeAt Go.Joins

set_option maxHeartbeats 4000000 in
set_option maxRecDepth 100000 in
theorem shrinkLaw (u : V) (ta : Option Addr) (n cp TB TO : Nat) (A : Nat → Option Addr) (L C RB RO : Nat → Nat) (K X : Nat → Nat → V) (w : World) (hu : u.s.size ≤ 9223372036854775807) (hn : n ≤ 9223372036854775807)
    (HS : Hid (Small 9223372036854775807 n L K X)) (HT : Hid (TabsAt w ta n TB TO A L C RB RO K X)) :
    Calls Try.prog 9 #[.agg #[.int .i64 u.k, .int .i64 u.n, .string u.s, .int .i64 u.a, .slice ta n cp]] w fun e w' => e = .returned (.bool true) ∧ Below w.heap.size w w' := by
  obtain ⟨w0, hw0⟩ : ∃ w0, w0 = w.alloc (.cells #[.int .i64 u.k, .int .i64 u.n, .string u.s, .int .i64 u.a, .slice ta n cp] 26) := ⟨_, rfl⟩
  have HB0 : Hid (Below w.heap.size w w0) := by rw [hw0]; exact (Below.refl _ _).alloc (Nat.le_refl _) _
  have G0 : Hid (w0.heap[w.heap.size]? = some (.cells #[.int .i64 u.k, .int .i64 u.n, .string u.s, .int .i64 u.a, .slice ta n cp] 26 (0, 0))) := by rw [hw0]; exact heap_alloc_new _ _
  have hsz := szGraph_any u ta n cp TB TO A L C RB RO K X 1048576 w0 (by omega) (by omega) hu hn HS (HT.out.below HB0.out)
  go_enter Try.func9, Try.ntmps9
  go_wp2_with fail
  rw [← hw0]
  refine hsz.mono ?_
  clear hsz hw0
  rintro e w1 ⟨⟨q, rfl, hq1, hq2⟩, hb1⟩
  have G1 : Hid (w1.heap[w.heap.size]? = some (.cells #[.int .i64 u.k, .int .i64 u.n, .string u.s, .int .i64 u.a, .slice ta n cp] 26 (0, 0))) := blk_below G0.out hb1
  have HB1 : Hid (Below w.heap.size w w1) := grw HB0.out hb1
  clear hb1 G0 HB0
  by_cases hq : q < 0
  · clear hq2
    go_wp2
    go_ret
    exact ⟨rfl, HB1.out⟩
  obtain ⟨_, hn1, hsm⟩ := hq2 (by omega)
  have HSm : Hid (Small 1048576 n L K X) := hsm
  clear hq2 hsm HS
  obtain ⟨N, U, L', K', X', HN, HSN, HSP, HIM⟩ : ∃ (N : Nat) (U : V) (L' : Nat → Nat) (K' X' : Nat → Nat → V), N ≤ 1048576 ∧ Hid (Small 1048576 N L' K' X') ∧
      Hid (∀ (ta : Option Addr) (cp TB TO : Nat) (A : Nat → Option Addr) (C RB RO : Nat → Nat) (w : World), TabsAt w ta n TB TO A L C RB RO K X → Calls Try.prog 37 #[.agg #[.int .i64 u.k, .int .i64 u.n, .string u.s, .int .i64 u.a, .slice ta n cp]] w fun e w' => GrRes w w' e N U L' K' X' ∧ Below w.heap.size w w') ∧
      Hid (∀ (ta : Option Addr) (cp TB TO : Nat) (A : Nat → Option Addr) (C RB RO : Nat → Nat) (w : World), TabsAt w ta n TB TO A L C RB RO K X → Calls Try.prog 38 #[.agg #[.int .i64 u.k, .int .i64 u.n, .string u.s, .int .i64 u.a, .slice ta n cp]] w fun e w' => GrRes w w' e N U L' K' X' ∧ Below w.heap.size w w') :=
    by
      obtain ⟨N, U, L', K', X', h1, h2, h3⟩ := shr_fixed u HSm.out
      exact ⟨N, U, L', K', X', h1, h2, show ∀ _, _ from fun ta cp TB TO A C RB RO w hT => (specShrink_any u ta n cp TB TO A L C RB RO K X w hn1 HSm hT).mono (fun e w' h => ⟨h3 w w' e h.1, h.2⟩),
        show ∀ _, _ from fun ta cp TB TO A C RB RO w hT => (implShrink_any u ta n cp TB TO A L C RB RO K X w hn1 HSm hT).mono (fun e w' h => ⟨h3 w w' e h.1, h.2⟩)⟩
  have HLn : Hid (∀ r, r < n → L r ≤ 1048576) := show ∀ r, _ from fun r hr => (HSm.out r hr).1
  have HLN : Hid (∀ r, r < N → L' r ≤ 1048576) := show ∀ r, _ from fun r hr => (HSN.out r hr).1
  obtain ⟨g0, g1, g2, g3, g4, _⟩ := cells5 G1.out
  have hto := toGraph_any u ta n cp TB TO A L C RB RO K X w1 hn1 HSm (HT.out.below HB1.out)
  go_wp2_with fail
  refine hto.mono ?_
  clear hto
  rintro e w2 ⟨⟨B2, rfl, _, w02, H2, _, hC2, hR2⟩, hb2⟩
  have HT2 : Hid (TabsAt w2 (some ⟨B2, 0, none⟩) n B2 0 (fun r => some ⟨H2 r, 0, none⟩) L L H2 (fun _ => 0) K X) := hC2.tabs hR2
  have G2 : Hid (w2.heap[w.heap.size]? = some (.cells #[.int .i64 u.k, .int .i64 u.n, .string u.s, .int .i64 u.a, .slice ta n cp] 26 (0, 0))) := blk_below G1.out hb2
  have HB2 : Hid (Below w.heap.size w w2) := grw HB1.out hb2
  clear hb2 G1 HB1 hC2 hR2 g0 g1 g2 g3 g4
  have hsp := HSP.out (some ⟨B2, 0, none⟩) n B2 0 _ _ _ _ w2 HT2.out
  go_wp2_with fail
  refine hsp.mono ?_
  clear hsp HSP
  rintro e w3 ⟨⟨ta3, tc3, PV3, bs3, _, rfl, hO3⟩, hb3⟩
  obtain ⟨w4, hw4⟩ : ∃ w4, w4 = w3.alloc (.cells #[.int .i64 U.k, .int .i64 U.n, .string U.s, .int .i64 U.a, .slice ta3 N tc3] 32) := ⟨_, rfl⟩
  have HB34 : Hid (Below w3.heap.size w3 w4) := by rw [hw4]; exact (Below.refl _ _).alloc (Nat.le_refl _) _
  have W4 : Hid (w4.heap[w3.heap.size]? = some (.cells #[.int .i64 U.k, .int .i64 U.n, .string U.s, .int .i64 U.a, .slice ta3 N tc3] 32 (0, 0))) := by rw [hw4]; exact heap_alloc_new _ _
  have O4 : Hid (OTab w4 bs3 (.slice ta3 N tc3) N PV3 L' K' X') := hO3.below HB34.out
  have G4 : Hid (w4.heap[w.heap.size]? = some (.cells #[.int .i64 u.k, .int .i64 u.n, .string u.s, .int .i64 u.a, .slice ta n cp] 26 (0, 0))) := blk_below (blk_below G2.out hb3) HB34.out
  have HBw4 : Hid (Below w.heap.size w w4) := grw (grw HB2.out hb3) HB34.out
  have hs4 : Hid (w4.heap.size = w3.heap.size + 1) := by rw [hw4]; exact (by simp : (w3.alloc _).heap.size = w3.heap.size + 1)
  obtain ⟨b4, hb4⟩ : ∃ b4, w3.heap.size = b4 := ⟨_, rfl⟩
  rw [hb4] at W4 hs4
  obtain ⟨g0, g1, g2, g3, g4, _⟩ := cells5 G4.out
  rw [hw4] at g0 g1 g2 g3 g4
  have hto := toGraph_any u ta n cp TB TO A L C RB RO K X w4 hn1 HSm (HT.out.below HBw4.out)
  clear hb3 HB34 hO3 HT2 G2 HB2
  go_wp2_with fail
  rw [← hw4]
  refine hto.mono ?_
  clear hto hw4 hb4 g0 g1 g2 g3 g4
  rintro e w5 ⟨⟨B5, rfl, hB5, w05, H5, hw05, hC5, hR5⟩, hb5⟩
  obtain ⟨w6, hw6⟩ : ∃ w6, w6 = w5.alloc (.cells #[.int .i64 u.k, .int .i64 u.n, .string u.s, .int .i64 u.a, .slice (some ⟨B5, 0, none⟩) n n] 32) := ⟨_, rfl⟩
  have HB56 : Hid (Below w5.heap.size w5 w6) := by rw [hw6]; exact (Below.refl _ _).alloc (Nat.le_refl _) _
  have X6 : Hid (w6.heap[w5.heap.size]? = some (.cells #[.int .i64 u.k, .int .i64 u.n, .string u.s, .int .i64 u.a, .slice (some ⟨B5, 0, none⟩) n n] 32 (0, 0))) := by rw [hw6]; exact heap_alloc_new _ _
  have C6 : Hid (Copied w05 w6 n H5 L K X) := hC5.below HB56.out
  have R6 : Hid (w6.rowIs B5 61 n (fun i => .slice (some ⟨H5 i, 0, none⟩) (L i) (L i))) := hR5.of_block (HB56.out.block _ hR5.lt)
  have HB46 : Hid (Below w4.heap.size w4 w6) := grw hb5 HB56.out
  have hs46 : w4.heap.size ≤ w6.heap.size := HB46.out.size
  have HNew : Hid (∀ j, j < n → w4.heap.size < H5 j ∧ H5 j < w6.heap.size) := show ∀ j, _ from fun j hj => by have := C6.out.new j hj; omega
  obtain ⟨b6, hb6⟩ : ∃ b6, w5.heap.size = b6 := ⟨_, rfl⟩
  rw [hb6] at X6
  have him := HIM.out (some ⟨B5, 0, none⟩) n B5 0 _ _ _ _ w6 (C6.out.tabs R6.out)
  clear hb5 hC5 hR5 HB56
  go_wp2_with fail
  rw [← hw6]
  refine him.mono ?_
  clear him hw6 hb6
  rintro e w7 ⟨⟨ta7, tc7, PV7, bs7, hbs7, rfl, hO7⟩, hb7⟩
  obtain ⟨w8, hw8⟩ : ∃ w8, w8 = w7.alloc (.cells #[.int .i64 U.k, .int .i64 U.n, .string U.s, .int .i64 U.a, .slice ta7 N tc7] 32) := ⟨_, rfl⟩
  have HB78 : Hid (Below w7.heap.size w7 w8) := by rw [hw8]; exact (Below.refl _ _).alloc (Nat.le_refl _) _
  have Y8 : Hid (w8.heap[w7.heap.size]? = some (.cells #[.int .i64 U.k, .int .i64 U.n, .string U.s, .int .i64 U.a, .slice ta7 N tc7] 32 (0, 0))) := by rw [hw8]; exact heap_alloc_new _ _
  have HB68 : Hid (Below w6.heap.size w6 w8) := grw hb7 HB78.out
  have O8 : Hid (OTab w8 bs7 (.slice ta7 N tc7) N PV7 L' K' X') := hO7.below HB78.out
  have X8 : Hid (w8.heap[b6]? = some (.cells #[.int .i64 u.k, .int .i64 u.n, .string u.s, .int .i64 u.a, .slice (some ⟨B5, 0, none⟩) n n] 32 (0, 0))) := blk_below X6.out HB68.out
  have C8 : Hid (Copied w05 w8 n H5 L K X) := C6.out.below HB68.out
  have R8 : Hid (w8.rowIs B5 61 n (fun i => .slice (some ⟨H5 i, 0, none⟩) (L i) (L i))) := R6.out.of_block (HB68.out.block _ R6.out.lt)
  have HB48 : Hid (Below w4.heap.size w4 w8) := grw HB46.out HB68.out
  have hs67 : w6.heap.size ≤ w7.heap.size := hb7.size
  have hbx6 : b6 < w6.heap.size := blk_lt X6.out
  obtain ⟨b8, hb8⟩ : ∃ b8, w7.heap.size = b8 := ⟨_, rfl⟩
  rw [hb8] at Y8 hs67
  obtain ⟨y0, y1, y2, y3, y4, _⟩ := cells5 Y8.out
  obtain ⟨v0, v1, v2, v3, v4, _⟩ := cells5 (blk_below W4.out HB48.out)
  rw [hw8] at y0 y1 y2 y3 y4 v0 v1 v2 v3 v4
  have heq := eqGraph_same U ta7 ta3 N tc7 tc3 _ _ _ _ _ _ L' _ _ _ _ _ _ K' X' w8 HN HSN O8.out.tabs.2 (O4.out.below HB48.out).tabs.2
  have hlt4 : b4 < w7.heap.size := by have := HB46.out.size; have := hb7.size; have := hs4.out; omega
  clear hb7 HB78 hO7 C6 R6 X6 HB46 HB68
  go_wp2_with fail
  rw [← hw8]
  refine heq.mono ?_
  clear heq hw8 y0 y1 y2 y3 y4 v0 v1 v2 v3 v4 hlt4 hb8
  rintro e w9 ⟨rfl, hb9⟩
  have O9 : Hid (OTab w9 bs7 (.slice ta7 N tc7) N PV7 L' K' X') := O8.out.below hb9
  have Y9 : Hid (w9.heap[b8]? = some (.cells #[.int .i64 U.k, .int .i64 U.n, .string U.s, .int .i64 U.a, .slice ta7 N tc7] 32 (0, 0))) := blk_below Y8.out hb9
  have X9 : Hid (w9.heap[b6]? = some (.cells #[.int .i64 u.k, .int .i64 u.n, .string u.s, .int .i64 u.a, .slice (some ⟨B5, 0, none⟩) n n] 32 (0, 0))) := blk_below X8.out hb9
  have C9 : Hid (Copied w05 w9 n H5 L K X) := C8.out.below hb9
  have R9 : Hid (w9.rowIs B5 61 n (fun i => .slice (some ⟨H5 i, 0, none⟩) (L i) (L i))) := R8.out.of_block (hb9.block _ R8.out.lt)
  have HB49 : Hid (Below w4.heap.size w4 w9) := grw HB48.out hb9
  have HBw9 : Hid (Below w.heap.size w w9) := grw HBw4.out HB49.out
  clear hb9 O8 Y8 X8 C8 R8 HB48
  have HT9 : Hid (TabsAt w9 (some ⟨B5, 0, none⟩) n B5 0 (fun r => some ⟨H5 r, 0, none⟩) L L H5 (fun _ => 0) K X) := C9.out.tabs R9.out
  obtain ⟨g0, g1, g2, g3, g4, _⟩ := cells5 (blk_below G4.out HB49.out)
  obtain ⟨x0, x1, x2, x3, x4, _⟩ := cells5 X9.out
  have hto := toGraph_any u ta n cp TB TO A L C RB RO K X w9.drew hn1 HSm (HT.out.below HBw9.out.drew)
  go_wp2
  go_region_held3 (fun w' => (w'.cell? ⟨b6, 0, none⟩ = some (.int .i64 u.k) ∧ w'.cell? ⟨b6, 1, none⟩ = some (.int .i64 u.n) ∧ w'.cell? ⟨b6, 2, none⟩ = some (.string u.s) ∧ w'.cell? ⟨b6, 3, none⟩ = some (.int .i64 u.a) ∧ w'.cell? ⟨b6, 4, none⟩ = some (.slice (some ⟨B5, 0, none⟩) n n)) ∧ (w'.cell? ⟨w.heap.size, 0, none⟩ = some (.int .i64 u.k) ∧ w'.cell? ⟨w.heap.size, 1, none⟩ = some (.int .i64 u.n) ∧ w'.cell? ⟨w.heap.size, 2, none⟩ = some (.string u.s) ∧ w'.cell? ⟨w.heap.size, 3, none⟩ = some (.int .i64 u.a) ∧ w'.cell? ⟨w.heap.size, 4, none⟩ = some (.slice ta n cp)) ∧ Hid (Below w.heap.size w w'))
    (first | exact keep55 ‹_ ∧ _› hbD | exact keep55 ‹_ ∧ _› hbC | exact ⟨⟨x0, x1, x2, x3, x4⟩, ⟨g0, g1, g2, g3, g4⟩, HBw9.out.drew⟩)
    (first
      | (go_at_call 13; refine hto.mono ?_; rintro e wC ⟨⟨BC, rfl, _, w0C, HC, _, hCC, hRC⟩, hbC⟩)
      | (go_at_call 15; refine (eqGraph_same u (some ⟨B5, 0, none⟩) (some ⟨BC, 0, none⟩) n n n B5 0 BC 0 _ _ L _ _ _ _ _ _ K X _ hn1 HSm ((HT9.out.below ((Below.refl _ _).drew)).below hbC) (hCC.tabs hRC)).mono ?_; rintro e wD ⟨rfl, hbD⟩))
  rename_i hS
  clear hS hCC hRC g0 g1 g2 g3 g4 x0 x1 x2 x3 x4 hto HT9
  have hb9D : Below w9.heap.size w9 wD := (((Below.refl _ _).drew (w := w9)).trans (show Below w9.heap.size w9.drew wC from hbC)).trans (hbD.mono hbC.size)
  have OD : Hid (OTab wD bs7 (.slice ta7 N tc7) N PV7 L' K' X') := O9.out.below hb9D
  have YD : Hid (wD.heap[b8]? = some (.cells #[.int .i64 U.k, .int .i64 U.n, .string U.s, .int .i64 U.a, .slice ta7 N tc7] 32 (0, 0))) := blk_below Y9.out hb9D
  have XD : Hid (wD.heap[b6]? = some (.cells #[.int .i64 u.k, .int .i64 u.n, .string u.s, .int .i64 u.a, .slice (some ⟨B5, 0, none⟩) n n] 32 (0, 0))) := blk_below X9.out hb9D
  have CD : Hid (Copied w05 wD n H5 L K X) := C9.out.below hb9D
  have RD : Hid (wD.rowIs B5 61 n (fun i => .slice (some ⟨H5 i, 0, none⟩) (L i) (L i))) := R9.out.of_block (hb9D.block _ R9.out.lt)
  have HB4D : Hid (Below w4.heap.size w4 wD) := grw HB49.out hb9D
  clear hb9D hbC hbD O9 Y9 X9 C9 R9 HB49 HBw9
  obtain ⟨f5, hM5⟩ := CD.out.marks hw05 RD.out
  have hmk := markGraph_any u (some ⟨B5, 0, none⟩) n n B5 1 _ L _ _ _ _ wD hn1 HLn (by omega) (by omega) hM5
  obtain ⟨kx, hkx⟩ : ∃ kx, koff 1 L n = kx := ⟨_, rfl⟩
  rw [hkx] at hmk
  obtain ⟨x0, x1, x2, x3, x4, _⟩ := cells5 XD.out
  clear hkx hM5
  go_wp2_with fail
  refine hmk.mono ?_
  clear hmk x0 x1 x2 x3 x4
  rintro e wE ⟨rfl, _, hoE⟩
  have OE : Hid (OTab wE bs7 (.slice ta7 N tc7) N PV7 L' K' X') := OD.out.only hoE (fun k hk ⟨j, hj, e, _⟩ => by have := (HNew.out j hj).2; omega)
  have YE : Hid (wE.heap[b8]? = some (.cells #[.int .i64 U.k, .int .i64 U.n, .string U.s, .int .i64 U.a, .slice ta7 N tc7] 32 (0, 0))) := (hoE.block _ (blk_lt YD.out) (fun ⟨j, hj, e, _⟩ => by have := (HNew.out j hj).2; omega)).trans YD.out
  have HB4E : Hid (Below w4.heap.size w4 wE) := HB4D.out.trans (hoE.toBelow (fun k ⟨j, hj, e, _⟩ => by have := (HNew.out j hj).1; omega) HB4D.out.size)
  clear hoE OD YD XD CD RD HB4D
  have hk0 : ¬ ((kx : Int) < 0) := by omega
  obtain ⟨y0, y1, y2, y3, y4, _⟩ := cells5 YE.out
  obtain ⟨v0, v1, v2, v3, v4, _⟩ := cells5 (blk_below W4.out HB4E.out)
  have heq := eqGraph_same U ta7 ta3 N tc7 tc3 _ _ _ _ _ _ L' _ _ _ _ _ _ K' X' wE HN HSN OE.out.tabs.2 (O4.out.below HB4E.out).tabs.2
  go_wp2_with fail
  refine heq.mono ?_
  clear heq y0 y1 y2 y3 y4 v0 v1 v2 v3 v4
  rintro e wF ⟨rfl, hbF⟩
  have OF : Hid (OTab wF bs7 (.slice ta7 N tc7) N PV7 L' K' X') := OE.out.below hbF
  have YF : Hid (wF.heap[b8]? = some (.cells #[.int .i64 U.k, .int .i64 U.n, .string U.s, .int .i64 U.a, .slice ta7 N tc7] 32 (0, 0))) := blk_below YE.out hbF
  have HB4F : Hid (Below w4.heap.size w4 wF) := grw HB4E.out hbF
  clear hbF OE YE HB4E
  obtain ⟨cp7, f7, hM7, hlow7⟩ := OF.out.marks
  have HM7 : Hid _ := hM7
  have HLO7 : Hid _ := hlow7
  have hmk := markGraph_any U ta7 N tc7 _ 1 _ L' _ _ _ _ wF HN HLN (by omega) (by omega) hM7
  obtain ⟨kq, hkq⟩ : ∃ kq, koff 1 L' N = kq := ⟨_, rfl⟩
  rw [hkq] at hmk
  obtain ⟨y0, y1, y2, y3, y4, _⟩ := cells5 YF.out
  clear hM7 hlow7
  have HKQ : Hid (koff 1 L' N = kq) := hkq
  clear hkq
  go_wp2_with fail
  refine hmk.mono ?_
  clear hmk y0 y1 y2 y3 y4
  rintro e wG ⟨rfl, hmG, hoG⟩
  have HHG : Hid _ := HM7.out.held hmG hoG
  have YG : Hid (wG.heap[b8]? = some (.cells #[.int .i64 U.k, .int .i64 U.n, .string U.s, .int .i64 U.a, .slice ta7 N tc7] 32 (0, 0))) := (hoG.block _ (blk_lt YF.out) (fun ⟨j, hj, e, h0⟩ => by
      obtain ⟨c, hc, _⟩ := HM7.out.row j hj h0
      rw [← e, YF.out] at hc
      cases hc)).trans YF.out
  have HB4G : Hid (Below w4.heap.size w4 wG) := HB4F.out.trans (hoG.toBelow (fun k ⟨j, hj, e, h0⟩ => by have := HLO7.out j hj h0; rw [e]; omega) HB4F.out.size)
  clear hmG hoG HM7 HLO7 YF OF HB4F
  have hq0 : ¬ ((kq : Int) < 0) := by omega
  have hqm : ((kq : Int) != (kq : Int)) = false := by simp
  have hhd := heldGraph_any U ta7 N tc7 _ 1 _ L' _ _ wG HN HLN (by omega) (by omega) HHG.out
  rw [HKQ.out] at hhd
  obtain ⟨y0, y1, y2, y3, y4, _⟩ := cells5 YG.out
  go_wp2_with fail
  refine hhd.mono ?_
  clear hhd y0 y1 y2 y3 y4
  rintro e wH ⟨rfl, hbH⟩
  have HHH : Hid _ := HHG.out.below hbH
  have YH : Hid (wH.heap[b8]? = some (.cells #[.int .i64 U.k, .int .i64 U.n, .string U.s, .int .i64 U.a, .slice ta7 N tc7] 32 (0, 0))) := blk_below YG.out hbH
  have HB4H : Hid (Below w4.heap.size w4 wH) := grw HB4G.out hbH
  clear hbH HHG YG HB4G
  have HBwH : Hid (Below w.heap.size w wH) := grw HBw4.out HB4H.out
  obtain ⟨g0, g1, g2, g3, g4, _⟩ := cells5 (blk_below G4.out HB4H.out)
  have hto := toGraph_any u ta n cp TB TO A L C RB RO K X wH hn1 HSm (HT.out.below HBwH.out)
  go_wp2_with fail
  refine hto.mono ?_
  clear hto g0 g1 g2 g3 g4
  rintro e wI ⟨⟨BI, rfl, _, w0I, HI, _, hCI, hRI⟩, hbI⟩
  have him := HIM.out (some ⟨BI, 0, none⟩) n BI 0 _ _ _ _ wI (hCI.tabs hRI)
  clear hCI hRI HIM
  go_wp2_with fail
  refine him.mono ?_
  clear him
  rintro e wJ ⟨⟨taJ, tcJ, PVJ, bsJ, _, rfl, hOJ⟩, hbJ⟩
  obtain ⟨wK, hwK⟩ : ∃ wK, wK = wJ.alloc (.cells #[.int .i64 U.k, .int .i64 U.n, .string U.s, .int .i64 U.a, .slice taJ N tcJ] 32) := ⟨_, rfl⟩
  have hbJK : Below wJ.heap.size wJ wK := by rw [hwK]; exact (Below.refl _ _).alloc (Nat.le_refl _) _
  have ZK : Hid (wK.heap[wJ.heap.size]? = some (.cells #[.int .i64 U.k, .int .i64 U.n, .string U.s, .int .i64 U.a, .slice taJ N tcJ] 32 (0, 0))) := by rw [hwK]; exact heap_alloc_new _ _
  have hbHK : Below wH.heap.size wH wK := grw (grw hbI hbJ) hbJK
  have OK' : Hid (OTab wK bsJ (.slice taJ N tcJ) N PVJ L' K' X') := hOJ.below hbJK
  have HHK : Hid _ := HHH.out.below hbHK
  have YK : Hid (wK.heap[b8]? = some (.cells #[.int .i64 U.k, .int .i64 U.n, .string U.s, .int .i64 U.a, .slice ta7 N tc7] 32 (0, 0))) := blk_below YH.out hbHK
  have HB4K : Hid (Below w4.heap.size w4 wK) := grw HB4H.out hbHK
  have hlt4 : b4 < wJ.heap.size := by have := HB4H.out.size; have := hbI.size; have := hbJ.size; have := hs4.out; omega
  obtain ⟨bk, hbk⟩ : ∃ bk, wJ.heap.size = bk := ⟨_, rfl⟩
  rw [hbk] at ZK
  obtain ⟨y0, y1, y2, y3, y4, _⟩ := cells5 ZK.out
  obtain ⟨v0, v1, v2, v3, v4, _⟩ := cells5 (blk_below W4.out HB4K.out)
  rw [hwK] at y0 y1 y2 y3 y4 v0 v1 v2 v3 v4
  have heq := eqGraph_same U taJ ta3 N tcJ tc3 _ _ _ _ _ _ L' _ _ _ _ _ _ K' X' wK HN HSN OK'.out.tabs.2 (O4.out.below HB4K.out).tabs.2
  clear hbI hbJ hOJ hbJK hbHK HHH YH HB4H HBwH
  go_wp2_with fail
  rw [← hwK]
  refine heq.mono ?_
  clear heq hwK y0 y1 y2 y3 y4 v0 v1 v2 v3 v4 hlt4 hbk
  rintro e wL ⟨rfl, hbL⟩
  have HHL : Hid _ := HHK.out.below hbL
  have YL : Hid (wL.heap[b8]? = some (.cells #[.int .i64 U.k, .int .i64 U.n, .string U.s, .int .i64 U.a, .slice ta7 N tc7] 32 (0, 0))) := blk_below YK.out hbL
  have HB4L : Hid (Below w4.heap.size w4 wL) := grw HB4K.out hbL
  clear hbL HHK YK HB4K OK' ZK
  have hhd := heldGraph_any U ta7 N tc7 _ 1 _ L' _ _ wL HN HLN (by omega) (by omega) HHL.out
  rw [HKQ.out] at hhd
  obtain ⟨y0, y1, y2, y3, y4, _⟩ := cells5 YL.out
  go_wp2_with fail
  refine hhd.mono ?_
  clear hhd y0 y1 y2 y3 y4
  rintro e wM ⟨rfl, hbM⟩
  have HBwM : Hid (Below w.heap.size w wM) := grw HBw4.out (grw HB4L.out hbM)
  clear hbM HHL YL HB4L
  go_wp2
  go_ret
  exact ⟨rfl, HBwM.out⟩

set_option maxRecDepth 100000 in
theorem shrinkLifted (os : Os) (started : os.Started) (H : Type) (enc : TypeId × Value → H) :
    ReturnsInHanded {} Try.checked os 9 .any (Rows.fnExactShrinkSpec.pre6 enc Try.prog Try.f9 Rows.fnExactShrinkRow.domain false) (Rows.fnExactShrinkSpec.post enc Try.prog Try.f9 false true false false) := by
  refine returnsInHanded_of_change (C := Try.checked) ownG started (by kernel_rfl) Try.func9
    (ChangeSpec.witness6 (enc := enc) (C := Try.checked) false ⟨#[], #[.agg #[.int .i64 0, .int .i64 0, .string ⟨#[]⟩, .int .i64 0, .slice none 0 0]], []⟩ 8 (by kernel_rfl) (by kernel_rfl) (by kernel_rfl) (by kernel_rfl)) ?_
  intro W base args ds gs before hval0 hW hcnd _
  have hval : ∀ (j : Nat) t v, Try.f9.params[j]? = some t → args[j]? = some v → Value.okWide Try.prog W .any base t v := hval0
  have hW' := hW
  obtain ⟨p, q, hA0, hV, rfl, hfz, hnd⟩ := hW
  have hA : DataW.TrodAll enc Try.prog W 0 (fun _ => true) true Try.f9.params.toList args.toList ds p := hA0
  rw [Try.params9] at hA hval
  obtain ⟨v0, vs0, d0, ds0, p0, q0, hargs, rfl, rfl, h0, r0⟩ := trodAll_cons hA
  obtain ⟨rfl, rfl, rfl⟩ := trodAll_nil r0
  obtain rfl : args = #[v0] := by cases args; simp_all
  obtain ⟨rfl, rfl⟩ := trodVars_none hV
  have k0 := h0
  have lt0 : ∀ x ∈ p0, x.block < W.heap.size := by obtain ⟨m, hm⟩ := k0; exact DataW.trod_lt m _ _ _ hm
  obtain ⟨u, ta, n, cp, TB, TO, A, L, C, RB, RO, K, X, rfl, hu, hn, hT, hS⟩ := opens_graph (hval 0 26 v0 rfl rfl) h0
  clear hA0 hval0
  refine (shrinkLaw u ta n cp TB TO A L C RB RO K X W hu hn hS hT).mono fun e W' ⟨he, bel⟩ => ?_
  subst he
  exact ⟨_, rfl, _, _, _, [], _, [], hW', trodAll_mk1 (shut_bool Try.underlying4 _), (trodAll_cons_mk (Below.trod laidOutG (by kernel_rfl) (of_decide_eq_true (by kernel_rfl)) k0 bel lt0) trodAll_mk0), rfl, bel.frame _, fun h => by cases h⟩

theorem shrink_holds : Rows.FnExactShrinkSaid :=
  OpenClaim.holds_of_wide 9 Try.f9 rfl rfl rfl rfl rfl rfl rfl ⟨rfl, rfl, rfl, rfl, rfl⟩ rfl rfl rfl rfl rfl (by kernel_rfl) Try.func9 (by kernel_rfl)
    (of_decide_eq_true (by kernel_rfl)) (by unfold Func.isWrapper; first | (rw [if_pos (by decide +kernel)]; kernel_rfl) | (rw [if_neg (by decide +kernel)]; exact ⟨rfl, rfl⟩))
    (fun os started H enc _ => shrinkLifted os started H enc)
#print axioms shrink_holds

end Go.Proofs.Ytgflalfiopnmnab
