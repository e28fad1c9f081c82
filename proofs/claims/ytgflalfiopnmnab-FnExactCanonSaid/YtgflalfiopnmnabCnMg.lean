import Derived.Test.YtgflalfiopnmnabCnMt
namespace Go.Proofs.Ytgflalfiopnmnab
open Go.RowKit Vl

theorem MTabs.below {w w' : World} {ta : Option Addr} {n TB : Nat} {A : Nat → Option Addr} {L C RB cap : Nat → Nat} {f : Nat → Nat → Value} (h : MTabs w ta n TB A L C RB cap f) (hb : Below w.heap.size w w') : MTabs w' ta n TB A L C RB cap f :=
  ⟨h.top, fun r hr => (hb.cell (p := ⟨TB, r, none⟩) (World.block_lt_of_cell? _ _ (h.tab r hr))).trans (h.tab r hr), h.adr, fun r hr h0 => (h.row r hr h0).of_block (hb.block _ (h.row r hr h0).lt), h.fit, h.ne, h.dis⟩

set_option maxHeartbeats 1000000 in
set_option maxRecDepth 100000 in
/-- 'markGraph'. -/
theorem markGraph_any (u : V) (ta : Option Addr) (n cp TB k : Nat) (A : Nat → Option Addr) (L C RB cap : Nat → Nat) (f : Nat → Nat → Value) (w : World) (hn : n ≤ 1048576) (HL : Hid (∀ r, r < n → L r ≤ 1048576)) (hk0 : 0 < k) (hk1 : k ≤ 17592186044416) (HT : Hid (MTabs w ta n TB A L C RB cap f)) :
    Calls Try.prog 22 #[.agg #[.int .i64 u.k, .int .i64 u.n, .string u.s, .int .i64 u.a, .slice ta n cp], .int .i64 k] w fun e w' => e = .returned (.int .i64 ((koff k L n : Nat) : Int)) ∧ (∀ r, r < n → 0 < L r → Mk w' (RB r) (cap r) (koff k L r) (L r * 8) (f r)) ∧ Only (fun x => ∃ j, j < n ∧ x = RB j ∧ 0 < L j) w w' := by
  obtain ⟨w0, hw0⟩ : ∃ w0, w0 = w.alloc (.cells #[.int .i64 u.k, .int .i64 u.n, .string u.s, .int .i64 u.a, .slice ta n cp] 32) := ⟨_, rfl⟩
  have hb0 : Below w.heap.size w w0 := by rw [hw0]; exact (Below.refl _ _).alloc (Nat.le_refl _) _
  have HB0 : Hid _ := hb0
  have hm := markTableS_any ta n cp TB k A L C RB cap f w0 hn HL hk0 hk1 (HT.out.below hb0)
  obtain ⟨q, hq⟩ : ∃ q, koff k L n = q := ⟨_, rfl⟩
  rw [hq] at hm ⊢
  clear hq hb0
  go_enter Try.func22, Try.ntmps22
  go_wp2_with fail
  rw [← hw0]
  refine hm.mono ?_
  clear hm hw0
  rintro e w1 ⟨rfl, hM, hO⟩
  have HM : Hid _ := hM
  have HO : Hid (Only (fun x => ∃ j, j < n ∧ x = RB j ∧ 0 < L j) w w1) := (Only.below HB0.out).trans hO
  clear hM hO
  go_wp2
  go_ret
  exact ⟨rfl, HM.out, HO.out⟩

set_option maxHeartbeats 1000000 in
set_option maxRecDepth 100000 in
/-- 'heldGraph'. -/
theorem heldGraph_any (u : V) (ta : Option Addr) (n cp TB k : Nat) (A : Nat → Option Addr) (L C RB : Nat → Nat) (w : World) (hn : n ≤ 1048576) (HL : Hid (∀ r, r < n → L r ≤ 1048576)) (hk0 : 0 < k) (hk1 : k ≤ 1048576) (HT : Hid (HTabs w ta n TB k A L C RB)) :
    Calls Try.prog 23 #[.agg #[.int .i64 u.k, .int .i64 u.n, .string u.s, .int .i64 u.a, .slice ta n cp], .int .i64 k] w fun e w' => e = .returned (.int .i64 ((koff k L n : Nat) : Int)) ∧ Below w.heap.size w w' := by
  obtain ⟨w0, hw0⟩ : ∃ w0, w0 = w.alloc (.cells #[.int .i64 u.k, .int .i64 u.n, .string u.s, .int .i64 u.a, .slice ta n cp] 32) := ⟨_, rfl⟩
  have hb0 : Below w.heap.size w w0 := by rw [hw0]; exact (Below.refl _ _).alloc (Nat.le_refl _) _
  have HB0 : Hid _ := hb0
  have hm := heldTableS_any ta n cp TB k A L C RB w0 hn HL hk0 hk1 (HT.out.below hb0)
  obtain ⟨q, hq⟩ : ∃ q, koff k L n = q := ⟨_, rfl⟩
  rw [hq] at hm ⊢
  clear hq hb0
  have hnn : ¬ ((q : Int) < 0) := by omega
  go_enter Try.func23, Try.ntmps23
  go_wp2_with fail
  rw [← hw0]
  refine hm.mono ?_
  clear hm hw0
  rintro e w1 ⟨rfl, hb1⟩
  have HW : Hid (Below w.heap.size w w1) := grw HB0.out hb1
  clear hb1
  go_wp2
  go_ret
  exact ⟨rfl, HW.out⟩

end Go.Proofs.Ytgflalfiopnmnab
