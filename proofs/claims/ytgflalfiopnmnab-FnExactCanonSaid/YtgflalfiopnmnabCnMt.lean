import Derived.Test.YtgflalfiopnmnabCnHeld
namespace Go.Proofs.Ytgflalfiopnmnab
open Go.RowKit Vl

/-- The first mark of table r. -/
def koff (k : Nat) (L : Nat → Nat) : Nat → Nat
  | 0 => k
  | r + 1 => koff k L r + L r * 8
theorem koff_le {k n b : Nat} {L : Nat → Nat} (h : ∀ r, r < n → L r ≤ b) : ∀ r, r ≤ n → koff k L r ≤ k + r * (b * 8)
  | 0, _ => by simp [koff]
  | r + 1, hr => by
    have h1 := koff_le (k := k) h r (by omega)
    have h2 := h r (by omega)
    show koff k L r + L r * 8 ≤ _
    have : L r * 8 ≤ b * 8 := Nat.mul_le_mul_right 8 h2
    have e : (r + 1) * (b * 8) = r * (b * 8) + b * 8 := Nat.succ_mul _ _
    omega
theorem koff_pos {k : Nat} {L : Nat → Nat} (h : 0 < k) : ∀ r, 0 < koff k L r
  | 0 => h
  | r + 1 => by have := koff_pos (L := L) h r; show 0 < koff k L r + L r * 8; omega

/-- Tables whose pairs may be written. -/
structure MTabs (w : World) (ta : Option Addr) (n TB : Nat) (A : Nat → Option Addr) (L C RB cap : Nat → Nat) (f : Nat → Nat → Value) : Prop where
  top : 0 < n → ta = some ⟨TB, 0, none⟩
  tab : ∀ r, r < n → w.cell? ⟨TB, r, none⟩ = some (.slice (A r) (L r) (C r))
  adr : ∀ r, r < n → 0 < L r → A r = some ⟨RB r, 0, none⟩
  row : ∀ r, r < n → 0 < L r → w.rowIs (RB r) 63 (cap r) (f r)
  fit : ∀ r, r < n → 0 < L r → L r * 8 ≤ cap r
  ne : ∀ r, r < n → 0 < L r → RB r ≠ TB
  dis : ∀ r s, r < s → s < n → 0 < L r → 0 < L s → RB r ≠ RB s

set_option maxHeartbeats 1000000 in
set_option maxRecDepth 100000 in
/-- 'markTableS'. -/
theorem markTableS_any (ta : Option Addr) (n cp TB k : Nat) (A : Nat → Option Addr) (L C RB cap : Nat → Nat) (f : Nat → Nat → Value) (w : World) (hn : n ≤ 1048576) (HL : Hid (∀ r, r < n → L r ≤ 1048576)) (hk0 : 0 < k) (hk1 : k ≤ 17592186044416) (HT : Hid (MTabs w ta n TB A L C RB cap f)) :
    Calls Try.prog 57 #[.slice ta n cp, .int .i64 k] w fun e w' => e = .returned (.int .i64 ((koff k L n : Nat) : Int)) ∧ (∀ r, r < n → 0 < L r → Mk w' (RB r) (cap r) (koff k L r) (L r * 8) (f r)) ∧ Only (fun x => ∃ j, j < n ∧ x = RB j ∧ 0 < L j) w w' := by
  have HK : Hid (∀ r, r ≤ n → koff k L r ≤ k + r * (1048576 * 8)) := fun r hr => koff_le HL.out r hr
  go_enter Try.func57, Try.ntmps57
  go_wp2
  go_loopw [1, 5] (fun kk ii wr => ∃ (r q : Nat), r ≤ n ∧ Hid (koff k L r = q) ∧ kk = .int .i64 (q : Nat) ∧ ii = .int .i64 r ∧ Hid (∀ j, j < r → 0 < L j → Mk wr (RB j) (cap j) (koff k L j) (L j * 8) (f j)) ∧ Hid (Only (fun x => ∃ j, j < r ∧ x = RB j ∧ 0 < L j) w wr)) (fun _ ii _ => n - (intOf ii).toNat)
  case atStart => exact ⟨0, k, Nat.zero_le _, (show koff k L 0 = k from rfl), rfl, rfl, (show ∀ j, _ from fun j hj => by omega), Only.refl _ _⟩
  case round =>
    obtain ⟨r, q, hr, HQ, rfl, rfl, HM, HO⟩ := hrel
    by_cases hlt : r < n
    · obtain rfl := HT.out.top (by omega)
      have t0 : wr.cell? ⟨TB, r, none⟩ = some (.slice (A r) (L r) (C r)) := HO.out.cell (HT.out.tab r hlt) (by rintro ⟨j, hj, e, h0⟩; exact HT.out.ne j (by omega) h0 e.symm)
      have hq1 : q ≤ k + r * (1048576 * 8) := by have := HK.out r hr; rw [HQ.out] at this; exact this
      have hq0 : 0 < q := by rw [← HQ.out]; exact koff_pos hk0 r
      have hLr := HL.out r hlt
      obtain ⟨a, ha⟩ : ∃ a, A r = a := ⟨_, rfl⟩
      rw [ha] at t0
      have hm := markPairS_any a (L r) (C r) (RB r) (cap r) q (f r) wr hLr hq0 (by omega) (fun h => ha ▸ HT.out.adr r hlt h) (by
          rcases Nat.eq_zero_or_pos (L r) with h | h
          · omega
          · exact HT.out.fit r hlt h) (show _ → _ from fun h => HO.out.rowIs (HT.out.row r hlt h) (by rintro ⟨j, hj, e, h0⟩; exact HT.out.dis j r hj hlt h0 h e.symm))
      have hbr : (0 : Int) ≤ (r : Int) ∧ (r : Int) < (n : Int) := by omega
      clear hq1
      go_wp2_with fail
      refine hm.mono ?_
      clear hm t0
      rintro e w1 ⟨rfl, hM1, hO1⟩
      have HM1 : Hid (∀ j, j < r + 1 → 0 < L j → Mk w1 (RB j) (cap j) (koff k L j) (L j * 8) (f j)) := show ∀ j, _ from fun j hj h0 => by
        by_cases e : j = r
        · subst e; rw [HQ.out]; exact hM1 h0
        · exact hO1.rowIs (HM.out j (by omega) h0) (by rintro ⟨e', h0'⟩; exact HT.out.dis j r (by omega) hlt h0 h0' e')
      have HO1 : Hid (Only (fun x => ∃ j, j < r + 1 ∧ x = RB j ∧ 0 < L j) w w1) := (HO.out.mono (fun x _ ⟨j, h1, h2⟩ => ⟨j, by omega, h2⟩)).trans (hO1.mono (fun x _ h => ⟨r, by omega, h⟩))
      clear hM1 hO1 HM HO
      go_wp2
      go_roundw
      case rel => exact ⟨r + 1, q + L r * 8, by omega, (show koff k L r + L r * 8 = _ by rw [HQ.out]), rfl, by go_num, HM1, HO1⟩
      case measure => simp [intOf]; omega
    · obtain rfl : r = n := by omega
      go_wp2
      go_ret
      refine ⟨?_, HM.out, HO.out⟩
      have := HQ.out
      subst this
      rfl

/-- Marked tables, as they are read. -/
structure HTabs (w : World) (ta : Option Addr) (n TB k : Nat) (A : Nat → Option Addr) (L C RB : Nat → Nat) : Prop where
  top : 0 < n → ta = some ⟨TB, 0, none⟩
  tab : ∀ r, r < n → w.cell? ⟨TB, r, none⟩ = some (.slice (A r) (L r) (C r))
  adr : ∀ r, r < n → 0 < L r → A r = some ⟨RB r, 0, none⟩
  row : ∀ r, r < n → 0 < L r → MkAt w (RB r) (koff k L r) (L r)
theorem HTabs.below {w w' : World} {ta : Option Addr} {n TB k : Nat} {A : Nat → Option Addr} {L C RB : Nat → Nat} (h : HTabs w ta n TB k A L C RB) (hb : Below w.heap.size w w') : HTabs w' ta n TB k A L C RB :=
  ⟨h.top, fun r hr => (hb.cell (p := ⟨TB, r, none⟩) (World.block_lt_of_cell? _ _ (h.tab r hr))).trans (h.tab r hr), h.adr, fun r hr h0 => (h.row r hr h0).below hb⟩

set_option maxHeartbeats 1000000 in
set_option maxRecDepth 100000 in
/-- 'heldTableS'. -/
theorem heldTableS_any (ta : Option Addr) (n cp TB k : Nat) (A : Nat → Option Addr) (L C RB : Nat → Nat) (w : World) (hn : n ≤ 1048576) (HL : Hid (∀ r, r < n → L r ≤ 1048576)) (hk0 : 0 < k) (hk1 : k ≤ 1048576) (HT : Hid (HTabs w ta n TB k A L C RB)) :
    Calls Try.prog 58 #[.slice ta n cp, .int .i64 k] w fun e w' => e = .returned (.int .i64 ((koff k L n : Nat) : Int)) ∧ Below w.heap.size w w' := by
  have HK : Hid (∀ r, r ≤ n → koff k L r ≤ k + r * (1048576 * 8)) := fun r hr => koff_le HL.out r hr
  go_enter Try.func58, Try.ntmps58
  go_wp2
  go_loopw [1, 5] (fun kk ii wr => ∃ (r q : Nat), r ≤ n ∧ Hid (koff k L r = q) ∧ kk = .int .i64 (q : Nat) ∧ ii = .int .i64 r ∧ Hid (Below w.heap.size w wr)) (fun _ ii _ => n - (intOf ii).toNat)
  case atStart => exact ⟨0, k, Nat.zero_le _, (show koff k L 0 = k from rfl), rfl, rfl, Below.refl _ _⟩
  case round =>
    obtain ⟨r, q, hr, HQ, rfl, rfl, HW⟩ := hrel
    by_cases hlt : r < n
    · obtain rfl := HT.out.top (by omega)
      have t0 := (HT.out.below HW.out).tab r hlt
      have hq1 : q ≤ k + r * (1048576 * 8) := by have := HK.out r hr; rw [HQ.out] at this; exact this
      have hq0 : 0 < q := by rw [← HQ.out]; exact koff_pos hk0 r
      have hLr := HL.out r hlt
      obtain ⟨a, ha⟩ : ∃ a, A r = a := ⟨_, rfl⟩
      rw [ha] at t0
      have hm := heldPairS_any a (L r) (C r) (RB r) q wr hLr hq0 (by omega) (fun h => ha ▸ HT.out.adr r hlt h) (show MkAt _ _ _ _ from fun i hi => by
        have := (HT.out.below HW.out).row r hlt (by omega)
        rw [HQ.out] at this
        exact this i hi)
      have hbr : (0 : Int) ≤ (r : Int) ∧ (r : Int) < (n : Int) := by omega
      have hq2 : q ≤ 8796094070784 := by omega
      clear hq1
      go_wp2_with fail
      refine hm.mono ?_
      clear hm t0
      rintro e w1 ⟨rfl, hb1⟩
      have HW1 : Hid (Below w.heap.size w w1) := grw HW.out hb1
      clear hb1 HW
      obtain ⟨q', hq'⟩ : ∃ q', q + L r * 8 = q' := ⟨_, rfl⟩
      have HQ' : Hid (koff k L (r + 1) = q') := show koff k L r + L r * 8 = q' by rw [HQ.out]; exact hq'
      rw [hq']
      have hnn : ¬ ((q' : Int) < 0) := by omega
      clear hq'
      go_wp2
      go_roundw
      case rel => exact ⟨r + 1, q', by omega, HQ', rfl, by go_num, HW1⟩
      case measure => simp [intOf]; omega
    · obtain rfl : r = n := by omega
      go_wp2
      go_ret
      refine ⟨?_, HW.out⟩
      have := HQ.out
      subst this
      rfl

end Go.Proofs.Ytgflalfiopnmnab
