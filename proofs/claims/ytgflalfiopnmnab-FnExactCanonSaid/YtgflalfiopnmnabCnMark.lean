import Derived.Test.YtgflalfiopnmnabCnText
namespace Go.Proofs.Ytgflalfiopnmnab
open Go.RowKit Vl

/-- Cell i of marked pairs. -/
def mkc (k i : Nat) : Value := if i % 8 = 2 ∨ i % 8 = 6 then .string (markT (k + i)) else .int .i64 ((k + i : Nat) : Int)
theorem mkc_int {k c d : Nat} {q : Int} (hd : d < 8) (h2 : d ≠ 2) (h6 : d ≠ 6) (hq : q = k + c * 8 + d) : mkc k (c * 8 + d) = .int .i64 q := by
  unfold mkc
  rw [if_neg (by omega), hq]
  congr 1
  omega
theorem mkc_text {k c d q : Nat} (hd : d = 2 ∨ d = 6) (hq : q = k + c * 8 + d) : mkc k (c * 8 + d) = .string (markT q) := by
  unfold mkc
  rw [if_pos (by omega), hq, Nat.add_assoc]

/-- The first p cells are marked. -/
def Mk (w : World) (B cap k p : Nat) (f : Nat → Value) : Prop := w.rowIs B 63 cap (fun i => if i < p then mkc k i else f i)
theorem Mk.step {w : World} {B cap k p : Nat} {f : Nat → Value} {v : Value} (h : Mk w B cap k p f) (hv : mkc k p = v) : Mk (w.setCell ⟨B, p, none⟩ v) B cap k (p + 1) f := by
  refine ((show w.rowIs B _ _ _ from h).set p v).congr (fun i _ => ?_)
  by_cases e : i = p
  · subst e; rw [if_pos rfl, if_pos (by omega), hv]
  · rw [if_neg e]
    by_cases h' : i < p
    · rw [if_pos h', if_pos (by omega)]
    · rw [if_neg h', if_neg (by omega)]
theorem Mk.below {w w' : World} {B cap k p : Nat} {f : Nat → Value} (h : Mk w B cap k p f) (hb : Below w.heap.size w w') : Mk w' B cap k p f := h.of_block (hb.block B h.lt)
theorem Mk.cell {w : World} {B cap k p : Nat} {f : Nat → Value} (h : Mk w B cap k p f) {i : Nat} (hi : i < cap) (hp : p ≤ i) : w.cell? ⟨B, i, none⟩ = some (f i) := by
  have := (show w.rowIs B _ _ _ from h).cell hi
  rw [if_neg (by omega)] at this
  exact this

set_option maxHeartbeats 2000000 in
set_option maxRecDepth 100000 in
/-- 'markPairS'. -/
theorem markPairS_any (pa : Option Addr) (L C B cap k : Nat) (f : Nat → Value) (w : World) (hL : L ≤ 1048576) (hk0 : 0 < k) (hk1 : k ≤ 562949953421312) (hA : 0 < L → pa = some ⟨B, 0, none⟩) (hc : L * 8 ≤ cap) (HR : Hid (0 < L → w.rowIs B 63 cap f)) :
    Calls Try.prog 86 #[.slice pa L C, .int .i64 k] w fun e w' => e = .returned (.int .i64 ((k + L * 8 : Nat) : Int)) ∧ (0 < L → Mk w' B cap k (L * 8) f) ∧ Only (fun x => x = B ∧ 0 < L) w w' := by
  go_enter Try.func86, Try.ntmps86
  go_wp2
  go_loopw [1, 5] (fun kk ii wr => ∃ (c q : Nat), c ≤ L ∧ q = k + c * 8 ∧ kk = .int .i64 (q : Nat) ∧ ii = .int .i64 c ∧ Hid (0 < L → Mk wr B cap k (c * 8) f) ∧ Hid (Only (fun x => x = B ∧ 0 < L) w wr)) (fun _ ii _ => L - (intOf ii).toNat)
  case atStart => exact ⟨0, k, Nat.zero_le _, by omega, rfl, rfl, show _ → _ from fun h => (HR.out h).congr (fun i _ => by rw [if_neg (by omega)]), Only.refl _ _⟩
  case round =>
    obtain ⟨c, q, hcl, hq, rfl, rfl, HM, HO⟩ := hrel
    have HQ : Hid (q = k + c * 8) := hq
    have hq0 : 0 < q := by omega
    by_cases hlt : c < L
    · have hL0 : 0 < L := by omega
      have hq1 : q ≤ 562949961809920 := by omega
      obtain rfl := hA hL0
      have HM0 : Hid (Mk wr B cap k (c * 8) f) := HM.out hL0
      have c0 := HM0.out.cell (i := c * 8) (by omega) (by omega)
      have c1 := HM0.out.cell (i := c * 8 + 1) (by omega) (by omega)
      have z0 := (show wr.rowIs B _ _ _ from HM0.out).frozen
      obtain ⟨wa, hwa⟩ : ∃ wa, wa = (wr.setCell ⟨B, c * 8, none⟩ (.int .i64 (q : Nat))).setCell ⟨B, c * 8 + 1, none⟩ (.int .i64 ((q : Int) + 1)) := ⟨_, rfl⟩
      have HMa : Hid (Mk wa B cap k (c * 8 + 2) f) := by
        rw [hwa]
        exact (HM0.out.step (mkc_int (d := 0) (by omega) (by omega) (by omega) (by omega))).step (mkc_int (d := 1) (by omega) (by omega) (by omega) (by omega))
      have HOa : Hid (Only (fun x => x = B ∧ 0 < L) w wa) := by rw [hwa]; exact (HO.out.set ⟨rfl, hL0⟩ _).set ⟨rfl, hL0⟩ _
      have hm := markText_any (q + 2) wa (by omega) (by omega)
      rw [show ((q + 2 : Nat) : Int) = (q : Int) + 1 + 1 by omega] at hm
      obtain ⟨t1, ht1⟩ : ∃ t, markT (q + 2) = t := ⟨_, rfl⟩
      rw [ht1] at hm
      have HT1 : Hid (mkc k (c * 8 + 2) = .string t1) := by rw [← ht1]; exact mkc_text (Or.inl rfl) (by omega)
      obtain ⟨t2, ht2⟩ : ∃ t, markT (q + 6) = t := ⟨_, rfl⟩
      have HT2 : Hid (mkc k (c * 8 + 6) = .string t2) := by rw [← ht2]; exact mkc_text (Or.inr rfl) (by omega)
      clear ht1 hq HM0 HM HO
      go_wp2_with fail
      rw [← hwa]
      refine hm.mono ?_
      clear hm hwa c0 c1 z0
      rintro e w1 ⟨rfl, hb1⟩
      have HM1 : Hid (Mk w1 B cap k (c * 8 + 2) f) := HMa.out.below hb1
      have HO1 : Hid (Only (fun x => x = B ∧ 0 < L) w w1) := HOa.out.trans (Only.below hb1)
      clear hb1 HMa HOa
      have c2 := HM1.out.cell (i := c * 8 + 2) (by omega) (by omega)
      have c3 := HM1.out.cell (i := c * 8 + 3) (by omega) (by omega)
      have c4 := HM1.out.cell (i := c * 8 + 4) (by omega) (by omega)
      have c5 := HM1.out.cell (i := c * 8 + 5) (by omega) (by omega)
      have z0 := (show w1.rowIs B _ _ _ from HM1.out).frozen
      obtain ⟨wb, hwb⟩ : ∃ wb, wb = (((w1.setCell ⟨B, c * 8 + 2, none⟩ (.string t1)).setCell ⟨B, c * 8 + 3, none⟩ (.int .i64 ((q : Int) + 1 + 1 + 1))).setCell ⟨B, c * 8 + 4, none⟩ (.int .i64 ((q : Int) + 1 + 1 + 1 + 1))).setCell ⟨B, c * 8 + 5, none⟩ (.int .i64 ((q : Int) + 1 + 1 + 1 + 1 + 1)) := ⟨_, rfl⟩
      have hQ := HQ.out
      have HMb : Hid (Mk wb B cap k (c * 8 + 6) f) := by
        rw [hwb]
        exact (((HM1.out.step HT1.out).step (mkc_int (d := 3) (by omega) (by omega) (by omega) (by omega))).step (mkc_int (d := 4) (by omega) (by omega) (by omega) (by omega))).step (mkc_int (d := 5) (by omega) (by omega) (by omega) (by omega))
      have HOb : Hid (Only (fun x => x = B ∧ 0 < L) w wb) := by rw [hwb]; exact (((HO1.out.set ⟨rfl, hL0⟩ _).set ⟨rfl, hL0⟩ _).set ⟨rfl, hL0⟩ _).set ⟨rfl, hL0⟩ _
      have hm := markText_any (q + 6) wb (by omega) (by omega)
      rw [show ((q + 6 : Nat) : Int) = (q : Int) + 1 + 1 + 1 + 1 + 1 + 1 by omega, ht2] at hm
      clear ht2 hQ HM1 HO1
      go_wp2_with fail
      rw [← hwb]
      refine hm.mono ?_
      clear hm hwb c2 c3 c4 c5 z0
      rintro e w2 ⟨rfl, hb2⟩
      have HM2 : Hid (Mk w2 B cap k (c * 8 + 6) f) := HMb.out.below hb2
      have HO2 : Hid (Only (fun x => x = B ∧ 0 < L) w w2) := HOb.out.trans (Only.below hb2)
      clear hb2 HMb HOb
      have c6 := HM2.out.cell (i := c * 8 + 6) (by omega) (by omega)
      have c7 := HM2.out.cell (i := c * 8 + 7) (by omega) (by omega)
      have z0 := (show w2.rowIs B _ _ _ from HM2.out).frozen
      go_wp2
      have hQ := HQ.out
      go_roundw
      case rel =>
        refine ⟨c + 1, q + 8, by omega, by omega, by go_num, by go_num, show _ → _ from fun _ => ?_, (HO2.out.set ⟨rfl, hL0⟩ _).set ⟨rfl, hL0⟩ _⟩
        have := (HM2.out.step HT2.out).step (mkc_int (d := 7) (q := (q : Int) + 1 + 1 + 1 + 1 + 1 + 1 + 1) (by omega) (by omega) (by omega) (by omega))
        rw [show c * 8 + 7 + 1 = (c + 1) * 8 by omega] at this
        exact this
      case measure => simp [intOf]; omega
    · obtain rfl : c = L := by omega
      subst hq
      clear HQ
      go_wp2
      go_ret
      exact ⟨rfl, HM.out, HO.out⟩

end Go.Proofs.Ytgflalfiopnmnab
