import Derived.Test.YtgflalfiopnmnabCnMark
import Derived.Deep.RegionHeld3
namespace Go.Proofs.Ytgflalfiopnmnab
open Go.RowKit Vl

/-- Marked pairs, as they are read. -/
def MkAt (w : World) (B k L : Nat) : Prop := ∀ i, i < L * 8 → w.cell? ⟨B, i, none⟩ = some (mkc k i)
theorem Mk.at {w : World} {B cap k L : Nat} {f : Nat → Value} (h : Mk w B cap k (L * 8) f) (hc : L * 8 ≤ cap) : MkAt w B k L := fun i hi => by
  have := (show w.rowIs B _ _ _ from h).cell (i := i) (by omega)
  rw [if_pos hi] at this
  exact this
theorem MkAt.below {w w' : World} {B k L : Nat} (h : MkAt w B k L) (hb : Below w.heap.size w w') : MkAt w' B k L := fun i hi => (hb.cell (p := ⟨B, i, none⟩) (World.block_lt_of_cell? _ _ (h i hi))).trans (h i hi)

theorem MkAt.cells {w : World} {B k L c q : Nat} (h : MkAt w B k L) (hc : c < L) (hq : q = k + c * 8) :
    w.cell? ⟨B, c * 8, none⟩ = some (.int .i64 (q : Int)) ∧ w.cell? ⟨B, c * 8 + 1, none⟩ = some (.int .i64 ((q : Int) + 1)) ∧ w.cell? ⟨B, c * 8 + 2, none⟩ = some (.string (markT (q + 2))) ∧ w.cell? ⟨B, c * 8 + 3, none⟩ = some (.int .i64 ((q : Int) + 1 + 1 + 1)) ∧ w.cell? ⟨B, c * 8 + 4, none⟩ = some (.int .i64 ((q : Int) + 1 + 1 + 1 + 1)) ∧ w.cell? ⟨B, c * 8 + 5, none⟩ = some (.int .i64 ((q : Int) + 1 + 1 + 1 + 1 + 1)) ∧ w.cell? ⟨B, c * 8 + 6, none⟩ = some (.string (markT (q + 6))) ∧ w.cell? ⟨B, c * 8 + 7, none⟩ = some (.int .i64 ((q : Int) + 1 + 1 + 1 + 1 + 1 + 1 + 1)) := by
  have g : ∀ d, d < 8 → w.cell? ⟨B, c * 8 + d, none⟩ = some (mkc k (c * 8 + d)) := fun d hd => h _ (by omega)
  refine ⟨?_, ?_, ?_, ?_, ?_, ?_, ?_, ?_⟩
  · rw [← mkc_int (k := k) (c := c) (d := 0) (by omega) (by omega) (by omega) (by omega)]; exact g 0 (by omega)
  · rw [← mkc_int (k := k) (c := c) (d := 1) (by omega) (by omega) (by omega) (by omega)]; exact g 1 (by omega)
  · rw [← mkc_text (k := k) (c := c) (d := 2) (Or.inl rfl) (by omega)]; exact g 2 (by omega)
  · rw [← mkc_int (k := k) (c := c) (d := 3) (by omega) (by omega) (by omega) (by omega)]; exact g 3 (by omega)
  · rw [← mkc_int (k := k) (c := c) (d := 4) (by omega) (by omega) (by omega) (by omega)]; exact g 4 (by omega)
  · rw [← mkc_int (k := k) (c := c) (d := 5) (by omega) (by omega) (by omega) (by omega)]; exact g 5 (by omega)
  · rw [← mkc_text (k := k) (c := c) (d := 6) (Or.inr rfl) (by omega)]; exact g 6 (by omega)
  · rw [← mkc_int (k := k) (c := c) (d := 7) (by omega) (by omega) (by omega) (by omega)]; exact g 7 (by omega)

theorem keep1m {w0 w w' : World} {a : Addr} {x : Value} (h : w.cell? a = some x ∧ Hid (Below w0.heap.size w0 w)) (hb : Below w.heap.size w w') : w'.cell? a = some x ∧ Hid (Below w0.heap.size w0 w') :=
  ⟨(hb.cell (World.block_lt_of_cell? _ _ h.1)).trans h.1, grw h.2.out hb⟩

set_option maxHeartbeats 2000000 in
set_option maxRecDepth 100000 in
/-- 'heldPairS'. -/
theorem heldPairS_any (pa : Option Addr) (L C B k : Nat) (w : World) (hL : L ≤ 1048576) (hk0 : 0 < k) (hk1 : k ≤ 562949953421312) (hA : 0 < L → pa = some ⟨B, 0, none⟩) (HM : Hid (MkAt w B k L)) :
    Calls Try.prog 87 #[.slice pa L C, .int .i64 k] w fun e w' => e = .returned (.int .i64 ((k + L * 8 : Nat) : Int)) ∧ Below w.heap.size w w' := by
  go_enter Try.func87, Try.ntmps87
  go_wp2
  go_loopw [1, 5] (fun kk ii wr => ∃ (c q : Nat), c ≤ L ∧ q = k + c * 8 ∧ kk = .int .i64 (q : Nat) ∧ ii = .int .i64 c ∧ Hid (Below w.heap.size w wr)) (fun _ ii _ => L - (intOf ii).toNat)
  case atStart => exact ⟨0, k, Nat.zero_le _, by omega, rfl, rfl, Below.refl _ _⟩
  case round =>
    obtain ⟨c, q, hcl, hq, rfl, rfl, HW⟩ := hrel
    have HQ : Hid (q = k + c * 8) := hq
    have hq0 : 0 < q := by omega
    by_cases hlt : c < L
    · have hL0 : 0 < L := by omega
      have hq1 : q ≤ 562949961809920 := by omega
      obtain rfl := hA hL0
      obtain ⟨c0, c1, c2, c3, c4, c5, c6, c7⟩ := (HM.out.below HW.out).cells hlt hq
      have hbc : (0 : Int) ≤ (c : Int) ∧ (c : Int) < (L : Int) := by omega
      have hm1 := fun w1 => markText_any (q + 2) w1 (by omega) (by omega)
      rw [show ((q + 2 : Nat) : Int) = (q : Int) + 1 + 1 by omega] at hm1
      have hm2 := fun w1 => markText_any (q + 6) w1 (by omega) (by omega)
      rw [show ((q + 6 : Nat) : Int) = (q : Int) + 1 + 1 + 1 + 1 + 1 + 1 by omega] at hm2
      obtain ⟨t1, ht1⟩ : ∃ t, markT (q + 2) = t := ⟨_, rfl⟩
      rw [ht1] at hm1 c2
      obtain ⟨t2, ht2⟩ : ∃ t, markT (q + 6) = t := ⟨_, rfl⟩
      rw [ht2] at hm2 c6
      have HT2 : Hid (markT (q + 6) = t2) := ht2
      clear ht1 ht2 hq c4 c5 c6 c7 c3
      have C2 : Hid _ := c2
      go_wp2
      go_region_held3 (fun w' => w'.cell? ⟨B, c * 8 + 2, none⟩ = some (.string t1) ∧ Hid (Below w.heap.size w w'))
        (first | exact keep1m ‹_ ∧ _› hb1 | exact ⟨C2.out, HW.out.drew⟩)
        ((go_at_call 74; refine (hm1 _).mono ?_; rintro e w1 ⟨rfl, hb1⟩))
      rename_i hS
      have HW1 := hS.2
      have hQ := HQ.out
      clear hS hb1 c0 c1 c2 C2 HW hm1
      obtain ⟨_, _, _, c3, c4, c5, c6, c7⟩ := (HM.out.below HW1.out).cells hlt hQ
      rw [HT2.out] at c6
      have C6 : Hid _ := c6
      clear hQ c7
      go_wp2
      go_region_held3 (fun w' => w'.cell? ⟨B, c * 8 + 6, none⟩ = some (.string t2) ∧ Hid (Below w.heap.size w w'))
        (first | exact keep1m ‹_ ∧ _› hb2 | exact ⟨C6.out, HW1.out.drew⟩)
        ((go_at_call 74; refine (hm2 _).mono ?_; rintro e w2 ⟨rfl, hb2⟩))
      rename_i hS
      have HW2 := hS.2
      have hQ := HQ.out
      clear hS hb2 c3 c4 c5 c6 C6 HW1 hm2
      obtain ⟨_, _, _, _, _, _, _, c7⟩ := (HM.out.below HW2.out).cells hlt hQ
      clear hQ
      go_wp2
      have hQ := HQ.out
      go_roundw
      case rel => exact ⟨c + 1, q + 8, by omega, by omega, by go_num, by go_num, HW2⟩
      case measure => simp [intOf]; omega
    · obtain rfl : c = L := by omega
      subst hq
      clear HQ
      go_wp2
      go_ret
      exact ⟨rfl, HW.out⟩

end Go.Proofs.Ytgflalfiopnmnab
