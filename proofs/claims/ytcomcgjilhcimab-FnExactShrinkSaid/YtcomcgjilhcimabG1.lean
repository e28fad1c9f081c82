import Derived.Test.YtcomcgjilhcimabCnSpec
import Derived.Deep.RegionHeld3
import Derived.Test.YtcomcgjilhcimabGkLaw
import Derived.Test.YtcomcgjilhcimabCnIm2
import Derived.Test.YtcomcgjilhcimabCnPure
namespace Go.Proofs.Ytcomcgjilhcimab
open Go.RowKit Vl

/-- The digits of k ahead of out. -/
def digs (k : Nat) (out : ByteArray) : ByteArray := if k = 0 then out else digs (k / 10) (strOfNums [48 + (k : Int) % 10] ++ out)
termination_by k
decreasing_by omega
theorem digs_zero (out : ByteArray) : digs 0 out = out := by rw [digs]; simp
theorem digs_pos {k : Nat} (h : ¬ k = 0) (out : ByteArray) : digs k out = digs (k / 10) (strOfNums [48 + (k : Int) % 10] ++ out) := by rw [digs]; simp [h]
/-- The text of a mark. -/
def markT (k : Nat) : ByteArray := ⟨#[109]⟩ ++ digs k ⟨#[]⟩

set_option maxHeartbeats 1000000 in
set_option maxRecDepth 100000 in
/-- 'markText'. -/
theorem markText_any (k : Nat) (w : World) (hk0 : 0 < k) (hk1 : k ≤ 1125899906842624) :
    Calls Try.prog 74 #[.int .i64 k] w fun e w' => e = .returned (.string (markT k)) ∧ Below w.heap.size w w' := by
  have hk : ¬ ((k : Int) ≤ 0) := by omega
  go_enter Try.func74, Try.ntmps74
  go_wp2
  go_loopw [0, 3] (fun kk oo wr => ∃ (j : Nat) (out : ByteArray), j ≤ k ∧ kk = .int .i64 j ∧ oo = .string out ∧ digs j out = digs k ⟨#[]⟩ ∧ out.size + j ≤ k ∧ Hid (Below w.heap.size w wr)) (fun kk _ _ => (intOf kk).toNat)
  case atStart => exact ⟨k, ⟨#[]⟩, Nat.le_refl _, rfl, rfl, rfl, by simp [ByteArray.size], Below.refl _ _⟩
  case round =>
    obtain ⟨j, out, hj, rfl, rfl, hd, hos, HW⟩ := hrel
    by_cases h0 : j = 0
    · subst h0
      rw [digs_zero] at hd
      have HD : Hid (out = digs k ⟨#[]⟩) := hd
      clear hd
      obtain rfl := HD.out
      go_wp2
      refine bodyPost_ret (v := .string (markT k)) (by simp [results, Try.results74, go_sem, markT]) rfl ⟨rfl, HW.out⟩
    · have hpos : (0 : Int) < (j : Int) := by omega
      have HD : Hid (digs (j / 10) (strOfNums [48 + (j : Int) % 10] ++ out) = digs k ⟨#[]⟩) := by rw [← hd, digs_pos h0]; exact rfl
      clear hd
      have hcv := run_convert_bytes_arg (P := Try.prog) (wr.alloc (.cells #[.int .u8 (48 + (j : Int) % 10)] 5)) 167 5 Try.underlying167 Try.underlying5 wr.heap.size 0 1 1 [48 + (j : Int) % 10] rfl (fun i hi => by
        obtain rfl : i = 0 := by omega
        rw [Nat.zero_add]
        exact (one_at (heap_alloc_new wr (.cells #[.int .u8 (48 + (j : Int) % 10)] 5))).1) 9 Try.underlying9
      obtain ⟨dg, hdg⟩ : ∃ dg, strOfNums [48 + (j : Int) % 10] = dg := ⟨_, rfl⟩
      have hds : dg.size = 1 := by rw [← hdg]; rfl
      rw [hdg] at hcv HD
      clear hdg
      go_wp2
      go_roundw
      case rel => exact ⟨j / 10, dg ++ out, by omega, by go_num, rfl, HD.out, by rw [ByteArray.size_append, hds]; omega, HW.out.alloc HW.out.size _⟩
      case measure => simp [intOf]; omega

end Go.Proofs.Ytcomcgjilhcimab

namespace Go.Proofs.Ytcomcgjilhcimab
open Go.RowKit Vl

/-- Cell i of marked pairs. -/
def mkc (k i : Nat) : Value := if i % 8 = 2 ∨ i % 8 = 6 then .string (markT (k + i)) else .int .i64 ((k + i : Nat) : Int)
theorem mkc_int {k c d : Nat} {q : Int} (hd : d < 8) (h2 : d ≠ 2) (h6 : d ≠ 6) (hq : q = k + c * 8 + d) : mkc k (c * 8 + d) = .int .i64 q := by
  unfold mkc
  rw [if_neg (by omega), hq]
  congr 1
  omega
theorem mkc_text {k c d q : Nat} (hd : d = 2 ∨ d = 6) (hq : q = k + c * 8 + d) : mkc k (c * 8 + d) = .string (markT q) := by
  unfold mkc
  rw [if_pos (by omega), hq, Nat.add_assoc]

/-- The first p cells are marked. -/
def Mk (w : World) (B cap k p : Nat) (f : Nat → Value) : Prop := w.rowIs B 63 cap (fun i => if i < p then mkc k i else f i)
theorem Mk.step {w : World} {B cap k p : Nat} {f : Nat → Value} {v : Value} (h : Mk w B cap k p f) (hv : mkc k p = v) : Mk (w.setCell ⟨B, p, none⟩ v) B cap k (p + 1) f := by
  refine ((show w.rowIs B _ _ _ from h).set p v).congr (fun i _ => ?_)
  by_cases e : i = p
  · subst e; rw [if_pos rfl, if_pos (by omega), hv]
  · rw [if_neg e]
    by_cases h' : i < p
    · rw [if_pos h', if_pos (by omega)]
    · rw [if_neg h', if_neg (by omega)]
theorem Mk.below {w w' : World} {B cap k p : Nat} {f : Nat → Value} (h : Mk w B cap k p f) (hb : Below w.heap.size w w') : Mk w' B cap k p f := h.of_block (hb.block B h.lt)
theorem Mk.cell {w : World} {B cap k p : Nat} {f : Nat → Value} (h : Mk w B cap k p f) {i : Nat} (hi : i < cap) (hp : p ≤ i) : w.cell? ⟨B, i, none⟩ = some (f i) := by
  have := (show w.rowIs B _ _ _ from h).cell hi
  rw [if_neg (by omega)] at this
  exact this

set_option maxHeartbeats 2000000 in
set_option maxRecDepth 100000 in
/-- 'markPairS'. -/
theorem markPairS_any (pa : Option Addr) (L C B cap k : Nat) (f : Nat → Value) (w : World) (hL : L ≤ 1048576) (hk0 : 0 < k) (hk1 : k ≤ 562949953421312) (hA : 0 < L → pa = some ⟨B, 0, none⟩) (hc : L * 8 ≤ cap) (HR : Hid (0 < L → w.rowIs B 63 cap f)) :
    Calls Try.prog 86 #[.slice pa L C, .int .i64 k] w fun e w' => e = .returned (.int .i64 ((k + L * 8 : Nat) : Int)) ∧ (0 < L → Mk w' B cap k (L * 8) f) ∧ Only (fun x => x = B ∧ 0 < L) w w' := by
  go_enter Try.func86, Try.ntmps86
  go_wp2
  go_loopw [1, 5] (fun kk ii wr => ∃ (c q : Nat), c ≤ L ∧ q = k + c * 8 ∧ kk = .int .i64 (q : Nat) ∧ ii = .int .i64 c ∧ Hid (0 < L → Mk wr B cap k (c * 8) f) ∧ Hid (Only (fun x => x = B ∧ 0 < L) w wr)) (fun _ ii _ => L - (intOf ii).toNat)
  case atStart => exact ⟨0, k, Nat.zero_le _, by omega, rfl, rfl, show _ → _ from fun h => (HR.out h).congr (fun i _ => by rw [if_neg (by omega)]), Only.refl _ _⟩
  case round =>
    obtain ⟨c, q, hcl, hq, rfl, rfl, HM, HO⟩ := hrel
    have HQ : Hid (q = k + c * 8) := hq
    have hq0 : 0 < q := by omega
    by_cases hlt : c < L
    · have hL0 : 0 < L := by omega
      have hq1 : q ≤ 562949961809920 := by omega
      obtain rfl := hA hL0
      have HM0 : Hid (Mk wr B cap k (c * 8) f) := HM.out hL0
      have c0 := HM0.out.cell (i := c * 8) (by omega) (by omega)
      have c1 := HM0.out.cell (i := c * 8 + 1) (by omega) (by omega)
      have z0 := (show wr.rowIs B _ _ _ from HM0.out).frozen
      obtain ⟨wa, hwa⟩ : ∃ wa, wa = (wr.setCell ⟨B, c * 8, none⟩ (.int .i64 (q : Nat))).setCell ⟨B, c * 8 + 1, none⟩ (.int .i64 ((q : Int) + 1)) := ⟨_, rfl⟩
      have HMa : Hid (Mk wa B cap k (c * 8 + 2) f) := by
        rw [hwa]
        exact (HM0.out.step (mkc_int (d := 0) (by omega) (by omega) (by omega) (by omega))).step (mkc_int (d := 1) (by omega) (by omega) (by omega) (by omega))
      have HOa : Hid (Only (fun x => x = B ∧ 0 < L) w wa) := by rw [hwa]; exact (HO.out.set ⟨rfl, hL0⟩ _).set ⟨rfl, hL0⟩ _
      have hm := markText_any (q + 2) wa (by omega) (by omega)
      rw [show ((q + 2 : Nat) : Int) = (q : Int) + 1 + 1 by omega] at hm
      obtain ⟨t1, ht1⟩ : ∃ t, markT (q + 2) = t := ⟨_, rfl⟩
      rw [ht1] at hm
      have HT1 : Hid (mkc k (c * 8 + 2) = .string t1) := by rw [← ht1]; exact mkc_text (Or.inl rfl) (by omega)
      obtain ⟨t2, ht2⟩ : ∃ t, markT (q + 6) = t := ⟨_, rfl⟩
      have HT2 : Hid (mkc k (c * 8 + 6) = .string t2) := by rw [← ht2]; exact mkc_text (Or.inr rfl) (by omega)
      clear ht1 hq HM0 HM HO
      go_wp2_with fail
      rw [← hwa]
      refine hm.mono ?_
      clear hm hwa c0 c1 z0
      rintro e w1 ⟨rfl, hb1⟩
      have HM1 : Hid (Mk w1 B cap k (c * 8 + 2) f) := HMa.out.below hb1
      have HO1 : Hid (Only (fun x => x = B ∧ 0 < L) w w1) := HOa.out.trans (Only.below hb1)
      clear hb1 HMa HOa
      have c2 := HM1.out.cell (i := c * 8 + 2) (by omega) (by omega)
      have c3 := HM1.out.cell (i := c * 8 + 3) (by omega) (by omega)
      have c4 := HM1.out.cell (i := c * 8 + 4) (by omega) (by omega)
      have c5 := HM1.out.cell (i := c * 8 + 5) (by omega) (by omega)
      have z0 := (show w1.rowIs B _ _ _ from HM1.out).frozen
      obtain ⟨wb, hwb⟩ : ∃ wb, wb = (((w1.setCell ⟨B, c * 8 + 2, none⟩ (.string t1)).setCell ⟨B, c * 8 + 3, none⟩ (.int .i64 ((q : Int) + 1 + 1 + 1))).setCell ⟨B, c * 8 + 4, none⟩ (.int .i64 ((q : Int) + 1 + 1 + 1 + 1))).setCell ⟨B, c * 8 + 5, none⟩ (.int .i64 ((q : Int) + 1 + 1 + 1 + 1 + 1)) := ⟨_, rfl⟩
      have hQ := HQ.out
      have HMb : Hid (Mk wb B cap k (c * 8 + 6) f) := by
        rw [hwb]
        exact (((HM1.out.step HT1.out).step (mkc_int (d := 3) (by omega) (by omega) (by omega) (by omega))).step (mkc_int (d := 4) (by omega) (by omega) (by omega) (by omega))).step (mkc_int (d := 5) (by omega) (by omega) (by omega) (by omega))
      have HOb : Hid (Only (fun x => x = B ∧ 0 < L) w wb) := by rw [hwb]; exact (((HO1.out.set ⟨rfl, hL0⟩ _).set ⟨rfl, hL0⟩ _).set ⟨rfl, hL0⟩ _).set ⟨rfl, hL0⟩ _
      have hm := markText_any (q + 6) wb (by omega) (by omega)
      rw [show ((q + 6 : Nat) : Int) = (q : Int) + 1 + 1 + 1 + 1 + 1 + 1 by omega, ht2] at hm
      clear ht2 hQ HM1 HO1
      go_wp2_with fail
      rw [← hwb]
      refine hm.mono ?_
      clear hm hwb c2 c3 c4 c5 z0
      rintro e w2 ⟨rfl, hb2⟩
      have HM2 : Hid (Mk w2 B cap k (c * 8 + 6) f) := HMb.out.below hb2
      have HO2 : Hid (Only (fun x => x = B ∧ 0 < L) w w2) := HOb.out.trans (Only.below hb2)
      clear hb2 HMb HOb
      have c6 := HM2.out.cell (i := c * 8 + 6) (by omega) (by omega)
      have c7 := HM2.out.cell (i := c * 8 + 7) (by omega) (by omega)
      have z0 := (show w2.rowIs B _ _ _ from HM2.out).frozen
      go_wp2
      have hQ := HQ.out
      go_roundw
      case rel =>
        refine ⟨c + 1, q + 8, by omega, by omega, by go_num, by go_num, show _ → _ from fun _ => ?_, (HO2.out.set ⟨rfl, hL0⟩ _).set ⟨rfl, hL0⟩ _⟩
        have := (HM2.out.step HT2.out).step (mkc_int (d := 7) (q := (q : Int) + 1 + 1 + 1 + 1 + 1 + 1 + 1) (by omega) (by omega) (by omega) (by omega))
        rw [show c * 8 + 7 + 1 = (c + 1) * 8 by omega] at this
        exact this
      case measure => simp [intOf]; omega
    · obtain rfl : c = L := by omega
      subst hq
      clear HQ
      go_wp2
      go_ret
      exact ⟨rfl, HM.out, HO.out⟩

end Go.Proofs.Ytcomcgjilhcimab

namespace Go.Proofs.Ytcomcgjilhcimab
open Go.RowKit Vl

/-- Marked pairs, as they are read. -/
def MkAt (w : World) (B k L : Nat) : Prop := ∀ i, i < L * 8 → w.cell? ⟨B, i, none⟩ = some (mkc k i)
theorem Mk.at {w : World} {B cap k L : Nat} {f : Nat → Value} (h : Mk w B cap k (L * 8) f) (hc : L * 8 ≤ cap) : MkAt w B k L := fun i hi => by
  have := (show w.rowIs B _ _ _ from h).cell (i := i) (by omega)
  rw [if_pos hi] at this
  exact this
theorem MkAt.below {w w' : World} {B k L : Nat} (h : MkAt w B k L) (hb : Below w.heap.size w w') : MkAt w' B k L := fun i hi => (hb.cell (p := ⟨B, i, none⟩) (World.block_lt_of_cell? _ _ (h i hi))).trans (h i hi)

theorem MkAt.cells {w : World} {B k L c q : Nat} (h : MkAt w B k L) (hc : c < L) (hq : q = k + c * 8) :
    w.cell? ⟨B, c * 8, none⟩ = some (.int .i64 (q : Int)) ∧ w.cell? ⟨B, c * 8 + 1, none⟩ = some (.int .i64 ((q : Int) + 1)) ∧ w.cell? ⟨B, c * 8 + 2, none⟩ = some (.string (markT (q + 2))) ∧ w.cell? ⟨B, c * 8 + 3, none⟩ = some (.int .i64 ((q : Int) + 1 + 1 + 1)) ∧ w.cell? ⟨B, c * 8 + 4, none⟩ = some (.int .i64 ((q : Int) + 1 + 1 + 1 + 1)) ∧ w.cell? ⟨B, c * 8 + 5, none⟩ = some (.int .i64 ((q : Int) + 1 + 1 + 1 + 1 + 1)) ∧ w.cell? ⟨B, c * 8 + 6, none⟩ = some (.string (markT (q + 6))) ∧ w.cell? ⟨B, c * 8 + 7, none⟩ = some (.int .i64 ((q : Int) + 1 + 1 + 1 + 1 + 1 + 1 + 1)) := by
  have g : ∀ d, d < 8 → w.cell? ⟨B, c * 8 + d, none⟩ = some (mkc k (c * 8 + d)) := fun d hd => h _ (by omega)
  refine ⟨?_, ?_, ?_, ?_, ?_, ?_, ?_, ?_⟩
  · rw [← mkc_int (k := k) (c := c) (d := 0) (by omega) (by omega) (by omega) (by omega)]; exact g 0 (by omega)
  · rw [← mkc_int (k := k) (c := c) (d := 1) (by omega) (by omega) (by omega) (by omega)]; exact g 1 (by omega)
  · rw [← mkc_text (k := k) (c := c) (d := 2) (Or.inl rfl) (by omega)]; exact g 2 (by omega)
  · rw [← mkc_int (k := k) (c := c) (d := 3) (by omega) (by omega) (by omega) (by omega)]; exact g 3 (by omega)
  · rw [← mkc_int (k := k) (c := c) (d := 4) (by omega) (by omega) (by omega) (by omega)]; exact g 4 (by omega)
  · rw [← mkc_int (k := k) (c := c) (d := 5) (by omega) (by omega) (by omega) (by omega)]; exact g 5 (by omega)
  · rw [← mkc_text (k := k) (c := c) (d := 6) (Or.inr rfl) (by omega)]; exact g 6 (by omega)
  · rw [← mkc_int (k := k) (c := c) (d := 7) (by omega) (by omega) (by omega) (by omega)]; exact g 7 (by omega)

theorem keep1m {w0 w w' : World} {a : Addr} {x : Value} (h : w.cell? a = some x ∧ Hid (Below w0.heap.size w0 w)) (hb : Below w.heap.size w w') : w'.cell? a = some x ∧ Hid (Below w0.heap.size w0 w') :=
  ⟨(hb.cell (World.block_lt_of_cell? _ _ h.1)).trans h.1, grw h.2.out hb⟩

set_option maxHeartbeats 2000000 in
set_option maxRecDepth 100000 in
/-- 'heldPairS'. -/
theorem heldPairS_any (pa : Option Addr) (L C B k : Nat) (w : World) (hL : L ≤ 1048576) (hk0 : 0 < k) (hk1 : k ≤ 562949953421312) (hA : 0 < L → pa = some ⟨B, 0, none⟩) (HM : Hid (MkAt w B k L)) :
    Calls Try.prog 87 #[.slice pa L C, .int .i64 k] w fun e w' => e = .returned (.int .i64 ((k + L * 8 : Nat) : Int)) ∧ Below w.heap.size w w' := by
  go_enter Try.func87, Try.ntmps87
  go_wp2
  go_loopw [1, 5] (fun kk ii wr => ∃ (c q : Nat), c ≤ L ∧ q = k + c * 8 ∧ kk = .int .i64 (q : Nat) ∧ ii = .int .i64 c ∧ Hid (Below w.heap.size w wr)) (fun _ ii _ => L - (intOf ii).toNat)
  case atStart => exact ⟨0, k, Nat.zero_le _, by omega, rfl, rfl, Below.refl _ _⟩
  case round =>
    obtain ⟨c, q, hcl, hq, rfl, rfl, HW⟩ := hrel
    have HQ : Hid (q = k + c * 8) := hq
    have hq0 : 0 < q := by omega
    by_cases hlt : c < L
    · have hL0 : 0 < L := by omega
      have hq1 : q ≤ 562949961809920 := by omega
      obtain rfl := hA hL0
      obtain ⟨c0, c1, c2, c3, c4, c5, c6, c7⟩ := (HM.out.below HW.out).cells hlt hq
      have hbc : (0 : Int) ≤ (c : Int) ∧ (c : Int) < (L : Int) := by omega
      have hm1 := fun w1 => markText_any (q + 2) w1 (by omega) (by omega)
      rw [show ((q + 2 : Nat) : Int) = (q : Int) + 1 + 1 by omega] at hm1
      have hm2 := fun w1 => markText_any (q + 6) w1 (by omega) (by omega)
      rw [show ((q + 6 : Nat) : Int) = (q : Int) + 1 + 1 + 1 + 1 + 1 + 1 by omega] at hm2
      obtain ⟨t1, ht1⟩ : ∃ t, markT (q + 2) = t := ⟨_, rfl⟩
      rw [ht1] at hm1 c2
      obtain ⟨t2, ht2⟩ : ∃ t, markT (q + 6) = t := ⟨_, rfl⟩
      rw [ht2] at hm2 c6
      have HT2 : Hid (markT (q + 6) = t2) := ht2
      clear ht1 ht2 hq c4 c5 c6 c7 c3
      have C2 : Hid _ := c2
      go_wp2
      go_region_held3 (fun w' => w'.cell? ⟨B, c * 8 + 2, none⟩ = some (.string t1) ∧ Hid (Below w.heap.size w w'))
        (first | exact keep1m ‹_ ∧ _› hb1 | exact ⟨C2.out, HW.out.drew⟩)
        ((go_at_call 74; refine (hm1 _).mono ?_; rintro e w1 ⟨rfl, hb1⟩))
      rename_i hS
      have HW1 := hS.2
      have hQ := HQ.out
      clear hS hb1 c0 c1 c2 C2 HW hm1
      obtain ⟨_, _, _, c3, c4, c5, c6, c7⟩ := (HM.out.below HW1.out).cells hlt hQ
      rw [HT2.out] at c6
      have C6 : Hid _ := c6
      clear hQ c7
      go_wp2
      go_region_held3 (fun w' => w'.cell? ⟨B, c * 8 + 6, none⟩ = some (.string t2) ∧ Hid (Below w.heap.size w w'))
        (first | exact keep1m ‹_ ∧ _› hb2 | exact ⟨C6.out, HW1.out.drew⟩)
        ((go_at_call 74; refine (hm2 _).mono ?_; rintro e w2 ⟨rfl, hb2⟩))
      rename_i hS
      have HW2 := hS.2
      have hQ := HQ.out
      clear hS hb2 c3 c4 c5 c6 C6 HW1 hm2
      obtain ⟨_, _, _, _, _, _, _, c7⟩ := (HM.out.below HW2.out).cells hlt hQ
      clear hQ
      go_wp2
      have hQ := HQ.out
      go_roundw
      case rel => exact ⟨c + 1, q + 8, by omega, by omega, by go_num, by go_num, HW2⟩
      case measure => simp [intOf]; omega
    · obtain rfl : c = L := by omega
      subst hq
      clear HQ
      go_wp2
      go_ret
      exact ⟨rfl, HW.out⟩

end Go.Proofs.Ytcomcgjilhcimab

namespace Go.Proofs.Ytcomcgjilhcimab
open Go.RowKit Vl

/-- The first mark of table r. -/
def koff (k : Nat) (L : Nat → Nat) : Nat → Nat
  | 0 => k
  | r + 1 => koff k L r + L r * 8
theorem koff_le {k n b : Nat} {L : Nat → Nat} (h : ∀ r, r < n → L r ≤ b) : ∀ r, r ≤ n → koff k L r ≤ k + r * (b * 8)
  | 0, _ => by simp [koff]
  | r + 1, hr => by
    have h1 := koff_le (k := k) h r (by omega)
    have h2 := h r (by omega)
    show koff k L r + L r * 8 ≤ _
    have : L r * 8 ≤ b * 8 := Nat.mul_le_mul_right 8 h2
    have e : (r + 1) * (b * 8) = r * (b * 8) + b * 8 := Nat.succ_mul _ _
    omega
theorem koff_pos {k : Nat} {L : Nat → Nat} (h : 0 < k) : ∀ r, 0 < koff k L r
  | 0 => h
  | r + 1 => by have := koff_pos (L := L) h r; show 0 < koff k L r + L r * 8; omega

/-- Tables whose pairs may be written. -/
structure MTabs (w : World) (ta : Option Addr) (n TB : Nat) (A : Nat → Option Addr) (L C RB cap : Nat → Nat) (f : Nat → Nat → Value) : Prop where
  top : 0 < n → ta = some ⟨TB, 0, none⟩
  tab : ∀ r, r < n → w.cell? ⟨TB, r, none⟩ = some (.slice (A r) (L r) (C r))
  adr : ∀ r, r < n → 0 < L r → A r = some ⟨RB r, 0, none⟩
  row : ∀ r, r < n → 0 < L r → w.rowIs (RB r) 63 (cap r) (f r)
  fit : ∀ r, r < n → 0 < L r → L r * 8 ≤ cap r
  ne : ∀ r, r < n → 0 < L r → RB r ≠ TB
  dis : ∀ r s, r < s → s < n → 0 < L r → 0 < L s → RB r ≠ RB s

set_option maxHeartbeats 1000000 in
set_option maxRecDepth 100000 in
/-- 'markTableS'. -/
theorem markTableS_any (ta : Option Addr) (n cp TB k : Nat) (A : Nat → Option Addr) (L C RB cap : Nat → Nat) (f : Nat → Nat → Value) (w : World) (hn : n ≤ 1048576) (HL : Hid (∀ r, r < n → L r ≤ 1048576)) (hk0 : 0 < k) (hk1 : k ≤ 1048576) (HT : Hid (MTabs w ta n TB A L C RB cap f)) :
    Calls Try.prog 57 #[.slice ta n cp, .int .i64 k] w fun e w' => e = .returned (.int .i64 ((koff k L n : Nat) : Int)) ∧ (∀ r, r < n → 0 < L r → Mk w' (RB r) (cap r) (koff k L r) (L r * 8) (f r)) ∧ Only (fun x => ∃ j, j < n ∧ x = RB j ∧ 0 < L j) w w' := by
  have HK : Hid (∀ r, r ≤ n → koff k L r ≤ k + r * (1048576 * 8)) := fun r hr => koff_le HL.out r hr
  go_enter Try.func57, Try.ntmps57
  go_wp2
  go_loopw [1, 5] (fun kk ii wr => ∃ (r q : Nat), r ≤ n ∧ Hid (koff k L r = q) ∧ kk = .int .i64 (q : Nat) ∧ ii = .int .i64 r ∧ Hid (∀ j, j < r → 0 < L j → Mk wr (RB j) (cap j) (koff k L j) (L j * 8) (f j)) ∧ Hid (Only (fun x => ∃ j, j < r ∧ x = RB j ∧ 0 < L j) w wr)) (fun _ ii _ => n - (intOf ii).toNat)
  case atStart => exact ⟨0, k, Nat.zero_le _, (show koff k L 0 = k from rfl), rfl, rfl, (show ∀ j, _ from fun j hj => by omega), Only.refl _ _⟩
  case round =>
    obtain ⟨r, q, hr, HQ, rfl, rfl, HM, HO⟩ := hrel
    by_cases hlt : r < n
    · obtain rfl := HT.out.top (by omega)
      have t0 : wr.cell? ⟨TB, r, none⟩ = some (.slice (A r) (L r) (C r)) := HO.out.cell (HT.out.tab r hlt) (by rintro ⟨j, hj, e, h0⟩; exact HT.out.ne j (by omega) h0 e.symm)
      have hq1 : q ≤ k + r * (1048576 * 8) := by have := HK.out r hr; rw [HQ.out] at this; exact this
      have hq0 : 0 < q := by rw [← HQ.out]; exact koff_pos hk0 r
      have hLr := HL.out r hlt
      obtain ⟨a, ha⟩ : ∃ a, A r = a := ⟨_, rfl⟩
      rw [ha] at t0
      have hm := markPairS_any a (L r) (C r) (RB r) (cap r) q (f r) wr hLr hq0 (by omega) (fun h => ha ▸ HT.out.adr r hlt h) (by
          rcases Nat.eq_zero_or_pos (L r) with h | h
          · omega
          · exact HT.out.fit r hlt h) (show _ → _ from fun h => HO.out.rowIs (HT.out.row r hlt h) (by rintro ⟨j, hj, e, h0⟩; exact HT.out.dis j r hj hlt h0 h e.symm))
      have hbr : (0 : Int) ≤ (r : Int) ∧ (r : Int) < (n : Int) := by omega
      clear hq1
      go_wp2_with fail
      refine hm.mono ?_
      clear hm t0
      rintro e w1 ⟨rfl, hM1, hO1⟩
      have HM1 : Hid (∀ j, j < r + 1 → 0 < L j → Mk w1 (RB j) (cap j) (koff k L j) (L j * 8) (f j)) := show ∀ j, _ from fun j hj h0 => by
        by_cases e : j = r
        · subst e; rw [HQ.out]; exact hM1 h0
        · exact hO1.rowIs (HM.out j (by omega) h0) (by rintro ⟨e', h0'⟩; exact HT.out.dis j r (by omega) hlt h0 h0' e')
      have HO1 : Hid (Only (fun x => ∃ j, j < r + 1 ∧ x = RB j ∧ 0 < L j) w w1) := (HO.out.mono (fun x _ ⟨j, h1, h2⟩ => ⟨j, by omega, h2⟩)).trans (hO1.mono (fun x _ h => ⟨r, by omega, h⟩))
      clear hM1 hO1 HM HO
      go_wp2
      go_roundw
      case rel => exact ⟨r + 1, q + L r * 8, by omega, (show koff k L r + L r * 8 = _ by rw [HQ.out]), rfl, by go_num, HM1, HO1⟩
      case measure => simp [intOf]; omega
    · obtain rfl : r = n := by omega
      go_wp2
      go_ret
      refine ⟨?_, HM.out, HO.out⟩
      have := HQ.out
      subst this
      rfl

/-- Marked tables, as they are read. -/
structure HTabs (w : World) (ta : Option Addr) (n TB k : Nat) (A : Nat → Option Addr) (L C RB : Nat → Nat) : Prop where
  top : 0 < n → ta = some ⟨TB, 0, none⟩
  tab : ∀ r, r < n → w.cell? ⟨TB, r, none⟩ = some (.slice (A r) (L r) (C r))
  adr : ∀ r, r < n → 0 < L r → A r = some ⟨RB r, 0, none⟩
  row : ∀ r, r < n → 0 < L r → MkAt w (RB r) (koff k L r) (L r)
theorem HTabs.below {w w' : World} {ta : Option Addr} {n TB k : Nat} {A : Nat → Option Addr} {L C RB : Nat → Nat} (h : HTabs w ta n TB k A L C RB) (hb : Below w.heap.size w w') : HTabs w' ta n TB k A L C RB :=
  ⟨h.top, fun r hr => (hb.cell (p := ⟨TB, r, none⟩) (World.block_lt_of_cell? _ _ (h.tab r hr))).trans (h.tab r hr), h.adr, fun r hr h0 => (h.row r hr h0).below hb⟩

set_option maxHeartbeats 1000000 in
set_option maxRecDepth 100000 in
/-- 'heldTableS'. -/
theorem heldTableS_any (ta : Option Addr) (n cp TB k : Nat) (A : Nat → Option Addr) (L C RB : Nat → Nat) (w : World) (hn : n ≤ 1048576) (HL : Hid (∀ r, r < n → L r ≤ 1048576)) (hk0 : 0 < k) (hk1 : k ≤ 1048576) (HT : Hid (HTabs w ta n TB k A L C RB)) :
    Calls Try.prog 58 #[.slice ta n cp, .int .i64 k] w fun e w' => e = .returned (.int .i64 ((koff k L n : Nat) : Int)) ∧ Below w.heap.size w w' := by
  have HK : Hid (∀ r, r ≤ n → koff k L r ≤ k + r * (1048576 * 8)) := fun r hr => koff_le HL.out r hr
  go_enter Try.func58, Try.ntmps58
  go_wp2
  go_loopw [1, 5] (fun kk ii wr => ∃ (r q : Nat), r ≤ n ∧ Hid (koff k L r = q) ∧ kk = .int .i64 (q : Nat) ∧ ii = .int .i64 r ∧ Hid (Below w.heap.size w wr)) (fun _ ii _ => n - (intOf ii).toNat)
  case atStart => exact ⟨0, k, Nat.zero_le _, (show koff k L 0 = k from rfl), rfl, rfl, Below.refl _ _⟩
  case round =>
    obtain ⟨r, q, hr, HQ, rfl, rfl, HW⟩ := hrel
    by_cases hlt : r < n
    · obtain rfl := HT.out.top (by omega)
      have t0 := (HT.out.below HW.out).tab r hlt
      have hq1 : q ≤ k + r * (1048576 * 8) := by have := HK.out r hr; rw [HQ.out] at this; exact this
      have hq0 : 0 < q := by rw [← HQ.out]; exact koff_pos hk0 r
      have hLr := HL.out r hlt
      obtain ⟨a, ha⟩ : ∃ a, A r = a := ⟨_, rfl⟩
      rw [ha] at t0
      have hm := heldPairS_any a (L r) (C r) (RB r) q wr hLr hq0 (by omega) (fun h => ha ▸ HT.out.adr r hlt h) (show MkAt _ _ _ _ from fun i hi => by
        have := (HT.out.below HW.out).row r hlt (by omega)
        rw [HQ.out] at this
        exact this i hi)
      have hbr : (0 : Int) ≤ (r : Int) ∧ (r : Int) < (n : Int) := by omega
      have hq2 : q ≤ 8796094070784 := by omega
      clear hq1
      go_wp2_with fail
      refine hm.mono ?_
      clear hm t0
      rintro e w1 ⟨rfl, hb1⟩
      have HW1 : Hid (Below w.heap.size w w1) := grw HW.out hb1
      clear hb1 HW
      obtain ⟨q', hq'⟩ : ∃ q', q + L r * 8 = q' := ⟨_, rfl⟩
      have HQ' : Hid (koff k L (r + 1) = q') := show koff k L r + L r * 8 = q' by rw [HQ.out]; exact hq'
      rw [hq']
      have hnn : ¬ ((q' : Int) < 0) := by omega
      clear hq'
      go_wp2
      go_roundw
      case rel => exact ⟨r + 1, q', by omega, HQ', rfl, by go_num, HW1⟩
      case measure => simp [intOf]; omega
    · obtain rfl : r = n := by omega
      go_wp2
      go_ret
      refine ⟨?_, HW.out⟩
      have := HQ.out
      subst this
      rfl

end Go.Proofs.Ytcomcgjilhcimab

namespace Go.Proofs.Ytcomcgjilhcimab
open Go.RowKit Vl

theorem MTabs.below {w w' : World} {ta : Option Addr} {n TB : Nat} {A : Nat → Option Addr} {L C RB cap : Nat → Nat} {f : Nat → Nat → Value} (h : MTabs w ta n TB A L C RB cap f) (hb : Below w.heap.size w w') : MTabs w' ta n TB A L C RB cap f :=
  ⟨h.top, fun r hr => (hb.cell (p := ⟨TB, r, none⟩) (World.block_lt_of_cell? _ _ (h.tab r hr))).trans (h.tab r hr), h.adr, fun r hr h0 => (h.row r hr h0).of_block (hb.block _ (h.row r hr h0).lt), h.fit, h.ne, h.dis⟩

set_option maxHeartbeats 1000000 in
set_option maxRecDepth 100000 in
/-- 'markGraph'. -/
theorem markGraph_any (u : V) (ta : Option Addr) (n cp TB k : Nat) (A : Nat → Option Addr) (L C RB cap : Nat → Nat) (f : Nat → Nat → Value) (w : World) (hn : n ≤ 1048576) (HL : Hid (∀ r, r < n → L r ≤ 1048576)) (hk0 : 0 < k) (hk1 : k ≤ 1048576) (HT : Hid (MTabs w ta n TB A L C RB cap f)) :
    Calls Try.prog 22 #[.agg #[.int .i64 u.k, .int .i64 u.n, .string u.s, .int .i64 u.a, .slice ta n cp], .int .i64 k] w fun e w' => e = .returned (.int .i64 ((koff k L n : Nat) : Int)) ∧ (∀ r, r < n → 0 < L r → Mk w' (RB r) (cap r) (koff k L r) (L r * 8) (f r)) ∧ Only (fun x => ∃ j, j < n ∧ x = RB j ∧ 0 < L j) w w' := by
  obtain ⟨w0, hw0⟩ : ∃ w0, w0 = w.alloc (.cells #[.int .i64 u.k, .int .i64 u.n, .string u.s, .int .i64 u.a, .slice ta n cp] 32) := ⟨_, rfl⟩
  have hb0 : Below w.heap.size w w0 := by rw [hw0]; exact (Below.refl _ _).alloc (Nat.le_refl _) _
  have HB0 : Hid _ := hb0
  have hm := markTableS_any ta n cp TB k A L C RB cap f w0 hn HL hk0 hk1 (HT.out.below hb0)
  obtain ⟨q, hq⟩ : ∃ q, koff k L n = q := ⟨_, rfl⟩
  rw [hq] at hm ⊢
  clear hq hb0
  go_enter Try.func22, Try.ntmps22
  go_wp2_with fail
  rw [← hw0]
  refine hm.mono ?_
  clear hm hw0
  rintro e w1 ⟨rfl, hM, hO⟩
  have HM : Hid _ := hM
  have HO : Hid (Only (fun x => ∃ j, j < n ∧ x = RB j ∧ 0 < L j) w w1) := (Only.below HB0.out).trans hO
  clear hM hO
  go_wp2
  go_ret
  exact ⟨rfl, HM.out, HO.out⟩

set_option maxHeartbeats 1000000 in
set_option maxRecDepth 100000 in
/-- 'heldGraph'. -/
theorem heldGraph_any (u : V) (ta : Option Addr) (n cp TB k : Nat) (A : Nat → Option Addr) (L C RB : Nat → Nat) (w : World) (hn : n ≤ 1048576) (HL : Hid (∀ r, r < n → L r ≤ 1048576)) (hk0 : 0 < k) (hk1 : k ≤ 1048576) (HT : Hid (HTabs w ta n TB k A L C RB)) :
    Calls Try.prog 23 #[.agg #[.int .i64 u.k, .int .i64 u.n, .string u.s, .int .i64 u.a, .slice ta n cp], .int .i64 k] w fun e w' => e = .returned (.int .i64 ((koff k L n : Nat) : Int)) ∧ Below w.heap.size w w' := by
  obtain ⟨w0, hw0⟩ : ∃ w0, w0 = w.alloc (.cells #[.int .i64 u.k, .int .i64 u.n, .string u.s, .int .i64 u.a, .slice ta n cp] 32) := ⟨_, rfl⟩
  have hb0 : Below w.heap.size w w0 := by rw [hw0]; exact (Below.refl _ _).alloc (Nat.le_refl _) _
  have HB0 : Hid _ := hb0
  have hm := heldTableS_any ta n cp TB k A L C RB w0 hn HL hk0 hk1 (HT.out.below hb0)
  obtain ⟨q, hq⟩ : ∃ q, koff k L n = q := ⟨_, rfl⟩
  rw [hq] at hm ⊢
  clear hq hb0
  have hnn : ¬ ((q : Int) < 0) := by omega
  go_enter Try.func23, Try.ntmps23
  go_wp2_with fail
  rw [← hw0]
  refine hm.mono ?_
  clear hm hw0
  rintro e w1 ⟨rfl, hb1⟩
  have HW : Hid (Below w.heap.size w w1) := grw HB0.out hb1
  clear hb1
  go_wp2
  go_ret
  exact ⟨rfl, HW.out⟩

end Go.Proofs.Ytcomcgjilhcimab

namespace Go.Proofs.Ytcomcgjilhcimab
open Go.RowKit Vl

open Classical in
/-- The canonical graph, or the empty one. -/
noncomputable def cnN (n : Nat) (u : V) (L : Nat → Nat) (K X : Nat → Nat → V) : Nat := if OkG n u L K X then (order n u L X).length else 0
open Classical in
noncomputable def cnU (n : Nat) (u : V) (L : Nat → Nat) (K X : Nat → Nat → V) : V := if OkG n u L K X then renum (order n u L X) u else zeroV

theorem CanonIs.all {w w' : World} {e : Ending} {n : Nat} {u : V} {L : Nat → Nat} {K X : Nat → Nat → V} (h : CanonIs w w' e n u L K X) : ∃ (tv : Value) (PV : Nat → Value) (base : Nat), w.heap.size ≤ base ∧ e = .returned (.agg #[.int .i64 (cnU n u L K X).k, .int .i64 (cnU n u L K X).n, .string (cnU n u L K X).s, .int .i64 (cnU n u L K X).a, tv]) ∧ OTab w' base tv (cnN n u L K X) PV (cL (order n u L X) L) (cK (order n u L X) K) (cX (order n u L X) X) := by
  unfold cnU cnN
  rcases h with ⟨hG, tv, PV, base, h1, h2, h3⟩ | ⟨hN, h2⟩
  · rw [if_pos hG, if_pos hG]
    exact ⟨tv, PV, base, h1, h2, h3⟩
  · rw [if_neg hN, if_neg hN]
    exact ⟨.slice none 0 0, fun _ => .nilIface, w.heap.size, Nat.le_refl _, h2, OTab.nil _ _ _ _ _ _⟩

theorem renum_s (S : List Nat) (v : V) : (renum S v).s = v.s := by
  unfold renum
  split <;> rfl
theorem small_can {n : Nat} {u : V} {L : Nat → Nat} {K X : Nat → Nat → V} (h : Small 1048576 n L K X) : cnN n u L K X ≤ 1048576 ∧ Small 1048576 (cnN n u L K X) (cL (order n u L X) L) (cK (order n u L X) K) (cX (order n u L X) X) := by
  unfold cnN
  by_cases hG : OkG n u L K X
  · rw [if_pos hG]
    have hf := (order_all hG).1
    refine ⟨by have := hf.len; have := hG.len; omega, fun r hr => ?_⟩
    have hm : (order n u L X).getD r 0 < n := by
      rw [List.getD_eq_getElem?_getD, List.getElem?_eq_getElem hr]
      exact hf.lt _ (List.getElem_mem hr)
    obtain ⟨h1, h2⟩ := h _ hm
    exact ⟨h1, fun c hc => ⟨(h2 c hc).1, by unfold cX; rw [renum_s]; exact (h2 c hc).2⟩⟩
  · rw [if_neg hG]
    exact ⟨by omega, fun r hr => by omega⟩

/-- Whatever stands in a row. -/
theorem rowIs_any {w : World} {b t : Nat} {cur : Array Value} (h : w.heap[b]? = some (.cells cur t (0, 0))) : w.rowIs b t cur.size (fun i => (cur[i]?).getD .nilIface) :=
  ⟨cur, h, rfl, fun i hi => by simp [hi]⟩

/-- Tables that a call made may be marked. -/
theorem OTab.marks {w : World} {base : Nat} {tv : Value} {i : Nat} {PV : Nat → Value} {L : Nat → Nat} {K X : Nat → Nat → V} (h : OTab w base tv i PV L K X) :
    ∃ (cap : Nat → Nat) (f : Nat → Nat → Value), MTabs w (slA tv) i (slB tv) (fun j => slA (PV j)) L (fun j => slC (PV j)) (fun j => slB (PV j)) cap f ∧ ∀ j, j < i → 0 < L j → base ≤ slB (PV j) := by
  have each : ∀ j, ∃ (c : Nat) (f : Nat → Value), j < i → 0 < L j → slA (PV j) = some ⟨slB (PV j), 0, none⟩ ∧ w.rowIs (slB (PV j)) 63 c f ∧ L j * 8 ≤ c ∧ base ≤ slB (PV j) ∧ (PV j).ownBlock = some (slB (PV j)) := by
    intro j
    by_cases hj : j < i ∧ 0 < L j
    · rcases (h.rows j hj.1).2 with ⟨_, h0⟩ | ⟨g, cap, cur, hv, hge, hh, hl, _, hs, _⟩
      · omega
      · refine ⟨cur.size, (fun i => (cur[i]?).getD .nilIface), fun _ _ => ?_⟩
        have e1 : slB (PV j) = g := by rw [hv]; rfl
        rw [e1]
        refine ⟨by rw [hv]; rfl, rowIs_any hh, ?_, hge, by rw [hv]; rfl⟩
        rw [hs]
        exact Nat.mul_le_mul_right 8 hl
    · exact ⟨0, fun _ => .nilIface, fun a b => absurd ⟨a, b⟩ hj⟩
  refine ⟨fun j => (each j).choose, fun j => (each j).choose_spec.choose, ⟨fun h0 => ?_, fun r hr => ?_, fun r hr h0 => ((each r).choose_spec.choose_spec hr h0).1, fun r hr h0 => ((each r).choose_spec.choose_spec hr h0).2.1, fun r hr h0 => ((each r).choose_spec.choose_spec hr h0).2.2.1, fun r hr h0 e => ?_, fun r s hrs hs h0 h1 e => ?_⟩, fun j hj h0 => ((each j).choose_spec.choose_spec hj h0).2.2.2.1⟩
  · have := h.tabs.2.top h0
    exact this
  · have := h.tabs.2.tab r hr
    rw [Nat.zero_add] at this
    exact this
  · obtain ⟨c, hc, _⟩ := ((each r).choose_spec.choose_spec hr h0).2.1
    rcases h.own.2 with ⟨_, hn⟩ | ⟨g, cap, cur, hv, _, hh, _⟩
    · omega
    · have e1 : slB tv = g := by rw [hv]; rfl
      rw [e, e1, hh] at hc
      cases hc
  · have h2 := ((each r).choose_spec.choose_spec (by omega) h0).2.2.2.2
    have h3 := ((each s).choose_spec.choose_spec hs h1).2.2.2.2
    rw [← e] at h3
    exact h.dis r s hrs hs _ h2 h3

/-- A copy may be marked. -/
theorem Copied.marks {w0 w : World} {n : Nat} {G L : Nat → Nat} {K X : Nat → Nat → V} {B : Nat} (h : Copied w0 w n G L K X) (hB : w0.heap.size = B) (hr : w.rowIs B 61 n (fun i => .slice (some ⟨G i, 0, none⟩) (L i) (L i))) :
    ∃ f : Nat → Nat → Value, MTabs w (some ⟨B, 0, none⟩) n B (fun r => some ⟨G r, 0, none⟩) L L G (fun r => L r * 8) f := by
  have each : ∀ r, ∃ f, r < n → w.rowIs (G r) 63 (L r * 8) f := fun r => by
    by_cases hr : r < n
    · obtain ⟨f, hf⟩ := h.blk r hr
      exact ⟨f, fun _ => hf⟩
    · exact ⟨fun _ => .nilIface, fun x => absurd x hr⟩
  exact ⟨fun r => (each r).choose, fun _ => rfl, fun r hr' => hr.cell hr', fun r _ _ => rfl, fun r hr' _ => (each r).choose_spec hr', fun r _ _ => Nat.le_refl _, fun r hr' _ e => by have := (h.new r hr').1; omega, fun r s hrs hs _ _ e => by have := h.inc r s hrs hs; omega⟩

/-- What was marked is held. -/
theorem MTabs.held {w w' : World} {ta : Option Addr} {n TB k : Nat} {A : Nat → Option Addr} {L C RB cap : Nat → Nat} {f : Nat → Nat → Value} (h : MTabs w ta n TB A L C RB cap f) (hm : ∀ r, r < n → 0 < L r → Mk w' (RB r) (cap r) (koff k L r) (L r * 8) (f r)) (ho : Only (fun x => ∃ j, j < n ∧ x = RB j ∧ 0 < L j) w w') : HTabs w' ta n TB k A L C RB := by
  refine ⟨h.top, fun r hr => ho.cell (h.tab r hr) (fun ⟨j, hj, e, h0⟩ => h.ne j hj h0 e.symm), h.adr, fun r hr h0 i hi => ?_⟩
  have := (show World.rowIs _ _ _ _ _ from hm r hr h0).cell (Nat.lt_of_lt_of_le hi (h.fit r hr h0))
  rw [if_pos hi] at this
  exact this

end Go.Proofs.Ytcomcgjilhcimab

namespace Go.Proofs.Ytcomcgjilhcimab
open Go.RowKit Vl
open Go.ChangeShapes Go.WideShapes Go.ChangeAt Go.Joins

/-- A call's answer is a graph in memory of its own. -/
def GrRes (w w' : World) (e : Ending) (N : Nat) (U : V) (L : Nat → Nat) (K X : Nat → Nat → V) : Prop :=
  ∃ (ta : Option Addr) (tc : Nat) (PV : Nat → Value) (base : Nat), w.heap.size ≤ base ∧ e = .returned (.agg #[.int .i64 U.k, .int .i64 U.n, .string U.s, .int .i64 U.a, .slice ta N tc]) ∧ OTab w' base (.slice ta N tc) N PV L K X

theorem CanonIs.res {w w' : World} {e : Ending} {n : Nat} {u : V} {L : Nat → Nat} {K X : Nat → Nat → V} (h : CanonIs w w' e n u L K X) : GrRes w w' e (cnN n u L K X) (cnU n u L K X) (cL (order n u L X) L) (cK (order n u L X) K) (cX (order n u L X) X) := by
  obtain ⟨tv, PV, base, h1, h2, h3⟩ := h.all
  obtain ⟨ta, tc, rfl, _⟩ := owns_form h3.own
  exact ⟨ta, tc, PV, base, h1, h2, h3⟩

set_option maxHeartbeats 4000000 in
set_option maxRecDepth 100000 in
theorem canonLaw (u : V) (ta : Option Addr) (n cp TB TO : Nat) (A : Nat → Option Addr) (L C RB RO : Nat → Nat) (K X : Nat → Nat → V) (w : World) (hu : u.s.size ≤ 9223372036854775807) (hn : n ≤ 9223372036854775807)
    (HS : Hid (Small 9223372036854775807 n L K X)) (HT : Hid (TabsAt w ta n TB TO A L C RB RO K X)) :
    Calls Try.prog 5 #[.agg #[.int .i64 u.k, .int .i64 u.n, .string u.s, .int .i64 u.a, .slice ta n cp]] w fun e w' => e = .returned (.bool true) ∧ Below w.heap.size w w' := by
  obtain ⟨w0, hw0⟩ : ∃ w0, w0 = w.alloc (.cells #[.int .i64 u.k, .int .i64 u.n, .string u.s, .int .i64 u.a, .slice ta n cp] 26) := ⟨_, rfl⟩
  have HB0 : Hid (Below w.heap.size w w0) := by rw [hw0]; exact (Below.refl _ _).alloc (Nat.le_refl _) _
  have G0 : Hid (w0.heap[w.heap.size]? = some (.cells #[.int .i64 u.k, .int .i64 u.n, .string u.s, .int .i64 u.a, .slice ta n cp] 26 (0, 0))) := by rw [hw0]; exact heap_alloc_new _ _
  have hsz := szGraph_any u ta n cp TB TO A L C RB RO K X 1048576 w0 (by omega) (by omega) hu hn HS (HT.out.below HB0.out)
  go_enter Try.func5, Try.ntmps5
  go_wp2_with fail
  rw [← hw0]
  refine hsz.mono ?_
  clear hsz hw0
  rintro e w1 ⟨⟨q, rfl, hq1, hq2⟩, hb1⟩
  have G1 : Hid (w1.heap[w.heap.size]? = some (.cells #[.int .i64 u.k, .int .i64 u.n, .string u.s, .int .i64 u.a, .slice ta n cp] 26 (0, 0))) := blk_below G0.out hb1
  have HB1 : Hid (Below w.heap.size w w1) := grw HB0.out hb1
  clear hb1 G0 HB0
  by_cases hq : q < 0
  · clear hq2
    go_wp2
    go_ret
    exact ⟨rfl, HB1.out⟩
  obtain ⟨_, hn1, hsm⟩ := hq2 (by omega)
  have HSm : Hid (Small 1048576 n L K X) := hsm
  clear hq2 hsm HS
  obtain ⟨N, U, L', K', X', HN, HSN, HSP, HIM⟩ : ∃ (N : Nat) (U : V) (L' : Nat → Nat) (K' X' : Nat → Nat → V), N ≤ 1048576 ∧ Hid (Small 1048576 N L' K' X') ∧
      Hid (∀ (ta : Option Addr) (cp TB TO : Nat) (A : Nat → Option Addr) (C RB RO : Nat → Nat) (w : World), TabsAt w ta n TB TO A L C RB RO K X → Calls Try.prog 20 #[.agg #[.int .i64 u.k, .int .i64 u.n, .string u.s, .int .i64 u.a, .slice ta n cp]] w fun e w' => GrRes w w' e N U L' K' X' ∧ Below w.heap.size w w') ∧
      Hid (∀ (ta : Option Addr) (cp TB TO : Nat) (A : Nat → Option Addr) (C RB RO : Nat → Nat) (w : World), TabsAt w ta n TB TO A L C RB RO K X → Calls Try.prog 21 #[.agg #[.int .i64 u.k, .int .i64 u.n, .string u.s, .int .i64 u.a, .slice ta n cp]] w fun e w' => GrRes w w' e N U L' K' X' ∧ Below w.heap.size w w') :=
    ⟨_, _, _, _, _, (small_can HSm.out).1, (small_can HSm.out).2, show ∀ _, _ from fun ta cp TB TO A C RB RO w hT => (specCanon_any u ta n cp TB TO A L C RB RO K X w hn1 HSm hT).mono (fun e w' h => ⟨h.1.res, h.2⟩),
      show ∀ _, _ from fun ta cp TB TO A C RB RO w hT => (implCanon_any u ta n cp TB TO A L C RB RO K X w hn1 HSm hT).mono (fun e w' h => ⟨h.1.res, h.2⟩)⟩
  have HLn : Hid (∀ r, r < n → L r ≤ 1048576) := show ∀ r, _ from fun r hr => (HSm.out r hr).1
  have HLN : Hid (∀ r, r < N → L' r ≤ 1048576) := show ∀ r, _ from fun r hr => (HSN.out r hr).1
  obtain ⟨g0, g1, g2, g3, g4, _⟩ := cells5 G1.out
  have hto := toGraph_any u ta n cp TB TO A L C RB RO K X w1 hn1 HSm (HT.out.below HB1.out)
  go_wp2_with fail
  refine hto.mono ?_
  clear hto
  rintro e w2 ⟨⟨B2, rfl, _, w02, H2, _, hC2, hR2⟩, hb2⟩
  have HT2 : Hid (TabsAt w2 (some ⟨B2, 0, none⟩) n B2 0 (fun r => some ⟨H2 r, 0, none⟩) L L H2 (fun _ => 0) K X) := hC2.tabs hR2
  have G2 : Hid (w2.heap[w.heap.size]? = some (.cells #[.int .i64 u.k, .int .i64 u.n, .string u.s, .int .i64 u.a, .slice ta n cp] 26 (0, 0))) := blk_below G1.out hb2
  have HB2 : Hid (Below w.heap.size w w2) := grw HB1.out hb2
  clear hb2 G1 HB1 hC2 hR2 g0 g1 g2 g3 g4
  have hsp := HSP.out (some ⟨B2, 0, none⟩) n B2 0 _ _ _ _ w2 HT2.out
  go_wp2_with fail
  refine hsp.mono ?_
  clear hsp HSP
  rintro e w3 ⟨⟨ta3, tc3, PV3, bs3, _, rfl, hO3⟩, hb3⟩
  obtain ⟨w4, hw4⟩ : ∃ w4, w4 = w3.alloc (.cells #[.int .i64 U.k, .int .i64 U.n, .string U.s, .int .i64 U.a, .slice ta3 N tc3] 32) := ⟨_, rfl⟩
  have HB34 : Hid (Below w3.heap.size w3 w4) := by rw [hw4]; exact (Below.refl _ _).alloc (Nat.le_refl _) _
  have W4 : Hid (w4.heap[w3.heap.size]? = some (.cells #[.int .i64 U.k, .int .i64 U.n, .string U.s, .int .i64 U.a, .slice ta3 N tc3] 32 (0, 0))) := by rw [hw4]; exact heap_alloc_new _ _
  have O4 : Hid (OTab w4 bs3 (.slice ta3 N tc3) N PV3 L' K' X') := hO3.below HB34.out
  have G4 : Hid (w4.heap[w.heap.size]? = some (.cells #[.int .i64 u.k, .int .i64 u.n, .string u.s, .int .i64 u.a, .slice ta n cp] 26 (0, 0))) := blk_below (blk_below G2.out hb3) HB34.out
  have HBw4 : Hid (Below w.heap.size w w4) := grw (grw HB2.out hb3) HB34.out
  have hs4 : Hid (w4.heap.size = w3.heap.size + 1) := by rw [hw4]; exact (by simp : (w3.alloc _).heap.size = w3.heap.size + 1)
  obtain ⟨b4, hb4⟩ : ∃ b4, w3.heap.size = b4 := ⟨_, rfl⟩
  rw [hb4] at W4 hs4
  obtain ⟨g0, g1, g2, g3, g4, _⟩ := cells5 G4.out
  rw [hw4] at g0 g1 g2 g3 g4
  have hto := toGraph_any u ta n cp TB TO A L C RB RO K X w4 hn1 HSm (HT.out.below HBw4.out)
  clear hb3 HB34 hO3 HT2 G2 HB2
  go_wp2_with fail
  rw [← hw4]
  refine hto.mono ?_
  clear hto hw4 hb4 g0 g1 g2 g3 g4
  rintro e w5 ⟨⟨B5, rfl, hB5, w05, H5, hw05, hC5, hR5⟩, hb5⟩
  obtain ⟨w6, hw6⟩ : ∃ w6, w6 = w5.alloc (.cells #[.int .i64 u.k, .int .i64 u.n, .string u.s, .int .i64 u.a, .slice (some ⟨B5, 0, none⟩) n n] 32) := ⟨_, rfl⟩
  have HB56 : Hid (Below w5.heap.size w5 w6) := by rw [hw6]; exact (Below.refl _ _).alloc (Nat.le_refl _) _
  have X6 : Hid (w6.heap[w5.heap.size]? = some (.cells #[.int .i64 u.k, .int .i64 u.n, .string u.s, .int .i64 u.a, .slice (some ⟨B5, 0, none⟩) n n] 32 (0, 0))) := by rw [hw6]; exact heap_alloc_new _ _
  have C6 : Hid (Copied w05 w6 n H5 L K X) := hC5.below HB56.out
  have R6 : Hid (w6.rowIs B5 61 n (fun i => .slice (some ⟨H5 i, 0, none⟩) (L i) (L i))) := hR5.of_block (HB56.out.block _ hR5.lt)
  have HB46 : Hid (Below w4.heap.size w4 w6) := grw hb5 HB56.out
  have hs46 : w4.heap.size ≤ w6.heap.size := HB46.out.size
  have HNew : Hid (∀ j, j < n → w4.heap.size < H5 j ∧ H5 j < w6.heap.size) := show ∀ j, _ from fun j hj => by have := C6.out.new j hj; omega
  obtain ⟨b6, hb6⟩ : ∃ b6, w5.heap.size = b6 := ⟨_, rfl⟩
  rw [hb6] at X6
  have him := HIM.out (some ⟨B5, 0, none⟩) n B5 0 _ _ _ _ w6 (C6.out.tabs R6.out)
  clear hb5 hC5 hR5 HB56
  go_wp2_with fail
  rw [← hw6]
  refine him.mono ?_
  clear him hw6 hb6
  rintro e w7 ⟨⟨ta7, tc7, PV7, bs7, hbs7, rfl, hO7⟩, hb7⟩
  obtain ⟨w8, hw8⟩ : ∃ w8, w8 = w7.alloc (.cells #[.int .i64 U.k, .int .i64 U.n, .string U.s, .int .i64 U.a, .slice ta7 N tc7] 32) := ⟨_, rfl⟩
  have HB78 : Hid (Below w7.heap.size w7 w8) := by rw [hw8]; exact (Below.refl _ _).alloc (Nat.le_refl _) _
  have Y8 : Hid (w8.heap[w7.heap.size]? = some (.cells #[.int .i64 U.k, .int .i64 U.n, .string U.s, .int .i64 U.a, .slice ta7 N tc7] 32 (0, 0))) := by rw [hw8]; exact heap_alloc_new _ _
  have HB68 : Hid (Below w6.heap.size w6 w8) := grw hb7 HB78.out
  have O8 : Hid (OTab w8 bs7 (.slice ta7 N tc7) N PV7 L' K' X') := hO7.below HB78.out
  have X8 : Hid (w8.heap[b6]? = some (.cells #[.int .i64 u.k, .int .i64 u.n, .string u.s, .int .i64 u.a, .slice (some ⟨B5, 0, none⟩) n n] 32 (0, 0))) := blk_below X6.out HB68.out
  have C8 : Hid (Copied w05 w8 n H5 L K X) := C6.out.below HB68.out
  have R8 : Hid (w8.rowIs B5 61 n (fun i => .slice (some ⟨H5 i, 0, none⟩) (L i) (L i))) := R6.out.of_block (HB68.out.block _ R6.out.lt)
  have HB48 : Hid (Below w4.heap.size w4 w8) := grw HB46.out HB68.out
  have hs67 : w6.heap.size ≤ w7.heap.size := hb7.size
  have hbx6 : b6 < w6.heap.size := blk_lt X6.out
  obtain ⟨b8, hb8⟩ : ∃ b8, w7.heap.size = b8 := ⟨_, rfl⟩
  rw [hb8] at Y8 hs67
  obtain ⟨y0, y1, y2, y3, y4, _⟩ := cells5 Y8.out
  obtain ⟨v0, v1, v2, v3, v4, _⟩ := cells5 (blk_below W4.out HB48.out)
  rw [hw8] at y0 y1 y2 y3 y4 v0 v1 v2 v3 v4
  have heq := eqGraph_same U ta7 ta3 N tc7 tc3 _ _ _ _ _ _ L' _ _ _ _ _ _ K' X' w8 HN HSN O8.out.tabs.2 (O4.out.below HB48.out).tabs.2
  have hlt4 : b4 < w7.heap.size := by have := HB46.out.size; have := hb7.size; have := hs4.out; omega
  clear hb7 HB78 hO7 C6 R6 X6 HB46 HB68
  go_wp2_with fail
  rw [← hw8]
  refine heq.mono ?_
  clear heq hw8 y0 y1 y2 y3 y4 v0 v1 v2 v3 v4 hlt4 hb8
  rintro e w9 ⟨rfl, hb9⟩
  have O9 : Hid (OTab w9 bs7 (.slice ta7 N tc7) N PV7 L' K' X') := O8.out.below hb9
  have Y9 : Hid (w9.heap[b8]? = some (.cells #[.int .i64 U.k, .int .i64 U.n, .string U.s, .int .i64 U.a, .slice ta7 N tc7] 32 (0, 0))) := blk_below Y8.out hb9
  have X9 : Hid (w9.heap[b6]? = some (.cells #[.int .i64 u.k, .int .i64 u.n, .string u.s, .int .i64 u.a, .slice (some ⟨B5, 0, none⟩) n n] 32 (0, 0))) := blk_below X8.out hb9
  have C9 : Hid (Copied w05 w9 n H5 L K X) := C8.out.below hb9
  have R9 : Hid (w9.rowIs B5 61 n (fun i => .slice (some ⟨H5 i, 0, none⟩) (L i) (L i))) := R8.out.of_block (hb9.block _ R8.out.lt)
  have HB49 : Hid (Below w4.heap.size w4 w9) := grw HB48.out hb9
  have HBw9 : Hid (Below w.heap.size w w9) := grw HBw4.out HB49.out
  clear hb9 O8 Y8 X8 C8 R8 HB48
  have HT9 : Hid (TabsAt w9 (some ⟨B5, 0, none⟩) n B5 0 (fun r => some ⟨H5 r, 0, none⟩) L L H5 (fun _ => 0) K X) := C9.out.tabs R9.out
  obtain ⟨g0, g1, g2, g3, g4, _⟩ := cells5 (blk_below G4.out HB49.out)
  obtain ⟨x0, x1, x2, x3, x4, _⟩ := cells5 X9.out
  have hto := toGraph_any u ta n cp TB TO A L C RB RO K X w9.drew hn1 HSm (HT.out.below HBw9.out.drew)
  go_wp2
  go_region_held3 (fun w' => (w'.cell? ⟨b6, 0, none⟩ = some (.int .i64 u.k) ∧ w'.cell? ⟨b6, 1, none⟩ = some (.int .i64 u.n) ∧ w'.cell? ⟨b6, 2, none⟩ = some (.string u.s) ∧ w'.cell? ⟨b6, 3, none⟩ = some (.int .i64 u.a) ∧ w'.cell? ⟨b6, 4, none⟩ = some (.slice (some ⟨B5, 0, none⟩) n n)) ∧ (w'.cell? ⟨w.heap.size, 0, none⟩ = some (.int .i64 u.k) ∧ w'.cell? ⟨w.heap.size, 1, none⟩ = some (.int .i64 u.n) ∧ w'.cell? ⟨w.heap.size, 2, none⟩ = some (.string u.s) ∧ w'.cell? ⟨w.heap.size, 3, none⟩ = some (.int .i64 u.a) ∧ w'.cell? ⟨w.heap.size, 4, none⟩ = some (.slice ta n cp)) ∧ Hid (Below w.heap.size w w'))
    (first | exact keep55 ‹_ ∧ _› hbD | exact keep55 ‹_ ∧ _› hbC | exact ⟨⟨x0, x1, x2, x3, x4⟩, ⟨g0, g1, g2, g3, g4⟩, HBw9.out.drew⟩)
    (first
      | (go_at_call 13; refine hto.mono ?_; rintro e wC ⟨⟨BC, rfl, _, w0C, HC, _, hCC, hRC⟩, hbC⟩)
      | (go_at_call 15; refine (eqGraph_same u (some ⟨B5, 0, none⟩) (some ⟨BC, 0, none⟩) n n n B5 0 BC 0 _ _ L _ _ _ _ _ _ K X _ hn1 HSm ((HT9.out.below ((Below.refl _ _).drew)).below hbC) (hCC.tabs hRC)).mono ?_; rintro e wD ⟨rfl, hbD⟩))
  rename_i hS
  clear hS hCC hRC g0 g1 g2 g3 g4 x0 x1 x2 x3 x4 hto HT9
  have hb9D : Below w9.heap.size w9 wD := (((Below.refl _ _).drew (w := w9)).trans (show Below w9.heap.size w9.drew wC from hbC)).trans (hbD.mono hbC.size)
  have OD : Hid (OTab wD bs7 (.slice ta7 N tc7) N PV7 L' K' X') := O9.out.below hb9D
  have YD : Hid (wD.heap[b8]? = some (.cells #[.int .i64 U.k, .int .i64 U.n, .string U.s, .int .i64 U.a, .slice ta7 N tc7] 32 (0, 0))) := blk_below Y9.out hb9D
  have XD : Hid (wD.heap[b6]? = some (.cells #[.int .i64 u.k, .int .i64 u.n, .string u.s, .int .i64 u.a, .slice (some ⟨B5, 0, none⟩) n n] 32 (0, 0))) := blk_below X9.out hb9D
  have CD : Hid (Copied w05 wD n H5 L K X) := C9.out.below hb9D
  have RD : Hid (wD.rowIs B5 61 n (fun i => .slice (some ⟨H5 i, 0, none⟩) (L i) (L i))) := R9.out.of_block (hb9D.block _ R9.out.lt)
  have HB4D : Hid (Below w4.heap.size w4 wD) := grw HB49.out hb9D
  clear hb9D hbC hbD O9 Y9 X9 C9 R9 HB49 HBw9
  obtain ⟨f5, hM5⟩ := CD.out.marks hw05 RD.out
  have hmk := markGraph_any u (some ⟨B5, 0, none⟩) n n B5 1 _ L _ _ _ _ wD hn1 HLn (by omega) (by omega) hM5
  obtain ⟨kx, hkx⟩ : ∃ kx, koff 1 L n = kx := ⟨_, rfl⟩
  rw [hkx] at hmk
  obtain ⟨x0, x1, x2, x3, x4, _⟩ := cells5 XD.out
  clear hkx hM5
  go_wp2_with fail
  refine hmk.mono ?_
  clear hmk x0 x1 x2 x3 x4
  rintro e wE ⟨rfl, _, hoE⟩
  have OE : Hid (OTab wE bs7 (.slice ta7 N tc7) N PV7 L' K' X') := OD.out.only hoE (fun k hk ⟨j, hj, e, _⟩ => by have := (HNew.out j hj).2; omega)
  have YE : Hid (wE.heap[b8]? = some (.cells #[.int .i64 U.k, .int .i64 U.n, .string U.s, .int .i64 U.a, .slice ta7 N tc7] 32 (0, 0))) := (hoE.block _ (blk_lt YD.out) (fun ⟨j, hj, e, _⟩ => by have := (HNew.out j hj).2; omega)).trans YD.out
  have HB4E : Hid (Below w4.heap.size w4 wE) := HB4D.out.trans (hoE.toBelow (fun k ⟨j, hj, e, _⟩ => by have := (HNew.out j hj).1; omega) HB4D.out.size)
  clear hoE OD YD XD CD RD HB4D
  have hk0 : ¬ ((kx : Int) < 0) := by omega
  obtain ⟨y0, y1, y2, y3, y4, _⟩ := cells5 YE.out
  obtain ⟨v0, v1, v2, v3, v4, _⟩ := cells5 (blk_below W4.out HB4E.out)
  have heq := eqGraph_same U ta7 ta3 N tc7 tc3 _ _ _ _ _ _ L' _ _ _ _ _ _ K' X' wE HN HSN OE.out.tabs.2 (O4.out.below HB4E.out).tabs.2
  go_wp2_with fail
  refine heq.mono ?_
  clear heq y0 y1 y2 y3 y4 v0 v1 v2 v3 v4
  rintro e wF ⟨rfl, hbF⟩
  have OF : Hid (OTab wF bs7 (.slice ta7 N tc7) N PV7 L' K' X') := OE.out.below hbF
  have YF : Hid (wF.heap[b8]? = some (.cells #[.int .i64 U.k, .int .i64 U.n, .string U.s, .int .i64 U.a, .slice ta7 N tc7] 32 (0, 0))) := blk_below YE.out hbF
  have HB4F : Hid (Below w4.heap.size w4 wF) := grw HB4E.out hbF
  clear hbF OE YE HB4E
  obtain ⟨cp7, f7, hM7, hlow7⟩ := OF.out.marks
  have HM7 : Hid _ := hM7
  have HLO7 : Hid _ := hlow7
  have hmk := markGraph_any U ta7 N tc7 _ 1 _ L' _ _ _ _ wF HN HLN (by omega) (by omega) hM7
  obtain ⟨kq, hkq⟩ : ∃ kq, koff 1 L' N = kq := ⟨_, rfl⟩
  rw [hkq] at hmk
  obtain ⟨y0, y1, y2, y3, y4, _⟩ := cells5 YF.out
  clear hM7 hlow7
  have HKQ : Hid (koff 1 L' N = kq) := hkq
  clear hkq
  go_wp2_with fail
  refine hmk.mono ?_
  clear hmk y0 y1 y2 y3 y4
  rintro e wG ⟨rfl, hmG, hoG⟩
  have HHG : Hid _ := HM7.out.held hmG hoG
  have YG : Hid (wG.heap[b8]? = some (.cells #[.int .i64 U.k, .int .i64 U.n, .string U.s, .int .i64 U.a, .slice ta7 N tc7] 32 (0, 0))) := (hoG.block _ (blk_lt YF.out) (fun ⟨j, hj, e, h0⟩ => by
      obtain ⟨c, hc, _⟩ := HM7.out.row j hj h0
      rw [← e, YF.out] at hc
      cases hc)).trans YF.out
  have HB4G : Hid (Below w4.heap.size w4 wG) := HB4F.out.trans (hoG.toBelow (fun k ⟨j, hj, e, h0⟩ => by have := HLO7.out j hj h0; rw [e]; omega) HB4F.out.size)
  clear hmG hoG HM7 HLO7 YF OF HB4F
  have hq0 : ¬ ((kq : Int) < 0) := by omega
  have hqm : ((kq : Int) != (kq : Int)) = false := by simp
  have hhd := heldGraph_any U ta7 N tc7 _ 1 _ L' _ _ wG HN HLN (by omega) (by omega) HHG.out
  rw [HKQ.out] at hhd
  obtain ⟨y0, y1, y2, y3, y4, _⟩ := cells5 YG.out
  go_wp2_with fail
  refine hhd.mono ?_
  clear hhd y0 y1 y2 y3 y4
  rintro e wH ⟨rfl, hbH⟩
  have HHH : Hid _ := HHG.out.below hbH
  have YH : Hid (wH.heap[b8]? = some (.cells #[.int .i64 U.k, .int .i64 U.n, .string U.s, .int .i64 U.a, .slice ta7 N tc7] 32 (0, 0))) := blk_below YG.out hbH
  have HB4H : Hid (Below w4.heap.size w4 wH) := grw HB4G.out hbH
  clear hbH HHG YG HB4G
  have HBwH : Hid (Below w.heap.size w wH) := grw HBw4.out HB4H.out
  obtain ⟨g0, g1, g2, g3, g4, _⟩ := cells5 (blk_below G4.out HB4H.out)
  have hto := toGraph_any u ta n cp TB TO A L C RB RO K X wH hn1 HSm (HT.out.below HBwH.out)
  go_wp2_with fail
  refine hto.mono ?_
  clear hto g0 g1 g2 g3 g4
  rintro e wI ⟨⟨BI, rfl, _, w0I, HI, _, hCI, hRI⟩, hbI⟩
  have him := HIM.out (some ⟨BI, 0, none⟩) n BI 0 _ _ _ _ wI (hCI.tabs hRI)
  clear hCI hRI HIM
  go_wp2_with fail
  refine him.mono ?_
  clear him
  rintro e wJ ⟨⟨taJ, tcJ, PVJ, bsJ, _, rfl, hOJ⟩, hbJ⟩
  obtain ⟨wK, hwK⟩ : ∃ wK, wK = wJ.alloc (.cells #[.int .i64 U.k, .int .i64 U.n, .string U.s, .int .i64 U.a, .slice taJ N tcJ] 32) := ⟨_, rfl⟩
  have hbJK : Below wJ.heap.size wJ wK := by rw [hwK]; exact (Below.refl _ _).alloc (Nat.le_refl _) _
  have ZK : Hid (wK.heap[wJ.heap.size]? = some (.cells #[.int .i64 U.k, .int .i64 U.n, .string U.s, .int .i64 U.a, .slice taJ N tcJ] 32 (0, 0))) := by rw [hwK]; exact heap_alloc_new _ _
  have hbHK : Below wH.heap.size wH wK := grw (grw hbI hbJ) hbJK
  have OK' : Hid (OTab wK bsJ (.slice taJ N tcJ) N PVJ L' K' X') := hOJ.below hbJK
  have HHK : Hid _ := HHH.out.below hbHK
  have YK : Hid (wK.heap[b8]? = some (.cells #[.int .i64 U.k, .int .i64 U.n, .string U.s, .int .i64 U.a, .slice ta7 N tc7] 32 (0, 0))) := blk_below YH.out hbHK
  have HB4K : Hid (Below w4.heap.size w4 wK) := grw HB4H.out hbHK
  have hlt4 : b4 < wJ.heap.size := by have := HB4H.out.size; have := hbI.size; have := hbJ.size; have := hs4.out; omega
  obtain ⟨bk, hbk⟩ : ∃ bk, wJ.heap.size = bk := ⟨_, rfl⟩
  rw [hbk] at ZK
  obtain ⟨y0, y1, y2, y3, y4, _⟩ := cells5 ZK.out
  obtain ⟨v0, v1, v2, v3, v4, _⟩ := cells5 (blk_below W4.out HB4K.out)
  rw [hwK] at y0 y1 y2 y3 y4 v0 v1 v2 v3 v4
  have heq := eqGraph_same U taJ ta3 N tcJ tc3 _ _ _ _ _ _ L' _ _ _ _ _ _ K' X' wK HN HSN OK'.out.tabs.2 (O4.out.below HB4K.out).tabs.2
  clear hbI hbJ hOJ hbJK hbHK HHH YH HB4H HBwH
  go_wp2_with fail
  rw [← hwK]
  refine heq.mono ?_
  clear heq hwK y0 y1 y2 y3 y4 v0 v1 v2 v3 v4 hlt4 hbk
  rintro e wL ⟨rfl, hbL⟩
  have HHL : Hid _ := HHK.out.below hbL
  have YL : Hid (wL.heap[b8]? = some (.cells #[.int .i64 U.k, .int .i64 U.n, .string U.s, .int .i64 U.a, .slice ta7 N tc7] 32 (0, 0))) := blk_below YK.out hbL
  have HB4L : Hid (Below w4.heap.size w4 wL) := grw HB4K.out hbL
  clear hbL HHK YK HB4K OK' ZK
  have hhd := heldGraph_any U ta7 N tc7 _ 1 _ L' _ _ wL HN HLN (by omega) (by omega) HHL.out
  rw [HKQ.out] at hhd
  obtain ⟨y0, y1, y2, y3, y4, _⟩ := cells5 YL.out
  go_wp2_with fail
  refine hhd.mono ?_
  clear hhd y0 y1 y2 y3 y4
  rintro e wM ⟨rfl, hbM⟩
  have HBwM : Hid (Below w.heap.size w wM) := grw HBw4.out (grw HB4L.out hbM)
  clear hbM HHL YL HB4L
  go_wp2
  go_ret
  exact ⟨rfl, HBwM.out⟩

set_option maxRecDepth 100000 in
theorem canonLifted (os : Os) (started : os.Started) (H : Type) (enc : TypeId × Value → H) :
    ReturnsInHanded {} Try.checked os 5 .any (Rows.fnExactCanonSpec.pre6 enc Try.prog Try.f5 Rows.fnExactCanonRow.domain false) (Rows.fnExactCanonSpec.post enc Try.prog Try.f5 false true false false) := by
  refine returnsInHanded_of_change (C := Try.checked) ownG started (by kernel_rfl) Try.func5
    (ChangeSpec.witness6 (enc := enc) (C := Try.checked) false ⟨#[], #[.agg #[.int .i64 0, .int .i64 0, .string ⟨#[]⟩, .int .i64 0, .slice none 0 0]], []⟩ 8 (by kernel_rfl) (by kernel_rfl) (by kernel_rfl) (by kernel_rfl)) ?_
  intro W base args ds gs before hval0 hW hcnd _
  have hval : ∀ (j : Nat) t v, Try.f5.params[j]? = some t → args[j]? = some v → Value.okWide Try.prog W .any base t v := hval0
  have hW' := hW
  obtain ⟨p, q, hA0, hV, rfl, hfz, hnd⟩ := hW
  have hA : DataW.TrodAll enc Try.prog W 0 (fun _ => true) true Try.f5.params.toList args.toList ds p := hA0
  rw [Try.params5] at hA hval
  obtain ⟨v0, vs0, d0, ds0, p0, q0, hargs, rfl, rfl, h0, r0⟩ := trodAll_cons hA
  obtain ⟨rfl, rfl, rfl⟩ := trodAll_nil r0
  obtain rfl : args = #[v0] := by cases args; simp_all
  obtain ⟨rfl, rfl⟩ := trodVars_none hV
  have k0 := h0
  have lt0 : ∀ x ∈ p0, x.block < W.heap.size := by obtain ⟨m, hm⟩ := k0; exact DataW.trod_lt m _ _ _ hm
  obtain ⟨u, ta, n, cp, TB, TO, A, L, C, RB, RO, K, X, rfl, hu, hn, hT, hS⟩ := opens_graph (hval 0 26 v0 rfl rfl) h0
  clear hA0 hval0
  refine (canonLaw u ta n cp TB TO A L C RB RO K X W hu hn hS hT).mono fun e W' ⟨he, bel⟩ => ?_
  subst he
  exact ⟨_, rfl, _, _, _, [], _, [], hW', trodAll_mk1 (shut_bool Try.underlying4 _), (trodAll_cons_mk (Below.trod laidOutG (by kernel_rfl) (of_decide_eq_true (by kernel_rfl)) k0 bel lt0) trodAll_mk0), rfl, bel.frame _, fun h => by cases h⟩

theorem canon_holds : Rows.FnExactCanonSaid :=
  OpenClaim.holds_of_wide 5 Try.f5 rfl rfl rfl rfl rfl rfl rfl ⟨rfl, rfl, rfl, rfl, rfl⟩ rfl rfl rfl rfl rfl (by kernel_rfl) Try.func5 (by kernel_rfl)
    (of_decide_eq_true (by kernel_rfl)) (by unfold Func.isWrapper; first | (rw [if_pos (by decide +kernel)]; kernel_rfl) | (rw [if_neg (by decide +kernel)]; exact ⟨rfl, rfl⟩))
    (fun os started H enc _ => canonLifted os started H enc)
#print axioms canon_holds

end Go.Proofs.Ytcomcgjilhcimab

/-
  Tables that are the same: the widest relation, and the least number of each. No Go in sight.
-/
namespace Go.Proofs.Ytcomcgjilhcimab
open Vl

theorem eqV_iff {a b : V} : eqV a b = true ↔ a = b := by
  obtain ⟨k, n, s, t⟩ := a
  obtain ⟨k', n', s', t'⟩ := b
  simp only [eqV, Bool.and_eq_true, beq_iff_eq, V.mk.injEq]
  constructor
  · rintro ⟨h1, h2, h3, h4⟩
    refine ⟨h1, h2, ?_, h4⟩
    rw [ByteArray.toList_eq, ByteArray.toList_eq] at h3
    obtain ⟨⟨l⟩⟩ := s
    obtain ⟨⟨l'⟩⟩ := s'
    simp at h3
    subst h3
    rfl
  · rintro ⟨h1, h2, h3, h4⟩
    exact ⟨h1, h2, by rw [h3], h4⟩

/-- Two values look alike when tables of one class do. -/
def alike (cl : Nat → Nat) (a b : V) : Bool := a.k == b.k && (if a.k = 4 then cl a.a.toNat == cl b.a.toNat else eqV a b)
theorem alike_iff {cl : Nat → Nat} {a b : V} : alike cl a b = true ↔ a.k = b.k ∧ (a.k = 4 → cl a.a.toNat = cl b.a.toNat) ∧ (a.k ≠ 4 → a = b) := by
  unfold alike
  by_cases h : a.k = 4
  · simp [h]
  · simp [h, eqV_iff]
theorem alike_refl (cl : Nat → Nat) (a : V) : alike cl a a = true := alike_iff.2 ⟨rfl, fun _ => rfl, fun _ => rfl⟩
theorem alike_symm {cl : Nat → Nat} {a b : V} (h : alike cl a b = true) : alike cl b a = true := by
  rw [alike_iff] at h ⊢
  exact ⟨h.1.symm, fun e => (h.2.1 (by omega)).symm, fun e => (h.2.2 (by omega)).symm⟩
theorem alike_trans {cl : Nat → Nat} {a b c : V} (h : alike cl a b = true) (k : alike cl b c = true) : alike cl a c = true := by
  rw [alike_iff] at h k ⊢
  exact ⟨h.1.trans k.1, fun e => (h.2.1 e).trans (k.2.1 (by omega)), fun e => (h.2.2 e).trans (k.2.2 (by omega))⟩

/-- Two tables look alike. -/
structure Looks (L : Nat → Nat) (K X : Nat → Nat → V) (cl : Nat → Nat) (i j : Nat) : Prop where
  len : L i = L j
  all : ∀ c, c < L i → K i c = K j c ∧ alike cl (X i c) (X j c) = true
theorem Looks.refl (L : Nat → Nat) (K X : Nat → Nat → V) (cl : Nat → Nat) (i : Nat) : Looks L K X cl i i := ⟨rfl, fun _ _ => ⟨rfl, alike_refl _ _⟩⟩
theorem Looks.symm {L : Nat → Nat} {K X : Nat → Nat → V} {cl : Nat → Nat} {i j : Nat} (h : Looks L K X cl i j) : Looks L K X cl j i := ⟨h.len.symm, fun c hc => by
  have := h.all c (by rw [h.len]; exact hc)
  exact ⟨this.1.symm, alike_symm this.2⟩⟩
theorem Looks.trans {L : Nat → Nat} {K X : Nat → Nat → V} {cl : Nat → Nat} {i j k : Nat} (h : Looks L K X cl i j) (g : Looks L K X cl j k) : Looks L K X cl i k := ⟨h.len.trans g.len, fun c hc => by
  have h1 := h.all c hc
  have h2 := g.all c (by rw [← h.len]; exact hc)
  exact ⟨h1.1.trans h2.1, alike_trans h1.2 h2.2⟩⟩
theorem Looks.congr {L : Nat → Nat} {K X : Nat → Nat → V} {cl cl' : Nat → Nat} {n i j : Nat} (hg : Good n L X) (hi : i < n) (hj : j < n) (he : ∀ r, r < n → cl r = cl' r) (h : Looks L K X cl i j) : Looks L K X cl' i j := ⟨h.len, fun c hc => by
  obtain ⟨h1, h2⟩ := h.all c hc
  refine ⟨h1, ?_⟩
  rw [alike_iff] at h2 ⊢
  refine ⟨h2.1, fun e => ?_, h2.2.2⟩
  have a1 := isV_tab (hg i hi c hc) e
  have a2 := isV_tab (hg j hj c (by rw [← h.len]; exact hc)) (by omega)
  rw [← he _ (by omega), ← he _ (by omega)]
  exact h2.2.1 e⟩

/-- A relation that goes with what tables hold. -/
def Bis (n : Nat) (L : Nat → Nat) (K X : Nat → Nat → V) (R : Nat → Nat → Prop) : Prop := ∀ i j, R i j → i < n ∧ j < n ∧ L i = L j ∧ ∀ c, c < L i → K i c = K j c ∧ (X i c).k = (X j c).k ∧ ((X i c).k = 4 → R (X i c).a.toNat (X j c).a.toNat) ∧ ((X i c).k ≠ 4 → X i c = X j c)

/-- Classes that no relation is wider than, each told by its least table. -/
structure IsCls (n : Nat) (L : Nat → Nat) (K X : Nat → Nat → V) (f : Nat → Nat) : Prop where
  low : ∀ i, i < n → f i ≤ i
  idem : ∀ i, i < n → f (f i) = f i
  bis : ∀ i j, i < n → j < n → f i = f j → Looks L K X f i j
  wide : ∀ R, Bis n L K X R → ∀ i j, R i j → f i = f j

theorem IsCls.rel {n : Nat} {L : Nat → Nat} {K X : Nat → Nat → V} {f : Nat → Nat} (hg : Good n L X) (h : IsCls n L K X f) : Bis n L K X (fun i j => i < n ∧ j < n ∧ f i = f j) := by
  rintro i j ⟨hi, hj, e⟩
  have hl := h.bis i j hi hj e
  refine ⟨hi, hj, hl.len, fun c hc => ?_⟩
  obtain ⟨h1, h2⟩ := hl.all c hc
  rw [alike_iff] at h2
  refine ⟨h1, h2.1, fun e4 => ?_, h2.2.2⟩
  have a1 := isV_tab (hg i hi c hc) e4
  have a2 := isV_tab (hg j hj c (by rw [← hl.len]; exact hc)) (by omega)
  exact ⟨by omega, by omega, h2.2.1 e4⟩

theorem IsCls.le {n : Nat} {L : Nat → Nat} {K X : Nat → Nat → V} {f g : Nat → Nat} (hg : Good n L X) (hf : IsCls n L K X f) (h : IsCls n L K X g) {i : Nat} (hi : i < n) : g i ≤ f i := by
  have h1 := hf.low i hi
  have h2 : g (f i) = g i := h.wide _ (hf.rel hg) (f i) i ⟨by omega, hi, hf.idem i hi⟩
  have h3 := h.low (f i) (by omega)
  omega
theorem IsCls.uniq {n : Nat} {L : Nat → Nat} {K X : Nat → Nat → V} {f g : Nat → Nat} (hg : Good n L X) (hf : IsCls n L K X f) (h : IsCls n L K X g) {i : Nat} (hi : i < n) : f i = g i :=
  Nat.le_antisymm (h.le hg hf hi) (hf.le hg h hi)

/-- What holds of classes on the way. -/
structure OnWay (n : Nat) (L : Nat → Nat) (K X : Nat → Nat → V) (cl : Nat → Nat) : Prop where
  low : ∀ i, i < n → cl i ≤ i
  idem : ∀ i, i < n → cl (cl i) = cl i
  wide : ∀ R, Bis n L K X R → ∀ i j, R i j → cl i = cl j

theorem OnWay.congr {n : Nat} {L : Nat → Nat} {K X : Nat → Nat → V} {cl cl' : Nat → Nat} (h : OnWay n L K X cl) (he : ∀ i, i < n → cl i = cl' i) : OnWay n L K X cl' :=
  ⟨fun i hi => by rw [← he i hi]; exact h.low i hi, fun i hi => by have := h.low i hi; rw [← he i hi, ← he _ (by omega)]; exact h.idem i hi,
   fun R hR i j hr => by obtain ⟨h1, h2, _⟩ := hR i j hr; rw [← he i h1, ← he j h2]; exact h.wide R hR i j hr⟩
theorem IsCls.congr {n : Nat} {L : Nat → Nat} {K X : Nat → Nat → V} {cl cl' : Nat → Nat} (hg : Good n L X) (h : IsCls n L K X cl) (he : ∀ i, i < n → cl i = cl' i) : IsCls n L K X cl' := by
  have o := OnWay.congr ⟨h.low, h.idem, h.wide⟩ he
  exact ⟨o.low, o.idem, fun i j hi hj e => (h.bis i j hi hj (by rw [he i hi, he j hj]; exact e)).congr hg hi hj he, o.wide⟩

/-- One round: the least that was alike and looks alike. -/
structure Round (n : Nat) (L : Nat → Nat) (K X : Nat → Nat → V) (cl nx : Nat → Nat) : Prop where
  low : ∀ i, i < n → nx i ≤ i
  hit : ∀ i, i < n → cl (nx i) = cl i ∧ Looks L K X cl (nx i) i
  least : ∀ i, i < n → ∀ k, k < nx i → ¬ (cl k = cl i ∧ Looks L K X cl k i)

theorem Round.eq {n : Nat} {L : Nat → Nat} {K X : Nat → Nat → V} {cl nx : Nat → Nat} (h : Round n L K X cl nx) {i j : Nat} (hi : i < n) (hj : j < n) : nx i = nx j ↔ cl i = cl j ∧ Looks L K X cl i j := by
  obtain ⟨a1, a2⟩ := h.hit i hi
  obtain ⟨b1, b2⟩ := h.hit j hj
  constructor
  · intro e
    rw [e] at a1 a2
    exact ⟨a1.symm.trans b1, a2.symm.trans b2⟩
  · rintro ⟨e, hl⟩
    rcases Nat.lt_trichotomy (nx i) (nx j) with h' | h' | h'
    · exact absurd ⟨a1.trans e, a2.trans hl⟩ (h.least j hj _ h')
    · exact h'
    · exact absurd ⟨b1.trans e.symm, b2.trans hl.symm⟩ (h.least i hi _ h')
theorem Round.idem {n : Nat} {L : Nat → Nat} {K X : Nat → Nat → V} {cl nx : Nat → Nat} (h : Round n L K X cl nx) {i : Nat} (hi : i < n) : nx (nx i) = nx i := by
  have := h.low i hi
  exact (h.eq (by omega) hi).2 (h.hit i hi)

theorem Round.next {n : Nat} {L : Nat → Nat} {K X : Nat → Nat → V} {cl nx : Nat → Nat} (h : Round n L K X cl nx) (ho : OnWay n L K X cl) : OnWay n L K X nx := by
  refine ⟨h.low, fun i hi => h.idem hi, fun R hR i j hr => ?_⟩
  obtain ⟨h1, h2, h3, h4⟩ := hR i j hr
  refine (h.eq h1 h2).2 ⟨ho.wide R hR i j hr, h3, fun c hc => ?_⟩
  obtain ⟨k1, k2, k3, k4⟩ := h4 c hc
  exact ⟨k1, alike_iff.2 ⟨k2, fun e => ho.wide R hR _ _ (k3 e), k4⟩⟩

/-- Nothing has turned: these are the classes. -/
theorem Round.done {n : Nat} {L : Nat → Nat} {K X : Nat → Nat → V} {cl nx : Nat → Nat} (h : Round n L K X cl nx) (ho : OnWay n L K X cl) (he : ∀ i, i < n → nx i = cl i) : IsCls n L K X cl :=
  ⟨ho.low, ho.idem, fun i j hi hj e => ((h.eq hi hj).1 (by rw [he i hi, he j hj]; exact e)).2, ho.wide⟩

/-- How many tables tell a class. -/
def reps (n : Nat) (cl : Nat → Nat) : Nat := ((List.range n).filter fun i => cl i == i).length
theorem reps_le (n : Nat) (cl : Nat → Nat) : reps n cl ≤ n := by
  have := List.length_filter_le (fun i => cl i == i) (List.range n)
  simpa [reps] using this
theorem reps_mono (cl nx : Nat → Nat) : ∀ n, (∀ i, i < n → cl i = i → nx i = i) → reps n cl ≤ reps n nx ∧ ∀ i, i < n → cl i ≠ i → nx i = i → reps n cl < reps n nx
  | 0, _ => ⟨Nat.le_refl _, fun i hi => by omega⟩
  | n + 1, h => by
    obtain ⟨h1, h2⟩ := reps_mono cl nx n (fun i hi => h i (by omega))
    have e : ∀ f : Nat → Nat, reps (n + 1) f = reps n f + if f n = n then 1 else 0 := fun f => by
      unfold reps
      rw [List.range_succ, List.filter_append, List.length_append]
      by_cases hf : f n = n <;> simp [hf]
    rw [e, e]
    have hn := h n (by omega)
    refine ⟨?_, fun i hi k1 k2 => ?_⟩
    · by_cases hc : cl n = n
      · rw [if_pos hc, if_pos (hn hc)]; omega
      · rw [if_neg hc]; omega
    · by_cases ei : i = n
      · subst ei
        rw [if_neg k1, if_pos k2]
        omega
      · have := h2 i (by omega) k1 k2
        by_cases hc : cl n = n
        · rw [if_pos hc, if_pos (hn hc)]; omega
        · rw [if_neg hc]; omega

theorem Round.more {n : Nat} {L : Nat → Nat} {K X : Nat → Nat → V} {cl nx : Nat → Nat} (h : Round n L K X cl nx) (ho : OnWay n L K X cl) {i : Nat} (hi : i < n) (hne : nx i ≠ cl i) : reps n cl < reps n nx := by
  have keep : ∀ i, i < n → cl i = i → nx i = i := fun i hi e => by
    have h1 := h.low i hi
    have h2 := (h.hit i hi).1
    have h3 := ho.low (nx i) (by omega)
    omega
  have h1 := h.low i hi
  refine (reps_mono cl nx n keep).2 (nx i) (by omega) (fun e => hne ?_) (h.idem hi)
  have := (h.hit i hi).1
  omega

end Go.Proofs.Ytcomcgjilhcimab

/-
  Keys in their order. No Go in sight.
-/
namespace Go.Proofs.Ytcomcgjilhcimab
open Go Vl

theorem bl_trans : ∀ x y z : List UInt8, Op.bytesLess x y = true → Op.bytesLess y z = true → Op.bytesLess x z = true
  | [], [], _, h, _ => by simp [Op.bytesLess] at h
  | [], _ :: _, [], _, h => by simp [Op.bytesLess] at h
  | [], _ :: _, _ :: _, _, _ => by simp [Op.bytesLess]
  | _ :: _, [], _, h, _ => by simp [Op.bytesLess] at h
  | _ :: _, _ :: _, [], _, h => by simp [Op.bytesLess] at h
  | a :: x, b :: y, c :: z, h, k => by
    simp only [Op.bytesLess, Bool.or_eq_true, decide_eq_true_eq, Bool.and_eq_true, beq_iff_eq] at h k ⊢
    rcases h with h | ⟨rfl, h⟩
    · rcases k with k | ⟨rfl, _⟩
      · exact Or.inl (UInt8.lt_trans h k)
      · exact Or.inl h
    · rcases k with k | ⟨rfl, k⟩
      · exact Or.inl k
      · exact Or.inr ⟨rfl, bl_trans x y z h k⟩
theorem bl_ntrans {x y z : List UInt8} (h : Op.bytesLess x y = false) (k : Op.bytesLess y z = false) : Op.bytesLess x z = false := by
  cases hz : Op.bytesLess x z
  · rfl
  · exfalso
    have ht := bl_total x y
    rw [h] at ht
    by_cases e : x = y
    · subst e; rw [hz] at k; cases k
    · have : (x == y) = false := by simpa using e
      rw [this] at ht
      have hyx : Op.bytesLess y x = true := by rw [← ht]; rfl
      have := bl_trans y x z hyx hz
      rw [this] at k
      cases k

theorem le_trans {a b c : V} (h : less b a = false) (k : less c b = false) : less c a = false := by
  unfold less at *
  by_cases h1 : b.k = a.k
  · rw [if_pos h1] at h
    by_cases h2 : c.k = b.k
    · rw [if_pos h2] at k
      rw [if_pos (h2.trans h1)]
      by_cases h3 : b.k = 3
      · rw [if_pos h3] at h
        rw [if_pos (by omega)] at k ⊢
        exact bl_ntrans k h
      · rw [if_neg h3] at h
        rw [if_neg (by omega)] at k ⊢
        simp at h k ⊢
        omega
    · rw [if_neg h2] at k
      rw [if_neg (by omega)]
      simp at k ⊢
      omega
  · rw [if_neg h1] at h
    by_cases h2 : c.k = b.k
    · rw [if_neg (by omega)]
      simp at h ⊢
      omega
    · rw [if_neg h2] at k
      simp at h k
      by_cases h3 : c.k = a.k
      · omega
      · rw [if_neg h3]
        simp
        omega

/-- Two keys, neither of which comes ahead, are one. -/
theorem key_one {a b : V} (ha : isK a = true) (hb : isK b = true) (h : less a b = false) (k : less b a = false) : a = b := by
  have hk : ko a b = 0 := by unfold ko; simp [ha, hb, h, k]
  have h2 : ko a b ≠ 2 := by omega
  have := ko_zero h2
  rw [hk] at this
  exact eqV_iff.1 (by rw [← this]; rfl)

/-- Places in the order of their keys. -/
def SortW (K : Nat → V) (ls : List Nat) : Prop := ls.Pairwise fun a b => less (K b) (K a) = false

theorem SortW.ins {K : Nat → V} {A B : List Nat} {x : Nat} (h : SortW K (A ++ B)) (hB : ∀ y ∈ B, less (K x) (K y) = true) (hA : ∀ y, A.getLast? = some y → less (K x) (K y) = false) : SortW K (A ++ x :: B) := by
  obtain ⟨h1, h2, h3⟩ := List.pairwise_append.1 h
  refine List.pairwise_append.2 ⟨h1, List.pairwise_cons.2 ⟨fun y hy => less_asymm (hB y hy), h2⟩, fun a ha b hb => ?_⟩
  rcases List.mem_cons.1 hb with rfl | hb
  · obtain ⟨A', y, rfl⟩ : ∃ A' y, A = A' ++ [y] := by
      rcases List.eq_nil_or_concat A with rfl | ⟨A', y, rfl⟩
      · cases ha
      · exact ⟨A', y, by simp⟩
    have hl := hA y (by simp)
    rcases List.mem_append.1 ha with ha' | ha'
    · exact le_trans ((List.pairwise_append.1 h1).2.2 a ha' y (by simp)) hl
    · simp at ha'; subst ha'; exact hl
  · exact h3 a ha b hb

/-- Sorted places of keys that are each once are one row. -/
theorem sort_one {K : Nat → V} : ∀ {ls ms : List Nat}, (∀ a ∈ ls, ∀ b ∈ ls, less (K a) (K b) = false → less (K b) (K a) = false → a = b) → ls.Perm ms → SortW K ls → SortW K ms → ls = ms
  | [], ms, _, hp, _, _ => by
    have := hp.length_eq
    cases ms with
    | nil => rfl
    | cons => simp at this
  | a :: ls, [], _, hp, _, _ => by have := hp.length_eq; simp at this
  | a :: ls, b :: ms, hd, hp, h1, h2 => by
    obtain ⟨p1, p2⟩ := List.pairwise_cons.1 h1
    obtain ⟨q1, q2⟩ := List.pairwise_cons.1 h2
    have e : a = b := by
      by_cases e : a = b
      · exact e
      · have ha : a ∈ ms := by
          have : a ∈ b :: ms := hp.subset (by simp)
          rcases List.mem_cons.1 this with h | h
          · exact absurd h e
          · exact h
        have hb : b ∈ ls := by
          have : b ∈ a :: ls := hp.symm.subset (by simp)
          rcases List.mem_cons.1 this with h | h
          · exact absurd h.symm e
          · exact h
        exact hd a (by simp) b (by simp [hb]) (q1 a ha) (p1 b hb)
    subst e
    rw [sort_one (fun x hx y hy => hd x (by simp [hx]) y (by simp [hy])) (List.Perm.cons_inv hp) p2 q2]

/-- The places of a table's pairs in the order of their keys. -/
structure SortI (K : Nat → V) (L : Nat) (ls : List Nat) : Prop where
  perm : ls.Perm (List.range L)
  sort : SortW K ls
theorem SortI.len {K : Nat → V} {L : Nat} {ls : List Nat} (h : SortI K L ls) : ls.length = L := by rw [h.perm.length_eq]; simp
theorem SortI.lt {K : Nat → V} {L : Nat} {ls : List Nat} (h : SortI K L ls) {i : Nat} (hi : i < L) : ls.getD i 0 < L := by
  rw [List.getD_eq_getElem?_getD, List.getElem?_eq_getElem (by rw [h.len]; exact hi)]
  exact List.mem_range.1 (h.perm.subset (List.getElem_mem _))
theorem SortI.one {n : Nat} {K X : Nat → V} {L : Nat} {ls ms : List Nat} (hk : OkT n L K X) (h : SortI K L ls) (k : SortI K L ms) : ls = ms := by
  refine sort_one (K := K) (fun a ha b hb h1 h2 => ?_) (h.perm.trans k.perm.symm) h.sort k.sort
  have la := List.mem_range.1 (h.perm.subset ha)
  have lb := List.mem_range.1 (h.perm.subset hb)
  have e := key_one (hk.all a la).key (hk.all b lb).key h1 h2
  rcases Nat.lt_trichotomy a b with h' | h' | h'
  · have := (hk.all b lb).once a h'
    rw [e] at this
    simp [eqV] at this
  · exact h'
  · have := (hk.all a la).once b h'
    rw [e] at this
    simp [eqV] at this

end Go.Proofs.Ytcomcgjilhcimab
