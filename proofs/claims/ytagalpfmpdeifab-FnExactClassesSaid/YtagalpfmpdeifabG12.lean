import Derived.Test.YtagalpfmpdeifabG11
import Derived.Deep.RegionHeld3
namespace Go.Proofs.Ytagalpfmpdeifab
open Go.RowKit Vl

set_option maxHeartbeats 1000000 in
set_option maxRecDepth 100000 in
/-- 'impl.Canon'. -/
theorem implCanon_any (u : V) (ta : Option Addr) (n cp TB TO : Nat) (A : Nat → Option Addr) (L C RB RO : Nat → Nat) (K X : Nat → Nat → V) (w : World) (hn : n ≤ 1048576) (HS : Hid (Small 1048576 n L K X)) (HT : Hid (TabsAt w ta n TB TO A L C RB RO K X)) :
    Calls Try.prog 21 #[.agg #[.int .i64 u.k, .int .i64 u.n, .string u.s, .int .i64 u.a, .slice ta n cp]] w fun e w' => CanonIs w w' e n u L K X ∧ Below w.heap.size w w' := by
  have A2 : Hid _ := alloc2 w (.cells #[.int .i64 u.k, .int .i64 u.n, .string u.s, .int .i64 u.a, .slice ta n cp] 32) (.cells #[.int .i64 0, .int .i64 0, .string ⟨#[]⟩, .int .i64 0, .slice none 0 0] 32)
  obtain ⟨w0, hw0⟩ : ∃ w0, w0 = (w.alloc (.cells #[.int .i64 u.k, .int .i64 u.n, .string u.s, .int .i64 u.a, .slice ta n cp] 32)).alloc (.cells #[.int .i64 0, .int .i64 0, .string ⟨#[]⟩, .int .i64 0, .slice none 0 0] 32) := ⟨_, rfl⟩
  have H0 : Hid (CanW w w0 u ta n cp) := by rw [hw0]; exact ⟨A2.out.1, A2.out.2.1, A2.out.2.2.2⟩
  have HS0 : Hid (w0.heap.size = w.heap.size + 2) := by rw [hw0]; exact A2.out.2.2.1
  clear A2
  have hlk := link_any u ta n cp TB TO A L C RB RO K X w0 hn HS (HT.out.below H0.out.bel)
  go_enter Try.func21, Try.ntmps21
  go_wp2_with fail
  rw [← hw0]
  refine hlk.mono ?_
  clear hlk hw0
  rintro e w1 ⟨hcase, hb1⟩
  have H1 : Hid (CanW w w1 u ta n cp) := H0.out.below hb1
  clear hb1 H0
  rcases hcase with ⟨hG, rfl, base, hH⟩ | ⟨hN, rfl⟩
  · have HG : Hid (OkG n u L K X) := hG
    have HH : Hid (Half w1 w0.heap.size n n base L K X) := hH
    obtain ⟨b, hb⟩ : ∃ b, w0.heap.size = b := ⟨_, rfl⟩
    rw [hb] at HH HS0 ⊢
    clear hG hH hb
    obtain ⟨xt, xy, hxv⟩ := ifv_form (tT b) u
    have HXV : Hid (ifv (tT b) u = .iface xt xy) := hxv
    rw [hxv]
    clear hxv
    obtain ⟨w2, hw2⟩ : ∃ w2, w2 = w1.alloc (.cells #[.iface xt xy, .slice (some ⟨b + 2, 0, none⟩) n n] 70) := ⟨_, rfl⟩
    have hb2 : Below w1.heap.size w1 w2 := by rw [hw2]; exact (Below.refl _ _).alloc (Nat.le_refl _) _
    have H2 : Hid (CanW w w2 u ta n cp) := H1.out.below hb2
    have HT2 : Hid (Tbs w2 n (tT b) (tM b) (fun j => (j : Nat)) L K X) := (HH.out.tbs HG.out).below hb2
    obtain ⟨S, HSo⟩ : ∃ S, Hid (order n u L X = S) := ⟨_, rfl⟩
    have hcan := canonical_any n (tT b) (tM b) _ L K X u w2 (by have := HG.out.len; omega) (show ∀ r, _ from fun r hr => (HG.out.all r hr).len) (good_of HG.out) HG.out.root HT2 S HSo
    rw [HXV.out] at hcan
    obtain ⟨ru, HRU⟩ : ∃ ru, Hid (renum S u = ru) := ⟨_, rfl⟩
    rw [HRU.out] at hcan
    clear HH H1 hb2
    go_wp2_with fail
    rw [← hw2]
    refine hcan.mono ?_
    clear hcan hw2
    rintro e w3 ⟨⟨tv, PV, bs, hbs, rfl, hO⟩, hL⟩
    have H3 : Hid (CanW w w3 u ta n cp) := H2.out.only hL (fun k ⟨j, hj, e⟩ => by have := HS0.out; rw [e]; unfold tT; omega)
    have HO : Hid (OTab w3 bs tv S.length PV (cL S L) (cK S K) (cX S X)) := hO
    have hs2 : w.heap.size + 1 < w2.heap.size := blk_lt H2.out.res
    clear hO hL H2 HT2
    obtain ⟨ta', tc', rfl, _⟩ := owns_form HO.out.own
    obtain ⟨r0, r1, r2, r3, r4, r5⟩ := cells5 H3.out.res
    simp only [zeroV] at r0 r1 r2 r3
    go_wp2
    have F := put5hi (put5lo H3.out.res (.int .i64 ru.k) (.int .i64 ru.n) (.string ru.s) (.int .i64 ru.a)) (.slice ta' S.length tc')
    obtain ⟨wf, hwf⟩ : ∃ wf, wf = ((((w3.setCell ⟨w.heap.size + 1, 0, none⟩ (.int .i64 ru.k)).setCell ⟨w.heap.size + 1, 1, none⟩ (.int .i64 ru.n)).setCell ⟨w.heap.size + 1, 2, none⟩ (.string ru.s)).setCell ⟨w.heap.size + 1, 3, none⟩ (.int .i64 ru.a)).setCell ⟨w.heap.size + 1, 4, none⟩ (.slice ta' S.length tc') := ⟨_, rfl⟩
    have ho : Only (fun k => k = w.heap.size + 1) w3 wf := by rw [hwf]; exact set4_only.set (p := ⟨w.heap.size + 1, 4, none⟩) rfl _
    rw [← hwf] at F ⊢
    clear hwf
    obtain ⟨q0, q1, q2, q3, q4, _⟩ := cells5 F
    refine bodyPost_ret (v := .agg #[.int .i64 ru.k, .int .i64 ru.n, .string ru.s, .int .i64 ru.a, .slice ta' S.length tc']) (by simp [results, Try.results21, go_sem, q0, q1, q2, q3, q4]) rfl ⟨Or.inl ⟨HG.out, ?_⟩, H3.out.bel.trans (ho.toBelow (fun k hk => by omega) (by have := H3.out.bel.size; omega))⟩
    rw [HSo.out, HRU.out]
    exact ⟨_, PV, bs, by omega, rfl, HO.out.only ho (fun k hk e => by omega)⟩
  · have HN : Hid (¬ OkG n u L K X) := hN
    clear hN
    have hb2 : Below w1.heap.size w1 (w1.alloc (.cells #[.nilIface, .slice none 0 0] 70)) := (Below.refl _ _).alloc (Nat.le_refl _) _
    have H2 : Hid (CanW w (w1.alloc (.cells #[.nilIface, .slice none 0 0] 70)) u ta n cp) := H1.out.below hb2
    obtain ⟨r0, r1, r2, r3, r4, r5⟩ := cells5 H2.out.res
    simp only [zeroV] at r0 r1 r2 r3
    obtain ⟨s0, s1, s2, s3, s4, s5⟩ := cells5 H1.out.res
    simp only [zeroV] at s0 s1 s2 s3
    have hlt : w.heap.size + 1 < w1.heap.size := blk_lt H1.out.res
    go_wp2
    have F := put5hi (put5lo H1.out.res (.int .i64 0) (.int .i64 0) (.string ⟨#[]⟩) (.int .i64 0)) (.slice none 0 0)
    obtain ⟨q0, q1, q2, q3, q4, _⟩ := cells5 (blkB F ((Below.refl _ _).alloc (Nat.le_refl _) (.cells #[.nilIface, .slice none 0 0] 70)))
    refine bodyPost_ret (v := .agg #[.int .i64 0, .int .i64 0, .string ⟨#[]⟩, .int .i64 0, .slice none 0 0]) (by simp [results, Try.results21, go_sem, q0, q1, q2, q3, q4]) rfl ⟨Or.inr ⟨HN.out, rfl⟩, ?_⟩
    have hfin := (H1.out.bel.trans (set4_below (B := w.heap.size + 1) (i := 0) (j := 1) (k := 2) (l := 3) (a' := .int .i64 0) (b' := .int .i64 0) (c' := .string ⟨#[]⟩) (d' := .int .i64 0) |>.mono (show w.heap.size ≤ w.heap.size + 1 by omega))).setCell (p := ⟨w.heap.size + 1, 4, none⟩) (by show w.heap.size ≤ w.heap.size + 1; omega) (.slice none 0 0)
    exact hfin.alloc hfin.size _

end Go.Proofs.Ytagalpfmpdeifab

namespace Go.Proofs.Ytagalpfmpdeifab
open Go.RowKit Vl

/-- The digits of k ahead of out. -/
def digs (k : Nat) (out : ByteArray) : ByteArray := if k = 0 then out else digs (k / 10) (strOfNums [48 + (k : Int) % 10] ++ out)
termination_by k
decreasing_by omega
theorem digs_zero (out : ByteArray) : digs 0 out = out := by rw [digs]; simp
theorem digs_pos {k : Nat} (h : ¬ k = 0) (out : ByteArray) : digs k out = digs (k / 10) (strOfNums [48 + (k : Int) % 10] ++ out) := by rw [digs]; simp [h]
/-- The text of a mark. -/
def markT (k : Nat) : ByteArray := ⟨#[109]⟩ ++ digs k ⟨#[]⟩

set_option maxHeartbeats 1000000 in
set_option maxRecDepth 100000 in
/-- 'markText'. -/
theorem markText_any (k : Nat) (w : World) (hk0 : 0 < k) (hk1 : k ≤ 1125899906842624) :
    Calls Try.prog 74 #[.int .i64 k] w fun e w' => e = .returned (.string (markT k)) ∧ Below w.heap.size w w' := by
  have hk : ¬ ((k : Int) ≤ 0) := by omega
  go_enter Try.func74, Try.ntmps74
  go_wp2
  go_loopw [0, 3] (fun kk oo wr => ∃ (j : Nat) (out : ByteArray), j ≤ k ∧ kk = .int .i64 j ∧ oo = .string out ∧ digs j out = digs k ⟨#[]⟩ ∧ out.size + j ≤ k ∧ Hid (Below w.heap.size w wr)) (fun kk _ _ => (intOf kk).toNat)
  case atStart => exact ⟨k, ⟨#[]⟩, Nat.le_refl _, rfl, rfl, rfl, by simp [ByteArray.size], Below.refl _ _⟩
  case round =>
    obtain ⟨j, out, hj, rfl, rfl, hd, hos, HW⟩ := hrel
    by_cases h0 : j = 0
    · subst h0
      rw [digs_zero] at hd
      have HD : Hid (out = digs k ⟨#[]⟩) := hd
      clear hd
      obtain rfl := HD.out
      go_wp2
      refine bodyPost_ret (v := .string (markT k)) (by simp [results, Try.results74, go_sem, markT]) rfl ⟨rfl, HW.out⟩
    · have hpos : (0 : Int) < (j : Int) := by omega
      have HD : Hid (digs (j / 10) (strOfNums [48 + (j : Int) % 10] ++ out) = digs k ⟨#[]⟩) := by rw [← hd, digs_pos h0]; exact rfl
      clear hd
      have hcv := run_convert_bytes_arg (P := Try.prog) (wr.alloc (.cells #[.int .u8 (48 + (j : Int) % 10)] 5)) 167 5 Try.underlying167 Try.underlying5 wr.heap.size 0 1 1 [48 + (j : Int) % 10] rfl (fun i hi => by
        obtain rfl : i = 0 := by omega
        rw [Nat.zero_add]
        exact (one_at (heap_alloc_new wr (.cells #[.int .u8 (48 + (j : Int) % 10)] 5))).1) 9 Try.underlying9
      obtain ⟨dg, hdg⟩ : ∃ dg, strOfNums [48 + (j : Int) % 10] = dg := ⟨_, rfl⟩
      have hds : dg.size = 1 := by rw [← hdg]; rfl
      rw [hdg] at hcv HD
      clear hdg
      go_wp2
      go_roundw
      case rel => exact ⟨j / 10, dg ++ out, by omega, by go_num, rfl, HD.out, by rw [ByteArray.size_append, hds]; omega, HW.out.alloc HW.out.size _⟩
      case measure => simp [intOf]; omega

end Go.Proofs.Ytagalpfmpdeifab

namespace Go.Proofs.Ytagalpfmpdeifab
open Go.RowKit Vl

/-- Cell i of marked pairs. -/
def mkc (k i : Nat) : Value := if i % 8 = 2 ∨ i % 8 = 6 then .string (markT (k + i)) else .int .i64 ((k + i : Nat) : Int)
theorem mkc_int {k c d : Nat} {q : Int} (hd : d < 8) (h2 : d ≠ 2) (h6 : d ≠ 6) (hq : q = k + c * 8 + d) : mkc k (c * 8 + d) = .int .i64 q := by
  unfold mkc
  rw [if_neg (by omega), hq]
  congr 1
  omega
theorem mkc_text {k c d q : Nat} (hd : d = 2 ∨ d = 6) (hq : q = k + c * 8 + d) : mkc k (c * 8 + d) = .string (markT q) := by
  unfold mkc
  rw [if_pos (by omega), hq, Nat.add_assoc]

/-- The first p cells are marked. -/
def Mk (w : World) (B cap k p : Nat) (f : Nat → Value) : Prop := w.rowIs B 63 cap (fun i => if i < p then mkc k i else f i)
theorem Mk.step {w : World} {B cap k p : Nat} {f : Nat → Value} {v : Value} (h : Mk w B cap k p f) (hv : mkc k p = v) : Mk (w.setCell ⟨B, p, none⟩ v) B cap k (p + 1) f := by
  refine ((show w.rowIs B _ _ _ from h).set p v).congr (fun i _ => ?_)
  by_cases e : i = p
  · subst e; rw [if_pos rfl, if_pos (by omega), hv]
  · rw [if_neg e]
    by_cases h' : i < p
    · rw [if_pos h', if_pos (by omega)]
    · rw [if_neg h', if_neg (by omega)]
theorem Mk.below {w w' : World} {B cap k p : Nat} {f : Nat → Value} (h : Mk w B cap k p f) (hb : Below w.heap.size w w') : Mk w' B cap k p f := h.of_block (hb.block B h.lt)
theorem Mk.cell {w : World} {B cap k p : Nat} {f : Nat → Value} (h : Mk w B cap k p f) {i : Nat} (hi : i < cap) (hp : p ≤ i) : w.cell? ⟨B, i, none⟩ = some (f i) := by
  have := (show w.rowIs B _ _ _ from h).cell hi
  rw [if_neg (by omega)] at this
  exact this

set_option maxHeartbeats 2000000 in
set_option maxRecDepth 100000 in
/-- 'markPairS'. -/
theorem markPairS_any (pa : Option Addr) (L C B cap k : Nat) (f : Nat → Value) (w : World) (hL : L ≤ 1048576) (hk0 : 0 < k) (hk1 : k ≤ 562949953421312) (hA : 0 < L → pa = some ⟨B, 0, none⟩) (hc : L * 8 ≤ cap) (HR : Hid (0 < L → w.rowIs B 63 cap f)) :
    Calls Try.prog 86 #[.slice pa L C, .int .i64 k] w fun e w' => e = .returned (.int .i64 ((k + L * 8 : Nat) : Int)) ∧ (0 < L → Mk w' B cap k (L * 8) f) ∧ Only (fun x => x = B ∧ 0 < L) w w' := by
  go_enter Try.func86, Try.ntmps86
  go_wp2
  go_loopw [1, 5] (fun kk ii wr => ∃ (c q : Nat), c ≤ L ∧ q = k + c * 8 ∧ kk = .int .i64 (q : Nat) ∧ ii = .int .i64 c ∧ Hid (0 < L → Mk wr B cap k (c * 8) f) ∧ Hid (Only (fun x => x = B ∧ 0 < L) w wr)) (fun _ ii _ => L - (intOf ii).toNat)
  case atStart => exact ⟨0, k, Nat.zero_le _, by omega, rfl, rfl, show _ → _ from fun h => (HR.out h).congr (fun i _ => by rw [if_neg (by omega)]), Only.refl _ _⟩
  case round =>
    obtain ⟨c, q, hcl, hq, rfl, rfl, HM, HO⟩ := hrel
    have HQ : Hid (q = k + c * 8) := hq
    have hq0 : 0 < q := by omega
    by_cases hlt : c < L
    · have hL0 : 0 < L := by omega
      have hq1 : q ≤ 562949961809920 := by omega
      obtain rfl := hA hL0
      have HM0 : Hid (Mk wr B cap k (c * 8) f) := HM.out hL0
      have c0 := HM0.out.cell (i := c * 8) (by omega) (by omega)
      have c1 := HM0.out.cell (i := c * 8 + 1) (by omega) (by omega)
      have z0 := (show wr.rowIs B _ _ _ from HM0.out).frozen
      obtain ⟨wa, hwa⟩ : ∃ wa, wa = (wr.setCell ⟨B, c * 8, none⟩ (.int .i64 (q : Nat))).setCell ⟨B, c * 8 + 1, none⟩ (.int .i64 ((q : Int) + 1)) := ⟨_, rfl⟩
      have HMa : Hid (Mk wa B cap k (c * 8 + 2) f) := by
        rw [hwa]
        exact (HM0.out.step (mkc_int (d := 0) (by omega) (by omega) (by omega) (by omega))).step (mkc_int (d := 1) (by omega) (by omega) (by omega) (by omega))
      have HOa : Hid (Only (fun x => x = B ∧ 0 < L) w wa) := by rw [hwa]; exact (HO.out.set ⟨rfl, hL0⟩ _).set ⟨rfl, hL0⟩ _
      have hm := markText_any (q + 2) wa (by omega) (by omega)
      rw [show ((q + 2 : Nat) : Int) = (q : Int) + 1 + 1 by omega] at hm
      obtain ⟨t1, ht1⟩ : ∃ t, markT (q + 2) = t := ⟨_, rfl⟩
      rw [ht1] at hm
      have HT1 : Hid (mkc k (c * 8 + 2) = .string t1) := by rw [← ht1]; exact mkc_text (Or.inl rfl) (by omega)
      obtain ⟨t2, ht2⟩ : ∃ t, markT (q + 6) = t := ⟨_, rfl⟩
      have HT2 : Hid (mkc k (c * 8 + 6) = .string t2) := by rw [← ht2]; exact mkc_text (Or.inr rfl) (by omega)
      clear ht1 hq HM0 HM HO
      go_wp2_with fail
      rw [← hwa]
      refine hm.mono ?_
      clear hm hwa c0 c1 z0
      rintro e w1 ⟨rfl, hb1⟩
      have HM1 : Hid (Mk w1 B cap k (c * 8 + 2) f) := HMa.out.below hb1
      have HO1 : Hid (Only (fun x => x = B ∧ 0 < L) w w1) := HOa.out.trans (Only.below hb1)
      clear hb1 HMa HOa
      have c2 := HM1.out.cell (i := c * 8 + 2) (by omega) (by omega)
      have c3 := HM1.out.cell (i := c * 8 + 3) (by omega) (by omega)
      have c4 := HM1.out.cell (i := c * 8 + 4) (by omega) (by omega)
      have c5 := HM1.out.cell (i := c * 8 + 5) (by omega) (by omega)
      have z0 := (show w1.rowIs B _ _ _ from HM1.out).frozen
      obtain ⟨wb, hwb⟩ : ∃ wb, wb = (((w1.setCell ⟨B, c * 8 + 2, none⟩ (.string t1)).setCell ⟨B, c * 8 + 3, none⟩ (.int .i64 ((q : Int) + 1 + 1 + 1))).setCell ⟨B, c * 8 + 4, none⟩ (.int .i64 ((q : Int) + 1 + 1 + 1 + 1))).setCell ⟨B, c * 8 + 5, none⟩ (.int .i64 ((q : Int) + 1 + 1 + 1 + 1 + 1)) := ⟨_, rfl⟩
      have hQ := HQ.out
      have HMb : Hid (Mk wb B cap k (c * 8 + 6) f) := by
        rw [hwb]
        exact (((HM1.out.step HT1.out).step (mkc_int (d := 3) (by omega) (by omega) (by omega) (by omega))).step (mkc_int (d := 4) (by omega) (by omega) (by omega) (by omega))).step (mkc_int (d := 5) (by omega) (by omega) (by omega) (by omega))
      have HOb : Hid (Only (fun x => x = B ∧ 0 < L) w wb) := by rw [hwb]; exact (((HO1.out.set ⟨rfl, hL0⟩ _).set ⟨rfl, hL0⟩ _).set ⟨rfl, hL0⟩ _).set ⟨rfl, hL0⟩ _
      have hm := markText_any (q + 6) wb (by omega) (by omega)
      rw [show ((q + 6 : Nat) : Int) = (q : Int) + 1 + 1 + 1 + 1 + 1 + 1 by omega, ht2] at hm
      clear ht2 hQ HM1 HO1
      go_wp2_with fail
      rw [← hwb]
      refine hm.mono ?_
      clear hm hwb c2 c3 c4 c5 z0
      rintro e w2 ⟨rfl, hb2⟩
      have HM2 : Hid (Mk w2 B cap k (c * 8 + 6) f) := HMb.out.below hb2
      have HO2 : Hid (Only (fun x => x = B ∧ 0 < L) w w2) := HOb.out.trans (Only.below hb2)
      clear hb2 HMb HOb
      have c6 := HM2.out.cell (i := c * 8 + 6) (by omega) (by omega)
      have c7 := HM2.out.cell (i := c * 8 + 7) (by omega) (by omega)
      have z0 := (show w2.rowIs B _ _ _ from HM2.out).frozen
      go_wp2
      have hQ := HQ.out
      go_roundw
      case rel =>
        refine ⟨c + 1, q + 8, by omega, by omega, by go_num, by go_num, show _ → _ from fun _ => ?_, (HO2.out.set ⟨rfl, hL0⟩ _).set ⟨rfl, hL0⟩ _⟩
        have := (HM2.out.step HT2.out).step (mkc_int (d := 7) (q := (q : Int) + 1 + 1 + 1 + 1 + 1 + 1 + 1) (by omega) (by omega) (by omega) (by omega))
        rw [show c * 8 + 7 + 1 = (c + 1) * 8 by omega] at this
        exact this
      case measure => simp [intOf]; omega
    · obtain rfl : c = L := by omega
      subst hq
      clear HQ
      go_wp2
      go_ret
      exact ⟨rfl, HM.out, HO.out⟩

end Go.Proofs.Ytagalpfmpdeifab

namespace Go.Proofs.Ytagalpfmpdeifab
open Go.RowKit Vl

/-- Marked pairs, as they are read. -/
def MkAt (w : World) (B k L : Nat) : Prop := ∀ i, i < L * 8 → w.cell? ⟨B, i, none⟩ = some (mkc k i)
theorem Mk.at {w : World} {B cap k L : Nat} {f : Nat → Value} (h : Mk w B cap k (L * 8) f) (hc : L * 8 ≤ cap) : MkAt w B k L := fun i hi => by
  have := (show w.rowIs B _ _ _ from h).cell (i := i) (by omega)
  rw [if_pos hi] at this
  exact this
theorem MkAt.below {w w' : World} {B k L : Nat} (h : MkAt w B k L) (hb : Below w.heap.size w w') : MkAt w' B k L := fun i hi => (hb.cell (p := ⟨B, i, none⟩) (World.block_lt_of_cell? _ _ (h i hi))).trans (h i hi)

theorem MkAt.cells {w : World} {B k L c q : Nat} (h : MkAt w B k L) (hc : c < L) (hq : q = k + c * 8) :
    w.cell? ⟨B, c * 8, none⟩ = some (.int .i64 (q : Int)) ∧ w.cell? ⟨B, c * 8 + 1, none⟩ = some (.int .i64 ((q : Int) + 1)) ∧ w.cell? ⟨B, c * 8 + 2, none⟩ = some (.string (markT (q + 2))) ∧ w.cell? ⟨B, c * 8 + 3, none⟩ = some (.int .i64 ((q : Int) + 1 + 1 + 1)) ∧ w.cell? ⟨B, c * 8 + 4, none⟩ = some (.int .i64 ((q : Int) + 1 + 1 + 1 + 1)) ∧ w.cell? ⟨B, c * 8 + 5, none⟩ = some (.int .i64 ((q : Int) + 1 + 1 + 1 + 1 + 1)) ∧ w.cell? ⟨B, c * 8 + 6, none⟩ = some (.string (markT (q + 6))) ∧ w.cell? ⟨B, c * 8 + 7, none⟩ = some (.int .i64 ((q : Int) + 1 + 1 + 1 + 1 + 1 + 1 + 1)) := by
  have g : ∀ d, d < 8 → w.cell? ⟨B, c * 8 + d, none⟩ = some (mkc k (c * 8 + d)) := fun d hd => h _ (by omega)
  refine ⟨?_, ?_, ?_, ?_, ?_, ?_, ?_, ?_⟩
  · rw [← mkc_int (k := k) (c := c) (d := 0) (by omega) (by omega) (by omega) (by omega)]; exact g 0 (by omega)
  · rw [← mkc_int (k := k) (c := c) (d := 1) (by omega) (by omega) (by omega) (by omega)]; exact g 1 (by omega)
  · rw [← mkc_text (k := k) (c := c) (d := 2) (Or.inl rfl) (by omega)]; exact g 2 (by omega)
  · rw [← mkc_int (k := k) (c := c) (d := 3) (by omega) (by omega) (by omega) (by omega)]; exact g 3 (by omega)
  · rw [← mkc_int (k := k) (c := c) (d := 4) (by omega) (by omega) (by omega) (by omega)]; exact g 4 (by omega)
  · rw [← mkc_int (k := k) (c := c) (d := 5) (by omega) (by omega) (by omega) (by omega)]; exact g 5 (by omega)
  · rw [← mkc_text (k := k) (c := c) (d := 6) (Or.inr rfl) (by omega)]; exact g 6 (by omega)
  · rw [← mkc_int (k := k) (c := c) (d := 7) (by omega) (by omega) (by omega) (by omega)]; exact g 7 (by omega)

theorem keep1m {w0 w w' : World} {a : Addr} {x : Value} (h : w.cell? a = some x ∧ Hid (Below w0.heap.size w0 w)) (hb : Below w.heap.size w w') : w'.cell? a = some x ∧ Hid (Below w0.heap.size w0 w') :=
  ⟨(hb.cell (World.block_lt_of_cell? _ _ h.1)).trans h.1, grw h.2.out hb⟩

set_option maxHeartbeats 2000000 in
set_option maxRecDepth 100000 in
/-- 'heldPairS'. -/
theorem heldPairS_any (pa : Option Addr) (L C B k : Nat) (w : World) (hL : L ≤ 1048576) (hk0 : 0 < k) (hk1 : k ≤ 562949953421312) (hA : 0 < L → pa = some ⟨B, 0, none⟩) (HM : Hid (MkAt w B k L)) :
    Calls Try.prog 87 #[.slice pa L C, .int .i64 k] w fun e w' => e = .returned (.int .i64 ((k + L * 8 : Nat) : Int)) ∧ Below w.heap.size w w' := by
  go_enter Try.func87, Try.ntmps87
  go_wp2
  go_loopw [1, 5] (fun kk ii wr => ∃ (c q : Nat), c ≤ L ∧ q = k + c * 8 ∧ kk = .int .i64 (q : Nat) ∧ ii = .int .i64 c ∧ Hid (Below w.heap.size w wr)) (fun _ ii _ => L - (intOf ii).toNat)
  case atStart => exact ⟨0, k, Nat.zero_le _, by omega, rfl, rfl, Below.refl _ _⟩
  case round =>
    obtain ⟨c, q, hcl, hq, rfl, rfl, HW⟩ := hrel
    have HQ : Hid (q = k + c * 8) := hq
    have hq0 : 0 < q := by omega
    by_cases hlt : c < L
    · have hL0 : 0 < L := by omega
      have hq1 : q ≤ 562949961809920 := by omega
      obtain rfl := hA hL0
      obtain ⟨c0, c1, c2, c3, c4, c5, c6, c7⟩ := (HM.out.below HW.out).cells hlt hq
      have hbc : (0 : Int) ≤ (c : Int) ∧ (c : Int) < (L : Int) := by omega
      have hm1 := fun w1 => markText_any (q + 2) w1 (by omega) (by omega)
      rw [show ((q + 2 : Nat) : Int) = (q : Int) + 1 + 1 by omega] at hm1
      have hm2 := fun w1 => markText_any (q + 6) w1 (by omega) (by omega)
      rw [show ((q + 6 : Nat) : Int) = (q : Int) + 1 + 1 + 1 + 1 + 1 + 1 by omega] at hm2
      obtain ⟨t1, ht1⟩ : ∃ t, markT (q + 2) = t := ⟨_, rfl⟩
      rw [ht1] at hm1 c2
      obtain ⟨t2, ht2⟩ : ∃ t, markT (q + 6) = t := ⟨_, rfl⟩
      rw [ht2] at hm2 c6
      have HT2 : Hid (markT (q + 6) = t2) := ht2
      clear ht1 ht2 hq c4 c5 c6 c7 c3
      have C2 : Hid _ := c2
      go_wp2
      go_region_held3 (fun w' => w'.cell? ⟨B, c * 8 + 2, none⟩ = some (.string t1) ∧ Hid (Below w.heap.size w w'))
        (first | exact keep1m ‹_ ∧ _› hb1 | exact ⟨C2.out, HW.out.drew⟩)
        ((go_at_call 74; refine (hm1 _).mono ?_; rintro e w1 ⟨rfl, hb1⟩))
      rename_i hS
      have HW1 := hS.2
      have hQ := HQ.out
      clear hS hb1 c0 c1 c2 C2 HW hm1
      obtain ⟨_, _, _, c3, c4, c5, c6, c7⟩ := (HM.out.below HW1.out).cells hlt hQ
      rw [HT2.out] at c6
      have C6 : Hid _ := c6
      clear hQ c7
      go_wp2
      go_region_held3 (fun w' => w'.cell? ⟨B, c * 8 + 6, none⟩ = some (.string t2) ∧ Hid (Below w.heap.size w w'))
        (first | exact keep1m ‹_ ∧ _› hb2 | exact ⟨C6.out, HW1.out.drew⟩)
        ((go_at_call 74; refine (hm2 _).mono ?_; rintro e w2 ⟨rfl, hb2⟩))
      rename_i hS
      have HW2 := hS.2
      have hQ := HQ.out
      clear hS hb2 c3 c4 c5 c6 C6 HW1 hm2
      obtain ⟨_, _, _, _, _, _, _, c7⟩ := (HM.out.below HW2.out).cells hlt hQ
      clear hQ
      go_wp2
      have hQ := HQ.out
      go_roundw
      case rel => exact ⟨c + 1, q + 8, by omega, by omega, by go_num, by go_num, HW2⟩
      case measure => simp [intOf]; omega
    · obtain rfl : c = L := by omega
      subst hq
      clear HQ
      go_wp2
      go_ret
      exact ⟨rfl, HW.out⟩

end Go.Proofs.Ytagalpfmpdeifab

namespace Go.Proofs.Ytagalpfmpdeifab
open Go.RowKit Vl

/-- The first mark of table r. -/
def koff (k : Nat) (L : Nat → Nat) : Nat → Nat
  | 0 => k
  | r + 1 => koff k L r + L r * 8
theorem koff_le {k n b : Nat} {L : Nat → Nat} (h : ∀ r, r < n → L r ≤ b) : ∀ r, r ≤ n → koff k L r ≤ k + r * (b * 8)
  | 0, _ => by simp [koff]
  | r + 1, hr => by
    have h1 := koff_le (k := k) h r (by omega)
    have h2 := h r (by omega)
    show koff k L r + L r * 8 ≤ _
    have : L r * 8 ≤ b * 8 := Nat.mul_le_mul_right 8 h2
    have e : (r + 1) * (b * 8) = r * (b * 8) + b * 8 := Nat.succ_mul _ _
    omega
theorem koff_pos {k : Nat} {L : Nat → Nat} (h : 0 < k) : ∀ r, 0 < koff k L r
  | 0 => h
  | r + 1 => by have := koff_pos (L := L) h r; show 0 < koff k L r + L r * 8; omega

/-- Tables whose pairs may be written. -/
structure MTabs (w : World) (ta : Option Addr) (n TB : Nat) (A : Nat → Option Addr) (L C RB cap : Nat → Nat) (f : Nat → Nat → Value) : Prop where
  top : 0 < n → ta = some ⟨TB, 0, none⟩
  tab : ∀ r, r < n → w.cell? ⟨TB, r, none⟩ = some (.slice (A r) (L r) (C r))
  adr : ∀ r, r < n → 0 < L r → A r = some ⟨RB r, 0, none⟩
  row : ∀ r, r < n → 0 < L r → w.rowIs (RB r) 63 (cap r) (f r)
  fit : ∀ r, r < n → 0 < L r → L r * 8 ≤ cap r
  ne : ∀ r, r < n → 0 < L r → RB r ≠ TB
  dis : ∀ r s, r < s → s < n → 0 < L r → 0 < L s → RB r ≠ RB s

set_option maxHeartbeats 1000000 in
set_option maxRecDepth 100000 in
/-- 'markTableS'. -/
theorem markTableS_any (ta : Option Addr) (n cp TB k : Nat) (A : Nat → Option Addr) (L C RB cap : Nat → Nat) (f : Nat → Nat → Value) (w : World) (hn : n ≤ 1048576) (HL : Hid (∀ r, r < n → L r ≤ 1048576)) (hk0 : 0 < k) (hk1 : k ≤ 1048576) (HT : Hid (MTabs w ta n TB A L C RB cap f)) :
    Calls Try.prog 57 #[.slice ta n cp, .int .i64 k] w fun e w' => e = .returned (.int .i64 ((koff k L n : Nat) : Int)) ∧ (∀ r, r < n → 0 < L r → Mk w' (RB r) (cap r) (koff k L r) (L r * 8) (f r)) ∧ Only (fun x => ∃ j, j < n ∧ x = RB j ∧ 0 < L j) w w' := by
  have HK : Hid (∀ r, r ≤ n → koff k L r ≤ k + r * (1048576 * 8)) := fun r hr => koff_le HL.out r hr
  go_enter Try.func57, Try.ntmps57
  go_wp2
  go_loopw [1, 5] (fun kk ii wr => ∃ (r q : Nat), r ≤ n ∧ Hid (koff k L r = q) ∧ kk = .int .i64 (q : Nat) ∧ ii = .int .i64 r ∧ Hid (∀ j, j < r → 0 < L j → Mk wr (RB j) (cap j) (koff k L j) (L j * 8) (f j)) ∧ Hid (Only (fun x => ∃ j, j < r ∧ x = RB j ∧ 0 < L j) w wr)) (fun _ ii _ => n - (intOf ii).toNat)
  case atStart => exact ⟨0, k, Nat.zero_le _, (show koff k L 0 = k from rfl), rfl, rfl, (show ∀ j, _ from fun j hj => by omega), Only.refl _ _⟩
  case round =>
    obtain ⟨r, q, hr, HQ, rfl, rfl, HM, HO⟩ := hrel
    by_cases hlt : r < n
    · obtain rfl := HT.out.top (by omega)
      have t0 : wr.cell? ⟨TB, r, none⟩ = some (.slice (A r) (L r) (C r)) := HO.out.cell (HT.out.tab r hlt) (by rintro ⟨j, hj, e, h0⟩; exact HT.out.ne j (by omega) h0 e.symm)
      have hq1 : q ≤ k + r * (1048576 * 8) := by have := HK.out r hr; rw [HQ.out] at this; exact this
      have hq0 : 0 < q := by rw [← HQ.out]; exact koff_pos hk0 r
      have hLr := HL.out r hlt
      obtain ⟨a, ha⟩ : ∃ a, A r = a := ⟨_, rfl⟩
      rw [ha] at t0
      have hm := markPairS_any a (L r) (C r) (RB r) (cap r) q (f r) wr hLr hq0 (by omega) (fun h => ha ▸ HT.out.adr r hlt h) (by
          rcases Nat.eq_zero_or_pos (L r) with h | h
          · omega
          · exact HT.out.fit r hlt h) (show _ → _ from fun h => HO.out.rowIs (HT.out.row r hlt h) (by rintro ⟨j, hj, e, h0⟩; exact HT.out.dis j r hj hlt h0 h e.symm))
      have hbr : (0 : Int) ≤ (r : Int) ∧ (r : Int) < (n : Int) := by omega
      clear hq1
      go_wp2_with fail
      refine hm.mono ?_
      clear hm t0
      rintro e w1 ⟨rfl, hM1, hO1⟩
      have HM1 : Hid (∀ j, j < r + 1 → 0 < L j → Mk w1 (RB j) (cap j) (koff k L j) (L j * 8) (f j)) := show ∀ j, _ from fun j hj h0 => by
        by_cases e : j = r
        · subst e; rw [HQ.out]; exact hM1 h0
        · exact hO1.rowIs (HM.out j (by omega) h0) (by rintro ⟨e', h0'⟩; exact HT.out.dis j r (by omega) hlt h0 h0' e')
      have HO1 : Hid (Only (fun x => ∃ j, j < r + 1 ∧ x = RB j ∧ 0 < L j) w w1) := (HO.out.mono (fun x _ ⟨j, h1, h2⟩ => ⟨j, by omega, h2⟩)).trans (hO1.mono (fun x _ h => ⟨r, by omega, h⟩))
      clear hM1 hO1 HM HO
      go_wp2
      go_roundw
      case rel => exact ⟨r + 1, q + L r * 8, by omega, (show koff k L r + L r * 8 = _ by rw [HQ.out]), rfl, by go_num, HM1, HO1⟩
      case measure => simp [intOf]; omega
    · obtain rfl : r = n := by omega
      go_wp2
      go_ret
      refine ⟨?_, HM.out, HO.out⟩
      have := HQ.out
      subst this
      rfl

/-- Marked tables, as they are read. -/
structure HTabs (w : World) (ta : Option Addr) (n TB k : Nat) (A : Nat → Option Addr) (L C RB : Nat → Nat) : Prop where
  top : 0 < n → ta = some ⟨TB, 0, none⟩
  tab : ∀ r, r < n → w.cell? ⟨TB, r, none⟩ = some (.slice (A r) (L r) (C r))
  adr : ∀ r, r < n → 0 < L r → A r = some ⟨RB r, 0, none⟩
  row : ∀ r, r < n → 0 < L r → MkAt w (RB r) (koff k L r) (L r)
theorem HTabs.below {w w' : World} {ta : Option Addr} {n TB k : Nat} {A : Nat → Option Addr} {L C RB : Nat → Nat} (h : HTabs w ta n TB k A L C RB) (hb : Below w.heap.size w w') : HTabs w' ta n TB k A L C RB :=
  ⟨h.top, fun r hr => (hb.cell (p := ⟨TB, r, none⟩) (World.block_lt_of_cell? _ _ (h.tab r hr))).trans (h.tab r hr), h.adr, fun r hr h0 => (h.row r hr h0).below hb⟩

set_option maxHeartbeats 1000000 in
set_option maxRecDepth 100000 in
/-- 'heldTableS'. -/
theorem heldTableS_any (ta : Option Addr) (n cp TB k : Nat) (A : Nat → Option Addr) (L C RB : Nat → Nat) (w : World) (hn : n ≤ 1048576) (HL : Hid (∀ r, r < n → L r ≤ 1048576)) (hk0 : 0 < k) (hk1 : k ≤ 1048576) (HT : Hid (HTabs w ta n TB k A L C RB)) :
    Calls Try.prog 58 #[.slice ta n cp, .int .i64 k] w fun e w' => e = .returned (.int .i64 ((koff k L n : Nat) : Int)) ∧ Below w.heap.size w w' := by
  have HK : Hid (∀ r, r ≤ n → koff k L r ≤ k + r * (1048576 * 8)) := fun r hr => koff_le HL.out r hr
  go_enter Try.func58, Try.ntmps58
  go_wp2
  go_loopw [1, 5] (fun kk ii wr => ∃ (r q : Nat), r ≤ n ∧ Hid (koff k L r = q) ∧ kk = .int .i64 (q : Nat) ∧ ii = .int .i64 r ∧ Hid (Below w.heap.size w wr)) (fun _ ii _ => n - (intOf ii).toNat)
  case atStart => exact ⟨0, k, Nat.zero_le _, (show koff k L 0 = k from rfl), rfl, rfl, Below.refl _ _⟩
  case round =>
    obtain ⟨r, q, hr, HQ, rfl, rfl, HW⟩ := hrel
    by_cases hlt : r < n
    · obtain rfl := HT.out.top (by omega)
      have t0 := (HT.out.below HW.out).tab r hlt
      have hq1 : q ≤ k + r * (1048576 * 8) := by have := HK.out r hr; rw [HQ.out] at this; exact this
      have hq0 : 0 < q := by rw [← HQ.out]; exact koff_pos hk0 r
      have hLr := HL.out r hlt
      obtain ⟨a, ha⟩ : ∃ a, A r = a := ⟨_, rfl⟩
      rw [ha] at t0
      have hm := heldPairS_any a (L r) (C r) (RB r) q wr hLr hq0 (by omega) (fun h => ha ▸ HT.out.adr r hlt h) (show MkAt _ _ _ _ from fun i hi => by
        have := (HT.out.below HW.out).row r hlt (by omega)
        rw [HQ.out] at this
        exact this i hi)
      have hbr : (0 : Int) ≤ (r : Int) ∧ (r : Int) < (n : Int) := by omega
      have hq2 : q ≤ 8796094070784 := by omega
      clear hq1
      go_wp2_with fail
      refine hm.mono ?_
      clear hm t0
      rintro e w1 ⟨rfl, hb1⟩
      have HW1 : Hid (Below w.heap.size w w1) := grw HW.out hb1
      clear hb1 HW
      obtain ⟨q', hq'⟩ : ∃ q', q + L r * 8 = q' := ⟨_, rfl⟩
      have HQ' : Hid (koff k L (r + 1) = q') := show koff k L r + L r * 8 = q' by rw [HQ.out]; exact hq'
      rw [hq']
      have hnn : ¬ ((q' : Int) < 0) := by omega
      clear hq'
      go_wp2
      go_roundw
      case rel => exact ⟨r + 1, q', by omega, HQ', rfl, by go_num, HW1⟩
      case measure => simp [intOf]; omega
    · obtain rfl : r = n := by omega
      go_wp2
      go_ret
      refine ⟨?_, HW.out⟩
      have := HQ.out
      subst this
      rfl

end Go.Proofs.Ytagalpfmpdeifab

namespace Go.Proofs.Ytagalpfmpdeifab
open Go.RowKit Vl

theorem MTabs.below {w w' : World} {ta : Option Addr} {n TB : Nat} {A : Nat → Option Addr} {L C RB cap : Nat → Nat} {f : Nat → Nat → Value} (h : MTabs w ta n TB A L C RB cap f) (hb : Below w.heap.size w w') : MTabs w' ta n TB A L C RB cap f :=
  ⟨h.top, fun r hr => (hb.cell (p := ⟨TB, r, none⟩) (World.block_lt_of_cell? _ _ (h.tab r hr))).trans (h.tab r hr), h.adr, fun r hr h0 => (h.row r hr h0).of_block (hb.block _ (h.row r hr h0).lt), h.fit, h.ne, h.dis⟩

set_option maxHeartbeats 1000000 in
set_option maxRecDepth 100000 in
/-- 'markGraph'. -/
theorem markGraph_any (u : V) (ta : Option Addr) (n cp TB k : Nat) (A : Nat → Option Addr) (L C RB cap : Nat → Nat) (f : Nat → Nat → Value) (w : World) (hn : n ≤ 1048576) (HL : Hid (∀ r, r < n → L r ≤ 1048576)) (hk0 : 0 < k) (hk1 : k ≤ 1048576) (HT : Hid (MTabs w ta n TB A L C RB cap f)) :
    Calls Try.prog 22 #[.agg #[.int .i64 u.k, .int .i64 u.n, .string u.s, .int .i64 u.a, .slice ta n cp], .int .i64 k] w fun e w' => e = .returned (.int .i64 ((koff k L n : Nat) : Int)) ∧ (∀ r, r < n → 0 < L r → Mk w' (RB r) (cap r) (koff k L r) (L r * 8) (f r)) ∧ Only (fun x => ∃ j, j < n ∧ x = RB j ∧ 0 < L j) w w' := by
  obtain ⟨w0, hw0⟩ : ∃ w0, w0 = w.alloc (.cells #[.int .i64 u.k, .int .i64 u.n, .string u.s, .int .i64 u.a, .slice ta n cp] 32) := ⟨_, rfl⟩
  have hb0 : Below w.heap.size w w0 := by rw [hw0]; exact (Below.refl _ _).alloc (Nat.le_refl _) _
  have HB0 : Hid _ := hb0
  have hm := markTableS_any ta n cp TB k A L C RB cap f w0 hn HL hk0 hk1 (HT.out.below hb0)
  obtain ⟨q, hq⟩ : ∃ q, koff k L n = q := ⟨_, rfl⟩
  rw [hq] at hm ⊢
  clear hq hb0
  go_enter Try.func22, Try.ntmps22
  go_wp2_with fail
  rw [← hw0]
  refine hm.mono ?_
  clear hm hw0
  rintro e w1 ⟨rfl, hM, hO⟩
  have HM : Hid _ := hM
  have HO : Hid (Only (fun x => ∃ j, j < n ∧ x = RB j ∧ 0 < L j) w w1) := (Only.below HB0.out).trans hO
  clear hM hO
  go_wp2
  go_ret
  exact ⟨rfl, HM.out, HO.out⟩

set_option maxHeartbeats 1000000 in
set_option maxRecDepth 100000 in
/-- 'heldGraph'. -/
theorem heldGraph_any (u : V) (ta : Option Addr) (n cp TB k : Nat) (A : Nat → Option Addr) (L C RB : Nat → Nat) (w : World) (hn : n ≤ 1048576) (HL : Hid (∀ r, r < n → L r ≤ 1048576)) (hk0 : 0 < k) (hk1 : k ≤ 1048576) (HT : Hid (HTabs w ta n TB k A L C RB)) :
    Calls Try.prog 23 #[.agg #[.int .i64 u.k, .int .i64 u.n, .string u.s, .int .i64 u.a, .slice ta n cp], .int .i64 k] w fun e w' => e = .returned (.int .i64 ((koff k L n : Nat) : Int)) ∧ Below w.heap.size w w' := by
  obtain ⟨w0, hw0⟩ : ∃ w0, w0 = w.alloc (.cells #[.int .i64 u.k, .int .i64 u.n, .string u.s, .int .i64 u.a, .slice ta n cp] 32) := ⟨_, rfl⟩
  have hb0 : Below w.heap.size w w0 := by rw [hw0]; exact (Below.refl _ _).alloc (Nat.le_refl _) _
  have HB0 : Hid _ := hb0
  have hm := heldTableS_any ta n cp TB k A L C RB w0 hn HL hk0 hk1 (HT.out.below hb0)
  obtain ⟨q, hq⟩ : ∃ q, koff k L n = q := ⟨_, rfl⟩
  rw [hq] at hm ⊢
  clear hq hb0
  have hnn : ¬ ((q : Int) < 0) := by omega
  go_enter Try.func23, Try.ntmps23
  go_wp2_with fail
  rw [← hw0]
  refine hm.mono ?_
  clear hm hw0
  rintro e w1 ⟨rfl, hb1⟩
  have HW : Hid (Below w.heap.size w w1) := grw HB0.out hb1
  clear hb1
  go_wp2
  go_ret
  exact ⟨rfl, HW.out⟩

end Go.Proofs.Ytagalpfmpdeifab

namespace Go.Proofs.Ytagalpfmpdeifab
open Go.RowKit Vl

open Classical in
/-- The canonical graph, or the empty one. -/
noncomputable def cnN (n : Nat) (u : V) (L : Nat → Nat) (K X : Nat → Nat → V) : Nat := if OkG n u L K X then (order n u L X).length else 0
open Classical in
noncomputable def cnU (n : Nat) (u : V) (L : Nat → Nat) (K X : Nat → Nat → V) : V := if OkG n u L K X then renum (order n u L X) u else zeroV

theorem CanonIs.all {w w' : World} {e : Ending} {n : Nat} {u : V} {L : Nat → Nat} {K X : Nat → Nat → V} (h : CanonIs w w' e n u L K X) : ∃ (tv : Value) (PV : Nat → Value) (base : Nat), w.heap.size ≤ base ∧ e = .returned (.agg #[.int .i64 (cnU n u L K X).k, .int .i64 (cnU n u L K X).n, .string (cnU n u L K X).s, .int .i64 (cnU n u L K X).a, tv]) ∧ OTab w' base tv (cnN n u L K X) PV (cL (order n u L X) L) (cK (order n u L X) K) (cX (order n u L X) X) := by
  unfold cnU cnN
  rcases h with ⟨hG, tv, PV, base, h1, h2, h3⟩ | ⟨hN, h2⟩
  · rw [if_pos hG, if_pos hG]
    exact ⟨tv, PV, base, h1, h2, h3⟩
  · rw [if_neg hN, if_neg hN]
    exact ⟨.slice none 0 0, fun _ => .nilIface, w.heap.size, Nat.le_refl _, h2, OTab.nil _ _ _ _ _ _⟩

theorem renum_s (S : List Nat) (v : V) : (renum S v).s = v.s := by
  unfold renum
  split <;> rfl
theorem small_can {n : Nat} {u : V} {L : Nat → Nat} {K X : Nat → Nat → V} (h : Small 1048576 n L K X) : cnN n u L K X ≤ 1048576 ∧ Small 1048576 (cnN n u L K X) (cL (order n u L X) L) (cK (order n u L X) K) (cX (order n u L X) X) := by
  unfold cnN
  by_cases hG : OkG n u L K X
  · rw [if_pos hG]
    have hf := (order_all hG).1
    refine ⟨by have := hf.len; have := hG.len; omega, fun r hr => ?_⟩
    have hm : (order n u L X).getD r 0 < n := by
      rw [List.getD_eq_getElem?_getD, List.getElem?_eq_getElem hr]
      exact hf.lt _ (List.getElem_mem hr)
    obtain ⟨h1, h2⟩ := h _ hm
    exact ⟨h1, fun c hc => ⟨(h2 c hc).1, by unfold cX; rw [renum_s]; exact (h2 c hc).2⟩⟩
  · rw [if_neg hG]
    exact ⟨by omega, fun r hr => by omega⟩

/-- Whatever stands in a row. -/
theorem rowIs_any {w : World} {b t : Nat} {cur : Array Value} (h : w.heap[b]? = some (.cells cur t (0, 0))) : w.rowIs b t cur.size (fun i => (cur[i]?).getD .nilIface) :=
  ⟨cur, h, rfl, fun i hi => by simp [hi]⟩

/-- Tables that a call made may be marked. -/
theorem OTab.marks {w : World} {base : Nat} {tv : Value} {i : Nat} {PV : Nat → Value} {L : Nat → Nat} {K X : Nat → Nat → V} (h : OTab w base tv i PV L K X) :
    ∃ (cap : Nat → Nat) (f : Nat → Nat → Value), MTabs w (slA tv) i (slB tv) (fun j => slA (PV j)) L (fun j => slC (PV j)) (fun j => slB (PV j)) cap f ∧ ∀ j, j < i → 0 < L j → base ≤ slB (PV j) := by
  have each : ∀ j, ∃ (c : Nat) (f : Nat → Value), j < i → 0 < L j → slA (PV j) = some ⟨slB (PV j), 0, none⟩ ∧ w.rowIs (slB (PV j)) 63 c f ∧ L j * 8 ≤ c ∧ base ≤ slB (PV j) ∧ (PV j).ownBlock = some (slB (PV j)) := by
    intro j
    by_cases hj : j < i ∧ 0 < L j
    · rcases (h.rows j hj.1).2 with ⟨_, h0⟩ | ⟨g, cap, cur, hv, hge, hh, hl, _, hs, _⟩
      · omega
      · refine ⟨cur.size, (fun i => (cur[i]?).getD .nilIface), fun _ _ => ?_⟩
        have e1 : slB (PV j) = g := by rw [hv]; rfl
        rw [e1]
        refine ⟨by rw [hv]; rfl, rowIs_any hh, ?_, hge, by rw [hv]; rfl⟩
        rw [hs]
        exact Nat.mul_le_mul_right 8 hl
    · exact ⟨0, fun _ => .nilIface, fun a b => absurd ⟨a, b⟩ hj⟩
  refine ⟨fun j => (each j).choose, fun j => (each j).choose_spec.choose, ⟨fun h0 => ?_, fun r hr => ?_, fun r hr h0 => ((each r).choose_spec.choose_spec hr h0).1, fun r hr h0 => ((each r).choose_spec.choose_spec hr h0).2.1, fun r hr h0 => ((each r).choose_spec.choose_spec hr h0).2.2.1, fun r hr h0 e => ?_, fun r s hrs hs h0 h1 e => ?_⟩, fun j hj h0 => ((each j).choose_spec.choose_spec hj h0).2.2.2.1⟩
  · have := h.tabs.2.top h0
    exact this
  · have := h.tabs.2.tab r hr
    rw [Nat.zero_add] at this
    exact this
  · obtain ⟨c, hc, _⟩ := ((each r).choose_spec.choose_spec hr h0).2.1
    rcases h.own.2 with ⟨_, hn⟩ | ⟨g, cap, cur, hv, _, hh, _⟩
    · omega
    · have e1 : slB tv = g := by rw [hv]; rfl
      rw [e, e1, hh] at hc
      cases hc
  · have h2 := ((each r).choose_spec.choose_spec (by omega) h0).2.2.2.2
    have h3 := ((each s).choose_spec.choose_spec hs h1).2.2.2.2
    rw [← e] at h3
    exact h.dis r s hrs hs _ h2 h3

/-- A copy may be marked. -/
theorem Copied.marks {w0 w : World} {n : Nat} {G L : Nat → Nat} {K X : Nat → Nat → V} {B : Nat} (h : Copied w0 w n G L K X) (hB : w0.heap.size = B) (hr : w.rowIs B 61 n (fun i => .slice (some ⟨G i, 0, none⟩) (L i) (L i))) :
    ∃ f : Nat → Nat → Value, MTabs w (some ⟨B, 0, none⟩) n B (fun r => some ⟨G r, 0, none⟩) L L G (fun r => L r * 8) f := by
  have each : ∀ r, ∃ f, r < n → w.rowIs (G r) 63 (L r * 8) f := fun r => by
    by_cases hr : r < n
    · obtain ⟨f, hf⟩ := h.blk r hr
      exact ⟨f, fun _ => hf⟩
    · exact ⟨fun _ => .nilIface, fun x => absurd x hr⟩
  exact ⟨fun r => (each r).choose, fun _ => rfl, fun r hr' => hr.cell hr', fun r _ _ => rfl, fun r hr' _ => (each r).choose_spec hr', fun r _ _ => Nat.le_refl _, fun r hr' _ e => by have := (h.new r hr').1; omega, fun r s hrs hs _ _ e => by have := h.inc r s hrs hs; omega⟩

/-- What was marked is held. -/
theorem MTabs.held {w w' : World} {ta : Option Addr} {n TB k : Nat} {A : Nat → Option Addr} {L C RB cap : Nat → Nat} {f : Nat → Nat → Value} (h : MTabs w ta n TB A L C RB cap f) (hm : ∀ r, r < n → 0 < L r → Mk w' (RB r) (cap r) (koff k L r) (L r * 8) (f r)) (ho : Only (fun x => ∃ j, j < n ∧ x = RB j ∧ 0 < L j) w w') : HTabs w' ta n TB k A L C RB := by
  refine ⟨h.top, fun r hr => ho.cell (h.tab r hr) (fun ⟨j, hj, e, h0⟩ => h.ne j hj h0 e.symm), h.adr, fun r hr h0 i hi => ?_⟩
  have := (show World.rowIs _ _ _ _ _ from hm r hr h0).cell (Nat.lt_of_lt_of_le hi (h.fit r hr h0))
  rw [if_pos hi] at this
  exact this

end Go.Proofs.Ytagalpfmpdeifab
