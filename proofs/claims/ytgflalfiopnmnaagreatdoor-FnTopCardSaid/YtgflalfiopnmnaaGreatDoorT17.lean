import Derived.Test.YtgflalfiopnmnaaGreatDoorT0
import Derived.Test.YtgflalfiopnmnaaGreatDoorT16
import Derived.Test.YtgflalfiopnmnaaGreatDoorT15
namespace Go.Proofs.YtgflalfiopnmnaaGreatDoor
open Go.RowKit Vl

def ScV (n : Nat) (L : Nat → Nat) (X : Nat → Nat → V) (w0 : World) (FB LB XB base : Nat) (u : V) (ta : Option Addr) (cp : Nat) (t : Ft) (ov : Value) (f : Nat) : Prop := ∀ (S : List Nat) (Q : Nat → Nat) (v : V) (w : World), Hid (Cat n L X f S Q v) → Hid (SfW w0 w FB LB XB base u ta n cp Q t ov) →
    Calls Tryz.prog 57 #[.pointer (some ⟨FB, 0, none⟩), .agg #[.int .i64 v.k, .int .i64 v.n, .string v.s, .int .i64 v.a]] w fun e w' => e = .returned (.tuple #[]) ∧ SfW w0 w' FB LB XB base u ta n cp (cnt L X f Q v) t ov ∧ Only (fun k => k = LB) w w'

set_option maxHeartbeats 4000000 in
set_option maxRecDepth 100000 in
theorem count_any (n TB TO cp : Nat) (ta : Option Addr) (A : Nat → Option Addr) (L C RB RO : Nat → Nat) (K X : Nat → Nat → V) (u : V) (w0 : World) (FB LB XB base : Nat) (t : Ft) (ov : Value) (hn : n ≤ 200) (HL : Hid (∀ r, r < n → L r ≤ 100)) (HG : Hid (Good n L X))
    (HT : Hid (TabsAt w0 ta n TB TO A L C RB RO K X)) (HB : Hid (SfB w0 FB LB XB base)) : ∀ f, ScV n L X w0 FB LB XB base u ta cp t ov f := by
  intro f
  induction f with
  | zero => intro S Q v w HC _; have := HC.out.fuel; omega
  | succ f ih =>
    intro S Q v w HC HW
    have HIH : Hid _ := ih
    clear ih
    by_cases h4 : v.k = 4
    · obtain ⟨a0, a1⟩ := isV_tab HC.out.val h4
      obtain ⟨r, hr⟩ : ∃ r : Nat, v.a = r := ⟨v.a.toNat, by omega⟩
      have hrn : r < n := by omega
      have hrt : v.a.toNat = r := by omega
      have hbq : Q r + 1 ≤ 100000 := by have := HC.out.old h4; rw [hrt] at this; exact this
      obtain ⟨x4, x5, _, _, _, xz⟩ := nine_at HW.out.blk
      have xr := HW.out.led.cell hrn
      have xf := HW.out.led.frozen r
      have l1 : FB < w.heap.size := blk_lt HW.out.blk
      have l2 : LB < w.heap.size := HW.out.led.lt
      have hbd : (0 : Int) ≤ (r : Int) ∧ (r : Int) < (n : Int) := by omega
      have hne : (v.k != 4) = false := by simpa using h4
      obtain ⟨hWm, hOm⟩ := HW.out.inc HB.out r
      obtain ⟨wm, hwm⟩ : ∃ wm, wm = w.setCell ⟨LB, r, none⟩ (.int .i64 (Q r + 1 : Nat)) := ⟨_, rfl⟩
      rw [← hwm] at hWm hOm
      have hszm : wm.heap.size = w.heap.size := by rw [hwm]; simp [World.setCell]
      have HWm : Hid (SfW w0 wm FB LB XB base u ta n cp (bump Q r) t ov) := hWm
      have HOm : Hid (Only (fun k => k = LB) w wm) := hOm
      obtain ⟨q1, hq1⟩ : ∃ q1 : Nat, Q r + 1 = q1 := ⟨_, rfl⟩
      have hadd : ((Q r : Nat) : Int) + 1 = (q1 : Int) := by omega
      have hwr : IntKind.i64.wrap (((Q r : Nat) : Int) + 1) = (q1 : Int) := by rw [hadd, IntKind.wrap_i64]; omega
      have hwr2 : wrap64 (((Q r : Nat) : Int) + 1) = (q1 : Int) := by rw [hadd]; unfold wrap64; omega
      rw [hq1] at hwm
      obtain ⟨y4, y5, _, _, _, _⟩ := nine_at HWm.out.blk
      have yr := HWm.out.led.cell hrn
      rw [show bump Q r r = q1 by rw [← hq1]; simp [bump]] at yr
      have HY4 : Hid (wm.cell? ⟨FB, 4, none⟩ = some (.slice ta n cp)) := y4
      rw [hwm] at y4 y5 yr
      by_cases hm : r ∈ S
      · have HE2 : Hid (cnt L X (f + 1) Q v = bump Q r) := by
          have h0 : Q r ≠ 0 := fun e => ((HC.out.led r).1 e) hm
          have := cnt_old (L := L) (X := X) (f := f) (Q := Q) h4 (by rw [hrt]; exact h0)
          rw [hrt] at this
          exact this
        have hqg : (1 : Int) < (q1 : Int) := by
          have h0 : Q r ≠ 0 := fun e => ((HC.out.led r).1 e) hm
          clear hwr hwr2
          omega
        rw [HE2.out]
        rw [hr]
        clear h4 hr hrt hWm hOm hm hadd hq1
        go_enter Tryz.func57, Tryz.ntmps57
        go_wp2
        go_region
        all_goals (try go_wp2)
        go_region
        all_goals (try go_wp2)
        rw [← hwm]
        have hb2 : Below wm.heap.size wm ((wm.alloc (.cells #[.int .i64 v.k, .int .i64 v.n, .string v.s, .int .i64 (r : Nat)] 24)).drew.drew) := (below_alloc _ _).drew.drew
        refine bodyPost_ret (results_none rfl _ _ _) rfl ?_
        exact ⟨rfl, HWm.out.below hb2, HOm.out.trans (Only.below hb2)⟩
      · have HE2 : Hid (cnt L X (f + 1) Q v = cnts L X f (bump Q r) (X r) (L r)) := by
          have := cnt_new (L := L) (X := X) (f := f) (Q := Q) h4 (by rw [hrt]; exact (HC.out.led r).2 hm)
          rw [hrt] at this
          exact this
        have hqg : ¬ ((1 : Int) < (q1 : Int)) := by
          have h0 : Q r = 0 := (HC.out.led r).2 hm
          clear hwr hwr2
          omega
        have hqd : decide ((1 : Int) < (q1 : Int)) = false := decide_eq_false hqg
        have HM0 : Hid (Cmid n L X f (S ++ [r]) (bump Q r) r 0) := by
          have := HC.out.into h4 (by rw [hrt]; exact hm)
          rw [hrt] at this
          exact this
        rw [HE2.out]
        rw [hr]
        obtain rfl := HT.out.top (by omega)
        have HTm : Hid (TabsAt wm (some ⟨TB, TO, none⟩) n TB TO A L C RB RO K X) := HT.out.below HWm.out.bel
        have t0 := HTm.out.tab r hrn
        have lTB : TB < w.heap.size := by have := World.block_lt_of_cell? _ _ t0; simp only at this; omega
        obtain ⟨pa, hpa⟩ : ∃ a, A r = a := ⟨_, rfl⟩
        rw [hpa] at t0
        have HP : Hid (PairsAt w0 pa (L r) (RB r) (RO r) (K r) (X r)) := hpa ▸ HT.out.row r hrn
        have hLr := HL.out r hrn
        rw [hwm] at t0
        clear h4 hr hrt hWm hOm hm hadd hq1 HTm hpa
        go_enter Tryz.func57, Tryz.ntmps57
        go_wp2
        go_region
        all_goals (try go_wp2)
        go_region
        all_goals (try go_wp2)
        go_region
        all_goals (try go_wp2)
        rw [← hwm]
        obtain ⟨w2, hw2⟩ : ∃ w2, w2 = (wm.alloc (.cells #[.int .i64 v.k, .int .i64 v.n, .string v.s, .int .i64 (r : Nat)] 24)).drew.drew.drew := ⟨_, rfl⟩
        have hb2 : Below wm.heap.size wm w2 := by rw [hw2]; exact (below_alloc _ _).drew.drew.drew
        rw [← hw2]
        have HW2 : Hid (SfW w0 w2 FB LB XB base u (some ⟨TB, TO, none⟩) n cp (bump Q r) t ov) := HWm.out.below hb2
        have HO2 : Hid (Only (fun k => k = LB) w w2) := HOm.out.trans (Only.below hb2)
        clear hw2 hb2 hwm x4 x5 xr xf xz y4 y5 yr t0 HY4 hwr hwr2
        go_loopw [39] (fun ii wr => ∃ c : Nat, c ≤ L r ∧ ii = .int .i64 c ∧ Hid (Cmid n L X f (S ++ [r]) (bump Q r) r c) ∧ Hid (SfW w0 wr FB LB XB base u (some ⟨TB, TO, none⟩) n cp (cnts L X f (bump Q r) (X r) c) t ov) ∧ Hid (Only (fun k => k = LB) w wr)) (fun ii _ => L r - (intOf ii).toNat)
        case atStart => exact ⟨0, Nat.zero_le _, rfl, HM0, HW2, HO2⟩
        case round =>
          obtain ⟨c, hc, rfl, HMr, HWr, HOr⟩ := hrel
          clear HW2 HO2
          by_cases hlt : c < L r
          · obtain rfl := HP.out.top (by omega)
            obtain ⟨⟨k0, k1, k2, k3⟩, ⟨v0, v1, v2, v3⟩⟩ := (HP.out.below HWr.out.bel).cells hlt
            have HCt := HMr.out.at HG.out hrn hlt
            have HMn : Hid (Cmid n L X f (S ++ [r]) (bump Q r) r (c + 1)) := HMr.out.next HG.out hrn hlt
            have HQn : Hid (cnts L X f (bump Q r) (X r) (c + 1) = cnt L X f (cnts L X f (bump Q r) (X r) c) (X r c)) := cnts_succ _ _ _ _ _ _
            obtain ⟨wp, hwp⟩ : ∃ wp, wp = wr.alloc (.cells #[.int .i64 (K r c).k, .int .i64 (K r c).n, .string (K r c).s, .int .i64 (K r c).a, .int .i64 (X r c).k, .int .i64 (X r c).n, .string (X r c).s, .int .i64 (X r c).a] 39) := ⟨_, rfl⟩
            have hbp : Below wr.heap.size wr wp := by rw [hwp]; exact below_alloc _ _
            have HWp := HWr.out.below hbp
            have HOp : Hid (Only (fun k => k = LB) w wp) := HOr.out.trans (Only.below hbp)
            have hcall := HIH.out _ _ (X r c) wp HCt HWp
            clear hbp
            go_wp2_with fail
            rw [← hwp]
            refine hcall.mono ?_
            clear hcall hwp k0 k1 k2 k3 v0 v1 v2 v3
            rintro e w5 ⟨rfl, hW5, hO5⟩
            have HW5 : Hid _ := hW5
            have HO5 : Hid (Only (fun k => k = LB) w w5) := HOp.out.trans hO5
            clear hW5 hO5
            go_wp2
            go_roundw
            case rel => exact ⟨c + 1, by omega, by go_num, HMn, by rw [HQn.out]; exact HW5, HO5⟩
            case measure => simp [intOf]; omega
          · obtain rfl : c = L r := by omega
            go_wp2
            go_end0
            exact ⟨rfl, HWr.out, HOr.out⟩
    · have hne : (v.k != 4) = true := by simpa using h4
      rw [cnt_no h4]
      have HB1 : Hid (Below w.heap.size w (w.alloc (.cells #[.int .i64 v.k, .int .i64 v.n, .string v.s, .int .i64 v.a] 24))) := below_alloc _ _
      go_enter Tryz.func57, Tryz.ntmps57
      go_wp2
      refine bodyPost_ret (results_none rfl _ _ _) rfl ?_
      exact ⟨rfl, HW.out.below HB1.out, Only.below HB1.out⟩

end Go.Proofs.YtgflalfiopnmnaaGreatDoor

namespace Go.Proofs.YtgflalfiopnmnaaGreatDoor
open Go.RowKit Vl

theorem cat_list (a b : ByteArray) : (a ++ b).data.toList = a.data.toList ++ b.data.toList := by simp

theorem SfW.next {w0 w : World} {FB LB XB base : Nat} {u : V} {ta : Option Addr} {n cp : Nat} {q : Nat → Nat} {t : Ft} {ov : Value} (h : SfW w0 w FB LB XB base u ta n cp q t ov) (hB : SfB w0 FB LB XB base) :
    SfW w0 (w.setCell ⟨FB, 7, none⟩ (.int .i64 (t.N + 1 : Nat))) FB LB XB base u ta n cp q ⟨t.N + 1, t.lab, t.out⟩ ov := by
  refine ⟨?_, h.led.of_block (Below.heap_setCell _ _ _ _ (fun e => hB.n1 e.symm)), h.lab.of_block (Below.heap_setCell _ _ _ _ (fun e => hB.n2 e.symm)), ?_, h.bel.setCell hB.fb _⟩
  · have hb := h.blk
    simp [World.setCell, Array.getElem?_modify, hb]
  · refine ownsRow_setCell_other h.own (fun e => ?_) _
    obtain ⟨_, _, _, hk⟩ := owns_form h.own
    have := (hk _ e).1
    have := hB.fbb
    simp only at *
    omega
theorem SfW.label {w0 w : World} {FB LB XB base : Nat} {u : V} {ta : Option Addr} {n cp : Nat} {q : Nat → Nat} {t : Ft} {ov : Value} (h : SfW w0 w FB LB XB base u ta n cp q t ov) (hB : SfB w0 FB LB XB base) (r : Nat) :
    SfW w0 (w.setCell ⟨XB, r, none⟩ (.int .i64 (t.N : Nat))) FB LB XB base u ta n cp q ⟨t.N, fun i => if i = r then t.N else t.lab i, t.out⟩ ov := by
  refine ⟨(Below.heap_setCell _ _ _ _ hB.n2).trans h.blk, h.led.of_block (Below.heap_setCell _ _ _ _ hB.n3), ?_, ?_, h.bel.setCell hB.xb _⟩
  · refine (h.lab.set r _).congr (fun i _ => ?_)
    by_cases e : i = r
    · subst e; simp
    · simp [e]
  · refine ownsRow_setCell_other h.own (fun e => ?_) _
    obtain ⟨_, _, _, hk⟩ := owns_form h.own
    have := (hk _ e).1
    have := hB.xbb
    simp only at *
    omega

structure SEnv (w0 : World) (n TB TO cp : Nat) (ta : Option Addr) (A : Nat → Option Addr) (L C RB RO : Nat → Nat) (K X : Nat → Nat → V) (FB LB XB base : Nat) (Q : Nat → Nat) : Prop where
  len : n ≤ 200
  lens : ∀ r, r < n → L r ≤ 100
  good : Good n L X
  tabs : TabsAt w0 ta n TB TO A L C RB RO K X
  sfb : SfB w0 FB LB XB base
  plain : Plain n L K X
  q : ∀ i, Q i ≤ 100000

def SvV (w0 : World) (n : Nat) (ta : Option Addr) (cp : Nat) (L : Nat → Nat) (K X : Nat → Nat → V) (u : V) (FB LB XB base : Nat) (Q : Nat → Nat) (f : Nat) : Prop := ∀ (S : List Nat) (Q0 : Nat → Nat) (t : Ft) (v : V) (w : World) (ov : Value), Hid (Wat n Q L X f S Q0 t v) → shortV v → (frz Q L K X f t v).out.length ≤ 100000000 → base ≤ w.heap.size → Hid (SfW w0 w FB LB XB base u ta n cp Q t ov) →
    Calls Tryz.prog 58 #[.pointer (some ⟨FB, 0, none⟩), .agg #[.int .i64 v.k, .int .i64 v.n, .string v.s, .int .i64 v.a]] w fun e w' => e = .returned (.tuple #[]) ∧ ∃ ov', SfW w0 w' FB LB XB base u ta n cp Q (frz Q L K X f t v) ov' ∧ FrV FB XB ov ov' w w'

def PairB (w : World) (B : Nat) (k x : V) : Prop := w.heap[B]? = some (.cells #[.int .i64 k.k, .int .i64 k.n, .string k.s, .int .i64 k.a, .int .i64 x.k, .int .i64 x.n, .string x.s, .int .i64 x.a] 39 (0, 0))
theorem PairB.cells {w : World} {B : Nat} {k x : V} (h : PairB w B k x) : (w.cell? ⟨B, 0, none⟩ = some (.int .i64 k.k) ∧ w.cell? ⟨B, 1, none⟩ = some (.int .i64 k.n) ∧ w.cell? ⟨B, 2, none⟩ = some (.string k.s) ∧ w.cell? ⟨B, 3, none⟩ = some (.int .i64 k.a)) ∧ (w.cell? ⟨B, 4, none⟩ = some (.int .i64 x.k) ∧ w.cell? ⟨B, 5, none⟩ = some (.int .i64 x.n) ∧ w.cell? ⟨B, 6, none⟩ = some (.string x.s) ∧ w.cell? ⟨B, 7, none⟩ = some (.int .i64 x.a)) := by
  unfold PairB at h
  refine ⟨⟨?_, ?_, ?_, ?_⟩, ?_, ?_, ?_, ?_⟩ <;> simp [World.cell?, h]

set_option maxHeartbeats 8000000 in
set_option maxRecDepth 100000 in
theorem sval_any (w0 : World) (n TB TO cp : Nat) (ta : Option Addr) (A : Nat → Option Addr) (L C RB RO : Nat → Nat) (K X : Nat → Nat → V) (u : V) (FB LB XB base : Nat) (Q : Nat → Nat) (HE : Hid (SEnv w0 n TB TO cp ta A L C RB RO K X FB LB XB base Q)) : ∀ f, SvV w0 n ta cp L K X u FB LB XB base Q f := by
  intro f
  induction f with
  | zero => intro S Q0 t v w ov HA _ _ _ _; have := HA.out.fuel; omega
  | succ f ih =>
    intro S Q0 t v w ov HA hsv hlen hbw HW
    have HIH : Hid _ := ih
    clear ih
    have HB : Hid (SfB w0 FB LB XB base) := HE.out.sfb
    have hFBb : FB < base := HB.out.fbb
    have hXBb : XB < base := HB.out.xbb
    have HKO : Hid (∀ k, ov.ownBlock = some k → k < w.heap.size) := fun k hk => by
      obtain ⟨_, _, _, h⟩ := owns_form HW.out.own
      exact (h k hk).2
    by_cases h4 : v.k = 4
    · obtain ⟨a0, a1⟩ := isV_tab HA.out.val h4
      obtain ⟨r, hr⟩ : ∃ r : Nat, v.a = r := ⟨v.a.toNat, by omega⟩
      have hrn : r < n := by omega
      have hrt : v.a.toNat = r := by omega
      have hN : t.N ≤ 200 := by have := HA.out.ok.few; have := HA.out.fit.len; have := HE.out.len; omega
      have hlabN : t.lab r ≤ 200 := Nat.le_trans (HA.out.ok.top r) hN
      obtain ⟨x4, x5, x6, x7, x8, xz⟩ := nine_at HW.out.blk
      have xr := HW.out.led.cell hrn
      have xl := HW.out.lab.cell hrn
      have l1 : FB < w.heap.size := blk_lt HW.out.blk
      have l2 : LB < w.heap.size := HW.out.led.lt
      have l3 : XB < w.heap.size := HW.out.lab.lt
      have hbd : (0 : Int) ≤ (r : Int) ∧ (r : Int) < (n : Int) := by omega
      have hne : (v.k != 4) = false := by simpa using h4
      by_cases hlab : 0 < t.lab r
      · have HEq : Hid (frz Q L K X (f + 1) t v = t.say (35 :: Lib.itoa (t.lab r : Nat))) := by
          have := wr_old (Q := Q) (L := L) (K := K) (X := X) (f := f) (t := t) h4 (by rw [hrt]; exact hlab)
          rw [hrt] at this
          exact this
        rw [HEq.out] at hlen ⊢
        rw [say_len] at hlen
        have hlo : t.out.length ≤ 100000000 := by omega
        obtain ⟨lv, hlv⟩ : ∃ lv : Nat, t.lab r = lv := ⟨_, rfl⟩
        have HLV : Hid (t.lab r = lv) := hlv
        rw [hlv] at hlab hlabN xl HEq ⊢
        have hlg : (0 : Int) < (lv : Int) := by omega
        have hld : decide ((0 : Int) < (lv : Int)) = true := decide_eq_true hlg
        obtain ⟨w1, hw1⟩ : ∃ w1, w1 = (w.alloc (.cells #[.int .i64 v.k, .int .i64 v.n, .string v.s, .int .i64 (r : Nat)] 24)).drew := ⟨_, rfl⟩
        have HB1 : Hid (Below w.heap.size w w1) := by rw [hw1]; exact (below_alloc _ _).drew
        have HV1 : Hid (ValB w1 w.heap.size ⟨v.k, v.n, v.s, (r : Nat)⟩) := by rw [hw1]; exact heap_alloc_new w _
        have HW1 : Hid (SfW w0 w1 FB LB XB base u ta n cp Q t ov) := HW.out.below HB1.out
        have hdec := l4decimal_any (lv : Nat) (by omega) (by omega)
        have hsl : (Lib.itoa (lv : Nat)).length ≤ 20 := itoa_len (by omega) (by omega)
        obtain ⟨str, hstr⟩ : ∃ str : ByteArray, ⟨(Lib.itoa (lv : Nat)).toArray⟩ = str := ⟨_, rfl⟩
        have HST : Hid (str.data.toList = Lib.itoa (lv : Nat)) := by rw [← hstr]; exact rfl
        have hss : str.size ≤ 20 := by rw [← str_len, HST.out]; exact hsl
        rw [hstr] at hdec
        have HDec : Hid _ := hdec
        obtain ⟨cs, hcs⟩ : ∃ cs : ByteArray, ⟨#[35]⟩ ++ str = cs := ⟨_, rfl⟩
        have HCQ : Hid (⟨#[35]⟩ ++ str = cs) := hcs
        have HCS : Hid (cs.data.toList = 35 :: Lib.itoa (lv : Nat)) := by rw [← hcs]; show _ = _; rw [cat_list, HST.out]; rfl
        have hcz : cs.size ≤ 21 := by rw [← str_len, HCS.out, List.length_cons]; omega
        rw [hr]
        clear h4 hr hrt hlv hstr hsl hcs hdec hlen hlab hlabN
        go_enter Tryz.func58, Tryz.ntmps58
        go_wp2
        go_region
        go_wp2_with fail
        rw [← hw1]
        clear hw1 x4 x5 x6 x7 x8 xz xr xl
        refine wp_region_held_drew (S := fun w' => w'.cell? ⟨FB, 6, none⟩ = some (.slice (some ⟨XB, 0, none⟩) n n) ∧ ValB w' w.heap.size ⟨v.k, v.n, v.s, (r : Nat)⟩ ∧ w'.cell? ⟨XB, r, none⟩ = some (.int .i64 (lv : Nat))) (by kernel_rfl) ⟨(nine_at HW1.out.blk).2.2.1, HV1.out, by have := HW1.out.lab.cell hrn; rw [HLV.out] at this; exact this⟩ (fun hHeld => ?_)
        refine wpT (i := 0) (v := .pointer (some ⟨FB, 0, none⟩)) rfl (fun w hSw => ?_) hHeld ?_
        · first | rfl | go_simp
        simp only [Act.put, pz]
        refine wpT (i := 1) (v := .pointer (some ⟨FB, 0, none⟩)) rfl (fun w hSw => ?_) hHeld ?_
        · first | rfl | go_simp
        simp only [Act.put, pz]
        refine wpT (i := 2) (v := .pointer (some ⟨FB, 0, none⟩)) rfl (fun w hSw => ?_) hHeld ?_
        · first | rfl | go_simp
        simp only [Act.put, pz]
        refine wpT (i := 3) (v := .pointer (some ⟨FB, 6, none⟩)) rfl (fun w hSw => ?_) hHeld ?_
        · first | rfl | go_simp
        simp only [Act.put, pz]
        refine wpT (i := 4) (v := .slice (some ⟨XB, 0, none⟩) n n) rfl (fun w hSw => ?_) hHeld ?_
        · have s1 := hSw.1
          first | rfl | go_simp
        simp only [Act.put, pz]
        refine wpT (i := 5) (v := .pointer (some ⟨w.heap.size, 3, none⟩)) rfl (fun w hSw => ?_) hHeld ?_
        · first | rfl | go_simp
        simp only [Act.put, pz]
        refine wpT (i := 6) (v := .int .i64 (r : Nat)) rfl (fun w hSw => ?_) hHeld ?_
        · obtain ⟨_, _, _, s3, _⟩ := cells4 hSw.2.1
          simp only at s3
          first | rfl | go_simp
        simp only [Act.put, pz]
        refine wpT (i := 7) (v := .pointer (some ⟨XB, r, none⟩)) rfl (fun w hSw => ?_) hHeld ?_
        · first | rfl | go_simp
        simp only [Act.put, pz]
        refine wpT (i := 8) (v := .int .i64 (lv : Nat)) rfl (fun w hSw => ?_) hHeld ?_
        · have s1 := hSw.2.2
          first | rfl | go_simp
        simp only [Act.put, pz]
        refine wpAnyH_ready (rs := [9]) (by kernel_rfl) (by simp) ?_
        refine AllReadyH.cons rfl (fun K' hK' => ?_) AllReadyH.nil
        have hd1 := HDec.out w1.drew
        go_simp
        refine hd1.mono ?_
        clear hd1
        rintro e w2 ⟨rfl, hb2⟩
        have HB2 : Hid (Below w.heap.size w w2) := HB1.out.drew.trans (hb2.mono HB1.out.size)
        have HW2 : Hid (SfW w0 w2 FB LB XB base u ta n cp Q t ov) := HW.out.below HB2.out
        have HV2 : Hid (ValB w2 w.heap.size ⟨v.k, v.n, v.s, (r : Nat)⟩) := blkB (w := w1.drew) HV1.out hb2
        refine hK'.out _ _ ⟨(nine_at HW2.out.blk).2.2.1, HV2.out, by have := HW2.out.lab.cell hrn; rw [HLV.out] at this; exact this⟩ (fun hHeld => ?_)
        clear hK' hb2
        refine wpT (i := 10) (v := .string cs) rfl (fun w hSw => ?_) hHeld ?_
        · go_simp
          rw [if_neg (by omega), HCQ.out]
        simp only [Act.put, pz]
        refine wpAnyH_ready (rs := [11]) (by kernel_rfl) (by simp) ?_
        refine AllReadyH.cons rfl (fun K' hK' => ?_) AllReadyH.nil
        have hc := say_any w0 w2 FB LB XB base u ta n cp Q t ov cs HB (Nat.le_trans hbw HB2.out.size) (by omega) HW2
        go_simp
        refine hc.mono ?_
        clear hc
        rintro e w3 ⟨rfl, o3, hW3, hF3⟩
        rw [HCS.out] at hW3
        have HW3 : Hid (SfW w0 w3 FB LB XB base u ta n cp Q (t.say (35 :: Lib.itoa (lv : Nat))) o3) := hW3
        have HV3 : Hid (ValB w3 w.heap.size ⟨v.k, v.n, v.s, (r : Nat)⟩) := hF3.blk HV2.out (by omega) (by omega) (fun e => by have := HKO.out _ e; omega)
        have HF3 : Hid (FrV FB XB ov o3 w w3) := (FrV.first HB2.out).trans hF3.wide
        refine hK'.out _ _ ⟨(nine_at HW3.out.blk).2.2.1, HV3.out, by have := HW3.out.lab.cell hrn; simp only [Ft.say] at this; rw [HLV.out] at this; exact this⟩ (fun hHeld => ?_)
        clear hK' hHeld hW3 hF3
        refine wpAnyH_done (by kernel_rfl) ?_ _
        go_wp2
        refine bodyPost_ret (results_none rfl _ _ _) rfl ?_
        exact ⟨rfl, o3, HW3.out, HF3.out⟩
      · have hl0 : t.lab r = 0 := by omega
        have hmS : r ∉ S := fun hm => by
          have := HA.out.old h4 (by rw [hrt]; exact hm)
          rw [hrt] at this
          exact hlab this
        have HEq : Hid (frz Q L K X (f + 1) t v = (wrs Q L K X f (t.head Q r) r (L r)).say [125]) := by
          have := wr_new (Q := Q) (L := L) (K := K) (X := X) (f := f) (t := t) h4 (by rw [hrt]; exact hl0)
          rw [hrt] at this
          exact this
        rw [HEq.out] at hlen ⊢
        rw [say_len] at hlen
        have HLP : Hid ((wrs Q L K X f (t.head Q r) r (L r)).out.length ≤ 100000000) := show _ ≤ _ by omega
        have HLH : Hid ((t.head Q r).out.length ≤ 100000000) := by
          have h1 := wrs_mono (Q := Q) (L := L) (K := K) (X := X) f (t.head Q r) r (c := 0) (d := L r) (Nat.zero_le _)
          rw [wrs_zero] at h1
          exact Nat.le_trans h1 HLP.out
        have HMi : Hid (Wmid n Q L X f (S ++ [r]) (bump Q0 r) (t.head Q r) r 0) := by
          have := HA.out.into h4 (by rw [hrt]; exact hmS)
          rw [hrt] at this
          exact this
        have hlo0 : t.out.length ≤ 100000000 := by have := head_len (Q := Q) t r; have := HLH.out; omega
        have hqb := HE.out.q r
        obtain rfl := HE.out.tabs.top (by omega)
        obtain ⟨lv, hlv⟩ : ∃ lv : Nat, t.lab r = lv := ⟨_, rfl⟩
        rw [hlv] at xl
        have hlg : ¬ ((0 : Int) < (lv : Int)) := by omega
        have hld : decide ((0 : Int) < (lv : Int)) = false := decide_eq_false hlg
        obtain ⟨qv, hqv⟩ : ∃ qv : Nat, Q r = qv := ⟨_, rfl⟩
        rw [hqv] at xr
        by_cases hq : 1 < Q r
        · have hqi : (1 : Int) < (qv : Int) := by omega
          have hqd : decide ((1 : Int) < (qv : Int)) = true := decide_eq_true hqi
          obtain ⟨wn, hwn⟩ : ∃ wn, wn = w.setCell ⟨FB, 7, none⟩ (.int .i64 (t.N + 1 : Nat)) := ⟨_, rfl⟩
          have HWn0 : Hid (SfW w0 wn FB LB XB base u (some ⟨TB, TO, none⟩) n cp Q ⟨t.N + 1, t.lab, t.out⟩ ov) := by rw [hwn]; exact HW.out.next HB.out
          obtain ⟨wm, hwm⟩ : ∃ wm, wm = wn.setCell ⟨XB, r, none⟩ (.int .i64 (t.N + 1 : Nat)) := ⟨_, rfl⟩
          have HWm : Hid (SfW w0 wm FB LB XB base u (some ⟨TB, TO, none⟩) n cp Q ⟨t.N + 1, fun i => if i = r then t.N + 1 else t.lab i, t.out⟩ ov) := by rw [hwm]; exact HWn0.out.label HB.out r
          have HOm : Hid (Only (fun k => k = FB ∨ k = XB ∨ ov.ownBlock = some k) w wm) := by
            rw [hwm, hwn]
            exact ((Only.refl (fun k => k = FB ∨ k = XB ∨ ov.ownBlock = some k) w).set (p := ⟨FB, 7, none⟩) (Or.inl rfl) _).set (p := ⟨XB, r, none⟩) (Or.inr (Or.inl rfl)) _
          have hszm : wm.heap.size = w.heap.size := by rw [hwm, hwn]; simp [World.setCell]
          obtain ⟨q1, hq1⟩ : ∃ q1 : Nat, t.N + 1 = q1 := ⟨_, rfl⟩
          have hadd : ((t.N : Nat) : Int) + 1 = (q1 : Int) := by omega
          have hqs : q1 ≤ 201 := by omega
          obtain ⟨_, _, z6, z7, _, zz⟩ := nine_at HWn0.out.blk
          have zl := HWn0.out.lab.cell hrn
          have zf := HWn0.out.lab.frozen r
          simp only at zl z7
          rw [hlv] at zl
          obtain ⟨_, _, _, y7, _, _⟩ := nine_at HWm.out.blk
          simp only at y7
          have hdec := l4decimal_any (q1 : Nat) (by omega) (by omega)
          have hsl : (Lib.itoa (q1 : Nat)).length ≤ 20 := itoa_len (by omega) (by omega)
          obtain ⟨str, hstr⟩ : ∃ str : ByteArray, ⟨(Lib.itoa (q1 : Nat)).toArray⟩ = str := ⟨_, rfl⟩
          have HST : Hid (str.data.toList = Lib.itoa (q1 : Nat)) := by rw [← hstr]; exact rfl
          have hss : str.size ≤ 20 := by rw [← str_len, HST.out]; exact hsl
          rw [hstr] at hdec
          have HDec : Hid _ := hdec
          have HCS : Hid ((⟨#[35]⟩ ++ str ++ ⟨#[61]⟩ : ByteArray).data.toList = 35 :: (Lib.itoa (q1 : Nat) ++ [61])) := by show _ = _; rw [cat_list, cat_list, HST.out]; rfl
          have HTH : Hid ((Ft.mk (t.N + 1) (fun i => if i = r then t.N + 1 else t.lab i) (t.out ++ (35 :: (Lib.itoa (q1 : Nat) ++ [61])))).say [123] = t.head Q r) := by
            show _ = _
            unfold Ft.head
            rw [if_pos hq, hq1]
            rfl
          rw [hq1] at z7 y7 hwn hwm HWm HTH
          have HB1 : Hid (Below wm.heap.size wm ((wm.alloc (.cells #[.int .i64 v.k, .int .i64 v.n, .string v.s, .int .i64 (r : Nat)] 24)).drew.drew.drew)) := (below_alloc _ _).drew.drew.drew
          have HV1 : Hid (ValB (wm.alloc (.cells #[.int .i64 v.k, .int .i64 v.n, .string v.s, .int .i64 (r : Nat)] 24)).drew.drew.drew w.heap.size ⟨v.k, v.n, v.s, (r : Nat)⟩) := by rw [← hszm]; exact heap_alloc_new wm _
          rw [hwm] at y7
          rw [hwn] at z6 z7 zl zf zz y7
          have zf7 := xz 7
          have hwr : wrap64 (((t.N : Nat) : Int) + 1) = (q1 : Int) := by rw [hadd]; clear hwn hwm; unfold wrap64; omega
          rw [hr]
          clear h4 hr hrt hlv hqv hstr hsl hdec hlen hlab hlabN hq hq1 hadd hl0 hmS zz xz hN
          go_enter Tryz.func58, Tryz.ntmps58
          go_wp2
          go_region
          go_wp2
          go_region
          go_wp2
          go_region
          go_wp2_with fail
          rw [← hwn, ← hwm]
          have hd1 := HDec.out ((wm.alloc (.cells #[.int .i64 v.k, .int .i64 v.n, .string v.s, .int .i64 (r : Nat)] 24)).drew.drew.drew)
          refine hd1.mono ?_
          clear hd1 hwn hwm HWn0 z6 z7 zl zf y7 zf7 x4 x5 x6 x7 x8 xr xl hwr
          rintro e w3 ⟨rfl, hb3⟩
          have HB3 : Hid (Below wm.heap.size wm w3) := HB1.out.trans (hb3.mono HB1.out.size)
          have HW3 : Hid (SfW w0 w3 FB LB XB base u (some ⟨TB, TO, none⟩) n cp Q ⟨q1, fun i => if i = r then q1 else t.lab i, t.out⟩ ov) := HWm.out.below HB3.out
          have HV3 : Hid (ValB w3 w.heap.size ⟨v.k, v.n, v.s, (r : Nat)⟩) := blkB HV1.out hb3
          have HF3 : Hid (FrV FB XB ov ov w w3) := ⟨HOm.out.trans (Only.below HB3.out), fun _ _ h => h⟩
          have hz3 : base ≤ w3.heap.size := Nat.le_trans hbw HF3.out.only.size
          have hcz : (⟨#[35]⟩ ++ str ++ ⟨#[61]⟩ : ByteArray).size ≤ 22 := by
            rw [ByteArray.size_append, ByteArray.size_append, show (⟨#[35]⟩ : ByteArray).size = 1 from rfl, show (⟨#[61]⟩ : ByteArray).size = 1 from rfl]
            omega
          have hc := say_any w0 w3 FB LB XB base u (some ⟨TB, TO, none⟩) n cp Q ⟨q1, fun i => if i = r then q1 else t.lab i, t.out⟩ ov (⟨#[35]⟩ ++ str ++ ⟨#[61]⟩) HB hz3 (by show t.out.length + _ ≤ _; omega) HW3
          rw [HCS.out] at hc
          clear hb3 hcz
          go_wp2_with fail
          refine hc.mono ?_
          rintro e w4 ⟨rfl, o4, hS4, hF4⟩
          obtain ⟨t1, ht1⟩ : ∃ t1, Ft.mk q1 (fun i => if i = r then q1 else t.lab i) (t.out ++ (35 :: (Lib.itoa (q1 : Nat) ++ [61]))) = t1 := ⟨_, rfl⟩
          rw [ht1] at HTH
          have HWz : Hid (SfW w0 w4 FB LB XB base u (some ⟨TB, TO, none⟩) n cp Q t1 o4) := by rw [← ht1]; exact hS4
          have HVz : Hid (ValB w4 w.heap.size ⟨v.k, v.n, v.s, (r : Nat)⟩) := hF4.blk HV3.out (by omega) (by omega) (fun e => by have := HKO.out _ e; omega)
          have HFz : Hid (FrV FB XB ov o4 w w4) := HF3.out.trans hF4.wide
          have HOZ : Hid (o4.ownBlock ≠ some w.heap.size) := show _ ≠ _ from fun e => by
            have h1 := hF4.nxt _ (blk_lt HV3.out) e
            have := HKO.out _ h1
            omega
          clear hc hS4 hF4 ht1
          go_wp2_with fail
          have hza : base ≤ w4.heap.size := Nat.le_trans hbw HFz.out.only.size
          have hlz : t1.out.length ≤ 100000000 := by have := HLH.out; rw [← HTH.out, say_len] at this; omega
          have hca := say_any w0 w4 FB LB XB base u (some ⟨TB, TO, none⟩) n cp Q t1 o4 ⟨#[123]⟩ HB hza (by rw [show (⟨#[123]⟩ : ByteArray).size = 1 from rfl]; omega) HWz
          have HCB : Hid ((⟨#[123]⟩ : ByteArray).data.toList = [123]) := rfl
          rw [HCB.out, HTH.out] at hca
          refine hca.mono ?_
          rintro e wa ⟨rfl, oa, hSa, hFa⟩
          have HWa : Hid (SfW w0 wa FB LB XB base u (some ⟨TB, TO, none⟩) n cp Q (t.head Q r) oa) := hSa
          have HFa : Hid (FrV FB XB ov oa w wa) := HFz.out.trans hFa.wide
          have HVa : Hid (ValB wa w.heap.size ⟨v.k, v.n, v.s, (r : Nat)⟩) := hFa.blk HVz.out (by omega) (by omega) HOZ.out
          obtain ⟨p4, _, _, _, _, _⟩ := nine_at HWa.out.blk
          obtain ⟨_, _, _, p3, _⟩ := cells4 HVa.out
          simp only at p3
          have HTa : Hid (TabsAt wa (some ⟨TB, TO, none⟩) n TB TO A L C RB RO K X) := HE.out.tabs.below HWa.out.bel
          have pt := HTa.out.tab r hrn
          obtain ⟨pa, hpa⟩ : ∃ a, A r = a := ⟨_, rfl⟩
          rw [hpa] at pt
          have HP : Hid (PairsAt w0 pa (L r) (RB r) (RO r) (K r) (X r)) := hpa ▸ HE.out.tabs.row r hrn
          have hLr := HE.out.lens r hrn
          clear hca hSa hFa HTa hpa
          go_wp2
          go_region
          all_goals (try go_wp2)
          have HWb : Hid (SfW w0 wa.drew FB LB XB base u (some ⟨TB, TO, none⟩) n cp Q (t.head Q r) oa) := HWa.out.below (Below.refl _ _).drew
          have HFb : Hid (FrV FB XB ov oa w wa.drew) := HFa.out.below (Below.refl _ _).drew
          clear p4 p3 pt
          go_loopw [83] (fun ii wr => ∃ (c : Nat) (o' : Value), c ≤ L r ∧ ii = .int .i64 c ∧ Hid (Wmid n Q L X f (S ++ [r]) (bump Q0 r) (wrs Q L K X f (t.head Q r) r c) r c) ∧ Hid (SfW w0 wr FB LB XB base u (some ⟨TB, TO, none⟩) n cp Q (wrs Q L K X f (t.head Q r) r c) o') ∧ Hid (FrV FB XB ov o' w wr)) (fun ii _ => L r - (intOf ii).toNat)
          case atStart => exact ⟨0, oa, Nat.zero_le _, rfl, HMi, HWb, HFb⟩
          case round =>
            obtain ⟨c, o', hc, rfl, HMr, HWr, HFr⟩ := hrel
            clear HWb HFb
            have hsr : base ≤ wr.heap.size := Nat.le_trans hbw HFr.out.only.size
            by_cases hlt : c < L r
            · obtain rfl := HP.out.top (by omega)
              obtain ⟨⟨k0, k1, k2, k3⟩, ⟨v0, v1, v2, v3⟩⟩ := (HP.out.below HWr.out.bel).cells hlt
              obtain ⟨kk, HKK⟩ : ∃ kk, Hid (K r c = kk) := ⟨_, rfl⟩
              obtain ⟨xx, HXX⟩ : ∃ xx, Hid (X r c = xx) := ⟨_, rfl⟩
              rw [HKK.out] at k0 k1 k2 k3
              rw [HXX.out] at v0 v1 v2 v3
              have HWn : Hid (Wmid n Q L X f (S ++ [r]) (bump Q0 r) (wrs Q L K X f (t.head Q r) r (c + 1)) r (c + 1)) := by
                have := HMr.out.next (K := K) HE.out.good hrn hlt (keyT (K r) c)
                rw [wrs_succ]
                exact this
              have HSn : Hid (wrs Q L K X f (t.head Q r) r (c + 1) = frz Q L K X f ((wrs Q L K X f (t.head Q r) r c).say (keyT (K r) c)) (X r c)) := wrs_succ f (t.head Q r) r c
              have HWat := HMr.out.at HE.out.good hrn hlt (keyT (K r) c)
              have HLn : Hid ((frz Q L K X f ((wrs Q L K X f (t.head Q r) r c).say (keyT (K r) c)) (X r c)).out.length ≤ 100000000) := by
                have := wrs_mono (Q := Q) (L := L) (K := K) (X := X) f (t.head Q r) r (c := c + 1) (d := L r) hlt
                have h2 := HLP.out
                rw [HSn.out] at this
                exact Nat.le_trans this h2
              have hlc : (wrs Q L K X f (t.head Q r) r c).out.length ≤ 100000000 := by
                have := wrs_mono (Q := Q) (L := L) (K := K) (X := X) f (t.head Q r) r hc
                exact Nat.le_trans this HLP.out
              have HKE : Hid (keyT (K r) c = (if 0 < c then [44, 32] else []) ++ plT kk ++ [58, 32]) := by rw [← HKK.out]; exact rfl
              have HPk : Hid (shortV kk) := by rw [← HKK.out]; exact (HE.out.plain.key r hrn c hlt).1
              have HPx : Hid (shortV xx) := by rw [← HXX.out]; exact HE.out.plain.val r hrn c hlt
              have hkl := plT_len HPk.out
              obtain ⟨tc, htc⟩ : ∃ tc, wrs Q L K X f (t.head Q r) r c = tc := ⟨_, rfl⟩
              rw [htc] at HWr hlc HSn HWat HLn
              rw [HXX.out] at HSn HWat HLn
              obtain ⟨wk, hwk⟩ : ∃ wk, wk = wr.alloc (.cells #[.int .i64 kk.k, .int .i64 kk.n, .string kk.s, .int .i64 kk.a, .int .i64 xx.k, .int .i64 xx.n, .string xx.s, .int .i64 xx.a] 39) := ⟨_, rfl⟩
              have HBk : Hid (Below wr.heap.size wr wk) := by rw [hwk]; exact below_alloc _ _
              have HKb : Hid (PairB wk wr.heap.size kk xx) := by rw [hwk]; exact heap_alloc_new _ _
              have hszk : wk.heap.size = wr.heap.size + 1 := by rw [hwk]; simp
              have HQ3 : Hid (o'.ownBlock ≠ some wr.heap.size) := show _ ≠ _ from fun e => by
                obtain ⟨_, _, _, h⟩ := owns_form HWr.out.own
                have := (h _ e).2
                omega
              have HWk : Hid (SfW w0 wk FB LB XB base u (some ⟨TB, TO, none⟩) n cp Q tc o') := HWr.out.below HBk.out
              have HFk : Hid (FrV FB XB ov o' w wk) := HFr.out.below HBk.out
              have hp := fun ww => l4plain_any kk ww HPk.out
              obtain ⟨str, hstr⟩ : ∃ str : ByteArray, ⟨(plT kk).toArray⟩ = str := ⟨_, rfl⟩
              have HST : Hid (str.data.toList = plT kk) := by rw [← hstr]; exact rfl
              have hss : str.size ≤ 1502 := by rw [← str_len, HST.out]; exact hkl
              rw [hstr] at hp
              have HPl : Hid _ := hp
              have HTT : Hid ((str ++ ⟨#[58, 32]⟩).data.toList = plT kk ++ [58, 32]) := by show _ = _; rw [cat_list, HST.out]
              clear htc HBk HFr HWr hstr hp
              by_cases hc0 : 0 < c
              · have hci : (0 : Int) < (c : Int) := by omega
                have hcid : decide ((0 : Int) < (c : Int)) = true := decide_eq_true hci
                have hcb := say_any w0 wk FB LB XB base u (some ⟨TB, TO, none⟩) n cp Q tc o' ⟨#[44, 32]⟩ HB (by omega) (by rw [show (⟨#[44, 32]⟩ : ByteArray).size = 2 from rfl]; omega) HWk
                have HC2 : Hid ((⟨#[44, 32]⟩ : ByteArray).data.toList = [44, 32]) := rfl
                rw [HC2.out] at hcb
                go_wp2_with fail
                rw [← hwk]
                refine hcb.mono ?_
                rintro e wb ⟨rfl, ob, hSb, hFb⟩
                rw [if_pos hc0] at HKE
                clear hcb hwk k0 k1 k2 k3 v0 v1 v2 v3
                have HWb : Hid (SfW w0 wb FB LB XB base u (some ⟨TB, TO, none⟩) n cp Q (tc.say [44, 32]) ob) := hSb
                have HFb : Hid (FrV FB FB o' ob wk wb) := hFb
                have HKb2 : Hid (PairB wb wr.heap.size kk xx) := hFb.blk HKb.out (by omega) (by omega) HQ3.out
                obtain ⟨⟨j0, j1, j2, j3⟩, _⟩ := HKb2.out.cells
                have hzb : base ≤ wb.heap.size := by have := hFb.only.size; omega
                have hpl : ([44, 32] : List UInt8).length ≤ 2 := by decide
                have hpc := HPl.out wb
                clear hSb hFb
                go_wp2_with (go_at_call 98; refine hpc.mono ?_; rintro e wc ⟨rfl, hbc⟩)
                have HBc : Hid (Below wb.heap.size wb wc) := hbc
                have HWc : Hid (SfW w0 wc FB LB XB base u (some ⟨TB, TO, none⟩) n cp Q (tc.say [44, 32]) ob) := HWb.out.below hbc
                have hlen2 : (tc.say [44, 32]).out.length + (str ++ ⟨#[58, 32]⟩).size ≤ 140737488355328 := by
                  rw [say_len, ByteArray.size_append, show (⟨#[58, 32]⟩ : ByteArray).size = 2 from rfl]
                  omega
                have hcd := say_any w0 wc FB LB XB base u (some ⟨TB, TO, none⟩) n cp Q (tc.say [44, 32]) ob (str ++ ⟨#[58, 32]⟩) HB (Nat.le_trans hzb hbc.size) hlen2 HWc
                have HTE : Hid ([44, 32] ++ (plT kk ++ [58, 32]) = keyT (K r) c) := by rw [HKE.out]; show _ = _; simp only [List.append_assoc]
                rw [HTT.out, say_say, HTE.out] at hcd
                clear hpc hbc j0 j1 j2 j3
                refine hcd.mono ?_
                rintro e wd ⟨rfl, od, hSd, hFd⟩
                have HWd : Hid (SfW w0 wd FB LB XB base u (some ⟨TB, TO, none⟩) n cp Q (tc.say (keyT (K r) c)) od) := hSd
                have HFd : Hid (FrV FB XB ov od w wd) := HFk.out.trans ((HFb.out.trans ((FrV.first HBc.out).trans hFd)).wide)
                have HKd : Hid (PairB wd wr.heap.size kk xx) := (HFb.out.trans ((FrV.first HBc.out).trans hFd)).blk HKb.out (by omega) (by omega) HQ3.out
                obtain ⟨_, ⟨j4, j5, j6, j7⟩⟩ := HKd.out.cells
                have hzd : base ≤ wd.heap.size := Nat.le_trans hbw HFd.out.only.size
                clear hcd hSd hFd hlen2 hpl
                have hcv := HIH.out _ _ (tc.say (keyT (K r) c)) xx wd od HWat HPx.out HLn.out hzd HWd
                go_wp2_with fail
                refine hcv.mono ?_
                rintro e wf ⟨rfl, of', hSf, hFf⟩
                have HWf : Hid _ := hSf
                have HFf : Hid (FrV FB XB ov of' w wf) := HFd.out.trans hFf
                clear hcv hSf hFf j4 j5 j6 j7
                go_wp2
                go_roundw
                case rel => exact ⟨c + 1, of', by omega, by go_num, HWn, by rw [HSn.out]; exact HWf, HFf⟩
                case measure => simp [intOf]; omega
              · have hci : ¬ ((0 : Int) < (c : Int)) := by omega
                have hcid : decide ((0 : Int) < (c : Int)) = false := decide_eq_false hci
                obtain ⟨wb, hwb⟩ : ∃ wb, wb = wk := ⟨_, rfl⟩
                have hSb : SfW w0 wb FB LB XB base u (some ⟨TB, TO, none⟩) n cp Q (tc.say []) o' := by rw [hwb, show tc.say [] = tc by simp [Ft.say]]; exact HWk.out
                have hFb : FrV FB FB o' o' wk wb := by rw [hwb]; exact FrV.refl _ _ _ _
                rw [if_neg hc0] at HKE
                go_wp2_with fail
                rw [← hwk, ← hwb]
                clear hwb hwk k0 k1 k2 k3 v0 v1 v2 v3
                have HWb : Hid (SfW w0 wb FB LB XB base u (some ⟨TB, TO, none⟩) n cp Q (tc.say []) o') := hSb
                have HFb : Hid (FrV FB FB o' o' wk wb) := hFb
                have HKb2 : Hid (PairB wb wr.heap.size kk xx) := hFb.blk HKb.out (by omega) (by omega) HQ3.out
                obtain ⟨⟨j0, j1, j2, j3⟩, _⟩ := HKb2.out.cells
                have hzb : base ≤ wb.heap.size := by have := hFb.only.size; omega
                have hpl : ([] : List UInt8).length ≤ 2 := by decide
                have hpc := HPl.out wb
                clear hSb hFb
                go_wp2_with (go_at_call 98; refine hpc.mono ?_; rintro e wc ⟨rfl, hbc⟩)
                have HBc : Hid (Below wb.heap.size wb wc) := hbc
                have HWc : Hid (SfW w0 wc FB LB XB base u (some ⟨TB, TO, none⟩) n cp Q (tc.say []) o') := HWb.out.below hbc
                have hlen2 : (tc.say []).out.length + (str ++ ⟨#[58, 32]⟩).size ≤ 140737488355328 := by
                  rw [say_len, ByteArray.size_append, show (⟨#[58, 32]⟩ : ByteArray).size = 2 from rfl]
                  omega
                have hcd := say_any w0 wc FB LB XB base u (some ⟨TB, TO, none⟩) n cp Q (tc.say []) o' (str ++ ⟨#[58, 32]⟩) HB (Nat.le_trans hzb hbc.size) hlen2 HWc
                have HTE : Hid ([] ++ (plT kk ++ [58, 32]) = keyT (K r) c) := by rw [HKE.out]; show _ = _; simp only [List.append_assoc]
                rw [HTT.out, say_say, HTE.out] at hcd
                clear hpc hbc j0 j1 j2 j3
                refine hcd.mono ?_
                rintro e wd ⟨rfl, od, hSd, hFd⟩
                have HWd : Hid (SfW w0 wd FB LB XB base u (some ⟨TB, TO, none⟩) n cp Q (tc.say (keyT (K r) c)) od) := hSd
                have HFd : Hid (FrV FB XB ov od w wd) := HFk.out.trans ((HFb.out.trans ((FrV.first HBc.out).trans hFd)).wide)
                have HKd : Hid (PairB wd wr.heap.size kk xx) := (HFb.out.trans ((FrV.first HBc.out).trans hFd)).blk HKb.out (by omega) (by omega) HQ3.out
                obtain ⟨_, ⟨j4, j5, j6, j7⟩⟩ := HKd.out.cells
                have hzd : base ≤ wd.heap.size := Nat.le_trans hbw HFd.out.only.size
                clear hcd hSd hFd hlen2 hpl
                have hcv := HIH.out _ _ (tc.say (keyT (K r) c)) xx wd od HWat HPx.out HLn.out hzd HWd
                go_wp2_with fail
                refine hcv.mono ?_
                rintro e wf ⟨rfl, of', hSf, hFf⟩
                have HWf : Hid _ := hSf
                have HFf : Hid (FrV FB XB ov of' w wf) := HFd.out.trans hFf
                clear hcv hSf hFf j4 j5 j6 j7
                go_wp2
                go_roundw
                case rel => exact ⟨c + 1, of', by omega, by go_num, HWn, by rw [HSn.out]; exact HWf, HFf⟩
                case measure => simp [intOf]; omega
            · obtain rfl : c = L r := by omega
              have hlo2 := HLP.out
              have hcz := say_any w0 wr FB LB XB base u (some ⟨TB, TO, none⟩) n cp Q (wrs Q L K X f (t.head Q r) r (L r)) o' ⟨#[125]⟩ HB hsr (by rw [show (⟨#[125]⟩ : ByteArray).size = 1 from rfl]; omega) HWr
              have HCE : Hid ((⟨#[125]⟩ : ByteArray).data.toList = [125]) := rfl
              rw [HCE.out] at hcz
              go_wp2_with fail
              refine hcz.mono ?_
              rintro e we ⟨rfl, oe, hSe, hFe⟩
              have HWe : Hid _ := hSe
              have HFe : Hid (FrV FB XB ov oe w we) := HFr.out.trans hFe.wide
              clear hcz hSe hFe
              go_wp2
              go_end0
              exact ⟨rfl, oe, HWe.out, HFe.out⟩
        · have hqi : ¬ ((1 : Int) < (qv : Int)) := by omega
          have hqd : decide ((1 : Int) < (qv : Int)) = false := decide_eq_false hqi
          have HTH : Hid (t.say [123] = t.head Q r) := by show _ = _; unfold Ft.head; rw [if_neg hq]
          obtain ⟨wz, hwz⟩ : ∃ wz, wz = (w.alloc (.cells #[.int .i64 v.k, .int .i64 v.n, .string v.s, .int .i64 (r : Nat)] 24)).drew.drew := ⟨_, rfl⟩
          have HBz : Hid (Below w.heap.size w wz) := by rw [hwz]; exact (below_alloc _ _).drew.drew
          have HVz : Hid (ValB wz w.heap.size ⟨v.k, v.n, v.s, (r : Nat)⟩) := by rw [hwz]; exact heap_alloc_new w _
          have HWz : Hid (SfW w0 wz FB LB XB base u (some ⟨TB, TO, none⟩) n cp Q t ov) := HW.out.below HBz.out
          have HFz : Hid (FrV FB XB ov ov w wz) := FrV.first HBz.out
          have HOZ : Hid (ov.ownBlock ≠ some w.heap.size) := show _ ≠ _ from fun e => by have := HKO.out _ e; omega
          rw [hr]
          clear h4 hr hrt hlv hqv hlen hlab hlabN hq hl0 hmS
          go_enter Tryz.func58, Tryz.ntmps58
          go_wp2
          go_region
          go_wp2
          go_region
          go_wp2_with fail
          rw [← hwz]
          clear hwz x4 x5 x6 x7 x8 xz xr xl
          have hza : base ≤ wz.heap.size := Nat.le_trans hbw HFz.out.only.size
          have hlz : t.out.length ≤ 100000000 := by have := HLH.out; rw [← HTH.out, say_len] at this; omega
          have hca := say_any w0 wz FB LB XB base u (some ⟨TB, TO, none⟩) n cp Q t ov ⟨#[123]⟩ HB hza (by rw [show (⟨#[123]⟩ : ByteArray).size = 1 from rfl]; omega) HWz
          have HCB : Hid ((⟨#[123]⟩ : ByteArray).data.toList = [123]) := rfl
          rw [HCB.out, HTH.out] at hca
          refine hca.mono ?_
          rintro e wa ⟨rfl, oa, hSa, hFa⟩
          have HWa : Hid (SfW w0 wa FB LB XB base u (some ⟨TB, TO, none⟩) n cp Q (t.head Q r) oa) := hSa
          have HFa : Hid (FrV FB XB ov oa w wa) := HFz.out.trans hFa.wide
          have HVa : Hid (ValB wa w.heap.size ⟨v.k, v.n, v.s, (r : Nat)⟩) := hFa.blk HVz.out (by omega) (by omega) HOZ.out
          obtain ⟨p4, _, _, _, _, _⟩ := nine_at HWa.out.blk
          obtain ⟨_, _, _, p3, _⟩ := cells4 HVa.out
          simp only at p3
          have HTa : Hid (TabsAt wa (some ⟨TB, TO, none⟩) n TB TO A L C RB RO K X) := HE.out.tabs.below HWa.out.bel
          have pt := HTa.out.tab r hrn
          obtain ⟨pa, hpa⟩ : ∃ a, A r = a := ⟨_, rfl⟩
          rw [hpa] at pt
          have HP : Hid (PairsAt w0 pa (L r) (RB r) (RO r) (K r) (X r)) := hpa ▸ HE.out.tabs.row r hrn
          have hLr := HE.out.lens r hrn
          clear hca hSa hFa HTa hpa
          go_wp2
          go_region
          all_goals (try go_wp2)
          have HWb : Hid (SfW w0 wa.drew FB LB XB base u (some ⟨TB, TO, none⟩) n cp Q (t.head Q r) oa) := HWa.out.below (Below.refl _ _).drew
          have HFb : Hid (FrV FB XB ov oa w wa.drew) := HFa.out.below (Below.refl _ _).drew
          clear p4 p3 pt
          go_loopw [83] (fun ii wr => ∃ (c : Nat) (o' : Value), c ≤ L r ∧ ii = .int .i64 c ∧ Hid (Wmid n Q L X f (S ++ [r]) (bump Q0 r) (wrs Q L K X f (t.head Q r) r c) r c) ∧ Hid (SfW w0 wr FB LB XB base u (some ⟨TB, TO, none⟩) n cp Q (wrs Q L K X f (t.head Q r) r c) o') ∧ Hid (FrV FB XB ov o' w wr)) (fun ii _ => L r - (intOf ii).toNat)
          case atStart => exact ⟨0, oa, Nat.zero_le _, rfl, HMi, HWb, HFb⟩
          case round =>
            obtain ⟨c, o', hc, rfl, HMr, HWr, HFr⟩ := hrel
            clear HWb HFb
            have hsr : base ≤ wr.heap.size := Nat.le_trans hbw HFr.out.only.size
            by_cases hlt : c < L r
            · obtain rfl := HP.out.top (by omega)
              obtain ⟨⟨k0, k1, k2, k3⟩, ⟨v0, v1, v2, v3⟩⟩ := (HP.out.below HWr.out.bel).cells hlt
              obtain ⟨kk, HKK⟩ : ∃ kk, Hid (K r c = kk) := ⟨_, rfl⟩
              obtain ⟨xx, HXX⟩ : ∃ xx, Hid (X r c = xx) := ⟨_, rfl⟩
              rw [HKK.out] at k0 k1 k2 k3
              rw [HXX.out] at v0 v1 v2 v3
              have HWn : Hid (Wmid n Q L X f (S ++ [r]) (bump Q0 r) (wrs Q L K X f (t.head Q r) r (c + 1)) r (c + 1)) := by
                have := HMr.out.next (K := K) HE.out.good hrn hlt (keyT (K r) c)
                rw [wrs_succ]
                exact this
              have HSn : Hid (wrs Q L K X f (t.head Q r) r (c + 1) = frz Q L K X f ((wrs Q L K X f (t.head Q r) r c).say (keyT (K r) c)) (X r c)) := wrs_succ f (t.head Q r) r c
              have HWat := HMr.out.at HE.out.good hrn hlt (keyT (K r) c)
              have HLn : Hid ((frz Q L K X f ((wrs Q L K X f (t.head Q r) r c).say (keyT (K r) c)) (X r c)).out.length ≤ 100000000) := by
                have := wrs_mono (Q := Q) (L := L) (K := K) (X := X) f (t.head Q r) r (c := c + 1) (d := L r) hlt
                have h2 := HLP.out
                rw [HSn.out] at this
                exact Nat.le_trans this h2
              have hlc : (wrs Q L K X f (t.head Q r) r c).out.length ≤ 100000000 := by
                have := wrs_mono (Q := Q) (L := L) (K := K) (X := X) f (t.head Q r) r hc
                exact Nat.le_trans this HLP.out
              have HKE : Hid (keyT (K r) c = (if 0 < c then [44, 32] else []) ++ plT kk ++ [58, 32]) := by rw [← HKK.out]; exact rfl
              have HPk : Hid (shortV kk) := by rw [← HKK.out]; exact (HE.out.plain.key r hrn c hlt).1
              have HPx : Hid (shortV xx) := by rw [← HXX.out]; exact HE.out.plain.val r hrn c hlt
              have hkl := plT_len HPk.out
              obtain ⟨tc, htc⟩ : ∃ tc, wrs Q L K X f (t.head Q r) r c = tc := ⟨_, rfl⟩
              rw [htc] at HWr hlc HSn HWat HLn
              rw [HXX.out] at HSn HWat HLn
              obtain ⟨wk, hwk⟩ : ∃ wk, wk = wr.alloc (.cells #[.int .i64 kk.k, .int .i64 kk.n, .string kk.s, .int .i64 kk.a, .int .i64 xx.k, .int .i64 xx.n, .string xx.s, .int .i64 xx.a] 39) := ⟨_, rfl⟩
              have HBk : Hid (Below wr.heap.size wr wk) := by rw [hwk]; exact below_alloc _ _
              have HKb : Hid (PairB wk wr.heap.size kk xx) := by rw [hwk]; exact heap_alloc_new _ _
              have hszk : wk.heap.size = wr.heap.size + 1 := by rw [hwk]; simp
              have HQ3 : Hid (o'.ownBlock ≠ some wr.heap.size) := show _ ≠ _ from fun e => by
                obtain ⟨_, _, _, h⟩ := owns_form HWr.out.own
                have := (h _ e).2
                omega
              have HWk : Hid (SfW w0 wk FB LB XB base u (some ⟨TB, TO, none⟩) n cp Q tc o') := HWr.out.below HBk.out
              have HFk : Hid (FrV FB XB ov o' w wk) := HFr.out.below HBk.out
              have hp := fun ww => l4plain_any kk ww HPk.out
              obtain ⟨str, hstr⟩ : ∃ str : ByteArray, ⟨(plT kk).toArray⟩ = str := ⟨_, rfl⟩
              have HST : Hid (str.data.toList = plT kk) := by rw [← hstr]; exact rfl
              have hss : str.size ≤ 1502 := by rw [← str_len, HST.out]; exact hkl
              rw [hstr] at hp
              have HPl : Hid _ := hp
              have HTT : Hid ((str ++ ⟨#[58, 32]⟩).data.toList = plT kk ++ [58, 32]) := by show _ = _; rw [cat_list, HST.out]
              clear htc HBk HFr HWr hstr hp
              by_cases hc0 : 0 < c
              · have hci : (0 : Int) < (c : Int) := by omega
                have hcid : decide ((0 : Int) < (c : Int)) = true := decide_eq_true hci
                have hcb := say_any w0 wk FB LB XB base u (some ⟨TB, TO, none⟩) n cp Q tc o' ⟨#[44, 32]⟩ HB (by omega) (by rw [show (⟨#[44, 32]⟩ : ByteArray).size = 2 from rfl]; omega) HWk
                have HC2 : Hid ((⟨#[44, 32]⟩ : ByteArray).data.toList = [44, 32]) := rfl
                rw [HC2.out] at hcb
                go_wp2_with fail
                rw [← hwk]
                refine hcb.mono ?_
                rintro e wb ⟨rfl, ob, hSb, hFb⟩
                rw [if_pos hc0] at HKE
                clear hcb hwk k0 k1 k2 k3 v0 v1 v2 v3
                have HWb : Hid (SfW w0 wb FB LB XB base u (some ⟨TB, TO, none⟩) n cp Q (tc.say [44, 32]) ob) := hSb
                have HFb : Hid (FrV FB FB o' ob wk wb) := hFb
                have HKb2 : Hid (PairB wb wr.heap.size kk xx) := hFb.blk HKb.out (by omega) (by omega) HQ3.out
                obtain ⟨⟨j0, j1, j2, j3⟩, _⟩ := HKb2.out.cells
                have hzb : base ≤ wb.heap.size := by have := hFb.only.size; omega
                have hpl : ([44, 32] : List UInt8).length ≤ 2 := by decide
                have hpc := HPl.out wb
                clear hSb hFb
                go_wp2_with (go_at_call 98; refine hpc.mono ?_; rintro e wc ⟨rfl, hbc⟩)
                have HBc : Hid (Below wb.heap.size wb wc) := hbc
                have HWc : Hid (SfW w0 wc FB LB XB base u (some ⟨TB, TO, none⟩) n cp Q (tc.say [44, 32]) ob) := HWb.out.below hbc
                have hlen2 : (tc.say [44, 32]).out.length + (str ++ ⟨#[58, 32]⟩).size ≤ 140737488355328 := by
                  rw [say_len, ByteArray.size_append, show (⟨#[58, 32]⟩ : ByteArray).size = 2 from rfl]
                  omega
                have hcd := say_any w0 wc FB LB XB base u (some ⟨TB, TO, none⟩) n cp Q (tc.say [44, 32]) ob (str ++ ⟨#[58, 32]⟩) HB (Nat.le_trans hzb hbc.size) hlen2 HWc
                have HTE : Hid ([44, 32] ++ (plT kk ++ [58, 32]) = keyT (K r) c) := by rw [HKE.out]; show _ = _; simp only [List.append_assoc]
                rw [HTT.out, say_say, HTE.out] at hcd
                clear hpc hbc j0 j1 j2 j3
                refine hcd.mono ?_
                rintro e wd ⟨rfl, od, hSd, hFd⟩
                have HWd : Hid (SfW w0 wd FB LB XB base u (some ⟨TB, TO, none⟩) n cp Q (tc.say (keyT (K r) c)) od) := hSd
                have HFd : Hid (FrV FB XB ov od w wd) := HFk.out.trans ((HFb.out.trans ((FrV.first HBc.out).trans hFd)).wide)
                have HKd : Hid (PairB wd wr.heap.size kk xx) := (HFb.out.trans ((FrV.first HBc.out).trans hFd)).blk HKb.out (by omega) (by omega) HQ3.out
                obtain ⟨_, ⟨j4, j5, j6, j7⟩⟩ := HKd.out.cells
                have hzd : base ≤ wd.heap.size := Nat.le_trans hbw HFd.out.only.size
                clear hcd hSd hFd hlen2 hpl
                have hcv := HIH.out _ _ (tc.say (keyT (K r) c)) xx wd od HWat HPx.out HLn.out hzd HWd
                go_wp2_with fail
                refine hcv.mono ?_
                rintro e wf ⟨rfl, of', hSf, hFf⟩
                have HWf : Hid _ := hSf
                have HFf : Hid (FrV FB XB ov of' w wf) := HFd.out.trans hFf
                clear hcv hSf hFf j4 j5 j6 j7
                go_wp2
                go_roundw
                case rel => exact ⟨c + 1, of', by omega, by go_num, HWn, by rw [HSn.out]; exact HWf, HFf⟩
                case measure => simp [intOf]; omega
              · have hci : ¬ ((0 : Int) < (c : Int)) := by omega
                have hcid : decide ((0 : Int) < (c : Int)) = false := decide_eq_false hci
                obtain ⟨wb, hwb⟩ : ∃ wb, wb = wk := ⟨_, rfl⟩
                have hSb : SfW w0 wb FB LB XB base u (some ⟨TB, TO, none⟩) n cp Q (tc.say []) o' := by rw [hwb, show tc.say [] = tc by simp [Ft.say]]; exact HWk.out
                have hFb : FrV FB FB o' o' wk wb := by rw [hwb]; exact FrV.refl _ _ _ _
                rw [if_neg hc0] at HKE
                go_wp2_with fail
                rw [← hwk, ← hwb]
                clear hwb hwk k0 k1 k2 k3 v0 v1 v2 v3
                have HWb : Hid (SfW w0 wb FB LB XB base u (some ⟨TB, TO, none⟩) n cp Q (tc.say []) o') := hSb
                have HFb : Hid (FrV FB FB o' o' wk wb) := hFb
                have HKb2 : Hid (PairB wb wr.heap.size kk xx) := hFb.blk HKb.out (by omega) (by omega) HQ3.out
                obtain ⟨⟨j0, j1, j2, j3⟩, _⟩ := HKb2.out.cells
                have hzb : base ≤ wb.heap.size := by have := hFb.only.size; omega
                have hpl : ([] : List UInt8).length ≤ 2 := by decide
                have hpc := HPl.out wb
                clear hSb hFb
                go_wp2_with (go_at_call 98; refine hpc.mono ?_; rintro e wc ⟨rfl, hbc⟩)
                have HBc : Hid (Below wb.heap.size wb wc) := hbc
                have HWc : Hid (SfW w0 wc FB LB XB base u (some ⟨TB, TO, none⟩) n cp Q (tc.say []) o') := HWb.out.below hbc
                have hlen2 : (tc.say []).out.length + (str ++ ⟨#[58, 32]⟩).size ≤ 140737488355328 := by
                  rw [say_len, ByteArray.size_append, show (⟨#[58, 32]⟩ : ByteArray).size = 2 from rfl]
                  omega
                have hcd := say_any w0 wc FB LB XB base u (some ⟨TB, TO, none⟩) n cp Q (tc.say []) o' (str ++ ⟨#[58, 32]⟩) HB (Nat.le_trans hzb hbc.size) hlen2 HWc
                have HTE : Hid ([] ++ (plT kk ++ [58, 32]) = keyT (K r) c) := by rw [HKE.out]; show _ = _; simp only [List.append_assoc]
                rw [HTT.out, say_say, HTE.out] at hcd
                clear hpc hbc j0 j1 j2 j3
                refine hcd.mono ?_
                rintro e wd ⟨rfl, od, hSd, hFd⟩
                have HWd : Hid (SfW w0 wd FB LB XB base u (some ⟨TB, TO, none⟩) n cp Q (tc.say (keyT (K r) c)) od) := hSd
                have HFd : Hid (FrV FB XB ov od w wd) := HFk.out.trans ((HFb.out.trans ((FrV.first HBc.out).trans hFd)).wide)
                have HKd : Hid (PairB wd wr.heap.size kk xx) := (HFb.out.trans ((FrV.first HBc.out).trans hFd)).blk HKb.out (by omega) (by omega) HQ3.out
                obtain ⟨_, ⟨j4, j5, j6, j7⟩⟩ := HKd.out.cells
                have hzd : base ≤ wd.heap.size := Nat.le_trans hbw HFd.out.only.size
                clear hcd hSd hFd hlen2 hpl
                have hcv := HIH.out _ _ (tc.say (keyT (K r) c)) xx wd od HWat HPx.out HLn.out hzd HWd
                go_wp2_with fail
                refine hcv.mono ?_
                rintro e wf ⟨rfl, of', hSf, hFf⟩
                have HWf : Hid _ := hSf
                have HFf : Hid (FrV FB XB ov of' w wf) := HFd.out.trans hFf
                clear hcv hSf hFf j4 j5 j6 j7
                go_wp2
                go_roundw
                case rel => exact ⟨c + 1, of', by omega, by go_num, HWn, by rw [HSn.out]; exact HWf, HFf⟩
                case measure => simp [intOf]; omega
            · obtain rfl : c = L r := by omega
              have hlo2 := HLP.out
              have hcz := say_any w0 wr FB LB XB base u (some ⟨TB, TO, none⟩) n cp Q (wrs Q L K X f (t.head Q r) r (L r)) o' ⟨#[125]⟩ HB hsr (by rw [show (⟨#[125]⟩ : ByteArray).size = 1 from rfl]; omega) HWr
              have HCE : Hid ((⟨#[125]⟩ : ByteArray).data.toList = [125]) := rfl
              rw [HCE.out] at hcz
              go_wp2_with fail
              refine hcz.mono ?_
              rintro e we ⟨rfl, oe, hSe, hFe⟩
              have HWe : Hid _ := hSe
              have HFe : Hid (FrV FB XB ov oe w we) := HFr.out.trans hFe.wide
              clear hcz hSe hFe
              go_wp2
              go_end0
              exact ⟨rfl, oe, HWe.out, HFe.out⟩
    · have hne : (v.k != 4) = true := by simpa using h4
      have HEq : Hid (frz Q L K X (f + 1) t v = t.say (plT v)) := wr_no h4
      rw [HEq.out] at hlen ⊢
      rw [say_len] at hlen
      have hpl := plT_len hsv
      have HB1 : Hid (Below w.heap.size w (w.alloc (.cells #[.int .i64 v.k, .int .i64 v.n, .string v.s, .int .i64 v.a] 24))) := below_alloc _ _
      have hp := l4plain_any v (w.alloc (.cells #[.int .i64 v.k, .int .i64 v.n, .string v.s, .int .i64 v.a] 24)) hsv
      obtain ⟨str, hstr⟩ : ∃ str : ByteArray, ⟨(plT v).toArray⟩ = str := ⟨_, rfl⟩
      have HST : Hid (str.data.toList = plT v) := by rw [← hstr]; exact rfl
      have hss : str.size ≤ 1502 := by rw [← str_len, HST.out]; exact hpl
      rw [hstr] at hp
      clear hstr h4 hpl
      go_enter Tryz.func58, Tryz.ntmps58
      go_wp2_with (go_at_call 98; refine hp.mono ?_; rintro e w2 ⟨rfl, hb2⟩)
      have HB2 : Hid (Below w.heap.size w w2) := HB1.out.trans (hb2.mono HB1.out.size)
      have hc := say_any w0 w2 FB LB XB base u ta n cp Q t ov str HB (Nat.le_trans hbw HB2.out.size) (by omega) (HW.out.below HB2.out)
      clear hp hb2
      go_wp2_with (go_at_call 97; refine hc.mono ?_)
      rintro e w3 ⟨rfl, o3, hW3, hF3⟩
      rw [HST.out] at hW3
      have HW3 : Hid _ := hW3
      have HF3 : Hid (FrV FB XB ov o3 w w3) := (FrV.first HB2.out).trans hF3.wide
      clear hc hW3 hF3
      go_wp2
      refine bodyPost_ret (results_none rfl _ _ _) rfl ?_
      exact ⟨rfl, o3, HW3.out, HF3.out⟩

end Go.Proofs.YtgflalfiopnmnaaGreatDoor
