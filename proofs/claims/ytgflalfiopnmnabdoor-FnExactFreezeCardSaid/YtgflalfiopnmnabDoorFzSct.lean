import Derived.Test.YtgflalfiopnmnabDoorFzSpl
namespace Go.Proofs.YtgflalfiopnmnabDoor
open Go.RowKit Vl

/-- What is asked of 'count'. -/
def ScV (n : Nat) (L : Nat → Nat) (X : Nat → Nat → V) (w0 : World) (FB LB XB base : Nat) (u : V) (ta : Option Addr) (cp : Nat) (t : Ft) (ov : Value) (f : Nat) : Prop := ∀ (S : List Nat) (Q : Nat → Nat) (v : V) (w : World), Hid (Cat n L X f S Q v) → Hid (SfW w0 w FB LB XB base u ta n cp Q t ov) →
    Calls Tryd.prog 26 #[.pointer (some ⟨FB, 0, none⟩), .agg #[.int .i64 v.k, .int .i64 v.n, .string v.s, .int .i64 v.a]] w fun e w' => e = .returned (.tuple #[]) ∧ SfW w0 w' FB LB XB base u ta n cp (cnt L X f Q v) t ov ∧ Only (fun k => k = LB) w w'

set_option maxHeartbeats 4000000 in
set_option maxRecDepth 100000 in
/-- '(*l4F).count'. -/
theorem count_any (n TB TO cp : Nat) (ta : Option Addr) (A : Nat → Option Addr) (L C RB RO : Nat → Nat) (K X : Nat → Nat → V) (u : V) (w0 : World) (FB LB XB base : Nat) (t : Ft) (ov : Value) (hn : n ≤ 200) (HL : Hid (∀ r, r < n → L r ≤ 100)) (HG : Hid (Good n L X))
    (HT : Hid (TabsAt w0 ta n TB TO A L C RB RO K X)) (HB : Hid (SfB w0 FB LB XB base)) : ∀ f, ScV n L X w0 FB LB XB base u ta cp t ov f := by
  intro f
  induction f with
  | zero => intro S Q v w HC _; have := HC.out.fuel; omega
  | succ f ih =>
    intro S Q v w HC HW
    have HIH : Hid _ := ih
    clear ih
    by_cases h4 : v.k = 4
    · obtain ⟨a0, a1⟩ := isV_tab HC.out.val h4
      obtain ⟨r, hr⟩ : ∃ r : Nat, v.a = r := ⟨v.a.toNat, by omega⟩
      have hrn : r < n := by omega
      have hrt : v.a.toNat = r := by omega
      have hbq : Q r + 1 ≤ 100000 := by have := HC.out.old h4; rw [hrt] at this; exact this
      obtain ⟨x4, x5, _, _, _, xz⟩ := nine_at HW.out.blk
      have xr := HW.out.led.cell hrn
      have xf := HW.out.led.frozen r
      have l1 : FB < w.heap.size := blk_lt HW.out.blk
      have l2 : LB < w.heap.size := HW.out.led.lt
      have hbd : (0 : Int) ≤ (r : Int) ∧ (r : Int) < (n : Int) := by omega
      have hne : (v.k != 4) = false := by simpa using h4
      obtain ⟨hWm, hOm⟩ := HW.out.inc HB.out r
      obtain ⟨wm, hwm⟩ : ∃ wm, wm = w.setCell ⟨LB, r, none⟩ (.int .i64 (Q r + 1 : Nat)) := ⟨_, rfl⟩
      rw [← hwm] at hWm hOm
      have hszm : wm.heap.size = w.heap.size := by rw [hwm]; simp [World.setCell]
      have HWm : Hid (SfW w0 wm FB LB XB base u ta n cp (bump Q r) t ov) := hWm
      have HOm : Hid (Only (fun k => k = LB) w wm) := hOm
      obtain ⟨q1, hq1⟩ : ∃ q1 : Nat, Q r + 1 = q1 := ⟨_, rfl⟩
      have hadd : ((Q r : Nat) : Int) + 1 = (q1 : Int) := by omega
      have hwr : IntKind.i64.wrap (((Q r : Nat) : Int) + 1) = (q1 : Int) := by rw [hadd, IntKind.wrap_i64]; omega
      have hwr2 : wrap64 (((Q r : Nat) : Int) + 1) = (q1 : Int) := by rw [hadd]; unfold wrap64; omega
      rw [hq1] at hwm
      obtain ⟨y4, y5, _, _, _, _⟩ := nine_at HWm.out.blk
      have yr := HWm.out.led.cell hrn
      rw [show bump Q r r = q1 by rw [← hq1]; simp [bump]] at yr
      have HY4 : Hid (wm.cell? ⟨FB, 4, none⟩ = some (.slice ta n cp)) := y4
      rw [hwm] at y4 y5 yr
      by_cases hm : r ∈ S
      · have HE2 : Hid (cnt L X (f + 1) Q v = bump Q r) := by
          have h0 : Q r ≠ 0 := fun e => ((HC.out.led r).1 e) hm
          have := cnt_old (L := L) (X := X) (f := f) (Q := Q) h4 (by rw [hrt]; exact h0)
          rw [hrt] at this
          exact this
        have hqg : (1 : Int) < (q1 : Int) := by
          have h0 : Q r ≠ 0 := fun e => ((HC.out.led r).1 e) hm
          clear hwr hwr2
          omega
        rw [HE2.out]
        rw [hr]
        clear h4 hr hrt hWm hOm hm hadd hq1
        go_enter Tryd.func26, Tryd.ntmps26
        go_wp2
        go_region
        all_goals (try go_wp2)
        go_region
        all_goals (try go_wp2)
        rw [← hwm]
        have hb2 : Below wm.heap.size wm ((wm.alloc (.cells #[.int .i64 v.k, .int .i64 v.n, .string v.s, .int .i64 (r : Nat)] 29)).drew.drew) := (below_alloc _ _).drew.drew
        refine bodyPost_ret (results_none rfl _ _ _) rfl ?_
        exact ⟨rfl, HWm.out.below hb2, HOm.out.trans (Only.below hb2)⟩
      · have HE2 : Hid (cnt L X (f + 1) Q v = cnts L X f (bump Q r) (X r) (L r)) := by
          have := cnt_new (L := L) (X := X) (f := f) (Q := Q) h4 (by rw [hrt]; exact (HC.out.led r).2 hm)
          rw [hrt] at this
          exact this
        have hqg : ¬ ((1 : Int) < (q1 : Int)) := by
          have h0 : Q r = 0 := (HC.out.led r).2 hm
          clear hwr hwr2
          omega
        have hqd : decide ((1 : Int) < (q1 : Int)) = false := decide_eq_false hqg
        have HM0 : Hid (Cmid n L X f (S ++ [r]) (bump Q r) r 0) := by
          have := HC.out.into h4 (by rw [hrt]; exact hm)
          rw [hrt] at this
          exact this
        rw [HE2.out]
        rw [hr]
        obtain rfl := HT.out.top (by omega)
        have HTm : Hid (TabsAt wm (some ⟨TB, TO, none⟩) n TB TO A L C RB RO K X) := HT.out.below HWm.out.bel
        have t0 := HTm.out.tab r hrn
        have lTB : TB < w.heap.size := by have := World.block_lt_of_cell? _ _ t0; simp only at this; omega
        obtain ⟨pa, hpa⟩ : ∃ a, A r = a := ⟨_, rfl⟩
        rw [hpa] at t0
        have HP : Hid (PairsAt w0 pa (L r) (RB r) (RO r) (K r) (X r)) := hpa ▸ HT.out.row r hrn
        have hLr := HL.out r hrn
        rw [hwm] at t0
        clear h4 hr hrt hWm hOm hm hadd hq1 HTm hpa
        go_enter Tryd.func26, Tryd.ntmps26
        go_wp2
        go_region
        all_goals (try go_wp2)
        go_region
        all_goals (try go_wp2)
        go_region
        all_goals (try go_wp2)
        rw [← hwm]
        obtain ⟨w2, hw2⟩ : ∃ w2, w2 = (wm.alloc (.cells #[.int .i64 v.k, .int .i64 v.n, .string v.s, .int .i64 (r : Nat)] 29)).drew.drew.drew := ⟨_, rfl⟩
        have hb2 : Below wm.heap.size wm w2 := by rw [hw2]; exact (below_alloc _ _).drew.drew.drew
        rw [← hw2]
        have HW2 : Hid (SfW w0 w2 FB LB XB base u (some ⟨TB, TO, none⟩) n cp (bump Q r) t ov) := HWm.out.below hb2
        have HO2 : Hid (Only (fun k => k = LB) w w2) := HOm.out.trans (Only.below hb2)
        clear hw2 hb2 hwm x4 x5 xr xf xz y4 y5 yr t0 HY4 hwr hwr2
        go_loopw [39] (fun ii wr => ∃ c : Nat, c ≤ L r ∧ ii = .int .i64 c ∧ Hid (Cmid n L X f (S ++ [r]) (bump Q r) r c) ∧ Hid (SfW w0 wr FB LB XB base u (some ⟨TB, TO, none⟩) n cp (cnts L X f (bump Q r) (X r) c) t ov) ∧ Hid (Only (fun k => k = LB) w wr)) (fun ii _ => L r - (intOf ii).toNat)
        case atStart => exact ⟨0, Nat.zero_le _, rfl, HM0, HW2, HO2⟩
        case round =>
          obtain ⟨c, hc, rfl, HMr, HWr, HOr⟩ := hrel
          clear HW2 HO2
          by_cases hlt : c < L r
          · obtain rfl := HP.out.top (by omega)
            obtain ⟨⟨k0, k1, k2, k3⟩, ⟨v0, v1, v2, v3⟩⟩ := (HP.out.below HWr.out.bel).cells hlt
            have HCt := HMr.out.at HG.out hrn hlt
            have HMn : Hid (Cmid n L X f (S ++ [r]) (bump Q r) r (c + 1)) := HMr.out.next HG.out hrn hlt
            have HQn : Hid (cnts L X f (bump Q r) (X r) (c + 1) = cnt L X f (cnts L X f (bump Q r) (X r) c) (X r c)) := cnts_succ _ _ _ _ _ _
            obtain ⟨wp, hwp⟩ : ∃ wp, wp = wr.alloc (.cells #[.int .i64 (K r c).k, .int .i64 (K r c).n, .string (K r c).s, .int .i64 (K r c).a, .int .i64 (X r c).k, .int .i64 (X r c).n, .string (X r c).s, .int .i64 (X r c).a] 77) := ⟨_, rfl⟩
            have hbp : Below wr.heap.size wr wp := by rw [hwp]; exact below_alloc _ _
            have HWp := HWr.out.below hbp
            have HOp : Hid (Only (fun k => k = LB) w wp) := HOr.out.trans (Only.below hbp)
            have hcall := HIH.out _ _ (X r c) wp HCt HWp
            clear hbp
            go_wp2_with fail
            rw [← hwp]
            refine hcall.mono ?_
            clear hcall hwp k0 k1 k2 k3 v0 v1 v2 v3
            rintro e w5 ⟨rfl, hW5, hO5⟩
            have HW5 : Hid _ := hW5
            have HO5 : Hid (Only (fun k => k = LB) w w5) := HOp.out.trans hO5
            clear hW5 hO5
            go_wp2
            go_roundw
            case rel => exact ⟨c + 1, by omega, by go_num, HMn, by rw [HQn.out]; exact HW5, HO5⟩
            case measure => simp [intOf]; omega
          · obtain rfl : c = L r := by omega
            go_wp2
            go_end0
            exact ⟨rfl, HWr.out, HOr.out⟩
    · have hne : (v.k != 4) = true := by simpa using h4
      rw [cnt_no h4]
      have HB1 : Hid (Below w.heap.size w (w.alloc (.cells #[.int .i64 v.k, .int .i64 v.n, .string v.s, .int .i64 v.a] 29))) := below_alloc _ _
      go_enter Tryd.func26, Tryd.ntmps26
      go_wp2
      refine bodyPost_ret (results_none rfl _ _ _) rfl ?_
      exact ⟨rfl, HW.out.below HB1.out, Only.below HB1.out⟩

end Go.Proofs.YtgflalfiopnmnabDoor
