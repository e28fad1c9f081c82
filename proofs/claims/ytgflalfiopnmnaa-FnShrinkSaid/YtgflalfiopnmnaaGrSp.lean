import Derived.Test.YtgflalfiopnmnaaGrEq2a
import Derived.Test.YtgflalfiopnmnaaGrOk
namespace Go.Proofs.Ytgflalfiopnmnaa
open Go.RowKit Vl

theorem eql_val (u v : V) (w : World) :
    (binOp .eql 24 (.agg #[.int .i64 u.k, .int .i64 u.n, .string u.s, .int .i64 u.a]) (.agg #[.int .i64 v.k, .int .i64 v.n, .string v.s, .int .i64 v.a])).run Try.prog w = .ok (.bool (eqV u v)) w := by
  go_simp
  by_cases h1 : u.k = v.k <;> by_cases h2 : u.n = v.n <;> by_cases h3 : u.s.toList = v.s.toList <;> by_cases h4 : u.a = v.a <;> simp [eqV, h1, h2, h3, h4]

/-- An answer that tells whether P. -/
def Tells (P : Prop) (e : Ending) : Prop := ∃ b, e = .returned (.bool b) ∧ (b = true ↔ P)
theorem tells_no {P : Prop} (h : ¬ P) : Tells P (.returned (.bool false)) := ⟨false, rfl, by simp; exact h⟩
theorem tells_yes {P : Prop} (h : P) : Tells P (.returned (.bool true)) := ⟨true, rfl, by simp; exact h⟩

/-- The cells of a value, written out. -/
theorem VAt.cells {w : World} {b o : Nat} {v : V} (h : VAt w b o v) : w.cell? ⟨b, o, none⟩ = some (.int .i64 v.k) ∧ w.cell? ⟨b, o + 1, none⟩ = some (.int .i64 v.n) ∧ w.cell? ⟨b, o + 2, none⟩ = some (.string v.s) ∧ w.cell? ⟨b, o + 3, none⟩ = some (.int .i64 v.a) := h

set_option maxHeartbeats 2000000 in
set_option maxRecDepth 100000 in
/-- 'spec.GraphOk'. -/
theorem specOk_any (u : V) (ta : Option Addr) (n cp TB TO : Nat) (A : Nat → Option Addr) (L C RB RO : Nat → Nat) (K X : Nat → Nat → V) (w : World) (hn : n ≤ 1048576)
    (HS : Hid (Small 1048576 n L K X)) (HT : Hid (TabsAt w ta n TB TO A L C RB RO K X)) :
    Calls Try.prog 21 #[.agg #[.int .i64 u.k, .int .i64 u.n, .string u.s, .int .i64 u.a, .slice ta n cp]] w fun e w' => Tells (OkG n u L K X) e ∧ Below w.heap.size w w' := by
  obtain ⟨w0, hw0⟩ : ∃ w0, w0 = w.alloc (.cells #[.int .i64 u.k, .int .i64 u.n, .string u.s, .int .i64 u.a, .slice ta n cp] 27) := ⟨_, rfl⟩
  have H0 : Hid (w0.heap[w.heap.size]? = some (.cells #[.int .i64 u.k, .int .i64 u.n, .string u.s, .int .i64 u.a, .slice ta n cp] 27 (0, 0))) := by rw [hw0]; exact heap_alloc_new _ _
  have HB0 : Hid (Below w.heap.size w w0) := by rw [hw0]; exact (Below.refl _ _).alloc (Nat.le_refl _) _
  have HT0 : Hid (TabsAt w0 ta n TB TO A L C RB RO K X) := HT.out.below HB0.out
  by_cases h200 : n ≤ 200
  · obtain ⟨bu, Hbu⟩ : ∃ b, Hid (isV n u = b) := ⟨_, rfl⟩
    have hv := l2val_any u.k u.n u.s u.a ta n cp u w0
    rw [Hbu.out] at hv
    obtain ⟨g0, g1, g2, g3, g4, _⟩ := cells5 H0.out
    go_enter Try.func21, Try.ntmps21
    go_wp2_with fail
    rw [← hw0]
    refine hv.mono ?_
    clear hv
    rintro e w1 ⟨rfl, hb1⟩
    have HW1 : Hid (Below w0.heap.size w0 w1) := hb1
    clear hb1 hw0 g0 g1 g2 g3 g4
    cases bu
    · go_wp2
      go_ret
      exact ⟨tells_no (fun h => by have := h.root; rw [Hbu.out] at this; cases this), grw HB0.out HW1.out⟩
    · have H1 : Hid (w1.heap[w.heap.size]? = some (.cells #[.int .i64 u.k, .int .i64 u.n, .string u.s, .int .i64 u.a, .slice ta n cp] 27 (0, 0))) := (HW1.out.block _ (blk_lt H0.out)).trans H0.out
      obtain ⟨g0, g1, g2, g3, g4, _⟩ := cells5 H1.out
      go_wp2
      clear g0 g1 g2 g3 g4 H1
      go_loopw [22] (fun i wr => ∃ r : Nat, r ≤ n ∧ i = .int .i64 r ∧ Hid (∀ q, q < r → OkT n (L q) (K q) (X q)) ∧ Hid (Below w0.heap.size w0 wr)) (fun i _ => n - (intOf i).toNat)
      case atStart => exact ⟨0, Nat.zero_le _, rfl, fun q hq => absurd hq (Nat.not_lt_zero _), HW1⟩
      case round =>
        obtain ⟨r, hr, rfl, HQ, HW⟩ := hrel
        by_cases hlt : r < n
        · obtain rfl := HT0.out.top (by omega)
          have t0 := (HT0.out.below HW.out).tab r hlt
          obtain ⟨a, ha⟩ : ∃ a, A r = a := ⟨_, rfl⟩
          rw [ha] at t0
          by_cases hl : L r ≤ 100
          · obtain ⟨wt, hwt⟩ : ∃ wt, wt = wr.alloc (.cells #[.slice a (L r) (C r)] 73) := ⟨_, rfl⟩
            have HBt : Hid (Below wr.heap.size wr wt) := by rw [hwt]; exact (Below.refl _ _).alloc (Nat.le_refl _) _
            have Ht : Hid (wt.heap[wr.heap.size]? = some (.cells #[.slice a (L r) (C r)] 73 (0, 0))) := by rw [hwt]; exact heap_alloc_new _ _
            go_wp2
            rw [← hwt]
            have HP : Hid (PairsAt wt a (L r) (RB r) (RO r) (K r) (X r)) := ha ▸ ((HT0.out.below HW.out).below HBt.out).row r hlt
            have HWt : Hid (Below w0.heap.size w0 wt) := grw HW.out HBt.out
            clear hwt t0
            obtain ⟨bt, hbt⟩ : ∃ bt, wr.heap.size = bt := ⟨_, rfl⟩
            rw [hbt] at Ht ⊢
            clear HBt hbt
            go_loopw [33] (fun i wc => ∃ c : Nat, c ≤ L r ∧ i = .int .i64 c ∧ Hid (∀ q, q < c → OkP n (K r) (X r) q) ∧ Hid (Below wt.heap.size wt wc)) (fun i _ => L r - (intOf i).toNat)
            case atStart => exact ⟨0, Nat.zero_le _, rfl, fun q hq => absurd hq (Nat.not_lt_zero _), Below.refl _ _⟩
            case round =>
              obtain ⟨c, hc, rfl, HQc, HWc⟩ := hrel
              by_cases hcl : c < L r
              · obtain rfl := HP.out.top (by omega)
                obtain ⟨⟨k0, k1, k2, k3⟩, ⟨x0, x1, x2, x3⟩⟩ := (HP.out.below HWc.out).cells hcl
                obtain ⟨wp, hwp⟩ : ∃ wp, wp = wr.alloc (.cells #[.int .i64 (K r c).k, .int .i64 (K r c).n, .string (K r c).s, .int .i64 (K r c).a, .int .i64 (X r c).k, .int .i64 (X r c).n, .string (X r c).s, .int .i64 (X r c).a] 75) := ⟨_, rfl⟩
                have HBp : Hid (Below wr.heap.size wr wp) := by rw [hwp]; exact (Below.refl _ _).alloc (Nat.le_refl _) _
                have Hp : Hid (wp.heap[wr.heap.size]? = some (.cells #[.int .i64 (K r c).k, .int .i64 (K r c).n, .string (K r c).s, .int .i64 (K r c).a, .int .i64 (X r c).k, .int .i64 (X r c).n, .string (X r c).s, .int .i64 (X r c).a] 75 (0, 0))) := by rw [hwp]; exact heap_alloc_new _ _
                have HWp : Hid (Below wt.heap.size wt wp) := grw HWc.out HBp.out
                obtain ⟨bk, hbk⟩ : ∃ b, isK (K r c) = b := ⟨_, rfl⟩
                obtain ⟨bx, hbx⟩ : ∃ b, isV n (X r c) = b := ⟨_, rfl⟩
                have hlk := l2key_any (K r c) wp
                rw [hbk] at hlk
                go_wp2_with fail
                rw [← hwp]
                refine hlk.mono ?_
                clear hlk
                rintro e w2 ⟨rfl, hb2⟩
                have HW2 : Hid (Below wt.heap.size wt w2) := grw HWp.out hb2
                have HP2 : Hid (w2.heap[wr.heap.size]? = some (.cells #[.int .i64 (K r c).k, .int .i64 (K r c).n, .string (K r c).s, .int .i64 (K r c).a, .int .i64 (X r c).k, .int .i64 (X r c).n, .string (X r c).s, .int .i64 (X r c).a] 75 (0, 0))) := (hb2.block _ (blk_lt Hp.out)).trans Hp.out
                obtain ⟨bp, hbp⟩ : ∃ bp, wr.heap.size = bp := ⟨_, rfl⟩
                rw [hbp] at HP2 ⊢
                clear hb2 hwp HBp Hp HWp hbp k0 k1 k2 k3 x0 x1 x2 x3 HWc
                cases bk
                · have HN : Hid (¬ OkG n u L K X) := show ¬ OkG n u L K X from fun h => by have := ((h.all r hlt).all c hcl).key; rw [hbk] at this; cases this
                  clear hbk hbx
                  go_wp2
                  go_ret
                  exact ⟨tells_no HN.out, grw HB0.out (grw HWt.out HW2.out)⟩
                · obtain ⟨c0, c1, c2, c3, c4, c5, c6, c7, _⟩ := cells8 HP2.out
                  have HG2 : Hid (w2.heap[w.heap.size]? = some (.cells #[.int .i64 u.k, .int .i64 u.n, .string u.s, .int .i64 u.a, .slice (some ⟨TB, TO, none⟩) n cp] 27 (0, 0))) := ((grw HWt.out HW2.out).block _ (blk_lt H0.out)).trans H0.out
                  obtain ⟨g0, g1, g2, g3, g4, _⟩ := cells5 HG2.out
                  have hlv := l2val_any u.k u.n u.s u.a (some ⟨TB, TO, none⟩) n cp (X r c) w2
                  rw [hbx] at hlv
                  go_wp2_with fail
                  refine hlv.mono ?_
                  clear hlv
                  rintro e w3 ⟨rfl, hb3⟩
                  have HW3 : Hid (Below wt.heap.size wt w3) := grw HW2.out hb3
                  have HP3 : Hid (w3.heap[bp]? = some (.cells #[.int .i64 (K r c).k, .int .i64 (K r c).n, .string (K r c).s, .int .i64 (K r c).a, .int .i64 (X r c).k, .int .i64 (X r c).n, .string (X r c).s, .int .i64 (X r c).a] 75 (0, 0))) := (hb3.block _ (blk_lt HP2.out)).trans HP2.out
                  clear hb3 HG2 HP2 HW2 c0 c1 c2 c3 c4 c5 c6 c7 g0 g1 g2 g3 g4
                  cases bx
                  · have HN : Hid (¬ OkG n u L K X) := show ¬ OkG n u L K X from fun h => by have := ((h.all r hlt).all c hcl).val; rw [hbx] at this; cases this
                    clear hbk hbx
                    go_wp2
                    go_ret
                    exact ⟨tells_no HN.out, grw HB0.out (grw HWt.out HW3.out)⟩
                  · obtain ⟨c0, c1, c2, c3, c4, c5, c6, c7, _⟩ := cells8 HP3.out
                    by_cases hx0 : (X r c).k = 0
                    · have HN : Hid (¬ OkG n u L K X) := show ¬ OkG n u L K X from fun h => ((h.all r hlt).all c hcl).some hx0
                      have hx0' : ((X r c).k == 0) = true := by simpa using hx0
                      clear hbk hbx hx0
                      go_wp2
                      go_ret
                      exact ⟨tells_no HN.out, grw HB0.out (grw HWt.out HW3.out)⟩
                    · have hx0' : ((X r c).k == 0) = false := by simpa using hx0
                      have HX0 : Hid ((X r c).k ≠ 0) := hx0
                      have HBK : Hid (isK (K r c) = true) := hbk
                      have HBX : Hid (isV n (X r c) = true) := hbx
                      clear hbk hbx hx0
                      go_wp2
                      clear c0 c1 c2 c3 c4 c5 c6 c7 hx0'
                      go_loopw [7] (fun i wk => ∃ k : Nat, k ≤ c ∧ i = .int .i64 k ∧ Hid (∀ q, q < k → eqV (K r q) (K r c) = false) ∧ Hid (Below w3.heap.size w3 wk)) (fun i _ => c - (intOf i).toNat)
                      case atStart => exact ⟨0, Nat.zero_le _, rfl, fun q hq => absurd hq (Nat.not_lt_zero _), Below.refl _ _⟩
                      case round =>
                        obtain ⟨k, hk, rfl, HQk, HWk⟩ := hrel
                        by_cases hkc : k < c
                        · obtain ⟨l0, l1, l2, l3⟩ := (((HP.out.below (grw HW3.out HWk.out))).cells (show k < L r by omega)).1
                          have HPk : Hid (wr.heap[bp]? = some (.cells #[.int .i64 (K r c).k, .int .i64 (K r c).n, .string (K r c).s, .int .i64 (K r c).a, .int .i64 (X r c).k, .int .i64 (X r c).n, .string (X r c).s, .int .i64 (X r c).a] 75 (0, 0))) := (HWk.out.block _ (blk_lt HP3.out)).trans HP3.out
                          obtain ⟨c0, c1, c2, c3, c4, c5, c6, c7, _⟩ := cells8 HPk.out
                          have Htk : Hid (wr.heap[bt]? = some (.cells #[.slice (some ⟨RB r, RO r, none⟩) (L r) (C r)] 73 (0, 0))) := ((grw HW3.out HWk.out).block _ (blk_lt Ht.out)).trans Ht.out
                          obtain ⟨t0, _⟩ := one_at Htk.out
                          have heq := eql_val (K r k) (K r c)
                          obtain ⟨be, hbe⟩ : ∃ b, eqV (K r k) (K r c) = b := ⟨_, rfl⟩
                          rw [hbe] at heq
                          cases be
                          · have HQ' : Hid (∀ q, q < k + 1 → eqV (K r q) (K r c) = false) := show ∀ q, q < k + 1 → _ from fun q hq => by
                              by_cases e : q = k
                              · subst e; exact hbe
                              · exact HQk.out q (by omega)
                            clear hbe HQk
                            go_wp2
                            go_quiet (fail)
                            go_wp2
                            go_roundw
                            case rel => exact ⟨k + 1, by omega, by go_num, HQ', below_drewN HWk.out nq⟩
                            case measure => simp [intOf]; omega
                          · have HN : Hid (¬ OkG n u L K X) := show ¬ OkG n u L K X from fun h => by have := ((h.all r hlt).all c hcl).once k hkc; rw [hbe] at this; cases this
                            clear hbe HQk
                            go_wp2
                            go_quiet (fail)
                            go_wp2
                            go_ret
                            exact ⟨tells_no HN.out, below_drewN (grw HB0.out (grw HWt.out (grw HW3.out HWk.out))) nq⟩
                        · obtain rfl : k = c := by omega
                          have HQ' : Hid (∀ q, q < k + 1 → OkP n (K r) (X r) q) := show ∀ q, q < k + 1 → _ from fun q hq => by
                            by_cases e : q = k
                            · subst e; exact ⟨HBK.out, HBX.out, HX0.out, HQk.out⟩
                            · exact HQc.out q (by omega)
                          go_wp2
                          go_roundw
                          case rel => exact ⟨k + 1, by omega, by go_num, HQ', grw HW3.out HWk.out⟩
                          case measure => simp [intOf]; omega
              · obtain rfl : c = L r := by omega
                have HQ' : Hid (∀ q, q < r + 1 → OkT n (L q) (K q) (X q)) := show ∀ q, q < r + 1 → _ from fun q hq => by
                  by_cases e : q = r
                  · subst e; exact ⟨hl, HQc.out⟩
                  · exact HQ.out q (by omega)
                go_wp2
                go_roundw
                case rel => exact ⟨r + 1, by omega, by go_num, HQ', grw HWt.out HWc.out⟩
                case measure => simp [intOf]; omega
          · have HN : Hid (¬ OkG n u L K X) := show ¬ OkG n u L K X from fun h => hl (h.all r hlt).len
            go_wp2
            go_ret
            refine ⟨tells_no HN.out, grw HB0.out (HW.out.alloc ?_ _)⟩
            exact HW.out.size
        · obtain rfl : r = n := by omega
          go_wp2
          go_ret
          exact ⟨tells_yes ⟨h200, Hbu.out, HQ.out⟩, grw HB0.out HW.out⟩
  · have HN : Hid (¬ OkG n u L K X) := show ¬ OkG n u L K X from fun h => h200 h.len
    have hgt : 200 < n := by omega
    obtain ⟨g0, g1, g2, g3, g4, _⟩ := cells5 H0.out
    rw [hw0] at HB0
    clear H0 HT0 hw0 g0 g1 g2 g3 g4
    go_enter Try.func21, Try.ntmps21
    go_wp2
    go_ret
    exact ⟨tells_no HN.out, HB0.out⟩

end Go.Proofs.Ytgflalfiopnmnaa
