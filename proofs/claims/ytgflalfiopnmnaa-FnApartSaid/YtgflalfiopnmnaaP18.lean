import Derived.Test.YtgflalfiopnmnaaP3
import Derived.Test.YtgflalfiopnmnaaP1
import Derived.Test.YtgflalfiopnmnaaVlOrd
import Derived.Test.YtgflalfiopnmnaaVlSp
namespace Go.Proofs.Ytgflalfiopnmnaa
open Go.RowKit Vl

set_option maxHeartbeats 1000000 in
set_option maxRecDepth 100000 in
/-- 'l2at'. -/
theorem l2at_any (u k : V) (r : Nat) (ta : Option Addr) (n cp TB TO : Nat) (A : Nat → Option Addr) (L C RB RO : Nat → Nat) (K X : Nat → Nat → V) (w : World) (hr : r < n) (hL : L r ≤ 1048576) (hn : n ≤ 1048576) (HT : Hid (TabsAt w ta n TB TO A L C RB RO K X)) :
    Calls Try.prog 48 #[.agg #[.int .i64 u.k, .int .i64 u.n, .string u.s, .int .i64 u.a, .slice ta n cp], .int .i64 r, .agg #[.int .i64 k.k, .int .i64 k.n, .string k.s, .int .i64 k.a]] w fun e w' => e = .returned (vAgg (atKey (L r) (K r) (X r) k)) ∧ Below w.heap.size w w' := by
  have A3 : Hid _ := alloc3 w (.cells #[.int .i64 u.k, .int .i64 u.n, .string u.s, .int .i64 u.a, .slice ta n cp] 27) (.cells #[.int .i64 k.k, .int .i64 k.n, .string k.s, .int .i64 k.a] 24) (.cells #[.int .i64 0, .int .i64 0, .string ⟨#[]⟩, .int .i64 0] 24)
  obtain ⟨w0, hw0⟩ : ∃ w0, w0 = ((w.alloc (.cells #[.int .i64 u.k, .int .i64 u.n, .string u.s, .int .i64 u.a, .slice ta n cp] 27)).alloc (.cells #[.int .i64 k.k, .int .i64 k.n, .string k.s, .int .i64 k.a] 24)).alloc (.cells #[.int .i64 0, .int .i64 0, .string ⟨#[]⟩, .int .i64 0] 24) := ⟨_, rfl⟩
  have P0 : Hid (w0.heap[w.heap.size]? = some (.cells #[.int .i64 u.k, .int .i64 u.n, .string u.s, .int .i64 u.a, .slice ta n cp] 27 (0, 0))) := by rw [hw0]; exact A3.out.1
  have P1 : Hid (w0.heap[w.heap.size + 1]? = some (.cells #[.int .i64 k.k, .int .i64 k.n, .string k.s, .int .i64 k.a] 24 (0, 0))) := by rw [hw0]; exact A3.out.2.1
  have P2 : Hid (w0.heap[w.heap.size + 2]? = some (.cells #[.int .i64 0, .int .i64 0, .string ⟨#[]⟩, .int .i64 0] 24 (0, 0))) := by rw [hw0]; exact A3.out.2.2.1
  have HB0 : Hid (Below w.heap.size w w0) := by rw [hw0]; exact A3.out.2.2.2.2
  clear A3
  obtain rfl := HT.out.top (by omega)
  have HT0 : Hid (TabsAt w0 (some ⟨TB, TO, none⟩) n TB TO A L C RB RO K X) := HT.out.below HB0.out
  have t0 := HT0.out.tab r hr
  have hbd : (0 : Int) ≤ (r : Int) ∧ (r : Int) < (n : Int) := by omega
  obtain ⟨a, ha⟩ : ∃ a, A r = a := ⟨_, rfl⟩
  rw [ha] at t0
  have HP : Hid (PairsAt w0 a (L r) (RB r) (RO r) (K r) (X r)) := ha ▸ HT0.out.row r hr
  rw [hw0] at t0
  go_enter Try.func48, Try.ntmps48
  go_wp2
  rw [← hw0]
  clear hw0 t0 ha HT HT0 hbd
  obtain ⟨b, hb⟩ : ∃ b, w.heap.size = b := ⟨_, rfl⟩
  rw [hb] at P0 P1 P2 ⊢
  go_loopw [16] (fun ii wr => ∃ c : Nat, c ≤ L r ∧ ii = .int .i64 c ∧ Hid (∀ j, j < c → eqV (K r j) k = false) ∧ Hid (Below w0.heap.size w0 wr)) (fun ii _ => L r - (intOf ii).toNat)
  case atStart => exact ⟨0, Nat.zero_le _, rfl, fun j hj => absurd hj (Nat.not_lt_zero _), Below.refl _ _⟩
  case round =>
    obtain ⟨c, hc, rfl, HQ, HW⟩ := hrel
    by_cases hlt : c < L r
    · obtain rfl := HP.out.top (by omega)
      obtain ⟨⟨k0, k1, k2, k3⟩, ⟨x0, x1, x2, x3⟩⟩ := (HP.out.below HW.out).cells hlt
      obtain ⟨wp, hwp⟩ : ∃ wp, wp = wr.alloc (.cells #[.int .i64 (K r c).k, .int .i64 (K r c).n, .string (K r c).s, .int .i64 (K r c).a, .int .i64 (X r c).k, .int .i64 (X r c).n, .string (X r c).s, .int .i64 (X r c).a] 75) := ⟨_, rfl⟩
      have HBp : Hid (Below wr.heap.size wr wp) := by rw [hwp]; exact (Below.refl _ _).alloc (Nat.le_refl _) _
      have HWp : Hid (Below w0.heap.size w0 wp) := grw HW.out HBp.out
      have hlw : b + 2 < wr.heap.size := Nat.lt_of_lt_of_le (blk_lt P2.out) HW.out.size
      have R1 : Hid (wr.heap[b + 1]? = some (.cells #[.int .i64 k.k, .int .i64 k.n, .string k.s, .int .i64 k.a] 24 (0, 0))) := blkB P1.out HW.out
      have R2 : Hid (wp.heap[b + 2]? = some (.cells #[.int .i64 0, .int .i64 0, .string ⟨#[]⟩, .int .i64 0] 24 (0, 0))) := blkB P2.out HWp.out
      obtain ⟨y0, y1, y2, y3, _⟩ := cells4 R1.out
      have heq := eql_val (K r c) k
      obtain ⟨be, hbe⟩ : ∃ x, eqV (K r c) k = x := ⟨_, rfl⟩
      rw [hbe] at heq
      have hl1 : b + 1 < wr.heap.size := by omega
      cases be
      · have HQ' : Hid (∀ j, j < c + 1 → eqV (K r j) k = false) := show ∀ j, j < c + 1 → _ from fun j hj => by
          by_cases e : j = c
          · subst e; exact hbe
          · exact HQ.out j (by omega)
        clear hbe HQ R1 R2
        go_wp2
        rw [← hwp]
        go_roundw
        case rel => exact ⟨c + 1, by omega, by go_num, HQ', HWp⟩
        case measure => simp [intOf]; omega
      · have HX : Hid (atKey (L r) (K r) (X r) k = X r c) := atKey_hit hlt hbe HQ.out
        clear hbe HQ
        have E2 : ∀ o, ((wr.alloc o).cell? ⟨b + 1 + 1, 0, none⟩ = some (.int .i64 0) ∧ (wr.alloc o).cell? ⟨b + 1 + 1, 1, none⟩ = some (.int .i64 0) ∧ (wr.alloc o).cell? ⟨b + 1 + 1, 2, none⟩ = some (.string ⟨#[]⟩) ∧ (wr.alloc o).cell? ⟨b + 1 + 1, 3, none⟩ = some (.int .i64 0) ∧ ∀ i, (wr.alloc o).frozen? ⟨b + 1 + 1, i, none⟩ = false) := fun o =>
          cells4 (blkB (blkB P2.out HW.out) ((Below.refl _ _).alloc (Nat.le_refl _) o))
        have e0 := fun o => (E2 o).1
        have e1 := fun o => (E2 o).2.1
        have e2 := fun o => (E2 o).2.2.1
        have e3 := fun o => (E2 o).2.2.2.1
        have e4 := fun o => (E2 o).2.2.2.2
        clear E2
        have F2 : wr.cell? ⟨b + 1 + 1, 0, none⟩ = some (.int .i64 0) ∧ wr.cell? ⟨b + 1 + 1, 1, none⟩ = some (.int .i64 0) ∧ wr.cell? ⟨b + 1 + 1, 2, none⟩ = some (.string ⟨#[]⟩) ∧ wr.cell? ⟨b + 1 + 1, 3, none⟩ = some (.int .i64 0) ∧ ∀ i, wr.frozen? ⟨b + 1 + 1, i, none⟩ = false := cells4 (blkB P2.out HW.out)
        obtain ⟨f0, f1, f2, f3, f4⟩ := F2
        have hl2 : b + 1 + 1 < wr.heap.size := hlw
        go_wp2
        have Q := put4r (blkB P2.out HW.out) (.int .i64 (X r c).k) (.int .i64 (X r c).n) (.string (X r c).s) (.int .i64 (X r c).a)
        obtain ⟨q0, q1, q2, q3, _⟩ := cells4 (blkB Q ((Below.refl _ _).alloc (Nat.le_refl _) (.cells #[.int .i64 (K r c).k, .int .i64 (K r c).n, .string (K r c).s, .int .i64 (K r c).a, .int .i64 (X r c).k, .int .i64 (X r c).n, .string (X r c).s, .int .i64 (X r c).a] 75)))
        have HF : Hid (Below w.heap.size w ((((wr.setCell ⟨b + 2, 0, none⟩ (.int .i64 (X r c).k)).setCell ⟨b + 2, 1, none⟩ (.int .i64 (X r c).n)).setCell ⟨b + 2, 2, none⟩ (.string (X r c).s)).setCell ⟨b + 2, 3, none⟩ (.int .i64 (X r c).a))) := (grw HB0.out HW.out).trans (set4_below.mono (by omega))
        refine bodyPost_ret (v := vAgg (X r c)) (by simp [results, Try.results48, go_sem, q0, q1, q2, q3]) rfl ⟨by rw [HX.out], ?_⟩
        exact HF.out.alloc HF.out.size _
    · have HX : Hid (atKey (L r) (K r) (X r) k = zeroV) := atKey_none (fun j hj => HQ.out j (by omega))
      have R2 : Hid (wr.heap[b + 2]? = some (.cells #[.int .i64 0, .int .i64 0, .string ⟨#[]⟩, .int .i64 0] 24 (0, 0))) := blkB P2.out HW.out
      obtain ⟨e0, e1, e2, e3, e4⟩ := cells4 R2.out
      go_wp2
      obtain ⟨q0, q1, q2, q3, _⟩ := cells4 (put4r R2.out (.int .i64 0) (.int .i64 0) (.string ⟨#[]⟩) (.int .i64 0))
      refine bodyPost_ret (v := vAgg zeroV) (by simp [results, Try.results48, go_sem, q0, q1, q2, q3, zeroV]) rfl ⟨by rw [HX.out], ?_⟩
      exact (grw HB0.out HW.out).trans (set4_below.mono (by omega))

end Go.Proofs.Ytgflalfiopnmnaa
