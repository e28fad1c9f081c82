import Derived.Test.YtgflalfiopnmnabGtSpec
namespace Go.Proofs.Ytgflalfiopnmnab
open Go.RowKit Vl


/-- The blocks of 'l2get': the graph, the answer, the value that was come to. -/
structure GetW (w wr : World) (b : Nat) (g : Array Value) (v : V) : Prop where
  graph : wr.heap[b]? = some (.cells g 32 (0, 0))
  res : ValB wr (b + 1) zeroV
  cur : ValB wr (b + 2) v
  bel : Below w.heap.size w wr
theorem GetW.below {w wr wr' : World} {b : Nat} {g : Array Value} {v : V} (h : GetW w wr b g v) (hb : Below wr.heap.size wr wr') : GetW w wr' b g v :=
  ⟨blkB h.graph hb, h.res.below hb, h.cur.below hb, grw h.bel hb⟩
theorem GetW.put {w wr : World} {b : Nat} {g : Array Value} {v : V} (h : GetW w wr b g v) (hb : w.heap.size ≤ b) (x : V) : GetW w ((((wr.setCell ⟨b + 2, 0, none⟩ (.int .i64 x.k)).setCell ⟨b + 2, 1, none⟩ (.int .i64 x.n)).setCell ⟨b + 2, 2, none⟩ (.string x.s)).setCell ⟨b + 2, 3, none⟩ (.int .i64 x.a)) b g x :=
  ⟨(set4_far (by omega)).trans h.graph, (set4_far (by omega)).trans h.res, h.cur.put x, h.bel.trans (set4_below.mono (by omega))⟩

set_option maxHeartbeats 1000000 in
set_option maxRecDepth 100000 in
/-- 'l2get'. -/
theorem l2get_any (u : V) (pa : Option Addr) (m mc PB PO : Nat) (P : Nat → V) (ta : Option Addr) (n cp TB TO : Nat) (A : Nat → Option Addr) (L C RB RO : Nat → Nat) (K X : Nat → Nat → V) (w : World) (hm : m ≤ 1048576) (hn : n ≤ 1048576) (HS : Hid (Small 1048576 n L K X)) (HG : Hid (OkG n u L K X))
    (HP : Hid (ValsAt w pa m PB PO P)) (HT : Hid (TabsAt w ta n TB TO A L C RB RO K X)) :
    Calls Try.prog 59 #[.agg #[.int .i64 u.k, .int .i64 u.n, .string u.s, .int .i64 u.a, .slice ta n cp], .slice pa m mc] w fun e w' => e = .returned (vAgg (lead u L K X P m)) ∧ Below w.heap.size w w' := by
  have A3 : Hid _ := alloc3 w (.cells #[.int .i64 u.k, .int .i64 u.n, .string u.s, .int .i64 u.a, .slice ta n cp] 32) (.cells #[.int .i64 0, .int .i64 0, .string ⟨#[]⟩, .int .i64 0] 29) (.cells #[.int .i64 u.k, .int .i64 u.n, .string u.s, .int .i64 u.a] 29)
  obtain ⟨w0, hw0⟩ : ∃ w0, w0 = ((w.alloc (.cells #[.int .i64 u.k, .int .i64 u.n, .string u.s, .int .i64 u.a, .slice ta n cp] 32)).alloc (.cells #[.int .i64 0, .int .i64 0, .string ⟨#[]⟩, .int .i64 0] 29)).alloc (.cells #[.int .i64 u.k, .int .i64 u.n, .string u.s, .int .i64 u.a] 29) := ⟨_, rfl⟩
  have H0 : Hid (GetW w w0 w.heap.size #[.int .i64 u.k, .int .i64 u.n, .string u.s, .int .i64 u.a, .slice ta n cp] u) := by rw [hw0]; exact ⟨A3.out.1, A3.out.2.1, A3.out.2.2.1, A3.out.2.2.2.2⟩
  clear A3
  go_enter Try.func59, Try.ntmps59
  go_wp2
  rw [← hw0]
  obtain ⟨b, hb⟩ : ∃ b, w.heap.size = b := ⟨_, rfl⟩
  rw [hb] at H0 ⊢
  clear hw0
  go_loopw [12] (fun ii wr => ∃ i : Nat, i ≤ m ∧ ii = .int .i64 i ∧ Hid (GetW w wr b #[.int .i64 u.k, .int .i64 u.n, .string u.s, .int .i64 u.a, .slice ta n cp] (lead u L K X P i))) (fun ii _ => m - (intOf ii).toNat)
  case atStart => exact ⟨0, Nat.zero_le _, rfl, H0⟩
  case round =>
    obtain ⟨i, hi, rfl, HW⟩ := hrel
    clear H0
    by_cases hlt : i < m
    · obtain rfl := HP.out.top (by omega)
      obtain ⟨k0, k1, k2, k3⟩ := (HP.out.below HW.out.bel).cells hlt
      obtain ⟨v, HV⟩ : ∃ v, Hid (lead u L K X P i = v) := ⟨_, rfl⟩
      rw [HV.out] at HW
      obtain ⟨wk, hwk⟩ : ∃ wk, wk = wr.alloc (.cells #[.int .i64 (P i).k, .int .i64 (P i).n, .string (P i).s, .int .i64 (P i).a] 29) := ⟨_, rfl⟩
      have HBk : Hid (Below wr.heap.size wr wk) := by rw [hwk]; exact (Below.refl _ _).alloc (Nat.le_refl _) _
      have HWk : Hid (GetW w wk b #[.int .i64 u.k, .int .i64 u.n, .string u.s, .int .i64 u.a, .slice ta n cp] v) := HW.out.below HBk.out
      have HK : Hid (ValB wk wr.heap.size (P i)) := by rw [hwk]; exact heap_alloc_new _ _
      by_cases h4 : v.k = 4
      · have hiv : isV n v = true := by rw [← HV.out]; exact isV_lead HG.out i
        obtain ⟨ha0, ha1⟩ := isV_tab hiv h4
        obtain ⟨r, hr⟩ : ∃ r : Nat, v.a = r := ⟨v.a.toNat, by omega⟩
        have hrn : r < n := by omega
        obtain ⟨x, HX⟩ : ∃ x, Hid (atKey (L r) (K r) (X r) (P i) = x) := ⟨_, rfl⟩
        have HN : Hid (lead u L K X P (i + 1) = x) := by
          show step L K X (lead u L K X P i) (P i) = x
          rw [HV.out]
          unfold step
          rw [if_pos h4, hr]
          exact HX.out
        have hat := l2at_any u (P i) r ta n cp TB TO A L C RB RO K X wk hrn (HS.out r hrn).1 hn (HT.out.below HWk.out.bel)
        rw [HX.out] at hat
        have hne : (v.k != 4) = false := by simpa using h4
        obtain ⟨g0, g1, g2, g3, g4, _⟩ := cells5 HWk.out.graph
        obtain ⟨c0, c1, c2, c3, c4⟩ := cells4 HWk.out.cur
        obtain ⟨y0, y1, y2, y3, _⟩ := cells4 HK.out
        rw [hwk] at c0 c1 c2 c3 c4 g0 g1 g2 g3 g4 y0 y1 y2 y3
        rw [hr] at c3
        clear hiv ha0 ha1 h4 hr
        go_wp2_with fail
        rw [← hwk]
        refine hat.mono ?_
        clear hat hwk c0 c1 c2 c3 c4 g0 g1 g2 g3 g4 y0 y1 y2 y3
        rintro e w3 ⟨rfl, hb3⟩
        have HW3 : Hid (GetW w w3 b #[.int .i64 u.k, .int .i64 u.n, .string u.s, .int .i64 u.a, .slice ta n cp] v) := HWk.out.below hb3
        have HW4 := HW3.out.put (by omega) x
        have HW5 : Hid _ := HW4
        obtain ⟨c0, c1, c2, c3, c4⟩ := cells4 HW3.out.cur
        clear hb3 HWk HW4 HK HBk HW k0 k1 k2 k3
        unfold vAgg
        go_wp2
        go_roundw
        case rel => exact ⟨i + 1, by omega, by go_num, by rw [HN.out]; exact HW5⟩
        case measure => simp [intOf]; omega
      · have HZ : Hid (lead u L K X P m = zeroV) := by
          have := zero_stays (L := L) (K := K) (X := X) (u := u) (P := P) (i := i) (by rw [HV.out]; exact h4) (m - (i + 1))
          rw [show i + 1 + (m - (i + 1)) = m by omega] at this
          exact this
        have hne : (v.k != 4) = true := by simpa using h4
        obtain ⟨c0, c1, c2, c3, c4⟩ := cells4 HWk.out.cur
        obtain ⟨r0, r1, r2, r3, r4⟩ := cells4 HWk.out.res
        rw [hwk] at c0 c1 c2 c3 c4 r0 r1 r2 r3 r4
        go_wp2
        rw [← hwk]
        obtain ⟨q0, q1, q2, q3, _⟩ := cells4 (put4r HWk.out.res (.int .i64 0) (.int .i64 0) (.string ⟨#[]⟩) (.int .i64 0))
        refine bodyPost_ret (v := vAgg zeroV) (by simp [results, Try.results59, go_sem, q0, q1, q2, q3, zeroV]) rfl ⟨by rw [HZ.out], ?_⟩
        exact HWk.out.bel.trans (set4_below.mono (by omega))
    · obtain rfl : i = m := by omega
      obtain ⟨v, HV⟩ : ∃ v, Hid (lead u L K X P i = v) := ⟨_, rfl⟩
      rw [HV.out] at HW
      obtain ⟨c0, c1, c2, c3, c4⟩ := cells4 HW.out.cur
      obtain ⟨r0, r1, r2, r3, r4⟩ := cells4 HW.out.res
      go_wp2
      obtain ⟨q0, q1, q2, q3, _⟩ := cells4 (HW.out.res.put v)
      refine bodyPost_ret (v := vAgg v) (by simp [results, Try.results59, go_sem, q0, q1, q2, q3]) rfl ⟨by rw [HV.out], ?_⟩
      exact HW.out.bel.trans (set4_below.mono (by omega))

set_option maxHeartbeats 1000000 in
set_option maxRecDepth 100000 in
/-- 'spec.Get'. -/
theorem specGet_any (u : V) (pa : Option Addr) (m mc PB PO : Nat) (P : Nat → V) (ta : Option Addr) (n cp TB TO : Nat) (A : Nat → Option Addr) (L C RB RO : Nat → Nat) (K X : Nat → Nat → V) (w : World) (hm : m ≤ 1048576) (hn : n ≤ 1048576) (HS : Hid (Small 1048576 n L K X))
    (HP : Hid (ValsAt w pa m PB PO P)) (HT : Hid (TabsAt w ta n TB TO A L C RB RO K X)) :
    Calls Try.prog 25 #[.agg #[.int .i64 u.k, .int .i64 u.n, .string u.s, .int .i64 u.a, .slice ta n cp], .slice pa m mc] w fun e w' => ((OkG n u L K X ∧ e = .returned (vAgg (lead u L K X P m))) ∨ (¬ OkG n u L K X ∧ e = .returned (vAgg zeroV))) ∧ Below w.heap.size w w' := by
  have A2 : Hid _ := alloc2 w (.cells #[.int .i64 u.k, .int .i64 u.n, .string u.s, .int .i64 u.a, .slice ta n cp] 32) (.cells #[.int .i64 0, .int .i64 0, .string ⟨#[]⟩, .int .i64 0] 29)
  obtain ⟨w0, hw0⟩ : ∃ w0, w0 = (w.alloc (.cells #[.int .i64 u.k, .int .i64 u.n, .string u.s, .int .i64 u.a, .slice ta n cp] 32)).alloc (.cells #[.int .i64 0, .int .i64 0, .string ⟨#[]⟩, .int .i64 0] 29) := ⟨_, rfl⟩
  have P0 : Hid (w0.heap[w.heap.size]? = some (.cells #[.int .i64 u.k, .int .i64 u.n, .string u.s, .int .i64 u.a, .slice ta n cp] 32 (0, 0))) := by rw [hw0]; exact A2.out.1
  have P1 : Hid (ValB w0 (w.heap.size + 1) zeroV) := by rw [hw0]; exact A2.out.2.1
  have HB0 : Hid (Below w.heap.size w w0) := by rw [hw0]; exact A2.out.2.2.2
  clear A2
  have hsp := specOk_any u ta n cp TB TO A L C RB RO K X w0 hn HS (HT.out.below HB0.out)
  go_enter Try.func25, Try.ntmps25
  go_wp2_with fail
  rw [← hw0]
  refine hsp.mono ?_
  clear hsp hw0
  rintro e w1 ⟨⟨bs, rfl, hbs⟩, hb1⟩
  have R0 : Hid (w1.heap[w.heap.size]? = some (.cells #[.int .i64 u.k, .int .i64 u.n, .string u.s, .int .i64 u.a, .slice ta n cp] 32 (0, 0))) := blkB P0.out hb1
  have R1 : Hid (ValB w1 (w.heap.size + 1) zeroV) := P1.out.below hb1
  have HB1 : Hid (Below w.heap.size w w1) := grw HB0.out hb1
  clear hb1 P0 P1 HB0
  cases bs
  · have HN : Hid (¬ OkG n u L K X) := show ¬ OkG n u L K X from fun h => by have := hbs.2 h; cases this
    clear hbs
    obtain ⟨r0, r1, r2, r3, r4⟩ := cells4 R1.out
    go_wp2
    obtain ⟨q0, q1, q2, q3, _⟩ := cells4 (put4r R1.out (.int .i64 0) (.int .i64 0) (.string ⟨#[]⟩) (.int .i64 0))
    refine bodyPost_ret (v := vAgg zeroV) (by simp [results, Try.results25, go_sem, q0, q1, q2, q3, zeroV]) rfl ⟨Or.inr ⟨HN.out, rfl⟩, ?_⟩
    exact HB1.out.trans (set4_below.mono (by omega))
  · have HG : Hid (OkG n u L K X) := hbs.1 rfl
    clear hbs
    obtain ⟨g0, g1, g2, g3, g4, _⟩ := cells5 R0.out
    have hget := l2get_any u pa m mc PB PO P ta n cp TB TO A L C RB RO K X w1 hm hn HS HG (HP.out.below HB1.out) (HT.out.below HB1.out)
    obtain ⟨v, HV⟩ : ∃ v, Hid (lead u L K X P m = v) := ⟨_, rfl⟩
    rw [HV.out] at hget
    go_wp2_with fail
    refine hget.mono ?_
    clear hget g0 g1 g2 g3 g4
    rintro e w2 ⟨rfl, hb2⟩
    have R2 : Hid (ValB w2 (w.heap.size + 1) zeroV) := R1.out.below hb2
    have HB2 : Hid (Below w.heap.size w w2) := grw HB1.out hb2
    clear hb2 R0 R1 HB1
    obtain ⟨r0, r1, r2, r3, r4⟩ := cells4 R2.out
    unfold vAgg
    go_wp2
    obtain ⟨q0, q1, q2, q3, _⟩ := cells4 (R2.out.put v)
    refine bodyPost_ret (v := vAgg v) (by simp [results, Try.results25, go_sem, q0, q1, q2, q3]) rfl ⟨Or.inl ⟨HG.out, by rw [HV.out]⟩, ?_⟩
    exact HB2.out.trans (set4_below.mono (by omega))

end Go.Proofs.Ytgflalfiopnmnab
