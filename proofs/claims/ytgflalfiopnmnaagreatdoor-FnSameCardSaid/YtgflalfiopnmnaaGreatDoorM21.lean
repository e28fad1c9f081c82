import Derived.Test.YtgflalfiopnmnaaGreatDoorM0
import Derived.Test.YtgflalfiopnmnaaGreatDoorM20
import Derived.RangeFuncNested
import Derived.RangeFuncBound
import Derived.RangeFuncCalls
import Derived.RangeFuncLeaves
import Derived.RangeFuncSeq
import Derived.OwnWalkIn
import Derived.TacticsInMore
import Derived.LoopNIn
import Derived.LoopIn
import Derived.OrdersIn
namespace Go.Proofs.YtgflalfiopnmnaaGreatDoor
open Go.RowKit Vl Aw

theorem findG_any {n m : Nat} {T : Nat → Nat} (hinj : ∀ i j, i < n + m → j < n + m → T i = T j → i = j) {e : Aw.E} (h1 : isV n e.a = true) (h2 : isV m e.b = true) (h3 : e.a.k = 4) (h4 : e.b.k = 4) : ∀ (q : List Aw.E), (∀ x ∈ q, isV n x.a = true ∧ isV m x.b = true ∧ x.a.k = 4 ∧ x.b.k = 4) → (findG cEq (cpl n T e) (seenL n T q)).isSome = q.any (Aw.same e)
  | [], _ => rfl
  | x :: q, hq => by
    have ih := findG_any hinj h1 h2 h3 h4 q (fun y hy => hq y (by simp [hy]))
    obtain ⟨x1, x2, x3, x4⟩ := hq x (by simp)
    obtain ⟨a0, a1⟩ := isV_tab h1 h3
    obtain ⟨b0, b1⟩ := isV_tab h2 h4
    obtain ⟨c0, c1⟩ := isV_tab x1 x3
    obtain ⟨d0, d1⟩ := isV_tab x2 x4
    have key : cEq (cpl n T e) (cpl n T x) = Aw.same e x := by
      rw [Bool.eq_iff_iff]
      simp only [cEq, cpl, Aw.same, Bool.and_eq_true, beq_iff_eq, eqV_iff]
      constructor
      · rintro ⟨p, r⟩
        have p' := hinj _ _ (by omega) (by omega) p
        have r' := hinj _ _ (by omega) (by omega) r
        exact ⟨Aw.tab_one x1 h1 x3 h3 p'.symm, Aw.tab_one x2 h2 x4 h4 (by omega)⟩
      · rintro ⟨p, r⟩
        rw [p, r]
        exact ⟨rfl, rfl⟩
    show (findG cEq (cpl n T e) ((cpl n T x, .agg #[]) :: seenL n T q)).isSome = _
    simp only [findG, List.any_cons]
    rw [← key]
    cases cEq (cpl n T e) (cpl n T x)
    · simp only [Bool.false_eq_true, if_false, Bool.false_or]; exact ih
    · simp
theorem seen_ok {w : World} {n m : Nat} {T : Nat → Nat} (hT : ∀ i, i < n + m → IsB w (T i)) {q : List Aw.E} (hq : ∀ x ∈ q, isV n x.a = true ∧ isV m x.b = true ∧ x.a.k = 4 ∧ x.b.k = 4) : ∀ p ∈ seenL n T q, cOk w p.1 := fun p hp => by
  obtain ⟨x, hx, rfl⟩ := List.mem_map.1 hp
  obtain ⟨x1, x2, x3, x4⟩ := hq x hx
  obtain ⟨c0, c1⟩ := isV_tab x1 x3
  obtain ⟨d0, d1⟩ := isV_tab x2 x4
  exact ⟨hT _ (by omega), hT _ (by omega)⟩
theorem seen_zero (n : Nat) (T : Nat → Nat) (p : Nat × Nat) : ∀ q : List Aw.E, (findG cEq p (seenL n T q)).getD (.agg #[]) = .agg #[]
  | [] => rfl
  | x :: q => by
    show (findG cEq p ((cpl n T x, .agg #[]) :: seenL n T q)).getD (.agg #[]) = .agg #[]
    simp only [findG]
    split
    · rfl
    · exact seen_zero n T p q
theorem wait_snoc {SB : Nat → Nat} {j c b : Nat} (h : j ≤ c) : waitL (fun i => if i = c then b else SB i) j (c + 1) = waitL SB j c ++ [b] := by
  unfold waitL
  rw [show c + 1 - j = (c - j) + 1 by omega, List.range_succ, List.map_append]
  congr 1
  · apply List.map_congr_left
    intro i hi
    have := List.mem_range.1 hi
    show (if j + i = c then b else SB (j + i)) = _
    rw [if_neg (by omega)]
  · simp only [List.map_cons, List.map_nil]
    rw [if_pos (by omega)]
theorem wait_len (SB : Nat → Nat) (j c : Nat) : (waitL SB j c).length = c - j := by simp [waitL]
theorem put7 {w : World} {B : Nat} {a b c d e f g : Value} {t : TypeId} (H : w.heap[B]? = some (.cells #[a, b, c, d, e, f, g] t (0, 0))) (a' b' : Value) : ((w.setCell ⟨B, 0, none⟩ a').setCell ⟨B, 1, none⟩ b').heap[B]? = some (.cells #[a', b', c, d, e, f, g] t (0, 0)) := by
  simp [World.setCell, Array.getElem?_modify, H]

set_option maxHeartbeats 4000000 in
set_option maxRecDepth 100000 in
theorem reach_any (n m : Nat) (T M : Nat → Nat) (L : Nat → Nat) (K X : Nat → Nat → V) (L0 : Nat → Nat) (K0 X0 : Nat → Nat → V) (L1 : Nat → Nat) (K1 X1 : Nat → Nat → V) (f : Nat → Nat) (sB sm cb base : Nat) (rv tv : Value) (j : Nat) (q : List Aw.E) (SB : Nat → Nat) (e : Aw.E) (k : V) (ah pa0 pb0 : Option Addr) (w : World) (hx : isV n e.a = true) (hy : isV m e.b = true) (hq : q.length ≤ 100000)
    (HSea : Hid (Sea w n m T sB sm cb base rv tv j q SB)) (HT : Hid (Tbs w (n + m) T M (fun j => (j : Nat)) L K X)) (HC : Hid (∀ i, i < n + m → w.cell? ⟨cb, i, none⟩ = some (.int .i64 (f i : Nat)))) (HF : Hid (∀ i, i < n + m → f i ≤ i)) (HQ : Hid (∀ x ∈ q, isV n x.a = true ∧ isV m x.b = true ∧ x.a.k = 4 ∧ x.b.k = 4))
    (HPth : Hid ((e.p = [] ∧ ah = none) ∨ ∃ i', i' < q.length ∧ ah = some ⟨SB i', 0, none⟩ ∧ e.p = (lsE q i').p ++ [k])) :
    Calls Tryz.prog 37 #[ptr sB, ifv T e.a, ifv T (sh n e.b), .agg #[.pointer pa0, .pointer pb0, .int .i64 k.k, .int .i64 k.n, .string k.s, .int .i64 k.a, .pointer ah]] w fun en w' => en = .returned (.tuple #[]) ∧ (∃ SB', Sea w' n m T sB sm cb base rv tv j ((Aw.sysOf n L0 K0 X0 L1 K1 X1 f).iadd q e) SB' ∧ ∀ i, i < q.length → SB' i = SB i) ∧ Fr sB sm base w w' := by
  obtain ⟨w0, hw0⟩ : ∃ w0, w0 = w.alloc (.cells #[.pointer pa0, .pointer pb0, .int .i64 k.k, .int .i64 k.n, .string k.s, .int .i64 k.a, .pointer ah] 112) := ⟨_, rfl⟩
  have HB0 : Hid (Below w.heap.size w w0) := by rw [hw0]; exact (Below.refl _ _).alloc (Nat.le_refl _) _
  obtain ⟨bB, hbB⟩ : ∃ bB, w.heap.size = bB := ⟨_, rfl⟩
  have HBE : Hid (w.heap.size = bB) := hbB
  have HY0 : Hid (w0.heap[bB]? = some (.cells #[.pointer pa0, .pointer pb0, .int .i64 k.k, .int .i64 k.n, .string k.s, .int .i64 k.a, .pointer ah] 112 (0, 0))) := by rw [hw0, ← hbB]; exact heap_alloc_new _ _
  have hcp := coupleOf_any T (isV_more (n := m) hx) (sh_isV (N := n) hy) w0
  obtain ⟨xt, xw, hxi⟩ := ifv_form T e.a
  obtain ⟨yt, yw, hyi⟩ := ifv_form T (sh n e.b)
  rw [hxi, hyi] at hcp ⊢
  rw [sh_k] at hcp
  obtain ⟨bb, hbb⟩ : ∃ b, (e.a.k == 4 && e.b.k == 4) = b := ⟨_, rfl⟩
  have HBBq : Hid ((e.a.k == 4 && e.b.k == 4) = bb) := hbb
  obtain ⟨px, hpx⟩ : ∃ p, pOf T e.a = p := ⟨_, rfl⟩
  obtain ⟨py, hpy⟩ : ∃ p, pOf T (sh n e.b) = p := ⟨_, rfl⟩
  have HPX : Hid (pOf T e.a = px) := hpx
  have HPY : Hid (pOf T (sh n e.b) = py) := hpy
  rw [hbb, hpx, hpy] at hcp
  clear hbb hpx hpy hxi hyi hbB
  go_enter Tryz.func37, Tryz.ntmps37
  go_wp2_with fail
  rw [← hw0]
  try rw [HBE.out]
  refine hcp.mono ?_
  clear hcp hw0
  rintro e1 w1 ⟨rfl, hb1⟩
  obtain ⟨w2, hw2⟩ : ∃ w2, w2 = w1.alloc (.cells #[.pointer px, .pointer py] 109) := ⟨_, rfl⟩
  have hb2 : Below w1.heap.size w1 w2 := by rw [hw2]; exact (Below.refl _ _).alloc (Nat.le_refl _) _
  have HB2 : Hid (Below w.heap.size w w2) := grw (grw HB0.out hb1) hb2
  obtain ⟨qc, hqc⟩ : ∃ qc, w1.heap.size = qc := ⟨_, rfl⟩
  have HQ2 : Hid (w2.heap[qc]? = some (.cells #[.pointer px, .pointer py] 109 (0, 0))) := by rw [hw2, ← hqc]; exact heap_alloc_new _ _
  have HY2 : Hid (w2.heap[bB]? = some (.cells #[.pointer pa0, .pointer pb0, .int .i64 k.k, .int .i64 k.n, .string k.s, .int .i64 k.a, .pointer ah] 112 (0, 0))) := blkB (blkB HY0.out hb1) hb2
  have hlq : bB < qc := by have := blk_lt HY0.out; have := hb1.size; omega
  clear hb1 hb2 HY0 HB0
  cases bb
  · have HNO : Hid ((Aw.sysOf n L0 K0 X0 L1 K1 X1 f).iadd q e = q) := by
      have hc : (Aw.sysOf n L0 K0 X0 L1 K1 X1 f).cp e = false := HBBq.out
      show (if ((Aw.sysOf n L0 K0 X0 L1 K1 X1 f).cp e && (Aw.sysOf n L0 K0 X0 L1 K1 X1 f).D e.a e.b && !(q.any (Aw.same e))) = true then _ else q) = q
      rw [if_neg (by rw [hc]; simp)]
    go_wp2
    rw [← hw2]
    clear hw2 hqc
    go_quiet (fail)
    go_wp2
    refine bodyPost_ret (v := .tuple #[]) (by simp [results, Tryz.results37, go_sem]) rfl ?_
    refine ⟨rfl, ⟨SB, ?_, fun _ _ => rfl⟩, Fr.below (below_drewN HB2.out _)⟩
    rw [HNO.out]
    exact HSea.out.below (below_drewN HB2.out _)
  · have h44 : e.a.k = 4 ∧ e.b.k = 4 := by have h := HBBq.out; simpa using h
    obtain ⟨a0, a1⟩ := isV_tab hx h44.1
    obtain ⟨b0, b1⟩ := isV_tab hy h44.2
    obtain ⟨ia, hia⟩ : ∃ ia, e.a.a.toNat = ia := ⟨_, rfl⟩
    obtain ⟨jb, hjb⟩ : ∃ jb, n + e.b.a.toNat = jb := ⟨_, rfl⟩
    have hian : ia < n + m := by omega
    have hjbn : jb < n + m := by omega
    have HIA : Hid (e.a.a.toNat = ia) := hia
    have HJB : Hid (n + e.b.a.toNat = jb) := hjb
    have epx : px = some ⟨T ia, 0, none⟩ := by
      rw [← HPX.out]; unfold pOf; rw [if_pos h44.1, hia]
    have epy : py = some ⟨T jb, 0, none⟩ := by
      rw [← HPY.out]
      unfold pOf
      rw [if_pos ((sh_k n e.b).trans h44.2)]
      have : (sh n e.b).a.toNat = jb := by
        unfold sh
        rw [if_pos h44.2, ← hjb]
        show (e.b.a + (n : Int)).toNat = _
        omega
      rw [this]
    subst epx
    subst epy
    have HCPL : Hid (cpl n T e = (T ia, T jb)) := by show (T e.a.a.toNat, T (n + e.b.a.toNat)) = _; rw [hia, hjb]
    have H44 : Hid (e.a.k = 4 ∧ e.b.k = 4) := h44
    obtain ⟨wv, hblk, hqu⟩ := HSea.out.blk
    have HBLK : Hid (w.heap[sB]? = some (.cells #[rv, tv, .slice (some ⟨cb, 0, none⟩) (n + m) (n + m), wv, .map (some sm)] 105 (0, 0))) := hblk
    have HQU : Hid (QuL w base wv (waitL SB j q.length)) := hqu
    have HBK2 : Hid (w2.heap[sB]? = some (.cells #[rv, tv, .slice (some ⟨cb, 0, none⟩) (n + m) (n + m), wv, .map (some sm)] 105 (0, 0))) := blkB hblk HB2.out
    obtain ⟨s0, s1, s2, s3, s4, _⟩ := cells5 HBK2.out
    obtain ⟨p0, p1, _⟩ := two_at HQ2.out
    have d0 := (HB2.out.cell (World.block_lt_of_cell? _ _ (HC.out ia hian))).trans (HC.out ia hian)
    have d1 := (HB2.out.cell (World.block_lt_of_cell? _ _ (HC.out jb hjbn))).trans (HC.out jb hjbn)
    have t0 := (HB2.out.cell (p := ⟨T ia, 0, none⟩) (HT.out.lt hian)).trans (HT.out.at0 ia hian)
    have t1 := (HB2.out.cell (p := ⟨T jb, 0, none⟩) (HT.out.lt hjbn)).trans (HT.out.at0 jb hjbn)
    have hfi := HF.out ia hian
    have hfj := HF.out jb hjbn
    obtain ⟨fi, hfi'⟩ : ∃ x, f ia = x := ⟨_, rfl⟩
    obtain ⟨fj, hfj'⟩ : ∃ x, f jb = x := ⟨_, rfl⟩
    have HFI : Hid (f ia = fi) := hfi'
    have HFJ : Hid (f jb = fj) := hfj'
    rw [hfi'] at d0
    rw [hfj'] at d1
    replace s2 := cellB s2
    replace p0 := cellB p0
    replace p1 := cellB p1
    replace d0 := cellB d0
    replace d1 := cellB d1
    replace t0 := cellB t0
    replace t1 := cellB t1
    have hbi : (0 : Int) ≤ (ia : Int) ∧ (ia : Int) < ((n + m : Nat) : Int) := by omega
    have hbj : (0 : Int) ≤ (jb : Int) ∧ (jb : Int) < ((n + m : Nat) : Int) := by omega
    obtain ⟨NN, HNN⟩ : ∃ NN, Hid (n + m = NN) := ⟨_, rfl⟩
    rw [HNN.out] at s2 hbi hbj
    have HS4 : Hid (w2.cell? ⟨sB, 4, none⟩ = some (.map (some sm))) := s4
    obtain ⟨be, hbe⟩ : ∃ b, ((fi : Int) == (fj : Int)) = b := ⟨_, rfl⟩
    have HDD : Hid ((Aw.sysOf n L0 K0 X0 L1 K1 X1 f).D e.a e.b = !be) := by
      show (!(f e.a.a.toNat == f (n + e.b.a.toNat))) = !be
      rw [hia, hjb, hfi', hfj', ← hbe, beq_nat]
    clear hfi' hfj' hia hjb a0 a1 b0 b1 h44 hblk hqu s0 s1 s3 s4 hfi hfj
    go_wp2
    rw [← hw2]
    try rw [hqc]
    clear hw2 hqc
    cases be
    · go_region_held3 (fun w' => Below w2.heap.size w2 w') (first | exact (Below.refl _ _).drew) (fail)
      clear s2 p0 p1 d0 d1 t0 t1 hbi hbj hbe
      obtain ⟨wA, hwA⟩ : ∃ wA, wA = w2.drew := ⟨_, rfl⟩
      have HBA : Hid (Below w.heap.size w wA) := by rw [hwA]; exact HB2.out.drew
      have HYA : Hid (wA.heap[bB]? = some (.cells #[.pointer pa0, .pointer pb0, .int .i64 k.k, .int .i64 k.n, .string k.s, .int .i64 k.a, .pointer ah] 112 (0, 0))) := by rw [hwA]; exact HY2.out
      have HQA : Hid (wA.heap[qc]? = some (.cells #[ptr (T ia), ptr (T jb)] 109 (0, 0))) := by rw [hwA]; exact HQ2.out
      rw [← hwA]
      clear hwA HB2 HY2 HQ2 HBK2 HS4
      have HBKA : Hid (wA.heap[sB]? = some (.cells #[rv, tv, .slice (some ⟨cb, 0, none⟩) (n + m) (n + m), wv, .map (some sm)] 105 (0, 0))) := blkB HBLK.out HBA.out
      obtain ⟨s0, s1, s2, s3, s4, _⟩ := cells5 HBKA.out
      obtain ⟨p0, p1, _⟩ := two_at HQA.out
      have S4 : Hid (∀ w', Below wA.heap.size wA w' → w'.cell? ⟨sB, 4, none⟩ = some (.map (some sm))) := cellB s4
      have P0 : Hid (∀ w', Below wA.heap.size wA w' → w'.cell? ⟨qc, 0, none⟩ = some (ptr (T ia))) := cellB p0
      have P1 : Hid (∀ w', Below wA.heap.size wA w' → w'.cell? ⟨qc, 1, none⟩ = some (ptr (T jb))) := cellB p1
      have HIB : Hid (∀ w', Below w.heap.size w w' → ∀ i, i < n + m → IsB w' (T i)) := show ∀ _, _ from fun w' hb i hi => by
        obtain ⟨cs, t, h⟩ := HT.out.isB i hi
        exact ⟨cs, t, (hb.block _ (blk_lt h)).trans h⟩
      have HSN : Hid ((findG cEq (T ia, T jb) (seenL n T q)).isSome = q.any (Aw.same e)) := by
        rw [← HCPL.out]
        exact findG_any HT.out.inj hx hy H44.out.1 H44.out.2 q HQ.out
      obtain ⟨bs, hbs⟩ : ∃ b, q.any (Aw.same e) = b := ⟨_, rfl⟩
      have HBS : Hid (q.any (Aw.same e) = bs) := hbs
      have HLK : Hid (∀ w', Below wA.heap.size wA w' → (Instr.lookup 100 (.map (some sm)) (.agg #[ptr (T ia), ptr (T jb)]) true).run Tryz.prog w' = .ok (.tuple #[.agg #[], .bool bs]) w') := show ∀ _, _ from fun w' hb => by
        have hbw : Below w.heap.size w w' := grw HBA.out hb
        have h := ((HSea.out.seen.same (hbw.block _ HSea.out.seen.lt)).lookup cp_keyed (T ia, T jb) ⟨HIB.out w' hbw ia hian, HIB.out w' hbw jb hjbn⟩ (seen_ok (HIB.out w' hbw) HQ.out)).1
        rw [HSN.out, hbs] at h
        have e2 : (findG cEq (T ia, T jb) (seenL n T q)).getD (.agg #[]) = .agg #[] := seen_zero n T _ q
        rw [e2] at h
        exact h
      clear hbs s0 s1 s2 s3 s4 p0 p1
      go_wp2
      refine wp_region_held_drew (S := fun y => Below wA.heap.size wA y) (by kernel_rfl) (Below.refl _ _).drew (fun hHeld => ?_)
      generalize wA.drew = wd at hHeld ⊢
      refine wpT (i := 0) (v := ptr sB) rfl (fun w hSw => ?_) hHeld ?_
      · first | rfl | go_simp
      simp only [Act.put, pz]
      refine wpT (i := 1) (v := ptr sB) rfl (fun w hSw => ?_) hHeld ?_
      · first | rfl | go_simp
      simp only [Act.put, pz]
      refine wpT (i := 2) (v := .pointer (some ⟨sB, 4, none⟩)) rfl (fun w hSw => ?_) hHeld ?_
      · first | rfl | go_simp
      simp only [Act.put, pz]
      refine wpT (i := 3) (v := .map (some sm)) rfl (fun w hSw => ?_) hHeld ?_
      · have q0 := S4.out w hSw; first | rfl | go_simp
      simp only [Act.put, pz]
      refine wpT (i := 4) (v := .agg #[ptr (T ia), ptr (T jb)]) rfl (fun w hSw => ?_) hHeld ?_
      · have q0 := P0.out w hSw; have q1 := P1.out w hSw; first | rfl | go_simp
      simp only [Act.put, pz]
      refine wpT (i := 5) (v := .tuple #[.agg #[], .bool bs]) rfl (fun w hSw => ?_) hHeld ?_
      · have q0 := HLK.out w hSw; first | rfl | go_simp
      simp only [Act.put, pz]
      refine wpT (i := 6) (v := .tuple #[.agg #[], .bool bs]) rfl (fun w hSw => ?_) hHeld ?_
      · first | rfl | go_simp
      simp only [Act.put, pz]
      refine wpT (i := 7) (v := .agg #[]) rfl (fun w hSw => ?_) hHeld ?_
      · first | rfl | go_simp
      simp only [Act.put, pz]
      refine wpT (i := 8) (v := .bool bs) rfl (fun w hSw => ?_) hHeld ?_
      · first | rfl | go_simp
      simp only [Act.put, pz]
      refine wpAnyH_ready (rs := [9]) (by kernel_rfl) (by simp) ?_
      refine AllReadyH.cons rfl (fun KK hK' => ?_) AllReadyH.nil
      go_simp
      obtain ⟨w3, hw3⟩ : ∃ w3, w3 = wd.alloc (.cells #[] 167) := ⟨_, rfl⟩
      have hb3 : Below wd.heap.size wd w3 := by rw [hw3]; exact (Below.refl _ _).alloc (Nat.le_refl _) _
      have hs3 : Below wA.heap.size wA w3 := grw hHeld hb3
      rw [← hw3]
      clear hw3
      refine hK'.out _ _ hs3 (fun hHeld => ?_)
      clear hK' hb3
      refine wpAnyH_ready (rs := [10]) (by kernel_rfl) (by simp) ?_
      refine AllReadyH.cons rfl (fun KK hK' => ?_) AllReadyH.nil
      go_simp
      refine hK'.out _ _ hs3 (fun hHeld => ?_)
      clear hK'
      refine wpT (i := 11) (v := .bool bs) rfl (fun w hSw => ?_) hHeld ?_
      · first | rfl | go_simp
      simp only [Act.put, pz]
      refine wpAnyH_done (by kernel_rfl) ?_ _
      have HB3 : Hid (Below w.heap.size w w3) := grw HBA.out hs3
      have HY3 : Hid (w3.heap[bB]? = some (.cells #[.pointer pa0, .pointer pb0, .int .i64 k.k, .int .i64 k.n, .string k.s, .int .i64 k.a, .pointer ah] 112 (0, 0))) := blkB HYA.out hs3
      have HQ3 : Hid (w3.heap[qc]? = some (.cells #[ptr (T ia), ptr (T jb)] 109 (0, 0))) := blkB HQA.out hs3
      clear hHeld hs3 S4 P0 P1 HLK HBA HYA HQA HBKA
      cases bs
      · have HYES : Hid ((Aw.sysOf n L0 K0 X0 L1 K1 X1 f).iadd q e = q ++ [e]) := by
          have hc : (Aw.sysOf n L0 K0 X0 L1 K1 X1 f).cp e = true := HBBq.out
          show (if ((Aw.sysOf n L0 K0 X0 L1 K1 X1 f).cp e && (Aw.sysOf n L0 K0 X0 L1 K1 X1 f).D e.a e.b && !(q.any (Aw.same e))) = true then q ++ [e] else q) = _
          rw [if_pos (by rw [hc, HDD.out, HBS.out]; rfl)]
        have hfn : findG cEq (T ia, T jb) (seenL n T q) = none := by
          have h := HSN.out
          rw [HBS.out] at h
          cases hh : findG cEq (T ia, T jb) (seenL n T q) with
          | none => rfl
          | some x => rw [hh] at h; cases h
        have HUP : Hid (∀ w', Below w.heap.size w w' → ∃ w4, (Instr.mapUpdate 100 (.map (some sm)) (.agg #[ptr (T ia), ptr (T jb)]) (.agg #[])).run Tryz.prog w' = .ok () w4 ∧ MapG cAgg w4 sm (seenL n T q ++ [((T ia, T jb), .agg #[])]) ∧ Only (fun k => k = sm) w' w4 ∧ w4.heap.size = w'.heap.size) := show ∀ _, _ from fun w' hb =>
          (HSea.out.seen.same (hb.block _ HSea.out.seen.lt)).update cp_keyed (T ia, T jb) (.agg #[]) ⟨HIB.out w' hb ia hian, HIB.out w' hb jb hjbn⟩ (seen_ok (HIB.out w' hb) HQ.out) hfn
        have HBK3 : Hid (w3.heap[sB]? = some (.cells #[rv, tv, .slice (some ⟨cb, 0, none⟩) (n + m) (n + m), wv, .map (some sm)] 105 (0, 0))) := blkB HBLK.out HB3.out
        obtain ⟨s0, s1, s2, s3, s4, _⟩ := cells5 HBK3.out
        obtain ⟨p0, p1, _⟩ := two_at HQ3.out
        have S4 : Hid (∀ w', Below w3.heap.size w3 w' → w'.cell? ⟨sB, 4, none⟩ = some (.map (some sm))) := cellB s4
        have P0 : Hid (∀ w', Below w3.heap.size w3 w' → w'.cell? ⟨qc, 0, none⟩ = some (ptr (T ia))) := cellB p0
        have P1 : Hid (∀ w', Below w3.heap.size w3 w' → w'.cell? ⟨qc, 1, none⟩ = some (ptr (T jb))) := cellB p1
        clear hfn s0 s1 s2 s3 s4 p0 p1
        go_wp2
        have HLO : Hid (sB ≠ sm ∧ qc ≠ sm) := by
          have h1 := HSea.out.lo
          refine ⟨fun e => ?_, by have := HBE.out; omega⟩
          have h := HBLK.out
          obtain ⟨es, clk, hmm, _⟩ := HSea.out.seen
          rw [e, hmm] at h
          cases h
        have S4x : Hid (∀ y, (Below w3.heap.size w3 y ∨ ∃ z, Below w3.heap.size w3 z ∧ Only (fun k => k = sm) z y ∧ z.heap.size = y.heap.size) → y.cell? ⟨sB, 4, none⟩ = some (.map (some sm))) := show ∀ y, _ from fun y h => by
          rcases h with h | ⟨z, h, ho, _⟩
          · exact S4.out y h
          · exact ho.cell (S4.out z h) HLO.out.1
        have P0x : Hid (∀ y, (Below w3.heap.size w3 y ∨ ∃ z, Below w3.heap.size w3 z ∧ Only (fun k => k = sm) z y ∧ z.heap.size = y.heap.size) → y.cell? ⟨qc, 0, none⟩ = some (ptr (T ia))) := show ∀ y, _ from fun y h => by
          rcases h with h | ⟨z, h, ho, _⟩
          · exact P0.out y h
          · exact ho.cell (P0.out z h) HLO.out.2
        have P1x : Hid (∀ y, (Below w3.heap.size w3 y ∨ ∃ z, Below w3.heap.size w3 z ∧ Only (fun k => k = sm) z y ∧ z.heap.size = y.heap.size) → y.cell? ⟨qc, 1, none⟩ = some (ptr (T jb))) := show ∀ y, _ from fun y h => by
          rcases h with h | ⟨z, h, ho, _⟩
          · exact P1.out y h
          · exact ho.cell (P1.out z h) HLO.out.2
        refine wp_region_held_drew (S := fun y => Below w3.heap.size w3 y ∨ ∃ z, Below w3.heap.size w3 z ∧ Only (fun k => k = sm) z y ∧ z.heap.size = y.heap.size) (by kernel_rfl) (Or.inl (Below.refl _ _).drew) (fun hHeld => ?_)
        generalize hwd : w3.drew = wd at hHeld ⊢
        have hbd : Below w3.heap.size w3 wd := by rw [← hwd]; exact (Below.refl _ _).drew
        clear hwd
        refine wpT (i := 0) (v := ptr sB) rfl (fun w hSw => ?_) hHeld ?_
        · first | rfl | go_simp
        simp only [Act.put, pz]
        refine wpT (i := 1) (v := ptr sB) rfl (fun w hSw => ?_) hHeld ?_
        · first | rfl | go_simp
        simp only [Act.put, pz]
        refine wpT (i := 2) (v := .pointer (some ⟨sB, 4, none⟩)) rfl (fun w hSw => ?_) hHeld ?_
        · first | rfl | go_simp
        simp only [Act.put, pz]
        refine wpT (i := 3) (v := .map (some sm)) rfl (fun w hSw => ?_) hHeld ?_
        · have q0 := S4x.out w hSw; first | rfl | go_simp
        simp only [Act.put, pz]
        refine wpT (i := 4) (v := .agg #[ptr (T ia), ptr (T jb)]) rfl (fun w hSw => ?_) hHeld ?_
        · have q0 := P0x.out w hSw; have q1 := P1x.out w hSw; first | rfl | go_simp
        simp only [Act.put, pz]
        refine wpT (i := 5) (v := .agg #[]) rfl (fun w hSw => ?_) hHeld ?_
        · first | rfl | go_simp
        simp only [Act.put, pz]
        refine wpAnyH_ready (rs := [6]) (by kernel_rfl) (by simp) ?_
        refine AllReadyH.cons rfl (fun KK hK' => ?_) AllReadyH.nil
        obtain ⟨w4, hu4, hM4, hO4, hs4⟩ := HUP.out wd (grw HB3.out hbd)
        go_simp
        refine hK'.out _ _ (Or.inr ⟨wd, hbd, hO4, hs4.symm⟩) (fun hHeld => ?_)
        clear hK'
        refine wpAnyH_done (by kernel_rfl) ?_ _
        have HBd : Hid (Below w.heap.size w wd) := grw HB3.out hbd
        have HM4 : Hid (MapG cAgg w4 sm (seenL n T (q ++ [e]))) := by
          have e2 : seenL n T (q ++ [e]) = seenL n T q ++ [((T ia, T jb), .agg #[])] := by
            unfold seenL
            rw [List.map_append]
            show _ ++ [(cpl n T e, _)] = _
            rw [HCPL.out]
          rw [e2]
          exact hM4
        have HO4 : Hid (Only (fun k => k = sm) wd w4) := hO4
        have hsmlt := HSea.out.lo
        have HY4 : Hid (w4.heap[bB]? = some (.cells #[.pointer pa0, .pointer pb0, .int .i64 k.k, .int .i64 k.n, .string k.s, .int .i64 k.a, .pointer ah] 112 (0, 0))) := (hO4.block _ (by have := blk_lt (blkB HY3.out hbd); omega) (by have := HBE.out; omega)).trans (blkB HY3.out hbd)
        have HQ4 : Hid (w4.heap[qc]? = some (.cells #[ptr (T ia), ptr (T jb)] 109 (0, 0))) := (hO4.block _ (blk_lt (blkB HQ3.out hbd)) (by have := HBE.out; omega)).trans (blkB HQ3.out hbd)
        have HBK4 : Hid (w4.heap[sB]? = some (.cells #[rv, tv, .slice (some ⟨cb, 0, none⟩) (n + m) (n + m), wv, .map (some sm)] 105 (0, 0))) := (hO4.block _ (blk_lt (blkB HBK3.out hbd)) (fun e => by
            have h := HBLK.out
            obtain ⟨es, clk, hmm, _⟩ := HSea.out.seen
            rw [e, hmm] at h
            cases h)).trans (blkB HBK3.out hbd)
        have HSZ4 : Hid (wd.heap.size = w4.heap.size) := hs4.symm
        clear hHeld hbd hu4 hM4 hO4 hs4 S4 P0 P1 S4x P0x P1x HUP HY3 HQ3 HBK3 HB3
        obtain ⟨p0, p1, _⟩ := two_at HQ4.out
        obtain ⟨y0, y1, y2, y3, y4, y5, y6, yz⟩ := cellsSt HY4.out
        go_wp2_with fail
        obtain ⟨w5, hw5⟩ : ∃ w5, w5 = (w4.setCell ⟨bB, 0, none⟩ (ptr (T ia))).setCell ⟨bB, 1, none⟩ (ptr (T jb)) := ⟨_, rfl⟩
        have hO5 : Only (fun k => k = bB) w4 w5 := by rw [hw5]; exact ((Only.refl (fun k => k = bB) w4).set (p := ⟨bB, 0, none⟩) rfl _).set (p := ⟨bB, 1, none⟩) rfl _
        have HY5 : Hid (w5.heap[bB]? = some (.cells #[ptr (T ia), ptr (T jb), .int .i64 k.k, .int .i64 k.n, .string k.s, .int .i64 k.a, .pointer ah] 112 (0, 0))) := by rw [hw5]; exact put7 HY4.out _ _
        have hsbB : sB ≠ bB := by have := HBE.out; omega
        have HBK5 : Hid (w5.heap[sB]? = some (.cells #[rv, tv, .slice (some ⟨cb, 0, none⟩) (n + m) (n + m), wv, .map (some sm)] 105 (0, 0))) := (hO5.block _ (blk_lt HBK4.out) hsbB).trans HBK4.out
        have hold : ∀ k, k < w.heap.size → k ≠ sm → w5.heap[k]? = w.heap[k]? := fun k hk hne => by
          have h1 := HBd.out.block k hk
          have hkd : k < wd.heap.size := Nat.lt_of_lt_of_le hk HBd.out.size
          exact ((hO5.block k (by have := HSZ4.out; omega) (by have := HBE.out; omega)).trans (HO4.out.block k hkd hne)).trans h1
        have HOLD : Hid (∀ k, k < w.heap.size → k ≠ sm → w5.heap[k]? = w.heap[k]?) := hold
        have HOS : Hid (w5.os = w.os ∧ w5.tape = w.tape ∧ w5.output = w.output) := ⟨(hO5.os.trans HO4.out.os).trans HBd.out.os, (hO5.tape.trans HO4.out.tape).trans HBd.out.tape, (hO5.output.trans HO4.out.output).trans HBd.out.output⟩
        have HQU5 : Hid (QuL w5 base wv (waitL SB j q.length)) := HQU.out.same (fun g hg => by
          obtain ⟨cur, hc⟩ := HQU.out.own hg
          refine hold g (blk_lt hc) (fun e => ?_)
          obtain ⟨es, clk, hmm, _⟩ := HSea.out.seen
          rw [e, hmm] at hc
          cases hc)
        have HSM5 : Hid (MapG cAgg w5 sm (seenL n T (q ++ [e]))) := HM4.out.same (hO5.block _ HM4.out.lt (by have := HBE.out; omega))
        have HSZ5 : Hid (w.heap.size < w5.heap.size) := show _ < _ by have := blk_lt HY5.out; have := HBE.out; omega
        rw [← hw5]
        have hpu := push_any sB base bB rv tv (.slice (some ⟨cb, 0, none⟩) (n + m) (n + m)) (.map (some sm)) wv (waitL SB j q.length) w5 (by rw [wait_len]; omega) (by have := HSZ5.out; omega) hsmlt.1 HBK5 HQU5
        clear hw5 hO5 hold y0 y1 y2 y3 y4 y5 y6 yz p0 p1 HY4 HQ4 HBK4 HM4
        refine hpu.mono ?_
        clear hpu
        rintro e9 w6 ⟨rfl, wv', hblk6, hqu6, ho6⟩
        have HF6 : Hid (Fr sB sm base w w6 ∧ Sea w6 n m T sB sm cb base rv tv j (q ++ [e]) (fun i => if i = q.length then bB else SB i)) := by
          have hne6 : ∀ k, k ≠ sB → (∀ cur, base ≤ k → w5.heap[k]? ≠ some (Obj.cells cur 110 (0, 0))) → ¬ (k = sB ∨ wv.ownBlock = some k) := fun k h1 h2 hp => by
            rcases hp with e | e
            · exact h1 e
            · obtain ⟨cur, hc⟩ := HQU5.out.own e
              exact h2 cur (HQU5.out.lo e) hc
          have hlt5 : ∀ k, k < w.heap.size → k < w5.heap.size := fun k hk => Nat.lt_trans hk HSZ5.out
          refine ⟨⟨ho6.os.trans HOS.out.1, ho6.tape.trans HOS.out.2.1, ho6.output.trans HOS.out.2.2, Nat.le_trans (Nat.le_of_lt HSZ5.out) ho6.size, fun k hk hp => ?_⟩, ?_⟩
          · have e5 := HOLD.out k hk (fun e => hp (Or.inr (Or.inl e)))
            rw [ho6.block k (hlt5 k hk) (hne6 k (fun e => hp (Or.inl e)) (fun cur hb hc => hp (Or.inr (Or.inr ⟨hb, cur, by rw [← e5]; exact hc⟩))))]
            exact e5
          · have hst6 : ∀ (k : Nat) (cs : Array Value), w5.heap[k]? = some (Obj.cells cs 112 (0, 0)) → w6.heap[k]? = some (Obj.cells cs 112 (0, 0)) := fun k cs hk => by
              rw [ho6.block k (blk_lt hk) (hne6 k (fun e => by have h := HBK5.out; rw [e, h] at hk; cases hk) (fun cur _ hc => by rw [hk] at hc; cases hc))]
              exact hk
            refine ⟨⟨wv', hblk6, ?_⟩, ⟨fun i hi => ?_⟩, HSM5.out.same (ho6.block _ HSM5.out.lt (hne6 sm (fun e => by
                obtain ⟨es, clk, hmm, _⟩ := HSM5.out
                have h := HBK5.out
                rw [e, h] at hmm
                cases hmm) (fun cur _ hc => by
                obtain ⟨es, clk, hmm, _⟩ := HSM5.out
                rw [hmm] at hc
                cases hc))), ⟨hsmlt.1, hsmlt.2.1, by have := HSZ5.out; have := ho6.size; omega⟩, by rw [List.length_append]; have := HSea.out.le; omega⟩
            · rw [List.length_append]
              show QuL w6 base wv' (waitL _ j (q.length + 1))
              rw [wait_snoc HSea.out.le]
              exact hqu6
            · by_cases ei : i = q.length
              · subst ei
                refine ⟨k, ah, ?_, ?_⟩
                · rw [lsE_new, if_pos rfl]
                  refine hst6 _ _ ?_
                  rw [HIA.out, HJB.out]
                  exact HY5.out
                · rw [lsE_new]
                  rcases HPth.out with h | ⟨i', h1, h2, h3⟩
                  · exact Or.inl h
                  · refine Or.inr ⟨i', h1, ?_, ?_⟩
                    · rw [if_neg (by omega)]; exact h2
                    · rw [lsE_old h1]; exact h3
              · have hil : i < q.length := by rw [List.length_append] at hi; simp at hi; omega
                obtain ⟨k2, ah2, g1, g2⟩ := HSea.out.sts.st i hil
                refine ⟨k2, ah2, ?_, ?_⟩
                · rw [lsE_old hil, if_neg ei]
                  refine hst6 _ _ ?_
                  rw [HOLD.out _ (blk_lt g1) (fun e => by
                    obtain ⟨es, clk, hmm, _⟩ := HSea.out.seen
                    rw [e, hmm] at g1
                    cases g1)]
                  exact g1
                · rw [lsE_old hil]
                  rcases g2 with h | ⟨i', h1, h2, h3⟩
                  · exact Or.inl h
                  · refine Or.inr ⟨i', h1, ?_, ?_⟩
                    · rw [if_neg (by omega)]; exact h2
                    · rw [lsE_old (by omega)]; exact h3
        clear hblk6 hqu6 ho6
        go_wp2
        go_end0
        refine ⟨rfl, ⟨_, by rw [HYES.out]; exact HF6.out.2, fun i hi => if_neg (by omega)⟩, HF6.out.1⟩
      · have HNO : Hid ((Aw.sysOf n L0 K0 X0 L1 K1 X1 f).iadd q e = q) := by
          show (if ((Aw.sysOf n L0 K0 X0 L1 K1 X1 f).cp e && (Aw.sysOf n L0 K0 X0 L1 K1 X1 f).D e.a e.b && !(q.any (Aw.same e))) = true then _ else q) = q
          rw [if_neg (by rw [HBS.out]; simp)]
        go_wp2
        refine bodyPost_ret (v := .tuple #[]) (by simp [results, Tryz.results37, go_sem]) rfl ?_
        refine ⟨rfl, ⟨SB, ?_, fun _ _ => rfl⟩, Fr.below HB3.out⟩
        rw [HNO.out]
        exact HSea.out.below HB3.out
    · have HNO : Hid ((Aw.sysOf n L0 K0 X0 L1 K1 X1 f).iadd q e = q) := by
        show (if ((Aw.sysOf n L0 K0 X0 L1 K1 X1 f).cp e && (Aw.sysOf n L0 K0 X0 L1 K1 X1 f).D e.a e.b && !(q.any (Aw.same e))) = true then _ else q) = q
        rw [if_neg (by rw [HDD.out]; simp)]
      go_region_held3 (fun w' => Below w2.heap.size w2 w') (first | exact (Below.refl _ _).drew) (fail)
      clear s2 p0 p1 d0 d1 t0 t1 hbi hbj hbe
      go_wp2
      refine bodyPost_ret (v := .tuple #[]) (by simp [results, Tryz.results37, go_sem]) rfl ?_
      refine ⟨rfl, ⟨SB, ?_, fun _ _ => rfl⟩, Fr.below HB2.out.drew⟩
      rw [HNO.out]
      exact HSea.out.below HB2.out.drew

end Go.Proofs.YtgflalfiopnmnaaGreatDoor

namespace Go.Proofs.YtgflalfiopnmnaaGreatDoor
open Go.RowKit Vl Aw

abbrev wideR (ro : Option Nat) : Fence := { Fence.wide with round := ro }

def noDef (o : Oper) : Bool := match o.op with | .defer _ => false | _ => true

theorem rowsIn_wideR {ro : Option Nat} {n : Nat} {P : Program} {row : String} {args : Array Value} {w : World} {R : Value → World → Prop} (h : Rows P row args w R) : RowsIn (wideR ro) n P row args w R :=
  fun c cs _ => let ⟨v, w', r, s⟩ := h c cs; ⟨v, w', r, stepsIn_wide.2 s⟩
theorem callsIn_wideR {ro : Option Nat} {n : Nat} {P : Program} {f : FuncId} {args : Array Value} {w : World} {R : Ending → World → Prop} (h : Calls P f args w R) : CallsIn (wideR ro) n P f args w R :=
  ⟨trivial, fun cs _ => let ⟨e, w', fr, r, s, x⟩ := h cs; ⟨e, w', fr, r, comesIn_wide.2 s, x⟩⟩

theorem Oper.wpIn_of_wp {ro : Option Nat} {n : Nat} {P : Program} {o : Oper} {a : Act} {w : World} {K : Act → World → Prop} {Q : Exit → Act → World → Prop} (hd : noDef o = true) (h : o.wp P a w K Q) : o.wpIn (wideR ro) n P a w K Q := by
  refine ⟨fun _ _ => trivial, ?_⟩
  have e : o.semAt (wideR ro).round a.eval = execOp a.eval o := Oper.semAt_eq _ _ _ (fun c hc => by unfold noDef at hd; rw [hc] at hd; cases hd)
  rw [e]
  unfold Oper.wp at h
  generalize (execOp a.eval o).run P w = r at *
  cases r with
  | ok x w' =>
    cases x <;> simp only [Oper.upon, Oper.uponIn] at h ⊢
    all_goals first
      | exact h
      | exact ⟨fun hh => (by cases hh), callsIn_wideR h⟩
      | exact ⟨fun hh => (by cases hh), rowsIn_wideR h⟩
  | halt x w' => cases x <;> simp only [Oper.upon, Oper.uponIn] at h ⊢ <;> exact h

theorem wpAnyIn_of_wpAny {ro : Option Nat} {n : Nat} {P : Program} {md : Region.Mode} {ops : Array Oper} {Q : Exit → Act → World → Prop} (hd : ops.all noDef = true) (hno : ¬ LetsOut Q) : ∀ (fuel : Nat) (listed : Array Bool) (a : Act) (w : World), wpAny P md ops Q fuel listed a w → wpAnyIn (wideR ro) n P md ops Q fuel listed a w
  | 0, _, _, _, h => h
  | fuel + 1, listed, a, w, h => by
    refine ⟨h.1, fun i hi => ?_⟩
    have h2 := h.2 i hi
    unfold wpOp at h2
    unfold wpOpIn
    cases ho : ops[i]? with
    | none => rw [ho] at h2; exact wpAnyIn_of_wpAny hd hno fuel _ _ _ h2
    | some o =>
      rw [ho] at h2
      have hdo : noDef o = true := by
        have := Array.all_eq_true.1 hd i (Array.getElem?_eq_some_iff.1 ho).1
        rw [(Array.getElem?_eq_some_iff.1 ho).2] at this
        exact this
      simp only at h2 ⊢
      split
      · rename_i hw
        rw [if_pos hw] at h2
        rcases h2 with h2 | ⟨_, h2⟩
        · exact Oper.wpIn_mono (fun a w => wpAnyIn_of_wpAny hd hno fuel _ a w) (Oper.wpIn_of_wp hdo h2)
        · exact absurd h2 hno
      · rename_i hw
        rw [if_neg hw] at h2
        exact ⟨fun _ _ => trivial, wpAnyIn_of_wpAny hd hno fuel _ _ _ h2⟩

theorem wpIn_region_heldR {ro : Option Nat} {n : Nat} {P : Program} {ops : Array Oper} {Q : Exit → Act → World → Prop} {S : World → Prop} {id : Nat} {a : Act} {w : World} (hm : P.follows .mixedOrders = true) (hd : ops.all noDef = true) (hno : ¬ LetsOut Q) (hS : S w.drew)
    (h : S w.drew → wpAnyH P .any ops Q S ops.size (Array.replicate ops.size false) a w.drew) : (Code.region id ops true).wpIn (wideR ro) n P Q a w :=
  wpIn_region_any hm (wpAnyIn_of_wpAny hd hno _ _ _ _ (wpAny_of_held _ _ _ _ (h hS)))

end Go.Proofs.YtgflalfiopnmnaaGreatDoor

namespace Go.Proofs.YtgflalfiopnmnaaGreatDoor
open Go.RowKit Vl Aw
attribute [local go_sem] Oper.semAt_some

theorem QuL.pop' {w : World} {base : Nat} {g off cap b : Nat} {l : List Nat} (h : QuL w base (.slice (some ⟨g, off, none⟩) (l.length + 1) (cap + 1)) (b :: l)) (h' : QuL w base (.slice (some ⟨g, off + 1, none⟩) l.length cap) l) : QuL w base (.slice (if cap = 0 then some ⟨g, off, none⟩ else some ⟨g, off + 1, none⟩) l.length cap) l := by
  by_cases hc : cap = 0
  · rw [if_pos hc]
    rcases h with ⟨e, _⟩ | ⟨g', off', cap', cur, e, h1, h2, h3, h4, h5⟩
    · cases e
    · have e1 : g = g' ∧ off = off' ∧ cap + 1 = cap' := by
        injection e with e1 e2 e3
        injection e1 with e1
        injection e1 with e4 e5
        exact ⟨e4, e5, e3⟩
      obtain ⟨rfl, rfl, rfl⟩ := e1
      simp only [List.length_cons] at h3
      have hl : l = [] := by
        apply List.length_eq_zero_iff.1
        omega
      subst hl
      exact Or.inr ⟨g, off, cap, cur, rfl, h1, h2, by simp, by omega, fun i x hx => by cases hx⟩
  · rw [if_neg hc]
    exact h'

open Classical in
noncomputable def grt (p : Nat → Prop) : Nat → Nat
  | 0 => 0
  | k + 1 => if p (k + 1) then k + 1 else grt p k
theorem grt_of {p : Nat → Prop} {j : Nat} (h : p j) : ∀ k, j ≤ k → j ≤ grt p k ∧ p (grt p k)
  | 0, hk => by
    have : j = 0 := by omega
    subst this
    exact ⟨Nat.le_refl _, h⟩
  | k + 1, hk => by
    unfold grt
    split
    · rename_i hp; exact ⟨hk, hp⟩
    · rename_i hp
      rcases Nat.lt_or_ge k j with h1 | h1
      · have : j = k + 1 := by omega
        subst this
        exact absurd h hp
      · exact grt_of h k h1

set_option maxHeartbeats 2000000 in
set_option maxRecDepth 100000 in
theorem all1_any (n l bx sB base N : Nat) (r0 r1 r2 r4 : Value) (J : Nat → World → Prop) (Jx : World → Prop)
    (HJ : Hid (∀ j W, J j W → j ≤ N ∧ W.cell? ⟨bx, 0, none⟩ = some (.pointer (some ⟨sB, 3, none⟩)) ∧ ∃ wv ls, W.heap[sB]? = some (.cells #[r0, r1, r2, wv, r4] 105 (0, 0)) ∧ QuL W base wv ls ∧ ls.length ≤ 1000000))
    (HY : Hid (∀ j W v v' s rest, J j W → W.heap[sB]? = some (.cells #[r0, r1, r2, v, r4] 105 (0, 0)) → QuL W base v (s :: rest) → QuL W base v' rest →
      YieldAt Fence.wide (n - 1) Tryz.prog l #[ptr s] (W.setCell ⟨sB, 3, none⟩ v').drew fun e W' => (e = .returned (.bool true) ∧ J (j + 1) W') ∨ (e = .returned (.bool false) ∧ Jx W')))
    (W : World) (h0 : J 0 W) :
    CallsIn Fence.wide n Tryz.prog 76 #[.func (.yield l) #[] #[], ptr bx] W fun e W' => (∃ v, e = .returned v) ∧
      ((∃ j wv, J j W' ∧ W'.heap[sB]? = some (.cells #[r0, r1, r2, wv, r4] 105 (0, 0)) ∧ QuL W' base wv []) ∨ Jx W') := by
  refine callsIn_of_wp Tryz.func76 rfl trivial ?_ rfl
  simp only [Tryz.ntmps76, List.size_toArray, List.length_cons, List.length_nil, Nat.reduceAdd, Nat.reduceSub, Array.replicate_succ, Array.replicate_zero, List.push_toArray, List.append_toArray, List.nil_append, List.cons_append]
  gi_wp2
  gi_loopw [3] (fun _ wr => ∃ j, J j wr) (fun _ wr => N - grt (fun j => J j wr) N)
  case atStart => exact ⟨0, h0⟩
  case round =>
    obtain ⟨j0, hj0⟩ := hrel
    obtain ⟨hg1, hj⟩ := grt_of (p := fun j => J j wr) hj0 N (HJ.out _ _ hj0).1
    generalize hjg : grt (fun j => J j wr) N = j at hj hg1
    obtain ⟨hjN, hbx, wv, ls, hblk, hqu, hlen⟩ := HJ.out _ _ hj
    obtain ⟨s0, s1, s2, s3, s4, sz⟩ := cells5 hblk
    cases ls with
    | nil =>
      have hw0 : wv = .slice none 0 0 ∨ ∃ g off cap, wv = .slice (some ⟨g, off, none⟩) 0 cap := by
        rcases hqu with ⟨h, _⟩ | ⟨g, off, cap, cur, h, _⟩
        · exact Or.inl h
        · exact Or.inr ⟨g, off, cap, h⟩
      rcases hw0 with rfl | ⟨g, off, cap, rfl⟩
      · gi_wp2
        go_end0
        exact ⟨⟨_, rfl⟩, .inl ⟨j, _, hj, hblk, hqu⟩⟩
      · gi_wp2
        go_end0
        exact ⟨⟨_, rfl⟩, .inl ⟨j, _, hj, hblk, hqu⟩⟩
    | cons s rest =>
      obtain ⟨g, off, cap, rfl, hc, hqu'⟩ := hqu.pop
      have HV : Hid (QuL wr base (.slice (if cap = 0 then some ⟨g, off, none⟩ else some ⟨g, off + 1, none⟩) rest.length cap) rest) := hqu.pop' hqu'
      have hmx : Tryz.prog.follows .mixedOrders = true := by kernel_rfl
      have hcap : (0 : Int) ≤ (rest.length : Int) ∧ (rest.length : Int) ≤ (cap : Int) := by
        refine ⟨by omega, ?_⟩
        rcases hqu' with ⟨h, _⟩ | ⟨_, _, _, _, h, _, _, h3, _⟩
        · cases h
        · cases h; omega
      gi_wp2
      gi_region
      obtain ⟨v', hv'⟩ : ∃ v', Value.slice (if cap = 0 then some ⟨g, off, none⟩ else some ⟨g, off + 1, none⟩) rest.length cap = v' := ⟨_, rfl⟩
      rw [hv'] at HV ⊢
      obtain ⟨fn, tmps, assign, body, hyr, hR⟩ := HY.out j wr _ v' s rest hj hblk hqu HV.out
      obtain ⟨wy, hwy⟩ : ∃ wy, wy = (wr.setCell ⟨sB, 3, none⟩ v').drew := ⟨_, rfl⟩
      rw [← hwy] at hyr hR ⊢
      clear hcap hqu hqu' HV hblk s0 s1 s2 s3 s4 sz hbx hc hwy
      gi_wp2
      refine ⟨fun hh => (by cases hh), hR.mono ?_⟩
      rintro e W3 (⟨rfl, hJ3⟩ | ⟨rfl, hJx3⟩)
      · gi_wp2
        go_roundw
        case rel => exact ⟨j + 1, hJ3⟩
        case measure =>
          have h1 := (HJ.out _ _ hJ3).1
          have h2 := (grt_of (p := fun j => J j W3) hJ3 N h1).1
          omega
      · gi_wp2
        refine bodyPost_ret (results_none rfl _ _ _) rfl ?_
        exact ⟨⟨_, rfl⟩, .inr hJx3⟩

set_option maxHeartbeats 1000000 in
theorem all_any (sB : Nat) (w : World) :
    Calls Tryz.prog 38 #[.pointer (some ⟨sB, 3, none⟩)] w fun e w' => e = .returned (.func (.func 76) #[] #[ptr w.heap.size]) ∧ w' = w.alloc (.cells #[.pointer (some ⟨sB, 3, none⟩)] 170) := by
  go_enter Tryz.func38, Tryz.ntmps38
  go_wp2
  go_ret
  exact ⟨rfl, rfl⟩
end Go.Proofs.YtgflalfiopnmnaaGreatDoor

namespace Go.Proofs.YtgflalfiopnmnaaGreatDoor
open Go.RowKit Vl Aw

theorem okT_byI {n L : Nat} {K X : Nat → V} {ls : List Nat} (h : OkT n L K X) (hs : SortI K L ls) : OkT n L (byI K ls) (byI X ls) := by
  refine ⟨h.len, fun c hc => ?_⟩
  have hl := hs.lt hc
  have hp := h.all _ hl
  refine ⟨hp.key, hp.val, hp.some, fun j hj => ?_⟩
  have := Vl.OkT.once h (hs.lt (show j < L by omega)) hl (SortI.ne hs hj hc)
  show eqV (K (ls.getD j 0)) (K (ls.getD c 0)) = false
  cases h : eqV (K (ls.getD j 0)) (K (ls.getD c 0))
  · rfl
  · exact absurd (eqV_iff.1 h) this
theorem mem_byI {L : Nat} {K : Nat → V} {ls : List Nat} (hs : SortI K L ls) {k : V} : k ∈ keys (byI K ls) L ↔ k ∈ keys K L := by
  constructor
  · intro h
    obtain ⟨c, hc, rfl⟩ := mem_keys.1 h
    exact mem_keys.2 ⟨_, hs.lt hc, rfl⟩
  · intro h
    obtain ⟨c, hc, rfl⟩ := mem_keys.1 h
    obtain ⟨q, hq, e⟩ := perm_at hs hc
    exact mem_keys.2 ⟨q, hq, by unfold byI; rw [e]⟩
theorem atKey_byI {n L : Nat} {K X : Nat → V} {ls : List Nat} (h : OkT n L K X) (hs : SortI K L ls) (k : V) : atKey L (byI K ls) (byI X ls) k = atKey L K X k := by
  by_cases hk : k ∈ keys K L
  · obtain ⟨c, hc, rfl⟩ := mem_keys.1 hk
    obtain ⟨q, hq, e⟩ := perm_at hs hc
    rw [atKey_at h hc]
    have h1 := atKey_at (okT_byI h hs) hq
    have e1 : byI K ls q = K c := by unfold byI; rw [e]
    have e2 : byI X ls q = X c := by unfold byI; rw [e]
    rw [e1, e2] at h1
    exact h1
  · rw [atKey_no hk, atKey_no (fun h' => hk ((mem_byI hs).1 h'))]
structure Jnd (n m : Nat) (L : Nat → Nat) (K X : Nat → Nat → V) (L0 : Nat → Nat) (K0 X0 : Nat → Nat → V) (L1 : Nat → Nat) (K1 X1 : Nat → Nat → V) (ls : Nat → List Nat) : Prop where
  a : ∀ i, i < n → L i = L0 i ∧ SortI (K0 i) (L0 i) (ls i) ∧ K i = byI (K0 i) (ls i) ∧ X i = byI (X0 i) (ls i)
  b : ∀ i, i < m → L (n + i) = L1 i ∧ SortI (K1 i) (L1 i) (ls (n + i)) ∧ K (n + i) = byI (K1 i) (ls (n + i)) ∧ X (n + i) = byI (fun c => sh n (X1 i c)) (ls (n + i))
  oka : ∀ i, i < n → OkT n (L0 i) (K0 i) (X0 i)
  okb : ∀ i, i < m → OkT m (L1 i) (K1 i) (X1 i)

section
variable {n m : Nat} {L : Nat → Nat} {K X : Nat → Nat → V} {L0 : Nat → Nat} {K0 X0 : Nat → Nat → V} {L1 : Nat → Nat} {K1 X1 : Nat → Nat → V} {ls : Nat → List Nat} {f T : Nat → Nat}

theorem Jnd.ok (h : Jnd n m L K X L0 K0 X0 L1 K1 X1 ls) : ∀ r, r < n + m → OkT (n + m) (L r) (K r) (X r) := fun r hr => by
  by_cases e : r < n
  · obtain ⟨h1, h2, h3, h4⟩ := h.a r e
    rw [h1, h3, h4]
    exact okT_byI (okT_more (h.oka r e)) h2
  · obtain ⟨h1, h2, h3, h4⟩ := h.b (r - n) (by omega)
    rw [show n + (r - n) = r by omega] at h1 h2 h3 h4
    rw [h1, h3, h4]
    exact okT_byI (okT_sh (h.okb (r - n) (by omega))) h2
theorem Jnd.atA (h : Jnd n m L K X L0 K0 X0 L1 K1 X1 ls) {i : Nat} (hi : i < n) (k : V) : atKey (L i) (K i) (X i) k = atKey (L0 i) (K0 i) (X0 i) k := by
  obtain ⟨h1, h2, h3, h4⟩ := h.a i hi
  rw [h1, h3, h4]
  exact atKey_byI (h.oka i hi) h2 k
theorem Jnd.atB (h : Jnd n m L K X L0 K0 X0 L1 K1 X1 ls) {i : Nat} (hi : i < m) (k : V) : atKey (L (n + i)) (K (n + i)) (X (n + i)) k = sh n (atKey (L1 i) (K1 i) (X1 i) k) := by
  obtain ⟨h1, h2, h3, h4⟩ := h.b i hi
  rw [h1, h3, h4, atKey_byI (okT_sh (N := n) (h.okb i hi)) h2 k]
  exact atKey_sh n _ _ _ k
theorem Jnd.mem (h : Jnd n m L K X L0 K0 X0 L1 K1 X1 ls) {i j : Nat} (hi : i < n) (hj : j < m) (k : V) : k ∈ keys (K i) (L i) ++ keys (K (n + j)) (L (n + j)) ↔ k ∈ keys (K0 i) (L0 i) ++ keys (K1 j) (L1 j) := by
  obtain ⟨h1, h2, h3, h4⟩ := h.a i hi
  obtain ⟨g1, g2, g3, g4⟩ := h.b j hj
  rw [h1, h3, g1, g3, List.mem_append, List.mem_append, mem_byI h2, mem_byI g2]

theorem alike_sh (T : Nat → Nat) (n : Nat) (x y : V) (hno : (x.k == 4 && y.k == 4) = false) : alike T x (sh n y) = eqV x y := by
  cases he : eqV x y with
  | true =>
    have e := eqV_iff.1 he
    subst e
    have h4 : x.k ≠ 4 := fun e => by simp [e] at hno
    have : sh n x = x := by unfold sh; rw [if_neg h4]
    rw [this]
    exact alike_refl T x
  | false =>
    cases ha : alike T x (sh n y) with
    | false => rfl
    | true =>
      obtain ⟨h1, h2, h3⟩ := alike_iff.1 ha
      rw [sh_k] at h1
      have h4 : x.k ≠ 4 := fun e => by rw [← h1, e] at hno; simp at hno
      have h5 := h3 h4
      have : sh n y = y := by unfold sh; rw [if_neg (by rw [← h1]; exact h4)]
      rw [this] at h5
      rw [h5, eqV_refl] at he
      cases he

theorem Jnd.part (h : Jnd n m L K X L0 K0 X0 L1 K1 X1 ls) {e : Aw.E} (hi : e.a.a.toNat < n) (hj : e.b.a.toNat < m) (k : V) :
    (!((atKey (L e.a.a.toNat) (K e.a.a.toNat) (X e.a.a.toNat) k).k == 4 && (atKey (L (n + e.b.a.toNat)) (K (n + e.b.a.toNat)) (X (n + e.b.a.toNat)) k).k == 4) && !(alike T (atKey (L e.a.a.toNat) (K e.a.a.toNat) (X e.a.a.toNat) k) (atKey (L (n + e.b.a.toNat)) (K (n + e.b.a.toNat)) (X (n + e.b.a.toNat)) k)))
      = (Aw.sysOf n L0 K0 X0 L1 K1 X1 f).part ((Aw.sysOf n L0 K0 X0 L1 K1 X1 f).child e k) := by
  rw [h.atA hi, h.atB hj, sh_k]
  show _ = (!((atKey (L0 e.a.a.toNat) (K0 e.a.a.toNat) (X0 e.a.a.toNat) k).k == 4 && (atKey (L1 e.b.a.toNat) (K1 e.b.a.toNat) (X1 e.b.a.toNat) k).k == 4) && !(eqV (atKey (L0 e.a.a.toNat) (K0 e.a.a.toNat) (X0 e.a.a.toNat) k) (atKey (L1 e.b.a.toNat) (K1 e.b.a.toNat) (X1 e.b.a.toNat) k)))
  generalize atKey (L0 e.a.a.toNat) (K0 e.a.a.toNat) (X0 e.a.a.toNat) k = x
  generalize atKey (L1 e.b.a.toNat) (K1 e.b.a.toNat) (X1 e.b.a.toNat) k = y
  cases hb : (x.k == 4 && y.k == 4) with
  | true => rfl
  | false => rw [alike_sh T n x y hb]

theorem Jnd.strict (h : Jnd n m L K X L0 K0 X0 L1 K1 X1 ls) {i j : Nat} (hi : i < n) (hj : j < m) : Strict (kidsOf (keys (K0 i) (L0 i) ++ keys (K1 j) (L1 j))) :=
  kidsOf_strict _ (fun k hk => by
    rcases List.mem_append.1 hk with hk | hk
    · obtain ⟨c, hc, rfl⟩ := mem_keys.1 hk; exact ((h.oka i hi).all c hc).key
    · obtain ⟨c, hc, rfl⟩ := mem_keys.1 hk; exact ((h.okb j hj).all c hc).key)

theorem Jnd.none_parts (h : Jnd n m L K X L0 K0 X0 L1 K1 X1 ls) {e : Aw.E} (hi : e.a.a.toNat < n) (hj : e.b.a.toNat < m)
    (hno : (keys (K e.a.a.toNat) (L e.a.a.toNat) ++ keys (K (n + e.b.a.toNat)) (L (n + e.b.a.toNat))).filter (fun k => (Aw.sysOf n L0 K0 X0 L1 K1 X1 f).part ((Aw.sysOf n L0 K0 X0 L1 K1 X1 f).child e k)) = []) :
    (∀ k ∈ (Aw.sysOf n L0 K0 X0 L1 K1 X1 f).kids e.a e.b, (Aw.sysOf n L0 K0 X0 L1 K1 X1 f).part ((Aw.sysOf n L0 K0 X0 L1 K1 X1 f).child e k) = false) ∧ keys (K e.a.a.toNat) (L e.a.a.toNat) = (Aw.sysOf n L0 K0 X0 L1 K1 X1 f).kids e.a e.b := by
  have hall : ∀ k ∈ (Aw.sysOf n L0 K0 X0 L1 K1 X1 f).kids e.a e.b, (Aw.sysOf n L0 K0 X0 L1 K1 X1 f).part ((Aw.sysOf n L0 K0 X0 L1 K1 X1 f).child e k) = false := fun k hk => by
    have hk' : k ∈ kidsOf (keys (K0 e.a.a.toNat) (L0 e.a.a.toNat) ++ keys (K1 e.b.a.toNat) (L1 e.b.a.toNat)) := hk
    rw [mem_kidsOf, ← h.mem hi hj] at hk'
    cases hp : (Aw.sysOf n L0 K0 X0 L1 K1 X1 f).part ((Aw.sysOf n L0 K0 X0 L1 K1 X1 f).child e k) with
    | false => rfl
    | true =>
      have : k ∈ (keys (K e.a.a.toNat) (L e.a.a.toNat) ++ keys (K (n + e.b.a.toNat)) (L (n + e.b.a.toNat))).filter (fun k => (Aw.sysOf n L0 K0 X0 L1 K1 X1 f).part ((Aw.sysOf n L0 K0 X0 L1 K1 X1 f).child e k)) := List.mem_filter.2 ⟨hk', hp⟩
      rw [hno] at this
      cases this
  refine ⟨hall, ?_⟩
  obtain ⟨h1, h2, h3, _⟩ := h.a _ hi
  rw [h1, h3]
  refine order_kids (h.oka _ hi) (h.okb _ hj) h2 (fun k hk hc => ?_)
  have hp := hall k hk
  have hp' : (!((atKey (L0 e.a.a.toNat) (K0 e.a.a.toNat) (X0 e.a.a.toNat) k).k == 4 && (atKey (L1 e.b.a.toNat) (K1 e.b.a.toNat) (X1 e.b.a.toNat) k).k == 4) && !(eqV (atKey (L0 e.a.a.toNat) (K0 e.a.a.toNat) (X0 e.a.a.toNat) k) (atKey (L1 e.b.a.toNat) (K1 e.b.a.toNat) (X1 e.b.a.toNat) k))) = false := hp
  have h5 : eqV (atKey (L0 e.a.a.toNat) (K0 e.a.a.toNat) (X0 e.a.a.toNat) k) (atKey (L1 e.b.a.toNat) (K1 e.b.a.toNat) (X1 e.b.a.toNat) k) = false := by
    cases hh : eqV (atKey (L0 e.a.a.toNat) (K0 e.a.a.toNat) (X0 e.a.a.toNat) k) (atKey (L1 e.b.a.toNat) (K1 e.b.a.toNat) (X1 e.b.a.toNat) k) with
    | false => rfl
    | true => exact absurd (eqV_iff.1 hh) hc.2
  rw [h5] at hp'
  simp only [Bool.not_false, Bool.and_true, Bool.not_eq_false', Bool.and_eq_true, beq_iff_eq] at hp'
  exact hc.1 hp'

theorem Jnd.first_parts (h : Jnd n m L K X L0 K0 X0 L1 K1 X1 ls) {e : Aw.E} (hi : e.a.a.toNat < n) (hj : e.b.a.toNat < m) {k : V}
    (hk : k ∈ (keys (K e.a.a.toNat) (L e.a.a.toNat) ++ keys (K (n + e.b.a.toNat)) (L (n + e.b.a.toNat))).filter (fun k => (Aw.sysOf n L0 K0 X0 L1 K1 X1 f).part ((Aw.sysOf n L0 K0 X0 L1 K1 X1 f).child e k)))
    (hmin : ∀ x ∈ (keys (K e.a.a.toNat) (L e.a.a.toNat) ++ keys (K (n + e.b.a.toNat)) (L (n + e.b.a.toNat))).filter (fun k => (Aw.sysOf n L0 K0 X0 L1 K1 X1 f).part ((Aw.sysOf n L0 K0 X0 L1 K1 X1 f).child e k)), less x k = false) :
    (Aw.sysOf n L0 K0 X0 L1 K1 X1 f).part ((Aw.sysOf n L0 K0 X0 L1 K1 X1 f).child e k) = true ∧ ∃ pre post, (Aw.sysOf n L0 K0 X0 L1 K1 X1 f).kids e.a e.b = pre ++ k :: post ∧ ∀ x ∈ pre, (Aw.sysOf n L0 K0 X0 L1 K1 X1 f).part ((Aw.sysOf n L0 K0 X0 L1 K1 X1 f).child e x) = false := by
  obtain ⟨k1, k2⟩ := List.mem_filter.1 hk
  refine ⟨k2, ?_⟩
  obtain ⟨pre, post, e1, e2⟩ := split_at (P := fun x => (Aw.sysOf n L0 K0 X0 L1 K1 X1 f).part ((Aw.sysOf n L0 K0 X0 L1 K1 X1 f).child e x) = true) (h.strict hi hj) ((h.mem hi hj k).1 k1) (fun x hx hp => hmin x (List.mem_filter.2 ⟨(h.mem hi hj x).2 hx, hp⟩))
  exact ⟨pre, post, e1, fun x hx => by
    cases hh : (Aw.sysOf n L0 K0 X0 L1 K1 X1 f).part ((Aw.sysOf n L0 K0 X0 L1 K1 X1 f).child e x) with
    | false => rfl
    | true => exact absurd hh (e2 x hx)⟩
end

end Go.Proofs.YtgflalfiopnmnaaGreatDoor
