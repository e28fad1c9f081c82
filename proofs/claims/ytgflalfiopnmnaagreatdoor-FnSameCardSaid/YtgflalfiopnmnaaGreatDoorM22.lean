import Derived.Test.YtgflalfiopnmnaaGreatDoorM0
import Derived.Test.YtgflalfiopnmnaaGreatDoorM21
namespace Go.Proofs.YtgflalfiopnmnaaGreatDoor
open Go.RowKit Vl Aw
attribute [local go_sem] Oper.semAt_some

def rfBody : Code → Option Code
  | .seq a b => (rfBody a).orElse (fun _ => rfBody b)
  | .block _ c => rfBody c
  | .rangeFunc _ _ _ body => some body
  | .cond _ a b => (rfBody a).orElse (fun _ => rfBody b)
  | _ => none

theorem Sea.keep {w y : World} {n m : Nat} {T : Nat → Nat} {sB sm cb base : Nat} {rv tv : Value} {j : Nat} {q : List Aw.E} {SB : Nat → Nat} (h : Sea w n m T sB sm cb base rv tv j q SB) (hf : Fr sB sm base w y) {k : Nat} {cs : Array Value} {t : TypeId} {z : Nat × Nat} (hk : w.heap[k]? = some (.cells cs t z)) (h1 : t ≠ 110) (h2 : t ≠ 105) : y.heap[k]? = some (.cells cs t z) := by
  obtain ⟨wv, hs, _⟩ := h.blk
  obtain ⟨es, clk, hm, _⟩ := h.seen
  refine hf.cells hk h1 (fun e => ?_) (fun e => ?_)
  · rw [e, hs] at hk
    cases hk
    exact h2 rfl
  · rw [e, hm] at hk
    cases hk
theorem Sea.tbs {w y : World} {n m : Nat} {T M : Nat → Nat} {sB sm cb base : Nat} {rv tv : Value} {j : Nat} {q : List Aw.E} {SB : Nat → Nat} {at_ : Nat → Int} {L : Nat → Nat} {K X : Nat → Nat → V} {N : Nat} (h : Sea w n m T sB sm cb base rv tv j q SB) (hf : Fr sB sm base w y) (ht : Tbs w N T M at_ L K X) (hm : ∀ j, j < N → M j ≠ sm) : Tbs y N T M at_ L K X := by
  obtain ⟨wv, hs, _⟩ := h.blk
  obtain ⟨es, clk, hmm, _⟩ := h.seen
  exact hf.tbs ht ⟨_, hs⟩ hm ⟨_, _, hmm⟩
theorem mem_iadd {S : Aw.Sys} {q : List Aw.E} {c x : Aw.E} (h : x ∈ S.iadd q c) : x ∈ q ∨ (x = c ∧ S.cp c = true) := by
  unfold Aw.Sys.iadd at h
  split at h
  · rename_i hc
    rcases List.mem_append.1 h with h | h
    · exact Or.inl h
    · simp only [Bool.and_eq_true] at hc
      exact Or.inr ⟨List.mem_singleton.1 h, hc.1.1⟩
  · exact Or.inl h
theorem iadd_at {S : Aw.Sys} {q : List Aw.E} {c : Aw.E} {j : Nat} (h : j < q.length) : j < (S.iadd q c).length ∧ lsE (S.iadd q c) j = lsE q j := by
  unfold Aw.Sys.iadd
  split
  · refine ⟨by rw [List.length_append]; omega, ?_⟩
    unfold lsE
    rw [List.getD_eq_getElem?_getD, List.getD_eq_getElem?_getD, List.getElem?_append_left h]
  · exact ⟨h, rfl⟩
theorem Jnd.both {n m : Nat} {L : Nat → Nat} {K X : Nat → Nat → V} {L0 : Nat → Nat} {K0 X0 : Nat → Nat → V} {L1 : Nat → Nat} {K1 X1 : Nat → Nat → V} {ls : Nat → List Nat} {f : Nat → Nat} (h : Jnd n m L K X L0 K0 X0 L1 K1 X1 ls) {e : Aw.E} (hi : e.a.a.toNat < n) (hj : e.b.a.toNat < m) {c : Nat} (hc : c < L e.a.a.toNat)
    (hp : (Aw.sysOf n L0 K0 X0 L1 K1 X1 f).part ((Aw.sysOf n L0 K0 X0 L1 K1 X1 f).child e (K e.a.a.toNat c)) = false) :
    X e.a.a.toNat c = ((Aw.sysOf n L0 K0 X0 L1 K1 X1 f).child e (K e.a.a.toNat c)).a ∧ ∃ c', c' < L (n + e.b.a.toNat) ∧ K (n + e.b.a.toNat) c' = K e.a.a.toNat c ∧ X (n + e.b.a.toNat) c' = sh n ((Aw.sysOf n L0 K0 X0 L1 K1 X1 f).child e (K e.a.a.toNat c)).b := by
  have ha : X e.a.a.toNat c = ((Aw.sysOf n L0 K0 X0 L1 K1 X1 f).child e (K e.a.a.toNat c)).a := by
    rw [← atKey_at (h.ok _ (by omega)) hc, h.atA hi]
    rfl
  refine ⟨ha, ?_⟩
  have hb := h.atB hj (K e.a.a.toNat c)
  by_cases hk : K e.a.a.toNat c ∈ keys (K (n + e.b.a.toNat)) (L (n + e.b.a.toNat))
  · obtain ⟨c', hc', e'⟩ := mem_keys.1 hk
    refine ⟨c', hc', e', ?_⟩
    rw [← atKey_at (h.ok _ (by omega)) hc', e', hb]
    rfl
  · exfalso
    rw [← h.part (T := fun _ => 0) hi hj, atKey_no hk, atKey_at (h.ok _ (by omega)) hc] at hp
    have hs := ((h.ok e.a.a.toNat (by omega)).all c hc).some
    have h1 : alike (fun _ => 0) (X e.a.a.toNat c) zeroV = false := by
      cases hh : alike (fun _ => 0) (X e.a.a.toNat c) zeroV with
      | false => rfl
      | true => exact absurd (alike_iff.1 hh).1 hs
    rw [h1] at hp
    simp [zeroV] at hp

set_option maxHeartbeats 8000000 in
set_option maxRecDepth 100000 in
theorem apBody_any (N l n m : Nat) (T M : Nat → Nat) (L : Nat → Nat) (K X : Nat → Nat → V) (L0 : Nat → Nat) (K0 X0 : Nat → Nat → V) (L1 : Nat → Nat) (K1 X1 : Nat → Nat → V) (ls : Nat → List Nat) (f : Nat → Nat) (sB sm cb base b4 b7 : Nat) (rv tv r4 : Value) (j : Nat) (q : List Aw.E) (SB : Nat → Nat) (e : Aw.E) (x0 x1 x2 x3 x5 x6 x9 x10 x11 x12 x13 x14 x15 x16 x17 x18 x19 x20 x21 x22 x23 x24 x25 x26 x27 x28 x29 x30 x31 x32 x33 x34 x35 x36 x37 x38 x39 x40 x41 x42 x43 x44 x45 x46 x47 x48 x49 x50 x51 x52 x53 x54 x55 x56 x57 x58 x59 x60 x61 x62 x63 x64 x65 x66 x67 x68 x69 x70 x71 x72 x73 x74 x75 x76 x77 x78 x79 x80 x81 x82 x83 x84 x85 x86 x87 x88 x89 x90 x91 x92 x93 x94 : Value) (w : World) (Q : Exit → Act → World → Prop)
    (hj : j < q.length) (HE : Hid (lsE q j = e)) (HSea : Hid (Sea w n m T sB sm cb base rv tv (j + 1) q SB)) (HT : Hid (Tbs w (n + m) T M (fun j => (j : Nat)) L K X)) (HJ : Hid (Jnd n m L K X L0 K0 X0 L1 K1 X1 ls)) (HC : Hid (w.rowIs cb 3 (n + m) (fun i => .int .i64 (f i : Nat)))) (HF : Hid (∀ i, i < n + m → f i ≤ i))
    (HQ : Hid (∀ x ∈ q, isV n x.a = true ∧ isV m x.b = true ∧ x.a.k = 4 ∧ x.b.k = 4)) (HM : Hid (∀ j, j < n + m → M j ≠ sm)) (H7 : Hid (w.heap[b7]? = some (.cells #[ptr sB] 99 (0, 0)))) (H4 : Hid (w.heap[b4]? = some (.cells #[r4] 42 (0, 0)))) (HP : Hid (e.p.length ≤ 50000))
    (HL : Hid (∀ ks, ks <+: (Aw.sysOf n L0 K0 X0 L1 K1 X1 f).kids e.a e.b → (ks.foldl (fun l k => (Aw.sysOf n L0 K0 X0 L1 K1 X1 f).iadd l ((Aw.sysOf n L0 K0 X0 L1 K1 X1 f).child e k)) q).length ≤ 100000))
    (HQn : Hid (∀ a w', (∀ k ∈ (Aw.sysOf n L0 K0 X0 L1 K1 X1 f).kids e.a e.b, (Aw.sysOf n L0 K0 X0 L1 K1 X1 f).part ((Aw.sysOf n L0 K0 X0 L1 K1 X1 f).child e k) = false) → (∃ SB', Sea w' n m T sB sm cb base rv tv (j + 1) ((Aw.sysOf n L0 K0 X0 L1 K1 X1 f).igrow q e) SB') → Fr sB sm base w w' → Q .normal a w'))
    (HQr : Hid (∀ a w' k pre post v, (Aw.sysOf n L0 K0 X0 L1 K1 X1 f).kids e.a e.b = pre ++ k :: post → (∀ x ∈ pre, (Aw.sysOf n L0 K0 X0 L1 K1 X1 f).part ((Aw.sysOf n L0 K0 X0 L1 K1 X1 f).child e x) = false) → (Aw.sysOf n L0 K0 X0 L1 K1 X1 f).part ((Aw.sysOf n L0 K0 X0 L1 K1 X1 f).child e k) = true → w'.heap[b4]? = some (.cells #[v] 42 (0, 0)) → w'.ownsRow w.heap.size 24 4 v (e.p.length + 1) (keyCells (e.p ++ [k])) → Only (fun k => k = b4) w w' → Q .ret a w'))
    (HNx : Hid (Nexts (Aw.sysOf n L0 K0 X0 L1 K1 X1 f) (goodV n m))) (hno : ¬ LetsOut Q) (hQp : ∀ ch a a' w, Q (.panic ch) a w → Q (.panic ch) a' w) (c : Code) (hc : (Tryz.f15.body.bind rfBody) = some c) :
    c.wpIn (Fence.wide.inRound l) N Tryz.prog Q { tmps := #[x0, x1, x2, x3, ptr b4, x5, x6, ptr b7, ptr (SB j), x9, x10, x11, x12, x13, x14, x15, x16, x17, x18, x19, x20, x21, x22, x23, x24, x25, x26, x27, x28, x29, x30, x31, x32, x33, x34, x35, x36, x37, x38, x39, x40, x41, x42, x43, x44, x45, x46, x47, x48, x49, x50, x51, x52, x53, x54, x55, x56, x57, x58, x59, x60, x61, x62, x63, x64, x65, x66, x67, x68, x69, x70, x71, x72, x73, x74, x75, x76, x77, x78, x79, x80, x81, x82, x83, x84, x85, x86, x87, x88, x89, x90, x91, x92, x93, x94], defers := [] } w := by
  simp only [Tryz.f15, Option.bind_some, rfBody, Option.orElse, Option.some.injEq] at hc
  subst hc
  obtain ⟨hga, hgb, hka, hkb⟩ := HQ.out e (by rw [← HE.out]; exact List.mem_of_getElem? (lsE_at hj))
  obtain ⟨a0, a1⟩ := isV_tab hga hka
  obtain ⟨b0, b1⟩ := isV_tab hgb hkb
  have hia : e.a.a.toNat < n := by omega
  have hjb : e.b.a.toNat < m := by omega
  have HIA : Hid (e.a.a.toNat < n ∧ e.b.a.toNat < m) := ⟨hia, hjb⟩
  obtain ⟨ks, ah, hst, hah⟩ := HSea.out.sts.st j hj
  rw [HE.out] at hst
  have HST : Hid (w.heap[SB j]? = some (.cells #[ptr (T e.a.a.toNat), ptr (T (n + e.b.a.toNat)), .int .i64 ks.k, .int .i64 ks.n, .string ks.s, .int .i64 ks.a, .pointer ah] 112 (0, 0))) := hst
  obtain ⟨y0, y1, y2, y3, y4, y5, y6, yz⟩ := cellsSt hst
  have hpa := parting_any (n + m) e.a.a.toNat (n + e.b.a.toNat) T M (fun j => (j : Nat)) L K X w (by omega) (by omega) HJ.out.ok HT (fun k => (Aw.sysOf n L0 K0 X0 L1 K1 X1 f).part ((Aw.sysOf n L0 K0 X0 L1 K1 X1 f).child e k)) (show Hid _ from funext fun k => (HJ.out.part (f := f) (T := T) hia hjb k).symm)
  obtain ⟨pa, hpae⟩ : ∃ pa, T e.a.a.toNat = pa := ⟨_, rfl⟩
  obtain ⟨pb, hpbe⟩ : ∃ pb, T (n + e.b.a.toNat) = pb := ⟨_, rfl⟩
  have HPA : Hid (T e.a.a.toNat = pa ∧ T (n + e.b.a.toNat) = pb) := ⟨hpae, hpbe⟩
  rw [hpae, hpbe] at hpa
  rw [hpae] at y0
  rw [hpbe] at y1
  clear hst hah a0 a1 b0 b1 hga hgb hka hkb hpae hpbe
  gi_wp2_with fail
  refine ⟨trivial, fun hh => (by cases hh), (callsIn_wideR (ro := some l) hpa).mono ?_⟩
  clear hpa y0 y1 y2 y3 y4 y5 y6 yz
  rintro en w1 ⟨hcase, hb1⟩
  have HB1 : Hid (Below w.heap.size w w1) := hb1
  clear hb1
  rcases hcase with ⟨hnone, rfl⟩ | ⟨k, rfl, hk, hmin⟩
  · obtain ⟨hall, hkeys⟩ := HJ.out.none_parts (f := f) hia hjb hnone
    have HAL : Hid (∀ k ∈ (Aw.sysOf n L0 K0 X0 L1 K1 X1 f).kids e.a e.b, (Aw.sysOf n L0 K0 X0 L1 K1 X1 f).part ((Aw.sysOf n L0 K0 X0 L1 K1 X1 f).child e k) = false) := hall
    have HKY : Hid (keys (K e.a.a.toNat) (L e.a.a.toNat) = (Aw.sysOf n L0 K0 X0 L1 K1 X1 f).kids e.a e.b) := hkeys
    have hLa := (HJ.out.ok e.a.a.toNat (by omega)).len
    obtain ⟨ord, hTb, hOr⟩ := HT.out.tab e.a.a.toNat (by omega)
    obtain ⟨ord', hTb', _⟩ := HT.out.tab (n + e.b.a.toNat) (by omega)
    obtain ⟨hform, _⟩ := owns_keys hOr
    have HV0 : Hid (∀ y, Fr sB sm base w y → ValsAt y (slA ord) (L e.a.a.toNat) (slB ord) 0 (K e.a.a.toNat)) := show ∀ y, _ from fun y hf => (owns_keys (Only.ownsB hf hOr (fun g hg hp => by
      obtain ⟨_, cur, hc⟩ := owns_type hOr hg
      obtain ⟨wv, hs, _⟩ := HSea.out.blk
      obtain ⟨es, clk, hm, _⟩ := HSea.out.seen
      rcases hp with e | e | ⟨_, cur', hc'⟩
      · rw [e, hs] at hc; cases hc
      · rw [e, hm] at hc; cases hc
      · rw [hc'] at hc; cases hc))).2
    obtain ⟨ka, hka⟩ : ∃ ka, slA ord = ka := ⟨_, rfl⟩
    obtain ⟨kb, hkb⟩ : ∃ kb, slB ord = kb := ⟨_, rfl⟩
    obtain ⟨kc, hkc⟩ : ∃ kc, slC ord = kc := ⟨_, rfl⟩
    rw [hka, hkc] at hform
    rw [hka, hkb] at HV0
    obtain ⟨La, HLa⟩ : ∃ La, Hid (L e.a.a.toNat = La) := ⟨_, rfl⟩
    rw [HLa.out] at hform HV0 hLa
    rw [hform] at hTb
    unfold TabB at hTb hTb'
    rw [HPA.out.1] at hTb
    rw [HPA.out.2] at hTb'
    obtain ⟨Ma, hMa⟩ : ∃ Ma, M e.a.a.toNat = Ma := ⟨_, rfl⟩
    obtain ⟨Mb, hMb⟩ : ∃ Mb, M (n + e.b.a.toNat) = Mb := ⟨_, rfl⟩
    rw [hMa] at hTb
    rw [hMb] at hTb'
    have HTA : Hid (∀ y, Fr sB sm base w y → y.cell? ⟨pa, 1, none⟩ = some (.map (some Ma)) ∧ y.cell? ⟨pa, 2, none⟩ = some (.slice ka La kc)) := show ∀ y, _ from fun y hf => by
      obtain ⟨_, t1, t2, _⟩ := TabB.cells (HSea.out.keep hf hTb (by decide) (by decide))
      exact ⟨t1, t2⟩
    have HTB : Hid (∀ y, Fr sB sm base w y → y.cell? ⟨pb, 1, none⟩ = some (.map (some Mb))) := show ∀ y, _ from fun y hf => (TabB.cells (HSea.out.keep hf hTb' (by decide) (by decide))).2.1
    have HSY : Hid (∀ y, Fr sB sm base w y → y.cell? ⟨SB j, 0, none⟩ = some (ptr pa) ∧ y.cell? ⟨SB j, 1, none⟩ = some (ptr pb)) := show ∀ y, _ from fun y hf => by
      obtain ⟨y0, y1, _⟩ := cellsSt (HSea.out.keep hf HST.out (by decide) (by decide))
      rw [HPA.out.1] at y0
      rw [HPA.out.2] at y1
      exact ⟨y0, y1⟩
    have HB7 : Hid (∀ y, Fr sB sm base w y → y.cell? ⟨b7, 0, none⟩ = some (ptr sB)) := show ∀ y, _ from fun y hf => (one_at (HSea.out.keep hf H7.out (by decide) (by decide))).1
    have HTY : Hid (∀ y, Fr sB sm base w y → Tbs y (n + m) T M (fun j => (j : Nat)) L K X) := show ∀ y, _ from fun y hf => HSea.out.tbs hf HT.out HM.out
    have HLk : Hid (∀ y, Fr sB sm base w y → ∀ c, c < La → (Instr.lookup 119 (.map (some Ma)) (vAgg (K e.a.a.toNat c)) false).run Tryz.prog y = .ok (ifv T ((Aw.sysOf n L0 K0 X0 L1 K1 X1 f).child e (K e.a.a.toNat c)).a) y ∧ (Instr.lookup 119 (.map (some Mb)) (vAgg (K e.a.a.toNat c)) false).run Tryz.prog y = .ok (ifv T (sh n ((Aw.sysOf n L0 K0 X0 L1 K1 X1 f).child e (K e.a.a.toNat c)).b)) y) := show ∀ y, _ from fun y hf c hc => by
      have hc' : c < L e.a.a.toNat := by rw [HLa.out]; exact hc
      have hpt : (Aw.sysOf n L0 K0 X0 L1 K1 X1 f).part ((Aw.sysOf n L0 K0 X0 L1 K1 X1 f).child e (K e.a.a.toNat c)) = false := HAL.out _ (by rw [← HKY.out]; exact mem_keys.2 ⟨c, hc', rfl⟩)
      obtain ⟨ea, cb', hcb, ek, eb⟩ := HJ.out.both (f := f) hia hjb hc' hpt
      obtain ⟨l0, m0, f0⟩ := (HTY.out y hf).map e.a.a.toNat (by omega)
      obtain ⟨l1, m1, f1⟩ := (HTY.out y hf).map (n + e.b.a.toNat) (by omega)
      have r0 := (m0.lookup (K e.a.a.toNat c)).2
      rw [f0 c hc', hMa, ea] at r0
      have r1 := (m1.lookup (K (n + e.b.a.toNat) cb')).2
      rw [f1 cb' hcb, hMb, eb, ek] at r1
      exact ⟨r0, r1⟩
    have HCC : Hid (∀ y, Fr sB sm base w y → ∀ i, i < n + m → y.cell? ⟨cb, i, none⟩ = some (.int .i64 (f i : Nat))) := show ∀ y, _ from fun y hf i hi => by
      obtain ⟨cs, h1, h2, h3⟩ := HC.out
      exact World.rowIs.cell (f := fun i => .int .i64 (f i : Nat)) ⟨cs, HSea.out.keep hf h1 (by decide) (by decide), h2, h3⟩ hi
    have HF1 : Hid (Fr sB sm base w w1) := Fr.below HB1.out
    obtain ⟨w2, hw2⟩ : ∃ w2, w2 = w1.alloc (.cells #[.int .i64 0, .int .i64 0, .string ⟨#[]⟩, .int .i64 0] 24) := ⟨_, rfl⟩
    have HB2 : Hid (Below w.heap.size w w2) := grw HB1.out (by rw [hw2]; exact (Below.refl _ _).alloc (Nat.le_refl _) _)
    have HF2 : Hid (Fr sB sm base w w2) := Fr.below HB2.out
    obtain ⟨y0, y1⟩ := HSY.out w2 HF2.out
    obtain ⟨t1, t2⟩ := HTA.out w2 HF2.out
    rw [hw2] at y0 y1 t1 t2
    clear hnone hall hkeys hform hTb hTb' hOr hka hkb hkc hMa hMb hia hjb
    unfold vAgg zeroV
    gi_wp2
    rw [← hw2]
    clear y0 y1 t1 t2 hw2
    gi_loopw [65] (fun iv wr => ∃ i : Nat, i ≤ La ∧ iv = .int .i64 i ∧ Hid (Fr sB sm base w wr) ∧ Hid (∃ SB', Sea wr n m T sB sm cb base rv tv (j + 1) ((((Aw.sysOf n L0 K0 X0 L1 K1 X1 f).kids e.a e.b).take i).foldl (fun l k => (Aw.sysOf n L0 K0 X0 L1 K1 X1 f).iadd l ((Aw.sysOf n L0 K0 X0 L1 K1 X1 f).child e k)) q) SB' ∧ SB' j = SB j ∧ j < ((((Aw.sysOf n L0 K0 X0 L1 K1 X1 f).kids e.a e.b).take i).foldl (fun l k => (Aw.sysOf n L0 K0 X0 L1 K1 X1 f).iadd l ((Aw.sysOf n L0 K0 X0 L1 K1 X1 f).child e k)) q).length ∧ lsE ((((Aw.sysOf n L0 K0 X0 L1 K1 X1 f).kids e.a e.b).take i).foldl (fun l k => (Aw.sysOf n L0 K0 X0 L1 K1 X1 f).iadd l ((Aw.sysOf n L0 K0 X0 L1 K1 X1 f).child e k)) q) j = e ∧ ∀ x ∈ (((Aw.sysOf n L0 K0 X0 L1 K1 X1 f).kids e.a e.b).take i).foldl (fun l k => (Aw.sysOf n L0 K0 X0 L1 K1 X1 f).iadd l ((Aw.sysOf n L0 K0 X0 L1 K1 X1 f).child e k)) q, isV n x.a = true ∧ isV m x.b = true ∧ x.a.k = 4 ∧ x.b.k = 4)) (fun iv _ => La - (intOf iv).toNat)
    case atStart => exact ⟨0, Nat.zero_le _, rfl, HF2, SB, HSea.out.below HB2.out, rfl, hj, HE.out, HQ.out⟩
    case round =>
      obtain ⟨i, hi, rfl, HFr, HInv⟩ := hrel
      by_cases hlt : i < La
      · obtain rfl := (HV0.out w (Fr.refl _ _ _ _)).top (by omega)
        obtain ⟨k0, k1, k2, k3⟩ := (HV0.out wr HFr.out).cells hlt
        simp only [Nat.zero_add] at k0 k1 k2 k3
        obtain ⟨kk, HKK⟩ : ∃ kk, Hid (K e.a.a.toNat i = kk) := ⟨_, rfl⟩
        rw [HKK.out] at k0 k1 k2 k3
        gi_wp2
        obtain ⟨wk, hwk⟩ : ∃ wk, wk = wr.alloc (.cells #[.int .i64 kk.k, .int .i64 kk.n, .string kk.s, .int .i64 kk.a] 24) := ⟨_, rfl⟩
        have HBk : Hid (Below wr.heap.size wr wk) := by rw [hwk]; exact (Below.refl _ _).alloc (Nat.le_refl _) _
        have HFk : Hid (Fr sB sm base w wk) := Fr.trans HFr.out (Fr.below HBk.out)
        obtain ⟨qb, hqb⟩ : ∃ qb, wr.heap.size = qb := ⟨_, rfl⟩
        have HKb : Hid (wk.heap[qb]? = some (.cells #[.int .i64 kk.k, .int .i64 kk.n, .string kk.s, .int .i64 kk.a] 24 (0, 0))) := by rw [hwk, ← hqb]; exact heap_alloc_new _ _
        try rw [hqb]
        try rw [hqb] at hwk
        rw [← hwk]
        clear hwk k0 k1 k2 k3 hqb
        obtain ⟨SB', hsea, hsj, hjl, hle, hqg⟩ := HInv.out
        have HNt : Hid (((Aw.sysOf n L0 K0 X0 L1 K1 X1 f).kids e.a e.b).take (i + 1) = ((Aw.sysOf n L0 K0 X0 L1 K1 X1 f).kids e.a e.b).take i ++ [kk]) := by
          have h1 : ((Aw.sysOf n L0 K0 X0 L1 K1 X1 f).kids e.a e.b)[i]? = some kk := by
            rw [← HKY.out, ← HKK.out, HLa.out]
            simp [keys, hlt]
          show _ = _
          rw [List.take_add_one, h1]
          rfl
        have hkin : kk ∈ (Aw.sysOf n L0 K0 X0 L1 K1 X1 f).kids e.a e.b := by
          rw [← HKY.out]
          exact mem_keys.2 ⟨i, by rw [HLa.out]; exact hlt, HKK.out⟩
        obtain ⟨qi, HQI⟩ : ∃ qi, Hid ((((Aw.sysOf n L0 K0 X0 L1 K1 X1 f).kids e.a e.b).take i).foldl (fun l k => (Aw.sysOf n L0 K0 X0 L1 K1 X1 f).iadd l ((Aw.sysOf n L0 K0 X0 L1 K1 X1 f).child e k)) q = qi) := ⟨_, rfl⟩
        rw [HQI.out] at hsea hjl hle hqg
        have HQN : Hid ((((Aw.sysOf n L0 K0 X0 L1 K1 X1 f).kids e.a e.b).take (i + 1)).foldl (fun l k => (Aw.sysOf n L0 K0 X0 L1 K1 X1 f).iadd l ((Aw.sysOf n L0 K0 X0 L1 K1 X1 f).child e k)) q = (Aw.sysOf n L0 K0 X0 L1 K1 X1 f).iadd qi ((Aw.sysOf n L0 K0 X0 L1 K1 X1 f).child e kk)) := by
          show _ = _
          rw [HNt.out, List.foldl_append, HQI.out]
          rfl
        have hqil : qi.length ≤ 100000 := by rw [← HQI.out]; exact HL.out _ (List.take_prefix _ _)
        obtain ⟨_, _, hka, hkb⟩ := HQ.out e (by rw [← HE.out]; exact List.mem_of_getElem? (lsE_at hj))
        have hgd : goodV n m e.a e.b := by obtain ⟨h1, h2, _⟩ := HQ.out e (by rw [← HE.out]; exact List.mem_of_getElem? (lsE_at hj)); exact ⟨h1, h2⟩
        obtain ⟨hx, hy⟩ := HNx.out e.a e.b hgd (beq_iff_eq.2 hka) (beq_iff_eq.2 hkb) kk hkin
        obtain ⟨ch, HCH⟩ : ∃ ch, Hid ((Aw.sysOf n L0 K0 X0 L1 K1 X1 f).child e kk = ch) := ⟨_, rfl⟩
        have hcp : ch.p = e.p ++ [kk] := by rw [← HCH.out]; rfl
        have hx' : isV n ch.a = true := by rw [← HCH.out]; exact hx
        have hy' : isV m ch.b = true := by rw [← HCH.out]; exact hy
        have HSF : Hid (∀ y, Fr sB sm base wk y → Fr sB sm base w y) := show ∀ y, _ from fun y h => Fr.trans HFk.out h
        have HSk : Hid (Sea wk n m T sB sm cb base rv tv (j + 1) qi SB') := hsea.below HBk.out
        have HKC : Hid (∀ y, Fr sB sm base wk y → y.cell? ⟨qb, 0, none⟩ = some (.int .i64 kk.k) ∧ y.cell? ⟨qb, 1, none⟩ = some (.int .i64 kk.n) ∧ y.cell? ⟨qb, 2, none⟩ = some (.string kk.s) ∧ y.cell? ⟨qb, 3, none⟩ = some (.int .i64 kk.a)) := show ∀ y, _ from fun y h => by
          obtain ⟨c0, c1, c2, c3, _⟩ := cells4 (HSk.out.keep h HKb.out (by decide) (by decide))
          exact ⟨c0, c1, c2, c3⟩
        obtain ⟨xt, xw, hxi⟩ := ifv_form T ch.a
        obtain ⟨yt, yw, hyi⟩ := ifv_form T (sh n ch.b)
        have HLK : Hid (∀ y, Fr sB sm base wk y → (Instr.lookup 119 (.map (some Ma)) (.agg #[.int .i64 kk.k, .int .i64 kk.n, .string kk.s, .int .i64 kk.a]) false).run Tryz.prog y = .ok (.iface xt xw) y ∧ (Instr.lookup 119 (.map (some Mb)) (.agg #[.int .i64 kk.k, .int .i64 kk.n, .string kk.s, .int .i64 kk.a]) false).run Tryz.prog y = .ok (.iface yt yw) y) := show ∀ y, _ from fun y h => by
          have := HLk.out y (HSF.out y h) i hlt
          rw [HKK.out, HCH.out, hxi, hyi] at this
          exact this
        have HRC : Hid (∀ y, Below wk.heap.size wk y → Calls Tryz.prog 37 #[ptr sB, .iface xt xw, .iface yt yw, .agg #[.pointer none, .pointer none, .int .i64 kk.k, .int .i64 kk.n, .string kk.s, .int .i64 kk.a, .pointer (some ⟨SB j, 0, none⟩)]] y fun en w' => en = .returned (.tuple #[]) ∧ (∃ SB'', Sea w' n m T sB sm cb base rv tv (j + 1) ((Aw.sysOf n L0 K0 X0 L1 K1 X1 f).iadd qi ch) SB'' ∧ ∀ i, i < qi.length → SB'' i = SB' i) ∧ Fr sB sm base y w') := show ∀ y, _ from fun y hb => by
          have hf := HSF.out y (Fr.below hb)
          have := reach_any n m T M L K X L0 K0 X0 L1 K1 X1 f sB sm cb base rv tv (j + 1) qi SB' ch kk (some ⟨SB j, 0, none⟩) none none y hx' hy' hqil (HSk.out.below hb) (HTY.out y hf) (HCC.out y hf) HF hqg (Or.inr ⟨j, hjl, by rw [hsj], by rw [hle]; exact hcp⟩)
          rw [hxi, hyi] at this
          exact this
        have HEnd : Hid (j < ((Aw.sysOf n L0 K0 X0 L1 K1 X1 f).iadd qi ch).length ∧ lsE ((Aw.sysOf n L0 K0 X0 L1 K1 X1 f).iadd qi ch) j = e ∧ ∀ x ∈ (Aw.sysOf n L0 K0 X0 L1 K1 X1 f).iadd qi ch, isV n x.a = true ∧ isV m x.b = true ∧ x.a.k = 4 ∧ x.b.k = 4) := by
          obtain ⟨h1, h2⟩ := iadd_at (S := (Aw.sysOf n L0 K0 X0 L1 K1 X1 f)) (c := ch) hjl
          refine ⟨h1, h2.trans hle, fun x hxm => ?_⟩
          rcases mem_iadd hxm with h | ⟨rfl, hc⟩
          · exact hqg x h
          · have hc' : (x.a.k == 4 && x.b.k == 4) = true := hc
            simp only [Bool.and_eq_true, beq_iff_eq] at hc'
            exact ⟨hx', hy', hc'.1, hc'.2⟩
        have HSJ : Hid (SB' j = SB j ∧ j < qi.length) := ⟨hsj, hjl⟩
        rw [HCH.out] at HQN
        clear hsea hsj hjl hle hqg hkin hqil hgd hx hy hcp hx' hy' hxi hyi hka hkb
        refine wpIn_region_heldR (ro := some l) (S := fun y => Fr sB sm base wk y) (by kernel_rfl) (by kernel_rfl) (fun ⟨a, w, h⟩ => hno ⟨a, w, h⟩) (Fr.below (Below.refl _ _).drew) (fun hHeld => ?_)
        generalize hwd : wk.drew = wd at hHeld ⊢
        have hbd : Below wk.heap.size wk wd := by rw [← hwd]; exact (Below.refl _ _).drew
        clear hwd
        refine wpAnyH_take (i := 0) (v := ptr sB) rfl (by kernel_rfl) (by kernel_rfl) (by kernel_rfl) (fun _ _ _ h => hQp _ _ _ _ h) (Or.inl ⟨by rfl, fun w hSw => ?_⟩) hHeld ?_
        · have q0 := HB7.out w (HSF.out w hSw); first | rfl | go_simp
        simp only [Act.put, pz]
        refine wpAnyH_take (i := 1) (v := ptr (SB j)) rfl (by kernel_rfl) (by kernel_rfl) (by kernel_rfl) (fun _ _ _ h => hQp _ _ _ _ h) (Or.inl ⟨by rfl, fun w hSw => ?_⟩) hHeld ?_
        · first | rfl | go_simp
        simp only [Act.put, pz]
        refine wpAnyH_take (i := 2) (v := .pointer (some ⟨SB j, 0, none⟩)) rfl (by kernel_rfl) (by kernel_rfl) (by kernel_rfl) (fun _ _ _ h => hQp _ _ _ _ h) (Or.inl ⟨by rfl, fun w hSw => ?_⟩) hHeld ?_
        · first | rfl | go_simp
        simp only [Act.put, pz]
        refine wpAnyH_take (i := 3) (v := .pointer (some ⟨SB j, 0, none⟩)) rfl (by kernel_rfl) (by kernel_rfl) (by kernel_rfl) (fun _ _ _ h => hQp _ _ _ _ h) (Or.inl ⟨by rfl, fun w hSw => ?_⟩) hHeld ?_
        · first | rfl | go_simp
        simp only [Act.put, pz]
        refine wpAnyH_take (i := 4) (v := .pointer (some ⟨SB j, 0, none⟩)) rfl (by kernel_rfl) (by kernel_rfl) (by kernel_rfl) (fun _ _ _ h => hQp _ _ _ _ h) (Or.inl ⟨by rfl, fun w hSw => ?_⟩) hHeld ?_
        · first | rfl | go_simp
        simp only [Act.put, pz]
        refine wpAnyH_take (i := 5) (v := ptr pa) rfl (by kernel_rfl) (by kernel_rfl) (by kernel_rfl) (fun _ _ _ h => hQp _ _ _ _ h) (Or.inl ⟨by rfl, fun w hSw => ?_⟩) hHeld ?_
        · have q0 := (HSY.out w (HSF.out w hSw)).1; first | rfl | go_simp
        simp only [Act.put, pz]
        refine wpAnyH_take (i := 6) (v := ptr pa) rfl (by kernel_rfl) (by kernel_rfl) (by kernel_rfl) (fun _ _ _ h => hQp _ _ _ _ h) (Or.inl ⟨by rfl, fun w hSw => ?_⟩) hHeld ?_
        · first | rfl | go_simp
        simp only [Act.put, pz]
        refine wpAnyH_take (i := 7) (v := .pointer (some ⟨pa, 1, none⟩)) rfl (by kernel_rfl) (by kernel_rfl) (by kernel_rfl) (fun _ _ _ h => hQp _ _ _ _ h) (Or.inl ⟨by rfl, fun w hSw => ?_⟩) hHeld ?_
        · first | rfl | go_simp
        simp only [Act.put, pz]
        refine wpAnyH_take (i := 8) (v := .map (some Ma)) rfl (by kernel_rfl) (by kernel_rfl) (by kernel_rfl) (fun _ _ _ h => hQp _ _ _ _ h) (Or.inl ⟨by rfl, fun w hSw => ?_⟩) hHeld ?_
        · have q0 := (HTA.out w (HSF.out w hSw)).1; first | rfl | go_simp
        simp only [Act.put, pz]
        refine wpAnyH_take (i := 9) (v := .agg #[.int .i64 kk.k, .int .i64 kk.n, .string kk.s, .int .i64 kk.a]) rfl (by kernel_rfl) (by kernel_rfl) (by kernel_rfl) (fun _ _ _ h => hQp _ _ _ _ h) (Or.inl ⟨by rfl, fun w hSw => ?_⟩) hHeld ?_
        · obtain ⟨q0, q1, q2, q3⟩ := HKC.out w hSw; first | rfl | go_simp
        simp only [Act.put, pz]
        refine wpAnyH_take (i := 10) (v := .iface xt xw) rfl (by kernel_rfl) (by kernel_rfl) (by kernel_rfl) (fun _ _ _ h => hQp _ _ _ _ h) (Or.inl ⟨by rfl, fun w hSw => ?_⟩) hHeld ?_
        · have q0 := (HLK.out w hSw).1; first | rfl | go_simp
        simp only [Act.put, pz]
        refine wpAnyH_take (i := 11) (v := ptr (SB j)) rfl (by kernel_rfl) (by kernel_rfl) (by kernel_rfl) (fun _ _ _ h => hQp _ _ _ _ h) (Or.inl ⟨by rfl, fun w hSw => ?_⟩) hHeld ?_
        · first | rfl | go_simp
        simp only [Act.put, pz]
        refine wpAnyH_take (i := 12) (v := .pointer (some ⟨SB j, 0, none⟩)) rfl (by kernel_rfl) (by kernel_rfl) (by kernel_rfl) (fun _ _ _ h => hQp _ _ _ _ h) (Or.inl ⟨by rfl, fun w hSw => ?_⟩) hHeld ?_
        · first | rfl | go_simp
        simp only [Act.put, pz]
        refine wpAnyH_take (i := 13) (v := .pointer (some ⟨SB j, 0, none⟩)) rfl (by kernel_rfl) (by kernel_rfl) (by kernel_rfl) (fun _ _ _ h => hQp _ _ _ _ h) (Or.inl ⟨by rfl, fun w hSw => ?_⟩) hHeld ?_
        · first | rfl | go_simp
        simp only [Act.put, pz]
        refine wpAnyH_take (i := 14) (v := .pointer (some ⟨SB j, 1, none⟩)) rfl (by kernel_rfl) (by kernel_rfl) (by kernel_rfl) (fun _ _ _ h => hQp _ _ _ _ h) (Or.inl ⟨by rfl, fun w hSw => ?_⟩) hHeld ?_
        · first | rfl | go_simp
        simp only [Act.put, pz]
        refine wpAnyH_take (i := 15) (v := ptr pb) rfl (by kernel_rfl) (by kernel_rfl) (by kernel_rfl) (fun _ _ _ h => hQp _ _ _ _ h) (Or.inl ⟨by rfl, fun w hSw => ?_⟩) hHeld ?_
        · have q0 := (HSY.out w (HSF.out w hSw)).2; first | rfl | go_simp
        simp only [Act.put, pz]
        refine wpAnyH_take (i := 16) (v := ptr pb) rfl (by kernel_rfl) (by kernel_rfl) (by kernel_rfl) (fun _ _ _ h => hQp _ _ _ _ h) (Or.inl ⟨by rfl, fun w hSw => ?_⟩) hHeld ?_
        · first | rfl | go_simp
        simp only [Act.put, pz]
        refine wpAnyH_take (i := 17) (v := .pointer (some ⟨pb, 1, none⟩)) rfl (by kernel_rfl) (by kernel_rfl) (by kernel_rfl) (fun _ _ _ h => hQp _ _ _ _ h) (Or.inl ⟨by rfl, fun w hSw => ?_⟩) hHeld ?_
        · first | rfl | go_simp
        simp only [Act.put, pz]
        refine wpAnyH_take (i := 18) (v := .map (some Mb)) rfl (by kernel_rfl) (by kernel_rfl) (by kernel_rfl) (fun _ _ _ h => hQp _ _ _ _ h) (Or.inl ⟨by rfl, fun w hSw => ?_⟩) hHeld ?_
        · have q0 := HTB.out w (HSF.out w hSw); first | rfl | go_simp
        simp only [Act.put, pz]
        refine wpAnyH_take (i := 19) (v := .agg #[.int .i64 kk.k, .int .i64 kk.n, .string kk.s, .int .i64 kk.a]) rfl (by kernel_rfl) (by kernel_rfl) (by kernel_rfl) (fun _ _ _ h => hQp _ _ _ _ h) (Or.inl ⟨by rfl, fun w hSw => ?_⟩) hHeld ?_
        · obtain ⟨q0, q1, q2, q3⟩ := HKC.out w hSw; first | rfl | go_simp
        simp only [Act.put, pz]
        refine wpAnyH_take (i := 20) (v := .iface yt yw) rfl (by kernel_rfl) (by kernel_rfl) (by kernel_rfl) (fun _ _ _ h => hQp _ _ _ _ h) (Or.inl ⟨by rfl, fun w hSw => ?_⟩) hHeld ?_
        · have q0 := (HLK.out w hSw).2; first | rfl | go_simp
        simp only [Act.put, pz]
        refine wpAnyH_take (i := 21) (v := .agg #[.int .i64 kk.k, .int .i64 kk.n, .string kk.s, .int .i64 kk.a]) rfl (by kernel_rfl) (by kernel_rfl) (by kernel_rfl) (fun _ _ _ h => hQp _ _ _ _ h) (Or.inl ⟨by rfl, fun w hSw => ?_⟩) hHeld ?_
        · obtain ⟨q0, q1, q2, q3⟩ := HKC.out w hSw; first | rfl | go_simp
        simp only [Act.put, pz]
        refine wpAnyH_take (i := 22) (v := ptr (SB j)) rfl (by kernel_rfl) (by kernel_rfl) (by kernel_rfl) (fun _ _ _ h => hQp _ _ _ _ h) (Or.inl ⟨by rfl, fun w hSw => ?_⟩) hHeld ?_
        · first | rfl | go_simp
        simp only [Act.put, pz]
        refine wpAnyH_take (i := 23) (v := .agg #[.pointer none, .pointer none, .int .i64 kk.k, .int .i64 kk.n, .string kk.s, .int .i64 kk.a, .pointer (some ⟨SB j, 0, none⟩)]) rfl (by kernel_rfl) (by kernel_rfl) (by kernel_rfl) (fun _ _ _ h => hQp _ _ _ _ h) (Or.inl ⟨by rfl, fun w hSw => ?_⟩) hHeld ?_
        · first | rfl | go_simp
        simp only [Act.put, pz]
        refine wpAnyH_ready (rs := [24]) (by kernel_rfl) (by simp) ?_
        refine AllReadyH.cons rfl (fun KK hK' => ?_) AllReadyH.nil
        have hcall := HRC.out wd hbd
        go_simp
        refine hcall.mono ?_
        clear hcall
        rintro en w5 ⟨rfl, ⟨SB2, hsea2, hag⟩, hfr5⟩
        have HF5 : Hid (Fr sB sm base wk w5) := Fr.trans hHeld hfr5
        refine hK'.out _ _ HF5.out (fun _ => ?_)
        clear hK'
        refine wpAnyH_done (by kernel_rfl) ?_ _
        have HFin : Hid (∃ SB', Sea w5 n m T sB sm cb base rv tv (j + 1) ((((Aw.sysOf n L0 K0 X0 L1 K1 X1 f).kids e.a e.b).take (i + 1)).foldl (fun l k => (Aw.sysOf n L0 K0 X0 L1 K1 X1 f).iadd l ((Aw.sysOf n L0 K0 X0 L1 K1 X1 f).child e k)) q) SB' ∧ SB' j = SB j ∧ j < ((((Aw.sysOf n L0 K0 X0 L1 K1 X1 f).kids e.a e.b).take (i + 1)).foldl (fun l k => (Aw.sysOf n L0 K0 X0 L1 K1 X1 f).iadd l ((Aw.sysOf n L0 K0 X0 L1 K1 X1 f).child e k)) q).length ∧ lsE ((((Aw.sysOf n L0 K0 X0 L1 K1 X1 f).kids e.a e.b).take (i + 1)).foldl (fun l k => (Aw.sysOf n L0 K0 X0 L1 K1 X1 f).iadd l ((Aw.sysOf n L0 K0 X0 L1 K1 X1 f).child e k)) q) j = e ∧ ∀ x ∈ (((Aw.sysOf n L0 K0 X0 L1 K1 X1 f).kids e.a e.b).take (i + 1)).foldl (fun l k => (Aw.sysOf n L0 K0 X0 L1 K1 X1 f).iadd l ((Aw.sysOf n L0 K0 X0 L1 K1 X1 f).child e k)) q, isV n x.a = true ∧ isV m x.b = true ∧ x.a.k = 4 ∧ x.b.k = 4) := by
          show ∃ _, _
          rw [HQN.out]
          exact ⟨SB2, hsea2, (hag j HSJ.out.2).trans HSJ.out.1, HEnd.out.1, HEnd.out.2.1, HEnd.out.2.2⟩
        have HF6 : Hid (Fr sB sm base w w5) := HSF.out w5 HF5.out
        clear hsea2 hag hfr5 hHeld hbd HF5
        gi_wp2
        go_roundw
        case rel => exact ⟨i + 1, by omega, by go_num, HF6, HFin⟩
        case measure => simp [intOf]; omega
      · gi_wp2
        obtain rfl : i = La := by omega
        refine HQn.out _ wr HAL.out ?_ HFr.out
        obtain ⟨SB', hsea, _⟩ := HInv.out
        refine ⟨SB', ?_⟩
        have e1 : ((Aw.sysOf n L0 K0 X0 L1 K1 X1 f).kids e.a e.b).take i = (Aw.sysOf n L0 K0 X0 L1 K1 X1 f).kids e.a e.b := List.take_of_length_le (by rw [← HKY.out, keys_len, HLa.out]; exact Nat.le_refl _)
        rw [e1] at hsea
        exact hsea
  · obtain ⟨hk1, pre, post, hk2, hk3⟩ := HJ.out.first_parts (f := f) hia hjb hk hmin
    have HK : Hid _ := HQr.out
    unfold vAgg
    gi_wp2
    obtain ⟨w2, hw2⟩ : ∃ w2, w2 = w1.alloc (.cells #[.int .i64 k.k, .int .i64 k.n, .string k.s, .int .i64 k.a] 24) := ⟨_, rfl⟩
    have hb2 : Below w1.heap.size w1 w2 := by rw [hw2]; exact (Below.refl _ _).alloc (Nat.le_refl _) _
    obtain ⟨kb, hkb⟩ : ∃ kb, w1.heap.size = kb := ⟨_, rfl⟩
    have HK2 : Hid (w2.heap[kb]? = some (.cells #[.int .i64 k.k, .int .i64 k.n, .string k.s, .int .i64 k.a] 24 (0, 0))) := by rw [hw2, ← hkb]; exact heap_alloc_new _ _
    have HB2 : Hid (Below w.heap.size w w2) := grw HB1.out hb2
    have h4l := blk_lt H4.out
    have hkb4 : b4 ≠ kb := by have := HB1.out.size; omega
    have HS2 : Hid (∀ y, Only (fun k => k = b4) w2 y → Sts y n T q SB) := show ∀ y, _ from fun y ho => (HSea.out.sts.below HB2.out).only ho (fun i hi e => by
      obtain ⟨_, _, h1, _⟩ := HSea.out.sts.st i hi
      rw [e, H4.out] at h1
      cases h1)
    have HPT : Hid (∀ y, Only (fun k => k = b4) w2 y → Calls Tryz.prog 40 #[ptr (SB j)] y fun e' w' => (∃ v, e' = .returned v ∧ w'.ownsRow y.heap.size 24 4 v e.p.length (keyCells e.p)) ∧ Below y.heap.size y w') := show ∀ y, _ from fun y ho => path_any n T q SB j e.p y hj (by rw [HE.out]; exact rfl) (by have := HP.out; omega) (HS2.out y ho)
    have HKB : Hid (∀ y, Only (fun k => k = b4) w2 y → y.cell? ⟨kb, 0, none⟩ = some (.int .i64 k.k) ∧ y.cell? ⟨kb, 1, none⟩ = some (.int .i64 k.n) ∧ y.cell? ⟨kb, 2, none⟩ = some (.string k.s) ∧ y.cell? ⟨kb, 3, none⟩ = some (.int .i64 k.a)) := show ∀ y, _ from fun y ho => by
      obtain ⟨c0, c1, c2, c3, _⟩ := cells4 HK2.out
      exact ⟨ho.cell c0 (fun e => hkb4 e.symm), ho.cell c1 (fun e => hkb4 e.symm), ho.cell c2 (fun e => hkb4 e.symm), ho.cell c3 (fun e => hkb4 e.symm)⟩
    have HFin : Hid (∀ y v sb, Only (fun k => k = b4) w2 y → y.heap[b4]? = some (.cells #[r4] 42 (0, 0)) → y.ownsRow w2.heap.size 24 4 v e.p.length (keyCells e.p) → y.heap[sb]? = some (.cells #[.int .i64 k.k, .int .i64 k.n, .string k.s, .int .i64 k.a] 24 (0, 0)) →
        ∃ oa on oc z, (Builtin.append_ #[42, 42] 42 #[v, .slice (some ⟨sb, 0, none⟩) 1 1]).run Tryz.prog y = .ok (.slice oa on oc) z ∧ Only (fun k => k = b4) w2 z ∧ z.heap[b4]? = some (.cells #[r4] 42 (0, 0)) ∧ ∀ a, Q .ret a (z.setCell ⟨b4, 0, none⟩ (.slice oa on oc))) := show ∀ y, _ from fun y v sb ho h4 hown hsb => by
      have hx : y.ownsRow sb 24 4 (.slice (some ⟨sb, 0, none⟩) 1 1) 1 (keyCells [k]) := ⟨rfl, Or.inr ⟨sb, 1, _, rfl, Nat.le_refl _, hsb, Nat.le_refl _, by unfold maxLen; omega, rfl, rfl⟩⟩
      obtain ⟨v', z, hr, hz, hg⟩ := run_append_row 42 hown hx (by have := HP.out; omega) ho.size
      obtain ⟨oa, oc, rfl, hob⟩ := owns_form hz
      have hyz : Below w2.heap.size y z := below_grown hown hg ho.size
      have hb4 : b4 < w2.heap.size := Nat.lt_of_lt_of_le h4l HB2.out.size
      have hoz : Only (fun k => k = b4) w2 z := ho.thenBelow hyz (Nat.le_refl _)
      have hz4 := (hyz.block b4 hb4).trans h4
      refine ⟨oa, _, oc, z, hr, hoz, hz4, fun a => ?_⟩
      have hset : Only (fun k => k = b4) z (z.setCell ⟨b4, 0, none⟩ (.slice oa (e.p.length + 1) oc)) := (Only.refl (fun k => k = b4) z).set (p := ⟨b4, 0, none⟩) rfl _
      refine HK.out a _ k pre post _ hk2 hk3 hk1 ?_ (owns_mono (hset.ownsB (by rw [keyCells_snoc]; exact hz) (fun g hg' e => by have := (hob g hg').1; omega)) HB2.out.size) ((Only.below HB2.out).trans (hoz.trans hset))
      simp [World.setCell, Array.getElem?_modify, hz4]
    have HH4 : Hid (w2.heap[b4]? = some (.cells #[r4] 42 (0, 0))) := blkB H4.out HB2.out
    have HL2 : Hid (b4 < w2.heap.size ∧ kb < w2.heap.size) := ⟨Nat.lt_of_lt_of_le h4l HB2.out.size, blk_lt HK2.out⟩
    try rw [hkb] at hw2
    try rw [hkb]
    rw [← hw2]
    clear hw2 hkb hb2 hk hmin hk1 hk2 hk3 HK
    refine wpIn_region_heldR (ro := some l) (S := fun y => Only (fun k => k = b4) w2 y) (by kernel_rfl) (by kernel_rfl) (fun ⟨a, w, h⟩ => hno ⟨a, w, h⟩) (Only.below (Below.refl _ _).drew) (fun hHeld => ?_)
    generalize hwd : w2.drew = wd at hHeld ⊢
    have hd4 : wd.heap[b4]? = some (.cells #[r4] 42 (0, 0)) := by rw [← hwd]; exact HH4.out
    clear hwd
    refine wpAnyH_take (i := 0) (v := ptr (SB j)) rfl (by kernel_rfl) (by kernel_rfl) (by kernel_rfl) (fun _ _ _ h => hQp _ _ _ _ h) (Or.inl ⟨by rfl, fun w hSw => ?_⟩) hHeld ?_
    · first | rfl | go_simp
    simp only [Act.put, pz]
    refine wpAnyH_take (i := 2) (v := .agg #[.int .i64 k.k, .int .i64 k.n, .string k.s, .int .i64 k.a]) rfl (by kernel_rfl) (by kernel_rfl) (by kernel_rfl) (fun _ _ _ h => hQp _ _ _ _ h) (Or.inl ⟨by rfl, fun w hSw => ?_⟩) hHeld ?_
    · obtain ⟨q0, q1, q2, q3⟩ := HKB.out w hSw; first | rfl | go_simp
    simp only [Act.put, pz]
    refine wpAnyH_ready (rs := [1, 3]) (by kernel_rfl) (by simp) ?_
    refine AllReadyH.cons rfl (fun KK hK' => ?_) (AllReadyH.cons rfl (fun KK hK' => ?_) AllReadyH.nil)
    · have hcall := HPT.out _ hHeld
      go_simp
      refine hcall.mono ?_
      clear hcall
      rintro en w3 ⟨⟨v, rfl, hv⟩, hb3⟩
      have hs3 : Only (fun k => k = b4) w2 w3 := hHeld.thenBelow hb3 hHeld.size
      refine hK'.out _ _ hs3 (fun _ => ?_)
      clear hK'
      refine wpAnyH_ready (rs := [3]) (by kernel_rfl) (by simp) ?_
      refine AllReadyH.cons rfl (fun KK hK' => ?_) AllReadyH.nil
      go_simp
      obtain ⟨w4, hw4⟩ : ∃ w4, w4 = w3.alloc (.cells #[.int .i64 k.k, .int .i64 k.n, .string k.s, .int .i64 k.a] 24) := ⟨_, rfl⟩
      have hb4' : Below w3.heap.size w3 w4 := by rw [hw4]; exact (Below.refl _ _).alloc (Nat.le_refl _) _
      have hsb : w4.heap[w3.heap.size]? = some (.cells #[.int .i64 k.k, .int .i64 k.n, .string k.s, .int .i64 k.a] 24 (0, 0)) := by rw [hw4]; exact heap_alloc_new _ _
      have hs4 : Only (fun k => k = b4) w2 w4 := hs3.thenBelow hb4' hs3.size
      rw [← hw4]
      clear hw4
      refine hK'.out _ _ hs4 (fun _ => ?_)
      clear hK'
      obtain ⟨oa, on, oc, z, hr, hz1, hz2, hz3⟩ := HFin.out w4 v w3.heap.size hs4 (blkB (blkB hd4 hb3) hb4') (owns_mono ((Only.below (P := fun _ => False) hb4').ownsB hv (fun _ _ h => h)) hHeld.size) hsb
      generalize w3.heap.size = sb at hr ⊢
      obtain ⟨pv, pn, rfl, _⟩ := owns_form hv
      clear hv
      refine wpAnyH_ready (rs := [4]) (by kernel_rfl) (by simp) ?_
      refine AllReadyH.cons rfl (fun KK hK' => ?_) AllReadyH.nil
      rw [if_pos (by rfl)]
      refine Lib.wp_append_run _ (.tmp 52) (.tmp 54) 42 42 (by rfl) _ _ (by rfl) (by rfl) _ _ hr ?_
      refine hK'.out _ _ hz1 (fun _ => ?_)
      clear hK' hr
      simp only [Act.put, pz]
      obtain ⟨z0, z1⟩ := one_at hz2
      refine wpAnyH_ready (rs := [5]) (by kernel_rfl) (by simp) ?_
      refine AllReadyH.cons rfl (fun KK hK' => ?_) AllReadyH.nil
      go_simp
      refine hK'.out _ _ (hz1.set (p := ⟨b4, 0, none⟩) rfl _) (fun _ => ?_)
      clear hK'
      refine wpAnyH_done (by kernel_rfl) ?_ _
      gi_wp2
      exact hz3 _
    · go_simp
      obtain ⟨w3, hw3⟩ : ∃ w3, w3 = wd.alloc (.cells #[.int .i64 k.k, .int .i64 k.n, .string k.s, .int .i64 k.a] 24) := ⟨_, rfl⟩
      have hb3 : Below wd.heap.size wd w3 := by rw [hw3]; exact (Below.refl _ _).alloc (Nat.le_refl _) _
      have hsb3 : w3.heap[wd.heap.size]? = some (.cells #[.int .i64 k.k, .int .i64 k.n, .string k.s, .int .i64 k.a] 24 (0, 0)) := by rw [hw3]; exact heap_alloc_new _ _
      have hs3 : Only (fun k => k = b4) w2 w3 := hHeld.thenBelow hb3 hHeld.size
      rw [← hw3]
      clear hw3
      refine hK'.out _ _ hs3 (fun _ => ?_)
      clear hK'
      refine wpAnyH_ready (rs := [1]) (by kernel_rfl) (by simp) ?_
      refine AllReadyH.cons rfl (fun KK hK' => ?_) AllReadyH.nil
      have hcall := HPT.out _ hs3
      go_simp
      refine hcall.mono ?_
      clear hcall
      rintro en w4 ⟨⟨v, rfl, hv⟩, hb4'⟩
      have hs4 : Only (fun k => k = b4) w2 w4 := hs3.thenBelow hb4' hs3.size
      refine hK'.out _ _ hs4 (fun _ => ?_)
      clear hK'
      obtain ⟨oa, on, oc, z, hr, hz1, hz2, hz3⟩ := HFin.out w4 v wd.heap.size hs4 (blkB (blkB hd4 hb3) hb4') (owns_mono hv hs3.size) (blkB hsb3 hb4')
      generalize wd.heap.size = sb at hr ⊢
      obtain ⟨pv, pn, rfl, _⟩ := owns_form hv
      clear hv
      refine wpAnyH_ready (rs := [4]) (by kernel_rfl) (by simp) ?_
      refine AllReadyH.cons rfl (fun KK hK' => ?_) AllReadyH.nil
      rw [if_pos (by rfl)]
      refine Lib.wp_append_run _ (.tmp 52) (.tmp 54) 42 42 (by rfl) _ _ (by rfl) (by rfl) _ _ hr ?_
      refine hK'.out _ _ hz1 (fun _ => ?_)
      clear hK' hr
      simp only [Act.put, pz]
      obtain ⟨z0, z1⟩ := one_at hz2
      refine wpAnyH_ready (rs := [5]) (by kernel_rfl) (by simp) ?_
      refine AllReadyH.cons rfl (fun KK hK' => ?_) AllReadyH.nil
      go_simp
      refine hK'.out _ _ (hz1.set (p := ⟨b4, 0, none⟩) rfl _) (fun _ => ?_)
      clear hK'
      refine wpAnyH_done (by kernel_rfl) ?_ _
      gi_wp2
      exact hz3 _

end Go.Proofs.YtgflalfiopnmnaaGreatDoor

namespace Go.Proofs.YtgflalfiopnmnaaGreatDoor
open Go.RowKit Vl Aw

theorem QuL.uniq {w : World} {base : Nat} {v : Value} {l l' : List Nat} (h : QuL w base v l) (h' : QuL w base v l') : l = l' := by
  rcases h with ⟨e, rfl⟩ | ⟨g, off, cap, cur, e, _, h2, _, _, h5⟩
  · rcases h' with ⟨_, rfl⟩ | ⟨g', off', cap', cur', e', _⟩
    · rfl
    · rw [e] at e'; cases e'
  · rcases h' with ⟨e', _⟩ | ⟨g', off', cap', cur', e', _, h2', _, _, h5'⟩
    · rw [e] at e'; cases e'
    · rw [e] at e'
      injection e' with e1 e2 e3
      injection e1 with e1
      injection e1 with e4 e5
      subst e4
      subst e5
      rw [h2] at h2'
      injection h2' with h6
      injection h6 with h7
      subst h7
      refine List.ext_getElem? (fun i => ?_)
      cases hi : l[i]? with
      | none =>
        have : l.length ≤ i := List.getElem?_eq_none_iff.1 hi
        exact (List.getElem?_eq_none_iff.2 (by omega)).symm
      | some b =>
        have hl : i < l.length := (List.getElem?_eq_some_iff.1 hi).1
        have hi' : l'[i]? = some l'[i] := List.getElem?_eq_getElem (by omega)
        have h8 := h5 i b hi
        have h9 := h5' i _ hi'
        rw [h8] at h9
        rw [hi']
        simp only [Option.some.injEq, Value.pointer.injEq, Addr.mk.injEq] at h9
        rw [h9.1]

theorem wait_cons {SB : Nat → Nat} {j c : Nat} (h : j < c) : waitL SB j c = SB j :: waitL SB (j + 1) c := by
  unfold waitL
  rw [show c - j = (c - (j + 1)) + 1 by omega, List.range_succ_eq_map, List.map_cons, List.map_map]
  refine congr (congrArg _ rfl) (List.map_congr_left fun i _ => ?_)
  show SB (j + (i + 1)) = _
  rw [show j + (i + 1) = j + 1 + i by omega]
theorem wait_none {SB : Nat → Nat} {j c : Nat} (h : waitL SB j c = []) : c ≤ j := by
  have := congrArg List.length h
  simp [waitL] at this
  omega

theorem only_put (w : World) (l : Nat) (o : Obj) : Only (fun k => k = l) w (w.putObj l o) := ⟨rfl, rfl, rfl, by simp, fun _ _ hk => World.putObj_heap_other hk⟩

section
variable {W W' : World} {n m : Nat} {T M : Nat → Nat} {sB sm cb base : Nat} {rv tv : Value} {j : Nat} {q : List Aw.E} {SB : Nat → Nat}

theorem Sea.only {P : Nat → Prop} (h : Sea W n m T sB sm cb base rv tv j q SB) (ho : Only P W W') (hP : ∀ k, P k → ∃ r, W.heap[k]? = some (.loop r)) : Sea W' n m T sB sm cb base rv tv j q SB := by
  have hc : ∀ (k : Nat) (cs : Array Value) (t : TypeId) (z : Nat × Nat), W.heap[k]? = some (Obj.cells cs t z) → W'.heap[k]? = some (Obj.cells cs t z) := fun k cs t z hk => (ho.block k (blk_lt hk) (fun hp => by
    obtain ⟨r, hr⟩ := hP k hp
    rw [hk] at hr
    cases hr)).trans hk
  obtain ⟨wv, h1, h2⟩ := h.blk
  refine ⟨⟨wv, hc _ _ _ _ h1, h2.same (fun g hg => ?_)⟩, ⟨fun i hi => ?_⟩, h.seen.same (ho.block _ h.seen.lt (fun hp => ?_)), ⟨h.lo.1, h.lo.2.1, Nat.le_trans h.lo.2.2 ho.size⟩, h.le⟩
  · obtain ⟨cur, hcur⟩ := h2.own hg
    rw [hcur, hc _ _ _ _ hcur]
  · obtain ⟨k, ah, a1, a2⟩ := h.sts.st i hi
    exact ⟨k, ah, hc _ _ _ _ a1, a2⟩
  · obtain ⟨r, hr⟩ := hP _ hp
    obtain ⟨es, clk, hm, _⟩ := h.seen
    rw [hm] at hr
    cases hr

theorem Tbs.onlyL {P : Nat → Prop} {N : Nat} {at_ : Nat → Int} {L : Nat → Nat} {K X : Nat → Nat → V} (h : Tbs W N T M at_ L K X) (ho : Only P W W') (hP : ∀ k, P k → ∃ r, W.heap[k]? = some (.loop r)) : Tbs W' N T M at_ L K X := by
  have hT : ∀ j, j < N → W'.heap[T j]? = W.heap[T j]? := fun j hj => by
    obtain ⟨ord, a1, _⟩ := h.tab j hj
    refine ho.block _ (blk_lt a1) (fun hp => ?_)
    obtain ⟨r, hr⟩ := hP _ hp
    unfold TabB at a1
    rw [hr] at a1
    cases a1
  have hM : ∀ j, j < N → W'.heap[M j]? = W.heap[M j]? := fun j hj => by
    obtain ⟨l, a1, _⟩ := h.map j hj
    refine ho.block _ a1.lt (fun hp => ?_)
    obtain ⟨r, hr⟩ := hP _ hp
    obtain ⟨es, clk, hb, _⟩ := a1
    rw [hr] at hb
    cases hb
  refine ⟨fun j hj => ?_, fun j hj => ?_, h.inj, h.noneB hM⟩
  · obtain ⟨ord, a1, a2⟩ := h.tab j hj
    refine ⟨ord, (hT j hj).trans a1, Only.ownsB ho a2 (fun g hg hp => ?_)⟩
    obtain ⟨_, cur, hc⟩ := owns_type a2 hg
    obtain ⟨r, hr⟩ := hP _ hp
    rw [hr] at hc
    cases hc
  · obtain ⟨l, a1, a2⟩ := h.map j hj
    exact ⟨l, a1.same (hM j hj), a2⟩

theorem Sea.pop (h : Sea W n m T sB sm cb base rv tv j q SB) {v v' : Value} {s : Nat} {rest : List Nat} (hb : W.heap[sB]? = some (.cells #[rv, tv, .slice (some ⟨cb, 0, none⟩) (n + m) (n + m), v, .map (some sm)] 105 (0, 0))) (hq : QuL W base v (s :: rest)) (hq' : QuL W base v' rest) :
    j < q.length ∧ s = SB j ∧ Sea (W.setCell ⟨sB, 3, none⟩ v').drew n m T sB sm cb base rv tv (j + 1) q SB ∧ Fr sB sm base W (W.setCell ⟨sB, 3, none⟩ v').drew := by
  obtain ⟨wv, h1, h2⟩ := h.blk
  have e : wv = v := by
    rw [hb] at h1
    injection h1 with h1
    injection h1 with h1
    simpa using h1.symm
  subst e
  have hu := hq.uniq h2
  have hj : j < q.length := by
    have := congrArg List.length hu
    simp [waitL] at this
    omega
  rw [wait_cons hj] at hu
  injection hu with e1 e2
  subst e1
  subst e2
  have ho : Only (fun k => k = sB) W (W.setCell ⟨sB, 3, none⟩ v').drew := ((Only.refl (fun k => k = sB) W).set (p := ⟨sB, 3, none⟩) rfl v').trans (Only.below (Below.refl _ _).drew)
  refine ⟨hj, rfl, ⟨⟨v', put5 hb v', hq'.same (fun g hg => ?_)⟩, h.sts.only ho (fun i hi e => ?_), h.seen.same (ho.block _ h.seen.lt (fun e => ?_)), ⟨h.lo.1, h.lo.2.1, Nat.le_trans h.lo.2.2 ho.size⟩, hj⟩, ho.mono (fun k _ e => Or.inl e)⟩
  · obtain ⟨cur, hc⟩ := hq'.own hg
    exact ho.block g (blk_lt hc) (fun e => by have := hq'.lo hg; have := h.lo.1; omega)
  · obtain ⟨k, ah, a1, _⟩ := h.sts.st i hi
    rw [e, hb] at a1
    cases a1
  · obtain ⟨es, clk, hm, _⟩ := h.seen
    rw [e, hb] at hm
    cases hm
end

structure St (w0 W : World) (n m : Nat) (T M : Nat → Nat) (L : Nat → Nat) (K X : Nat → Nat → V) (f : Nat → Nat) (sB cb b4 b7 bx l D : Nat) (R0 : Loop) : Prop where
  tbs : Tbs W (n + m) T M (fun j => (j : Nat)) L K X
  cls : W.rowIs cb 3 (n + m) (fun i => .int .i64 (f i : Nat))
  c7 : W.heap[b7]? = some (.cells #[ptr sB] 99 (0, 0))
  c4 : W.heap[b4]? = some (.cells #[.slice none 0 0] 42 (0, 0))
  cx : W.heap[bx]? = some (.cells #[.pointer (some ⟨sB, 3, none⟩)] 170 (0, 0))
  rcd : W.heap[l]? = some (.loop R0)
  dfr : W.heap[D]? = some (.deferred (some []))
  bel : Below w0.heap.size w0 W

section
variable {w0 W W' : World} {n m : Nat} {T M : Nat → Nat} {L : Nat → Nat} {K X : Nat → Nat → V} {f : Nat → Nat} {sB sm cb base b4 b7 bx l D : Nat} {R0 : Loop} {rv tv : Value} {j : Nat} {q : List Aw.E} {SB : Nat → Nat}

theorem St.fr (h : St w0 W n m T M L K X f sB cb b4 b7 bx l D R0) (hS : Sea W n m T sB sm cb base rv tv j q SB) (hf : Fr sB sm base W W') (hM : ∀ j, j < n + m → M j ≠ sm) (hlo : w0.heap.size ≤ sB ∧ w0.heap.size ≤ sm) : St w0 W' n m T M L K X f sB cb b4 b7 bx l D R0 := by
  obtain ⟨wv, hs, _⟩ := hS.blk
  obtain ⟨es, clk, hm, _⟩ := hS.seen
  have hnc : ∀ (k : Nat) (o : Obj), W.heap[k]? = some o → (∀ cs t z, o ≠ Obj.cells cs t z) → (∀ es c, o ≠ Obj.map es c) → W'.heap[k]? = some o := fun k o hk h1 h2 => by
    rw [hf.block k (blk_lt hk) (fun hp => ?_)]
    · exact hk
    · rcases hp with e | e | ⟨_, cur, hc⟩
      · rw [e, hs] at hk; cases hk; exact h1 _ _ _ rfl
      · rw [e, hm] at hk; cases hk; exact h2 _ _ rfl
      · rw [hc] at hk; cases hk; exact h1 _ _ _ rfl
  obtain ⟨cs, k1, k2, k3⟩ := h.cls
  have hlo3 := hS.lo
  exact ⟨hS.tbs hf h.tbs hM, ⟨cs, hS.keep hf k1 (by decide) (by decide), k2, k3⟩, hS.keep hf h.c7 (by decide) (by decide), hS.keep hf h.c4 (by decide) (by decide), hS.keep hf h.cx (by decide) (by decide), hnc _ _ h.rcd (by intros; simp) (by intros; simp), hnc _ _ h.dfr (by intros; simp) (by intros; simp),
    ⟨hf.os.trans h.bel.os, hf.tape.trans h.bel.tape, hf.output.trans h.bel.output, Nat.le_trans h.bel.size hf.size, fun k hk => (hf.block k (Nat.lt_of_lt_of_le hk h.bel.size) (fun hp => by
      rcases hp with e | e | ⟨hb, _⟩ <;> omega)).trans (h.bel.block k hk)⟩⟩

theorem St.put (h : St w0 W n m T M L K X f sB cb b4 b7 bx l D R0) (hl : w0.heap.size ≤ l) (R1 : Loop) : St w0 (W.putObj l (.loop R1)) n m T M L K X f sB cb b4 b7 bx l D R1 := by
  have ho := only_put W l (.loop R1)
  have hk : ∀ (k : Nat) (o : Obj), W.heap[k]? = some o → (∀ r, o ≠ Obj.loop r) → (W.putObj l (.loop R1)).heap[k]? = some o := fun k o hk h1 => by
    rw [ho.block k (blk_lt hk) (fun e => ?_)]
    · exact hk
    · rw [e, h.rcd] at hk
      cases hk
      exact h1 _ rfl
  obtain ⟨cs, k1, k2, k3⟩ := h.cls
  exact ⟨h.tbs.onlyL ho (fun k e => ⟨R0, by rw [e]; exact h.rcd⟩), ⟨cs, hk _ _ k1 (by intros; simp), k2, k3⟩, hk _ _ h.c7 (by intros; simp), hk _ _ h.c4 (by intros; simp), hk _ _ h.cx (by intros; simp), World.putObj_heap_same (blk_lt h.rcd), hk _ _ h.dfr (by intros; simp),
    ⟨h.bel.os, h.bel.tape, h.bel.output, Nat.le_trans h.bel.size ho.size, fun k hk' => (ho.block k (Nat.lt_of_lt_of_le hk' h.bel.size) (fun e => by omega)).trans (h.bel.block k hk')⟩⟩

theorem Sea.put (hS : Sea W n m T sB sm cb base rv tv j q SB) (h : W.heap[l]? = some (.loop R0)) (R1 : Loop) : Sea (W.putObj l (.loop R1)) n m T sB sm cb base rv tv j q SB :=
  hS.only (only_put W l (.loop R1)) (fun k e => ⟨R0, by rw [e]; exact h⟩)
end

end Go.Proofs.YtgflalfiopnmnaaGreatDoor
