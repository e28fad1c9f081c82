import Derived.Test.YtgflalfiopnmnabG8
import Derived.Test.YtgflalfiopnmnabGtVals
namespace Go.Proofs.Ytgflalfiopnmnab
open Go.RowKit Vl Aw
attribute [local go_sem] Oper.semAt_some

/-- The body of the range over a function that a code holds. -/
def rfBody : Code → Option Code
  | .seq a b => (rfBody a).orElse (fun _ => rfBody b)
  | .block _ c => rfBody c
  | .rangeFunc _ _ _ body => some body
  | .cond _ a b => (rfBody a).orElse (fun _ => rfBody b)
  | _ => none


theorem Sea.keep {w y : World} {n m : Nat} {T : Nat → Nat} {sB sm cb base : Nat} {rv tv : Value} {j : Nat} {q : List Aw.E} {SB : Nat → Nat} (h : Sea w n m T sB sm cb base rv tv j q SB) (hf : Fr sB sm base w y) {k : Nat} {cs : Array Value} {t : TypeId} {z : Nat × Nat} (hk : w.heap[k]? = some (.cells cs t z)) (h1 : t ≠ 112) (h2 : t ≠ 108) : y.heap[k]? = some (.cells cs t z) := by
  obtain ⟨wv, hs, _⟩ := h.blk
  obtain ⟨es, clk, hm, _⟩ := h.seen
  refine hf.cells hk h1 (fun e => ?_) (fun e => ?_)
  · rw [e, hs] at hk
    cases hk
    exact h2 rfl
  · rw [e, hm] at hk
    cases hk
theorem Sea.tbs {w y : World} {n m : Nat} {T M : Nat → Nat} {sB sm cb base : Nat} {rv tv : Value} {j : Nat} {q : List Aw.E} {SB : Nat → Nat} {at_ : Nat → Int} {L : Nat → Nat} {K X : Nat → Nat → V} {N : Nat} (h : Sea w n m T sB sm cb base rv tv j q SB) (hf : Fr sB sm base w y) (ht : Tbs w N T M at_ L K X) (hm : ∀ j, j < N → M j ≠ sm) : Tbs y N T M at_ L K X := by
  obtain ⟨wv, hs, _⟩ := h.blk
  obtain ⟨es, clk, hmm, _⟩ := h.seen
  exact hf.tbs ht ⟨_, hs⟩ hm ⟨_, _, hmm⟩
theorem mem_iadd {S : Aw.Sys} {q : List Aw.E} {c x : Aw.E} (h : x ∈ S.iadd q c) : x ∈ q ∨ (x = c ∧ S.cp c = true) := by
  unfold Aw.Sys.iadd at h
  split at h
  · rename_i hc
    rcases List.mem_append.1 h with h | h
    · exact Or.inl h
    · simp only [Bool.and_eq_true] at hc
      exact Or.inr ⟨List.mem_singleton.1 h, hc.1.1⟩
  · exact Or.inl h
theorem iadd_at {S : Aw.Sys} {q : List Aw.E} {c : Aw.E} {j : Nat} (h : j < q.length) : j < (S.iadd q c).length ∧ lsE (S.iadd q c) j = lsE q j := by
  unfold Aw.Sys.iadd
  split
  · refine ⟨by rw [List.length_append]; omega, ?_⟩
    unfold lsE
    rw [List.getD_eq_getElem?_getD, List.getD_eq_getElem?_getD, List.getElem?_append_left h]
  · exact ⟨h, rfl⟩
/-- Where nothing parts, the second table has each key of the first. -/
theorem Jnd.both {n m : Nat} {L : Nat → Nat} {K X : Nat → Nat → V} {L0 : Nat → Nat} {K0 X0 : Nat → Nat → V} {L1 : Nat → Nat} {K1 X1 : Nat → Nat → V} {ls : Nat → List Nat} {f : Nat → Nat} (h : Jnd n m L K X L0 K0 X0 L1 K1 X1 ls) {e : Aw.E} (hi : e.a.a.toNat < n) (hj : e.b.a.toNat < m) {c : Nat} (hc : c < L e.a.a.toNat)
    (hp : (Aw.sysOf n L0 K0 X0 L1 K1 X1 f).part ((Aw.sysOf n L0 K0 X0 L1 K1 X1 f).child e (K e.a.a.toNat c)) = false) :
    X e.a.a.toNat c = ((Aw.sysOf n L0 K0 X0 L1 K1 X1 f).child e (K e.a.a.toNat c)).a ∧ ∃ c', c' < L (n + e.b.a.toNat) ∧ K (n + e.b.a.toNat) c' = K e.a.a.toNat c ∧ X (n + e.b.a.toNat) c' = sh n ((Aw.sysOf n L0 K0 X0 L1 K1 X1 f).child e (K e.a.a.toNat c)).b := by
  have ha : X e.a.a.toNat c = ((Aw.sysOf n L0 K0 X0 L1 K1 X1 f).child e (K e.a.a.toNat c)).a := by
    rw [← atKey_at (h.ok _ (by omega)) hc, h.atA hi]
    rfl
  refine ⟨ha, ?_⟩
  have hb := h.atB hj (K e.a.a.toNat c)
  by_cases hk : K e.a.a.toNat c ∈ keys (K (n + e.b.a.toNat)) (L (n + e.b.a.toNat))
  · obtain ⟨c', hc', e'⟩ := mem_keys.1 hk
    refine ⟨c', hc', e', ?_⟩
    rw [← atKey_at (h.ok _ (by omega)) hc', e', hb]
    rfl
  · exfalso
    rw [← h.part (T := fun _ => 0) hi hj, atKey_no hk, atKey_at (h.ok _ (by omega)) hc] at hp
    have hs := ((h.ok e.a.a.toNat (by omega)).all c hc).some
    have h1 : alike (fun _ => 0) (X e.a.a.toNat c) zeroV = false := by
      cases hh : alike (fun _ => 0) (X e.a.a.toNat c) zeroV with
      | false => rfl
      | true => exact absurd (alike_iff.1 hh).1 hs
    rw [h1] at hp
    simp [zeroV] at hp


set_option maxHeartbeats 8000000 in
set_option maxRecDepth 100000 in
/-- A round of 'impl.Apart'. -/
theorem apBody_any (N l n m : Nat) (T M : Nat → Nat) (L : Nat → Nat) (K X : Nat → Nat → V) (L0 : Nat → Nat) (K0 X0 : Nat → Nat → V) (L1 : Nat → Nat) (K1 X1 : Nat → Nat → V) (ls : Nat → List Nat) (f : Nat → Nat) (sB sm cb base b4 b7 : Nat) (rv tv r4 : Value) (j : Nat) (q : List Aw.E) (SB : Nat → Nat) (e : Aw.E) (x0 x1 x2 x3 x5 x6 x9 x10 x11 x12 x13 x14 x15 x16 x17 x18 x19 x20 x21 x22 x23 x24 x25 x26 x27 x28 x29 x30 x31 x32 x33 x34 x35 x36 x37 x38 x39 x40 x41 x42 x43 x44 x45 x46 x47 x48 x49 x50 x51 x52 x53 x54 x55 x56 x57 x58 x59 x60 x61 x62 x63 x64 x65 x66 x67 x68 x69 x70 x71 x72 x73 x74 x75 x76 x77 x78 x79 x80 x81 x82 x83 x84 x85 x86 x87 x88 x89 x90 x91 x92 x93 x94 : Value) (w : World) (Q : Exit → Act → World → Prop)
    (hj : j < q.length) (HE : Hid (lsE q j = e)) (HSea : Hid (Sea w n m T sB sm cb base rv tv (j + 1) q SB)) (HT : Hid (Tbs w (n + m) T M (fun j => (j : Nat)) L K X)) (HJ : Hid (Jnd n m L K X L0 K0 X0 L1 K1 X1 ls)) (HC : Hid (w.rowIs cb 3 (n + m) (fun i => .int .i64 (f i : Nat)))) (HF : Hid (∀ i, i < n + m → f i ≤ i))
    (HQ : Hid (∀ x ∈ q, isV n x.a = true ∧ isV m x.b = true ∧ x.a.k = 4 ∧ x.b.k = 4)) (HM : Hid (∀ j, j < n + m → M j ≠ sm)) (H7 : Hid (w.heap[b7]? = some (.cells #[ptr sB] 102 (0, 0)))) (H4 : Hid (w.heap[b4]? = some (.cells #[r4] 45 (0, 0)))) (HP : Hid (e.p.length ≤ 50000))
    (HL : Hid (∀ ks, ks <+: (Aw.sysOf n L0 K0 X0 L1 K1 X1 f).kids e.a e.b → (ks.foldl (fun l k => (Aw.sysOf n L0 K0 X0 L1 K1 X1 f).iadd l ((Aw.sysOf n L0 K0 X0 L1 K1 X1 f).child e k)) q).length ≤ 100000))
    (HQn : Hid (∀ a w', (∀ k ∈ (Aw.sysOf n L0 K0 X0 L1 K1 X1 f).kids e.a e.b, (Aw.sysOf n L0 K0 X0 L1 K1 X1 f).part ((Aw.sysOf n L0 K0 X0 L1 K1 X1 f).child e k) = false) → (∃ SB', Sea w' n m T sB sm cb base rv tv (j + 1) ((Aw.sysOf n L0 K0 X0 L1 K1 X1 f).igrow q e) SB') → Fr sB sm base w w' → Q .normal a w'))
    (HQr : Hid (∀ a w' k pre post v, (Aw.sysOf n L0 K0 X0 L1 K1 X1 f).kids e.a e.b = pre ++ k :: post → (∀ x ∈ pre, (Aw.sysOf n L0 K0 X0 L1 K1 X1 f).part ((Aw.sysOf n L0 K0 X0 L1 K1 X1 f).child e x) = false) → (Aw.sysOf n L0 K0 X0 L1 K1 X1 f).part ((Aw.sysOf n L0 K0 X0 L1 K1 X1 f).child e k) = true → w'.heap[b4]? = some (.cells #[v] 45 (0, 0)) → w'.ownsRow w.heap.size 29 4 v (e.p.length + 1) (keyCells (e.p ++ [k])) → Only (fun k => k = b4) w w' → Q .ret a w'))
    (HNx : Hid (Nexts (Aw.sysOf n L0 K0 X0 L1 K1 X1 f) (goodV n m))) (hno : ¬ LetsOut Q) (hQp : ∀ ch a a' w, Q (.panic ch) a w → Q (.panic ch) a' w) (c : Code) (hc : (Try.f40.body.bind rfBody) = some c) :
    c.wpIn (Fence.wide.inRound l) N Try.prog Q { tmps := #[x0, x1, x2, x3, ptr b4, x5, x6, ptr b7, ptr (SB j), x9, x10, x11, x12, x13, x14, x15, x16, x17, x18, x19, x20, x21, x22, x23, x24, x25, x26, x27, x28, x29, x30, x31, x32, x33, x34, x35, x36, x37, x38, x39, x40, x41, x42, x43, x44, x45, x46, x47, x48, x49, x50, x51, x52, x53, x54, x55, x56, x57, x58, x59, x60, x61, x62, x63, x64, x65, x66, x67, x68, x69, x70, x71, x72, x73, x74, x75, x76, x77, x78, x79, x80, x81, x82, x83, x84, x85, x86, x87, x88, x89, x90, x91, x92, x93, x94], defers := [] } w := by
  simp only [Try.f40, Option.bind_some, rfBody, Option.orElse, Option.some.injEq] at hc
  subst hc
  obtain ⟨hga, hgb, hka, hkb⟩ := HQ.out e (by rw [← HE.out]; exact List.mem_of_getElem? (lsE_at hj))
  obtain ⟨a0, a1⟩ := isV_tab hga hka
  obtain ⟨b0, b1⟩ := isV_tab hgb hkb
  have hia : e.a.a.toNat < n := by omega
  have hjb : e.b.a.toNat < m := by omega
  have HIA : Hid (e.a.a.toNat < n ∧ e.b.a.toNat < m) := ⟨hia, hjb⟩
  obtain ⟨ks, ah, hst, hah⟩ := HSea.out.sts.st j hj
  rw [HE.out] at hst
  have HST : Hid (w.heap[SB j]? = some (.cells #[ptr (T e.a.a.toNat), ptr (T (n + e.b.a.toNat)), .int .i64 ks.k, .int .i64 ks.n, .string ks.s, .int .i64 ks.a, .pointer ah] 114 (0, 0))) := hst
  obtain ⟨y0, y1, y2, y3, y4, y5, y6, yz⟩ := cellsSt hst
  have hpa := parting_any (n + m) e.a.a.toNat (n + e.b.a.toNat) T M (fun j => (j : Nat)) L K X w (by omega) (by omega) HJ.out.ok HT (fun k => (Aw.sysOf n L0 K0 X0 L1 K1 X1 f).part ((Aw.sysOf n L0 K0 X0 L1 K1 X1 f).child e k)) (show Hid _ from funext fun k => (HJ.out.part (f := f) (T := T) hia hjb k).symm)
  obtain ⟨pa, hpae⟩ : ∃ pa, T e.a.a.toNat = pa := ⟨_, rfl⟩
  obtain ⟨pb, hpbe⟩ : ∃ pb, T (n + e.b.a.toNat) = pb := ⟨_, rfl⟩
  have HPA : Hid (T e.a.a.toNat = pa ∧ T (n + e.b.a.toNat) = pb) := ⟨hpae, hpbe⟩
  rw [hpae, hpbe] at hpa
  rw [hpae] at y0
  rw [hpbe] at y1
  clear hst hah a0 a1 b0 b1 hga hgb hka hkb hpae hpbe
  gi_wp2_with fail
  refine ⟨trivial, fun hh => (by cases hh), (callsIn_wideR (ro := some l) hpa).mono ?_⟩
  clear hpa y0 y1 y2 y3 y4 y5 y6 yz
  rintro en w1 ⟨hcase, hb1⟩
  have HB1 : Hid (Below w.heap.size w w1) := hb1
  clear hb1
  rcases hcase with ⟨hnone, rfl⟩ | ⟨k, rfl, hk, hmin⟩
  · obtain ⟨hall, hkeys⟩ := HJ.out.none_parts (f := f) hia hjb hnone
    have HAL : Hid (∀ k ∈ (Aw.sysOf n L0 K0 X0 L1 K1 X1 f).kids e.a e.b, (Aw.sysOf n L0 K0 X0 L1 K1 X1 f).part ((Aw.sysOf n L0 K0 X0 L1 K1 X1 f).child e k) = false) := hall
    have HKY : Hid (keys (K e.a.a.toNat) (L e.a.a.toNat) = (Aw.sysOf n L0 K0 X0 L1 K1 X1 f).kids e.a e.b) := hkeys
    have hLa := (HJ.out.ok e.a.a.toNat (by omega)).len
    obtain ⟨ord, hTb, hOr⟩ := HT.out.tab e.a.a.toNat (by omega)
    obtain ⟨ord', hTb', _⟩ := HT.out.tab (n + e.b.a.toNat) (by omega)
    obtain ⟨hform, _⟩ := owns_keys hOr
    have HV0 : Hid (∀ y, Fr sB sm base w y → ValsAt y (slA ord) (L e.a.a.toNat) (slB ord) 0 (K e.a.a.toNat)) := show ∀ y, _ from fun y hf => (owns_keys (Only.ownsB hf hOr (fun g hg hp => by
      obtain ⟨_, cur, hc⟩ := owns_type hOr hg
      obtain ⟨wv, hs, _⟩ := HSea.out.blk
      obtain ⟨es, clk, hm, _⟩ := HSea.out.seen
      rcases hp with e | e | ⟨_, cur', hc'⟩
      · rw [e, hs] at hc; cases hc
      · rw [e, hm] at hc; cases hc
      · rw [hc'] at hc; cases hc))).2
    obtain ⟨ka, hka⟩ : ∃ ka, slA ord = ka := ⟨_, rfl⟩
    obtain ⟨kb, hkb⟩ : ∃ kb, slB ord = kb := ⟨_, rfl⟩
    obtain ⟨kc, hkc⟩ : ∃ kc, slC ord = kc := ⟨_, rfl⟩
    rw [hka, hkc] at hform
    rw [hka, hkb] at HV0
    obtain ⟨La, HLa⟩ : ∃ La, Hid (L e.a.a.toNat = La) := ⟨_, rfl⟩
    rw [HLa.out] at hform HV0 hLa
    rw [hform] at hTb
    unfold TabB at hTb hTb'
    rw [HPA.out.1] at hTb
    rw [HPA.out.2] at hTb'
    obtain ⟨Ma, hMa⟩ : ∃ Ma, M e.a.a.toNat = Ma := ⟨_, rfl⟩
    obtain ⟨Mb, hMb⟩ : ∃ Mb, M (n + e.b.a.toNat) = Mb := ⟨_, rfl⟩
    rw [hMa] at hTb
    rw [hMb] at hTb'
    have HTA : Hid (∀ y, Fr sB sm base w y → y.cell? ⟨pa, 1, none⟩ = some (.map (some Ma)) ∧ y.cell? ⟨pa, 2, none⟩ = some (.slice ka La kc)) := show ∀ y, _ from fun y hf => by
      obtain ⟨_, t1, t2, _⟩ := TabB.cells (HSea.out.keep hf hTb (by decide) (by decide))
      exact ⟨t1, t2⟩
    have HTB : Hid (∀ y, Fr sB sm base w y → y.cell? ⟨pb, 1, none⟩ = some (.map (some Mb))) := show ∀ y, _ from fun y hf => (TabB.cells (HSea.out.keep hf hTb' (by decide) (by decide))).2.1
    have HSY : Hid (∀ y, Fr sB sm base w y → y.cell? ⟨SB j, 0, none⟩ = some (ptr pa) ∧ y.cell? ⟨SB j, 1, none⟩ = some (ptr pb)) := show ∀ y, _ from fun y hf => by
      obtain ⟨y0, y1, _⟩ := cellsSt (HSea.out.keep hf HST.out (by decide) (by decide))
      rw [HPA.out.1] at y0
      rw [HPA.out.2] at y1
      exact ⟨y0, y1⟩
    have HB7 : Hid (∀ y, Fr sB sm base w y → y.cell? ⟨b7, 0, none⟩ = some (ptr sB)) := show ∀ y, _ from fun y hf => (one_at (HSea.out.keep hf H7.out (by decide) (by decide))).1
    have HTY : Hid (∀ y, Fr sB sm base w y → Tbs y (n + m) T M (fun j => (j : Nat)) L K X) := show ∀ y, _ from fun y hf => HSea.out.tbs hf HT.out HM.out
    have HLk : Hid (∀ y, Fr sB sm base w y → ∀ c, c < La → (Instr.lookup 93 (.map (some Ma)) (vAgg (K e.a.a.toNat c)) false).run Try.prog y = .ok (ifv T ((Aw.sysOf n L0 K0 X0 L1 K1 X1 f).child e (K e.a.a.toNat c)).a) y ∧ (Instr.lookup 93 (.map (some Mb)) (vAgg (K e.a.a.toNat c)) false).run Try.prog y = .ok (ifv T (sh n ((Aw.sysOf n L0 K0 X0 L1 K1 X1 f).child e (K e.a.a.toNat c)).b)) y) := show ∀ y, _ from fun y hf c hc => by
      have hc' : c < L e.a.a.toNat := by rw [HLa.out]; exact hc
      have hpt : (Aw.sysOf n L0 K0 X0 L1 K1 X1 f).part ((Aw.sysOf n L0 K0 X0 L1 K1 X1 f).child e (K e.a.a.toNat c)) = false := HAL.out _ (by rw [← HKY.out]; exact mem_keys.2 ⟨c, hc', rfl⟩)
      obtain ⟨ea, cb', hcb, ek, eb⟩ := HJ.out.both (f := f) hia hjb hc' hpt
      obtain ⟨l0, m0, f0⟩ := (HTY.out y hf).map e.a.a.toNat (by omega)
      obtain ⟨l1, m1, f1⟩ := (HTY.out y hf).map (n + e.b.a.toNat) (by omega)
      have r0 := (m0.lookup (K e.a.a.toNat c)).2
      rw [f0 c hc', hMa, ea] at r0
      have r1 := (m1.lookup (K (n + e.b.a.toNat) cb')).2
      rw [f1 cb' hcb, hMb, eb, ek] at r1
      exact ⟨r0, r1⟩
    have HCC : Hid (∀ y, Fr sB sm base w y → ∀ i, i < n + m → y.cell? ⟨cb, i, none⟩ = some (.int .i64 (f i : Nat))) := show ∀ y, _ from fun y hf i hi => by
      obtain ⟨cs, h1, h2, h3⟩ := HC.out
      exact World.rowIs.cell (f := fun i => .int .i64 (f i : Nat)) ⟨cs, HSea.out.keep hf h1 (by decide) (by decide), h2, h3⟩ hi
    have HF1 : Hid (Fr sB sm base w w1) := Fr.below HB1.out
    obtain ⟨w2, hw2⟩ : ∃ w2, w2 = w1.alloc (.cells #[.int .i64 0, .int .i64 0, .string ⟨#[]⟩, .int .i64 0] 29) := ⟨_, rfl⟩
    have HB2 : Hid (Below w.heap.size w w2) := grw HB1.out (by rw [hw2]; exact (Below.refl _ _).alloc (Nat.le_refl _) _)
    have HF2 : Hid (Fr sB sm base w w2) := Fr.below HB2.out
    obtain ⟨y0, y1⟩ := HSY.out w2 HF2.out
    obtain ⟨t1, t2⟩ := HTA.out w2 HF2.out
    rw [hw2] at y0 y1 t1 t2
    clear hnone hall hkeys hform hTb hTb' hOr hka hkb hkc hMa hMb hia hjb
    unfold vAgg zeroV
    gi_wp2
    rw [← hw2]
    clear y0 y1 t1 t2 hw2
    gi_loopw [65] (fun iv wr => ∃ i : Nat, i ≤ La ∧ iv = .int .i64 i ∧ Hid (Fr sB sm base w wr) ∧ Hid (∃ SB', Sea wr n m T sB sm cb base rv tv (j + 1) ((((Aw.sysOf n L0 K0 X0 L1 K1 X1 f).kids e.a e.b).take i).foldl (fun l k => (Aw.sysOf n L0 K0 X0 L1 K1 X1 f).iadd l ((Aw.sysOf n L0 K0 X0 L1 K1 X1 f).child e k)) q) SB' ∧ SB' j = SB j ∧ j < ((((Aw.sysOf n L0 K0 X0 L1 K1 X1 f).kids e.a e.b).take i).foldl (fun l k => (Aw.sysOf n L0 K0 X0 L1 K1 X1 f).iadd l ((Aw.sysOf n L0 K0 X0 L1 K1 X1 f).child e k)) q).length ∧ lsE ((((Aw.sysOf n L0 K0 X0 L1 K1 X1 f).kids e.a e.b).take i).foldl (fun l k => (Aw.sysOf n L0 K0 X0 L1 K1 X1 f).iadd l ((Aw.sysOf n L0 K0 X0 L1 K1 X1 f).child e k)) q) j = e ∧ ∀ x ∈ (((Aw.sysOf n L0 K0 X0 L1 K1 X1 f).kids e.a e.b).take i).foldl (fun l k => (Aw.sysOf n L0 K0 X0 L1 K1 X1 f).iadd l ((Aw.sysOf n L0 K0 X0 L1 K1 X1 f).child e k)) q, isV n x.a = true ∧ isV m x.b = true ∧ x.a.k = 4 ∧ x.b.k = 4)) (fun iv _ => La - (intOf iv).toNat)
    case atStart => exact ⟨0, Nat.zero_le _, rfl, HF2, SB, HSea.out.below HB2.out, rfl, hj, HE.out, HQ.out⟩
    case round =>
      obtain ⟨i, hi, rfl, HFr, HInv⟩ := hrel
      by_cases hlt : i < La
      · obtain rfl := (HV0.out w (Fr.refl _ _ _ _)).top (by omega)
        obtain ⟨k0, k1, k2, k3⟩ := (HV0.out wr HFr.out).cells hlt
        simp only [Nat.zero_add] at k0 k1 k2 k3
        obtain ⟨kk, HKK⟩ : ∃ kk, Hid (K e.a.a.toNat i = kk) := ⟨_, rfl⟩
        rw [HKK.out] at k0 k1 k2 k3
        gi_wp2
        obtain ⟨wk, hwk⟩ : ∃ wk, wk = wr.alloc (.cells #[.int .i64 kk.k, .int .i64 kk.n, .string kk.s, .int .i64 kk.a] 29) := ⟨_, rfl⟩
        have HBk : Hid (Below wr.heap.size wr wk) := by rw [hwk]; exact (Below.refl _ _).alloc (Nat.le_refl _) _
        have HFk : Hid (Fr sB sm base w wk) := Fr.trans HFr.out (Fr.below HBk.out)
        obtain ⟨qb, hqb⟩ : ∃ qb, wr.heap.size = qb := ⟨_, rfl⟩
        have HKb : Hid (wk.heap[qb]? = some (.cells #[.int .i64 kk.k, .int .i64 kk.n, .string kk.s, .int .i64 kk.a] 29 (0, 0))) := by rw [hwk, ← hqb]; exact heap_alloc_new _ _
        try rw [hqb]
        try rw [hqb] at hwk
        rw [← hwk]
        clear hwk k0 k1 k2 k3 hqb
        obtain ⟨SB', hsea, hsj, hjl, hle, hqg⟩ := HInv.out
        have HNt : Hid (((Aw.sysOf n L0 K0 X0 L1 K1 X1 f).kids e.a e.b).take (i + 1) = ((Aw.sysOf n L0 K0 X0 L1 K1 X1 f).kids e.a e.b).take i ++ [kk]) := by
          have h1 : ((Aw.sysOf n L0 K0 X0 L1 K1 X1 f).kids e.a e.b)[i]? = some kk := by
            rw [← HKY.out, ← HKK.out, HLa.out]
            simp [keys, hlt]
          show _ = _
          rw [List.take_add_one, h1]
          rfl
        have hkin : kk ∈ (Aw.sysOf n L0 K0 X0 L1 K1 X1 f).kids e.a e.b := by
          rw [← HKY.out]
          exact mem_keys.2 ⟨i, by rw [HLa.out]; exact hlt, HKK.out⟩
        obtain ⟨qi, HQI⟩ : ∃ qi, Hid ((((Aw.sysOf n L0 K0 X0 L1 K1 X1 f).kids e.a e.b).take i).foldl (fun l k => (Aw.sysOf n L0 K0 X0 L1 K1 X1 f).iadd l ((Aw.sysOf n L0 K0 X0 L1 K1 X1 f).child e k)) q = qi) := ⟨_, rfl⟩
        rw [HQI.out] at hsea hjl hle hqg
        have HQN : Hid ((((Aw.sysOf n L0 K0 X0 L1 K1 X1 f).kids e.a e.b).take (i + 1)).foldl (fun l k => (Aw.sysOf n L0 K0 X0 L1 K1 X1 f).iadd l ((Aw.sysOf n L0 K0 X0 L1 K1 X1 f).child e k)) q = (Aw.sysOf n L0 K0 X0 L1 K1 X1 f).iadd qi ((Aw.sysOf n L0 K0 X0 L1 K1 X1 f).child e kk)) := by
          show _ = _
          rw [HNt.out, List.foldl_append, HQI.out]
          rfl
        have hqil : qi.length ≤ 100000 := by rw [← HQI.out]; exact HL.out _ (List.take_prefix _ _)
        obtain ⟨_, _, hka, hkb⟩ := HQ.out e (by rw [← HE.out]; exact List.mem_of_getElem? (lsE_at hj))
        have hgd : goodV n m e.a e.b := by obtain ⟨h1, h2, _⟩ := HQ.out e (by rw [← HE.out]; exact List.mem_of_getElem? (lsE_at hj)); exact ⟨h1, h2⟩
        obtain ⟨hx, hy⟩ := HNx.out e.a e.b hgd (beq_iff_eq.2 hka) (beq_iff_eq.2 hkb) kk hkin
        obtain ⟨ch, HCH⟩ : ∃ ch, Hid ((Aw.sysOf n L0 K0 X0 L1 K1 X1 f).child e kk = ch) := ⟨_, rfl⟩
        have hcp : ch.p = e.p ++ [kk] := by rw [← HCH.out]; rfl
        have hx' : isV n ch.a = true := by rw [← HCH.out]; exact hx
        have hy' : isV m ch.b = true := by rw [← HCH.out]; exact hy
        have HSF : Hid (∀ y, Fr sB sm base wk y → Fr sB sm base w y) := show ∀ y, _ from fun y h => Fr.trans HFk.out h
        have HSk : Hid (Sea wk n m T sB sm cb base rv tv (j + 1) qi SB') := hsea.below HBk.out
        have HKC : Hid (∀ y, Fr sB sm base wk y → y.cell? ⟨qb, 0, none⟩ = some (.int .i64 kk.k) ∧ y.cell? ⟨qb, 1, none⟩ = some (.int .i64 kk.n) ∧ y.cell? ⟨qb, 2, none⟩ = some (.string kk.s) ∧ y.cell? ⟨qb, 3, none⟩ = some (.int .i64 kk.a)) := show ∀ y, _ from fun y h => by
          obtain ⟨c0, c1, c2, c3, _⟩ := cells4 (HSk.out.keep h HKb.out (by decide) (by decide))
          exact ⟨c0, c1, c2, c3⟩
        obtain ⟨xt, xw, hxi⟩ := ifv_form T ch.a
        obtain ⟨yt, yw, hyi⟩ := ifv_form T (sh n ch.b)
        have HLK : Hid (∀ y, Fr sB sm base wk y → (Instr.lookup 93 (.map (some Ma)) (.agg #[.int .i64 kk.k, .int .i64 kk.n, .string kk.s, .int .i64 kk.a]) false).run Try.prog y = .ok (.iface xt xw) y ∧ (Instr.lookup 93 (.map (some Mb)) (.agg #[.int .i64 kk.k, .int .i64 kk.n, .string kk.s, .int .i64 kk.a]) false).run Try.prog y = .ok (.iface yt yw) y) := show ∀ y, _ from fun y h => by
          have := HLk.out y (HSF.out y h) i hlt
          rw [HKK.out, HCH.out, hxi, hyi] at this
          exact this
        have HRC : Hid (∀ y, Below wk.heap.size wk y → Calls Try.prog 70 #[ptr sB, .iface xt xw, .iface yt yw, .agg #[.pointer none, .pointer none, .int .i64 kk.k, .int .i64 kk.n, .string kk.s, .int .i64 kk.a, .pointer (some ⟨SB j, 0, none⟩)]] y fun en w' => en = .returned (.tuple #[]) ∧ (∃ SB'', Sea w' n m T sB sm cb base rv tv (j + 1) ((Aw.sysOf n L0 K0 X0 L1 K1 X1 f).iadd qi ch) SB'' ∧ ∀ i, i < qi.length → SB'' i = SB' i) ∧ Fr sB sm base y w') := show ∀ y, _ from fun y hb => by
          have hf := HSF.out y (Fr.below hb)
          have := reach_any n m T M L K X L0 K0 X0 L1 K1 X1 f sB sm cb base rv tv (j + 1) qi SB' ch kk (some ⟨SB j, 0, none⟩) none none y hx' hy' hqil (HSk.out.below hb) (HTY.out y hf) (HCC.out y hf) HF hqg (Or.inr ⟨j, hjl, by rw [hsj], by rw [hle]; exact hcp⟩)
          rw [hxi, hyi] at this
          exact this
        have HEnd : Hid (j < ((Aw.sysOf n L0 K0 X0 L1 K1 X1 f).iadd qi ch).length ∧ lsE ((Aw.sysOf n L0 K0 X0 L1 K1 X1 f).iadd qi ch) j = e ∧ ∀ x ∈ (Aw.sysOf n L0 K0 X0 L1 K1 X1 f).iadd qi ch, isV n x.a = true ∧ isV m x.b = true ∧ x.a.k = 4 ∧ x.b.k = 4) := by
          obtain ⟨h1, h2⟩ := iadd_at (S := (Aw.sysOf n L0 K0 X0 L1 K1 X1 f)) (c := ch) hjl
          refine ⟨h1, h2.trans hle, fun x hxm => ?_⟩
          rcases mem_iadd hxm with h | ⟨rfl, hc⟩
          · exact hqg x h
          · have hc' : (x.a.k == 4 && x.b.k == 4) = true := hc
            simp only [Bool.and_eq_true, beq_iff_eq] at hc'
            exact ⟨hx', hy', hc'.1, hc'.2⟩
        have HSJ : Hid (SB' j = SB j ∧ j < qi.length) := ⟨hsj, hjl⟩
        rw [HCH.out] at HQN
        clear hsea hsj hjl hle hqg hkin hqil hgd hx hy hcp hx' hy' hxi hyi hka hkb
        refine wpIn_region_heldR (ro := some l) (S := fun y => Fr sB sm base wk y) (by kernel_rfl) (by kernel_rfl) (fun ⟨a, w, h⟩ => hno ⟨a, w, h⟩) (Fr.below (Below.refl _ _).drew) (fun hHeld => ?_)
        generalize hwd : wk.drew = wd at hHeld ⊢
        have hbd : Below wk.heap.size wk wd := by rw [← hwd]; exact (Below.refl _ _).drew
        clear hwd
        refine wpAnyH_take (i := 0) (v := ptr sB) rfl (by kernel_rfl) (by kernel_rfl) (by kernel_rfl) (fun _ _ _ h => hQp _ _ _ _ h) (Or.inl ⟨by rfl, fun w hSw => ?_⟩) hHeld ?_
        · have q0 := HB7.out w (HSF.out w hSw); first | rfl | go_simp
        simp only [Act.put, List.setIfInBounds_toArray, List.set_cons_zero, List.set_cons_succ, List.getElem_toArray, List.getElem_cons_zero]
        refine wpAnyH_take (i := 1) (v := ptr (SB j)) rfl (by kernel_rfl) (by kernel_rfl) (by kernel_rfl) (fun _ _ _ h => hQp _ _ _ _ h) (Or.inl ⟨by rfl, fun w hSw => ?_⟩) hHeld ?_
        · first | rfl | go_simp
        simp only [Act.put, List.setIfInBounds_toArray, List.set_cons_zero, List.set_cons_succ, List.getElem_toArray, List.getElem_cons_zero, List.getElem_cons_succ]
        refine wpAnyH_take (i := 2) (v := .pointer (some ⟨SB j, 0, none⟩)) rfl (by kernel_rfl) (by kernel_rfl) (by kernel_rfl) (fun _ _ _ h => hQp _ _ _ _ h) (Or.inl ⟨by rfl, fun w hSw => ?_⟩) hHeld ?_
        · first | rfl | go_simp
        simp only [Act.put, List.setIfInBounds_toArray, List.set_cons_zero, List.set_cons_succ, List.getElem_toArray, List.getElem_cons_zero, List.getElem_cons_succ]
        refine wpAnyH_take (i := 3) (v := .pointer (some ⟨SB j, 0, none⟩)) rfl (by kernel_rfl) (by kernel_rfl) (by kernel_rfl) (fun _ _ _ h => hQp _ _ _ _ h) (Or.inl ⟨by rfl, fun w hSw => ?_⟩) hHeld ?_
        · first | rfl | go_simp
        simp only [Act.put, List.setIfInBounds_toArray, List.set_cons_zero, List.set_cons_succ, List.getElem_toArray, List.getElem_cons_zero, List.getElem_cons_succ]
        refine wpAnyH_take (i := 4) (v := .pointer (some ⟨SB j, 0, none⟩)) rfl (by kernel_rfl) (by kernel_rfl) (by kernel_rfl) (fun _ _ _ h => hQp _ _ _ _ h) (Or.inl ⟨by rfl, fun w hSw => ?_⟩) hHeld ?_
        · first | rfl | go_simp
        simp only [Act.put, List.setIfInBounds_toArray, List.set_cons_zero, List.set_cons_succ, List.getElem_toArray, List.getElem_cons_zero, List.getElem_cons_succ]
        refine wpAnyH_take (i := 5) (v := ptr pa) rfl (by kernel_rfl) (by kernel_rfl) (by kernel_rfl) (fun _ _ _ h => hQp _ _ _ _ h) (Or.inl ⟨by rfl, fun w hSw => ?_⟩) hHeld ?_
        · have q0 := (HSY.out w (HSF.out w hSw)).1; first | rfl | go_simp
        simp only [Act.put, List.setIfInBounds_toArray, List.set_cons_zero, List.set_cons_succ, List.getElem_toArray, List.getElem_cons_zero, List.getElem_cons_succ]
        refine wpAnyH_take (i := 6) (v := ptr pa) rfl (by kernel_rfl) (by kernel_rfl) (by kernel_rfl) (fun _ _ _ h => hQp _ _ _ _ h) (Or.inl ⟨by rfl, fun w hSw => ?_⟩) hHeld ?_
        · first | rfl | go_simp
        simp only [Act.put, List.setIfInBounds_toArray, List.set_cons_zero, List.set_cons_succ, List.getElem_toArray, List.getElem_cons_zero, List.getElem_cons_succ]
        refine wpAnyH_take (i := 7) (v := .pointer (some ⟨pa, 1, none⟩)) rfl (by kernel_rfl) (by kernel_rfl) (by kernel_rfl) (fun _ _ _ h => hQp _ _ _ _ h) (Or.inl ⟨by rfl, fun w hSw => ?_⟩) hHeld ?_
        · first | rfl | go_simp
        simp only [Act.put, List.setIfInBounds_toArray, List.set_cons_zero, List.set_cons_succ, List.getElem_toArray, List.getElem_cons_zero, List.getElem_cons_succ]
        refine wpAnyH_take (i := 8) (v := .map (some Ma)) rfl (by kernel_rfl) (by kernel_rfl) (by kernel_rfl) (fun _ _ _ h => hQp _ _ _ _ h) (Or.inl ⟨by rfl, fun w hSw => ?_⟩) hHeld ?_
        · have q0 := (HTA.out w (HSF.out w hSw)).1; first | rfl | go_simp
        simp only [Act.put, List.setIfInBounds_toArray, List.set_cons_zero, List.set_cons_succ, List.getElem_toArray, List.getElem_cons_zero, List.getElem_cons_succ]
        refine wpAnyH_take (i := 9) (v := .agg #[.int .i64 kk.k, .int .i64 kk.n, .string kk.s, .int .i64 kk.a]) rfl (by kernel_rfl) (by kernel_rfl) (by kernel_rfl) (fun _ _ _ h => hQp _ _ _ _ h) (Or.inl ⟨by rfl, fun w hSw => ?_⟩) hHeld ?_
        · obtain ⟨q0, q1, q2, q3⟩ := HKC.out w hSw; first | rfl | go_simp
        simp only [Act.put, List.setIfInBounds_toArray, List.set_cons_zero, List.set_cons_succ, List.getElem_toArray, List.getElem_cons_zero, List.getElem_cons_succ]
        refine wpAnyH_take (i := 10) (v := .iface xt xw) rfl (by kernel_rfl) (by kernel_rfl) (by kernel_rfl) (fun _ _ _ h => hQp _ _ _ _ h) (Or.inl ⟨by rfl, fun w hSw => ?_⟩) hHeld ?_
        · have q0 := (HLK.out w hSw).1; first | rfl | go_simp
        simp only [Act.put, List.setIfInBounds_toArray, List.set_cons_zero, List.set_cons_succ, List.getElem_toArray, List.getElem_cons_zero, List.getElem_cons_succ]
        refine wpAnyH_take (i := 11) (v := ptr (SB j)) rfl (by kernel_rfl) (by kernel_rfl) (by kernel_rfl) (fun _ _ _ h => hQp _ _ _ _ h) (Or.inl ⟨by rfl, fun w hSw => ?_⟩) hHeld ?_
        · first | rfl | go_simp
        simp only [Act.put, List.setIfInBounds_toArray, List.set_cons_zero, List.set_cons_succ, List.getElem_toArray, List.getElem_cons_zero, List.getElem_cons_succ]
        refine wpAnyH_take (i := 12) (v := .pointer (some ⟨SB j, 0, none⟩)) rfl (by kernel_rfl) (by kernel_rfl) (by kernel_rfl) (fun _ _ _ h => hQp _ _ _ _ h) (Or.inl ⟨by rfl, fun w hSw => ?_⟩) hHeld ?_
        · first | rfl | go_simp
        simp only [Act.put, List.setIfInBounds_toArray, List.set_cons_zero, List.set_cons_succ, List.getElem_toArray, List.getElem_cons_zero, List.getElem_cons_succ]
        refine wpAnyH_take (i := 13) (v := .pointer (some ⟨SB j, 0, none⟩)) rfl (by kernel_rfl) (by kernel_rfl) (by kernel_rfl) (fun _ _ _ h => hQp _ _ _ _ h) (Or.inl ⟨by rfl, fun w hSw => ?_⟩) hHeld ?_
        · first | rfl | go_simp
        simp only [Act.put, List.setIfInBounds_toArray, List.set_cons_zero, List.set_cons_succ, List.getElem_toArray, List.getElem_cons_zero, List.getElem_cons_succ]
        refine wpAnyH_take (i := 14) (v := .pointer (some ⟨SB j, 1, none⟩)) rfl (by kernel_rfl) (by kernel_rfl) (by kernel_rfl) (fun _ _ _ h => hQp _ _ _ _ h) (Or.inl ⟨by rfl, fun w hSw => ?_⟩) hHeld ?_
        · first | rfl | go_simp
        simp only [Act.put, List.setIfInBounds_toArray, List.set_cons_zero, List.set_cons_succ, List.getElem_toArray, List.getElem_cons_zero, List.getElem_cons_succ]
        refine wpAnyH_take (i := 15) (v := ptr pb) rfl (by kernel_rfl) (by kernel_rfl) (by kernel_rfl) (fun _ _ _ h => hQp _ _ _ _ h) (Or.inl ⟨by rfl, fun w hSw => ?_⟩) hHeld ?_
        · have q0 := (HSY.out w (HSF.out w hSw)).2; first | rfl | go_simp
        simp only [Act.put, List.setIfInBounds_toArray, List.set_cons_zero, List.set_cons_succ, List.getElem_toArray, List.getElem_cons_zero, List.getElem_cons_succ]
        refine wpAnyH_take (i := 16) (v := ptr pb) rfl (by kernel_rfl) (by kernel_rfl) (by kernel_rfl) (fun _ _ _ h => hQp _ _ _ _ h) (Or.inl ⟨by rfl, fun w hSw => ?_⟩) hHeld ?_
        · first | rfl | go_simp
        simp only [Act.put, List.setIfInBounds_toArray, List.set_cons_zero, List.set_cons_succ, List.getElem_toArray, List.getElem_cons_zero, List.getElem_cons_succ]
        refine wpAnyH_take (i := 17) (v := .pointer (some ⟨pb, 1, none⟩)) rfl (by kernel_rfl) (by kernel_rfl) (by kernel_rfl) (fun _ _ _ h => hQp _ _ _ _ h) (Or.inl ⟨by rfl, fun w hSw => ?_⟩) hHeld ?_
        · first | rfl | go_simp
        simp only [Act.put, List.setIfInBounds_toArray, List.set_cons_zero, List.set_cons_succ, List.getElem_toArray, List.getElem_cons_zero, List.getElem_cons_succ]
        refine wpAnyH_take (i := 18) (v := .map (some Mb)) rfl (by kernel_rfl) (by kernel_rfl) (by kernel_rfl) (fun _ _ _ h => hQp _ _ _ _ h) (Or.inl ⟨by rfl, fun w hSw => ?_⟩) hHeld ?_
        · have q0 := HTB.out w (HSF.out w hSw); first | rfl | go_simp
        simp only [Act.put, List.setIfInBounds_toArray, List.set_cons_zero, List.set_cons_succ, List.getElem_toArray, List.getElem_cons_zero, List.getElem_cons_succ]
        refine wpAnyH_take (i := 19) (v := .agg #[.int .i64 kk.k, .int .i64 kk.n, .string kk.s, .int .i64 kk.a]) rfl (by kernel_rfl) (by kernel_rfl) (by kernel_rfl) (fun _ _ _ h => hQp _ _ _ _ h) (Or.inl ⟨by rfl, fun w hSw => ?_⟩) hHeld ?_
        · obtain ⟨q0, q1, q2, q3⟩ := HKC.out w hSw; first | rfl | go_simp
        simp only [Act.put, List.setIfInBounds_toArray, List.set_cons_zero, List.set_cons_succ, List.getElem_toArray, List.getElem_cons_zero, List.getElem_cons_succ]
        refine wpAnyH_take (i := 20) (v := .iface yt yw) rfl (by kernel_rfl) (by kernel_rfl) (by kernel_rfl) (fun _ _ _ h => hQp _ _ _ _ h) (Or.inl ⟨by rfl, fun w hSw => ?_⟩) hHeld ?_
        · have q0 := (HLK.out w hSw).2; first | rfl | go_simp
        simp only [Act.put, List.setIfInBounds_toArray, List.set_cons_zero, List.set_cons_succ, List.getElem_toArray, List.getElem_cons_zero, List.getElem_cons_succ]
        refine wpAnyH_take (i := 21) (v := .agg #[.int .i64 kk.k, .int .i64 kk.n, .string kk.s, .int .i64 kk.a]) rfl (by kernel_rfl) (by kernel_rfl) (by kernel_rfl) (fun _ _ _ h => hQp _ _ _ _ h) (Or.inl ⟨by rfl, fun w hSw => ?_⟩) hHeld ?_
        · obtain ⟨q0, q1, q2, q3⟩ := HKC.out w hSw; first | rfl | go_simp
        simp only [Act.put, List.setIfInBounds_toArray, List.set_cons_zero, List.set_cons_succ, List.getElem_toArray, List.getElem_cons_zero, List.getElem_cons_succ]
        refine wpAnyH_take (i := 22) (v := ptr (SB j)) rfl (by kernel_rfl) (by kernel_rfl) (by kernel_rfl) (fun _ _ _ h => hQp _ _ _ _ h) (Or.inl ⟨by rfl, fun w hSw => ?_⟩) hHeld ?_
        · first | rfl | go_simp
        simp only [Act.put, List.setIfInBounds_toArray, List.set_cons_zero, List.set_cons_succ, List.getElem_toArray, List.getElem_cons_zero, List.getElem_cons_succ]
        refine wpAnyH_take (i := 23) (v := .agg #[.pointer none, .pointer none, .int .i64 kk.k, .int .i64 kk.n, .string kk.s, .int .i64 kk.a, .pointer (some ⟨SB j, 0, none⟩)]) rfl (by kernel_rfl) (by kernel_rfl) (by kernel_rfl) (fun _ _ _ h => hQp _ _ _ _ h) (Or.inl ⟨by rfl, fun w hSw => ?_⟩) hHeld ?_
        · first | rfl | go_simp
        simp only [Act.put, List.setIfInBounds_toArray, List.set_cons_zero, List.set_cons_succ, List.getElem_toArray, List.getElem_cons_zero, List.getElem_cons_succ]
        refine wpAnyH_ready (rs := [24]) (by kernel_rfl) (by simp) ?_
        refine AllReadyH.cons rfl (fun KK hK' => ?_) AllReadyH.nil
        have hcall := HRC.out wd hbd
        go_simp
        refine hcall.mono ?_
        clear hcall
        rintro en w5 ⟨rfl, ⟨SB2, hsea2, hag⟩, hfr5⟩
        have HF5 : Hid (Fr sB sm base wk w5) := Fr.trans hHeld hfr5
        refine hK'.out _ _ HF5.out (fun _ => ?_)
        clear hK'
        refine wpAnyH_done (by kernel_rfl) ?_ _
        have HFin : Hid (∃ SB', Sea w5 n m T sB sm cb base rv tv (j + 1) ((((Aw.sysOf n L0 K0 X0 L1 K1 X1 f).kids e.a e.b).take (i + 1)).foldl (fun l k => (Aw.sysOf n L0 K0 X0 L1 K1 X1 f).iadd l ((Aw.sysOf n L0 K0 X0 L1 K1 X1 f).child e k)) q) SB' ∧ SB' j = SB j ∧ j < ((((Aw.sysOf n L0 K0 X0 L1 K1 X1 f).kids e.a e.b).take (i + 1)).foldl (fun l k => (Aw.sysOf n L0 K0 X0 L1 K1 X1 f).iadd l ((Aw.sysOf n L0 K0 X0 L1 K1 X1 f).child e k)) q).length ∧ lsE ((((Aw.sysOf n L0 K0 X0 L1 K1 X1 f).kids e.a e.b).take (i + 1)).foldl (fun l k => (Aw.sysOf n L0 K0 X0 L1 K1 X1 f).iadd l ((Aw.sysOf n L0 K0 X0 L1 K1 X1 f).child e k)) q) j = e ∧ ∀ x ∈ (((Aw.sysOf n L0 K0 X0 L1 K1 X1 f).kids e.a e.b).take (i + 1)).foldl (fun l k => (Aw.sysOf n L0 K0 X0 L1 K1 X1 f).iadd l ((Aw.sysOf n L0 K0 X0 L1 K1 X1 f).child e k)) q, isV n x.a = true ∧ isV m x.b = true ∧ x.a.k = 4 ∧ x.b.k = 4) := by
          show ∃ _, _
          rw [HQN.out]
          exact ⟨SB2, hsea2, (hag j HSJ.out.2).trans HSJ.out.1, HEnd.out.1, HEnd.out.2.1, HEnd.out.2.2⟩
        have HF6 : Hid (Fr sB sm base w w5) := HSF.out w5 HF5.out
        clear hsea2 hag hfr5 hHeld hbd HF5
        gi_wp2
        go_roundw
        case rel => exact ⟨i + 1, by omega, by go_num, HF6, HFin⟩
        case measure => simp [intOf]; omega
      · gi_wp2
        obtain rfl : i = La := by omega
        refine HQn.out _ wr HAL.out ?_ HFr.out
        obtain ⟨SB', hsea, _⟩ := HInv.out
        refine ⟨SB', ?_⟩
        have e1 : ((Aw.sysOf n L0 K0 X0 L1 K1 X1 f).kids e.a e.b).take i = (Aw.sysOf n L0 K0 X0 L1 K1 X1 f).kids e.a e.b := List.take_of_length_le (by rw [← HKY.out, keys_len, HLa.out]; exact Nat.le_refl _)
        rw [e1] at hsea
        exact hsea
  · obtain ⟨hk1, pre, post, hk2, hk3⟩ := HJ.out.first_parts (f := f) hia hjb hk hmin
    have HK : Hid _ := HQr.out
    unfold vAgg
    gi_wp2
    obtain ⟨w2, hw2⟩ : ∃ w2, w2 = w1.alloc (.cells #[.int .i64 k.k, .int .i64 k.n, .string k.s, .int .i64 k.a] 29) := ⟨_, rfl⟩
    have hb2 : Below w1.heap.size w1 w2 := by rw [hw2]; exact (Below.refl _ _).alloc (Nat.le_refl _) _
    obtain ⟨kb, hkb⟩ : ∃ kb, w1.heap.size = kb := ⟨_, rfl⟩
    have HK2 : Hid (w2.heap[kb]? = some (.cells #[.int .i64 k.k, .int .i64 k.n, .string k.s, .int .i64 k.a] 29 (0, 0))) := by rw [hw2, ← hkb]; exact heap_alloc_new _ _
    have HB2 : Hid (Below w.heap.size w w2) := grw HB1.out hb2
    have h4l := blk_lt H4.out
    have hkb4 : b4 ≠ kb := by have := HB1.out.size; omega
    have HS2 : Hid (∀ y, Only (fun k => k = b4) w2 y → Sts y n T q SB) := show ∀ y, _ from fun y ho => (HSea.out.sts.below HB2.out).only ho (fun i hi e => by
      obtain ⟨_, _, h1, _⟩ := HSea.out.sts.st i hi
      rw [e, H4.out] at h1
      cases h1)
    have HPT : Hid (∀ y, Only (fun k => k = b4) w2 y → Calls Try.prog 73 #[ptr (SB j)] y fun e' w' => (∃ v, e' = .returned v ∧ w'.ownsRow y.heap.size 29 4 v e.p.length (keyCells e.p)) ∧ Below y.heap.size y w') := show ∀ y, _ from fun y ho => path_any n T q SB j e.p y hj (by rw [HE.out]; exact rfl) (by have := HP.out; omega) (HS2.out y ho)
    have HKB : Hid (∀ y, Only (fun k => k = b4) w2 y → y.cell? ⟨kb, 0, none⟩ = some (.int .i64 k.k) ∧ y.cell? ⟨kb, 1, none⟩ = some (.int .i64 k.n) ∧ y.cell? ⟨kb, 2, none⟩ = some (.string k.s) ∧ y.cell? ⟨kb, 3, none⟩ = some (.int .i64 k.a)) := show ∀ y, _ from fun y ho => by
      obtain ⟨c0, c1, c2, c3, _⟩ := cells4 HK2.out
      exact ⟨ho.cell c0 (fun e => hkb4 e.symm), ho.cell c1 (fun e => hkb4 e.symm), ho.cell c2 (fun e => hkb4 e.symm), ho.cell c3 (fun e => hkb4 e.symm)⟩
    have HFin : Hid (∀ y v sb, Only (fun k => k = b4) w2 y → y.heap[b4]? = some (.cells #[r4] 45 (0, 0)) → y.ownsRow w2.heap.size 29 4 v e.p.length (keyCells e.p) → y.heap[sb]? = some (.cells #[.int .i64 k.k, .int .i64 k.n, .string k.s, .int .i64 k.a] 29 (0, 0)) →
        ∃ oa on oc z, (Builtin.append_ #[45, 45] 45 #[v, .slice (some ⟨sb, 0, none⟩) 1 1]).run Try.prog y = .ok (.slice oa on oc) z ∧ Only (fun k => k = b4) w2 z ∧ z.heap[b4]? = some (.cells #[r4] 45 (0, 0)) ∧ ∀ a, Q .ret a (z.setCell ⟨b4, 0, none⟩ (.slice oa on oc))) := show ∀ y, _ from fun y v sb ho h4 hown hsb => by
      have hx : y.ownsRow sb 29 4 (.slice (some ⟨sb, 0, none⟩) 1 1) 1 (keyCells [k]) := ⟨rfl, Or.inr ⟨sb, 1, _, rfl, Nat.le_refl _, hsb, Nat.le_refl _, by unfold maxLen; omega, rfl, rfl⟩⟩
      obtain ⟨v', z, hr, hz, hg⟩ := run_append_row 45 hown hx (by have := HP.out; omega) ho.size
      obtain ⟨oa, oc, rfl, hob⟩ := owns_form hz
      have hyz : Below w2.heap.size y z := below_grown hown hg ho.size
      have hb4 : b4 < w2.heap.size := Nat.lt_of_lt_of_le h4l HB2.out.size
      have hoz : Only (fun k => k = b4) w2 z := ho.thenBelow hyz (Nat.le_refl _)
      have hz4 := (hyz.block b4 hb4).trans h4
      refine ⟨oa, _, oc, z, hr, hoz, hz4, fun a => ?_⟩
      have hset : Only (fun k => k = b4) z (z.setCell ⟨b4, 0, none⟩ (.slice oa (e.p.length + 1) oc)) := (Only.refl (fun k => k = b4) z).set (p := ⟨b4, 0, none⟩) rfl _
      refine HK.out a _ k pre post _ hk2 hk3 hk1 ?_ (owns_mono (hset.ownsB (by rw [keyCells_snoc]; exact hz) (fun g hg' e => by have := (hob g hg').1; omega)) HB2.out.size) ((Only.below HB2.out).trans (hoz.trans hset))
      simp [World.setCell, Array.getElem?_modify, hz4]
    have HH4 : Hid (w2.heap[b4]? = some (.cells #[r4] 45 (0, 0))) := blkB H4.out HB2.out
    have HL2 : Hid (b4 < w2.heap.size ∧ kb < w2.heap.size) := ⟨Nat.lt_of_lt_of_le h4l HB2.out.size, blk_lt HK2.out⟩
    try rw [hkb] at hw2
    try rw [hkb]
    rw [← hw2]
    clear hw2 hkb hb2 hk hmin hk1 hk2 hk3 HK
    refine wpIn_region_heldR (ro := some l) (S := fun y => Only (fun k => k = b4) w2 y) (by kernel_rfl) (by kernel_rfl) (fun ⟨a, w, h⟩ => hno ⟨a, w, h⟩) (Only.below (Below.refl _ _).drew) (fun hHeld => ?_)
    generalize hwd : w2.drew = wd at hHeld ⊢
    have hd4 : wd.heap[b4]? = some (.cells #[r4] 45 (0, 0)) := by rw [← hwd]; exact HH4.out
    clear hwd
    refine wpAnyH_take (i := 0) (v := ptr (SB j)) rfl (by kernel_rfl) (by kernel_rfl) (by kernel_rfl) (fun _ _ _ h => hQp _ _ _ _ h) (Or.inl ⟨by rfl, fun w hSw => ?_⟩) hHeld ?_
    · first | rfl | go_simp
    simp only [Act.put, List.setIfInBounds_toArray, List.set_cons_zero, List.set_cons_succ, List.getElem_toArray, List.getElem_cons_zero]
    refine wpAnyH_take (i := 2) (v := .agg #[.int .i64 k.k, .int .i64 k.n, .string k.s, .int .i64 k.a]) rfl (by kernel_rfl) (by kernel_rfl) (by kernel_rfl) (fun _ _ _ h => hQp _ _ _ _ h) (Or.inl ⟨by rfl, fun w hSw => ?_⟩) hHeld ?_
    · obtain ⟨q0, q1, q2, q3⟩ := HKB.out w hSw; first | rfl | go_simp
    simp only [Act.put, List.setIfInBounds_toArray, List.set_cons_zero, List.set_cons_succ, List.getElem_toArray, List.getElem_cons_zero, List.getElem_cons_succ]
    refine wpAnyH_ready (rs := [1, 3]) (by kernel_rfl) (by simp) ?_
    refine AllReadyH.cons rfl (fun KK hK' => ?_) (AllReadyH.cons rfl (fun KK hK' => ?_) AllReadyH.nil)
    · have hcall := HPT.out _ hHeld
      go_simp
      refine hcall.mono ?_
      clear hcall
      rintro en w3 ⟨⟨v, rfl, hv⟩, hb3⟩
      have hs3 : Only (fun k => k = b4) w2 w3 := hHeld.thenBelow hb3 hHeld.size
      refine hK'.out _ _ hs3 (fun _ => ?_)
      clear hK'
      refine wpAnyH_ready (rs := [3]) (by kernel_rfl) (by simp) ?_
      refine AllReadyH.cons rfl (fun KK hK' => ?_) AllReadyH.nil
      go_simp
      obtain ⟨w4, hw4⟩ : ∃ w4, w4 = w3.alloc (.cells #[.int .i64 k.k, .int .i64 k.n, .string k.s, .int .i64 k.a] 29) := ⟨_, rfl⟩
      have hb4' : Below w3.heap.size w3 w4 := by rw [hw4]; exact (Below.refl _ _).alloc (Nat.le_refl _) _
      have hsb : w4.heap[w3.heap.size]? = some (.cells #[.int .i64 k.k, .int .i64 k.n, .string k.s, .int .i64 k.a] 29 (0, 0)) := by rw [hw4]; exact heap_alloc_new _ _
      have hs4 : Only (fun k => k = b4) w2 w4 := hs3.thenBelow hb4' hs3.size
      rw [← hw4]
      clear hw4
      refine hK'.out _ _ hs4 (fun _ => ?_)
      clear hK'
      obtain ⟨oa, on, oc, z, hr, hz1, hz2, hz3⟩ := HFin.out w4 v w3.heap.size hs4 (blkB (blkB hd4 hb3) hb4') (owns_mono ((Only.below (P := fun _ => False) hb4').ownsB hv (fun _ _ h => h)) hHeld.size) hsb
      generalize w3.heap.size = sb at hr ⊢
      obtain ⟨pv, pn, rfl, _⟩ := owns_form hv
      clear hv
      refine wpAnyH_ready (rs := [4]) (by kernel_rfl) (by simp) ?_
      refine AllReadyH.cons rfl (fun KK hK' => ?_) AllReadyH.nil
      rw [if_pos (by rfl)]
      refine Lib.wp_append_run _ (.tmp 52) (.tmp 54) 45 45 (by rfl) _ _ (by rfl) (by rfl) _ _ hr ?_
      refine hK'.out _ _ hz1 (fun _ => ?_)
      clear hK' hr
      simp only [Act.put, List.setIfInBounds_toArray, List.set_cons_zero, List.set_cons_succ, List.getElem_toArray, List.getElem_cons_zero, List.getElem_cons_succ]
      obtain ⟨z0, z1⟩ := one_at hz2
      refine wpAnyH_ready (rs := [5]) (by kernel_rfl) (by simp) ?_
      refine AllReadyH.cons rfl (fun KK hK' => ?_) AllReadyH.nil
      go_simp
      refine hK'.out _ _ (hz1.set (p := ⟨b4, 0, none⟩) rfl _) (fun _ => ?_)
      clear hK'
      refine wpAnyH_done (by kernel_rfl) ?_ _
      gi_wp2
      exact hz3 _
    · go_simp
      obtain ⟨w3, hw3⟩ : ∃ w3, w3 = wd.alloc (.cells #[.int .i64 k.k, .int .i64 k.n, .string k.s, .int .i64 k.a] 29) := ⟨_, rfl⟩
      have hb3 : Below wd.heap.size wd w3 := by rw [hw3]; exact (Below.refl _ _).alloc (Nat.le_refl _) _
      have hsb3 : w3.heap[wd.heap.size]? = some (.cells #[.int .i64 k.k, .int .i64 k.n, .string k.s, .int .i64 k.a] 29 (0, 0)) := by rw [hw3]; exact heap_alloc_new _ _
      have hs3 : Only (fun k => k = b4) w2 w3 := hHeld.thenBelow hb3 hHeld.size
      rw [← hw3]
      clear hw3
      refine hK'.out _ _ hs3 (fun _ => ?_)
      clear hK'
      refine wpAnyH_ready (rs := [1]) (by kernel_rfl) (by simp) ?_
      refine AllReadyH.cons rfl (fun KK hK' => ?_) AllReadyH.nil
      have hcall := HPT.out _ hs3
      go_simp
      refine hcall.mono ?_
      clear hcall
      rintro en w4 ⟨⟨v, rfl, hv⟩, hb4'⟩
      have hs4 : Only (fun k => k = b4) w2 w4 := hs3.thenBelow hb4' hs3.size
      refine hK'.out _ _ hs4 (fun _ => ?_)
      clear hK'
      obtain ⟨oa, on, oc, z, hr, hz1, hz2, hz3⟩ := HFin.out w4 v wd.heap.size hs4 (blkB (blkB hd4 hb3) hb4') (owns_mono hv hs3.size) (blkB hsb3 hb4')
      generalize wd.heap.size = sb at hr ⊢
      obtain ⟨pv, pn, rfl, _⟩ := owns_form hv
      clear hv
      refine wpAnyH_ready (rs := [4]) (by kernel_rfl) (by simp) ?_
      refine AllReadyH.cons rfl (fun KK hK' => ?_) AllReadyH.nil
      rw [if_pos (by rfl)]
      refine Lib.wp_append_run _ (.tmp 52) (.tmp 54) 45 45 (by rfl) _ _ (by rfl) (by rfl) _ _ hr ?_
      refine hK'.out _ _ hz1 (fun _ => ?_)
      clear hK' hr
      simp only [Act.put, List.setIfInBounds_toArray, List.set_cons_zero, List.set_cons_succ, List.getElem_toArray, List.getElem_cons_zero, List.getElem_cons_succ]
      obtain ⟨z0, z1⟩ := one_at hz2
      refine wpAnyH_ready (rs := [5]) (by kernel_rfl) (by simp) ?_
      refine AllReadyH.cons rfl (fun KK hK' => ?_) AllReadyH.nil
      go_simp
      refine hK'.out _ _ (hz1.set (p := ⟨b4, 0, none⟩) rfl _) (fun _ => ?_)
      clear hK'
      refine wpAnyH_done (by kernel_rfl) ?_ _
      gi_wp2
      exact hz3 _

end Go.Proofs.Ytgflalfiopnmnab

namespace Go.Proofs.Ytgflalfiopnmnab
open Go.RowKit Vl Aw

theorem QuL.uniq {w : World} {base : Nat} {v : Value} {l l' : List Nat} (h : QuL w base v l) (h' : QuL w base v l') : l = l' := by
  rcases h with ⟨e, rfl⟩ | ⟨g, off, cap, cur, e, _, h2, _, _, h5⟩
  · rcases h' with ⟨_, rfl⟩ | ⟨g', off', cap', cur', e', _⟩
    · rfl
    · rw [e] at e'; cases e'
  · rcases h' with ⟨e', _⟩ | ⟨g', off', cap', cur', e', _, h2', _, _, h5'⟩
    · rw [e] at e'; cases e'
    · rw [e] at e'
      injection e' with e1 e2 e3
      injection e1 with e1
      injection e1 with e4 e5
      subst e4
      subst e5
      rw [h2] at h2'
      injection h2' with h6
      injection h6 with h7
      subst h7
      refine List.ext_getElem? (fun i => ?_)
      cases hi : l[i]? with
      | none =>
        have : l.length ≤ i := List.getElem?_eq_none_iff.1 hi
        exact (List.getElem?_eq_none_iff.2 (by omega)).symm
      | some b =>
        have hl : i < l.length := (List.getElem?_eq_some_iff.1 hi).1
        have hi' : l'[i]? = some l'[i] := List.getElem?_eq_getElem (by omega)
        have h8 := h5 i b hi
        have h9 := h5' i _ hi'
        rw [h8] at h9
        rw [hi']
        simp only [Option.some.injEq, Value.pointer.injEq, Addr.mk.injEq] at h9
        rw [h9.1]

theorem wait_cons {SB : Nat → Nat} {j c : Nat} (h : j < c) : waitL SB j c = SB j :: waitL SB (j + 1) c := by
  unfold waitL
  rw [show c - j = (c - (j + 1)) + 1 by omega, List.range_succ_eq_map, List.map_cons, List.map_map]
  refine congr (congrArg _ rfl) (List.map_congr_left fun i _ => ?_)
  show SB (j + (i + 1)) = _
  rw [show j + (i + 1) = j + 1 + i by omega]
theorem wait_none {SB : Nat → Nat} {j c : Nat} (h : waitL SB j c = []) : c ≤ j := by
  have := congrArg List.length h
  simp [waitL] at this
  omega

theorem only_put (w : World) (l : Nat) (o : Obj) : Only (fun k => k = l) w (w.putObj l o) := ⟨rfl, rfl, rfl, by simp, fun _ _ hk => World.putObj_heap_other hk⟩

section
variable {W W' : World} {n m : Nat} {T M : Nat → Nat} {sB sm cb base : Nat} {rv tv : Value} {j : Nat} {q : List Aw.E} {SB : Nat → Nat}

theorem Sea.only {P : Nat → Prop} (h : Sea W n m T sB sm cb base rv tv j q SB) (ho : Only P W W') (hP : ∀ k, P k → ∃ r, W.heap[k]? = some (.loop r)) : Sea W' n m T sB sm cb base rv tv j q SB := by
  have hc : ∀ (k : Nat) (cs : Array Value) (t : TypeId) (z : Nat × Nat), W.heap[k]? = some (Obj.cells cs t z) → W'.heap[k]? = some (Obj.cells cs t z) := fun k cs t z hk => (ho.block k (blk_lt hk) (fun hp => by
    obtain ⟨r, hr⟩ := hP k hp
    rw [hk] at hr
    cases hr)).trans hk
  obtain ⟨wv, h1, h2⟩ := h.blk
  refine ⟨⟨wv, hc _ _ _ _ h1, h2.same (fun g hg => ?_)⟩, ⟨fun i hi => ?_⟩, h.seen.same (ho.block _ h.seen.lt (fun hp => ?_)), ⟨h.lo.1, h.lo.2.1, Nat.le_trans h.lo.2.2 ho.size⟩, h.le⟩
  · obtain ⟨cur, hcur⟩ := h2.own hg
    rw [hcur, hc _ _ _ _ hcur]
  · obtain ⟨k, ah, a1, a2⟩ := h.sts.st i hi
    exact ⟨k, ah, hc _ _ _ _ a1, a2⟩
  · obtain ⟨r, hr⟩ := hP _ hp
    obtain ⟨es, clk, hm, _⟩ := h.seen
    rw [hm] at hr
    cases hr

theorem Tbs.onlyL {P : Nat → Prop} {N : Nat} {at_ : Nat → Int} {L : Nat → Nat} {K X : Nat → Nat → V} (h : Tbs W N T M at_ L K X) (ho : Only P W W') (hP : ∀ k, P k → ∃ r, W.heap[k]? = some (.loop r)) : Tbs W' N T M at_ L K X := by
  have hT : ∀ j, j < N → W'.heap[T j]? = W.heap[T j]? := fun j hj => by
    obtain ⟨ord, a1, _⟩ := h.tab j hj
    refine ho.block _ (blk_lt a1) (fun hp => ?_)
    obtain ⟨r, hr⟩ := hP _ hp
    unfold TabB at a1
    rw [hr] at a1
    cases a1
  have hM : ∀ j, j < N → W'.heap[M j]? = W.heap[M j]? := fun j hj => by
    obtain ⟨l, a1, _⟩ := h.map j hj
    refine ho.block _ a1.lt (fun hp => ?_)
    obtain ⟨r, hr⟩ := hP _ hp
    obtain ⟨es, clk, hb, _⟩ := a1
    rw [hr] at hb
    cases hb
  refine ⟨fun j hj => ?_, fun j hj => ?_, h.inj, h.noneB hM⟩
  · obtain ⟨ord, a1, a2⟩ := h.tab j hj
    refine ⟨ord, (hT j hj).trans a1, Only.ownsB ho a2 (fun g hg hp => ?_)⟩
    obtain ⟨_, cur, hc⟩ := owns_type a2 hg
    obtain ⟨r, hr⟩ := hP _ hp
    rw [hr] at hc
    cases hc
  · obtain ⟨l, a1, a2⟩ := h.map j hj
    exact ⟨l, a1.same (hM j hj), a2⟩

/-- The first of those that wait is taken. -/
theorem Sea.pop (h : Sea W n m T sB sm cb base rv tv j q SB) {v v' : Value} {s : Nat} {rest : List Nat} (hb : W.heap[sB]? = some (.cells #[rv, tv, .slice (some ⟨cb, 0, none⟩) (n + m) (n + m), v, .map (some sm)] 108 (0, 0))) (hq : QuL W base v (s :: rest)) (hq' : QuL W base v' rest) :
    j < q.length ∧ s = SB j ∧ Sea (W.setCell ⟨sB, 3, none⟩ v').drew n m T sB sm cb base rv tv (j + 1) q SB ∧ Fr sB sm base W (W.setCell ⟨sB, 3, none⟩ v').drew := by
  obtain ⟨wv, h1, h2⟩ := h.blk
  have e : wv = v := by
    rw [hb] at h1
    injection h1 with h1
    injection h1 with h1
    simpa using h1.symm
  subst e
  have hu := hq.uniq h2
  have hj : j < q.length := by
    have := congrArg List.length hu
    simp [waitL] at this
    omega
  rw [wait_cons hj] at hu
  injection hu with e1 e2
  subst e1
  subst e2
  have ho : Only (fun k => k = sB) W (W.setCell ⟨sB, 3, none⟩ v').drew := ((Only.refl (fun k => k = sB) W).set (p := ⟨sB, 3, none⟩) rfl v').trans (Only.below (Below.refl _ _).drew)
  refine ⟨hj, rfl, ⟨⟨v', put5 hb v', hq'.same (fun g hg => ?_)⟩, h.sts.only ho (fun i hi e => ?_), h.seen.same (ho.block _ h.seen.lt (fun e => ?_)), ⟨h.lo.1, h.lo.2.1, Nat.le_trans h.lo.2.2 ho.size⟩, hj⟩, ho.mono (fun k _ e => Or.inl e)⟩
  · obtain ⟨cur, hc⟩ := hq'.own hg
    exact ho.block g (blk_lt hc) (fun e => by have := hq'.lo hg; have := h.lo.1; omega)
  · obtain ⟨k, ah, a1, _⟩ := h.sts.st i hi
    rw [e, hb] at a1
    cases a1
  · obtain ⟨es, clk, hm, _⟩ := h.seen
    rw [e, hb] at hm
    cases hm
end

/-- What stands between two rounds beside the search. -/
structure St (w0 W : World) (n m : Nat) (T M : Nat → Nat) (L : Nat → Nat) (K X : Nat → Nat → V) (f : Nat → Nat) (sB cb b4 b7 bx l D : Nat) (R0 : Loop) : Prop where
  tbs : Tbs W (n + m) T M (fun j => (j : Nat)) L K X
  cls : W.rowIs cb 3 (n + m) (fun i => .int .i64 (f i : Nat))
  c7 : W.heap[b7]? = some (.cells #[ptr sB] 102 (0, 0))
  c4 : W.heap[b4]? = some (.cells #[.slice none 0 0] 45 (0, 0))
  cx : W.heap[bx]? = some (.cells #[.pointer (some ⟨sB, 3, none⟩)] 161 (0, 0))
  rcd : W.heap[l]? = some (.loop R0)
  dfr : W.heap[D]? = some (.deferred (some []))
  bel : Below w0.heap.size w0 W

section
variable {w0 W W' : World} {n m : Nat} {T M : Nat → Nat} {L : Nat → Nat} {K X : Nat → Nat → V} {f : Nat → Nat} {sB sm cb base b4 b7 bx l D : Nat} {R0 : Loop} {rv tv : Value} {j : Nat} {q : List Aw.E} {SB : Nat → Nat}

theorem St.fr (h : St w0 W n m T M L K X f sB cb b4 b7 bx l D R0) (hS : Sea W n m T sB sm cb base rv tv j q SB) (hf : Fr sB sm base W W') (hM : ∀ j, j < n + m → M j ≠ sm) (hlo : w0.heap.size ≤ sB ∧ w0.heap.size ≤ sm) : St w0 W' n m T M L K X f sB cb b4 b7 bx l D R0 := by
  obtain ⟨wv, hs, _⟩ := hS.blk
  obtain ⟨es, clk, hm, _⟩ := hS.seen
  have hnc : ∀ (k : Nat) (o : Obj), W.heap[k]? = some o → (∀ cs t z, o ≠ Obj.cells cs t z) → (∀ es c, o ≠ Obj.map es c) → W'.heap[k]? = some o := fun k o hk h1 h2 => by
    rw [hf.block k (blk_lt hk) (fun hp => ?_)]
    · exact hk
    · rcases hp with e | e | ⟨_, cur, hc⟩
      · rw [e, hs] at hk; cases hk; exact h1 _ _ _ rfl
      · rw [e, hm] at hk; cases hk; exact h2 _ _ rfl
      · rw [hc] at hk; cases hk; exact h1 _ _ _ rfl
  obtain ⟨cs, k1, k2, k3⟩ := h.cls
  have hlo3 := hS.lo
  exact ⟨hS.tbs hf h.tbs hM, ⟨cs, hS.keep hf k1 (by decide) (by decide), k2, k3⟩, hS.keep hf h.c7 (by decide) (by decide), hS.keep hf h.c4 (by decide) (by decide), hS.keep hf h.cx (by decide) (by decide), hnc _ _ h.rcd (by intros; simp) (by intros; simp), hnc _ _ h.dfr (by intros; simp) (by intros; simp),
    ⟨hf.os.trans h.bel.os, hf.tape.trans h.bel.tape, hf.output.trans h.bel.output, Nat.le_trans h.bel.size hf.size, fun k hk => (hf.block k (Nat.lt_of_lt_of_le hk h.bel.size) (fun hp => by
      rcases hp with e | e | ⟨hb, _⟩ <;> omega)).trans (h.bel.block k hk)⟩⟩

theorem St.put (h : St w0 W n m T M L K X f sB cb b4 b7 bx l D R0) (hl : w0.heap.size ≤ l) (R1 : Loop) : St w0 (W.putObj l (.loop R1)) n m T M L K X f sB cb b4 b7 bx l D R1 := by
  have ho := only_put W l (.loop R1)
  have hk : ∀ (k : Nat) (o : Obj), W.heap[k]? = some o → (∀ r, o ≠ Obj.loop r) → (W.putObj l (.loop R1)).heap[k]? = some o := fun k o hk h1 => by
    rw [ho.block k (blk_lt hk) (fun e => ?_)]
    · exact hk
    · rw [e, h.rcd] at hk
      cases hk
      exact h1 _ rfl
  obtain ⟨cs, k1, k2, k3⟩ := h.cls
  exact ⟨h.tbs.onlyL ho (fun k e => ⟨R0, by rw [e]; exact h.rcd⟩), ⟨cs, hk _ _ k1 (by intros; simp), k2, k3⟩, hk _ _ h.c7 (by intros; simp), hk _ _ h.c4 (by intros; simp), hk _ _ h.cx (by intros; simp), World.putObj_heap_same (blk_lt h.rcd), hk _ _ h.dfr (by intros; simp),
    ⟨h.bel.os, h.bel.tape, h.bel.output, Nat.le_trans h.bel.size ho.size, fun k hk' => (ho.block k (Nat.lt_of_lt_of_le hk' h.bel.size) (fun e => by omega)).trans (h.bel.block k hk')⟩⟩

theorem Sea.put (hS : Sea W n m T sB sm cb base rv tv j q SB) (h : W.heap[l]? = some (.loop R0)) (R1 : Loop) : Sea (W.putObj l (.loop R1)) n m T sB sm cb base rv tv j q SB :=
  hS.only (only_put W l (.loop R1)) (fun k e => ⟨R0, by rw [e]; exact h⟩)
end

end Go.Proofs.Ytgflalfiopnmnab

namespace Go.Proofs.Ytgflalfiopnmnab
open Go.RowKit Vl Aw

/-- What is known between two rounds: jj of the steps are gone through. -/
structure Jr (w0 W : World) (n m : Nat) (T M : Nat → Nat) (L : Nat → Nat) (K X : Nat → Nat → V) (L0 : Nat → Nat) (K0 X0 : Nat → Nat → V) (L1 : Nat → Nat) (K1 X1 : Nat → Nat → V) (f : Nat → Nat) (r : Aw.E) (sB sm cb base b4 b7 bx l D : Nat) (rv tv : Value) (R0 : Loop) (jj : Nat) (q : List Aw.E) (SB : Nat → Nat) : Prop where
  rch : Aw.IReach (Aw.sysOf n L0 K0 X0 L1 K1 X1 f) r jj q
  sea : Sea W n m T sB sm cb base rv tv jj q SB
  st : St w0 W n m T M L K X f sB cb b4 b7 bx l D R0

/-- What is known when a round has left by a return. -/
structure Jd (w0 W : World) (n : Nat) (L0 : Nat → Nat) (K0 X0 : Nat → Nat → V) (L1 : Nat → Nat) (K1 X1 : Nat → Nat → V) (f : Nat → Nat) (r : Aw.E) (b4 D : Nat) (v : Value) (ans : List V) : Prop where
  done : Aw.IDone (Aw.sysOf n L0 K0 X0 L1 K1 X1 f) r ans
  c4 : W.heap[b4]? = some (.cells #[v] 45 (0, 0))
  own : W.ownsRow w0.heap.size 29 4 v ans.length (keyCells ans)
  dfr : W.heap[D]? = some (.deferred (some []))
  bel : Below w0.heap.size w0 W

theorem Jd.put {w0 W : World} {n : Nat} {L0 : Nat → Nat} {K0 X0 : Nat → Nat → V} {L1 : Nat → Nat} {K1 X1 : Nat → Nat → V} {f : Nat → Nat} {r : Aw.E} {b4 D l : Nat} {v : Value} {ans : List V} {R0 : Loop} (h : Jd w0 W n L0 K0 X0 L1 K1 X1 f r b4 D v ans) (hr : W.heap[l]? = some (.loop R0)) (hl : w0.heap.size ≤ l) (R1 : Loop) : Jd w0 (W.putObj l (.loop R1)) n L0 K0 X0 L1 K1 X1 f r b4 D v ans := by
  have ho := only_put W l (.loop R1)
  refine ⟨h.done, (ho.block b4 (blk_lt h.c4) (fun e => ?_)).trans h.c4, Only.ownsB ho h.own (fun g hg e => ?_), (ho.block D (blk_lt h.dfr) (fun e => ?_)).trans h.dfr, ⟨h.bel.os, h.bel.tape, h.bel.output, Nat.le_trans h.bel.size ho.size, fun k hk' => (ho.block k (Nat.lt_of_lt_of_le hk' h.bel.size) (fun e => by omega)).trans (h.bel.block k hk')⟩⟩
  · have := h.c4; rw [e, hr] at this; cases this
  · obtain ⟨_, cur, hc⟩ := owns_type h.own hg
    rw [e, hr] at hc; cases hc
  · have := h.dfr; rw [e, hr] at this; cases this

set_option maxHeartbeats 4000000 in
set_option maxRecDepth 100000 in
/-- The range over the queue. -/
theorem apLoop (n m : Nat) (T M : Nat → Nat) (L : Nat → Nat) (K X : Nat → Nat → V) (L0 : Nat → Nat) (K0 X0 : Nat → Nat → V) (L1 : Nat → Nat) (K1 X1 : Nat → Nat → V) (ls : Nat → List Nat) (f : Nat → Nat) (u u' : V) (sB sm cb base b4 b7 bx : Nat) (rv tv : Value) (SB0 : Nat → Nat) (w0 w : World) {g : Operand} {assign body : Code} {Q : Exit → Act → World → Prop} {a : Act}
    (hok0 : OkG n u L0 K0 X0) (hok1 : OkG m u' L1 K1 X1) (HJ : Jnd n m L K X L0 K0 X0 L1 K1 X1 ls) (HF : ∀ i, i < n + m → f i ≤ i) (HM : ∀ j, j < n + m → M j ≠ sm) (hlo : w0.heap.size ≤ sB ∧ w0.heap.size ≤ sm ∧ w0.heap.size ≤ w.heap.size) (hb4 : w0.heap.size ≤ b4)
    (h0 : ∀ R0, Jr w0 ((w.alloc (.deferred (some []))).alloc (.loop R0)) n m T M L K X L0 K0 X0 L1 K1 X1 f ⟨u, u', []⟩ sB sm cb base b4 b7 bx (w.heap.size + 1) w.heap.size rv tv R0 0 ((Aw.sysOf n L0 K0 X0 L1 K1 X1 f).iadd [] ⟨u, u', []⟩) SB0)
    (hg : a.eval g = .func (.func 94) #[] #[ptr bx])
    (hassign : ∀ (l s : Nat) (W : World) (K : Act → World → Prop), K { tmps := (a.tmps.setIfInBounds 41 (ptr s)).setIfInBounds 8 (ptr s), defers := [] } W → assign.wpIn (Fence.wide.inRound l) 1 Try.prog (Exit.then K (fun _ _ _ => False)) { tmps := (#[41].zip #[ptr s]).foldl (fun t (p, v) => t.setIfInBounds p v) a.tmps, defers := [] } W)
    (hbody : (Try.f40.body.bind rfBody) = some body)
    (htm : ∀ s, ∃ x0 x1 x2 x3 x5 x6 x9 x10 x11 x12 x13 x14 x15 x16 x17 x18 x19 x20 x21 x22 x23 x24 x25 x26 x27 x28 x29 x30 x31 x32 x33 x34 x35 x36 x37 x38 x39 x40 x41 x42 x43 x44 x45 x46 x47 x48 x49 x50 x51 x52 x53 x54 x55 x56 x57 x58 x59 x60 x61 x62 x63 x64 x65 x66 x67 x68 x69 x70 x71 x72 x73 x74 x75 x76 x77 x78 x79 x80 x81 x82 x83 x84 x85 x86 x87 x88 x89 x90 x91 x92 x93 x94, ({ tmps := (a.tmps.setIfInBounds 41 (ptr s)).setIfInBounds 8 (ptr s), defers := [] } : Act) = { tmps := #[x0, x1, x2, x3, ptr b4, x5, x6, ptr b7, ptr s, x9, x10, x11, x12, x13, x14, x15, x16, x17, x18, x19, x20, x21, x22, x23, x24, x25, x26, x27, x28, x29, x30, x31, x32, x33, x34, x35, x36, x37, x38, x39, x40, x41, x42, x43, x44, x45, x46, x47, x48, x49, x50, x51, x52, x53, x54, x55, x56, x57, x58, x59, x60, x61, x62, x63, x64, x65, x66, x67, x68, x69, x70, x71, x72, x73, x74, x75, x76, x77, x78, x79, x80, x81, x82, x83, x84, x85, x86, x87, x88, x89, x90, x91, x92, x93, x94], defers := [] })
    (hdone : ∀ W, Jd w0 W n L0 K0 X0 L1 K1 X1 f ⟨u, u', []⟩ b4 w.heap.size (.slice none 0 0) [] → Q .normal { a with defers := { target := .collected w.heap.size, args := #[] } :: a.defers } W)
    (hstop : ∀ W v ans, Jd w0 W n L0 K0 X0 L1 K1 X1 f ⟨u, u', []⟩ b4 w.heap.size v ans → Code.ret.wpIn Fence.wide 3 Try.prog Q { a with defers := { target := .collected w.heap.size, args := #[] } :: a.defers } W) :
    (Code.rangeFunc g #[41] assign body).wpIn Fence.wide 3 Try.prog Q a w := by
  refine wpIn_rangeFunc ?_
  intro fn hfn
  have hNx := Aw.sys_next (f := f) hok0 hok1
  have hIx := Aw.sys_ix n m L0 K0 X0 L1 K1 X1 f
  have hnm : n * m ≤ 200 * 200 := Nat.mul_le_mul hok0.len hok1.len
  have hgr : goodV n m u u' := ⟨hok0.root, hok1.root⟩
  have hwd : ∀ {jj q}, Aw.IReach (Aw.sysOf n L0 K0 X0 L1 K1 X1 f) ⟨u, u', []⟩ jj q → Aw.IWide (Aw.sysOf n L0 K0 X0 L1 K1 X1 f) (goodV n m) (fun x y => x.a.toNat * m + y.a.toNat) q jj := fun h => h.wide hNx hIx hgr rfl
  have hlive : ∀ {jj q}, Aw.IReach (Aw.sysOf n L0 K0 X0 L1 K1 X1 f) ⟨u, u', []⟩ jj q → ∀ x ∈ q, isV n x.a = true ∧ isV m x.b = true ∧ x.a.k = 4 ∧ x.b.k = 4 := fun h x hx => by
    have h1 := (hwd h).wide.good x hx
    have h2 := (hwd h).live x hx
    unfold Aw.Sys.live Aw.Sys.cp at h2
    have h3 : ((x.a.k == 4 && x.b.k == 4) && _) = true := h2
    simp only [Bool.and_eq_true, beq_iff_eq] at h3
    exact ⟨h1.1, h1.2, h3.1.1, h3.1.2⟩
  obtain ⟨rec, hrec⟩ : ∃ rec : LoopState → Option Code → Loop, rec = fun st pe => { state := st, pending := pe, fn, tmps := a.tmps, params := #[41], assign, body, defers := w.heap.size } := ⟨_, rfl⟩
  have h1 := h0 (rec .ready none)
  obtain ⟨W1, hW1⟩ : ∃ W1, (w.alloc (.deferred (some []))).alloc (.loop (rec .ready none)) = W1 := ⟨_, rfl⟩
  rw [hW1] at h1
  obtain ⟨l, hl⟩ : ∃ l, w.heap.size + 1 = l := ⟨_, rfl⟩
  have hl0 : w0.heap.size ≤ l := by omega
  refine ⟨w.heap.size + 1, [{ target := .collected w.heap.size, args := #[] }], W1, { target := .fn (.func 94) #[ptr bx], args := #[.func (.yield (w.heap.size + 1)) #[] #[]] }, W1, 94,
    #[.func (.yield (w.heap.size + 1)) #[] #[]] ++ #[ptr bx], W1, ?_, ?_, ?_, ?_, fun _ => by omega, ?_⟩
  · rw [← hW1, hrec]; exact run_enterLoop_outer _ _ _ _ _
  · simp only [resolve, hg]
    simp [go_sem]
  · intro f' hf'; trivial
  · simp [invoke, go_sem]
  · rw [hl] at h1 ⊢
    refine (all1_any 2 l bx sB base (n * m) rv tv (.slice (some ⟨cb, 0, none⟩) (n + m) (n + m)) (.map (some sm))
      (fun jj W => ∃ q SB, Jr w0 W n m T M L K X L0 K0 X0 L1 K1 X1 f ⟨u, u', []⟩ sB sm cb base b4 b7 bx l w.heap.size rv tv (rec .ready none) jj q SB)
      (fun W => ∃ v ans, Jd w0 W n L0 K0 X0 L1 K1 X1 f ⟨u, u', []⟩ b4 w.heap.size v ans ∧ W.heap[l]? = some (.loop (rec .done (some .ret))))
      ?_ ?_ W1 ⟨_, _, h1⟩).mono ?_
    · show ∀ _, _
      rintro jj W ⟨q, SB, h⟩
      have hq := (hwd h.rch).len hIx
      obtain ⟨wv, hb, hqu⟩ := h.sea.blk
      refine ⟨Nat.le_trans h.sea.le hq, (one_at h.st.cx).1, wv, _, hb, hqu, ?_⟩
      simp [waitL]
      omega
    · show ∀ _, _
      rintro jj W v v' s rest ⟨q, SB, h⟩ hb hq hq'
      obtain ⟨hj, rfl, hsea, hfr⟩ := h.sea.pop hb hq hq'
      have hst := h.st.fr h.sea hfr HM ⟨hlo.1, hlo.2.1⟩
      obtain ⟨W2, hW2⟩ : ∃ W2, W2 = (W.setCell ⟨sB, 3, none⟩ v').drew := ⟨_, rfl⟩
      rw [← hW2] at hsea hst ⊢
      clear hb hq hq' hfr hW2
      have hy := run_yield (P := Try.prog) (args := #[ptr (SB jj)]) hst.rcd (by rw [hrec]; simp)
      rw [hrec] at hy
      refine ⟨fn, _, assign, body, hy, roundIn_of_wpIn hfn (hassign _ (SB jj) W2 _ ⟨_, run_beginRound hst.rcd (by rw [hrec]), ?_⟩)⟩
      have hst3 := hst.put hl0 { rec .ready none with state := .busy }
      have hsea3 := hsea.put hst.rcd { rec .ready none with state := .busy }
      obtain ⟨W3, hW3⟩ : ∃ W3, W3 = W2.putObj l (.loop { rec .ready none with state := .busy }) := ⟨_, rfl⟩
      rw [← hW3] at hst3 hsea3 ⊢
      clear hW3 hst hsea hy
      obtain ⟨x0, x1, x2, x3, x5, x6, x9, x10, x11, x12, x13, x14, x15, x16, x17, x18, x19, x20, x21, x22, x23, x24, x25, x26, x27, x28, x29, x30, x31, x32, x33, x34, x35, x36, x37, x38, x39, x40, x41, x42, x43, x44, x45, x46, x47, x48, x49, x50, x51, x52, x53, x54, x55, x56, x57, x58, x59, x60, x61, x62, x63, x64, x65, x66, x67, x68, x69, x70, x71, x72, x73, x74, x75, x76, x77, x78, x79, x80, x81, x82, x83, x84, x85, x86, x87, x88, x89, x90, x91, x92, x93, x94, hx⟩ := htm (SB jj)
      rw [hx]
      have hiw := hwd h.rch
      have hej : q[jj]? = some (lsE q jj) := lsE_at hj
      have hem : lsE q jj ∈ q := List.mem_of_getElem? hej
      obtain ⟨g1, g2, g3, g4⟩ := hlive h.rch _ hem
      have hpl := hiw.wide.path _ hem
      have hql := hiw.len hIx
      refine apBody_any 1 l n m T M L K X L0 K0 X0 L1 K1 X1 ls f sB sm cb base b4 b7 rv tv (.slice none 0 0) jj q SB (lsE q jj) x0 x1 x2 x3 x5 x6 x9 x10 x11 x12 x13 x14 x15 x16 x17 x18 x19 x20 x21 x22 x23 x24 x25 x26 x27 x28 x29 x30 x31 x32 x33 x34 x35 x36 x37 x38 x39 x40 x41 x42 x43 x44 x45 x46 x47 x48 x49 x50 x51 x52 x53 x54 x55 x56 x57 x58 x59 x60 x61 x62 x63 x64 x65 x66 x67 x68 x69 x70 x71 x72 x73 x74 x75 x76 x77 x78 x79 x80 x81 x82 x83 x84 x85 x86 x87 x88 x89 x90 x91 x92 x93 x94 W3 _ hj rfl hsea3 hst3.tbs HJ hst3.cls HF (hlive h.rch) HM hst3.c7 hst3.c4 (show _ ≤ _ by omega) ?_ ?_ ?_ hNx ?_ ?_ body hbody
      · show ∀ _, _
        intro ks hks
        have h2 := Aw.IWide.fold hIx ks q ⟨hiw.wide.more, hiw.live⟩ (fun k hk => hNx _ _ ⟨g1, g2⟩ (beq_iff_eq.2 g3) (beq_iff_eq.2 g4) k (hks.subset hk)) (by omega)
        have := h2.len hIx
        omega
      · show ∀ _, _
        rintro a' W4 hall ⟨SB', hsea4⟩ hfr4
        have hst4 := hst3.fr hsea3 hfr4 HM ⟨hlo.1, hlo.2.1⟩
        have hr := run_endRound (P := Try.prog) none hst4.rcd
        refine ⟨_, _, hr, .inl ⟨rfl, _, SB', ⟨.step h.rch hej hall, ?_, ?_⟩⟩⟩
        · exact hsea4.put hst4.rcd _
        · have h5 := hst4.put hl0 (rec .ready none)
          rw [hrec] at h5 ⊢
          exact h5
      · show ∀ _, _
        rintro a' W4 k pre post v hk1 hk2 hk3 hc4 hown ho4
        have hne : ∀ {kk : Nat} {o : Obj}, W3.heap[kk]? = some o → (∀ cs t z, o ≠ Obj.cells cs t z) → W4.heap[kk]? = some o := fun {kk} {o} hk hc => by
          rw [ho4.block kk (blk_lt hk) (fun e => ?_)]
          · exact hk
          · rw [e, hst3.c4] at hk
            cases hk
            exact hc _ _ _ rfl
        have hrc := hne hst3.rcd (by intros; simp)
        have hr := run_endRound (P := Try.prog) (some .ret) hrc
        have hjd : Jd w0 W4 n L0 K0 X0 L1 K1 X1 f ⟨u, u', []⟩ b4 w.heap.size v ((lsE q jj).p ++ [k]) := by
          refine ⟨.inl ⟨jj, q, _, pre, k, post, h.rch, hej, hk1, hk2, hk3, rfl⟩, hc4, ?_, hne hst3.dfr (by intros; simp), ?_⟩
          · rw [List.length_append]
            exact owns_mono hown hst3.bel.size
          · refine ⟨ho4.os.trans hst3.bel.os, ho4.tape.trans hst3.bel.tape, ho4.output.trans hst3.bel.output, Nat.le_trans hst3.bel.size ho4.size, fun kk hk => ?_⟩
            exact (ho4.block kk (Nat.lt_of_lt_of_le hk hst3.bel.size) (fun e => by have := hb4; omega)).trans (hst3.bel.block kk hk)
        refine ⟨_, _, hr, .inr ⟨rfl, v, _, hjd.put hrc hl0 _, ?_⟩⟩
        rw [World.putObj_heap_same (blk_lt hrc), hrec]
        rfl
      · rintro ⟨_, _, h⟩
        exact h
      · intro ch a a' w h
        exact h
    · rintro e W2 ⟨⟨v, rfl⟩, (⟨jj, wv, ⟨q, SB, h⟩, hb, hqu⟩ | ⟨v, ans, h, hrc⟩)⟩
      · have hrun := run_endLoop (P := Try.prog) h.st.rcd (by rw [hrec]; simp)
        refine ⟨none, _, by rw [hrec] at hrun; exact hrun, hdone _ (Jd.put (R0 := rec .ready none) ⟨.inr ⟨jj, q, h.rch, ?_, rfl⟩, h.st.c4, World.ownsRow_nil _ _ _ _, h.st.dfr, h.st.bel⟩ h.st.rcd hl0 _)⟩
        obtain ⟨wv', hb', hqu'⟩ := h.sea.blk
        have e : wv' = wv := by
          rw [hb] at hb'
          injection hb' with hb'
          injection hb' with hb'
          simpa using hb'.symm
        subst e
        exact wait_none (hqu'.uniq hqu)
      · have hrun := run_endLoop (P := Try.prog) hrc (by rw [hrec]; simp)
        exact ⟨some .ret, _, by rw [hrec] at hrun; exact hrun, hstop _ v ans (h.put hrc hl0 _)⟩

end Go.Proofs.Ytgflalfiopnmnab

namespace Go.Proofs.Ytgflalfiopnmnab
open Go.RowKit Vl

set_option maxHeartbeats 4000000 in
set_option maxRecDepth 100000 in
/-- 'impl.Same'. -/
theorem implSame_any (u u' : V) (ta ta' : Option Addr) (n cp TB TO m cp' TB' TO' : Nat) (A A' : Nat → Option Addr) (L C RB RO L' C' RB' RO' : Nat → Nat) (K X K' X' : Nat → Nat → V) (w : World) (hn : n ≤ 1048576) (hm : m ≤ 1048576) (HS : Hid (Small 1048576 n L K X)) (HS' : Hid (Small 1048576 m L' K' X')) (HT : Hid (TabsAt w ta n TB TO A L C RB RO K X)) (HT' : Hid (TabsAt w ta' m TB' TO' A' L' C' RB' RO' K' X')) :
    Calls Try.prog 31 #[.agg #[.int .i64 u.k, .int .i64 u.n, .string u.s, .int .i64 u.a, .slice ta n cp], .agg #[.int .i64 u'.k, .int .i64 u'.n, .string u'.s, .int .i64 u'.a, .slice ta' m cp']] w fun e w' => SameRes e n m u u' L L' K X K' X' ∧ Below w.heap.size w w' := by
  have A3 := alloc3 w (.cells #[.int .i64 u.k, .int .i64 u.n, .string u.s, .int .i64 u.a, .slice ta n cp] 32) (.cells #[.int .i64 u'.k, .int .i64 u'.n, .string u'.s, .int .i64 u'.a, .slice ta' m cp'] 32) (.cells #[.int .i64 u.k, .int .i64 u.n, .string u.s, .int .i64 u.a, .slice ta n cp, .int .i64 u'.k, .int .i64 u'.n, .string u'.s, .int .i64 u'.a, .slice ta' m cp'] 32)
  obtain ⟨w0, hw0⟩ : ∃ w0, w0 = ((w.alloc (.cells #[.int .i64 u.k, .int .i64 u.n, .string u.s, .int .i64 u.a, .slice ta n cp] 32)).alloc (.cells #[.int .i64 u'.k, .int .i64 u'.n, .string u'.s, .int .i64 u'.a, .slice ta' m cp'] 32)).alloc (.cells #[.int .i64 u.k, .int .i64 u.n, .string u.s, .int .i64 u.a, .slice ta n cp, .int .i64 u'.k, .int .i64 u'.n, .string u'.s, .int .i64 u'.a, .slice ta' m cp'] 32) := ⟨_, rfl⟩
  rw [← hw0] at A3
  have HB0 : Hid (Below w.heap.size w w0) := A3.2.2.2.2
  have hblk := A3.2.2.1
  obtain ⟨G, HGd⟩ : ∃ G : GrS, Hid (G = ⟨two u u', two n m, two L L', two K K', two X X'⟩) := ⟨_, rfl⟩
  have HGs : Hid (GsAt w0 2 (w.heap.size + 2) G (two ta ta') (two cp cp') (two TB TB') (two TO TO') (two A A') (two C C') (two RB RB') (two RO RO')) := by
    rw [HGd.out]
    refine ⟨fun q hq => ?_, fun q hq => ?_, fun q hq => ?_, fun q hq => ?_, fun q hq => ?_, fun q hq => ?_, fun q hq => ?_⟩ <;> rcases (show q = 0 ∨ q = 1 by omega) with rfl | rfl
    iterate 10 (simp [two, World.cell?, hblk])
    · exact ⟨hn, HS.out⟩
    · exact ⟨hm, HS'.out⟩
    · exact HT.out.below HB0.out
    · exact HT'.out.below HB0.out
  have hcf := classify_any 2 (by omega) (by omega) (w.heap.size + 2) G _ _ _ _ _ _ _ _ w0 HGs
  have hoff : G.off 2 = n + m := by rw [HGd.out]; simp [GrS.off, two]
  clear A3 hblk
  go_enter Try.func31, Try.ntmps31
  go_wp2_with fail
  rw [← hw0]
  refine hcf.mono ?_
  clear hcf hw0
  rintro e w1 ⟨hcase, hb1⟩
  have HB1 : Hid (Below w.heap.size w w1) := grw HB0.out hb1
  rcases hcase with ⟨T, M, Lc, Kc, Xc, ls, f, rv, tv, cb, rfl, hd⟩ | ⟨⟨q, hq, hno⟩, rfl⟩
  · have hok0 : OkG n u L K X := by have := hd.cmb.ok 0 (by omega); rw [HGd.out] at this; exact this
    have hok1 : OkG m u' L' K' X' := by have := hd.cmb.ok 1 (by omega); rw [HGd.out] at this; exact this
    have e0 : sh (G.off 0) (G.U 0) = u := by rw [HGd.out]; exact sh_zero u
    have e1 : sh (G.off 1) (G.U 1) = sh n u' := by rw [HGd.out]; simp [GrS.off, two]
    obtain ⟨rb, rc, rfl, hr0⟩ := owns_cell hd.roots (k := 0) (y := ifv T (sh (G.off 0) (G.U 0))) (by simp)
    obtain ⟨rb', rc', e', hr1⟩ := owns_cell hd.roots (k := 1) (y := ifv T (sh (G.off 1) (G.U 1))) (by simp)
    cases e'
    obtain ⟨va, vc, rfl, _⟩ := owns_form hd.tabs
    rw [e0] at hr0
    rw [e1] at hr1
    have hN : G.off 2 ≤ 400 := by have := hok0.len; have := hok1.len; omega
    have hx : isV (G.off 2) u = true := by rw [hoff]; exact isV_more hok0.root
    have hy : isV (G.off 2) (sh n u') = true := by rw [hoff]; exact sh_isV hok1.root
    have HR : Hid (∀ b, b = alike T (fstV f u) (fstV f (sh n u')) → SameRes (.returned (.bool b)) n m u u' L L' K X K' X') := show ∀ b, _ from fun b hb => by
      subst hb
      refine Or.inl ⟨⟨hok0, hok1⟩, f, ?_, by rw [alike_fst hd.tbs.inj hd.is.low hx hy]⟩
      have h2 := hd.srt
      have h3 := hd.is
      have t0 := hd.cmb.tab 0 (by omega)
      have t1 := hd.cmb.tab 1 (by omega)
      rw [HGd.out] at t0 t1
      rw [hoff] at h2 h3
      simp only [GrS.off, two, Nat.zero_add, sh_zero, if_true, Nat.one_ne_zero, if_false] at t0 t1
      have hL : ∀ j, j < n + m → Lc j = jn n L L' j := fun j hj => by
        by_cases e : j < n
        · rw [jn_lt e]; exact (t0 j e).1
        · rw [jn_ge e]; have := (t1 (j - n) (by omega)).1; rw [show n + (j - n) = j by omega] at this; exact this
      have hK : ∀ j, j < n + m → Kc j = jn n K K' j := fun j hj => by
        by_cases e : j < n
        · rw [jn_lt e]; exact (t0 j e).2.1
        · rw [jn_ge e]; have := (t1 (j - n) (by omega)).2.1; rw [show n + (j - n) = j by omega] at this; exact this
      have hX : ∀ j, j < n + m → Xc j = jn n X (fun j c => sh n (X' j c)) j := fun j hj => by
        by_cases e : j < n
        · rw [jn_lt e]; exact funext (t0 j e).2.2
        · rw [jn_ge e]; have := funext (t1 (j - n) (by omega)).2.2; rw [show n + (j - n) = j by omega] at this; exact this
      exact ⟨ls, fun r hr => by rw [← hK r hr, ← hL r hr]; exact h2 r hr, h3.agree hL (fun j hj => by unfold sK; rw [hK j hj]) (fun j hj => by unfold sK; rw [hX j hj])⟩
    obtain ⟨w2, hw2⟩ : ∃ w2, w2 = w1.alloc (.cells #[.slice (some ⟨rb, 0, none⟩) 2 rc, .slice va (G.off 2) vc, .slice (some ⟨cb, 0, none⟩) (G.off 2) (G.off 2)] 87) := ⟨_, rfl⟩
    have hb2 : Below w1.heap.size w1 w2 := by rw [hw2]; exact (Below.refl _ _).alloc (Nat.le_refl _) _
    have HB2 : Hid (Below w.heap.size w w2) := grw HB1.out hb2
    have H2 : w2.heap[w1.heap.size]? = some (.cells #[.slice (some ⟨rb, 0, none⟩) 2 rc, .slice va (G.off 2) vc, .slice (some ⟨cb, 0, none⟩) (G.off 2) (G.off 2)] 87 (0, 0)) := by rw [hw2]; exact heap_alloc_new _ _
    obtain ⟨cc, hcc⟩ : ∃ cc, w1.heap.size = cc := ⟨_, rfl⟩
    rw [hcc] at H2
    obtain ⟨c0, c1, c2, _⟩ := three_at H2
    have HF1 : Hid (∀ w', Below w2.heap.size w2 w' → Calls Try.prog 65 #[.agg #[.slice (some ⟨rb, 0, none⟩) 2 rc, .slice va (G.off 2) vc, .slice (some ⟨cb, 0, none⟩) (G.off 2) (G.off 2)], ifv T u] w' fun e w'' => e = .returned (ifv T (fstV f u)) ∧ Below w'.heap.size w' w'') := show ∀ _, _ from fun w' hb => hd.first hN u w' hx (grw hb2 hb)
    have HF2 : Hid (∀ w', Below w2.heap.size w2 w' → Calls Try.prog 65 #[.agg #[.slice (some ⟨rb, 0, none⟩) 2 rc, .slice va (G.off 2) vc, .slice (some ⟨cb, 0, none⟩) (G.off 2) (G.off 2)], ifv T (sh n u')] w' fun e w'' => e = .returned (ifv T (fstV f (sh n u'))) ∧ Below w'.heap.size w' w'') := show ∀ _, _ from fun w' hb => hd.first hN (sh n u') w' hy (grw hb2 hb)
    have HEQ : Hid (∀ w', Below w2.heap.size w2 w' → (binOp .eql 67 (ifv T (fstV f u)) (ifv T (fstV f (sh n u')))).run Try.prog w' = .ok (.bool (alike T (fstV f u) (fstV f (sh n u')))) w') := show ∀ _, _ from fun w' hb => eql_ifv T (fstV_isV hd.is.low hx) (fstV_isV hd.is.low hy) w' (fun j hj => by
      obtain ⟨ord, a1, _⟩ := hd.tbs.tab j hj
      unfold TabB at a1
      exact ⟨_, _, ((grw hb2 hb).block _ (blk_lt a1)).trans a1⟩)
    have r0 : w2.cell? ⟨rb, 0, none⟩ = some (ifv T u) := (hb2.cell (World.block_lt_of_cell? _ _ hr0)).trans hr0
    have r1 : w2.cell? ⟨rb, 1, none⟩ = some (ifv T (sh n u')) := (hb2.cell (World.block_lt_of_cell? _ _ hr1)).trans hr1
    obtain ⟨bq, hbq⟩ : ∃ bq, alike T (fstV f u) (fstV f (sh n u')) = bq := ⟨_, rfl⟩
    rw [hbq] at HEQ HR
    obtain ⟨ut, uy, hxv⟩ := ifv_form T u
    obtain ⟨vt, vy, hyv⟩ := ifv_form T (sh n u')
    obtain ⟨pt, py, hpv⟩ := ifv_form T (fstV f u)
    obtain ⟨st, sy, hsv⟩ := ifv_form T (fstV f (sh n u'))
    rw [hxv] at r0 HF1
    rw [hyv] at r1 HF2
    rw [hpv] at HF1 HEQ
    rw [hsv] at HF2 HEQ
    replace c0 := cellB c0
    replace c1 := cellB c1
    replace c2 := cellB c2
    replace r0 := cellB r0
    replace r1 := cellB r1
    obtain ⟨NN, hNN⟩ : ∃ NN, G.off 2 = NN := ⟨_, rfl⟩
    rw [hNN] at c1 c2 HF1 HF2 hw2 ⊢
    clear hd hr0 hr1 e0 e1 hN hx hy hb2 hxv hyv hpv hsv hbq H2 hok0 hok1 hoff hNN HGs HGd hb1
    go_wp2
    try rw [hcc] at hw2
    try rw [hcc]
    rw [← hw2]
    clear hw2 hcc
    refine wp_region_held_drew (S := fun x => Below w2.heap.size w2 x) (by kernel_rfl) (Below.refl _ _).drew (fun hHeld => ?_)
    refine wpAnyH_take (i := 0) (v := .bool true) rfl (by kernel_rfl) (by kernel_rfl) (by kernel_rfl) (fun _ _ _ h => h) (Or.inl ⟨by rfl, fun w hSw => ?_⟩) hHeld ?_
    · first | rfl | go_simp
    simp only [Act.put, List.setIfInBounds_toArray, List.set_cons_zero, List.set_cons_succ, List.getElem_toArray, List.getElem_cons_zero]
    refine wpAnyH_take (i := 1) (v := .bool true) rfl (by kernel_rfl) (by kernel_rfl) (by kernel_rfl) (fun _ _ _ h => h) (Or.inl ⟨by rfl, fun w hSw => ?_⟩) hHeld ?_
    · first | rfl | go_simp
    simp only [Act.put, List.setIfInBounds_toArray, List.set_cons_zero, List.set_cons_succ, List.getElem_toArray, List.getElem_cons_zero, List.getElem_cons_succ]
    refine wpAnyH_take (i := 2) (v := .agg #[.slice (some ⟨rb, 0, none⟩) 2 rc, .slice va NN vc, .slice (some ⟨cb, 0, none⟩) NN NN]) rfl (by kernel_rfl) (by kernel_rfl) (by kernel_rfl) (fun _ _ _ h => h) (Or.inl ⟨by rfl, fun w hSw => ?_⟩) hHeld ?_
    · have q0 := c0 w hSw; have q1 := c1 w hSw; have q2 := c2 w hSw; first | rfl | go_simp
    simp only [Act.put, List.setIfInBounds_toArray, List.set_cons_zero, List.set_cons_succ, List.getElem_toArray, List.getElem_cons_zero, List.getElem_cons_succ]
    refine wpAnyH_take (i := 3) (v := .pointer (some ⟨cc, 0, none⟩)) rfl (by kernel_rfl) (by kernel_rfl) (by kernel_rfl) (fun _ _ _ h => h) (Or.inl ⟨by rfl, fun w hSw => ?_⟩) hHeld ?_
    · first | rfl | go_simp
    simp only [Act.put, List.setIfInBounds_toArray, List.set_cons_zero, List.set_cons_succ, List.getElem_toArray, List.getElem_cons_zero, List.getElem_cons_succ]
    refine wpAnyH_take (i := 4) (v := .slice (some ⟨rb, 0, none⟩) 2 rc) rfl (by kernel_rfl) (by kernel_rfl) (by kernel_rfl) (fun _ _ _ h => h) (Or.inl ⟨by rfl, fun w hSw => ?_⟩) hHeld ?_
    · have q0 := c0 w hSw; first | rfl | go_simp
    simp only [Act.put, List.setIfInBounds_toArray, List.set_cons_zero, List.set_cons_succ, List.getElem_toArray, List.getElem_cons_zero, List.getElem_cons_succ]
    refine wpAnyH_take (i := 5) (v := .pointer (some ⟨rb, 0, none⟩)) rfl (by kernel_rfl) (by kernel_rfl) (by kernel_rfl) (fun _ _ _ h => h) (Or.inl ⟨by rfl, fun w hSw => ?_⟩) hHeld ?_
    · first | rfl | go_simp
    simp only [Act.put, List.setIfInBounds_toArray, List.set_cons_zero, List.set_cons_succ, List.getElem_toArray, List.getElem_cons_zero, List.getElem_cons_succ]
    refine wpAnyH_take (i := 6) (v := .iface ut uy) rfl (by kernel_rfl) (by kernel_rfl) (by kernel_rfl) (fun _ _ _ h => h) (Or.inl ⟨by rfl, fun w hSw => ?_⟩) hHeld ?_
    · have q0 := r0 w hSw; first | rfl | go_simp
    simp only [Act.put, List.setIfInBounds_toArray, List.set_cons_zero, List.set_cons_succ, List.getElem_toArray, List.getElem_cons_zero, List.getElem_cons_succ]
    refine wpAnyH_take (i := 8) (v := .agg #[.slice (some ⟨rb, 0, none⟩) 2 rc, .slice va NN vc, .slice (some ⟨cb, 0, none⟩) NN NN]) rfl (by kernel_rfl) (by kernel_rfl) (by kernel_rfl) (fun _ _ _ h => h) (Or.inl ⟨by rfl, fun w hSw => ?_⟩) hHeld ?_
    · have q0 := c0 w hSw; have q1 := c1 w hSw; have q2 := c2 w hSw; first | rfl | go_simp
    simp only [Act.put, List.setIfInBounds_toArray, List.set_cons_zero, List.set_cons_succ, List.getElem_toArray, List.getElem_cons_zero, List.getElem_cons_succ]
    refine wpAnyH_take (i := 9) (v := .pointer (some ⟨cc, 0, none⟩)) rfl (by kernel_rfl) (by kernel_rfl) (by kernel_rfl) (fun _ _ _ h => h) (Or.inl ⟨by rfl, fun w hSw => ?_⟩) hHeld ?_
    · first | rfl | go_simp
    simp only [Act.put, List.setIfInBounds_toArray, List.set_cons_zero, List.set_cons_succ, List.getElem_toArray, List.getElem_cons_zero, List.getElem_cons_succ]
    refine wpAnyH_take (i := 10) (v := .slice (some ⟨rb, 0, none⟩) 2 rc) rfl (by kernel_rfl) (by kernel_rfl) (by kernel_rfl) (fun _ _ _ h => h) (Or.inl ⟨by rfl, fun w hSw => ?_⟩) hHeld ?_
    · have q0 := c0 w hSw; first | rfl | go_simp
    simp only [Act.put, List.setIfInBounds_toArray, List.set_cons_zero, List.set_cons_succ, List.getElem_toArray, List.getElem_cons_zero, List.getElem_cons_succ]
    refine wpAnyH_take (i := 11) (v := .pointer (some ⟨rb, 1, none⟩)) rfl (by kernel_rfl) (by kernel_rfl) (by kernel_rfl) (fun _ _ _ h => h) (Or.inl ⟨by rfl, fun w hSw => ?_⟩) hHeld ?_
    · first | rfl | go_simp
    simp only [Act.put, List.setIfInBounds_toArray, List.set_cons_zero, List.set_cons_succ, List.getElem_toArray, List.getElem_cons_zero, List.getElem_cons_succ]
    refine wpAnyH_take (i := 12) (v := .iface vt vy) rfl (by kernel_rfl) (by kernel_rfl) (by kernel_rfl) (fun _ _ _ h => h) (Or.inl ⟨by rfl, fun w hSw => ?_⟩) hHeld ?_
    · have q0 := r1 w hSw; first | rfl | go_simp
    simp only [Act.put, List.setIfInBounds_toArray, List.set_cons_zero, List.set_cons_succ, List.getElem_toArray, List.getElem_cons_zero, List.getElem_cons_succ]
    refine wpAnyH_ready (rs := [7]) (by kernel_rfl) (by simp) ?_
    refine AllReadyH.cons rfl (fun K' hK' => ?_) AllReadyH.nil
    have hcall := HF1.out _ hHeld
    go_simp
    refine hcall.mono ?_
    clear hcall
    rintro e w3 ⟨rfl, hb3⟩
    have hs3 : Below w2.heap.size w2 w3 := grw hHeld hb3
    refine hK'.out _ _ hs3 (fun hHeld => ?_)
    clear hK' hb3
    refine wpAnyH_ready (rs := [13]) (by kernel_rfl) (by simp) ?_
    refine AllReadyH.cons rfl (fun K' hK' => ?_) AllReadyH.nil
    have hcall := HF2.out _ hHeld
    go_simp
    refine hcall.mono ?_
    clear hcall
    rintro e w4 ⟨rfl, hb4⟩
    have hs4 : Below w2.heap.size w2 w4 := grw hHeld hb4
    refine hK'.out _ _ hs4 (fun hHeld => ?_)
    clear hK' hb4
    refine wpAnyH_take (i := 14) (v := .bool bq) rfl (by kernel_rfl) (by kernel_rfl) (by kernel_rfl) (fun _ _ _ h => h) (Or.inl ⟨by rfl, fun w hSw => ?_⟩) hHeld ?_
    · have q0 := HEQ.out w hSw; first | rfl | go_simp
    simp only [Act.put, List.setIfInBounds_toArray, List.set_cons_zero, List.set_cons_succ, List.getElem_toArray, List.getElem_cons_zero, List.getElem_cons_succ]
    refine wpAnyH_take (i := 15) (v := .bool bq) rfl (by kernel_rfl) (by kernel_rfl) (by kernel_rfl) (fun _ _ _ h => h) (Or.inl ⟨by rfl, fun w hSw => ?_⟩) hHeld ?_
    · first | rfl | go_simp
    simp only [Act.put, List.setIfInBounds_toArray, List.set_cons_zero, List.set_cons_succ, List.getElem_toArray, List.getElem_cons_zero, List.getElem_cons_succ]
    refine wpAnyH_take (i := 16) (v := .bool bq) rfl (by kernel_rfl) (by kernel_rfl) (by kernel_rfl) (fun _ _ _ h => h) (Or.inl ⟨by rfl, fun w hSw => ?_⟩) hHeld ?_
    · first | rfl | go_simp
    simp only [Act.put, List.setIfInBounds_toArray, List.set_cons_zero, List.set_cons_succ, List.getElem_toArray, List.getElem_cons_zero, List.getElem_cons_succ]
    refine wpAnyH_done (by kernel_rfl) ?_ _
    go_wp2
    go_ret
    exact ⟨HR.out _ rfl, grw HB2.out hs4⟩
  · have HN : Hid (¬ (OkG n u L K X ∧ OkG m u' L' K' X')) := by
      rw [HGd.out] at hno
      rcases (show q = 0 ∨ q = 1 by omega) with rfl | rfl
      · exact (show ¬ (OkG n u L K X ∧ OkG m u' L' K' X') from fun h => hno h.1)
      · exact (show ¬ (OkG n u L K X ∧ OkG m u' L' K' X') from fun h => hno h.2)
    obtain ⟨w2, hw2⟩ : ∃ w2, w2 = w1.alloc (.cells #[.slice none 0 0, .slice none 0 0, .slice none 0 0] 87) := ⟨_, rfl⟩
    have hb2 : Below w1.heap.size w1 w2 := by rw [hw2]; exact (Below.refl _ _).alloc (Nat.le_refl _) _
    have HB2 : Hid (Below w.heap.size w w2) := grw HB1.out hb2
    go_wp2
    rw [← hw2]
    go_quiet (fail)
    go_wp2
    go_ret
    exact ⟨Or.inr ⟨HN.out, rfl⟩, below_drewN HB2.out _⟩

end Go.Proofs.Ytgflalfiopnmnab

namespace Go.Proofs.Ytgflalfiopnmnab
open Go.RowKit Vl Aw
attribute [local go_sem] Oper.semAt_some

/-- What 'impl.Apart' answers. -/
def ApI (w w' : World) (e : Ending) (n m : Nat) (u u' : V) (L L' : Nat → Nat) (K X K' X' : Nat → Nat → V) : Prop :=
  ((OkG n u L K X ∧ OkG m u' L' K' X') ∧ ∃ f v ans, ClsAre (n + m) (jn n L L') (jn n K K') (jn n X (fun j c => sh n (X' j c))) f ∧ (∀ i, n + m ≤ i → f i = 0) ∧ e = .returned v ∧ Aw.IDone (Aw.sysOf n L K X L' K' X' f) ⟨u, u', []⟩ ans ∧ w'.ownsRow w.heap.size 29 4 v ans.length (keyCells ans)) ∨ (¬ (OkG n u L K X ∧ OkG m u' L' K' X') ∧ e = .returned (.slice none 0 0))

theorem res_apart (tmps : Array Value) (b4 on oc : Nat) (oa : Option Addr) (w : World) (h : tmps.getD 4 undef = ptr b4) (hc : w.cell? ⟨b4, 0, none⟩ = some (.slice oa on oc)) : (results Try.f40 tmps).run Try.prog w = .ok (.slice oa on oc) w := by
  have h' : tmps[4]?.getD undef = ptr b4 := by rw [← Array.getD_eq_getD_getElem?]; exact h
  simp [results, Try.results40, h', hc, go_sem]

set_option maxHeartbeats 8000000 in
set_option maxRecDepth 100000 in
/-- 'impl.Apart'. -/
theorem implApart_any (u u' : V) (ta ta' : Option Addr) (n cp TB TO m cp' TB' TO' : Nat) (A A' : Nat → Option Addr) (L C RB RO L' C' RB' RO' : Nat → Nat) (K X K' X' : Nat → Nat → V) (w : World) (hn : n ≤ 1048576) (hm : m ≤ 1048576) (HS : Hid (Small 1048576 n L K X)) (HS' : Hid (Small 1048576 m L' K' X')) (HT : Hid (TabsAt w ta n TB TO A L C RB RO K X)) (HT' : Hid (TabsAt w ta' m TB' TO' A' L' C' RB' RO' K' X')) :
    Calls Try.prog 40 #[.agg #[.int .i64 u.k, .int .i64 u.n, .string u.s, .int .i64 u.a, .slice ta n cp], .agg #[.int .i64 u'.k, .int .i64 u'.n, .string u'.s, .int .i64 u'.a, .slice ta' m cp']] w fun e w' => ApI w w' e n m u u' L L' K X K' X' ∧ Below w.heap.size w w' := by
  have A3 := alloc3 w (.cells #[.int .i64 u.k, .int .i64 u.n, .string u.s, .int .i64 u.a, .slice ta n cp] 32) (.cells #[.int .i64 u'.k, .int .i64 u'.n, .string u'.s, .int .i64 u'.a, .slice ta' m cp'] 32) (.cells #[.slice none 0 0] 45)
  obtain ⟨wA, hwA⟩ : ∃ wA, wA = ((w.alloc (.cells #[.int .i64 u.k, .int .i64 u.n, .string u.s, .int .i64 u.a, .slice ta n cp] 32)).alloc (.cells #[.int .i64 u'.k, .int .i64 u'.n, .string u'.s, .int .i64 u'.a, .slice ta' m cp'] 32)).alloc (.cells #[.slice none 0 0] 45) := ⟨_, rfl⟩
  rw [← hwA] at A3
  obtain ⟨w0, hw0⟩ : ∃ w0, w0 = wA.alloc (.cells #[.int .i64 u.k, .int .i64 u.n, .string u.s, .int .i64 u.a, .slice ta n cp, .int .i64 u'.k, .int .i64 u'.n, .string u'.s, .int .i64 u'.a, .slice ta' m cp'] 32) := ⟨_, rfl⟩
  have hb0 : Below wA.heap.size wA w0 := by rw [hw0]; exact (Below.refl _ _).alloc (Nat.le_refl _) _
  have hsA : wA.heap.size = w.heap.size + 3 := A3.2.2.2.1
  have HB0 : Hid (Below w.heap.size w w0) := grw A3.2.2.2.2 hb0
  have hblk : w0.heap[w.heap.size + 3]? = some (.cells #[.int .i64 u.k, .int .i64 u.n, .string u.s, .int .i64 u.a, .slice ta n cp, .int .i64 u'.k, .int .i64 u'.n, .string u'.s, .int .i64 u'.a, .slice ta' m cp'] 32 (0, 0)) := by rw [hw0, ← hsA]; exact heap_alloc_new _ _
  have HC0 : Hid (w0.heap[w.heap.size + 2]? = some (.cells #[.slice none 0 0] 45 (0, 0))) := blkB A3.2.2.1 hb0
  have HS0 : Hid (w0.heap.size = w.heap.size + 4) := by show _ = _; rw [hw0, World.size_alloc, hsA]
  obtain ⟨G, HGd⟩ : ∃ G : GrS, Hid (G = ⟨two u u', two n m, two L L', two K K', two X X'⟩) := ⟨_, rfl⟩
  have HGs : Hid (GsAt w0 2 (w.heap.size + 3) G (two ta ta') (two cp cp') (two TB TB') (two TO TO') (two A A') (two C C') (two RB RB') (two RO RO')) := by
    rw [HGd.out]
    refine ⟨fun q hq => ?_, fun q hq => ?_, fun q hq => ?_, fun q hq => ?_, fun q hq => ?_, fun q hq => ?_, fun q hq => ?_⟩ <;> rcases (show q = 0 ∨ q = 1 by omega) with rfl | rfl
    iterate 10 (simp [two, World.cell?, hblk])
    · exact ⟨hn, HS.out⟩
    · exact ⟨hm, HS'.out⟩
    · exact HT.out.below HB0.out
    · exact HT'.out.below HB0.out
  have hcf := classify_any 2 (by omega) (by omega) (w.heap.size + 3) G _ _ _ _ _ _ _ _ w0 HGs
  have hoff : G.off 2 = n + m := by rw [HGd.out]; simp [GrS.off, two]
  clear A3 hblk hb0 hsA
  rw [hwA] at hw0
  refine (callsIn_wide (n := 3)).1 ?_
  refine callsIn_of_wp_marks Try.func40 rfl trivial ?_ rfl
  simp only [Try.ntmps40, List.size_toArray, List.length_cons, List.length_nil, Nat.reduceAdd, Nat.reduceSub, Array.replicate_succ, Array.replicate_zero, List.push_toArray, List.append_toArray, List.nil_append, List.cons_append]
  gi_wp2_with fail
  rw [← hw0]
  refine ⟨trivial, (callsIn_wideR (ro := none) hcf).mono ?_⟩
  clear hcf hw0 hwA
  rintro e w1 ⟨hcase, hb1⟩
  have HB1 : Hid (Below w.heap.size w w1) := grw HB0.out hb1
  have HC1 : Hid (w1.heap[w.heap.size + 2]? = some (.cells #[.slice none 0 0] 45 (0, 0))) := blkB HC0.out hb1
  have HS1 : Hid (w.heap.size + 4 ≤ w1.heap.size) := by have := hb1.size; rw [HS0.out] at this; exact this
  obtain ⟨b4, hb4⟩ : ∃ b4, w.heap.size + 2 = b4 := ⟨_, rfl⟩
  rcases hcase with ⟨T, M, Lc, Kc, Xc, ls, f₀, rv, tv, cb, rfl, hd⟩ | ⟨⟨q, hq, hno⟩, rfl⟩
  · have hok0 : OkG n u L K X := by have := hd.cmb.ok 0 (by omega); rw [HGd.out] at this; exact this
    have hok1 : OkG m u' L' K' X' := by have := hd.cmb.ok 1 (by omega); rw [HGd.out] at this; exact this
    have e0 : sh (G.off 0) (G.U 0) = u := by rw [HGd.out]; exact sh_zero u
    have e1 : sh (G.off 1) (G.U 1) = sh n u' := by rw [HGd.out]; simp [GrS.off, two]
    obtain ⟨rb, rc, rfl, hr0⟩ := owns_cell hd.roots (k := 0) (y := ifv T (sh (G.off 0) (G.U 0))) (by simp)
    obtain ⟨rb', rc', e', hr1⟩ := owns_cell hd.roots (k := 1) (y := ifv T (sh (G.off 1) (G.U 1))) (by simp)
    cases e'
    obtain ⟨va, vc, rfl, _⟩ := owns_form hd.tabs
    rw [e0] at hr0
    rw [e1] at hr1
    have hmm := @run_makeMap Try.prog
    obtain ⟨f, hf⟩ : ∃ f : Nat → Nat, f = fun i => if i < n + m then f₀ i else 0 := ⟨_, rfl⟩
    have hff : ∀ i, i < n + m → f₀ i = f i := fun i hi => by rw [hf]; exact (if_pos hi).symm
    have HFz : Hid (∀ i, n + m ≤ i → f i = 0) := show ∀ i, _ from fun i hi => by rw [hf]; exact if_neg (by omega)
    have hIs : IsCls (n + m) Lc (sK Kc ls) (sK Xc ls) f := by
      have h3 := hd.is
      have h2 := hd.srt
      have h4 := hd.cmb.good
      rw [hoff] at h2 h3 h4
      exact h3.congr (fun r hr c hc => h4 r hr _ ((h2 r hr).lt hc)) hff
    clear hf
    have HCls : Hid (ClsAre (n + m) (jn n L L') (jn n K K') (jn n X (fun j c => sh n (X' j c))) f) := by
      have h2 := hd.srt
      have h3 := hIs
      have t0 := hd.cmb.tab 0 (by omega)
      have t1 := hd.cmb.tab 1 (by omega)
      rw [HGd.out] at t0 t1
      rw [hoff] at h2
      simp only [GrS.off, two, Nat.zero_add, sh_zero, if_true, Nat.one_ne_zero, if_false] at t0 t1
      have hL : ∀ j, j < n + m → Lc j = jn n L L' j := fun j hj => by
        by_cases e : j < n
        · rw [jn_lt e]; exact (t0 j e).1
        · rw [jn_ge e]; have := (t1 (j - n) (by omega)).1; rw [show n + (j - n) = j by omega] at this; exact this
      have hK : ∀ j, j < n + m → Kc j = jn n K K' j := fun j hj => by
        by_cases e : j < n
        · rw [jn_lt e]; exact (t0 j e).2.1
        · rw [jn_ge e]; have := (t1 (j - n) (by omega)).2.1; rw [show n + (j - n) = j by omega] at this; exact this
      have hX : ∀ j, j < n + m → Xc j = jn n X (fun j c => sh n (X' j c)) j := fun j hj => by
        by_cases e : j < n
        · rw [jn_lt e]; exact funext (t0 j e).2.2
        · rw [jn_ge e]; have := funext (t1 (j - n) (by omega)).2.2; rw [show n + (j - n) = j by omega] at this; exact this
      exact ⟨ls, fun r hr => by rw [← hK r hr, ← hL r hr]; exact h2 r hr, h3.agree hL (fun j hj => by unfold sK; rw [hK j hj]) (fun j hj => by unfold sK; rw [hX j hj])⟩
    have HJn : Hid (Jnd n m Lc (sK Kc ls) (sK Xc ls) L K X L' K' X' ls) := by
      have h2 := hd.srt
      have t0 := hd.cmb.tab 0 (by omega)
      have t1 := hd.cmb.tab 1 (by omega)
      rw [HGd.out] at t0 t1
      rw [hoff] at h2
      simp only [GrS.off, two, Nat.zero_add, sh_zero, if_true, Nat.one_ne_zero, if_false] at t0 t1
      refine ⟨fun i hi => ?_, fun i hi => ?_, hok0.all, hok1.all⟩
      · obtain ⟨g1, g2, g3⟩ := t0 i hi
        have h3 := h2 i (by omega)
        rw [g1, g2] at h3
        refine ⟨g1, h3, by unfold sK; rw [g2], ?_⟩
        unfold sK
        rw [show Xc i = X i from funext g3]
      · obtain ⟨g1, g2, g3⟩ := t1 i hi
        have h3 := h2 (n + i) (by omega)
        rw [g1, g2] at h3
        refine ⟨g1, h3, by unfold sK; rw [g2], ?_⟩
        unfold sK
        rw [show Xc (n + i) = fun c => sh n (X' i c) from funext g3]
    have HLow : Hid (∀ i, i < n + m → f i ≤ i) := hIs.low
    have HTb1 : Hid (Tbs w1 (n + m) T M (fun j => (j : Nat)) Lc (sK Kc ls) (sK Xc ls)) := by rw [← hoff]; exact hd.tbs
    have HCl1 : Hid (w1.rowIs cb 3 (n + m) (fun i => .int .i64 (f i : Nat))) := by
      have h := hd.cls
      rw [hoff] at h
      exact h.congr (fun i hi => by rw [hff i hi])
    have HOK : Hid (OkG n u L K X ∧ OkG m u' L' K' X') := ⟨hok0, hok1⟩
    obtain ⟨ut, uy, hxv⟩ := ifv_form T u
    obtain ⟨vt, vy, hyv⟩ := ifv_form T (sh n u')
    rw [hxv] at hr0
    rw [hyv] at hr1
    have HXV : Hid (ifv T u = .iface ut uy ∧ ifv T (sh n u') = .iface vt vy) := ⟨hxv, hyv⟩
    have HRO : Hid (∃ cs, w1.heap[rb]? = some (.cells cs 67 (0, 0))) := by
      obtain ⟨_, cur, hc⟩ := owns_type hd.roots (g := rb) rfl
      exact ⟨cur, hc⟩
    have HR01 : Hid (w1.cell? ⟨rb, 0, none⟩ = some (.iface ut uy) ∧ w1.cell? ⟨rb, 1, none⟩ = some (.iface vt vy)) := ⟨hr0, hr1⟩
    clear hIs hff
    clear hd hr0 hr1 e0 e1 hxv hyv HGs HGd hb1 hok0 hok1
    gi_wp2
    obtain ⟨cc, hcc⟩ : ∃ cc, w1.heap.size = cc := ⟨_, rfl⟩
    obtain ⟨sm, hsm⟩ : ∃ sm, cc + 1 = sm := ⟨_, rfl⟩
    obtain ⟨sB, hsB⟩ : ∃ sB, sm + 1 = sB := ⟨_, rfl⟩
    obtain ⟨b7, hb7⟩ : ∃ b7, sB + 1 = b7 := ⟨_, rfl⟩
    rw [hcc, hsm, hsB, hb7]
    obtain ⟨w5, hw5⟩ : ∃ w5, w5 = (((w1.alloc (.cells #[.slice (some ⟨rb, 0, none⟩) 2 rc, .slice va (n + m) vc, .slice (some ⟨cb, 0, none⟩) (n + m) (n + m)] 87)).alloc (.map #[] 0)).alloc (.cells #[.slice (some ⟨rb, 0, none⟩) 2 rc, .slice va (n + m) vc, .slice (some ⟨cb, 0, none⟩) (n + m) (n + m), .slice none 0 0, .map (some sm)] 108)).alloc (.cells #[.pointer (some ⟨sB, 0, none⟩)] 102) := ⟨_, rfl⟩
    rw [← hw5]
    have F5 : Hid (w5.heap[cc]? = some (.cells #[.slice (some ⟨rb, 0, none⟩) 2 rc, .slice va (n + m) vc, .slice (some ⟨cb, 0, none⟩) (n + m) (n + m)] 87 (0, 0)) ∧ w5.heap[sm]? = some (.map #[] 0) ∧ w5.heap[sB]? = some (.cells #[.slice (some ⟨rb, 0, none⟩) 2 rc, .slice va (n + m) vc, .slice (some ⟨cb, 0, none⟩) (n + m) (n + m), .slice none 0 0, .map (some sm)] 108 (0, 0)) ∧ w5.heap[b7]? = some (.cells #[.pointer (some ⟨sB, 0, none⟩)] 102 (0, 0)) ∧ w5.heap.size = b7 + 1 ∧ Below w1.heap.size w1 w5) := by
      have A := alloc2 w1 (.cells #[.slice (some ⟨rb, 0, none⟩) 2 rc, .slice va (n + m) vc, .slice (some ⟨cb, 0, none⟩) (n + m) (n + m)] 87) (.map #[] 0)
      obtain ⟨wB, hwB⟩ : ∃ wB, wB = (w1.alloc (.cells #[.slice (some ⟨rb, 0, none⟩) 2 rc, .slice va (n + m) vc, .slice (some ⟨cb, 0, none⟩) (n + m) (n + m)] 87)).alloc (.map #[] 0) := ⟨_, rfl⟩
      rw [← hwB] at A hw5
      have B := alloc2 wB (.cells #[.slice (some ⟨rb, 0, none⟩) 2 rc, .slice va (n + m) vc, .slice (some ⟨cb, 0, none⟩) (n + m) (n + m), .slice none 0 0, .map (some sm)] 108) (.cells #[.pointer (some ⟨sB, 0, none⟩)] 102)
      rw [← hw5] at B
      obtain ⟨A1, A2, A3, A4⟩ := A
      obtain ⟨B1, B2, B3, B4⟩ := B
      rw [hcc] at A1 A2 A3
      rw [hsm] at A2
      have hz : wB.heap.size = sB := by omega
      rw [hz] at B1 B2 B3
      rw [hb7] at B2
      exact ⟨blkB A1 B4, blkB A2 B4, B1, B2, by omega, grw A4 B4⟩
    have HNum : Hid (w1.heap.size = cc ∧ sm = cc + 1 ∧ sB = cc + 2 ∧ b7 = cc + 3) := ⟨hcc, by omega, by omega, by omega⟩
    clear hw5 hcc hsm hsB hb7 hmm
    have HB5 : Hid (Below w.heap.size w w5) := grw HB1.out F5.out.2.2.2.2.2
    have hbb := F5.out.2.2.2.2.2
    obtain ⟨base, hbase⟩ : ∃ base, w5.heap.size = base := ⟨_, rfl⟩
    have HBase : Hid (w5.heap.size = base ∧ base = cc + 4) := ⟨hbase, by have := F5.out.2.2.2.2.1; have := HNum.out; omega⟩
    have HSea5 : Hid (Sea w5 n m T sB sm cb base (.slice (some ⟨rb, 0, none⟩) 2 rc) (.slice va (n + m) vc) 0 [] (fun _ => 0)) := by
      have := HNum.out
      have := HBase.out
      exact ⟨⟨.slice none 0 0, F5.out.2.2.1, Or.inl ⟨rfl, rfl⟩⟩, ⟨fun i hi => absurd hi (Nat.not_lt_zero _)⟩, ⟨#[], 0, F5.out.2.1, rfl⟩, ⟨by omega, by omega, by omega⟩, Nat.le_refl _⟩
    have HTb5 : Hid (Tbs w5 (n + m) T M (fun j => (j : Nat)) Lc (sK Kc ls) (sK Xc ls)) := HTb1.out.below hbb
    have HCl5 : Hid (w5.rowIs cb 3 (n + m) (fun i => .int .i64 (f i : Nat))) := by
      obtain ⟨cs, k1, k2, k3⟩ := HCl1.out
      exact ⟨cs, blkB k1 hbb, k2, k3⟩
    have HMs : Hid (∀ j, j < n + m → M j ≠ sm) := show ∀ j, _ from fun j hj e => by
      obtain ⟨l, a1, _⟩ := HTb1.out.map j hj
      have := a1.lt
      have := HNum.out
      omega
    have HB7 : Hid (∀ y, Fr sB sm base w5 y → y.cell? ⟨b7, 0, none⟩ = some (ptr sB)) := show ∀ y, _ from fun y hf => (one_at (HSea5.out.keep hf F5.out.2.2.2.1 (by decide) (by decide))).1
    have HCC0 : Hid (∀ y, Fr sB sm base w5 y → y.cell? ⟨cc, 0, none⟩ = some (.slice (some ⟨rb, 0, none⟩) 2 rc)) := show ∀ y, _ from fun y hf => (three_at (HSea5.out.keep hf F5.out.1 (by decide) (by decide))).1
    have HRR : Hid (∀ y, Fr sB sm base w5 y → y.cell? ⟨rb, 0, none⟩ = some (.iface ut uy) ∧ y.cell? ⟨rb, 1, none⟩ = some (.iface vt vy)) := show ∀ y, _ from fun y hf => by
      obtain ⟨cs, hc⟩ := HRO.out
      have h5 := HSea5.out.keep hf (blkB hc hbb) (by decide) (by decide)
      exact ⟨(World.cell?_of_block (h5.trans hc.symm)).trans HR01.out.1, (World.cell?_of_block (h5.trans hc.symm)).trans HR01.out.2⟩
    have HRC : Hid (∀ y, Below w5.heap.size w5 y → Calls Try.prog 70 #[ptr sB, .iface ut uy, .iface vt vy, .agg #[.pointer none, .pointer none, .int .i64 0, .int .i64 0, .string ⟨#[]⟩, .int .i64 0, .pointer none]] y fun en w' => en = .returned (.tuple #[]) ∧ (∃ SB', Sea w' n m T sB sm cb base (.slice (some ⟨rb, 0, none⟩) 2 rc) (.slice va (n + m) vc) 0 ((Aw.sysOf n L K X L' K' X' f).iadd [] ⟨u, u', []⟩) SB') ∧ Fr sB sm base y w') := show ∀ y, _ from fun y hb => by
      have h := reach_any n m T M Lc (sK Kc ls) (sK Xc ls) L K X L' K' X' f sB sm cb base (.slice (some ⟨rb, 0, none⟩) 2 rc) (.slice va (n + m) vc) 0 [] (fun _ => 0) ⟨u, u', []⟩ zeroV none none none y HOK.out.1.root HOK.out.2.root (by simp) (HSea5.out.below hb) (HTb5.out.below hb) (show ∀ i, _ from fun i hi => by
        obtain ⟨cs, k1, k2, k3⟩ := HCl5.out
        exact World.rowIs.cell (f := fun i => .int .i64 (f i : Nat)) ⟨cs, blkB k1 hb, k2, k3⟩ hi) HLow (show ∀ x ∈ [], _ from fun x hx => by cases hx) (Or.inl ⟨rfl, rfl⟩)
      simp only at h
      rw [HXV.out.1, HXV.out.2] at h
      refine h.mono ?_
      rintro en w' ⟨h1, ⟨SB', h2, _⟩, h3⟩
      exact ⟨h1, ⟨SB', h2⟩, h3⟩
    clear hbb hbase
    refine Code.wpIn_mono NoPanic.imp ?_
    refine wpIn_region_heldR (ro := none) (S := fun y => Fr sB sm base w5 y) (by kernel_rfl) (by kernel_rfl) (fun ⟨a, w', h⟩ => ?_) (Fr.below (Below.refl _ _).drew) (fun hHeld => ?_)
    · obtain ⟨h, _⟩ := h
      rcases h with ⟨_, _, _, _, _, _, e, _⟩ | ⟨_, e⟩ <;> cases e
    generalize hwd : w5.drew = wd at hHeld ⊢
    have hbd : Below w5.heap.size w5 wd := by rw [← hwd]; exact (Below.refl _ _).drew
    clear hwd
    refine wpAnyH_take (i := 0) (v := ptr sB) rfl (by kernel_rfl) (by kernel_rfl) (by kernel_rfl) (fun _ _ _ h => h) (Or.inl ⟨by rfl, fun w hSw => ?_⟩) hHeld ?_
    · have q0 := HB7.out w hSw; first | rfl | go_simp
    simp only [Act.put, List.setIfInBounds_toArray, List.set_cons_zero, List.set_cons_succ, List.getElem_toArray, List.getElem_cons_zero]
    refine wpAnyH_take (i := 1) (v := .pointer (some ⟨cc, 0, none⟩)) rfl (by kernel_rfl) (by kernel_rfl) (by kernel_rfl) (fun _ _ _ h => h) (Or.inl ⟨by rfl, fun w hSw => ?_⟩) hHeld ?_
    · first | rfl | go_simp
    simp only [Act.put, List.setIfInBounds_toArray, List.set_cons_zero, List.set_cons_succ, List.getElem_toArray, List.getElem_cons_zero, List.getElem_cons_succ]
    refine wpAnyH_take (i := 2) (v := .slice (some ⟨rb, 0, none⟩) 2 rc) rfl (by kernel_rfl) (by kernel_rfl) (by kernel_rfl) (fun _ _ _ h => h) (Or.inl ⟨by rfl, fun w hSw => ?_⟩) hHeld ?_
    · have q0 := HCC0.out w hSw; first | rfl | go_simp
    simp only [Act.put, List.setIfInBounds_toArray, List.set_cons_zero, List.set_cons_succ, List.getElem_toArray, List.getElem_cons_zero, List.getElem_cons_succ]
    refine wpAnyH_take (i := 3) (v := .pointer (some ⟨rb, 0, none⟩)) rfl (by kernel_rfl) (by kernel_rfl) (by kernel_rfl) (fun _ _ _ h => h) (Or.inl ⟨by rfl, fun w hSw => ?_⟩) hHeld ?_
    · first | rfl | go_simp
    simp only [Act.put, List.setIfInBounds_toArray, List.set_cons_zero, List.set_cons_succ, List.getElem_toArray, List.getElem_cons_zero, List.getElem_cons_succ]
    refine wpAnyH_take (i := 4) (v := .iface ut uy) rfl (by kernel_rfl) (by kernel_rfl) (by kernel_rfl) (fun _ _ _ h => h) (Or.inl ⟨by rfl, fun w hSw => ?_⟩) hHeld ?_
    · have q0 := (HRR.out w hSw).1; first | rfl | go_simp
    simp only [Act.put, List.setIfInBounds_toArray, List.set_cons_zero, List.set_cons_succ, List.getElem_toArray, List.getElem_cons_zero, List.getElem_cons_succ]
    refine wpAnyH_take (i := 5) (v := .pointer (some ⟨cc, 0, none⟩)) rfl (by kernel_rfl) (by kernel_rfl) (by kernel_rfl) (fun _ _ _ h => h) (Or.inl ⟨by rfl, fun w hSw => ?_⟩) hHeld ?_
    · first | rfl | go_simp
    simp only [Act.put, List.setIfInBounds_toArray, List.set_cons_zero, List.set_cons_succ, List.getElem_toArray, List.getElem_cons_zero, List.getElem_cons_succ]
    refine wpAnyH_take (i := 6) (v := .slice (some ⟨rb, 0, none⟩) 2 rc) rfl (by kernel_rfl) (by kernel_rfl) (by kernel_rfl) (fun _ _ _ h => h) (Or.inl ⟨by rfl, fun w hSw => ?_⟩) hHeld ?_
    · have q0 := HCC0.out w hSw; first | rfl | go_simp
    simp only [Act.put, List.setIfInBounds_toArray, List.set_cons_zero, List.set_cons_succ, List.getElem_toArray, List.getElem_cons_zero, List.getElem_cons_succ]
    refine wpAnyH_take (i := 7) (v := .pointer (some ⟨rb, 1, none⟩)) rfl (by kernel_rfl) (by kernel_rfl) (by kernel_rfl) (fun _ _ _ h => h) (Or.inl ⟨by rfl, fun w hSw => ?_⟩) hHeld ?_
    · first | rfl | go_simp
    simp only [Act.put, List.setIfInBounds_toArray, List.set_cons_zero, List.set_cons_succ, List.getElem_toArray, List.getElem_cons_zero, List.getElem_cons_succ]
    refine wpAnyH_take (i := 8) (v := .iface vt vy) rfl (by kernel_rfl) (by kernel_rfl) (by kernel_rfl) (fun _ _ _ h => h) (Or.inl ⟨by rfl, fun w hSw => ?_⟩) hHeld ?_
    · have q0 := (HRR.out w hSw).2; first | rfl | go_simp
    simp only [Act.put, List.setIfInBounds_toArray, List.set_cons_zero, List.set_cons_succ, List.getElem_toArray, List.getElem_cons_zero, List.getElem_cons_succ]
    refine wpAnyH_take (i := 9) (v := .agg #[.pointer none, .pointer none, .int .i64 0, .int .i64 0, .string ⟨#[]⟩, .int .i64 0, .pointer none]) rfl (by kernel_rfl) (by kernel_rfl) (by kernel_rfl) (fun _ _ _ h => h) (Or.inl ⟨by rfl, fun w hSw => ?_⟩) hHeld ?_
    · first | rfl | go_simp
    simp only [Act.put, List.setIfInBounds_toArray, List.set_cons_zero, List.set_cons_succ, List.getElem_toArray, List.getElem_cons_zero, List.getElem_cons_succ]
    refine wpAnyH_ready (rs := [10]) (by kernel_rfl) (by simp) ?_
    refine AllReadyH.cons rfl (fun KK hK' => ?_) AllReadyH.nil
    have hcall := HRC.out wd hbd
    go_simp
    refine hcall.mono ?_
    clear hcall
    rintro en w6 ⟨rfl, ⟨SB1, hsea6⟩, hfr6⟩
    have HF6 : Hid (Fr sB sm base w5 w6) := Fr.trans hHeld hfr6
    have HS6 : Hid (Sea w6 n m T sB sm cb base (.slice (some ⟨rb, 0, none⟩) 2 rc) (.slice va (n + m) vc) 0 ((Aw.sysOf n L K X L' K' X' f).iadd [] ⟨u, u', []⟩) SB1) := hsea6
    refine hK'.out _ _ HF6.out (fun _ => ?_)
    clear hK' hsea6 hfr6 hHeld hbd
    refine wpAnyH_done (by kernel_rfl) (NoPanic.normal ?_) _
    have c7 := HB7.out w6 HF6.out
    gi_wp2_with fail
    refine ⟨trivial, (callsIn_wideR (ro := none) (all_any sB w6)).mono ?_⟩
    rintro en w7 ⟨rfl, rfl⟩
    clear c7
    gi_wp2
    have HB6 : Hid (Below w.heap.size w w6) := by
      have h5 := HB5.out
      have hf := HF6.out
      have hnum := HNum.out
      have hbs := HBase.out
      have h1 := HB1.out.size
      refine ⟨hf.os.trans h5.os, hf.tape.trans h5.tape, hf.output.trans h5.output, Nat.le_trans h5.size hf.size, fun k hk => (hf.block k (Nat.lt_of_lt_of_le hk h5.size) (fun hp => ?_)).trans (h5.block k hk)⟩
      rcases hp with e | e | ⟨hb, _⟩ <;> omega
    obtain ⟨w7, hw7⟩ : ∃ w7, w7 = w6.alloc (.cells #[.pointer (some ⟨sB, 3, none⟩)] 161) := ⟨_, rfl⟩
    have hb7' : Below w6.heap.size w6 w7 := by rw [hw7]; exact (Below.refl _ _).alloc (Nat.le_refl _) _
    have hx7 : w7.heap[w6.heap.size]? = some (.cells #[.pointer (some ⟨sB, 3, none⟩)] 161 (0, 0)) := by rw [hw7]; exact heap_alloc_new _ _
    rw [← hw7]
    clear hw7
    have hs7 := hb7'.size
    have h6s := HB6.out.size
    have HC4 : Hid (w6.heap[b4]? = some (.cells #[.slice none 0 0] 45 (0, 0))) := by
      rw [← hb4]
      exact HSea5.out.keep HF6.out (blkB HC1.out F5.out.2.2.2.2.2) (by decide) (by decide)
    have h4lo : w.heap.size ≤ b4 := by omega
    refine apLoop n m T M Lc (sK Kc ls) (sK Xc ls) L K X L' K' X' ls f u u' sB sm cb base b4 b7 w6.heap.size (.slice (some ⟨rb, 0, none⟩) 2 rc) (.slice va (n + m) vc) SB1 w w7 HOK.out.1 HOK.out.2 HJn.out HLow.out HMs.out ⟨by have := HNum.out; have := HB1.out.size; omega, by have := HNum.out; have := HB1.out.size; omega, by omega⟩ h4lo ?h0 rfl ?hassign ?hbody ?htm ?hdone ?hstop
    case h0 =>
      intro R0
      have A9 := alloc2 w7 (.deferred (some [])) (.loop R0)
      obtain ⟨w9, hw9⟩ : ∃ w9, w9 = (w7.alloc (.deferred (some []))).alloc (.loop R0) := ⟨_, rfl⟩
      rw [← hw9] at A9 ⊢
      have hb9 : Below w6.heap.size w6 w9 := grw hb7' A9.2.2.2
      obtain ⟨cs, k1, k2, k3⟩ := HCl5.out
      exact ⟨.start, HS6.out.below hb9, ⟨(HSea5.out.tbs HF6.out HTb5.out HMs.out).below hb9, ⟨cs, blkB (HSea5.out.keep HF6.out k1 (by decide) (by decide)) hb9, k2, k3⟩, blkB (HSea5.out.keep HF6.out F5.out.2.2.2.1 (by decide) (by decide)) hb9, blkB HC4.out hb9, blkB hx7 A9.2.2.2, A9.2.1, A9.1, grw HB6.out hb9⟩⟩
    case hassign =>
      intro l s W K hK
      simp only [List.setIfInBounds_toArray, List.set_cons_zero, List.set_cons_succ] at hK
      gi_wp2
      exact hK
    case hbody => simp only [Try.f40, Option.bind_some, rfBody, Option.orElse]
    case htm =>
      intro s
      simp only [List.setIfInBounds_toArray, List.set_cons_zero, List.set_cons_succ]
      exact ⟨_, _, _, _, _, _, _, _, _, _, _, _, _, _, _, _, _, _, _, _, _, _, _, _, _, _, _, _, _, _, _, _, _, _, _, _, _, _, _, _, _, _, _, _, _, _, _, _, _, _, _, _, _, _, _, _, _, _, _, _, _, _, _, _, _, _, _, _, _, _, _, _, _, _, _, _, _, _, _, _, _, _, _, _, _, _, _, _, _, _, _, _, rfl⟩
    case hdone =>
      intro W hJd
      have hD := hJd.dfr
      have h4 := hJd.c4
      obtain ⟨z0, z1⟩ := one_at h4
      have HJd : Hid _ := hJd
      clear hJd hD h4
      gi_wp2
      have h4 := HJd.out.c4
      have hD : (W.setCell ⟨b4, 0, none⟩ (.slice none 0 0)).heap[w7.heap.size]? = some (.deferred (some [])) := (Below.heap_setCell _ _ _ _ (fun e => by have := HJd.out.dfr; rw [e, h4] at this; cases this)).trans HJd.out.dfr
      refine ⟨by simp, .inl ⟨_, _, rfl, run_takeDeferred hD, ?_⟩⟩
      have h4' : ((W.setCell ⟨b4, 0, none⟩ (.slice none 0 0)).putObj w7.heap.size (.deferred none)).heap[b4]? = some (.cells #[.slice none 0 0] 45 (0, 0)) := (World.putObj_heap_other (fun e => by rw [← e, one_put h4] at hD; cases hD)).trans (one_put h4 _)
      refine ⟨.slice none 0 0, res_apart _ _ _ _ _ _ rfl (one_at h4').1, Or.inl ⟨HOK.out, f, _, [], HCls.out, HFz.out, rfl, HJd.out.done, World.ownsRow_nil _ _ _ _⟩, ?_⟩
      have ho := only_put (W.setCell ⟨b4, 0, none⟩ (.slice none 0 0)) w7.heap.size (.deferred none)
      have hbs := HJd.out.bel.setCell (p := ⟨b4, 0, none⟩) h4lo (.slice none 0 0)
      exact hbs.trans (ho.toBelow (fun k e => by omega) hbs.size)
    case hstop =>
      intro W v ans hJd
      obtain ⟨oa, oc, rfl, hob⟩ := owns_form hJd.own
      have HJd : Hid _ := hJd
      clear hJd
      gi_wp2
      have h4 := HJd.out.c4
      have hD := HJd.out.dfr
      refine ⟨by simp, .inl ⟨_, _, rfl, run_takeDeferred hD, ?_⟩⟩
      have ho := only_put W w7.heap.size (.deferred none)
      have h4' : (W.putObj w7.heap.size (.deferred none)).heap[b4]? = some (.cells #[.slice oa ans.length oc] 45 (0, 0)) := (World.putObj_heap_other (fun e => by rw [← e, h4] at hD; cases hD)).trans h4
      refine ⟨_, res_apart _ _ _ _ _ _ rfl (one_at h4').1, Or.inl ⟨HOK.out, f, _, ans, HCls.out, HFz.out, rfl, HJd.out.done, Only.ownsB ho HJd.out.own (fun g hg e => ?_)⟩, HJd.out.bel.trans (ho.toBelow (fun k e => by omega) HJd.out.bel.size)⟩
      obtain ⟨_, cur, hc⟩ := owns_type HJd.out.own hg
      rw [e, hD] at hc
      cases hc
  · have HN : Hid (¬ (OkG n u L K X ∧ OkG m u' L' K' X')) := by
      rw [HGd.out] at hno
      rcases (show q = 0 ∨ q = 1 by omega) with rfl | rfl
      · exact (show ¬ (OkG n u L K X ∧ OkG m u' L' K' X') from fun h => hno h.1)
      · exact (show ¬ (OkG n u L K X ∧ OkG m u' L' K' X') from fun h => hno h.2)
    obtain ⟨w2, hw2⟩ : ∃ w2, w2 = w1.alloc (.cells #[.slice none 0 0, .slice none 0 0, .slice none 0 0] 87) := ⟨_, rfl⟩
    have HB2 : Hid (Below w.heap.size w w2) := grw HB1.out (by rw [hw2]; exact (Below.refl _ _).alloc (Nat.le_refl _) _)
    have HC2 : Hid (w2.heap[b4]? = some (.cells #[.slice none 0 0] 45 (0, 0))) := by rw [← hb4]; rw [hw2]; exact (Below.heap_alloc _ _ _ (blk_lt HC1.out)).trans HC1.out
    obtain ⟨c0, c1⟩ := one_at HC2.out
    rw [hw2] at c0 c1
    have HL4 : Hid (w.heap.size ≤ b4) := show _ ≤ _ by omega
    rw [show w.heap.size + 1 + 1 = b4 from hb4]
    clear hb4
    gi_wp2
    rw [← hw2]
    refine ⟨.slice none 0 0, res_apart _ _ _ _ _ _ rfl (one_at (one_put HC2.out _)).1, Or.inr ⟨HN.out, rfl⟩, ?_⟩
    exact HB2.out.setCell (p := ⟨b4, 0, none⟩) HL4.out _

end Go.Proofs.Ytgflalfiopnmnab

namespace Go.Proofs.Ytgflalfiopnmnab
open Go.RowKit Vl

/-- Cell i of marked values. -/
def mkv (k i : Nat) : Value := if i % 4 = 2 then .string (markT (k + i)) else .int .i64 ((k + i : Nat) : Int)
theorem mkv_int {k c d : Nat} {q : Int} (hd : d < 4) (h2 : d ≠ 2) (hq : q = k + c * 4 + d) : mkv k (c * 4 + d) = .int .i64 q := by
  unfold mkv
  rw [if_neg (by omega), hq]
  congr 1
  omega
theorem mkv_text {k c d q : Nat} (hd : d = 2) (hq : q = k + c * 4 + d) : mkv k (c * 4 + d) = .string (markT q) := by
  unfold mkv
  rw [if_pos (by omega), hq, Nat.add_assoc]

/-- The first p cells are marked. -/
def Mv (w : World) (B cap k p : Nat) (f : Nat → Value) : Prop := w.rowIs B 29 cap (fun i => if i < p then mkv k i else f i)
theorem Mv.step {w : World} {B cap k p : Nat} {f : Nat → Value} {v : Value} (h : Mv w B cap k p f) (hv : mkv k p = v) : Mv (w.setCell ⟨B, p, none⟩ v) B cap k (p + 1) f := by
  refine ((show w.rowIs B _ _ _ from h).set p v).congr (fun i _ => ?_)
  by_cases e : i = p
  · subst e; rw [if_pos rfl, if_pos (by omega), hv]
  · rw [if_neg e]
    by_cases h' : i < p
    · rw [if_pos h', if_pos (by omega)]
    · rw [if_neg h', if_neg (by omega)]
theorem Mv.below {w w' : World} {B cap k p : Nat} {f : Nat → Value} (h : Mv w B cap k p f) (hb : Below w.heap.size w w') : Mv w' B cap k p f := h.of_block (hb.block B h.lt)
theorem Mv.cell {w : World} {B cap k p : Nat} {f : Nat → Value} (h : Mv w B cap k p f) {i : Nat} (hi : i < cap) (hp : p ≤ i) : w.cell? ⟨B, i, none⟩ = some (f i) := by
  have := (show w.rowIs B _ _ _ from h).cell hi
  rw [if_neg (by omega)] at this
  exact this

set_option maxHeartbeats 2000000 in
set_option maxRecDepth 100000 in
/-- 'markValS'. -/
theorem markValS_any (pa : Option Addr) (L C B cap k : Nat) (f : Nat → Value) (w : World) (hL : L ≤ 1048576) (hk0 : 0 < k) (hk1 : k ≤ 562949953421312) (hA : 0 < L → pa = some ⟨B, 0, none⟩) (hc : L * 4 ≤ cap) (HR : Hid (0 < L → w.rowIs B 29 cap f)) :
    Calls Try.prog 41 #[.slice pa L C, .int .i64 k] w fun e w' => e = .returned (.int .i64 ((k + L * 4 : Nat) : Int)) ∧ (0 < L → Mv w' B cap k (L * 4) f) ∧ Only (fun x => x = B ∧ 0 < L) w w' := by
  go_enter Try.func41, Try.ntmps41
  go_wp2
  go_loopw [1, 5] (fun kk ii wr => ∃ (c q : Nat), c ≤ L ∧ q = k + c * 4 ∧ kk = .int .i64 (q : Nat) ∧ ii = .int .i64 c ∧ Hid (0 < L → Mv wr B cap k (c * 4) f) ∧ Hid (Only (fun x => x = B ∧ 0 < L) w wr)) (fun _ ii _ => L - (intOf ii).toNat)
  case atStart => exact ⟨0, k, Nat.zero_le _, by omega, rfl, rfl, show _ → _ from fun h => (HR.out h).congr (fun i _ => by rw [if_neg (by omega)]), Only.refl _ _⟩
  case round =>
    obtain ⟨c, q, hcl, hq, rfl, rfl, HM, HO⟩ := hrel
    have HQ : Hid (q = k + c * 4) := hq
    have hq0 : 0 < q := by omega
    by_cases hlt : c < L
    · have hL0 : 0 < L := by omega
      have hq1 : q ≤ 562949961809920 := by omega
      obtain rfl := hA hL0
      have HM0 : Hid (Mv wr B cap k (c * 4) f) := HM.out hL0
      have c0 := HM0.out.cell (i := c * 4) (by omega) (by omega)
      have c1 := HM0.out.cell (i := c * 4 + 1) (by omega) (by omega)
      have z0 := (show wr.rowIs B _ _ _ from HM0.out).frozen
      obtain ⟨wa, hwa⟩ : ∃ wa, wa = (wr.setCell ⟨B, c * 4, none⟩ (.int .i64 (q : Nat))).setCell ⟨B, c * 4 + 1, none⟩ (.int .i64 ((q : Int) + 1)) := ⟨_, rfl⟩
      have HMa : Hid (Mv wa B cap k (c * 4 + 2) f) := by
        rw [hwa]
        exact (HM0.out.step (mkv_int (d := 0) (by omega) (by omega) (by omega))).step (mkv_int (d := 1) (by omega) (by omega) (by omega))
      have HOa : Hid (Only (fun x => x = B ∧ 0 < L) w wa) := by rw [hwa]; exact (HO.out.set ⟨rfl, hL0⟩ _).set ⟨rfl, hL0⟩ _
      have hm := markText_any (q + 2) wa (by omega) (by omega)
      rw [show ((q + 2 : Nat) : Int) = (q : Int) + 1 + 1 by omega] at hm
      obtain ⟨t1, ht1⟩ : ∃ t, markT (q + 2) = t := ⟨_, rfl⟩
      rw [ht1] at hm
      have HT1 : Hid (mkv k (c * 4 + 2) = .string t1) := by rw [← ht1]; exact mkv_text rfl (by omega)
      clear ht1 hq HM0 HM HO
      go_wp2_with fail
      rw [← hwa]
      refine hm.mono ?_
      clear hm hwa c0 c1 z0
      rintro e w1 ⟨rfl, hb1⟩
      have HM1 : Hid (Mv w1 B cap k (c * 4 + 2) f) := HMa.out.below hb1
      have HO1 : Hid (Only (fun x => x = B ∧ 0 < L) w w1) := HOa.out.trans (Only.below hb1)
      clear hb1 HMa HOa
      have c2 := HM1.out.cell (i := c * 4 + 2) (by omega) (by omega)
      have c3 := HM1.out.cell (i := c * 4 + 3) (by omega) (by omega)
      have z0 := (show w1.rowIs B _ _ _ from HM1.out).frozen
      go_wp2
      have hQ := HQ.out
      go_roundw
      case rel =>
        refine ⟨c + 1, q + 4, by omega, by omega, by go_num, by go_num, show _ → _ from fun _ => ?_, (HO1.out.set ⟨rfl, hL0⟩ _).set ⟨rfl, hL0⟩ _⟩
        have := (HM1.out.step HT1.out).step (mkv_int (d := 3) (q := (q : Int) + 1 + 1 + 1) (by omega) (by omega) (by omega))
        rw [show c * 4 + 3 + 1 = (c + 1) * 4 by omega] at this
        exact this
      case measure => simp [intOf]; omega
    · obtain rfl : c = L := by omega
      subst hq
      clear HQ
      go_wp2
      go_ret
      exact ⟨rfl, HM.out, HO.out⟩

/-- Marked values, as they are read. -/
def MvAt (w : World) (B k L : Nat) : Prop := ∀ i, i < L * 4 → w.cell? ⟨B, i, none⟩ = some (mkv k i)
theorem Mv.at {w : World} {B cap k L : Nat} {f : Nat → Value} (h : Mv w B cap k (L * 4) f) (hc : L * 4 ≤ cap) : MvAt w B k L := fun i hi => by
  have := (show w.rowIs B _ _ _ from h).cell (i := i) (by omega)
  rw [if_pos hi] at this
  exact this
theorem MvAt.below {w w' : World} {B k L : Nat} (h : MvAt w B k L) (hb : Below w.heap.size w w') : MvAt w' B k L := fun i hi => (hb.cell (p := ⟨B, i, none⟩) (World.block_lt_of_cell? _ _ (h i hi))).trans (h i hi)
theorem MvAt.cells {w : World} {B k L c q : Nat} (h : MvAt w B k L) (hc : c < L) (hq : q = k + c * 4) :
    w.cell? ⟨B, c * 4, none⟩ = some (.int .i64 (q : Int)) ∧ w.cell? ⟨B, c * 4 + 1, none⟩ = some (.int .i64 ((q : Int) + 1)) ∧ w.cell? ⟨B, c * 4 + 2, none⟩ = some (.string (markT (q + 2))) ∧ w.cell? ⟨B, c * 4 + 3, none⟩ = some (.int .i64 ((q : Int) + 1 + 1 + 1)) := by
  have g : ∀ d, d < 4 → w.cell? ⟨B, c * 4 + d, none⟩ = some (mkv k (c * 4 + d)) := fun d hd => h _ (by omega)
  refine ⟨?_, ?_, ?_, ?_⟩
  · rw [← mkv_int (k := k) (c := c) (d := 0) (by omega) (by omega) (by omega)]; exact g 0 (by omega)
  · rw [← mkv_int (k := k) (c := c) (d := 1) (by omega) (by omega) (by omega)]; exact g 1 (by omega)
  · rw [← mkv_text (k := k) (c := c) (d := 2) rfl (by omega)]; exact g 2 (by omega)
  · rw [← mkv_int (k := k) (c := c) (d := 3) (by omega) (by omega) (by omega)]; exact g 3 (by omega)

set_option maxHeartbeats 2000000 in
set_option maxRecDepth 100000 in
/-- 'heldValS'. -/
theorem heldValS_any (pa : Option Addr) (L C B k : Nat) (w : World) (hL : L ≤ 1048576) (hk0 : 0 < k) (hk1 : k ≤ 562949953421312) (hA : 0 < L → pa = some ⟨B, 0, none⟩) (HM : Hid (MvAt w B k L)) :
    Calls Try.prog 42 #[.slice pa L C, .int .i64 k] w fun e w' => e = .returned (.int .i64 ((k + L * 4 : Nat) : Int)) ∧ Below w.heap.size w w' := by
  go_enter Try.func42, Try.ntmps42
  go_wp2
  go_loopw [1, 5] (fun kk ii wr => ∃ (c q : Nat), c ≤ L ∧ q = k + c * 4 ∧ kk = .int .i64 (q : Nat) ∧ ii = .int .i64 c ∧ Hid (Below w.heap.size w wr)) (fun _ ii _ => L - (intOf ii).toNat)
  case atStart => exact ⟨0, k, Nat.zero_le _, by omega, rfl, rfl, Below.refl _ _⟩
  case round =>
    obtain ⟨c, q, hcl, hq, rfl, rfl, HW⟩ := hrel
    have HQ : Hid (q = k + c * 4) := hq
    have hq0 : 0 < q := by omega
    by_cases hlt : c < L
    · have hL0 : 0 < L := by omega
      have hq1 : q ≤ 562949961809920 := by omega
      obtain rfl := hA hL0
      obtain ⟨c0, c1, c2, c3⟩ := (HM.out.below HW.out).cells hlt hq
      have hbc : (0 : Int) ≤ (c : Int) ∧ (c : Int) < (L : Int) := by omega
      have hm1 := fun w1 => markText_any (q + 2) w1 (by omega) (by omega)
      rw [show ((q + 2 : Nat) : Int) = (q : Int) + 1 + 1 by omega] at hm1
      obtain ⟨t1, ht1⟩ : ∃ t, markT (q + 2) = t := ⟨_, rfl⟩
      rw [ht1] at hm1 c2
      clear ht1 hq c3
      have C2 : Hid _ := c2
      go_wp2
      go_region_held3 (fun w' => w'.cell? ⟨B, c * 4 + 2, none⟩ = some (.string t1) ∧ Hid (Below w.heap.size w w'))
        (first | exact keep1m ‹_ ∧ _› hb1 | exact ⟨C2.out, HW.out.drew⟩)
        ((go_at_call 74; refine (hm1 _).mono ?_; rintro e w1 ⟨rfl, hb1⟩))
      rename_i hS
      have HW1 := hS.2
      have hQ := HQ.out
      clear hS hb1 c0 c1 c2 C2 HW hm1
      obtain ⟨_, _, _, c3⟩ := (HM.out.below HW1.out).cells hlt hQ
      clear hQ
      go_wp2
      have hQ := HQ.out
      go_roundw
      case rel => exact ⟨c + 1, q + 4, by omega, by omega, by go_num, by go_num, HW1⟩
      case measure => simp [intOf]; omega
    · obtain rfl : c = L := by omega
      subst hq
      clear HQ
      go_wp2
      go_ret
      exact ⟨rfl, HW.out⟩

end Go.Proofs.Ytgflalfiopnmnab
