import Derived.Test.YtgflalfiopnmnaaKyText
namespace Go.Proofs.Ytgflalfiopnmnaa
open Go.RowKit Vl

section
variable {w w' : World} {CB : Nat} {ca : Option Addr} {cl cc cb co t t' : Nat}

/-- Behind the call of a function that answers with a value. -/
def DrewP (p : V → Prop) (w : World) (CB : Nat) (ca : Option Addr) (cl cc cb co t : Nat) (e : Ending) (w' : World) : Prop :=
  ∃ v : V, p v ∧ e = .returned (.agg #[.int .i64 v.k, .int .i64 v.n, .string v.s, .int .i64 v.a]) ∧ Rd w' CB ca cl cc cb co t ∧ Only (fun k => k = CB) w w'
def DrewV (w : World) (CB : Nat) (ca : Option Addr) (cl cc cb co t : Nat) (e : Ending) (w' : World) : Prop :=
  ∃ v : V, v.s.size ≤ 500 ∧ e = .returned (.agg #[.int .i64 v.k, .int .i64 v.n, .string v.s, .int .i64 v.a]) ∧ Rd w' CB ca cl cc cb co t ∧ Only (fun k => k = CB) w w'

/-- A key; a value of a graph of n tables. -/
def keyP (v : V) : Prop := v.s.size ≤ 500 ∧ isK v = true ∧ -9223372036854775808 ≤ v.n ∧ v.n ≤ 9223372036854775807
def valP (n : Nat) (v : V) : Prop := v.s.size ≤ 500 ∧ isV n v = true ∧ v.k ≠ 0 ∧ -9223372036854775808 ≤ v.n ∧ v.n ≤ 9223372036854775807
theorem keyP_bool {z : Nat} (hz : z < 2) : keyP ⟨1, z, ⟨#[]⟩, 0⟩ := by
  refine ⟨Nat.zero_le _, ?_, by simp only; omega, by simp only; omega⟩
  have : z = 0 ∨ z = 1 := by omega
  rcases this with rfl | rfl <;> (unfold isK isV; simp)
theorem keyP_text {s : ByteArray} (hs : s.size ≤ 500) : keyP ⟨3, 0, s, 0⟩ := by
  refine ⟨hs, ?_, by simp, by simp⟩
  unfold isK isV
  simp [hs]
theorem keyP_int {q : Int} (h1 : -9223372036854775808 ≤ q) (h2 : q ≤ 9223372036854775807) : keyP ⟨2, q, ⟨#[]⟩, 0⟩ := by
  refine ⟨Nat.zero_le _, ?_, h1, h2⟩
  unfold isK isV
  simp
theorem valP_key {n : Nat} {v : V} (h : keyP v) : valP n v := by
  obtain ⟨h1, h2, h3⟩ := h
  unfold isK at h2
  simp only [Bool.and_eq_true, Bool.or_eq_true, beq_iff_eq] at h2
  have hk : v.k ≠ 4 ∧ v.k ≠ 0 := by omega
  refine ⟨h1, ?_, hk.2, h3⟩
  have := h2.2
  unfold isV at this ⊢
  simp only [hk.1, if_false] at this ⊢
  exact this
theorem valP_tab {n q : Nat} (hq : q < n) : valP n ⟨4, 0, ⟨#[]⟩, q⟩ := by
  refine ⟨Nat.zero_le _, ?_, by simp, by simp, by simp⟩
  unfold isV
  simp
  omega

/-- The reader with one more block behind it. -/
theorem only_set {a b : World} {P : Nat → Prop} (h : Only P a b) {p : Addr} (hp : a.heap.size ≤ p.block) (v : Value) : Only P a (b.setCell p v) :=
  h.thenBelow ((Below.refl a.heap.size b).setCell hp v) (Nat.le_refl _)

theorem four {w : World} {B : Nat} {a b c d : Value} {t : TypeId} (h : w.heap[B]? = some (.cells #[a, b, c, d] t (0, 0))) :
    w.cell? ⟨B, 0, none⟩ = some a ∧ w.cell? ⟨B, 1, none⟩ = some b ∧ w.cell? ⟨B, 2, none⟩ = some c ∧ w.cell? ⟨B, 3, none⟩ = some d ∧ ∀ i, w.frozen? ⟨B, i, none⟩ = false := by
  refine ⟨?_, ?_, ?_, ?_, fun i => ?_⟩ <;> simp [World.cell?, World.frozen?, h]

theorem put4_at {w : World} {B : Nat} {a b c d : Value} {t : TypeId} (h : w.heap[B]? = some (.cells #[a, b, c, d] t (0, 0))) (a' b' c' d' : Value) :
    ((((w.setCell ⟨B, 0, none⟩ a').setCell ⟨B, 1, none⟩ b').setCell ⟨B, 2, none⟩ c').setCell ⟨B, 3, none⟩ d').heap[B]? = some (.cells #[a', b', c', d'] t (0, 0)) := by
  simp [World.setCell, Array.getElem?_modify, h]
theorem put4_below (w : World) (B : Nat) (a' b' c' d' : Value) : Below B w ((((w.setCell ⟨B, 0, none⟩ a').setCell ⟨B, 1, none⟩ b').setCell ⟨B, 2, none⟩ c').setCell ⟨B, 3, none⟩ d') :=
  ((((Below.refl B w).setCell (Nat.le_refl _) _).setCell (Nat.le_refl _) _).setCell (Nat.le_refl _) _).setCell (Nat.le_refl _) _

/-- The variable of a result: still empty. -/
def Empty4 (w : World) (B : Nat) : Prop := w.heap[B]? = some (.cells #[.int .i64 0, .int .i64 0, .string ⟨#[]⟩, .int .i64 0] 24 (0, 0))
theorem Empty4.only {w w' : World} {B CB : Nat} (h : Empty4 w B) (ho : Only (fun k => k = CB) w w') (hne : B ≠ CB) : Empty4 w' B := (ho.block B (lt_of_block h) hne).trans h
theorem Empty4.new (w : World) : Empty4 (w.alloc (.cells #[.int .i64 0, .int .i64 0, .string ⟨#[]⟩, .int .i64 0] 24)) w.heap.size := heap_alloc_new _ _

/-- A value is laid into the variable of a result. -/
theorem Rd.put4 (h : Rd w' CB ca cl cc cb co t) (hw : Rd w CB ca cl cc cb co t') (ho : Only (fun k => k = CB) w w') (a b c d : Value) :
    Rd ((((w'.setCell ⟨w.heap.size, 0, none⟩ a).setCell ⟨w.heap.size, 1, none⟩ b).setCell ⟨w.heap.size, 2, none⟩ c).setCell ⟨w.heap.size, 3, none⟩ d) CB ca cl cc cb co t ∧ Only (fun k => k = CB) w ((((w'.setCell ⟨w.heap.size, 0, none⟩ a).setCell ⟨w.heap.size, 1, none⟩ b).setCell ⟨w.heap.size, 2, none⟩ c).setCell ⟨w.heap.size, 3, none⟩ d) :=
  ⟨h.keep (put4_below w' w.heap.size a b c d) hw.blocks.1 hw.blocks.2, ho.thenBelow (put4_below w' w.heap.size a b c d) (Nat.le_refl _)⟩

set_option maxHeartbeats 1000000 in
set_option maxRecDepth 100000 in
/-- 'key'. -/
theorem key_p (h : Rd w CB ca cl cc cb co t) (ht : t ≤ 70000000) :
    Calls Try.prog 55 #[.pointer (some ⟨CB, 0, none⟩)] w (DrewP keyP w CB ca cl cc cb co (t + 30)) := by
  have hp := pick_r 4 (h.alloc (.cells #[.int .i64 0, .int .i64 0, .string ⟨#[]⟩, .int .i64 0] 24)) (by omega) (by omega) (by omega)
  have HO0 : Hid (Only (fun k => k = CB) w (w.alloc (.cells #[.int .i64 0, .int .i64 0, .string ⟨#[]⟩, .int .i64 0] 24))) := (Only.refl _ _).alloc _
  have hne : w.heap.size ≠ CB := by have := h.blocks.1; omega
  have HH : Hid (Rd w CB ca cl cc cb co t) := h
  clear h
  go_enter Try.func55, Try.ntmps55
  go_wp2_with fail
  refine hp.mono ?_
  clear hp
  rintro e w1 ⟨⟨y, hy, rfl⟩, HR, HO⟩
  have HB : Hid (Empty4 w1 w.heap.size) := (Empty4.new w).only HO.out hne
  have HO1 : Hid (Only (fun k => k = CB) w w1) := HO0.out.trans HO.out
  clear HO HO0
  by_cases y0 : y = 0
  · subst y0
    clear hy
    have hp := pick_r 2 HR.out (by omega) (by omega) (by omega)
    go_wp2_with fail
    refine hp.mono ?_
    clear hp
    rintro e w2 ⟨⟨z, hz, rfl⟩, HR2, HO2⟩
    have HB2 : Hid (Empty4 w2 w.heap.size) := HB.out.only HO2.out hne
    have HO3 : Hid (Only (fun k => k = CB) w w2) := HO1.out.trans HO2.out
    obtain ⟨c0, c1, c2, c3, z0⟩ := four HB2.out
    clear HO1 HO2 HR HB
    go_wp2
    obtain ⟨q0, q1, q2, q3, _⟩ := four (put4_at HB2.out (.int .i64 1) (.int .i64 z) (.string ⟨#[]⟩) (.int .i64 0))
    refine bodyPost_ret (v := .agg #[.int .i64 1, .int .i64 z, .string ⟨#[]⟩, .int .i64 0]) (by simp [results, Try.results55, go_sem, q0, q1, q2, q3]) rfl ⟨⟨1, z, ⟨#[]⟩, 0⟩, keyP_bool hz, rfl, ?_⟩
    have := HR2.out.put4 HH.out HO3.out (.int .i64 1) (.int .i64 z) (.string ⟨#[]⟩) (.int .i64 0)
    exact ⟨this.1.mono (by omega), this.2⟩
  have hy0 : ((y : Int) == 0) = false := by simpa using y0
  by_cases y1 : y = 1
  · subst y1
    clear hy hy0 y0
    have hp := text_r HR.out (by omega)
    go_wp2_with fail
    refine hp.mono ?_
    clear hp
    rintro e w2 ⟨⟨s, hs, rfl⟩, HR2, HO2⟩
    have HB2 : Hid (Empty4 w2 w.heap.size) := HB.out.only HO2.out hne
    have HO3 : Hid (Only (fun k => k = CB) w w2) := HO1.out.trans HO2.out
    obtain ⟨c0, c1, c2, c3, z0⟩ := four HB2.out
    clear HO1 HO2 HR HB
    go_wp2
    obtain ⟨q0, q1, q2, q3, _⟩ := four (put4_at HB2.out (.int .i64 3) (.int .i64 0) (.string s) (.int .i64 0))
    refine bodyPost_ret (v := .agg #[.int .i64 3, .int .i64 0, .string s, .int .i64 0]) (by simp [results, Try.results55, go_sem, q0, q1, q2, q3]) rfl ⟨⟨3, 0, s, 0⟩, keyP_text hs, rfl, ?_⟩
    have := HR2.out.put4 HH.out HO3.out (.int .i64 3) (.int .i64 0) (.string s) (.int .i64 0)
    exact ⟨this.1.mono (by omega), this.2⟩
  have hy1 : ((y : Int) == 1) = false := by simp; omega
  by_cases y2 : y = 2
  · subst y2
    clear hy hy0 y0 hy1 y1
    have hp := pick_r 6 HR.out (by omega) (by omega) (by omega)
    go_wp2_with fail
    refine hp.mono ?_
    clear hp
    rintro e w2 ⟨⟨z, hz, rfl⟩, HR2, HO2⟩
    have HB2 : Hid (Empty4 w2 w.heap.size) := HB.out.only HO2.out hne
    have HO3 : Hid (Only (fun k => k = CB) w w2) := HO1.out.trans HO2.out
    clear HO1 HO2 HR HB
    by_cases z0 : z = 0
    · subst z0
      clear hz
      have hp := whole_r HR2.out (by omega)
      go_wp2_with fail
      refine hp.mono ?_
      clear hp
      rintro e w3 ⟨⟨q, rfl, hq⟩, HR3, HO4⟩
      have HB3 : Hid (Empty4 w3 w.heap.size) := HB2.out.only HO4.out hne
      have HO5 : Hid (Only (fun k => k = CB) w w3) := HO3.out.trans HO4.out
      obtain ⟨c0, c1, c2, c3, z0⟩ := four HB3.out
      clear HO3 HO4 HR2 HB2
      go_wp2
      obtain ⟨q0, q1, q2, q3, _⟩ := four (put4_at HB3.out (.int .i64 2) (.int .i64 q) (.string ⟨#[]⟩) (.int .i64 0))
      refine bodyPost_ret (v := .agg #[.int .i64 2, .int .i64 q, .string ⟨#[]⟩, .int .i64 0]) (by simp [results, Try.results55, go_sem, q0, q1, q2, q3]) rfl ⟨⟨2, q, ⟨#[]⟩, 0⟩, keyP_int hq.1 hq.2, rfl, ?_⟩
      have := HR3.out.put4 HH.out HO5.out (.int .i64 2) (.int .i64 q) (.string ⟨#[]⟩) (.int .i64 0)
      exact ⟨this.1.mono (by omega), this.2⟩
    · have hz0 : ((z : Int) == 0) = false := by simpa using z0
      have hp := pick_r 4 HR2.out (by omega) (by omega) (by omega)
      go_wp2_with fail
      refine hp.mono ?_
      clear hp
      rintro e w3 ⟨⟨q, hq, rfl⟩, HR3, HO4⟩
      have HB3 : Hid (Empty4 w3 w.heap.size) := HB2.out.only HO4.out hne
      have HO5 : Hid (Only (fun k => k = CB) w w3) := HO3.out.trans HO4.out
      obtain ⟨c0, c1, c2, c3, z0⟩ := four HB3.out
      clear HO3 HO4 HR2 HB2
      go_wp2
      obtain ⟨q0, q1, q2, q3, _⟩ := four (put4_at HB3.out (.int .i64 2) (.int .i64 q) (.string ⟨#[]⟩) (.int .i64 0))
      refine bodyPost_ret (v := .agg #[.int .i64 2, .int .i64 q, .string ⟨#[]⟩, .int .i64 0]) (by simp [results, Try.results55, go_sem, q0, q1, q2, q3]) rfl ⟨⟨2, q, ⟨#[]⟩, 0⟩, keyP_int (by omega) (by omega), rfl, ?_⟩
      have := HR3.out.put4 HH.out HO5.out (.int .i64 2) (.int .i64 q) (.string ⟨#[]⟩) (.int .i64 0)
      exact ⟨this.1.mono (by omega), this.2⟩
  · have hy2 : ((y : Int) == 2) = false := by simp; omega
    have hp := pick_r 4 HR.out (by omega) (by omega) (by omega)
    clear y0 y1 y2
    go_wp2_with fail
    refine hp.mono ?_
    clear hp
    rintro e w3 ⟨⟨q, hq, rfl⟩, HR3, HO4⟩
    have HB3 : Hid (Empty4 w3 w.heap.size) := HB.out.only HO4.out hne
    have HO5 : Hid (Only (fun k => k = CB) w w3) := HO1.out.trans HO4.out
    obtain ⟨c0, c1, c2, c3, z0⟩ := four HB3.out
    clear HO1 HO4 HR HB
    go_wp2
    obtain ⟨q0, q1, q2, q3, _⟩ := four (put4_at HB3.out (.int .i64 2) (.int .i64 q) (.string ⟨#[]⟩) (.int .i64 0))
    refine bodyPost_ret (v := .agg #[.int .i64 2, .int .i64 q, .string ⟨#[]⟩, .int .i64 0]) (by simp [results, Try.results55, go_sem, q0, q1, q2, q3]) rfl ⟨⟨2, q, ⟨#[]⟩, 0⟩, keyP_int (by omega) (by omega), rfl, ?_⟩
    have := HR3.out.put4 HH.out HO5.out (.int .i64 2) (.int .i64 q) (.string ⟨#[]⟩) (.int .i64 0)
    exact ⟨this.1.mono (by omega), this.2⟩

theorem key_r (h : Rd w CB ca cl cc cb co t) (ht : t ≤ 70000000) :
    Calls Try.prog 55 #[.pointer (some ⟨CB, 0, none⟩)] w (DrewV w CB ca cl cc cb co (t + 30)) :=
  (key_p h ht).mono (fun _ _ ⟨v, hv, h1, h2, h3⟩ => ⟨v, hv.1, h1, h2, h3⟩)

set_option maxHeartbeats 1000000 in
set_option maxRecDepth 100000 in
/-- 'val'. -/
theorem val_p (n : Nat) (hn : n ≤ 200) (h : Rd w CB ca cl cc cb co t) (ht : t ≤ 60000000) :
    Calls Try.prog 57 #[.pointer (some ⟨CB, 0, none⟩), .int .i64 n] w (DrewP (valP n) w CB ca cl cc cb co (t + 40)) := by
  by_cases n0 : n = 0
  · subst n0
    have hp := key_p (h.alloc (.cells #[.int .i64 0, .int .i64 0, .string ⟨#[]⟩, .int .i64 0] 24)) (by omega)
    have HO0 : Hid (Only (fun k => k = CB) w (w.alloc (.cells #[.int .i64 0, .int .i64 0, .string ⟨#[]⟩, .int .i64 0] 24))) := (Only.refl _ _).alloc _
    have hne : w.heap.size ≠ CB := by have := h.blocks.1; omega
    have HH : Hid (Rd w CB ca cl cc cb co t) := h
    clear h
    go_enter Try.func57, Try.ntmps57
    go_wp2_with fail
    refine hp.mono ?_
    clear hp
    rintro e w2 ⟨v, hv, rfl, hR2, hO2⟩
    have HR2 : Hid _ := hR2
    have HO3 : Hid (Only (fun k => k = CB) w w2) := HO0.out.trans hO2
    have HB2 : Hid (Empty4 w2 w.heap.size) := (Empty4.new w).only hO2 hne
    clear hR2 hO2 HO0
    obtain ⟨c0, c1, c2, c3, z0⟩ := four HB2.out
    go_wp2
    obtain ⟨q0, q1, q2, q3, _⟩ := four (put4_at HB2.out (.int .i64 v.k) (.int .i64 v.n) (.string v.s) (.int .i64 v.a))
    refine bodyPost_ret (v := .agg #[.int .i64 v.k, .int .i64 v.n, .string v.s, .int .i64 v.a]) (by simp [results, Try.results57, go_sem, q0, q1, q2, q3]) rfl ⟨v, valP_key hv, rfl, ?_⟩
    have := HR2.out.put4 HH.out HO3.out (.int .i64 v.k) (.int .i64 v.n) (.string v.s) (.int .i64 v.a)
    exact ⟨this.1.mono (by omega), this.2⟩
  have nz : ¬ (n : Int) = 0 := by omega
  have nzb : ((n : Int) == 0) = false := by simp; omega
  have hp := pick_r 3 (h.alloc (.cells #[.int .i64 0, .int .i64 0, .string ⟨#[]⟩, .int .i64 0] 24)) (by omega) (by omega) (by omega)
  have HO0 : Hid (Only (fun k => k = CB) w (w.alloc (.cells #[.int .i64 0, .int .i64 0, .string ⟨#[]⟩, .int .i64 0] 24))) := (Only.refl _ _).alloc _
  have hne : w.heap.size ≠ CB := by have := h.blocks.1; omega
  have HH : Hid (Rd w CB ca cl cc cb co t) := h
  clear h
  go_enter Try.func57, Try.ntmps57
  go_wp2_with fail
  refine hp.mono ?_
  clear hp
  rintro e w1 ⟨⟨y, hy, rfl⟩, HR, HO⟩
  have HB : Hid (Empty4 w1 w.heap.size) := (Empty4.new w).only HO.out hne
  have HO1 : Hid (Only (fun k => k = CB) w w1) := HO0.out.trans HO.out
  clear HO HO0
  by_cases y0 : y = 0
  · subst y0
    clear hy
    have hp := key_p HR.out (by omega)
    go_wp2_with fail
    refine hp.mono ?_
    clear hp
    rintro e w2 ⟨v, hv, rfl, hR2, hO2⟩
    have HR2 : Hid _ := hR2
    have HO2 : Hid _ := hO2
    clear hR2 hO2
    have HB2 : Hid (Empty4 w2 w.heap.size) := HB.out.only HO2.out hne
    have HO3 : Hid (Only (fun k => k = CB) w w2) := HO1.out.trans HO2.out
    obtain ⟨c0, c1, c2, c3, z0⟩ := four HB2.out
    clear HO1 HO2 HR HB
    go_wp2
    obtain ⟨q0, q1, q2, q3, _⟩ := four (put4_at HB2.out (.int .i64 v.k) (.int .i64 v.n) (.string v.s) (.int .i64 v.a))
    refine bodyPost_ret (v := .agg #[.int .i64 v.k, .int .i64 v.n, .string v.s, .int .i64 v.a]) (by simp [results, Try.results57, go_sem, q0, q1, q2, q3]) rfl ⟨v, valP_key hv, rfl, ?_⟩
    have := HR2.out.put4 HH.out HO3.out (.int .i64 v.k) (.int .i64 v.n) (.string v.s) (.int .i64 v.a)
    exact ⟨this.1.mono (by omega), this.2⟩
  · have hy0 : ((y : Int) == 0) = false := by simpa using y0
    have hp := pick_r n HR.out (by omega) hn (by omega)
    clear y0
    go_wp2_with fail
    refine hp.mono ?_
    clear hp
    rintro e w3 ⟨⟨q, hq, rfl⟩, HR3, HO4⟩
    have HB3 : Hid (Empty4 w3 w.heap.size) := HB.out.only HO4.out hne
    have HO5 : Hid (Only (fun k => k = CB) w w3) := HO1.out.trans HO4.out
    obtain ⟨c0, c1, c2, c3, z0⟩ := four HB3.out
    clear HO1 HO4 HR HB
    go_wp2
    obtain ⟨q0, q1, q2, q3, _⟩ := four (put4_at HB3.out (.int .i64 4) (.int .i64 0) (.string ⟨#[]⟩) (.int .i64 q))
    refine bodyPost_ret (v := .agg #[.int .i64 4, .int .i64 0, .string ⟨#[]⟩, .int .i64 q]) (by simp [results, Try.results57, go_sem, q0, q1, q2, q3]) rfl ⟨⟨4, 0, ⟨#[]⟩, q⟩, valP_tab hq, rfl, ?_⟩
    have := HR3.out.put4 HH.out HO5.out (.int .i64 4) (.int .i64 0) (.string ⟨#[]⟩) (.int .i64 q)
    exact ⟨this.1.mono (by omega), this.2⟩
theorem val_r (h : Rd w CB ca cl cc cb co t) (ht : t ≤ 60000000) :
    Calls Try.prog 57 #[.pointer (some ⟨CB, 0, none⟩), .int .i64 2] w (DrewV w CB ca cl cc cb co (t + 40)) :=
  (val_p 2 (by omega) h ht).mono (fun _ _ ⟨v, hv, h1, h2, h3⟩ => ⟨v, hv.1, h1, h2, h3⟩)
end

end Go.Proofs.Ytgflalfiopnmnaa
