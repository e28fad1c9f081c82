import Derived.Test.YtgflalfiopnmnaaKyKey
namespace Go.Proofs.Ytgflalfiopnmnaa
open Go.RowKit Vl

section
variable {w w' : World} {CB : Nat} {ca : Option Addr} {cl cc cb co t t' : Nat}

/-- The world ahead of the draws: two empty results, the reader. -/
abbrev dk0 (w : World) (ca : Option Addr) (cl cc : Nat) : World :=
  ((w.alloc (.cells #[.int .i64 0, .int .i64 0, .string ⟨#[]⟩, .int .i64 0] 24)).alloc (.cells #[.int .i64 0, .int .i64 0, .string ⟨#[]⟩, .int .i64 0] 24)).alloc (.cells #[.slice ca cl cc, .int .i64 0, .int .u64 0] 55)

theorem dk0_rd (hB : ByteR w ca cl cb co) (hcl : cl ≤ 1048576) : Rd (dk0 w ca cl cc) (w.heap.size + 2) ca cl cc cb co 0 := by
  have hb : Below w.heap.size w (dk0 w ca cl cc) := (((Below.refl _ _).alloc (Nat.le_refl _) _).alloc (by simp) _).alloc (by simp; omega) _
  refine ⟨⟨0, 0, Nat.le_refl _, ?_⟩, fun i hi => ?_, fun h e => ?_, hcl⟩
  · have := heap_alloc_new ((w.alloc (.cells #[.int .i64 0, .int .i64 0, .string ⟨#[]⟩, .int .i64 0] 24)).alloc (.cells #[.int .i64 0, .int .i64 0, .string ⟨#[]⟩, .int .i64 0] 24)) (.cells #[.slice ca cl cc, .int .i64 0, .int .u64 0] 55)
    simpa using this
  · obtain ⟨e, x, hx, hc⟩ := hB i hi
    exact ⟨e, x, hx, (hb.cell (p := ⟨cb, co + i, none⟩) (World.block_lt_of_cell? _ _ hc)).trans hc⟩
  · obtain ⟨_, x, _, hc⟩ := hB 0 h
    have := World.block_lt_of_cell? _ _ hc
    simp at this
    omega

/-- Four stores leave another block alone. -/
theorem put4_far {w : World} {B b : Nat} {a' b' c' d' : Value} (h : b ≠ B) : ((((w.setCell ⟨B, 0, none⟩ a').setCell ⟨B, 1, none⟩ b').setCell ⟨B, 2, none⟩ c').setCell ⟨B, 3, none⟩ d').heap[b]? = w.heap[b]? := by
  rw [Below.heap_setCell _ _ _ _ h, Below.heap_setCell _ _ _ _ h, Below.heap_setCell _ _ _ _ h, Below.heap_setCell _ _ _ _ h]

theorem keep4 {w : World} {B b : Nat} {a' b' c' d' : Value} {k n : Int} {s : ByteArray} {a : Int}
    (h : w.cell? ⟨b, 0, none⟩ = some (.int .i64 k) ∧ w.cell? ⟨b, 1, none⟩ = some (.int .i64 n) ∧ w.cell? ⟨b, 2, none⟩ = some (.string s) ∧ w.cell? ⟨b, 3, none⟩ = some (.int .i64 a)) (hne : b ≠ B) :
    ((((w.setCell ⟨B, 0, none⟩ a').setCell ⟨B, 1, none⟩ b').setCell ⟨B, 2, none⟩ c').setCell ⟨B, 3, none⟩ d').cell? ⟨b, 0, none⟩ = some (.int .i64 k) ∧ ((((w.setCell ⟨B, 0, none⟩ a').setCell ⟨B, 1, none⟩ b').setCell ⟨B, 2, none⟩ c').setCell ⟨B, 3, none⟩ d').cell? ⟨b, 1, none⟩ = some (.int .i64 n) ∧ ((((w.setCell ⟨B, 0, none⟩ a').setCell ⟨B, 1, none⟩ b').setCell ⟨B, 2, none⟩ c').setCell ⟨B, 3, none⟩ d').cell? ⟨b, 2, none⟩ = some (.string s) ∧ ((((w.setCell ⟨B, 0, none⟩ a').setCell ⟨B, 1, none⟩ b').setCell ⟨B, 2, none⟩ c').setCell ⟨B, 3, none⟩ d').cell? ⟨b, 3, none⟩ = some (.int .i64 a) := by
  have e := put4_far (w := w) (a' := a') (b' := b') (c' := c') (d' := d') hne
  generalize ((((w.setCell ⟨B, 0, none⟩ a').setCell ⟨B, 1, none⟩ b').setCell ⟨B, 2, none⟩ c').setCell ⟨B, 3, none⟩ d') = w' at e
  refine ⟨?_, ?_, ?_, ?_⟩
  · rw [World.cell?_of_block e]; exact h.1
  · rw [World.cell?_of_block e]; exact h.2.1
  · rw [World.cell?_of_block e]; exact h.2.2.1
  · rw [World.cell?_of_block e]; exact h.2.2.2

theorem ValAt.only1 {w w' : World} {b o CB : Nat} {k n : Int} {s : ByteArray} {a : Int} (h : ValAt w b o k n s a) (ho : Only (fun k => k = CB) w w') (hP : b ≠ CB) : ValAt w' b o k n s a :=
  ⟨ho.cell h.1 hP, ho.cell h.2.1 hP, ho.cell h.2.2.1 hP, ho.cell h.2.2.2 hP⟩

/-- What is known behind the second draw. -/
def Later (w0 : World) (R A : Nat) (u : V) : Prop := ∀ (w : World) (v : V), Only (fun k => k = R + 2) w0 w →
  Hid (w.cell? ⟨A, 0, none⟩ = some (.int .i64 u.k) ∧ w.cell? ⟨A, 1, none⟩ = some (.int .i64 u.n) ∧ w.cell? ⟨A, 2, none⟩ = some (.string u.s) ∧ w.cell? ⟨A, 3, none⟩ = some (.int .i64 u.a)) ∧
  Hid (((((w.setCell ⟨R, 0, none⟩ (.int .i64 u.k)).setCell ⟨R, 1, none⟩ (.int .i64 u.n)).setCell ⟨R, 2, none⟩ (.string u.s)).setCell ⟨R, 3, none⟩ (.int .i64 u.a)).cell? ⟨A, 0, none⟩ = some (.int .i64 u.k) ∧ ((((w.setCell ⟨R, 0, none⟩ (.int .i64 u.k)).setCell ⟨R, 1, none⟩ (.int .i64 u.n)).setCell ⟨R, 2, none⟩ (.string u.s)).setCell ⟨R, 3, none⟩ (.int .i64 u.a)).cell? ⟨A, 1, none⟩ = some (.int .i64 u.n) ∧ ((((w.setCell ⟨R, 0, none⟩ (.int .i64 u.k)).setCell ⟨R, 1, none⟩ (.int .i64 u.n)).setCell ⟨R, 2, none⟩ (.string u.s)).setCell ⟨R, 3, none⟩ (.int .i64 u.a)).cell? ⟨A, 2, none⟩ = some (.string u.s) ∧ ((((w.setCell ⟨R, 0, none⟩ (.int .i64 u.k)).setCell ⟨R, 1, none⟩ (.int .i64 u.n)).setCell ⟨R, 2, none⟩ (.string u.s)).setCell ⟨R, 3, none⟩ (.int .i64 u.a)).cell? ⟨A, 3, none⟩ = some (.int .i64 u.a)) ∧
  Hid (∀ w2, w2 = ((((((((w.setCell ⟨R, 0, none⟩ (.int .i64 u.k)).setCell ⟨R, 1, none⟩ (.int .i64 u.n)).setCell ⟨R, 2, none⟩ (.string u.s)).setCell ⟨R, 3, none⟩ (.int .i64 u.a)).setCell ⟨R + 1, 0, none⟩ (.int .i64 v.k)).setCell ⟨R + 1, 1, none⟩ (.int .i64 v.n)).setCell ⟨R + 1, 2, none⟩ (.string v.s)).setCell ⟨R + 1, 3, none⟩ (.int .i64 v.a)) →
    w2.cell? ⟨A, 0, none⟩ = some (.int .i64 u.k) ∧ w2.cell? ⟨A, 1, none⟩ = some (.int .i64 u.n) ∧ w2.cell? ⟨A, 2, none⟩ = some (.string u.s) ∧ w2.cell? ⟨A, 3, none⟩ = some (.int .i64 u.a)) ∧
  w.cell? ⟨R, 0, none⟩ = some (.int .i64 0) ∧ w.cell? ⟨R, 1, none⟩ = some (.int .i64 0) ∧ w.cell? ⟨R, 2, none⟩ = some (.string ⟨#[]⟩) ∧ w.cell? ⟨R, 3, none⟩ = some (.int .i64 0) ∧ (∀ i, w.frozen? ⟨R, i, none⟩ = false) ∧
  w.cell? ⟨R + 1, 0, none⟩ = some (.int .i64 0) ∧ w.cell? ⟨R + 1, 1, none⟩ = some (.int .i64 0) ∧ w.cell? ⟨R + 1, 2, none⟩ = some (.string ⟨#[]⟩) ∧ w.cell? ⟨R + 1, 3, none⟩ = some (.int .i64 0) ∧ (∀ i, w.frozen? ⟨R + 1, i, none⟩ = false) ∧ Hid (Empty4 w R) ∧ Hid (Empty4 w (R + 1))

theorem later_any {w0 : World} {R A : Nat} {u : V} (h0 : A ≠ R) (h1 : A ≠ R + 1) (h2 : A ≠ R + 2) (hA : ValAt w0 A 0 u.k u.n u.s u.a) (hR : Empty4 w0 R) (hR1 : Empty4 w0 (R + 1)) : Later w0 R A u := by
  intro w v ho
  have hA' := hA.only1 ho h2
  have e0 := hR.only ho (by omega)
  have e1 := hR1.only ho (by omega)
  obtain ⟨c0, c1, c2, c3, z0⟩ := four e0
  obtain ⟨d0, d1, d2, d3, z1⟩ := four e1
  refine ⟨hA', keep4 hA' h0, ?_, c0, c1, c2, c3, z0, d0, d1, d2, d3, z1, e0, e1⟩
  rintro w2 rfl
  exact keep4 (keep4 hA' h0) h1

theorem dk0_e0 : Empty4 (dk0 w ca cl cc) w.heap.size := by
  have h := Empty4.new w
  unfold Empty4 at h ⊢
  have hb : Below (w.heap.size + 1) (w.alloc (.cells #[.int .i64 0, .int .i64 0, .string ⟨#[]⟩, .int .i64 0] 24)) (dk0 w ca cl cc) := ((Below.refl _ _).alloc (by simp) _).alloc (by simp) _
  rw [hb.block _ (by omega)]
  exact h
theorem dk0_e1 : Empty4 (dk0 w ca cl cc) (w.heap.size + 1) := by
  have h := Empty4.new (w.alloc (.cells #[.int .i64 0, .int .i64 0, .string ⟨#[]⟩, .int .i64 0] 24))
  have e : (w.alloc (.cells #[.int .i64 0, .int .i64 0, .string ⟨#[]⟩, .int .i64 0] 24)).heap.size = w.heap.size + 1 := by simp
  rw [e] at h
  unfold Empty4 at h ⊢
  rw [Below.heap_alloc _ _ _ (lt_of_block h)]
  exact h

set_option maxHeartbeats 1000000 in
set_option maxRecDepth 100000 in
/-- 'DrawKeyOrder'. -/
theorem drawKo_any (w : World) (hB : ByteR w ca cl cb co) (hcl : cl ≤ 1048576) :
    Calls Try.prog 24 #[.slice ca cl cc] w fun e w' => (∃ u v : V, u.s.size ≤ 500 ∧ v.s.size ≤ 500 ∧ e = .returned (.tuple #[.agg #[.int .i64 u.k, .int .i64 u.n, .string u.s, .int .i64 u.a], .agg #[.int .i64 v.k, .int .i64 v.n, .string v.s, .int .i64 v.a]])) ∧ Below w.heap.size w w' := by
  have HR0 : Hid (Rd (dk0 w ca cl cc) (w.heap.size + 2) ca cl cc cb co 0) := dk0_rd hB hcl
  have HB0 : Hid (Below w.heap.size w (dk0 w ca cl cc)) := (((Below.refl _ _).alloc (Nat.le_refl _) _).alloc (by simp) _).alloc (by simp; omega) _
  have hs0 : (dk0 w ca cl cc).heap.size = w.heap.size + 3 := by simp [dk0]
  have hp := key_r HR0.out (by omega)
  clear hB
  go_enter Try.func24, Try.ntmps24
  go_wp2_with fail
  refine hp.mono ?_
  clear hp
  rintro e w1 ⟨u, hu, rfl, hR1, hO1⟩
  have HR1 : Hid (Rd w1 (w.heap.size + 2) ca cl cc cb co (0 + 30)) := hR1
  have HO1 : Hid (Only (fun k => k = w.heap.size + 2) (dk0 w ca cl cc) w1) := hO1
  have HE0 : Hid (Empty4 w1 w.heap.size) := dk0_e0.only hO1 (by omega)
  have HE1 : Hid (Empty4 w1 (w.heap.size + 1)) := dk0_e1.only hO1 (by omega)
  have hsz1 : w.heap.size + 3 ≤ w1.heap.size := by have := hO1.size; omega
  clear hR1 hO1 hs0
  have hp := pick_r 8 (HR1.out.alloc (.cells #[.int .i64 u.k, .int .i64 u.n, .string u.s, .int .i64 u.a] 24)) (by omega) (by omega) (by omega)
  have HA1 : Hid (ValAt (w1.alloc (.cells #[.int .i64 u.k, .int .i64 u.n, .string u.s, .int .i64 u.a] 24)) w1.heap.size 0 u.k u.n u.s u.a) := ValAt.new w1 u.k u.n u.s u.a
  go_wp2_with fail
  refine hp.mono ?_
  clear hp
  rintro e w2 ⟨⟨y, hy, rfl⟩, HR2, HO2⟩
  have HA : Hid (ValAt w2 w1.heap.size 0 u.k u.n u.s u.a) := HA1.out.only1 HO2.out (by omega)
  have HOa : Hid (Only (fun k => k = w.heap.size + 2) w1 w2) := ((Only.refl _ _).alloc _).trans HO2.out
  have HBa : Hid (Empty4 w2 w.heap.size) := HE0.out.only HOa.out (by omega)
  have HBb : Hid (Empty4 w2 (w.heap.size + 1)) := HE1.out.only HOa.out (by omega)
  have HBel : Hid (Below w.heap.size w w2) := HB0.out.trans ((HO1.out.trans HOa.out).toBelow (fun k e => by omega) (by have := HB0.out.size; omega))
  have HR2d : Hid (Rd w2.drew (w.heap.size + 2) ca cl cc cb co (0 + 30 + 2)) := HR2.out.below ((Below.refl _ _).drew)
  have hn0 : w1.heap.size ≠ w.heap.size := by omega
  have hn1 : w1.heap.size ≠ w.heap.size + 1 := by omega
  have hn2 : w1.heap.size ≠ w.heap.size + 2 := by omega
  clear HA1 HE0 HE1 HO1 HO2 HR1 HOa HB0
  by_cases y0 : y = 0
  · subst y0
    have HB0 : Hid (Empty4 w2.drew w.heap.size) := HBa.out
    have HB1 : Hid (Empty4 w2.drew (w.heap.size + 1)) := HBb.out
    have HAd : Hid (ValAt w2.drew w1.heap.size 0 u.k u.n u.s u.a) := HA.out
    obtain ⟨a0, a1, a2, a3⟩ := HA.out
    simp only [Nat.zero_add] at a1 a2 a3
    have B0 : Hid (w2.drew.cell? ⟨w1.heap.size, 0, none⟩ = some (.int .i64 u.k) ∧ w2.drew.cell? ⟨w1.heap.size, 1, none⟩ = some (.int .i64 u.n) ∧ w2.drew.cell? ⟨w1.heap.size, 2, none⟩ = some (.string u.s) ∧ w2.drew.cell? ⟨w1.heap.size, 3, none⟩ = some (.int .i64 u.a)) := show _ ∧ _ from ⟨a0, a1, a2, a3⟩
    have HL : Hid (Later w2.drew w.heap.size w1.heap.size u) := later_any hn0 hn1 hn2 HAd.out HB0.out HB1.out
    have HB2 : Hid (Below w.heap.size w w2.drew) := HBel.out.drew
    clear HR2 HBel HA HBa HBb HB0 HB1 HAd hsz1 hy
    go_wp2
    refine wp_region_held_drew (S := fun w' => w'.cell? ⟨w1.heap.size, 0, none⟩ = some (.int .i64 u.k) ∧ w'.cell? ⟨w1.heap.size, 1, none⟩ = some (.int .i64 u.n) ∧ w'.cell? ⟨w1.heap.size, 2, none⟩ = some (.string u.s) ∧ w'.cell? ⟨w1.heap.size, 3, none⟩ = some (.int .i64 u.a)) (by kernel_rfl) ⟨a0, a1, a2, a3⟩ (fun hHeld => ?_)
    refine wpAnyH_take (i := 0) (v := .agg #[.int .i64 u.k, .int .i64 u.n, .string u.s, .int .i64 u.a]) rfl (by kernel_rfl) (by kernel_rfl) (by kernel_rfl) (fun _ _ _ h => h) (Or.inl ⟨by rfl, fun w hSw => ?_⟩) hHeld ?_
    · obtain ⟨s1, s2, s3, s4⟩ := hSw; go_simp
    simp only [Act.put, List.setIfInBounds_toArray, List.set_cons_zero, List.set_cons_succ, List.getElem_toArray, List.getElem_cons_zero]
    refine wpAnyH_take (i := 1) (v := .pointer (some ⟨w.heap.size + 1 + 1, 0, none⟩)) rfl (by kernel_rfl) (by kernel_rfl) (by kernel_rfl) (fun _ _ _ h => h) (Or.inl ⟨by rfl, fun w hSw => ?_⟩) hHeld ?_
    · rfl
    simp only [Act.put, List.setIfInBounds_toArray, List.set_cons_zero, List.set_cons_succ, List.getElem_toArray, List.getElem_cons_zero, List.getElem_cons_succ]
    refine wpAnyH_ready (rs := [2]) (by kernel_rfl) (by simp) ?_
    refine AllReadyH.cons rfl (fun K' hK' => ?_) AllReadyH.nil
    go_simp
    refine (val_r HR2d.out (by omega)).mono ?_
    rintro e w3 ⟨v, hv, rfl, hR3, hO3⟩
    obtain ⟨B1, B2, B3, c0, c1, c2, c3, z0, d0, d1, d2, d3, z1, HC0, HC1⟩ := HL.out w3 v hO3
    have HO3 : Hid (Only (fun k => k = w.heap.size + 2) w2.drew w3) := hO3
    clear hR3 hO3 HL
    refine hK'.out _ _ B1.out (fun hHeld => ?_)
    clear hK'
    refine wpAnyH_ready (rs := [3]) (by kernel_rfl) (by simp) ?_
    refine AllReadyH.cons rfl (fun K' hK' => ?_) AllReadyH.nil
    go_simp
    refine hK'.out _ _ B2.out (fun hHeld => ?_)
    clear hK' hHeld
    obtain ⟨w4, hw4⟩ : ∃ w4, w4 = ((((w3.setCell ⟨w.heap.size, 0, none⟩ (.int .i64 u.k)).setCell ⟨w.heap.size, 1, none⟩ (.int .i64 u.n)).setCell ⟨w.heap.size, 2, none⟩ (.string u.s)).setCell ⟨w.heap.size, 3, none⟩ (.int .i64 u.a)) := ⟨_, rfl⟩
    rw [← hw4]
    have HP0 : Hid (w4.heap[w.heap.size]? = some (.cells #[.int .i64 u.k, .int .i64 u.n, .string u.s, .int .i64 u.a] 24 (0, 0))) := by rw [hw4]; exact put4_at HC0.out _ _ _ _
    have HP1 : Hid (Empty4 w4 (w.heap.size + 1)) := by rw [hw4]; exact (put4_far (by omega)).trans HC1.out
    have HO4 : Hid (Below w.heap.size w3 w4) := by rw [hw4]; exact put4_below _ _ _ _ _ _
    have HA4 : Hid (ValAt w4 w1.heap.size 0 u.k u.n u.s u.a) := by rw [hw4]; exact B2.out
    clear hw4 HC0 HC1 B1 B2 B3 c0 c1 c2 c3 z0 d0 d1 d2 d3 z1
    obtain ⟨d0, d1, d2, d3, z1⟩ := four HP1.out
    refine wpAnyH_ready (rs := [4]) (by kernel_rfl) (by simp) ?_
    refine AllReadyH.cons rfl (fun K' hK' => ?_) AllReadyH.nil
    go_simp
    refine hK'.out _ _ (keep4 HA4.out hn1) (fun hHeld => ?_)
    clear hK' hHeld
    refine wpAnyH_done (by kernel_rfl) ?_ _
    obtain ⟨w5, hw5⟩ : ∃ w5, w5 = ((((w4.setCell ⟨w.heap.size + 1, 0, none⟩ (.int .i64 v.k)).setCell ⟨w.heap.size + 1, 1, none⟩ (.int .i64 v.n)).setCell ⟨w.heap.size + 1, 2, none⟩ (.string v.s)).setCell ⟨w.heap.size + 1, 3, none⟩ (.int .i64 v.a)) := ⟨_, rfl⟩
    rw [← hw5]
    have HQ0 : w5.heap[w.heap.size]? = some (.cells #[.int .i64 u.k, .int .i64 u.n, .string u.s, .int .i64 u.a] 24 (0, 0)) := by rw [hw5]; exact (put4_far (by omega)).trans HP0.out
    have HQ1 : w5.heap[w.heap.size + 1]? = some (.cells #[.int .i64 v.k, .int .i64 v.n, .string v.s, .int .i64 v.a] 24 (0, 0)) := by rw [hw5]; exact put4_at HP1.out _ _ _ _
    have HO5 : Hid (Below w.heap.size w w5) := by
      rw [hw5]
      exact ((HB2.out.trans (HO3.out.toBelow (fun k e => by omega) HB2.out.size)).trans HO4.out).trans ((put4_below _ _ _ _ _ _).mono (by omega))
    obtain ⟨q0, q1, q2, q3, _⟩ := four HQ0
    obtain ⟨r0, r1, r2, r3, _⟩ := four HQ1
    clear hw5 HQ0 HQ1 HP0 HP1 HO4 HO3 HA4 d0 d1 d2 d3 z1
    go_wp2
    refine bodyPost_ret (v := .tuple #[.agg #[.int .i64 u.k, .int .i64 u.n, .string u.s, .int .i64 u.a], .agg #[.int .i64 v.k, .int .i64 v.n, .string v.s, .int .i64 v.a]]) (by simp [results, Try.results24, go_sem, q0, q1, q2, q3, r0, r1, r2, r3]) rfl ?_
    exact ⟨⟨u, v, hu, hv, rfl⟩, HO5.out⟩
  · have hy0 : ((y : Int) == 0) = false := by simpa using y0
    clear y0
    have HB0 : Hid (Empty4 w2.drew w.heap.size) := HBa.out
    have HB1 : Hid (Empty4 w2.drew (w.heap.size + 1)) := HBb.out
    have HAd : Hid (ValAt w2.drew w1.heap.size 0 u.k u.n u.s u.a) := HA.out
    obtain ⟨a0, a1, a2, a3⟩ := HA.out
    simp only [Nat.zero_add] at a1 a2 a3
    have B0 : Hid (w2.drew.cell? ⟨w1.heap.size, 0, none⟩ = some (.int .i64 u.k) ∧ w2.drew.cell? ⟨w1.heap.size, 1, none⟩ = some (.int .i64 u.n) ∧ w2.drew.cell? ⟨w1.heap.size, 2, none⟩ = some (.string u.s) ∧ w2.drew.cell? ⟨w1.heap.size, 3, none⟩ = some (.int .i64 u.a)) := show _ ∧ _ from ⟨a0, a1, a2, a3⟩
    have HL : Hid (Later w2.drew w.heap.size w1.heap.size u) := later_any hn0 hn1 hn2 HAd.out HB0.out HB1.out
    have HB2 : Hid (Below w.heap.size w w2.drew) := HBel.out.drew
    clear HR2 HBel HA HBa HBb HB0 HB1 HAd hsz1 hy
    go_wp2
    refine wp_region_held_drew (S := fun w' => w'.cell? ⟨w1.heap.size, 0, none⟩ = some (.int .i64 u.k) ∧ w'.cell? ⟨w1.heap.size, 1, none⟩ = some (.int .i64 u.n) ∧ w'.cell? ⟨w1.heap.size, 2, none⟩ = some (.string u.s) ∧ w'.cell? ⟨w1.heap.size, 3, none⟩ = some (.int .i64 u.a)) (by kernel_rfl) ⟨a0, a1, a2, a3⟩ (fun hHeld => ?_)
    refine wpAnyH_take (i := 0) (v := .agg #[.int .i64 u.k, .int .i64 u.n, .string u.s, .int .i64 u.a]) rfl (by kernel_rfl) (by kernel_rfl) (by kernel_rfl) (fun _ _ _ h => h) (Or.inl ⟨by rfl, fun w hSw => ?_⟩) hHeld ?_
    · obtain ⟨s1, s2, s3, s4⟩ := hSw; go_simp
    simp only [Act.put, List.setIfInBounds_toArray, List.set_cons_zero, List.set_cons_succ, List.getElem_toArray, List.getElem_cons_zero]
    refine wpAnyH_take (i := 1) (v := .pointer (some ⟨w.heap.size + 1 + 1, 0, none⟩)) rfl (by kernel_rfl) (by kernel_rfl) (by kernel_rfl) (fun _ _ _ h => h) (Or.inl ⟨by rfl, fun w hSw => ?_⟩) hHeld ?_
    · rfl
    simp only [Act.put, List.setIfInBounds_toArray, List.set_cons_zero, List.set_cons_succ, List.getElem_toArray, List.getElem_cons_zero, List.getElem_cons_succ]
    refine wpAnyH_ready (rs := [2]) (by kernel_rfl) (by simp) ?_
    refine AllReadyH.cons rfl (fun K' hK' => ?_) AllReadyH.nil
    go_simp
    refine (key_r HR2d.out (by omega)).mono ?_
    rintro e w3 ⟨v, hv, rfl, hR3, hO3⟩
    obtain ⟨B1, B2, B3, c0, c1, c2, c3, z0, d0, d1, d2, d3, z1, HC0, HC1⟩ := HL.out w3 v hO3
    have HO3 : Hid (Only (fun k => k = w.heap.size + 2) w2.drew w3) := hO3
    clear hR3 hO3 HL
    refine hK'.out _ _ B1.out (fun hHeld => ?_)
    clear hK'
    refine wpAnyH_ready (rs := [3]) (by kernel_rfl) (by simp) ?_
    refine AllReadyH.cons rfl (fun K' hK' => ?_) AllReadyH.nil
    go_simp
    refine hK'.out _ _ B2.out (fun hHeld => ?_)
    clear hK' hHeld
    obtain ⟨w4, hw4⟩ : ∃ w4, w4 = ((((w3.setCell ⟨w.heap.size, 0, none⟩ (.int .i64 u.k)).setCell ⟨w.heap.size, 1, none⟩ (.int .i64 u.n)).setCell ⟨w.heap.size, 2, none⟩ (.string u.s)).setCell ⟨w.heap.size, 3, none⟩ (.int .i64 u.a)) := ⟨_, rfl⟩
    rw [← hw4]
    have HP0 : Hid (w4.heap[w.heap.size]? = some (.cells #[.int .i64 u.k, .int .i64 u.n, .string u.s, .int .i64 u.a] 24 (0, 0))) := by rw [hw4]; exact put4_at HC0.out _ _ _ _
    have HP1 : Hid (Empty4 w4 (w.heap.size + 1)) := by rw [hw4]; exact (put4_far (by omega)).trans HC1.out
    have HO4 : Hid (Below w.heap.size w3 w4) := by rw [hw4]; exact put4_below _ _ _ _ _ _
    have HA4 : Hid (ValAt w4 w1.heap.size 0 u.k u.n u.s u.a) := by rw [hw4]; exact B2.out
    clear hw4 HC0 HC1 B1 B2 B3 c0 c1 c2 c3 z0 d0 d1 d2 d3 z1
    obtain ⟨d0, d1, d2, d3, z1⟩ := four HP1.out
    refine wpAnyH_ready (rs := [4]) (by kernel_rfl) (by simp) ?_
    refine AllReadyH.cons rfl (fun K' hK' => ?_) AllReadyH.nil
    go_simp
    refine hK'.out _ _ (keep4 HA4.out hn1) (fun hHeld => ?_)
    clear hK' hHeld
    refine wpAnyH_done (by kernel_rfl) ?_ _
    obtain ⟨w5, hw5⟩ : ∃ w5, w5 = ((((w4.setCell ⟨w.heap.size + 1, 0, none⟩ (.int .i64 v.k)).setCell ⟨w.heap.size + 1, 1, none⟩ (.int .i64 v.n)).setCell ⟨w.heap.size + 1, 2, none⟩ (.string v.s)).setCell ⟨w.heap.size + 1, 3, none⟩ (.int .i64 v.a)) := ⟨_, rfl⟩
    rw [← hw5]
    have HQ0 : w5.heap[w.heap.size]? = some (.cells #[.int .i64 u.k, .int .i64 u.n, .string u.s, .int .i64 u.a] 24 (0, 0)) := by rw [hw5]; exact (put4_far (by omega)).trans HP0.out
    have HQ1 : w5.heap[w.heap.size + 1]? = some (.cells #[.int .i64 v.k, .int .i64 v.n, .string v.s, .int .i64 v.a] 24 (0, 0)) := by rw [hw5]; exact put4_at HP1.out _ _ _ _
    have HO5 : Hid (Below w.heap.size w w5) := by
      rw [hw5]
      exact ((HB2.out.trans (HO3.out.toBelow (fun k e => by omega) HB2.out.size)).trans HO4.out).trans ((put4_below _ _ _ _ _ _).mono (by omega))
    obtain ⟨q0, q1, q2, q3, _⟩ := four HQ0
    obtain ⟨r0, r1, r2, r3, _⟩ := four HQ1
    clear hw5 HQ0 HQ1 HP0 HP1 HO4 HO3 HA4 d0 d1 d2 d3 z1
    go_wp2
    refine bodyPost_ret (v := .tuple #[.agg #[.int .i64 u.k, .int .i64 u.n, .string u.s, .int .i64 u.a], .agg #[.int .i64 v.k, .int .i64 v.n, .string v.s, .int .i64 v.a]]) (by simp [results, Try.results24, go_sem, q0, q1, q2, q3, r0, r1, r2, r3]) rfl ?_
    exact ⟨⟨u, v, hu, hv, rfl⟩, HO5.out⟩
end

end Go.Proofs.Ytgflalfiopnmnaa
