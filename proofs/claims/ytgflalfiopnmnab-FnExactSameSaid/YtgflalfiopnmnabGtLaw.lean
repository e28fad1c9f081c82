import Derived.Test.YtgflalfiopnmnabGkLaw
import Derived.Test.YtgflalfiopnmnabGtImpl
namespace Go.Proofs.Ytgflalfiopnmnab
open Go.RowKit Vl
open Go.ChangeShapes Go.WideShapes Go.ChangeAt Go.Joins

theorem cellsG_vals : Try.prog.cellsOf 42 = 1 := by kernel_rfl

/-- A slice of values that came in. -/
theorem opens_vals {H : Type} {enc : TypeId × Value → H} {w : World} {base : Nat} {held : Bool} {fuel : Nat} {c : Value} {x : DataW H × List MemPlace} (h : DataW.trod enc Try.prog w base (fun _ => true) held fuel 42 [c] = some x) :
    ∃ (pa : Option Addr) (L C B O : Nat) (P : Nat → V), c = .slice pa L C ∧ L ≤ 9223372036854775807 ∧ ValsAt w pa L B O P ∧ ∀ j, j < L → (P j).s.size ≤ 9223372036854775807 := by
  rcases Deep.open_slice Try.underlying42 h with ⟨hcs, _⟩ | ⟨a, len, cap, m, n, D, Pl, hcs, hb, hl, hm, hmm, hx, hall⟩
  · obtain rfl : c = .slice none 0 0 := by simpa using hcs
    exact ⟨none, 0, 0, 0, 0, fun _ => ⟨0, 0, ⟨#[]⟩, 0⟩, rfl, by omega, ⟨fun h => by omega, fun j hj => by omega⟩, fun j hj => by omega⟩
  · obtain rfl : c = .slice (some a) len cap := by simpa using hcs
    unfold maxLen at hm
    simp only [if_true] at hmm
    have each : ∀ j, j < len → ∃ q : V, (∀ i v, (vCells q)[i]? = some v → w.cell? (a.add (j * 4 + i)) = some v) ∧ q.s.size ≤ 9223372036854775807 := by
      intro j hj
      obtain ⟨cs', h1, h2⟩ := hall j (by omega)
      rw [cellsG_val] at h1
      obtain ⟨u, rfl, su⟩ := opens_val h2
      obtain ⟨_, hlen, hcell⟩ := World.cells?_some h1
      refine ⟨u, fun i y hy => ?_, su⟩
      have hi : i < 4 := by
        rcases Nat.lt_or_ge i 4 with h | h
        · exact h
        · rw [List.getElem?_eq_none (by simp [vCells]; omega)] at hy; cases hy
      have := hcell i hi
      rw [Deep.add_add, hy] at this
      exact this
    obtain ⟨q, hq⟩ := Deep.choose_lt (α := V) (n := len) (p := fun j q => (∀ i v, (vCells q)[i]? = some v → w.cell? (a.add (j * 4 + i)) = some v) ∧ q.s.size ≤ 9223372036854775807) each
    have hp : 0 < len → a = ⟨a.block, a.off, none⟩ := fun h0 => plain_of (v := .int .i64 (q 0).k) (by have := (hq 0 h0).1 0 _ rfl; simpa using this)
    refine ⟨some a, len, cap, a.block, a.off, q, rfl, by omega, ⟨fun h0 => by rw [← hp h0], fun j hj => ?_⟩, fun j hj => (hq j hj).2⟩
    have g : ∀ i v, (vCells (q j))[i]? = some v → w.cell? ⟨a.block, a.off + (j * 4 + i), none⟩ = some v := fun i v hv => by
      have := (hq j hj).1 i v hv
      rw [hp (by omega), add_plain] at this
      exact this
    exact ⟨g 0 _ rfl, g 1 _ rfl, g 2 _ rfl, g 3 _ rfl⟩

set_option maxHeartbeats 1000000 in
set_option maxRecDepth 100000 in
theorem getLaw (u : V) (pa : Option Addr) (m mc PB PO : Nat) (P : Nat → V) (ta : Option Addr) (n cp TB TO : Nat) (A : Nat → Option Addr) (L C RB RO : Nat → Nat) (K X : Nat → Nat → V) (w : World) (hu : u.s.size ≤ 9223372036854775807) (hn : n ≤ 9223372036854775807) (hm : m ≤ 9223372036854775807)
    (HS : Hid (Small 9223372036854775807 n L K X)) (HT : Hid (TabsAt w ta n TB TO A L C RB RO K X)) (HPS : Hid (∀ j, j < m → (P j).s.size ≤ 9223372036854775807)) (HP : Hid (ValsAt w pa m PB PO P)) :
    Calls Try.prog 6 #[.agg #[.int .i64 u.k, .int .i64 u.n, .string u.s, .int .i64 u.a, .slice ta n cp], .slice pa m mc] w fun e w' => e = .returned (.bool true) ∧ Below w.heap.size w w' := by
  obtain ⟨w0, hw0⟩ : ∃ w0, w0 = w.alloc (.cells #[.int .i64 u.k, .int .i64 u.n, .string u.s, .int .i64 u.a, .slice ta n cp] 26) := ⟨_, rfl⟩
  have HB0 : Hid (Below w.heap.size w w0) := by rw [hw0]; exact (Below.refl _ _).alloc (Nat.le_refl _) _
  have G0 : Hid (w0.heap[w.heap.size]? = some (.cells #[.int .i64 u.k, .int .i64 u.n, .string u.s, .int .i64 u.a, .slice ta n cp] 26 (0, 0))) := by rw [hw0]; exact heap_alloc_new _ _
  have hsz := szGraph_any u ta n cp TB TO A L C RB RO K X 1048576 w0 (by omega) (by omega) hu hn HS (HT.out.below HB0.out)
  go_enter Try.func6, Try.ntmps6
  go_wp2_with fail
  rw [← hw0]
  refine hsz.mono ?_
  clear hsz hw0
  rintro e w1 ⟨⟨q, rfl, hq1, hq2⟩, hb1⟩
  have G1 : Hid (w1.heap[w.heap.size]? = some (.cells #[.int .i64 u.k, .int .i64 u.n, .string u.s, .int .i64 u.a, .slice ta n cp] 26 (0, 0))) := blkB G0.out hb1
  have HB1 : Hid (Below w.heap.size w w1) := grw HB0.out hb1
  clear hb1 G0 HB0
  by_cases hq : q < 0
  · clear hq2
    go_wp2
    go_ret
    exact ⟨rfl, HB1.out⟩
  obtain ⟨_, hn1, hsm⟩ := hq2 (by omega)
  have HSm : Hid (Small 1048576 n L K X) := hsm
  clear hq2 hsm HS
  have hsz := szValS_any pa m mc PB PO P q w1 (by omega) (by omega) hm HPS (HP.out.below HB1.out)
  go_wp2_with fail
  refine hsz.mono ?_
  clear hsz
  rintro e w1' ⟨⟨q', rfl, hq1', hq2'⟩, hb1⟩
  have G1' : Hid (w1'.heap[w.heap.size]? = some (.cells #[.int .i64 u.k, .int .i64 u.n, .string u.s, .int .i64 u.a, .slice ta n cp] 26 (0, 0))) := blkB G1.out hb1
  have HB1' : Hid (Below w.heap.size w w1') := grw HB1.out hb1
  clear hb1 G1 HB1
  by_cases hqq : q' < 0
  · clear hq2'
    go_wp2
    go_ret
    exact ⟨rfl, HB1'.out⟩
  have hm1 : m ≤ 1048576 := hq2' (by omega)
  clear hq2' HPS
  obtain ⟨g0, g1, g2, g3, g4, _⟩ := cells5 G1'.out
  have hto := toGraph_any u ta n cp TB TO A L C RB RO K X w1' hn1 HSm (HT.out.below HB1'.out)
  go_wp2_with fail
  refine hto.mono ?_
  clear hto
  rintro e w2 ⟨⟨B2, rfl, _, w02, H2, _, hC2, hR2⟩, hb2⟩
  have HT2 : Hid (TabsAt w2 (some ⟨B2, 0, none⟩) n B2 0 (fun r => some ⟨H2 r, 0, none⟩) L L H2 (fun _ => 0) K X) := hC2.tabs hR2
  have G2 : Hid (w2.heap[w.heap.size]? = some (.cells #[.int .i64 u.k, .int .i64 u.n, .string u.s, .int .i64 u.a, .slice ta n cp] 26 (0, 0))) := blkB G1'.out hb2
  have HB2 : Hid (Below w.heap.size w w2) := grw HB1'.out hb2
  clear hb2 G1' HB1' hC2 hR2 g0 g1 g2 g3 g4
  have htv := toValS_any pa m mc PB PO P w2 hm1 (HP.out.below HB2.out)
  go_wp2_with fail
  refine htv.mono ?_
  clear htv
  rintro e w3 ⟨rfl, hV3, hb3⟩
  have HV3 : Hid (ValsAt w3 (some ⟨w2.heap.size, 0, none⟩) m w2.heap.size 0 P) := hV3
  have HT3 : Hid (TabsAt w3 (some ⟨B2, 0, none⟩) n B2 0 (fun r => some ⟨H2 r, 0, none⟩) L L H2 (fun _ => 0) K X) := HT2.out.below hb3
  have G3 : Hid (w3.heap[w.heap.size]? = some (.cells #[.int .i64 u.k, .int .i64 u.n, .string u.s, .int .i64 u.a, .slice ta n cp] 26 (0, 0))) := blkB G2.out hb3
  have HB3 : Hid (Below w.heap.size w w3) := grw HB2.out hb3
  clear hb3 G2 HB2 HT2 hV3
  have hsp := specGet_any u (some ⟨w2.heap.size, 0, none⟩) m m w2.heap.size 0 P (some ⟨B2, 0, none⟩) n n B2 0 _ L _ _ _ K X w3 hm1 hn1 HSm HV3 HT3
  go_wp2_with fail
  refine hsp.mono ?_
  clear hsp
  rintro e w4 ⟨hcase, hb4⟩
  obtain ⟨x, rfl, HXc⟩ : ∃ x : V, e = .returned (.agg #[.int .i64 x.k, .int .i64 x.n, .string x.s, .int .i64 x.a]) ∧ Hid ((OkG n u L K X ∧ x = lead u L K X P m) ∨ (¬ OkG n u L K X ∧ x = zeroV)) := by
    rcases hcase with ⟨h1, h2⟩ | ⟨h1, h2⟩
    · exact ⟨_, h2, Or.inl ⟨h1, rfl⟩⟩
    · exact ⟨_, h2, Or.inr ⟨h1, rfl⟩⟩
  have G4 : Hid (w4.heap[w.heap.size]? = some (.cells #[.int .i64 u.k, .int .i64 u.n, .string u.s, .int .i64 u.a, .slice ta n cp] 26 (0, 0))) := blkB G3.out hb4
  have HB4 : Hid (Below w.heap.size w w4) := grw HB3.out hb4
  clear hcase hb4 G3 HB3 HT3 HV3
  obtain ⟨w5, hw5⟩ : ∃ w5, w5 = w4.alloc (.cells #[.int .i64 x.k, .int .i64 x.n, .string x.s, .int .i64 x.a] 29) := ⟨_, rfl⟩
  have HB45 : Hid (Below w4.heap.size w4 w5) := by rw [hw5]; exact (Below.refl _ _).alloc (Nat.le_refl _) _
  have X5 : Hid (ValB w5 w4.heap.size x) := by rw [hw5]; exact heap_alloc_new _ _
  have G5 : Hid (w5.heap[w.heap.size]? = some (.cells #[.int .i64 u.k, .int .i64 u.n, .string u.s, .int .i64 u.a, .slice ta n cp] 26 (0, 0))) := blkB G4.out HB45.out
  have HB5 : Hid (Below w.heap.size w w5) := grw HB4.out HB45.out
  obtain ⟨xb, hxb⟩ : ∃ xb, w4.heap.size = xb := ⟨_, rfl⟩
  rw [hxb] at X5
  obtain ⟨g0, g1, g2, g3, g4, _⟩ := cells5 G5.out
  rw [hw5] at g0 g1 g2 g3 g4
  have hto := toGraph_any u ta n cp TB TO A L C RB RO K X w5 hn1 HSm (HT.out.below HB5.out)
  go_wp2_with fail
  rw [← hw5]
  refine hto.mono ?_
  clear hto hw5 hxb g0 g1 g2 g3 g4 HB45 G4 HB4
  rintro e w6 ⟨⟨B6, rfl, _, w06, H6, _, hC6, hR6⟩, hb6⟩
  obtain ⟨w7, hw7⟩ : ∃ w7, w7 = w6.alloc (.cells #[.int .i64 u.k, .int .i64 u.n, .string u.s, .int .i64 u.a, .slice (some ⟨B6, 0, none⟩) n n] 32) := ⟨_, rfl⟩
  have HB67 : Hid (Below w6.heap.size w6 w7) := by rw [hw7]; exact (Below.refl _ _).alloc (Nat.le_refl _) _
  have Y7 : Hid (w7.heap[w6.heap.size]? = some (.cells #[.int .i64 u.k, .int .i64 u.n, .string u.s, .int .i64 u.a, .slice (some ⟨B6, 0, none⟩) n n] 32 (0, 0))) := by rw [hw7]; exact heap_alloc_new _ _
  have HT7 : Hid (TabsAt w7 (some ⟨B6, 0, none⟩) n B6 0 (fun r => some ⟨H6 r, 0, none⟩) L L H6 (fun _ => 0) K X) := (hC6.tabs hR6).below HB67.out
  have X7 : Hid (ValB w7 xb x) := (X5.out.below hb6).below HB67.out
  have G7 : Hid (w7.heap[w.heap.size]? = some (.cells #[.int .i64 u.k, .int .i64 u.n, .string u.s, .int .i64 u.a, .slice ta n cp] 26 (0, 0))) := blkB (blkB G5.out hb6) HB67.out
  have HB7 : Hid (Below w.heap.size w w7) := grw (grw HB5.out hb6) HB67.out
  obtain ⟨yb, hyb⟩ : ∃ yb, w6.heap.size = yb := ⟨_, rfl⟩
  rw [hyb] at Y7
  have htv := toValS_any pa m mc PB PO P w7 hm1 (HP.out.below HB7.out)
  clear hb6 hC6 hR6 X5 G5 HB5 HB67
  go_wp2_with fail
  rw [← hw7]
  refine htv.mono ?_
  clear htv hw7 hyb
  rintro e w8 ⟨rfl, hV8, hb8⟩
  have HV8 : Hid (ValsAt w8 (some ⟨w7.heap.size, 0, none⟩) m w7.heap.size 0 P) := hV8
  have HT8 : Hid (TabsAt w8 (some ⟨B6, 0, none⟩) n B6 0 (fun r => some ⟨H6 r, 0, none⟩) L L H6 (fun _ => 0) K X) := HT7.out.below hb8
  have X8 : Hid (ValB w8 xb x) := X7.out.below hb8
  have Y8 : Hid (w8.heap[yb]? = some (.cells #[.int .i64 u.k, .int .i64 u.n, .string u.s, .int .i64 u.a, .slice (some ⟨B6, 0, none⟩) n n] 32 (0, 0))) := blkB Y7.out hb8
  have G8 : Hid (w8.heap[w.heap.size]? = some (.cells #[.int .i64 u.k, .int .i64 u.n, .string u.s, .int .i64 u.a, .slice ta n cp] 26 (0, 0))) := blkB G7.out hb8
  have HB8 : Hid (Below w.heap.size w w8) := grw HB7.out hb8
  obtain ⟨pb, hpb⟩ : ∃ pb, w7.heap.size = pb := ⟨_, rfl⟩
  rw [hpb] at HV8 ⊢
  clear hb8 hV8 HT7 X7 Y7 G7 HB7 hpb
  obtain ⟨y0, y1, y2, y3, y4, _⟩ := cells5 Y8.out
  have him := implGet_any u (some ⟨pb, 0, none⟩) m m pb 0 P (some ⟨B6, 0, none⟩) n n B6 0 _ L _ _ _ K X w8 hm1 hn1 HSm HV8 HT8
  go_wp2_with fail
  refine him.mono ?_
  clear him
  rintro e w9 ⟨hcase, hb9⟩
  obtain rfl : e = .returned (.agg #[.int .i64 x.k, .int .i64 x.n, .string x.s, .int .i64 x.a]) := by
    rcases hcase with ⟨h1, h2⟩ | ⟨h1, h2⟩
    · rcases HXc.out with ⟨_, e⟩ | ⟨h3, _⟩
      · rw [e]; exact h2
      · exact absurd h1 h3
    · rcases HXc.out with ⟨h3, _⟩ | ⟨_, e⟩
      · exact absurd h3 h1
      · rw [e]; exact h2
  clear hcase HXc y0 y1 y2 y3 y4
  obtain ⟨wA, hwA⟩ : ∃ wA, wA = w9.alloc (.cells #[.int .i64 x.k, .int .i64 x.n, .string x.s, .int .i64 x.a] 29) := ⟨_, rfl⟩
  have HB9A : Hid (Below w9.heap.size w9 wA) := by rw [hwA]; exact (Below.refl _ _).alloc (Nat.le_refl _) _
  have ZA : Hid (ValB wA w9.heap.size x) := by rw [hwA]; exact heap_alloc_new _ _
  have HVA : Hid (ValsAt wA (some ⟨pb, 0, none⟩) m pb 0 P) := (HV8.out.below hb9).below HB9A.out
  have HTA : Hid (TabsAt wA (some ⟨B6, 0, none⟩) n B6 0 (fun r => some ⟨H6 r, 0, none⟩) L L H6 (fun _ => 0) K X) := (HT8.out.below hb9).below HB9A.out
  have XA : Hid (ValB wA xb x) := (X8.out.below hb9).below HB9A.out
  have YA : Hid (wA.heap[yb]? = some (.cells #[.int .i64 u.k, .int .i64 u.n, .string u.s, .int .i64 u.a, .slice (some ⟨B6, 0, none⟩) n n] 32 (0, 0))) := blkB (blkB Y8.out hb9) HB9A.out
  have GA : Hid (wA.heap[w.heap.size]? = some (.cells #[.int .i64 u.k, .int .i64 u.n, .string u.s, .int .i64 u.a, .slice ta n cp] 26 (0, 0))) := blkB (blkB G8.out hb9) HB9A.out
  have HBA : Hid (Below w.heap.size w wA) := grw (grw HB8.out hb9) HB9A.out
  obtain ⟨zb, hzb⟩ : ∃ zb, w9.heap.size = zb := ⟨_, rfl⟩
  rw [hzb] at ZA
  obtain ⟨x0, x1, x2, x3, _⟩ := cells4 XA.out
  obtain ⟨z0, z1, z2, z3, _⟩ := cells4 ZA.out
  rw [hwA] at x0 x1 x2 x3 z0 z1 z2 z3
  clear hb9 HV8 HT8 X8 Y8 G8 HB8 HB9A
  go_wp2_with fail
  rw [← hwA]
  refine (eqVal_same x _).mono ?_
  clear hwA hzb x0 x1 x2 x3 z0 z1 z2 z3
  rintro e wB ⟨rfl, hbB⟩
  have HVB : Hid (ValsAt wB (some ⟨pb, 0, none⟩) m pb 0 P) := HVA.out.below hbB
  have HTB : Hid (TabsAt wB (some ⟨B6, 0, none⟩) n B6 0 (fun r => some ⟨H6 r, 0, none⟩) L L H6 (fun _ => 0) K X) := HTA.out.below hbB
  have YB : Hid (wB.heap[yb]? = some (.cells #[.int .i64 u.k, .int .i64 u.n, .string u.s, .int .i64 u.a, .slice (some ⟨B6, 0, none⟩) n n] 32 (0, 0))) := blkB YA.out hbB
  have GB : Hid (wB.heap[w.heap.size]? = some (.cells #[.int .i64 u.k, .int .i64 u.n, .string u.s, .int .i64 u.a, .slice ta n cp] 26 (0, 0))) := blkB GA.out hbB
  have HBB : Hid (Below w.heap.size w wB) := grw HBA.out hbB
  clear hbB HVA HTA YA GA HBA XA ZA
  obtain ⟨g0, g1, g2, g3, g4, _⟩ := cells5 GB.out
  obtain ⟨x0, x1, x2, x3, x4, _⟩ := cells5 YB.out
  have hto := toGraph_any u ta n cp TB TO A L C RB RO K X wB.drew hn1 HSm (HT.out.below HBB.out.drew)
  go_wp2
  go_region_held3 (fun w' => (w'.cell? ⟨yb, 0, none⟩ = some (.int .i64 u.k) ∧ w'.cell? ⟨yb, 1, none⟩ = some (.int .i64 u.n) ∧ w'.cell? ⟨yb, 2, none⟩ = some (.string u.s) ∧ w'.cell? ⟨yb, 3, none⟩ = some (.int .i64 u.a) ∧ w'.cell? ⟨yb, 4, none⟩ = some (.slice (some ⟨B6, 0, none⟩) n n)) ∧ (w'.cell? ⟨w.heap.size, 0, none⟩ = some (.int .i64 u.k) ∧ w'.cell? ⟨w.heap.size, 1, none⟩ = some (.int .i64 u.n) ∧ w'.cell? ⟨w.heap.size, 2, none⟩ = some (.string u.s) ∧ w'.cell? ⟨w.heap.size, 3, none⟩ = some (.int .i64 u.a) ∧ w'.cell? ⟨w.heap.size, 4, none⟩ = some (.slice ta n cp)) ∧ Hid (Below w.heap.size w w'))
    (first | exact keep55 ‹_ ∧ _› hbD | exact keep55 ‹_ ∧ _› hbC | exact ⟨⟨x0, x1, x2, x3, x4⟩, ⟨g0, g1, g2, g3, g4⟩, HBB.out.drew⟩)
    (first
      | (go_at_call 13; refine hto.mono ?_; rintro e wC ⟨⟨BC, rfl, _, w0C, HC, _, hCC, hRC⟩, hbC⟩)
      | (go_at_call 15; refine (eqGraph_same u (some ⟨B6, 0, none⟩) (some ⟨BC, 0, none⟩) n n n B6 0 BC 0 _ _ L _ _ _ _ _ _ K X _ hn1 HSm ((HTB.out.below ((Below.refl _ _).drew)).below hbC) (hCC.tabs hRC)).mono ?_; rintro e wD ⟨rfl, hbD⟩))
  rename_i hS
  have HBD := hS.2.2
  have HVD : Hid (ValsAt wD (some ⟨pb, 0, none⟩) m pb 0 P) := ((HVB.out.below ((Below.refl _ _).drew)).below hbC).below hbD
  clear hS hbC hbD hCC hRC g0 g1 g2 g3 g4 x0 x1 x2 x3 x4 GB YB HTB HBB hto HVB
  have htv := toValS_any pa m mc PB PO P wD hm1 (HP.out.below HBD.out)
  go_wp2_with fail
  refine htv.mono ?_
  clear htv
  rintro e wE ⟨rfl, hVE, hbE⟩
  have HVE : Hid _ := hVE
  have HVF : Hid (ValsAt wE (some ⟨pb, 0, none⟩) m pb 0 P) := HVD.out.below hbE
  have HBE : Hid (Below w.heap.size w wE) := grw HBD.out hbE
  clear hVE hbE HVD HBD
  have heq := eqValS_same (some ⟨pb, 0, none⟩) (some ⟨wD.heap.size, 0, none⟩) m m m pb 0 wD.heap.size 0 P wE hm1 HVF HVE
  go_wp2_with fail
  refine heq.mono ?_
  clear heq
  rintro e wF ⟨rfl, hbF⟩
  have HBF : Hid (Below w.heap.size w wF) := grw HBE.out hbF
  clear hbF HVE HVF HBE
  go_wp2
  go_ret
  exact ⟨rfl, HBF.out⟩

set_option maxHeartbeats 2000000 in
set_option maxRecDepth 100000 in
theorem getLifted (os : Os) (started : os.Started) (H : Type) (enc : TypeId × Value → H) :
    ReturnsInHanded {} Try.checked os 6 .any (Rows.fnExactGetSpec.pre6 enc Try.prog Try.f6 Rows.fnExactGetRow.domain false) (Rows.fnExactGetSpec.post enc Try.prog Try.f6 false true false false) := by
  refine returnsInHanded_of_change (C := Try.checked) ownG started (by kernel_rfl) Try.func6
    (ChangeSpec.witness6 (enc := enc) (C := Try.checked) false ⟨#[], #[.agg #[.int .i64 0, .int .i64 0, .string ⟨#[]⟩, .int .i64 0, .slice none 0 0], .slice none 0 0], []⟩ 8 (by kernel_rfl) (by kernel_rfl) (by kernel_rfl) (by kernel_rfl)) ?_
  intro W base args ds gs before hval0 hW hcnd _
  have hval : ∀ (j : Nat) t v, Try.f6.params[j]? = some t → args[j]? = some v → Value.okWide Try.prog W .any base t v := hval0
  have hW' := hW
  obtain ⟨p, q, hA0, hV, rfl, hfz, hnd⟩ := hW
  have hA : DataW.TrodAll enc Try.prog W 0 (fun _ => true) true Try.f6.params.toList args.toList ds p := hA0
  rw [Try.params6] at hA hval
  obtain ⟨v0, vs0, d0, ds0, p0, q0, hargs, rfl, rfl, h0, r0⟩ := trodAll_cons hA
  obtain ⟨v1, vs1, d1, ds1, p1, q1, hargs1, rfl, rfl, h1, r1⟩ := trodAll_cons r0
  obtain ⟨rfl, rfl, rfl⟩ := trodAll_nil r1
  subst hargs1
  obtain rfl : args = #[v0, v1] := by cases args; simp_all
  obtain ⟨rfl, rfl⟩ := trodVars_none hV
  have k0 := h0
  have k1 := h1
  have lt0 : ∀ x ∈ p0, x.block < W.heap.size := by obtain ⟨m, hm⟩ := k0; exact DataW.trod_lt m _ _ _ hm
  have lt1 : ∀ x ∈ p1, x.block < W.heap.size := by obtain ⟨m, hm⟩ := k1; exact DataW.trod_lt m _ _ _ hm
  obtain ⟨u, ta, n, cp, TB, TO, A, L, C, RB, RO, K, X, rfl, hu, hn, hT, hS⟩ := opens_graph (hval 0 26 v0 rfl rfl) h0
  obtain ⟨a1, len1, cap1, rfl⟩ := okWide_slice Try.underlying42 (hval 1 42 v1 rfl rfl)
  obtain ⟨pa, m, mc, PB, PO, P, hc, hm, hP, hPS⟩ : ∃ (pa : Option Addr) (m mc PB PO : Nat) (P : Nat → V), Value.slice a1 len1 cap1 = .slice pa m mc ∧ m ≤ 9223372036854775807 ∧ ValsAt W pa m PB PO P ∧ ∀ j, j < m → (P j).s.size ≤ 9223372036854775807 := by
    obtain ⟨fuel, hf⟩ := h1
    exact opens_vals (c := .slice a1 len1 cap1) (by simpa [Value.cells] using hf)
  cases hc
  clear hA0 hval0
  refine (getLaw u a1 len1 cap1 PB PO P ta n cp TB TO A L C RB RO K X W hu hn hm hS hT hPS hP).mono fun e W' ⟨he, bel⟩ => ?_
  subst he
  exact ⟨_, rfl, _, _, _, [], _, [], hW', trodAll_mk1 (shut_bool Try.underlying4 _), (trodAll_cons_mk (Below.trod laidOutG (by kernel_rfl) (of_decide_eq_true (by kernel_rfl)) k0 bel lt0) (trodAll_cons_mk (Below.trod laidOutG (by kernel_rfl) (of_decide_eq_true (by kernel_rfl)) k1 bel lt1) trodAll_mk0)), rfl, bel.frame _, fun h => by cases h⟩

theorem get_holds : Rows.FnExactGetSaid :=
  OpenClaim.holds_of_wide 6 Try.f6 rfl rfl rfl rfl rfl rfl rfl ⟨rfl, rfl, rfl, rfl, rfl⟩ rfl rfl rfl rfl rfl (by kernel_rfl) Try.func6 (by kernel_rfl)
    (of_decide_eq_true (by kernel_rfl)) (by unfold Func.isWrapper; first | (rw [if_pos (by decide +kernel)]; kernel_rfl) | (rw [if_neg (by decide +kernel)]; exact ⟨rfl, rfl⟩))
    (fun os started H enc _ => getLifted os started H enc)
#print axioms get_holds

end Go.Proofs.Ytgflalfiopnmnab
