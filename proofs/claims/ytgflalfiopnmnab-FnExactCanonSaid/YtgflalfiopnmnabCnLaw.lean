import Derived.Test.YtgflalfiopnmnabGkLaw
import Derived.Test.YtgflalfiopnmnabCnIm2
import Derived.Test.YtgflalfiopnmnabCnRows
namespace Go.Proofs.Ytgflalfiopnmnab
open Go.RowKit Vl
open Go.ChangeShapes Go.WideShapes Go.ChangeAt Go.Joins

/-- A call's answer is a graph in memory of its own. -/
def GrRes (w w' : World) (e : Ending) (N : Nat) (U : V) (L : Nat → Nat) (K X : Nat → Nat → V) : Prop :=
  ∃ (ta : Option Addr) (tc : Nat) (PV : Nat → Value) (base : Nat), w.heap.size ≤ base ∧ e = .returned (.agg #[.int .i64 U.k, .int .i64 U.n, .string U.s, .int .i64 U.a, .slice ta N tc]) ∧ OTab w' base (.slice ta N tc) N PV L K X

theorem CanonIs.res {w w' : World} {e : Ending} {n : Nat} {u : V} {L : Nat → Nat} {K X : Nat → Nat → V} (h : CanonIs w w' e n u L K X) : GrRes w w' e (cnN n u L K X) (cnU n u L K X) (cL (order n u L X) L) (cK (order n u L X) K) (cX (order n u L X) X) := by
  obtain ⟨tv, PV, base, h1, h2, h3⟩ := h.all
  obtain ⟨ta, tc, rfl, _⟩ := owns_form h3.own
  exact ⟨ta, tc, PV, base, h1, h2, h3⟩

set_option maxHeartbeats 4000000 in
set_option maxRecDepth 100000 in
theorem canonLaw (u : V) (ta : Option Addr) (n cp TB TO : Nat) (A : Nat → Option Addr) (L C RB RO : Nat → Nat) (K X : Nat → Nat → V) (w : World) (hu : u.s.size ≤ 9223372036854775807) (hn : n ≤ 9223372036854775807)
    (HS : Hid (Small 9223372036854775807 n L K X)) (HT : Hid (TabsAt w ta n TB TO A L C RB RO K X)) :
    Calls Try.prog 5 #[.agg #[.int .i64 u.k, .int .i64 u.n, .string u.s, .int .i64 u.a, .slice ta n cp]] w fun e w' => e = .returned (.bool true) ∧ Below w.heap.size w w' := by
  obtain ⟨w0, hw0⟩ : ∃ w0, w0 = w.alloc (.cells #[.int .i64 u.k, .int .i64 u.n, .string u.s, .int .i64 u.a, .slice ta n cp] 26) := ⟨_, rfl⟩
  have HB0 : Hid (Below w.heap.size w w0) := by rw [hw0]; exact (Below.refl _ _).alloc (Nat.le_refl _) _
  have G0 : Hid (w0.heap[w.heap.size]? = some (.cells #[.int .i64 u.k, .int .i64 u.n, .string u.s, .int .i64 u.a, .slice ta n cp] 26 (0, 0))) := by rw [hw0]; exact heap_alloc_new _ _
  have hsz := szGraph_any u ta n cp TB TO A L C RB RO K X 1048576 w0 (by omega) (by omega) hu hn HS (HT.out.below HB0.out)
  go_enter Try.func5, Try.ntmps5
  go_wp2_with fail
  rw [← hw0]
  refine hsz.mono ?_
  clear hsz hw0
  rintro e w1 ⟨⟨q, rfl, hq1, hq2⟩, hb1⟩
  have G1 : Hid (w1.heap[w.heap.size]? = some (.cells #[.int .i64 u.k, .int .i64 u.n, .string u.s, .int .i64 u.a, .slice ta n cp] 26 (0, 0))) := blk_below G0.out hb1
  have HB1 : Hid (Below w.heap.size w w1) := grw HB0.out hb1
  clear hb1 G0 HB0
  by_cases hq : q < 0
  · clear hq2
    go_wp2
    go_ret
    exact ⟨rfl, HB1.out⟩
  obtain ⟨_, hn1, hsm⟩ := hq2 (by omega)
  have HSm : Hid (Small 1048576 n L K X) := hsm
  clear hq2 hsm HS
  obtain ⟨N, U, L', K', X', HN, HSN, HSP, HIM⟩ : ∃ (N : Nat) (U : V) (L' : Nat → Nat) (K' X' : Nat → Nat → V), N ≤ 1048576 ∧ Hid (Small 1048576 N L' K' X') ∧
      Hid (∀ (ta : Option Addr) (cp TB TO : Nat) (A : Nat → Option Addr) (C RB RO : Nat → Nat) (w : World), TabsAt w ta n TB TO A L C RB RO K X → Calls Try.prog 20 #[.agg #[.int .i64 u.k, .int .i64 u.n, .string u.s, .int .i64 u.a, .slice ta n cp]] w fun e w' => GrRes w w' e N U L' K' X' ∧ Below w.heap.size w w') ∧
      Hid (∀ (ta : Option Addr) (cp TB TO : Nat) (A : Nat → Option Addr) (C RB RO : Nat → Nat) (w : World), TabsAt w ta n TB TO A L C RB RO K X → Calls Try.prog 21 #[.agg #[.int .i64 u.k, .int .i64 u.n, .string u.s, .int .i64 u.a, .slice ta n cp]] w fun e w' => GrRes w w' e N U L' K' X' ∧ Below w.heap.size w w') :=
    ⟨_, _, _, _, _, (small_can HSm.out).1, (small_can HSm.out).2, show ∀ _, _ from fun ta cp TB TO A C RB RO w hT => (specCanon_any u ta n cp TB TO A L C RB RO K X w hn1 HSm hT).mono (fun e w' h => ⟨h.1.res, h.2⟩),
      show ∀ _, _ from fun ta cp TB TO A C RB RO w hT => (implCanon_any u ta n cp TB TO A L C RB RO K X w hn1 HSm hT).mono (fun e w' h => ⟨h.1.res, h.2⟩)⟩
  have HLn : Hid (∀ r, r < n → L r ≤ 1048576) := show ∀ r, _ from fun r hr => (HSm.out r hr).1
  have HLN : Hid (∀ r, r < N → L' r ≤ 1048576) := show ∀ r, _ from fun r hr => (HSN.out r hr).1
  obtain ⟨g0, g1, g2, g3, g4, _⟩ := cells5 G1.out
  have hto := toGraph_any u ta n cp TB TO A L C RB RO K X w1 hn1 HSm (HT.out.below HB1.out)
  go_wp2_with fail
  refine hto.mono ?_
  clear hto
  rintro e w2 ⟨⟨B2, rfl, _, w02, H2, _, hC2, hR2⟩, hb2⟩
  have HT2 : Hid (TabsAt w2 (some ⟨B2, 0, none⟩) n B2 0 (fun r => some ⟨H2 r, 0, none⟩) L L H2 (fun _ => 0) K X) := hC2.tabs hR2
  have G2 : Hid (w2.heap[w.heap.size]? = some (.cells #[.int .i64 u.k, .int .i64 u.n, .string u.s, .int .i64 u.a, .slice ta n cp] 26 (0, 0))) := blk_below G1.out hb2
  have HB2 : Hid (Below w.heap.size w w2) := grw HB1.out hb2
  clear hb2 G1 HB1 hC2 hR2 g0 g1 g2 g3 g4
  have hsp := HSP.out (some ⟨B2, 0, none⟩) n B2 0 _ _ _ _ w2 HT2.out
  go_wp2_with fail
  refine hsp.mono ?_
  clear hsp HSP
  rintro e w3 ⟨⟨ta3, tc3, PV3, bs3, _, rfl, hO3⟩, hb3⟩
  obtain ⟨w4, hw4⟩ : ∃ w4, w4 = w3.alloc (.cells #[.int .i64 U.k, .int .i64 U.n, .string U.s, .int .i64 U.a, .slice ta3 N tc3] 32) := ⟨_, rfl⟩
  have HB34 : Hid (Below w3.heap.size w3 w4) := by rw [hw4]; exact (Below.refl _ _).alloc (Nat.le_refl _) _
  have W4 : Hid (w4.heap[w3.heap.size]? = some (.cells #[.int .i64 U.k, .int .i64 U.n, .string U.s, .int .i64 U.a, .slice ta3 N tc3] 32 (0, 0))) := by rw [hw4]; exact heap_alloc_new _ _
  have O4 : Hid (OTab w4 bs3 (.slice ta3 N tc3) N PV3 L' K' X') := hO3.below HB34.out
  have G4 : Hid (w4.heap[w.heap.size]? = some (.cells #[.int .i64 u.k, .int .i64 u.n, .string u.s, .int .i64 u.a, .slice ta n cp] 26 (0, 0))) := blk_below (blk_below G2.out hb3) HB34.out
  have HBw4 : Hid (Below w.heap.size w w4) := grw (grw HB2.out hb3) HB34.out
  have hs4 : Hid (w4.heap.size = w3.heap.size + 1) := by rw [hw4]; exact (by simp : (w3.alloc _).heap.size = w3.heap.size + 1)
  obtain ⟨b4, hb4⟩ : ∃ b4, w3.heap.size = b4 := ⟨_, rfl⟩
  rw [hb4] at W4 hs4
  obtain ⟨g0, g1, g2, g3, g4, _⟩ := cells5 G4.out
  rw [hw4] at g0 g1 g2 g3 g4
  have hto := toGraph_any u ta n cp TB TO A L C RB RO K X w4 hn1 HSm (HT.out.below HBw4.out)
  clear hb3 HB34 hO3 HT2 G2 HB2
  go_wp2_with fail
  rw [← hw4]
  refine hto.mono ?_
  clear hto hw4 hb4 g0 g1 g2 g3 g4
  rintro e w5 ⟨⟨B5, rfl, hB5, w05, H5, hw05, hC5, hR5⟩, hb5⟩
  obtain ⟨w6, hw6⟩ : ∃ w6, w6 = w5.alloc (.cells #[.int .i64 u.k, .int .i64 u.n, .string u.s, .int .i64 u.a, .slice (some ⟨B5, 0, none⟩) n n] 32) := ⟨_, rfl⟩
  have HB56 : Hid (Below w5.heap.size w5 w6) := by rw [hw6]; exact (Below.refl _ _).alloc (Nat.le_refl _) _
  have X6 : Hid (w6.heap[w5.heap.size]? = some (.cells #[.int .i64 u.k, .int .i64 u.n, .string u.s, .int .i64 u.a, .slice (some ⟨B5, 0, none⟩) n n] 32 (0, 0))) := by rw [hw6]; exact heap_alloc_new _ _
  have C6 : Hid (Copied w05 w6 n H5 L K X) := hC5.below HB56.out
  have R6 : Hid (w6.rowIs B5 61 n (fun i => .slice (some ⟨H5 i, 0, none⟩) (L i) (L i))) := hR5.of_block (HB56.out.block _ hR5.lt)
  have HB46 : Hid (Below w4.heap.size w4 w6) := grw hb5 HB56.out
  have hs46 : w4.heap.size ≤ w6.heap.size := HB46.out.size
  have HNew : Hid (∀ j, j < n → w4.heap.size < H5 j ∧ H5 j < w6.heap.size) := show ∀ j, _ from fun j hj => by have := C6.out.new j hj; omega
  obtain ⟨b6, hb6⟩ : ∃ b6, w5.heap.size = b6 := ⟨_, rfl⟩
  rw [hb6] at X6
  have him := HIM.out (some ⟨B5, 0, none⟩) n B5 0 _ _ _ _ w6 (C6.out.tabs R6.out)
  clear hb5 hC5 hR5 HB56
  go_wp2_with fail
  rw [← hw6]
  refine him.mono ?_
  clear him hw6 hb6
  rintro e w7 ⟨⟨ta7, tc7, PV7, bs7, hbs7, rfl, hO7⟩, hb7⟩
  obtain ⟨w8, hw8⟩ : ∃ w8, w8 = w7.alloc (.cells #[.int .i64 U.k, .int .i64 U.n, .string U.s, .int .i64 U.a, .slice ta7 N tc7] 32) := ⟨_, rfl⟩
  have HB78 : Hid (Below w7.heap.size w7 w8) := by rw [hw8]; exact (Below.refl _ _).alloc (Nat.le_refl _) _
  have Y8 : Hid (w8.heap[w7.heap.size]? = some (.cells #[.int .i64 U.k, .int .i64 U.n, .string U.s, .int .i64 U.a, .slice ta7 N tc7] 32 (0, 0))) := by rw [hw8]; exact heap_alloc_new _ _
  have HB68 : Hid (Below w6.heap.size w6 w8) := grw hb7 HB78.out
  have O8 : Hid (OTab w8 bs7 (.slice ta7 N tc7) N PV7 L' K' X') := hO7.below HB78.out
  have X8 : Hid (w8.heap[b6]? = some (.cells #[.int .i64 u.k, .int .i64 u.n, .string u.s, .int .i64 u.a, .slice (some ⟨B5, 0, none⟩) n n] 32 (0, 0))) := blk_below X6.out HB68.out
  have C8 : Hid (Copied w05 w8 n H5 L K X) := C6.out.below HB68.out
  have R8 : Hid (w8.rowIs B5 61 n (fun i => .slice (some ⟨H5 i, 0, none⟩) (L i) (L i))) := R6.out.of_block (HB68.out.block _ R6.out.lt)
  have HB48 : Hid (Below w4.heap.size w4 w8) := grw HB46.out HB68.out
  have hs67 : w6.heap.size ≤ w7.heap.size := hb7.size
  have hbx6 : b6 < w6.heap.size := blk_lt X6.out
  obtain ⟨b8, hb8⟩ : ∃ b8, w7.heap.size = b8 := ⟨_, rfl⟩
  rw [hb8] at Y8 hs67
  obtain ⟨y0, y1, y2, y3, y4, _⟩ := cells5 Y8.out
  obtain ⟨v0, v1, v2, v3, v4, _⟩ := cells5 (blk_below W4.out HB48.out)
  rw [hw8] at y0 y1 y2 y3 y4 v0 v1 v2 v3 v4
  have heq := eqGraph_same U ta7 ta3 N tc7 tc3 _ _ _ _ _ _ L' _ _ _ _ _ _ K' X' w8 HN HSN O8.out.tabs.2 (O4.out.below HB48.out).tabs.2
  have hlt4 : b4 < w7.heap.size := by have := HB46.out.size; have := hb7.size; have := hs4.out; omega
  clear hb7 HB78 hO7 C6 R6 X6 HB46 HB68
  go_wp2_with fail
  rw [← hw8]
  refine heq.mono ?_
  clear heq hw8 y0 y1 y2 y3 y4 v0 v1 v2 v3 v4 hlt4 hb8
  rintro e w9 ⟨rfl, hb9⟩
  have O9 : Hid (OTab w9 bs7 (.slice ta7 N tc7) N PV7 L' K' X') := O8.out.below hb9
  have Y9 : Hid (w9.heap[b8]? = some (.cells #[.int .i64 U.k, .int .i64 U.n, .string U.s, .int .i64 U.a, .slice ta7 N tc7] 32 (0, 0))) := blk_below Y8.out hb9
  have X9 : Hid (w9.heap[b6]? = some (.cells #[.int .i64 u.k, .int .i64 u.n, .string u.s, .int .i64 u.a, .slice (some ⟨B5, 0, none⟩) n n] 32 (0, 0))) := blk_below X8.out hb9
  have C9 : Hid (Copied w05 w9 n H5 L K X) := C8.out.below hb9
  have R9 : Hid (w9.rowIs B5 61 n (fun i => .slice (some ⟨H5 i, 0, none⟩) (L i) (L i))) := R8.out.of_block (hb9.block _ R8.out.lt)
  have HB49 : Hid (Below w4.heap.size w4 w9) := grw HB48.out hb9
  have HBw9 : Hid (Below w.heap.size w w9) := grw HBw4.out HB49.out
  clear hb9 O8 Y8 X8 C8 R8 HB48
  have HT9 : Hid (TabsAt w9 (some ⟨B5, 0, none⟩) n B5 0 (fun r => some ⟨H5 r, 0, none⟩) L L H5 (fun _ => 0) K X) := C9.out.tabs R9.out
  obtain ⟨g0, g1, g2, g3, g4, _⟩ := cells5 (blk_below G4.out HB49.out)
  obtain ⟨x0, x1, x2, x3, x4, _⟩ := cells5 X9.out
  have hto := toGraph_any u ta n cp TB TO A L C RB RO K X w9.drew hn1 HSm (HT.out.below HBw9.out.drew)
  go_wp2
  go_region_held3 (fun w' => (w'.cell? ⟨b6, 0, none⟩ = some (.int .i64 u.k) ∧ w'.cell? ⟨b6, 1, none⟩ = some (.int .i64 u.n) ∧ w'.cell? ⟨b6, 2, none⟩ = some (.string u.s) ∧ w'.cell? ⟨b6, 3, none⟩ = some (.int .i64 u.a) ∧ w'.cell? ⟨b6, 4, none⟩ = some (.slice (some ⟨B5, 0, none⟩) n n)) ∧ (w'.cell? ⟨w.heap.size, 0, none⟩ = some (.int .i64 u.k) ∧ w'.cell? ⟨w.heap.size, 1, none⟩ = some (.int .i64 u.n) ∧ w'.cell? ⟨w.heap.size, 2, none⟩ = some (.string u.s) ∧ w'.cell? ⟨w.heap.size, 3, none⟩ = some (.int .i64 u.a) ∧ w'.cell? ⟨w.heap.size, 4, none⟩ = some (.slice ta n cp)) ∧ Hid (Below w.heap.size w w'))
    (first | exact keep55 ‹_ ∧ _› hbD | exact keep55 ‹_ ∧ _› hbC | exact ⟨⟨x0, x1, x2, x3, x4⟩, ⟨g0, g1, g2, g3, g4⟩, HBw9.out.drew⟩)
    (first
      | (go_at_call 13; refine hto.mono ?_; rintro e wC ⟨⟨BC, rfl, _, w0C, HC, _, hCC, hRC⟩, hbC⟩)
      | (go_at_call 15; refine (eqGraph_same u (some ⟨B5, 0, none⟩) (some ⟨BC, 0, none⟩) n n n B5 0 BC 0 _ _ L _ _ _ _ _ _ K X _ hn1 HSm ((HT9.out.below ((Below.refl _ _).drew)).below hbC) (hCC.tabs hRC)).mono ?_; rintro e wD ⟨rfl, hbD⟩))
  rename_i hS
  clear hS hCC hRC g0 g1 g2 g3 g4 x0 x1 x2 x3 x4 hto HT9
  have hb9D : Below w9.heap.size w9 wD := (((Below.refl _ _).drew (w := w9)).trans (show Below w9.heap.size w9.drew wC from hbC)).trans (hbD.mono hbC.size)
  have OD : Hid (OTab wD bs7 (.slice ta7 N tc7) N PV7 L' K' X') := O9.out.below hb9D
  have YD : Hid (wD.heap[b8]? = some (.cells #[.int .i64 U.k, .int .i64 U.n, .string U.s, .int .i64 U.a, .slice ta7 N tc7] 32 (0, 0))) := blk_below Y9.out hb9D
  have XD : Hid (wD.heap[b6]? = some (.cells #[.int .i64 u.k, .int .i64 u.n, .string u.s, .int .i64 u.a, .slice (some ⟨B5, 0, none⟩) n n] 32 (0, 0))) := blk_below X9.out hb9D
  have CD : Hid (Copied w05 wD n H5 L K X) := C9.out.below hb9D
  have RD : Hid (wD.rowIs B5 61 n (fun i => .slice (some ⟨H5 i, 0, none⟩) (L i) (L i))) := R9.out.of_block (hb9D.block _ R9.out.lt)
  have HB4D : Hid (Below w4.heap.size w4 wD) := grw HB49.out hb9D
  clear hb9D hbC hbD O9 Y9 X9 C9 R9 HB49 HBw9
  obtain ⟨f5, hM5⟩ := CD.out.marks hw05 RD.out
  have hmk := markGraph_any u (some ⟨B5, 0, none⟩) n n B5 1 _ L _ _ _ _ wD hn1 HLn (by omega) (by omega) hM5
  obtain ⟨kx, hkx⟩ : ∃ kx, koff 1 L n = kx := ⟨_, rfl⟩
  rw [hkx] at hmk
  obtain ⟨x0, x1, x2, x3, x4, _⟩ := cells5 XD.out
  clear hkx hM5
  go_wp2_with fail
  refine hmk.mono ?_
  clear hmk x0 x1 x2 x3 x4
  rintro e wE ⟨rfl, _, hoE⟩
  have OE : Hid (OTab wE bs7 (.slice ta7 N tc7) N PV7 L' K' X') := OD.out.only hoE (fun k hk ⟨j, hj, e, _⟩ => by have := (HNew.out j hj).2; omega)
  have YE : Hid (wE.heap[b8]? = some (.cells #[.int .i64 U.k, .int .i64 U.n, .string U.s, .int .i64 U.a, .slice ta7 N tc7] 32 (0, 0))) := (hoE.block _ (blk_lt YD.out) (fun ⟨j, hj, e, _⟩ => by have := (HNew.out j hj).2; omega)).trans YD.out
  have HB4E : Hid (Below w4.heap.size w4 wE) := HB4D.out.trans (hoE.toBelow (fun k ⟨j, hj, e, _⟩ => by have := (HNew.out j hj).1; omega) HB4D.out.size)
  clear hoE OD YD XD CD RD HB4D
  have hk0 : ¬ ((kx : Int) < 0) := by omega
  obtain ⟨y0, y1, y2, y3, y4, _⟩ := cells5 YE.out
  obtain ⟨v0, v1, v2, v3, v4, _⟩ := cells5 (blk_below W4.out HB4E.out)
  have heq := eqGraph_same U ta7 ta3 N tc7 tc3 _ _ _ _ _ _ L' _ _ _ _ _ _ K' X' wE HN HSN OE.out.tabs.2 (O4.out.below HB4E.out).tabs.2
  go_wp2_with fail
  refine heq.mono ?_
  clear heq y0 y1 y2 y3 y4 v0 v1 v2 v3 v4
  rintro e wF ⟨rfl, hbF⟩
  have OF : Hid (OTab wF bs7 (.slice ta7 N tc7) N PV7 L' K' X') := OE.out.below hbF
  have YF : Hid (wF.heap[b8]? = some (.cells #[.int .i64 U.k, .int .i64 U.n, .string U.s, .int .i64 U.a, .slice ta7 N tc7] 32 (0, 0))) := blk_below YE.out hbF
  have HB4F : Hid (Below w4.heap.size w4 wF) := grw HB4E.out hbF
  clear hbF OE YE HB4E
  obtain ⟨cp7, f7, hM7, hlow7⟩ := OF.out.marks
  have HM7 : Hid _ := hM7
  have HLO7 : Hid _ := hlow7
  have hmk := markGraph_any U ta7 N tc7 _ 1 _ L' _ _ _ _ wF HN HLN (by omega) (by omega) hM7
  obtain ⟨kq, hkq⟩ : ∃ kq, koff 1 L' N = kq := ⟨_, rfl⟩
  rw [hkq] at hmk
  obtain ⟨y0, y1, y2, y3, y4, _⟩ := cells5 YF.out
  clear hM7 hlow7
  have HKQ : Hid (koff 1 L' N = kq) := hkq
  clear hkq
  go_wp2_with fail
  refine hmk.mono ?_
  clear hmk y0 y1 y2 y3 y4
  rintro e wG ⟨rfl, hmG, hoG⟩
  have HHG : Hid _ := HM7.out.held hmG hoG
  have YG : Hid (wG.heap[b8]? = some (.cells #[.int .i64 U.k, .int .i64 U.n, .string U.s, .int .i64 U.a, .slice ta7 N tc7] 32 (0, 0))) := (hoG.block _ (blk_lt YF.out) (fun ⟨j, hj, e, h0⟩ => by
      obtain ⟨c, hc, _⟩ := HM7.out.row j hj h0
      rw [← e, YF.out] at hc
      cases hc)).trans YF.out
  have HB4G : Hid (Below w4.heap.size w4 wG) := HB4F.out.trans (hoG.toBelow (fun k ⟨j, hj, e, h0⟩ => by have := HLO7.out j hj h0; rw [e]; omega) HB4F.out.size)
  clear hmG hoG HM7 HLO7 YF OF HB4F
  have hq0 : ¬ ((kq : Int) < 0) := by omega
  have hqm : ((kq : Int) != (kq : Int)) = false := by simp
  have hhd := heldGraph_any U ta7 N tc7 _ 1 _ L' _ _ wG HN HLN (by omega) (by omega) HHG.out
  rw [HKQ.out] at hhd
  obtain ⟨y0, y1, y2, y3, y4, _⟩ := cells5 YG.out
  go_wp2_with fail
  refine hhd.mono ?_
  clear hhd y0 y1 y2 y3 y4
  rintro e wH ⟨rfl, hbH⟩
  have HHH : Hid _ := HHG.out.below hbH
  have YH : Hid (wH.heap[b8]? = some (.cells #[.int .i64 U.k, .int .i64 U.n, .string U.s, .int .i64 U.a, .slice ta7 N tc7] 32 (0, 0))) := blk_below YG.out hbH
  have HB4H : Hid (Below w4.heap.size w4 wH) := grw HB4G.out hbH
  clear hbH HHG YG HB4G
  have HBwH : Hid (Below w.heap.size w wH) := grw HBw4.out HB4H.out
  obtain ⟨g0, g1, g2, g3, g4, _⟩ := cells5 (blk_below G4.out HB4H.out)
  have hto := toGraph_any u ta n cp TB TO A L C RB RO K X wH hn1 HSm (HT.out.below HBwH.out)
  go_wp2_with fail
  refine hto.mono ?_
  clear hto g0 g1 g2 g3 g4
  rintro e wI ⟨⟨BI, rfl, _, w0I, HI, _, hCI, hRI⟩, hbI⟩
  have him := HIM.out (some ⟨BI, 0, none⟩) n BI 0 _ _ _ _ wI (hCI.tabs hRI)
  clear hCI hRI HIM
  go_wp2_with fail
  refine him.mono ?_
  clear him
  rintro e wJ ⟨⟨taJ, tcJ, PVJ, bsJ, _, rfl, hOJ⟩, hbJ⟩
  obtain ⟨wK, hwK⟩ : ∃ wK, wK = wJ.alloc (.cells #[.int .i64 U.k, .int .i64 U.n, .string U.s, .int .i64 U.a, .slice taJ N tcJ] 32) := ⟨_, rfl⟩
  have hbJK : Below wJ.heap.size wJ wK := by rw [hwK]; exact (Below.refl _ _).alloc (Nat.le_refl _) _
  have ZK : Hid (wK.heap[wJ.heap.size]? = some (.cells #[.int .i64 U.k, .int .i64 U.n, .string U.s, .int .i64 U.a, .slice taJ N tcJ] 32 (0, 0))) := by rw [hwK]; exact heap_alloc_new _ _
  have hbHK : Below wH.heap.size wH wK := grw (grw hbI hbJ) hbJK
  have OK' : Hid (OTab wK bsJ (.slice taJ N tcJ) N PVJ L' K' X') := hOJ.below hbJK
  have HHK : Hid _ := HHH.out.below hbHK
  have YK : Hid (wK.heap[b8]? = some (.cells #[.int .i64 U.k, .int .i64 U.n, .string U.s, .int .i64 U.a, .slice ta7 N tc7] 32 (0, 0))) := blk_below YH.out hbHK
  have HB4K : Hid (Below w4.heap.size w4 wK) := grw HB4H.out hbHK
  have hlt4 : b4 < wJ.heap.size := by have := HB4H.out.size; have := hbI.size; have := hbJ.size; have := hs4.out; omega
  obtain ⟨bk, hbk⟩ : ∃ bk, wJ.heap.size = bk := ⟨_, rfl⟩
  rw [hbk] at ZK
  obtain ⟨y0, y1, y2, y3, y4, _⟩ := cells5 ZK.out
  obtain ⟨v0, v1, v2, v3, v4, _⟩ := cells5 (blk_below W4.out HB4K.out)
  rw [hwK] at y0 y1 y2 y3 y4 v0 v1 v2 v3 v4
  have heq := eqGraph_same U taJ ta3 N tcJ tc3 _ _ _ _ _ _ L' _ _ _ _ _ _ K' X' wK HN HSN OK'.out.tabs.2 (O4.out.below HB4K.out).tabs.2
  clear hbI hbJ hOJ hbJK hbHK HHH YH HB4H HBwH
  go_wp2_with fail
  rw [← hwK]
  refine heq.mono ?_
  clear heq hwK y0 y1 y2 y3 y4 v0 v1 v2 v3 v4 hlt4 hbk
  rintro e wL ⟨rfl, hbL⟩
  have HHL : Hid _ := HHK.out.below hbL
  have YL : Hid (wL.heap[b8]? = some (.cells #[.int .i64 U.k, .int .i64 U.n, .string U.s, .int .i64 U.a, .slice ta7 N tc7] 32 (0, 0))) := blk_below YK.out hbL
  have HB4L : Hid (Below w4.heap.size w4 wL) := grw HB4K.out hbL
  clear hbL HHK YK HB4K OK' ZK
  have hhd := heldGraph_any U ta7 N tc7 _ 1 _ L' _ _ wL HN HLN (by omega) (by omega) HHL.out
  rw [HKQ.out] at hhd
  obtain ⟨y0, y1, y2, y3, y4, _⟩ := cells5 YL.out
  go_wp2_with fail
  refine hhd.mono ?_
  clear hhd y0 y1 y2 y3 y4
  rintro e wM ⟨rfl, hbM⟩
  have HBwM : Hid (Below w.heap.size w wM) := grw HBw4.out (grw HB4L.out hbM)
  clear hbM HHL YL HB4L
  go_wp2
  go_ret
  exact ⟨rfl, HBwM.out⟩

set_option maxRecDepth 100000 in
theorem canonLifted (os : Os) (started : os.Started) (H : Type) (enc : TypeId × Value → H) :
    ReturnsInHanded {} Try.checked os 5 .any (Rows.fnExactCanonSpec.pre6 enc Try.prog Try.f5 Rows.fnExactCanonRow.domain false) (Rows.fnExactCanonSpec.post enc Try.prog Try.f5 false true false false) := by
  refine returnsInHanded_of_change (C := Try.checked) ownG started (by kernel_rfl) Try.func5
    (ChangeSpec.witness6 (enc := enc) (C := Try.checked) false ⟨#[], #[.agg #[.int .i64 0, .int .i64 0, .string ⟨#[]⟩, .int .i64 0, .slice none 0 0]], []⟩ 8 (by kernel_rfl) (by kernel_rfl) (by kernel_rfl) (by kernel_rfl)) ?_
  intro W base args ds gs before hval0 hW hcnd _
  have hval : ∀ (j : Nat) t v, Try.f5.params[j]? = some t → args[j]? = some v → Value.okWide Try.prog W .any base t v := hval0
  have hW' := hW
  obtain ⟨p, q, hA0, hV, rfl, hfz, hnd⟩ := hW
  have hA : DataW.TrodAll enc Try.prog W 0 (fun _ => true) true Try.f5.params.toList args.toList ds p := hA0
  rw [Try.params5] at hA hval
  obtain ⟨v0, vs0, d0, ds0, p0, q0, hargs, rfl, rfl, h0, r0⟩ := trodAll_cons hA
  obtain ⟨rfl, rfl, rfl⟩ := trodAll_nil r0
  obtain rfl : args = #[v0] := by cases args; simp_all
  obtain ⟨rfl, rfl⟩ := trodVars_none hV
  have k0 := h0
  have lt0 : ∀ x ∈ p0, x.block < W.heap.size := by obtain ⟨m, hm⟩ := k0; exact DataW.trod_lt m _ _ _ hm
  obtain ⟨u, ta, n, cp, TB, TO, A, L, C, RB, RO, K, X, rfl, hu, hn, hT, hS⟩ := opens_graph (hval 0 26 v0 rfl rfl) h0
  clear hA0 hval0
  refine (canonLaw u ta n cp TB TO A L C RB RO K X W hu hn hS hT).mono fun e W' ⟨he, bel⟩ => ?_
  subst he
  exact ⟨_, rfl, _, _, _, [], _, [], hW', trodAll_mk1 (shut_bool Try.underlying4 _), (trodAll_cons_mk (Below.trod laidOutG (by kernel_rfl) (of_decide_eq_true (by kernel_rfl)) k0 bel lt0) trodAll_mk0), rfl, bel.frame _, fun h => by cases h⟩

theorem canon_holds : Rows.FnExactCanonSaid :=
  OpenClaim.holds_of_wide 5 Try.f5 rfl rfl rfl rfl rfl rfl rfl ⟨rfl, rfl, rfl, rfl, rfl⟩ rfl rfl rfl rfl rfl (by kernel_rfl) Try.func5 (by kernel_rfl)
    (of_decide_eq_true (by kernel_rfl)) (by unfold Func.isWrapper; first | (rw [if_pos (by decide +kernel)]; kernel_rfl) | (rw [if_neg (by decide +kernel)]; exact ⟨rfl, rfl⟩))
    (fun os started H enc _ => canonLifted os started H enc)
#print axioms canon_holds

end Go.Proofs.Ytgflalfiopnmnab
