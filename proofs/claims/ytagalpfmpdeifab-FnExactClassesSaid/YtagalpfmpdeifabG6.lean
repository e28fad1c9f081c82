import Derived.Test.YtagalpfmpdeifabG5
namespace Go.Proofs.Ytagalpfmpdeifab
open Go.RowKit Vl
open Go.ChangeShapes Go.WideShapes Go.ChangeAt Go.Joins

theorem rowI {w : World} {A : Option Addr} {N g : Nat} {F : Nat → Nat} (hA : 0 < N → A = some ⟨g, 0, none⟩) (hr : 0 < N → w.rowIs g 3 N (fun i => .int .i64 (F i : Nat))) : IRow w A N g (fun i => (F i : Nat)) := fun k hk => ⟨hA (by omega), (hr (by omega)).cell hk⟩
theorem below_drewN' {w : World} (m : Nat) : Below w.heap.size w (w.drewN m) := below_drewN (Below.refl _ _) m

set_option maxHeartbeats 4000000 in
set_option maxRecDepth 100000 in
theorem classesLaw (u : V) (ta : Option Addr) (n cp TB TO : Nat) (A : Nat → Option Addr) (L C RB RO : Nat → Nat) (K X : Nat → Nat → V) (w : World) (hu : u.s.size ≤ 9223372036854775807) (hn : n ≤ 9223372036854775807)
    (HS : Hid (Small 9223372036854775807 n L K X)) (HT : Hid (TabsAt w ta n TB TO A L C RB RO K X)) :
    Calls Try.prog 8 #[.agg #[.int .i64 u.k, .int .i64 u.n, .string u.s, .int .i64 u.a, .slice ta n cp]] w fun e w' => e = .returned (.bool true) ∧ Below w.heap.size w w' := by
  obtain ⟨w0, hw0⟩ : ∃ w0, w0 = w.alloc (.cells #[.int .i64 u.k, .int .i64 u.n, .string u.s, .int .i64 u.a, .slice ta n cp] 26) := ⟨_, rfl⟩
  have HB0 : Hid (Below w.heap.size w w0) := by rw [hw0]; exact (Below.refl _ _).alloc (Nat.le_refl _) _
  have G0 : Hid (w0.heap[w.heap.size]? = some (.cells #[.int .i64 u.k, .int .i64 u.n, .string u.s, .int .i64 u.a, .slice ta n cp] 26 (0, 0))) := by rw [hw0]; exact heap_alloc_new _ _
  have hsz := szGraph_any u ta n cp TB TO A L C RB RO K X 1048576 w0 (by omega) (by omega) hu hn HS (HT.out.below HB0.out)
  go_enter Try.func8, Try.ntmps8
  go_wp2_with fail
  rw [← hw0]
  refine hsz.mono ?_
  clear hsz hw0
  rintro e w1 ⟨⟨q, rfl, hq1, hq2⟩, hb1⟩
  have G1 : Hid (w1.heap[w.heap.size]? = some (.cells #[.int .i64 u.k, .int .i64 u.n, .string u.s, .int .i64 u.a, .slice ta n cp] 26 (0, 0))) := blk_below G0.out hb1
  have HB1 : Hid (Below w.heap.size w w1) := grw HB0.out hb1
  clear hb1 G0 HB0
  by_cases hq : q < 0
  · clear hq2
    go_wp2
    go_ret
    exact ⟨rfl, HB1.out⟩
  obtain ⟨_, hn1, hsm⟩ := hq2 (by omega)
  have HSm : Hid (Small 1048576 n L K X) := hsm
  clear hq2 hsm HS
  obtain ⟨N, F, HN, HFx⟩ := cls_fixed n u L K X
  have HSP : Hid (∀ (ta : Option Addr) (cp TB TO : Nat) (A : Nat → Option Addr) (C RB RO : Nat → Nat) (w : World), TabsAt w ta n TB TO A L C RB RO K X → Calls Try.prog 32 #[.agg #[.int .i64 u.k, .int .i64 u.n, .string u.s, .int .i64 u.a, .slice ta n cp]] w fun e w' => IntRes w w' e N F ∧ Below w.heap.size w w') :=
    show ∀ _, _ from fun ta cp TB TO A C RB RO w hT => (specClasses_any u ta n cp TB TO A L C RB RO K X w hn1 HSm hT).mono (fun e w' h => ⟨HFx w w' e h.1, h.2⟩)
  have HIM : Hid (∀ (ta : Option Addr) (cp TB TO : Nat) (A : Nat → Option Addr) (C RB RO : Nat → Nat) (w : World), TabsAt w ta n TB TO A L C RB RO K X → Calls Try.prog 33 #[.agg #[.int .i64 u.k, .int .i64 u.n, .string u.s, .int .i64 u.a, .slice ta n cp]] w fun e w' => IntRes w w' e N F ∧ Below w.heap.size w w') :=
    show ∀ _, _ from fun ta cp TB TO A C RB RO w hT => (implClasses_any u ta n cp TB TO A L C RB RO K X w hn1 HSm hT).mono (fun e w' h => ⟨HFx w w' e h.1, h.2⟩)
  clear HFx
  have HLn : Hid (∀ r, r < n → L r ≤ 1048576) := show ∀ r, _ from fun r hr => (HSm.out r hr).1
  obtain ⟨g0, g1, g2, g3, g4, _⟩ := cells5 G1.out
  have hto := toGraph_any u ta n cp TB TO A L C RB RO K X w1 hn1 HSm (HT.out.below HB1.out)
  go_wp2_with fail
  refine hto.mono ?_
  clear hto
  rintro e w2 ⟨⟨B2, rfl, _, w02, H2, _, hC2, hR2⟩, hb2⟩
  have HT2 : Hid (TabsAt w2 (some ⟨B2, 0, none⟩) n B2 0 (fun r => some ⟨H2 r, 0, none⟩) L L H2 (fun _ => 0) K X) := hC2.tabs hR2
  have G2 : Hid (w2.heap[w.heap.size]? = some (.cells #[.int .i64 u.k, .int .i64 u.n, .string u.s, .int .i64 u.a, .slice ta n cp] 26 (0, 0))) := blk_below G1.out hb2
  have HB2 : Hid (Below w.heap.size w w2) := grw HB1.out hb2
  clear hb2 G1 HB1 hC2 hR2 g0 g1 g2 g3 g4
  have hsp := HSP.out (some ⟨B2, 0, none⟩) n B2 0 _ _ _ _ w2 HT2.out
  go_wp2_with fail
  refine hsp.mono ?_
  clear hsp HSP
  rintro e w4 ⟨⟨A3, r3, rfl, hA3, hr3⟩, hb3⟩
  have S4 : Hid (IRow w4 A3 N r3 (fun i => (F i : Nat))) := rowI hA3 (fun h => (hr3 h).2)
  have HL4 : Hid (0 < N → r3 < w4.heap.size) := show _ → _ from fun h => (hr3 h).2.lt
  have G4 : Hid (w4.heap[w.heap.size]? = some (.cells #[.int .i64 u.k, .int .i64 u.n, .string u.s, .int .i64 u.a, .slice ta n cp] 26 (0, 0))) := blk_below G2.out hb3
  have HBw4 : Hid (Below w.heap.size w w4) := grw HB2.out hb3
  obtain ⟨g0, g1, g2, g3, g4, _⟩ := cells5 G4.out
  have hto := toGraph_any u ta n cp TB TO A L C RB RO K X w4 hn1 HSm (HT.out.below HBw4.out)
  clear hb3 HT2 G2 HB2 hA3 hr3
  go_wp2_with fail
  refine hto.mono ?_
  clear hto g0 g1 g2 g3 g4
  rintro e w5 ⟨⟨B5, rfl, hB5, w05, H5, hw05, hC5, hR5⟩, hb5⟩
  obtain ⟨w6, hw6⟩ : ∃ w6, w6 = w5.alloc (.cells #[.int .i64 u.k, .int .i64 u.n, .string u.s, .int .i64 u.a, .slice (some ⟨B5, 0, none⟩) n n] 32) := ⟨_, rfl⟩
  have HB56 : Hid (Below w5.heap.size w5 w6) := by rw [hw6]; exact (Below.refl _ _).alloc (Nat.le_refl _) _
  have X6 : Hid (w6.heap[w5.heap.size]? = some (.cells #[.int .i64 u.k, .int .i64 u.n, .string u.s, .int .i64 u.a, .slice (some ⟨B5, 0, none⟩) n n] 32 (0, 0))) := by rw [hw6]; exact heap_alloc_new _ _
  have C6 : Hid (Copied w05 w6 n H5 L K X) := hC5.below HB56.out
  have R6 : Hid (w6.rowIs B5 61 n (fun i => .slice (some ⟨H5 i, 0, none⟩) (L i) (L i))) := hR5.of_block (HB56.out.block _ hR5.lt)
  have HB46 : Hid (Below w4.heap.size w4 w6) := grw hb5 HB56.out
  have hs46 : w4.heap.size ≤ w6.heap.size := HB46.out.size
  have HNew : Hid (∀ j, j < n → w4.heap.size < H5 j ∧ H5 j < w6.heap.size) := show ∀ j, _ from fun j hj => by have := C6.out.new j hj; omega
  obtain ⟨b6, hb6⟩ : ∃ b6, w5.heap.size = b6 := ⟨_, rfl⟩
  rw [hb6] at X6
  have him := HIM.out (some ⟨B5, 0, none⟩) n B5 0 _ _ _ _ w6 (C6.out.tabs R6.out)
  clear hb5 hC5 hR5 HB56
  go_wp2_with fail
  rw [← hw6]
  refine him.mono ?_
  clear him hw6 hb6
  rintro e w8 ⟨⟨A7, r7, rfl, hA7, hr7⟩, hb7⟩
  have HA7 : Hid (0 < N → A7 = some ⟨r7, 0, none⟩) := hA7
  have HR8 : Hid (0 < N → w8.rowIs r7 3 N (fun i => .int .i64 (F i : Nat))) := show _ → _ from fun h => (hr7 h).2
  have HL7 : Hid (0 < N → w6.heap.size ≤ r7) := show _ → _ from fun h => (hr7 h).1
  have HB68 : Hid (Below w6.heap.size w6 w8) := hb7
  have X8 : Hid (w8.heap[b6]? = some (.cells #[.int .i64 u.k, .int .i64 u.n, .string u.s, .int .i64 u.a, .slice (some ⟨B5, 0, none⟩) n n] 32 (0, 0))) := blk_below X6.out HB68.out
  have C8 : Hid (Copied w05 w8 n H5 L K X) := C6.out.below HB68.out
  have R8 : Hid (w8.rowIs B5 61 n (fun i => .slice (some ⟨H5 i, 0, none⟩) (L i) (L i))) := R6.out.of_block (HB68.out.block _ R6.out.lt)
  have HB48 : Hid (Below w4.heap.size w4 w8) := grw HB46.out HB68.out
  have heq := eqI_same A7 A3 N N N r7 r3 _ w8 (by omega) (rowI HA7.out HR8.out) (S4.out.below HB48.out)
  clear hb7 hr7 hA7 C6 R6 X6 HB46 HB68
  go_wp2_with fail
  refine heq.mono ?_
  clear heq
  rintro e w9 ⟨rfl, m9, rfl⟩
  obtain ⟨w9, hw9⟩ : ∃ w9, w9 = w8.drewN m9 := ⟨_, rfl⟩
  have hb9 : Below w8.heap.size w8 w9 := by rw [hw9]; exact below_drewN' m9
  rw [← hw9]
  clear hw9
  have HR9 : Hid (0 < N → w9.rowIs r7 3 N (fun i => .int .i64 (F i : Nat))) := show _ → _ from fun h => (HR8.out h).of_block (hb9.block _ (HR8.out h).lt)
  have X9 : Hid (w9.heap[b6]? = some (.cells #[.int .i64 u.k, .int .i64 u.n, .string u.s, .int .i64 u.a, .slice (some ⟨B5, 0, none⟩) n n] 32 (0, 0))) := blk_below X8.out hb9
  have C9 : Hid (Copied w05 w9 n H5 L K X) := C8.out.below hb9
  have R9 : Hid (w9.rowIs B5 61 n (fun i => .slice (some ⟨H5 i, 0, none⟩) (L i) (L i))) := R8.out.of_block (hb9.block _ R8.out.lt)
  have HB49 : Hid (Below w4.heap.size w4 w9) := grw HB48.out hb9
  have HBw9 : Hid (Below w.heap.size w w9) := grw HBw4.out HB49.out
  clear hb9 HR8 X8 C8 R8 HB48
  have HT9 : Hid (TabsAt w9 (some ⟨B5, 0, none⟩) n B5 0 (fun r => some ⟨H5 r, 0, none⟩) L L H5 (fun _ => 0) K X) := C9.out.tabs R9.out
  obtain ⟨g0, g1, g2, g3, g4, _⟩ := cells5 (blk_below G4.out HB49.out)
  obtain ⟨x0, x1, x2, x3, x4, _⟩ := cells5 X9.out
  have hto := toGraph_any u ta n cp TB TO A L C RB RO K X w9.drew hn1 HSm (HT.out.below HBw9.out.drew)
  go_wp2
  go_region_held3 (fun w' => (w'.cell? ⟨b6, 0, none⟩ = some (.int .i64 u.k) ∧ w'.cell? ⟨b6, 1, none⟩ = some (.int .i64 u.n) ∧ w'.cell? ⟨b6, 2, none⟩ = some (.string u.s) ∧ w'.cell? ⟨b6, 3, none⟩ = some (.int .i64 u.a) ∧ w'.cell? ⟨b6, 4, none⟩ = some (.slice (some ⟨B5, 0, none⟩) n n)) ∧ (w'.cell? ⟨w.heap.size, 0, none⟩ = some (.int .i64 u.k) ∧ w'.cell? ⟨w.heap.size, 1, none⟩ = some (.int .i64 u.n) ∧ w'.cell? ⟨w.heap.size, 2, none⟩ = some (.string u.s) ∧ w'.cell? ⟨w.heap.size, 3, none⟩ = some (.int .i64 u.a) ∧ w'.cell? ⟨w.heap.size, 4, none⟩ = some (.slice ta n cp)) ∧ Hid (Below w.heap.size w w'))
    (first | exact keep55 ‹_ ∧ _› hbD | exact keep55 ‹_ ∧ _› hbC | exact ⟨⟨x0, x1, x2, x3, x4⟩, ⟨g0, g1, g2, g3, g4⟩, HBw9.out.drew⟩)
    (first
      | (go_at_call 13; refine hto.mono ?_; rintro e wC ⟨⟨BC, rfl, _, w0C, HC, _, hCC, hRC⟩, hbC⟩)
      | (go_at_call 15; refine (eqGraph_same u (some ⟨B5, 0, none⟩) (some ⟨BC, 0, none⟩) n n n B5 0 BC 0 _ _ L _ _ _ _ _ _ K X _ hn1 HSm ((HT9.out.below ((Below.refl _ _).drew)).below hbC) (hCC.tabs hRC)).mono ?_; rintro e wD ⟨rfl, hbD⟩))
  rename_i hS
  clear hS hCC hRC g0 g1 g2 g3 g4 x0 x1 x2 x3 x4 hto HT9
  have hb9D : Below w9.heap.size w9 wD := (((Below.refl _ _).drew (w := w9)).trans (show Below w9.heap.size w9.drew wC from hbC)).trans (hbD.mono hbC.size)
  have RI : Hid (0 < N → wD.rowIs r7 3 N (fun i => .int .i64 (F i : Nat))) := show _ → _ from fun h => (HR9.out h).of_block (hb9D.block _ (HR9.out h).lt)
  have XD : Hid (wD.heap[b6]? = some (.cells #[.int .i64 u.k, .int .i64 u.n, .string u.s, .int .i64 u.a, .slice (some ⟨B5, 0, none⟩) n n] 32 (0, 0))) := blk_below X9.out hb9D
  have CD : Hid (Copied w05 wD n H5 L K X) := C9.out.below hb9D
  have RD : Hid (wD.rowIs B5 61 n (fun i => .slice (some ⟨H5 i, 0, none⟩) (L i) (L i))) := R9.out.of_block (hb9D.block _ R9.out.lt)
  have HB4D : Hid (Below w4.heap.size w4 wD) := grw HB49.out hb9D
  clear hb9D hbC hbD HR9 X9 C9 R9 HB49 HBw9
  obtain ⟨f5, hM5⟩ := CD.out.marks hw05 RD.out
  have hmk := markGraph_any u (some ⟨B5, 0, none⟩) n n B5 1 _ L _ _ _ _ wD hn1 HLn (by omega) (by omega) hM5
  obtain ⟨kx, hkx⟩ : ∃ kx, koff 1 L n = kx := ⟨_, rfl⟩
  rw [hkx] at hmk
  obtain ⟨x0, x1, x2, x3, x4, _⟩ := cells5 XD.out
  clear hkx hM5
  go_wp2_with fail
  refine hmk.mono ?_
  clear hmk x0 x1 x2 x3 x4
  rintro e wE ⟨rfl, _, hoE⟩
  have RE : Hid (0 < N → wE.rowIs r7 3 N (fun i => .int .i64 (F i : Nat))) := show _ → _ from fun h => hoE.rowIs (RI.out h) (fun ⟨j, hj, e, _⟩ => by have := (HNew.out j hj).2; have := HL7.out h; omega)
  have HB4E : Hid (Below w4.heap.size w4 wE) := HB4D.out.trans (hoE.toBelow (fun k ⟨j, hj, e, _⟩ => by have := (HNew.out j hj).1; omega) HB4D.out.size)
  clear hoE RI XD CD RD HB4D
  have hk0 : ¬ ((kx : Int) < 0) := by omega
  have heq := eqI_same A7 A3 N N N r7 r3 _ wE (by omega) (rowI HA7.out RE.out) (S4.out.below HB4E.out)
  go_wp2_with fail
  refine heq.mono ?_
  clear heq
  rintro e wF ⟨rfl, mF, rfl⟩
  obtain ⟨wF, hwF⟩ : ∃ wF, wF = wE.drewN mF := ⟨_, rfl⟩
  have hbF : Below wE.heap.size wE wF := by rw [hwF]; exact below_drewN' mF
  rw [← hwF]
  clear hwF
  have RF : Hid (0 < N → wF.rowIs r7 3 N (fun i => .int .i64 (F i : Nat))) := show _ → _ from fun h => (RE.out h).of_block (hbF.block _ (RE.out h).lt)
  have HB4F : Hid (Below w4.heap.size w4 wF) := grw HB4E.out hbF
  clear hbF RE HB4E
  have hmk := markS_any A7 N N r7 N _ 1 wF (by omega) (by omega) (by omega) HA7.out (Nat.le_refl _) RF
  go_wp2_with fail
  refine hmk.mono ?_
  clear hmk
  rintro e wG ⟨rfl, hoG, hmG⟩
  have MG : Hid (IRow wG A7 N r7 (fun c => 1 + c)) := show IRow _ _ _ _ _ from fun k hk => ⟨HA7.out (by omega), by
    have := (hmG (by omega)).cell hk
    simp only [marks, if_pos hk] at this
    exact this⟩
  have HB4G : Hid (Below w4.heap.size w4 wG) := HB4F.out.trans (hoG.toBelow (fun k ⟨e, h0⟩ => by have := HL7.out h0; omega) HB4F.out.size)
  clear hoG hmG RF HB4F
  have hq0 : ¬ ((1 + (N : Int)) < 0) := by omega
  have hqm : ((1 + (N : Int)) != (1 + (N : Int))) = false := by simp
  have hhd := heldS_any A7 N N r7 1 wG (by omega) (by omega) (by omega) MG
  go_wp2_with fail
  refine hhd.mono ?_
  clear hhd
  rintro e wH ⟨rfl, rfl⟩
  have HBwH : Hid (Below w.heap.size w wH) := grw HBw4.out HB4G.out
  obtain ⟨g0, g1, g2, g3, g4, _⟩ := cells5 (blk_below G4.out HB4G.out)
  have hto := toGraph_any u ta n cp TB TO A L C RB RO K X wH hn1 HSm (HT.out.below HBwH.out)
  go_wp2_with fail
  refine hto.mono ?_
  clear hto g0 g1 g2 g3 g4
  rintro e wI ⟨⟨BI, rfl, _, w0I, HI, _, hCI, hRI⟩, hbI⟩
  have him := HIM.out (some ⟨BI, 0, none⟩) n BI 0 _ _ _ _ wI (hCI.tabs hRI)
  clear hCI hRI HIM
  go_wp2_with fail
  refine him.mono ?_
  clear him
  rintro e wK ⟨⟨AJ, rJ, rfl, hAJ, hrJ⟩, hbJ⟩
  have hbHK : Below wH.heap.size wH wK := grw hbI hbJ
  have MK : Hid (IRow wK A7 N r7 (fun c => 1 + c)) := MG.out.below hbHK
  have HB4K : Hid (Below w4.heap.size w4 wK) := grw HB4G.out hbHK
  have heq := eqI_same AJ A3 N N N rJ r3 _ wK (by omega) (rowI hAJ (fun h => (hrJ h).2)) (S4.out.below HB4K.out)
  clear hbI hbJ hAJ hrJ hbHK MG HB4G HBwH
  go_wp2_with fail
  refine heq.mono ?_
  clear heq
  rintro e wL ⟨rfl, mL, rfl⟩
  obtain ⟨wL, hwL⟩ : ∃ wL, wL = wK.drewN mL := ⟨_, rfl⟩
  have hbL : Below wK.heap.size wK wL := by rw [hwL]; exact below_drewN' mL
  rw [← hwL]
  clear hwL
  have ML : Hid (IRow wL A7 N r7 (fun c => 1 + c)) := MK.out.below hbL
  have HB4L : Hid (Below w4.heap.size w4 wL) := grw HB4K.out hbL
  clear hbL MK HB4K
  have hhd := heldS_any A7 N N r7 1 wL (by omega) (by omega) (by omega) ML
  go_wp2_with fail
  refine hhd.mono ?_
  clear hhd
  rintro e wM ⟨rfl, rfl⟩
  have HBwM : Hid (Below w.heap.size w wM) := grw HBw4.out HB4L.out
  go_wp2
  go_ret
  exact ⟨rfl, HBwM.out⟩

set_option maxRecDepth 100000 in
theorem classesLifted (os : Os) (started : os.Started) (H : Type) (enc : TypeId × Value → H) :
    ReturnsInHanded {} Try.checked os 8 .any (Rows.fnExactClassesSpec.pre6 enc Try.prog Try.f8 Rows.fnExactClassesRow.domain false) (Rows.fnExactClassesSpec.post enc Try.prog Try.f8 false true false false) := by
  refine returnsInHanded_of_change (C := Try.checked) ownG started (by kernel_rfl) Try.func8
    (ChangeSpec.witness6 (enc := enc) (C := Try.checked) false ⟨#[], #[.agg #[.int .i64 0, .int .i64 0, .string ⟨#[]⟩, .int .i64 0, .slice none 0 0]], []⟩ 8 (by kernel_rfl) (by kernel_rfl) (by kernel_rfl) (by kernel_rfl)) ?_
  intro W base args ds gs before hval0 hW hcnd _
  have hval : ∀ (j : Nat) t v, Try.f8.params[j]? = some t → args[j]? = some v → Value.okWide Try.prog W .any base t v := hval0
  have hW' := hW
  obtain ⟨p, q, hA0, hV, rfl, hfz, hnd⟩ := hW
  have hA : DataW.TrodAll enc Try.prog W 0 (fun _ => true) true Try.f8.params.toList args.toList ds p := hA0
  rw [Try.params8] at hA hval
  obtain ⟨v0, vs0, d0, ds0, p0, q0, hargs, rfl, rfl, h0, r0⟩ := trodAll_cons hA
  obtain ⟨rfl, rfl, rfl⟩ := trodAll_nil r0
  obtain rfl : args = #[v0] := by cases args; simp_all
  obtain ⟨rfl, rfl⟩ := trodVars_none hV
  have k0 := h0
  have lt0 : ∀ x ∈ p0, x.block < W.heap.size := by obtain ⟨m, hm⟩ := k0; exact DataW.trod_lt m _ _ _ hm
  obtain ⟨u, ta, n, cp, TB, TO, A, L, C, RB, RO, K, X, rfl, hu, hn, hT, hS⟩ := opens_graph (hval 0 26 v0 rfl rfl) h0
  clear hA0 hval0
  refine (classesLaw u ta n cp TB TO A L C RB RO K X W hu hn hS hT).mono fun e W' ⟨he, bel⟩ => ?_
  subst he
  exact ⟨_, rfl, _, _, _, [], _, [], hW', trodAll_mk1 (shut_bool Try.underlying4 _), (trodAll_cons_mk (Below.trod laidOutG (by kernel_rfl) (of_decide_eq_true (by kernel_rfl)) k0 bel lt0) trodAll_mk0), rfl, bel.frame _, fun h => by cases h⟩

theorem classes_holds : Rows.FnExactClassesSaid :=
  OpenClaim.holds_of_wide 8 Try.f8 rfl rfl rfl rfl rfl rfl rfl ⟨rfl, rfl, rfl, rfl, rfl⟩ rfl rfl rfl rfl rfl (by kernel_rfl) Try.func8 (by kernel_rfl)
    (of_decide_eq_true (by kernel_rfl)) (by unfold Func.isWrapper; first | (rw [if_pos (by decide +kernel)]; kernel_rfl) | (rw [if_neg (by decide +kernel)]; exact ⟨rfl, rfl⟩))
    (fun os started H enc _ => classesLifted os started H enc)
#print axioms classes_holds

end Go.Proofs.Ytagalpfmpdeifab
