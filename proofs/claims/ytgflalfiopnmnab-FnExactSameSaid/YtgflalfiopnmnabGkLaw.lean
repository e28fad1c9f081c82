import Derived.Test.YtgflalfiopnmnabRows
import Derived.Test.YtgflalfiopnmnabGrOpen
import Derived.Test.YtgflalfiopnmnabLkLink2
namespace Go.Proofs.Ytgflalfiopnmnab
open Go.RowKit Vl
open Go.ChangeShapes Go.WideShapes Go.ChangeAt Go.Joins

set_option maxHeartbeats 1000000 in
set_option maxRecDepth 100000 in
/-- 'impl.GraphOk'. -/
theorem implOk_any (u : V) (ta : Option Addr) (n cp TB TO : Nat) (A : Nat → Option Addr) (L C RB RO : Nat → Nat) (K X : Nat → Nat → V) (w : World) (hn : n ≤ 1048576)
    (HS : Hid (Small 1048576 n L K X)) (HT : Hid (TabsAt w ta n TB TO A L C RB RO K X)) :
    Calls Try.prog 14 #[.agg #[.int .i64 u.k, .int .i64 u.n, .string u.s, .int .i64 u.a, .slice ta n cp]] w fun e w' => Tells (OkG n u L K X) e ∧ Below w.heap.size w w' := by
  obtain ⟨w0, hw0⟩ : ∃ w0, w0 = w.alloc (.cells #[.int .i64 u.k, .int .i64 u.n, .string u.s, .int .i64 u.a, .slice ta n cp] 32) := ⟨_, rfl⟩
  have HB : Hid (Below w.heap.size w w0) := by rw [hw0]; exact (Below.refl _ _).alloc (Nat.le_refl _) _
  have hlk := link_any u ta n cp TB TO A L C RB RO K X w0 hn HS (HT.out.below HB.out)
  go_enter Try.func14, Try.ntmps14
  go_wp2_with fail
  rw [← hw0]
  refine hlk.mono ?_
  clear hlk
  rintro e w1 ⟨hcase, hb1⟩
  have HW1 : Hid (Below w.heap.size w w1) := grw HB.out hb1
  clear hb1 hw0
  rcases hcase with ⟨hG, rfl, _⟩ | ⟨hN, rfl⟩
  · have HG : Hid (OkG n u L K X) := hG
    obtain ⟨xt, xy, hxv⟩ := ifv_form (tT w0.heap.size) u
    rw [hxv]
    clear hG hxv
    go_wp2
    go_ret
    exact ⟨tells_yes HG.out, HW1.out.alloc HW1.out.size _⟩
  · have HN : Hid (¬ OkG n u L K X) := hN
    clear hN
    go_wp2
    go_ret
    exact ⟨tells_no HN.out, HW1.out.alloc HW1.out.size _⟩

theorem blk_below {w w' : World} {b : Nat} {o : Obj} (h : w.heap[b]? = some o) (hb : Below w.heap.size w w') : w'.heap[b]? = some o := (hb.block b (blk_lt h)).trans h

theorem keep55 {w0 w w' : World} {B B' : Nat} {c0 c1 c2 c3 c4 d0 d1 d2 d3 d4 : Value}
    (h : (w.cell? ⟨B, 0, none⟩ = some c0 ∧ w.cell? ⟨B, 1, none⟩ = some c1 ∧ w.cell? ⟨B, 2, none⟩ = some c2 ∧ w.cell? ⟨B, 3, none⟩ = some c3 ∧ w.cell? ⟨B, 4, none⟩ = some c4) ∧ (w.cell? ⟨B', 0, none⟩ = some d0 ∧ w.cell? ⟨B', 1, none⟩ = some d1 ∧ w.cell? ⟨B', 2, none⟩ = some d2 ∧ w.cell? ⟨B', 3, none⟩ = some d3 ∧ w.cell? ⟨B', 4, none⟩ = some d4) ∧ Hid (Below w0.heap.size w0 w)) (hb : Below w.heap.size w w') :
    (w'.cell? ⟨B, 0, none⟩ = some c0 ∧ w'.cell? ⟨B, 1, none⟩ = some c1 ∧ w'.cell? ⟨B, 2, none⟩ = some c2 ∧ w'.cell? ⟨B, 3, none⟩ = some c3 ∧ w'.cell? ⟨B, 4, none⟩ = some c4) ∧ (w'.cell? ⟨B', 0, none⟩ = some d0 ∧ w'.cell? ⟨B', 1, none⟩ = some d1 ∧ w'.cell? ⟨B', 2, none⟩ = some d2 ∧ w'.cell? ⟨B', 3, none⟩ = some d3 ∧ w'.cell? ⟨B', 4, none⟩ = some d4) ∧ Hid (Below w0.heap.size w0 w') := by
  obtain ⟨⟨h0, h1, h2, h3, h4⟩, ⟨k0, k1, k2, k3, k4⟩, hw⟩ := h
  have l1 : B < w.heap.size := World.block_lt_of_cell? _ _ h0
  have l2 : B' < w.heap.size := World.block_lt_of_cell? _ _ k0
  exact ⟨⟨(hb.cell l1).trans h0, (hb.cell l1).trans h1, (hb.cell l1).trans h2, (hb.cell l1).trans h3, (hb.cell l1).trans h4⟩, ⟨(hb.cell l2).trans k0, (hb.cell l2).trans k1, (hb.cell l2).trans k2, (hb.cell l2).trans k3, (hb.cell l2).trans k4⟩, grw hw.out hb⟩

set_option maxHeartbeats 1000000 in
set_option maxRecDepth 100000 in
theorem graphOkLaw (u : V) (ta : Option Addr) (n cp TB TO : Nat) (A : Nat → Option Addr) (L C RB RO : Nat → Nat) (K X : Nat → Nat → V) (w : World) (hu : u.s.size ≤ 9223372036854775807) (hn : n ≤ 9223372036854775807)
    (HS : Hid (Small 9223372036854775807 n L K X)) (HT : Hid (TabsAt w ta n TB TO A L C RB RO K X)) :
    Calls Try.prog 3 #[.agg #[.int .i64 u.k, .int .i64 u.n, .string u.s, .int .i64 u.a, .slice ta n cp]] w fun e w' => e = .returned (.bool true) ∧ Below w.heap.size w w' := by
  obtain ⟨w0, hw0⟩ : ∃ w0, w0 = w.alloc (.cells #[.int .i64 u.k, .int .i64 u.n, .string u.s, .int .i64 u.a, .slice ta n cp] 26) := ⟨_, rfl⟩
  have HB0 : Hid (Below w.heap.size w w0) := by rw [hw0]; exact (Below.refl _ _).alloc (Nat.le_refl _) _
  have G0 : Hid (w0.heap[w.heap.size]? = some (.cells #[.int .i64 u.k, .int .i64 u.n, .string u.s, .int .i64 u.a, .slice ta n cp] 26 (0, 0))) := by rw [hw0]; exact heap_alloc_new _ _
  have hsz := szGraph_any u ta n cp TB TO A L C RB RO K X 1048576 w0 (by omega) (by omega) hu hn HS (HT.out.below HB0.out)
  go_enter Try.func3, Try.ntmps3
  go_wp2_with fail
  rw [← hw0]
  refine hsz.mono ?_
  clear hsz hw0
  rintro e w1 ⟨⟨q, rfl, hq1, hq2⟩, hb1⟩
  have G1 : Hid (w1.heap[w.heap.size]? = some (.cells #[.int .i64 u.k, .int .i64 u.n, .string u.s, .int .i64 u.a, .slice ta n cp] 26 (0, 0))) := blk_below G0.out hb1
  have HB1 : Hid (Below w.heap.size w w1) := grw HB0.out hb1
  clear hb1 G0 HB0
  by_cases hq : q < 0
  · clear hq2
    go_wp2
    go_ret
    exact ⟨rfl, HB1.out⟩
  obtain ⟨_, hn1, hsm⟩ := hq2 (by omega)
  have HSm : Hid (Small 1048576 n L K X) := hsm
  clear hq2 hsm HS
  obtain ⟨g0, g1, g2, g3, g4, _⟩ := cells5 G1.out
  have hto := toGraph_any u ta n cp TB TO A L C RB RO K X w1 hn1 HSm (HT.out.below HB1.out)
  go_wp2_with fail
  refine hto.mono ?_
  clear hto
  rintro e w2 ⟨⟨B2, rfl, _, w02, H2, _, hC2, hR2⟩, hb2⟩
  have HT2 : Hid (TabsAt w2 (some ⟨B2, 0, none⟩) n B2 0 (fun r => some ⟨H2 r, 0, none⟩) L L H2 (fun _ => 0) K X) := hC2.tabs hR2
  have G2 : Hid (w2.heap[w.heap.size]? = some (.cells #[.int .i64 u.k, .int .i64 u.n, .string u.s, .int .i64 u.a, .slice ta n cp] 26 (0, 0))) := blk_below G1.out hb2
  have HB2 : Hid (Below w.heap.size w w2) := grw HB1.out hb2
  clear hb2 G1 HB1 hC2 hR2 g0 g1 g2 g3 g4
  have hsp := specOk_any u (some ⟨B2, 0, none⟩) n n B2 0 _ L _ _ _ K X w2 hn1 HSm HT2
  go_wp2_with fail
  refine hsp.mono ?_
  clear hsp
  rintro e w3 ⟨⟨bs, rfl, hbs⟩, hb3⟩
  have G3 : Hid (w3.heap[w.heap.size]? = some (.cells #[.int .i64 u.k, .int .i64 u.n, .string u.s, .int .i64 u.a, .slice ta n cp] 26 (0, 0))) := blk_below G2.out hb3
  have HB3 : Hid (Below w.heap.size w w3) := grw HB2.out hb3
  have HBS : Hid (bs = true ↔ OkG n u L K X) := hbs
  clear hb3 G2 HB2 HT2 hbs
  obtain ⟨g0, g1, g2, g3, g4, _⟩ := cells5 G3.out
  have hto := toGraph_any u ta n cp TB TO A L C RB RO K X w3 hn1 HSm (HT.out.below HB3.out)
  go_wp2_with fail
  refine hto.mono ?_
  clear hto
  rintro e w4 ⟨⟨B4, rfl, _, w04, H4, _, hC4, hR4⟩, hb4⟩
  obtain ⟨w5, hw5⟩ : ∃ w5, w5 = w4.alloc (.cells #[.int .i64 u.k, .int .i64 u.n, .string u.s, .int .i64 u.a, .slice (some ⟨B4, 0, none⟩) n n] 32) := ⟨_, rfl⟩
  have HB45 : Hid (Below w4.heap.size w4 w5) := by rw [hw5]; exact (Below.refl _ _).alloc (Nat.le_refl _) _
  have X5 : Hid (w5.heap[w4.heap.size]? = some (.cells #[.int .i64 u.k, .int .i64 u.n, .string u.s, .int .i64 u.a, .slice (some ⟨B4, 0, none⟩) n n] 32 (0, 0))) := by rw [hw5]; exact heap_alloc_new _ _
  have HT5 : Hid (TabsAt w5 (some ⟨B4, 0, none⟩) n B4 0 (fun r => some ⟨H4 r, 0, none⟩) L L H4 (fun _ => 0) K X) := (hC4.tabs hR4).below HB45.out
  have XG5 : Hid (w5.heap[w.heap.size]? = some (.cells #[.int .i64 u.k, .int .i64 u.n, .string u.s, .int .i64 u.a, .slice ta n cp] 26 (0, 0))) := blk_below (blk_below G3.out hb4) HB45.out
  have HB5 : Hid (Below w.heap.size w w5) := grw (grw HB3.out hb4) HB45.out
  have him := implOk_any u (some ⟨B4, 0, none⟩) n n B4 0 _ L _ _ _ K X w5 hn1 HSm HT5
  obtain ⟨xb, hxb⟩ : ∃ xb, w4.heap.size = xb := ⟨_, rfl⟩
  rw [hxb] at X5
  clear hb4 G3 HB3 hC4 hR4 g0 g1 g2 g3 g4 HB45
  go_wp2_with fail
  rw [← hw5]
  refine him.mono ?_
  clear him hw5 hxb
  rintro e w6 ⟨⟨bi, rfl, hbi⟩, hb6⟩
  obtain rfl : bi = bs := Bool.eq_iff_iff.2 (hbi.trans HBS.out.symm)
  have G6 : Hid (w6.heap[w.heap.size]? = some (.cells #[.int .i64 u.k, .int .i64 u.n, .string u.s, .int .i64 u.a, .slice ta n cp] 26 (0, 0))) := blk_below XG5.out hb6
  have X6 : Hid (w6.heap[xb]? = some (.cells #[.int .i64 u.k, .int .i64 u.n, .string u.s, .int .i64 u.a, .slice (some ⟨B4, 0, none⟩) n n] 32 (0, 0))) := blk_below X5.out hb6
  have HT6 : Hid (TabsAt w6 (some ⟨B4, 0, none⟩) n B4 0 (fun r => some ⟨H4 r, 0, none⟩) L L H4 (fun _ => 0) K X) := HT5.out.below hb6
  have HB6 : Hid (Below w.heap.size w w6) := grw HB5.out hb6
  clear hb6 XG5 X5 HT5 HB5 hbi HBS
  have hne : (bi != bi) = false := by simp
  obtain ⟨g0, g1, g2, g3, g4, _⟩ := cells5 G6.out
  obtain ⟨x0, x1, x2, x3, x4, _⟩ := cells5 X6.out
  have hto := toGraph_any u ta n cp TB TO A L C RB RO K X w6.drew hn1 HSm (HT.out.below HB6.out.drew)
  go_wp2
  go_region_held3 (fun w' => (w'.cell? ⟨xb, 0, none⟩ = some (.int .i64 u.k) ∧ w'.cell? ⟨xb, 1, none⟩ = some (.int .i64 u.n) ∧ w'.cell? ⟨xb, 2, none⟩ = some (.string u.s) ∧ w'.cell? ⟨xb, 3, none⟩ = some (.int .i64 u.a) ∧ w'.cell? ⟨xb, 4, none⟩ = some (.slice (some ⟨B4, 0, none⟩) n n)) ∧ (w'.cell? ⟨w.heap.size, 0, none⟩ = some (.int .i64 u.k) ∧ w'.cell? ⟨w.heap.size, 1, none⟩ = some (.int .i64 u.n) ∧ w'.cell? ⟨w.heap.size, 2, none⟩ = some (.string u.s) ∧ w'.cell? ⟨w.heap.size, 3, none⟩ = some (.int .i64 u.a) ∧ w'.cell? ⟨w.heap.size, 4, none⟩ = some (.slice ta n cp)) ∧ Hid (Below w.heap.size w w'))
    (first | exact keep55 ‹_ ∧ _› hb8 | exact keep55 ‹_ ∧ _› hb7 | exact ⟨⟨x0, x1, x2, x3, x4⟩, ⟨g0, g1, g2, g3, g4⟩, HB6.out.drew⟩)
    (first
      | (go_at_call 13; refine hto.mono ?_; rintro e w7 ⟨⟨B7, rfl, _, w07, H7, _, hC7, hR7⟩, hb7⟩)
      | (go_at_call 15; refine (eqGraph_same u (some ⟨B4, 0, none⟩) (some ⟨B7, 0, none⟩) n n n B4 0 B7 0 _ _ L _ _ _ _ _ _ K X _ hn1 HSm ((HT6.out.below ((Below.refl _ _).drew)).below hb7) (hC7.tabs hR7)).mono ?_; rintro e w8 ⟨rfl, hb8⟩))
  rename_i hS
  have HB8 := hS.2.2
  clear hS hb7 hb8 hC7 hR7 g0 g1 g2 g3 g4 x0 x1 x2 x3 x4 G6 X6 HT6 HB6 hto
  go_wp2
  go_ret
  exact ⟨rfl, HB8.out⟩

set_option maxRecDepth 100000 in
theorem graphOkLifted (os : Os) (started : os.Started) (H : Type) (enc : TypeId × Value → H) :
    ReturnsInHanded {} Try.checked os 3 .any (Rows.fnExactGraphOkSpec.pre6 enc Try.prog Try.f3 Rows.fnExactGraphOkRow.domain false) (Rows.fnExactGraphOkSpec.post enc Try.prog Try.f3 false true false false) := by
  refine returnsInHanded_of_change (C := Try.checked) ownG started (by kernel_rfl) Try.func3
    (ChangeSpec.witness6 (enc := enc) (C := Try.checked) false ⟨#[], #[.agg #[.int .i64 0, .int .i64 0, .string ⟨#[]⟩, .int .i64 0, .slice none 0 0]], []⟩ 8 (by kernel_rfl) (by kernel_rfl) (by kernel_rfl) (by kernel_rfl)) ?_
  intro W base args ds gs before hval0 hW hcnd _
  have hval : ∀ (j : Nat) t v, Try.f3.params[j]? = some t → args[j]? = some v → Value.okWide Try.prog W .any base t v := hval0
  have hW' := hW
  obtain ⟨p, q, hA0, hV, rfl, hfz, hnd⟩ := hW
  have hA : DataW.TrodAll enc Try.prog W 0 (fun _ => true) true Try.f3.params.toList args.toList ds p := hA0
  rw [Try.params3] at hA hval
  obtain ⟨v0, vs0, d0, ds0, p0, q0, hargs, rfl, rfl, h0, r0⟩ := trodAll_cons hA
  obtain ⟨rfl, rfl, rfl⟩ := trodAll_nil r0
  obtain rfl : args = #[v0] := by cases args; simp_all
  obtain ⟨rfl, rfl⟩ := trodVars_none hV
  have k0 := h0
  have lt0 : ∀ x ∈ p0, x.block < W.heap.size := by obtain ⟨m, hm⟩ := k0; exact DataW.trod_lt m _ _ _ hm
  obtain ⟨u, ta, n, cp, TB, TO, A, L, C, RB, RO, K, X, rfl, hu, hn, hT, hS⟩ := opens_graph (hval 0 26 v0 rfl rfl) h0
  clear hA0 hval0
  refine (graphOkLaw u ta n cp TB TO A L C RB RO K X W hu hn hS hT).mono fun e W' ⟨he, bel⟩ => ?_
  subst he
  exact ⟨_, rfl, _, _, _, [], _, [], hW', trodAll_mk1 (shut_bool Try.underlying4 _), (trodAll_cons_mk (Below.trod laidOutG (by kernel_rfl) (of_decide_eq_true (by kernel_rfl)) k0 bel lt0) trodAll_mk0), rfl, bel.frame _, fun h => by cases h⟩

theorem graphOk_holds : Rows.FnExactGraphOkSaid :=
  OpenClaim.holds_of_wide 3 Try.f3 rfl rfl rfl rfl rfl rfl rfl ⟨rfl, rfl, rfl, rfl, rfl⟩ rfl rfl rfl rfl rfl (by kernel_rfl) Try.func3 (by kernel_rfl)
    (of_decide_eq_true (by kernel_rfl)) (by unfold Func.isWrapper; first | (rw [if_pos (by decide +kernel)]; kernel_rfl) | (rw [if_neg (by decide +kernel)]; exact ⟨rfl, rfl⟩))
    (fun os started H enc _ => graphOkLifted os started H enc)
#print axioms graphOk_holds

end Go.Proofs.Ytgflalfiopnmnab
