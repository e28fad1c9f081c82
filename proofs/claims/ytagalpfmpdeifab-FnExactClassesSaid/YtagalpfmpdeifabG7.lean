import Derived.Test.YtagalpfmpdeifabG6
import Derived.Test.YtagalpfmpdeifabRows
namespace Go.Proofs.Ytagalpfmpdeifab
open Go.RowKit Vl
open Go.ChangeShapes Go.WideShapes Go.ChangeAt Go.Joins

set_option maxHeartbeats 1000000 in
set_option maxRecDepth 100000 in
/-- 'impl.GraphOk'. -/
theorem implOk_any (u : V) (ta : Option Addr) (n cp TB TO : Nat) (A : Nat → Option Addr) (L C RB RO : Nat → Nat) (K X : Nat → Nat → V) (w : World) (hn : n ≤ 1048576)
    (HS : Hid (Small 1048576 n L K X)) (HT : Hid (TabsAt w ta n TB TO A L C RB RO K X)) :
    Calls Try.prog 14 #[.agg #[.int .i64 u.k, .int .i64 u.n, .string u.s, .int .i64 u.a, .slice ta n cp]] w fun e w' => Tells (OkG n u L K X) e ∧ Below w.heap.size w w' := by
  obtain ⟨w0, hw0⟩ : ∃ w0, w0 = w.alloc (.cells #[.int .i64 u.k, .int .i64 u.n, .string u.s, .int .i64 u.a, .slice ta n cp] 32) := ⟨_, rfl⟩
  have HB : Hid (Below w.heap.size w w0) := by rw [hw0]; exact (Below.refl _ _).alloc (Nat.le_refl _) _
  have hlk := link_any u ta n cp TB TO A L C RB RO K X w0 hn HS (HT.out.below HB.out)
  go_enter Try.func14, Try.ntmps14
  go_wp2_with fail
  rw [← hw0]
  refine hlk.mono ?_
  clear hlk
  rintro e w1 ⟨hcase, hb1⟩
  have HW1 : Hid (Below w.heap.size w w1) := grw HB.out hb1
  clear hb1 hw0
  rcases hcase with ⟨hG, rfl, _⟩ | ⟨hN, rfl⟩
  · have HG : Hid (OkG n u L K X) := hG
    obtain ⟨xt, xy, hxv⟩ := ifv_form (tT w0.heap.size) u
    rw [hxv]
    clear hG hxv
    go_wp2
    go_ret
    exact ⟨tells_yes HG.out, HW1.out.alloc HW1.out.size _⟩
  · have HN : Hid (¬ OkG n u L K X) := hN
    clear hN
    go_wp2
    go_ret
    exact ⟨tells_no HN.out, HW1.out.alloc HW1.out.size _⟩

theorem blk_below {w w' : World} {b : Nat} {o : Obj} (h : w.heap[b]? = some o) (hb : Below w.heap.size w w') : w'.heap[b]? = some o := (hb.block b (blk_lt h)).trans h

theorem keep55 {w0 w w' : World} {B B' : Nat} {c0 c1 c2 c3 c4 d0 d1 d2 d3 d4 : Value}
    (h : (w.cell? ⟨B, 0, none⟩ = some c0 ∧ w.cell? ⟨B, 1, none⟩ = some c1 ∧ w.cell? ⟨B, 2, none⟩ = some c2 ∧ w.cell? ⟨B, 3, none⟩ = some c3 ∧ w.cell? ⟨B, 4, none⟩ = some c4) ∧ (w.cell? ⟨B', 0, none⟩ = some d0 ∧ w.cell? ⟨B', 1, none⟩ = some d1 ∧ w.cell? ⟨B', 2, none⟩ = some d2 ∧ w.cell? ⟨B', 3, none⟩ = some d3 ∧ w.cell? ⟨B', 4, none⟩ = some d4) ∧ Hid (Below w0.heap.size w0 w)) (hb : Below w.heap.size w w') :
    (w'.cell? ⟨B, 0, none⟩ = some c0 ∧ w'.cell? ⟨B, 1, none⟩ = some c1 ∧ w'.cell? ⟨B, 2, none⟩ = some c2 ∧ w'.cell? ⟨B, 3, none⟩ = some c3 ∧ w'.cell? ⟨B, 4, none⟩ = some c4) ∧ (w'.cell? ⟨B', 0, none⟩ = some d0 ∧ w'.cell? ⟨B', 1, none⟩ = some d1 ∧ w'.cell? ⟨B', 2, none⟩ = some d2 ∧ w'.cell? ⟨B', 3, none⟩ = some d3 ∧ w'.cell? ⟨B', 4, none⟩ = some d4) ∧ Hid (Below w0.heap.size w0 w') := by
  obtain ⟨⟨h0, h1, h2, h3, h4⟩, ⟨k0, k1, k2, k3, k4⟩, hw⟩ := h
  have l1 : B < w.heap.size := World.block_lt_of_cell? _ _ h0
  have l2 : B' < w.heap.size := World.block_lt_of_cell? _ _ k0
  exact ⟨⟨(hb.cell l1).trans h0, (hb.cell l1).trans h1, (hb.cell l1).trans h2, (hb.cell l1).trans h3, (hb.cell l1).trans h4⟩, ⟨(hb.cell l2).trans k0, (hb.cell l2).trans k1, (hb.cell l2).trans k2, (hb.cell l2).trans k3, (hb.cell l2).trans k4⟩, grw hw.out hb⟩

set_option maxHeartbeats 1000000 in
set_option maxRecDepth 100000 in
theorem graphOkLaw (u : V) (ta : Option Addr) (n cp TB TO : Nat) (A : Nat → Option Addr) (L C RB RO : Nat → Nat) (K X : Nat → Nat → V) (w : World) (hu : u.s.size ≤ 9223372036854775807) (hn : n ≤ 9223372036854775807)
    (HS : Hid (Small 9223372036854775807 n L K X)) (HT : Hid (TabsAt w ta n TB TO A L C RB RO K X)) :
    Calls Try.prog 3 #[.agg #[.int .i64 u.k, .int .i64 u.n, .string u.s, .int .i64 u.a, .slice ta n cp]] w fun e w' => e = .returned (.bool true) ∧ Below w.heap.size w w' := by
  obtain ⟨w0, hw0⟩ : ∃ w0, w0 = w.alloc (.cells #[.int .i64 u.k, .int .i64 u.n, .string u.s, .int .i64 u.a, .slice ta n cp] 26) := ⟨_, rfl⟩
  have HB0 : Hid (Below w.heap.size w w0) := by rw [hw0]; exact (Below.refl _ _).alloc (Nat.le_refl _) _
  have G0 : Hid (w0.heap[w.heap.size]? = some (.cells #[.int .i64 u.k, .int .i64 u.n, .string u.s, .int .i64 u.a, .slice ta n cp] 26 (0, 0))) := by rw [hw0]; exact heap_alloc_new _ _
  have hsz := szGraph_any u ta n cp TB TO A L C RB RO K X 1048576 w0 (by omega) (by omega) hu hn HS (HT.out.below HB0.out)
  go_enter Try.func3, Try.ntmps3
  go_wp2_with fail
  rw [← hw0]
  refine hsz.mono ?_
  clear hsz hw0
  rintro e w1 ⟨⟨q, rfl, hq1, hq2⟩, hb1⟩
  have G1 : Hid (w1.heap[w.heap.size]? = some (.cells #[.int .i64 u.k, .int .i64 u.n, .string u.s, .int .i64 u.a, .slice ta n cp] 26 (0, 0))) := blk_below G0.out hb1
  have HB1 : Hid (Below w.heap.size w w1) := grw HB0.out hb1
  clear hb1 G0 HB0
  by_cases hq : q < 0
  · clear hq2
    go_wp2
    go_ret
    exact ⟨rfl, HB1.out⟩
  obtain ⟨_, hn1, hsm⟩ := hq2 (by omega)
  have HSm : Hid (Small 1048576 n L K X) := hsm
  clear hq2 hsm HS
  obtain ⟨g0, g1, g2, g3, g4, _⟩ := cells5 G1.out
  have hto := toGraph_any u ta n cp TB TO A L C RB RO K X w1 hn1 HSm (HT.out.below HB1.out)
  go_wp2_with fail
  refine hto.mono ?_
  clear hto
  rintro e w2 ⟨⟨B2, rfl, _, w02, H2, _, hC2, hR2⟩, hb2⟩
  have HT2 : Hid (TabsAt w2 (some ⟨B2, 0, none⟩) n B2 0 (fun r => some ⟨H2 r, 0, none⟩) L L H2 (fun _ => 0) K X) := hC2.tabs hR2
  have G2 : Hid (w2.heap[w.heap.size]? = some (.cells #[.int .i64 u.k, .int .i64 u.n, .string u.s, .int .i64 u.a, .slice ta n cp] 26 (0, 0))) := blk_below G1.out hb2
  have HB2 : Hid (Below w.heap.size w w2) := grw HB1.out hb2
  clear hb2 G1 HB1 hC2 hR2 g0 g1 g2 g3 g4
  have hsp := specOk_any u (some ⟨B2, 0, none⟩) n n B2 0 _ L _ _ _ K X w2 hn1 HSm HT2
  go_wp2_with fail
  refine hsp.mono ?_
  clear hsp
  rintro e w3 ⟨⟨bs, rfl, hbs⟩, hb3⟩
  have G3 : Hid (w3.heap[w.heap.size]? = some (.cells #[.int .i64 u.k, .int .i64 u.n, .string u.s, .int .i64 u.a, .slice ta n cp] 26 (0, 0))) := blk_below G2.out hb3
  have HB3 : Hid (Below w.heap.size w w3) := grw HB2.out hb3
  have HBS : Hid (bs = true ↔ OkG n u L K X) := hbs
  clear hb3 G2 HB2 HT2 hbs
  obtain ⟨g0, g1, g2, g3, g4, _⟩ := cells5 G3.out
  have hto := toGraph_any u ta n cp TB TO A L C RB RO K X w3 hn1 HSm (HT.out.below HB3.out)
  go_wp2_with fail
  refine hto.mono ?_
  clear hto
  rintro e w4 ⟨⟨B4, rfl, _, w04, H4, _, hC4, hR4⟩, hb4⟩
  obtain ⟨w5, hw5⟩ : ∃ w5, w5 = w4.alloc (.cells #[.int .i64 u.k, .int .i64 u.n, .string u.s, .int .i64 u.a, .slice (some ⟨B4, 0, none⟩) n n] 32) := ⟨_, rfl⟩
  have HB45 : Hid (Below w4.heap.size w4 w5) := by rw [hw5]; exact (Below.refl _ _).alloc (Nat.le_refl _) _
  have X5 : Hid (w5.heap[w4.heap.size]? = some (.cells #[.int .i64 u.k, .int .i64 u.n, .string u.s, .int .i64 u.a, .slice (some ⟨B4, 0, none⟩) n n] 32 (0, 0))) := by rw [hw5]; exact heap_alloc_new _ _
  have HT5 : Hid (TabsAt w5 (some ⟨B4, 0, none⟩) n B4 0 (fun r => some ⟨H4 r, 0, none⟩) L L H4 (fun _ => 0) K X) := (hC4.tabs hR4).below HB45.out
  have XG5 : Hid (w5.heap[w.heap.size]? = some (.cells #[.int .i64 u.k, .int .i64 u.n, .string u.s, .int .i64 u.a, .slice ta n cp] 26 (0, 0))) := blk_below (blk_below G3.out hb4) HB45.out
  have HB5 : Hid (Below w.heap.size w w5) := grw (grw HB3.out hb4) HB45.out
  have him := implOk_any u (some ⟨B4, 0, none⟩) n n B4 0 _ L _ _ _ K X w5 hn1 HSm HT5
  obtain ⟨xb, hxb⟩ : ∃ xb, w4.heap.size = xb := ⟨_, rfl⟩
  rw [hxb] at X5
  clear hb4 G3 HB3 hC4 hR4 g0 g1 g2 g3 g4 HB45
  go_wp2_with fail
  rw [← hw5]
  refine him.mono ?_
  clear him hw5 hxb
  rintro e w6 ⟨⟨bi, rfl, hbi⟩, hb6⟩
  obtain rfl : bi = bs := Bool.eq_iff_iff.2 (hbi.trans HBS.out.symm)
  have G6 : Hid (w6.heap[w.heap.size]? = some (.cells #[.int .i64 u.k, .int .i64 u.n, .string u.s, .int .i64 u.a, .slice ta n cp] 26 (0, 0))) := blk_below XG5.out hb6
  have X6 : Hid (w6.heap[xb]? = some (.cells #[.int .i64 u.k, .int .i64 u.n, .string u.s, .int .i64 u.a, .slice (some ⟨B4, 0, none⟩) n n] 32 (0, 0))) := blk_below X5.out hb6
  have HT6 : Hid (TabsAt w6 (some ⟨B4, 0, none⟩) n B4 0 (fun r => some ⟨H4 r, 0, none⟩) L L H4 (fun _ => 0) K X) := HT5.out.below hb6
  have HB6 : Hid (Below w.heap.size w w6) := grw HB5.out hb6
  clear hb6 XG5 X5 HT5 HB5 hbi HBS
  have hne : (bi != bi) = false := by simp
  obtain ⟨g0, g1, g2, g3, g4, _⟩ := cells5 G6.out
  obtain ⟨x0, x1, x2, x3, x4, _⟩ := cells5 X6.out
  have hto := toGraph_any u ta n cp TB TO A L C RB RO K X w6.drew hn1 HSm (HT.out.below HB6.out.drew)
  go_wp2
  go_region_held3 (fun w' => (w'.cell? ⟨xb, 0, none⟩ = some (.int .i64 u.k) ∧ w'.cell? ⟨xb, 1, none⟩ = some (.int .i64 u.n) ∧ w'.cell? ⟨xb, 2, none⟩ = some (.string u.s) ∧ w'.cell? ⟨xb, 3, none⟩ = some (.int .i64 u.a) ∧ w'.cell? ⟨xb, 4, none⟩ = some (.slice (some ⟨B4, 0, none⟩) n n)) ∧ (w'.cell? ⟨w.heap.size, 0, none⟩ = some (.int .i64 u.k) ∧ w'.cell? ⟨w.heap.size, 1, none⟩ = some (.int .i64 u.n) ∧ w'.cell? ⟨w.heap.size, 2, none⟩ = some (.string u.s) ∧ w'.cell? ⟨w.heap.size, 3, none⟩ = some (.int .i64 u.a) ∧ w'.cell? ⟨w.heap.size, 4, none⟩ = some (.slice ta n cp)) ∧ Hid (Below w.heap.size w w'))
    (first | exact keep55 ‹_ ∧ _› hb8 | exact keep55 ‹_ ∧ _› hb7 | exact ⟨⟨x0, x1, x2, x3, x4⟩, ⟨g0, g1, g2, g3, g4⟩, HB6.out.drew⟩)
    (first
      | (go_at_call 13; refine hto.mono ?_; rintro e w7 ⟨⟨B7, rfl, _, w07, H7, _, hC7, hR7⟩, hb7⟩)
      | (go_at_call 15; refine (eqGraph_same u (some ⟨B4, 0, none⟩) (some ⟨B7, 0, none⟩) n n n B4 0 B7 0 _ _ L _ _ _ _ _ _ K X _ hn1 HSm ((HT6.out.below ((Below.refl _ _).drew)).below hb7) (hC7.tabs hR7)).mono ?_; rintro e w8 ⟨rfl, hb8⟩))
  rename_i hS
  have HB8 := hS.2.2
  clear hS hb7 hb8 hC7 hR7 g0 g1 g2 g3 g4 x0 x1 x2 x3 x4 G6 X6 HT6 HB6 hto
  go_wp2
  go_ret
  exact ⟨rfl, HB8.out⟩

set_option maxRecDepth 100000 in
theorem graphOkLifted (os : Os) (started : os.Started) (H : Type) (enc : TypeId × Value → H) :
    ReturnsInHanded {} Try.checked os 3 .any (Rows.fnExactGraphOkSpec.pre6 enc Try.prog Try.f3 Rows.fnExactGraphOkRow.domain false) (Rows.fnExactGraphOkSpec.post enc Try.prog Try.f3 false true false false) := by
  refine returnsInHanded_of_change (C := Try.checked) ownG started (by kernel_rfl) Try.func3
    (ChangeSpec.witness6 (enc := enc) (C := Try.checked) false ⟨#[], #[.agg #[.int .i64 0, .int .i64 0, .string ⟨#[]⟩, .int .i64 0, .slice none 0 0]], []⟩ 8 (by kernel_rfl) (by kernel_rfl) (by kernel_rfl) (by kernel_rfl)) ?_
  intro W base args ds gs before hval0 hW hcnd _
  have hval : ∀ (j : Nat) t v, Try.f3.params[j]? = some t → args[j]? = some v → Value.okWide Try.prog W .any base t v := hval0
  have hW' := hW
  obtain ⟨p, q, hA0, hV, rfl, hfz, hnd⟩ := hW
  have hA : DataW.TrodAll enc Try.prog W 0 (fun _ => true) true Try.f3.params.toList args.toList ds p := hA0
  rw [Try.params3] at hA hval
  obtain ⟨v0, vs0, d0, ds0, p0, q0, hargs, rfl, rfl, h0, r0⟩ := trodAll_cons hA
  obtain ⟨rfl, rfl, rfl⟩ := trodAll_nil r0
  obtain rfl : args = #[v0] := by cases args; simp_all
  obtain ⟨rfl, rfl⟩ := trodVars_none hV
  have k0 := h0
  have lt0 : ∀ x ∈ p0, x.block < W.heap.size := by obtain ⟨m, hm⟩ := k0; exact DataW.trod_lt m _ _ _ hm
  obtain ⟨u, ta, n, cp, TB, TO, A, L, C, RB, RO, K, X, rfl, hu, hn, hT, hS⟩ := opens_graph (hval 0 26 v0 rfl rfl) h0
  clear hA0 hval0
  refine (graphOkLaw u ta n cp TB TO A L C RB RO K X W hu hn hS hT).mono fun e W' ⟨he, bel⟩ => ?_
  subst he
  exact ⟨_, rfl, _, _, _, [], _, [], hW', trodAll_mk1 (shut_bool Try.underlying4 _), (trodAll_cons_mk (Below.trod laidOutG (by kernel_rfl) (of_decide_eq_true (by kernel_rfl)) k0 bel lt0) trodAll_mk0), rfl, bel.frame _, fun h => by cases h⟩

theorem graphOk_holds : Rows.FnExactGraphOkSaid :=
  OpenClaim.holds_of_wide 3 Try.f3 rfl rfl rfl rfl rfl rfl rfl ⟨rfl, rfl, rfl, rfl, rfl⟩ rfl rfl rfl rfl rfl (by kernel_rfl) Try.func3 (by kernel_rfl)
    (of_decide_eq_true (by kernel_rfl)) (by unfold Func.isWrapper; first | (rw [if_pos (by decide +kernel)]; kernel_rfl) | (rw [if_neg (by decide +kernel)]; exact ⟨rfl, rfl⟩))
    (fun os started H enc _ => graphOkLifted os started H enc)
#print axioms graphOk_holds

end Go.Proofs.Ytagalpfmpdeifab

namespace Go.Proofs.Ytagalpfmpdeifab
open Go.RowKit Vl

theorem bytes_empty {s : ByteArray} (h : s.toList = []) : s = ⟨#[]⟩ := by
  rw [ByteArray.toList_eq] at h
  obtain ⟨⟨l⟩⟩ := s
  simp at h
  subst h
  rfl

def zeroV : V := ⟨0, 0, ⟨#[]⟩, 0⟩

/-- What a table has at a key. -/
def atKey (L : Nat) (K X : Nat → V) (k : V) : V :=
  match (List.range L).find? (fun j => eqV (K j) k) with
  | some j => X j
  | none => zeroV

theorem atKey_hit {L : Nat} {K X : Nat → V} {k : V} {j : Nat} (hj : j < L) (h : eqV (K j) k = true) (hb : ∀ i, i < j → eqV (K i) k = false) : atKey L K X k = X j := by
  have : (List.range L).find? (fun j => eqV (K j) k) = some j := by
    rw [List.find?_range_eq_some]
    exact ⟨h, List.mem_range.2 hj, fun i hi => by rw [hb i hi]; rfl⟩
  unfold atKey
  rw [this]
theorem atKey_none {L : Nat} {K X : Nat → V} {k : V} (h : ∀ j, j < L → eqV (K j) k = false) : atKey L K X k = zeroV := by
  have : (List.range L).find? (fun j => eqV (K j) k) = none := by
    rw [List.find?_eq_none]
    intro j hj
    rw [h j (List.mem_range.1 hj)]
    simp
  unfold atKey
  rw [this]

theorem find_js {v : V} {K : Nat → V} {f : Nat → Value} : ∀ (js : List Nat), findV v (js.map fun j => (K j, f j)) = (js.find? (fun j => eqV (K j) v)).map f
  | [] => rfl
  | j :: js => by
    simp only [List.map_cons, findV, List.find?_cons]
    rw [eqV_comm v (K j)]
    cases h : eqV (K j) v
    · simp only [Bool.false_eq_true, if_false]; exact find_js js
    · simp

theorem find_mp (Tt : Nat → Nat) (K X : Nat → V) (L : Nat) (k : V) : (findV k (mp Tt K X L)).getD (ifv Tt zeroV) = ifv Tt (atKey L K X k) := by
  unfold mp atKey
  rw [find_js]
  cases (List.range L).find? (fun j => eqV (K j) k) <;> rfl

/-- One step along a path. -/
def step (L : Nat → Nat) (K X : Nat → Nat → V) (v k : V) : V := if v.k = 4 then atKey (L v.a.toNat) (K v.a.toNat) (X v.a.toNat) k else zeroV
/-- Where the first i keys lead. -/
def lead (u : V) (L : Nat → Nat) (K X : Nat → Nat → V) (P : Nat → V) : Nat → V
  | 0 => u
  | i + 1 => step L K X (lead u L K X P i) (P i)

theorem zero_stays {L : Nat → Nat} {K X : Nat → Nat → V} {u : V} {P : Nat → V} {i : Nat} (h : (lead u L K X P i).k ≠ 4) : ∀ j, lead u L K X P (i + 1 + j) = zeroV
  | 0 => by show step L K X (lead u L K X P i) (P i) = zeroV; unfold step; rw [if_neg h]
  | j + 1 => by
    show step L K X (lead u L K X P (i + 1 + j)) (P (i + 1 + j)) = zeroV
    rw [zero_stays h j]
    rfl

theorem isV_zero (n : Nat) : isV n zeroV = true := by
  simp [isV, zeroV, ByteArray.toList_eq]

theorem isV_at {n L : Nat} {K X : Nat → V} (h : OkT n L K X) (k : V) : isV n (atKey L K X k) = true := by
  unfold atKey
  cases hf : (List.range L).find? (fun j => eqV (K j) k) with
  | none => exact isV_zero n
  | some j =>
    have := List.mem_of_find?_eq_some hf
    exact (h.all j (List.mem_range.1 this)).val

theorem isV_tab {n : Nat} {v : V} (h : isV n v = true) (h4 : v.k = 4) : 0 ≤ v.a ∧ v.a < n := by
  obtain ⟨k, m, s, a⟩ := v
  subst h4
  simp [isV] at h
  exact ⟨h.2.2.1, h.2.2.2⟩

theorem isV_lead {n : Nat} {u : V} {L : Nat → Nat} {K X : Nat → Nat → V} {P : Nat → V} (h : OkG n u L K X) : ∀ i, isV n (lead u L K X P i) = true
  | 0 => h.root
  | i + 1 => by
    show isV n (step L K X (lead u L K X P i) (P i)) = true
    unfold step
    by_cases h4 : (lead u L K X P i).k = 4
    · rw [if_pos h4]
      have := isV_tab (isV_lead h i) h4
      exact isV_at (h.all _ (by omega)) _
    · rw [if_neg h4]; exact isV_zero n

end Go.Proofs.Ytagalpfmpdeifab

/-
  The order in which tables are met, and the graph that is numbered so. No Go in sight.
-/
namespace Go.Proofs.Ytagalpfmpdeifab
open Vl

/-- The tables that are met from v on, behind those of S. -/
def met (L : Nat → Nat) (X : Nat → Nat → V) : Nat → List Nat → V → List Nat
  | 0, S, _ => S
  | f + 1, S, v => if v.k = 4 ∧ v.a.toNat ∉ S then (List.range (L v.a.toNat)).foldl (fun T c => met L X f T (X v.a.toNat c)) (S ++ [v.a.toNat]) else S

/-- The first c values of a table, one after another. -/
def mets (L : Nat → Nat) (X : Nat → Nat → V) (f : Nat) (S : List Nat) (x : Nat → V) (c : Nat) : List Nat := (List.range c).foldl (fun T c => met L X f T (x c)) S
theorem mets_zero (L : Nat → Nat) (X : Nat → Nat → V) (f : Nat) (S : List Nat) (x : Nat → V) : mets L X f S x 0 = S := rfl
theorem mets_succ (L : Nat → Nat) (X : Nat → Nat → V) (f : Nat) (S : List Nat) (x : Nat → V) (c : Nat) : mets L X f S x (c + 1) = met L X f (mets L X f S x c) (x c) := by
  simp [mets, List.range_succ]
theorem met_new {L : Nat → Nat} {X : Nat → Nat → V} {f : Nat} {S : List Nat} {v : V} (h : v.k = 4) (hn : v.a.toNat ∉ S) : met L X (f + 1) S v = mets L X f (S ++ [v.a.toNat]) (X v.a.toNat) (L v.a.toNat) := by
  show (if v.k = 4 ∧ v.a.toNat ∉ S then _ else S) = _
  rw [if_pos ⟨h, hn⟩]
  rfl
theorem met_old {L : Nat → Nat} {X : Nat → Nat → V} {f : Nat} {S : List Nat} {v : V} (h : v.k ≠ 4 ∨ v.a.toNat ∈ S) : met L X f S v = S := by
  cases f with
  | zero => rfl
  | succ f =>
    show (if v.k = 4 ∧ v.a.toNat ∉ S then _ else S) = S
    rw [if_neg]
    rintro ⟨h1, h2⟩
    rcases h with h | h
    · exact h h1
    · exact h2 h

/-- S grows to T: nothing twice, no table that is not there. -/
structure Grows (n : Nat) (S T : List Nat) : Prop where
  pre : S <+: T
  nd : T.Nodup
  lt : ∀ r ∈ T, r < n
structure Fit (n : Nat) (S : List Nat) : Prop where
  nd : S.Nodup
  lt : ∀ r ∈ S, r < n
theorem Grows.fit {n : Nat} {S T : List Nat} (h : Grows n S T) : Fit n T := ⟨h.nd, h.lt⟩
theorem Fit.refl {n : Nat} {S : List Nat} (h : Fit n S) : Grows n S S := ⟨List.prefix_refl _, h.nd, h.lt⟩
theorem Fit.nil (n : Nat) : Fit n [] := ⟨List.nodup_nil, fun r h => by cases h⟩
theorem Grows.trans {n : Nat} {S T U : List Nat} (h : Grows n S T) (k : Grows n T U) : Grows n S U := ⟨h.pre.trans k.pre, k.nd, k.lt⟩
theorem Fit.add {n : Nat} {S : List Nat} (h : Fit n S) {r : Nat} (hr : r < n) (hn : r ∉ S) : Grows n S (S ++ [r]) :=
  ⟨List.prefix_append _ _, by
    rw [List.nodup_append]
    exact ⟨h.nd, by simp, fun a ha b hb => by simp at hb; subst hb; exact fun e => hn (e ▸ ha)⟩, fun q hq => by
    rcases List.mem_append.1 hq with h' | h'
    · exact h.lt q h'
    · simp at h'; omega⟩
theorem Grows.len {n : Nat} {S T : List Nat} (h : Grows n S T) : S.length ≤ T.length := h.pre.length_le
theorem Grows.mem {n : Nat} {S T : List Nat} (h : Grows n S T) {r : Nat} (hr : r ∈ S) : r ∈ T := h.pre.subset hr
theorem nodup_len : ∀ (S T : List Nat), S.Nodup → (∀ r ∈ S, r ∈ T) → S.length ≤ T.length
  | [], _, _, _ => Nat.zero_le _
  | a :: S, T, h, hs => by
    obtain ⟨h1, h2⟩ := List.nodup_cons.1 h
    have ha : a ∈ T := hs a (by simp)
    have := nodup_len S (T.erase a) h2 (fun r hr => (List.mem_erase_of_ne (show r ≠ a from fun e => h1 (e ▸ hr))).2 (hs r (by simp [hr])))
    rw [List.length_erase_of_mem ha] at this
    have := List.length_pos_of_mem ha
    simp only [List.length_cons]
    omega
theorem Fit.len {n : Nat} {S : List Nat} (h : Fit n S) : S.length ≤ n := by
  have : S.length ≤ (List.range n).length := nodup_len S _ h.nd (fun r hr => List.mem_range.2 (h.lt r hr))
  simpa using this
theorem Fit.less {n : Nat} {S : List Nat} (h : Fit n S) {r : Nat} (hr : r < n) (hn : r ∉ S) : S.length < n := by
  have := (h.add hr hn).fit.len
  simp at this
  omega

/-- Values that are met are of the graph. -/
def Good (n : Nat) (L : Nat → Nat) (X : Nat → Nat → V) : Prop := ∀ r, r < n → ∀ c, c < L r → isV n (X r c) = true
theorem good_of {n : Nat} {u : V} {L : Nat → Nat} {K X : Nat → Nat → V} (h : OkG n u L K X) : Good n L X := fun r hr c hc => ((h.all r hr).all c hc).val

/-- All of T that is not of S has been gone into. -/
def Closed (L : Nat → Nat) (X : Nat → Nat → V) (S T : List Nat) : Prop := ∀ r ∈ T, r ∉ S → ∀ c, c < L r → (X r c).k = 4 → (X r c).a.toNat ∈ T

theorem met_all {n : Nat} {L : Nat → Nat} {X : Nat → Nat → V} (hg : Good n L X) : ∀ (f : Nat) (S : List Nat) (v : V), Fit n S → isV n v = true → n - S.length < f →
    Grows n S (met L X f S v) ∧ Closed L X S (met L X f S v) ∧ (v.k = 4 → v.a.toNat ∈ met L X f S v) := by
  intro f
  induction f with
  | zero => intro S v _ _ h; omega
  | succ f ih =>
    intro S v hS hv hf
    by_cases h : v.k = 4 ∧ v.a.toNat ∉ S
    · obtain ⟨h4, hn⟩ := h
      rw [met_new h4 hn]
      obtain ⟨a0, a1⟩ := isV_tab hv h4
      have hr : v.a.toNat < n := by omega
      generalize v.a.toNat = r at *
      have hl := hS.less hr hn
      have h1 := hS.add hr hn
      have loop : ∀ c, c ≤ L r → Grows n (S ++ [r]) (mets L X f (S ++ [r]) (X r) c) ∧ Closed L X (S ++ [r]) (mets L X f (S ++ [r]) (X r) c) ∧ ∀ j, j < c → (X r j).k = 4 → (X r j).a.toNat ∈ mets L X f (S ++ [r]) (X r) c := by
        intro c
        induction c with
        | zero => intro _; exact ⟨h1.fit.refl, fun q hq hq' => absurd hq hq', fun j hj => by omega⟩
        | succ c ihc =>
          intro hc
          obtain ⟨g1, g2, g3⟩ := ihc (by omega)
          rw [mets_succ]
          have hlen := g1.len
          simp only [List.length_append, List.length_cons, List.length_nil] at hlen
          obtain ⟨k1, k2, k3⟩ := ih (mets L X f (S ++ [r]) (X r) c) (X r c) g1.fit (hg r hr c (by omega)) (by omega)
          refine ⟨g1.trans k1, fun q hq hq' i hi h4 => ?_, fun j hj h4 => ?_⟩
          · by_cases hm : q ∈ mets L X f (S ++ [r]) (X r) c
            · exact k1.mem (g2 q hm hq' i hi h4)
            · exact k2 q hq hm i hi h4
          · by_cases e : j = c
            · subst e; exact k3 h4
            · exact k1.mem (g3 j (by omega) h4)
      obtain ⟨g1, g2, g3⟩ := loop (L r) (Nat.le_refl _)
      refine ⟨h1.trans g1, fun q hq hq' i hi h4' => ?_, fun _ => g1.mem (by simp)⟩
      by_cases e : q = r
      · subst e; exact g3 i hi h4'
      · exact g2 q hq (by simp [hq', e]) i hi h4'
    · have : v.k ≠ 4 ∨ v.a.toNat ∈ S := by
        by_cases h4 : v.k = 4
        · exact Or.inr (Classical.byContradiction fun hn => h ⟨h4, hn⟩)
        · exact Or.inl h4
      rw [met_old this]
      refine ⟨hS.refl, fun q hq hq' => absurd hq hq', fun h4 => ?_⟩
      rcases this with h' | h'
      · exact absurd h4 h'
      · exact h'

/-- A value with its table's new number. -/
def renum (S : List Nat) (v : V) : V := if v.k = 4 then ⟨v.k, v.n, v.s, S.idxOf v.a.toNat⟩ else v

/-- Where a table is, -1 when it has not been met. -/
def whereIs (S : List Nat) (i : Nat) : Int := if i ∈ S then (S.idxOf i : Nat) else -1
theorem whereIs_in {S : List Nat} {i : Nat} (h : i ∈ S) : whereIs S i = (S.idxOf i : Nat) := by unfold whereIs; rw [if_pos h]
theorem whereIs_out {S : List Nat} {i : Nat} (h : i ∉ S) : whereIs S i = -1 := by unfold whereIs; rw [if_neg h]
theorem whereIs_add {S : List Nat} {r : Nat} (h : r ∉ S) (i : Nat) : whereIs (S ++ [r]) i = if i = r then (S.length : Int) else whereIs S i := by
  unfold whereIs
  by_cases e : i = r
  · subst e
    rw [if_pos (by simp), if_pos rfl, List.idxOf_append, if_neg h]
    simp
  · rw [if_neg e]
    by_cases hi : i ∈ S
    · rw [if_pos (by simp [hi]), if_pos hi, List.idxOf_append, if_pos hi]
    · rw [if_neg (by simp [hi, e]), if_neg hi]

/-- The tables of the canonical graph. -/
def order (n : Nat) (u : V) (L : Nat → Nat) (X : Nat → Nat → V) : List Nat := met L X (n + 1) [] u
theorem order_all {n : Nat} {u : V} {L : Nat → Nat} {K X : Nat → Nat → V} (h : OkG n u L K X) : Fit n (order n u L X) ∧ (∀ r ∈ order n u L X, ∀ c, c < L r → (X r c).k = 4 → (X r c).a.toNat ∈ order n u L X) ∧ (u.k = 4 → u.a.toNat ∈ order n u L X) := by
  obtain ⟨a, b, c⟩ := met_all (good_of h) (n + 1) [] u (Fit.nil n) h.root (by simp)
  exact ⟨a.fit, fun r hr => b r hr (by simp), c⟩

end Go.Proofs.Ytagalpfmpdeifab

namespace Go.Proofs.Ytagalpfmpdeifab
open Go.RowKit Vl

/-- A slice of values. -/
structure ValsAt (w : World) (pa : Option Addr) (L B O : Nat) (P : Nat → V) : Prop where
  top : 0 < L → pa = some ⟨B, O, none⟩
  val : ∀ c, c < L → VAt w B (O + c * 4) (P c)
theorem ValsAt.below {w w' : World} {pa : Option Addr} {L B O : Nat} {P : Nat → V} (h : ValsAt w pa L B O P) (hb : Below w.heap.size w w') : ValsAt w' pa L B O P :=
  ⟨h.top, fun c hc => (h.val c hc).below hb⟩
theorem ValsAt.cells {w : World} {pa : Option Addr} {L B O : Nat} {P : Nat → V} (h : ValsAt w pa L B O P) {c : Nat} (hc : c < L) :
    w.cell? ⟨B, O + c * 4, none⟩ = some (.int .i64 (P c).k) ∧ w.cell? ⟨B, O + c * 4 + 1, none⟩ = some (.int .i64 (P c).n) ∧ w.cell? ⟨B, O + c * 4 + 2, none⟩ = some (.string (P c).s) ∧ w.cell? ⟨B, O + c * 4 + 3, none⟩ = some (.int .i64 (P c).a) := h.val c hc

set_option maxHeartbeats 1000000 in
set_option maxRecDepth 100000 in
/-- 'szValS'. -/
theorem szValS_any (pa : Option Addr) (L C B O : Nat) (P : Nat → V) (k : Int) (w : World) (hk0 : 0 ≤ k) (hk1 : k ≤ 1048576) (hL : L ≤ 9223372036854775807)
    (HS : Hid (∀ c, c < L → (P c).s.size ≤ 9223372036854775807)) (HP : Hid (ValsAt w pa L B O P)) :
    Calls Try.prog 24 #[.slice pa L C, .int .i64 k] w fun e w' => (∃ q : Int, e = .returned (.int .i64 q) ∧ q ≤ k ∧ (0 ≤ q → L ≤ 1048576)) ∧ Below w.heap.size w w' := by
  by_cases h : k - L < 0
  · go_enter Try.func24, Try.ntmps24
    go_wp2
    go_ret
    exact ⟨⟨_, rfl, by omega, by omega⟩, Below.refl _ _⟩
  · go_enter Try.func24, Try.ntmps24
    go_wp2
    go_loopw [1, 5] (fun l i wr => ∃ (c : Nat) (q : Int), c ≤ L ∧ i = .int .i64 c ∧ l = .int .i64 q ∧ 0 ≤ q ∧ q ≤ k ∧ Hid (Below w.heap.size w wr)) (fun _ i _ => L - (intOf i).toNat)
    case atStart => exact ⟨0, _, Nat.zero_le _, rfl, rfl, by omega, by omega, Below.refl _ _⟩
    case round =>
      obtain ⟨c, q, hc, rfl, rfl, hq0, hq1, HW⟩ := hrel
      by_cases hlt : c < L
      · obtain rfl := HP.out.top (by omega)
        obtain ⟨k0, k1, k2, k3⟩ := (HP.out.below HW.out).cells hlt
        have hs := HS.out c hlt
        go_wp2_with fail
        refine (szVal_any (P c) q _ hq0 (by omega) hs).mono ?_
        rintro e w1 ⟨rfl, hb1⟩
        have HW1 : Hid (Below w.heap.size w w1) := grw HW.out hb1
        clear hb1 HW k0 k1 k2 k3 hs
        by_cases hq : q < (P c).s.size
        · rw [if_pos hq]
          go_wp2
          go_ret
          exact ⟨⟨_, rfl, by omega, by omega⟩, HW1.out⟩
        · rw [if_neg hq]
          have hn : ¬ q - (P c).s.size < 0 := by omega
          go_wp2
          go_roundw
          case rel => exact ⟨c + 1, q - (P c).s.size, by omega, by go_num, rfl, by omega, by omega, HW1⟩
          case measure => simp [intOf]; omega
      · go_wp2
        go_ret
        exact ⟨⟨_, rfl, by omega, fun _ => by omega⟩, HW.out⟩

/-- Cell i of values. -/
def vc (P : Nat → V) (i : Nat) : Value :=
  if i % 4 = 0 then .int .i64 (P (i / 4)).k else if i % 4 = 1 then .int .i64 (P (i / 4)).n else if i % 4 = 2 then .string (P (i / 4)).s else .int .i64 (P (i / 4)).a
theorem vc_at (P : Nat → V) (c : Nat) : vc P (c * 4) = .int .i64 (P c).k ∧ vc P (c * 4 + 1) = .int .i64 (P c).n ∧ vc P (c * 4 + 2) = .string (P c).s ∧ vc P (c * 4 + 3) = .int .i64 (P c).a := by
  have h : ∀ j, j < 4 → (c * 4 + j) % 4 = j ∧ (c * 4 + j) / 4 = c := fun j hj => by omega
  refine ⟨?_, ?_, ?_, ?_⟩
  · have := h 0 (by omega); simp only [Nat.add_zero] at this; simp [vc, this]
  · simp [vc, h 1 (by omega)]
  · simp [vc, h 2 (by omega)]
  · simp [vc, h 3 (by omega)]

/-- A row that holds the first c values. -/
def VRow (w : World) (B n c : Nat) (P : Nat → V) (z : Nat → Value) : Prop := w.rowIs B 29 (n * 4) (fun i => if i < c * 4 then vc P i else z i)
theorem VRow.vals {w : World} {B n c : Nat} {P : Nat → V} {z : Nat → Value} (h : VRow w B n c P z) {pa : Option Addr} (ha : 0 < c → pa = some ⟨B, 0, none⟩) (hc : c ≤ n) : ValsAt w pa c B 0 P := by
  refine ⟨ha, fun j hj => ?_⟩
  have g : ∀ i, i < 4 → w.cell? ⟨B, j * 4 + i, none⟩ = some (vc P (j * 4 + i)) := fun i hi => by
    have := h.cell (i := j * 4 + i) (by omega)
    rw [this, if_pos (by omega)]
  obtain ⟨p0, p1, p2, p3⟩ := vc_at P j
  have g0 := g 0 (by omega); have g1 := g 1 (by omega); have g2 := g 2 (by omega); have g3 := g 3 (by omega)
  simp only [Nat.add_zero] at g0
  rw [p0] at g0; rw [p1] at g1; rw [p2] at g2; rw [p3] at g3
  rw [Nat.zero_add]
  exact ⟨g0, g1, g2, g3⟩
theorem VRow.put {w : World} {B n c : Nat} {P : Nat → V} {z : Nat → Value} (h : VRow w B n c P z) :
    VRow ((((w.setCell ⟨B, c * 4, none⟩ (.int .i64 (P c).k)).setCell ⟨B, c * 4 + 1, none⟩ (.int .i64 (P c).n)).setCell ⟨B, c * 4 + 2, none⟩ (.string (P c).s)).setCell ⟨B, c * 4 + 3, none⟩ (.int .i64 (P c).a)) B n (c + 1) P z := by
  refine (((((show w.rowIs B _ _ _ from h).set (c * 4) _).set (c * 4 + 1) _).set (c * 4 + 2) _).set (c * 4 + 3) _).congr (fun i _ => ?_)
  obtain ⟨p0, p1, p2, p3⟩ := vc_at P c
  by_cases e3 : i = c * 4 + 3
  · subst e3; rw [if_pos rfl, if_pos (by omega), p3]
  rw [if_neg e3]
  by_cases e2 : i = c * 4 + 2
  · subst e2; rw [if_pos rfl, if_pos (by omega), p2]
  rw [if_neg e2]
  by_cases e1 : i = c * 4 + 1
  · subst e1; rw [if_pos rfl, if_pos (by omega), p1]
  rw [if_neg e1]
  by_cases e0 : i = c * 4
  · subst e0; rw [if_pos rfl, if_pos (by omega), p0]
  rw [if_neg e0]
  by_cases hl : i < c * 4
  · rw [if_pos hl, if_pos (by omega)]
  · rw [if_neg hl, if_neg (by omega)]
theorem VRow.below {w w' : World} {B n c : Nat} {P : Nat → V} {z : Nat → Value} (h : VRow w B n c P z) (hb : Below w.heap.size w w') : VRow w' B n c P z := h.of_block (hb.block B h.lt)

theorem infoV : (Try.prog.info? 29).map (fun i => (i.zero, i.size, i.bytes)) = some (some (.agg #[.int .i64 0, .int .i64 0, .string ⟨#[]⟩, .int .i64 0]), 4, 40) := by kernel_rfl

set_option maxHeartbeats 1000000 in
set_option maxRecDepth 100000 in
/-- 'toValS'. -/
theorem toValS_any (pa : Option Addr) (L C B O : Nat) (P : Nat → V) (w : World) (hL : L ≤ 1048576) (HP : Hid (ValsAt w pa L B O P)) :
    Calls Try.prog 26 #[.slice pa L C] w fun e w' => e = .returned (.slice (some ⟨w.heap.size, 0, none⟩) L L) ∧ ValsAt w' (some ⟨w.heap.size, 0, none⟩) L w.heap.size 0 P ∧ Below w.heap.size w w' := by
  have hmk := run_make_n 45 29 _ 4 40 Try.underlying45 infoV L (by omega) (by omega)
  obtain ⟨z, hz⟩ : ∃ z : Nat → Value, VRow (w.alloc (.cells (madeCells (Value.agg #[.int .i64 0, .int .i64 0, .string ⟨#[]⟩, .int .i64 0]).cells (L * 4)) 29)) w.heap.size L 0 P z :=
    ⟨_, (row_made w _ (L * 4) 29).congr (fun i _ => by rw [if_neg (by omega)])⟩
  have HZ : Hid _ := hz
  clear hz
  go_enter Try.func26, Try.ntmps26
  go_wp2
  clear hmk
  go_loopw [4] (fun i wr => ∃ c : Nat, c ≤ L ∧ i = .int .i64 c ∧ Hid (VRow wr w.heap.size L c P z) ∧ Hid (Below w.heap.size w wr)) (fun i _ => L - (intOf i).toNat)
  case atStart => exact ⟨0, Nat.zero_le _, rfl, HZ, (Below.refl _ _).alloc (Nat.le_refl _) _⟩
  case round =>
    obtain ⟨c, hc, rfl, HR, HW⟩ := hrel
    clear HZ
    by_cases hlt : c < L
    · obtain rfl := HP.out.top (by omega)
      obtain ⟨k0, k1, k2, k3⟩ := (HP.out.below HW.out).cells hlt
      go_wp2_with fail
      refine (toVal_any (P c) _).mono ?_
      rintro e w1 ⟨rfl, hb1⟩
      have HR1 : Hid (VRow w1 w.heap.size L c P z) := HR.out.below hb1
      have HW1 : Hid (Below w.heap.size w w1) := grw HW.out hb1
      clear hb1 HW HR k0 k1 k2 k3
      have c0 := HR1.out.cell (i := c * 4) (by omega)
      have c1 := HR1.out.cell (i := c * 4 + 1) (by omega)
      have c2 := HR1.out.cell (i := c * 4 + 2) (by omega)
      have c3 := HR1.out.cell (i := c * 4 + 3) (by omega)
      have z0 := HR1.out.frozen
      go_wp2
      go_roundw
      case rel =>
        refine ⟨c + 1, by omega, by go_num, HR1.out.put, ?_⟩
        exact (((HW1.out.setCell (Nat.le_refl _) _).setCell (Nat.le_refl _) _).setCell (Nat.le_refl _) _).setCell (Nat.le_refl _) _
      case measure => simp [intOf]; omega
    · obtain rfl : c = L := by omega
      go_wp2
      go_ret
      exact ⟨rfl, HR.out.vals (fun _ => rfl) (Nat.le_refl _), HW.out⟩

theorem keep4v {w0 w w' : World} {B o B' o' : Nat} {u : V}
    (h : (w.cell? ⟨B, o, none⟩ = some (.int .i64 u.k) ∧ w.cell? ⟨B, o + 1, none⟩ = some (.int .i64 u.n) ∧ w.cell? ⟨B, o + 2, none⟩ = some (.string u.s) ∧ w.cell? ⟨B, o + 3, none⟩ = some (.int .i64 u.a)) ∧ (w.cell? ⟨B', o', none⟩ = some (.int .i64 u.k) ∧ w.cell? ⟨B', o' + 1, none⟩ = some (.int .i64 u.n) ∧ w.cell? ⟨B', o' + 2, none⟩ = some (.string u.s) ∧ w.cell? ⟨B', o' + 3, none⟩ = some (.int .i64 u.a)) ∧ Hid (Below w0.heap.size w0 w)) (hb : Below w.heap.size w w') :
    (w'.cell? ⟨B, o, none⟩ = some (.int .i64 u.k) ∧ w'.cell? ⟨B, o + 1, none⟩ = some (.int .i64 u.n) ∧ w'.cell? ⟨B, o + 2, none⟩ = some (.string u.s) ∧ w'.cell? ⟨B, o + 3, none⟩ = some (.int .i64 u.a)) ∧ (w'.cell? ⟨B', o', none⟩ = some (.int .i64 u.k) ∧ w'.cell? ⟨B', o' + 1, none⟩ = some (.int .i64 u.n) ∧ w'.cell? ⟨B', o' + 2, none⟩ = some (.string u.s) ∧ w'.cell? ⟨B', o' + 3, none⟩ = some (.int .i64 u.a)) ∧ Hid (Below w0.heap.size w0 w') :=
  ⟨ValAt.below (o := o) h.1 hb, ValAt.below (o := o') h.2.1 hb, grw h.2.2.out hb⟩

set_option maxHeartbeats 1000000 in
set_option maxRecDepth 100000 in
/-- 'eqValS' of the same values. -/
theorem eqValS_same (pa pa' : Option Addr) (L C C' B O B' O' : Nat) (P : Nat → V) (w : World) (hL : L ≤ 1048576) (HP : Hid (ValsAt w pa L B O P)) (HP' : Hid (ValsAt w pa' L B' O' P)) :
    Calls Try.prog 29 #[.slice pa L C, .slice pa' L C'] w fun e w' => e = .returned (.bool true) ∧ Below w.heap.size w w' := by
  have hne : ((L : Int) != (L : Int)) = false := by simp
  go_enter Try.func29, Try.ntmps29
  go_wp2
  clear hne
  go_loopw [5] (fun i wr => ∃ c : Nat, c ≤ L ∧ i = .int .i64 c ∧ Hid (Below w.heap.size w wr)) (fun i _ => L - (intOf i).toNat)
  case atStart => exact ⟨0, Nat.zero_le _, rfl, Below.refl _ _⟩
  case round =>
    obtain ⟨c, hc, rfl, HW⟩ := hrel
    by_cases hlt : c < L
    · obtain rfl := HP.out.top (by omega)
      obtain rfl := HP'.out.top (by omega)
      have hh := (HP.out.below HW.out).cells hlt
      have hh' := (HP'.out.below HW.out).cells hlt
      have HH : Hid _ := hh
      have HH' : Hid _ := hh'
      obtain ⟨k0, k1, k2, k3⟩ := hh
      obtain ⟨l0, l1, l2, l3⟩ := hh'
      go_wp2
      go_region_held3 (fun w' => (w'.cell? ⟨B, O + c * 4, none⟩ = some (.int .i64 (P c).k) ∧ w'.cell? ⟨B, O + c * 4 + 1, none⟩ = some (.int .i64 (P c).n) ∧ w'.cell? ⟨B, O + c * 4 + 2, none⟩ = some (.string (P c).s) ∧ w'.cell? ⟨B, O + c * 4 + 3, none⟩ = some (.int .i64 (P c).a)) ∧ (w'.cell? ⟨B', O' + c * 4, none⟩ = some (.int .i64 (P c).k) ∧ w'.cell? ⟨B', O' + c * 4 + 1, none⟩ = some (.int .i64 (P c).n) ∧ w'.cell? ⟨B', O' + c * 4 + 2, none⟩ = some (.string (P c).s) ∧ w'.cell? ⟨B', O' + c * 4 + 3, none⟩ = some (.int .i64 (P c).a)) ∧ Hid (Below w.heap.size w w'))
        (first | exact keep4v ‹_ ∧ _› hb1 | exact ⟨HH.out, HH'.out, HW.out.drew⟩)
        ((go_at_call 28; refine (eqVal_same (P c) _).mono ?_; rintro e w1 ⟨rfl, hb1⟩))
      rename_i hS
      have HW1 := hS.2.2
      clear hS hb1 HH HH' k0 k1 k2 k3 l0 l1 l2 l3 HW
      go_wp2
      go_roundw
      case rel => exact ⟨c + 1, by omega, by go_num, HW1⟩
      case measure => simp [intOf]; omega
    · go_wp2
      go_ret
      exact ⟨rfl, HW.out⟩

end Go.Proofs.Ytagalpfmpdeifab

namespace Go.Proofs.Ytagalpfmpdeifab
open Go.RowKit Vl

theorem cells4 {w : World} {B : Nat} {a b c d : Value} {t : TypeId} (h : w.heap[B]? = some (.cells #[a, b, c, d] t (0, 0))) :
    w.cell? ⟨B, 0, none⟩ = some a ∧ w.cell? ⟨B, 1, none⟩ = some b ∧ w.cell? ⟨B, 2, none⟩ = some c ∧ w.cell? ⟨B, 3, none⟩ = some d ∧ ∀ i, w.frozen? ⟨B, i, none⟩ = false := by
  refine ⟨?_, ?_, ?_, ?_, fun i => ?_⟩ <;> simp [World.cell?, World.frozen?, h]
theorem put4r {w : World} {B : Nat} {a b c d : Value} {t : TypeId} (h : w.heap[B]? = some (.cells #[a, b, c, d] t (0, 0))) (a' b' c' d' : Value) :
    ((((w.setCell ⟨B, 0, none⟩ a').setCell ⟨B, 1, none⟩ b').setCell ⟨B, 2, none⟩ c').setCell ⟨B, 3, none⟩ d').heap[B]? = some (.cells #[a', b', c', d'] t (0, 0)) := by
  simp [World.setCell, Array.getElem?_modify, h]
theorem blkB {w w' : World} {b : Nat} {o : Obj} (h : w.heap[b]? = some o) (hb : Below w.heap.size w w') : w'.heap[b]? = some o := (hb.block b (blk_lt h)).trans h

set_option maxHeartbeats 1000000 in
set_option maxRecDepth 100000 in
/-- 'l2at'. -/
theorem l2at_any (u k : V) (r : Nat) (ta : Option Addr) (n cp TB TO : Nat) (A : Nat → Option Addr) (L C RB RO : Nat → Nat) (K X : Nat → Nat → V) (w : World) (hr : r < n) (hL : L r ≤ 1048576) (hn : n ≤ 1048576) (HT : Hid (TabsAt w ta n TB TO A L C RB RO K X)) :
    Calls Try.prog 68 #[.agg #[.int .i64 u.k, .int .i64 u.n, .string u.s, .int .i64 u.a, .slice ta n cp], .int .i64 r, .agg #[.int .i64 k.k, .int .i64 k.n, .string k.s, .int .i64 k.a]] w fun e w' => e = .returned (vAgg (atKey (L r) (K r) (X r) k)) ∧ Below w.heap.size w w' := by
  have A3 : Hid _ := alloc3 w (.cells #[.int .i64 u.k, .int .i64 u.n, .string u.s, .int .i64 u.a, .slice ta n cp] 32) (.cells #[.int .i64 k.k, .int .i64 k.n, .string k.s, .int .i64 k.a] 29) (.cells #[.int .i64 0, .int .i64 0, .string ⟨#[]⟩, .int .i64 0] 29)
  obtain ⟨w0, hw0⟩ : ∃ w0, w0 = ((w.alloc (.cells #[.int .i64 u.k, .int .i64 u.n, .string u.s, .int .i64 u.a, .slice ta n cp] 32)).alloc (.cells #[.int .i64 k.k, .int .i64 k.n, .string k.s, .int .i64 k.a] 29)).alloc (.cells #[.int .i64 0, .int .i64 0, .string ⟨#[]⟩, .int .i64 0] 29) := ⟨_, rfl⟩
  have P0 : Hid (w0.heap[w.heap.size]? = some (.cells #[.int .i64 u.k, .int .i64 u.n, .string u.s, .int .i64 u.a, .slice ta n cp] 32 (0, 0))) := by rw [hw0]; exact A3.out.1
  have P1 : Hid (w0.heap[w.heap.size + 1]? = some (.cells #[.int .i64 k.k, .int .i64 k.n, .string k.s, .int .i64 k.a] 29 (0, 0))) := by rw [hw0]; exact A3.out.2.1
  have P2 : Hid (w0.heap[w.heap.size + 2]? = some (.cells #[.int .i64 0, .int .i64 0, .string ⟨#[]⟩, .int .i64 0] 29 (0, 0))) := by rw [hw0]; exact A3.out.2.2.1
  have HB0 : Hid (Below w.heap.size w w0) := by rw [hw0]; exact A3.out.2.2.2.2
  clear A3
  obtain rfl := HT.out.top (by omega)
  have HT0 : Hid (TabsAt w0 (some ⟨TB, TO, none⟩) n TB TO A L C RB RO K X) := HT.out.below HB0.out
  have t0 := HT0.out.tab r hr
  have hbd : (0 : Int) ≤ (r : Int) ∧ (r : Int) < (n : Int) := by omega
  obtain ⟨a, ha⟩ : ∃ a, A r = a := ⟨_, rfl⟩
  rw [ha] at t0
  have HP : Hid (PairsAt w0 a (L r) (RB r) (RO r) (K r) (X r)) := ha ▸ HT0.out.row r hr
  rw [hw0] at t0
  go_enter Try.func68, Try.ntmps68
  go_wp2
  rw [← hw0]
  clear hw0 t0 ha HT HT0 hbd
  obtain ⟨b, hb⟩ : ∃ b, w.heap.size = b := ⟨_, rfl⟩
  rw [hb] at P0 P1 P2 ⊢
  go_loopw [16] (fun ii wr => ∃ c : Nat, c ≤ L r ∧ ii = .int .i64 c ∧ Hid (∀ j, j < c → eqV (K r j) k = false) ∧ Hid (Below w0.heap.size w0 wr)) (fun ii _ => L r - (intOf ii).toNat)
  case atStart => exact ⟨0, Nat.zero_le _, rfl, fun j hj => absurd hj (Nat.not_lt_zero _), Below.refl _ _⟩
  case round =>
    obtain ⟨c, hc, rfl, HQ, HW⟩ := hrel
    by_cases hlt : c < L r
    · obtain rfl := HP.out.top (by omega)
      obtain ⟨⟨k0, k1, k2, k3⟩, ⟨x0, x1, x2, x3⟩⟩ := (HP.out.below HW.out).cells hlt
      obtain ⟨wp, hwp⟩ : ∃ wp, wp = wr.alloc (.cells #[.int .i64 (K r c).k, .int .i64 (K r c).n, .string (K r c).s, .int .i64 (K r c).a, .int .i64 (X r c).k, .int .i64 (X r c).n, .string (X r c).s, .int .i64 (X r c).a] 63) := ⟨_, rfl⟩
      have HBp : Hid (Below wr.heap.size wr wp) := by rw [hwp]; exact (Below.refl _ _).alloc (Nat.le_refl _) _
      have HWp : Hid (Below w0.heap.size w0 wp) := grw HW.out HBp.out
      have hlw : b + 2 < wr.heap.size := Nat.lt_of_lt_of_le (blk_lt P2.out) HW.out.size
      have R1 : Hid (wr.heap[b + 1]? = some (.cells #[.int .i64 k.k, .int .i64 k.n, .string k.s, .int .i64 k.a] 29 (0, 0))) := blkB P1.out HW.out
      have R2 : Hid (wp.heap[b + 2]? = some (.cells #[.int .i64 0, .int .i64 0, .string ⟨#[]⟩, .int .i64 0] 29 (0, 0))) := blkB P2.out HWp.out
      obtain ⟨y0, y1, y2, y3, _⟩ := cells4 R1.out
      have heq := eql_val (K r c) k
      obtain ⟨be, hbe⟩ : ∃ x, eqV (K r c) k = x := ⟨_, rfl⟩
      rw [hbe] at heq
      have hl1 : b + 1 < wr.heap.size := by omega
      cases be
      · have HQ' : Hid (∀ j, j < c + 1 → eqV (K r j) k = false) := show ∀ j, j < c + 1 → _ from fun j hj => by
          by_cases e : j = c
          · subst e; exact hbe
          · exact HQ.out j (by omega)
        clear hbe HQ R1 R2
        go_wp2
        rw [← hwp]
        go_roundw
        case rel => exact ⟨c + 1, by omega, by go_num, HQ', HWp⟩
        case measure => simp [intOf]; omega
      · have HX : Hid (atKey (L r) (K r) (X r) k = X r c) := atKey_hit hlt hbe HQ.out
        clear hbe HQ
        have E2 : ∀ o, ((wr.alloc o).cell? ⟨b + 1 + 1, 0, none⟩ = some (.int .i64 0) ∧ (wr.alloc o).cell? ⟨b + 1 + 1, 1, none⟩ = some (.int .i64 0) ∧ (wr.alloc o).cell? ⟨b + 1 + 1, 2, none⟩ = some (.string ⟨#[]⟩) ∧ (wr.alloc o).cell? ⟨b + 1 + 1, 3, none⟩ = some (.int .i64 0) ∧ ∀ i, (wr.alloc o).frozen? ⟨b + 1 + 1, i, none⟩ = false) := fun o =>
          cells4 (blkB (blkB P2.out HW.out) ((Below.refl _ _).alloc (Nat.le_refl _) o))
        have e0 := fun o => (E2 o).1
        have e1 := fun o => (E2 o).2.1
        have e2 := fun o => (E2 o).2.2.1
        have e3 := fun o => (E2 o).2.2.2.1
        have e4 := fun o => (E2 o).2.2.2.2
        clear E2
        have F2 : wr.cell? ⟨b + 1 + 1, 0, none⟩ = some (.int .i64 0) ∧ wr.cell? ⟨b + 1 + 1, 1, none⟩ = some (.int .i64 0) ∧ wr.cell? ⟨b + 1 + 1, 2, none⟩ = some (.string ⟨#[]⟩) ∧ wr.cell? ⟨b + 1 + 1, 3, none⟩ = some (.int .i64 0) ∧ ∀ i, wr.frozen? ⟨b + 1 + 1, i, none⟩ = false := cells4 (blkB P2.out HW.out)
        obtain ⟨f0, f1, f2, f3, f4⟩ := F2
        have hl2 : b + 1 + 1 < wr.heap.size := hlw
        go_wp2
        have Q := put4r (blkB P2.out HW.out) (.int .i64 (X r c).k) (.int .i64 (X r c).n) (.string (X r c).s) (.int .i64 (X r c).a)
        obtain ⟨q0, q1, q2, q3, _⟩ := cells4 (blkB Q ((Below.refl _ _).alloc (Nat.le_refl _) (.cells #[.int .i64 (K r c).k, .int .i64 (K r c).n, .string (K r c).s, .int .i64 (K r c).a, .int .i64 (X r c).k, .int .i64 (X r c).n, .string (X r c).s, .int .i64 (X r c).a] 63)))
        have HF : Hid (Below w.heap.size w ((((wr.setCell ⟨b + 2, 0, none⟩ (.int .i64 (X r c).k)).setCell ⟨b + 2, 1, none⟩ (.int .i64 (X r c).n)).setCell ⟨b + 2, 2, none⟩ (.string (X r c).s)).setCell ⟨b + 2, 3, none⟩ (.int .i64 (X r c).a))) := (grw HB0.out HW.out).trans (set4_below.mono (by omega))
        refine bodyPost_ret (v := vAgg (X r c)) (by simp [results, Try.results68, go_sem, q0, q1, q2, q3]) rfl ⟨by rw [HX.out], ?_⟩
        exact HF.out.alloc HF.out.size _
    · have HX : Hid (atKey (L r) (K r) (X r) k = zeroV) := atKey_none (fun j hj => HQ.out j (by omega))
      have R2 : Hid (wr.heap[b + 2]? = some (.cells #[.int .i64 0, .int .i64 0, .string ⟨#[]⟩, .int .i64 0] 29 (0, 0))) := blkB P2.out HW.out
      obtain ⟨e0, e1, e2, e3, e4⟩ := cells4 R2.out
      go_wp2
      obtain ⟨q0, q1, q2, q3, _⟩ := cells4 (put4r R2.out (.int .i64 0) (.int .i64 0) (.string ⟨#[]⟩) (.int .i64 0))
      refine bodyPost_ret (v := vAgg zeroV) (by simp [results, Try.results68, go_sem, q0, q1, q2, q3, zeroV]) rfl ⟨by rw [HX.out], ?_⟩
      exact (grw HB0.out HW.out).trans (set4_below.mono (by omega))

end Go.Proofs.Ytagalpfmpdeifab
