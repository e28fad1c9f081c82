import Derived.Test.YtagalpfmpdeifabG3
namespace Go.Proofs.Ytagalpfmpdeifab
open Go.RowKit Vl

theorem cells5 {w : World} {B : Nat} {a b c d e : Value} {t : TypeId} (H : w.heap[B]? = some (.cells #[a, b, c, d, e] t (0, 0))) :
    w.cell? ⟨B, 0, none⟩ = some a ∧ w.cell? ⟨B, 1, none⟩ = some b ∧ w.cell? ⟨B, 2, none⟩ = some c ∧ w.cell? ⟨B, 3, none⟩ = some d ∧ w.cell? ⟨B, 4, none⟩ = some e ∧ ∀ i, w.frozen? ⟨B, i, none⟩ = false := by
  refine ⟨?_, ?_, ?_, ?_, ?_, fun i => ?_⟩ <;> simp [World.cell?, World.frozen?, H]
theorem put5lo {w : World} {B : Nat} {a b c d e : Value} {t : TypeId} (H : w.heap[B]? = some (.cells #[a, b, c, d, e] t (0, 0))) (a' b' c' d' : Value) :
    ((((w.setCell ⟨B, 0, none⟩ a').setCell ⟨B, 1, none⟩ b').setCell ⟨B, 2, none⟩ c').setCell ⟨B, 3, none⟩ d').heap[B]? = some (.cells #[a', b', c', d', e] t (0, 0)) := by
  simp [World.setCell, Array.getElem?_modify, H]
theorem put5hi {w : World} {B : Nat} {a b c d e : Value} {t : TypeId} (H : w.heap[B]? = some (.cells #[a, b, c, d, e] t (0, 0))) (e' : Value) :
    (w.setCell ⟨B, 4, none⟩ e').heap[B]? = some (.cells #[a, b, c, d, e'] t (0, 0)) := by
  simp [World.setCell, Array.getElem?_modify, H]

/-- Tables as a copy leaves them. -/
theorem Copied.tabs {w0 w : World} {n : Nat} {G L : Nat → Nat} {K X : Nat → Nat → V} {B : Nat} (h : Copied w0 w n G L K X) (hr : w.rowIs B 61 n (fun i => .slice (some ⟨G i, 0, none⟩) (L i) (L i))) :
    TabsAt w (some ⟨B, 0, none⟩) n B 0 (fun r => some ⟨G r, 0, none⟩) L L G (fun _ => 0) K X :=
  ⟨fun _ => rfl, fun r hr' => by rw [Nat.zero_add]; exact hr.cell hr', h.row⟩

set_option maxHeartbeats 1000000 in
set_option maxRecDepth 100000 in
/-- 'toGraph'. -/
theorem toGraph_any (u : V) (ta : Option Addr) (n cp TB TO : Nat) (A : Nat → Option Addr) (L C RB RO : Nat → Nat) (K X : Nat → Nat → V) (w : World) (hn : n ≤ 1048576)
    (HS : Hid (Small 1048576 n L K X)) (HT : Hid (TabsAt w ta n TB TO A L C RB RO K X)) :
    Calls Try.prog 13 #[.agg #[.int .i64 u.k, .int .i64 u.n, .string u.s, .int .i64 u.a, .slice ta n cp]] w fun e w' => (∃ B, e = .returned (.agg #[.int .i64 u.k, .int .i64 u.n, .string u.s, .int .i64 u.a, .slice (some ⟨B, 0, none⟩) n n]) ∧ w.heap.size ≤ B ∧
      ∃ (w0 : World) (G : Nat → Nat), w0.heap.size = B ∧ Copied w0 w' n G L K X ∧ w'.rowIs B 61 n (fun i => .slice (some ⟨G i, 0, none⟩) (L i) (L i))) ∧ Below w.heap.size w w' := by
  have A3 : Hid _ := alloc3 w (.cells #[.int .i64 u.k, .int .i64 u.n, .string u.s, .int .i64 u.a, .slice ta n cp] 26) (.cells #[.int .i64 0, .int .i64 0, .string ⟨#[]⟩, .int .i64 0, .slice none 0 0] 32) (.cells #[.int .i64 0, .int .i64 0, .string ⟨#[]⟩, .int .i64 0, .slice none 0 0] 32)
  go_enter Try.func13, Try.ntmps13
  go_wp2_with fail
  refine (toVal_any u _).mono ?_
  rintro e w1 ⟨rfl, hb1⟩
  obtain ⟨p0, p1, p2, ps, pb⟩ := A3.out
  have P0 : Hid (w1.heap[w.heap.size]? = some (.cells #[.int .i64 u.k, .int .i64 u.n, .string u.s, .int .i64 u.a, .slice ta n cp] 26 (0, 0))) := (hb1.block _ (by omega)).trans p0
  have P1 : Hid (w1.heap[w.heap.size + 1]? = some (.cells #[.int .i64 0, .int .i64 0, .string ⟨#[]⟩, .int .i64 0, .slice none 0 0] 32 (0, 0))) := (hb1.block _ (by omega)).trans p1
  have P2 : Hid (w1.heap[w.heap.size + 2]? = some (.cells #[.int .i64 0, .int .i64 0, .string ⟨#[]⟩, .int .i64 0, .slice none 0 0] 32 (0, 0))) := (hb1.block _ (by omega)).trans p2
  have HW1 : Hid (Below w.heap.size w w1) := grw pb hb1
  clear hb1 p0 p1 p2 ps pb A3
  obtain ⟨c0, c1, c2, c3, c4, z0⟩ := cells5 P2.out
  obtain ⟨d0, d1, d2, d3, d4, _⟩ := cells5 P0.out
  obtain ⟨wa, hwa⟩ : ∃ wa, wa = ((((w1.setCell ⟨w.heap.size + 2, 0, none⟩ (.int .i64 u.k)).setCell ⟨w.heap.size + 2, 1, none⟩ (.int .i64 u.n)).setCell ⟨w.heap.size + 2, 2, none⟩ (.string u.s)).setCell ⟨w.heap.size + 2, 3, none⟩ (.int .i64 u.a)) := ⟨_, rfl⟩
  have HWa : Hid (Below w.heap.size w wa) := by rw [hwa]; exact HW1.out.trans (set4_below.mono (by omega))
  have Q2 : Hid (wa.heap[w.heap.size + 2]? = some (.cells #[.int .i64 u.k, .int .i64 u.n, .string u.s, .int .i64 u.a, .slice none 0 0] 32 (0, 0))) := by rw [hwa]; exact put5lo P2.out _ _ _ _
  have Q1 : Hid (wa.heap[w.heap.size + 1]? = some (.cells #[.int .i64 0, .int .i64 0, .string ⟨#[]⟩, .int .i64 0, .slice none 0 0] 32 (0, 0))) := by rw [hwa]; exact (set4_far (by omega)).trans P1.out
  have hto := toTableS_any ta n cp TB TO A L C RB RO K X wa hn HS (HT.out.below HWa.out)
  go_wp2_with fail
  rw [← hwa]
  refine hto.mono ?_
  clear hto HT hwa c0 c1 c2 c3 c4 z0 d0 d1 d2 d3 d4 P0 P1 P2 HW1
  rintro e w2 ⟨rfl, ⟨G, hC, hR⟩, hb2⟩
  have R2 : Hid (w2.heap[w.heap.size + 2]? = some (.cells #[.int .i64 u.k, .int .i64 u.n, .string u.s, .int .i64 u.a, .slice none 0 0] 32 (0, 0))) := (hb2.block _ (blk_lt Q2.out)).trans Q2.out
  have R1 : Hid (w2.heap[w.heap.size + 1]? = some (.cells #[.int .i64 0, .int .i64 0, .string ⟨#[]⟩, .int .i64 0, .slice none 0 0] 32 (0, 0))) := (hb2.block _ (blk_lt Q1.out)).trans Q1.out
  have HW2 : Hid (Below w.heap.size w w2) := grw HWa.out hb2
  have hsz : Hid (w.heap.size + 2 < wa.heap.size) := blk_lt Q2.out
  have HC : Hid (Copied wa w2 n G L K X) := hC
  have HR : Hid (w2.rowIs wa.heap.size 61 n (fun i => .slice (some ⟨G i, 0, none⟩) (L i) (L i))) := hR
  clear Q1 Q2 hb2 hC hR
  obtain ⟨c0, c1, c2, c3, c4, z0⟩ := cells5 R2.out
  obtain ⟨d0, d1, d2, d3, d4, z1⟩ := cells5 R1.out
  go_wp2
  obtain ⟨B, hB⟩ : ∃ B, wa.heap.size = B := ⟨_, rfl⟩
  obtain ⟨wb, hwb⟩ : ∃ wb, wb = (((((w2.setCell ⟨w.heap.size + 2, 4, none⟩ (.slice (some ⟨wa.heap.size, 0, none⟩) n n)).setCell ⟨w.heap.size + 1, 0, none⟩ (.int .i64 u.k)).setCell ⟨w.heap.size + 1, 1, none⟩ (.int .i64 u.n)).setCell ⟨w.heap.size + 1, 2, none⟩ (.string u.s)).setCell ⟨w.heap.size + 1, 3, none⟩ (.int .i64 u.a)).setCell ⟨w.heap.size + 1, 4, none⟩ (.slice (some ⟨wa.heap.size, 0, none⟩) n n) := ⟨_, rfl⟩
  have F : wb.heap[w.heap.size + 1]? = some (.cells #[.int .i64 u.k, .int .i64 u.n, .string u.s, .int .i64 u.a, .slice (some ⟨wa.heap.size, 0, none⟩) n n] 32 (0, 0)) := by
    rw [hwb]
    exact put5hi (put5lo ((Below.heap_setCell _ _ _ _ (by show w.heap.size + 1 ≠ w.heap.size + 2; omega)).trans R1.out) _ _ _ _) _
  have hfar : ∀ k, w.heap.size + 2 < k → wb.heap[k]? = w2.heap[k]? := fun k hk => by
    rw [hwb, Below.heap_setCell _ _ _ _ (by show k ≠ w.heap.size + 1; omega), set4_far (by omega), Below.heap_setCell _ _ _ _ (by show k ≠ w.heap.size + 2; omega)]
  have HWb : Hid (Below w.heap.size w wb) := by
    rw [hwb]
    exact ((HW2.out.setCell (by show w.heap.size ≤ w.heap.size + 2; omega) _).trans (set4_below.mono (by omega))).setCell (by show w.heap.size ≤ w.heap.size + 1; omega) _
  have hsz2 : wb.heap.size = w2.heap.size := by rw [hwb]; simp [World.setCell]
  have hA0 : w.heap.size + 2 < wa.heap.size := hsz.out
  obtain ⟨q0, q1, q2, q3, q4, _⟩ := cells5 F
  rw [← hwb]
  clear hwb F c0 c1 c2 c3 c4 z0 d0 d1 d2 d3 d4 z1 R1 R2
  refine bodyPost_ret (v := .agg #[.int .i64 u.k, .int .i64 u.n, .string u.s, .int .i64 u.a, .slice (some ⟨wa.heap.size, 0, none⟩) n n]) (by simp [results, Try.results13, go_sem, q0, q1, q2, q3, q4]) rfl ⟨⟨wa.heap.size, rfl, by omega, wa, G, rfl, ?_, ?_⟩, HWb.out⟩
  · have h := HC.out
    exact ⟨fun r hr => ⟨(h.new r hr).1, by have := (h.new r hr).2; omega⟩, h.inc, fun r hr => (h.row r hr).same (hfar _ (by have := (h.new r hr).1; omega)), fun r hr => by obtain ⟨f, hf⟩ := h.blk r hr; exact ⟨f, hf.of_block (hfar _ (by have := (h.new r hr).1; omega))⟩⟩
  · exact HR.out.of_block (hfar _ (by omega))

end Go.Proofs.Ytagalpfmpdeifab

namespace Go.Proofs.Ytagalpfmpdeifab
open Go.RowKit Vl

theorem boxes8 (w : World) (u v x y : V) : Below w.heap.size w ((w.alloc (Obj.cells #[.int .i64 u.k, .int .i64 u.n, .string u.s, .int .i64 u.a, .int .i64 v.k, .int .i64 v.n, .string v.s, .int .i64 v.a] 63)).alloc (Obj.cells #[.int .i64 x.k, .int .i64 x.n, .string x.s, .int .i64 x.a, .int .i64 y.k, .int .i64 y.n, .string y.s, .int .i64 y.a] 63)) :=
  ((Below.refl _ _).alloc (Nat.le_refl _) _).alloc (by simp) _

set_option maxHeartbeats 1000000 in
/-- 'eqVal' of a value and itself. -/
theorem eqVal_same (u : V) (w : World) :
    Calls Try.prog 28 #[.agg #[.int .i64 u.k, .int .i64 u.n, .string u.s, .int .i64 u.a], .agg #[.int .i64 u.k, .int .i64 u.n, .string u.s, .int .i64 u.a]] w fun e w' => e = .returned (.bool true) ∧ Below w.heap.size w w' := by
  have hb0 : Hid _ := boxes w u u
  have h1 : (u.k != u.k) = false := by simp
  have h2 : (u.n != u.n) = false := by simp
  have h3 : (u.s.toList == u.s.toList) = true := by simp
  have h4 : (u.a != u.a) = false := by simp
  go_enter Try.func28, Try.ntmps28
  go_wp2
  go_ret
  exact ⟨rfl, hb0.out⟩

theorem alloc2 (w : World) (a b : Obj) : ((w.alloc a).alloc b).heap[w.heap.size]? = some a ∧ ((w.alloc a).alloc b).heap[w.heap.size + 1]? = some b ∧ ((w.alloc a).alloc b).heap.size = w.heap.size + 2 ∧ Below w.heap.size w ((w.alloc a).alloc b) := by
  have e1 : (w.alloc a).heap.size = w.heap.size + 1 := by simp
  have e2 : ((w.alloc a).alloc b).heap.size = w.heap.size + 2 := by simp
  refine ⟨?_, ?_, e2, ((Below.refl _ _).alloc (Nat.le_refl _) _).alloc (by omega) _⟩
  · rw [Below.heap_alloc _ _ _ (by omega)]; exact heap_alloc_new _ _
  · rw [← e1]; exact heap_alloc_new _ _

set_option maxHeartbeats 1000000 in
set_option maxRecDepth 100000 in
/-- 'eqPair' of a pair and itself. -/
theorem eqPair_same (u v : V) (w : World) :
    Calls Try.prog 116 #[.agg #[.int .i64 u.k, .int .i64 u.n, .string u.s, .int .i64 u.a, .int .i64 v.k, .int .i64 v.n, .string v.s, .int .i64 v.a], .agg #[.int .i64 u.k, .int .i64 u.n, .string u.s, .int .i64 u.a, .int .i64 v.k, .int .i64 v.n, .string v.s, .int .i64 v.a]] w fun e w' => e = .returned (.bool true) ∧ Below w.heap.size w w' := by
  have A2 : Hid _ := alloc2 w (.cells #[.int .i64 u.k, .int .i64 u.n, .string u.s, .int .i64 u.a, .int .i64 v.k, .int .i64 v.n, .string v.s, .int .i64 v.a] 63) (.cells #[.int .i64 u.k, .int .i64 u.n, .string u.s, .int .i64 u.a, .int .i64 v.k, .int .i64 v.n, .string v.s, .int .i64 v.a] 63)
  go_enter Try.func116, Try.ntmps116
  go_wp2_with fail
  refine (eqVal_same u _).mono ?_
  rintro e w1 ⟨rfl, hb1⟩
  obtain ⟨p0, p1, ps, pb⟩ := A2.out
  have P0 : Hid (w1.heap[w.heap.size]? = some (.cells #[.int .i64 u.k, .int .i64 u.n, .string u.s, .int .i64 u.a, .int .i64 v.k, .int .i64 v.n, .string v.s, .int .i64 v.a] 63 (0, 0))) := (hb1.block _ (by omega)).trans p0
  have P1 : Hid (w1.heap[w.heap.size + 1]? = some (.cells #[.int .i64 u.k, .int .i64 u.n, .string u.s, .int .i64 u.a, .int .i64 v.k, .int .i64 v.n, .string v.s, .int .i64 v.a] 63 (0, 0))) := (hb1.block _ (by omega)).trans p1
  have HW1 : Hid (Below w.heap.size w w1) := grw pb hb1
  clear hb1 p0 p1 ps pb A2
  obtain ⟨c0, c1, c2, c3, c4, c5, c6, c7, _⟩ := cells8 P0.out
  obtain ⟨d0, d1, d2, d3, d4, d5, d6, d7, _⟩ := cells8 P1.out
  go_wp2_with fail
  refine (eqVal_same v _).mono ?_
  rintro e w2 ⟨rfl, hb2⟩
  have HW2 : Hid (Below w.heap.size w w2) := grw HW1.out hb2
  clear hb2 P0 P1 HW1 c0 c1 c2 c3 c4 c5 c6 c7 d0 d1 d2 d3 d4 d5 d6 d7
  go_wp2
  go_ret
  exact ⟨rfl, HW2.out⟩

theorem keep8 {w0 w w' : World} {B o B' o' : Nat} {u v : V}
    (h : ((w.cell? ⟨B, o, none⟩ = some (.int .i64 u.k) ∧ w.cell? ⟨B, o + 1, none⟩ = some (.int .i64 u.n) ∧ w.cell? ⟨B, o + 2, none⟩ = some (.string u.s) ∧ w.cell? ⟨B, o + 3, none⟩ = some (.int .i64 u.a)) ∧ (w.cell? ⟨B, o + 4, none⟩ = some (.int .i64 v.k) ∧ w.cell? ⟨B, o + 5, none⟩ = some (.int .i64 v.n) ∧ w.cell? ⟨B, o + 6, none⟩ = some (.string v.s) ∧ w.cell? ⟨B, o + 7, none⟩ = some (.int .i64 v.a))) ∧
      ((w.cell? ⟨B', o', none⟩ = some (.int .i64 u.k) ∧ w.cell? ⟨B', o' + 1, none⟩ = some (.int .i64 u.n) ∧ w.cell? ⟨B', o' + 2, none⟩ = some (.string u.s) ∧ w.cell? ⟨B', o' + 3, none⟩ = some (.int .i64 u.a)) ∧ (w.cell? ⟨B', o' + 4, none⟩ = some (.int .i64 v.k) ∧ w.cell? ⟨B', o' + 5, none⟩ = some (.int .i64 v.n) ∧ w.cell? ⟨B', o' + 6, none⟩ = some (.string v.s) ∧ w.cell? ⟨B', o' + 7, none⟩ = some (.int .i64 v.a))) ∧ Hid (Below w0.heap.size w0 w)) (hb : Below w.heap.size w w') :
    ((w'.cell? ⟨B, o, none⟩ = some (.int .i64 u.k) ∧ w'.cell? ⟨B, o + 1, none⟩ = some (.int .i64 u.n) ∧ w'.cell? ⟨B, o + 2, none⟩ = some (.string u.s) ∧ w'.cell? ⟨B, o + 3, none⟩ = some (.int .i64 u.a)) ∧ (w'.cell? ⟨B, o + 4, none⟩ = some (.int .i64 v.k) ∧ w'.cell? ⟨B, o + 5, none⟩ = some (.int .i64 v.n) ∧ w'.cell? ⟨B, o + 6, none⟩ = some (.string v.s) ∧ w'.cell? ⟨B, o + 7, none⟩ = some (.int .i64 v.a))) ∧
      ((w'.cell? ⟨B', o', none⟩ = some (.int .i64 u.k) ∧ w'.cell? ⟨B', o' + 1, none⟩ = some (.int .i64 u.n) ∧ w'.cell? ⟨B', o' + 2, none⟩ = some (.string u.s) ∧ w'.cell? ⟨B', o' + 3, none⟩ = some (.int .i64 u.a)) ∧ (w'.cell? ⟨B', o' + 4, none⟩ = some (.int .i64 v.k) ∧ w'.cell? ⟨B', o' + 5, none⟩ = some (.int .i64 v.n) ∧ w'.cell? ⟨B', o' + 6, none⟩ = some (.string v.s) ∧ w'.cell? ⟨B', o' + 7, none⟩ = some (.int .i64 v.a))) ∧ Hid (Below w0.heap.size w0 w') :=
  ⟨⟨ValAt.below (o := o) h.1.1 hb, ValAt.below (o := o + 4) h.1.2 hb⟩, ⟨ValAt.below (o := o') h.2.1.1 hb, ValAt.below (o := o' + 4) h.2.1.2 hb⟩, grw h.2.2.out hb⟩

set_option maxHeartbeats 1000000 in
set_option maxRecDepth 100000 in
/-- 'eqPairS' of the same pairs. -/
theorem eqPairS_same (pa pa' : Option Addr) (L C C' B O B' O' : Nat) (K X : Nat → V) (w : World) (hL : L ≤ 1048576) (HP : Hid (PairsAt w pa L B O K X)) (HP' : Hid (PairsAt w pa' L B' O' K X)) :
    Calls Try.prog 103 #[.slice pa L C, .slice pa' L C'] w fun e w' => e = .returned (.bool true) ∧ Below w.heap.size w w' := by
  have hne : ((L : Int) != (L : Int)) = false := by simp
  go_enter Try.func103, Try.ntmps103
  go_wp2
  clear hne
  go_loopw [5] (fun i wr => ∃ c : Nat, c ≤ L ∧ i = .int .i64 c ∧ Hid (Below w.heap.size w wr)) (fun i _ => L - (intOf i).toNat)
  case atStart => exact ⟨0, Nat.zero_le _, rfl, Below.refl _ _⟩
  case round =>
    obtain ⟨c, hc, rfl, HW⟩ := hrel
    by_cases hlt : c < L
    · obtain rfl := HP.out.top (by omega)
      obtain rfl := HP'.out.top (by omega)
      have hh := (HP.out.below HW.out).cells hlt
      have hh' := (HP'.out.below HW.out).cells hlt
      have HH : Hid _ := hh
      have HH' : Hid _ := hh'
      obtain ⟨⟨k0, k1, k2, k3⟩, ⟨x0, x1, x2, x3⟩⟩ := hh
      obtain ⟨⟨l0, l1, l2, l3⟩, ⟨y0, y1, y2, y3⟩⟩ := hh'
      go_wp2
      go_region_held3 (fun w' => ((w'.cell? ⟨B, O + c * 8, none⟩ = some (.int .i64 (K c).k) ∧ w'.cell? ⟨B, O + c * 8 + 1, none⟩ = some (.int .i64 (K c).n) ∧ w'.cell? ⟨B, O + c * 8 + 2, none⟩ = some (.string (K c).s) ∧ w'.cell? ⟨B, O + c * 8 + 3, none⟩ = some (.int .i64 (K c).a)) ∧ (w'.cell? ⟨B, O + c * 8 + 4, none⟩ = some (.int .i64 (X c).k) ∧ w'.cell? ⟨B, O + c * 8 + 5, none⟩ = some (.int .i64 (X c).n) ∧ w'.cell? ⟨B, O + c * 8 + 6, none⟩ = some (.string (X c).s) ∧ w'.cell? ⟨B, O + c * 8 + 7, none⟩ = some (.int .i64 (X c).a))) ∧
          ((w'.cell? ⟨B', O' + c * 8, none⟩ = some (.int .i64 (K c).k) ∧ w'.cell? ⟨B', O' + c * 8 + 1, none⟩ = some (.int .i64 (K c).n) ∧ w'.cell? ⟨B', O' + c * 8 + 2, none⟩ = some (.string (K c).s) ∧ w'.cell? ⟨B', O' + c * 8 + 3, none⟩ = some (.int .i64 (K c).a)) ∧ (w'.cell? ⟨B', O' + c * 8 + 4, none⟩ = some (.int .i64 (X c).k) ∧ w'.cell? ⟨B', O' + c * 8 + 5, none⟩ = some (.int .i64 (X c).n) ∧ w'.cell? ⟨B', O' + c * 8 + 6, none⟩ = some (.string (X c).s) ∧ w'.cell? ⟨B', O' + c * 8 + 7, none⟩ = some (.int .i64 (X c).a))) ∧ Hid (Below w.heap.size w w'))
        (first | exact keep8 ‹_ ∧ _› hb1 | exact ⟨HH.out, HH'.out, HW.out.drew⟩)
        ((go_at_call 116; refine (eqPair_same (K c) (X c) _).mono ?_; rintro e w1 ⟨rfl, hb1⟩))
      rename_i hS
      have HW1 := hS.2.2
      clear hS hb1 HH HH' k0 k1 k2 k3 x0 x1 x2 x3 l0 l1 l2 l3 y0 y1 y2 y3 HW
      go_wp2
      go_roundw
      case rel => exact ⟨c + 1, by omega, by go_num, HW1⟩
      case measure => simp [intOf]; omega
    · go_wp2
      go_ret
      exact ⟨rfl, HW.out⟩

end Go.Proofs.Ytagalpfmpdeifab

namespace Go.Proofs.Ytagalpfmpdeifab
open Go.RowKit Vl

set_option maxHeartbeats 1000000 in
set_option maxRecDepth 100000 in
/-- 'eqTable' of the same pairs. -/
theorem eqTable_same (pa pa' : Option Addr) (L C C' B O B' O' : Nat) (K X : Nat → V) (w : World) (hL : L ≤ 1048576) (HP : Hid (PairsAt w pa L B O K X)) (HP' : Hid (PairsAt w pa' L B' O' K X)) :
    Calls Try.prog 79 #[.agg #[.slice pa L C], .agg #[.slice pa' L C']] w fun e w' => e = .returned (.bool true) ∧ Below w.heap.size w w' := by
  have A2 : Hid _ := alloc2 w (.cells #[.slice pa L C] 61) (.cells #[.slice pa' L C'] 61)
  have h := eqPairS_same pa pa' L C C' B O B' O' K X _ hL (HP.out.below A2.out.2.2.2) (HP'.out.below A2.out.2.2.2)
  have HB : Hid (Below w.heap.size w ((w.alloc (.cells #[.slice pa L C] 61)).alloc (.cells #[.slice pa' L C'] 61))) := A2.out.2.2.2
  clear A2
  go_enter Try.func79, Try.ntmps79
  go_wp2_with fail
  refine h.mono ?_
  clear h
  rintro e w1 ⟨rfl, hb1⟩
  have HW1 : Hid (Below w.heap.size w w1) := grw HB.out hb1
  clear hb1 HB
  go_wp2
  go_ret
  exact ⟨rfl, HW1.out⟩

theorem keep2c {w0 w w' : World} {B o B' o' : Nat} {u v : Value}
    (h : w.cell? ⟨B, o, none⟩ = some u ∧ w.cell? ⟨B', o', none⟩ = some v ∧ Hid (Below w0.heap.size w0 w)) (hb : Below w.heap.size w w') : w'.cell? ⟨B, o, none⟩ = some u ∧ w'.cell? ⟨B', o', none⟩ = some v ∧ Hid (Below w0.heap.size w0 w') :=
  ⟨(hb.cell (p := ⟨B, o, none⟩) (World.block_lt_of_cell? _ _ h.1)).trans h.1, (hb.cell (p := ⟨B', o', none⟩) (World.block_lt_of_cell? _ _ h.2.1)).trans h.2.1, grw h.2.2.out hb⟩

set_option maxHeartbeats 1000000 in
set_option maxRecDepth 100000 in
/-- 'eqTableS' of the same tables. -/
theorem eqTableS_same (ta ta' : Option Addr) (n cp cp' TB TO TB' TO' : Nat) (A A' : Nat → Option Addr) (L C C' RB RO RB' RO' : Nat → Nat) (K X : Nat → Nat → V) (w : World) (hn : n ≤ 1048576) (HS : Hid (Small 1048576 n L K X))
    (HT : Hid (TabsAt w ta n TB TO A L C RB RO K X)) (HT' : Hid (TabsAt w ta' n TB' TO' A' L C' RB' RO' K X)) :
    Calls Try.prog 48 #[.slice ta n cp, .slice ta' n cp'] w fun e w' => e = .returned (.bool true) ∧ Below w.heap.size w w' := by
  have hne : ((n : Int) != (n : Int)) = false := by simp
  go_enter Try.func48, Try.ntmps48
  go_wp2
  clear hne
  go_loopw [5] (fun i wr => ∃ c : Nat, c ≤ n ∧ i = .int .i64 c ∧ Hid (Below w.heap.size w wr)) (fun i _ => n - (intOf i).toNat)
  case atStart => exact ⟨0, Nat.zero_le _, rfl, Below.refl _ _⟩
  case round =>
    obtain ⟨c, hc, rfl, HW⟩ := hrel
    by_cases hlt : c < n
    · obtain rfl := HT.out.top (by omega)
      obtain rfl := HT'.out.top (by omega)
      have t0 := (HT.out.below HW.out).tab c hlt
      have t1 := (HT'.out.below HW.out).tab c hlt
      have HE : Hid (∀ w', Below wr.heap.size wr w' → Calls Try.prog 79 #[.agg #[.slice (A c) (L c) (C c)], .agg #[.slice (A' c) (L c) (C' c)]] w' fun e w'' => e = .returned (.bool true) ∧ Below w'.heap.size w' w'') := show ∀ w', _ from fun w' hb' =>
        eqTable_same (A c) (A' c) (L c) (C c) (C' c) (RB c) (RO c) (RB' c) (RO' c) (K c) (X c) w' (HS.out c hlt).1 ((HT.out.below (grw HW.out hb')).row c hlt) ((HT'.out.below (grw HW.out hb')).row c hlt)
      go_wp2
      go_region_held3 (fun w' => w'.cell? ⟨TB, TO + c, none⟩ = some (.slice (A c) (L c) (C c)) ∧ w'.cell? ⟨TB', TO' + c, none⟩ = some (.slice (A' c) (L c) (C' c)) ∧ Hid (Below w.heap.size w w'))
        (first | exact keep2c ‹_ ∧ _› hb1 | exact ⟨t0, t1, HW.out.drew⟩)
        ((go_at_call 79; refine (HE.out _ ((Below.refl _ _).drew)).mono ?_; rintro e w1 ⟨rfl, hb1⟩))
      rename_i hS
      have HW1 := hS.2.2
      clear hS hb1 t0 t1 HE HW
      go_wp2
      go_roundw
      case rel => exact ⟨c + 1, by omega, by go_num, HW1⟩
      case measure => simp [intOf]; omega
    · go_wp2
      go_ret
      exact ⟨rfl, HW.out⟩

set_option maxHeartbeats 1000000 in
set_option maxRecDepth 100000 in
/-- 'eqGraph' of the same graphs. -/
theorem eqGraph_same (u : V) (ta ta' : Option Addr) (n cp cp' TB TO TB' TO' : Nat) (A A' : Nat → Option Addr) (L C C' RB RO RB' RO' : Nat → Nat) (K X : Nat → Nat → V) (w : World) (hn : n ≤ 1048576) (HS : Hid (Small 1048576 n L K X))
    (HT : Hid (TabsAt w ta n TB TO A L C RB RO K X)) (HT' : Hid (TabsAt w ta' n TB' TO' A' L C' RB' RO' K X)) :
    Calls Try.prog 15 #[.agg #[.int .i64 u.k, .int .i64 u.n, .string u.s, .int .i64 u.a, .slice ta n cp], .agg #[.int .i64 u.k, .int .i64 u.n, .string u.s, .int .i64 u.a, .slice ta' n cp']] w fun e w' => e = .returned (.bool true) ∧ Below w.heap.size w w' := by
  have A2 : Hid _ := alloc2 w (.cells #[.int .i64 u.k, .int .i64 u.n, .string u.s, .int .i64 u.a, .slice ta n cp] 32) (.cells #[.int .i64 u.k, .int .i64 u.n, .string u.s, .int .i64 u.a, .slice ta' n cp'] 32)
  go_enter Try.func15, Try.ntmps15
  go_wp2_with fail
  refine (eqVal_same u _).mono ?_
  rintro e w1 ⟨rfl, hb1⟩
  obtain ⟨p0, p1, ps, pb⟩ := A2.out
  have P0 : Hid (w1.heap[w.heap.size]? = some (.cells #[.int .i64 u.k, .int .i64 u.n, .string u.s, .int .i64 u.a, .slice ta n cp] 32 (0, 0))) := (hb1.block _ (by omega)).trans p0
  have P1 : Hid (w1.heap[w.heap.size + 1]? = some (.cells #[.int .i64 u.k, .int .i64 u.n, .string u.s, .int .i64 u.a, .slice ta' n cp'] 32 (0, 0))) := (hb1.block _ (by omega)).trans p1
  have HW1 : Hid (Below w.heap.size w w1) := grw pb hb1
  clear hb1 p0 p1 ps pb A2
  obtain ⟨c0, c1, c2, c3, c4, _⟩ := cells5 P0.out
  obtain ⟨d0, d1, d2, d3, d4, _⟩ := cells5 P1.out
  have h := eqTableS_same ta ta' n cp cp' TB TO TB' TO' A A' L C C' RB RO RB' RO' K X w1 hn HS (HT.out.below HW1.out) (HT'.out.below HW1.out)
  go_wp2_with fail
  refine h.mono ?_
  clear h
  rintro e w2 ⟨rfl, hb2⟩
  have HW2 : Hid (Below w.heap.size w w2) := grw HW1.out hb2
  clear hb2 P0 P1 HW1 c0 c1 c2 c3 c4 d0 d1 d2 d3 d4
  go_wp2
  go_ret
  exact ⟨rfl, HW2.out⟩

end Go.Proofs.Ytagalpfmpdeifab

namespace Go.Proofs.Ytagalpfmpdeifab.Vl
open Go

theorem ko_two {a b : V} (h : ko a b = 2) : ko b a = 2 := by
  unfold ko at h ⊢
  rw [Bool.and_comm]
  by_cases hk : (isK a && isK b) = true
  · rw [if_pos hk] at h
    split at h
    · omega
    · split at h <;> omega
  · rw [if_neg hk]

theorem less_asymm {a b : V} (h : less a b = true) : less b a = false := by
  unfold less at h ⊢
  by_cases hk : a.k = b.k
  · rw [if_pos hk] at h
    rw [if_pos hk.symm]
    by_cases h3 : a.k = 3
    · rw [if_pos h3] at h
      rw [if_pos (by omega), ← bl_total, h]
      rfl
    · rw [if_neg h3] at h
      rw [if_neg (by omega)]
      simp at h ⊢
      omega
  · rw [if_neg hk] at h
    rw [if_neg (fun e => hk e.symm)]
    simp at h ⊢
    omega

theorem ko_neg {a b : V} (h : ko a b ≠ 2) : ko b a = -(ko a b) := by
  unfold ko at h ⊢
  rw [Bool.and_comm (isK b)]
  by_cases hk : (isK a && isK b) = true
  · rw [if_pos hk, if_pos hk]
    by_cases h1 : less a b = true
    · rw [if_pos h1, less_asymm h1]; simp [h1]
    · by_cases h2 : less b a = true
      · simp [h1, h2]
      · simp [h1, h2]
  · rw [if_neg hk] at h; exact absurd rfl h

def eqV (a b : V) : Bool := a.k == b.k && (a.n == b.n && (a.s.toList == b.s.toList && a.a == b.a))

theorem key_a {v : V} (h : isK v = true) : v.a = 0 := by
  obtain ⟨k, n, s, a⟩ := v
  simp only [isK, Bool.and_eq_true, Bool.or_eq_true, beq_iff_eq] at h
  obtain ⟨hk, hv⟩ := h
  rcases hk with (rfl | rfl) | rfl <;> simp [isV] at hv <;> (show a = 0; omega)

theorem ko_zero {a b : V} (h : ko a b ≠ 2) : (ko a b == 0) = eqV a b := by
  unfold ko at h ⊢
  by_cases hk : (isK a && isK b) = true
  · rw [if_pos hk]
    obtain ⟨ha, hb⟩ := Bool.and_eq_true_iff.1 hk
    rw [Bool.eq_iff_iff]
    constructor
    · intro h0
      have h1 : less a b = false := by cases hl : less a b <;> simp [hl] at h0 ⊢
      have h2 : less b a = false := by cases hl : less b a <;> simp [hl, h1] at h0 ⊢
      unfold less at h1 h2
      have e : a.k = b.k := by
        by_cases hk : a.k = b.k
        · exact hk
        · rw [if_neg hk] at h1
          rw [if_neg (fun e => hk e.symm)] at h2
          simp at h1 h2
          omega
      rw [if_pos e] at h1
      rw [if_pos e.symm] at h2
      have za := key_a ha
      have zb := key_a hb
      have ca := key_cases ha
      have cb := key_cases hb
      by_cases h3 : a.k = 3
      · rw [if_pos h3] at h1
        rw [if_pos (by omega), ← bl_total, h1] at h2
        have hs : a.s.toList = b.s.toList := by simpa using h2
        have na : a.n = 0 := by rcases ca with h | h | h <;> first | exact h.2 | omega
        have nb : b.n = 0 := by rcases cb with h | h | h <;> first | exact h.2 | omega
        simp [eqV, e, hs, na, nb, za, zb]
      · rw [if_neg h3] at h1
        rw [if_neg (by omega)] at h2
        simp at h1 h2
        have sa : a.s.toList = [] := by rcases ca with h | h | h <;> first | exact h.2 | omega
        have sb : b.s.toList = [] := by rcases cb with h | h | h <;> first | exact h.2 | omega
        have hn : a.n = b.n := by omega
        simp [eqV, e, hn, sa, sb, za, zb]
    · intro he
      simp only [eqV, Bool.and_eq_true, beq_iff_eq] at he
      obtain ⟨e1, e2, e3, e4⟩ := he
      have h1 : less a b = false := by simp [less, e1, e2, e3, bl_irrefl]
      have h2 : less b a = false := by simp [less, e1, e2, e3, bl_irrefl]
      simp [h1, h2]
  · rw [if_neg hk] at h; exact absurd rfl h

end Go.Proofs.Ytagalpfmpdeifab.Vl

/-
  What it is that a graph is well made. No Go in sight.
-/
namespace Go.Proofs.Ytagalpfmpdeifab.Vl

structure OkP (n : Nat) (K X : Nat → V) (c : Nat) : Prop where
  key : isK (K c) = true
  val : isV n (X c) = true
  some : (X c).k ≠ 0
  once : ∀ j, j < c → eqV (K j) (K c) = false

structure OkT (n L : Nat) (K X : Nat → V) : Prop where
  len : L ≤ 100
  all : ∀ c, c < L → OkP n K X c

structure OkG (n : Nat) (u : V) (L : Nat → Nat) (K X : Nat → Nat → V) : Prop where
  len : n ≤ 200
  root : isV n u = true
  all : ∀ r, r < n → OkT n (L r) (K r) (X r)

end Go.Proofs.Ytagalpfmpdeifab.Vl

namespace Go.Proofs.Ytagalpfmpdeifab
open Go.RowKit Vl

theorem eql_val (u v : V) (w : World) :
    (binOp .eql 29 (.agg #[.int .i64 u.k, .int .i64 u.n, .string u.s, .int .i64 u.a]) (.agg #[.int .i64 v.k, .int .i64 v.n, .string v.s, .int .i64 v.a])).run Try.prog w = .ok (.bool (eqV u v)) w := by
  go_simp
  by_cases h1 : u.k = v.k <;> by_cases h2 : u.n = v.n <;> by_cases h3 : u.s.toList = v.s.toList <;> by_cases h4 : u.a = v.a <;> simp [eqV, h1, h2, h3, h4]

/-- An answer that tells whether P. -/
def Tells (P : Prop) (e : Ending) : Prop := ∃ b, e = .returned (.bool b) ∧ (b = true ↔ P)
theorem tells_no {P : Prop} (h : ¬ P) : Tells P (.returned (.bool false)) := ⟨false, rfl, by simp; exact h⟩
theorem tells_yes {P : Prop} (h : P) : Tells P (.returned (.bool true)) := ⟨true, rfl, by simp; exact h⟩

/-- The cells of a value, written out. -/
theorem VAt.cells {w : World} {b o : Nat} {v : V} (h : VAt w b o v) : w.cell? ⟨b, o, none⟩ = some (.int .i64 v.k) ∧ w.cell? ⟨b, o + 1, none⟩ = some (.int .i64 v.n) ∧ w.cell? ⟨b, o + 2, none⟩ = some (.string v.s) ∧ w.cell? ⟨b, o + 3, none⟩ = some (.int .i64 v.a) := h

set_option maxHeartbeats 2000000 in
set_option maxRecDepth 100000 in
/-- 'spec.GraphOk'. -/
theorem specOk_any (u : V) (ta : Option Addr) (n cp TB TO : Nat) (A : Nat → Option Addr) (L C RB RO : Nat → Nat) (K X : Nat → Nat → V) (w : World) (hn : n ≤ 1048576)
    (HS : Hid (Small 1048576 n L K X)) (HT : Hid (TabsAt w ta n TB TO A L C RB RO K X)) :
    Calls Try.prog 12 #[.agg #[.int .i64 u.k, .int .i64 u.n, .string u.s, .int .i64 u.a, .slice ta n cp]] w fun e w' => Tells (OkG n u L K X) e ∧ Below w.heap.size w w' := by
  obtain ⟨w0, hw0⟩ : ∃ w0, w0 = w.alloc (.cells #[.int .i64 u.k, .int .i64 u.n, .string u.s, .int .i64 u.a, .slice ta n cp] 32) := ⟨_, rfl⟩
  have H0 : Hid (w0.heap[w.heap.size]? = some (.cells #[.int .i64 u.k, .int .i64 u.n, .string u.s, .int .i64 u.a, .slice ta n cp] 32 (0, 0))) := by rw [hw0]; exact heap_alloc_new _ _
  have HB0 : Hid (Below w.heap.size w w0) := by rw [hw0]; exact (Below.refl _ _).alloc (Nat.le_refl _) _
  have HT0 : Hid (TabsAt w0 ta n TB TO A L C RB RO K X) := HT.out.below HB0.out
  by_cases h200 : n ≤ 200
  · obtain ⟨bu, Hbu⟩ : ∃ b, Hid (isV n u = b) := ⟨_, rfl⟩
    have hv := l2val_any u.k u.n u.s u.a ta n cp u w0
    rw [Hbu.out] at hv
    obtain ⟨g0, g1, g2, g3, g4, _⟩ := cells5 H0.out
    go_enter Try.func12, Try.ntmps12
    go_wp2_with fail
    rw [← hw0]
    refine hv.mono ?_
    clear hv
    rintro e w1 ⟨rfl, hb1⟩
    have HW1 : Hid (Below w0.heap.size w0 w1) := hb1
    clear hb1 hw0 g0 g1 g2 g3 g4
    cases bu
    · go_wp2
      go_ret
      exact ⟨tells_no (fun h => by have := h.root; rw [Hbu.out] at this; cases this), grw HB0.out HW1.out⟩
    · have H1 : Hid (w1.heap[w.heap.size]? = some (.cells #[.int .i64 u.k, .int .i64 u.n, .string u.s, .int .i64 u.a, .slice ta n cp] 32 (0, 0))) := (HW1.out.block _ (blk_lt H0.out)).trans H0.out
      obtain ⟨g0, g1, g2, g3, g4, _⟩ := cells5 H1.out
      go_wp2
      clear g0 g1 g2 g3 g4 H1
      go_loopw [22] (fun i wr => ∃ r : Nat, r ≤ n ∧ i = .int .i64 r ∧ Hid (∀ q, q < r → OkT n (L q) (K q) (X q)) ∧ Hid (Below w0.heap.size w0 wr)) (fun i _ => n - (intOf i).toNat)
      case atStart => exact ⟨0, Nat.zero_le _, rfl, fun q hq => absurd hq (Nat.not_lt_zero _), HW1⟩
      case round =>
        obtain ⟨r, hr, rfl, HQ, HW⟩ := hrel
        by_cases hlt : r < n
        · obtain rfl := HT0.out.top (by omega)
          have t0 := (HT0.out.below HW.out).tab r hlt
          obtain ⟨a, ha⟩ : ∃ a, A r = a := ⟨_, rfl⟩
          rw [ha] at t0
          by_cases hl : L r ≤ 100
          · obtain ⟨wt, hwt⟩ : ∃ wt, wt = wr.alloc (.cells #[.slice a (L r) (C r)] 61) := ⟨_, rfl⟩
            have HBt : Hid (Below wr.heap.size wr wt) := by rw [hwt]; exact (Below.refl _ _).alloc (Nat.le_refl _) _
            have Ht : Hid (wt.heap[wr.heap.size]? = some (.cells #[.slice a (L r) (C r)] 61 (0, 0))) := by rw [hwt]; exact heap_alloc_new _ _
            go_wp2
            rw [← hwt]
            have HP : Hid (PairsAt wt a (L r) (RB r) (RO r) (K r) (X r)) := ha ▸ ((HT0.out.below HW.out).below HBt.out).row r hlt
            have HWt : Hid (Below w0.heap.size w0 wt) := grw HW.out HBt.out
            clear hwt t0
            obtain ⟨bt, hbt⟩ : ∃ bt, wr.heap.size = bt := ⟨_, rfl⟩
            rw [hbt] at Ht ⊢
            clear HBt hbt
            go_loopw [33] (fun i wc => ∃ c : Nat, c ≤ L r ∧ i = .int .i64 c ∧ Hid (∀ q, q < c → OkP n (K r) (X r) q) ∧ Hid (Below wt.heap.size wt wc)) (fun i _ => L r - (intOf i).toNat)
            case atStart => exact ⟨0, Nat.zero_le _, rfl, fun q hq => absurd hq (Nat.not_lt_zero _), Below.refl _ _⟩
            case round =>
              obtain ⟨c, hc, rfl, HQc, HWc⟩ := hrel
              by_cases hcl : c < L r
              · obtain rfl := HP.out.top (by omega)
                obtain ⟨⟨k0, k1, k2, k3⟩, ⟨x0, x1, x2, x3⟩⟩ := (HP.out.below HWc.out).cells hcl
                obtain ⟨wp, hwp⟩ : ∃ wp, wp = wr.alloc (.cells #[.int .i64 (K r c).k, .int .i64 (K r c).n, .string (K r c).s, .int .i64 (K r c).a, .int .i64 (X r c).k, .int .i64 (X r c).n, .string (X r c).s, .int .i64 (X r c).a] 63) := ⟨_, rfl⟩
                have HBp : Hid (Below wr.heap.size wr wp) := by rw [hwp]; exact (Below.refl _ _).alloc (Nat.le_refl _) _
                have Hp : Hid (wp.heap[wr.heap.size]? = some (.cells #[.int .i64 (K r c).k, .int .i64 (K r c).n, .string (K r c).s, .int .i64 (K r c).a, .int .i64 (X r c).k, .int .i64 (X r c).n, .string (X r c).s, .int .i64 (X r c).a] 63 (0, 0))) := by rw [hwp]; exact heap_alloc_new _ _
                have HWp : Hid (Below wt.heap.size wt wp) := grw HWc.out HBp.out
                obtain ⟨bk, hbk⟩ : ∃ b, isK (K r c) = b := ⟨_, rfl⟩
                obtain ⟨bx, hbx⟩ : ∃ b, isV n (X r c) = b := ⟨_, rfl⟩
                have hlk := l2key_any (K r c) wp
                rw [hbk] at hlk
                go_wp2_with fail
                rw [← hwp]
                refine hlk.mono ?_
                clear hlk
                rintro e w2 ⟨rfl, hb2⟩
                have HW2 : Hid (Below wt.heap.size wt w2) := grw HWp.out hb2
                have HP2 : Hid (w2.heap[wr.heap.size]? = some (.cells #[.int .i64 (K r c).k, .int .i64 (K r c).n, .string (K r c).s, .int .i64 (K r c).a, .int .i64 (X r c).k, .int .i64 (X r c).n, .string (X r c).s, .int .i64 (X r c).a] 63 (0, 0))) := (hb2.block _ (blk_lt Hp.out)).trans Hp.out
                obtain ⟨bp, hbp⟩ : ∃ bp, wr.heap.size = bp := ⟨_, rfl⟩
                rw [hbp] at HP2 ⊢
                clear hb2 hwp HBp Hp HWp hbp k0 k1 k2 k3 x0 x1 x2 x3 HWc
                cases bk
                · have HN : Hid (¬ OkG n u L K X) := show ¬ OkG n u L K X from fun h => by have := ((h.all r hlt).all c hcl).key; rw [hbk] at this; cases this
                  clear hbk hbx
                  go_wp2
                  go_ret
                  exact ⟨tells_no HN.out, grw HB0.out (grw HWt.out HW2.out)⟩
                · obtain ⟨c0, c1, c2, c3, c4, c5, c6, c7, _⟩ := cells8 HP2.out
                  have HG2 : Hid (w2.heap[w.heap.size]? = some (.cells #[.int .i64 u.k, .int .i64 u.n, .string u.s, .int .i64 u.a, .slice (some ⟨TB, TO, none⟩) n cp] 32 (0, 0))) := ((grw HWt.out HW2.out).block _ (blk_lt H0.out)).trans H0.out
                  obtain ⟨g0, g1, g2, g3, g4, _⟩ := cells5 HG2.out
                  have hlv := l2val_any u.k u.n u.s u.a (some ⟨TB, TO, none⟩) n cp (X r c) w2
                  rw [hbx] at hlv
                  go_wp2_with fail
                  refine hlv.mono ?_
                  clear hlv
                  rintro e w3 ⟨rfl, hb3⟩
                  have HW3 : Hid (Below wt.heap.size wt w3) := grw HW2.out hb3
                  have HP3 : Hid (w3.heap[bp]? = some (.cells #[.int .i64 (K r c).k, .int .i64 (K r c).n, .string (K r c).s, .int .i64 (K r c).a, .int .i64 (X r c).k, .int .i64 (X r c).n, .string (X r c).s, .int .i64 (X r c).a] 63 (0, 0))) := (hb3.block _ (blk_lt HP2.out)).trans HP2.out
                  clear hb3 HG2 HP2 HW2 c0 c1 c2 c3 c4 c5 c6 c7 g0 g1 g2 g3 g4
                  cases bx
                  · have HN : Hid (¬ OkG n u L K X) := show ¬ OkG n u L K X from fun h => by have := ((h.all r hlt).all c hcl).val; rw [hbx] at this; cases this
                    clear hbk hbx
                    go_wp2
                    go_ret
                    exact ⟨tells_no HN.out, grw HB0.out (grw HWt.out HW3.out)⟩
                  · obtain ⟨c0, c1, c2, c3, c4, c5, c6, c7, _⟩ := cells8 HP3.out
                    by_cases hx0 : (X r c).k = 0
                    · have HN : Hid (¬ OkG n u L K X) := show ¬ OkG n u L K X from fun h => ((h.all r hlt).all c hcl).some hx0
                      have hx0' : ((X r c).k == 0) = true := by simpa using hx0
                      clear hbk hbx hx0
                      go_wp2
                      go_ret
                      exact ⟨tells_no HN.out, grw HB0.out (grw HWt.out HW3.out)⟩
                    · have hx0' : ((X r c).k == 0) = false := by simpa using hx0
                      have HX0 : Hid ((X r c).k ≠ 0) := hx0
                      have HBK : Hid (isK (K r c) = true) := hbk
                      have HBX : Hid (isV n (X r c) = true) := hbx
                      clear hbk hbx hx0
                      go_wp2
                      clear c0 c1 c2 c3 c4 c5 c6 c7 hx0'
                      go_loopw [7] (fun i wk => ∃ k : Nat, k ≤ c ∧ i = .int .i64 k ∧ Hid (∀ q, q < k → eqV (K r q) (K r c) = false) ∧ Hid (Below w3.heap.size w3 wk)) (fun i _ => c - (intOf i).toNat)
                      case atStart => exact ⟨0, Nat.zero_le _, rfl, fun q hq => absurd hq (Nat.not_lt_zero _), Below.refl _ _⟩
                      case round =>
                        obtain ⟨k, hk, rfl, HQk, HWk⟩ := hrel
                        by_cases hkc : k < c
                        · obtain ⟨l0, l1, l2, l3⟩ := (((HP.out.below (grw HW3.out HWk.out))).cells (show k < L r by omega)).1
                          have HPk : Hid (wr.heap[bp]? = some (.cells #[.int .i64 (K r c).k, .int .i64 (K r c).n, .string (K r c).s, .int .i64 (K r c).a, .int .i64 (X r c).k, .int .i64 (X r c).n, .string (X r c).s, .int .i64 (X r c).a] 63 (0, 0))) := (HWk.out.block _ (blk_lt HP3.out)).trans HP3.out
                          obtain ⟨c0, c1, c2, c3, c4, c5, c6, c7, _⟩ := cells8 HPk.out
                          have Htk : Hid (wr.heap[bt]? = some (.cells #[.slice (some ⟨RB r, RO r, none⟩) (L r) (C r)] 61 (0, 0))) := ((grw HW3.out HWk.out).block _ (blk_lt Ht.out)).trans Ht.out
                          obtain ⟨t0, _⟩ := one_at Htk.out
                          have heq := eql_val (K r k) (K r c)
                          obtain ⟨be, hbe⟩ : ∃ b, eqV (K r k) (K r c) = b := ⟨_, rfl⟩
                          rw [hbe] at heq
                          cases be
                          · have HQ' : Hid (∀ q, q < k + 1 → eqV (K r q) (K r c) = false) := show ∀ q, q < k + 1 → _ from fun q hq => by
                              by_cases e : q = k
                              · subst e; exact hbe
                              · exact HQk.out q (by omega)
                            clear hbe HQk
                            go_wp2
                            go_quiet (fail)
                            go_wp2
                            go_roundw
                            case rel => exact ⟨k + 1, by omega, by go_num, HQ', below_drewN HWk.out nq⟩
                            case measure => simp [intOf]; omega
                          · have HN : Hid (¬ OkG n u L K X) := show ¬ OkG n u L K X from fun h => by have := ((h.all r hlt).all c hcl).once k hkc; rw [hbe] at this; cases this
                            clear hbe HQk
                            go_wp2
                            go_quiet (fail)
                            go_wp2
                            go_ret
                            exact ⟨tells_no HN.out, below_drewN (grw HB0.out (grw HWt.out (grw HW3.out HWk.out))) nq⟩
                        · obtain rfl : k = c := by omega
                          have HQ' : Hid (∀ q, q < k + 1 → OkP n (K r) (X r) q) := show ∀ q, q < k + 1 → _ from fun q hq => by
                            by_cases e : q = k
                            · subst e; exact ⟨HBK.out, HBX.out, HX0.out, HQk.out⟩
                            · exact HQc.out q (by omega)
                          go_wp2
                          go_roundw
                          case rel => exact ⟨k + 1, by omega, by go_num, HQ', grw HW3.out HWk.out⟩
                          case measure => simp [intOf]; omega
              · obtain rfl : c = L r := by omega
                have HQ' : Hid (∀ q, q < r + 1 → OkT n (L q) (K q) (X q)) := show ∀ q, q < r + 1 → _ from fun q hq => by
                  by_cases e : q = r
                  · subst e; exact ⟨hl, HQc.out⟩
                  · exact HQ.out q (by omega)
                go_wp2
                go_roundw
                case rel => exact ⟨r + 1, by omega, by go_num, HQ', grw HWt.out HWc.out⟩
                case measure => simp [intOf]; omega
          · have HN : Hid (¬ OkG n u L K X) := show ¬ OkG n u L K X from fun h => hl (h.all r hlt).len
            go_wp2
            go_ret
            refine ⟨tells_no HN.out, grw HB0.out (HW.out.alloc ?_ _)⟩
            exact HW.out.size
        · obtain rfl : r = n := by omega
          go_wp2
          go_ret
          exact ⟨tells_yes ⟨h200, Hbu.out, HQ.out⟩, grw HB0.out HW.out⟩
  · have HN : Hid (¬ OkG n u L K X) := show ¬ OkG n u L K X from fun h => h200 h.len
    have hgt : 200 < n := by omega
    obtain ⟨g0, g1, g2, g3, g4, _⟩ := cells5 H0.out
    rw [hw0] at HB0
    clear H0 HT0 hw0 g0 g1 g2 g3 g4
    go_enter Try.func12, Try.ntmps12
    go_wp2
    go_ret
    exact ⟨tells_no HN.out, HB0.out⟩

end Go.Proofs.Ytagalpfmpdeifab
