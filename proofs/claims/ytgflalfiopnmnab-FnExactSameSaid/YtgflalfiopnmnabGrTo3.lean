import Derived.Test.YtgflalfiopnmnabGrTo2
namespace Go.Proofs.Ytgflalfiopnmnab
open Go.RowKit Vl

theorem cells5 {w : World} {B : Nat} {a b c d e : Value} {t : TypeId} (H : w.heap[B]? = some (.cells #[a, b, c, d, e] t (0, 0))) :
    w.cell? ⟨B, 0, none⟩ = some a ∧ w.cell? ⟨B, 1, none⟩ = some b ∧ w.cell? ⟨B, 2, none⟩ = some c ∧ w.cell? ⟨B, 3, none⟩ = some d ∧ w.cell? ⟨B, 4, none⟩ = some e ∧ ∀ i, w.frozen? ⟨B, i, none⟩ = false := by
  refine ⟨?_, ?_, ?_, ?_, ?_, fun i => ?_⟩ <;> simp [World.cell?, World.frozen?, H]
theorem put5lo {w : World} {B : Nat} {a b c d e : Value} {t : TypeId} (H : w.heap[B]? = some (.cells #[a, b, c, d, e] t (0, 0))) (a' b' c' d' : Value) :
    ((((w.setCell ⟨B, 0, none⟩ a').setCell ⟨B, 1, none⟩ b').setCell ⟨B, 2, none⟩ c').setCell ⟨B, 3, none⟩ d').heap[B]? = some (.cells #[a', b', c', d', e] t (0, 0)) := by
  simp [World.setCell, Array.getElem?_modify, H]
theorem put5hi {w : World} {B : Nat} {a b c d e : Value} {t : TypeId} (H : w.heap[B]? = some (.cells #[a, b, c, d, e] t (0, 0))) (e' : Value) :
    (w.setCell ⟨B, 4, none⟩ e').heap[B]? = some (.cells #[a, b, c, d, e'] t (0, 0)) := by
  simp [World.setCell, Array.getElem?_modify, H]

/-- Tables as a copy leaves them. -/
theorem Copied.tabs {w0 w : World} {n : Nat} {G L : Nat → Nat} {K X : Nat → Nat → V} {B : Nat} (h : Copied w0 w n G L K X) (hr : w.rowIs B 61 n (fun i => .slice (some ⟨G i, 0, none⟩) (L i) (L i))) :
    TabsAt w (some ⟨B, 0, none⟩) n B 0 (fun r => some ⟨G r, 0, none⟩) L L G (fun _ => 0) K X :=
  ⟨fun _ => rfl, fun r hr' => by rw [Nat.zero_add]; exact hr.cell hr', h.row⟩

set_option maxHeartbeats 1000000 in
set_option maxRecDepth 100000 in
/-- 'toGraph'. -/
theorem toGraph_any (u : V) (ta : Option Addr) (n cp TB TO : Nat) (A : Nat → Option Addr) (L C RB RO : Nat → Nat) (K X : Nat → Nat → V) (w : World) (hn : n ≤ 1048576)
    (HS : Hid (Small 1048576 n L K X)) (HT : Hid (TabsAt w ta n TB TO A L C RB RO K X)) :
    Calls Try.prog 13 #[.agg #[.int .i64 u.k, .int .i64 u.n, .string u.s, .int .i64 u.a, .slice ta n cp]] w fun e w' => (∃ B, e = .returned (.agg #[.int .i64 u.k, .int .i64 u.n, .string u.s, .int .i64 u.a, .slice (some ⟨B, 0, none⟩) n n]) ∧ w.heap.size ≤ B ∧
      ∃ (w0 : World) (G : Nat → Nat), w0.heap.size = B ∧ Copied w0 w' n G L K X ∧ w'.rowIs B 61 n (fun i => .slice (some ⟨G i, 0, none⟩) (L i) (L i))) ∧ Below w.heap.size w w' := by
  have A3 : Hid _ := alloc3 w (.cells #[.int .i64 u.k, .int .i64 u.n, .string u.s, .int .i64 u.a, .slice ta n cp] 26) (.cells #[.int .i64 0, .int .i64 0, .string ⟨#[]⟩, .int .i64 0, .slice none 0 0] 32) (.cells #[.int .i64 0, .int .i64 0, .string ⟨#[]⟩, .int .i64 0, .slice none 0 0] 32)
  go_enter Try.func13, Try.ntmps13
  go_wp2_with fail
  refine (toVal_any u _).mono ?_
  rintro e w1 ⟨rfl, hb1⟩
  obtain ⟨p0, p1, p2, ps, pb⟩ := A3.out
  have P0 : Hid (w1.heap[w.heap.size]? = some (.cells #[.int .i64 u.k, .int .i64 u.n, .string u.s, .int .i64 u.a, .slice ta n cp] 26 (0, 0))) := (hb1.block _ (by omega)).trans p0
  have P1 : Hid (w1.heap[w.heap.size + 1]? = some (.cells #[.int .i64 0, .int .i64 0, .string ⟨#[]⟩, .int .i64 0, .slice none 0 0] 32 (0, 0))) := (hb1.block _ (by omega)).trans p1
  have P2 : Hid (w1.heap[w.heap.size + 2]? = some (.cells #[.int .i64 0, .int .i64 0, .string ⟨#[]⟩, .int .i64 0, .slice none 0 0] 32 (0, 0))) := (hb1.block _ (by omega)).trans p2
  have HW1 : Hid (Below w.heap.size w w1) := grw pb hb1
  clear hb1 p0 p1 p2 ps pb A3
  obtain ⟨c0, c1, c2, c3, c4, z0⟩ := cells5 P2.out
  obtain ⟨d0, d1, d2, d3, d4, _⟩ := cells5 P0.out
  obtain ⟨wa, hwa⟩ : ∃ wa, wa = ((((w1.setCell ⟨w.heap.size + 2, 0, none⟩ (.int .i64 u.k)).setCell ⟨w.heap.size + 2, 1, none⟩ (.int .i64 u.n)).setCell ⟨w.heap.size + 2, 2, none⟩ (.string u.s)).setCell ⟨w.heap.size + 2, 3, none⟩ (.int .i64 u.a)) := ⟨_, rfl⟩
  have HWa : Hid (Below w.heap.size w wa) := by rw [hwa]; exact HW1.out.trans (set4_below.mono (by omega))
  have Q2 : Hid (wa.heap[w.heap.size + 2]? = some (.cells #[.int .i64 u.k, .int .i64 u.n, .string u.s, .int .i64 u.a, .slice none 0 0] 32 (0, 0))) := by rw [hwa]; exact put5lo P2.out _ _ _ _
  have Q1 : Hid (wa.heap[w.heap.size + 1]? = some (.cells #[.int .i64 0, .int .i64 0, .string ⟨#[]⟩, .int .i64 0, .slice none 0 0] 32 (0, 0))) := by rw [hwa]; exact (set4_far (by omega)).trans P1.out
  have hto := toTableS_any ta n cp TB TO A L C RB RO K X wa hn HS (HT.out.below HWa.out)
  go_wp2_with fail
  rw [← hwa]
  refine hto.mono ?_
  clear hto HT hwa c0 c1 c2 c3 c4 z0 d0 d1 d2 d3 d4 P0 P1 P2 HW1
  rintro e w2 ⟨rfl, ⟨G, hC, hR⟩, hb2⟩
  have R2 : Hid (w2.heap[w.heap.size + 2]? = some (.cells #[.int .i64 u.k, .int .i64 u.n, .string u.s, .int .i64 u.a, .slice none 0 0] 32 (0, 0))) := (hb2.block _ (blk_lt Q2.out)).trans Q2.out
  have R1 : Hid (w2.heap[w.heap.size + 1]? = some (.cells #[.int .i64 0, .int .i64 0, .string ⟨#[]⟩, .int .i64 0, .slice none 0 0] 32 (0, 0))) := (hb2.block _ (blk_lt Q1.out)).trans Q1.out
  have HW2 : Hid (Below w.heap.size w w2) := grw HWa.out hb2
  have hsz : Hid (w.heap.size + 2 < wa.heap.size) := blk_lt Q2.out
  have HC : Hid (Copied wa w2 n G L K X) := hC
  have HR : Hid (w2.rowIs wa.heap.size 61 n (fun i => .slice (some ⟨G i, 0, none⟩) (L i) (L i))) := hR
  clear Q1 Q2 hb2 hC hR
  obtain ⟨c0, c1, c2, c3, c4, z0⟩ := cells5 R2.out
  obtain ⟨d0, d1, d2, d3, d4, z1⟩ := cells5 R1.out
  go_wp2
  obtain ⟨B, hB⟩ : ∃ B, wa.heap.size = B := ⟨_, rfl⟩
  obtain ⟨wb, hwb⟩ : ∃ wb, wb = (((((w2.setCell ⟨w.heap.size + 2, 4, none⟩ (.slice (some ⟨wa.heap.size, 0, none⟩) n n)).setCell ⟨w.heap.size + 1, 0, none⟩ (.int .i64 u.k)).setCell ⟨w.heap.size + 1, 1, none⟩ (.int .i64 u.n)).setCell ⟨w.heap.size + 1, 2, none⟩ (.string u.s)).setCell ⟨w.heap.size + 1, 3, none⟩ (.int .i64 u.a)).setCell ⟨w.heap.size + 1, 4, none⟩ (.slice (some ⟨wa.heap.size, 0, none⟩) n n) := ⟨_, rfl⟩
  have F : wb.heap[w.heap.size + 1]? = some (.cells #[.int .i64 u.k, .int .i64 u.n, .string u.s, .int .i64 u.a, .slice (some ⟨wa.heap.size, 0, none⟩) n n] 32 (0, 0)) := by
    rw [hwb]
    exact put5hi (put5lo ((Below.heap_setCell _ _ _ _ (by show w.heap.size + 1 ≠ w.heap.size + 2; omega)).trans R1.out) _ _ _ _) _
  have hfar : ∀ k, w.heap.size + 2 < k → wb.heap[k]? = w2.heap[k]? := fun k hk => by
    rw [hwb, Below.heap_setCell _ _ _ _ (by show k ≠ w.heap.size + 1; omega), set4_far (by omega), Below.heap_setCell _ _ _ _ (by show k ≠ w.heap.size + 2; omega)]
  have HWb : Hid (Below w.heap.size w wb) := by
    rw [hwb]
    exact ((HW2.out.setCell (by show w.heap.size ≤ w.heap.size + 2; omega) _).trans (set4_below.mono (by omega))).setCell (by show w.heap.size ≤ w.heap.size + 1; omega) _
  have hsz2 : wb.heap.size = w2.heap.size := by rw [hwb]; simp [World.setCell]
  have hA0 : w.heap.size + 2 < wa.heap.size := hsz.out
  obtain ⟨q0, q1, q2, q3, q4, _⟩ := cells5 F
  rw [← hwb]
  clear hwb F c0 c1 c2 c3 c4 z0 d0 d1 d2 d3 d4 z1 R1 R2
  refine bodyPost_ret (v := .agg #[.int .i64 u.k, .int .i64 u.n, .string u.s, .int .i64 u.a, .slice (some ⟨wa.heap.size, 0, none⟩) n n]) (by simp [results, Try.results13, go_sem, q0, q1, q2, q3, q4]) rfl ⟨⟨wa.heap.size, rfl, by omega, wa, G, rfl, ?_, ?_⟩, HWb.out⟩
  · have h := HC.out
    exact ⟨fun r hr => ⟨(h.new r hr).1, by have := (h.new r hr).2; omega⟩, h.inc, fun r hr => (h.row r hr).same (hfar _ (by have := (h.new r hr).1; omega)), fun r hr => by obtain ⟨f, hf⟩ := h.blk r hr; exact ⟨f, hf.of_block (hfar _ (by have := (h.new r hr).1; omega))⟩⟩
  · exact HR.out.of_block (hfar _ (by omega))

end Go.Proofs.Ytgflalfiopnmnab
