import Derived.Test.YtgflalfiopnmnaaGrSza
namespace Go.Proofs.Ytgflalfiopnmnaa
open Go.RowKit Vl

theorem cells8 {w : World} {B : Nat} {a b c d e f g h : Value} {t : TypeId} (H : w.heap[B]? = some (.cells #[a, b, c, d, e, f, g, h] t (0, 0))) :
    w.cell? ⟨B, 0, none⟩ = some a ∧ w.cell? ⟨B, 1, none⟩ = some b ∧ w.cell? ⟨B, 2, none⟩ = some c ∧ w.cell? ⟨B, 3, none⟩ = some d ∧ w.cell? ⟨B, 4, none⟩ = some e ∧ w.cell? ⟨B, 5, none⟩ = some f ∧ w.cell? ⟨B, 6, none⟩ = some g ∧ w.cell? ⟨B, 7, none⟩ = some h ∧ ∀ i, w.frozen? ⟨B, i, none⟩ = false := by
  refine ⟨?_, ?_, ?_, ?_, ?_, ?_, ?_, ?_, fun i => ?_⟩ <;> simp [World.cell?, World.frozen?, H]
theorem put8lo {w : World} {B : Nat} {a b c d e f g h : Value} {t : TypeId} (H : w.heap[B]? = some (.cells #[a, b, c, d, e, f, g, h] t (0, 0))) (a' b' c' d' : Value) :
    ((((w.setCell ⟨B, 0, none⟩ a').setCell ⟨B, 1, none⟩ b').setCell ⟨B, 2, none⟩ c').setCell ⟨B, 3, none⟩ d').heap[B]? = some (.cells #[a', b', c', d', e, f, g, h] t (0, 0)) := by
  simp [World.setCell, Array.getElem?_modify, H]
theorem put8hi {w : World} {B : Nat} {a b c d e f g h : Value} {t : TypeId} (H : w.heap[B]? = some (.cells #[a, b, c, d, e, f, g, h] t (0, 0))) (a' b' c' d' : Value) :
    ((((w.setCell ⟨B, 4, none⟩ a').setCell ⟨B, 5, none⟩ b').setCell ⟨B, 6, none⟩ c').setCell ⟨B, 7, none⟩ d').heap[B]? = some (.cells #[a, b, c, d, a', b', c', d'] t (0, 0)) := by
  simp [World.setCell, Array.getElem?_modify, H]
theorem set4_below {w : World} {B i j k l : Nat} {a' b' c' d' : Value} : Below B w ((((w.setCell ⟨B, i, none⟩ a').setCell ⟨B, j, none⟩ b').setCell ⟨B, k, none⟩ c').setCell ⟨B, l, none⟩ d') :=
  ((((Below.refl B w).setCell (Nat.le_refl _) _).setCell (Nat.le_refl _) _).setCell (Nat.le_refl _) _).setCell (Nat.le_refl _) _
theorem set4_far {w : World} {B b i j k l : Nat} {a' b' c' d' : Value} (h : b ≠ B) : ((((w.setCell ⟨B, i, none⟩ a').setCell ⟨B, j, none⟩ b').setCell ⟨B, k, none⟩ c').setCell ⟨B, l, none⟩ d').heap[b]? = w.heap[b]? := by
  rw [Below.heap_setCell _ _ _ _ h, Below.heap_setCell _ _ _ _ h, Below.heap_setCell _ _ _ _ h, Below.heap_setCell _ _ _ _ h]
theorem blk_lt {w : World} {b : Nat} {o : Obj} (h : w.heap[b]? = some o) : b < w.heap.size := by
  rcases Nat.lt_or_ge b w.heap.size with h' | h'
  · exact h'
  · rw [Array.getElem?_eq_none h'] at h; cases h

theorem alloc3 (w : World) (a b c : Obj) : (((w.alloc a).alloc b).alloc c).heap[w.heap.size]? = some a ∧ (((w.alloc a).alloc b).alloc c).heap[w.heap.size + 1]? = some b ∧ (((w.alloc a).alloc b).alloc c).heap[w.heap.size + 2]? = some c ∧ (((w.alloc a).alloc b).alloc c).heap.size = w.heap.size + 3 ∧ Below w.heap.size w (((w.alloc a).alloc b).alloc c) := by
  have e1 : (w.alloc a).heap.size = w.heap.size + 1 := by simp
  have e2 : ((w.alloc a).alloc b).heap.size = w.heap.size + 2 := by simp
  have e3 : (((w.alloc a).alloc b).alloc c).heap.size = w.heap.size + 3 := by simp
  refine ⟨?_, ?_, ?_, e3, (((Below.refl _ _).alloc (Nat.le_refl _) _).alloc (by omega) _).alloc (by omega) _⟩
  · rw [Below.heap_alloc _ _ _ (by omega), Below.heap_alloc _ _ _ (by omega)]; exact heap_alloc_new _ _
  · rw [Below.heap_alloc _ _ _ (by omega), ← e1]; exact heap_alloc_new _ _
  · rw [← e2]; exact heap_alloc_new _ _

/-- 'make' of n elements of whatever size. -/
theorem run_make_n (t e : TypeId) (z : Value) (size bytes : Nat) (ht : Try.prog.underlying t = some (.slice e)) (hinfo : (Try.prog.info? e).map (fun i => (i.zero, i.size, i.bytes)) = some (some z, size, bytes))
    (n : Nat) (hbytes : bytes * n ≤ 281474976710656) (h63 : n ≤ 9223372036854775807) (w : World) :
    (Instr.makeSlice t (.int .i64 (n : Int)) (.int .i64 (n : Int))).run Try.prog w = .ok (.slice (some ⟨w.heap.size, 0, none⟩) n n) (w.alloc (.cells (madeCells z.cells (n * size)) e)) := by
  obtain ⟨i, hi, hz, hs, hb⟩ := info_parts hinfo
  subst hs hb
  have hb' : (i.bytes : Int) * (n : Int) ≤ 281474976710656 := by
    have h : ((i.bytes * n : Nat) : Int) ≤ 281474976710656 := by omega
    rwa [Int.natCast_mul] at h
  have hr := run_make (P := Try.prog) w t e i z ht hi hz .i64 .i64 n n (by omega) (Int.le_refl _) hb' (by omega)
  simp only [Int.toNat_natCast] at hr
  exact hr
theorem row_made (w : World) (zc : Array Value) (n : Nat) (t : TypeId) : (w.alloc (.cells (madeCells zc n) t)).rowIs w.heap.size t n (fun i => zc[i % zc.size]!) :=
  ⟨_, heap_alloc_new _ _, size_madeCells _ _, fun i hi => by simp [madeCells, hi]⟩

/-- Cell i of pairs. -/
def pc (K X : Nat → V) (i : Nat) : Value :=
  if i % 8 = 0 then .int .i64 (K (i / 8)).k else if i % 8 = 1 then .int .i64 (K (i / 8)).n else if i % 8 = 2 then .string (K (i / 8)).s else if i % 8 = 3 then .int .i64 (K (i / 8)).a
  else if i % 8 = 4 then .int .i64 (X (i / 8)).k else if i % 8 = 5 then .int .i64 (X (i / 8)).n else if i % 8 = 6 then .string (X (i / 8)).s else .int .i64 (X (i / 8)).a

theorem pc_at (K X : Nat → V) (c : Nat) : pc K X (c * 8) = .int .i64 (K c).k ∧ pc K X (c * 8 + 1) = .int .i64 (K c).n ∧ pc K X (c * 8 + 2) = .string (K c).s ∧ pc K X (c * 8 + 3) = .int .i64 (K c).a ∧
    pc K X (c * 8 + 4) = .int .i64 (X c).k ∧ pc K X (c * 8 + 5) = .int .i64 (X c).n ∧ pc K X (c * 8 + 6) = .string (X c).s ∧ pc K X (c * 8 + 7) = .int .i64 (X c).a := by
  have h : ∀ j, j < 8 → (c * 8 + j) % 8 = j ∧ (c * 8 + j) / 8 = c := fun j hj => by omega
  refine ⟨?_, ?_, ?_, ?_, ?_, ?_, ?_, ?_⟩
  · have := h 0 (by omega); simp only [Nat.add_zero] at this; simp [pc, this]
  · simp [pc, h 1 (by omega)]
  · simp [pc, h 2 (by omega)]
  · simp [pc, h 3 (by omega)]
  · simp [pc, h 4 (by omega)]
  · simp [pc, h 5 (by omega)]
  · simp [pc, h 6 (by omega)]
  · simp [pc, h 7 (by omega)]

/-- A row that holds the first c pairs. -/
def PRow (w : World) (B n c : Nat) (K X : Nat → V) (z : Nat → Value) : Prop := w.rowIs B 75 (n * 8) (fun i => if i < c * 8 then pc K X i else z i)

theorem PRow.pairs {w : World} {B n c : Nat} {K X : Nat → V} {z : Nat → Value} (h : PRow w B n c K X z) {pa : Option Addr} (ha : 0 < c → pa = some ⟨B, 0, none⟩) (hc : c ≤ n) : PairsAt w pa c B 0 K X := by
  refine ⟨ha, fun j hj => ?_, fun j hj => ?_⟩
  all_goals
    have g : ∀ i, i < 8 → w.cell? ⟨B, j * 8 + i, none⟩ = some (pc K X (j * 8 + i)) := fun i hi => by
      have := h.cell (i := j * 8 + i) (by omega)
      rw [this, if_pos (by omega)]
    obtain ⟨p0, p1, p2, p3, p4, p5, p6, p7⟩ := pc_at K X j
    have g0 := g 0 (by omega); have g1 := g 1 (by omega); have g2 := g 2 (by omega); have g3 := g 3 (by omega); have g4 := g 4 (by omega); have g5 := g 5 (by omega); have g6 := g 6 (by omega); have g7 := g 7 (by omega)
    simp only [Nat.add_zero] at g0
    rw [p0] at g0; rw [p1] at g1; rw [p2] at g2; rw [p3] at g3; rw [p4] at g4; rw [p5] at g5; rw [p6] at g6; rw [p7] at g7
    rw [Nat.zero_add]
  · exact ⟨g0, g1, g2, g3⟩
  · exact ⟨g4, g5, g6, g7⟩

/-- One pair more. -/
theorem PRow.put {w : World} {B n c : Nat} {K X : Nat → V} {z : Nat → Value} (h : PRow w B n c K X z) :
    PRow ((((((((w.setCell ⟨B, c * 8, none⟩ (.int .i64 (K c).k)).setCell ⟨B, c * 8 + 1, none⟩ (.int .i64 (K c).n)).setCell ⟨B, c * 8 + 2, none⟩ (.string (K c).s)).setCell ⟨B, c * 8 + 3, none⟩ (.int .i64 (K c).a)).setCell ⟨B, c * 8 + 4, none⟩ (.int .i64 (X c).k)).setCell ⟨B, c * 8 + 5, none⟩ (.int .i64 (X c).n)).setCell ⟨B, c * 8 + 6, none⟩ (.string (X c).s)).setCell ⟨B, c * 8 + 7, none⟩ (.int .i64 (X c).a)) B n (c + 1) K X z := by
  refine (((((((((show w.rowIs B _ _ _ from h).set (c * 8) _).set (c * 8 + 1) _).set (c * 8 + 2) _).set (c * 8 + 3) _).set (c * 8 + 4) _).set (c * 8 + 5) _).set (c * 8 + 6) _).set (c * 8 + 7) _).congr (fun i _ => ?_)
  obtain ⟨p0, p1, p2, p3, p4, p5, p6, p7⟩ := pc_at K X c
  by_cases e7 : i = c * 8 + 7
  · subst e7; rw [if_pos rfl, if_pos (by omega), p7]
  rw [if_neg e7]
  by_cases e6 : i = c * 8 + 6
  · subst e6; rw [if_pos rfl, if_pos (by omega), p6]
  rw [if_neg e6]
  by_cases e5 : i = c * 8 + 5
  · subst e5; rw [if_pos rfl, if_pos (by omega), p5]
  rw [if_neg e5]
  by_cases e4 : i = c * 8 + 4
  · subst e4; rw [if_pos rfl, if_pos (by omega), p4]
  rw [if_neg e4]
  by_cases e3 : i = c * 8 + 3
  · subst e3; rw [if_pos rfl, if_pos (by omega), p3]
  rw [if_neg e3]
  by_cases e2 : i = c * 8 + 2
  · subst e2; rw [if_pos rfl, if_pos (by omega), p2]
  rw [if_neg e2]
  by_cases e1 : i = c * 8 + 1
  · subst e1; rw [if_pos rfl, if_pos (by omega), p1]
  rw [if_neg e1]
  by_cases e0 : i = c * 8
  · subst e0; rw [if_pos rfl, if_pos (by omega), p0]
  rw [if_neg e0]
  by_cases hl : i < c * 8
  · rw [if_pos hl, if_pos (by omega)]
  · rw [if_neg hl, if_neg (by omega)]
theorem PRow.below {w w' : World} {B n c : Nat} {K X : Nat → V} {z : Nat → Value} (h : PRow w B n c K X z) (hb : Below w.heap.size w w') : PRow w' B n c K X z := h.of_block (hb.block B h.lt)

theorem Try.info75 : (Try.prog.info? 75).map (fun i => (i.zero, i.size, i.bytes)) = some (some (.agg #[.int .i64 0, .int .i64 0, .string ⟨#[]⟩, .int .i64 0, .int .i64 0, .int .i64 0, .string ⟨#[]⟩, .int .i64 0]), 8, 80) := by kernel_rfl

end Go.Proofs.Ytgflalfiopnmnaa
