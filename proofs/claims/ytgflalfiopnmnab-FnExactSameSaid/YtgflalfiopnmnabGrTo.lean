import Derived.Test.YtgflalfiopnmnabGrSz
namespace Go.Proofs.Ytgflalfiopnmnab
open Go.RowKit Vl

theorem cells8 {w : World} {B : Nat} {a b c d e f g h : Value} {t : TypeId} (H : w.heap[B]? = some (.cells #[a, b, c, d, e, f, g, h] t (0, 0))) :
    w.cell? ⟨B, 0, none⟩ = some a ∧ w.cell? ⟨B, 1, none⟩ = some b ∧ w.cell? ⟨B, 2, none⟩ = some c ∧ w.cell? ⟨B, 3, none⟩ = some d ∧ w.cell? ⟨B, 4, none⟩ = some e ∧ w.cell? ⟨B, 5, none⟩ = some f ∧ w.cell? ⟨B, 6, none⟩ = some g ∧ w.cell? ⟨B, 7, none⟩ = some h ∧ ∀ i, w.frozen? ⟨B, i, none⟩ = false := by
  refine ⟨?_, ?_, ?_, ?_, ?_, ?_, ?_, ?_, fun i => ?_⟩ <;> simp [World.cell?, World.frozen?, H]
theorem put8lo {w : World} {B : Nat} {a b c d e f g h : Value} {t : TypeId} (H : w.heap[B]? = some (.cells #[a, b, c, d, e, f, g, h] t (0, 0))) (a' b' c' d' : Value) :
    ((((w.setCell ⟨B, 0, none⟩ a').setCell ⟨B, 1, none⟩ b').setCell ⟨B, 2, none⟩ c').setCell ⟨B, 3, none⟩ d').heap[B]? = some (.cells #[a', b', c', d', e, f, g, h] t (0, 0)) := by
  simp [World.setCell, Array.getElem?_modify, H]
theorem put8hi {w : World} {B : Nat} {a b c d e f g h : Value} {t : TypeId} (H : w.heap[B]? = some (.cells #[a, b, c, d, e, f, g, h] t (0, 0))) (a' b' c' d' : Value) :
    ((((w.setCell ⟨B, 4, none⟩ a').setCell ⟨B, 5, none⟩ b').setCell ⟨B, 6, none⟩ c').setCell ⟨B, 7, none⟩ d').heap[B]? = some (.cells #[a, b, c, d, a', b', c', d'] t (0, 0)) := by
  simp [World.setCell, Array.getElem?_modify, H]
theorem set4_below {w : World} {B i j k l : Nat} {a' b' c' d' : Value} : Below B w ((((w.setCell ⟨B, i, none⟩ a').setCell ⟨B, j, none⟩ b').setCell ⟨B, k, none⟩ c').setCell ⟨B, l, none⟩ d') :=
  ((((Below.refl B w).setCell (Nat.le_refl _) _).setCell (Nat.le_refl _) _).setCell (Nat.le_refl _) _).setCell (Nat.le_refl _) _
theorem set4_far {w : World} {B b i j k l : Nat} {a' b' c' d' : Value} (h : b ≠ B) : ((((w.setCell ⟨B, i, none⟩ a').setCell ⟨B, j, none⟩ b').setCell ⟨B, k, none⟩ c').setCell ⟨B, l, none⟩ d').heap[b]? = w.heap[b]? := by
  rw [Below.heap_setCell _ _ _ _ h, Below.heap_setCell _ _ _ _ h, Below.heap_setCell _ _ _ _ h, Below.heap_setCell _ _ _ _ h]
theorem blk_lt {w : World} {b : Nat} {o : Obj} (h : w.heap[b]? = some o) : b < w.heap.size := by
  rcases Nat.lt_or_ge b w.heap.size with h' | h'
  · exact h'
  · rw [Array.getElem?_eq_none h'] at h; cases h

theorem alloc3 (w : World) (a b c : Obj) : (((w.alloc a).alloc b).alloc c).heap[w.heap.size]? = some a ∧ (((w.alloc a).alloc b).alloc c).heap[w.heap.size + 1]? = some b ∧ (((w.alloc a).alloc b).alloc c).heap[w.heap.size + 2]? = some c ∧ (((w.alloc a).alloc b).alloc c).heap.size = w.heap.size + 3 ∧ Below w.heap.size w (((w.alloc a).alloc b).alloc c) := by
  have e1 : (w.alloc a).heap.size = w.heap.size + 1 := by simp
  have e2 : ((w.alloc a).alloc b).heap.size = w.heap.size + 2 := by simp
  have e3 : (((w.alloc a).alloc b).alloc c).heap.size = w.heap.size + 3 := by simp
  refine ⟨?_, ?_, ?_, e3, (((Below.refl _ _).alloc (Nat.le_refl _) _).alloc (by omega) _).alloc (by omega) _⟩
  · rw [Below.heap_alloc _ _ _ (by omega), Below.heap_alloc _ _ _ (by omega)]; exact heap_alloc_new _ _
  · rw [Below.heap_alloc _ _ _ (by omega), ← e1]; exact heap_alloc_new _ _
  · rw [← e2]; exact heap_alloc_new _ _

set_option maxHeartbeats 1000000 in
set_option maxRecDepth 100000 in
/-- 'toPair'. -/
theorem toPair_any (u v : V) (w : World) :
    Calls Try.prog 115 #[.agg #[.int .i64 u.k, .int .i64 u.n, .string u.s, .int .i64 u.a, .int .i64 v.k, .int .i64 v.n, .string v.s, .int .i64 v.a]] w fun e w' => e = .returned (.agg #[.int .i64 u.k, .int .i64 u.n, .string u.s, .int .i64 u.a, .int .i64 v.k, .int .i64 v.n, .string v.s, .int .i64 v.a]) ∧ Below w.heap.size w w' := by
  have A3 : Hid _ := alloc3 w (.cells #[.int .i64 u.k, .int .i64 u.n, .string u.s, .int .i64 u.a, .int .i64 v.k, .int .i64 v.n, .string v.s, .int .i64 v.a] 191) (.cells #[.int .i64 0, .int .i64 0, .string ⟨#[]⟩, .int .i64 0, .int .i64 0, .int .i64 0, .string ⟨#[]⟩, .int .i64 0] 63) (.cells #[.int .i64 0, .int .i64 0, .string ⟨#[]⟩, .int .i64 0, .int .i64 0, .int .i64 0, .string ⟨#[]⟩, .int .i64 0] 63)
  go_enter Try.func115, Try.ntmps115
  go_wp2_with fail
  refine (toVal_any u _).mono ?_
  rintro e w1 ⟨rfl, hb1⟩
  obtain ⟨p0, p1, p2, ps, pb⟩ := A3.out
  have P0 : Hid (w1.heap[w.heap.size]? = _) := (hb1.block _ (by omega)).trans p0
  have P1 : Hid (w1.heap[w.heap.size + 1]? = _) := (hb1.block _ (by omega)).trans p1
  have P2 : Hid (w1.heap[w.heap.size + 2]? = _) := (hb1.block _ (by omega)).trans p2
  have HW1 : Hid (Below w.heap.size w w1) := grw pb hb1
  clear hb1 p0 p1 p2 ps pb A3
  obtain ⟨c0, c1, c2, c3, c4, c5, c6, c7, z0⟩ := cells8 P2.out
  obtain ⟨d0, d1, d2, d3, d4, d5, d6, d7, _⟩ := cells8 P0.out
  go_wp2_with fail
  refine (toVal_any v _).mono ?_
  rintro e w2 ⟨rfl, hb2⟩
  have Q2 : Hid (w2.heap[w.heap.size + 2]? = some (.cells #[.int .i64 u.k, .int .i64 u.n, .string u.s, .int .i64 u.a, .int .i64 0, .int .i64 0, .string ⟨#[]⟩, .int .i64 0] 63 (0, 0))) := by
    rw [hb2.block _ (by simp [World.setCell]; exact blk_lt P2.out)]; exact put8lo P2.out _ _ _ _
  have Q1 : Hid (w2.heap[w.heap.size + 1]? = some (.cells #[.int .i64 0, .int .i64 0, .string ⟨#[]⟩, .int .i64 0, .int .i64 0, .int .i64 0, .string ⟨#[]⟩, .int .i64 0] 63 (0, 0))) := by
    rw [hb2.block _ (by simp [World.setCell]; exact blk_lt P1.out)]; exact (set4_far (by omega)).trans P1.out
  have HW2 : Hid (Below w.heap.size w w2) := grw (HW1.out.trans (set4_below.mono (by omega))) hb2
  clear hb2 P0 P1 P2 HW1 c0 c1 c2 c3 c4 c5 c6 c7 z0 d0 d1 d2 d3 d4 d5 d6 d7
  obtain ⟨c0, c1, c2, c3, c4, c5, c6, c7, z0⟩ := cells8 Q2.out
  obtain ⟨d0, d1, d2, d3, d4, d5, d6, d7, z1⟩ := cells8 Q1.out
  go_wp2
  have F := put8hi (put8lo ((set4_far (w := w2) (B := w.heap.size + 2) (i := 4) (j := 5) (k := 6) (l := 7) (a' := .int .i64 v.k) (b' := .int .i64 v.n) (c' := .string v.s) (d' := .int .i64 v.a) (show w.heap.size + 1 ≠ w.heap.size + 2 by omega)).trans Q1.out) (.int .i64 u.k) (.int .i64 u.n) (.string u.s) (.int .i64 u.a)) (.int .i64 v.k) (.int .i64 v.n) (.string v.s) (.int .i64 v.a)
  have HB : Hid (Below w.heap.size w _) := ((HW2.out.trans (set4_below (w := w2) (B := w.heap.size + 2) (i := 4) (j := 5) (k := 6) (l := 7) (a' := .int .i64 v.k) (b' := .int .i64 v.n) (c' := .string v.s) (d' := .int .i64 v.a) |>.mono (by omega))).trans ((set4_below (B := w.heap.size + 1) (i := 0) (j := 1) (k := 2) (l := 3) (a' := .int .i64 u.k) (b' := .int .i64 u.n) (c' := .string u.s) (d' := .int .i64 u.a)).mono (by omega))).trans ((set4_below (B := w.heap.size + 1) (i := 4) (j := 5) (k := 6) (l := 7) (a' := .int .i64 v.k) (b' := .int .i64 v.n) (c' := .string v.s) (d' := .int .i64 v.a)).mono (by omega))
  obtain ⟨q0, q1, q2, q3, q4, q5, q6, q7, _⟩ := cells8 F
  refine bodyPost_ret (v := .agg #[.int .i64 u.k, .int .i64 u.n, .string u.s, .int .i64 u.a, .int .i64 v.k, .int .i64 v.n, .string v.s, .int .i64 v.a]) (by simp [results, Try.results115, go_sem, q0, q1, q2, q3, q4, q5, q6, q7]) rfl ⟨rfl, HB.out⟩

/-- 'make' of n elements of whatever size. -/
theorem run_make_n (t e : TypeId) (z : Value) (size bytes : Nat) (ht : Try.prog.underlying t = some (.slice e)) (hinfo : (Try.prog.info? e).map (fun i => (i.zero, i.size, i.bytes)) = some (some z, size, bytes))
    (n : Nat) (hbytes : bytes * n ≤ 281474976710656) (h63 : n ≤ 9223372036854775807) (w : World) :
    (Instr.makeSlice t (.int .i64 (n : Int)) (.int .i64 (n : Int))).run Try.prog w = .ok (.slice (some ⟨w.heap.size, 0, none⟩) n n) (w.alloc (.cells (madeCells z.cells (n * size)) e)) := by
  obtain ⟨i, hi, hz, hs, hb⟩ := info_parts hinfo
  subst hs hb
  have hb' : (i.bytes : Int) * (n : Int) ≤ 281474976710656 := by
    have h : ((i.bytes * n : Nat) : Int) ≤ 281474976710656 := by omega
    rwa [Int.natCast_mul] at h
  have hr := run_make (P := Try.prog) w t e i z ht hi hz .i64 .i64 n n (by omega) (Int.le_refl _) hb' (by omega)
  simp only [Int.toNat_natCast] at hr
  exact hr
theorem row_made (w : World) (zc : Array Value) (n : Nat) (t : TypeId) : (w.alloc (.cells (madeCells zc n) t)).rowIs w.heap.size t n (fun i => zc[i % zc.size]!) :=
  ⟨_, heap_alloc_new _ _, size_madeCells _ _, fun i hi => by simp [madeCells, hi]⟩

/-- Cell i of pairs. -/
def pc (K X : Nat → V) (i : Nat) : Value :=
  if i % 8 = 0 then .int .i64 (K (i / 8)).k else if i % 8 = 1 then .int .i64 (K (i / 8)).n else if i % 8 = 2 then .string (K (i / 8)).s else if i % 8 = 3 then .int .i64 (K (i / 8)).a
  else if i % 8 = 4 then .int .i64 (X (i / 8)).k else if i % 8 = 5 then .int .i64 (X (i / 8)).n else if i % 8 = 6 then .string (X (i / 8)).s else .int .i64 (X (i / 8)).a

theorem pc_at (K X : Nat → V) (c : Nat) : pc K X (c * 8) = .int .i64 (K c).k ∧ pc K X (c * 8 + 1) = .int .i64 (K c).n ∧ pc K X (c * 8 + 2) = .string (K c).s ∧ pc K X (c * 8 + 3) = .int .i64 (K c).a ∧
    pc K X (c * 8 + 4) = .int .i64 (X c).k ∧ pc K X (c * 8 + 5) = .int .i64 (X c).n ∧ pc K X (c * 8 + 6) = .string (X c).s ∧ pc K X (c * 8 + 7) = .int .i64 (X c).a := by
  have h : ∀ j, j < 8 → (c * 8 + j) % 8 = j ∧ (c * 8 + j) / 8 = c := fun j hj => by omega
  refine ⟨?_, ?_, ?_, ?_, ?_, ?_, ?_, ?_⟩
  · have := h 0 (by omega); simp only [Nat.add_zero] at this; simp [pc, this]
  · simp [pc, h 1 (by omega)]
  · simp [pc, h 2 (by omega)]
  · simp [pc, h 3 (by omega)]
  · simp [pc, h 4 (by omega)]
  · simp [pc, h 5 (by omega)]
  · simp [pc, h 6 (by omega)]
  · simp [pc, h 7 (by omega)]

/-- A row that holds the first c pairs. -/
def PRow (w : World) (B n c : Nat) (K X : Nat → V) (z : Nat → Value) : Prop := w.rowIs B 63 (n * 8) (fun i => if i < c * 8 then pc K X i else z i)

theorem PRow.pairs {w : World} {B n c : Nat} {K X : Nat → V} {z : Nat → Value} (h : PRow w B n c K X z) {pa : Option Addr} (ha : 0 < c → pa = some ⟨B, 0, none⟩) (hc : c ≤ n) : PairsAt w pa c B 0 K X := by
  refine ⟨ha, fun j hj => ?_, fun j hj => ?_⟩
  all_goals
    have g : ∀ i, i < 8 → w.cell? ⟨B, j * 8 + i, none⟩ = some (pc K X (j * 8 + i)) := fun i hi => by
      have := h.cell (i := j * 8 + i) (by omega)
      rw [this, if_pos (by omega)]
    obtain ⟨p0, p1, p2, p3, p4, p5, p6, p7⟩ := pc_at K X j
    have g0 := g 0 (by omega); have g1 := g 1 (by omega); have g2 := g 2 (by omega); have g3 := g 3 (by omega); have g4 := g 4 (by omega); have g5 := g 5 (by omega); have g6 := g 6 (by omega); have g7 := g 7 (by omega)
    simp only [Nat.add_zero] at g0
    rw [p0] at g0; rw [p1] at g1; rw [p2] at g2; rw [p3] at g3; rw [p4] at g4; rw [p5] at g5; rw [p6] at g6; rw [p7] at g7
    rw [Nat.zero_add]
  · exact ⟨g0, g1, g2, g3⟩
  · exact ⟨g4, g5, g6, g7⟩

/-- One pair more. -/
theorem PRow.put {w : World} {B n c : Nat} {K X : Nat → V} {z : Nat → Value} (h : PRow w B n c K X z) :
    PRow ((((((((w.setCell ⟨B, c * 8, none⟩ (.int .i64 (K c).k)).setCell ⟨B, c * 8 + 1, none⟩ (.int .i64 (K c).n)).setCell ⟨B, c * 8 + 2, none⟩ (.string (K c).s)).setCell ⟨B, c * 8 + 3, none⟩ (.int .i64 (K c).a)).setCell ⟨B, c * 8 + 4, none⟩ (.int .i64 (X c).k)).setCell ⟨B, c * 8 + 5, none⟩ (.int .i64 (X c).n)).setCell ⟨B, c * 8 + 6, none⟩ (.string (X c).s)).setCell ⟨B, c * 8 + 7, none⟩ (.int .i64 (X c).a)) B n (c + 1) K X z := by
  refine (((((((((show w.rowIs B _ _ _ from h).set (c * 8) _).set (c * 8 + 1) _).set (c * 8 + 2) _).set (c * 8 + 3) _).set (c * 8 + 4) _).set (c * 8 + 5) _).set (c * 8 + 6) _).set (c * 8 + 7) _).congr (fun i _ => ?_)
  obtain ⟨p0, p1, p2, p3, p4, p5, p6, p7⟩ := pc_at K X c
  by_cases e7 : i = c * 8 + 7
  · subst e7; rw [if_pos rfl, if_pos (by omega), p7]
  rw [if_neg e7]
  by_cases e6 : i = c * 8 + 6
  · subst e6; rw [if_pos rfl, if_pos (by omega), p6]
  rw [if_neg e6]
  by_cases e5 : i = c * 8 + 5
  · subst e5; rw [if_pos rfl, if_pos (by omega), p5]
  rw [if_neg e5]
  by_cases e4 : i = c * 8 + 4
  · subst e4; rw [if_pos rfl, if_pos (by omega), p4]
  rw [if_neg e4]
  by_cases e3 : i = c * 8 + 3
  · subst e3; rw [if_pos rfl, if_pos (by omega), p3]
  rw [if_neg e3]
  by_cases e2 : i = c * 8 + 2
  · subst e2; rw [if_pos rfl, if_pos (by omega), p2]
  rw [if_neg e2]
  by_cases e1 : i = c * 8 + 1
  · subst e1; rw [if_pos rfl, if_pos (by omega), p1]
  rw [if_neg e1]
  by_cases e0 : i = c * 8
  · subst e0; rw [if_pos rfl, if_pos (by omega), p0]
  rw [if_neg e0]
  by_cases hl : i < c * 8
  · rw [if_pos hl, if_pos (by omega)]
  · rw [if_neg hl, if_neg (by omega)]
theorem PRow.below {w w' : World} {B n c : Nat} {K X : Nat → V} {z : Nat → Value} (h : PRow w B n c K X z) (hb : Below w.heap.size w w') : PRow w' B n c K X z := h.of_block (hb.block B h.lt)

theorem Try.info63 : (Try.prog.info? 63).map (fun i => (i.zero, i.size, i.bytes)) = some (some (.agg #[.int .i64 0, .int .i64 0, .string ⟨#[]⟩, .int .i64 0, .int .i64 0, .int .i64 0, .string ⟨#[]⟩, .int .i64 0]), 8, 80) := by kernel_rfl

set_option maxHeartbeats 1000000 in
set_option maxRecDepth 100000 in
/-- 'toPairS'. -/
theorem toPairS_any (pa : Option Addr) (L C B O : Nat) (K X : Nat → V) (w : World) (hL : L ≤ 1048576) (HP : Hid (PairsAt w pa L B O K X)) :
    Calls Try.prog 100 #[.slice pa L C] w fun e w' => e = .returned (.slice (some ⟨w.heap.size, 0, none⟩) L L) ∧ PairsAt w' (some ⟨w.heap.size, 0, none⟩) L w.heap.size 0 K X ∧ (∃ f, w'.rowIs w.heap.size 63 (L * 8) f) ∧ w.heap.size < w'.heap.size ∧ Below w.heap.size w w' := by
  have hmk := run_make_n 59 63 _ 8 80 Try.underlying59 Try.info63 L (by omega) (by omega)
  obtain ⟨z, hz⟩ : ∃ z : Nat → Value, PRow (w.alloc (.cells (madeCells (Value.agg #[.int .i64 0, .int .i64 0, .string ⟨#[]⟩, .int .i64 0, .int .i64 0, .int .i64 0, .string ⟨#[]⟩, .int .i64 0]).cells (L * 8)) 63)) w.heap.size L 0 K X z :=
    ⟨_, (row_made w _ (L * 8) 63).congr (fun i _ => by rw [if_neg (by omega)])⟩
  have HZ : Hid _ := hz
  clear hz
  go_enter Try.func100, Try.ntmps100
  go_wp2
  clear hmk
  go_loopw [4] (fun i wr => ∃ c : Nat, c ≤ L ∧ i = .int .i64 c ∧ Hid (PRow wr w.heap.size L c K X z) ∧ Hid (Below w.heap.size w wr)) (fun i _ => L - (intOf i).toNat)
  case atStart => exact ⟨0, Nat.zero_le _, rfl, HZ, (Below.refl _ _).alloc (Nat.le_refl _) _⟩
  case round =>
    obtain ⟨c, hc, rfl, HR, HW⟩ := hrel
    clear HZ
    by_cases hlt : c < L
    · obtain rfl := HP.out.top (by omega)
      obtain ⟨⟨k0, k1, k2, k3⟩, ⟨x0, x1, x2, x3⟩⟩ := (HP.out.below HW.out).cells hlt
      go_wp2_with fail
      refine (toPair_any (K c) (X c) _).mono ?_
      rintro e w1 ⟨rfl, hb1⟩
      have HR1 : Hid (PRow w1 w.heap.size L c K X z) := HR.out.below hb1
      have HW1 : Hid (Below w.heap.size w w1) := grw HW.out hb1
      clear hb1 HW HR k0 k1 k2 k3 x0 x1 x2 x3
      have c0 := HR1.out.cell (i := c * 8) (by omega)
      have c1 := HR1.out.cell (i := c * 8 + 1) (by omega)
      have c2 := HR1.out.cell (i := c * 8 + 2) (by omega)
      have c3 := HR1.out.cell (i := c * 8 + 3) (by omega)
      have c4 := HR1.out.cell (i := c * 8 + 4) (by omega)
      have c5 := HR1.out.cell (i := c * 8 + 5) (by omega)
      have c6 := HR1.out.cell (i := c * 8 + 6) (by omega)
      have c7 := HR1.out.cell (i := c * 8 + 7) (by omega)
      have z0 := HR1.out.frozen
      go_wp2
      go_roundw
      case rel =>
        refine ⟨c + 1, by omega, by go_num, HR1.out.put, ?_⟩
        exact (((((((HW1.out.setCell (Nat.le_refl _) _).setCell (Nat.le_refl _) _).setCell (Nat.le_refl _) _).setCell (Nat.le_refl _) _).setCell (Nat.le_refl _) _).setCell (Nat.le_refl _) _).setCell (Nat.le_refl _) _).setCell (Nat.le_refl _) _
      case measure => simp [intOf]; omega
    · obtain rfl : c = L := by omega
      go_wp2
      go_ret
      exact ⟨rfl, HR.out.pairs (fun _ => rfl) (Nat.le_refl _), ⟨_, (show World.rowIs _ _ _ _ _ from HR.out)⟩, HR.out.lt, HW.out⟩

end Go.Proofs.Ytgflalfiopnmnab
