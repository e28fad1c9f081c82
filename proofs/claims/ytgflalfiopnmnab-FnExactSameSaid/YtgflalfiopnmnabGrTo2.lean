import Derived.Test.YtgflalfiopnmnabGrTo
namespace Go.Proofs.Ytgflalfiopnmnab
open Go.RowKit Vl

theorem VAt.same {w w' : World} {b o : Nat} {v : V} (h : VAt w b o v) (e : w'.heap[b]? = w.heap[b]?) : VAt w' b o v :=
  ⟨by rw [World.cell?_of_block e]; exact h.1, by rw [World.cell?_of_block e]; exact h.2.1, by rw [World.cell?_of_block e]; exact h.2.2.1, by rw [World.cell?_of_block e]; exact h.2.2.2⟩
theorem PairsAt.same {w w' : World} {pa : Option Addr} {L B O : Nat} {K X : Nat → V} (h : PairsAt w pa L B O K X) (e : w'.heap[B]? = w.heap[B]?) : PairsAt w' pa L B O K X :=
  ⟨h.top, fun c hc => (h.key c hc).same e, fun c hc => (h.val c hc).same e⟩
theorem one_at {w : World} {B : Nat} {a : Value} {t : TypeId} (H : w.heap[B]? = some (.cells #[a] t (0, 0))) : w.cell? ⟨B, 0, none⟩ = some a ∧ ∀ i, w.frozen? ⟨B, i, none⟩ = false := by
  refine ⟨?_, fun i => ?_⟩ <;> simp [World.cell?, World.frozen?, H]
theorem one_put {w : World} {B : Nat} {a : Value} {t : TypeId} (H : w.heap[B]? = some (.cells #[a] t (0, 0))) (a' : Value) : (w.setCell ⟨B, 0, none⟩ a').heap[B]? = some (.cells #[a'] t (0, 0)) := by
  simp [World.setCell, Array.getElem?_modify, H]

set_option maxHeartbeats 1000000 in
set_option maxRecDepth 100000 in
/-- 'toTable'. -/
theorem toTable_any (pa : Option Addr) (L C B O : Nat) (K X : Nat → V) (w : World) (hL : L ≤ 1048576) (HP : Hid (PairsAt w pa L B O K X)) :
    Calls Try.prog 76 #[.agg #[.slice pa L C]] w fun e w' => (∃ G, e = .returned (.agg #[.slice (some ⟨G, 0, none⟩) L L]) ∧ w.heap.size ≤ G ∧ G < w'.heap.size ∧ PairsAt w' (some ⟨G, 0, none⟩) L G 0 K X ∧ ∃ f, w'.rowIs G 63 (L * 8) f) ∧ Below w.heap.size w w' := by
  have A3 : Hid _ := alloc3 w (.cells #[.slice pa L C] 125) (.cells #[.slice none 0 0] 61) (.cells #[.slice none 0 0] 61)
  have hto := toPairS_any pa L C B O K X _ hL (HP.out.below A3.out.2.2.2.2)
  go_enter Try.func76, Try.ntmps76
  go_wp2_with fail
  refine hto.mono ?_
  clear hto
  rintro e w1 ⟨rfl, hP1, hf1, hlt1, hb1⟩
  obtain ⟨p0, p1, p2, ps, pb⟩ := A3.out
  have P1 : Hid (w1.heap[w.heap.size + 1]? = some (.cells #[.slice none 0 0] 61 (0, 0))) := (hb1.block _ (by omega)).trans p1
  have P2 : Hid (w1.heap[w.heap.size + 2]? = some (.cells #[.slice none 0 0] 61 (0, 0))) := (hb1.block _ (by omega)).trans p2
  have HW1 : Hid (Below w.heap.size w w1) := grw pb hb1
  rw [ps] at hP1 hf1 hlt1 ⊢
  have HF1 : Hid (∃ f, w1.rowIs (w.heap.size + 3) 63 (L * 8) f) := hf1
  have HP1 : Hid (PairsAt w1 (some ⟨w.heap.size + 3, 0, none⟩) L (w.heap.size + 3) 0 K X) := hP1
  have hsz : Hid (w.heap.size + 3 < w1.heap.size) := hlt1
  clear hb1 p0 p1 p2 ps pb A3 hP1 hlt1 hf1
  obtain ⟨c0, z0⟩ := one_at P2.out
  obtain ⟨d0, z1⟩ := one_at P1.out
  go_wp2
  have F := one_put ((Below.heap_setCell w1 ⟨w.heap.size + 2, 0, none⟩ (.slice (some ⟨w.heap.size + 3, 0, none⟩) L L) (w.heap.size + 1) (show w.heap.size + 1 ≠ w.heap.size + 2 by omega)).trans P1.out) (.slice (some ⟨w.heap.size + 3, 0, none⟩) L L)
  obtain ⟨q0, _⟩ := one_at F
  refine bodyPost_ret (v := .agg #[.slice (some ⟨w.heap.size + 3, 0, none⟩) L L]) (by simp [results, Try.results76, go_sem, q0]) rfl ⟨⟨w.heap.size + 3, rfl, by omega, ?_, ?_, ?_⟩, ?_⟩
  · simp only [World.setCell, Array.size_modify]; exact hsz.out
  · refine HP1.out.same ?_
    rw [Below.heap_setCell _ _ _ _ (show w.heap.size + 3 ≠ w.heap.size + 1 by omega), Below.heap_setCell _ _ _ _ (show w.heap.size + 3 ≠ w.heap.size + 2 by omega)]
  · obtain ⟨f, hf⟩ := HF1.out
    refine ⟨f, hf.of_block ?_⟩
    rw [Below.heap_setCell _ _ _ _ (show w.heap.size + 3 ≠ w.heap.size + 1 by omega), Below.heap_setCell _ _ _ _ (show w.heap.size + 3 ≠ w.heap.size + 2 by omega)]
  · exact (HW1.out.setCell (by show w.heap.size ≤ w.heap.size + 2; omega) _).setCell (by show w.heap.size ≤ w.heap.size + 1; omega) _

/-- A row that holds the first c tables. -/
def TRow (w : World) (B n c : Nat) (G L : Nat → Nat) (z : Nat → Value) : Prop := w.rowIs B 61 n (fun i => if i < c then .slice (some ⟨G i, 0, none⟩) (L i) (L i) else z i)

theorem TRow.put {w : World} {B n c : Nat} {G L : Nat → Nat} {z : Nat → Value} (h : TRow w B n c G L z) (g : Nat) :
    TRow (w.setCell ⟨B, c, none⟩ (.slice (some ⟨g, 0, none⟩) (L c) (L c))) B n (c + 1) (fun i => if i = c then g else G i) L z := by
  refine ((show w.rowIs B _ _ _ from h).set c _).congr (fun i _ => ?_)
  by_cases e : i = c
  · subst e; rw [if_pos rfl, if_pos (by omega)]; simp
  · rw [if_neg e]
    by_cases hl : i < c
    · rw [if_pos hl, if_pos (by omega)]; simp [e]
    · rw [if_neg hl, if_neg (by omega)]

/-- What a copy of tables is made of: each table's pairs in a block of their own. -/
structure Copied (w0 w : World) (c : Nat) (G L : Nat → Nat) (K X : Nat → Nat → V) : Prop where
  new : ∀ r, r < c → w0.heap.size < G r ∧ G r < w.heap.size
  inc : ∀ i j, i < j → j < c → G i < G j
  row : ∀ r, r < c → PairsAt w (some ⟨G r, 0, none⟩) (L r) (G r) 0 (K r) (X r)
  blk : ∀ r, r < c → ∃ f, w.rowIs (G r) 63 (L r * 8) f

theorem Copied.below {w0 w w' : World} {c : Nat} {G L : Nat → Nat} {K X : Nat → Nat → V} (h : Copied w0 w c G L K X) (hb : Below w.heap.size w w') : Copied w0 w' c G L K X :=
  ⟨fun r hr => ⟨(h.new r hr).1, Nat.lt_of_lt_of_le (h.new r hr).2 hb.size⟩, h.inc, fun r hr => (h.row r hr).below hb, fun r hr => by obtain ⟨f, hf⟩ := h.blk r hr; exact ⟨f, hf.of_block (hb.block _ hf.lt)⟩⟩
theorem Copied.set {w0 w : World} {c : Nat} {G L : Nat → Nat} {K X : Nat → Nat → V} (h : Copied w0 w c G L K X) (i : Nat) (v : Value) : Copied w0 (w.setCell ⟨w0.heap.size, i, none⟩ v) c G L K X :=
  ⟨fun r hr => ⟨(h.new r hr).1, by simp only [World.setCell, Array.size_modify]; exact (h.new r hr).2⟩, h.inc, fun r hr => (h.row r hr).same (Below.heap_setCell _ _ _ _ (by have := (h.new r hr).1; show G r ≠ w0.heap.size; omega)), fun r hr => by obtain ⟨f, hf⟩ := h.blk r hr; exact ⟨f, hf.of_block (Below.heap_setCell _ _ _ _ (by have := (h.new r hr).1; show G r ≠ w0.heap.size; omega))⟩⟩
theorem Copied.snoc {w0 w : World} {c : Nat} {G L : Nat → Nat} {K X : Nat → Nat → V} (h : Copied w0 w c G L K X) {g : Nat} (h0 : w0.heap.size < g) (h1 : g < w.heap.size) (hg : ∀ r, r < c → G r < g) (hr : PairsAt w (some ⟨g, 0, none⟩) (L c) g 0 (K c) (X c)) (hf : ∃ f, w.rowIs g 63 (L c * 8) f) :
    Copied w0 w (c + 1) (fun i => if i = c then g else G i) L K X := by
  refine ⟨fun r hr => ?_, fun i j hij hj => ?_, fun r hr' => ?_, fun r hr' => ?_⟩
  · by_cases e : r = c
    · simp [e, h0, h1]
    · simp [e]; exact h.new r (by omega)
  · by_cases e : j = c
    · have e' : i ≠ c := by omega
      simp [e, e']; exact hg i (by omega)
    · have e' : i ≠ c := by omega
      simp [e, e']; exact h.inc i j hij (by omega)
  · by_cases e : r = c
    · subst e; simp; exact hr
    · simp [e]; exact h.row r (by omega)
  · by_cases e : r = c
    · subst e; simp; exact hf
    · simp [e]; exact h.blk r (by omega)

theorem Try.info61 : (Try.prog.info? 61).map (fun i => (i.zero, i.size, i.bytes)) = some (some (.agg #[.slice none 0 0]), 1, 24) := by kernel_rfl

set_option maxHeartbeats 1000000 in
set_option maxRecDepth 100000 in
/-- 'toTableS'. -/
theorem toTableS_any (ta : Option Addr) (n cp TB TO : Nat) (A : Nat → Option Addr) (L C RB RO : Nat → Nat) (K X : Nat → Nat → V) (w : World) (hn : n ≤ 1048576)
    (HS : Hid (Small 1048576 n L K X)) (HT : Hid (TabsAt w ta n TB TO A L C RB RO K X)) :
    Calls Try.prog 46 #[.slice ta n cp] w fun e w' => e = .returned (.slice (some ⟨w.heap.size, 0, none⟩) n n) ∧ (∃ G, Copied w w' n G L K X ∧ w'.rowIs w.heap.size 61 n (fun i => .slice (some ⟨G i, 0, none⟩) (L i) (L i))) ∧ Below w.heap.size w w' := by
  have hmk := run_make_n 30 61 _ 1 24 Try.underlying30 Try.info61 n (by omega) (by omega)
  simp only [Nat.mul_one] at hmk
  obtain ⟨z, hz⟩ : ∃ z : Nat → Value, TRow (w.alloc (.cells (madeCells (Value.agg #[.slice none 0 0]).cells n) 61)) w.heap.size n 0 (fun _ => 0) L z :=
    ⟨_, (row_made w _ n 61).congr (fun i _ => by rw [if_neg (by omega)])⟩
  have HZ : Hid _ := hz
  clear hz
  go_enter Try.func46, Try.ntmps46
  go_wp2
  clear hmk
  go_loopw [4] (fun i wr => ∃ (c : Nat) (G : Nat → Nat), c ≤ n ∧ i = .int .i64 c ∧ Hid (TRow wr w.heap.size n c G L z) ∧ Hid (Copied w wr c G L K X) ∧ Hid (Below w.heap.size w wr)) (fun i _ => n - (intOf i).toNat)
  case atStart => exact ⟨0, _, Nat.zero_le _, rfl, HZ, ⟨fun r hr => by omega, fun i j _ hj => by omega, fun r hr => by omega, fun r hr => by omega⟩, (Below.refl _ _).alloc (Nat.le_refl _) _⟩
  case round =>
    obtain ⟨c, G, hc, rfl, HR, HC, HW⟩ := hrel
    clear HZ
    by_cases hlt : c < n
    · obtain rfl := HT.out.top (by omega)
      have t0 := (HT.out.below HW.out).tab c hlt
      have hto := toTable_any (A c) (L c) (C c) (RB c) (RO c) (K c) (X c) wr (HS.out c hlt).1 ((HT.out.below HW.out).row c hlt)
      go_wp2_with fail
      refine hto.mono ?_
      clear hto
      rintro e w1 ⟨⟨g, rfl, hg0, hg1, hgp, hgf⟩, hb1⟩
      have HR1 : Hid (TRow w1 w.heap.size n c G L z) := (show World.rowIs _ _ _ _ _ from HR.out).of_block (hb1.block _ (show World.rowIs _ _ _ _ _ from HR.out).lt)
      have hlt0 : w.heap.size < wr.heap.size := (show World.rowIs _ _ _ _ _ from HR.out).lt
      have HC1 : Hid (Copied w w1 (c + 1) (fun i => if i = c then g else G i) L K X) := (HC.out.below hb1).snoc (by omega) hg1 (fun r hr => by have := (HC.out.new r hr).2; omega) hgp hgf
      have HW1 : Hid (Below w.heap.size w w1) := grw HW.out hb1
      have c0 := (show World.rowIs _ _ _ _ _ from HR1.out).cell hlt
      have z0 := (show World.rowIs _ _ _ _ _ from HR1.out).frozen
      clear hb1 HW HR HC t0 hg0 hg1 hgp hgf hlt0
      go_wp2
      go_roundw
      case rel => exact ⟨c + 1, (fun i => if i = c then g else G i), by omega, by go_num, HR1.out.put g, HC1.out.set c _, HW1.out.setCell (Nat.le_refl _) _⟩
      case measure => simp [intOf]; omega
    · obtain rfl : c = n := by omega
      go_wp2
      go_ret
      exact ⟨rfl, ⟨G, HC.out, (show World.rowIs _ _ _ _ _ from HR.out).congr (fun i hi => by rw [if_pos hi])⟩, HW.out⟩

end Go.Proofs.Ytgflalfiopnmnab
