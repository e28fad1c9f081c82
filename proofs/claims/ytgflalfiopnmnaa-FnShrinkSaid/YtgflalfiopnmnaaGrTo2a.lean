import Derived.Test.YtgflalfiopnmnaaGrToa
namespace Go.Proofs.Ytgflalfiopnmnaa
open Go.RowKit Vl

theorem VAt.same {w w' : World} {b o : Nat} {v : V} (h : VAt w b o v) (e : w'.heap[b]? = w.heap[b]?) : VAt w' b o v :=
  ⟨by rw [World.cell?_of_block e]; exact h.1, by rw [World.cell?_of_block e]; exact h.2.1, by rw [World.cell?_of_block e]; exact h.2.2.1, by rw [World.cell?_of_block e]; exact h.2.2.2⟩
theorem PairsAt.same {w w' : World} {pa : Option Addr} {L B O : Nat} {K X : Nat → V} (h : PairsAt w pa L B O K X) (e : w'.heap[B]? = w.heap[B]?) : PairsAt w' pa L B O K X :=
  ⟨h.top, fun c hc => (h.key c hc).same e, fun c hc => (h.val c hc).same e⟩
theorem one_at {w : World} {B : Nat} {a : Value} {t : TypeId} (H : w.heap[B]? = some (.cells #[a] t (0, 0))) : w.cell? ⟨B, 0, none⟩ = some a ∧ ∀ i, w.frozen? ⟨B, i, none⟩ = false := by
  refine ⟨?_, fun i => ?_⟩ <;> simp [World.cell?, World.frozen?, H]
theorem one_put {w : World} {B : Nat} {a : Value} {t : TypeId} (H : w.heap[B]? = some (.cells #[a] t (0, 0))) (a' : Value) : (w.setCell ⟨B, 0, none⟩ a').heap[B]? = some (.cells #[a'] t (0, 0)) := by
  simp [World.setCell, Array.getElem?_modify, H]

/-- A row that holds the first c tables. -/
def TRow (w : World) (B n c : Nat) (G L : Nat → Nat) (z : Nat → Value) : Prop := w.rowIs B 73 n (fun i => if i < c then .slice (some ⟨G i, 0, none⟩) (L i) (L i) else z i)

theorem TRow.put {w : World} {B n c : Nat} {G L : Nat → Nat} {z : Nat → Value} (h : TRow w B n c G L z) (g : Nat) :
    TRow (w.setCell ⟨B, c, none⟩ (.slice (some ⟨g, 0, none⟩) (L c) (L c))) B n (c + 1) (fun i => if i = c then g else G i) L z := by
  refine ((show w.rowIs B _ _ _ from h).set c _).congr (fun i _ => ?_)
  by_cases e : i = c
  · subst e; rw [if_pos rfl, if_pos (by omega)]; simp
  · rw [if_neg e]
    by_cases hl : i < c
    · rw [if_pos hl, if_pos (by omega)]; simp [e]
    · rw [if_neg hl, if_neg (by omega)]

/-- What a copy of tables is made of: each table's pairs in a block of their own. -/
structure Copied (w0 w : World) (c : Nat) (G L : Nat → Nat) (K X : Nat → Nat → V) : Prop where
  new : ∀ r, r < c → w0.heap.size < G r ∧ G r < w.heap.size
  inc : ∀ i j, i < j → j < c → G i < G j
  row : ∀ r, r < c → PairsAt w (some ⟨G r, 0, none⟩) (L r) (G r) 0 (K r) (X r)
  blk : ∀ r, r < c → ∃ f, w.rowIs (G r) 75 (L r * 8) f

theorem Copied.below {w0 w w' : World} {c : Nat} {G L : Nat → Nat} {K X : Nat → Nat → V} (h : Copied w0 w c G L K X) (hb : Below w.heap.size w w') : Copied w0 w' c G L K X :=
  ⟨fun r hr => ⟨(h.new r hr).1, Nat.lt_of_lt_of_le (h.new r hr).2 hb.size⟩, h.inc, fun r hr => (h.row r hr).below hb, fun r hr => by obtain ⟨f, hf⟩ := h.blk r hr; exact ⟨f, hf.of_block (hb.block _ hf.lt)⟩⟩
theorem Copied.set {w0 w : World} {c : Nat} {G L : Nat → Nat} {K X : Nat → Nat → V} (h : Copied w0 w c G L K X) (i : Nat) (v : Value) : Copied w0 (w.setCell ⟨w0.heap.size, i, none⟩ v) c G L K X :=
  ⟨fun r hr => ⟨(h.new r hr).1, by simp only [World.setCell, Array.size_modify]; exact (h.new r hr).2⟩, h.inc, fun r hr => (h.row r hr).same (Below.heap_setCell _ _ _ _ (by have := (h.new r hr).1; show G r ≠ w0.heap.size; omega)), fun r hr => by obtain ⟨f, hf⟩ := h.blk r hr; exact ⟨f, hf.of_block (Below.heap_setCell _ _ _ _ (by have := (h.new r hr).1; show G r ≠ w0.heap.size; omega))⟩⟩
theorem Copied.snoc {w0 w : World} {c : Nat} {G L : Nat → Nat} {K X : Nat → Nat → V} (h : Copied w0 w c G L K X) {g : Nat} (h0 : w0.heap.size < g) (h1 : g < w.heap.size) (hg : ∀ r, r < c → G r < g) (hr : PairsAt w (some ⟨g, 0, none⟩) (L c) g 0 (K c) (X c)) (hf : ∃ f, w.rowIs g 75 (L c * 8) f) :
    Copied w0 w (c + 1) (fun i => if i = c then g else G i) L K X := by
  refine ⟨fun r hr => ?_, fun i j hij hj => ?_, fun r hr' => ?_, fun r hr' => ?_⟩
  · by_cases e : r = c
    · simp [e, h0, h1]
    · simp [e]; exact h.new r (by omega)
  · by_cases e : j = c
    · have e' : i ≠ c := by omega
      simp [e, e']; exact hg i (by omega)
    · have e' : i ≠ c := by omega
      simp [e, e']; exact h.inc i j hij (by omega)
  · by_cases e : r = c
    · subst e; simp; exact hr
    · simp [e]; exact h.row r (by omega)
  · by_cases e : r = c
    · subst e; simp; exact hf
    · simp [e]; exact h.blk r (by omega)

theorem Try.info73 : (Try.prog.info? 73).map (fun i => (i.zero, i.size, i.bytes)) = some (some (.agg #[.slice none 0 0]), 1, 24) := by kernel_rfl

end Go.Proofs.Ytgflalfiopnmnaa
