import Derived.Test.YtgflalfiopnmnabCnPure
import Derived.Test.YtgflalfiopnmnabCnFr
import Derived.Test.YtgflalfiopnmnabGtSpec2a
namespace Go.Proofs.Ytgflalfiopnmnab
open Go.RowKit Vl

def natCells (S : List Nat) : List Value := S.map fun i => .int .i64 (i : Nat)
theorem natCells_snoc (S : List Nat) (r : Nat) : natCells (S ++ [r]) = natCells S ++ [.int .i64 (r : Nat)] := by simp [natCells]

/-- The numberer of 'l2canon': S marked, T in the order. -/
structure SpW (w0 w : World) (WB WH base : Nat) (u : V) (ta : Option Addr) (n cp : Nat) (ord : Value) (S T : List Nat) : Prop where
  blk : w.heap[WB]? = some (.cells #[.int .i64 u.k, .int .i64 u.n, .string u.s, .int .i64 u.a, .slice ta n cp, .slice (some ⟨WH, 0, none⟩) n n, ord] 142 (0, 0))
  row : w.rowIs WH 3 n (fun i => .int .i64 (whereIs S i))
  own : w.ownsRow base 3 1 ord T.length (natCells T)
  bel : Below w0.heap.size w0 w

theorem SpW.below {w0 w w' : World} {WB WH base : Nat} {u : V} {ta : Option Addr} {n cp : Nat} {ord : Value} {S T : List Nat} (h : SpW w0 w WB WH base u ta n cp ord S T) (hb : Below w.heap.size w w') : SpW w0 w' WB WH base u ta n cp ord S T :=
  ⟨blkB h.blk hb, h.row.of_block (hb.block _ h.row.lt), (Only.below (P := fun _ => False) hb).owns h.own (fun _ _ _ h => h), h.bel.trans (hb.mono h.bel.size)⟩

theorem cells7 {w : World} {B : Nat} {a b c d e f g : Value} {t : TypeId} (H : w.heap[B]? = some (.cells #[a, b, c, d, e, f, g] t (0, 0))) :
    w.cell? ⟨B, 4, none⟩ = some e ∧ w.cell? ⟨B, 5, none⟩ = some f ∧ w.cell? ⟨B, 6, none⟩ = some g ∧ ∀ i, w.frozen? ⟨B, i, none⟩ = false := by
  refine ⟨?_, ?_, ?_, fun i => ?_⟩ <;> simp [World.cell?, World.frozen?, H]

/-- A table is marked. -/
theorem SpW.mark {w0 w : World} {WB WH base : Nat} {u : V} {ta : Option Addr} {n cp : Nat} {ord : Value} {S : List Nat} (h : SpW w0 w WB WH base u ta n cp ord S S) (hB : SpB w0 WB WH base) {r : Nat} (hr : r ∉ S) :
    SpW w0 (w.setCell ⟨WH, r, none⟩ (.int .i64 (S.length : Nat))) WB WH base u ta n cp ord (S ++ [r]) S ∧ FrV WB WH ord ord w (w.setCell ⟨WH, r, none⟩ (.int .i64 (S.length : Nat))) := by
  refine ⟨⟨(Below.heap_setCell _ _ _ _ hB.ne).trans h.blk, ?_, ?_, h.bel.setCell hB.wh _⟩, ⟨(Only.refl _ _).set (Or.inr (Or.inl rfl)) _, fun _ _ h => h⟩⟩
  · refine (h.row.set r _).congr (fun i _ => ?_)
    rw [whereIs_add hr]
    by_cases e : i = r
    · rw [if_pos e, if_pos e]
    · rw [if_neg e, if_neg e]
  · refine ownsRow_setCell_other h.own (fun e => ?_) _
    obtain ⟨_, _, _, hk⟩ := owns_form h.own
    have := (hk _ e).1
    have := hB.whb
    simp only at *
    omega

/-- A table is put behind the order. -/
theorem SpW.put {w0 w w3 : World} {WB WH base g cap : Nat} {u : V} {ta : Option Addr} {n cp : Nat} {ord : Value} {S T : List Nat} {r : Nat} {o : Obj} (h : SpW w0 w WB WH base u ta n cp ord S T) (hB : SpB w0 WB WH base) (hgrow : (w.alloc o).drew.grownBy w3 ord.ownBlock)
    (hown : w3.ownsRow base 3 1 (.slice (some ⟨g, 0, none⟩) (T.length + 1) cap) (T.length + 1) (natCells T ++ [.int .i64 (r : Nat)])) (hat : w.heap.size ≤ g ∨ ord.ownBlock = some g) :
    (w3.cell? ⟨WB, 6, none⟩ = some ord ∧ ∀ j, w3.frozen? ⟨WB, j, none⟩ = false) ∧ SpW w0 (w3.setCell ⟨WB, 6, none⟩ (.slice (some ⟨g, 0, none⟩) (T.length + 1) cap)) WB WH base u ta n cp (.slice (some ⟨g, 0, none⟩) (T.length + 1) cap) S (T ++ [r]) ∧
      FrV WB WH ord (.slice (some ⟨g, 0, none⟩) (T.length + 1) cap) w (w3.setCell ⟨WB, 6, none⟩ (.slice (some ⟨g, 0, none⟩) (T.length + 1) cap)) := by
  obtain ⟨_, _, _, hk⟩ := owns_form h.own
  have hwb : WB < w.heap.size := blk_lt h.blk
  have hwh : WH < w.heap.size := h.row.lt
  have hbl : ∀ k, k < w.heap.size → ord.ownBlock ≠ some k → w3.heap[k]? = w.heap[k]? := fun k hk hne =>
    (hgrow.block k (by show k < (w.alloc o).heap.size; simp; omega) (fun e => hne e.symm)).trans (Below.heap_alloc w o k hk)
  have n1 : ord.ownBlock ≠ some WB := fun e => by have := (hk _ e).1; have := hB.wbb; omega
  have n2 : ord.ownBlock ≠ some WH := fun e => by have := (hk _ e).1; have := hB.whb; omega
  have hblk := (hbl WB hwb n1).trans h.blk
  have hc := cells7 hblk
  have hgb : base ≤ g := by
    obtain ⟨_, _, e, hk'⟩ := owns_form hown
    exact (hk' g (by simp [Value.ownBlock])).1
  have hsz : w.heap.size ≤ w3.heap.size := by have := hgrow.size; simp [World.drew] at this; omega
  have ho : Only (fun k => k = WB ∨ k = WH ∨ ord.ownBlock = some k) w w3 := ⟨hgrow.os, hgrow.tape, hgrow.output, hsz, fun k hk hp => hbl k hk (fun e => hp (Or.inr (Or.inr e)))⟩
  refine ⟨⟨hc.2.2.1, hc.2.2.2⟩, ⟨?_, ?_, ?_, ?_⟩, ⟨ho.set (Or.inl rfl) _, fun k hk' e => ?_⟩⟩
  · simp [World.setCell, Array.getElem?_modify, hblk]
  · exact h.row.of_block ((Below.heap_setCell _ _ _ _ (fun e => hB.ne e.symm)).trans (hbl WH hwh n2))
  · rw [natCells_snoc, show (T ++ [r]).length = T.length + 1 by simp]
    exact ownsRow_setCell_other (a := ⟨WB, 6, none⟩) hown (by have := hB.wbb; simp only [Value.ownBlock, ne_eq, Option.some.injEq]; omega) _
  · refine (h.bel.trans (ho.toBelow (base := w0.heap.size) (fun k hk' => ?_) h.bel.size)).setCell hB.wb _
    rcases hk' with rfl | rfl | e
    · exact hB.wb
    · exact hB.wh
    · have := (hk _ e).1; have := hB.wb; have := hB.wbb; omega
  · simp only [Value.ownBlock, Option.some.injEq] at e
    subst e
    rcases hat with h' | h'
    · omega
    · exact h'

/-- Blocks turn that are none of the numberer's. -/
theorem SpW.far {w0 w w' : World} {WB WH base : Nat} {u : V} {ta : Option Addr} {n cp : Nat} {ord : Value} {S T : List Nat} {P : Nat → Prop} (h : SpW w0 w WB WH base u ta n cp ord S T) (ho : Only P w w') (h1 : ¬ P WB) (h2 : ¬ P WH) (h3 : ∀ g, ord.ownBlock = some g → ¬ P g) (h4 : ∀ k, P k → w0.heap.size ≤ k) : SpW w0 w' WB WH base u ta n cp ord S T :=
  ⟨(ho.block _ (blk_lt h.blk) h1).trans h.blk, h.row.of_block (ho.block _ h.row.lt h2), ho.ownsB h.own h3, h.bel.trans (ho.toBelow h4 h.bel.size)⟩

end Go.Proofs.Ytgflalfiopnmnab
