import Derived.Test.YtgflalfiopnmnabRows
import Derived.Test.YtgflalfiopnmnabGrOpena
import Derived.Test.YtgflalfiopnmnabLkLink2
namespace Go.Proofs.Ytgflalfiopnmnab
open Go.RowKit Vl
open Go.ChangeShapes Go.WideShapes Go.ChangeAt Go.Joins

theorem blk_below {w w' : World} {b : Nat} {o : Obj} (h : w.heap[b]? = some o) (hb : Below w.heap.size w w') : w'.heap[b]? = some o := (hb.block b (blk_lt h)).trans h

theorem keep55 {w0 w w' : World} {B B' : Nat} {c0 c1 c2 c3 c4 d0 d1 d2 d3 d4 : Value}
    (h : (w.cell? ⟨B, 0, none⟩ = some c0 ∧ w.cell? ⟨B, 1, none⟩ = some c1 ∧ w.cell? ⟨B, 2, none⟩ = some c2 ∧ w.cell? ⟨B, 3, none⟩ = some c3 ∧ w.cell? ⟨B, 4, none⟩ = some c4) ∧ (w.cell? ⟨B', 0, none⟩ = some d0 ∧ w.cell? ⟨B', 1, none⟩ = some d1 ∧ w.cell? ⟨B', 2, none⟩ = some d2 ∧ w.cell? ⟨B', 3, none⟩ = some d3 ∧ w.cell? ⟨B', 4, none⟩ = some d4) ∧ Hid (Below w0.heap.size w0 w)) (hb : Below w.heap.size w w') :
    (w'.cell? ⟨B, 0, none⟩ = some c0 ∧ w'.cell? ⟨B, 1, none⟩ = some c1 ∧ w'.cell? ⟨B, 2, none⟩ = some c2 ∧ w'.cell? ⟨B, 3, none⟩ = some c3 ∧ w'.cell? ⟨B, 4, none⟩ = some c4) ∧ (w'.cell? ⟨B', 0, none⟩ = some d0 ∧ w'.cell? ⟨B', 1, none⟩ = some d1 ∧ w'.cell? ⟨B', 2, none⟩ = some d2 ∧ w'.cell? ⟨B', 3, none⟩ = some d3 ∧ w'.cell? ⟨B', 4, none⟩ = some d4) ∧ Hid (Below w0.heap.size w0 w') := by
  obtain ⟨⟨h0, h1, h2, h3, h4⟩, ⟨k0, k1, k2, k3, k4⟩, hw⟩ := h
  have l1 : B < w.heap.size := World.block_lt_of_cell? _ _ h0
  have l2 : B' < w.heap.size := World.block_lt_of_cell? _ _ k0
  exact ⟨⟨(hb.cell l1).trans h0, (hb.cell l1).trans h1, (hb.cell l1).trans h2, (hb.cell l1).trans h3, (hb.cell l1).trans h4⟩, ⟨(hb.cell l2).trans k0, (hb.cell l2).trans k1, (hb.cell l2).trans k2, (hb.cell l2).trans k3, (hb.cell l2).trans k4⟩, grw hw.out hb⟩

end Go.Proofs.Ytgflalfiopnmnab
