import Derived.Test.YtgflalfiopnmnaaGrEqa
namespace Go.Proofs.Ytgflalfiopnmnaa
open Go.RowKit Vl

theorem keep2c {w0 w w' : World} {B o B' o' : Nat} {u v : Value}
    (h : w.cell? ⟨B, o, none⟩ = some u ∧ w.cell? ⟨B', o', none⟩ = some v ∧ Hid (Below w0.heap.size w0 w)) (hb : Below w.heap.size w w') : w'.cell? ⟨B, o, none⟩ = some u ∧ w'.cell? ⟨B', o', none⟩ = some v ∧ Hid (Below w0.heap.size w0 w') :=
  ⟨(hb.cell (p := ⟨B, o, none⟩) (World.block_lt_of_cell? _ _ h.1)).trans h.1, (hb.cell (p := ⟨B', o', none⟩) (World.block_lt_of_cell? _ _ h.2.1)).trans h.2.1, grw h.2.2.out hb⟩

end Go.Proofs.Ytgflalfiopnmnaa
