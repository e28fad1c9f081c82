import Derived.Test.YtgflalfiopnmnabGtValsa
import Derived.Test.YtgflalfiopnmnabGtPure
namespace Go.Proofs.Ytgflalfiopnmnab
open Go.RowKit Vl

/-- The blocks of 'l2get': the graph, the answer, the value that was come to. -/
structure GetW (w wr : World) (b : Nat) (g : Array Value) (v : V) : Prop where
  graph : wr.heap[b]? = some (.cells g 32 (0, 0))
  res : ValB wr (b + 1) zeroV
  cur : ValB wr (b + 2) v
  bel : Below w.heap.size w wr
theorem GetW.below {w wr wr' : World} {b : Nat} {g : Array Value} {v : V} (h : GetW w wr b g v) (hb : Below wr.heap.size wr wr') : GetW w wr' b g v :=
  ⟨blkB h.graph hb, h.res.below hb, h.cur.below hb, grw h.bel hb⟩
theorem GetW.put {w wr : World} {b : Nat} {g : Array Value} {v : V} (h : GetW w wr b g v) (hb : w.heap.size ≤ b) (x : V) : GetW w ((((wr.setCell ⟨b + 2, 0, none⟩ (.int .i64 x.k)).setCell ⟨b + 2, 1, none⟩ (.int .i64 x.n)).setCell ⟨b + 2, 2, none⟩ (.string x.s)).setCell ⟨b + 2, 3, none⟩ (.int .i64 x.a)) b g x :=
  ⟨(set4_far (by omega)).trans h.graph, (set4_far (by omega)).trans h.res, h.cur.put x, h.bel.trans (set4_below.mono (by omega))⟩

end Go.Proofs.Ytgflalfiopnmnab
