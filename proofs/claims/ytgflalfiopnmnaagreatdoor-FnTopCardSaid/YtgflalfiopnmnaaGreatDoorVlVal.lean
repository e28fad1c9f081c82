/-
  The plain mathematics of values. No Go in sight.
-/
namespace Go.Proofs.YtgflalfiopnmnaaGreatDoor.Vl

structure V where
  k : Int
  n : Int
  s : ByteArray
  a : Int

/-- A value of a graph of m tables. -/
def isV (m : Nat) (v : V) : Bool :=
  if v.k = 0 then v.n == 0 && (v.s.toList == [] && v.a == 0)
  else if v.k = 1 then (v.n == 0 || v.n == 1) && (v.s.toList == [] && v.a == 0)
  else if v.k = 2 then v.s.toList == [] && v.a == 0
  else if v.k = 3 then v.n == 0 && (v.a == 0 && decide (v.s.size ≤ 500))
  else if v.k = 4 then v.n == 0 && (v.s.toList == [] && (decide (0 ≤ v.a) && decide (v.a < m)))
  else false

def isK (v : V) : Bool := (v.k == 1 || v.k == 2 || v.k == 3) && isV 0 v

end Go.Proofs.YtgflalfiopnmnaaGreatDoor.Vl
