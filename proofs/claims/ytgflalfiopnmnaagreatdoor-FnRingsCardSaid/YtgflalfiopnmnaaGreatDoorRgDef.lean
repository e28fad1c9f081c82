import Derived.Test.YtgflalfiopnmnaaGreatDoorVlVal
/-
  Rings of tables.
-/
namespace Go.Proofs.YtgflalfiopnmnaaGreatDoor
open Vl

def rgE : ByteArray := ⟨#[]⟩
def rgK : V := ⟨2, 1, rgE, 0⟩
def rgT : V := ⟨2, 2, rgE, 0⟩
def rgU : V := ⟨4, 0, rgE, 0⟩
def rgX (n r : Nat) : V := ⟨4, 0, rgE, ((r + 1) % n : Nat)⟩
/-- A ring of n tables. -/
def raL (_ : Nat) : Nat := 1
def raK (_ _ : Nat) : V := rgK
def raX (n r _ : Nat) : V := rgX n r
/-- One with a pair more in the last. -/
def rbL (n r : Nat) : Nat := if r = n - 1 then 2 else 1
def rbK (_ c : Nat) : V := if c = 0 then rgK else rgT
def rbX (n r c : Nat) : V := if c = 0 then rgX n r else rgT

end Go.Proofs.YtgflalfiopnmnaaGreatDoor
