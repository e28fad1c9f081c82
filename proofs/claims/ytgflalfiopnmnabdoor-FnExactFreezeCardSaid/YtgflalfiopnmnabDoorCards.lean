/-
  DERIVED. GIVEN WITH THE SEED: THE CARDS: each row of YtgflalfiopnmnabDoorRows.lean that lists a variable, with what it lists TIED to the program's text (the seventh form; the later family's looks); each row that meets fmt, with fmt's text TOLD by the authors' own Lean function (tested against real Go, not proved from fmt's source: count such statements apart). THE CARD IS WHAT COUNTS. Prove the row's statement (the work); the ties are given (YtgflalfiopnmnabDoorTie.lean); close each card by the builder's one call (the guide's Derived/Test/ToyasCard.lean, 'card_holds'). Laid BY PROGRAM, IN A SANDBOX (cutbox-door.mjs). By AI agents, Wed Nov 11 2026. No macro, syntax, notation, axiom, sorry.
-/
import Derived.Test.YtgflalfiopnmnabDoorRows
import GoSem.ClaimSeven
namespace Go.Proofs.YtgflalfiopnmnabDoor
namespace Rows

/-- THE TIED CARD OF 'laws.FnExactFreeze'. -/
def fnExactFreezeCard : Claim7 := { stood := { row := fnExactFreezeRow, standIns := [], harness := (true, "e15986f5719e3a17bf318336bfc2b92344d498db9d7b3516a60fb548e36bbb3a"), looks := true }, kinds := [], alts := [], laidByText := true, laidKinds := [.data, .data, .data], laidTests := true, laidLooks := .later }
def FnExactFreezeCardSaid : Prop := Claim7.holds Tryd.pinned (.plain (OpenSpec.ofChange fnExactFreezeSpec)) fnExactFreezeCard

/-- THE SECOND FORM's CARD OF 'laws.FnExactFreeze'. -/
def fnExactFreezeUptoCard : Claim7 := { stood := { row := fnExactFreezeUptoRow, standIns := [], harness := (true, "e15986f5719e3a17bf318336bfc2b92344d498db9d7b3516a60fb548e36bbb3a"), looks := true }, kinds := [], alts := [], laidByText := true, laidKinds := [.data, .data, .data], laidTests := true, laidLooks := .later }
def FnExactFreezeUptoCardSaid : Prop := Claim7.holds Tryd.pinned (.plain (OpenSpec.upto fnExactFreezeSpec)) fnExactFreezeUptoCard
end Rows
end Go.Proofs.YtgflalfiopnmnabDoor
