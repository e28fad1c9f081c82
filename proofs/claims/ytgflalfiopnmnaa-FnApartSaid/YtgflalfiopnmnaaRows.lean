/-
  No cell of these rows narrows 'for every input' (looked for: loops, veiled, ifaces, maps, wideKeys, modest, calm, conditions, laid).
  DERIVED. THE GIVEN ROWS OF THIS SEAT. 5 by the template 'for every input the law returns true; each argument reads behind the call as it read before'; 0 by the template 'total and deterministic' (their statements: YtgflalfiopnmnaaTotals.lean).
  GIVEN WITH THE SEED: the statements are not yours to turn. If you find one false, say at which input.
  Laid BY PROGRAM, IN A SANDBOX (cutbox-rows.mjs): the forced cells as the released guide's own fill.sh prints them over the translation c1d953b919c1ef06… (all of the seat's roots in one cut). By AI agents, Wed Nov 11 2026. No macro, syntax, notation, axiom, sorry.
-/
import Derived.Test.YtgflalfiopnmnaaChecked
import GoSem.Claim
import GoSem.ClaimJoined
import GoSem.ClaimMapViews
import Derived.JoinedTies
import Derived.KernelRfl
namespace Go.Proofs.Ytgflalfiopnmnaa
/- THE CELL 'sum', in the pinned program and in every row, IS THE sha256 OF THE DUMP (.gsa) THAT YtgflalfiopnmnaaProg.lean LOADS. Nothing in Lean hashes anything: it is a label: what it is worth is what the hold of that sum in a sandbox is worth. -/
noncomputable def Try.pinned : Pinned := { name := "ytgflalfiopnmnaa", sum := "c1d953b919c1ef06aa491ee514763a5b276de53a6015307b01f2abbcead1c1b5", checked := Try.checked }
namespace Rows
def none {H : Type} : Left H := { results := [], args := [] }

/-- 'laws.FnShrink': WHATEVER THE INPUT: true; the input reads as it did. -/
def fnShrinkSpec : ChangeSpec := { name := "fnShrink", fn := fun _ => fun
  | [d1, d2] => { results := [.lit (.bool true)], args := [d1, d2] }
  | _ => none }
def fnShrinkRow : OpenClaim := { program := "ytgflalfiopnmnaa", sum := "c1d953b919c1ef06aa491ee514763a5b276de53a6015307b01f2abbcead1c1b5", func := "loop.example/cloth/laws.FnShrink", spec := "fnShrink", unfollowed := true, recurses := true, plainKeys := false, apart := false }
def FnShrinkSaid : Prop := fnShrinkRow.holds Try.pinned (OpenSpec.ofChange fnShrinkSpec)

/-- ITS FALSE NEIGHBOUR: 'it returns false'. Refute it at one input. -/
def fnShrinkWrong : ChangeSpec := { name := "fnShrink", fn := fun _ => fun
  | [d1, d2] => { results := [.lit (.bool false)], args := [d1, d2] }
  | _ => none }
def FnShrinkWrongFalsely : Prop := fnShrinkRow.holds Try.pinned (OpenSpec.ofChange fnShrinkWrong)

/-- 'laws.FnApart': WHATEVER THE INPUT: true; the input reads as it did. -/
def fnApartSpec : ChangeSpec := { name := "fnApart", fn := fun _ => fun
  | [d1, d2] => { results := [.lit (.bool true)], args := [d1, d2] }
  | _ => none }
def fnApartRow : OpenClaim := { program := "ytgflalfiopnmnaa", sum := "c1d953b919c1ef06aa491ee514763a5b276de53a6015307b01f2abbcead1c1b5", func := "loop.example/cloth/laws.FnApart", spec := "fnApart", unfollowed := true, recurses := true, plainKeys := false, apart := false }
def FnApartSaid : Prop := fnApartRow.holds Try.pinned (OpenSpec.ofChange fnApartSpec)

/-- ITS FALSE NEIGHBOUR: 'it returns false'. Refute it at one input. -/
def fnApartWrong : ChangeSpec := { name := "fnApart", fn := fun _ => fun
  | [d1, d2] => { results := [.lit (.bool false)], args := [d1, d2] }
  | _ => none }
def FnApartWrongFalsely : Prop := fnApartRow.holds Try.pinned (OpenSpec.ofChange fnApartWrong)

/-- 'laws.FnKeys': WHATEVER THE INPUT: true; the input reads as it did. -/
def fnKeysSpec : ChangeSpec := { name := "fnKeys", fn := fun _ => fun
  | [d] => { results := [.lit (.bool true)], args := [d] }
  | _ => none }
def fnKeysRow : OpenClaim := { program := "ytgflalfiopnmnaa", sum := "c1d953b919c1ef06aa491ee514763a5b276de53a6015307b01f2abbcead1c1b5", func := "loop.example/cloth/laws.FnKeys", spec := "fnKeys", unfollowed := true, recurses := true, plainKeys := false, apart := false }
def FnKeysSaid : Prop := fnKeysRow.holds Try.pinned (OpenSpec.ofChange fnKeysSpec)

/-- ITS FALSE NEIGHBOUR: 'it returns false'. Refute it at one input. -/
def fnKeysWrong : ChangeSpec := { name := "fnKeys", fn := fun _ => fun
  | [d] => { results := [.lit (.bool false)], args := [d] }
  | _ => none }
def FnKeysWrongFalsely : Prop := fnKeysRow.holds Try.pinned (OpenSpec.ofChange fnKeysWrong)

/-- 'laws.FnExactRanked': WHATEVER THE INPUT: true; the input reads as it did. -/
def fnExactRankedSpec : ChangeSpec := { name := "fnExactRanked", fn := fun _ => fun
  | [d] => { results := [.lit (.bool true)], args := [d] }
  | _ => none }
def fnExactRankedRow : OpenClaim := { program := "ytgflalfiopnmnaa", sum := "c1d953b919c1ef06aa491ee514763a5b276de53a6015307b01f2abbcead1c1b5", func := "loop.example/cloth/laws.FnExactRanked", spec := "fnExactRanked", plainKeys := false, apart := false }
def FnExactRankedSaid : Prop := fnExactRankedRow.holds Try.pinned (OpenSpec.ofChange fnExactRankedSpec)

/-- ITS FALSE NEIGHBOUR: 'it returns false'. Refute it at one input. -/
def fnExactRankedWrong : ChangeSpec := { name := "fnExactRanked", fn := fun _ => fun
  | [d] => { results := [.lit (.bool false)], args := [d] }
  | _ => none }
def FnExactRankedWrongFalsely : Prop := fnExactRankedRow.holds Try.pinned (OpenSpec.ofChange fnExactRankedWrong)

/-- 'laws.FnExactMostAsked': WHATEVER THE INPUT: true; the input reads as it did. -/
def fnExactMostAskedSpec : ChangeSpec := { name := "fnExactMostAsked", fn := fun _ => fun
  | [d] => { results := [.lit (.bool true)], args := [d] }
  | _ => none }
def fnExactMostAskedRow : OpenClaim := { program := "ytgflalfiopnmnaa", sum := "c1d953b919c1ef06aa491ee514763a5b276de53a6015307b01f2abbcead1c1b5", func := "loop.example/cloth/laws.FnExactMostAsked", spec := "fnExactMostAsked", unfollowed := true, recurses := true, plainKeys := false, apart := false }
def FnExactMostAskedSaid : Prop := fnExactMostAskedRow.holds Try.pinned (OpenSpec.ofChange fnExactMostAskedSpec)

/-- ITS FALSE NEIGHBOUR: 'it returns false'. Refute it at one input. -/
def fnExactMostAskedWrong : ChangeSpec := { name := "fnExactMostAsked", fn := fun _ => fun
  | [d] => { results := [.lit (.bool false)], args := [d] }
  | _ => none }
def FnExactMostAskedWrongFalsely : Prop := fnExactMostAskedRow.holds Try.pinned (OpenSpec.ofChange fnExactMostAskedWrong)

/- THE SECOND FORM. 'bulk': how many values and letters a reading holds, each counted each time it is reached (what is shared counts as often as it is met; a slice's spare places count too). A statement '..UptoSaid' is the law's where the arguments, and the package variables that the reading takes, are together of bulk at most 1048576: NARROWER than '..Said'. Prove '..Said' where nothing that the law and all that it calls make is longer than what came in: it says more and counts as full. Else prove '..UptoSaid'. A law counts once. -/
mutual
def uptoBulk {H : Type} : DataW H → Nat
  | .lit (.string bytes) => bytes.length + 1
  | .lit _ => 1
  | .nil => 1
  | .ptr d => uptoBulk d + 1
  | .slice elems spare => uptoBulkAll elems + uptoBulkAll spare + 1
  | .agg parts => uptoBulkAll parts + 1
  | .iface _ d => uptoBulk d + 1
  | .map entries => uptoBulkEntries entries + 1
  | .held _ => 1
def uptoBulkAll {H : Type} : List (DataW H) → Nat
  | [] => 0
  | d :: r => uptoBulk d + uptoBulkAll r
def uptoBulkEntries {H : Type} : List (Lit × DataW H) → Nat
  | [] => 0
  | x :: r => uptoBulkEntry x + uptoBulkEntries r
def uptoBulkEntry {H : Type} : Lit × DataW H → Nat
  | (.string bytes, d) => bytes.length + uptoBulk d + 1
  | (_, d) => uptoBulk d + 1
 end
def uptoSmall : (H : Type) → List (DataW H) → Bool := fun _ ds => decide (uptoBulkAll ds ≤ 1048576)
def OpenSpec.upto (s : _root_.Go.ChangeSpec) : _root_.Go.OpenSpec := { _root_.Go.OpenSpec.ofChange s with cond := some uptoSmall }

/-- 'laws.FnShrink', WHERE WHAT IT READS IS OF BULK AT MOST 1048576: true; the input reads as it did. -/
def fnShrinkUptoRow : OpenClaim := { program := "ytgflalfiopnmnaa", sum := "c1d953b919c1ef06aa491ee514763a5b276de53a6015307b01f2abbcead1c1b5", func := "loop.example/cloth/laws.FnShrink", spec := "fnShrink", unfollowed := true, recurses := true, plainKeys := false, apart := false, narrowed := true }
def FnShrinkUptoSaid : Prop := fnShrinkUptoRow.holds Try.pinned (OpenSpec.upto fnShrinkSpec)

/-- 'laws.FnApart', WHERE WHAT IT READS IS OF BULK AT MOST 1048576: true; the input reads as it did. -/
def fnApartUptoRow : OpenClaim := { program := "ytgflalfiopnmnaa", sum := "c1d953b919c1ef06aa491ee514763a5b276de53a6015307b01f2abbcead1c1b5", func := "loop.example/cloth/laws.FnApart", spec := "fnApart", unfollowed := true, recurses := true, plainKeys := false, apart := false, narrowed := true }
def FnApartUptoSaid : Prop := fnApartUptoRow.holds Try.pinned (OpenSpec.upto fnApartSpec)

/-- 'laws.FnKeys', WHERE WHAT IT READS IS OF BULK AT MOST 1048576: true; the input reads as it did. -/
def fnKeysUptoRow : OpenClaim := { program := "ytgflalfiopnmnaa", sum := "c1d953b919c1ef06aa491ee514763a5b276de53a6015307b01f2abbcead1c1b5", func := "loop.example/cloth/laws.FnKeys", spec := "fnKeys", unfollowed := true, recurses := true, plainKeys := false, apart := false, narrowed := true }
def FnKeysUptoSaid : Prop := fnKeysUptoRow.holds Try.pinned (OpenSpec.upto fnKeysSpec)

/-- 'laws.FnExactRanked', WHERE WHAT IT READS IS OF BULK AT MOST 1048576: true; the input reads as it did. -/
def fnExactRankedUptoRow : OpenClaim := { program := "ytgflalfiopnmnaa", sum := "c1d953b919c1ef06aa491ee514763a5b276de53a6015307b01f2abbcead1c1b5", func := "loop.example/cloth/laws.FnExactRanked", spec := "fnExactRanked", plainKeys := false, apart := false, narrowed := true }
def FnExactRankedUptoSaid : Prop := fnExactRankedUptoRow.holds Try.pinned (OpenSpec.upto fnExactRankedSpec)

/-- 'laws.FnExactMostAsked', WHERE WHAT IT READS IS OF BULK AT MOST 1048576: true; the input reads as it did. -/
def fnExactMostAskedUptoRow : OpenClaim := { program := "ytgflalfiopnmnaa", sum := "c1d953b919c1ef06aa491ee514763a5b276de53a6015307b01f2abbcead1c1b5", func := "loop.example/cloth/laws.FnExactMostAsked", spec := "fnExactMostAsked", unfollowed := true, recurses := true, plainKeys := false, apart := false, narrowed := true }
def FnExactMostAskedUptoSaid : Prop := fnExactMostAskedUptoRow.holds Try.pinned (OpenSpec.upto fnExactMostAskedSpec)

end Rows
end Go.Proofs.Ytgflalfiopnmnaa
