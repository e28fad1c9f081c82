/-
  No cell of these rows narrows 'for every input' (looked for: loops, veiled, ifaces, maps, wideKeys, modest, calm, conditions, laid).
  DERIVED. THE GIVEN ROWS OF THIS SEAT. 8 by the template 'for every input the law returns true; each argument reads behind the call as it read before'; 0 by the template 'total and deterministic' (their statements: YtgflalfiopnmnabTotals.lean).
  GIVEN WITH THE SEED: the statements are not yours to turn. If you find one false, say at which input.
  Laid BY PROGRAM, IN A SANDBOX (cutbox-rows.mjs): the forced cells as the released guide's own fill.sh prints them over the translation debb4b9a887f5d0f… (all of the seat's roots in one cut). By AI agents, Wed Nov 11 2026. No macro, syntax, notation, axiom, sorry.
-/
import Derived.Test.YtgflalfiopnmnabChecked
import GoSem.Claim
import GoSem.ClaimJoined
import GoSem.ClaimMapViews
import Derived.JoinedTies
import Derived.KernelRfl
namespace Go.Proofs.Ytgflalfiopnmnab
/- THE CELL 'sum', in the pinned program and in every row, IS THE sha256 OF THE DUMP (.gsa) THAT YtgflalfiopnmnabProg.lean LOADS. Nothing in Lean hashes anything: it is a label: what it is worth is what the hold of that sum in a sandbox is worth. -/
noncomputable def Try.pinned : Pinned := { name := "ytgflalfiopnmnab", sum := "debb4b9a887f5d0f5374377b51bb995e0d3175de14c16870b3a94e6aebb317ef", checked := Try.checked }
namespace Rows
def none {H : Type} : Left H := { results := [], args := [] }

/-- 'laws.FnExactGraphOk': WHATEVER THE INPUT: true; the input reads as it did. -/
def fnExactGraphOkSpec : ChangeSpec := { name := "fnExactGraphOk", fn := fun _ => fun
  | [d] => { results := [.lit (.bool true)], args := [d] }
  | _ => none }
def fnExactGraphOkRow : OpenClaim := { program := "ytgflalfiopnmnab", sum := "debb4b9a887f5d0f5374377b51bb995e0d3175de14c16870b3a94e6aebb317ef", func := "loop.example/cloth/laws.FnExactGraphOk", spec := "fnExactGraphOk", unfollowed := true, recurses := true, plainKeys := false, apart := false }
def FnExactGraphOkSaid : Prop := fnExactGraphOkRow.holds Try.pinned (OpenSpec.ofChange fnExactGraphOkSpec)

/-- ITS FALSE NEIGHBOUR: 'it returns false'. Refute it at one input. -/
def fnExactGraphOkWrong : ChangeSpec := { name := "fnExactGraphOk", fn := fun _ => fun
  | [d] => { results := [.lit (.bool false)], args := [d] }
  | _ => none }
def FnExactGraphOkWrongFalsely : Prop := fnExactGraphOkRow.holds Try.pinned (OpenSpec.ofChange fnExactGraphOkWrong)

/-- 'laws.FnExactKeyOrder': WHATEVER THE INPUT: true; the input reads as it did. -/
def fnExactKeyOrderSpec : ChangeSpec := { name := "fnExactKeyOrder", fn := fun _ => fun
  | [d1, d2] => { results := [.lit (.bool true)], args := [d1, d2] }
  | _ => none }
def fnExactKeyOrderRow : OpenClaim := { program := "ytgflalfiopnmnab", sum := "debb4b9a887f5d0f5374377b51bb995e0d3175de14c16870b3a94e6aebb317ef", func := "loop.example/cloth/laws.FnExactKeyOrder", spec := "fnExactKeyOrder", unfollowed := true, recurses := true, plainKeys := false, apart := false }
def FnExactKeyOrderSaid : Prop := fnExactKeyOrderRow.holds Try.pinned (OpenSpec.ofChange fnExactKeyOrderSpec)

/-- ITS FALSE NEIGHBOUR: 'it returns false'. Refute it at one input. -/
def fnExactKeyOrderWrong : ChangeSpec := { name := "fnExactKeyOrder", fn := fun _ => fun
  | [d1, d2] => { results := [.lit (.bool false)], args := [d1, d2] }
  | _ => none }
def FnExactKeyOrderWrongFalsely : Prop := fnExactKeyOrderRow.holds Try.pinned (OpenSpec.ofChange fnExactKeyOrderWrong)

/-- 'laws.FnExactCanon': WHATEVER THE INPUT: true; the input reads as it did. -/
def fnExactCanonSpec : ChangeSpec := { name := "fnExactCanon", fn := fun _ => fun
  | [d] => { results := [.lit (.bool true)], args := [d] }
  | _ => none }
def fnExactCanonRow : OpenClaim := { program := "ytgflalfiopnmnab", sum := "debb4b9a887f5d0f5374377b51bb995e0d3175de14c16870b3a94e6aebb317ef", func := "loop.example/cloth/laws.FnExactCanon", spec := "fnExactCanon", unfollowed := true, recurses := true, plainKeys := false, apart := false }
def FnExactCanonSaid : Prop := fnExactCanonRow.holds Try.pinned (OpenSpec.ofChange fnExactCanonSpec)

/-- ITS FALSE NEIGHBOUR: 'it returns false'. Refute it at one input. -/
def fnExactCanonWrong : ChangeSpec := { name := "fnExactCanon", fn := fun _ => fun
  | [d] => { results := [.lit (.bool false)], args := [d] }
  | _ => none }
def FnExactCanonWrongFalsely : Prop := fnExactCanonRow.holds Try.pinned (OpenSpec.ofChange fnExactCanonWrong)

/-- 'laws.FnExactGet': WHATEVER THE INPUT: true; the input reads as it did. -/
def fnExactGetSpec : ChangeSpec := { name := "fnExactGet", fn := fun _ => fun
  | [d1, d2] => { results := [.lit (.bool true)], args := [d1, d2] }
  | _ => none }
def fnExactGetRow : OpenClaim := { program := "ytgflalfiopnmnab", sum := "debb4b9a887f5d0f5374377b51bb995e0d3175de14c16870b3a94e6aebb317ef", func := "loop.example/cloth/laws.FnExactGet", spec := "fnExactGet", unfollowed := true, recurses := true, plainKeys := false, apart := false }
def FnExactGetSaid : Prop := fnExactGetRow.holds Try.pinned (OpenSpec.ofChange fnExactGetSpec)

/-- ITS FALSE NEIGHBOUR: 'it returns false'. Refute it at one input. -/
def fnExactGetWrong : ChangeSpec := { name := "fnExactGet", fn := fun _ => fun
  | [d1, d2] => { results := [.lit (.bool false)], args := [d1, d2] }
  | _ => none }
def FnExactGetWrongFalsely : Prop := fnExactGetRow.holds Try.pinned (OpenSpec.ofChange fnExactGetWrong)

/-- 'laws.FnExactSame': WHATEVER THE INPUT: true; the input reads as it did. -/
def fnExactSameSpec : ChangeSpec := { name := "fnExactSame", fn := fun _ => fun
  | [d1, d2] => { results := [.lit (.bool true)], args := [d1, d2] }
  | _ => none }
def fnExactSameRow : OpenClaim := { program := "ytgflalfiopnmnab", sum := "debb4b9a887f5d0f5374377b51bb995e0d3175de14c16870b3a94e6aebb317ef", func := "loop.example/cloth/laws.FnExactSame", spec := "fnExactSame", unfollowed := true, recurses := true, plainKeys := false, apart := false }
def FnExactSameSaid : Prop := fnExactSameRow.holds Try.pinned (OpenSpec.ofChange fnExactSameSpec)

/-- ITS FALSE NEIGHBOUR: 'it returns false'. Refute it at one input. -/
def fnExactSameWrong : ChangeSpec := { name := "fnExactSame", fn := fun _ => fun
  | [d1, d2] => { results := [.lit (.bool false)], args := [d1, d2] }
  | _ => none }
def FnExactSameWrongFalsely : Prop := fnExactSameRow.holds Try.pinned (OpenSpec.ofChange fnExactSameWrong)

/-- 'laws.FnExactClasses': WHATEVER THE INPUT: true; the input reads as it did. -/
def fnExactClassesSpec : ChangeSpec := { name := "fnExactClasses", fn := fun _ => fun
  | [d] => { results := [.lit (.bool true)], args := [d] }
  | _ => none }
def fnExactClassesRow : OpenClaim := { program := "ytgflalfiopnmnab", sum := "debb4b9a887f5d0f5374377b51bb995e0d3175de14c16870b3a94e6aebb317ef", func := "loop.example/cloth/laws.FnExactClasses", spec := "fnExactClasses", unfollowed := true, recurses := true, plainKeys := false, apart := false }
def FnExactClassesSaid : Prop := fnExactClassesRow.holds Try.pinned (OpenSpec.ofChange fnExactClassesSpec)

/-- ITS FALSE NEIGHBOUR: 'it returns false'. Refute it at one input. -/
def fnExactClassesWrong : ChangeSpec := { name := "fnExactClasses", fn := fun _ => fun
  | [d] => { results := [.lit (.bool false)], args := [d] }
  | _ => none }
def FnExactClassesWrongFalsely : Prop := fnExactClassesRow.holds Try.pinned (OpenSpec.ofChange fnExactClassesWrong)

/-- 'laws.FnExactShrink': WHATEVER THE INPUT: true; the input reads as it did. -/
def fnExactShrinkSpec : ChangeSpec := { name := "fnExactShrink", fn := fun _ => fun
  | [d] => { results := [.lit (.bool true)], args := [d] }
  | _ => none }
def fnExactShrinkRow : OpenClaim := { program := "ytgflalfiopnmnab", sum := "debb4b9a887f5d0f5374377b51bb995e0d3175de14c16870b3a94e6aebb317ef", func := "loop.example/cloth/laws.FnExactShrink", spec := "fnExactShrink", unfollowed := true, recurses := true, plainKeys := false, apart := false }
def FnExactShrinkSaid : Prop := fnExactShrinkRow.holds Try.pinned (OpenSpec.ofChange fnExactShrinkSpec)

/-- ITS FALSE NEIGHBOUR: 'it returns false'. Refute it at one input. -/
def fnExactShrinkWrong : ChangeSpec := { name := "fnExactShrink", fn := fun _ => fun
  | [d] => { results := [.lit (.bool false)], args := [d] }
  | _ => none }
def FnExactShrinkWrongFalsely : Prop := fnExactShrinkRow.holds Try.pinned (OpenSpec.ofChange fnExactShrinkWrong)

/-- 'laws.FnExactApart': WHATEVER THE INPUT: true; the input reads as it did. -/
def fnExactApartSpec : ChangeSpec := { name := "fnExactApart", fn := fun _ => fun
  | [d1, d2] => { results := [.lit (.bool true)], args := [d1, d2] }
  | _ => none }
def fnExactApartRow : OpenClaim := { program := "ytgflalfiopnmnab", sum := "debb4b9a887f5d0f5374377b51bb995e0d3175de14c16870b3a94e6aebb317ef", func := "loop.example/cloth/laws.FnExactApart", spec := "fnExactApart", unfollowed := true, recurses := true, plainKeys := false, apart := false }
def FnExactApartSaid : Prop := fnExactApartRow.holds Try.pinned (OpenSpec.ofChange fnExactApartSpec)

/-- ITS FALSE NEIGHBOUR: 'it returns false'. Refute it at one input. -/
def fnExactApartWrong : ChangeSpec := { name := "fnExactApart", fn := fun _ => fun
  | [d1, d2] => { results := [.lit (.bool false)], args := [d1, d2] }
  | _ => none }
def FnExactApartWrongFalsely : Prop := fnExactApartRow.holds Try.pinned (OpenSpec.ofChange fnExactApartWrong)

/- THE SECOND FORM. 'bulk': how many values and letters a reading holds, each counted each time it is reached (what is shared counts as often as it is met; a slice's spare places count too). A statement '..UptoSaid' is the law's where the arguments, and the package variables that the reading takes, are together of bulk at most 1048576: NARROWER than '..Said'. Prove '..Said' where nothing that the law and all that it calls make is longer than what came in: it says more and counts as full. Else prove '..UptoSaid'. A law counts once. -/
mutual
def uptoBulk {H : Type} : DataW H → Nat
  | .lit (.string bytes) => bytes.length + 1
  | .lit _ => 1
  | .nil => 1
  | .ptr d => uptoBulk d + 1
  | .slice elems spare => uptoBulkAll elems + uptoBulkAll spare + 1
  | .agg parts => uptoBulkAll parts + 1
  | .iface _ d => uptoBulk d + 1
  | .map entries => uptoBulkEntries entries + 1
  | .held _ => 1
def uptoBulkAll {H : Type} : List (DataW H) → Nat
  | [] => 0
  | d :: r => uptoBulk d + uptoBulkAll r
def uptoBulkEntries {H : Type} : List (Lit × DataW H) → Nat
  | [] => 0
  | x :: r => uptoBulkEntry x + uptoBulkEntries r
def uptoBulkEntry {H : Type} : Lit × DataW H → Nat
  | (.string bytes, d) => bytes.length + uptoBulk d + 1
  | (_, d) => uptoBulk d + 1
 end
def uptoSmall : (H : Type) → List (DataW H) → Bool := fun _ ds => decide (uptoBulkAll ds ≤ 1048576)
def OpenSpec.upto (s : _root_.Go.ChangeSpec) : _root_.Go.OpenSpec := { _root_.Go.OpenSpec.ofChange s with cond := some uptoSmall }

/-- 'laws.FnExactGraphOk', WHERE WHAT IT READS IS OF BULK AT MOST 1048576: true; the input reads as it did. -/
def fnExactGraphOkUptoRow : OpenClaim := { program := "ytgflalfiopnmnab", sum := "debb4b9a887f5d0f5374377b51bb995e0d3175de14c16870b3a94e6aebb317ef", func := "loop.example/cloth/laws.FnExactGraphOk", spec := "fnExactGraphOk", unfollowed := true, recurses := true, plainKeys := false, apart := false, narrowed := true }
def FnExactGraphOkUptoSaid : Prop := fnExactGraphOkUptoRow.holds Try.pinned (OpenSpec.upto fnExactGraphOkSpec)

/-- 'laws.FnExactKeyOrder', WHERE WHAT IT READS IS OF BULK AT MOST 1048576: true; the input reads as it did. -/
def fnExactKeyOrderUptoRow : OpenClaim := { program := "ytgflalfiopnmnab", sum := "debb4b9a887f5d0f5374377b51bb995e0d3175de14c16870b3a94e6aebb317ef", func := "loop.example/cloth/laws.FnExactKeyOrder", spec := "fnExactKeyOrder", unfollowed := true, recurses := true, plainKeys := false, apart := false, narrowed := true }
def FnExactKeyOrderUptoSaid : Prop := fnExactKeyOrderUptoRow.holds Try.pinned (OpenSpec.upto fnExactKeyOrderSpec)

/-- 'laws.FnExactCanon', WHERE WHAT IT READS IS OF BULK AT MOST 1048576: true; the input reads as it did. -/
def fnExactCanonUptoRow : OpenClaim := { program := "ytgflalfiopnmnab", sum := "debb4b9a887f5d0f5374377b51bb995e0d3175de14c16870b3a94e6aebb317ef", func := "loop.example/cloth/laws.FnExactCanon", spec := "fnExactCanon", unfollowed := true, recurses := true, plainKeys := false, apart := false, narrowed := true }
def FnExactCanonUptoSaid : Prop := fnExactCanonUptoRow.holds Try.pinned (OpenSpec.upto fnExactCanonSpec)

/-- 'laws.FnExactGet', WHERE WHAT IT READS IS OF BULK AT MOST 1048576: true; the input reads as it did. -/
def fnExactGetUptoRow : OpenClaim := { program := "ytgflalfiopnmnab", sum := "debb4b9a887f5d0f5374377b51bb995e0d3175de14c16870b3a94e6aebb317ef", func := "loop.example/cloth/laws.FnExactGet", spec := "fnExactGet", unfollowed := true, recurses := true, plainKeys := false, apart := false, narrowed := true }
def FnExactGetUptoSaid : Prop := fnExactGetUptoRow.holds Try.pinned (OpenSpec.upto fnExactGetSpec)

/-- 'laws.FnExactSame', WHERE WHAT IT READS IS OF BULK AT MOST 1048576: true; the input reads as it did. -/
def fnExactSameUptoRow : OpenClaim := { program := "ytgflalfiopnmnab", sum := "debb4b9a887f5d0f5374377b51bb995e0d3175de14c16870b3a94e6aebb317ef", func := "loop.example/cloth/laws.FnExactSame", spec := "fnExactSame", unfollowed := true, recurses := true, plainKeys := false, apart := false, narrowed := true }
def FnExactSameUptoSaid : Prop := fnExactSameUptoRow.holds Try.pinned (OpenSpec.upto fnExactSameSpec)

/-- 'laws.FnExactClasses', WHERE WHAT IT READS IS OF BULK AT MOST 1048576: true; the input reads as it did. -/
def fnExactClassesUptoRow : OpenClaim := { program := "ytgflalfiopnmnab", sum := "debb4b9a887f5d0f5374377b51bb995e0d3175de14c16870b3a94e6aebb317ef", func := "loop.example/cloth/laws.FnExactClasses", spec := "fnExactClasses", unfollowed := true, recurses := true, plainKeys := false, apart := false, narrowed := true }
def FnExactClassesUptoSaid : Prop := fnExactClassesUptoRow.holds Try.pinned (OpenSpec.upto fnExactClassesSpec)

/-- 'laws.FnExactShrink', WHERE WHAT IT READS IS OF BULK AT MOST 1048576: true; the input reads as it did. -/
def fnExactShrinkUptoRow : OpenClaim := { program := "ytgflalfiopnmnab", sum := "debb4b9a887f5d0f5374377b51bb995e0d3175de14c16870b3a94e6aebb317ef", func := "loop.example/cloth/laws.FnExactShrink", spec := "fnExactShrink", unfollowed := true, recurses := true, plainKeys := false, apart := false, narrowed := true }
def FnExactShrinkUptoSaid : Prop := fnExactShrinkUptoRow.holds Try.pinned (OpenSpec.upto fnExactShrinkSpec)

/-- 'laws.FnExactApart', WHERE WHAT IT READS IS OF BULK AT MOST 1048576: true; the input reads as it did. -/
def fnExactApartUptoRow : OpenClaim := { program := "ytgflalfiopnmnab", sum := "debb4b9a887f5d0f5374377b51bb995e0d3175de14c16870b3a94e6aebb317ef", func := "loop.example/cloth/laws.FnExactApart", spec := "fnExactApart", unfollowed := true, recurses := true, plainKeys := false, apart := false, narrowed := true }
def FnExactApartUptoSaid : Prop := fnExactApartUptoRow.holds Try.pinned (OpenSpec.upto fnExactApartSpec)

end Rows
end Go.Proofs.Ytgflalfiopnmnab
