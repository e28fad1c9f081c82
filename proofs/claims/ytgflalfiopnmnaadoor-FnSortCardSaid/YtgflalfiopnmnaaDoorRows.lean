/-
  NARROWER THAN 'FOR EVERY INPUT', by the rows' own cells (each row's printed sentence says how): FnSort: ifaces, laid · FnBound: ifaces, laid · FnExactSort: ifaces, laid.
  DERIVED. THE GIVEN ROWS OF THIS SEAT. 3 by the template 'for every input the law returns true; each argument reads behind the call as it read before'; 0 by the template 'total and deterministic' (their statements: YtgflalfiopnmnaaDoorTotals.lean).
  GIVEN WITH THE SEED: the statements are not yours to turn. If you find one false, say at which input.
  Laid BY PROGRAM, IN A SANDBOX (cutbox-rows.mjs): the forced cells as the released guide's own fill.sh prints them over the translation b0cbaf5c2618184b… (all of the seat's roots in one cut). By AI agents, Wed Nov 11 2026. No macro, syntax, notation, axiom, sorry.
-/
import Derived.Test.YtgflalfiopnmnaaDoorChecked
import GoSem.Claim
import GoSem.ClaimJoined
import GoSem.ClaimMapViews
import Derived.JoinedTies
import Derived.KernelRfl
namespace Go.Proofs.YtgflalfiopnmnaaDoor
/- THE CELL 'sum', in the pinned program and in every row, IS THE sha256 OF THE DUMP (.gsa) THAT YtgflalfiopnmnaaDoorProg.lean LOADS. Nothing in Lean hashes anything: it is a label: what it is worth is what the hold of that sum in a sandbox is worth. -/
noncomputable def Tryd.pinned : Pinned := { name := "ytgflalfiopnmnaadoor", sum := "b0cbaf5c2618184b14c7c904f03e4ee20c85fb6a8643e3988d27032ca1b2c394", checked := Tryd.checked }
namespace Rows
def none {H : Type} : Left H := { results := [], args := [] }

/- WHAT THE LISTED PACKAGE-LEVEL VARIABLES READ AS WHEN THE CALL BEGINS. Each datum BY PROGRAM (the guide's laid-datum.mjs) off the statement by which the dump's own 'gosem.cut.vars' lays the variable. In a bare row this is a premise. The card (YtgflalfiopnmnaaDoorCards.lean) ties it to the program's text. -/
def laid_loop_example_cloth_impl_errScriptFails {H : Type} : DataW H := .iface "*errors.errorString" (.ptr (.agg [.lit (.string [116, 104, 101, 32, 115, 99, 114, 105, 112, 116, 32, 102, 97, 105, 108, 115, 32, 97, 116, 32, 116, 104, 105, 115, 32, 113, 117, 101, 115, 116, 105, 111, 110])]))

/-- 'laws.FnSort': WHATEVER THE INPUT: true; the input reads as it did. -/
def fnSortSpec : ChangeSpec := { name := "fnSort", vars := ["loop.example/cloth/impl.errScriptFails"], fn := fun _ => fun
  | [d, g1] => { results := [.lit (.bool true)], args := [d], vars := [g1] }
  | _ => none }
def fnSortRow : OpenClaim := { program := "ytgflalfiopnmnaadoor", sum := "b0cbaf5c2618184b14c7c904f03e4ee20c85fb6a8643e3988d27032ca1b2c394", func := "loop.example/cloth/laws.FnSort", spec := "fnSort", unfollowed := true, recurses := true, named := ["loop.example/cloth/impl.errScriptFails"], ifaces := true, apart := false, laid := [("loop.example/cloth/impl.errScriptFails", laid_loop_example_cloth_impl_errScriptFails)] }
def FnSortSaid : Prop := fnSortRow.holds Tryd.pinned (OpenSpec.ofChange fnSortSpec)

/-- ITS FALSE NEIGHBOUR: 'it returns false'. Refute it at one input. -/
def fnSortWrong : ChangeSpec := { name := "fnSort", vars := ["loop.example/cloth/impl.errScriptFails"], fn := fun _ => fun
  | [d, g1] => { results := [.lit (.bool false)], args := [d], vars := [g1] }
  | _ => none }
def FnSortWrongFalsely : Prop := fnSortRow.holds Tryd.pinned (OpenSpec.ofChange fnSortWrong)

/-- 'laws.FnBound': WHATEVER THE INPUT: true; the input reads as it did. -/
def fnBoundSpec : ChangeSpec := { name := "fnBound", vars := ["loop.example/cloth/impl.errScriptFails"], fn := fun _ => fun
  | [d, g1] => { results := [.lit (.bool true)], args := [d], vars := [g1] }
  | _ => none }
def fnBoundRow : OpenClaim := { program := "ytgflalfiopnmnaadoor", sum := "b0cbaf5c2618184b14c7c904f03e4ee20c85fb6a8643e3988d27032ca1b2c394", func := "loop.example/cloth/laws.FnBound", spec := "fnBound", unfollowed := true, recurses := true, named := ["loop.example/cloth/impl.errScriptFails"], ifaces := true, apart := false, laid := [("loop.example/cloth/impl.errScriptFails", laid_loop_example_cloth_impl_errScriptFails)] }
def FnBoundSaid : Prop := fnBoundRow.holds Tryd.pinned (OpenSpec.ofChange fnBoundSpec)

/-- ITS FALSE NEIGHBOUR: 'it returns false'. Refute it at one input. -/
def fnBoundWrong : ChangeSpec := { name := "fnBound", vars := ["loop.example/cloth/impl.errScriptFails"], fn := fun _ => fun
  | [d, g1] => { results := [.lit (.bool false)], args := [d], vars := [g1] }
  | _ => none }
def FnBoundWrongFalsely : Prop := fnBoundRow.holds Tryd.pinned (OpenSpec.ofChange fnBoundWrong)

/-- 'laws.FnExactSort': WHATEVER THE INPUT: true; the input reads as it did. -/
def fnExactSortSpec : ChangeSpec := { name := "fnExactSort", vars := ["loop.example/cloth/impl.errScriptFails"], fn := fun _ => fun
  | [d, g1] => { results := [.lit (.bool true)], args := [d], vars := [g1] }
  | _ => none }
def fnExactSortRow : OpenClaim := { program := "ytgflalfiopnmnaadoor", sum := "b0cbaf5c2618184b14c7c904f03e4ee20c85fb6a8643e3988d27032ca1b2c394", func := "loop.example/cloth/laws.FnExactSort", spec := "fnExactSort", unfollowed := true, recurses := true, named := ["loop.example/cloth/impl.errScriptFails"], ifaces := true, apart := false, laid := [("loop.example/cloth/impl.errScriptFails", laid_loop_example_cloth_impl_errScriptFails)] }
def FnExactSortSaid : Prop := fnExactSortRow.holds Tryd.pinned (OpenSpec.ofChange fnExactSortSpec)

/-- ITS FALSE NEIGHBOUR: 'it returns false'. Refute it at one input. -/
def fnExactSortWrong : ChangeSpec := { name := "fnExactSort", vars := ["loop.example/cloth/impl.errScriptFails"], fn := fun _ => fun
  | [d, g1] => { results := [.lit (.bool false)], args := [d], vars := [g1] }
  | _ => none }
def FnExactSortWrongFalsely : Prop := fnExactSortRow.holds Tryd.pinned (OpenSpec.ofChange fnExactSortWrong)

/- THE SECOND FORM. 'bulk': how many values and letters a reading holds, each counted each time it is reached (what is shared counts as often as it is met; a slice's spare places count too). A statement '..UptoSaid' is the law's where the arguments, and the package variables that the reading takes, are together of bulk at most 1048576: NARROWER than '..Said'. Prove '..Said' where nothing that the law and all that it calls make is longer than what came in: it says more and counts as full. Else prove '..UptoSaid'. A law counts once. -/
mutual
def uptoBulk {H : Type} : DataW H → Nat
  | .lit (.string bytes) => bytes.length + 1
  | .lit _ => 1
  | .nil => 1
  | .ptr d => uptoBulk d + 1
  | .slice elems spare => uptoBulkAll elems + uptoBulkAll spare + 1
  | .agg parts => uptoBulkAll parts + 1
  | .iface _ d => uptoBulk d + 1
  | .map entries => uptoBulkEntries entries + 1
  | .held _ => 1
def uptoBulkAll {H : Type} : List (DataW H) → Nat
  | [] => 0
  | d :: r => uptoBulk d + uptoBulkAll r
def uptoBulkEntries {H : Type} : List (Lit × DataW H) → Nat
  | [] => 0
  | x :: r => uptoBulkEntry x + uptoBulkEntries r
def uptoBulkEntry {H : Type} : Lit × DataW H → Nat
  | (.string bytes, d) => bytes.length + uptoBulk d + 1
  | (_, d) => uptoBulk d + 1
 end
def uptoSmall : (H : Type) → List (DataW H) → Bool := fun _ ds => decide (uptoBulkAll ds ≤ 1048576)
def OpenSpec.upto (s : _root_.Go.ChangeSpec) : _root_.Go.OpenSpec := { _root_.Go.OpenSpec.ofChange s with cond := some uptoSmall }

/-- 'laws.FnSort', WHERE WHAT IT READS IS OF BULK AT MOST 1048576: true; the input reads as it did. -/
def fnSortUptoRow : OpenClaim := { program := "ytgflalfiopnmnaadoor", sum := "b0cbaf5c2618184b14c7c904f03e4ee20c85fb6a8643e3988d27032ca1b2c394", func := "loop.example/cloth/laws.FnSort", spec := "fnSort", unfollowed := true, recurses := true, named := ["loop.example/cloth/impl.errScriptFails"], ifaces := true, apart := false, laid := [("loop.example/cloth/impl.errScriptFails", laid_loop_example_cloth_impl_errScriptFails)], narrowed := true }
def FnSortUptoSaid : Prop := fnSortUptoRow.holds Tryd.pinned (OpenSpec.upto fnSortSpec)

/-- 'laws.FnBound', WHERE WHAT IT READS IS OF BULK AT MOST 1048576: true; the input reads as it did. -/
def fnBoundUptoRow : OpenClaim := { program := "ytgflalfiopnmnaadoor", sum := "b0cbaf5c2618184b14c7c904f03e4ee20c85fb6a8643e3988d27032ca1b2c394", func := "loop.example/cloth/laws.FnBound", spec := "fnBound", unfollowed := true, recurses := true, named := ["loop.example/cloth/impl.errScriptFails"], ifaces := true, apart := false, laid := [("loop.example/cloth/impl.errScriptFails", laid_loop_example_cloth_impl_errScriptFails)], narrowed := true }
def FnBoundUptoSaid : Prop := fnBoundUptoRow.holds Tryd.pinned (OpenSpec.upto fnBoundSpec)

/-- 'laws.FnExactSort', WHERE WHAT IT READS IS OF BULK AT MOST 1048576: true; the input reads as it did. -/
def fnExactSortUptoRow : OpenClaim := { program := "ytgflalfiopnmnaadoor", sum := "b0cbaf5c2618184b14c7c904f03e4ee20c85fb6a8643e3988d27032ca1b2c394", func := "loop.example/cloth/laws.FnExactSort", spec := "fnExactSort", unfollowed := true, recurses := true, named := ["loop.example/cloth/impl.errScriptFails"], ifaces := true, apart := false, laid := [("loop.example/cloth/impl.errScriptFails", laid_loop_example_cloth_impl_errScriptFails)], narrowed := true }
def FnExactSortUptoSaid : Prop := fnExactSortUptoRow.holds Tryd.pinned (OpenSpec.upto fnExactSortSpec)

end Rows
end Go.Proofs.YtgflalfiopnmnaaDoor
