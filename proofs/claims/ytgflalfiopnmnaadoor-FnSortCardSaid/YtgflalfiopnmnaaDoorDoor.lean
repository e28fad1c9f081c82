import Derived.Test.YtgflalfiopnmnaaDoorCards
import Derived.Test.YtgflalfiopnmnaaDoorTie
import Derived.Test.YtgflalfiopnmnaaDoorRkMat
import Derived.ProofKit
import Derived.OpenShut
import Derived.ShutString
import Derived.ChangeOld
import Derived.ChangeVars
import Derived.MakeChecks
import Derived.Stop.LaidErr
import Derived.Stop.JoinedAt
import Derived.Deep.DeepHandedRow
import Derived.WalkSmall
namespace Go.Proofs.YtgflalfiopnmnaaDoor
open Go.RowKit
open Go.ChangeShapes Go.WideShapes Go.ChangeAt

theorem laidOutD : laidOutB Tryd.prog = true := by kernel_rfl
theorem ownD : ownKnob Tryd.prog.godebug = none := by kernel_rfl
theorem gE : Tryd.prog.globalNamed "loop.example/cloth/impl.errScriptFails" = some 0 := by kernel_rfl
theorem gEType : (Tryd.prog.globals[0]?).map (·.type) = some 45 := by kernel_rfl
theorem cellsES : Tryd.prog.cellsOf 91 = 1 := by kernel_rfl
theorem cellsStr : Tryd.prog.cellsOf 9 = 1 := by kernel_rfl
theorem star : "*" ++ "errors.errorString" = "*errors.errorString" := by decide
/-- The one row of that name. -/
theorem rowES (u : TypeId) (h : Tryd.prog.typeName? 3 u = some "*errors.errorString") : u = 74 :=
  typeName_ptr_named (nm := "errors.errorString") (by rw [star]; kernel_rfl) (by kernel_rfl) (by decide) u (by rw [star]; exact h)

/-- What the row's list gives: the variable holds a pointer to an error. -/
theorem sentinel {W : World} {l : List (String × DataW Unit)} (hl : l = [("loop.example/cloth/impl.errScriptFails", Rows.laid_loop_example_cloth_impl_errScriptFails)]) (h : laidMetH Tryd.prog l W) :
    ∃ ea : Addr, W.cell? ⟨0, 0, none⟩ = some (.iface 74 (.pointer (some ea))) := by
  subst hl
  rw [MakeChecks.laidMetH_plain _ _ _ (by kernel_rfl)] at h
  obtain ⟨a, s, hv, _⟩ := laid_sentinel h gE gEType Tryd.underlying45 rowES Tryd.underlying74 Tryd.underlying91 rfl rfl Tryd.underlying9 cellsES cellsStr
  exact ⟨a, by simpa using World.var?_cell gE hv 0⟩

/-- One start that fits: the error as its initialiser lays it. -/
def textS : ByteArray := { data := #[116, 104, 101, 32, 115, 99, 114, 105, 112, 116, 32, 102, 97, 105, 108, 115, 32, 97, 116, 32, 116, 104, 105, 115, 32, 113, 117, 101, 115, 116, 105, 111, 110] }
def putErr (low : Nat) : Obj → Obj
  | .cells _ t frozen => .cells #[.iface 74 (.pointer (some ⟨low, 0, none⟩))] t frozen
  | o => o
def laidOn (low : Nat) (W : World) : World := { W with heap := W.heap.modify 0 (putErr low) }
theorem laid_met (os : Os) (args : Array Value) : laidMet Tryd.prog [("loop.example/cloth/impl.errScriptFails", Rows.laid_loop_example_cloth_impl_errScriptFails)] ((laidOn (World.holding Tryd.prog default ⟨#[], #[], []⟩).heap.size (World.holding Tryd.prog os ⟨#[.cells #[.string textS] 91], #[], []⟩)).forCall (fun _ _ => 0) ⟨#[], args, []⟩).memory :=
  laidMet_of_run (ps := [.cell 0 0, .cell (World.holding Tryd.prog default ⟨#[], #[], []⟩).heap.size 0]) 8 (by kernel_rfl) (by kernel_rfl) (by kernel_rfl)

/-- The named variable, read again behind a call that has written nothing that was there. -/
theorem vars_again {H : Type} {enc : TypeId × Value → H} {W W' : World} {gs : List (DataW H)} {q : List MemPlace} (h : DataW.TrodVars enc Tryd.prog W (fun _ => true) ["loop.example/cloth/impl.errScriptFails"] gs q) (hb : Below W.heap.size W W') (sp : Nat → Bool) :
    ∃ d, gs = [d] ∧ DataW.TrodVars enc Tryd.prog W' sp ["loop.example/cloth/impl.errScriptFails"] [d] [.cell 0 0] := by
  obtain ⟨g, t, cs, fuel, d, p, rfl, hg, ht, hv, hd, _⟩ := trodVars_one h
  obtain rfl := Option.some.inj (gE.symm.trans hg)
  obtain rfl := Option.some.inj (gEType.symm.trans ht)
  obtain ⟨x, rfl, hx, rfl, _, hc⟩ := token_of gE Tryd.underlying45 hv hd
  exact ⟨_, rfl, vars_read1 enc gE gEType Tryd.underlying45 (var?_below hb gE (by simpa using World.block_lt_of_cell? _ _ hc) hv) hx sp⟩

end Go.Proofs.YtgflalfiopnmnaaDoor
