import Derived.Deep.RegionHeld3
import Derived.Test.YtgflalfiopnmnaaGreatDoorKyText
namespace Go.Proofs.YtgflalfiopnmnaaGreatDoor
open Go.RowKit
theorem pz.{u} : type_of% @List.setIfInBounds_toArray.{u} ∧ type_of% @List.set_cons_zero.{u} ∧ type_of% @List.set_cons_succ.{u} ∧ type_of% @List.getElem_toArray.{u} ∧ type_of% @List.getElem_cons_zero.{u} ∧ type_of% @List.getElem_cons_succ.{u} :=
  ⟨@List.setIfInBounds_toArray, @List.set_cons_zero, @List.set_cons_succ, @List.getElem_toArray, @List.getElem_cons_zero, @List.getElem_cons_succ⟩

theorem wpT {P : Program} {ops : Array Oper} {Q : Exit → Act → World → Prop} {md : Region.Mode} {S : World → Prop} {i : Nat} {oi : Oper} {v : Value} {fuel : Nat} {listed : Array Bool} {a : Act} {w : World} (hi : ops[i]? = some oi) (hy : ∀ w, S w → (execOp a.eval oi).run P w = .ok (.value v) w) (hS : S w) (h : wpAnyH P md ops Q S fuel (listed.setIfInBounds i true) (a.put oi.dst v) w) (hs : Region.noSelect ops = true := by kernel_rfl) (hf : Region.free md ops listed i = true := by kernel_rfl) (hr : (Region.ready md ops listed).contains i = true := by kernel_rfl) (hw : Region.wanted oi (yielded ops a.tmps) = true := by rfl) (hQ : ∀ c a w, Q (.panic c) (a.put oi.dst v) w → Q (.panic c) a w := by exact fun _ _ _ h => h) : wpAnyH P md ops Q S (fuel + 1) listed a w :=
  wpAnyH_take hi hs hf hr hQ (Or.inl ⟨hw, hy⟩) hS h
end Go.Proofs.YtgflalfiopnmnaaGreatDoor
