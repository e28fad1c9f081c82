import Derived.Test.YtgflalfiopnmnaaGrTo2a
namespace Go.Proofs.Ytgflalfiopnmnaa
open Go.RowKit Vl

theorem cells5 {w : World} {B : Nat} {a b c d e : Value} {t : TypeId} (H : w.heap[B]? = some (.cells #[a, b, c, d, e] t (0, 0))) :
    w.cell? ⟨B, 0, none⟩ = some a ∧ w.cell? ⟨B, 1, none⟩ = some b ∧ w.cell? ⟨B, 2, none⟩ = some c ∧ w.cell? ⟨B, 3, none⟩ = some d ∧ w.cell? ⟨B, 4, none⟩ = some e ∧ ∀ i, w.frozen? ⟨B, i, none⟩ = false := by
  refine ⟨?_, ?_, ?_, ?_, ?_, fun i => ?_⟩ <;> simp [World.cell?, World.frozen?, H]
theorem put5lo {w : World} {B : Nat} {a b c d e : Value} {t : TypeId} (H : w.heap[B]? = some (.cells #[a, b, c, d, e] t (0, 0))) (a' b' c' d' : Value) :
    ((((w.setCell ⟨B, 0, none⟩ a').setCell ⟨B, 1, none⟩ b').setCell ⟨B, 2, none⟩ c').setCell ⟨B, 3, none⟩ d').heap[B]? = some (.cells #[a', b', c', d', e] t (0, 0)) := by
  simp [World.setCell, Array.getElem?_modify, H]
theorem put5hi {w : World} {B : Nat} {a b c d e : Value} {t : TypeId} (H : w.heap[B]? = some (.cells #[a, b, c, d, e] t (0, 0))) (e' : Value) :
    (w.setCell ⟨B, 4, none⟩ e').heap[B]? = some (.cells #[a, b, c, d, e'] t (0, 0)) := by
  simp [World.setCell, Array.getElem?_modify, H]

/-- Tables as a copy leaves them. -/
theorem Copied.tabs {w0 w : World} {n : Nat} {G L : Nat → Nat} {K X : Nat → Nat → V} {B : Nat} (h : Copied w0 w n G L K X) (hr : w.rowIs B 73 n (fun i => .slice (some ⟨G i, 0, none⟩) (L i) (L i))) :
    TabsAt w (some ⟨B, 0, none⟩) n B 0 (fun r => some ⟨G r, 0, none⟩) L L G (fun _ => 0) K X :=
  ⟨fun _ => rfl, fun r hr' => by rw [Nat.zero_add]; exact hr.cell hr', h.row⟩

end Go.Proofs.Ytgflalfiopnmnaa
