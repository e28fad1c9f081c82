import Derived.Test.YtgflalfiopnmnaaVlOrd
import Derived.Test.YtgflalfiopnmnaaVlSp
namespace Go.Proofs.Ytgflalfiopnmnaa
open Go.RowKit Vl

/-- A value in four cells. -/
def VAt (w : World) (b o : Nat) (v : V) : Prop := ValAt w b o v.k v.n v.s v.a
theorem VAt.below {w w' : World} {b o : Nat} {v : V} (h : VAt w b o v) (hb : Below w.heap.size w w') : VAt w' b o v := ValAt.below h hb

/-- A slice of pairs: L keys and values. -/
structure PairsAt (w : World) (pa : Option Addr) (L B O : Nat) (K X : Nat → V) : Prop where
  top : 0 < L → pa = some ⟨B, O, none⟩
  key : ∀ c, c < L → VAt w B (O + c * 8) (K c)
  val : ∀ c, c < L → VAt w B (O + c * 8 + 4) (X c)
theorem PairsAt.below {w w' : World} {pa : Option Addr} {L B O : Nat} {K X : Nat → V} (h : PairsAt w pa L B O K X) (hb : Below w.heap.size w w') : PairsAt w' pa L B O K X :=
  ⟨h.top, fun c hc => (h.key c hc).below hb, fun c hc => (h.val c hc).below hb⟩

/-- A slice of tables. -/
structure TabsAt (w : World) (ta : Option Addr) (n TB TO : Nat) (A : Nat → Option Addr) (L C RB RO : Nat → Nat) (K X : Nat → Nat → V) : Prop where
  top : 0 < n → ta = some ⟨TB, TO, none⟩
  tab : ∀ r, r < n → w.cell? ⟨TB, TO + r, none⟩ = some (.slice (A r) (L r) (C r))
  row : ∀ r, r < n → PairsAt w (A r) (L r) (RB r) (RO r) (K r) (X r)
theorem TabsAt.below {w w' : World} {ta : Option Addr} {n TB TO : Nat} {A : Nat → Option Addr} {L C RB RO : Nat → Nat} {K X : Nat → Nat → V} (h : TabsAt w ta n TB TO A L C RB RO K X) (hb : Below w.heap.size w w') : TabsAt w' ta n TB TO A L C RB RO K X :=
  ⟨h.top, fun r hr => (hb.cell (p := ⟨TB, TO + r, none⟩) (World.block_lt_of_cell? _ _ (h.tab r hr))).trans (h.tab r hr), fun r hr => (h.row r hr).below hb⟩

/-- The eight cells of a pair, written out. -/
theorem PairsAt.cells {w : World} {pa : Option Addr} {L B O : Nat} {K X : Nat → V} (h : PairsAt w pa L B O K X) {c : Nat} (hc : c < L) :
    (w.cell? ⟨B, O + c * 8, none⟩ = some (.int .i64 (K c).k) ∧ w.cell? ⟨B, O + c * 8 + 1, none⟩ = some (.int .i64 (K c).n) ∧ w.cell? ⟨B, O + c * 8 + 2, none⟩ = some (.string (K c).s) ∧ w.cell? ⟨B, O + c * 8 + 3, none⟩ = some (.int .i64 (K c).a)) ∧
    (w.cell? ⟨B, O + c * 8 + 4, none⟩ = some (.int .i64 (X c).k) ∧ w.cell? ⟨B, O + c * 8 + 5, none⟩ = some (.int .i64 (X c).n) ∧ w.cell? ⟨B, O + c * 8 + 6, none⟩ = some (.string (X c).s) ∧ w.cell? ⟨B, O + c * 8 + 7, none⟩ = some (.int .i64 (X c).a)) := ⟨h.key c hc, h.val c hc⟩

end Go.Proofs.Ytgflalfiopnmnaa
