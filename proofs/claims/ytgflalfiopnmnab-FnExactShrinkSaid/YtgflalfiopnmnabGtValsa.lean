import Derived.Test.YtgflalfiopnmnabGrEq2a
import Derived.Test.YtgflalfiopnmnabCnFr
namespace Go.Proofs.Ytgflalfiopnmnab
open Go.RowKit Vl

/-- Cell i of values. -/
def vc (P : Nat → V) (i : Nat) : Value :=
  if i % 4 = 0 then .int .i64 (P (i / 4)).k else if i % 4 = 1 then .int .i64 (P (i / 4)).n else if i % 4 = 2 then .string (P (i / 4)).s else .int .i64 (P (i / 4)).a
theorem vc_at (P : Nat → V) (c : Nat) : vc P (c * 4) = .int .i64 (P c).k ∧ vc P (c * 4 + 1) = .int .i64 (P c).n ∧ vc P (c * 4 + 2) = .string (P c).s ∧ vc P (c * 4 + 3) = .int .i64 (P c).a := by
  have h : ∀ j, j < 4 → (c * 4 + j) % 4 = j ∧ (c * 4 + j) / 4 = c := fun j hj => by omega
  refine ⟨?_, ?_, ?_, ?_⟩
  · have := h 0 (by omega); simp only [Nat.add_zero] at this; simp [vc, this]
  · simp [vc, h 1 (by omega)]
  · simp [vc, h 2 (by omega)]
  · simp [vc, h 3 (by omega)]

/-- A row that holds the first c values. -/
def VRow (w : World) (B n c : Nat) (P : Nat → V) (z : Nat → Value) : Prop := w.rowIs B 29 (n * 4) (fun i => if i < c * 4 then vc P i else z i)
theorem VRow.vals {w : World} {B n c : Nat} {P : Nat → V} {z : Nat → Value} (h : VRow w B n c P z) {pa : Option Addr} (ha : 0 < c → pa = some ⟨B, 0, none⟩) (hc : c ≤ n) : ValsAt w pa c B 0 P := by
  refine ⟨ha, fun j hj => ?_⟩
  have g : ∀ i, i < 4 → w.cell? ⟨B, j * 4 + i, none⟩ = some (vc P (j * 4 + i)) := fun i hi => by
    have := h.cell (i := j * 4 + i) (by omega)
    rw [this, if_pos (by omega)]
  obtain ⟨p0, p1, p2, p3⟩ := vc_at P j
  have g0 := g 0 (by omega); have g1 := g 1 (by omega); have g2 := g 2 (by omega); have g3 := g 3 (by omega)
  simp only [Nat.add_zero] at g0
  rw [p0] at g0; rw [p1] at g1; rw [p2] at g2; rw [p3] at g3
  rw [Nat.zero_add]
  exact ⟨g0, g1, g2, g3⟩
theorem VRow.put {w : World} {B n c : Nat} {P : Nat → V} {z : Nat → Value} (h : VRow w B n c P z) :
    VRow ((((w.setCell ⟨B, c * 4, none⟩ (.int .i64 (P c).k)).setCell ⟨B, c * 4 + 1, none⟩ (.int .i64 (P c).n)).setCell ⟨B, c * 4 + 2, none⟩ (.string (P c).s)).setCell ⟨B, c * 4 + 3, none⟩ (.int .i64 (P c).a)) B n (c + 1) P z := by
  refine (((((show w.rowIs B _ _ _ from h).set (c * 4) _).set (c * 4 + 1) _).set (c * 4 + 2) _).set (c * 4 + 3) _).congr (fun i _ => ?_)
  obtain ⟨p0, p1, p2, p3⟩ := vc_at P c
  by_cases e3 : i = c * 4 + 3
  · subst e3; rw [if_pos rfl, if_pos (by omega), p3]
  rw [if_neg e3]
  by_cases e2 : i = c * 4 + 2
  · subst e2; rw [if_pos rfl, if_pos (by omega), p2]
  rw [if_neg e2]
  by_cases e1 : i = c * 4 + 1
  · subst e1; rw [if_pos rfl, if_pos (by omega), p1]
  rw [if_neg e1]
  by_cases e0 : i = c * 4
  · subst e0; rw [if_pos rfl, if_pos (by omega), p0]
  rw [if_neg e0]
  by_cases hl : i < c * 4
  · rw [if_pos hl, if_pos (by omega)]
  · rw [if_neg hl, if_neg (by omega)]
theorem VRow.below {w w' : World} {B n c : Nat} {P : Nat → V} {z : Nat → Value} (h : VRow w B n c P z) (hb : Below w.heap.size w w') : VRow w' B n c P z := h.of_block (hb.block B h.lt)

theorem infoV : (Try.prog.info? 29).map (fun i => (i.zero, i.size, i.bytes)) = some (some (.agg #[.int .i64 0, .int .i64 0, .string ⟨#[]⟩, .int .i64 0]), 4, 40) := by kernel_rfl

theorem keep4v {w0 w w' : World} {B o B' o' : Nat} {u : V}
    (h : (w.cell? ⟨B, o, none⟩ = some (.int .i64 u.k) ∧ w.cell? ⟨B, o + 1, none⟩ = some (.int .i64 u.n) ∧ w.cell? ⟨B, o + 2, none⟩ = some (.string u.s) ∧ w.cell? ⟨B, o + 3, none⟩ = some (.int .i64 u.a)) ∧ (w.cell? ⟨B', o', none⟩ = some (.int .i64 u.k) ∧ w.cell? ⟨B', o' + 1, none⟩ = some (.int .i64 u.n) ∧ w.cell? ⟨B', o' + 2, none⟩ = some (.string u.s) ∧ w.cell? ⟨B', o' + 3, none⟩ = some (.int .i64 u.a)) ∧ Hid (Below w0.heap.size w0 w)) (hb : Below w.heap.size w w') :
    (w'.cell? ⟨B, o, none⟩ = some (.int .i64 u.k) ∧ w'.cell? ⟨B, o + 1, none⟩ = some (.int .i64 u.n) ∧ w'.cell? ⟨B, o + 2, none⟩ = some (.string u.s) ∧ w'.cell? ⟨B, o + 3, none⟩ = some (.int .i64 u.a)) ∧ (w'.cell? ⟨B', o', none⟩ = some (.int .i64 u.k) ∧ w'.cell? ⟨B', o' + 1, none⟩ = some (.int .i64 u.n) ∧ w'.cell? ⟨B', o' + 2, none⟩ = some (.string u.s) ∧ w'.cell? ⟨B', o' + 3, none⟩ = some (.int .i64 u.a)) ∧ Hid (Below w0.heap.size w0 w') :=
  ⟨ValAt.below (o := o) h.1 hb, ValAt.below (o := o') h.2.1 hb, grw h.2.2.out hb⟩

end Go.Proofs.Ytgflalfiopnmnab
