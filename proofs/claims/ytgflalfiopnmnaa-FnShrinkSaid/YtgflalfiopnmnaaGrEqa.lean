import Derived.Test.YtgflalfiopnmnaaGrTo3a
namespace Go.Proofs.Ytgflalfiopnmnaa
open Go.RowKit Vl

theorem boxes8 (w : World) (u v x y : V) : Below w.heap.size w ((w.alloc (Obj.cells #[.int .i64 u.k, .int .i64 u.n, .string u.s, .int .i64 u.a, .int .i64 v.k, .int .i64 v.n, .string v.s, .int .i64 v.a] 75)).alloc (Obj.cells #[.int .i64 x.k, .int .i64 x.n, .string x.s, .int .i64 x.a, .int .i64 y.k, .int .i64 y.n, .string y.s, .int .i64 y.a] 75)) :=
  ((Below.refl _ _).alloc (Nat.le_refl _) _).alloc (by simp) _

theorem alloc2 (w : World) (a b : Obj) : ((w.alloc a).alloc b).heap[w.heap.size]? = some a ∧ ((w.alloc a).alloc b).heap[w.heap.size + 1]? = some b ∧ ((w.alloc a).alloc b).heap.size = w.heap.size + 2 ∧ Below w.heap.size w ((w.alloc a).alloc b) := by
  have e1 : (w.alloc a).heap.size = w.heap.size + 1 := by simp
  have e2 : ((w.alloc a).alloc b).heap.size = w.heap.size + 2 := by simp
  refine ⟨?_, ?_, e2, ((Below.refl _ _).alloc (Nat.le_refl _) _).alloc (by omega) _⟩
  · rw [Below.heap_alloc _ _ _ (by omega)]; exact heap_alloc_new _ _
  · rw [← e1]; exact heap_alloc_new _ _

theorem keep8 {w0 w w' : World} {B o B' o' : Nat} {u v : V}
    (h : ((w.cell? ⟨B, o, none⟩ = some (.int .i64 u.k) ∧ w.cell? ⟨B, o + 1, none⟩ = some (.int .i64 u.n) ∧ w.cell? ⟨B, o + 2, none⟩ = some (.string u.s) ∧ w.cell? ⟨B, o + 3, none⟩ = some (.int .i64 u.a)) ∧ (w.cell? ⟨B, o + 4, none⟩ = some (.int .i64 v.k) ∧ w.cell? ⟨B, o + 5, none⟩ = some (.int .i64 v.n) ∧ w.cell? ⟨B, o + 6, none⟩ = some (.string v.s) ∧ w.cell? ⟨B, o + 7, none⟩ = some (.int .i64 v.a))) ∧
      ((w.cell? ⟨B', o', none⟩ = some (.int .i64 u.k) ∧ w.cell? ⟨B', o' + 1, none⟩ = some (.int .i64 u.n) ∧ w.cell? ⟨B', o' + 2, none⟩ = some (.string u.s) ∧ w.cell? ⟨B', o' + 3, none⟩ = some (.int .i64 u.a)) ∧ (w.cell? ⟨B', o' + 4, none⟩ = some (.int .i64 v.k) ∧ w.cell? ⟨B', o' + 5, none⟩ = some (.int .i64 v.n) ∧ w.cell? ⟨B', o' + 6, none⟩ = some (.string v.s) ∧ w.cell? ⟨B', o' + 7, none⟩ = some (.int .i64 v.a))) ∧ Hid (Below w0.heap.size w0 w)) (hb : Below w.heap.size w w') :
    ((w'.cell? ⟨B, o, none⟩ = some (.int .i64 u.k) ∧ w'.cell? ⟨B, o + 1, none⟩ = some (.int .i64 u.n) ∧ w'.cell? ⟨B, o + 2, none⟩ = some (.string u.s) ∧ w'.cell? ⟨B, o + 3, none⟩ = some (.int .i64 u.a)) ∧ (w'.cell? ⟨B, o + 4, none⟩ = some (.int .i64 v.k) ∧ w'.cell? ⟨B, o + 5, none⟩ = some (.int .i64 v.n) ∧ w'.cell? ⟨B, o + 6, none⟩ = some (.string v.s) ∧ w'.cell? ⟨B, o + 7, none⟩ = some (.int .i64 v.a))) ∧
      ((w'.cell? ⟨B', o', none⟩ = some (.int .i64 u.k) ∧ w'.cell? ⟨B', o' + 1, none⟩ = some (.int .i64 u.n) ∧ w'.cell? ⟨B', o' + 2, none⟩ = some (.string u.s) ∧ w'.cell? ⟨B', o' + 3, none⟩ = some (.int .i64 u.a)) ∧ (w'.cell? ⟨B', o' + 4, none⟩ = some (.int .i64 v.k) ∧ w'.cell? ⟨B', o' + 5, none⟩ = some (.int .i64 v.n) ∧ w'.cell? ⟨B', o' + 6, none⟩ = some (.string v.s) ∧ w'.cell? ⟨B', o' + 7, none⟩ = some (.int .i64 v.a))) ∧ Hid (Below w0.heap.size w0 w') :=
  ⟨⟨ValAt.below (o := o) h.1.1 hb, ValAt.below (o := o + 4) h.1.2 hb⟩, ⟨ValAt.below (o := o') h.2.1.1 hb, ValAt.below (o := o' + 4) h.2.1.2 hb⟩, grw h.2.2.out hb⟩

end Go.Proofs.Ytgflalfiopnmnaa
