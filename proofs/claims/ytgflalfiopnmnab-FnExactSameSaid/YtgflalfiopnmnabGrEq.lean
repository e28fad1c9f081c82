import Derived.Test.YtgflalfiopnmnabGrTo3
namespace Go.Proofs.Ytgflalfiopnmnab
open Go.RowKit Vl

theorem boxes8 (w : World) (u v x y : V) : Below w.heap.size w ((w.alloc (Obj.cells #[.int .i64 u.k, .int .i64 u.n, .string u.s, .int .i64 u.a, .int .i64 v.k, .int .i64 v.n, .string v.s, .int .i64 v.a] 63)).alloc (Obj.cells #[.int .i64 x.k, .int .i64 x.n, .string x.s, .int .i64 x.a, .int .i64 y.k, .int .i64 y.n, .string y.s, .int .i64 y.a] 63)) :=
  ((Below.refl _ _).alloc (Nat.le_refl _) _).alloc (by simp) _

set_option maxHeartbeats 1000000 in
/-- 'eqVal' of a value and itself. -/
theorem eqVal_same (u : V) (w : World) :
    Calls Try.prog 28 #[.agg #[.int .i64 u.k, .int .i64 u.n, .string u.s, .int .i64 u.a], .agg #[.int .i64 u.k, .int .i64 u.n, .string u.s, .int .i64 u.a]] w fun e w' => e = .returned (.bool true) ∧ Below w.heap.size w w' := by
  have hb0 : Hid _ := boxes w u u
  have h1 : (u.k != u.k) = false := by simp
  have h2 : (u.n != u.n) = false := by simp
  have h3 : (u.s.toList == u.s.toList) = true := by simp
  have h4 : (u.a != u.a) = false := by simp
  go_enter Try.func28, Try.ntmps28
  go_wp2
  go_ret
  exact ⟨rfl, hb0.out⟩

theorem alloc2 (w : World) (a b : Obj) : ((w.alloc a).alloc b).heap[w.heap.size]? = some a ∧ ((w.alloc a).alloc b).heap[w.heap.size + 1]? = some b ∧ ((w.alloc a).alloc b).heap.size = w.heap.size + 2 ∧ Below w.heap.size w ((w.alloc a).alloc b) := by
  have e1 : (w.alloc a).heap.size = w.heap.size + 1 := by simp
  have e2 : ((w.alloc a).alloc b).heap.size = w.heap.size + 2 := by simp
  refine ⟨?_, ?_, e2, ((Below.refl _ _).alloc (Nat.le_refl _) _).alloc (by omega) _⟩
  · rw [Below.heap_alloc _ _ _ (by omega)]; exact heap_alloc_new _ _
  · rw [← e1]; exact heap_alloc_new _ _

set_option maxHeartbeats 1000000 in
set_option maxRecDepth 100000 in
/-- 'eqPair' of a pair and itself. -/
theorem eqPair_same (u v : V) (w : World) :
    Calls Try.prog 116 #[.agg #[.int .i64 u.k, .int .i64 u.n, .string u.s, .int .i64 u.a, .int .i64 v.k, .int .i64 v.n, .string v.s, .int .i64 v.a], .agg #[.int .i64 u.k, .int .i64 u.n, .string u.s, .int .i64 u.a, .int .i64 v.k, .int .i64 v.n, .string v.s, .int .i64 v.a]] w fun e w' => e = .returned (.bool true) ∧ Below w.heap.size w w' := by
  have A2 : Hid _ := alloc2 w (.cells #[.int .i64 u.k, .int .i64 u.n, .string u.s, .int .i64 u.a, .int .i64 v.k, .int .i64 v.n, .string v.s, .int .i64 v.a] 63) (.cells #[.int .i64 u.k, .int .i64 u.n, .string u.s, .int .i64 u.a, .int .i64 v.k, .int .i64 v.n, .string v.s, .int .i64 v.a] 63)
  go_enter Try.func116, Try.ntmps116
  go_wp2_with fail
  refine (eqVal_same u _).mono ?_
  rintro e w1 ⟨rfl, hb1⟩
  obtain ⟨p0, p1, ps, pb⟩ := A2.out
  have P0 : Hid (w1.heap[w.heap.size]? = some (.cells #[.int .i64 u.k, .int .i64 u.n, .string u.s, .int .i64 u.a, .int .i64 v.k, .int .i64 v.n, .string v.s, .int .i64 v.a] 63 (0, 0))) := (hb1.block _ (by omega)).trans p0
  have P1 : Hid (w1.heap[w.heap.size + 1]? = some (.cells #[.int .i64 u.k, .int .i64 u.n, .string u.s, .int .i64 u.a, .int .i64 v.k, .int .i64 v.n, .string v.s, .int .i64 v.a] 63 (0, 0))) := (hb1.block _ (by omega)).trans p1
  have HW1 : Hid (Below w.heap.size w w1) := grw pb hb1
  clear hb1 p0 p1 ps pb A2
  obtain ⟨c0, c1, c2, c3, c4, c5, c6, c7, _⟩ := cells8 P0.out
  obtain ⟨d0, d1, d2, d3, d4, d5, d6, d7, _⟩ := cells8 P1.out
  go_wp2_with fail
  refine (eqVal_same v _).mono ?_
  rintro e w2 ⟨rfl, hb2⟩
  have HW2 : Hid (Below w.heap.size w w2) := grw HW1.out hb2
  clear hb2 P0 P1 HW1 c0 c1 c2 c3 c4 c5 c6 c7 d0 d1 d2 d3 d4 d5 d6 d7
  go_wp2
  go_ret
  exact ⟨rfl, HW2.out⟩

theorem keep8 {w0 w w' : World} {B o B' o' : Nat} {u v : V}
    (h : ((w.cell? ⟨B, o, none⟩ = some (.int .i64 u.k) ∧ w.cell? ⟨B, o + 1, none⟩ = some (.int .i64 u.n) ∧ w.cell? ⟨B, o + 2, none⟩ = some (.string u.s) ∧ w.cell? ⟨B, o + 3, none⟩ = some (.int .i64 u.a)) ∧ (w.cell? ⟨B, o + 4, none⟩ = some (.int .i64 v.k) ∧ w.cell? ⟨B, o + 5, none⟩ = some (.int .i64 v.n) ∧ w.cell? ⟨B, o + 6, none⟩ = some (.string v.s) ∧ w.cell? ⟨B, o + 7, none⟩ = some (.int .i64 v.a))) ∧
      ((w.cell? ⟨B', o', none⟩ = some (.int .i64 u.k) ∧ w.cell? ⟨B', o' + 1, none⟩ = some (.int .i64 u.n) ∧ w.cell? ⟨B', o' + 2, none⟩ = some (.string u.s) ∧ w.cell? ⟨B', o' + 3, none⟩ = some (.int .i64 u.a)) ∧ (w.cell? ⟨B', o' + 4, none⟩ = some (.int .i64 v.k) ∧ w.cell? ⟨B', o' + 5, none⟩ = some (.int .i64 v.n) ∧ w.cell? ⟨B', o' + 6, none⟩ = some (.string v.s) ∧ w.cell? ⟨B', o' + 7, none⟩ = some (.int .i64 v.a))) ∧ Hid (Below w0.heap.size w0 w)) (hb : Below w.heap.size w w') :
    ((w'.cell? ⟨B, o, none⟩ = some (.int .i64 u.k) ∧ w'.cell? ⟨B, o + 1, none⟩ = some (.int .i64 u.n) ∧ w'.cell? ⟨B, o + 2, none⟩ = some (.string u.s) ∧ w'.cell? ⟨B, o + 3, none⟩ = some (.int .i64 u.a)) ∧ (w'.cell? ⟨B, o + 4, none⟩ = some (.int .i64 v.k) ∧ w'.cell? ⟨B, o + 5, none⟩ = some (.int .i64 v.n) ∧ w'.cell? ⟨B, o + 6, none⟩ = some (.string v.s) ∧ w'.cell? ⟨B, o + 7, none⟩ = some (.int .i64 v.a))) ∧
      ((w'.cell? ⟨B', o', none⟩ = some (.int .i64 u.k) ∧ w'.cell? ⟨B', o' + 1, none⟩ = some (.int .i64 u.n) ∧ w'.cell? ⟨B', o' + 2, none⟩ = some (.string u.s) ∧ w'.cell? ⟨B', o' + 3, none⟩ = some (.int .i64 u.a)) ∧ (w'.cell? ⟨B', o' + 4, none⟩ = some (.int .i64 v.k) ∧ w'.cell? ⟨B', o' + 5, none⟩ = some (.int .i64 v.n) ∧ w'.cell? ⟨B', o' + 6, none⟩ = some (.string v.s) ∧ w'.cell? ⟨B', o' + 7, none⟩ = some (.int .i64 v.a))) ∧ Hid (Below w0.heap.size w0 w') :=
  ⟨⟨ValAt.below (o := o) h.1.1 hb, ValAt.below (o := o + 4) h.1.2 hb⟩, ⟨ValAt.below (o := o') h.2.1.1 hb, ValAt.below (o := o' + 4) h.2.1.2 hb⟩, grw h.2.2.out hb⟩

set_option maxHeartbeats 1000000 in
set_option maxRecDepth 100000 in
/-- 'eqPairS' of the same pairs. -/
theorem eqPairS_same (pa pa' : Option Addr) (L C C' B O B' O' : Nat) (K X : Nat → V) (w : World) (hL : L ≤ 1048576) (HP : Hid (PairsAt w pa L B O K X)) (HP' : Hid (PairsAt w pa' L B' O' K X)) :
    Calls Try.prog 103 #[.slice pa L C, .slice pa' L C'] w fun e w' => e = .returned (.bool true) ∧ Below w.heap.size w w' := by
  have hne : ((L : Int) != (L : Int)) = false := by simp
  go_enter Try.func103, Try.ntmps103
  go_wp2
  clear hne
  go_loopw [5] (fun i wr => ∃ c : Nat, c ≤ L ∧ i = .int .i64 c ∧ Hid (Below w.heap.size w wr)) (fun i _ => L - (intOf i).toNat)
  case atStart => exact ⟨0, Nat.zero_le _, rfl, Below.refl _ _⟩
  case round =>
    obtain ⟨c, hc, rfl, HW⟩ := hrel
    by_cases hlt : c < L
    · obtain rfl := HP.out.top (by omega)
      obtain rfl := HP'.out.top (by omega)
      have hh := (HP.out.below HW.out).cells hlt
      have hh' := (HP'.out.below HW.out).cells hlt
      have HH : Hid _ := hh
      have HH' : Hid _ := hh'
      obtain ⟨⟨k0, k1, k2, k3⟩, ⟨x0, x1, x2, x3⟩⟩ := hh
      obtain ⟨⟨l0, l1, l2, l3⟩, ⟨y0, y1, y2, y3⟩⟩ := hh'
      go_wp2
      go_region_held3 (fun w' => ((w'.cell? ⟨B, O + c * 8, none⟩ = some (.int .i64 (K c).k) ∧ w'.cell? ⟨B, O + c * 8 + 1, none⟩ = some (.int .i64 (K c).n) ∧ w'.cell? ⟨B, O + c * 8 + 2, none⟩ = some (.string (K c).s) ∧ w'.cell? ⟨B, O + c * 8 + 3, none⟩ = some (.int .i64 (K c).a)) ∧ (w'.cell? ⟨B, O + c * 8 + 4, none⟩ = some (.int .i64 (X c).k) ∧ w'.cell? ⟨B, O + c * 8 + 5, none⟩ = some (.int .i64 (X c).n) ∧ w'.cell? ⟨B, O + c * 8 + 6, none⟩ = some (.string (X c).s) ∧ w'.cell? ⟨B, O + c * 8 + 7, none⟩ = some (.int .i64 (X c).a))) ∧
          ((w'.cell? ⟨B', O' + c * 8, none⟩ = some (.int .i64 (K c).k) ∧ w'.cell? ⟨B', O' + c * 8 + 1, none⟩ = some (.int .i64 (K c).n) ∧ w'.cell? ⟨B', O' + c * 8 + 2, none⟩ = some (.string (K c).s) ∧ w'.cell? ⟨B', O' + c * 8 + 3, none⟩ = some (.int .i64 (K c).a)) ∧ (w'.cell? ⟨B', O' + c * 8 + 4, none⟩ = some (.int .i64 (X c).k) ∧ w'.cell? ⟨B', O' + c * 8 + 5, none⟩ = some (.int .i64 (X c).n) ∧ w'.cell? ⟨B', O' + c * 8 + 6, none⟩ = some (.string (X c).s) ∧ w'.cell? ⟨B', O' + c * 8 + 7, none⟩ = some (.int .i64 (X c).a))) ∧ Hid (Below w.heap.size w w'))
        (first | exact keep8 ‹_ ∧ _› hb1 | exact ⟨HH.out, HH'.out, HW.out.drew⟩)
        ((go_at_call 116; refine (eqPair_same (K c) (X c) _).mono ?_; rintro e w1 ⟨rfl, hb1⟩))
      rename_i hS
      have HW1 := hS.2.2
      clear hS hb1 HH HH' k0 k1 k2 k3 x0 x1 x2 x3 l0 l1 l2 l3 y0 y1 y2 y3 HW
      go_wp2
      go_roundw
      case rel => exact ⟨c + 1, by omega, by go_num, HW1⟩
      case measure => simp [intOf]; omega
    · go_wp2
      go_ret
      exact ⟨rfl, HW.out⟩

end Go.Proofs.Ytgflalfiopnmnab
