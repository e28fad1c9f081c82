import Derived.Test.YtgflalfiopnmnabVlTp
namespace Go.Proofs.Ytgflalfiopnmnab
open Go.RowKit Vl

/-- A value in four cells. -/
def VAt (w : World) (b o : Nat) (v : V) : Prop := ValAt w b o v.k v.n v.s v.a
theorem VAt.below {w w' : World} {b o : Nat} {v : V} (h : VAt w b o v) (hb : Below w.heap.size w w') : VAt w' b o v := ValAt.below h hb

/-- A slice of pairs: L keys and values. -/
structure PairsAt (w : World) (pa : Option Addr) (L B O : Nat) (K X : Nat → V) : Prop where
  top : 0 < L → pa = some ⟨B, O, none⟩
  key : ∀ c, c < L → VAt w B (O + c * 8) (K c)
  val : ∀ c, c < L → VAt w B (O + c * 8 + 4) (X c)
theorem PairsAt.below {w w' : World} {pa : Option Addr} {L B O : Nat} {K X : Nat → V} (h : PairsAt w pa L B O K X) (hb : Below w.heap.size w w') : PairsAt w' pa L B O K X :=
  ⟨h.top, fun c hc => (h.key c hc).below hb, fun c hc => (h.val c hc).below hb⟩

/-- A slice of tables. -/
structure TabsAt (w : World) (ta : Option Addr) (n TB TO : Nat) (A : Nat → Option Addr) (L C RB RO : Nat → Nat) (K X : Nat → Nat → V) : Prop where
  top : 0 < n → ta = some ⟨TB, TO, none⟩
  tab : ∀ r, r < n → w.cell? ⟨TB, TO + r, none⟩ = some (.slice (A r) (L r) (C r))
  row : ∀ r, r < n → PairsAt w (A r) (L r) (RB r) (RO r) (K r) (X r)
theorem TabsAt.below {w w' : World} {ta : Option Addr} {n TB TO : Nat} {A : Nat → Option Addr} {L C RB RO : Nat → Nat} {K X : Nat → Nat → V} (h : TabsAt w ta n TB TO A L C RB RO K X) (hb : Below w.heap.size w w') : TabsAt w' ta n TB TO A L C RB RO K X :=
  ⟨h.top, fun r hr => (hb.cell (p := ⟨TB, TO + r, none⟩) (World.block_lt_of_cell? _ _ (h.tab r hr))).trans (h.tab r hr), fun r hr => (h.row r hr).below hb⟩

/-- The eight cells of a pair, written out. -/
theorem PairsAt.cells {w : World} {pa : Option Addr} {L B O : Nat} {K X : Nat → V} (h : PairsAt w pa L B O K X) {c : Nat} (hc : c < L) :
    (w.cell? ⟨B, O + c * 8, none⟩ = some (.int .i64 (K c).k) ∧ w.cell? ⟨B, O + c * 8 + 1, none⟩ = some (.int .i64 (K c).n) ∧ w.cell? ⟨B, O + c * 8 + 2, none⟩ = some (.string (K c).s) ∧ w.cell? ⟨B, O + c * 8 + 3, none⟩ = some (.int .i64 (K c).a)) ∧
    (w.cell? ⟨B, O + c * 8 + 4, none⟩ = some (.int .i64 (X c).k) ∧ w.cell? ⟨B, O + c * 8 + 5, none⟩ = some (.int .i64 (X c).n) ∧ w.cell? ⟨B, O + c * 8 + 6, none⟩ = some (.string (X c).s) ∧ w.cell? ⟨B, O + c * 8 + 7, none⟩ = some (.int .i64 (X c).a)) := ⟨h.key c hc, h.val c hc⟩

set_option maxHeartbeats 400000 in
/-- 'szPair'. -/
theorem szPair_any (u v : V) (k : Int) (w : World) (hk0 : 0 ≤ k) (hk1 : k ≤ 1048576) (hu : u.s.size ≤ 9223372036854775807) (hv : v.s.size ≤ 9223372036854775807) :
    Calls Try.prog 114 #[.agg #[.int .i64 u.k, .int .i64 u.n, .string u.s, .int .i64 u.a, .int .i64 v.k, .int .i64 v.n, .string v.s, .int .i64 v.a], .int .i64 k] w fun e w' => (∃ q : Int, e = .returned (.int .i64 q) ∧ q ≤ k ∧ (0 ≤ q → u.s.size ≤ 1048576 ∧ v.s.size ≤ 1048576)) ∧ Below w.heap.size w w' := by
  have hb0 : Hid (Below w.heap.size w (w.alloc (Obj.cells #[.int .i64 u.k, .int .i64 u.n, .string u.s, .int .i64 u.a, .int .i64 v.k, .int .i64 v.n, .string v.s, .int .i64 v.a] 191))) := (Below.refl _ _).alloc (Nat.le_refl _) _
  have hc : ∀ w', Below (w.alloc (Obj.cells #[.int .i64 u.k, .int .i64 u.n, .string u.s, .int .i64 u.a, .int .i64 v.k, .int .i64 v.n, .string v.s, .int .i64 v.a] 191)).heap.size (w.alloc (Obj.cells #[.int .i64 u.k, .int .i64 u.n, .string u.s, .int .i64 u.a, .int .i64 v.k, .int .i64 v.n, .string v.s, .int .i64 v.a] 191)) w' →
      w'.cell? ⟨w.heap.size, 4, none⟩ = some (.int .i64 v.k) ∧ w'.cell? ⟨w.heap.size, 5, none⟩ = some (.int .i64 v.n) ∧ w'.cell? ⟨w.heap.size, 6, none⟩ = some (.string v.s) ∧ w'.cell? ⟨w.heap.size, 7, none⟩ = some (.int .i64 v.a) := fun w' h => by
    refine ⟨?_, ?_, ?_, ?_⟩ <;> (rw [h.cell (by simp)]; simp [World.cell?_alloc_new])
  go_enter Try.func114, Try.ntmps114
  go_wp2_with fail
  refine (szVal_any u k _ hk0 hk1 hu).mono ?_
  rintro e w1 ⟨rfl, hb1⟩
  obtain ⟨c4, c5, c6, c7⟩ := hc w1 hb1
  have HW1 : Hid (Below w.heap.size w w1) := grw hb0.out hb1
  clear hc hb1 hb0
  by_cases h1 : k < u.s.size
  · rw [if_pos h1]
    go_wp2
    go_ret
    exact ⟨⟨_, rfl, by omega, by omega⟩, HW1.out⟩
  · rw [if_neg h1]
    have hn : ¬ k - u.s.size < 0 := by omega
    go_wp2_with fail
    refine (szVal_any v _ _ (by omega) (by omega) hv).mono ?_
    rintro e w2 ⟨rfl, hb2⟩
    have HW2 : Hid (Below w.heap.size w w2) := grw HW1.out hb2
    clear hb2 HW1 c4 c5 c6 c7
    by_cases h2 : k - u.s.size < v.s.size
    · rw [if_pos h2]
      go_wp2
      go_ret
      exact ⟨⟨_, rfl, by omega, by omega⟩, HW2.out⟩
    · rw [if_neg h2]
      have hn2 : ¬ k - u.s.size - v.s.size < 0 := by omega
      go_wp2
      go_ret
      exact ⟨⟨_, rfl, by omega, by omega⟩, HW2.out⟩

end Go.Proofs.Ytgflalfiopnmnab
