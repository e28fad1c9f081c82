import Derived.Test.YtgflalfiopnmnaaLkFill
namespace Go.Proofs.Ytgflalfiopnmnaa
open Go.RowKit Vl

theorem Filled.only {w w' : World} {T M base : Nat} {i : Int} {Tt : Nat → Nat} {K X : Nat → V} {c : Nat} {P : Nat → Prop} (h : Filled w T M base i Tt K X c) (ho : Only P w w') (h1 : ¬ P T) (h2 : ¬ P M) (h3 : ∀ g, base ≤ g → ¬ P g) : Filled w' T M base i Tt K X c := by
  obtain ⟨ord, a1, a2⟩ := h.tab
  exact ⟨⟨ord, (ho.block T (blk_lt a1) h1).trans a1, ho.owns a2 (fun g hg _ => h3 g hg)⟩, h.map.same (ho.block M h.map.lt h2)⟩

/-- Where the tables are laid, from b on. -/
abbrev tT (b j : Nat) : Nat := b + 4 + 2 * j
abbrev tM (b j : Nat) : Nat := b + 3 + 2 * j

/-- The first c tables are there, and empty. -/
structure Laid (w : World) (b n c : Nat) : Prop where
  row : w.rowIs (b + 2) 63 n (fun j => if j < c then .pointer (some ⟨tT b j, 0, none⟩) else .pointer none)
  tab : ∀ j, j < c → TabB w (tT b j) (tM b j) j (.slice none 0 0) ∧ MapIs w (tM b j) []
  size : w.heap.size = b + 3 + 2 * c

theorem Try.info63 : (Try.prog.info? 63).map (fun i => (i.zero, i.size, i.bytes)) = some (some (.pointer none), 1, 8) := by kernel_rfl

theorem Laid.next {w : World} {b n c : Nat} (h : Laid w b n c) (hc : c < n) :
    Laid (((w.alloc (.map #[] 0)).alloc (.cells #[.int .i64 c, .map (some (tM b c)), .slice none 0 0] 66)).setCell ⟨b + 2, c, none⟩ (.pointer (some ⟨tT b c, 0, none⟩))) b n (c + 1) := by
  have A := alloc2 w (.map #[] 0) (.cells #[.int .i64 c, .map (some (tM b c)), .slice none 0 0] 66)
  have hs := h.size
  refine ⟨?_, fun j hj => ?_, ?_⟩
  · refine (((h.row.alloc _).alloc _).set c _).congr (fun i _ => ?_)
    by_cases e : i = c
    · subst e; rw [if_pos rfl, if_pos (by omega)]
    · rw [if_neg e]
      by_cases hl : i < c
      · rw [if_pos hl, if_pos (by omega)]
      · rw [if_neg hl, if_neg (by omega)]
  · by_cases e : j = c
    · subst e
      constructor
      · unfold TabB
        rw [Below.heap_setCell _ _ _ _ (show tT b j ≠ b + 2 by unfold tT; omega)]
        have := A.2.1
        rw [hs] at this
        rw [show tT b j = b + 3 + 2 * j + 1 by unfold tT; omega]
        exact this
      · refine MapIs.same (w := (w.alloc (.map #[] 0)).alloc (.cells #[.int .i64 j, .map (some (tM b j)), .slice none 0 0] 66)) ⟨#[], 0, ?_, rfl⟩ (Below.heap_setCell _ _ _ _ (show tM b j ≠ b + 2 by unfold tM; omega))
        have := A.1
        rw [hs] at this
        exact this
    · obtain ⟨h1, h2⟩ := h.tab j (by omega)
      have k1 : ∀ k, k < w.heap.size → k ≠ b + 2 → (((w.alloc (.map #[] 0)).alloc (.cells #[.int .i64 c, .map (some (tM b c)), .slice none 0 0] 66)).setCell ⟨b + 2, c, none⟩ (.pointer (some ⟨tT b c, 0, none⟩))).heap[k]? = w.heap[k]? := fun k hk hne => by
        rw [Below.heap_setCell _ _ _ _ (show k ≠ b + 2 from hne), A.2.2.2.block k hk]
      exact ⟨(k1 _ (blk_lt h1) (by unfold tT; omega)).trans h1, h2.same (k1 _ h2.lt (by unfold tM; omega))⟩
  · simp [World.setCell, hs]; omega

end Go.Proofs.Ytgflalfiopnmnaa
