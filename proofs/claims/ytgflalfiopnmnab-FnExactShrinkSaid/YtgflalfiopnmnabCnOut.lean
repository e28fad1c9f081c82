import Derived.Test.YtgflalfiopnmnabCnVal
namespace Go.Proofs.Ytgflalfiopnmnab
open Go.RowKit Vl

/-- The cells of c pairs. -/
def pairCells (K X : Nat → V) (c : Nat) : List Value := (List.range c).flatMap fun j => [.int .i64 (K j).k, .int .i64 (K j).n, .string (K j).s, .int .i64 (K j).a, .int .i64 (X j).k, .int .i64 (X j).n, .string (X j).s, .int .i64 (X j).a]
theorem pairCells_succ (K X : Nat → V) (c : Nat) : pairCells K X (c + 1) = pairCells K X c ++ [.int .i64 (K c).k, .int .i64 (K c).n, .string (K c).s, .int .i64 (K c).a, .int .i64 (X c).k, .int .i64 (X c).n, .string (X c).s, .int .i64 (X c).a] := by
  simp [pairCells, List.range_succ]
theorem pairCells_len (K X : Nat → V) (c : Nat) : (pairCells K X c).length = c * 8 := by
  induction c with
  | zero => rfl
  | succ c ih => rw [pairCells_succ, List.length_append, ih]; simp; omega
theorem pairCells_at (K X : Nat → V) (c j i : Nat) (hj : j < c) (hi : i < 8) : (pairCells K X c)[j * 8 + i]? = [Value.int .i64 (K j).k, .int .i64 (K j).n, .string (K j).s, .int .i64 (K j).a, .int .i64 (X j).k, .int .i64 (X j).n, .string (X j).s, .int .i64 (X j).a][i]? := by
  induction c with
  | zero => omega
  | succ c ih =>
    rw [pairCells_succ]
    by_cases e : j = c
    · subst e
      rw [List.getElem?_append_right (by rw [pairCells_len]; omega), pairCells_len, show j * 8 + i - j * 8 = i by omega]
    · rw [List.getElem?_append_left (by rw [pairCells_len]; omega)]
      exact ih (by omega)
theorem pairCells_congr {K X K' X' : Nat → V} {c : Nat} (h : ∀ j, j < c → K j = K' j ∧ X j = X' j) : pairCells K X c = pairCells K' X' c := by
  induction c with
  | zero => rfl
  | succ c ih => rw [pairCells_succ, pairCells_succ, ih (fun j hj => h j (by omega)), (h c (by omega)).1, (h c (by omega)).2]

/-- Pairs that are owned, as they are read. -/
theorem owns_pairs {w : World} {base L : Nat} {v : Value} {K X : Nat → V} (h : w.ownsRow base 63 8 v L (pairCells K X L)) : v = .slice (slA v) L (slC v) ∧ PairsAt w (slA v) L (slB v) 0 K X := by
  have hform : v = .slice (slA v) L (slC v) := by
    obtain ⟨oa, oc, rfl, _⟩ := owns_form h
    rfl
  refine ⟨hform, ?_⟩
  have top : ∀ j i, j < L → i < 8 → ∃ g cap, v = .slice (some ⟨g, 0, none⟩) L cap ∧ w.cell? ⟨g, j * 8 + i, none⟩ = [Value.int .i64 (K j).k, .int .i64 (K j).n, .string (K j).s, .int .i64 (K j).a, .int .i64 (X j).k, .int .i64 (X j).n, .string (X j).s, .int .i64 (X j).a][i]? := by
    intro j i hj hi
    have e := pairCells_at K X L j i hj hi
    obtain ⟨y, hy⟩ : ∃ y, [Value.int .i64 (K j).k, .int .i64 (K j).n, .string (K j).s, .int .i64 (K j).a, .int .i64 (X j).k, .int .i64 (X j).n, .string (X j).s, .int .i64 (X j).a][i]? = some y := ⟨_, List.getElem?_eq_getElem (by simpa using hi)⟩
    rw [hy] at e ⊢
    exact owns_cell h e
  have cell : ∀ j i, j < L → i < 8 → w.cell? ⟨slB v, j * 8 + i, none⟩ = [Value.int .i64 (K j).k, .int .i64 (K j).n, .string (K j).s, .int .i64 (K j).a, .int .i64 (X j).k, .int .i64 (X j).n, .string (X j).s, .int .i64 (X j).a][i]? := by
    intro j i hj hi
    obtain ⟨g, cap, rfl, hc⟩ := top j i hj hi
    exact hc
  refine ⟨fun h0 => ?_, fun j hj => ?_, fun j hj => ?_⟩
  · obtain ⟨g, cap, rfl, _⟩ := top 0 0 h0 (by omega)
    rfl
  · rw [Nat.zero_add]
    exact ⟨cell j 0 hj (by omega), cell j 1 hj (by omega), cell j 2 hj (by omega), cell j 3 hj (by omega)⟩
  · rw [Nat.zero_add]
    exact ⟨cell j 4 hj (by omega), cell j 5 hj (by omega), cell j 6 hj (by omega), cell j 7 hj (by omega)⟩

/-- Tables that a call itself makes, one behind the other: table j is the slice PV j. -/
structure OTab (w : World) (base : Nat) (tv : Value) (i : Nat) (PV : Nat → Value) (L : Nat → Nat) (K X : Nat → Nat → V) : Prop where
  own : w.ownsRow base 61 1 tv i ((List.range i).map PV)
  rows : ∀ j, j < i → w.ownsRow base 63 8 (PV j) (L j) (pairCells (K j) (X j) (L j))
  dis : ∀ j k, j < k → k < i → ∀ g, (PV j).ownBlock = some g → (PV k).ownBlock ≠ some g

theorem OTab.nil (w : World) (base : Nat) (PV : Nat → Value) (L : Nat → Nat) (K X : Nat → Nat → V) : OTab w base (.slice none 0 0) 0 PV L K X := ⟨World.ownsRow_nil _ _ _ _, fun _ hj => absurd hj (Nat.not_lt_zero _), fun _ _ _ hk => absurd hk (Nat.not_lt_zero _)⟩
theorem OTab.only {w w' : World} {base : Nat} {tv : Value} {i : Nat} {PV : Nat → Value} {L : Nat → Nat} {K X : Nat → Nat → V} {P : Nat → Prop} (h : OTab w base tv i PV L K X) (ho : Only P w w') (hP : ∀ k, base ≤ k → ¬ P k) : OTab w' base tv i PV L K X :=
  ⟨ho.owns h.own (fun g hg _ => hP g hg), fun j hj => ho.owns (h.rows j hj) (fun g hg _ => hP g hg), h.dis⟩
theorem OTab.below {w w' : World} {base : Nat} {tv : Value} {i : Nat} {PV : Nat → Value} {L : Nat → Nat} {K X : Nat → Nat → V} (h : OTab w base tv i PV L K X) (hb : Below w.heap.size w w') : OTab w' base tv i PV L K X := h.only (Only.below (P := fun _ => False) hb) (fun _ _ h => h)

theorem OTab.onlyB {w w' : World} {base : Nat} {tv : Value} {i : Nat} {PV : Nat → Value} {L : Nat → Nat} {K X : Nat → Nat → V} {P : Nat → Prop} (h : OTab w base tv i PV L K X) (ho : Only P w w') (h1 : ∀ g, tv.ownBlock = some g → ¬ P g) (h2 : ∀ j, j < i → ∀ g, (PV j).ownBlock = some g → ¬ P g) : OTab w' base tv i PV L K X :=
  ⟨ho.ownsB h.own h1, fun j hj => ho.ownsB (h.rows j hj) (h2 j hj), h.dis⟩
/-- One table more: its pairs lie in a row of their own, of this call's making since 'fresh'. -/
theorem OTab.more {w w1 : World} {base : Nat} {tv tv' pv : Value} {i : Nat} {PV : Nat → Value} {L : Nat → Nat} {K X : Nat → Nat → V} (h : OTab w base tv i PV L K X) {l : Nat} {k x : Nat → V} (hp : w.ownsRow base 63 8 pv l (pairCells k x l)) (hd : ∀ j, j < i → ∀ g, (PV j).ownBlock = some g → pv.ownBlock ≠ some g) (o : Obj) (hbz : base ≤ w.heap.size)
    (ho : w1.ownsRow base 61 1 tv' (i + 1) (((List.range i).map PV) ++ [pv])) (hg : (w.alloc o).grownBy w1 tv.ownBlock) :
    OTab w1 base tv' (i + 1) (fun j => if j = i then pv else PV j) (fun j => if j = i then l else L j) (fun j => if j = i then k else K j) (fun j => if j = i then x else X j) ∧ Below base w w1 := by
  have keep : ∀ v n xs, w.ownsRow base 63 8 v n xs → w1.ownsRow base 63 8 v n xs := fun v n xs hr => by
    refine ⟨hr.1, ?_⟩
    rcases hr.2 with h2 | ⟨g, cap, cur, hv, hge, hh, r⟩
    · exact Or.inl h2
    · refine Or.inr ⟨g, cap, cur, hv, hge, ?_, r⟩
      rw [hg.block g (by have := lt_of_block hh; simp; omega) (fun e => ?_), Below.heap_alloc _ _ _ (lt_of_block hh)]
      · exact hh
      · obtain ⟨_, cur', h'⟩ := owns_type h.own e.symm
        rw [hh] at h'
        cases h'
  refine ⟨⟨?_, fun j hj => ?_, fun a b hab hb g hga => ?_⟩, ?_⟩
  · have e : ((List.range (i + 1)).map fun j => if j = i then pv else PV j) = ((List.range i).map PV) ++ [pv] := by
      rw [List.range_succ, List.map_append]
      congr 1
      · apply List.map_congr_left
        intro j hj
        have := List.mem_range.1 hj
        simp [show ¬ j = i by omega]
      · simp
    rw [e]; exact ho
  · by_cases e : j = i
    · subst e; simp only [if_true]; exact keep _ _ _ hp
    · simp only [e, if_false]; exact keep _ _ _ (h.rows j (by omega))
  · simp only [show ¬ a = i by omega, if_false] at hga
    by_cases e : b = i
    · subst e; simp only [if_true]; exact hd a (by omega) g hga
    · simp only [e, if_false]; exact h.dis a b hab (by omega) g hga
  · refine ⟨hg.os, hg.tape, hg.output, by have := hg.size; simp at this; omega, fun k hk => ?_⟩
    rw [hg.block k (by simp; omega) (fun e => ?_), Below.heap_alloc _ _ _ (by omega)]
    have := (owns_type h.own e.symm).1
    omega

theorem OTab.congr {w : World} {base : Nat} {tv : Value} {i : Nat} {PV : Nat → Value} {L L' : Nat → Nat} {K X K' X' : Nat → Nat → V} (h : OTab w base tv i PV L K X) (hL : ∀ j, j < i → L j = L' j) (hK : ∀ j, j < i → ∀ c, c < L' j → K j c = K' j c ∧ X j c = X' j c) : OTab w base tv i PV L' K' X' := by
  refine ⟨h.own, fun j hj => ?_, h.dis⟩
  have := h.rows j hj
  rw [hL j hj, pairCells_congr (fun c hc => hK j hj c hc)] at this
  exact this

/-- What was made, as it is read. -/
theorem OTab.tabs {w : World} {base : Nat} {tv : Value} {i : Nat} {PV : Nat → Value} {L : Nat → Nat} {K X : Nat → Nat → V} (h : OTab w base tv i PV L K X) : tv = .slice (slA tv) i (slC tv) ∧ TabsAt w (slA tv) i (slB tv) 0 (fun j => slA (PV j)) L (fun j => slC (PV j)) (fun j => slB (PV j)) (fun _ => 0) K X := by
  refine ⟨by obtain ⟨oa, oc, rfl, _⟩ := owns_form h.own; rfl, fun h0 => ?_, fun r hr => ?_, fun r hr => (owns_pairs (h.rows r hr)).2⟩
  · obtain ⟨g, cap, rfl, _⟩ := owns_cell h.own (k := 0) (y := PV 0) (by simp [h0])
    rfl
  · obtain ⟨g, cap, rfl, hc⟩ := owns_cell h.own (k := r) (y := PV r) (by simp [hr])
    rw [Nat.zero_add]
    rw [← (owns_pairs (h.rows r hr)).1]
    exact hc

end Go.Proofs.Ytgflalfiopnmnab
