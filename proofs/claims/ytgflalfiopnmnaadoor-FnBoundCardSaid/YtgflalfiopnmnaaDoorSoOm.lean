import Derived.Test.YtgflalfiopnmnaaDoorRkMat
import Derived.Test.YtgflalfiopnmnaaDoorRkCopy
import Derived.Deep.AppendLies
import Derived.WalkSmall
namespace Go.Proofs.YtgflalfiopnmnaaDoor
open Go.RowKit

/-- A slice of slices of numbers that the call itself makes, row by row: row j lies in block B j. -/
structure OM (w : World) (base : Nat) (v : Value) (n : Nat) (L B : Nat → Nat) (M : Nat → Nat → Int) : Prop where
  own : w.ownsRow base 25 1 v n ((List.range n).map fun j => .slice (some ⟨B j, 0, none⟩) (L j) (L j))
  rows : ∀ j, j < n → base ≤ B j ∧ w.rowIs (B j) 3 (L j) (fun c => .int .i64 (M j c))

theorem OM.nil (w : World) (base : Nat) (L B : Nat → Nat) (M : Nat → Nat → Int) : OM w base (.slice none 0 0) 0 L B M := ⟨World.ownsRow_nil _ _ _ _, fun _ hj => absurd hj (Nat.not_lt_zero _)⟩
theorem OM.alloc {w : World} {base : Nat} {v : Value} {n : Nat} {L B : Nat → Nat} {M : Nat → Nat → Int} (h : OM w base v n L B M) (o : Obj) : OM (w.alloc o) base v n L B M := ⟨h.own.alloc o, fun j hj => ⟨(h.rows j hj).1, (h.rows j hj).2.alloc o⟩⟩
theorem OM.drewN {w : World} {base : Nat} {v : Value} {n : Nat} {L B : Nat → Nat} {M : Nat → Nat → Int} (h : OM w base v n L B M) (m : Nat) : OM (w.drewN m) base v n L B M := ⟨h.own, h.rows⟩
/-- A store into a block that is none of it. -/
theorem OM.setOther {w : World} {base : Nat} {v : Value} {n : Nat} {L B : Nat → Nat} {M : Nat → Nat → Int} (h : OM w base v n L B M) {a : Addr} (ha : v.ownBlock ≠ some a.block) (hb : ∀ j, j < n → B j ≠ a.block) (u : Value) : OM (w.setCell a u) base v n L B M :=
  ⟨ownsRow_setCell_other h.own ha u, fun j hj => ⟨(h.rows j hj).1, (h.rows j hj).2.setOther (hb j hj) u⟩⟩
/-- Behind a call that leaves what was there. -/
theorem OM.below {w w' : World} {base : Nat} {v : Value} {n : Nat} {L B : Nat → Nat} {M : Nat → Nat → Int} (h : OM w base v n L B M) (hb : Below w.heap.size w w') : OM w' base v n L B M := by
  refine ⟨⟨h.own.1, ?_⟩, fun j hj => ⟨(h.rows j hj).1, (h.rows j hj).2.of_block (hb.block _ (h.rows j hj).2.lt)⟩⟩
  rcases h.own.2 with h2 | ⟨g, cap, cur, e1, e2, hh, r⟩
  · exact Or.inl h2
  · exact Or.inr ⟨g, cap, cur, e1, e2, by rw [hb.block _ (lt_of_block hh)]; exact hh, r⟩

/-- One row more. -/
theorem OM.more {w w1 : World} {base : Nat} {v v' : Value} {n : Nat} {L B : Nat → Nat} {M : Nat → Nat → Int} (h : OM w base v n L B M) {R l : Nat} {f : Nat → Int} (hR : w.rowIs R 3 l (fun c => .int .i64 (f c))) (hb : base ≤ R) (o : Obj)
    (ho : w1.ownsRow base 25 1 v' (n + 1) (((List.range n).map fun j => Value.slice (some ⟨B j, 0, none⟩) (L j) (L j)) ++ [.slice (some ⟨R, 0, none⟩) l l])) (hg : (w.alloc o).grownBy w1 v.ownBlock) :
    OM w1 base v' (n + 1) (fun j => if j = n then l else L j) (fun j => if j = n then R else B j) (fun j => if j = n then f else M j) ∧ Below base w w1 := by
  have hne : ∀ k c m, w.heap[k]? = some (.cells c 3 m) → some k ≠ v.ownBlock := by
    intro k c m hk e
    rcases h.own.2 with ⟨rfl, _⟩ | ⟨g, cap, cur, rfl, _, hh, _⟩
    · simp [Value.ownBlock] at e
    · simp [Value.ownBlock] at e
      subst e
      rw [hk] at hh
      cases hh
  have keep : ∀ k t f, w.rowIs k 3 t f → w1.rowIs k 3 t f := fun k t f hr => by
    obtain ⟨c, hc, r⟩ := hr
    exact ⟨c, by rw [hg.block k (by have := lt_of_block hc; simp; omega) (hne k _ _ hc), Below.heap_alloc _ _ _ (lt_of_block hc)]; exact hc, r⟩
  refine ⟨⟨?_, fun j hj => ?_⟩, ?_⟩
  · have e : ((List.range (n + 1)).map fun j => Value.slice (some ⟨if j = n then R else B j, 0, none⟩) (if j = n then l else L j) (if j = n then l else L j)) = ((List.range n).map fun j => Value.slice (some ⟨B j, 0, none⟩) (L j) (L j)) ++ [.slice (some ⟨R, 0, none⟩) l l] := by
      rw [List.range_succ, List.map_append]
      congr 1
      · apply List.map_congr_left
        intro j hj
        have := List.mem_range.1 hj
        simp [show ¬ j = n by omega]
      · simp
    rw [e]; exact ho
  · by_cases e : j = n
    · subst e; simp only [if_true]; exact ⟨hb, keep _ _ _ hR⟩
    · simp only [e, if_false]; exact ⟨(h.rows j (by omega)).1, keep _ _ _ (h.rows j (by omega)).2⟩
  · have hbz : base ≤ w.heap.size := by have := hR.lt; omega
    refine ⟨hg.os, hg.tape, hg.output, by have := hg.size; simp at this; omega, fun k hk => ?_⟩
    rw [hg.block k (by simp; omega) (fun e => ?_), Below.heap_alloc _ _ _ (by omega)]
    rcases h.own.2 with ⟨rfl, _⟩ | ⟨g, cap, cur, rfl, hge, _⟩
    · simp [Value.ownBlock] at e
    · simp [Value.ownBlock] at e; omega

theorem OM.congr {w : World} {base : Nat} {v : Value} {n : Nat} {L L' B : Nat → Nat} {M M' : Nat → Nat → Int} (h : OM w base v n L B M) (hL : ∀ j, j < n → L j = L' j) (hM : ∀ j, j < n → ∀ c, c < L' j → M j c = M' j c) : OM w base v n L' B M' := by
  refine ⟨?_, fun j hj => ⟨(h.rows j hj).1, ?_⟩⟩
  · have e : ((List.range n).map fun j => Value.slice (some ⟨B j, 0, none⟩) (L' j) (L' j)) = (List.range n).map fun j => Value.slice (some ⟨B j, 0, none⟩) (L j) (L j) := List.map_congr_left fun j hj => by rw [hL j (List.mem_range.1 hj)]
    rw [e]; exact h.own
  · have := (h.rows j hj).2
    rw [hL j hj] at this
    exact this.congr fun c hc => by rw [hM j hj c hc]

/-- What was made, as it is read. -/
theorem OM.mat {w : World} {base : Nat} {v : Value} {n : Nat} {L B : Nat → Nat} {M : Nat → Nat → Int} (h : OM w base v n L B M) :
    ∃ ga cp gb, v = .slice ga n cp ∧ (0 < n → ga = some ⟨gb, 0, none⟩) ∧ MatR w gb 0 n (fun j => some ⟨B j, 0, none⟩) L L B (fun _ => 0) M := by
  have hrow : ∀ r, r < n → ∀ c, c < L r → (some (⟨B r, 0, none⟩ : Addr) = some ⟨B r, 0, none⟩) ∧ w.cell? ⟨B r, 0 + c, none⟩ = some (.int .i64 (M r c)) := fun r hr c hc => ⟨rfl, by rw [Nat.zero_add]; exact (h.rows r hr).2.cell hc⟩
  rcases h.own.2 with ⟨rfl, rfl⟩ | ⟨g, cap, cur, rfl, _, hh, _, _, _, ht⟩
  · exact ⟨none, 0, 0, rfl, fun h => by omega, fun r hr => by omega, hrow⟩
  · refine ⟨_, cap, g, rfl, fun _ => rfl, fun r hr => ?_, hrow⟩
    have : (cur.toList.take (n * 1))[r]? = some (.slice (some ⟨B r, 0, none⟩) (L r) (L r)) := by
      rw [ht]; simp [hr]
    rw [List.getElem?_take] at this
    split at this
    · rw [Nat.zero_add]
      simp [World.cell?, hh]
      simpa using this
    · cases this

end Go.Proofs.YtgflalfiopnmnaaDoor
