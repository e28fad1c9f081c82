import Derived.Test.YtgflalfiopnmnaaDoorSoSure
import Derived.Deep.RegionHeld3
namespace Go.Proofs.YtgflalfiopnmnaaDoor
open Go.RowKit Rk So

/-- What the call owns and is no row of questions stays owned. -/
theorem Fr.owns {S base : Nat} {w w' : World} (h : Fr S base w w') {b : Nat} {v : Value} {n : Nat} {xs : List Value} (ho : w.ownsRow b 3 1 v n xs) (hS : S < b) : w'.ownsRow b 3 1 v n xs := by
  refine ⟨ho.1, ?_⟩
  rcases ho.2 with h2 | ⟨g, cap, cur, hv, hg, hh, r⟩
  · exact Or.inl h2
  · exact Or.inr ⟨g, cap, cur, hv, hg, h.keep hh (by omega) (by decide), r⟩
/-- A row of the call's own has been written. -/
theorem Fr.grownOwn {S base : Nat} {a w w' : World} (h : Fr S base a w) {g : Nat} (hg : w.grownBy w' (some g)) (ha : a.heap.size ≤ g) : Fr S base a w' :=
  ⟨hg.os.trans h.os, hg.tape.trans h.tape, hg.output.trans h.output, Nat.le_trans h.size hg.size, fun k hk hS hb => by
    rw [hg.block k (Nat.lt_of_lt_of_le hk h.size) (fun e => by cases e; omega), h.block k hk hS hb]⟩
theorem Inv.grownOwn {w0 w w' : World} {S base : Nat} {hd : Value} {q : List (Nat × Nat)} (h : Inv w0 w S base hd q) {g b : Nat} {n cap : Nat} {xs : List Value} (ho : w.ownsRow b 3 1 (.slice (some ⟨g, 0, none⟩) n cap) n xs) (hS : S < b) (hg : w.grownBy w' (some g)) : Inv w0 w' S base hd q := by
  obtain ⟨v, hv, hq⟩ := h.st
  have hl := lt_of_block hv
  obtain ⟨c, cur, hgb, hh⟩ : ∃ c cur, b ≤ g ∧ w.heap[g]? = some (.cells cur 3 c) := by
    rcases ho.2 with ⟨e, _⟩ | ⟨g', cap', cur, hv', hg', hh, _⟩
    · cases e
    · cases hv'; exact ⟨_, _, hg', hh⟩
  have bel : Below S w w' := ⟨hg.os, hg.tape, hg.output, hg.size, fun k hk => hg.block k (by omega) (fun e => by cases e; omega)⟩
  refine ⟨h.bel.trans (bel.mono h.le), h.le, ⟨v, by rw [hg.block S hl (fun e => by cases e; omega)]; exact hv, hq.1, ?_⟩, h.lt, Nat.le_trans h.sz hg.size⟩
  rcases hq.2 with h2 | ⟨g', cap', cur', hv', hg', hh', r⟩
  · exact Or.inl h2
  · refine Or.inr ⟨g', cap', cur', hv', hg', ?_, r⟩
    rw [hg.block g' (lt_of_block hh') (fun e => by cases e; rw [hh] at hh'; cases hh')]
    exact hh'

/-- A new row has been made. -/
theorem Fr.made {S base : Nat} {w w' : World} (hg : w.grownBy w' none) : Fr S base w w' := ⟨hg.os, hg.tape, hg.output, hg.size, fun k hk _ _ => hg.block k hk (by simp)⟩
theorem Inv.made {w0 w w' : World} {S base : Nat} {hd : Value} {q : List (Nat × Nat)} (h : Inv w0 w S base hd q) (hg : w.grownBy w' none) : Inv w0 w' S base hd q := by
  obtain ⟨v, hv, ho⟩ := h.st
  have hl := lt_of_block hv
  exact ⟨h.bel.trans (((Fr.made hg).below h.lt (Nat.le_of_lt hl)).mono h.le), h.le, ⟨v, by rw [hg.block S hl (by simp)]; exact hv, ho.kept hg (Classical.em _)⟩, h.lt, Nat.le_trans h.sz hg.size⟩

/-- A slice's length. -/
def lenOf : Value → Nat | .slice _ n _ => n | _ => 0

/-- The numbers of items as they lie in a row. -/
def ints (xs : List Nat) : List Value := xs.map fun x => .int .i64 (x : Nat)


theorem ints_snoc (z : List Nat) (y : Nat) : ints (z ++ [y]) = ints z ++ [.int .i64 (y : Nat)] := by simp [ints]
theorem ints_app (z y : List Nat) : ints (z ++ y) = ints z ++ ints y := by simp [ints]
theorem ints_one (z : List Nat) : ∀ u ∈ ints z, u.oneCell' = true := by
  intro u hu
  obtain ⟨_, _, rfl⟩ := List.mem_map.1 hu
  rfl
theorem addr_plus (b o i : Nat) : Addr.add ⟨b, o, none⟩ i = ⟨b, o + i, none⟩ := by
  unfold Addr.add
  by_cases h : i = 0 <;> simp [h]
/-- What is left of a row that is being merged lies where its slice says. -/
theorem tail_cells {w : World} {R off i : Nat} {xs : List Nat} {f1 : Addr} (hc : ∀ t x, xs[t]? = some x → w.cell? ⟨R, off + t, none⟩ = some (.int .i64 (x : Nat))) (hf : i < xs.length → f1 = ⟨R, off + i, none⟩) :
    ∀ ad, some f1 = some ad → ∀ j u, (ints (xs.drop i))[j]? = some u → w.cell? (ad.add j) = some u := by
  intro ad had j u hu
  cases had
  simp only [ints, List.getElem?_map, List.getElem?_drop] at hu
  obtain ⟨x, hx, rfl⟩ := Option.map_eq_some_iff.1 hu
  have hl := (List.getElem?_eq_some_iff.1 hx).1
  rw [hf (by omega), addr_plus, Nat.add_assoc]
  exact hc _ x hx
/-- 's = s[1:]'. -/
theorem slice_next (c : Prop) [Decidable c] (x y : Addr) (l k j : Nat) : Value.slice (if c then some x else some y) (l - j - 1) (k - j - 1) = .slice (some (if c then x else y)) (l - (j + 1)) (k - (j + 1)) := by
  rw [Nat.sub_sub, Nat.sub_sub]
  by_cases h : c <;> simp [h]

end Go.Proofs.YtgflalfiopnmnaaDoor
