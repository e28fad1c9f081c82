import Derived.Test.YtgflalfiopnmnaaDoorRkSpec
import Derived.Test.YtgflalfiopnmnaaDoorSo
import Derived.BigQuiet
import Derived.WalkSmall
import Derived.Deep.AppendLies
import Derived.Deep.Light
namespace Go.Proofs.YtgflalfiopnmnaaDoor
open Go.RowKit Rk So

/-- Nothing that was there has turned but block S and rows of questions from 'base' on. -/
structure Fr (S base : Nat) (w w' : World) : Prop where
  os : w'.os = w.os
  tape : w'.tape = w.tape
  output : w'.output = w.output
  size : w.heap.size ≤ w'.heap.size
  block : ∀ k, k < w.heap.size → k ≠ S → (base ≤ k → ∀ c m, w.heap[k]? ≠ some (.cells c 53 m)) → w'.heap[k]? = w.heap[k]?

theorem Fr.refl (S base : Nat) (w : World) : Fr S base w w := ⟨rfl, rfl, rfl, Nat.le_refl _, fun _ _ _ _ => rfl⟩
theorem Fr.trans {S base : Nat} {a b c : World} (h : Fr S base a b) (k : Fr S base b c) : Fr S base a c :=
  ⟨k.os.trans h.os, k.tape.trans h.tape, k.output.trans h.output, Nat.le_trans h.size k.size, fun i hi hS hb => by
    have e := h.block i hi hS hb
    rw [k.block i (Nat.lt_of_lt_of_le hi h.size) hS (fun x c m => by rw [e]; exact hb x c m), e]⟩
theorem Fr.drew {S base : Nat} {a w : World} (h : Fr S base a w) : Fr S base a w.drew := ⟨h.os, h.tape, h.output, h.size, h.block⟩
theorem Fr.drewN {S base : Nat} {a w : World} (h : Fr S base a w) (n : Nat) : Fr S base a (w.drewN n) := ⟨h.os, h.tape, h.output, h.size, h.block⟩
theorem Fr.alloc {S base : Nat} {a w : World} (h : Fr S base a w) (o : Obj) : Fr S base a (w.alloc o) :=
  h.trans ⟨rfl, rfl, rfl, by simp, fun k hk _ _ => Below.heap_alloc _ _ _ hk⟩
theorem Fr.setS {S base : Nat} {a w : World} (h : Fr S base a w) (off : Nat) (v : Value) : Fr S base a (w.setCell ⟨S, off, none⟩ v) :=
  h.trans ⟨rfl, rfl, rfl, by simp [World.setCell], fun _ _ hS _ => Below.heap_setCell _ _ _ _ hS⟩
theorem Fr.grown {S base : Nat} {a w w' : World} {v : Value} {n : Nat} {xs : List Value} (h : Fr S base a w) (ho : w.ownsRow base 53 2 v n xs) (hg : w.grownBy w' v.ownBlock) : Fr S base a w' :=
  h.trans ⟨hg.os, hg.tape, hg.output, hg.size, fun k hk _ hb => hg.block k hk (fun e => by
    rcases ho.2 with ⟨rfl, _⟩ | ⟨g, cap, cur, rfl, hge, hh, _⟩
    · simp [Value.ownBlock] at e
    · simp [Value.ownBlock] at e
      subst e
      exact hb hge _ _ hh)⟩
/-- Whatever is no question's row lies as it did. -/
theorem Fr.keep {S base : Nat} {w w' : World} (h : Fr S base w w') {k : Nat} {c : Array Value} {t : TypeId} {m : Nat × Nat} (hk : w.heap[k]? = some (.cells c t m)) (hS : k ≠ S) (ht : t ≠ 53) : w'.heap[k]? = some (.cells c t m) := by
  rw [h.block k (lt_of_block hk) hS (fun _ c' m' e => by rw [hk] at e; cases e; exact ht rfl), hk]
theorem Fr.row {S base : Nat} {w w' : World} (h : Fr S base w w') {b t n : Nat} {f : Nat → Value} (hr : w.rowIs b t n f) (hS : b ≠ S) (ht : t ≠ 53) : w'.rowIs b t n f := by
  obtain ⟨c, hb, hn, hc⟩ := hr
  exact ⟨c, h.keep hb hS ht, hn, hc⟩
theorem Fr.below {S base : Nat} {w w' : World} (h : Fr S base w w') (hS : S < base) (hz : S ≤ w.heap.size) : Below S w w' :=
  ⟨h.os, h.tape, h.output, h.size, fun k hk => h.block k (by omega) (by omega) (fun x => by omega)⟩

/-- Questions as they lie in memory. -/
def askCells (q : List (Nat × Nat)) : List Value := q.flatMap fun p => [.int .i64 (p.1 : Nat), .int .i64 (p.2 : Nat)]

/-- What stands while a sort goes on: below block S all is as it was when it began; block S holds the answers and the questions so far. -/
structure Inv (w0 w : World) (S base : Nat) (hd : Value) (q : List (Nat × Nat)) : Prop where
  bel : Below w0.heap.size w0 w
  le : w0.heap.size ≤ S
  st : ∃ v, w.heap[S]? = some (.cells #[hd, v] 43 (0, 0)) ∧ w.ownsRow base 53 2 v q.length (askCells q)
  lt : S < base
  sz : base ≤ w.heap.size

theorem Inv.drew {w0 w : World} {S base : Nat} {hd : Value} {q : List (Nat × Nat)} (h : Inv w0 w S base hd q) : Inv w0 w.drew S base hd q := ⟨h.bel.drew, h.le, h.st, h.lt, h.sz⟩
theorem Inv.drewN {w0 w : World} {S base : Nat} {hd : Value} {q : List (Nat × Nat)} (h : Inv w0 w S base hd q) (n : Nat) : Inv w0 (w.drewN n) S base hd q := ⟨below_drewN h.bel n, h.le, h.st, h.lt, h.sz⟩
theorem Inv.alloc {w0 w : World} {S base : Nat} {hd : Value} {q : List (Nat × Nat)} (h : Inv w0 w S base hd q) (o : Obj) : Inv w0 (w.alloc o) S base hd q := by
  obtain ⟨v, hv, ho⟩ := h.st
  have hl := lt_of_block hv
  exact ⟨h.bel.alloc h.bel.size o, h.le, ⟨v, by rw [Below.heap_alloc _ _ _ hl]; exact hv, ho.alloc o⟩, h.lt, by have := h.sz; simp; omega⟩
/-- A store into a block that is neither S nor a row of questions. -/
theorem Inv.setCell {w0 w : World} {S base : Nat} {hd : Value} {q : List (Nat × Nat)} (h : Inv w0 w S base hd q) {k off : Nat} {c : Array Value} {t : TypeId} {m : Nat × Nat} (hk : w.heap[k]? = some (.cells c t m)) (hS : S ≠ k) (hk0 : w0.heap.size ≤ k) (ht : t ≠ 53) (u : Value) : Inv w0 (w.setCell ⟨k, off, none⟩ u) S base hd q := by
  obtain ⟨v, hv, ho⟩ := h.st
  refine ⟨h.bel.setCell hk0 u, h.le, ⟨v, by rw [Below.heap_setCell _ _ _ _ (by show S ≠ k; exact hS)]; exact hv, ?_⟩, h.lt, by simpa [World.setCell] using h.sz⟩
  refine ownsRow_setCell_other ho (fun e => ?_) u
  rcases ho.2 with ⟨rfl, _⟩ | ⟨g, cap, cur, rfl, _, hh, _⟩
  · simp [Value.ownBlock] at e
  · simp [Value.ownBlock] at e
    subst e
    rw [hk] at hh
    cases hh
    exact ht rfl

theorem Tryd.infoAsk : (Tryd.prog.info? 53).map (fun i => (i.zero, i.size, i.bytes)) = some (some (.agg #[.int .i64 0, .int .i64 0]), 2, 16) := by kernel_rfl

/-- One question more. -/
theorem Inv.more {w0 w w1 : World} {S base : Nat} {hd v v' : Value} {q : List (Nat × Nat)} {y x : Nat} (h : Inv w0 w S base hd q) (hv : w.heap[S]? = some (.cells #[hd, v] 43 (0, 0))) (ho : w.ownsRow base 53 2 v q.length (askCells q))
    (o : Obj) (ho1 : w1.ownsRow base 53 2 v' (q.length + 1) (askCells q ++ [.int .i64 (y : Nat), .int .i64 (x : Nat)])) (hg : (w.alloc o).grownBy w1 v.ownBlock) :
    Inv w0 (w1.setCell ⟨S, 1, none⟩ v') S base hd (q ++ [(y, x)]) ∧ Fr S base w (w1.setCell ⟨S, 1, none⟩ v') ∧ w1.heap[S]? = some (.cells #[hd, v] 43 (0, 0)) := by
  have hl := lt_of_block hv
  have hne : some S ≠ v.ownBlock := by
    intro e
    rcases ho.2 with ⟨rfl, _⟩ | ⟨g, cap, cur, rfl, hge, _⟩
    · simp [Value.ownBlock] at e
    · simp [Value.ownBlock] at e
      have := h.lt
      omega
  have hS1 : w1.heap[S]? = some (.cells #[hd, v] 43 (0, 0)) := by
    rw [hg.block S (by simp; omega) hne, Below.heap_alloc _ _ _ hl]; exact hv
  have hfr : Fr S base w w1 := ((Fr.refl S base w).alloc o).grown (ho.alloc o) hg
  refine ⟨⟨?_, h.le, ⟨v', ?_, ?_⟩, h.lt, ?_⟩, hfr.setS 1 v', hS1⟩
  · exact (h.bel.trans ((hfr.below h.lt (by omega)).mono h.le)).setCell h.le v'
  · have hl1 := lt_of_block hS1
    show (w1.heap.modify S _)[S]? = _
    rw [Array.getElem?_eq_getElem (by simpa using hl1), Array.getElem_modify_self]
    have h' : w1.heap[S] = .cells #[hd, v] 43 (0, 0) := by simpa [Array.getElem?_eq_getElem hl1] using hS1
    rw [h']
    rfl
  · have e : askCells (q ++ [(y, x)]) = askCells q ++ [.int .i64 (y : Nat), .int .i64 (x : Nat)] := by simp [askCells]
    rw [e, List.length_append]
    refine ownsRow_setCell_below ho1 (by show S < base; exact h.lt) v'
  · have := h.sz
    have := hfr.size
    simp [World.setCell]; omega

end Go.Proofs.YtgflalfiopnmnaaDoor
