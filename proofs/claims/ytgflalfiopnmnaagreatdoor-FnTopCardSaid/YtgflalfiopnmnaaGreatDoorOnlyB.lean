import Derived.Test.YtgflalfiopnmnaaGreatDoorProg
import Derived.WalkKit
import Derived.WalkLawsBesides
import Derived.Deep.OwnRows
namespace Go.Proofs.YtgflalfiopnmnaaGreatDoor
open Go.RowKit

theorem lt_of_block {w : World} {b : Nat} {o : Obj} (h : w.heap[b]? = some o) : b < w.heap.size := by
  rcases Nat.lt_or_ge b w.heap.size with h' | h'
  · exact h'
  · rw [Array.getElem?_eq_none h'] at h; cases h

/-- Nothing that was there has turned but blocks of P. -/
structure Only (P : Nat → Prop) (w w' : World) : Prop where
  os : w'.os = w.os
  tape : w'.tape = w.tape
  output : w'.output = w.output
  size : w.heap.size ≤ w'.heap.size
  block : ∀ k, k < w.heap.size → ¬ P k → w'.heap[k]? = w.heap[k]?

theorem Only.refl (P : Nat → Prop) (w : World) : Only P w w := ⟨rfl, rfl, rfl, Nat.le_refl _, fun _ _ _ => rfl⟩
theorem Only.trans {P : Nat → Prop} {a b c : World} (h : Only P a b) (k : Only P b c) : Only P a c :=
  ⟨k.os.trans h.os, k.tape.trans h.tape, k.output.trans h.output, Nat.le_trans h.size k.size, fun i hi hp => by rw [k.block i (Nat.lt_of_lt_of_le hi h.size) hp, h.block i hi hp]⟩
theorem Only.mono {P Q : Nat → Prop} {a b : World} (h : Only P a b) (hq : ∀ k, k < a.heap.size → P k → Q k) : Only Q a b := ⟨h.os, h.tape, h.output, h.size, fun i hi hp => h.block i hi (fun x => hp (hq i hi x))⟩
theorem Only.set {P : Nat → Prop} {a w : World} (h : Only P a w) {p : Addr} (hp : P p.block) (v : Value) : Only P a (w.setCell p v) :=
  h.trans ⟨rfl, rfl, rfl, by simp [World.setCell], fun k _ hk => Below.heap_setCell _ _ _ _ (fun e => hk (by rw [e]; exact hp))⟩
theorem Only.below {P : Nat → Prop} {a b : World} (h : Below a.heap.size a b) : Only P a b := ⟨h.os, h.tape, h.output, h.size, fun k hk _ => h.block k hk⟩
theorem Only.toBelow {P : Nat → Prop} {a b : World} {base : Nat} (h : Only P a b) (hP : ∀ k, P k → base ≤ k) (hb : base ≤ a.heap.size) : Below base a b := ⟨h.os, h.tape, h.output, h.size, fun k hk => h.block k (by omega) (fun x => by have := hP k x; omega)⟩
theorem Only.rowIs {P : Nat → Prop} {a b : World} (h : Only P a b) {B t n : Nat} {f : Nat → Value} (hr : a.rowIs B t n f) (hB : ¬ P B) : b.rowIs B t n f := by
  obtain ⟨c, hb, hn, hc⟩ := hr
  exact ⟨c, by rw [h.block B (lt_of_block hb) hB]; exact hb, hn, hc⟩
theorem Only.owns {P : Nat → Prop} {a b : World} (h : Only P a b) {base t s n : Nat} {v : Value} {xs : List Value} (ho : a.ownsRow base t s v n xs) (hB : ∀ g, base ≤ g → g < a.heap.size → ¬ P g) : b.ownsRow base t s v n xs := by
  refine ⟨ho.1, ?_⟩
  rcases ho.2 with h2 | ⟨g, cap, cur, hv, hg, hh, r⟩
  · exact Or.inl h2
  · exact Or.inr ⟨g, cap, cur, hv, hg, by rw [h.block g (lt_of_block hh) (hB g hg (lt_of_block hh))]; exact hh, r⟩

theorem Only.alloc {P : Nat → Prop} {a b : World} (h : Only P a b) (o : Obj) : Only P a (b.alloc o) := h.trans (Only.below ((Below.refl _ _).alloc (Nat.le_refl _) _))
theorem Only.cell {P : Nat → Prop} {a b : World} (h : Only P a b) {p : Addr} {v : Value} (hc : a.cell? p = some v) (hP : ¬ P p.block) : b.cell? p = some v := by
  rw [World.cell?_of_block (h.block p.block (World.block_lt_of_cell? _ _ hc) hP)]; exact hc
theorem Only.cellOf {P : Nat → Prop} {a b : World} (h : Only P a b) {p : Addr} (hlt : p.block < a.heap.size) (hP : ¬ P p.block) : b.cell? p = a.cell? p := World.cell?_of_block (h.block p.block hlt hP)
theorem Only.thenBelow {P : Nat → Prop} {a b c : World} {base : Nat} (h : Only P a b) (k : Below base b c) (hb : a.heap.size ≤ base) : Only P a c :=
  ⟨k.os.trans h.os, k.tape.trans h.tape, k.output.trans h.output, Nat.le_trans h.size k.size, fun i hi hp => by rw [k.block i (by omega), h.block i hi hp]⟩
theorem below_grown {w w' : World} {base e size n : Nat} {v : Value} {xs : List Value} (ho : w.ownsRow base e size v n xs) (hg : w.grownBy w' v.ownBlock) (hb : base ≤ w.heap.size) : Below base w w' := by
  refine (Below.refl _ _).grown hg hb (fun k hk => ?_)
  rcases ho.2 with ⟨rfl, _⟩ | ⟨g, cap, cur, rfl, hgb, hh, _⟩
  · simp [Value.ownBlock] at hk
  · simp [Value.ownBlock] at hk; omega

end Go.Proofs.YtgflalfiopnmnaaGreatDoor
