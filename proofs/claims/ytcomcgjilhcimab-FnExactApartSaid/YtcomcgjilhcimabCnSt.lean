import Derived.Test.YtcomcgjilhcimabCnPure
import Derived.Test.YtcomcgjilhcimabGtSpec2
namespace Go.Proofs.Ytcomcgjilhcimab
open Go.RowKit Vl

def natCells (S : List Nat) : List Value := S.map fun i => .int .i64 (i : Nat)
theorem natCells_snoc (S : List Nat) (r : Nat) : natCells (S ++ [r]) = natCells S ++ [.int .i64 (r : Nat)] := by simp [natCells]

/-- The numberer of 'l2canon': S marked, T in the order. -/
structure SpW (w0 w : World) (WB WH base : Nat) (u : V) (ta : Option Addr) (n cp : Nat) (ord : Value) (S T : List Nat) : Prop where
  blk : w.heap[WB]? = some (.cells #[.int .i64 u.k, .int .i64 u.n, .string u.s, .int .i64 u.a, .slice ta n cp, .slice (some ⟨WH, 0, none⟩) n n, ord] 142 (0, 0))
  row : w.rowIs WH 3 n (fun i => .int .i64 (whereIs S i))
  own : w.ownsRow base 3 1 ord T.length (natCells T)
  bel : Below w0.heap.size w0 w

structure SpB (w0 : World) (WB WH base : Nat) : Prop where
  wb : w0.heap.size ≤ WB
  wh : w0.heap.size ≤ WH
  ne : WB ≠ WH
  wbb : WB < base
  whb : WH < base

theorem owns_form {w : World} {base t s n : Nat} {v : Value} {xs : List Value} (h : w.ownsRow base t s v n xs) : ∃ oa oc, v = .slice oa n oc ∧ (∀ k, v.ownBlock = some k → base ≤ k ∧ k < w.heap.size) := by
  rcases h.2 with ⟨rfl, hn⟩ | ⟨g, cap, cur, rfl, hgb, hh, _⟩
  · obtain ⟨rfl, _⟩ := hn
    exact ⟨none, 0, rfl, fun k hk => by simp [Value.ownBlock] at hk⟩
  · exact ⟨_, _, rfl, fun k hk => by simp [Value.ownBlock] at hk; subst hk; exact ⟨hgb, blk_lt hh⟩⟩

/-- What the numberer turns: its own block, its marks, its row. -/
structure FrV (WB WH : Nat) (ord ord' : Value) (w w' : World) : Prop where
  only : Only (fun k => k = WB ∨ k = WH ∨ ord.ownBlock = some k) w w'
  nxt : ∀ k, k < w.heap.size → ord'.ownBlock = some k → ord.ownBlock = some k
theorem FrV.refl (WB WH : Nat) (ord : Value) (w : World) : FrV WB WH ord ord w w := ⟨Only.refl _ _, fun _ _ h => h⟩
theorem FrV.trans {WB WH : Nat} {o1 o2 o3 : Value} {a b c : World} (h : FrV WB WH o1 o2 a b) (k : FrV WB WH o2 o3 b c) : FrV WB WH o1 o3 a c :=
  ⟨⟨k.only.os.trans h.only.os, k.only.tape.trans h.only.tape, k.only.output.trans h.only.output, Nat.le_trans h.only.size k.only.size, fun i hi hp => by
      rw [k.only.block i (Nat.lt_of_lt_of_le hi h.only.size) (fun x => hp (by
        rcases x with x | x | x
        · exact Or.inl x
        · exact Or.inr (Or.inl x)
        · exact Or.inr (Or.inr (h.nxt i hi x)))), h.only.block i hi hp]⟩,
    fun i hi x => h.nxt i hi (k.nxt i (Nat.lt_of_lt_of_le hi h.only.size) x)⟩
theorem FrV.below {WB WH : Nat} {o1 o2 : Value} {a b c : World} (h : FrV WB WH o1 o2 a b) (k : Below b.heap.size b c) : FrV WB WH o1 o2 a c := h.trans ⟨Only.below k, fun _ _ h => h⟩
theorem FrV.first {WB WH : Nat} {o : Value} {a b : World} (k : Below a.heap.size a b) : FrV WB WH o o a b := ⟨Only.below k, fun _ _ h => h⟩
/-- A block that is none of the numberer's stays. -/
theorem FrV.blk {WB WH : Nat} {o1 o2 : Value} {a b : World} (h : FrV WB WH o1 o2 a b) {k : Nat} {o : Obj} (hk : a.heap[k]? = some o) (h1 : k ≠ WB) (h2 : k ≠ WH) (h3 : o1.ownBlock ≠ some k) : b.heap[k]? = some o := by
  rw [h.only.block k (blk_lt hk) (fun x => by rcases x with x | x | x; exact h1 x; exact h2 x; exact h3 x)]
  exact hk

theorem SpW.below {w0 w w' : World} {WB WH base : Nat} {u : V} {ta : Option Addr} {n cp : Nat} {ord : Value} {S T : List Nat} (h : SpW w0 w WB WH base u ta n cp ord S T) (hb : Below w.heap.size w w') : SpW w0 w' WB WH base u ta n cp ord S T :=
  ⟨blkB h.blk hb, h.row.of_block (hb.block _ h.row.lt), (Only.below (P := fun _ => False) hb).owns h.own (fun _ _ _ h => h), h.bel.trans (hb.mono h.bel.size)⟩

theorem cells7 {w : World} {B : Nat} {a b c d e f g : Value} {t : TypeId} (H : w.heap[B]? = some (.cells #[a, b, c, d, e, f, g] t (0, 0))) :
    w.cell? ⟨B, 4, none⟩ = some e ∧ w.cell? ⟨B, 5, none⟩ = some f ∧ w.cell? ⟨B, 6, none⟩ = some g ∧ ∀ i, w.frozen? ⟨B, i, none⟩ = false := by
  refine ⟨?_, ?_, ?_, fun i => ?_⟩ <;> simp [World.cell?, World.frozen?, H]

/-- A table is marked. -/
theorem SpW.mark {w0 w : World} {WB WH base : Nat} {u : V} {ta : Option Addr} {n cp : Nat} {ord : Value} {S : List Nat} (h : SpW w0 w WB WH base u ta n cp ord S S) (hB : SpB w0 WB WH base) {r : Nat} (hr : r ∉ S) :
    SpW w0 (w.setCell ⟨WH, r, none⟩ (.int .i64 (S.length : Nat))) WB WH base u ta n cp ord (S ++ [r]) S ∧ FrV WB WH ord ord w (w.setCell ⟨WH, r, none⟩ (.int .i64 (S.length : Nat))) := by
  refine ⟨⟨(Below.heap_setCell _ _ _ _ hB.ne).trans h.blk, ?_, ?_, h.bel.setCell hB.wh _⟩, ⟨(Only.refl _ _).set (Or.inr (Or.inl rfl)) _, fun _ _ h => h⟩⟩
  · refine (h.row.set r _).congr (fun i _ => ?_)
    rw [whereIs_add hr]
    by_cases e : i = r
    · rw [if_pos e, if_pos e]
    · rw [if_neg e, if_neg e]
  · refine ownsRow_setCell_other h.own (fun e => ?_) _
    obtain ⟨_, _, _, hk⟩ := owns_form h.own
    have := (hk _ e).1
    have := hB.whb
    simp only at *
    omega

/-- A table is put behind the order. -/
theorem SpW.put {w0 w w3 : World} {WB WH base g cap : Nat} {u : V} {ta : Option Addr} {n cp : Nat} {ord : Value} {S T : List Nat} {r : Nat} {o : Obj} (h : SpW w0 w WB WH base u ta n cp ord S T) (hB : SpB w0 WB WH base) (hgrow : (w.alloc o).drew.grownBy w3 ord.ownBlock)
    (hown : w3.ownsRow base 3 1 (.slice (some ⟨g, 0, none⟩) (T.length + 1) cap) (T.length + 1) (natCells T ++ [.int .i64 (r : Nat)])) (hat : w.heap.size ≤ g ∨ ord.ownBlock = some g) :
    (w3.cell? ⟨WB, 6, none⟩ = some ord ∧ ∀ j, w3.frozen? ⟨WB, j, none⟩ = false) ∧ SpW w0 (w3.setCell ⟨WB, 6, none⟩ (.slice (some ⟨g, 0, none⟩) (T.length + 1) cap)) WB WH base u ta n cp (.slice (some ⟨g, 0, none⟩) (T.length + 1) cap) S (T ++ [r]) ∧
      FrV WB WH ord (.slice (some ⟨g, 0, none⟩) (T.length + 1) cap) w (w3.setCell ⟨WB, 6, none⟩ (.slice (some ⟨g, 0, none⟩) (T.length + 1) cap)) := by
  obtain ⟨_, _, _, hk⟩ := owns_form h.own
  have hwb : WB < w.heap.size := blk_lt h.blk
  have hwh : WH < w.heap.size := h.row.lt
  have hbl : ∀ k, k < w.heap.size → ord.ownBlock ≠ some k → w3.heap[k]? = w.heap[k]? := fun k hk hne =>
    (hgrow.block k (by show k < (w.alloc o).heap.size; simp; omega) (fun e => hne e.symm)).trans (Below.heap_alloc w o k hk)
  have n1 : ord.ownBlock ≠ some WB := fun e => by have := (hk _ e).1; have := hB.wbb; omega
  have n2 : ord.ownBlock ≠ some WH := fun e => by have := (hk _ e).1; have := hB.whb; omega
  have hblk := (hbl WB hwb n1).trans h.blk
  have hc := cells7 hblk
  have hgb : base ≤ g := by
    obtain ⟨_, _, e, hk'⟩ := owns_form hown
    exact (hk' g (by simp [Value.ownBlock])).1
  have hsz : w.heap.size ≤ w3.heap.size := by have := hgrow.size; simp [World.drew] at this; omega
  have ho : Only (fun k => k = WB ∨ k = WH ∨ ord.ownBlock = some k) w w3 := ⟨hgrow.os, hgrow.tape, hgrow.output, hsz, fun k hk hp => hbl k hk (fun e => hp (Or.inr (Or.inr e)))⟩
  refine ⟨⟨hc.2.2.1, hc.2.2.2⟩, ⟨?_, ?_, ?_, ?_⟩, ⟨ho.set (Or.inl rfl) _, fun k hk' e => ?_⟩⟩
  · simp [World.setCell, Array.getElem?_modify, hblk]
  · exact h.row.of_block ((Below.heap_setCell _ _ _ _ (fun e => hB.ne e.symm)).trans (hbl WH hwh n2))
  · rw [natCells_snoc, show (T ++ [r]).length = T.length + 1 by simp]
    exact ownsRow_setCell_other (a := ⟨WB, 6, none⟩) hown (by have := hB.wbb; simp only [Value.ownBlock, ne_eq, Option.some.injEq]; omega) _
  · refine (h.bel.trans (ho.toBelow (base := w0.heap.size) (fun k hk' => ?_) h.bel.size)).setCell hB.wb _
    rcases hk' with rfl | rfl | e
    · exact hB.wb
    · exact hB.wh
    · have := (hk _ e).1; have := hB.wb; have := hB.wbb; omega
  · simp only [Value.ownBlock, Option.some.injEq] at e
    subst e
    rcases hat with h' | h'
    · omega
    · exact h'

theorem Only.ownsB {P : Nat → Prop} {a b : World} (h : Only P a b) {base t s n : Nat} {v : Value} {xs : List Value} (ho : a.ownsRow base t s v n xs) (hB : ∀ g, v.ownBlock = some g → ¬ P g) : b.ownsRow base t s v n xs := by
  refine ⟨ho.1, ?_⟩
  rcases ho.2 with h2 | ⟨g, cap, cur, hv, hg, hh, r⟩
  · exact Or.inl h2
  · exact Or.inr ⟨g, cap, cur, hv, hg, by rw [h.block g (lt_of_block hh) (hB g (by rw [hv]; rfl))]; exact hh, r⟩

/-- Blocks turn that are none of the numberer's. -/
theorem SpW.far {w0 w w' : World} {WB WH base : Nat} {u : V} {ta : Option Addr} {n cp : Nat} {ord : Value} {S T : List Nat} {P : Nat → Prop} (h : SpW w0 w WB WH base u ta n cp ord S T) (ho : Only P w w') (h1 : ¬ P WB) (h2 : ¬ P WH) (h3 : ∀ g, ord.ownBlock = some g → ¬ P g) (h4 : ∀ k, P k → w0.heap.size ≤ k) : SpW w0 w' WB WH base u ta n cp ord S T :=
  ⟨(ho.block _ (blk_lt h.blk) h1).trans h.blk, h.row.of_block (ho.block _ h.row.lt h2), ho.ownsB h.own h3, h.bel.trans (ho.toBelow h4 h.bel.size)⟩
theorem FrV.new {WB WH : Nat} {o1 o2 : Value} {a b c : World} (h : FrV WB WH o1 o2 a b) (k : Below a.heap.size b c) : FrV WB WH o1 o2 a c := ⟨h.only.thenBelow k (Nat.le_refl _), h.nxt⟩

end Go.Proofs.Ytcomcgjilhcimab
