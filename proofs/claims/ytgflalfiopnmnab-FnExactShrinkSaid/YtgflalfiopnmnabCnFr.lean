import Derived.Test.YtgflalfiopnmnabCnPure
import Derived.Test.YtgflalfiopnmnabGrEq2a
import Derived.Test.YtgflalfiopnmnabOnlyB
import Derived.Test.YtgflalfiopnmnabLkLink2
namespace Go.Proofs.Ytgflalfiopnmnab
open Go.RowKit Vl

/-- A slice of values. -/
structure ValsAt (w : World) (pa : Option Addr) (L B O : Nat) (P : Nat → V) : Prop where
  top : 0 < L → pa = some ⟨B, O, none⟩
  val : ∀ c, c < L → VAt w B (O + c * 4) (P c)
theorem ValsAt.below {w w' : World} {pa : Option Addr} {L B O : Nat} {P : Nat → V} (h : ValsAt w pa L B O P) (hb : Below w.heap.size w w') : ValsAt w' pa L B O P :=
  ⟨h.top, fun c hc => (h.val c hc).below hb⟩
theorem ValsAt.cells {w : World} {pa : Option Addr} {L B O : Nat} {P : Nat → V} (h : ValsAt w pa L B O P) {c : Nat} (hc : c < L) :
    w.cell? ⟨B, O + c * 4, none⟩ = some (.int .i64 (P c).k) ∧ w.cell? ⟨B, O + c * 4 + 1, none⟩ = some (.int .i64 (P c).n) ∧ w.cell? ⟨B, O + c * 4 + 2, none⟩ = some (.string (P c).s) ∧ w.cell? ⟨B, O + c * 4 + 3, none⟩ = some (.int .i64 (P c).a) := h.val c hc

theorem cells4 {w : World} {B : Nat} {a b c d : Value} {t : TypeId} (h : w.heap[B]? = some (.cells #[a, b, c, d] t (0, 0))) :
    w.cell? ⟨B, 0, none⟩ = some a ∧ w.cell? ⟨B, 1, none⟩ = some b ∧ w.cell? ⟨B, 2, none⟩ = some c ∧ w.cell? ⟨B, 3, none⟩ = some d ∧ ∀ i, w.frozen? ⟨B, i, none⟩ = false := by
  refine ⟨?_, ?_, ?_, ?_, fun i => ?_⟩ <;> simp [World.cell?, World.frozen?, h]
theorem put4r {w : World} {B : Nat} {a b c d : Value} {t : TypeId} (h : w.heap[B]? = some (.cells #[a, b, c, d] t (0, 0))) (a' b' c' d' : Value) :
    ((((w.setCell ⟨B, 0, none⟩ a').setCell ⟨B, 1, none⟩ b').setCell ⟨B, 2, none⟩ c').setCell ⟨B, 3, none⟩ d').heap[B]? = some (.cells #[a', b', c', d'] t (0, 0)) := by
  simp [World.setCell, Array.getElem?_modify, h]
theorem blkB {w w' : World} {b : Nat} {o : Obj} (h : w.heap[b]? = some o) (hb : Below w.heap.size w w') : w'.heap[b]? = some o := (hb.block b (blk_lt h)).trans h

/-- A block that holds a value. -/
def ValB (w : World) (B : Nat) (v : V) : Prop := w.heap[B]? = some (.cells #[.int .i64 v.k, .int .i64 v.n, .string v.s, .int .i64 v.a] 29 (0, 0))
theorem ValB.put {w : World} {B : Nat} {v : V} (h : ValB w B v) (x : V) : ValB ((((w.setCell ⟨B, 0, none⟩ (.int .i64 x.k)).setCell ⟨B, 1, none⟩ (.int .i64 x.n)).setCell ⟨B, 2, none⟩ (.string x.s)).setCell ⟨B, 3, none⟩ (.int .i64 x.a)) B x := put4r h _ _ _ _
theorem ValB.below {w w' : World} {B : Nat} {v : V} (h : ValB w B v) (hb : Below w.heap.size w w') : ValB w' B v := blkB h hb

structure SpB (w0 : World) (WB WH base : Nat) : Prop where
  wb : w0.heap.size ≤ WB
  wh : w0.heap.size ≤ WH
  ne : WB ≠ WH
  wbb : WB < base
  whb : WH < base

theorem owns_form {w : World} {base t s n : Nat} {v : Value} {xs : List Value} (h : w.ownsRow base t s v n xs) : ∃ oa oc, v = .slice oa n oc ∧ (∀ k, v.ownBlock = some k → base ≤ k ∧ k < w.heap.size) := by
  rcases h.2 with ⟨rfl, hn⟩ | ⟨g, cap, cur, rfl, hgb, hh, _⟩
  · obtain ⟨rfl, _⟩ := hn
    exact ⟨none, 0, rfl, fun k hk => by simp [Value.ownBlock] at hk⟩
  · exact ⟨_, _, rfl, fun k hk => by simp [Value.ownBlock] at hk; subst hk; exact ⟨hgb, blk_lt hh⟩⟩

/-- What the numberer turns: its own block, its marks, its row. -/
structure FrV (WB WH : Nat) (ord ord' : Value) (w w' : World) : Prop where
  only : Only (fun k => k = WB ∨ k = WH ∨ ord.ownBlock = some k) w w'
  nxt : ∀ k, k < w.heap.size → ord'.ownBlock = some k → ord.ownBlock = some k
theorem FrV.refl (WB WH : Nat) (ord : Value) (w : World) : FrV WB WH ord ord w w := ⟨Only.refl _ _, fun _ _ h => h⟩
theorem FrV.trans {WB WH : Nat} {o1 o2 o3 : Value} {a b c : World} (h : FrV WB WH o1 o2 a b) (k : FrV WB WH o2 o3 b c) : FrV WB WH o1 o3 a c :=
  ⟨⟨k.only.os.trans h.only.os, k.only.tape.trans h.only.tape, k.only.output.trans h.only.output, Nat.le_trans h.only.size k.only.size, fun i hi hp => by
      rw [k.only.block i (Nat.lt_of_lt_of_le hi h.only.size) (fun x => hp (by
        rcases x with x | x | x
        · exact Or.inl x
        · exact Or.inr (Or.inl x)
        · exact Or.inr (Or.inr (h.nxt i hi x)))), h.only.block i hi hp]⟩,
    fun i hi x => h.nxt i hi (k.nxt i (Nat.lt_of_lt_of_le hi h.only.size) x)⟩
theorem FrV.below {WB WH : Nat} {o1 o2 : Value} {a b c : World} (h : FrV WB WH o1 o2 a b) (k : Below b.heap.size b c) : FrV WB WH o1 o2 a c := h.trans ⟨Only.below k, fun _ _ h => h⟩
theorem FrV.first {WB WH : Nat} {o : Value} {a b : World} (k : Below a.heap.size a b) : FrV WB WH o o a b := ⟨Only.below k, fun _ _ h => h⟩
/-- A block that is none of the numberer's stays. -/
theorem FrV.blk {WB WH : Nat} {o1 o2 : Value} {a b : World} (h : FrV WB WH o1 o2 a b) {k : Nat} {o : Obj} (hk : a.heap[k]? = some o) (h1 : k ≠ WB) (h2 : k ≠ WH) (h3 : o1.ownBlock ≠ some k) : b.heap[k]? = some o := by
  rw [h.only.block k (blk_lt hk) (fun x => by rcases x with x | x | x; exact h1 x; exact h2 x; exact h3 x)]
  exact hk

theorem Only.ownsB {P : Nat → Prop} {a b : World} (h : Only P a b) {base t s n : Nat} {v : Value} {xs : List Value} (ho : a.ownsRow base t s v n xs) (hB : ∀ g, v.ownBlock = some g → ¬ P g) : b.ownsRow base t s v n xs := by
  refine ⟨ho.1, ?_⟩
  rcases ho.2 with h2 | ⟨g, cap, cur, hv, hg, hh, r⟩
  · exact Or.inl h2
  · exact Or.inr ⟨g, cap, cur, hv, hg, by rw [h.block g (lt_of_block hh) (hB g (by rw [hv]; rfl))]; exact hh, r⟩

theorem FrV.new {WB WH : Nat} {o1 o2 : Value} {a b c : World} (h : FrV WB WH o1 o2 a b) (k : Below a.heap.size b c) : FrV WB WH o1 o2 a c := ⟨h.only.thenBelow k (Nat.le_refl _), h.nxt⟩

/-- A cell of a row that is owned. -/
theorem owns_cell {w : World} {base t s n : Nat} {v : Value} {xs : List Value} (h : w.ownsRow base t s v n xs) {k : Nat} {y : Value} (hk : xs[k]? = some y) : ∃ g cap, v = .slice (some ⟨g, 0, none⟩) n cap ∧ w.cell? ⟨g, k, none⟩ = some y := by
  rcases h.2 with ⟨rfl, rfl⟩ | ⟨g, cap, cur, rfl, _, hh, _, _, _, ht⟩
  · have := h.1
    simp at this
    subst this
    cases hk
  · refine ⟨g, cap, rfl, ?_⟩
    rw [← ht, List.getElem?_take] at hk
    split at hk
    · simp [World.cell?, hh]
      simpa using hk
    · cases hk

def slA : Value → Option Addr
  | .slice a _ _ => a
  | _ => none
def slC : Value → Nat
  | .slice _ _ c => c
  | _ => 0
def slB (v : Value) : Nat := match slA v with
  | some a => a.block
  | none => 0

theorem owns_type {w : World} {base t s n : Nat} {v : Value} {xs : List Value} (h : w.ownsRow base t s v n xs) {g : Nat} (hg : v.ownBlock = some g) : base ≤ g ∧ ∃ cur, w.heap[g]? = some (.cells cur t (0, 0)) := by
  rcases h.2 with ⟨rfl, _⟩ | ⟨g', cap, cur, rfl, hge, hh, _⟩
  · simp [Value.ownBlock] at hg
  · simp [Value.ownBlock] at hg
    subst hg
    exact ⟨hge, cur, hh⟩

theorem owns_mono {w : World} {base base' t s n : Nat} {v : Value} {xs : List Value} (h : w.ownsRow base t s v n xs) (hb : base' ≤ base) : w.ownsRow base' t s v n xs := by
  refine ⟨h.1, ?_⟩
  rcases h.2 with h2 | ⟨g, cap, cur, hv, hge, r⟩
  · exact Or.inl h2
  · exact Or.inr ⟨g, cap, cur, hv, by omega, r⟩

end Go.Proofs.Ytgflalfiopnmnab
