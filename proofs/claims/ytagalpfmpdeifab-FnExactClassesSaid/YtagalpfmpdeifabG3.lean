import Derived.Test.YtagalpfmpdeifabG2
import Derived.ProofKit
import Derived.OpenShut
import Derived.ShutString
import Derived.ChangeOld
import Derived.Lib.SmallJoins
import Derived.Deep.Slices
namespace Go.Proofs.Ytagalpfmpdeifab
open Go.RowKit Vl
open Go.ChangeShapes Go.WideShapes Go.ChangeAt Go.Joins

theorem laidOutG : laidOutB Try.prog = true := by kernel_rfl
theorem ownG : ownKnob Try.prog.godebug = none := by kernel_rfl
theorem cellsG_int : Try.prog.cellsOf 3 = 1 := by kernel_rfl
theorem cellsG_int64 : Try.prog.cellsOf 2 = 1 := by kernel_rfl
theorem cellsG_string : Try.prog.cellsOf 9 = 1 := by kernel_rfl
theorem cellsG_val : Try.prog.cellsOf 23 = 4 := by kernel_rfl
theorem cellsG_pair : Try.prog.cellsOf 191 = 8 := by kernel_rfl
theorem cellsG_table : Try.prog.cellsOf 125 = 1 := by kernel_rfl
theorem cellsG_pairs : Try.prog.cellsOf 123 = 1 := by kernel_rfl
theorem cellsG_tables : Try.prog.cellsOf 24 = 1 := by kernel_rfl
theorem cellsG_graph : Try.prog.cellsOf 26 = 5 := by kernel_rfl

theorem four_of {α : Type} {l : List α} (h : l.length = 4) : ∃ a b c d, l = [a, b, c, d] := by
  match l, h with
  | [a, b, c, d], _ => exact ⟨a, b, c, d, rfl⟩
theorem five_of {α : Type} {l : List α} (h : l.length = 5) : ∃ a b c d e, l = [a, b, c, d, e] := by
  match l, h with
  | [a, b, c, d, e], _ => exact ⟨a, b, c, d, e, rfl⟩
theorem eight_of {α : Type} {l : List α} (h : l.length = 8) : ∃ a b c d e f g i, l = [a, b, c, d, e, f, g, i] := by
  match l, h with
  | [a, b, c, d, e, f, g, i], _ => exact ⟨a, b, c, d, e, f, g, i, rfl⟩

instance : Inhabited V := ⟨⟨0, 0, ⟨#[]⟩, 0⟩⟩

/-- The four cells of a value, as a list. -/
def vCells (v : V) : List Value := [.int .i64 v.k, .int .i64 v.n, .string v.s, .int .i64 v.a]

section
variable {H : Type} {enc : TypeId × Value → H} {w : World} {base : Nat} {spare : Nat → Bool} {held : Bool}

theorem opens_int {n : Nat} {t : TypeId} {o : Option (DataW H × List MemPlace)} {c : Value} (ht : Try.prog.underlying t = some (.int .i64)) (h : DataW.trod enc Try.prog w base spare held n t [c] = o) (ho : o.isSome = true) : ∃ k, c = .int .i64 k := by
  obtain ⟨x, hx⟩ := Option.isSome_iff_exists.1 ho
  rw [hx] at h
  obtain ⟨k, e, _, _⟩ := DataW.trod_int ht h
  exact ⟨k, by simpa using e⟩
theorem opens_string {n : Nat} {t : TypeId} {o : Option (DataW H × List MemPlace)} {c : Value} (ht : Try.prog.underlying t = some .string) (h : DataW.trod enc Try.prog w base spare held n t [c] = o) (ho : o.isSome = true) : ∃ s : ByteArray, c = .string s ∧ s.size ≤ 9223372036854775807 := by
  obtain ⟨x, hx⟩ := Option.isSome_iff_exists.1 ho
  rw [hx] at h
  obtain ⟨s, e, _, hs⟩ := DataW.trod_string ht h
  unfold maxLen at hs
  exact ⟨s, by simpa using e, by omega⟩
theorem isSome_at {α : Type} {l : List α} {i : Nat} (h : i < l.length) : (l[i]?).isSome = true := by simp [h]

theorem opens_val {fuel : Nat} {cs : List Value} {x : DataW H × List MemPlace} (h : DataW.trod enc Try.prog w base spare held fuel 23 cs = some x) : ∃ v : V, cs = vCells v ∧ v.s.size ≤ 9223372036854775807 := by
  obtain ⟨xs, n, _, _, hlen, hl, hf⟩ := DataW.trod_struct Try.underlying23 h
  rw [cellsG_val] at hlen
  obtain ⟨c0, c1, c2, c3, rfl⟩ := four_of hlen
  have hl4 : xs.length = 4 := hl
  have f0 : DataW.trod enc Try.prog w base spare held n 3 (([c0, c1, c2, c3].drop 0).take (Try.prog.cellsOf 3)) = xs[0]? := hf 0 _ rfl
  have f1 : DataW.trod enc Try.prog w base spare held n 2 (([c0, c1, c2, c3].drop 1).take (Try.prog.cellsOf 2)) = xs[1]? := hf 1 _ rfl
  have f2 : DataW.trod enc Try.prog w base spare held n 9 (([c0, c1, c2, c3].drop 2).take (Try.prog.cellsOf 9)) = xs[2]? := hf 2 _ rfl
  have f3 : DataW.trod enc Try.prog w base spare held n 3 (([c0, c1, c2, c3].drop 3).take (Try.prog.cellsOf 3)) = xs[3]? := hf 3 _ rfl
  rw [cellsG_int] at f0 f3
  rw [cellsG_int64] at f1
  rw [cellsG_string] at f2
  obtain ⟨k, rfl⟩ := opens_int Try.underlying3 (c := c0) f0 (isSome_at (by omega))
  obtain ⟨m, rfl⟩ := opens_int Try.underlying2 (c := c1) f1 (isSome_at (by omega))
  obtain ⟨s, rfl, hs⟩ := opens_string Try.underlying9 (c := c2) f2 (isSome_at (by omega))
  obtain ⟨a, rfl⟩ := opens_int Try.underlying3 (c := c3) f3 (isSome_at (by omega))
  exact ⟨⟨k, m, s, a⟩, rfl, hs⟩

theorem opens_pair {fuel : Nat} {cs : List Value} {x : DataW H × List MemPlace} (h : DataW.trod enc Try.prog w base spare held fuel 191 cs = some x) : ∃ u v : V, cs = vCells u ++ vCells v ∧ u.s.size ≤ 9223372036854775807 ∧ v.s.size ≤ 9223372036854775807 := by
  obtain ⟨xs, n, _, _, hlen, hl, hf⟩ := DataW.trod_struct Try.underlying191 h
  rw [cellsG_pair] at hlen
  have hl2 : xs.length = 2 := hl
  have f0 : DataW.trod enc Try.prog w base spare held n 23 ((cs.drop 0).take (Try.prog.cellsOf 23)) = xs[0]? := hf 0 _ rfl
  have f1 : DataW.trod enc Try.prog w base spare held n 23 ((cs.drop 4).take (Try.prog.cellsOf 23)) = xs[1]? := hf 1 _ rfl
  rw [cellsG_val] at f0 f1
  obtain ⟨y0, e0⟩ := Option.isSome_iff_exists.1 (isSome_at (l := xs) (i := 0) (by omega))
  obtain ⟨y1, e1⟩ := Option.isSome_iff_exists.1 (isSome_at (l := xs) (i := 1) (by omega))
  rw [e0] at f0
  rw [e1] at f1
  obtain ⟨u, hu, su⟩ := opens_val f0
  obtain ⟨v, hv, sv⟩ := opens_val f1
  refine ⟨u, v, ?_, su, sv⟩
  obtain ⟨c0, c1, c2, c3, c4, c5, c6, c7, rfl⟩ := eight_of hlen
  rw [← hu, ← hv]
  rfl

theorem plain_of {w : World} {a : Addr} {v : Value} (h : w.cell? (a.add 0) = some v) : a = ⟨a.block, a.off, none⟩ := by
  obtain ⟨b, off, spot⟩ := a
  have hspot : spot = none := by simpa [Addr.add] using World.cell?_spot h
  subst hspot
  rfl
theorem add_plain (b o i : Nat) : Addr.add ⟨b, o, none⟩ i = ⟨b, o + i, none⟩ := by
  unfold Addr.add
  by_cases h : i = 0 <;> simp [h]

/-- A slice of pairs that came in. -/
theorem opens_pairs {fuel : Nat} {c : Value} {x : DataW H × List MemPlace} (h : DataW.trod enc Try.prog w base (fun _ => true) held fuel 123 [c] = some x) :
    ∃ (pa : Option Addr) (L C B O : Nat) (K X : Nat → V), c = .slice pa L C ∧ L ≤ 9223372036854775807 ∧ PairsAt w pa L B O K X ∧ ∀ j, j < L → (K j).s.size ≤ 9223372036854775807 ∧ (X j).s.size ≤ 9223372036854775807 := by
  rcases Deep.open_slice Try.underlying123 h with ⟨hcs, _⟩ | ⟨a, len, cap, m, n, D, Pl, hcs, hb, hl, hm, hmm, hx, hall⟩
  · obtain rfl : c = .slice none 0 0 := by simpa using hcs
    exact ⟨none, 0, 0, 0, 0, fun _ => ⟨0, 0, ⟨#[]⟩, 0⟩, fun _ => ⟨0, 0, ⟨#[]⟩, 0⟩, rfl, by omega, ⟨fun h => by omega, fun j hj => by omega, fun j hj => by omega⟩, fun j hj => by omega⟩
  · obtain rfl : c = .slice (some a) len cap := by simpa using hcs
    unfold maxLen at hm
    simp only [if_true] at hmm
    have each : ∀ j, j < len → ∃ q : V × V, (∀ i v, (vCells q.1 ++ vCells q.2)[i]? = some v → w.cell? (a.add (j * 8 + i)) = some v) ∧ q.1.s.size ≤ 9223372036854775807 ∧ q.2.s.size ≤ 9223372036854775807 := by
      intro j hj
      obtain ⟨cs', h1, h2⟩ := hall j (by omega)
      rw [cellsG_pair] at h1
      obtain ⟨u, v, rfl, su, sv⟩ := opens_pair h2
      obtain ⟨_, hlen, hcell⟩ := World.cells?_some h1
      refine ⟨(u, v), fun i y hy => ?_, su, sv⟩
      have hi : i < 8 := by
        rcases Nat.lt_or_ge i 8 with h | h
        · exact h
        · rw [List.getElem?_eq_none (by simp [vCells]; omega)] at hy; cases hy
      have := hcell i hi
      rw [Deep.add_add, hy] at this
      exact this
    obtain ⟨q, hq⟩ := Deep.choose_lt (α := V × V) (n := len) (p := fun j q => (∀ i v, (vCells q.1 ++ vCells q.2)[i]? = some v → w.cell? (a.add (j * 8 + i)) = some v) ∧ q.1.s.size ≤ 9223372036854775807 ∧ q.2.s.size ≤ 9223372036854775807) each
    have hp : 0 < len → a = ⟨a.block, a.off, none⟩ := fun h0 => plain_of (v := .int .i64 (q 0).1.k) (by have := (hq 0 h0).1 0 _ rfl; simpa using this)
    refine ⟨some a, len, cap, a.block, a.off, fun j => (q j).1, fun j => (q j).2, rfl, by omega, ⟨fun h0 => by rw [← hp h0], fun j hj => ?_, fun j hj => ?_⟩, fun j hj => (hq j hj).2⟩
    all_goals
      have g : ∀ i v, (vCells (q j).1 ++ vCells (q j).2)[i]? = some v → w.cell? ⟨a.block, a.off + (j * 8 + i), none⟩ = some v := fun i v hv => by
        have := (hq j hj).1 i v hv
        rw [hp (by omega), add_plain] at this
        exact this
    · exact ⟨g 0 _ rfl, g 1 _ rfl, g 2 _ rfl, g 3 _ rfl⟩
    · exact ⟨g 4 _ rfl, g 5 _ rfl, g 6 _ rfl, g 7 _ rfl⟩

/-- A slice of tables that came in. -/
theorem opens_tables {fuel : Nat} {c : Value} {x : DataW H × List MemPlace} (h : DataW.trod enc Try.prog w base (fun _ => true) held fuel 24 [c] = some x) :
    ∃ (ta : Option Addr) (n cp TB TO : Nat) (A : Nat → Option Addr) (L C RB RO : Nat → Nat) (K X : Nat → Nat → V), c = .slice ta n cp ∧ n ≤ 9223372036854775807 ∧ TabsAt w ta n TB TO A L C RB RO K X ∧ Small 9223372036854775807 n L K X := by
  rcases Deep.open_slice1 Try.underlying24 cellsG_table h with ⟨hcs, _⟩ | ⟨a, len, cap, m, n, V', D, Pl, hcs, hb, hl, hm, hmm, hx, hall⟩
  · obtain rfl : c = .slice none 0 0 := by simpa using hcs
    exact ⟨none, 0, 0, 0, 0, fun _ => none, fun _ => 0, fun _ => 0, fun _ => 0, fun _ => 0, fun _ _ => ⟨0, 0, ⟨#[]⟩, 0⟩, fun _ _ => ⟨0, 0, ⟨#[]⟩, 0⟩, rfl, by omega, ⟨fun h => by omega, fun j hj => by omega, fun j hj => by omega⟩, fun j hj => by omega⟩
  · obtain rfl : c = .slice (some a) len cap := by simpa using hcs
    unfold maxLen at hm
    simp only [if_true] at hmm
    have each : ∀ r, r < len → ∃ y : Option Addr × Nat × Nat × Nat × Nat × (Nat → V) × (Nat → V), w.cell? (a.add r) = some (.slice y.1 y.2.1 y.2.2.1) ∧ y.2.1 ≤ 9223372036854775807 ∧ PairsAt w y.1 y.2.1 y.2.2.2.1 y.2.2.2.2.1 y.2.2.2.2.2.1 y.2.2.2.2.2.2 ∧ ∀ j, j < y.2.1 → (y.2.2.2.2.2.1 j).s.size ≤ 9223372036854775807 ∧ (y.2.2.2.2.2.2 j).s.size ≤ 9223372036854775807 := by
      intro r hr
      obtain ⟨h1, h2⟩ := hall r (by omega)
      obtain ⟨xs, k, _, _, hlen, hl2, hf⟩ := DataW.trod_struct Try.underlying125 h2
      have hl1 : xs.length = 1 := hl2
      have f0 : DataW.trod enc Try.prog w base (fun _ => true) held k 123 (([V' r].drop 0).take (Try.prog.cellsOf 123)) = xs[0]? := hf 0 _ rfl
      rw [cellsG_pairs] at f0
      obtain ⟨y0, e0⟩ := Option.isSome_iff_exists.1 (isSome_at (l := xs) (i := 0) (by omega))
      rw [e0] at f0
      obtain ⟨pa, L, C, B, O, K, X, hc, hL, hP, hS⟩ := opens_pairs (c := V' r) f0
      exact ⟨(pa, L, C, B, O, K, X), by rw [h1, hc], hL, hP, hS⟩
    obtain ⟨y, hy⟩ := Deep.choose_lt (α := Option Addr × Nat × Nat × Nat × Nat × (Nat → V) × (Nat → V)) (n := len) (p := fun r y => w.cell? (a.add r) = some (.slice y.1 y.2.1 y.2.2.1) ∧ y.2.1 ≤ 9223372036854775807 ∧ PairsAt w y.1 y.2.1 y.2.2.2.1 y.2.2.2.2.1 y.2.2.2.2.2.1 y.2.2.2.2.2.2 ∧ ∀ j, j < y.2.1 → (y.2.2.2.2.2.1 j).s.size ≤ 9223372036854775807 ∧ (y.2.2.2.2.2.2 j).s.size ≤ 9223372036854775807) each
    have hp : 0 < len → a = ⟨a.block, a.off, none⟩ := fun h0 => plain_of (hy 0 h0).1
    refine ⟨some a, len, cap, a.block, a.off, fun r => (y r).1, fun r => (y r).2.1, fun r => (y r).2.2.1, fun r => (y r).2.2.2.1, fun r => (y r).2.2.2.2.1, fun r => (y r).2.2.2.2.2.1, fun r => (y r).2.2.2.2.2.2, rfl, by omega, ⟨fun h0 => by rw [← hp h0], fun r hr => ?_, fun r hr => (hy r hr).2.2.1⟩, fun r hr => ⟨(hy r hr).2.1, (hy r hr).2.2.2⟩⟩
    have := (hy r hr).1
    rw [hp (by omega), add_plain] at this
    exact this

set_option maxRecDepth 100000 in
/-- A graph that came in. -/
theorem opens_graph {r : Reach} {b0 : Nat} {v : Value} {d : DataW H} {p : List MemPlace} (hv : Value.okWide Try.prog w r b0 26 v) (h : DataW.Trod enc Try.prog w base (fun _ => true) held 26 v d p) :
    ∃ (u : V) (ta : Option Addr) (n cp TB TO : Nat) (A : Nat → Option Addr) (L C RB RO : Nat → Nat) (K X : Nat → Nat → V), v = .agg #[.int .i64 u.k, .int .i64 u.n, .string u.s, .int .i64 u.a, .slice ta n cp] ∧ u.s.size ≤ 9223372036854775807 ∧ n ≤ 9223372036854775807 ∧ TabsAt w ta n TB TO A L C RB RO K X ∧ Small 9223372036854775807 n L K X := by
  obtain ⟨cs, rfl, hsz⟩ := okWide_struct Try.underlying26 hv
  obtain ⟨fuel, hf0⟩ := h
  obtain ⟨xs, k, _, _, hlen, hl2, hf⟩ := DataW.trod_struct Try.underlying26 hf0
  have hl : xs.length = 2 := hl2
  have hcs : cs.toList.length = 5 := by rw [Array.length_toList, hsz]; exact cellsG_graph
  obtain ⟨c0, c1, c2, c3, c4, e5⟩ := five_of hcs
  obtain rfl : cs = #[c0, c1, c2, c3, c4] := by cases cs; simp_all
  have f0 : DataW.trod enc Try.prog w base (fun _ => true) held k 23 (([c0, c1, c2, c3, c4].drop 0).take (Try.prog.cellsOf 23)) = xs[0]? := hf 0 _ rfl
  have f1 : DataW.trod enc Try.prog w base (fun _ => true) held k 24 (([c0, c1, c2, c3, c4].drop 4).take (Try.prog.cellsOf 24)) = xs[1]? := hf 1 _ rfl
  rw [cellsG_val] at f0
  rw [cellsG_tables] at f1
  obtain ⟨y0, e0⟩ := Option.isSome_iff_exists.1 (isSome_at (l := xs) (i := 0) (by omega))
  obtain ⟨y1, e1⟩ := Option.isSome_iff_exists.1 (isSome_at (l := xs) (i := 1) (by omega))
  rw [e0] at f0
  rw [e1] at f1
  obtain ⟨u, hu, su⟩ := opens_val (cs := [c0, c1, c2, c3]) f0
  obtain ⟨ta, n, cp, TB, TO, A, L, C, RB, RO, K, X, hc, hn, hT, hS⟩ := opens_tables (c := c4) f1
  unfold vCells at hu
  simp only [List.cons.injEq, and_true] at hu
  obtain ⟨rfl, rfl, rfl, rfl⟩ := hu
  subst hc
  exact ⟨u, ta, n, cp, TB, TO, A, L, C, RB, RO, K, X, rfl, su, hn, hT, hS⟩
end

end Go.Proofs.Ytagalpfmpdeifab

namespace Go.Proofs.Ytagalpfmpdeifab
open Go.RowKit Vl

theorem cells8 {w : World} {B : Nat} {a b c d e f g h : Value} {t : TypeId} (H : w.heap[B]? = some (.cells #[a, b, c, d, e, f, g, h] t (0, 0))) :
    w.cell? ⟨B, 0, none⟩ = some a ∧ w.cell? ⟨B, 1, none⟩ = some b ∧ w.cell? ⟨B, 2, none⟩ = some c ∧ w.cell? ⟨B, 3, none⟩ = some d ∧ w.cell? ⟨B, 4, none⟩ = some e ∧ w.cell? ⟨B, 5, none⟩ = some f ∧ w.cell? ⟨B, 6, none⟩ = some g ∧ w.cell? ⟨B, 7, none⟩ = some h ∧ ∀ i, w.frozen? ⟨B, i, none⟩ = false := by
  refine ⟨?_, ?_, ?_, ?_, ?_, ?_, ?_, ?_, fun i => ?_⟩ <;> simp [World.cell?, World.frozen?, H]
theorem put8lo {w : World} {B : Nat} {a b c d e f g h : Value} {t : TypeId} (H : w.heap[B]? = some (.cells #[a, b, c, d, e, f, g, h] t (0, 0))) (a' b' c' d' : Value) :
    ((((w.setCell ⟨B, 0, none⟩ a').setCell ⟨B, 1, none⟩ b').setCell ⟨B, 2, none⟩ c').setCell ⟨B, 3, none⟩ d').heap[B]? = some (.cells #[a', b', c', d', e, f, g, h] t (0, 0)) := by
  simp [World.setCell, Array.getElem?_modify, H]
theorem put8hi {w : World} {B : Nat} {a b c d e f g h : Value} {t : TypeId} (H : w.heap[B]? = some (.cells #[a, b, c, d, e, f, g, h] t (0, 0))) (a' b' c' d' : Value) :
    ((((w.setCell ⟨B, 4, none⟩ a').setCell ⟨B, 5, none⟩ b').setCell ⟨B, 6, none⟩ c').setCell ⟨B, 7, none⟩ d').heap[B]? = some (.cells #[a, b, c, d, a', b', c', d'] t (0, 0)) := by
  simp [World.setCell, Array.getElem?_modify, H]
theorem set4_below {w : World} {B i j k l : Nat} {a' b' c' d' : Value} : Below B w ((((w.setCell ⟨B, i, none⟩ a').setCell ⟨B, j, none⟩ b').setCell ⟨B, k, none⟩ c').setCell ⟨B, l, none⟩ d') :=
  ((((Below.refl B w).setCell (Nat.le_refl _) _).setCell (Nat.le_refl _) _).setCell (Nat.le_refl _) _).setCell (Nat.le_refl _) _
theorem set4_far {w : World} {B b i j k l : Nat} {a' b' c' d' : Value} (h : b ≠ B) : ((((w.setCell ⟨B, i, none⟩ a').setCell ⟨B, j, none⟩ b').setCell ⟨B, k, none⟩ c').setCell ⟨B, l, none⟩ d').heap[b]? = w.heap[b]? := by
  rw [Below.heap_setCell _ _ _ _ h, Below.heap_setCell _ _ _ _ h, Below.heap_setCell _ _ _ _ h, Below.heap_setCell _ _ _ _ h]
theorem blk_lt {w : World} {b : Nat} {o : Obj} (h : w.heap[b]? = some o) : b < w.heap.size := by
  rcases Nat.lt_or_ge b w.heap.size with h' | h'
  · exact h'
  · rw [Array.getElem?_eq_none h'] at h; cases h

theorem alloc3 (w : World) (a b c : Obj) : (((w.alloc a).alloc b).alloc c).heap[w.heap.size]? = some a ∧ (((w.alloc a).alloc b).alloc c).heap[w.heap.size + 1]? = some b ∧ (((w.alloc a).alloc b).alloc c).heap[w.heap.size + 2]? = some c ∧ (((w.alloc a).alloc b).alloc c).heap.size = w.heap.size + 3 ∧ Below w.heap.size w (((w.alloc a).alloc b).alloc c) := by
  have e1 : (w.alloc a).heap.size = w.heap.size + 1 := by simp
  have e2 : ((w.alloc a).alloc b).heap.size = w.heap.size + 2 := by simp
  have e3 : (((w.alloc a).alloc b).alloc c).heap.size = w.heap.size + 3 := by simp
  refine ⟨?_, ?_, ?_, e3, (((Below.refl _ _).alloc (Nat.le_refl _) _).alloc (by omega) _).alloc (by omega) _⟩
  · rw [Below.heap_alloc _ _ _ (by omega), Below.heap_alloc _ _ _ (by omega)]; exact heap_alloc_new _ _
  · rw [Below.heap_alloc _ _ _ (by omega), ← e1]; exact heap_alloc_new _ _
  · rw [← e2]; exact heap_alloc_new _ _

set_option maxHeartbeats 1000000 in
set_option maxRecDepth 100000 in
/-- 'toPair'. -/
theorem toPair_any (u v : V) (w : World) :
    Calls Try.prog 115 #[.agg #[.int .i64 u.k, .int .i64 u.n, .string u.s, .int .i64 u.a, .int .i64 v.k, .int .i64 v.n, .string v.s, .int .i64 v.a]] w fun e w' => e = .returned (.agg #[.int .i64 u.k, .int .i64 u.n, .string u.s, .int .i64 u.a, .int .i64 v.k, .int .i64 v.n, .string v.s, .int .i64 v.a]) ∧ Below w.heap.size w w' := by
  have A3 : Hid _ := alloc3 w (.cells #[.int .i64 u.k, .int .i64 u.n, .string u.s, .int .i64 u.a, .int .i64 v.k, .int .i64 v.n, .string v.s, .int .i64 v.a] 191) (.cells #[.int .i64 0, .int .i64 0, .string ⟨#[]⟩, .int .i64 0, .int .i64 0, .int .i64 0, .string ⟨#[]⟩, .int .i64 0] 63) (.cells #[.int .i64 0, .int .i64 0, .string ⟨#[]⟩, .int .i64 0, .int .i64 0, .int .i64 0, .string ⟨#[]⟩, .int .i64 0] 63)
  go_enter Try.func115, Try.ntmps115
  go_wp2_with fail
  refine (toVal_any u _).mono ?_
  rintro e w1 ⟨rfl, hb1⟩
  obtain ⟨p0, p1, p2, ps, pb⟩ := A3.out
  have P0 : Hid (w1.heap[w.heap.size]? = _) := (hb1.block _ (by omega)).trans p0
  have P1 : Hid (w1.heap[w.heap.size + 1]? = _) := (hb1.block _ (by omega)).trans p1
  have P2 : Hid (w1.heap[w.heap.size + 2]? = _) := (hb1.block _ (by omega)).trans p2
  have HW1 : Hid (Below w.heap.size w w1) := grw pb hb1
  clear hb1 p0 p1 p2 ps pb A3
  obtain ⟨c0, c1, c2, c3, c4, c5, c6, c7, z0⟩ := cells8 P2.out
  obtain ⟨d0, d1, d2, d3, d4, d5, d6, d7, _⟩ := cells8 P0.out
  go_wp2_with fail
  refine (toVal_any v _).mono ?_
  rintro e w2 ⟨rfl, hb2⟩
  have Q2 : Hid (w2.heap[w.heap.size + 2]? = some (.cells #[.int .i64 u.k, .int .i64 u.n, .string u.s, .int .i64 u.a, .int .i64 0, .int .i64 0, .string ⟨#[]⟩, .int .i64 0] 63 (0, 0))) := by
    rw [hb2.block _ (by simp [World.setCell]; exact blk_lt P2.out)]; exact put8lo P2.out _ _ _ _
  have Q1 : Hid (w2.heap[w.heap.size + 1]? = some (.cells #[.int .i64 0, .int .i64 0, .string ⟨#[]⟩, .int .i64 0, .int .i64 0, .int .i64 0, .string ⟨#[]⟩, .int .i64 0] 63 (0, 0))) := by
    rw [hb2.block _ (by simp [World.setCell]; exact blk_lt P1.out)]; exact (set4_far (by omega)).trans P1.out
  have HW2 : Hid (Below w.heap.size w w2) := grw (HW1.out.trans (set4_below.mono (by omega))) hb2
  clear hb2 P0 P1 P2 HW1 c0 c1 c2 c3 c4 c5 c6 c7 z0 d0 d1 d2 d3 d4 d5 d6 d7
  obtain ⟨c0, c1, c2, c3, c4, c5, c6, c7, z0⟩ := cells8 Q2.out
  obtain ⟨d0, d1, d2, d3, d4, d5, d6, d7, z1⟩ := cells8 Q1.out
  go_wp2
  have F := put8hi (put8lo ((set4_far (w := w2) (B := w.heap.size + 2) (i := 4) (j := 5) (k := 6) (l := 7) (a' := .int .i64 v.k) (b' := .int .i64 v.n) (c' := .string v.s) (d' := .int .i64 v.a) (show w.heap.size + 1 ≠ w.heap.size + 2 by omega)).trans Q1.out) (.int .i64 u.k) (.int .i64 u.n) (.string u.s) (.int .i64 u.a)) (.int .i64 v.k) (.int .i64 v.n) (.string v.s) (.int .i64 v.a)
  have HB : Hid (Below w.heap.size w _) := ((HW2.out.trans (set4_below (w := w2) (B := w.heap.size + 2) (i := 4) (j := 5) (k := 6) (l := 7) (a' := .int .i64 v.k) (b' := .int .i64 v.n) (c' := .string v.s) (d' := .int .i64 v.a) |>.mono (by omega))).trans ((set4_below (B := w.heap.size + 1) (i := 0) (j := 1) (k := 2) (l := 3) (a' := .int .i64 u.k) (b' := .int .i64 u.n) (c' := .string u.s) (d' := .int .i64 u.a)).mono (by omega))).trans ((set4_below (B := w.heap.size + 1) (i := 4) (j := 5) (k := 6) (l := 7) (a' := .int .i64 v.k) (b' := .int .i64 v.n) (c' := .string v.s) (d' := .int .i64 v.a)).mono (by omega))
  obtain ⟨q0, q1, q2, q3, q4, q5, q6, q7, _⟩ := cells8 F
  refine bodyPost_ret (v := .agg #[.int .i64 u.k, .int .i64 u.n, .string u.s, .int .i64 u.a, .int .i64 v.k, .int .i64 v.n, .string v.s, .int .i64 v.a]) (by simp [results, Try.results115, go_sem, q0, q1, q2, q3, q4, q5, q6, q7]) rfl ⟨rfl, HB.out⟩

/-- 'make' of n elements of whatever size. -/
theorem run_make_n (t e : TypeId) (z : Value) (size bytes : Nat) (ht : Try.prog.underlying t = some (.slice e)) (hinfo : (Try.prog.info? e).map (fun i => (i.zero, i.size, i.bytes)) = some (some z, size, bytes))
    (n : Nat) (hbytes : bytes * n ≤ 281474976710656) (h63 : n ≤ 9223372036854775807) (w : World) :
    (Instr.makeSlice t (.int .i64 (n : Int)) (.int .i64 (n : Int))).run Try.prog w = .ok (.slice (some ⟨w.heap.size, 0, none⟩) n n) (w.alloc (.cells (madeCells z.cells (n * size)) e)) := by
  obtain ⟨i, hi, hz, hs, hb⟩ := info_parts hinfo
  subst hs hb
  have hb' : (i.bytes : Int) * (n : Int) ≤ 281474976710656 := by
    have h : ((i.bytes * n : Nat) : Int) ≤ 281474976710656 := by omega
    rwa [Int.natCast_mul] at h
  have hr := run_make (P := Try.prog) w t e i z ht hi hz .i64 .i64 n n (by omega) (Int.le_refl _) hb' (by omega)
  simp only [Int.toNat_natCast] at hr
  exact hr
theorem row_made (w : World) (zc : Array Value) (n : Nat) (t : TypeId) : (w.alloc (.cells (madeCells zc n) t)).rowIs w.heap.size t n (fun i => zc[i % zc.size]!) :=
  ⟨_, heap_alloc_new _ _, size_madeCells _ _, fun i hi => by simp [madeCells, hi]⟩

/-- Cell i of pairs. -/
def pc (K X : Nat → V) (i : Nat) : Value :=
  if i % 8 = 0 then .int .i64 (K (i / 8)).k else if i % 8 = 1 then .int .i64 (K (i / 8)).n else if i % 8 = 2 then .string (K (i / 8)).s else if i % 8 = 3 then .int .i64 (K (i / 8)).a
  else if i % 8 = 4 then .int .i64 (X (i / 8)).k else if i % 8 = 5 then .int .i64 (X (i / 8)).n else if i % 8 = 6 then .string (X (i / 8)).s else .int .i64 (X (i / 8)).a

theorem pc_at (K X : Nat → V) (c : Nat) : pc K X (c * 8) = .int .i64 (K c).k ∧ pc K X (c * 8 + 1) = .int .i64 (K c).n ∧ pc K X (c * 8 + 2) = .string (K c).s ∧ pc K X (c * 8 + 3) = .int .i64 (K c).a ∧
    pc K X (c * 8 + 4) = .int .i64 (X c).k ∧ pc K X (c * 8 + 5) = .int .i64 (X c).n ∧ pc K X (c * 8 + 6) = .string (X c).s ∧ pc K X (c * 8 + 7) = .int .i64 (X c).a := by
  have h : ∀ j, j < 8 → (c * 8 + j) % 8 = j ∧ (c * 8 + j) / 8 = c := fun j hj => by omega
  refine ⟨?_, ?_, ?_, ?_, ?_, ?_, ?_, ?_⟩
  · have := h 0 (by omega); simp only [Nat.add_zero] at this; simp [pc, this]
  · simp [pc, h 1 (by omega)]
  · simp [pc, h 2 (by omega)]
  · simp [pc, h 3 (by omega)]
  · simp [pc, h 4 (by omega)]
  · simp [pc, h 5 (by omega)]
  · simp [pc, h 6 (by omega)]
  · simp [pc, h 7 (by omega)]

/-- A row that holds the first c pairs. -/
def PRow (w : World) (B n c : Nat) (K X : Nat → V) (z : Nat → Value) : Prop := w.rowIs B 63 (n * 8) (fun i => if i < c * 8 then pc K X i else z i)

theorem PRow.pairs {w : World} {B n c : Nat} {K X : Nat → V} {z : Nat → Value} (h : PRow w B n c K X z) {pa : Option Addr} (ha : 0 < c → pa = some ⟨B, 0, none⟩) (hc : c ≤ n) : PairsAt w pa c B 0 K X := by
  refine ⟨ha, fun j hj => ?_, fun j hj => ?_⟩
  all_goals
    have g : ∀ i, i < 8 → w.cell? ⟨B, j * 8 + i, none⟩ = some (pc K X (j * 8 + i)) := fun i hi => by
      have := h.cell (i := j * 8 + i) (by omega)
      rw [this, if_pos (by omega)]
    obtain ⟨p0, p1, p2, p3, p4, p5, p6, p7⟩ := pc_at K X j
    have g0 := g 0 (by omega); have g1 := g 1 (by omega); have g2 := g 2 (by omega); have g3 := g 3 (by omega); have g4 := g 4 (by omega); have g5 := g 5 (by omega); have g6 := g 6 (by omega); have g7 := g 7 (by omega)
    simp only [Nat.add_zero] at g0
    rw [p0] at g0; rw [p1] at g1; rw [p2] at g2; rw [p3] at g3; rw [p4] at g4; rw [p5] at g5; rw [p6] at g6; rw [p7] at g7
    rw [Nat.zero_add]
  · exact ⟨g0, g1, g2, g3⟩
  · exact ⟨g4, g5, g6, g7⟩

/-- One pair more. -/
theorem PRow.put {w : World} {B n c : Nat} {K X : Nat → V} {z : Nat → Value} (h : PRow w B n c K X z) :
    PRow ((((((((w.setCell ⟨B, c * 8, none⟩ (.int .i64 (K c).k)).setCell ⟨B, c * 8 + 1, none⟩ (.int .i64 (K c).n)).setCell ⟨B, c * 8 + 2, none⟩ (.string (K c).s)).setCell ⟨B, c * 8 + 3, none⟩ (.int .i64 (K c).a)).setCell ⟨B, c * 8 + 4, none⟩ (.int .i64 (X c).k)).setCell ⟨B, c * 8 + 5, none⟩ (.int .i64 (X c).n)).setCell ⟨B, c * 8 + 6, none⟩ (.string (X c).s)).setCell ⟨B, c * 8 + 7, none⟩ (.int .i64 (X c).a)) B n (c + 1) K X z := by
  refine (((((((((show w.rowIs B _ _ _ from h).set (c * 8) _).set (c * 8 + 1) _).set (c * 8 + 2) _).set (c * 8 + 3) _).set (c * 8 + 4) _).set (c * 8 + 5) _).set (c * 8 + 6) _).set (c * 8 + 7) _).congr (fun i _ => ?_)
  obtain ⟨p0, p1, p2, p3, p4, p5, p6, p7⟩ := pc_at K X c
  by_cases e7 : i = c * 8 + 7
  · subst e7; rw [if_pos rfl, if_pos (by omega), p7]
  rw [if_neg e7]
  by_cases e6 : i = c * 8 + 6
  · subst e6; rw [if_pos rfl, if_pos (by omega), p6]
  rw [if_neg e6]
  by_cases e5 : i = c * 8 + 5
  · subst e5; rw [if_pos rfl, if_pos (by omega), p5]
  rw [if_neg e5]
  by_cases e4 : i = c * 8 + 4
  · subst e4; rw [if_pos rfl, if_pos (by omega), p4]
  rw [if_neg e4]
  by_cases e3 : i = c * 8 + 3
  · subst e3; rw [if_pos rfl, if_pos (by omega), p3]
  rw [if_neg e3]
  by_cases e2 : i = c * 8 + 2
  · subst e2; rw [if_pos rfl, if_pos (by omega), p2]
  rw [if_neg e2]
  by_cases e1 : i = c * 8 + 1
  · subst e1; rw [if_pos rfl, if_pos (by omega), p1]
  rw [if_neg e1]
  by_cases e0 : i = c * 8
  · subst e0; rw [if_pos rfl, if_pos (by omega), p0]
  rw [if_neg e0]
  by_cases hl : i < c * 8
  · rw [if_pos hl, if_pos (by omega)]
  · rw [if_neg hl, if_neg (by omega)]
theorem PRow.below {w w' : World} {B n c : Nat} {K X : Nat → V} {z : Nat → Value} (h : PRow w B n c K X z) (hb : Below w.heap.size w w') : PRow w' B n c K X z := h.of_block (hb.block B h.lt)

theorem Try.info63 : (Try.prog.info? 63).map (fun i => (i.zero, i.size, i.bytes)) = some (some (.agg #[.int .i64 0, .int .i64 0, .string ⟨#[]⟩, .int .i64 0, .int .i64 0, .int .i64 0, .string ⟨#[]⟩, .int .i64 0]), 8, 80) := by kernel_rfl

set_option maxHeartbeats 1000000 in
set_option maxRecDepth 100000 in
/-- 'toPairS'. -/
theorem toPairS_any (pa : Option Addr) (L C B O : Nat) (K X : Nat → V) (w : World) (hL : L ≤ 1048576) (HP : Hid (PairsAt w pa L B O K X)) :
    Calls Try.prog 100 #[.slice pa L C] w fun e w' => e = .returned (.slice (some ⟨w.heap.size, 0, none⟩) L L) ∧ PairsAt w' (some ⟨w.heap.size, 0, none⟩) L w.heap.size 0 K X ∧ (∃ f, w'.rowIs w.heap.size 63 (L * 8) f) ∧ w.heap.size < w'.heap.size ∧ Below w.heap.size w w' := by
  have hmk := run_make_n 59 63 _ 8 80 Try.underlying59 Try.info63 L (by omega) (by omega)
  obtain ⟨z, hz⟩ : ∃ z : Nat → Value, PRow (w.alloc (.cells (madeCells (Value.agg #[.int .i64 0, .int .i64 0, .string ⟨#[]⟩, .int .i64 0, .int .i64 0, .int .i64 0, .string ⟨#[]⟩, .int .i64 0]).cells (L * 8)) 63)) w.heap.size L 0 K X z :=
    ⟨_, (row_made w _ (L * 8) 63).congr (fun i _ => by rw [if_neg (by omega)])⟩
  have HZ : Hid _ := hz
  clear hz
  go_enter Try.func100, Try.ntmps100
  go_wp2
  clear hmk
  go_loopw [4] (fun i wr => ∃ c : Nat, c ≤ L ∧ i = .int .i64 c ∧ Hid (PRow wr w.heap.size L c K X z) ∧ Hid (Below w.heap.size w wr)) (fun i _ => L - (intOf i).toNat)
  case atStart => exact ⟨0, Nat.zero_le _, rfl, HZ, (Below.refl _ _).alloc (Nat.le_refl _) _⟩
  case round =>
    obtain ⟨c, hc, rfl, HR, HW⟩ := hrel
    clear HZ
    by_cases hlt : c < L
    · obtain rfl := HP.out.top (by omega)
      obtain ⟨⟨k0, k1, k2, k3⟩, ⟨x0, x1, x2, x3⟩⟩ := (HP.out.below HW.out).cells hlt
      go_wp2_with fail
      refine (toPair_any (K c) (X c) _).mono ?_
      rintro e w1 ⟨rfl, hb1⟩
      have HR1 : Hid (PRow w1 w.heap.size L c K X z) := HR.out.below hb1
      have HW1 : Hid (Below w.heap.size w w1) := grw HW.out hb1
      clear hb1 HW HR k0 k1 k2 k3 x0 x1 x2 x3
      have c0 := HR1.out.cell (i := c * 8) (by omega)
      have c1 := HR1.out.cell (i := c * 8 + 1) (by omega)
      have c2 := HR1.out.cell (i := c * 8 + 2) (by omega)
      have c3 := HR1.out.cell (i := c * 8 + 3) (by omega)
      have c4 := HR1.out.cell (i := c * 8 + 4) (by omega)
      have c5 := HR1.out.cell (i := c * 8 + 5) (by omega)
      have c6 := HR1.out.cell (i := c * 8 + 6) (by omega)
      have c7 := HR1.out.cell (i := c * 8 + 7) (by omega)
      have z0 := HR1.out.frozen
      go_wp2
      go_roundw
      case rel =>
        refine ⟨c + 1, by omega, by go_num, HR1.out.put, ?_⟩
        exact (((((((HW1.out.setCell (Nat.le_refl _) _).setCell (Nat.le_refl _) _).setCell (Nat.le_refl _) _).setCell (Nat.le_refl _) _).setCell (Nat.le_refl _) _).setCell (Nat.le_refl _) _).setCell (Nat.le_refl _) _).setCell (Nat.le_refl _) _
      case measure => simp [intOf]; omega
    · obtain rfl : c = L := by omega
      go_wp2
      go_ret
      exact ⟨rfl, HR.out.pairs (fun _ => rfl) (Nat.le_refl _), ⟨_, (show World.rowIs _ _ _ _ _ from HR.out)⟩, HR.out.lt, HW.out⟩

end Go.Proofs.Ytagalpfmpdeifab

namespace Go.Proofs.Ytagalpfmpdeifab
open Go.RowKit Vl

theorem VAt.same {w w' : World} {b o : Nat} {v : V} (h : VAt w b o v) (e : w'.heap[b]? = w.heap[b]?) : VAt w' b o v :=
  ⟨by rw [World.cell?_of_block e]; exact h.1, by rw [World.cell?_of_block e]; exact h.2.1, by rw [World.cell?_of_block e]; exact h.2.2.1, by rw [World.cell?_of_block e]; exact h.2.2.2⟩
theorem PairsAt.same {w w' : World} {pa : Option Addr} {L B O : Nat} {K X : Nat → V} (h : PairsAt w pa L B O K X) (e : w'.heap[B]? = w.heap[B]?) : PairsAt w' pa L B O K X :=
  ⟨h.top, fun c hc => (h.key c hc).same e, fun c hc => (h.val c hc).same e⟩
theorem one_at {w : World} {B : Nat} {a : Value} {t : TypeId} (H : w.heap[B]? = some (.cells #[a] t (0, 0))) : w.cell? ⟨B, 0, none⟩ = some a ∧ ∀ i, w.frozen? ⟨B, i, none⟩ = false := by
  refine ⟨?_, fun i => ?_⟩ <;> simp [World.cell?, World.frozen?, H]
theorem one_put {w : World} {B : Nat} {a : Value} {t : TypeId} (H : w.heap[B]? = some (.cells #[a] t (0, 0))) (a' : Value) : (w.setCell ⟨B, 0, none⟩ a').heap[B]? = some (.cells #[a'] t (0, 0)) := by
  simp [World.setCell, Array.getElem?_modify, H]

set_option maxHeartbeats 1000000 in
set_option maxRecDepth 100000 in
/-- 'toTable'. -/
theorem toTable_any (pa : Option Addr) (L C B O : Nat) (K X : Nat → V) (w : World) (hL : L ≤ 1048576) (HP : Hid (PairsAt w pa L B O K X)) :
    Calls Try.prog 76 #[.agg #[.slice pa L C]] w fun e w' => (∃ G, e = .returned (.agg #[.slice (some ⟨G, 0, none⟩) L L]) ∧ w.heap.size ≤ G ∧ G < w'.heap.size ∧ PairsAt w' (some ⟨G, 0, none⟩) L G 0 K X ∧ ∃ f, w'.rowIs G 63 (L * 8) f) ∧ Below w.heap.size w w' := by
  have A3 : Hid _ := alloc3 w (.cells #[.slice pa L C] 125) (.cells #[.slice none 0 0] 61) (.cells #[.slice none 0 0] 61)
  have hto := toPairS_any pa L C B O K X _ hL (HP.out.below A3.out.2.2.2.2)
  go_enter Try.func76, Try.ntmps76
  go_wp2_with fail
  refine hto.mono ?_
  clear hto
  rintro e w1 ⟨rfl, hP1, hf1, hlt1, hb1⟩
  obtain ⟨p0, p1, p2, ps, pb⟩ := A3.out
  have P1 : Hid (w1.heap[w.heap.size + 1]? = some (.cells #[.slice none 0 0] 61 (0, 0))) := (hb1.block _ (by omega)).trans p1
  have P2 : Hid (w1.heap[w.heap.size + 2]? = some (.cells #[.slice none 0 0] 61 (0, 0))) := (hb1.block _ (by omega)).trans p2
  have HW1 : Hid (Below w.heap.size w w1) := grw pb hb1
  rw [ps] at hP1 hf1 hlt1 ⊢
  have HF1 : Hid (∃ f, w1.rowIs (w.heap.size + 3) 63 (L * 8) f) := hf1
  have HP1 : Hid (PairsAt w1 (some ⟨w.heap.size + 3, 0, none⟩) L (w.heap.size + 3) 0 K X) := hP1
  have hsz : Hid (w.heap.size + 3 < w1.heap.size) := hlt1
  clear hb1 p0 p1 p2 ps pb A3 hP1 hlt1 hf1
  obtain ⟨c0, z0⟩ := one_at P2.out
  obtain ⟨d0, z1⟩ := one_at P1.out
  go_wp2
  have F := one_put ((Below.heap_setCell w1 ⟨w.heap.size + 2, 0, none⟩ (.slice (some ⟨w.heap.size + 3, 0, none⟩) L L) (w.heap.size + 1) (show w.heap.size + 1 ≠ w.heap.size + 2 by omega)).trans P1.out) (.slice (some ⟨w.heap.size + 3, 0, none⟩) L L)
  obtain ⟨q0, _⟩ := one_at F
  refine bodyPost_ret (v := .agg #[.slice (some ⟨w.heap.size + 3, 0, none⟩) L L]) (by simp [results, Try.results76, go_sem, q0]) rfl ⟨⟨w.heap.size + 3, rfl, by omega, ?_, ?_, ?_⟩, ?_⟩
  · simp only [World.setCell, Array.size_modify]; exact hsz.out
  · refine HP1.out.same ?_
    rw [Below.heap_setCell _ _ _ _ (show w.heap.size + 3 ≠ w.heap.size + 1 by omega), Below.heap_setCell _ _ _ _ (show w.heap.size + 3 ≠ w.heap.size + 2 by omega)]
  · obtain ⟨f, hf⟩ := HF1.out
    refine ⟨f, hf.of_block ?_⟩
    rw [Below.heap_setCell _ _ _ _ (show w.heap.size + 3 ≠ w.heap.size + 1 by omega), Below.heap_setCell _ _ _ _ (show w.heap.size + 3 ≠ w.heap.size + 2 by omega)]
  · exact (HW1.out.setCell (by show w.heap.size ≤ w.heap.size + 2; omega) _).setCell (by show w.heap.size ≤ w.heap.size + 1; omega) _

/-- A row that holds the first c tables. -/
def TRow (w : World) (B n c : Nat) (G L : Nat → Nat) (z : Nat → Value) : Prop := w.rowIs B 61 n (fun i => if i < c then .slice (some ⟨G i, 0, none⟩) (L i) (L i) else z i)

theorem TRow.put {w : World} {B n c : Nat} {G L : Nat → Nat} {z : Nat → Value} (h : TRow w B n c G L z) (g : Nat) :
    TRow (w.setCell ⟨B, c, none⟩ (.slice (some ⟨g, 0, none⟩) (L c) (L c))) B n (c + 1) (fun i => if i = c then g else G i) L z := by
  refine ((show w.rowIs B _ _ _ from h).set c _).congr (fun i _ => ?_)
  by_cases e : i = c
  · subst e; rw [if_pos rfl, if_pos (by omega)]; simp
  · rw [if_neg e]
    by_cases hl : i < c
    · rw [if_pos hl, if_pos (by omega)]; simp [e]
    · rw [if_neg hl, if_neg (by omega)]

/-- What a copy of tables is made of: each table's pairs in a block of their own. -/
structure Copied (w0 w : World) (c : Nat) (G L : Nat → Nat) (K X : Nat → Nat → V) : Prop where
  new : ∀ r, r < c → w0.heap.size < G r ∧ G r < w.heap.size
  inc : ∀ i j, i < j → j < c → G i < G j
  row : ∀ r, r < c → PairsAt w (some ⟨G r, 0, none⟩) (L r) (G r) 0 (K r) (X r)
  blk : ∀ r, r < c → ∃ f, w.rowIs (G r) 63 (L r * 8) f

theorem Copied.below {w0 w w' : World} {c : Nat} {G L : Nat → Nat} {K X : Nat → Nat → V} (h : Copied w0 w c G L K X) (hb : Below w.heap.size w w') : Copied w0 w' c G L K X :=
  ⟨fun r hr => ⟨(h.new r hr).1, Nat.lt_of_lt_of_le (h.new r hr).2 hb.size⟩, h.inc, fun r hr => (h.row r hr).below hb, fun r hr => by obtain ⟨f, hf⟩ := h.blk r hr; exact ⟨f, hf.of_block (hb.block _ hf.lt)⟩⟩
theorem Copied.set {w0 w : World} {c : Nat} {G L : Nat → Nat} {K X : Nat → Nat → V} (h : Copied w0 w c G L K X) (i : Nat) (v : Value) : Copied w0 (w.setCell ⟨w0.heap.size, i, none⟩ v) c G L K X :=
  ⟨fun r hr => ⟨(h.new r hr).1, by simp only [World.setCell, Array.size_modify]; exact (h.new r hr).2⟩, h.inc, fun r hr => (h.row r hr).same (Below.heap_setCell _ _ _ _ (by have := (h.new r hr).1; show G r ≠ w0.heap.size; omega)), fun r hr => by obtain ⟨f, hf⟩ := h.blk r hr; exact ⟨f, hf.of_block (Below.heap_setCell _ _ _ _ (by have := (h.new r hr).1; show G r ≠ w0.heap.size; omega))⟩⟩
theorem Copied.snoc {w0 w : World} {c : Nat} {G L : Nat → Nat} {K X : Nat → Nat → V} (h : Copied w0 w c G L K X) {g : Nat} (h0 : w0.heap.size < g) (h1 : g < w.heap.size) (hg : ∀ r, r < c → G r < g) (hr : PairsAt w (some ⟨g, 0, none⟩) (L c) g 0 (K c) (X c)) (hf : ∃ f, w.rowIs g 63 (L c * 8) f) :
    Copied w0 w (c + 1) (fun i => if i = c then g else G i) L K X := by
  refine ⟨fun r hr => ?_, fun i j hij hj => ?_, fun r hr' => ?_, fun r hr' => ?_⟩
  · by_cases e : r = c
    · simp [e, h0, h1]
    · simp [e]; exact h.new r (by omega)
  · by_cases e : j = c
    · have e' : i ≠ c := by omega
      simp [e, e']; exact hg i (by omega)
    · have e' : i ≠ c := by omega
      simp [e, e']; exact h.inc i j hij (by omega)
  · by_cases e : r = c
    · subst e; simp; exact hr
    · simp [e]; exact h.row r (by omega)
  · by_cases e : r = c
    · subst e; simp; exact hf
    · simp [e]; exact h.blk r (by omega)

theorem Try.info61 : (Try.prog.info? 61).map (fun i => (i.zero, i.size, i.bytes)) = some (some (.agg #[.slice none 0 0]), 1, 24) := by kernel_rfl

set_option maxHeartbeats 1000000 in
set_option maxRecDepth 100000 in
/-- 'toTableS'. -/
theorem toTableS_any (ta : Option Addr) (n cp TB TO : Nat) (A : Nat → Option Addr) (L C RB RO : Nat → Nat) (K X : Nat → Nat → V) (w : World) (hn : n ≤ 1048576)
    (HS : Hid (Small 1048576 n L K X)) (HT : Hid (TabsAt w ta n TB TO A L C RB RO K X)) :
    Calls Try.prog 46 #[.slice ta n cp] w fun e w' => e = .returned (.slice (some ⟨w.heap.size, 0, none⟩) n n) ∧ (∃ G, Copied w w' n G L K X ∧ w'.rowIs w.heap.size 61 n (fun i => .slice (some ⟨G i, 0, none⟩) (L i) (L i))) ∧ Below w.heap.size w w' := by
  have hmk := run_make_n 30 61 _ 1 24 Try.underlying30 Try.info61 n (by omega) (by omega)
  simp only [Nat.mul_one] at hmk
  obtain ⟨z, hz⟩ : ∃ z : Nat → Value, TRow (w.alloc (.cells (madeCells (Value.agg #[.slice none 0 0]).cells n) 61)) w.heap.size n 0 (fun _ => 0) L z :=
    ⟨_, (row_made w _ n 61).congr (fun i _ => by rw [if_neg (by omega)])⟩
  have HZ : Hid _ := hz
  clear hz
  go_enter Try.func46, Try.ntmps46
  go_wp2
  clear hmk
  go_loopw [4] (fun i wr => ∃ (c : Nat) (G : Nat → Nat), c ≤ n ∧ i = .int .i64 c ∧ Hid (TRow wr w.heap.size n c G L z) ∧ Hid (Copied w wr c G L K X) ∧ Hid (Below w.heap.size w wr)) (fun i _ => n - (intOf i).toNat)
  case atStart => exact ⟨0, _, Nat.zero_le _, rfl, HZ, ⟨fun r hr => by omega, fun i j _ hj => by omega, fun r hr => by omega, fun r hr => by omega⟩, (Below.refl _ _).alloc (Nat.le_refl _) _⟩
  case round =>
    obtain ⟨c, G, hc, rfl, HR, HC, HW⟩ := hrel
    clear HZ
    by_cases hlt : c < n
    · obtain rfl := HT.out.top (by omega)
      have t0 := (HT.out.below HW.out).tab c hlt
      have hto := toTable_any (A c) (L c) (C c) (RB c) (RO c) (K c) (X c) wr (HS.out c hlt).1 ((HT.out.below HW.out).row c hlt)
      go_wp2_with fail
      refine hto.mono ?_
      clear hto
      rintro e w1 ⟨⟨g, rfl, hg0, hg1, hgp, hgf⟩, hb1⟩
      have HR1 : Hid (TRow w1 w.heap.size n c G L z) := (show World.rowIs _ _ _ _ _ from HR.out).of_block (hb1.block _ (show World.rowIs _ _ _ _ _ from HR.out).lt)
      have hlt0 : w.heap.size < wr.heap.size := (show World.rowIs _ _ _ _ _ from HR.out).lt
      have HC1 : Hid (Copied w w1 (c + 1) (fun i => if i = c then g else G i) L K X) := (HC.out.below hb1).snoc (by omega) hg1 (fun r hr => by have := (HC.out.new r hr).2; omega) hgp hgf
      have HW1 : Hid (Below w.heap.size w w1) := grw HW.out hb1
      have c0 := (show World.rowIs _ _ _ _ _ from HR1.out).cell hlt
      have z0 := (show World.rowIs _ _ _ _ _ from HR1.out).frozen
      clear hb1 HW HR HC t0 hg0 hg1 hgp hgf hlt0
      go_wp2
      go_roundw
      case rel => exact ⟨c + 1, (fun i => if i = c then g else G i), by omega, by go_num, HR1.out.put g, HC1.out.set c _, HW1.out.setCell (Nat.le_refl _) _⟩
      case measure => simp [intOf]; omega
    · obtain rfl : c = n := by omega
      go_wp2
      go_ret
      exact ⟨rfl, ⟨G, HC.out, (show World.rowIs _ _ _ _ _ from HR.out).congr (fun i hi => by rw [if_pos hi])⟩, HW.out⟩

end Go.Proofs.Ytagalpfmpdeifab
