import Derived.Test.YtgflalfiopnmnabGrSz
import Derived.ProofKit
import Derived.OpenShut
import Derived.ShutString
import Derived.ChangeOld
import Derived.Lib.SmallJoins
import Derived.Deep.Slices
namespace Go.Proofs.Ytgflalfiopnmnab
open Go.RowKit Vl
open Go.ChangeShapes Go.WideShapes Go.ChangeAt Go.Joins

theorem laidOutG : laidOutB Try.prog = true := by kernel_rfl
theorem ownG : ownKnob Try.prog.godebug = none := by kernel_rfl
theorem cellsG_int : Try.prog.cellsOf 3 = 1 := by kernel_rfl
theorem cellsG_int64 : Try.prog.cellsOf 2 = 1 := by kernel_rfl
theorem cellsG_string : Try.prog.cellsOf 9 = 1 := by kernel_rfl
theorem cellsG_val : Try.prog.cellsOf 23 = 4 := by kernel_rfl
theorem cellsG_pair : Try.prog.cellsOf 191 = 8 := by kernel_rfl
theorem cellsG_table : Try.prog.cellsOf 125 = 1 := by kernel_rfl
theorem cellsG_pairs : Try.prog.cellsOf 123 = 1 := by kernel_rfl
theorem cellsG_tables : Try.prog.cellsOf 24 = 1 := by kernel_rfl
theorem cellsG_graph : Try.prog.cellsOf 26 = 5 := by kernel_rfl

theorem four_of {α : Type} {l : List α} (h : l.length = 4) : ∃ a b c d, l = [a, b, c, d] := by
  match l, h with
  | [a, b, c, d], _ => exact ⟨a, b, c, d, rfl⟩
theorem five_of {α : Type} {l : List α} (h : l.length = 5) : ∃ a b c d e, l = [a, b, c, d, e] := by
  match l, h with
  | [a, b, c, d, e], _ => exact ⟨a, b, c, d, e, rfl⟩
theorem eight_of {α : Type} {l : List α} (h : l.length = 8) : ∃ a b c d e f g i, l = [a, b, c, d, e, f, g, i] := by
  match l, h with
  | [a, b, c, d, e, f, g, i], _ => exact ⟨a, b, c, d, e, f, g, i, rfl⟩

instance : Inhabited V := ⟨⟨0, 0, ⟨#[]⟩, 0⟩⟩

/-- The four cells of a value, as a list. -/
def vCells (v : V) : List Value := [.int .i64 v.k, .int .i64 v.n, .string v.s, .int .i64 v.a]

section
variable {H : Type} {enc : TypeId × Value → H} {w : World} {base : Nat} {spare : Nat → Bool} {held : Bool}

theorem opens_int {n : Nat} {t : TypeId} {o : Option (DataW H × List MemPlace)} {c : Value} (ht : Try.prog.underlying t = some (.int .i64)) (h : DataW.trod enc Try.prog w base spare held n t [c] = o) (ho : o.isSome = true) : ∃ k, c = .int .i64 k := by
  obtain ⟨x, hx⟩ := Option.isSome_iff_exists.1 ho
  rw [hx] at h
  obtain ⟨k, e, _, _⟩ := DataW.trod_int ht h
  exact ⟨k, by simpa using e⟩
theorem opens_string {n : Nat} {t : TypeId} {o : Option (DataW H × List MemPlace)} {c : Value} (ht : Try.prog.underlying t = some .string) (h : DataW.trod enc Try.prog w base spare held n t [c] = o) (ho : o.isSome = true) : ∃ s : ByteArray, c = .string s ∧ s.size ≤ 9223372036854775807 := by
  obtain ⟨x, hx⟩ := Option.isSome_iff_exists.1 ho
  rw [hx] at h
  obtain ⟨s, e, _, hs⟩ := DataW.trod_string ht h
  unfold maxLen at hs
  exact ⟨s, by simpa using e, by omega⟩
theorem isSome_at {α : Type} {l : List α} {i : Nat} (h : i < l.length) : (l[i]?).isSome = true := by simp [h]

theorem opens_val {fuel : Nat} {cs : List Value} {x : DataW H × List MemPlace} (h : DataW.trod enc Try.prog w base spare held fuel 23 cs = some x) : ∃ v : V, cs = vCells v ∧ v.s.size ≤ 9223372036854775807 := by
  obtain ⟨xs, n, _, _, hlen, hl, hf⟩ := DataW.trod_struct Try.underlying23 h
  rw [cellsG_val] at hlen
  obtain ⟨c0, c1, c2, c3, rfl⟩ := four_of hlen
  have hl4 : xs.length = 4 := hl
  have f0 : DataW.trod enc Try.prog w base spare held n 3 (([c0, c1, c2, c3].drop 0).take (Try.prog.cellsOf 3)) = xs[0]? := hf 0 _ rfl
  have f1 : DataW.trod enc Try.prog w base spare held n 2 (([c0, c1, c2, c3].drop 1).take (Try.prog.cellsOf 2)) = xs[1]? := hf 1 _ rfl
  have f2 : DataW.trod enc Try.prog w base spare held n 9 (([c0, c1, c2, c3].drop 2).take (Try.prog.cellsOf 9)) = xs[2]? := hf 2 _ rfl
  have f3 : DataW.trod enc Try.prog w base spare held n 3 (([c0, c1, c2, c3].drop 3).take (Try.prog.cellsOf 3)) = xs[3]? := hf 3 _ rfl
  rw [cellsG_int] at f0 f3
  rw [cellsG_int64] at f1
  rw [cellsG_string] at f2
  obtain ⟨k, rfl⟩ := opens_int Try.underlying3 (c := c0) f0 (isSome_at (by omega))
  obtain ⟨m, rfl⟩ := opens_int Try.underlying2 (c := c1) f1 (isSome_at (by omega))
  obtain ⟨s, rfl, hs⟩ := opens_string Try.underlying9 (c := c2) f2 (isSome_at (by omega))
  obtain ⟨a, rfl⟩ := opens_int Try.underlying3 (c := c3) f3 (isSome_at (by omega))
  exact ⟨⟨k, m, s, a⟩, rfl, hs⟩

theorem opens_pair {fuel : Nat} {cs : List Value} {x : DataW H × List MemPlace} (h : DataW.trod enc Try.prog w base spare held fuel 191 cs = some x) : ∃ u v : V, cs = vCells u ++ vCells v ∧ u.s.size ≤ 9223372036854775807 ∧ v.s.size ≤ 9223372036854775807 := by
  obtain ⟨xs, n, _, _, hlen, hl, hf⟩ := DataW.trod_struct Try.underlying191 h
  rw [cellsG_pair] at hlen
  have hl2 : xs.length = 2 := hl
  have f0 : DataW.trod enc Try.prog w base spare held n 23 ((cs.drop 0).take (Try.prog.cellsOf 23)) = xs[0]? := hf 0 _ rfl
  have f1 : DataW.trod enc Try.prog w base spare held n 23 ((cs.drop 4).take (Try.prog.cellsOf 23)) = xs[1]? := hf 1 _ rfl
  rw [cellsG_val] at f0 f1
  obtain ⟨y0, e0⟩ := Option.isSome_iff_exists.1 (isSome_at (l := xs) (i := 0) (by omega))
  obtain ⟨y1, e1⟩ := Option.isSome_iff_exists.1 (isSome_at (l := xs) (i := 1) (by omega))
  rw [e0] at f0
  rw [e1] at f1
  obtain ⟨u, hu, su⟩ := opens_val f0
  obtain ⟨v, hv, sv⟩ := opens_val f1
  refine ⟨u, v, ?_, su, sv⟩
  obtain ⟨c0, c1, c2, c3, c4, c5, c6, c7, rfl⟩ := eight_of hlen
  rw [← hu, ← hv]
  rfl

theorem plain_of {w : World} {a : Addr} {v : Value} (h : w.cell? (a.add 0) = some v) : a = ⟨a.block, a.off, none⟩ := by
  obtain ⟨b, off, spot⟩ := a
  have hspot : spot = none := by simpa [Addr.add] using World.cell?_spot h
  subst hspot
  rfl
theorem add_plain (b o i : Nat) : Addr.add ⟨b, o, none⟩ i = ⟨b, o + i, none⟩ := by
  unfold Addr.add
  by_cases h : i = 0 <;> simp [h]

/-- A slice of pairs that came in. -/
theorem opens_pairs {fuel : Nat} {c : Value} {x : DataW H × List MemPlace} (h : DataW.trod enc Try.prog w base (fun _ => true) held fuel 123 [c] = some x) :
    ∃ (pa : Option Addr) (L C B O : Nat) (K X : Nat → V), c = .slice pa L C ∧ L ≤ 9223372036854775807 ∧ PairsAt w pa L B O K X ∧ ∀ j, j < L → (K j).s.size ≤ 9223372036854775807 ∧ (X j).s.size ≤ 9223372036854775807 := by
  rcases Deep.open_slice Try.underlying123 h with ⟨hcs, _⟩ | ⟨a, len, cap, m, n, D, Pl, hcs, hb, hl, hm, hmm, hx, hall⟩
  · obtain rfl : c = .slice none 0 0 := by simpa using hcs
    exact ⟨none, 0, 0, 0, 0, fun _ => ⟨0, 0, ⟨#[]⟩, 0⟩, fun _ => ⟨0, 0, ⟨#[]⟩, 0⟩, rfl, by omega, ⟨fun h => by omega, fun j hj => by omega, fun j hj => by omega⟩, fun j hj => by omega⟩
  · obtain rfl : c = .slice (some a) len cap := by simpa using hcs
    unfold maxLen at hm
    simp only [if_true] at hmm
    have each : ∀ j, j < len → ∃ q : V × V, (∀ i v, (vCells q.1 ++ vCells q.2)[i]? = some v → w.cell? (a.add (j * 8 + i)) = some v) ∧ q.1.s.size ≤ 9223372036854775807 ∧ q.2.s.size ≤ 9223372036854775807 := by
      intro j hj
      obtain ⟨cs', h1, h2⟩ := hall j (by omega)
      rw [cellsG_pair] at h1
      obtain ⟨u, v, rfl, su, sv⟩ := opens_pair h2
      obtain ⟨_, hlen, hcell⟩ := World.cells?_some h1
      refine ⟨(u, v), fun i y hy => ?_, su, sv⟩
      have hi : i < 8 := by
        rcases Nat.lt_or_ge i 8 with h | h
        · exact h
        · rw [List.getElem?_eq_none (by simp [vCells]; omega)] at hy; cases hy
      have := hcell i hi
      rw [Deep.add_add, hy] at this
      exact this
    obtain ⟨q, hq⟩ := Deep.choose_lt (α := V × V) (n := len) (p := fun j q => (∀ i v, (vCells q.1 ++ vCells q.2)[i]? = some v → w.cell? (a.add (j * 8 + i)) = some v) ∧ q.1.s.size ≤ 9223372036854775807 ∧ q.2.s.size ≤ 9223372036854775807) each
    have hp : 0 < len → a = ⟨a.block, a.off, none⟩ := fun h0 => plain_of (v := .int .i64 (q 0).1.k) (by have := (hq 0 h0).1 0 _ rfl; simpa using this)
    refine ⟨some a, len, cap, a.block, a.off, fun j => (q j).1, fun j => (q j).2, rfl, by omega, ⟨fun h0 => by rw [← hp h0], fun j hj => ?_, fun j hj => ?_⟩, fun j hj => (hq j hj).2⟩
    all_goals
      have g : ∀ i v, (vCells (q j).1 ++ vCells (q j).2)[i]? = some v → w.cell? ⟨a.block, a.off + (j * 8 + i), none⟩ = some v := fun i v hv => by
        have := (hq j hj).1 i v hv
        rw [hp (by omega), add_plain] at this
        exact this
    · exact ⟨g 0 _ rfl, g 1 _ rfl, g 2 _ rfl, g 3 _ rfl⟩
    · exact ⟨g 4 _ rfl, g 5 _ rfl, g 6 _ rfl, g 7 _ rfl⟩

/-- A slice of tables that came in. -/
theorem opens_tables {fuel : Nat} {c : Value} {x : DataW H × List MemPlace} (h : DataW.trod enc Try.prog w base (fun _ => true) held fuel 24 [c] = some x) :
    ∃ (ta : Option Addr) (n cp TB TO : Nat) (A : Nat → Option Addr) (L C RB RO : Nat → Nat) (K X : Nat → Nat → V), c = .slice ta n cp ∧ n ≤ 9223372036854775807 ∧ TabsAt w ta n TB TO A L C RB RO K X ∧ Small 9223372036854775807 n L K X := by
  rcases Deep.open_slice1 Try.underlying24 cellsG_table h with ⟨hcs, _⟩ | ⟨a, len, cap, m, n, V', D, Pl, hcs, hb, hl, hm, hmm, hx, hall⟩
  · obtain rfl : c = .slice none 0 0 := by simpa using hcs
    exact ⟨none, 0, 0, 0, 0, fun _ => none, fun _ => 0, fun _ => 0, fun _ => 0, fun _ => 0, fun _ _ => ⟨0, 0, ⟨#[]⟩, 0⟩, fun _ _ => ⟨0, 0, ⟨#[]⟩, 0⟩, rfl, by omega, ⟨fun h => by omega, fun j hj => by omega, fun j hj => by omega⟩, fun j hj => by omega⟩
  · obtain rfl : c = .slice (some a) len cap := by simpa using hcs
    unfold maxLen at hm
    simp only [if_true] at hmm
    have each : ∀ r, r < len → ∃ y : Option Addr × Nat × Nat × Nat × Nat × (Nat → V) × (Nat → V), w.cell? (a.add r) = some (.slice y.1 y.2.1 y.2.2.1) ∧ y.2.1 ≤ 9223372036854775807 ∧ PairsAt w y.1 y.2.1 y.2.2.2.1 y.2.2.2.2.1 y.2.2.2.2.2.1 y.2.2.2.2.2.2 ∧ ∀ j, j < y.2.1 → (y.2.2.2.2.2.1 j).s.size ≤ 9223372036854775807 ∧ (y.2.2.2.2.2.2 j).s.size ≤ 9223372036854775807 := by
      intro r hr
      obtain ⟨h1, h2⟩ := hall r (by omega)
      obtain ⟨xs, k, _, _, hlen, hl2, hf⟩ := DataW.trod_struct Try.underlying125 h2
      have hl1 : xs.length = 1 := hl2
      have f0 : DataW.trod enc Try.prog w base (fun _ => true) held k 123 (([V' r].drop 0).take (Try.prog.cellsOf 123)) = xs[0]? := hf 0 _ rfl
      rw [cellsG_pairs] at f0
      obtain ⟨y0, e0⟩ := Option.isSome_iff_exists.1 (isSome_at (l := xs) (i := 0) (by omega))
      rw [e0] at f0
      obtain ⟨pa, L, C, B, O, K, X, hc, hL, hP, hS⟩ := opens_pairs (c := V' r) f0
      exact ⟨(pa, L, C, B, O, K, X), by rw [h1, hc], hL, hP, hS⟩
    obtain ⟨y, hy⟩ := Deep.choose_lt (α := Option Addr × Nat × Nat × Nat × Nat × (Nat → V) × (Nat → V)) (n := len) (p := fun r y => w.cell? (a.add r) = some (.slice y.1 y.2.1 y.2.2.1) ∧ y.2.1 ≤ 9223372036854775807 ∧ PairsAt w y.1 y.2.1 y.2.2.2.1 y.2.2.2.2.1 y.2.2.2.2.2.1 y.2.2.2.2.2.2 ∧ ∀ j, j < y.2.1 → (y.2.2.2.2.2.1 j).s.size ≤ 9223372036854775807 ∧ (y.2.2.2.2.2.2 j).s.size ≤ 9223372036854775807) each
    have hp : 0 < len → a = ⟨a.block, a.off, none⟩ := fun h0 => plain_of (hy 0 h0).1
    refine ⟨some a, len, cap, a.block, a.off, fun r => (y r).1, fun r => (y r).2.1, fun r => (y r).2.2.1, fun r => (y r).2.2.2.1, fun r => (y r).2.2.2.2.1, fun r => (y r).2.2.2.2.2.1, fun r => (y r).2.2.2.2.2.2, rfl, by omega, ⟨fun h0 => by rw [← hp h0], fun r hr => ?_, fun r hr => (hy r hr).2.2.1⟩, fun r hr => ⟨(hy r hr).2.1, (hy r hr).2.2.2⟩⟩
    have := (hy r hr).1
    rw [hp (by omega), add_plain] at this
    exact this

set_option maxRecDepth 100000 in
/-- A graph that came in. -/
theorem opens_graph {r : Reach} {b0 : Nat} {v : Value} {d : DataW H} {p : List MemPlace} (hv : Value.okWide Try.prog w r b0 26 v) (h : DataW.Trod enc Try.prog w base (fun _ => true) held 26 v d p) :
    ∃ (u : V) (ta : Option Addr) (n cp TB TO : Nat) (A : Nat → Option Addr) (L C RB RO : Nat → Nat) (K X : Nat → Nat → V), v = .agg #[.int .i64 u.k, .int .i64 u.n, .string u.s, .int .i64 u.a, .slice ta n cp] ∧ u.s.size ≤ 9223372036854775807 ∧ n ≤ 9223372036854775807 ∧ TabsAt w ta n TB TO A L C RB RO K X ∧ Small 9223372036854775807 n L K X := by
  obtain ⟨cs, rfl, hsz⟩ := okWide_struct Try.underlying26 hv
  obtain ⟨fuel, hf0⟩ := h
  obtain ⟨xs, k, _, _, hlen, hl2, hf⟩ := DataW.trod_struct Try.underlying26 hf0
  have hl : xs.length = 2 := hl2
  have hcs : cs.toList.length = 5 := by rw [Array.length_toList, hsz]; exact cellsG_graph
  obtain ⟨c0, c1, c2, c3, c4, e5⟩ := five_of hcs
  obtain rfl : cs = #[c0, c1, c2, c3, c4] := by cases cs; simp_all
  have f0 : DataW.trod enc Try.prog w base (fun _ => true) held k 23 (([c0, c1, c2, c3, c4].drop 0).take (Try.prog.cellsOf 23)) = xs[0]? := hf 0 _ rfl
  have f1 : DataW.trod enc Try.prog w base (fun _ => true) held k 24 (([c0, c1, c2, c3, c4].drop 4).take (Try.prog.cellsOf 24)) = xs[1]? := hf 1 _ rfl
  rw [cellsG_val] at f0
  rw [cellsG_tables] at f1
  obtain ⟨y0, e0⟩ := Option.isSome_iff_exists.1 (isSome_at (l := xs) (i := 0) (by omega))
  obtain ⟨y1, e1⟩ := Option.isSome_iff_exists.1 (isSome_at (l := xs) (i := 1) (by omega))
  rw [e0] at f0
  rw [e1] at f1
  obtain ⟨u, hu, su⟩ := opens_val (cs := [c0, c1, c2, c3]) f0
  obtain ⟨ta, n, cp, TB, TO, A, L, C, RB, RO, K, X, hc, hn, hT, hS⟩ := opens_tables (c := c4) f1
  unfold vCells at hu
  simp only [List.cons.injEq, and_true] at hu
  obtain ⟨rfl, rfl, rfl, rfl⟩ := hu
  subst hc
  exact ⟨u, ta, n, cp, TB, TO, A, L, C, RB, RO, K, X, rfl, su, hn, hT, hS⟩
end

end Go.Proofs.Ytgflalfiopnmnab
