import Derived.Test.YtgflalfiopnmnaaDoorXsSorted
import Derived.Test.YtgflalfiopnmnaaDoorSoUp
namespace Go.Proofs.YtgflalfiopnmnaaDoor
open Go.RowKit Rk So Mm

/-- A sort's answer in memory: its box D = u, its two rows in blocks from b on and below u. -/
structure Held (w : World) (b u : Nat) (code : Int) (Lo Lq Co Cq : Nat) (A A' : Option Addr) (B B' co cq : Nat) (f g : Nat → Value) : Prop where
  d : w.heap[u]? = some (.cells #[.int .i64 code, .slice A Lo Co, .slice A' Lq Cq] 28 (0, 0))
  hA : 0 < Lo → A = some ⟨B, 0, none⟩
  hA' : 0 < Lq → A' = some ⟨B', 0, none⟩
  hco : Lo ≤ co
  hcq : Lq * 2 ≤ cq
  row : 0 < Lo → b ≤ B ∧ B < u ∧ w.rowIs B 3 co f
  ask : 0 < Lq → b ≤ B' ∧ B' < u ∧ w.rowIs B' 53 cq g
  bu : b ≤ u

theorem Held.only {w w' : World} {b u : Nat} {code : Int} {Lo Lq Co Cq : Nat} {A A' : Option Addr} {B B' co cq : Nat} {f g : Nat → Value} (h : Held w b u code Lo Lq Co Cq A A' B B' co cq f g) {P : Nat → Prop} (ho : Only P w w') (hP : ∀ k, b ≤ k → k ≤ u → ¬ P k) : Held w' b u code Lo Lq Co Cq A A' B B' co cq f g :=
  ⟨by rw [ho.block u (lt_of_block h.d) (hP u h.bu (Nat.le_refl _))]; exact h.d, h.hA, h.hA', h.hco, h.hcq,
   fun x => ⟨(h.row x).1, (h.row x).2.1, ho.rowIs (h.row x).2.2 (hP B (h.row x).1 (Nat.le_of_lt (h.row x).2.1))⟩,
   fun x => ⟨(h.ask x).1, (h.ask x).2.1, ho.rowIs (h.ask x).2.2 (hP B' (h.ask x).1 (Nat.le_of_lt (h.ask x).2.1))⟩, h.bu⟩
theorem Held.below {w w' : World} {b u : Nat} {code : Int} {Lo Lq Co Cq : Nat} {A A' : Option Addr} {B B' co cq : Nat} {f g : Nat → Value} (h : Held w b u code Lo Lq Co Cq A A' B B' co cq f g) (hb : Below w.heap.size w w') : Held w' b u code Lo Lq Co Cq A A' B B' co cq f g :=
  h.only (P := fun _ => False) (Only.below hb) (fun _ _ _ => id)

theorem Held.rowR {w : World} {b u : Nat} {code : Int} {Lo Lq Co Cq : Nat} {A A' : Option Addr} {B B' co cq : Nat} {f g : Nat → Value} (h : Held w b u code Lo Lq Co Cq A A' B B' co cq f g) {F : Nat → Int} (hf : ∀ c, c < Lo → f c = .int .i64 (F c)) : RowR w A Lo B 0 F := by
  intro c hc
  refine ⟨h.hA (by omega), ?_⟩
  rw [Nat.zero_add, (h.row (by omega)).2.2.cell (by have := h.hco; omega), hf c hc]
theorem Held.askR {w : World} {b u : Nat} {code : Int} {Lo Lq Co Cq : Nat} {A A' : Option Addr} {B B' co cq : Nat} {f g : Nat → Value} (h : Held w b u code Lo Lq Co Cq A A' B B' co cq f g) {F G : Nat → Int} (hf : ∀ c, c < Lq → g (c * 2) = .int .i64 (F c) ∧ g (c * 2 + 1) = .int .i64 (G c)) : AskR w A' Lq B' F G := by
  intro c hc
  have := h.hcq
  refine ⟨h.hA' (by omega), ?_, ?_⟩
  · rw [(h.ask (by omega)).2.2.cell (by omega), (hf c hc).1]
  · rw [(h.ask (by omega)).2.2.cell (by omega), (hf c hc).2]

/-- What the rows hold. -/
def ValsO (o : List Nat) (f : Nat → Value) : Prop := ∀ c, c < o.length → f c = .int .i64 ((o.getD c 0 : Nat) : Int)
def ValsQ (q : List (Nat × Nat)) (g : Nat → Value) : Prop := ∀ c, c < q.length → g (c * 2) = .int .i64 (((q.getD c (0, 0)).1 : Nat) : Int) ∧ g (c * 2 + 1) = .int .i64 (((q.getD c (0, 0)).2 : Nat) : Int)

theorem askCells_at (q : List (Nat × Nat)) : ∀ c, c < q.length → (askCells q)[c * 2]? = some (.int .i64 (((q.getD c (0, 0)).1 : Nat) : Int)) ∧ (askCells q)[c * 2 + 1]? = some (.int .i64 (((q.getD c (0, 0)).2 : Nat) : Int)) := by
  induction q with
  | nil => intro c hc; simp at hc
  | cons p q ih =>
    intro c hc
    have e : askCells (p :: q) = .int .i64 (p.1 : Nat) :: .int .i64 (p.2 : Nat) :: askCells q := by simp [askCells]
    rw [e]
    cases c with
    | zero => simp
    | succ c =>
      have := ih c (by simp at hc; omega)
      rw [show (c + 1) * 2 = c * 2 + 1 + 1 by omega]
      simpa using this

/-- The rows of an answer, as they are read. -/
theorem SortRes.held {w w' : World} {ov av : Value} {o : List Nat} {q : List (Nat × Nat)} (h : SortRes w w' ov av o q) : ∃ (Co Cq : Nat) (A A' : Option Addr) (B B' co cq : Nat) (f g : Nat → Value), ov = .slice A o.length Co ∧ av = .slice A' q.length Cq ∧ ValsO o f ∧ ValsQ q g ∧
    ∀ code : Int, Held (w'.alloc (.cells #[.int .i64 code, .slice A o.length Co, .slice A' q.length Cq] 28)) w.heap.size w'.heap.size code o.length q.length Co Cq A A' B B' co cq f g := by
  obtain ⟨bel, ho, hq⟩ := h
  have h1 : ∃ (Co : Nat) (A : Option Addr) (B co : Nat) (f : Nat → Value), ov = .slice A o.length Co ∧ ValsO o f ∧ (0 < o.length → A = some ⟨B, 0, none⟩) ∧ o.length ≤ co ∧ (0 < o.length → w.heap.size ≤ B ∧ B < w'.heap.size ∧ w'.rowIs B 3 co f) := by
    rcases ho.2 with ⟨rfl, e⟩ | ⟨g, cap, cur, rfl, hg, hh, hc, hm, hs, ht⟩
    · exact ⟨0, none, 0, o.length, fun _ => .int .i64 0, by rw [e], fun c hc => by omega, fun x => by omega, Nat.le_refl _, fun x => by omega⟩
    · refine ⟨cap, some ⟨g, 0, none⟩, g, cap, fun c => cur.getD c (.int .i64 0), rfl, fun c hc' => ?_, fun _ => rfl, hc, fun _ => ⟨hg, lt_of_block hh, cur, hh, by omega, fun i hi => ?_⟩⟩
      · have h2 : (ints o)[c]? = some (.int .i64 ((o.getD c 0 : Nat) : Int)) := by simp [ints, List.getD, List.getElem?_eq_getElem hc']
        rw [← ht, List.getElem?_take] at h2
        split at h2
        · have h3 : cur[c]? = some (.int .i64 ((o.getD c 0 : Nat) : Int)) := by simpa using h2
          simp [Array.getD_eq_getD_getElem?, h3]
        · cases h2
      · simp [Array.getD_eq_getD_getElem?, Array.getElem?_eq_getElem (show i < cur.size by omega)]
  have h2 : ∃ (Cq : Nat) (A' : Option Addr) (B' cq : Nat) (g : Nat → Value), av = .slice A' q.length Cq ∧ ValsQ q g ∧ (0 < q.length → A' = some ⟨B', 0, none⟩) ∧ q.length * 2 ≤ cq ∧ (0 < q.length → w.heap.size ≤ B' ∧ B' < w'.heap.size ∧ w'.rowIs B' 53 cq g) := by
    rcases hq.2 with ⟨rfl, e⟩ | ⟨g, cap, cur, rfl, hg, hh, hc, hm, hs, ht⟩
    · exact ⟨0, none, 0, q.length * 2, fun _ => .int .i64 0, by rw [e], fun c hc => by omega, fun x => by omega, Nat.le_refl _, fun x => by omega⟩
    · have hv : ∀ i v, (askCells q)[i]? = some v → cur[i]? = some v := fun i v hi => by
        rw [← ht, List.getElem?_take] at hi
        split at hi
        · simpa using hi
        · cases hi
      refine ⟨cap, some ⟨g, 0, none⟩, g, cap * 2, fun c => cur.getD c (.int .i64 0), rfl, fun c hc' => ?_, fun _ => rfl, by omega, fun _ => ⟨hg, lt_of_block hh, cur, hh, hs, fun i hi => ?_⟩⟩
      · have h2 := askCells_at q c hc'
        exact ⟨by simp [Array.getD_eq_getD_getElem?, hv _ _ h2.1], by simp [Array.getD_eq_getD_getElem?, hv _ _ h2.2]⟩
      · simp [Array.getD_eq_getD_getElem?, Array.getElem?_eq_getElem (show i < cur.size by omega)]
  obtain ⟨Co, A, B, co, f, e1, v1, a1, c1, r1⟩ := h1
  obtain ⟨Cq, A', B', cq, g, e2, v2, a2, c2, r2⟩ := h2
  refine ⟨Co, Cq, A, A', B, B', co, cq, f, g, e1, e2, v1, v2, fun code => ⟨heap_alloc_new _ _, a1, a2, c1, c2, fun x => ?_, fun x => ?_, bel.size⟩⟩
  · exact ⟨(r1 x).1, (r1 x).2.1, (r1 x).2.2.alloc _⟩
  · exact ⟨(r2 x).1, (r2 x).2.1, (r2 x).2.2.alloc _⟩

theorem inner_le {n s : Nat} : ∀ {f a : Nat}, inner n s f a ≤ a + (n - f) := by
  intro f a
  induction hk : n - f using Nat.strongRecOn generalizing f a with
  | _ k ih =>
    by_cases h : f + s < n ∧ 0 < s
    · rw [inner_yes h.1 h.2]
      have := ih (n - (f + 2 * s)) (by omega) (f := f + 2 * s) (a := a + (min (f + 2 * s) n - f - 1)) rfl
      omega
    · rw [inner_eq, if_neg h]; omega

theorem outer_le {n : Nat} : ∀ {s a : Nat}, 0 < s → outer n s a ≤ a + n * (n - s) := by
  intro s a h0
  induction hk : n - s using Nat.strongRecOn generalizing s a with
  | _ k ih =>
    by_cases h : s < n
    · rw [outer_yes h h0]
      have h1 := ih (n - 2 * s) (by omega) (s := 2 * s) (a := inner n s 0 a) (by omega) rfl
      have h2 := @inner_le n s 0 a
      have h3 : n * (n - 2 * s) + n ≤ n * k := by
        have h4 : n - 2 * s + 1 ≤ k := by omega
        have h5 := Nat.mul_le_mul_left n h4
        rw [Nat.mul_add, Nat.mul_one] at h5
        exact h5
      omega
    · rw [outer_no h]; omega

theorem Out.small {n : Nat} {L : Nat → Nat} {M : Nat → Nat → Int} {code : Int} {o : List Nat} {q : List (Nat × Nat)} (h : Out n L M code o q) : o.length ≤ 1048576 ∧ q.length ≤ 1048576 := by
  have key : Sq n L M → outer n 1 0 ≤ 200 * 200 := fun s => by
    have h1 := @outer_le n 1 0 (by omega)
    have h2 : n * (n - 1) ≤ 200 * 200 := Nat.mul_le_mul s.1 (by have := s.1; omega)
    omega
  rcases h with ⟨_, _, rfl, rfl⟩ | ⟨s, e, _⟩ | ⟨s, e, _, rfl⟩
  · simp
  · have := sorted_asks e
    have h2 := this.2 o rfl
    have := s.1
    have := key s
    omega
  · have := sorted_asks e
    have := key s
    simp
    omega

end Go.Proofs.YtgflalfiopnmnaaDoor
