import Derived.Test.YtgflalfiopnmnaaS9
import Derived.Test.YtgflalfiopnmnaaS7
import Derived.Test.YtgflalfiopnmnaaVlLess
import Derived.Test.YtgflalfiopnmnaaS8
import Derived.Test.YtgflalfiopnmnaaS3
namespace Go.Proofs.Ytgflalfiopnmnaa
open Go.RowKit Vl

/-- Tables that differ in no key and no plain value. -/
structure Face (L : Nat → Nat) (K X : Nat → Nat → V) (i j : Nat) : Prop where
  len : L i = L j
  all : ∀ c, c < L i → prOf K X i c = prOf K X j c
theorem Face.symm {L : Nat → Nat} {K X : Nat → Nat → V} {i j : Nat} (h : Face L K X i j) : Face L K X j i := ⟨h.len.symm, fun c hc => (h.all c (by rw [h.len]; exact hc)).symm⟩

theorem knAll_pre {L : Nat → Nat} {K X : Nat → Nat → V} : ∀ {i j : Nat}, i ≤ j → knAll L K X i <+: knAll L K X j := by
  intro i j h
  induction h with
  | refl => exact List.prefix_refl _
  | step _ ih => exact ih.trans (kns_pre _ _ (Nat.zero_le _))
theorem idx_inj {kn : List PV2} {p q : PV2} (hp : p ∈ kn) (hq : q ∈ kn) (h : kn.idxOf p = kn.idxOf q) : p = q := by
  have h1 := List.getElem_idxOf (List.idxOf_lt_length_of_mem hp)
  have h2 := List.getElem_idxOf (List.idxOf_lt_length_of_mem hq)
  rw [← h1, ← h2]
  simp only [h]

/-- The look of a table at the beginning. -/
def lk1 (L : Nat → Nat) (K X : Nat → Nat → V) (i : Nat) : Lk := faceLk (knAll L K X (i + 1)) (prOf K X i) (L i)
theorem lk1_part {n : Nat} {L : Nat → Nat} {K X : Nat → Nat → V} {i c : Nat} (hi : i < n) (hc : c < L i) : (lk1 L K X i).parts c = (knAll L K X n).idxOf (prOf K X i c) + 1 ∧ prOf K X i c ∈ knAll L K X n := by
  have hm : prOf K X i c ∈ knAll L K X (i + 1) := kns_mem _ _ hc
  have hp : knAll L K X (i + 1) <+: knAll L K X n := knAll_pre (by omega)
  refine ⟨?_, hp.subset hm⟩
  show (if c < L i then _ else 0) = _
  rw [if_pos hc, idx_pre hp hm]
theorem lk1_eq {n : Nat} {L : Nat → Nat} {K X : Nat → Nat → V} (hL : ∀ r, r < n → L r ≤ 100) {i j : Nat} (hi : i < n) (hj : j < n) : lkEq (lk1 L K X i) (lk1 L K X j) = true ↔ Face L K X i j := by
  rw [lkEq_iff]
  constructor
  · rintro ⟨_, h⟩
    have key : ∀ a b, a < n → b < n → (∀ c, c < 100 → (lk1 L K X a).parts c = (lk1 L K X b).parts c) → L a ≤ L b := fun a b ha hb hab => by
      rcases Nat.lt_or_ge (L b) (L a) with hlt | hge
      · have h1 := hab (L b) (by have := hL a ha; omega)
        have h2 := (lk1_part (K := K) (X := X) ha hlt).1
        have h3 : (lk1 L K X b).parts (L b) = 0 := by
          show (if L b < L b then _ else 0) = 0
          rw [if_neg (by omega)]
        omega
      · exact hge
    have hl : L i = L j := Nat.le_antisymm (key i j hi hj h) (key j i hj hi (fun c hc => (h c hc).symm))
    refine ⟨hl, fun c hc => ?_⟩
    obtain ⟨a1, a2⟩ := lk1_part (K := K) (X := X) hi hc
    obtain ⟨b1, b2⟩ := lk1_part (K := K) (X := X) hj (show c < L j by omega)
    have := h c (by have := hL i hi; omega)
    exact idx_inj a2 b2 (by omega)
  · intro h
    refine ⟨rfl, fun c _ => ?_⟩
    by_cases hc : c < L i
    · rw [(lk1_part (K := K) (X := X) hi hc).1, (lk1_part (K := K) (X := X) hj (by rw [← h.len]; exact hc)).1, h.all c hc]
    · show (if c < L i then _ else 0) = (if c < L j then _ else 0)
      rw [if_neg hc, if_neg (by rw [← h.len]; exact hc)]

theorem Least.uniq {lk : Nat → Lk} {i j k m : Nat} (h : Least lk i k) (g : Least lk j m) (e : lkEq (lk i) (lk j) = true) : k = m := by
  rcases Nat.lt_trichotomy k m with h' | h' | h'
  · have := g.least k h'
    rw [lkEq_trans h.eq e] at this
    cases this
  · exact h'
  · have := h.least m h'
    rw [lkEq_symm] at e
    rw [lkEq_trans g.eq e] at this
    cases this

/-- A value that is no table has no number. -/
theorem plain_a {n : Nat} {v : V} (h : isV n v = true) (h4 : v.k ≠ 4) : v.a = 0 := by
  obtain ⟨k, m, s, a⟩ := v
  simp only at h4
  unfold isV at h
  simp only at h
  split at h
  · simp at h; exact h.2.2
  · split at h
    · simp at h; exact h.2.2
    · split at h
      · simp at h; exact h.2
      · split at h
        · simp at h; exact h.2.1
        · simp at h

theorem face_val {n : Nat} {K X : Nat → Nat → V} {i j c : Nat} (hi : isV n (X i c) = true) (hj : isV n (X j c) = true) (h : prOf K X i c = prOf K X j c) : K i c = K j c ∧ (X i c).k = (X j c).k ∧ ((X i c).k ≠ 4 → X i c = X j c) := by
  unfold prOf zAt at h
  simp only [Prod.mk.injEq, V.mk.injEq, and_true] at h
  obtain ⟨h1, h2, h3, h4⟩ := h
  refine ⟨h1, h2, fun hk => ?_⟩
  have a1 := plain_a hi hk
  have a2 := plain_a hj (by omega)
  cases hx : X i c
  cases hy : X j c
  rw [hx] at h2 h3 h4 a1
  rw [hy] at h2 h3 h4 a2
  simp only at *
  subst h2 h3 h4 a1 a2
  rfl

/-- Classes on the way that tell faces apart. -/
def Facy (n : Nat) (L : Nat → Nat) (K X : Nat → Nat → V) (cl : Nat → Nat) : Prop := ∀ i j, i < n → j < n → cl i = cl j → Face L K X i j

theorem tab_ns {n : Nat} {v : V} (h : isV n v = true) (h4 : v.k = 4) : v.n = 0 ∧ v.s = ⟨#[]⟩ := by
  obtain ⟨k, m, s, a⟩ := v
  simp only at h4
  subst h4
  simp [isV] at h
  exact ⟨h.1, bytes_empty h.2.1⟩

theorem onway_start {n : Nat} {L : Nat → Nat} {K X : Nat → Nat → V} (hg : Good n L X) (hL : ∀ r, r < n → L r ≤ 100) {gr : Nat → Nat} (h : ∀ i, i < n → Least (lk1 L K X) i (gr i)) : OnWay n L K X gr ∧ Facy n L K X gr := by
  have hlt : ∀ i, i < n → gr i < n := fun i hi => by have := (h i hi).le; omega
  have heq : ∀ i j, i < n → j < n → gr i = gr j → Face L K X i j := fun i j hi hj e => by
    have h1 := (h i hi).eq
    have h2 := (h j hj).eq
    rw [e] at h1
    rw [lkEq_symm] at h1
    exact (lk1_eq hL hi hj).1 (lkEq_trans h1 h2)
  refine ⟨⟨fun i hi => (h i hi).le, fun i hi => (h (gr i) (hlt i hi)).uniq (h i hi) (h i hi).eq, fun R hR i j hr => ?_⟩, heq⟩
  obtain ⟨hi, hj, hl, hall⟩ := hR i j hr
  refine (h i hi).uniq (h j hj) ((lk1_eq hL hi hj).2 ⟨hl, fun c hc => ?_⟩)
  obtain ⟨k1, k2, _, k4⟩ := hall c hc
  unfold prOf zAt
  by_cases h4 : (X i c).k = 4
  · obtain ⟨a1, a2⟩ := tab_ns (hg i hi c hc) h4
    obtain ⟨b1, b2⟩ := tab_ns (hg j hj c (by rw [← hl]; exact hc)) (by omega)
    rw [k1, k2, a1, a2, b1, b2]
  · rw [k1, k4 h4]

theorem lds_map {cl : Nat → Nat} {x y : Nat → V} : ∀ c, (∀ q, q < c → (x q).k = (y q).k) → (ldsTo x c).length = (ldsTo y c).length ∧ ((ldsTo x c).map cl = (ldsTo y c).map cl ↔ ∀ q, q < c → (x q).k = 4 → cl (x q).a.toNat = cl (y q).a.toNat)
  | 0, _ => ⟨rfl, ⟨fun _ q hq => by omega, fun _ => rfl⟩⟩
  | c + 1, h => by
    obtain ⟨h1, h2⟩ := lds_map (cl := cl) (x := x) (y := y) c (fun q hq => h q (by omega))
    have hk := h c (by omega)
    rw [ldsTo_succ, ldsTo_succ]
    by_cases h4 : (x c).k = 4
    · rw [if_pos h4, if_pos (by omega)]
      refine ⟨by simp [h1], ⟨fun e q hq hq4 => ?_, fun e => ?_⟩⟩
      · rw [List.map_append, List.map_append] at e
        obtain ⟨e1, e2⟩ := List.append_inj e (by simp [h1])
        by_cases eq : q = c
        · subst eq
          simpa using e2
        · exact h2.1 e1 q (by omega) hq4
      · rw [List.map_append, List.map_append, h2.2 (fun q hq => e q (by omega))]
        simp [e c (by omega) h4]
    · rw [if_neg h4, if_neg (by omega)]
      refine ⟨h1, h2.trans ⟨fun e q hq hq4 => ?_, fun e q hq => e q (by omega)⟩⟩
      by_cases eq : q = c
      · subst eq; exact absurd hq4 h4
      · exact e q (by omega) hq4

/-- The look of a table by the classes of its leads. -/
def lk2 (L : Nat → Nat) (X : Nat → Nat → V) (cl : Nat → Nat) (i : Nat) : Lk := lkOf (cl i) cl (fun j => (ldsTo (X i) (L i)).getD j 0) (ldsTo (X i) (L i)).length
theorem lk2_eq {n : Nat} {L : Nat → Nat} {K X : Nat → Nat → V} {cl : Nat → Nat} (hg : Good n L X) (hL : ∀ r, r < n → L r ≤ 100) (hf : Facy n L K X cl) {i j : Nat} (hi : i < n) (hj : j < n) : lkEq (lk2 L X cl i) (lk2 L X cl j) = true ↔ cl i = cl j ∧ Looks L K X cl i j := by
  rw [lkEq_iff]
  have key : cl i = cl j → ((∀ t, t < 100 → (lk2 L X cl i).parts t = (lk2 L X cl j).parts t) ↔ Looks L K X cl i j) := fun hc => by
    have hfc := hf i j hi hj hc
    have hv : ∀ c, c < L i → K i c = K j c ∧ (X i c).k = (X j c).k ∧ ((X i c).k ≠ 4 → X i c = X j c) := fun c hc' => face_val (hg i hi c hc') (hg j hj c (by rw [← hfc.len]; exact hc')) (hfc.all c hc')
    obtain ⟨hlen, hmap⟩ := lds_map (cl := cl) (x := X i) (y := X j) (L i) (fun q hq => (hv q hq).2.1)
    have hbl := ldsTo_len (X i) (L i)
    have h100 := hL i hi
    have e1 : (∀ t, t < 100 → (lk2 L X cl i).parts t = (lk2 L X cl j).parts t) ↔ (ldsTo (X i) (L i)).map cl = (ldsTo (X j) (L i)).map cl := by
      constructor
      · intro h
        apply List.ext_getElem (by simp [hlen])
        intro t h1 h2
        simp only [List.length_map] at h1 h2
        have := h t (by omega)
        have ea : (lk2 L X cl i).parts t = cl (ldsTo (X i) (L i))[t] := by
          show (if t < _ then _ else 0) = _
          rw [if_pos h1]
          simp [h1]
        have eb : (lk2 L X cl j).parts t = cl (ldsTo (X j) (L i))[t] := by
          show (if t < (ldsTo (X j) (L j)).length then cl ((ldsTo (X j) (L j)).getD t 0) else 0) = _
          rw [← hfc.len, if_pos h2]
          simp [h2]
        simp only [List.getElem_map]
        rw [← ea, ← eb, this]
      · intro h t _
        show (if t < (ldsTo (X i) (L i)).length then cl ((ldsTo (X i) (L i)).getD t 0) else 0) = (if t < (ldsTo (X j) (L j)).length then cl ((ldsTo (X j) (L j)).getD t 0) else 0)
        rw [← hfc.len, ← hlen]
        by_cases ht : t < (ldsTo (X i) (L i)).length
        · rw [if_pos ht, if_pos ht]
          have ht' : t < (ldsTo (X j) (L i)).length := by rw [← hlen]; exact ht
          have := congrArg (fun l => l[t]?) h
          simp only [List.getElem?_map, List.getElem?_eq_getElem ht, List.getElem?_eq_getElem ht', Option.map_some, Option.some.injEq] at this
          simp [ht, ht', this]
        · rw [if_neg ht, if_neg ht]
    rw [e1, hmap]
    constructor
    · intro h
      exact ⟨hfc.len, fun c hc' => ⟨(hv c hc').1, alike_iff.2 ⟨(hv c hc').2.1, h c hc', (hv c hc').2.2⟩⟩⟩
    · intro h c hc' h4
      exact (alike_iff.1 (h.all c hc').2).2.1 h4
  constructor
  · rintro ⟨h1, h2⟩
    exact ⟨h1, (key h1).1 h2⟩
  · rintro ⟨h1, h2⟩
    exact ⟨h1, (key h1).2 h2⟩

theorem round_of {n : Nat} {L : Nat → Nat} {K X : Nat → Nat → V} {cl gr : Nat → Nat} (hg : Good n L X) (hL : ∀ r, r < n → L r ≤ 100) (hf : Facy n L K X cl) (h : ∀ i, i < n → Least (lk2 L X cl) i (gr i)) : Round n L K X cl gr ∧ Facy n L K X gr := by
  have hr : Round n L K X cl gr := ⟨fun i hi => (h i hi).le, fun i hi => (lk2_eq hg hL hf (by have := (h i hi).le; omega) hi).1 (h i hi).eq, fun i hi k hk hc => by
    have := (h i hi).least k hk
    rw [(lk2_eq hg hL hf (by have := (h i hi).le; omega) hi).2 hc] at this
    cases this⟩
  exact ⟨hr, fun i j hi hj e => hf i j hi hj ((hr.eq hi hj).1 e).1⟩

end Go.Proofs.Ytgflalfiopnmnaa

namespace Go.Proofs.Ytgflalfiopnmnaa
open Go.RowKit Vl

/-- What 'l3sorted' holds: its answer's place, its row's. -/
structure SrtB (w wr : World) (pv : Value) : Prop where
  res : wr.heap[w.heap.size + 1]? = some (.cells #[.slice none 0 0] 73 (0, 0))
  out : wr.heap[w.heap.size + 2]? = some (.cells #[pv] 73 (0, 0))
  bel : Below w.heap.size w wr
theorem SrtB.below {w wr wr' : World} {pv : Value} (h : SrtB w wr pv) (hb : Below wr.heap.size wr wr') : SrtB w wr' pv := ⟨blkB h.res hb, blkB h.out hb, grw h.bel hb⟩
theorem SrtB.only {w wr wr' : World} {pv : Value} {P : Nat → Prop} (h : SrtB w wr pv) (ho : Only P wr wr') (hP : ∀ k, P k → w.heap.size + 3 ≤ k) : SrtB w wr' pv :=
  ⟨(ho.block _ (blk_lt h.res) (fun x => by have := hP _ x; omega)).trans h.res, (ho.block _ (blk_lt h.out) (fun x => by have := hP _ x; omega)).trans h.out, h.bel.trans (ho.toBelow (fun k x => by have := hP k x; omega) h.bel.size)⟩

theorem SrtB.grow {w wr wr' : World} {pv : Value} (h : SrtB w wr pv) (hb : Below (w.heap.size + 3) wr wr') : SrtB w wr' pv := ⟨(hb.block _ (by omega)).trans h.res, (hb.block _ (by omega)).trans h.out, h.bel.trans (hb.mono (by omega))⟩
theorem SrtB.put {w wr : World} {pv : Value} (h : SrtB w wr pv) (pv' : Value) : SrtB w (wr.setCell ⟨w.heap.size + 2, 0, none⟩ pv') pv' :=
  ⟨(Below.heap_setCell _ _ _ _ (show w.heap.size + 1 ≠ w.heap.size + 2 by omega)).trans h.res, one_put h.out _, h.bel.setCell (show w.heap.size ≤ w.heap.size + 2 by omega) _⟩

theorem pairCells_snoc {K X : Nat → V} {ls : List Nat} {c : Nat} (h : ls.length = c) : pairCells (byI K (ls ++ [c])) (byI X (ls ++ [c])) (c + 1) = pairCells (byI K ls) (byI X ls) c ++ [.int .i64 (K c).k, .int .i64 (K c).n, .string (K c).s, .int .i64 (K c).a, .int .i64 (X c).k, .int .i64 (X c).n, .string (X c).s, .int .i64 (X c).a] := by
  rw [pairCells_succ]
  have e : ∀ F : Nat → V, byI F (ls ++ [c]) c = F c := fun F => by unfold byI; rw [← h]; simp [List.getD_eq_getElem?_getD]
  rw [e, e]
  congr 1
  refine pairCells_congr (fun j hj => ?_)
  unfold byI
  simp only [List.getD_eq_getElem?_getD]
  rw [List.getElem?_append_left (by omega)]
  exact ⟨rfl, rfl⟩

theorem owns_frozen {w : World} {base t s n g cap : Nat} {xs : List Value} (h : w.ownsRow base t s (.slice (some ⟨g, 0, none⟩) n cap) n xs) (j : Nat) : w.frozen? ⟨g, j, none⟩ = false := by
  rcases h.2 with ⟨hv, _⟩ | ⟨g', cap', cur, hv, _, hh, _⟩
  · cases hv
  · cases hv
    simp [World.frozen?, hh]

/-- Two pairs beside one another change their places. -/
theorem swap_row {w : World} {base g cap c m q y : Nat} {A Bb : List Nat} {K X : Nat → V} {kc xc ky xy : V} (h : w.ownsRow base 75 8 (.slice (some ⟨g, 0, none⟩) (c + 1) cap) (c + 1) (pairCells (byI K (A ++ y :: c :: Bb)) (byI X (A ++ y :: c :: Bb)) (c + 1))) (hm : A.length = m) (hq : q = m + 1) (hc : m + 1 ≤ c) (h1 : K c = kc) (h2 : X c = xc) (h3 : K y = ky) (h4 : X y = xy) :
    ((((((((((((((((w.setCell ⟨g, m * 8, none⟩ (.int .i64 kc.k)).setCell ⟨g, m * 8 + 1, none⟩ (.int .i64 kc.n)).setCell ⟨g, m * 8 + 2, none⟩ (.string kc.s)).setCell ⟨g, m * 8 + 3, none⟩ (.int .i64 kc.a)).setCell ⟨g, m * 8 + 4, none⟩ (.int .i64 xc.k)).setCell ⟨g, m * 8 + 5, none⟩ (.int .i64 xc.n)).setCell ⟨g, m * 8 + 6, none⟩ (.string xc.s)).setCell ⟨g, m * 8 + 7, none⟩ (.int .i64 xc.a)).setCell ⟨g, q * 8, none⟩ (.int .i64 ky.k)).setCell ⟨g, q * 8 + 1, none⟩ (.int .i64 ky.n)).setCell ⟨g, q * 8 + 2, none⟩ (.string ky.s)).setCell ⟨g, q * 8 + 3, none⟩ (.int .i64 ky.a)).setCell ⟨g, q * 8 + 4, none⟩ (.int .i64 xy.k)).setCell ⟨g, q * 8 + 5, none⟩ (.int .i64 xy.n)).setCell ⟨g, q * 8 + 6, none⟩ (.string xy.s)).setCell ⟨g, q * 8 + 7, none⟩ (.int .i64 xy.a)).ownsRow base 75 8 (.slice (some ⟨g, 0, none⟩) (c + 1) cap) (c + 1) (pairCells (byI K (A ++ c :: y :: Bb)) (byI X (A ++ c :: y :: Bb)) (c + 1)) ∧ Only (fun k => k = g) w ((((((((((((((((w.setCell ⟨g, m * 8, none⟩ (.int .i64 kc.k)).setCell ⟨g, m * 8 + 1, none⟩ (.int .i64 kc.n)).setCell ⟨g, m * 8 + 2, none⟩ (.string kc.s)).setCell ⟨g, m * 8 + 3, none⟩ (.int .i64 kc.a)).setCell ⟨g, m * 8 + 4, none⟩ (.int .i64 xc.k)).setCell ⟨g, m * 8 + 5, none⟩ (.int .i64 xc.n)).setCell ⟨g, m * 8 + 6, none⟩ (.string xc.s)).setCell ⟨g, m * 8 + 7, none⟩ (.int .i64 xc.a)).setCell ⟨g, q * 8, none⟩ (.int .i64 ky.k)).setCell ⟨g, q * 8 + 1, none⟩ (.int .i64 ky.n)).setCell ⟨g, q * 8 + 2, none⟩ (.string ky.s)).setCell ⟨g, q * 8 + 3, none⟩ (.int .i64 ky.a)).setCell ⟨g, q * 8 + 4, none⟩ (.int .i64 xy.k)).setCell ⟨g, q * 8 + 5, none⟩ (.int .i64 xy.n)).setCell ⟨g, q * 8 + 6, none⟩ (.string xy.s)).setCell ⟨g, q * 8 + 7, none⟩ (.int .i64 xy.a)) := by
  subst h1 h2 h3 h4
  refine ⟨?_, only8.trans only8⟩
  have e := owns_put (owns_put h (j := m) (by omega) (K c) (X c)) (j := q) (by omega) (K y) (X y)
  rw [pairCells_congr (K' := byI K (A ++ c :: y :: Bb)) (X' := byI X (A ++ c :: y :: Bb)) (fun j hj => ⟨?_, ?_⟩)] at e
  · exact e
  · rw [hq, ← hm]; exact getD_swap j K
  · rw [hq, ← hm]; exact getD_swap j X

theorem sort_perm {ls A B : List Nat} {c : Nat} (h : ls.Perm (List.range c)) (e : A ++ B = ls) : (A ++ c :: B).Perm (List.range (c + 1)) := by
  rw [List.range_succ]
  have h1 : (A ++ c :: B).Perm (c :: (A ++ B)) := List.perm_middle
  rw [e] at h1
  have h2 : (List.range c ++ [c]).Perm (c :: List.range c) := List.perm_append_singleton c _
  exact h1.trans ((h.cons c).trans h2.symm)

theorem keep144 {w w' : World} {B g i0 i1 i2 i3 j0 j1 j2 j3 : Nat} {z c0 c1 c2 c3 d0 d1 d2 d3 : Value}
    (h : w.cell? ⟨B, 0, none⟩ = some z ∧ (w.cell? ⟨g, i0, none⟩ = some c0 ∧ w.cell? ⟨g, i1, none⟩ = some c1 ∧ w.cell? ⟨g, i2, none⟩ = some c2 ∧ w.cell? ⟨g, i3, none⟩ = some c3) ∧ (w.cell? ⟨g, j0, none⟩ = some d0 ∧ w.cell? ⟨g, j1, none⟩ = some d1 ∧ w.cell? ⟨g, j2, none⟩ = some d2 ∧ w.cell? ⟨g, j3, none⟩ = some d3)) (hb : Below w.heap.size w w') :
    w'.cell? ⟨B, 0, none⟩ = some z ∧ (w'.cell? ⟨g, i0, none⟩ = some c0 ∧ w'.cell? ⟨g, i1, none⟩ = some c1 ∧ w'.cell? ⟨g, i2, none⟩ = some c2 ∧ w'.cell? ⟨g, i3, none⟩ = some c3) ∧ (w'.cell? ⟨g, j0, none⟩ = some d0 ∧ w'.cell? ⟨g, j1, none⟩ = some d1 ∧ w'.cell? ⟨g, j2, none⟩ = some d2 ∧ w'.cell? ⟨g, j3, none⟩ = some d3) := by
  obtain ⟨h0, ⟨h1, h2, h3, h4⟩, ⟨k1, k2, k3, k4⟩⟩ := h
  have l1 : B < w.heap.size := World.block_lt_of_cell? _ _ h0
  have l2 : g < w.heap.size := World.block_lt_of_cell? _ _ h1
  exact ⟨(hb.cell l1).trans h0, ⟨(hb.cell l2).trans h1, (hb.cell l2).trans h2, (hb.cell l2).trans h3, (hb.cell l2).trans h4⟩, ⟨(hb.cell l2).trans k1, (hb.cell l2).trans k2, (hb.cell l2).trans k3, (hb.cell l2).trans k4⟩⟩

set_option maxHeartbeats 4000000 in
set_option maxRecDepth 100000 in
/-- 'l3sorted'. -/
theorem l3sorted_any (pa : Option Addr) (L C B O : Nat) (K X : Nat → V) (w : World) (hL : L ≤ 1000) (HZ : Hid (∀ c, c < L → (K c).s.size ≤ 9223372036854775807)) (HP : Hid (PairsAt w pa L B O K X)) :
    Calls Try.prog 39 #[.agg #[.slice pa L C]] w fun e w' => (∃ (pa' : Option Addr) (pc : Nat) (ls : List Nat), e = .returned (.agg #[.slice pa' L pc]) ∧ SortI K L ls ∧ w'.ownsRow w.heap.size 75 8 (.slice pa' L pc) L (pairCells (byI K ls) (byI X ls) L)) ∧ Below w.heap.size w w' := by
  have A3 : Hid _ := alloc3 w (.cells #[.slice pa L C] 73) (.cells #[.slice none 0 0] 73) (.cells #[.slice none 0 0] 73)
  obtain ⟨w1, hw1⟩ : ∃ w1, w1 = ((w.alloc (.cells #[.slice pa L C] 73)).alloc (.cells #[.slice none 0 0] 73)).alloc (.cells #[.slice none 0 0] 73) := ⟨_, rfl⟩
  have HS1 : Hid (SrtB w w1 (.slice none 0 0)) := by rw [hw1]; exact ⟨A3.out.2.1, A3.out.2.2.1, A3.out.2.2.2.2⟩
  have hs1 : Hid (w1.heap.size = w.heap.size + 3) := by rw [hw1]; exact A3.out.2.2.2.1
  clear A3
  obtain ⟨ip, hpi, hp0, hp1, hp2⟩ := info_parts Try.info75
  go_enter Try.func39, Try.ntmps39
  go_wp2
  rw [← hw1]
  clear hw1
  go_loopw [12] (fun ii wr => ∃ (c : Nat) (pv : Value) (ls : List Nat), c ≤ L ∧ ii = .int .i64 c ∧ Hid (SortI K c ls) ∧ Hid (SrtB w wr pv) ∧ Hid (wr.ownsRow (w.heap.size + 3) 75 8 pv c (pairCells (byI K ls) (byI X ls) c)) ∧ Hid (w.heap.size + 3 ≤ wr.heap.size)) (fun ii _ => L - (intOf ii).toNat)
  case atStart => exact ⟨0, _, [], Nat.zero_le _, rfl, ⟨List.Perm.refl _, List.Pairwise.nil⟩, HS1, World.ownsRow_nil _ _ _ _, show _ ≤ _ by rw [hs1.out]; exact Nat.le_refl _⟩
  case round =>
    obtain ⟨c, pv, ls, hc, rfl, HLs, HSr, HOr, HSz⟩ := hrel
    clear HS1 hs1
    obtain ⟨pa', pc, rfl, hpk⟩ := owns_form HOr.out
    have HPK : Hid (∀ k, (Value.slice pa' c pc).ownBlock = some k → w.heap.size + 3 ≤ k ∧ k < wr.heap.size) := hpk
    clear hpk
    by_cases hlt : c < L
    · obtain rfl := HP.out.top (by omega)
      obtain ⟨⟨k0, k1, k2, k3⟩, ⟨v0, v1, v2, v3⟩⟩ := (HP.out.below HSr.out.bel).cells hlt
      obtain ⟨kc, HKC⟩ : ∃ kc, Hid (K c = kc) := ⟨_, rfl⟩
      obtain ⟨xc, HXC⟩ : ∃ xc, Hid (X c = xc) := ⟨_, rfl⟩
      rw [HKC.out] at k0 k1 k2 k3
      rw [HXC.out] at v0 v1 v2 v3
      obtain ⟨wp, hwp⟩ : ∃ wp, wp = wr.alloc (.cells #[.int .i64 kc.k, .int .i64 kc.n, .string kc.s, .int .i64 kc.a, .int .i64 xc.k, .int .i64 xc.n, .string xc.s, .int .i64 xc.a] 75) := ⟨_, rfl⟩
      have hbp : Below wr.heap.size wr wp := by rw [hwp]; exact (Below.refl _ _).alloc (Nat.le_refl _) _
      have hsp : wp.heap.size = wr.heap.size + 1 := by rw [hwp]; simp
      have HSP : Hid (wp.heap.size = wr.heap.size + 1) := hsp
      have HSpp : Hid (SrtB w wp (.slice pa' c pc)) := HSr.out.below hbp
      have HOp : Hid (wp.ownsRow (w.heap.size + 3) 75 8 (.slice pa' c pc) c (pairCells (byI K ls) (byI X ls) c)) := (Only.below (P := fun _ => False) hbp).owns HOr.out (fun _ _ _ h => h)
      obtain ⟨y0, y1⟩ := one_at HSpp.out.out
      have hpc := cells8 (show wp.heap[wr.heap.size]? = some (.cells #[.int .i64 kc.k, .int .i64 kc.n, .string kc.s, .int .i64 kc.a, .int .i64 xc.k, .int .i64 xc.n, .string xc.s, .int .i64 xc.a] 75 (0, 0)) by rw [hwp]; exact heap_alloc_new _ _)
      obtain ⟨p0, p1, p2, p3, p4, p5, p6, p7, _⟩ := hpc
      have hL2 : c ≤ 1000 := by omega
      have hszr := HSz.out
      rw [hwp] at y0 p0 p1 p2 p3 p4 p5 p6 p7
      have l2 : w.heap.size + 1 + 1 < wr.heap.size := by omega
      clear hbp hsp HSr HOr
      go_wp2_with (at_builtin; refine wpList_append_lies _ (by rfl) (.tmp 17) (.tmp 19) 71 (by rfl) (w.heap.size + 3) 75 ip (.agg #[.int .i64 0, .int .i64 0, .string ⟨#[]⟩, .int .i64 0, .int .i64 0, .int .i64 0, .string ⟨#[]⟩, .int .i64 0]) 8 80 Try.underlying71 hpi hp0 hp1 hp2 (by rfl) (by omega) (.slice pa' c pc) c (pairCells (byI K ls) (byI X ls) c) (by rfl) (by rw [← hwp]; exact HOp.out.alloc _) ⟨wr.heap.size + 1, 0, none⟩ 1 1 [.int .i64 kc.k, .int .i64 kc.n, .string kc.s, .int .i64 kc.a, .int .i64 xc.k, .int .i64 xc.n, .string xc.s, .int .i64 xc.a] (by rfl) (by rfl) ?c1 ?c2 (by omega) ?c3 ?c4 ?c5 (wr.heap.size + 2) ?c6 ?_)
      case c1 => exact World.news_of_block (alloc2 wr _ _).2.1
      case c2 => intro u hu; simp at hu; rcases hu with rfl | rfl | rfl | rfl | rfl | rfl | rfl | rfl <;> rfl
      case c3 => unfold maxLen; omega
      case c4 => omega
      case c5 => simp; omega
      case c6 => simp
      intro g cap w6 hown6 hgrow6 hat6 hlt6
      have hb6 : Below (w.heap.size + 3) (wp.alloc (.cells #[.int .i64 kc.k, .int .i64 kc.n, .string kc.s, .int .i64 kc.a, .int .i64 xc.k, .int .i64 xc.n, .string xc.s, .int .i64 xc.a] 75)) w6 := below_grown (HOp.out.alloc _) (by rw [hwp]; exact hgrow6) (by have := HSP.out; simp; omega)
      have HS6 : Hid (SrtB w w6 (.slice pa' c pc)) := (HSpp.out.below ((Below.refl _ _).alloc (Nat.le_refl _) _)).grow hb6
      have HS7 : Hid (SrtB w (w6.setCell ⟨w.heap.size + 2, 0, none⟩ (.slice (some ⟨g, 0, none⟩) (c + 1) cap)) (.slice (some ⟨g, 0, none⟩) (c + 1) cap)) := HS6.out.put _
      obtain ⟨_, _, hf6, hg6⟩ := owns_form hown6
      have hgt := (hg6 g rfl).1
      have HO7 : Hid ((w6.setCell ⟨w.heap.size + 2, 0, none⟩ (.slice (some ⟨g, 0, none⟩) (c + 1) cap)).ownsRow (w.heap.size + 3) 75 8 (.slice (some ⟨g, 0, none⟩) (c + 1) cap) (c + 1) (pairCells (byI K (ls ++ [c])) (byI X (ls ++ [c])) (c + 1))) := by
        refine ownsRow_setCell_other (a := ⟨w.heap.size + 2, 0, none⟩) ?_ (by simp only [Value.ownBlock, ne_eq, Option.some.injEq]; omega) _
        rw [pairCells_snoc HLs.out.len, HKC.out, HXC.out]
        exact hown6
      have HZ7 : Hid (w.heap.size + 3 ≤ (w6.setCell ⟨w.heap.size + 2, 0, none⟩ (.slice (some ⟨g, 0, none⟩) (c + 1) cap)).heap.size) := by
        have h1 := hb6.size
        have h2 := HSP.out
        show _ ≤ _
        simp only [World.setCell, Array.size_modify]
        simp at h1
        omega
      obtain ⟨y0', y1'⟩ := one_at HS6.out.out
      obtain ⟨w7, hw7⟩ : ∃ w7, w7 = w6.setCell ⟨w.heap.size + 2, 0, none⟩ (.slice (some ⟨g, 0, none⟩) (c + 1) cap) := ⟨_, rfl⟩
      rw [← hw7] at HS7 HO7 HZ7
      clear hown6 hgrow6 hat6 hlt6 hb6 HSpp HOp hf6 hg6 y0 y1 p0 p1 p2 p3 p4 p5 p6 p7 k0 k1 k2 k3 v0 v1 v2 v3 hwp HSP l2
      obtain ⟨z0, _⟩ := one_at HS7.out.out
      rw [hw7] at z0
      go_wp2
      rw [← hw7]
      clear hw7 z0 y0' y1' HS6
      have hzc := HZ.out c hlt
      rw [HKC.out] at hzc
      go_loopw [6] (fun kk wq => ∃ (A B : List Nat) (q : Nat), kk = .int .i64 q ∧ Hid (q = A.length) ∧ Hid (A ++ B = ls) ∧ Hid (∀ y ∈ B, less (K c) (K y) = true) ∧ Hid (SrtB w wq (.slice (some ⟨g, 0, none⟩) (c + 1) cap)) ∧ Hid (wq.ownsRow (w.heap.size + 3) 75 8 (.slice (some ⟨g, 0, none⟩) (c + 1) cap) (c + 1) (pairCells (byI K (A ++ c :: B)) (byI X (A ++ c :: B)) (c + 1))) ∧ Hid (w.heap.size + 3 ≤ wq.heap.size)) (fun kk _ => (intOf kk).toNat)
      case atStart => exact ⟨ls, [], c, by go_num, HLs.out.len.symm, List.append_nil _, (show ∀ y ∈ ([] : List Nat), less (K c) (K y) = true from fun y hy => by simp at hy), HS7, HO7, HZ7⟩
      case round =>
        obtain ⟨A, Bb, q, rfl, HQ, HAB, HBl, HSq, HOq, HZq⟩ := hrel
        clear HS7 HO7 HZ7
        have HLen : Hid (A.length ≤ c ∧ A.length + Bb.length = c) := by
          have h1 := HLs.out.len
          rw [← HAB.out] at h1
          simp at h1
          exact ⟨by omega, by omega⟩
        rcases List.eq_nil_or_concat A with hA | ⟨A', y, hA⟩
        · have hq0 : q = 0 := by rw [HQ.out, hA]; rfl
          have hd : decide (0 < q) = false := by simp [hq0]
          have HSo : Hid (SortI K (c + 1) (A ++ c :: Bb)) := ⟨sort_perm HLs.out.perm HAB.out, SortW.ins (by rw [HAB.out]; exact HLs.out.sort) HBl.out (fun y hy => by rw [hA] at hy; cases hy)⟩
          clear hq0
          go_wp2
          go_quiet (fail)
          go_wp2
          go_roundw
          case rel => exact ⟨c + 1, _, _, by omega, by go_num, HSo, HSq.out.below (below_drewN (Below.refl _ _) nq), (Only.below (P := fun _ => False) (below_drewN (Below.refl _ _) nq)).owns HOq.out (fun _ _ _ h => h), HZq⟩
          case measure => simp [intOf]; omega
        · have hA' : A = A' ++ [y] := by rw [hA]; simp
          clear hA
          obtain ⟨m, hm⟩ : ∃ m, A'.length = m := ⟨_, rfl⟩
          have hqm : q = m + 1 := by rw [HQ.out, hA', ← hm]; simp
          have hq1 : (q : Int) - 1 = (m : Int) := by omega
          have hd : decide (0 < q) = true := by simp; omega
          have hmc : m + 1 ≤ c := by have := HLen.out.1; rw [hA'] at this; simp at this; omega
          have hwm : IntKind.i64.wrap (m : Int) = (m : Int) := by rw [IntKind.wrap_i64]; omega
          have HM : Hid (A'.length = m) := hm
          have HQM : Hid (q = m + 1) := hqm
          have HAE : Hid (A = A' ++ [y]) := hA'
          have hyl : y ∈ ls := by rw [← HAB.out, hA']; simp
          have hyc : y < c := List.mem_range.1 (HLs.out.perm.subset hyl)
          have hzy := HZ.out y (by omega)
          have eA : A ++ c :: Bb = A' ++ y :: c :: Bb := by rw [hA']; simp
          rw [eA] at HOq
          clear eA hm hA' hyl
          obtain ⟨ky, HKY⟩ : ∃ ky, Hid (K y = ky) := ⟨_, rfl⟩
          obtain ⟨xy, HXY⟩ : ∃ xy, Hid (X y = xy) := ⟨_, rfl⟩
          rw [HKY.out] at hzy
          have hP := (owns_pairs HOq.out).2
          have kq : byI K (A' ++ y :: c :: Bb) q = kc := by
            unfold byI
            rw [hqm, ← HM.out]
            simp [List.getD_eq_getElem?_getD, HKC.out]
          have km : byI K (A' ++ y :: c :: Bb) m = ky := by
            unfold byI
            rw [← HM.out]
            simp [List.getD_eq_getElem?_getD, HKY.out]
          have xq : byI X (A' ++ y :: c :: Bb) q = xc := by
            unfold byI
            rw [hqm, ← HM.out]
            simp [List.getD_eq_getElem?_getD, HXC.out]
          have xm : byI X (A' ++ y :: c :: Bb) m = xy := by
            unfold byI
            rw [← HM.out]
            simp [List.getD_eq_getElem?_getD, HXY.out]
          obtain ⟨⟨q0, q1, q2, q3⟩, ⟨q4, q5, q6, q7⟩⟩ := hP.cells (c := q) (by omega)
          obtain ⟨⟨m0, m1, m2, m3⟩, ⟨m4, m5, m6, m7⟩⟩ := hP.cells (c := m) (by omega)
          simp only [kq, xq, km, xm, Nat.zero_add, slB, slA] at q0 q1 q2 q3 q4 q5 q6 q7 m0 m1 m2 m3 m4 m5 m6 m7
          obtain ⟨z0, z1⟩ := one_at HSq.out.out
          have hbq : (0 : Int) ≤ (q : Int) ∧ (q : Int) < (c : Int) + 1 := by omega
          have hbm : (0 : Int) ≤ (m : Int) ∧ (m : Int) < (c : Int) + 1 := by omega
          clear kq km xq xm hP hqm
          have hless := l2less_any kc ky wr.drew hzc
          obtain ⟨bl, HBL⟩ : ∃ bl, Hid (less kc ky = bl) := ⟨_, rfl⟩
          rw [HBL.out] at hless
          go_wp2
          go_region_held3 (fun w' => w'.cell? ⟨w.heap.size + 2, 0, none⟩ = some (.slice (some ⟨g, 0, none⟩) (c + 1) cap) ∧ (w'.cell? ⟨g, q * 8, none⟩ = some (.int .i64 kc.k) ∧ w'.cell? ⟨g, q * 8 + 1, none⟩ = some (.int .i64 kc.n) ∧ w'.cell? ⟨g, q * 8 + 2, none⟩ = some (.string kc.s) ∧ w'.cell? ⟨g, q * 8 + 3, none⟩ = some (.int .i64 kc.a)) ∧ (w'.cell? ⟨g, m * 8, none⟩ = some (.int .i64 ky.k) ∧ w'.cell? ⟨g, m * 8 + 1, none⟩ = some (.int .i64 ky.n) ∧ w'.cell? ⟨g, m * 8 + 2, none⟩ = some (.string ky.s) ∧ w'.cell? ⟨g, m * 8 + 3, none⟩ = some (.int .i64 ky.a)))
            (first | exact keep144 ‹_ ∧ _› hb5 | exact ⟨z0, ⟨q0, q1, q2, q3⟩, ⟨m0, m1, m2, m3⟩⟩)
            ((go_at_call 63; refine hless.mono ?_; rintro e w5 ⟨rfl, hb5⟩))
          rename_i hS
          clear hS q0 q1 q2 q3 q4 q5 q6 q7 m0 m1 m2 m3 m4 m5 m6 m7 z0 z1 hless
          have HB5 : Hid (Below wr.heap.size wr w5) := ⟨hb5.os, hb5.tape, hb5.output, hb5.size, hb5.block⟩
          have HS5 : Hid (SrtB w w5 (.slice (some ⟨g, 0, none⟩) (c + 1) cap)) := HSq.out.below HB5.out
          have HO5 : Hid (w5.ownsRow (w.heap.size + 3) 75 8 (.slice (some ⟨g, 0, none⟩) (c + 1) cap) (c + 1) (pairCells (byI K (A' ++ y :: c :: Bb)) (byI X (A' ++ y :: c :: Bb)) (c + 1))) := (Only.below (P := fun _ => False) HB5.out).owns HOq.out (fun _ _ _ h => h)
          have HZ5 : Hid (w.heap.size + 3 ≤ w5.heap.size) := show _ ≤ _ from Nat.le_trans HZq.out HB5.out.size
          clear hb5 HB5 HSq HOq HZq
          cases bl
          · have HSo : Hid (SortI K (c + 1) (A' ++ y :: c :: Bb)) := by
              have e : A ++ c :: Bb = A' ++ y :: c :: Bb := by rw [HAE.out]; simp
              rw [← e]
              refine ⟨sort_perm HLs.out.perm HAB.out, SortW.ins (by rw [HAB.out]; exact HLs.out.sort) HBl.out (fun z hz => ?_)⟩
              rw [HAE.out] at hz
              simp at hz
              subst hz
              rw [HKC.out, HKY.out]
              exact HBL.out
            go_wp2
            go_roundw
            case rel => exact ⟨c + 1, _, _, by omega, by go_num, HSo, HS5, HO5, HZ5⟩
            case measure => simp [intOf]; omega
          · have hP := (owns_pairs HO5.out).2
            have kq : byI K (A' ++ y :: c :: Bb) q = kc := by
              unfold byI
              rw [HQM.out, ← HM.out]
              simp [List.getD_eq_getElem?_getD, HKC.out]
            have km : byI K (A' ++ y :: c :: Bb) m = ky := by
              unfold byI
              rw [← HM.out]
              simp [List.getD_eq_getElem?_getD, HKY.out]
            have xq : byI X (A' ++ y :: c :: Bb) q = xc := by
              unfold byI
              rw [HQM.out, ← HM.out]
              simp [List.getD_eq_getElem?_getD, HXC.out]
            have xm : byI X (A' ++ y :: c :: Bb) m = xy := by
              unfold byI
              rw [← HM.out]
              simp [List.getD_eq_getElem?_getD, HXY.out]
            obtain ⟨⟨q0, q1, q2, q3⟩, ⟨q4, q5, q6, q7⟩⟩ := hP.cells (c := q) (by omega)
            obtain ⟨⟨m0, m1, m2, m3⟩, ⟨m4, m5, m6, m7⟩⟩ := hP.cells (c := m) (by omega)
            simp only [kq, xq, km, xm, Nat.zero_add, slB, slA] at q0 q1 q2 q3 q4 q5 q6 q7 m0 m1 m2 m3 m4 m5 m6 m7
            obtain ⟨z0, z1⟩ := one_at HS5.out.out
            have gz : ∀ j, w5.frozen? ⟨g, j, none⟩ = false := owns_frozen HO5.out
            have gl : g < w5.heap.size := ((owns_form HO5.out).choose_spec.choose_spec.2 g rfl).2
            have l2 : w.heap.size + 1 + 1 < w5.heap.size := by have := HZ5.out; omega
            have l3 : w.heap.size + 1 + 1 < w5.heap.size + 1 := by omega
            have gl' : g < w5.heap.size + 1 := by omega
            have hg2 : w.heap.size + 1 + 1 ≠ g := by omega
            have hg3 : w5.heap.size ≠ g := by omega
            have hg4 : w5.heap.size + 1 ≠ g := by omega
            have hne : ¬ (m = q) := by have := HQM.out; omega
            clear kq km xq xm hP
            have HSW : Hid _ := swap_row HO5.out HM.out HQM.out hmc HKC.out HXC.out HKY.out HXY.out
            go_wp2
            go_roundw
            case rel =>
              refine ⟨A', y :: Bb, m, rfl, HM.out.symm, ?_, ?_, ?_, ?_, ?_⟩
              · show A' ++ y :: Bb = ls
                rw [← HAB.out, HAE.out]
                simp
              · show ∀ z ∈ y :: Bb, less (K c) (K z) = true
                intro z hz
                rcases List.mem_cons.1 hz with rfl | hz
                · rw [HKC.out, HKY.out]; exact HBL.out
                · exact HBl.out z hz
              · exact (HS5.out.only HSW.out.2 (fun k hk => by omega)).below (alloc2 _ _ _).2.2.2
              · exact (HSW.out.1.alloc _).alloc _
              · have h1 := HSW.out.2.size
                have h2 := HZ5.out
                exact Nat.le_trans h2 (Nat.le_trans h1 (alloc2 _ _ _).2.2.2.size)
            case measure => have := HQM.out; simp [intOf]; omega
    · obtain rfl : c = L := by omega
      obtain ⟨y0, y1⟩ := one_at HSr.out.out
      obtain ⟨r0, r1⟩ := one_at HSr.out.res
      go_wp2
      have F := one_put HSr.out.res (.slice pa' c pc)
      obtain ⟨q0, _⟩ := one_at F
      refine bodyPost_ret (v := .agg #[.slice pa' c pc]) (by simp [results, Try.results39, go_sem, q0]) rfl ⟨⟨pa', pc, ls, rfl, HLs.out, ?_⟩, HSr.out.bel.setCell (show w.heap.size ≤ w.heap.size + 1 by omega) _⟩
      exact owns_mono (ownsRow_setCell_other (a := ⟨w.heap.size + 1, 0, none⟩) HOr.out (fun e => by have := (HPK.out _ e).1; simp only at this; omega) _) (by omega)

end Go.Proofs.Ytgflalfiopnmnaa

namespace Go.Proofs.Ytgflalfiopnmnaa
open Go.RowKit Vl

theorem Round.congr {n : Nat} {L : Nat → Nat} {K X : Nat → Nat → V} {cl nx nx' : Nat → Nat} (h : Round n L K X cl nx) (he : ∀ i, i < n → nx i = nx' i) : Round n L K X cl nx' :=
  ⟨fun i hi => by rw [← he i hi]; exact h.low i hi, fun i hi => by rw [← he i hi]; exact h.hit i hi, fun i hi k hk => h.least i hi k (by rw [he i hi]; exact hk)⟩
theorem reps_congr {f g : Nat → Nat} : ∀ {n : Nat}, (∀ i, i < n → f i = g i) → reps n f = reps n g
  | 0, _ => rfl
  | n + 1, h => by
    unfold reps
    rw [List.range_succ, List.filter_append, List.filter_append, List.length_append, List.length_append]
    have := reps_congr (f := f) (g := g) (n := n) (fun i hi => h i (by omega))
    unfold reps at this
    rw [this]
    simp only [List.filter_cons, List.filter_nil, h n (Nat.lt_succ_self n)]

/-- The classes that a slice tells. -/
def clsIn (w : World) (v : Value) (i : Nat) : Nat := match v with
  | .slice (some a) _ _ => (match w.cell? ⟨a.block, i, none⟩ with
    | some (.int _ z) => z.toNat
    | _ => 0)
  | _ => 0
theorem clsIn_row {w : World} {g n m c : Nat} {cl : Nat → Nat} (h : w.rowIs g 3 n (fun i => .int .i64 (cl i : Nat))) {i : Nat} (hi : i < n) : clsIn w (.slice (some ⟨g, 0, none⟩) m c) i = cl i := by
  unfold clsIn
  simp only [h.cell hi]
  simp

/-- The sorted tables. -/
def sK (K : Nat → Nat → V) (ls : Nat → List Nat) (i : Nat) : Nat → V := byI (K i) (ls i)

theorem look2_iff {L : Nat → Nat} {K X : Nat → Nat → V} {cl : Nat → Nat} {i j : Nat} : Look2 (L i) (L j) (K i) (X i) (K j) (X j) cl ↔ Looks L K X cl i j := ⟨fun h => ⟨h.len, h.all⟩, fun h => ⟨h.len, h.all⟩⟩

/-- What is known of a table's new class when all down to k have been asked. -/
structure Found (L : Nat → Nat) (K X : Nat → Nat → V) (cl nx : Nat → Nat) (i k v : Nat) : Prop where
  how : (v = i ∧ ∀ q, k ≤ q → q < i → ¬ (cl q = cl i ∧ Looks L K X cl q i)) ∨ ∃ m, k ≤ m ∧ m < i ∧ (cl m = cl i ∧ Looks L K X cl m i) ∧ v = nx m ∧ ∀ q, k ≤ q → q < m → ¬ (cl q = cl i ∧ Looks L K X cl q i)

theorem Found.start {L : Nat → Nat} {K X : Nat → Nat → V} {cl nx : Nat → Nat} (i : Nat) : Found L K X cl nx i i i := ⟨Or.inl ⟨rfl, fun q h1 h2 => by omega⟩⟩
theorem Found.no {L : Nat → Nat} {K X : Nat → Nat → V} {cl nx : Nat → Nat} {i k v : Nat} (h : Found L K X cl nx i (k + 1) v) (hn : ¬ (cl k = cl i ∧ Looks L K X cl k i)) : Found L K X cl nx i k v := by
  rcases h.how with ⟨h1, h2⟩ | ⟨m, h1, h2, h3, h4, h5⟩
  · refine ⟨Or.inl ⟨h1, fun q hq hi => ?_⟩⟩
    by_cases e : q = k
    · subst e; exact hn
    · exact h2 q (by omega) hi
  · refine ⟨Or.inr ⟨m, by omega, h2, h3, h4, fun q hq hi => ?_⟩⟩
    by_cases e : q = k
    · subst e; exact hn
    · exact h5 q (by omega) hi
theorem Found.yes {L : Nat → Nat} {K X : Nat → Nat → V} {cl nx : Nat → Nat} {i k : Nat} (hk : k < i) (hy : cl k = cl i ∧ Looks L K X cl k i) : Found L K X cl nx i k (nx k) := ⟨Or.inr ⟨k, Nat.le_refl _, hk, hy, rfl, fun q h1 h2 => by omega⟩⟩
/-- One table more. -/
theorem Round.grow {i v : Nat} {L : Nat → Nat} {K X : Nat → Nat → V} {cl nx : Nat → Nat} (h : Round i L K X cl nx) (hf : Found L K X cl nx i 0 v) : Round (i + 1) L K X cl (fun j => if j = i then v else nx j) := by
  have key : v ≤ i ∧ (cl v = cl i ∧ Looks L K X cl v i) ∧ ∀ k, k < v → ¬ (cl k = cl i ∧ Looks L K X cl k i) := by
    rcases hf.how with ⟨rfl, h2⟩ | ⟨m, _, h2, h3, rfl, h5⟩
    · exact ⟨Nat.le_refl _, ⟨rfl, Looks.refl _ _ _ _ _⟩, fun k hk => h2 k (by omega) hk⟩
    · have := h.low m h2
      obtain ⟨a, b⟩ := h.hit m h2
      exact ⟨by omega, ⟨a.trans h3.1, b.trans h3.2⟩, fun k hk => h5 k (by omega) (by omega)⟩
  refine ⟨fun j hj => ?_, fun j hj => ?_, fun j hj k hk => ?_⟩
  · by_cases e : j = i
    · subst e; rw [if_pos rfl]; exact key.1
    · rw [if_neg e]; exact h.low j (by omega)
  · by_cases e : j = i
    · subst e; rw [if_pos rfl]; exact key.2.1
    · rw [if_neg e]; exact h.hit j (by omega)
  · by_cases e : j = i
    · subst e; rw [if_pos rfl] at hk; exact key.2.2 k hk
    · rw [if_neg e] at hk; exact h.least j (by omega) k hk

theorem beq_nat (p q : Nat) : ((p : Int) == (q : Int)) = (p == q) := by
  by_cases e : p = q
  · rw [e, beq_self_eq_true, beq_self_eq_true]
  · have e' : ¬ ((p : Int) = (q : Int)) := by omega
    rw [beq_false_of_ne e, beq_false_of_ne e']

end Go.Proofs.Ytgflalfiopnmnaa

namespace Go.Proofs.Ytgflalfiopnmnaa
open Go.RowKit Vl

set_option maxHeartbeats 1000000 in
set_option maxRecDepth 100000 in
/-- 'slices.Equal' of rows of numbers. -/
theorem equal_any (ga gb n c c' : Nat) (f g : Nat → Nat) (w : World) (hn : n ≤ 1000) (HA : Hid (ClsAt w ga n f)) (HB : Hid (ClsAt w gb n g)) :
    Calls Try.prog 103 #[.slice (some ⟨ga, 0, none⟩) n c, .slice (some ⟨gb, 0, none⟩) n c'] w fun e w' => Tells (∀ i, i < n → f i = g i) e ∧ Below w.heap.size w w' := by
  have hne : ((n : Int) != (n : Int)) = false := by simp
  go_enter Try.func103, Try.ntmps103
  go_wp2
  go_loopw [13] (fun ii wr => ∃ i : Nat, i ≤ n ∧ ii = .int .i64 i ∧ Hid (∀ q, q < i → f q = g q) ∧ Hid (Below w.heap.size w wr)) (fun ii _ => n - (intOf ii).toNat)
  case atStart => exact ⟨0, Nat.zero_le _, rfl, fun q hq => absurd hq (Nat.not_lt_zero _), Below.refl _ _⟩
  case round =>
    obtain ⟨i, hi, rfl, HQ, HW⟩ := hrel
    by_cases hlt : i < n
    · have a0 := HA.out.below HW.out i hlt
      have b0 := HB.out.below HW.out i hlt
      have hbi : (0 : Int) ≤ (i : Int) ∧ (i : Int) < (n : Int) := by omega
      by_cases he : f i = g i
      · have hnv : ((f i : Int) != (g i : Int)) = false := by rw [he]; simp
        have HQ' : Hid (∀ q, q < i + 1 → f q = g q) := show ∀ q, _ from fun q hq => by
          by_cases e : q = i
          · subst e; exact he
          · exact HQ.out q (by omega)
        clear he
        go_wp2
        go_quiet (fail)
        go_wp2
        go_roundw
        case rel => exact ⟨i + 1, by omega, by go_num, HQ', below_drewN HW.out nq⟩
        case measure => simp [intOf]; omega
      · have hnv : ((f i : Int) != (g i : Int)) = true := by simp; omega
        have HN : Hid (¬ ∀ q, q < n → f q = g q) := show ¬ _ from fun h => he (h i hlt)
        clear he
        go_wp2
        go_quiet (fail)
        go_wp2
        go_ret
        exact ⟨tells_no HN.out, below_drewN HW.out nq⟩
    · obtain rfl : i = n := by omega
      go_wp2
      go_ret
      exact ⟨tells_yes HQ.out, HW.out⟩

end Go.Proofs.Ytgflalfiopnmnaa
