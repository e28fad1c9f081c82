import Derived.Test.YtgflalfiopnmnaaGreatDoorM0
import Derived.Test.YtgflalfiopnmnaaGreatDoorM8
import Derived.Test.YtgflalfiopnmnaaGreatDoorM6
import Derived.Test.YtgflalfiopnmnaaGreatDoorVlLess
import Derived.Test.YtgflalfiopnmnaaGreatDoorM7
import Derived.Test.YtgflalfiopnmnaaGreatDoorM3
namespace Go.Proofs.YtgflalfiopnmnaaGreatDoor
open Go.RowKit Vl

structure Face (L : Nat → Nat) (K X : Nat → Nat → V) (i j : Nat) : Prop where
  len : L i = L j
  all : ∀ c, c < L i → prOf K X i c = prOf K X j c
theorem knAll_pre {L : Nat → Nat} {K X : Nat → Nat → V} : ∀ {i j : Nat}, i ≤ j → knAll L K X i <+: knAll L K X j := by
  intro i j h
  induction h with
  | refl => exact List.prefix_refl _
  | step _ ih => exact ih.trans (kns_pre _ _ (Nat.zero_le _))
theorem idx_inj {kn : List PV2} {p q : PV2} (hp : p ∈ kn) (hq : q ∈ kn) (h : kn.idxOf p = kn.idxOf q) : p = q := by
  have h1 := List.getElem_idxOf (List.idxOf_lt_length_of_mem hp)
  have h2 := List.getElem_idxOf (List.idxOf_lt_length_of_mem hq)
  rw [← h1, ← h2]
  simp only [h]

def lk1 (L : Nat → Nat) (K X : Nat → Nat → V) (i : Nat) : Lk := faceLk (knAll L K X (i + 1)) (prOf K X i) (L i)
theorem lk1_part {n : Nat} {L : Nat → Nat} {K X : Nat → Nat → V} {i c : Nat} (hi : i < n) (hc : c < L i) : (lk1 L K X i).parts c = (knAll L K X n).idxOf (prOf K X i c) + 1 ∧ prOf K X i c ∈ knAll L K X n := by
  have hm : prOf K X i c ∈ knAll L K X (i + 1) := kns_mem _ _ hc
  have hp : knAll L K X (i + 1) <+: knAll L K X n := knAll_pre (by omega)
  refine ⟨?_, hp.subset hm⟩
  show (if c < L i then _ else 0) = _
  rw [if_pos hc, idx_pre hp hm]
theorem lk1_eq {n : Nat} {L : Nat → Nat} {K X : Nat → Nat → V} (hL : ∀ r, r < n → L r ≤ 100) {i j : Nat} (hi : i < n) (hj : j < n) : lkEq (lk1 L K X i) (lk1 L K X j) = true ↔ Face L K X i j := by
  rw [lkEq_iff]
  constructor
  · rintro ⟨_, h⟩
    have key : ∀ a b, a < n → b < n → (∀ c, c < 100 → (lk1 L K X a).parts c = (lk1 L K X b).parts c) → L a ≤ L b := fun a b ha hb hab => by
      rcases Nat.lt_or_ge (L b) (L a) with hlt | hge
      · have h1 := hab (L b) (by have := hL a ha; omega)
        have h2 := (lk1_part (K := K) (X := X) ha hlt).1
        have h3 : (lk1 L K X b).parts (L b) = 0 := by
          show (if L b < L b then _ else 0) = 0
          rw [if_neg (by omega)]
        omega
      · exact hge
    have hl : L i = L j := Nat.le_antisymm (key i j hi hj h) (key j i hj hi (fun c hc => (h c hc).symm))
    refine ⟨hl, fun c hc => ?_⟩
    obtain ⟨a1, a2⟩ := lk1_part (K := K) (X := X) hi hc
    obtain ⟨b1, b2⟩ := lk1_part (K := K) (X := X) hj (show c < L j by omega)
    have := h c (by have := hL i hi; omega)
    exact idx_inj a2 b2 (by omega)
  · intro h
    refine ⟨rfl, fun c _ => ?_⟩
    by_cases hc : c < L i
    · rw [(lk1_part (K := K) (X := X) hi hc).1, (lk1_part (K := K) (X := X) hj (by rw [← h.len]; exact hc)).1, h.all c hc]
    · show (if c < L i then _ else 0) = (if c < L j then _ else 0)
      rw [if_neg hc, if_neg (by rw [← h.len]; exact hc)]

theorem Least.uniq {lk : Nat → Lk} {i j k m : Nat} (h : Least lk i k) (g : Least lk j m) (e : lkEq (lk i) (lk j) = true) : k = m := by
  rcases Nat.lt_trichotomy k m with h' | h' | h'
  · have := g.least k h'
    rw [lkEq_trans h.eq e] at this
    cases this
  · exact h'
  · have := h.least m h'
    rw [lkEq_symm] at e
    rw [lkEq_trans g.eq e] at this
    cases this

theorem plain_a {n : Nat} {v : V} (h : isV n v = true) (h4 : v.k ≠ 4) : v.a = 0 := by
  obtain ⟨k, m, s, a⟩ := v
  simp only at h4
  unfold isV at h
  simp only at h
  split at h
  · simp at h; exact h.2.2
  · split at h
    · simp at h; exact h.2.2
    · split at h
      · simp at h; exact h.2
      · split at h
        · simp at h; exact h.2.1
        · simp at h

theorem face_val {n : Nat} {K X : Nat → Nat → V} {i j c : Nat} (hi : isV n (X i c) = true) (hj : isV n (X j c) = true) (h : prOf K X i c = prOf K X j c) : K i c = K j c ∧ (X i c).k = (X j c).k ∧ ((X i c).k ≠ 4 → X i c = X j c) := by
  unfold prOf zAt at h
  simp only [Prod.mk.injEq, V.mk.injEq, and_true] at h
  obtain ⟨h1, h2, h3, h4⟩ := h
  refine ⟨h1, h2, fun hk => ?_⟩
  have a1 := plain_a hi hk
  have a2 := plain_a hj (by omega)
  cases hx : X i c
  cases hy : X j c
  rw [hx] at h2 h3 h4 a1
  rw [hy] at h2 h3 h4 a2
  simp only at *
  subst h2 h3 h4 a1 a2
  rfl

def Facy (n : Nat) (L : Nat → Nat) (K X : Nat → Nat → V) (cl : Nat → Nat) : Prop := ∀ i j, i < n → j < n → cl i = cl j → Face L K X i j

theorem tab_ns {n : Nat} {v : V} (h : isV n v = true) (h4 : v.k = 4) : v.n = 0 ∧ v.s = ⟨#[]⟩ := by
  obtain ⟨k, m, s, a⟩ := v
  simp only at h4
  subst h4
  simp [isV] at h
  exact ⟨h.1, bytes_empty h.2.1⟩

theorem onway_start {n : Nat} {L : Nat → Nat} {K X : Nat → Nat → V} (hg : Good n L X) (hL : ∀ r, r < n → L r ≤ 100) {gr : Nat → Nat} (h : ∀ i, i < n → Least (lk1 L K X) i (gr i)) : OnWay n L K X gr ∧ Facy n L K X gr := by
  have hlt : ∀ i, i < n → gr i < n := fun i hi => by have := (h i hi).le; omega
  have heq : ∀ i j, i < n → j < n → gr i = gr j → Face L K X i j := fun i j hi hj e => by
    have h1 := (h i hi).eq
    have h2 := (h j hj).eq
    rw [e] at h1
    rw [lkEq_symm] at h1
    exact (lk1_eq hL hi hj).1 (lkEq_trans h1 h2)
  refine ⟨⟨fun i hi => (h i hi).le, fun i hi => (h (gr i) (hlt i hi)).uniq (h i hi) (h i hi).eq, fun R hR i j hr => ?_⟩, heq⟩
  obtain ⟨hi, hj, hl, hall⟩ := hR i j hr
  refine (h i hi).uniq (h j hj) ((lk1_eq hL hi hj).2 ⟨hl, fun c hc => ?_⟩)
  obtain ⟨k1, k2, _, k4⟩ := hall c hc
  unfold prOf zAt
  by_cases h4 : (X i c).k = 4
  · obtain ⟨a1, a2⟩ := tab_ns (hg i hi c hc) h4
    obtain ⟨b1, b2⟩ := tab_ns (hg j hj c (by rw [← hl]; exact hc)) (by omega)
    rw [k1, k2, a1, a2, b1, b2]
  · rw [k1, k4 h4]

theorem lds_map {cl : Nat → Nat} {x y : Nat → V} : ∀ c, (∀ q, q < c → (x q).k = (y q).k) → (ldsTo x c).length = (ldsTo y c).length ∧ ((ldsTo x c).map cl = (ldsTo y c).map cl ↔ ∀ q, q < c → (x q).k = 4 → cl (x q).a.toNat = cl (y q).a.toNat)
  | 0, _ => ⟨rfl, ⟨fun _ q hq => by omega, fun _ => rfl⟩⟩
  | c + 1, h => by
    obtain ⟨h1, h2⟩ := lds_map (cl := cl) (x := x) (y := y) c (fun q hq => h q (by omega))
    have hk := h c (by omega)
    rw [ldsTo_succ, ldsTo_succ]
    by_cases h4 : (x c).k = 4
    · rw [if_pos h4, if_pos (by omega)]
      refine ⟨by simp [h1], ⟨fun e q hq hq4 => ?_, fun e => ?_⟩⟩
      · rw [List.map_append, List.map_append] at e
        obtain ⟨e1, e2⟩ := List.append_inj e (by simp [h1])
        by_cases eq : q = c
        · subst eq
          simpa using e2
        · exact h2.1 e1 q (by omega) hq4
      · rw [List.map_append, List.map_append, h2.2 (fun q hq => e q (by omega))]
        simp [e c (by omega) h4]
    · rw [if_neg h4, if_neg (by omega)]
      refine ⟨h1, h2.trans ⟨fun e q hq hq4 => ?_, fun e q hq => e q (by omega)⟩⟩
      by_cases eq : q = c
      · subst eq; exact absurd hq4 h4
      · exact e q (by omega) hq4

def lk2 (L : Nat → Nat) (X : Nat → Nat → V) (cl : Nat → Nat) (i : Nat) : Lk := lkOf (cl i) cl (fun j => (ldsTo (X i) (L i)).getD j 0) (ldsTo (X i) (L i)).length
theorem lk2_eq {n : Nat} {L : Nat → Nat} {K X : Nat → Nat → V} {cl : Nat → Nat} (hg : Good n L X) (hL : ∀ r, r < n → L r ≤ 100) (hf : Facy n L K X cl) {i j : Nat} (hi : i < n) (hj : j < n) : lkEq (lk2 L X cl i) (lk2 L X cl j) = true ↔ cl i = cl j ∧ Looks L K X cl i j := by
  rw [lkEq_iff]
  have key : cl i = cl j → ((∀ t, t < 100 → (lk2 L X cl i).parts t = (lk2 L X cl j).parts t) ↔ Looks L K X cl i j) := fun hc => by
    have hfc := hf i j hi hj hc
    have hv : ∀ c, c < L i → K i c = K j c ∧ (X i c).k = (X j c).k ∧ ((X i c).k ≠ 4 → X i c = X j c) := fun c hc' => face_val (hg i hi c hc') (hg j hj c (by rw [← hfc.len]; exact hc')) (hfc.all c hc')
    obtain ⟨hlen, hmap⟩ := lds_map (cl := cl) (x := X i) (y := X j) (L i) (fun q hq => (hv q hq).2.1)
    have hbl := ldsTo_len (X i) (L i)
    have h100 := hL i hi
    have e1 : (∀ t, t < 100 → (lk2 L X cl i).parts t = (lk2 L X cl j).parts t) ↔ (ldsTo (X i) (L i)).map cl = (ldsTo (X j) (L i)).map cl := by
      constructor
      · intro h
        apply List.ext_getElem (by simp [hlen])
        intro t h1 h2
        simp only [List.length_map] at h1 h2
        have := h t (by omega)
        have ea : (lk2 L X cl i).parts t = cl (ldsTo (X i) (L i))[t] := by
          show (if t < _ then _ else 0) = _
          rw [if_pos h1]
          simp [h1]
        have eb : (lk2 L X cl j).parts t = cl (ldsTo (X j) (L i))[t] := by
          show (if t < (ldsTo (X j) (L j)).length then cl ((ldsTo (X j) (L j)).getD t 0) else 0) = _
          rw [← hfc.len, if_pos h2]
          simp [h2]
        simp only [List.getElem_map]
        rw [← ea, ← eb, this]
      · intro h t _
        show (if t < (ldsTo (X i) (L i)).length then cl ((ldsTo (X i) (L i)).getD t 0) else 0) = (if t < (ldsTo (X j) (L j)).length then cl ((ldsTo (X j) (L j)).getD t 0) else 0)
        rw [← hfc.len, ← hlen]
        by_cases ht : t < (ldsTo (X i) (L i)).length
        · rw [if_pos ht, if_pos ht]
          have ht' : t < (ldsTo (X j) (L i)).length := by rw [← hlen]; exact ht
          have := congrArg (fun l => l[t]?) h
          simp only [List.getElem?_map, List.getElem?_eq_getElem ht, List.getElem?_eq_getElem ht', Option.map_some, Option.some.injEq] at this
          simp [ht, ht', this]
        · rw [if_neg ht, if_neg ht]
    rw [e1, hmap]
    constructor
    · intro h
      exact ⟨hfc.len, fun c hc' => ⟨(hv c hc').1, alike_iff.2 ⟨(hv c hc').2.1, h c hc', (hv c hc').2.2⟩⟩⟩
    · intro h c hc' h4
      exact (alike_iff.1 (h.all c hc').2).2.1 h4
  constructor
  · rintro ⟨h1, h2⟩
    exact ⟨h1, (key h1).1 h2⟩
  · rintro ⟨h1, h2⟩
    exact ⟨h1, (key h1).2 h2⟩

theorem round_of {n : Nat} {L : Nat → Nat} {K X : Nat → Nat → V} {cl gr : Nat → Nat} (hg : Good n L X) (hL : ∀ r, r < n → L r ≤ 100) (hf : Facy n L K X cl) (h : ∀ i, i < n → Least (lk2 L X cl) i (gr i)) : Round n L K X cl gr ∧ Facy n L K X gr := by
  have hr : Round n L K X cl gr := ⟨fun i hi => (h i hi).le, fun i hi => (lk2_eq hg hL hf (by have := (h i hi).le; omega) hi).1 (h i hi).eq, fun i hi k hk hc => by
    have := (h i hi).least k hk
    rw [(lk2_eq hg hL hf (by have := (h i hi).le; omega) hi).2 hc] at this
    cases this⟩
  exact ⟨hr, fun i j hi hj e => hf i j hi hj ((hr.eq hi hj).1 e).1⟩

end Go.Proofs.YtgflalfiopnmnaaGreatDoor

namespace Go.Proofs.YtgflalfiopnmnaaGreatDoor
open Go.RowKit Vl

structure SrtB (w wr : World) (pv : Value) : Prop where
  res : wr.heap[w.heap.size + 1]? = some (.cells #[.slice none 0 0] 37 (0, 0))
  out : wr.heap[w.heap.size + 2]? = some (.cells #[pv] 37 (0, 0))
  bel : Below w.heap.size w wr
theorem SrtB.below {w wr wr' : World} {pv : Value} (h : SrtB w wr pv) (hb : Below wr.heap.size wr wr') : SrtB w wr' pv := ⟨blkB h.res hb, blkB h.out hb, grw h.bel hb⟩
theorem SrtB.only {w wr wr' : World} {pv : Value} {P : Nat → Prop} (h : SrtB w wr pv) (ho : Only P wr wr') (hP : ∀ k, P k → w.heap.size + 3 ≤ k) : SrtB w wr' pv :=
  ⟨(ho.block _ (blk_lt h.res) (fun x => by have := hP _ x; omega)).trans h.res, (ho.block _ (blk_lt h.out) (fun x => by have := hP _ x; omega)).trans h.out, h.bel.trans (ho.toBelow (fun k x => by have := hP k x; omega) h.bel.size)⟩

theorem SrtB.grow {w wr wr' : World} {pv : Value} (h : SrtB w wr pv) (hb : Below (w.heap.size + 3) wr wr') : SrtB w wr' pv := ⟨(hb.block _ (by omega)).trans h.res, (hb.block _ (by omega)).trans h.out, h.bel.trans (hb.mono (by omega))⟩
theorem SrtB.put {w wr : World} {pv : Value} (h : SrtB w wr pv) (pv' : Value) : SrtB w (wr.setCell ⟨w.heap.size + 2, 0, none⟩ pv') pv' :=
  ⟨(Below.heap_setCell _ _ _ _ (show w.heap.size + 1 ≠ w.heap.size + 2 by omega)).trans h.res, one_put h.out _, h.bel.setCell (show w.heap.size ≤ w.heap.size + 2 by omega) _⟩

theorem pairCells_snoc {K X : Nat → V} {ls : List Nat} {c : Nat} (h : ls.length = c) : pairCells (byI K (ls ++ [c])) (byI X (ls ++ [c])) (c + 1) = pairCells (byI K ls) (byI X ls) c ++ [.int .i64 (K c).k, .int .i64 (K c).n, .string (K c).s, .int .i64 (K c).a, .int .i64 (X c).k, .int .i64 (X c).n, .string (X c).s, .int .i64 (X c).a] := by
  rw [pairCells_succ]
  have e : ∀ F : Nat → V, byI F (ls ++ [c]) c = F c := fun F => by unfold byI; rw [← h]; simp [List.getD_eq_getElem?_getD]
  rw [e, e]
  congr 1
  refine pairCells_congr (fun j hj => ?_)
  unfold byI
  simp only [List.getD_eq_getElem?_getD]
  rw [List.getElem?_append_left (by omega)]
  exact ⟨rfl, rfl⟩

theorem owns_frozen {w : World} {base t s n g cap : Nat} {xs : List Value} (h : w.ownsRow base t s (.slice (some ⟨g, 0, none⟩) n cap) n xs) (j : Nat) : w.frozen? ⟨g, j, none⟩ = false := by
  rcases h.2 with ⟨hv, _⟩ | ⟨g', cap', cur, hv, _, hh, _⟩
  · cases hv
  · cases hv
    simp [World.frozen?, hh]

theorem swap_row {w : World} {base g cap c m q y : Nat} {A Bb : List Nat} {K X : Nat → V} {kc xc ky xy : V} (h : w.ownsRow base 39 8 (.slice (some ⟨g, 0, none⟩) (c + 1) cap) (c + 1) (pairCells (byI K (A ++ y :: c :: Bb)) (byI X (A ++ y :: c :: Bb)) (c + 1))) (hm : A.length = m) (hq : q = m + 1) (hc : m + 1 ≤ c) (h1 : K c = kc) (h2 : X c = xc) (h3 : K y = ky) (h4 : X y = xy) :
    ((((((((((((((((w.setCell ⟨g, m * 8, none⟩ (.int .i64 kc.k)).setCell ⟨g, m * 8 + 1, none⟩ (.int .i64 kc.n)).setCell ⟨g, m * 8 + 2, none⟩ (.string kc.s)).setCell ⟨g, m * 8 + 3, none⟩ (.int .i64 kc.a)).setCell ⟨g, m * 8 + 4, none⟩ (.int .i64 xc.k)).setCell ⟨g, m * 8 + 5, none⟩ (.int .i64 xc.n)).setCell ⟨g, m * 8 + 6, none⟩ (.string xc.s)).setCell ⟨g, m * 8 + 7, none⟩ (.int .i64 xc.a)).setCell ⟨g, q * 8, none⟩ (.int .i64 ky.k)).setCell ⟨g, q * 8 + 1, none⟩ (.int .i64 ky.n)).setCell ⟨g, q * 8 + 2, none⟩ (.string ky.s)).setCell ⟨g, q * 8 + 3, none⟩ (.int .i64 ky.a)).setCell ⟨g, q * 8 + 4, none⟩ (.int .i64 xy.k)).setCell ⟨g, q * 8 + 5, none⟩ (.int .i64 xy.n)).setCell ⟨g, q * 8 + 6, none⟩ (.string xy.s)).setCell ⟨g, q * 8 + 7, none⟩ (.int .i64 xy.a)).ownsRow base 39 8 (.slice (some ⟨g, 0, none⟩) (c + 1) cap) (c + 1) (pairCells (byI K (A ++ c :: y :: Bb)) (byI X (A ++ c :: y :: Bb)) (c + 1)) ∧ Only (fun k => k = g) w ((((((((((((((((w.setCell ⟨g, m * 8, none⟩ (.int .i64 kc.k)).setCell ⟨g, m * 8 + 1, none⟩ (.int .i64 kc.n)).setCell ⟨g, m * 8 + 2, none⟩ (.string kc.s)).setCell ⟨g, m * 8 + 3, none⟩ (.int .i64 kc.a)).setCell ⟨g, m * 8 + 4, none⟩ (.int .i64 xc.k)).setCell ⟨g, m * 8 + 5, none⟩ (.int .i64 xc.n)).setCell ⟨g, m * 8 + 6, none⟩ (.string xc.s)).setCell ⟨g, m * 8 + 7, none⟩ (.int .i64 xc.a)).setCell ⟨g, q * 8, none⟩ (.int .i64 ky.k)).setCell ⟨g, q * 8 + 1, none⟩ (.int .i64 ky.n)).setCell ⟨g, q * 8 + 2, none⟩ (.string ky.s)).setCell ⟨g, q * 8 + 3, none⟩ (.int .i64 ky.a)).setCell ⟨g, q * 8 + 4, none⟩ (.int .i64 xy.k)).setCell ⟨g, q * 8 + 5, none⟩ (.int .i64 xy.n)).setCell ⟨g, q * 8 + 6, none⟩ (.string xy.s)).setCell ⟨g, q * 8 + 7, none⟩ (.int .i64 xy.a)) := by
  subst h1 h2 h3 h4
  refine ⟨?_, only8.trans only8⟩
  have e := owns_put (owns_put h (j := m) (by omega) (K c) (X c)) (j := q) (by omega) (K y) (X y)
  rw [pairCells_congr (K' := byI K (A ++ c :: y :: Bb)) (X' := byI X (A ++ c :: y :: Bb)) (fun j hj => ⟨?_, ?_⟩)] at e
  · exact e
  · rw [hq, ← hm]; exact getD_swap j K
  · rw [hq, ← hm]; exact getD_swap j X

theorem sort_perm {ls A B : List Nat} {c : Nat} (h : ls.Perm (List.range c)) (e : A ++ B = ls) : (A ++ c :: B).Perm (List.range (c + 1)) := by
  rw [List.range_succ]
  have h1 : (A ++ c :: B).Perm (c :: (A ++ B)) := List.perm_middle
  rw [e] at h1
  have h2 : (List.range c ++ [c]).Perm (c :: List.range c) := List.perm_append_singleton c _
  exact h1.trans ((h.cons c).trans h2.symm)

theorem keep144 {w w' : World} {B g i0 i1 i2 i3 j0 j1 j2 j3 : Nat} {z c0 c1 c2 c3 d0 d1 d2 d3 : Value}
    (h : w.cell? ⟨B, 0, none⟩ = some z ∧ (w.cell? ⟨g, i0, none⟩ = some c0 ∧ w.cell? ⟨g, i1, none⟩ = some c1 ∧ w.cell? ⟨g, i2, none⟩ = some c2 ∧ w.cell? ⟨g, i3, none⟩ = some c3) ∧ (w.cell? ⟨g, j0, none⟩ = some d0 ∧ w.cell? ⟨g, j1, none⟩ = some d1 ∧ w.cell? ⟨g, j2, none⟩ = some d2 ∧ w.cell? ⟨g, j3, none⟩ = some d3)) (hb : Below w.heap.size w w') :
    w'.cell? ⟨B, 0, none⟩ = some z ∧ (w'.cell? ⟨g, i0, none⟩ = some c0 ∧ w'.cell? ⟨g, i1, none⟩ = some c1 ∧ w'.cell? ⟨g, i2, none⟩ = some c2 ∧ w'.cell? ⟨g, i3, none⟩ = some c3) ∧ (w'.cell? ⟨g, j0, none⟩ = some d0 ∧ w'.cell? ⟨g, j1, none⟩ = some d1 ∧ w'.cell? ⟨g, j2, none⟩ = some d2 ∧ w'.cell? ⟨g, j3, none⟩ = some d3) := by
  obtain ⟨h0, ⟨h1, h2, h3, h4⟩, ⟨k1, k2, k3, k4⟩⟩ := h
  have l1 : B < w.heap.size := World.block_lt_of_cell? _ _ h0
  have l2 : g < w.heap.size := World.block_lt_of_cell? _ _ h1
  exact ⟨(hb.cell l1).trans h0, ⟨(hb.cell l2).trans h1, (hb.cell l2).trans h2, (hb.cell l2).trans h3, (hb.cell l2).trans h4⟩, ⟨(hb.cell l2).trans k1, (hb.cell l2).trans k2, (hb.cell l2).trans k3, (hb.cell l2).trans k4⟩⟩

set_option maxHeartbeats 4000000 in
set_option maxRecDepth 100000 in
theorem l3sorted_any (pa : Option Addr) (L C B O : Nat) (K X : Nat → V) (w : World) (hL : L ≤ 1000) (HZ : Hid (∀ c, c < L → (K c).s.size ≤ 9223372036854775807)) (HP : Hid (PairsAt w pa L B O K X)) :
    Calls Tryz.prog 82 #[.agg #[.slice pa L C]] w fun e w' => (∃ (pa' : Option Addr) (pc : Nat) (ls : List Nat), e = .returned (.agg #[.slice pa' L pc]) ∧ SortI K L ls ∧ w'.ownsRow w.heap.size 39 8 (.slice pa' L pc) L (pairCells (byI K ls) (byI X ls) L)) ∧ Below w.heap.size w w' := by
  have A3 : Hid _ := alloc3 w (.cells #[.slice pa L C] 37) (.cells #[.slice none 0 0] 37) (.cells #[.slice none 0 0] 37)
  obtain ⟨w1, hw1⟩ : ∃ w1, w1 = ((w.alloc (.cells #[.slice pa L C] 37)).alloc (.cells #[.slice none 0 0] 37)).alloc (.cells #[.slice none 0 0] 37) := ⟨_, rfl⟩
  have HS1 : Hid (SrtB w w1 (.slice none 0 0)) := by rw [hw1]; exact ⟨A3.out.2.1, A3.out.2.2.1, A3.out.2.2.2.2⟩
  have hs1 : Hid (w1.heap.size = w.heap.size + 3) := by rw [hw1]; exact A3.out.2.2.2.1
  clear A3
  obtain ⟨ip, hpi, hp0, hp1, hp2⟩ := info_parts Tryz.info39
  go_enter Tryz.func82, Tryz.ntmps82
  go_wp2
  rw [← hw1]
  clear hw1
  go_loopw [12] (fun ii wr => ∃ (c : Nat) (pv : Value) (ls : List Nat), c ≤ L ∧ ii = .int .i64 c ∧ Hid (SortI K c ls) ∧ Hid (SrtB w wr pv) ∧ Hid (wr.ownsRow (w.heap.size + 3) 39 8 pv c (pairCells (byI K ls) (byI X ls) c)) ∧ Hid (w.heap.size + 3 ≤ wr.heap.size)) (fun ii _ => L - (intOf ii).toNat)
  case atStart => exact ⟨0, _, [], Nat.zero_le _, rfl, ⟨List.Perm.refl _, List.Pairwise.nil⟩, HS1, World.ownsRow_nil _ _ _ _, show _ ≤ _ by rw [hs1.out]; exact Nat.le_refl _⟩
  case round =>
    obtain ⟨c, pv, ls, hc, rfl, HLs, HSr, HOr, HSz⟩ := hrel
    clear HS1 hs1
    obtain ⟨pa', pc, rfl, hpk⟩ := owns_form HOr.out
    have HPK : Hid (∀ k, (Value.slice pa' c pc).ownBlock = some k → w.heap.size + 3 ≤ k ∧ k < wr.heap.size) := hpk
    clear hpk
    by_cases hlt : c < L
    · obtain rfl := HP.out.top (by omega)
      obtain ⟨⟨k0, k1, k2, k3⟩, ⟨v0, v1, v2, v3⟩⟩ := (HP.out.below HSr.out.bel).cells hlt
      obtain ⟨kc, HKC⟩ : ∃ kc, Hid (K c = kc) := ⟨_, rfl⟩
      obtain ⟨xc, HXC⟩ : ∃ xc, Hid (X c = xc) := ⟨_, rfl⟩
      rw [HKC.out] at k0 k1 k2 k3
      rw [HXC.out] at v0 v1 v2 v3
      obtain ⟨wp, hwp⟩ : ∃ wp, wp = wr.alloc (.cells #[.int .i64 kc.k, .int .i64 kc.n, .string kc.s, .int .i64 kc.a, .int .i64 xc.k, .int .i64 xc.n, .string xc.s, .int .i64 xc.a] 39) := ⟨_, rfl⟩
      have hbp : Below wr.heap.size wr wp := by rw [hwp]; exact (Below.refl _ _).alloc (Nat.le_refl _) _
      have hsp : wp.heap.size = wr.heap.size + 1 := by rw [hwp]; simp
      have HSP : Hid (wp.heap.size = wr.heap.size + 1) := hsp
      have HSpp : Hid (SrtB w wp (.slice pa' c pc)) := HSr.out.below hbp
      have HOp : Hid (wp.ownsRow (w.heap.size + 3) 39 8 (.slice pa' c pc) c (pairCells (byI K ls) (byI X ls) c)) := (Only.below (P := fun _ => False) hbp).owns HOr.out (fun _ _ _ h => h)
      obtain ⟨y0, y1⟩ := one_at HSpp.out.out
      have hpc := cells8 (show wp.heap[wr.heap.size]? = some (.cells #[.int .i64 kc.k, .int .i64 kc.n, .string kc.s, .int .i64 kc.a, .int .i64 xc.k, .int .i64 xc.n, .string xc.s, .int .i64 xc.a] 39 (0, 0)) by rw [hwp]; exact heap_alloc_new _ _)
      obtain ⟨p0, p1, p2, p3, p4, p5, p6, p7, _⟩ := hpc
      have hL2 : c ≤ 1000 := by omega
      have hszr := HSz.out
      rw [hwp] at y0 p0 p1 p2 p3 p4 p5 p6 p7
      have l2 : w.heap.size + 1 + 1 < wr.heap.size := by omega
      clear hbp hsp HSr HOr
      go_wp2_with (at_builtin; refine wpList_append_lies _ (by rfl) (.tmp 17) (.tmp 19) 35 (by rfl) (w.heap.size + 3) 39 ip (.agg #[.int .i64 0, .int .i64 0, .string ⟨#[]⟩, .int .i64 0, .int .i64 0, .int .i64 0, .string ⟨#[]⟩, .int .i64 0]) 8 80 Tryz.underlying35 hpi hp0 hp1 hp2 (by rfl) (by omega) (.slice pa' c pc) c (pairCells (byI K ls) (byI X ls) c) (by rfl) (by rw [← hwp]; exact HOp.out.alloc _) ⟨wr.heap.size + 1, 0, none⟩ 1 1 [.int .i64 kc.k, .int .i64 kc.n, .string kc.s, .int .i64 kc.a, .int .i64 xc.k, .int .i64 xc.n, .string xc.s, .int .i64 xc.a] (by rfl) (by rfl) ?c1 ?c2 (by omega) ?c3 ?c4 ?c5 (wr.heap.size + 2) ?c6 ?_)
      case c1 => exact World.news_of_block (alloc2 wr _ _).2.1
      case c2 => intro u hu; simp at hu; rcases hu with rfl | rfl | rfl | rfl | rfl | rfl | rfl | rfl <;> rfl
      case c3 => unfold maxLen; omega
      case c4 => omega
      case c5 => simp; omega
      case c6 => simp
      intro g cap w6 hown6 hgrow6 hat6 hlt6
      have hb6 : Below (w.heap.size + 3) (wp.alloc (.cells #[.int .i64 kc.k, .int .i64 kc.n, .string kc.s, .int .i64 kc.a, .int .i64 xc.k, .int .i64 xc.n, .string xc.s, .int .i64 xc.a] 39)) w6 := below_grown (HOp.out.alloc _) (by rw [hwp]; exact hgrow6) (by have := HSP.out; simp; omega)
      have HS6 : Hid (SrtB w w6 (.slice pa' c pc)) := (HSpp.out.below ((Below.refl _ _).alloc (Nat.le_refl _) _)).grow hb6
      have HS7 : Hid (SrtB w (w6.setCell ⟨w.heap.size + 2, 0, none⟩ (.slice (some ⟨g, 0, none⟩) (c + 1) cap)) (.slice (some ⟨g, 0, none⟩) (c + 1) cap)) := HS6.out.put _
      obtain ⟨_, _, hf6, hg6⟩ := owns_form hown6
      have hgt := (hg6 g rfl).1
      have HO7 : Hid ((w6.setCell ⟨w.heap.size + 2, 0, none⟩ (.slice (some ⟨g, 0, none⟩) (c + 1) cap)).ownsRow (w.heap.size + 3) 39 8 (.slice (some ⟨g, 0, none⟩) (c + 1) cap) (c + 1) (pairCells (byI K (ls ++ [c])) (byI X (ls ++ [c])) (c + 1))) := by
        refine ownsRow_setCell_other (a := ⟨w.heap.size + 2, 0, none⟩) ?_ (by simp only [Value.ownBlock, ne_eq, Option.some.injEq]; omega) _
        rw [pairCells_snoc HLs.out.len, HKC.out, HXC.out]
        exact hown6
      have HZ7 : Hid (w.heap.size + 3 ≤ (w6.setCell ⟨w.heap.size + 2, 0, none⟩ (.slice (some ⟨g, 0, none⟩) (c + 1) cap)).heap.size) := by
        have h1 := hb6.size
        have h2 := HSP.out
        show _ ≤ _
        simp only [World.setCell, Array.size_modify]
        simp at h1
        omega
      obtain ⟨y0', y1'⟩ := one_at HS6.out.out
      obtain ⟨w7, hw7⟩ : ∃ w7, w7 = w6.setCell ⟨w.heap.size + 2, 0, none⟩ (.slice (some ⟨g, 0, none⟩) (c + 1) cap) := ⟨_, rfl⟩
      rw [← hw7] at HS7 HO7 HZ7
      clear hown6 hgrow6 hat6 hlt6 hb6 HSpp HOp hf6 hg6 y0 y1 p0 p1 p2 p3 p4 p5 p6 p7 k0 k1 k2 k3 v0 v1 v2 v3 hwp HSP l2
      obtain ⟨z0, _⟩ := one_at HS7.out.out
      rw [hw7] at z0
      go_wp2
      rw [← hw7]
      clear hw7 z0 y0' y1' HS6
      have hzc := HZ.out c hlt
      rw [HKC.out] at hzc
      go_loopw [6] (fun kk wq => ∃ (A B : List Nat) (q : Nat), kk = .int .i64 q ∧ Hid (q = A.length) ∧ Hid (A ++ B = ls) ∧ Hid (∀ y ∈ B, less (K c) (K y) = true) ∧ Hid (SrtB w wq (.slice (some ⟨g, 0, none⟩) (c + 1) cap)) ∧ Hid (wq.ownsRow (w.heap.size + 3) 39 8 (.slice (some ⟨g, 0, none⟩) (c + 1) cap) (c + 1) (pairCells (byI K (A ++ c :: B)) (byI X (A ++ c :: B)) (c + 1))) ∧ Hid (w.heap.size + 3 ≤ wq.heap.size)) (fun kk _ => (intOf kk).toNat)
      case atStart => exact ⟨ls, [], c, by go_num, HLs.out.len.symm, List.append_nil _, (show ∀ y ∈ ([] : List Nat), less (K c) (K y) = true from fun y hy => by simp at hy), HS7, HO7, HZ7⟩
      case round =>
        obtain ⟨A, Bb, q, rfl, HQ, HAB, HBl, HSq, HOq, HZq⟩ := hrel
        clear HS7 HO7 HZ7
        have HLen : Hid (A.length ≤ c ∧ A.length + Bb.length = c) := by
          have h1 := HLs.out.len
          rw [← HAB.out] at h1
          simp at h1
          exact ⟨by omega, by omega⟩
        rcases List.eq_nil_or_concat A with hA | ⟨A', y, hA⟩
        · have hq0 : q = 0 := by rw [HQ.out, hA]; rfl
          have hd : decide (0 < q) = false := by simp [hq0]
          have HSo : Hid (SortI K (c + 1) (A ++ c :: Bb)) := ⟨sort_perm HLs.out.perm HAB.out, SortW.ins (by rw [HAB.out]; exact HLs.out.sort) HBl.out (fun y hy => by rw [hA] at hy; cases hy)⟩
          clear hq0
          go_wp2
          go_quiet (fail)
          go_wp2
          go_roundw
          case rel => exact ⟨c + 1, _, _, by omega, by go_num, HSo, HSq.out.below (below_drewN (Below.refl _ _) nq), (Only.below (P := fun _ => False) (below_drewN (Below.refl _ _) nq)).owns HOq.out (fun _ _ _ h => h), HZq⟩
          case measure => simp [intOf]; omega
        · have hA' : A = A' ++ [y] := by rw [hA]; simp
          clear hA
          obtain ⟨m, hm⟩ : ∃ m, A'.length = m := ⟨_, rfl⟩
          have hqm : q = m + 1 := by rw [HQ.out, hA', ← hm]; simp
          have hq1 : (q : Int) - 1 = (m : Int) := by omega
          have hd : decide (0 < q) = true := by simp; omega
          have hmc : m + 1 ≤ c := by have := HLen.out.1; rw [hA'] at this; simp at this; omega
          have hwm : IntKind.i64.wrap (m : Int) = (m : Int) := by rw [IntKind.wrap_i64]; omega
          have HM : Hid (A'.length = m) := hm
          have HQM : Hid (q = m + 1) := hqm
          have HAE : Hid (A = A' ++ [y]) := hA'
          have hyl : y ∈ ls := by rw [← HAB.out, hA']; simp
          have hyc : y < c := List.mem_range.1 (HLs.out.perm.subset hyl)
          have hzy := HZ.out y (by omega)
          have eA : A ++ c :: Bb = A' ++ y :: c :: Bb := by rw [hA']; simp
          rw [eA] at HOq
          clear eA hm hA' hyl
          obtain ⟨ky, HKY⟩ : ∃ ky, Hid (K y = ky) := ⟨_, rfl⟩
          obtain ⟨xy, HXY⟩ : ∃ xy, Hid (X y = xy) := ⟨_, rfl⟩
          rw [HKY.out] at hzy
          have hP := (owns_pairs HOq.out).2
          have kq : byI K (A' ++ y :: c :: Bb) q = kc := by
            unfold byI
            rw [hqm, ← HM.out]
            simp [List.getD_eq_getElem?_getD, HKC.out]
          have km : byI K (A' ++ y :: c :: Bb) m = ky := by
            unfold byI
            rw [← HM.out]
            simp [List.getD_eq_getElem?_getD, HKY.out]
          have xq : byI X (A' ++ y :: c :: Bb) q = xc := by
            unfold byI
            rw [hqm, ← HM.out]
            simp [List.getD_eq_getElem?_getD, HXC.out]
          have xm : byI X (A' ++ y :: c :: Bb) m = xy := by
            unfold byI
            rw [← HM.out]
            simp [List.getD_eq_getElem?_getD, HXY.out]
          obtain ⟨⟨q0, q1, q2, q3⟩, ⟨q4, q5, q6, q7⟩⟩ := hP.cells (c := q) (by omega)
          obtain ⟨⟨m0, m1, m2, m3⟩, ⟨m4, m5, m6, m7⟩⟩ := hP.cells (c := m) (by omega)
          simp only [kq, xq, km, xm, Nat.zero_add, slB, slA] at q0 q1 q2 q3 q4 q5 q6 q7 m0 m1 m2 m3 m4 m5 m6 m7
          obtain ⟨z0, z1⟩ := one_at HSq.out.out
          have hbq : (0 : Int) ≤ (q : Int) ∧ (q : Int) < (c : Int) + 1 := by omega
          have hbm : (0 : Int) ≤ (m : Int) ∧ (m : Int) < (c : Int) + 1 := by omega
          clear kq km xq xm hP hqm
          have hless := l2less_any kc ky wr.drew hzc
          obtain ⟨bl, HBL⟩ : ∃ bl, Hid (less kc ky = bl) := ⟨_, rfl⟩
          rw [HBL.out] at hless
          go_wp2
          go_region_held3 (fun w' => w'.cell? ⟨w.heap.size + 2, 0, none⟩ = some (.slice (some ⟨g, 0, none⟩) (c + 1) cap) ∧ (w'.cell? ⟨g, q * 8, none⟩ = some (.int .i64 kc.k) ∧ w'.cell? ⟨g, q * 8 + 1, none⟩ = some (.int .i64 kc.n) ∧ w'.cell? ⟨g, q * 8 + 2, none⟩ = some (.string kc.s) ∧ w'.cell? ⟨g, q * 8 + 3, none⟩ = some (.int .i64 kc.a)) ∧ (w'.cell? ⟨g, m * 8, none⟩ = some (.int .i64 ky.k) ∧ w'.cell? ⟨g, m * 8 + 1, none⟩ = some (.int .i64 ky.n) ∧ w'.cell? ⟨g, m * 8 + 2, none⟩ = some (.string ky.s) ∧ w'.cell? ⟨g, m * 8 + 3, none⟩ = some (.int .i64 ky.a)))
            (first | exact keep144 ‹_ ∧ _› hb5 | exact ⟨z0, ⟨q0, q1, q2, q3⟩, ⟨m0, m1, m2, m3⟩⟩)
            ((go_at_call 123; refine hless.mono ?_; rintro e w5 ⟨rfl, hb5⟩))
          rename_i hS
          clear hS q0 q1 q2 q3 q4 q5 q6 q7 m0 m1 m2 m3 m4 m5 m6 m7 z0 z1 hless
          have HB5 : Hid (Below wr.heap.size wr w5) := ⟨hb5.os, hb5.tape, hb5.output, hb5.size, hb5.block⟩
          have HS5 : Hid (SrtB w w5 (.slice (some ⟨g, 0, none⟩) (c + 1) cap)) := HSq.out.below HB5.out
          have HO5 : Hid (w5.ownsRow (w.heap.size + 3) 39 8 (.slice (some ⟨g, 0, none⟩) (c + 1) cap) (c + 1) (pairCells (byI K (A' ++ y :: c :: Bb)) (byI X (A' ++ y :: c :: Bb)) (c + 1))) := (Only.below (P := fun _ => False) HB5.out).owns HOq.out (fun _ _ _ h => h)
          have HZ5 : Hid (w.heap.size + 3 ≤ w5.heap.size) := show _ ≤ _ from Nat.le_trans HZq.out HB5.out.size
          clear hb5 HB5 HSq HOq HZq
          cases bl
          · have HSo : Hid (SortI K (c + 1) (A' ++ y :: c :: Bb)) := by
              have e : A ++ c :: Bb = A' ++ y :: c :: Bb := by rw [HAE.out]; simp
              rw [← e]
              refine ⟨sort_perm HLs.out.perm HAB.out, SortW.ins (by rw [HAB.out]; exact HLs.out.sort) HBl.out (fun z hz => ?_)⟩
              rw [HAE.out] at hz
              simp at hz
              subst hz
              rw [HKC.out, HKY.out]
              exact HBL.out
            go_wp2
            go_roundw
            case rel => exact ⟨c + 1, _, _, by omega, by go_num, HSo, HS5, HO5, HZ5⟩
            case measure => simp [intOf]; omega
          · have hP := (owns_pairs HO5.out).2
            have kq : byI K (A' ++ y :: c :: Bb) q = kc := by
              unfold byI
              rw [HQM.out, ← HM.out]
              simp [List.getD_eq_getElem?_getD, HKC.out]
            have km : byI K (A' ++ y :: c :: Bb) m = ky := by
              unfold byI
              rw [← HM.out]
              simp [List.getD_eq_getElem?_getD, HKY.out]
            have xq : byI X (A' ++ y :: c :: Bb) q = xc := by
              unfold byI
              rw [HQM.out, ← HM.out]
              simp [List.getD_eq_getElem?_getD, HXC.out]
            have xm : byI X (A' ++ y :: c :: Bb) m = xy := by
              unfold byI
              rw [← HM.out]
              simp [List.getD_eq_getElem?_getD, HXY.out]
            obtain ⟨⟨q0, q1, q2, q3⟩, ⟨q4, q5, q6, q7⟩⟩ := hP.cells (c := q) (by omega)
            obtain ⟨⟨m0, m1, m2, m3⟩, ⟨m4, m5, m6, m7⟩⟩ := hP.cells (c := m) (by omega)
            simp only [kq, xq, km, xm, Nat.zero_add, slB, slA] at q0 q1 q2 q3 q4 q5 q6 q7 m0 m1 m2 m3 m4 m5 m6 m7
            obtain ⟨z0, z1⟩ := one_at HS5.out.out
            have gz : ∀ j, w5.frozen? ⟨g, j, none⟩ = false := owns_frozen HO5.out
            have gl : g < w5.heap.size := ((owns_form HO5.out).choose_spec.choose_spec.2 g rfl).2
            have l2 : w.heap.size + 1 + 1 < w5.heap.size := by have := HZ5.out; omega
            have l3 : w.heap.size + 1 + 1 < w5.heap.size + 1 := by omega
            have gl' : g < w5.heap.size + 1 := by omega
            have hg2 : w.heap.size + 1 + 1 ≠ g := by omega
            have hg3 : w5.heap.size ≠ g := by omega
            have hg4 : w5.heap.size + 1 ≠ g := by omega
            have hne : ¬ (m = q) := by have := HQM.out; omega
            clear kq km xq xm hP
            have HSW : Hid _ := swap_row HO5.out HM.out HQM.out hmc HKC.out HXC.out HKY.out HXY.out
            go_wp2
            go_roundw
            case rel =>
              refine ⟨A', y :: Bb, m, rfl, HM.out.symm, ?_, ?_, ?_, ?_, ?_⟩
              · show A' ++ y :: Bb = ls
                rw [← HAB.out, HAE.out]
                simp
              · show ∀ z ∈ y :: Bb, less (K c) (K z) = true
                intro z hz
                rcases List.mem_cons.1 hz with rfl | hz
                · rw [HKC.out, HKY.out]; exact HBL.out
                · exact HBl.out z hz
              · exact (HS5.out.only HSW.out.2 (fun k hk => by omega)).below (alloc2 _ _ _).2.2.2
              · exact (HSW.out.1.alloc _).alloc _
              · have h1 := HSW.out.2.size
                have h2 := HZ5.out
                exact Nat.le_trans h2 (Nat.le_trans h1 (alloc2 _ _ _).2.2.2.size)
            case measure => have := HQM.out; simp [intOf]; omega
    · obtain rfl : c = L := by omega
      obtain ⟨y0, y1⟩ := one_at HSr.out.out
      obtain ⟨r0, r1⟩ := one_at HSr.out.res
      go_wp2
      have F := one_put HSr.out.res (.slice pa' c pc)
      obtain ⟨q0, _⟩ := one_at F
      refine bodyPost_ret (v := .agg #[.slice pa' c pc]) (by simp [results, Tryz.results82, go_sem, q0]) rfl ⟨⟨pa', pc, ls, rfl, HLs.out, ?_⟩, HSr.out.bel.setCell (show w.heap.size ≤ w.heap.size + 1 by omega) _⟩
      exact owns_mono (ownsRow_setCell_other (a := ⟨w.heap.size + 1, 0, none⟩) HOr.out (fun e => by have := (HPK.out _ e).1; simp only at this; omega) _) (by omega)

end Go.Proofs.YtgflalfiopnmnaaGreatDoor

namespace Go.Proofs.YtgflalfiopnmnaaGreatDoor
open Go.RowKit Vl

theorem reps_congr {f g : Nat → Nat} : ∀ {n : Nat}, (∀ i, i < n → f i = g i) → reps n f = reps n g
  | 0, _ => rfl
  | n + 1, h => by
    unfold reps
    rw [List.range_succ, List.filter_append, List.filter_append, List.length_append, List.length_append]
    have := reps_congr (f := f) (g := g) (n := n) (fun i hi => h i (by omega))
    unfold reps at this
    rw [this]
    simp only [List.filter_cons, List.filter_nil, h n (Nat.lt_succ_self n)]

def clsIn (w : World) (v : Value) (i : Nat) : Nat := match v with
  | .slice (some a) _ _ => (match w.cell? ⟨a.block, i, none⟩ with
    | some (.int _ z) => z.toNat
    | _ => 0)
  | _ => 0
theorem clsIn_row {w : World} {g n m c : Nat} {cl : Nat → Nat} (h : w.rowIs g 3 n (fun i => .int .i64 (cl i : Nat))) {i : Nat} (hi : i < n) : clsIn w (.slice (some ⟨g, 0, none⟩) m c) i = cl i := by
  unfold clsIn
  simp only [h.cell hi]
  simp

def sK (K : Nat → Nat → V) (ls : Nat → List Nat) (i : Nat) : Nat → V := byI (K i) (ls i)

theorem look2_iff {L : Nat → Nat} {K X : Nat → Nat → V} {cl : Nat → Nat} {i j : Nat} : Look2 (L i) (L j) (K i) (X i) (K j) (X j) cl ↔ Looks L K X cl i j := ⟨fun h => ⟨h.len, h.all⟩, fun h => ⟨h.len, h.all⟩⟩

structure Found (L : Nat → Nat) (K X : Nat → Nat → V) (cl nx : Nat → Nat) (i k v : Nat) : Prop where
  how : (v = i ∧ ∀ q, k ≤ q → q < i → ¬ (cl q = cl i ∧ Looks L K X cl q i)) ∨ ∃ m, k ≤ m ∧ m < i ∧ (cl m = cl i ∧ Looks L K X cl m i) ∧ v = nx m ∧ ∀ q, k ≤ q → q < m → ¬ (cl q = cl i ∧ Looks L K X cl q i)

theorem Found.start {L : Nat → Nat} {K X : Nat → Nat → V} {cl nx : Nat → Nat} (i : Nat) : Found L K X cl nx i i i := ⟨Or.inl ⟨rfl, fun q h1 h2 => by omega⟩⟩
theorem Found.no {L : Nat → Nat} {K X : Nat → Nat → V} {cl nx : Nat → Nat} {i k v : Nat} (h : Found L K X cl nx i (k + 1) v) (hn : ¬ (cl k = cl i ∧ Looks L K X cl k i)) : Found L K X cl nx i k v := by
  rcases h.how with ⟨h1, h2⟩ | ⟨m, h1, h2, h3, h4, h5⟩
  · refine ⟨Or.inl ⟨h1, fun q hq hi => ?_⟩⟩
    by_cases e : q = k
    · subst e; exact hn
    · exact h2 q (by omega) hi
  · refine ⟨Or.inr ⟨m, by omega, h2, h3, h4, fun q hq hi => ?_⟩⟩
    by_cases e : q = k
    · subst e; exact hn
    · exact h5 q (by omega) hi
theorem Found.yes {L : Nat → Nat} {K X : Nat → Nat → V} {cl nx : Nat → Nat} {i k : Nat} (hk : k < i) (hy : cl k = cl i ∧ Looks L K X cl k i) : Found L K X cl nx i k (nx k) := ⟨Or.inr ⟨k, Nat.le_refl _, hk, hy, rfl, fun q h1 h2 => by omega⟩⟩
theorem Round.grow {i v : Nat} {L : Nat → Nat} {K X : Nat → Nat → V} {cl nx : Nat → Nat} (h : Round i L K X cl nx) (hf : Found L K X cl nx i 0 v) : Round (i + 1) L K X cl (fun j => if j = i then v else nx j) := by
  have key : v ≤ i ∧ (cl v = cl i ∧ Looks L K X cl v i) ∧ ∀ k, k < v → ¬ (cl k = cl i ∧ Looks L K X cl k i) := by
    rcases hf.how with ⟨rfl, h2⟩ | ⟨m, _, h2, h3, rfl, h5⟩
    · exact ⟨Nat.le_refl _, ⟨rfl, Looks.refl _ _ _ _ _⟩, fun k hk => h2 k (by omega) hk⟩
    · have := h.low m h2
      obtain ⟨a, b⟩ := h.hit m h2
      exact ⟨by omega, ⟨a.trans h3.1, b.trans h3.2⟩, fun k hk => h5 k (by omega) (by omega)⟩
  refine ⟨fun j hj => ?_, fun j hj => ?_, fun j hj k hk => ?_⟩
  · by_cases e : j = i
    · subst e; rw [if_pos rfl]; exact key.1
    · rw [if_neg e]; exact h.low j (by omega)
  · by_cases e : j = i
    · subst e; rw [if_pos rfl]; exact key.2.1
    · rw [if_neg e]; exact h.hit j (by omega)
  · by_cases e : j = i
    · subst e; rw [if_pos rfl] at hk; exact key.2.2 k hk
    · rw [if_neg e] at hk; exact h.least j (by omega) k hk

theorem beq_nat (p q : Nat) : ((p : Int) == (q : Int)) = (p == q) := by
  by_cases e : p = q
  · rw [e, beq_self_eq_true, beq_self_eq_true]
  · have e' : ¬ ((p : Int) = (q : Int)) := by omega
    rw [beq_false_of_ne e, beq_false_of_ne e']

end Go.Proofs.YtgflalfiopnmnaaGreatDoor

namespace Go.Proofs.YtgflalfiopnmnaaGreatDoor
open Go.RowKit Vl

set_option maxHeartbeats 1000000 in
set_option maxRecDepth 100000 in
theorem equal_any (ga gb n c c' : Nat) (f g : Nat → Nat) (w : World) (hn : n ≤ 1000) (HA : Hid (ClsAt w ga n f)) (HB : Hid (ClsAt w gb n g)) :
    Calls Tryz.prog 121 #[.slice (some ⟨ga, 0, none⟩) n c, .slice (some ⟨gb, 0, none⟩) n c'] w fun e w' => Tells (∀ i, i < n → f i = g i) e ∧ Below w.heap.size w w' := by
  have hne : ((n : Int) != (n : Int)) = false := by simp
  go_enter Tryz.func121, Tryz.ntmps121
  go_wp2
  go_loopw [13] (fun ii wr => ∃ i : Nat, i ≤ n ∧ ii = .int .i64 i ∧ Hid (∀ q, q < i → f q = g q) ∧ Hid (Below w.heap.size w wr)) (fun ii _ => n - (intOf ii).toNat)
  case atStart => exact ⟨0, Nat.zero_le _, rfl, fun q hq => absurd hq (Nat.not_lt_zero _), Below.refl _ _⟩
  case round =>
    obtain ⟨i, hi, rfl, HQ, HW⟩ := hrel
    by_cases hlt : i < n
    · have a0 := HA.out.below HW.out i hlt
      have b0 := HB.out.below HW.out i hlt
      have hbi : (0 : Int) ≤ (i : Int) ∧ (i : Int) < (n : Int) := by omega
      by_cases he : f i = g i
      · have hnv : ((f i : Int) != (g i : Int)) = false := by rw [he]; simp
        have HQ' : Hid (∀ q, q < i + 1 → f q = g q) := show ∀ q, _ from fun q hq => by
          by_cases e : q = i
          · subst e; exact he
          · exact HQ.out q (by omega)
        clear he
        go_wp2
        go_quiet (fail)
        go_wp2
        go_roundw
        case rel => exact ⟨i + 1, by omega, by go_num, HQ', below_drewN HW.out nq⟩
        case measure => simp [intOf]; omega
      · have hnv : ((f i : Int) != (g i : Int)) = true := by simp; omega
        have HN : Hid (¬ ∀ q, q < n → f q = g q) := show ¬ _ from fun h => he (h i hlt)
        clear he
        go_wp2
        go_quiet (fail)
        go_wp2
        go_ret
        exact ⟨tells_no HN.out, below_drewN HW.out nq⟩
    · obtain rfl : i = n := by omega
      go_wp2
      go_ret
      exact ⟨tells_yes HQ.out, HW.out⟩

end Go.Proofs.YtgflalfiopnmnaaGreatDoor

namespace Go.Proofs.YtgflalfiopnmnaaGreatDoor
open Go.RowKit Vl

def clsVar (w : World) (c i : Nat) : Nat := match w.cell? ⟨c, 0, none⟩ with
  | some v => clsIn w v i
  | none => 0
theorem clsVar_row {w : World} {c g n : Nat} {cl : Nat → Nat} {t : TypeId} (hv : w.heap[c]? = some (.cells #[.slice (some ⟨g, 0, none⟩) n n] t (0, 0))) (h : w.rowIs g 3 n (fun i => .int .i64 (cl i : Nat))) {i : Nat} (hi : i < n) : clsVar w c i = cl i := by
  unfold clsVar
  rw [(one_at hv).1]
  exact clsIn_row h hi

theorem Tryz.infoIS : (Tryz.prog.info? 93).map (fun i => (i.zero, i.size, i.bytes)) = some (some (.slice none 0 0), 1, 24) := by kernel_rfl

def LdRel (w3 : World) (lb n : Nat) (L : Nat → Nat) (X : Nat → Nat → V) (ii : Value) (wr : World) : Prop :=
  ∃ (i : Nat) (lv : Nat → Value), i ≤ n ∧ ii = .int .i64 (i : Nat) ∧ Hid (wr.rowIs lb 93 n (fun j => if j < i then lv j else .slice none 0 0)) ∧ Hid (∀ j, j < i → wr.ownsRow w3.heap.size 3 1 (lv j) (ldsTo (X j) (L j)).length (natCells (ldsTo (X j) (L j)))) ∧ Hid (Only (fun k => k = lb) w3 wr)

theorem lds_lt {n : Nat} {L : Nat → Nat} {X : Nat → Nat → V} (hg : Good n L X) {r : Nat} (hr : r < n) : ∀ c, c ≤ L r → ∀ q ∈ ldsTo (X r) c, q < n
  | 0, _ => by simp [ldsTo]
  | c + 1, hc => by
    intro q hq
    rw [ldsTo_succ] at hq
    by_cases h4 : (X r c).k = 4
    · rw [if_pos h4] at hq
      rcases List.mem_append.1 hq with h | h
      · exact lds_lt hg hr c (by omega) q h
      · simp at h
        have := isV_tab (hg r hr c (by omega)) h4
        omega
    · rw [if_neg h4] at hq
      exact lds_lt hg hr c (by omega) q hq

def CvRel (w4 : World) (c4 b n : Nat) (L : Nat → Nat) (K X : Nat → Nat → V) (wr : World) : Prop :=
  ∃ (g : Nat) (cl : Nat → Nat), Hid (b ≤ g) ∧ Hid (wr.heap[c4]? = some (.cells #[.slice (some ⟨g, 0, none⟩) n n] 93 (0, 0))) ∧ Hid (wr.rowIs g 3 n (fun i => .int .i64 (cl i : Nat))) ∧ Hid (OnWay n L K X cl) ∧ Hid (Facy n L K X cl) ∧ Hid (Only (fun k => k = c4) w4 wr)

set_option maxHeartbeats 8000000 in
set_option maxRecDepth 100000 in
theorem classesOf_any (n : Nat) (T M : Nat → Nat) (L : Nat → Nat) (K X : Nat → Nat → V) (ta : Option Addr) (tb cp : Nat) (w : World) (hn : n ≤ 400) (HL : Hid (∀ r, r < n → L r ≤ 100)) (HG : Hid (Good n L X)) (hta : 0 < n → ta = some ⟨tb, 0, none⟩) (HR : Hid (∀ j, j < n → w.cell? ⟨tb, j, none⟩ = some (ptr (T j)))) (HT : Hid (Tbs w n T M (fun j => (j : Nat)) L K X)) :
    Calls Tryz.prog 73 #[.slice ta n cp] w fun e w' => (∃ (g : Nat) (f : Nat → Nat), e = .returned (.slice (some ⟨g, 0, none⟩) n n) ∧ w.heap.size ≤ g ∧ w'.rowIs g 3 n (fun i => .int .i64 (f i : Nat)) ∧ IsCls n L K X f) ∧ Below w.heap.size w w' := by
  have hmm := @run_makeMap Tryz.prog
  have hmk := run_make_n 223 93 _ 1 24 Tryz.underlying223 Tryz.infoIS n (by omega) (by omega)
  simp only [Nat.mul_one] at hmk
  have A3 := alloc3 w (.cells #[.slice ta n cp] 55) (.map #[] 0) (.cells #[.map (some (w.heap.size + 1))] 215)
  obtain ⟨w1, hw1⟩ : ∃ w1, w1 = ((w.alloc (.cells #[.slice ta n cp] 55)).alloc (.map #[] 0)).alloc (.cells #[.map (some (w.heap.size + 1))] 215) := ⟨_, rfl⟩
  rw [← hw1] at A3
  have HB1 : Hid (Below w.heap.size w w1) := A3.2.2.2.2
  have hs1 : w1.heap.size = w.heap.size + 3 := A3.2.2.2.1
  have HM1 : Hid (MapG pAgg w1 (w.heap.size + 1) (knM (knAll L K X 0) 0)) := ⟨#[], 0, A3.2.1, rfl⟩
  have HT1 : Hid (Tbs w1 n T M (fun j => (j : Nat)) L K X) := HT.out.below HB1.out
  have htl : ∀ j, j < n → tb < w.heap.size := fun j hj => World.block_lt_of_cell? _ _ (HR.out j hj)
  have HC1 : Hid (Cl1 w1 w.heap.size (w.heap.size + 2) ta tb n cp (w.heap.size + 1) T) := ⟨hta, A3.1, A3.2.2.1, fun j hj => (HB1.out.cell (p := ⟨tb, j, none⟩) (htl j hj)).trans (HR.out j hj), by omega, by omega, fun h => by have := htl 0 h; omega⟩
  have HMne : Hid (∀ j, j < n → M j ≠ w.heap.size + 1) := show ∀ j, _ from fun j hj => by
    obtain ⟨l, h1, _⟩ := HT.out.map j hj
    have := h1.lt
    omega
  have hcf : ∀ args w, (callFunc 116 args).run Tryz.prog w = .ok (.enter 116 args) w := Tryz.call116
  have hgr := grouped_any 116 w.heap.size (w.heap.size + 2) n hn (lk1 L K X) (fun i x => Only (fun k => k = w.heap.size + 1) w1 x ∧ MapG pAgg x (w.heap.size + 1) (knM (knAll L K X i) 0)) (fun k => k = w.heap.size + 1) w1 hcf ⟨Only.refl _ _, HM1.out⟩ (show ∀ k, _ from fun k hk => by omega)
    (show ∀ i w' w'', _ from fun i w' w'' h ho => ⟨⟨ho.os.trans h.1.os, ho.tape.trans h.1.tape, ho.output.trans h.1.output, Nat.le_trans h.1.size ho.size, fun k hk hne => by rw [ho.block k (Nat.lt_of_lt_of_le hk h.1.size) (by omega), h.1.block k hk hne]⟩, h.2.same (ho.block _ h.2.lt (by omega))⟩)
    (show ∀ i w', _ from fun i x hi h => (clos1_any n T M L K X i w.heap.size (w.heap.size + 2) ta tb cp (w.heap.size + 1) (knAll L K X i) x hi (HL.out i hi) (by have := knAll_len K X HL.out i (by omega); omega) HG (HT1.out.onlyM h.1 HM1.out HMne.out) h.2 (HC1.out.only h.1 (fun k _ hne => hne))).mono (fun e x' ⟨h1, h2, h3⟩ => ⟨h1, ⟨h.1.trans h3, h2⟩, h3⟩))
  go_enter Tryz.func73, Tryz.ntmps73
  have c0 : w1.cell? ⟨w.heap.size, 0, none⟩ = some (.slice ta n cp) := (one_at A3.1).1
  rw [hw1] at c0
  clear A3
  go_wp2_with fail
  rw [← hw1]
  refine hgr.mono ?_
  clear hgr hcf c0 hw1 hmm
  rintro e w2 ⟨⟨gb, gr, rfl, hgb, hrow, hleast⟩, ⟨hO2, hM2⟩, _⟩
  have HT2 : Hid (Tbs w2 n T M (fun j => (j : Nat)) L K X) := HT1.out.onlyM hO2 HM1.out HMne.out
  have HB2 : Hid (Below w.heap.size w w2) := HB1.out.trans (hO2.toBelow (fun k hk => by omega) HB1.out.size)
  have HTV2 : Hid (w2.heap[w.heap.size]? = some (.cells #[.slice ta n cp] 55 (0, 0))) := (hO2.block _ (blk_lt HC1.out.tv) (by omega)).trans HC1.out.tv
  have HRo2 : Hid (w2.rowIs gb 3 n (fun i => .int .i64 (gr i : Nat))) := hrow
  obtain ⟨hon, hfy⟩ := onway_start (K := K) HG.out HL.out hleast
  have HON : Hid (OnWay n L K X gr) := hon
  have HFY : Hid (Facy n L K X gr) := hfy
  have hs2 : w.heap.size + 3 ≤ w2.heap.size := by have := hO2.size; omega
  clear hO2 hM2 hrow hleast hon hfy HM1 HT1 HC1 HMne hs1
  have A3 := alloc3 w2 (.cells #[.slice (some ⟨gb, 0, none⟩) n n] 93) (.cells (madeCells #[.slice none 0 0] n) 93) (.cells #[.slice (some ⟨w2.heap.size + 1, 0, none⟩) n n] 223)
  obtain ⟨w3, hw3⟩ : ∃ w3, w3 = ((w2.alloc (.cells #[.slice (some ⟨gb, 0, none⟩) n n] 93)).alloc (.cells (madeCells #[.slice none 0 0] n) 93)).alloc (.cells #[.slice (some ⟨w2.heap.size + 1, 0, none⟩) n n] 223) := ⟨_, rfl⟩
  rw [← hw3] at A3
  have hrl : w3.rowIs (w2.heap.size + 1) 93 n (fun _ => .slice none 0 0) := by
    have := row_made (w2.alloc (.cells #[.slice (some ⟨gb, 0, none⟩) n n] 93)) #[.slice none 0 0] n 93
    rw [show (w2.alloc (.cells #[.slice (some ⟨gb, 0, none⟩) n n] 93)).heap.size = w2.heap.size + 1 by simp] at this
    rw [hw3]
    exact (this.alloc _).congr (fun i _ => by simp [Nat.mod_one])
  have HB23 : Hid (Below w2.heap.size w2 w3) := A3.2.2.2.2
  have HCV3 : Hid (w3.heap[w2.heap.size]? = some (.cells #[.slice (some ⟨gb, 0, none⟩) n n] 93 (0, 0))) := A3.1
  have HLV3 : Hid (w3.heap[w2.heap.size + 2]? = some (.cells #[.slice (some ⟨w2.heap.size + 1, 0, none⟩) n n] 223 (0, 0))) := A3.2.2.1
  have HRL3 : Hid (w3.rowIs (w2.heap.size + 1) 93 n (fun _ => .slice none 0 0)) := hrl
  have hs3 : Hid (w3.heap.size = w2.heap.size + 3) := A3.2.2.2.1
  have HTV3 : Hid (w3.heap[w.heap.size]? = some (.cells #[.slice ta n cp] 55 (0, 0))) := blkB HTV2.out HB23.out
  have HT3 : Hid (Tbs w3 n T M (fun j => (j : Nat)) L K X) := HT2.out.below HB23.out
  have HRo3 : Hid (w3.rowIs gb 3 n (fun i => .int .i64 (gr i : Nat))) := HRo2.out.of_block (HB23.out.block _ HRo2.out.lt)
  have HB3 : Hid (Below w.heap.size w w3) := HB2.out.trans (HB23.out.mono HB2.out.size)
  have hgl : gb < w2.heap.size := HRo2.out.lt
  obtain ⟨t0, _⟩ := one_at HTV3.out
  rw [hw3] at t0
  have lw : w.heap.size < w2.heap.size := by omega
  have lw' : w.heap.size < w2.heap.size + 1 := by omega
  have lw'' : w.heap.size < w2.heap.size + 1 + 1 := by omega
  obtain ⟨t2, _⟩ := one_at HTV2.out
  clear hrl A3
  go_wp2
  rw [← hw3]
  obtain ⟨c4, hc4⟩ : ∃ c4, w2.heap.size = c4 := ⟨_, rfl⟩
  rw [hc4] at HCV3 HLV3 HRL3 hs3 hgl hs2 ⊢
  clear hw3 t0 t2 lw lw' lw'' HT2 HB2 HTV2 HRo2 HB23 hc4 hmk
  go_loopw [19] (fun ii wr => LdRel w3 (c4 + 1) n L X ii wr) (fun ii _ => n - (intOf ii).toNat)
  case atStart => exact ⟨0, fun _ => .nilIface, Nat.zero_le _, rfl, HRL3.out.congr (fun i _ => by rw [if_neg (by omega)]), fun j hj => absurd hj (Nat.not_lt_zero _), Only.refl _ _⟩
  case round =>
    obtain ⟨i, lv, hi, rfl, HRr, HOr, HLr⟩ := hrel
    have hs3' := hs3.out
    by_cases hlt : i < n
    · obtain rfl := hta (by omega)
      have htb := htl i hlt
      have hTne : Tbs wr n T M (fun j => (j : Nat)) L K X := HT3.out.only' HLr.out HRL3.out.choose_spec.1 (by decide) (by decide)
      have HTr : Hid (Tbs wr n T M (fun j => (j : Nat)) L K X) := hTne
      have r0 : wr.cell? ⟨tb, i, none⟩ = some (ptr (T i)) := HLr.out.cell ((HB3.out.cell (p := ⟨tb, i, none⟩) htb).trans (HR.out i hlt)) (by show ¬ (tb = c4 + 1); omega)
      have l0 : wr.cell? ⟨c4 + 2, 0, none⟩ = some (.slice (some ⟨c4 + 1, 0, none⟩) n n) := (one_at ((HLr.out.block _ (blk_lt HLV3.out) (by omega)).trans HLV3.out)).1
      have hbi : (0 : Int) ≤ (i : Int) ∧ (i : Int) < (n : Int) := by omega
      have hcall := leads_any n T M L K X i wr.drew hlt (HL.out i hlt) HG (hTne.below (Below.refl _ _).drew)
      have n0 := HRr.out.cell hlt
      have nz := HRr.out.frozen
      clear hTne
      go_wp2
      refine wp_region_held_drew (S := fun x => x.cell? ⟨c4 + 1 + 1, 0, none⟩ = some (.slice (some ⟨c4 + 1, 0, none⟩) n n)) (by kernel_rfl) l0 (fun hHeld => ?_)
      refine wpT (i := 0) (v := .slice (some ⟨c4 + 1, 0, none⟩) n n) rfl (fun w hSw => ?_) hHeld ?_
      · first | rfl | go_simp
      simp only [Act.put, pz]
      refine wpT (i := 1) (v := .int .i64 (i : Nat)) rfl (fun w hSw => ?_) hHeld ?_
      · first | rfl | go_simp
      simp only [Act.put, pz]
      refine wpT (i := 2) (v := ptr (T i)) rfl (fun w hSw => ?_) hHeld ?_
      · first | rfl | go_simp
      simp only [Act.put, pz]
      refine wpAnyH_ready (rs := [3]) (by kernel_rfl) (by simp) ?_
      refine AllReadyH.cons rfl (fun K' hK' => ?_) AllReadyH.nil
      go_simp
      refine hcall.mono ?_
      clear hcall
      rintro e w5 ⟨⟨lvn, rfl, hown⟩, hb5⟩
      have HBd : Hid (Below wr.heap.size wr w5) := ⟨hb5.os, hb5.tape, hb5.output, hb5.size, hb5.block⟩
      have l5 : w5.cell? ⟨c4 + 1 + 1, 0, none⟩ = some (.slice (some ⟨c4 + 1, 0, none⟩) n n) := (HBd.out.cell (p := ⟨c4 + 1 + 1, 0, none⟩) (World.block_lt_of_cell? _ _ l0)).trans l0
      refine hK'.out _ _ l5 (fun hHeld => ?_)
      clear hK'
      obtain ⟨oa, oc, rfl, _⟩ := owns_form hown
      have hsr : w3.heap.size ≤ wr.heap.size := HLr.out.size
      have HR5 : Hid (w5.rowIs (c4 + 1) 93 n (fun j => if j < i then lv j else .slice none 0 0)) := HRr.out.of_block (HBd.out.block _ HRr.out.lt)
      have n5 := HR5.out.cell hlt
      have nz5 := HR5.out.frozen
      obtain ⟨lvn, hlvn⟩ : ∃ v, Value.slice oa (ldsTo (X i) (L i)).length oc = v := ⟨_, rfl⟩
      have HOW : Hid (w5.ownsRow w3.heap.size 3 1 lvn (ldsTo (X i) (L i)).length (natCells (ldsTo (X i) (L i)))) := by rw [← hlvn]; exact owns_mono hown hsr
      have HR6 : Hid ((w5.setCell ⟨c4 + 1, i, none⟩ lvn).rowIs (c4 + 1) 93 n (fun j => if j < i + 1 then (if j = i then lvn else lv j) else .slice none 0 0)) := (HR5.out.set i _).congr (fun q _ => by
        by_cases e : q = i
        · rw [if_pos e, if_pos (by omega), if_pos e]
        · rw [if_neg e]
          by_cases h' : q < i
          · rw [if_pos h', if_pos (by omega), if_neg e]
          · rw [if_neg h', if_neg (by omega)])
      have HO6 : Hid (∀ j, j < i + 1 → (w5.setCell ⟨c4 + 1, i, none⟩ lvn).ownsRow w3.heap.size 3 1 (if j = i then lvn else lv j) (ldsTo (X j) (L j)).length (natCells (ldsTo (X j) (L j)))) := show ∀ j, _ from fun j hj => by
        have hfar : ∀ v xs m, w5.ownsRow w3.heap.size 3 1 v m xs → (w5.setCell ⟨c4 + 1, i, none⟩ lvn).ownsRow w3.heap.size 3 1 v m xs := fun v xs m h => ownsRow_setCell_other h (fun e => by
          obtain ⟨_, _, _, hk⟩ := owns_form h
          have := (hk _ e).1
          simp only at this
          omega) _
        by_cases e : j = i
        · subst e; rw [if_pos rfl]; exact hfar _ _ _ HOW.out
        · rw [if_neg e]; exact hfar _ _ _ ((Only.below (P := fun _ => False) HBd.out).owns (HOr.out j (by omega)) (fun _ _ _ h => h))
      have HL6 : Hid (Only (fun k => k = c4 + 1) w3 (w5.setCell ⟨c4 + 1, i, none⟩ lvn)) := (HLr.out.trans (Only.below HBd.out)).set rfl _
      have l6 : (w5.setCell ⟨c4 + 1, i, none⟩ lvn).cell? ⟨c4 + 1 + 1, 0, none⟩ = some (.slice (some ⟨c4 + 1, 0, none⟩) n n) := by
        rw [World.cell?_of_block (Below.heap_setCell w5 ⟨c4 + 1, i, none⟩ lvn (c4 + 1 + 1) (show c4 + 1 + 1 ≠ c4 + 1 by omega))]
        exact l5
      refine wpT (i := 4) (v := .pointer (some ⟨c4 + 1, i, none⟩)) rfl (fun w hSw => ?_) hHeld ?_
      · first | rfl | go_simp
      simp only [Act.put, pz]
      refine wpAnyH_ready (rs := [5]) (by kernel_rfl) (by simp) ?_
      refine AllReadyH.cons rfl (fun K' hK' => ?_) AllReadyH.nil
      rw [← hlvn] at HR6 HO6 HL6 l6
      clear hlvn
      go_simp
      refine hK'.out _ _ l6 (fun hHeld => ?_)
      clear hK' hHeld
      refine wpAnyH_done (by kernel_rfl) ?_ _
      go_wp2
      go_roundw
      case rel => exact ⟨i + 1, _, by omega, by go_num, HR6, HO6, HL6⟩
      case measure => simp [intOf]; omega
    · obtain rfl : i = n := by omega
      obtain ⟨w4, hw4⟩ : ∃ w4, w4 = wr := ⟨_, rfl⟩
      rw [← hw4] at HRr HOr HLr
      have HRr' : Hid (w4.rowIs (c4 + 1) 93 i lv) := HRr.out.congr (fun j hj => by rw [if_pos hj])
      have HCV4 : Hid (w4.heap[c4]? = some (.cells #[.slice (some ⟨gb, 0, none⟩) i i] 93 (0, 0))) := (HLr.out.block _ (blk_lt HCV3.out) (by omega)).trans HCV3.out
      have HLV4 : Hid (w4.heap[c4 + 2]? = some (.cells #[.slice (some ⟨c4 + 1, 0, none⟩) i i] 223 (0, 0))) := (HLr.out.block _ (blk_lt HLV3.out) (by omega)).trans HLV3.out
      have HTV4 : Hid (w4.heap[w.heap.size]? = some (.cells #[.slice ta i cp] 55 (0, 0))) := (HLr.out.block _ (blk_lt HTV3.out) (by omega)).trans HTV3.out
      have HRo4 : Hid (w4.rowIs gb 3 i (fun j => .int .i64 (gr j : Nat))) := HLr.out.rowIs HRo3.out (by omega)
      have HB4 : Hid (Below w.heap.size w w4) := HB3.out.trans (HLr.out.toBelow (fun k hk => by omega) HB3.out.size)
      have hgw : w.heap.size ≤ gb := by have := HB1.out.size; omega
      clear HRr HLr HCV3 HLV3 HTV3 HRo3 HB3 HRL3 HT3
      go_wp2
      rw [← hw4]
      clear hw4
      go_loopw [8] (fun _ wr => CvRel w4 c4 w.heap.size i L K X wr) (fun _ wr => i - reps i (clsVar wr c4))
      case atStart => exact ⟨gb, gr, hgw, HCV4, HRo4, HON, HFY, Only.refl _ _⟩
      case round =>
        obtain ⟨g, cl, HGE, HCV, HCR, HOW, HFc, HOc⟩ := hrel
        obtain ⟨wq, hwq⟩ : ∃ wq, wq = wr := ⟨_, rfl⟩
        rw [← hwq] at HCV HCR HOc
        have hs3' := hs3.out
        have hsz4 : w3.heap.size ≤ w4.heap.size := by have := HLV4.out; have := blk_lt HLV4.out; omega
        have HTVq : Hid (wq.heap[w.heap.size]? = some (.cells #[.slice ta i cp] 55 (0, 0))) := (HOc.out.block _ (blk_lt HTV4.out) (by omega)).trans HTV4.out
        have HC2 : Hid (Cl2 wq c4 (c4 + 2) g (c4 + 1) i cl lv (fun j => ldsTo (X j) (L j))) := show Cl2 _ _ _ _ _ _ _ _ _ from ⟨HCV.out, (HOc.out.block _ (blk_lt HLV4.out) (by omega)).trans HLV4.out, fun j hj => HCR.out.cell hj, fun j hj => HOc.out.cell (HRr'.out.cell hj) (by show ¬ (c4 + 1 = c4); omega), fun j hj => owns_mono (HOc.out.ownsB (HOr.out j hj) (fun g' hg' e => by
          obtain ⟨_, _, _, hk⟩ := owns_form (HOr.out j hj)
          have := (hk _ hg').1
          omega)) (Nat.zero_le _)⟩
        have hgr := grouped_any 119 c4 (c4 + 2) i hn (lk2 L X cl) (fun _ x => Below wq.heap.size wq x) (fun _ => False) wq Tryz.call119 (Below.refl _ _) (show ∀ k, _ from fun k hk => hk.elim)
          (show ∀ i w' w'', _ from fun i w' w'' h ho => h.trans (ho.toBelow (fun k hk => hk) h.size))
          (show ∀ i w', _ from fun j x hj h => (clos2_any j c4 (c4 + 2) g (c4 + 1) i cl lv (fun j => ldsTo (X j) (L j)) x hj (show _ ≤ _ from Nat.le_trans (ldsTo_len _ _) (HL.out j hj)) (lds_lt HG.out hj _ (Nat.le_refl _)) (show ∀ q, _ from fun q hq => by have := HOW.out.low q hq; omega) (HC2.out.below h)).mono (fun e x' ⟨h1, h2⟩ => ⟨h1, grw h h2, Only.below h2⟩))
        obtain ⟨v0, _⟩ := one_at HTVq.out
        rw [← hwq]
        clear hwq
        go_wp2_with fail
        refine hgr.mono ?_
        clear hgr v0
        rintro e w5 ⟨⟨gn, nx, rfl, hgn, hrow5, hleast⟩, hb5, _⟩
        have HB5 : Hid (Below wq.heap.size wq w5) := hb5
        have HR5 : Hid (w5.rowIs gn 3 i (fun j => .int .i64 (nx j : Nat))) := hrow5
        obtain ⟨hrd, hfx⟩ := round_of HG.out HL.out HFc.out hleast
        have HRD : Hid (Round i L K X cl nx) := hrd
        have HFX : Hid (Facy i L K X nx) := hfx
        have HCV5 : Hid (w5.heap[c4]? = some (.cells #[.slice (some ⟨g, 0, none⟩) i i] 93 (0, 0))) := blkB HCV.out HB5.out
        have HCR5 : Hid (w5.rowIs g 3 i (fun j => .int .i64 (cl j : Nat))) := HCR.out.of_block (HB5.out.block _ HCR.out.lt)
        clear hb5 hrow5 hrd hfx hleast HC2
        obtain ⟨q0, _⟩ := one_at HCV5.out
        have heq := equal_any gn g i i i nx cl w5 (by omega) (show ClsAt _ _ _ _ from fun j hj => HR5.out.cell hj) (show ClsAt _ _ _ _ from fun j hj => HCR5.out.cell hj)
        go_wp2_with fail
        refine heq.mono ?_
        clear heq q0
        rintro e w6 ⟨⟨b, rfl, hb⟩, hb6⟩
        have HBb : Hid (b = true ↔ ∀ q, q < i → nx q = cl q) := hb
        have HB6 : Hid (Below wq.heap.size wq w6) := grw HB5.out hb6
        have HCV6 : Hid (w6.heap[c4]? = some (.cells #[.slice (some ⟨g, 0, none⟩) i i] 93 (0, 0))) := blkB HCV5.out hb6
        have HCR6 : Hid (w6.rowIs g 3 i (fun j => .int .i64 (cl j : Nat))) := HCR5.out.of_block (hb6.block _ HCR5.out.lt)
        have HR6 : Hid (w6.rowIs gn 3 i (fun j => .int .i64 (nx j : Nat))) := HR5.out.of_block (hb6.block _ HR5.out.lt)
        have HO6 : Hid (Only (fun k => k = c4) w4 w6) := HOc.out.trans (Only.below HB6.out)
        clear hb hb6 HCV5 HCR5 HR5 HB5
        obtain ⟨q0, qz⟩ := one_at HCV6.out
        cases b
        · have HMr : Hid (reps i cl < reps i nx) := by
            have : ¬ ∀ q, q < i → nx q = cl q := fun h => by have := HBb.out.2 h; cases this
            simp only [Classical.not_forall] at this
            obtain ⟨q, hq, hne⟩ := this
            exact HRD.out.more HOW.out hq hne
          have HCV7 : Hid ((w6.setCell ⟨c4, 0, none⟩ (.slice (some ⟨gn, 0, none⟩) i i)).heap[c4]? = some (.cells #[.slice (some ⟨gn, 0, none⟩) i i] 93 (0, 0))) := one_put HCV6.out _
          have hgc : gn ≠ c4 := by
            have := blk_lt HCV.out
            omega
          have HR7 : Hid ((w6.setCell ⟨c4, 0, none⟩ (.slice (some ⟨gn, 0, none⟩) i i)).rowIs gn 3 i (fun j => .int .i64 (nx j : Nat))) := HR6.out.of_block (Below.heap_setCell _ _ _ _ (show gn ≠ c4 from hgc))
          have HO7 : Hid (Only (fun k => k = c4) w4 (w6.setCell ⟨c4, 0, none⟩ (.slice (some ⟨gn, 0, none⟩) i i))) := HO6.out.set rfl _
          have h1 : Hid (reps i (clsVar (w6.setCell ⟨c4, 0, none⟩ (.slice (some ⟨gn, 0, none⟩) i i)) c4) = reps i nx) := reps_congr (fun q hq => clsVar_row HCV7.out HR7.out hq)
          have h2 : Hid (reps i (clsVar wq c4) = reps i cl) := reps_congr (fun q hq => clsVar_row HCV.out HCR.out hq)
          have hge : w.heap.size ≤ gn := by
            have := blk_lt HTVq.out
            omega
          go_wp2
          go_roundw
          case rel => exact ⟨gn, nx, hge, HCV7, HR7, HRD.out.next HOW.out, HFX, HO7⟩
          case measure =>
            have h3 := HMr.out
            have h4 := reps_le i nx
            rw [h1.out, h2.out]
            omega
        · have HEq : Hid (∀ q, q < i → nx q = cl q) := HBb.out.1 rfl
          go_wp2
          go_ret
          exact ⟨⟨g, cl, rfl, HGE.out, HCR6.out, HRD.out.done HOW.out HEq.out⟩, HB4.out.trans (HO6.out.toBelow (fun k hk => by omega) HB4.out.size)⟩

end Go.Proofs.YtgflalfiopnmnaaGreatDoor
