import Derived.Test.YtgflalfiopnmnaaP6
import Derived.Test.YtgflalfiopnmnaaP7
import Derived.Test.YtgflalfiopnmnaaP4
import Derived.ChangeKeysEq
import Derived.Test.YtgflalfiopnmnaaP3
import Derived.Test.YtgflalfiopnmnaaP2
import Derived.Laws.Tables
import Derived.Deep.MidRow
import Derived.Laws.Rows
namespace Go.Proofs.Ytgflalfiopnmnaa
open Go.RowKit Vl

/-- A value of a graph whose tables lie behind N others. -/
def sh (N : Nat) (v : V) : V := if v.k = 4 then ⟨v.k, v.n, v.s, v.a + N⟩ else v
theorem sh_zero (v : V) : sh 0 v = v := by
  unfold sh
  split
  · cases v; simp
  · rfl
theorem sh_k (N : Nat) (v : V) : (sh N v).k = v.k := by unfold sh; split <;> rfl
theorem sh_isV {N n : Nat} {v : V} (h : isV n v = true) : isV (N + n) (sh N v) = true := by
  by_cases h4 : v.k = 4
  · unfold sh
    rw [if_pos h4]
    unfold isV at h ⊢
    rw [if_neg (by omega), if_neg (by omega), if_neg (by omega), if_neg (by omega), if_pos h4] at h
    rw [if_neg (by simp only; omega), if_neg (by simp only; omega), if_neg (by simp only; omega), if_neg (by simp only; omega), if_pos (by simp only; omega)]
    simp only [Bool.and_eq_true, decide_eq_true_eq] at h ⊢
    refine ⟨h.1, h.2.1, ?_, ?_⟩
    · have := h.2.2.1; omega
    · have := h.2.2.2; omega
  · unfold sh
    rw [if_neg h4]
    unfold isV at h ⊢
    rw [if_neg h4] at h ⊢
    exact h
theorem isV_more {N n : Nat} {v : V} (h : isV N v = true) : isV (N + n) v = true := by
  by_cases h4 : v.k = 4
  · unfold isV at h ⊢
    rw [if_neg (by omega), if_neg (by omega), if_neg (by omega), if_neg (by omega), if_pos h4] at h ⊢
    simp only [Bool.and_eq_true, decide_eq_true_eq] at h ⊢
    refine ⟨h.1, h.2.1, h.2.2.1, ?_⟩
    have := h.2.2.2; omega
  · unfold isV at h ⊢
    rw [if_neg h4] at h ⊢
    exact h
theorem ifv_congr {T T' : Nat → Nat} {n : Nat} {v : V} (hv : isV n v = true) (h : v.k = 4 → T v.a.toNat = T' v.a.toNat) : ifv T v = ifv T' v := by
  by_cases h4 : v.k = 4
  · rw [ifv_tab h4, ifv_tab h4, h h4]
  · unfold ifv
    split
    · rfl
    · split
      · rfl
      · split
        · rfl
        · split
          · rfl
          · rename_i k0 k1 k2 k3
            simp [isV, k0, k1, k2, k3, h4] at hv
theorem ifv_sh {T T' : Nat → Nat} {n N : Nat} {v : V} (hv : isV n v = true) (h : ∀ j, j < n → T (N + j) = T' j) : ifv T' v = ifv T (sh N v) := by
  by_cases h4 : v.k = 4
  · obtain ⟨a0, a1⟩ := isV_tab hv h4
    rw [ifv_tab h4, ifv_tab ((sh_k N v).trans h4)]
    have e : (sh N v).a.toNat = N + v.a.toNat := by
      unfold sh
      rw [if_pos h4]
      simp only
      omega
    rw [e, h v.a.toNat (by omega)]
  · have e : sh N v = v := by unfold sh; rw [if_neg h4]
    rw [e]
    exact ifv_congr hv (fun h => absurd h h4)

/-- One row behind another. -/
def jn {α : Type} (N : Nat) (f g : Nat → α) (j : Nat) : α := if j < N then f j else g (j - N)
theorem jn_lt {α : Type} {N : Nat} {f g : Nat → α} {j : Nat} (h : j < N) : jn N f g j = f j := by unfold jn; rw [if_pos h]
theorem jn_ge {α : Type} {N : Nat} {f g : Nat → α} {j : Nat} (h : ¬ j < N) : jn N f g j = g (j - N) := by unfold jn; rw [if_neg h]
theorem jn_add {α : Type} {N : Nat} {f g : Nat → α} (j : Nat) : jn N f g (N + j) = g j := by rw [jn_ge (by omega)]; congr 1; omega

theorem Good.join {N n : Nat} {L L' : Nat → Nat} {X X' : Nat → Nat → V} (h : Good N L X) (h' : Good n L' X') : Good (N + n) (jn N L L') (jn N X (fun j c => sh N (X' j c))) := by
  intro r hr c hc
  by_cases e : r < N
  · rw [jn_lt e] at hc ⊢
    exact isV_more (h r e c hc)
  · rw [jn_ge e] at hc ⊢
    exact sh_isV (h' (r - N) (by omega) c hc)

/-- Tables, and those of the next graph behind them. -/
theorem Tbs.join {w : World} {N n : Nat} {T M T' M' : Nat → Nat} {at_ at' : Nat → Int} {L L' : Nat → Nat} {K X K' X' : Nat → Nat → V} (h : Tbs w N T M at_ L K X) (h' : Tbs w n T' M' at' L' K' X') (hg : Good N L X) (hg' : Good n L' X') (hne : ∀ i j, i < N → j < n → T i ≠ T' j) :
    Tbs w (N + n) (jn N T T') (jn N M M') (jn N at_ at') (jn N L L') (jn N K K') (jn N X (fun j c => sh N (X' j c))) := by
  refine ⟨fun j hj => ?_, fun j hj => ?_, fun i j hi hj e => ?_, fun j hj l hl v hv => ?_⟩
  rotate_left 3
  · by_cases e : j < N
    · rw [jn_lt e] at hl
      rw [jn_lt e, jn_lt e] at hv
      exact h.gone j e l hl v hv
    · rw [jn_ge e] at hl
      rw [jn_ge e, jn_ge e] at hv
      exact h'.gone (j - N) (by omega) l hl v hv
  · by_cases e : j < N
    · simp only [jn_lt e]
      exact h.tab j e
    · simp only [jn_ge e]
      exact h'.tab (j - N) (by omega)
  · by_cases e : j < N
    · simp only [jn_lt e]
      obtain ⟨l, h1, h2⟩ := h.map j e
      refine ⟨l, h1, fun c hc => (h2 c hc).trans (congrArg some (ifv_congr (hg j e c hc) (fun h4 => ?_)))⟩
      obtain ⟨a0, a1⟩ := isV_tab (hg j e c hc) h4
      rw [jn_lt (by omega)]
    · simp only [jn_ge e]
      obtain ⟨l, h1, h2⟩ := h'.map (j - N) (by omega)
      exact ⟨l, h1, fun c hc => (h2 c hc).trans (congrArg some (ifv_sh (hg' (j - N) (by omega) c hc) (fun q _ => jn_add q)))⟩
  · by_cases e1 : i < N
    · by_cases e2 : j < N
      · rw [jn_lt e1, jn_lt e2] at e
        exact h.inj i j e1 e2 e
      · rw [jn_lt e1, jn_ge e2] at e
        exact absurd e (hne i (j - N) e1 (by omega))
    · by_cases e2 : j < N
      · rw [jn_ge e1, jn_lt e2] at e
        exact absurd e.symm (hne j (i - N) e2 (by omega))
      · rw [jn_ge e1, jn_ge e2] at e
        have := h'.inj (i - N) (j - N) (by omega) (by omega) e
        omega

theorem Ap.join {w : World} {base base' N n : Nat} {T M T' M' : Nat → Nat} (h : Ap w base N T M) (h' : Ap w base' n T' M') (hb : base ≤ base') (hs : ∀ j a o g, j < N → TabB w (T j) (M j) a o → o.ownBlock = some g → g < base') (hm : ∀ j, j < N → M j < base') : Ap w base (N + n) (jn N T T') (jn N M M') := by
  refine ⟨fun j hj => ?_, fun j a o g hj ht hg => ?_, fun i j a o a' o' g hi hj h1 h2 g1 g2 => ?_, fun j hj => ?_, fun i j hi hj h12 => ?_⟩
  · by_cases e : j < N
    · rw [jn_lt e]; exact h.lo j e
    · rw [jn_ge e]; exact Nat.le_trans hb (h'.lo (j - N) (by omega))
  · by_cases e : j < N
    · rw [jn_lt e, jn_lt e] at ht; exact h.own j a o g e ht hg
    · rw [jn_ge e, jn_ge e] at ht; exact Nat.le_trans hb (h'.own (j - N) a o g (by omega) ht hg)
  · by_cases e1 : i < N
    · rw [jn_lt e1, jn_lt e1] at h1
      by_cases e2 : j < N
      · rw [jn_lt e2, jn_lt e2] at h2
        exact h.one i j a o a' o' g e1 e2 h1 h2 g1 g2
      · rw [jn_ge e2, jn_ge e2] at h2
        have := hs i a o g e1 h1 g1
        have := h'.own (j - N) a' o' g (by omega) h2 g2
        omega
    · rw [jn_ge e1, jn_ge e1] at h1
      by_cases e2 : j < N
      · rw [jn_lt e2, jn_lt e2] at h2
        have := hs j a' o' g e2 h2 g2
        have := h'.own (i - N) a o g (by omega) h1 g1
        omega
      · rw [jn_ge e2, jn_ge e2] at h2
        have := h'.one (i - N) (j - N) a o a' o' g (by omega) (by omega) h1 h2 g1 g2
        omega
  · by_cases e : j < N
    · rw [jn_lt e]; exact h.mlo j e
    · rw [jn_ge e]; exact Nat.le_trans hb (h'.mlo (j - N) (by omega))
  · by_cases e1 : i < N
    · rw [jn_lt e1] at h12
      by_cases e2 : j < N
      · rw [jn_lt e2] at h12
        exact h.mone i j e1 e2 h12
      · rw [jn_ge e2] at h12
        have := hm i e1
        have := h'.mlo (j - N) (by omega)
        omega
    · rw [jn_ge e1] at h12
      by_cases e2 : j < N
      · rw [jn_lt e2] at h12
        have := hm j e2
        have := h'.mlo (i - N) (by omega)
        omega
      · rw [jn_ge e2] at h12
        have := h'.mone (i - N) (j - N) (by omega) (by omega) h12
        omega

/-- One place changed. -/
def upd {α : Type} (f : Nat → α) (r : Nat) (x : α) (j : Nat) : α := if j = r then x else f j
theorem upd_same {α : Type} (f : Nat → α) (r : Nat) (x : α) : upd f r x r = x := by unfold upd; rw [if_pos rfl]
theorem upd_ne {α : Type} (f : Nat → α) {r j : Nat} (x : α) (h : j ≠ r) : upd f r x j = f j := by unfold upd; rw [if_neg h]

/-- A block of keys is no table. -/
theorem Tbs.keyNe {w : World} {n : Nat} {T M : Nat → Nat} {at_ : Nat → Int} {L : Nat → Nat} {K X : Nat → Nat → V} (h : Tbs w n T M at_ L K X) {r : Nat} (hr : r < n) {a : Int} {o : Value} {g : Nat} (ht : TabB w (T r) (M r) a o) (hg : o.ownBlock = some g) : (∀ j, j < n → T j ≠ g ∧ M j ≠ g) ∧ ∃ cur, w.heap[g]? = some (.cells cur 24 (0, 0)) := by
  obtain ⟨ord, h1, h2⟩ := h.tab r hr
  have e := h1.ord ht
  subst e
  obtain ⟨_, cur, hc⟩ := owns_type h2 hg
  refine ⟨fun j hj => ⟨fun e => ?_, fun e => ?_⟩, cur, hc⟩
  · obtain ⟨ord', k1, _⟩ := h.tab j hj
    unfold TabB at k1
    rw [e, hc] at k1
    cases k1
  · obtain ⟨l, k1, _⟩ := h.map j hj
    obtain ⟨es, clk, hb, _⟩ := k1
    rw [e, hc] at hb
    cases hb

/-- An order is sorted. -/
theorem Tbs.sorted {w w' : World} {base n : Nat} {T M : Nat → Nat} {at_ : Nat → Int} {L : Nat → Nat} {K X : Nat → Nat → V} (h : Tbs w n T M at_ L K X) (hp : Ap w base n T M) {r : Nat} (hr : r < n) {a : Int} {o : Value} {g : Nat} (ht : TabB w (T r) (M r) a o) (hg : o.ownBlock = some g) {ls : List Nat} (hS : SortI (K r) (L r) ls) (hO : w'.ownsRow 0 24 4 o (L r) (keyCells (keys (byI (K r) ls) (L r)))) (ho : Only (fun k => k = g) w w') :
    Tbs w' n T M at_ L (upd K r (byI (K r) ls)) (upd X r (byI (X r) ls)) ∧ Ap w' base n T M := by
  obtain ⟨hne, _⟩ := h.keyNe hr ht hg
  have hT : ∀ j, j < n → w'.heap[T j]? = w.heap[T j]? := fun j hj => ho.block _ (h.lt hj) (hne j hj).1
  refine ⟨⟨fun j hj => ?_, fun j hj => ?_, h.inj, fun j hj l hl v hv => ?_⟩, hp.same hT⟩
  rotate_left 2
  · obtain ⟨l0, h1, _⟩ := h.map j hj
    have hl' : MapIs w (M j) l := hl.same (ho.block _ h1.lt (hne j hj).2).symm
    refine h.gone j hj l hl' v (fun c hc => ?_)
    by_cases e : j = r
    · subst e
      rw [upd_same] at hv
      obtain ⟨q, hq, e2⟩ := List.mem_iff_getElem.1 (hS.perm.symm.subset (List.mem_range.2 hc))
      have := hv q (by rw [← hS.len]; exact hq)
      unfold byI at this
      rw [List.getD_eq_getElem?_getD, List.getElem?_eq_getElem hq, e2] at this
      exact this
    · rw [upd_ne K _ e] at hv
      exact hv c hc
  · obtain ⟨ord, h1, h2⟩ := h.tab j hj
    by_cases e : j = r
    · subst e
      have e := h1.ord ht
      subst e
      rw [upd_same]
      exact ⟨ord, (hT j hj).trans h1, hO⟩
    · rw [upd_ne K _ e]
      exact ⟨ord, (hT j hj).trans h1, ho.ownsB h2 (fun g' hg' e' => e (by subst e'; exact hp.one j r _ _ _ _ _ hj hr h1 ht hg' hg))⟩
  · obtain ⟨l, h1, h2⟩ := h.map j hj
    refine ⟨l, h1.same (ho.block _ h1.lt (hne j hj).2), fun c hc => ?_⟩
    by_cases e : j = r
    · subst e
      rw [upd_same, upd_same]
      exact h2 _ (hS.lt hc)
    · rw [upd_ne K _ e, upd_ne X _ e]
      exact h2 c hc

theorem Ap.setAt {w : World} {base n : Nat} {T M : Nat → Nat} {at_ : Nat → Int} {L : Nat → Nat} {K X : Nat → Nat → V} (hp : Ap w base n T M) (h : Tbs w n T M at_ L K X) {r : Nat} (hr : r < n) (i : Int) : Ap (w.setCell ⟨T r, 0, none⟩ (.int .i64 i)) base n T M := by
  have old : ∀ j a o, j < n → TabB (w.setCell ⟨T r, 0, none⟩ (.int .i64 i)) (T j) (M j) a o → TabB w (T j) (M j) (at_ j) o := fun j a o hj h' => by
    obtain ⟨ord, h1, _⟩ := h.tab j hj
    by_cases e : j = r
    · subst e
      have k2 : TabB (w.setCell ⟨T j, 0, none⟩ (.int .i64 i)) (T j) (M j) i ord := by
        unfold TabB at h1 ⊢
        simp [World.setCell, Array.getElem?_modify, h1]
      rw [← k2.ord h']
      exact h1
    · have k2 : TabB (w.setCell ⟨T r, 0, none⟩ (.int .i64 i)) (T j) (M j) (at_ j) ord := (Below.heap_setCell _ _ _ _ (show T j ≠ T r from fun x => e (h.inj j r hj hr x))).trans h1
      rw [← k2.ord h']
      exact h1
  exact ⟨hp.lo, fun j a o g hj ht hg => hp.own j _ o g hj (old j a o hj ht) hg, fun i j a o a' o' g hi hj h1 h2 g1 g2 => hp.one i j _ o _ o' g hi hj (old i a o hi h1) (old j a' o' hj h2) g1 g2, hp.mlo, hp.mone⟩

end Go.Proofs.Ytgflalfiopnmnaa

namespace Go.Proofs.Ytgflalfiopnmnaa
open Go.RowKit Vl

/-- What a table looks like: its class, and a hundred numbers. -/
structure Lk where
  was : Nat
  parts : Nat → Nat

def lkCells (l : Lk) : List Value := .int .i64 (l.was : Nat) :: (List.range 100).map fun i => .int .u16 (l.parts i : Nat)
theorem lkCells_len (l : Lk) : (lkCells l).length = 101 := by simp [lkCells]
abbrev lkV (l : Lk) : Value := .agg (lkCells l).toArray
def lkEq (a b : Lk) : Bool := a.was == b.was && (List.range 100).all fun i => a.parts i == b.parts i
theorem lkEq_iff {a b : Lk} : lkEq a b = true ↔ a.was = b.was ∧ ∀ i, i < 100 → a.parts i = b.parts i := by
  simp [lkEq]

theorem look_chk (em : Bool) (l : Lk) (w : World) : (Instr.checkKey em 10000 171 (lkV l)).run Try.prog w = .ok () w := by
  kernel_rfl

theorem isAgg_no {t : TypeId} {k : IntKind} (h : Try.prog.underlying t = some (.int k)) (w : World) : (isAgg t).run Try.prog w = .ok false w := by
  unfold isAgg
  rw [Sem.run_bind, run_underlying h w]
  rfl

theorem eq_items (d : Nat) (xs ys : Array Value) (p q : Nat → Nat) (w : World) : ∀ is : List Nat, (∀ i ∈ is, xs[i]? = some (.int .u16 (p i : Nat)) ∧ ys[i]? = some (.int .u16 (q i : Nat))) → (Op.eqItems (d + 1) 168 1 xs ys is).run Try.prog w = .ok (is.all fun i => p i == q i) w
  | [], _ => rfl
  | i :: is, h => by
    obtain ⟨h1, h2⟩ := h i (by simp)
    have e1 : (part 168 xs (i * 1)).run Try.prog w = .ok (.int .u16 (p i : Nat)) w := by
      unfold part
      rw [Sem.run_bind, isAgg_no Try.underlying168]
      simp [h1]
    have e2 : (part 168 ys (i * 1)).run Try.prog w = .ok (.int .u16 (q i : Nat)) w := by
      unfold part
      rw [Sem.run_bind, isAgg_no Try.underlying168]
      simp [h2]
    have ih := eq_items d xs ys p q w is (fun j hj => h j (by simp [hj]))
    simp only [Op.eqItems, Sem.run_bind, e1, e2, Result.andThen_ok, run_equalIn_int w d 168 .u16 .u16 _ _ Try.underlying168]
    have hb : ((p i : Int) == (q i : Int)) = (p i == q i) := by
      by_cases e : p i = q i
      · rw [e, beq_self_eq_true, beq_self_eq_true]
      · have e' : ¬ ((p i : Int) = (q i : Int)) := by omega
        rw [beq_false_of_ne e, beq_false_of_ne e']
    rw [hb]
    cases hc : p i == q i
    · simp [hc]
    · simp only [Bool.not_true, Bool.false_eq_true, if_false, List.all_cons, hc, Bool.true_and]
      exact ih

theorem lk_at0 (l : Lk) : (lkCells l).toArray[0]? = some (.int .i64 (l.was : Nat)) := by simp [lkCells]
theorem lk_part (l : Lk) (i : Nat) (hi : i < 100) : ((lkCells l).toArray.extract 1 101)[i]? = some (.int .u16 (l.parts i : Nat)) := by
  rw [Array.getElem?_extract, if_pos (by simp [lkCells]; omega)]
  have e : (lkCells l)[1 + i]? = some (.int .u16 (l.parts i : Nat)) := by
    rw [Nat.add_comm]
    simp [lkCells, hi]
  simpa using e

theorem eq_arr (d : Nat) (xs ys : Array Value) (p q : Nat → Nat) (w : World) (h : ∀ i, i < 100 → xs[i]? = some (.int .u16 (p i : Nat)) ∧ ys[i]? = some (.int .u16 (q i : Nat))) : (Op.equalIn (d + 2) 169 (.agg xs) (.agg ys)).run Try.prog w = .ok ((List.range 100).all fun i => p i == q i) w := by
  obtain ⟨iu, hiu⟩ : ∃ iu, Try.prog.info? 168 = some iu := by
    have h : (Try.prog.info? 168).isSome = true := by kernel_rfl
    exact Option.isSome_iff_exists.1 h
  have hcell : Try.prog.cellsOf 168 = 1 := by kernel_rfl
  rw [run_equalIn_array w (d + 1) xs ys Try.underlying169 hiu, hcell]
  exact eq_items d xs ys p q w _ (fun i hi => h i (List.mem_range.1 hi))

theorem part_int (xs : Array Value) (u : Value) (w : World) (h : xs[0]? = some u) : (part 3 xs 0).run Try.prog w = .ok u w := by
  unfold part
  rw [Sem.run_bind, isAgg_no Try.underlying3]
  simp [h]
theorem part_arr (xs : Array Value) (w : World) : (part 169 xs 1).run Try.prog w = .ok (.agg (xs.extract 1 (1 + 100))) w := by
  have h1 : (isAgg 169).run Try.prog w = .ok true w := by kernel_rfl
  have h2 : (sizeOf 169).run Try.prog w = .ok 100 w := by kernel_rfl
  unfold part
  rw [Sem.run_bind, h1]
  simp only [Result.andThen_ok, if_true, Sem.run_bind, h2, Sem.run_pure]

theorem eq_look (d : Nat) (xs ys : Array Value) (u v : Nat) (p q : Nat → Nat) (w : World) (hu : xs[0]? = some (.int .i64 (u : Nat))) (hv : ys[0]? = some (.int .i64 (v : Nat))) (h : ∀ i, i < 100 → (xs.extract 1 (1 + 100))[i]? = some (.int .u16 (p i : Nat)) ∧ (ys.extract 1 (1 + 100))[i]? = some (.int .u16 (q i : Nat))) :
    (Op.equalIn (d + 3) 171 (.agg xs) (.agg ys)).run Try.prog w = .ok (u == v && (List.range 100).all fun i => p i == q i) w := by
  rw [run_equalIn_struct w (d + 2) 171 xs ys (by kernel_rfl) (by kernel_rfl)]
  have hf : (Try.prog.fieldsOf 171).toList.map (fun f => (f.name == "_", f.type, f.offset)) = [(false, 3, 0), (false, 169, 1)] := by kernel_rfl
  generalize (Try.prog.fieldsOf 171).toList = fs at hf
  obtain ⟨f, g, rfl⟩ : ∃ f g, fs = [f, g] := by
    cases fs with
    | nil => simp at hf
    | cons f fs =>
      cases fs with
      | nil => simp at hf
      | cons g fs =>
        cases fs with
        | nil => exact ⟨f, g, rfl⟩
        | cons => simp at hf
  simp only [List.map_cons, List.map_nil, List.cons.injEq, Prod.mk.injEq, and_true] at hf
  obtain ⟨⟨f1, f2, f3⟩, ⟨g1, g2, g3⟩⟩ := hf
  have f1' : f.name ≠ "_" := by simpa using f1
  have g1' : g.name ≠ "_" := by simpa using g1
  have hb : ((u : Int) == (v : Int)) = (u == v) := by
    by_cases e : u = v
    · rw [e, beq_self_eq_true, beq_self_eq_true]
    · have e' : ¬ ((u : Int) = (v : Int)) := by omega
      rw [beq_false_of_ne e, beq_false_of_ne e']
  have e3 := eq_arr d _ _ p q w h
  generalize (List.range 100).all (fun i => p i == q i) = r at e3 ⊢
  have e4 : (Op.eqFields (d + 2) xs ys [g]).run Try.prog w = .ok r w := by
    unfold Op.eqFields
    rw [if_pos g1', g2, g3]
    simp only [Sem.run_bind, part_arr, Result.andThen_ok, e3]
    cases r
    · simp only [Bool.not_false, if_true, Sem.run_pure]
    · simp only [Bool.not_true, Bool.false_eq_true, if_false, Op.eqFields, Sem.run_pure]
  unfold Op.eqFields
  rw [if_pos f1', f2, f3]
  simp only [Sem.run_bind, part_int xs _ w hu, part_int ys _ w hv, Result.andThen_ok, run_equalIn_int w (d + 1) 3 .i64 .i64 _ _ Try.underlying3, hb]
  cases u == v
  · simp only [Bool.not_false, if_true, Bool.false_and, Sem.run_pure]
  · simp only [Bool.not_true, Bool.false_eq_true, if_false, Bool.true_and]
    exact e4

theorem look_eq (a b : Lk) (w : World) : (Op.equal 171 (lkV a) (lkV b)).run Try.prog w = .ok (lkEq a b) w :=
  eq_look 9997 (lkCells a).toArray (lkCells b).toArray a.was b.was a.parts b.parts w (lk_at0 a) (lk_at0 b) (fun i hi => ⟨lk_part a i hi, lk_part b i hi⟩)

theorem look_keyed : Keyed 192 171 3 lkV (fun _ _ => True) lkEq (.int .i64 0) where
  und := Try.underlying192
  eq := fun u v w _ _ => look_eq u v w
  chk := fun em v w => look_chk em v w
  now := ⟨_, Try.underlying171, fun u v => rfl⟩
  zero := fun w => by kernel_rfl

end Go.Proofs.Ytgflalfiopnmnaa

namespace Go.Proofs.Ytgflalfiopnmnaa
open Go.RowKit Vl

instance instV : BEq V := ⟨eqV⟩
instance instLV : LawfulBEq V where
  eq_of_beq h := eqV_iff.1 h
  rfl := eqV_iff.2 rfl

abbrev PV2 := V × V
abbrev pAgg (p : PV2) : Value := .agg #[.int .i64 p.1.k, .int .i64 p.1.n, .string p.1.s, .int .i64 p.1.a, .int .i64 p.2.k, .int .i64 p.2.n, .string p.2.s, .int .i64 p.2.a]

theorem eqIn_val (d : Nat) (u v : V) (w : World) : (Op.equalIn (d + 2) 24 (vAgg u) (vAgg v)).run Try.prog w = .ok (eqV u v) w := by
  go_simp
  by_cases h1 : u.k = v.k <;> by_cases h2 : u.n = v.n <;> by_cases h3 : u.s.toList = v.s.toList <;> by_cases h4 : u.a = v.a <;> simp [eqV, h1, h2, h3, h4]

theorem part_val (p : PV2) (w : World) : (part 24 #[.int .i64 p.1.k, .int .i64 p.1.n, .string p.1.s, .int .i64 p.1.a, .int .i64 p.2.k, .int .i64 p.2.n, .string p.2.s, .int .i64 p.2.a] 0).run Try.prog w = .ok (vAgg p.1) w ∧ (part 24 #[.int .i64 p.1.k, .int .i64 p.1.n, .string p.1.s, .int .i64 p.1.a, .int .i64 p.2.k, .int .i64 p.2.n, .string p.2.s, .int .i64 p.2.a] 4).run Try.prog w = .ok (vAgg p.2) w := by
  constructor <;> kernel_rfl

theorem eq_pair (d : Nat) (p q : PV2) (w : World) : (Op.equalIn (d + 3) 75 (pAgg p) (pAgg q)).run Try.prog w = .ok (p == q) w := by
  rw [run_equalIn_struct w (d + 2) 75 _ _ (by kernel_rfl) (by kernel_rfl)]
  have hf : (Try.prog.fieldsOf 75).toList.map (fun f => (f.name == "_", f.type, f.offset)) = [(false, 24, 0), (false, 24, 4)] := by kernel_rfl
  generalize (Try.prog.fieldsOf 75).toList = fs at hf
  obtain ⟨f, g, rfl⟩ : ∃ f g, fs = [f, g] := by
    cases fs with
    | nil => simp at hf
    | cons f fs =>
      cases fs with
      | nil => simp at hf
      | cons g fs =>
        cases fs with
        | nil => exact ⟨f, g, rfl⟩
        | cons => simp at hf
  simp only [List.map_cons, List.map_nil, List.cons.injEq, Prod.mk.injEq, and_true] at hf
  obtain ⟨⟨f1, f2, f3⟩, ⟨g1, g2, g3⟩⟩ := hf
  have f1' : f.name ≠ "_" := by simpa using f1
  have g1' : g.name ≠ "_" := by simpa using g1
  have e4 : (Op.eqFields (d + 2) #[.int .i64 p.1.k, .int .i64 p.1.n, .string p.1.s, .int .i64 p.1.a, .int .i64 p.2.k, .int .i64 p.2.n, .string p.2.s, .int .i64 p.2.a] #[.int .i64 q.1.k, .int .i64 q.1.n, .string q.1.s, .int .i64 q.1.a, .int .i64 q.2.k, .int .i64 q.2.n, .string q.2.s, .int .i64 q.2.a] [g]).run Try.prog w = .ok (eqV p.2 q.2) w := by
    unfold Op.eqFields
    rw [if_pos g1', g2, g3]
    simp only [Sem.run_bind, (part_val p w).2, (part_val q w).2, Result.andThen_ok, eqIn_val d]
    cases eqV p.2 q.2
    · simp only [Bool.not_false, if_true, Sem.run_pure]
    · simp only [Bool.not_true, Bool.false_eq_true, if_false, Op.eqFields, Sem.run_pure]
  have e5 : (p == q) = (eqV p.1 q.1 && eqV p.2 q.2) := rfl
  rw [e5]
  unfold Op.eqFields
  rw [if_pos f1', f2, f3]
  simp only [Sem.run_bind, (part_val p w).1, (part_val q w).1, Result.andThen_ok, eqIn_val d]
  cases eqV p.1 q.1
  · simp only [Bool.not_false, if_true, Bool.false_and, Sem.run_pure]
  · simp only [Bool.not_true, Bool.false_eq_true, if_false, Bool.true_and]
    exact e4

theorem pair_keyed : Keyed 166 75 168 pAgg (fun _ _ => True) (fun p q => p == q) (.int .u16 0) where
  und := Try.underlying166
  eq := fun u v w _ _ => eq_pair 9997 u v w
  chk := fun em v w => by kernel_rfl
  now := ⟨_, Try.underlying75, fun u v => rfl⟩
  zero := fun w => by kernel_rfl

/-- Numbered pairs. -/
def knM (kn : List PV2) (s : Nat) : List (PV2 × Value) := (kn.zipIdx s).map fun p => (p.1, .int .u16 ((p.2 + 1 : Nat) : Int))
theorem knM_snoc (kn : List PV2) (p : PV2) (s : Nat) : knM (kn ++ [p]) s = knM kn s ++ [(p, .int .u16 ((s + kn.length + 1 : Nat) : Int))] := by
  unfold knM
  rw [List.zipIdx_append]
  simp
theorem knM_len (kn : List PV2) (s : Nat) : (knM kn s).length = kn.length := by simp [knM]
theorem knM_find (p : PV2) : ∀ (kn : List PV2) (s : Nat), findG (fun p q => p == q) p (knM kn s) = if p ∈ kn then some (.int .u16 ((s + kn.idxOf p + 1 : Nat) : Int)) else none
  | [], s => rfl
  | q :: kn, s => by
    have ih := knM_find p kn (s + 1)
    have e : knM (q :: kn) s = (q, .int .u16 ((s + 1 : Nat) : Int)) :: knM kn (s + 1) := rfl
    rw [e]
    simp only [findG]
    by_cases h : p = q
    · subst h
      rw [if_pos (by simp), if_pos (by simp)]
      simp
    · rw [if_neg (by simpa using h), ih]
      by_cases hm : p ∈ kn
      · rw [if_pos hm, if_pos (by simp [hm])]
        have hq : (q == p) = false := by simpa using fun e => h e.symm
        rw [List.idxOf_cons, hq]
        simp only [cond_false]
        congr 3
        omega
      · rw [if_neg hm, if_neg (by simp [hm, h])]

/-- A pair more. -/
def addTo (kn : List PV2) (p : PV2) : List PV2 := if p ∈ kn then kn else kn ++ [p]
theorem addTo_pre (kn : List PV2) (p : PV2) : kn <+: addTo kn p := by
  unfold addTo
  split
  · exact List.prefix_refl _
  · exact List.prefix_append _ _
theorem addTo_mem (kn : List PV2) (p : PV2) : p ∈ addTo kn p := by
  unfold addTo
  split
  · assumption
  · simp
theorem addTo_len (kn : List PV2) (p : PV2) : (addTo kn p).length ≤ kn.length + 1 := by
  unfold addTo
  split
  · omega
  · simp
/-- Pairs one after another. -/
def kns (kn : List PV2) (pr : Nat → PV2) : Nat → List PV2
  | 0 => kn
  | c + 1 => addTo (kns kn pr c) (pr c)
theorem kns_pre (kn : List PV2) (pr : Nat → PV2) : ∀ {c d : Nat}, c ≤ d → kns kn pr c <+: kns kn pr d := by
  intro c d h
  induction h with
  | refl => exact List.prefix_refl _
  | step _ ih => exact ih.trans (addTo_pre _ _)
theorem kns_mem (kn : List PV2) (pr : Nat → PV2) {c d : Nat} (h : c < d) : pr c ∈ kns kn pr d := (kns_pre kn pr (show c + 1 ≤ d from h)).subset (addTo_mem _ _)
theorem kns_len (kn : List PV2) (pr : Nat → PV2) : ∀ c, (kns kn pr c).length ≤ kn.length + c
  | 0 => Nat.le_refl _
  | c + 1 => by have := kns_len kn pr c; have := addTo_len (kns kn pr c) (pr c); show (addTo (kns kn pr c) (pr c)).length ≤ _; omega
theorem idx_pre {kn kn' : List PV2} (h : kn <+: kn') {p : PV2} (hp : p ∈ kn) : kn'.idxOf p = kn.idxOf p := by
  obtain ⟨t, rfl⟩ := h
  rw [List.idxOf_append, if_pos hp]

end Go.Proofs.Ytgflalfiopnmnaa

namespace Go.Proofs.Ytgflalfiopnmnaa
open Go.RowKit Vl

theorem eqlV (u v : V) (w : World) : (binOp .eql 24 (.agg #[.int .i64 u.k, .int .i64 u.n, .string u.s, .int .i64 u.a]) (.agg #[.int .i64 v.k, .int .i64 v.n, .string v.s, .int .i64 v.a])).run Try.prog w = .ok (.bool (eqV u v)) w := by
  go_simp
  by_cases h1 : u.k = v.k <;> by_cases h2 : u.n = v.n <;> by_cases h3 : u.s.toList = v.s.toList <;> by_cases h4 : u.a = v.a <;> simp [eqV, h1, h2, h3, h4]

/-- A slice of classes. -/
def ClsAt (w : World) (g n : Nat) (cl : Nat → Nat) : Prop := ∀ i, i < n → w.cell? ⟨g, i, none⟩ = some (.int .i64 (cl i : Nat))
theorem ClsAt.below {w w' : World} {g n : Nat} {cl : Nat → Nat} (h : ClsAt w g n cl) (hb : Below w.heap.size w w') : ClsAt w' g n cl := fun i hi => (hb.cell (p := ⟨g, i, none⟩) (World.block_lt_of_cell? _ _ (h i hi))).trans (h i hi)

theorem cellB {w1 : World} {p : Addr} {v : Value} (h : w1.cell? p = some v) : ∀ w', Below w1.heap.size w1 w' → w'.cell? p = some v := fun _ hb => (hb.cell (World.block_lt_of_cell? _ _ h)).trans h
theorem neqV (u v : V) (w : World) : (binOp .neq 24 (.agg #[.int .i64 u.k, .int .i64 u.n, .string u.s, .int .i64 u.a]) (.agg #[.int .i64 v.k, .int .i64 v.n, .string v.s, .int .i64 v.a])).run Try.prog w = .ok (.bool (!eqV u v)) w := by
  rw [neq_val]
  rfl

end Go.Proofs.Ytgflalfiopnmnaa

namespace Go.Proofs.Ytgflalfiopnmnaa
open Go.RowKit Vl

/-- The cells of a look. -/
def lkc (l : Lk) (i : Nat) : Value := if i = 0 then .int .i64 (l.was : Nat) else .int .u16 (l.parts (i - 1) : Nat)
theorem lkCells_map (l : Lk) : lkCells l = (List.range 101).map (lkc l) := by
  unfold lkCells
  rw [List.range_succ_eq_map]
  simp only [List.map_cons, List.map_map]
  rfl

/-- A block that is a look. -/
def LkB (w : World) (b : Nat) (l : Lk) : Prop := w.heap[b]? = some (.cells (lkCells l).toArray 171 (0, 0))
theorem LkB.below {w w' : World} {b : Nat} {l : Lk} (h : LkB w b l) (hb : Below w.heap.size w w') : LkB w' b l := (hb.block b (blk_lt h)).trans h
theorem LkB.lt {w : World} {b : Nat} {l : Lk} (h : LkB w b l) : b < w.heap.size := blk_lt h
theorem lk_one (l : Lk) : ∀ v ∈ lkCells l, v.oneCell' = true := by
  intro v hv
  rw [lkCells_map] at hv
  obtain ⟨i, _, rfl⟩ := List.mem_map.1 hv
  unfold lkc
  split <;> rfl
theorem LkB.load {w : World} {b : Nat} {l : Lk} (h : LkB w b l) : (loadCells ⟨b, 0, none⟩ 101).run Try.prog w = .ok (lkCells l).toArray w := by
  have := run_loadCells_list (P := Try.prog) w ⟨b, 0, none⟩ (lkCells l) (fun j v hv => by
    have hadd : (⟨b, 0, none⟩ : Addr).add j = ⟨b, j, none⟩ := by unfold Addr.add; split <;> simp_all
    rw [hadd]
    unfold LkB at h
    simp [World.cell?, h]
    simpa using hv)
  rw [lkCells_len] at this
  exact this
theorem LkB.store {w : World} {b : Nat} {cur : Array Value} (l : Lk) (h : w.heap[b]? = some (.cells cur 171 (0, 0))) (hs : cur.size = 101) : ∃ w', (storeCells ⟨b, 0, none⟩ (lkCells l)).run Try.prog w = .ok () w' ∧ LkB w' b l ∧ Only (fun k => k = b) w w' ∧ w'.heap.size = w.heap.size := by
  have := run_storeCells_from (P := Try.prog) b 171 (lkCells l) 0 cur w h (by rw [lkCells_len, hs]) (lk_one l)
  simp only [List.take_zero, List.nil_append] at this
  refine ⟨_, this, ?_, ?_, ?_⟩
  · unfold LkB World.setRow
    simp [Array.getElem?_modify, h]
  · refine ⟨rfl, rfl, rfl, ?_, fun k _ hk => ?_⟩
    · simp [World.setRow]
    · unfold World.setRow
      simp [Array.getElem?_modify]
      intro e
      exact absurd e.symm hk
  · simp [World.setRow]
theorem LkB.cell {w : World} {b : Nat} {l : Lk} (h : LkB w b l) {i : Nat} (hi : i < 101) : w.cell? ⟨b, i, none⟩ = some (lkc l i) ∧ ∀ j, w.frozen? ⟨b, j, none⟩ = false := by
  unfold LkB at h
  refine ⟨?_, fun j => by simp [World.frozen?, h]⟩
  simp [World.cell?, h, lkCells_map, hi]
theorem LkB.set {w : World} {b : Nat} {l : Lk} (h : LkB w b l) (i v : Nat) (hi : i < 100) : LkB (w.setCell ⟨b, 1 + i, none⟩ (.int .u16 (v : Nat))) b ⟨l.was, fun j => if j = i then v else l.parts j⟩ := by
  unfold LkB at h ⊢
  simp only [World.setCell, Array.getElem?_modify, h, if_true, Option.map_some, Option.isSome_none, Bool.false_eq_true, if_false]
  congr 2
  apply Array.ext_getElem?
  intro j
  simp only [Array.getElem?_setIfInBounds, List.size_toArray, List.getElem?_toArray, lkCells_map, List.getElem?_map, List.length_map, List.length_range]
  by_cases hj : j < 101
  · rw [List.getElem?_range hj]
    by_cases e : 1 + i = j
    · subst e
      rw [if_pos rfl, if_pos (by omega)]
      simp [lkc]
    · rw [if_neg e]
      simp only [Option.map_some, lkc]
      by_cases e0 : j = 0
      · subst e0; simp
      · rw [if_neg e0, if_neg e0, if_neg (by omega)]
  · rw [List.getElem?_eq_none (by simp; omega)]
    rw [if_neg (by omega)]
    rfl

theorem LkB.range {w : World} {b : Nat} {l : Lk} (h : LkB w b l) : w.rangeAt b 0 (lkCells l) := fun j v hv => by
  unfold LkB at h
  rw [Nat.zero_add]
  simp [World.cell?, h]
  simpa using hv
theorem size_look (l : Lk) : (Try.prog.info? 171).map (·.size) = some (lkCells l).length := by
  rw [lkCells_len]
  kernel_rfl
theorem row_look : ∃ d, Try.prog.underlying 171 = some d ∧ d.isRow = true := ⟨_, Try.underlying171, rfl⟩
theorem zero_look : Try.zeroCells171 = (lkCells ⟨0, fun _ => 0⟩).toArray := by kernel_rfl
theorem zero_set (u : Nat) : Try.zeroCells171.toList.set 0 (.int .i64 (u : Nat)) = lkCells ⟨u, fun _ => 0⟩ := by kernel_rfl
theorem LkB.new (w : World) : LkB (w.alloc (.cells Try.zeroCells171 171)) w.heap.size ⟨0, fun _ => 0⟩ := by
  unfold LkB
  rw [zero_look]
  exact heap_alloc_new _ _

/-- What a table looks like whose leads are of these classes. -/
def lkOf (u : Nat) (cl ld : Nat → Nat) (c : Nat) : Lk := ⟨u, fun i => if i < c then cl (ld i) else 0⟩

set_option maxHeartbeats 2000000 in
set_option maxRecDepth 100000 in
/-- 'lookOf'. -/
theorem lookOf_any (u L C n cp : Nat) (la : Option Addr) (lb g : Nat) (cl ld : Nat → Nat) (w : World) (hL : L ≤ 100) (HLd : Hid (∀ i, i < L → ld i < n)) (HCl : Hid (∀ i, i < n → cl i < 1000))
    (hla : 0 < L → la = some ⟨lb, 0, none⟩) (HL : Hid (ClsAt w lb L ld)) (HC : Hid (ClsAt w g n cl)) :
    Calls Try.prog 102 #[.int .i64 u, .slice la L C, .slice (some ⟨g, 0, none⟩) n cp] w fun e w' => e = .returned (lkV (lkOf u cl ld L)) ∧ Below w.heap.size w w' := by
  have hz := zero_set u
  have H1 : Hid (LkB ((w.alloc (.cells Try.zeroCells171 171)).alloc (.cells Try.zeroCells171 171)) (w.heap.size + 1) ⟨0, fun _ => 0⟩) := by
    have := LkB.new (w.alloc (.cells Try.zeroCells171 171))
    show LkB _ _ _
    simpa using this
  obtain ⟨w1, hst, hB1, hO1, hs1⟩ := LkB.store ⟨u, fun _ => 0⟩ H1.out (by simp [lkCells_len])
  have hbe : Below w.heap.size w ((w.alloc (.cells Try.zeroCells171 171)).alloc (.cells Try.zeroCells171 171)) := (alloc2 w _ _).2.2.2
  have HB1 : Hid (LkB w1 (w.heap.size + 1) ⟨u, fun _ => 0⟩) := hB1
  have HR1 : Hid (LkB w1 w.heap.size ⟨0, fun _ => 0⟩) := by
    have := (alloc2 w (.cells Try.zeroCells171 171) (.cells Try.zeroCells171 171)).1
    rw [zero_look] at this
    exact (hO1.block _ (by simp; omega) (by omega)).trans (by rw [zero_look]; exact this)
  have HW1 : Hid (Below w.heap.size w w1) := hbe.trans (hO1.toBelow (fun k hk => by omega) hbe.size)
  clear hB1 hO1 hs1 hbe H1
  go_enter Try.func102, Try.ntmps102
  go_wp2
  clear hz hst
  go_loopw [14] (fun ii wr => ∃ c : Nat, c ≤ L ∧ ii = .int .i64 c ∧ Hid (LkB wr (w.heap.size + 1) (lkOf u cl ld c)) ∧ Hid (Only (fun k => k = w.heap.size + 1) w1 wr)) (fun ii _ => L - (intOf ii).toNat)
  case atStart =>
    refine ⟨0, Nat.zero_le _, rfl, ?_, Only.refl _ _⟩
    have e : lkOf u cl ld 0 = ⟨u, fun _ => 0⟩ := by unfold lkOf; simp
    rw [e]
    exact HB1
  case round =>
    obtain ⟨c, hc, rfl, HBc, HOc⟩ := hrel
    have HWr : Hid (Below w.heap.size w wr) := HW1.out.trans (HOc.out.toBelow (fun k hk => by omega) HW1.out.size)
    by_cases hlt : c < L
    · obtain rfl := hla (by omega)
      have l0 := HL.out.below HWr.out c hlt
      have hd := HLd.out c hlt
      obtain ⟨d, HD⟩ : ∃ d, Hid (ld c = d) := ⟨_, rfl⟩
      rw [HD.out] at l0 hd
      have c0 := HC.out.below HWr.out d hd
      have hcl := HCl.out d hd
      obtain ⟨x, HX⟩ : ∃ x, Hid (cl d = x) := ⟨_, rfl⟩
      rw [HX.out] at c0 hcl
      have hwx : IntKind.u16.wrap (x : Int) = (x : Int) := by unfold IntKind.wrap; simp [IntKind.bits, IntKind.signed]; omega
      have hbc : (0 : Int) ≤ (c : Int) ∧ (c : Int) < (L : Int) := by omega
      have hbc' : (0 : Int) ≤ (c : Int) ∧ (c : Int) < 100 := by omega
      have hbd : (0 : Int) ≤ (d : Int) ∧ (d : Int) < (n : Int) := by omega
      obtain ⟨p0, pz⟩ := HBc.out.cell (i := 1 + c) (by omega)
      have HB2 : Hid (LkB (wr.setCell ⟨w.heap.size + 1, 1 + c, none⟩ (.int .u16 (x : Nat))) (w.heap.size + 1) (lkOf u cl ld (c + 1))) := by
        have := HBc.out.set c x (by omega)
        have e : (⟨(lkOf u cl ld c).was, fun j => if j = c then x else (lkOf u cl ld c).parts j⟩ : Lk) = lkOf u cl ld (c + 1) := by
          unfold lkOf
          congr 1
          funext j
          simp only
          by_cases e : j = c
          · rw [if_pos e, if_pos (by omega), e, HD.out, HX.out]
          · rw [if_neg e]
            by_cases h' : j < c
            · rw [if_pos h', if_pos (by omega)]
            · rw [if_neg h', if_neg (by omega)]
        rw [e] at this
        exact this
      have HO2 : Hid (Only (fun k => k = w.heap.size + 1) w1 (wr.setCell ⟨w.heap.size + 1, 1 + c, none⟩ (.int .u16 (x : Nat)))) := HOc.out.set rfl _
      clear HBc HOc
      go_wp2
      go_roundw
      case rel => exact ⟨c + 1, by omega, by go_num, HB2, HO2⟩
      case measure => simp [intOf]; omega
    · obtain rfl : c = L := by omega
      have hld := HBc.out.load
      have HRc : Hid (LkB wr w.heap.size ⟨0, fun _ => 0⟩) := (HOc.out.block _ HR1.out.lt (by omega)).trans HR1.out
      obtain ⟨w2, hst, hB2, hO2, hs2⟩ := LkB.store (lkOf u cl ld c) HRc.out (by simp [lkCells_len])
      have HB2 : Hid (LkB w2 w.heap.size (lkOf u cl ld c)) := hB2
      have HW2 : Hid (Below w.heap.size w w2) := HWr.out.trans (hO2.toBelow (fun k hk => by omega) HWr.out.size)
      clear hB2 hO2 hs2
      obtain ⟨lk, hlk⟩ : ∃ lk, lkOf u cl ld c = lk := ⟨_, rfl⟩
      rw [hlk] at hld hst HB2
      have HLK : Hid (lkOf u cl ld c = lk) := hlk
      clear hlk hld
      have HRG : Hid (wr.rangeAt (w.heap.size + 1) 0 (lkCells lk)) := by rw [← HLK.out]; exact HBc.out.range
      obtain ⟨d, hd, hr⟩ := row_look
      go_wp2
      refine wp_load_mid 171 (.tmp 7) rfl (w.heap.size + 1) 0 rfl (lkCells lk) d HRG.out hd hr (size_look lk) ?_
      clear hd hr
      go_wp2
      refine bodyPost_ret (v := lkV lk) (results_cell_row Try.results102 _ _ w.heap.size 171 _ (0, 0) _ rfl HB2.out Try.underlying171 rfl (by rw [List.size_toArray]; exact size_look lk)) rfl ⟨by rw [HLK.out], HW2.out⟩

end Go.Proofs.Ytgflalfiopnmnaa

namespace Go.Proofs.Ytgflalfiopnmnaa
open Go.RowKit Vl

/-- A pair as it is looked at: no number of a table. -/
def zAt (v : V) : V := ⟨v.k, v.n, v.s, 0⟩
def prOf (K X : Nat → Nat → V) (r c : Nat) : PV2 := (K r c, zAt (X r c))
/-- What a table's face is. -/
def faceLk (kn : List PV2) (pr : Nat → PV2) (c : Nat) : Lk := ⟨0, fun i => if i < c then kn.idxOf (pr i) + 1 else 0⟩

theorem map_len {w : World} {M clk : Nat} {es : Array MapEntry} (h : w.heap[M]? = some (.map es clk)) : (Builtin.len_ #[166] 3 #[.map (some M)]).run Try.prog w = .ok (.int .i64 (es.size : Nat)) w := by
  simp [Builtin.len_, run_underlying Try.underlying166, MapKept.run_getObj_map h]
  rfl

set_option maxHeartbeats 2000000 in
set_option maxRecDepth 100000 in
/-- '(*table).face'. -/
theorem face_any (n : Nat) (T M : Nat → Nat) (L : Nat → Nat) (K X : Nat → Nat → V) (r km : Nat) (kn : List PV2) (w : World) (hr : r < n) (hL : L r ≤ 100) (hkn : kn.length ≤ 50000) (HG : Hid (Good n L X)) (HT : Hid (Tbs w n T M (fun j => (j : Nat)) L K X)) (HM : Hid (MapG pAgg w km (knM kn 0))) :
    Calls Try.prog 99 #[.pointer (some ⟨T r, 0, none⟩), .map (some km)] w fun e w' => e = .returned (lkV (faceLk (kns kn (prOf K X r) (L r)) (prOf K X r) (L r))) ∧ MapG pAgg w' km (knM (kns kn (prOf K X r) (L r)) 0) ∧ Only (fun k => k = km) w w' := by
  have A2 := alloc2 w (.cells Try.zeroCells171 171) (.cells Try.zeroCells171 171)
  obtain ⟨w1, hw1⟩ : ∃ w1, w1 = (w.alloc (.cells Try.zeroCells171 171)).alloc (.cells Try.zeroCells171 171) := ⟨_, rfl⟩
  have HR1 : Hid (LkB w1 w.heap.size ⟨0, fun _ => 0⟩) := by rw [hw1]; show LkB _ _ _; unfold LkB; rw [← zero_look]; exact A2.1
  have HB1 : Hid (LkB w1 (w.heap.size + 1) ⟨0, fun _ => 0⟩) := by rw [hw1]; show LkB _ _ _; unfold LkB; rw [← zero_look]; exact A2.2.1
  have HW1 : Hid (Below w.heap.size w w1) := by rw [hw1]; exact A2.2.2.2
  clear A2
  have hcall := pairs_any n T M (fun j => (j : Nat)) L K X r w1 hr hL HG (HT.out.below HW1.out)
  go_enter Try.func99, Try.ntmps99
  go_wp2_with fail
  rw [← hw1]
  refine hcall.mono ?_
  clear hcall hw1
  rintro e w2 ⟨⟨pv, rfl, hown⟩, hb2⟩
  obtain ⟨hform, hP⟩ := owns_pairs hown
  have HP : Hid (PairsAt w2 (slA pv) (L r) (slB pv) 0 (K r) (fun c => atV (fun j => (j : Nat)) (X r c))) := hP
  have HPB : Hid (0 < L r → w1.heap.size ≤ slB pv) := show _ → _ from fun h0 => by
    obtain ⟨g, cap, hv, _⟩ := owns_cell hown (k := 0) (y := .int .i64 (K r 0).k) (by have := pairCells_at (K r) (fun c => atV (fun j => (j : Nat)) (X r c)) (L r) 0 0 h0 (by omega); simpa using this)
    obtain ⟨_, _, _, hk⟩ := owns_form hown
    rw [hv]
    have := (hk g (by rw [hv]; rfl)).1
    exact this
  obtain ⟨pa, hpa⟩ : ∃ a, slA pv = a := ⟨_, rfl⟩
  obtain ⟨pb, hpb⟩ : ∃ a, slB pv = a := ⟨_, rfl⟩
  obtain ⟨pc, hpc⟩ : ∃ a, slC pv = a := ⟨_, rfl⟩
  rw [hpa, hpc] at hform
  rw [hpa, hpb] at HP
  rw [hpb] at HPB
  rw [hform]
  have HR2 : Hid (LkB w2 w.heap.size ⟨0, fun _ => 0⟩) := HR1.out.below hb2
  have HB2 : Hid (LkB w2 (w.heap.size + 1) ⟨0, fun _ => 0⟩) := HB1.out.below hb2
  have HW2 : Hid (Below w.heap.size w w2) := grw HW1.out hb2
  have HM2 : Hid (MapG pAgg w2 km (knM kn 0)) := HM.out.same (HW2.out.block _ HM.out.lt)
  have hkm : km < w.heap.size := HM.out.lt
  have hs1 : w.heap.size + 1 < w1.heap.size := HB1.out.lt
  clear hown hP hb2 hpa hpb hpc hform HR1 HB1
  go_wp2
  go_loopw [13] (fun ii wr => ∃ c : Nat, c ≤ L r ∧ ii = .int .i64 c ∧ Hid (LkB wr (w.heap.size + 1) (faceLk (kns kn (prOf K X r) (L r)) (prOf K X r) c)) ∧ Hid (MapG pAgg wr km (knM (kns kn (prOf K X r) c) 0)) ∧ Hid (Only (fun k => k = km ∨ k = w.heap.size + 1) w2 wr)) (fun ii _ => L r - (intOf ii).toNat)
  case atStart =>
    refine ⟨0, Nat.zero_le _, rfl, ?_, HM2, Only.refl _ _⟩
    have e : faceLk (kns kn (prOf K X r) (L r)) (prOf K X r) 0 = ⟨0, fun _ => 0⟩ := by unfold faceLk; simp
    rw [e]
    exact HB2
  case round =>
    obtain ⟨c, hc, rfl, HBc, HMc, HOc⟩ := hrel
    by_cases hlt : c < L r
    · obtain rfl := HP.out.top (by omega)
      have hpb := HPB.out (by omega)
      have HPr : Hid (PairsAt wr (some ⟨pb, 0, none⟩) (L r) pb 0 (K r) (fun c => atV (fun j => (j : Nat)) (X r c))) := HP.out.only HOc.out (fun _ => by omega)
      obtain ⟨⟨k0, k1, k2, k3⟩, ⟨v0, v1, v2, v3⟩⟩ := HPr.out.cells hlt
      simp only [Nat.zero_add] at k0 k1 k2 k3 v0 v1 v2 v3
      obtain ⟨kk, HKK⟩ : ∃ kk, Hid (K r c = kk) := ⟨_, rfl⟩
      obtain ⟨xx, HXX⟩ : ∃ xx, Hid (atV (fun j => (j : Nat)) (X r c) = xx) := ⟨_, rfl⟩
      rw [HKK.out] at k0 k1 k2 k3
      rw [HXX.out] at v0 v1 v2 v3
      obtain ⟨p, HPP⟩ : ∃ p, Hid (prOf K X r c = p) := ⟨_, rfl⟩
      have hp : p = (kk, ⟨xx.k, xx.n, xx.s, 0⟩) := by
        rw [← HPP.out, ← HKK.out, ← HXX.out]
        unfold prOf zAt atV
        by_cases h4 : (X r c).k = 4
        · rw [if_pos h4]
        · rw [if_neg h4]
      have hpv : pAgg p = .agg #[.int .i64 kk.k, .int .i64 kk.n, .string kk.s, .int .i64 kk.a, .int .i64 xx.k, .int .i64 xx.n, .string xx.s, .int .i64 0] := by rw [hp]
      obtain ⟨kc, HKC⟩ : ∃ kc, Hid (kns kn (prOf K X r) c = kc) := ⟨_, rfl⟩
      have hlen : kc.length ≤ 50100 := by rw [← HKC.out]; have := kns_len kn (prOf K X r) c; omega
      rw [HKC.out] at HMc
      obtain ⟨wa, hwa⟩ : ∃ wa, wa = wr.alloc (.cells #[.int .i64 kk.k, .int .i64 kk.n, .string kk.s, .int .i64 kk.a, .int .i64 xx.k, .int .i64 xx.n, .string xx.s, .int .i64 0] 75) := ⟨_, rfl⟩
      have hba : Below wr.heap.size wr wa := by rw [hwa]; exact (Below.refl _ _).alloc (Nat.le_refl _) _
      have HBa : Hid (LkB wa (w.heap.size + 1) (faceLk (kns kn (prOf K X r) (L r)) (prOf K X r) c)) := HBc.out.below hba
      have HMa : Hid (MapG pAgg wa km (knM kc 0)) := HMc.out.same (hba.block _ HMc.out.lt)
      have HOa : Hid (Only (fun k => k = km ∨ k = w.heap.size + 1) w2 wa) := HOc.out.trans (Only.below hba)
      have HPa : Hid (wa.heap[wr.heap.size]? = some (.cells #[.int .i64 kk.k, .int .i64 kk.n, .string kk.s, .int .i64 kk.a, .int .i64 xx.k, .int .i64 xx.n, .string xx.s, .int .i64 0] 75 (0, 0))) := by rw [hwa]; exact heap_alloc_new _ _
      have hbr : w.heap.size + 1 < wr.heap.size := HBc.out.lt
      have hkr : km < wr.heap.size := HMc.out.lt
      have hbc : (0 : Int) ≤ (c : Int) ∧ (c : Int) < 100 := by omega
      have hfin : ∀ (wz : World) (x : Nat), LkB wz (w.heap.size + 1) (faceLk (kns kn (prOf K X r) (L r)) (prOf K X r) c) → (kns kn (prOf K X r) (L r)).idxOf p + 1 = x → LkB (wz.setCell ⟨w.heap.size + 1, 1 + c, none⟩ (.int .u16 (x : Nat))) (w.heap.size + 1) (faceLk (kns kn (prOf K X r) (L r)) (prOf K X r) (c + 1)) := fun wz x hz hx => by
        have := hz.set c x (by omega)
        have e : (⟨(faceLk (kns kn (prOf K X r) (L r)) (prOf K X r) c).was, fun j => if j = c then x else (faceLk (kns kn (prOf K X r) (L r)) (prOf K X r) c).parts j⟩ : Lk) = faceLk (kns kn (prOf K X r) (L r)) (prOf K X r) (c + 1) := by
          unfold faceLk
          congr 1
          funext j
          simp only
          by_cases e : j = c
          · rw [if_pos e, if_pos (by omega), e, HPP.out, hx]
          · rw [if_neg e]
            by_cases h' : j < c
            · rw [if_pos h', if_pos (by omega)]
            · rw [if_neg h', if_neg (by omega)]
        rw [e] at this
        exact this
      have HFin : Hid _ := hfin
      clear hfin hba HPr
      have hpre := kns_pre kn (prOf K X r) (show c + 1 ≤ L r from hlt)
      have hsucc : kns kn (prOf K X r) (c + 1) = addTo kc p := by show addTo (kns kn (prOf K X r) c) (prOf K X r c) = _; rw [HKC.out, HPP.out]
      by_cases hm : p ∈ kc
      · have hadd : addTo kc p = kc := by unfold addTo; rw [if_pos hm]
        rw [hadd] at hsucc
        have HSu : Hid (kns kn (prOf K X r) (c + 1) = kc) := hsucc
        rw [hsucc] at hpre
        have hx := idx_pre hpre hm
        obtain ⟨x, HX⟩ : ∃ x : Nat, Hid (kc.idxOf p + 1 = x) := ⟨_, rfl⟩
        have hl1 := (HMa.out.lookup pair_keyed p trivial (fun _ _ => trivial)).1
        have hl2 := (HMa.out.lookup pair_keyed p trivial (fun _ _ => trivial)).2
        rw [knM_find, if_pos hm, Nat.zero_add, HX.out, hpv] at hl1 hl2
        have hbo : ∀ o, Below (wr.setCell ⟨w.heap.size + 1, 1 + c, none⟩ (.int .u16 (x : Nat))).heap.size (wr.setCell ⟨w.heap.size + 1, 1 + c, none⟩ (.int .u16 (x : Nat))) ((wr.setCell ⟨w.heap.size + 1, 1 + c, none⟩ (.int .u16 (x : Nat))).alloc o) := fun o => (Below.refl _ _).alloc (Nat.le_refl _) _
        have HB5 : Hid (∀ o, LkB ((wr.setCell ⟨w.heap.size + 1, 1 + c, none⟩ (.int .u16 (x : Nat))).alloc o) (w.heap.size + 1) (faceLk (kns kn (prOf K X r) (L r)) (prOf K X r) (c + 1))) := show ∀ o, _ from fun o => (HFin.out wr x HBc.out (by rw [hx]; exact HX.out)).below (hbo o)
        have HM5 : Hid (∀ o, MapG pAgg ((wr.setCell ⟨w.heap.size + 1, 1 + c, none⟩ (.int .u16 (x : Nat))).alloc o) km (knM kc 0)) := show ∀ o, _ from fun o => HMc.out.same (((hbo o).block _ (by simp [World.setCell]; exact hkr)).trans (Below.heap_setCell _ _ _ _ (show km ≠ w.heap.size + 1 by omega)))
        have HO5 : Hid (∀ o, Only (fun k => k = km ∨ k = w.heap.size + 1) w2 ((wr.setCell ⟨w.heap.size + 1, 1 + c, none⟩ (.int .u16 (x : Nat))).alloc o)) := show ∀ o, _ from fun o => (HOc.out.set (Or.inr rfl) _).trans (Only.below (hbo o))
        clear hbo
        obtain ⟨q0, qz⟩ := HBa.out.cell (i := 1 + c) (by omega)
        obtain ⟨r0, r1, r2, r3, r4, r5, r6, r7, _⟩ := cells8 HPa.out
        rw [hwa] at hl1 hl2 q0 r0 r1 r2 r3 r4 r5 r6 r7 qz
        clear hp hpv hx hpre hsucc hadd hm
        clear HBc HMc HOc
        go_wp2
        go_roundw
        case rel => exact ⟨c + 1, by omega, by go_num, HB5.out _, by rw [HSu.out]; exact HM5.out _, HO5.out _⟩
        case measure => simp [intOf]; omega
      · have hadd : addTo kc p = kc ++ [p] := by unfold addTo; rw [if_neg hm]
        rw [hadd] at hsucc
        have HSu : Hid (kns kn (prOf K X r) (c + 1) = kc ++ [p]) := hsucc
        rw [hsucc] at hpre
        have hx := idx_pre hpre (p := p) (by simp)
        have hxl : (kc ++ [p]).idxOf p = kc.length := by rw [List.idxOf_append, if_neg hm]; simp
        have hl1 := (HMa.out.lookup pair_keyed p trivial (fun _ _ => trivial)).1
        rw [knM_find, if_neg hm, hpv] at hl1
        obtain ⟨es, clk, hes, hel⟩ := HMa.out.len
        rw [knM_len] at hel
        obtain ⟨wb, hu, hMb, hOb, hsb⟩ := HMa.out.update pair_keyed p (.int .u16 ((kc.length + 1 : Nat) : Int)) trivial (fun _ _ => trivial) (by rw [knM_find, if_neg hm])
        rw [hpv] at hu
        have hMb' : MapG pAgg wb km (knM (kc ++ [p]) 0) := by rw [knM_snoc, Nat.zero_add]; exact hMb
        have hl2 := (hMb'.lookup pair_keyed p trivial (fun _ _ => trivial)).2
        rw [knM_find, if_pos (by simp), hxl, Nat.zero_add, hpv] at hl2
        have HBb : Hid (LkB wb (w.heap.size + 1) (faceLk (kns kn (prOf K X r) (L r)) (prOf K X r) c)) := (hOb.block _ HBa.out.lt (by omega)).trans HBa.out
        have HPb : Hid (wb.heap[wr.heap.size]? = some (.cells #[.int .i64 kk.k, .int .i64 kk.n, .string kk.s, .int .i64 kk.a, .int .i64 xx.k, .int .i64 xx.n, .string xx.s, .int .i64 0] 75 (0, 0))) := (hOb.block _ (blk_lt HPa.out) (by omega)).trans HPa.out
        have HOb : Hid (Only (fun k => k = km ∨ k = w.heap.size + 1) w2 wb) := HOa.out.trans (hOb.mono (fun k _ e => Or.inl e))
        obtain ⟨q0, qz⟩ := HBb.out.cell (i := 1 + c) (by omega)
        obtain ⟨r0, r1, r2, r3, r4, r5, r6, r7, _⟩ := cells8 HPa.out
        obtain ⟨s0, s1, s2, s3, s4, s5, s6, s7, _⟩ := cells8 HPb.out
        obtain ⟨x, hxe⟩ : ∃ x : Nat, kc.length + 1 = x := ⟨_, rfl⟩
        have HB5 : Hid (LkB (wb.setCell ⟨w.heap.size + 1, 1 + c, none⟩ (.int .u16 (x : Nat))) (w.heap.size + 1) (faceLk (kns kn (prOf K X r) (L r)) (prOf K X r) (c + 1))) := HFin.out wb x HBb.out (by rw [hx, hxl]; exact hxe)
        have HM5 : Hid (MapG pAgg (wb.setCell ⟨w.heap.size + 1, 1 + c, none⟩ (.int .u16 (x : Nat))) km (knM (kc ++ [p]) 0)) := hMb'.same (Below.heap_setCell _ _ _ _ (show km ≠ w.heap.size + 1 by omega))
        have HO5 : Hid (Only (fun k => k = km ∨ k = w.heap.size + 1) w2 (wb.setCell ⟨w.heap.size + 1, 1 + c, none⟩ (.int .u16 (x : Nat)))) := HOb.out.set (Or.inr rfl) _
        have hwx : IntKind.u16.wrap ((kc.length : Int) + 1) = ((x : Nat) : Int) := by unfold IntKind.wrap; simp [IntKind.bits, IntKind.signed]; omega
        have hwi : IntKind.i64.wrap ((kc.length : Int) + 1) = (kc.length : Int) + 1 := by rw [IntKind.wrap_i64]; omega
        rw [hxe] at hu hl2
        have hln := map_len hes
        rw [hel] at hln
        rw [hwa] at hl1 hu hln r0 r1 r2 r3 r4 r5 r6 r7
        clear hes hel
        clear hp hpv hx hxl hpre hsucc hadd hm hxe hMb hMb' hOb hsb HBc HMc HOc
        go_wp2
        go_roundw
        case rel => exact ⟨c + 1, by omega, by go_num, HB5, by rw [HSu.out]; exact HM5, HO5⟩
        case measure => simp [intOf]; omega
    · obtain rfl : c = L r := by omega
      have HRc : Hid (LkB wr w.heap.size ⟨0, fun _ => 0⟩) := (HOc.out.block _ HR2.out.lt (by omega)).trans HR2.out
      obtain ⟨lk, HLK⟩ : ∃ lk, Hid (faceLk (kns kn (prOf K X r) (L r)) (prOf K X r) (L r) = lk) := ⟨_, rfl⟩
      rw [HLK.out] at HBc
      obtain ⟨w3, hst, hB3, hO3, hs3⟩ := LkB.store lk HRc.out (by simp [lkCells_len])
      have HB3 : Hid (LkB w3 w.heap.size lk) := hB3
      have HM3 : Hid (MapG pAgg w3 km (knM (kns kn (prOf K X r) (L r)) 0)) := HMc.out.same (hO3.block _ HMc.out.lt (by omega))
      have HO3 : Hid (Only (fun k => k = km) w w3) := show Only _ _ _ from ⟨hO3.os.trans (HOc.out.os.trans HW2.out.os), hO3.tape.trans (HOc.out.tape.trans HW2.out.tape), hO3.output.trans (HOc.out.output.trans HW2.out.output), Nat.le_trans HW2.out.size (Nat.le_trans HOc.out.size hO3.size), fun k hk hne => by
        have h2 := HW2.out.size
        have h3 := HOc.out.size
        rw [hO3.block k (by omega) (by omega), HOc.out.block k (by omega) (by omega), HW2.out.block k hk]⟩
      have HRG : Hid (wr.rangeAt (w.heap.size + 1) 0 (lkCells lk)) := HBc.out.range
      obtain ⟨d, hd, hr'⟩ := row_look
      have hcl := lkCells_len lk
      clear hB3 hO3 hs3
      go_wp2
      refine wp_load_mid 171 (.tmp 5) rfl (w.heap.size + 1) 0 rfl (lkCells lk) d HRG.out hd hr' (size_look lk) ?_
      clear hd hr'
      go_wp2
      refine bodyPost_ret (v := lkV lk) (results_cell_row Try.results99 _ _ w.heap.size 171 _ (0, 0) _ rfl HB3.out Try.underlying171 rfl (by rw [List.size_toArray]; exact size_look lk)) rfl ⟨by rw [HLK.out], HM3.out, HO3.out⟩

end Go.Proofs.Ytgflalfiopnmnaa

namespace Go.Proofs.Ytgflalfiopnmnaa
open Go.RowKit Vl

/-- The places of the tables that the first c values lead to. -/
def ldsTo (x : Nat → V) (c : Nat) : List Nat := (List.range c).filterMap fun i => if (x i).k = 4 then some (x i).a.toNat else none
theorem ldsTo_succ (x : Nat → V) (c : Nat) : ldsTo x (c + 1) = if (x c).k = 4 then ldsTo x c ++ [(x c).a.toNat] else ldsTo x c := by
  unfold ldsTo
  rw [List.range_succ, List.filterMap_append]
  by_cases h : (x c).k = 4 <;> simp [h]
theorem ldsTo_len (x : Nat → V) (c : Nat) : (ldsTo x c).length ≤ c := by
  have := List.length_filterMap_le (fun i => if (x i).k = 4 then some (x i).a.toNat else none) (List.range c)
  simpa [ldsTo] using this

set_option maxHeartbeats 2000000 in
set_option maxRecDepth 100000 in
/-- '(*table).leads'. -/
theorem leads_any (n : Nat) (T M : Nat → Nat) (L : Nat → Nat) (K X : Nat → Nat → V) (r : Nat) (w : World) (hr : r < n) (hL : L r ≤ 100) (HG : Hid (Good n L X)) (HT : Hid (Tbs w n T M (fun j => (j : Nat)) L K X)) :
    Calls Try.prog 100 #[.pointer (some ⟨T r, 0, none⟩)] w fun e w' => (∃ lv, e = .returned lv ∧ w'.ownsRow w.heap.size 3 1 lv (ldsTo (X r) (L r)).length (natCells (ldsTo (X r) (L r)))) ∧ Below w.heap.size w w' := by
  obtain ⟨ord, hTb, hOr⟩ := HT.out.tab r hr
  obtain ⟨l, hM, hfind⟩ := HT.out.map r hr
  obtain ⟨hform, hVals⟩ := owns_keys hOr
  have HTb : Hid (TabB w (T r) (M r) ((fun j : Nat => (j : Int)) r) ord) := hTb
  have HM : Hid (MapIs w (M r) l) := hM
  have HF : Hid (∀ c, c < L r → findV (K r c) l = some (ifv T (X r c))) := hfind
  obtain ⟨ka, hka⟩ : ∃ ka, slA ord = ka := ⟨_, rfl⟩
  obtain ⟨kb, hkb⟩ : ∃ kb, slB ord = kb := ⟨_, rfl⟩
  obtain ⟨kc, hkc⟩ : ∃ kc, slC ord = kc := ⟨_, rfl⟩
  rw [hka, hkc] at hform
  rw [hka, hkb] at hVals
  have HV : Hid (ValsAt w ka (L r) kb 0 (K r)) := hVals
  rw [hform] at HTb
  clear hTb hM hfind hVals hOr hform hka hkb hkc
  obtain ⟨i0, hi, hz0, hz1, hz2⟩ := info_parts Try.infoN
  obtain ⟨t0, t1, t2, _⟩ := HTb.out.cells
  go_enter Try.func100, Try.ntmps100
  go_wp2
  clear t0 t1 t2
  go_loopw [3, 12] (fun lv ii wr => ∃ c : Nat, c ≤ L r ∧ ii = .int .i64 c ∧ Hid (wr.ownsRow w.heap.size 3 1 lv (ldsTo (X r) c).length (natCells (ldsTo (X r) c))) ∧ Hid (Below w.heap.size w wr)) (fun _ ii _ => L r - (intOf ii).toNat)
  case atStart => exact ⟨0, Nat.zero_le _, rfl, World.ownsRow_nil _ _ _ _, Below.refl _ _⟩
  case round =>
    obtain ⟨c, hc, rfl, HO, HB⟩ := hrel
    obtain ⟨pa, pc, rfl, _⟩ := owns_form HO.out
    by_cases hlt : c < L r
    · obtain rfl := HV.out.top (by omega)
      obtain ⟨k0, k1, k2, k3⟩ := (HV.out.below HB.out).cells hlt
      simp only [Nat.zero_add] at k0 k1 k2 k3
      obtain ⟨kk, HKK⟩ : ∃ kk, Hid (K r c = kk) := ⟨_, rfl⟩
      rw [HKK.out] at k0 k1 k2 k3
      go_wp2
      obtain ⟨wk, hwk⟩ : ∃ wk, wk = wr.alloc (.cells #[.int .i64 kk.k, .int .i64 kk.n, .string kk.s, .int .i64 kk.a] 24) := ⟨_, rfl⟩
      have HBk : Hid (Below wr.heap.size wr wk) := by rw [hwk]; exact (Below.refl _ _).alloc (Nat.le_refl _) _
      have HKb : Hid (ValB wk wr.heap.size kk) := by rw [hwk]; exact heap_alloc_new _ _
      rw [← hwk]
      clear hwk k0 k1 k2 k3
      have HBw : Hid (Below w.heap.size w wk) := HB.out.trans (HBk.out.mono HB.out.size)
      have HOk : Hid (wk.ownsRow w.heap.size 3 1 (.slice pa (ldsTo (X r) c).length pc) (ldsTo (X r) c).length (natCells (ldsTo (X r) c))) := (Only.below (P := fun _ => False) HBk.out).owns HO.out (fun _ _ _ h => h)
      obtain ⟨qb, hqb⟩ : ∃ qb, wr.heap.size = qb := ⟨_, rfl⟩
      rw [hqb] at HKb ⊢
      clear HBk HO HB hqb
      have hiv := HG.out r hr c hlt
      have hfc := HF.out c hlt
      obtain ⟨xt, xy, hxv⟩ := ifv_form T (X r c)
      rw [hxv, HKK.out] at hfc
      obtain ⟨c0, c1, c2, c3, _⟩ := cells4 HKb.out
      replace c0 := cellB c0
      replace c1 := cellB c1
      replace c2 := cellB c2
      replace c3 := cellB c3
      have t1 : ∀ w', Below wk.heap.size wk w' → w'.cell? ⟨T r, 1, none⟩ = some (.map (some (M r))) := cellB ((HBw.out.cell (p := ⟨T r, 1, none⟩) (HT.out.lt hr)).trans HTb.out.cells.2.1)
      have hlk : ∀ w', Below wk.heap.size wk w' → (Instr.lookup 64 (.map (some (M r))) (.agg #[.int .i64 kk.k, .int .i64 kk.n, .string kk.s, .int .i64 kk.a]) false).run Try.prog w' = .ok (.iface xt xy) w' := fun w' hb => by
        have := ((HM.out.same ((hb.block _ (Nat.lt_of_lt_of_le HM.out.lt HBw.out.size)).trans (HBw.out.block _ HM.out.lt))).lookup kk).2
        rw [hfc] at this
        exact this
      go_region_held3 (fun w' => Below wk.heap.size wk w') (first | exact (Below.refl _ _).drew) (fail)
      clear c0 c1 c2 c3 t1 hlk hfc
      have HBd : Hid (Below w.heap.size w wk.drew) := HBw.out.drew
      have HOd : Hid (wk.drew.ownsRow w.heap.size 3 1 (.slice pa (ldsTo (X r) c).length pc) (ldsTo (X r) c).length (natCells (ldsTo (X r) c))) := HOk.out
      obtain ⟨wd, hwd⟩ : ∃ wd, wd = wk.drew := ⟨_, rfl⟩
      rw [← hwd] at HBd HOd ⊢
      clear hwd HBw HOk HKb
      have hll := ldsTo_len (X r) c
      by_cases h4 : (X r c).k = 4
      · have hE : Hid (ldsTo (X r) (c + 1) = ldsTo (X r) c ++ [(X r c).a.toNat]) := by show _ = _; rw [ldsTo_succ, if_pos h4]
        rw [ifv_tab h4] at hxv
        cases hxv
        obtain ⟨a0, a1⟩ := isV_tab hiv h4
        obtain ⟨q, HQ⟩ : ∃ q, Hid ((X r c).a.toNat = q) := ⟨_, rfl⟩
        have hq : q < n := by rw [← HQ.out]; omega
        rw [HQ.out] at hE ⊢
        have hta := assert_yes (T q)
        have a2 : wd.cell? ⟨T q, 0, none⟩ = some (.int .i64 (q : Nat)) := (HBd.out.cell (p := ⟨T q, 0, none⟩) (HT.out.lt hq)).trans (HT.out.at0 q hq)
        obtain ⟨ml, HML⟩ : ∃ ml, Hid ((ldsTo (X r) c).length = ml) := ⟨_, rfl⟩
        rw [HML.out] at HOd hll ⊢
        have hsd := HBd.out.size
        go_wp2_with (at_builtin; refine wpList_append_lies _ (by rfl) (.tmp 25) (.tmp 30) 32 (by rfl) w.heap.size 3 i0 (.int .i64 0) 1 8 Try.underlying32 hi hz0 hz1 hz2 (by rfl) (by omega) (.slice pa ml pc) ml (natCells (ldsTo (X r) c)) (by rfl) (HOd.out.alloc _) ⟨wd.heap.size, 0, none⟩ 1 1 [.int .i64 (q : Nat)] (by rfl) (by rfl) ?c1 ?c2 (by omega) ?c3 ?c4 ?c5 (wd.heap.size + 1) ?c6 ?_)
        case c1 => exact World.news_of_block (heap_alloc_new wd _)
        case c2 => intro u hu; simp at hu; subst hu; rfl
        case c3 => unfold maxLen; omega
        case c4 => omega
        case c5 => simp; omega
        case c6 => simp
        intro g cap w7 hown7 hgrow7 hat7 hlt7
        have hb7 : Below w.heap.size (wd.alloc (.cells #[.int .i64 (q : Nat)] 3)) w7 := below_grown (HOd.out.alloc _) hgrow7 (by simp; omega)
        have HB7 : Hid (Below w.heap.size w w7) := (HBd.out.alloc HBd.out.size _).trans hb7
        have HO7 : Hid (w7.ownsRow w.heap.size 3 1 (.slice (some ⟨g, 0, none⟩) (ml + 1) cap) (ldsTo (X r) (c + 1)).length (natCells (ldsTo (X r) (c + 1)))) := by
          rw [hE.out, natCells_snoc, List.length_append, HML.out]
          exact hown7
        clear hown7 hgrow7 hat7 hlt7 hb7 a2 hta
        go_wp2
        go_roundw
        case rel => exact ⟨c + 1, by omega, by go_num, HO7, HB7⟩
        case measure => simp [intOf]; omega
      · have hE : Hid (ldsTo (X r) (c + 1) = ldsTo (X r) c) := by show _ = _; rw [ldsTo_succ, if_neg h4]
        have hta := assert_no hiv h4 T
        rw [hxv] at hta
        clear hxv
        go_wp2
        go_roundw
        case rel => exact ⟨c + 1, by omega, by go_num, by rw [hE.out]; exact HOd, HBd⟩
        case measure => simp [intOf]; omega
    · obtain rfl : c = L r := by omega
      go_wp2
      go_ret
      exact ⟨⟨_, rfl, HO.out⟩, HB.out⟩

end Go.Proofs.Ytgflalfiopnmnaa
