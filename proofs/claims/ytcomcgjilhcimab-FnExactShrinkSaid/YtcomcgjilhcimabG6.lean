import Derived.Test.YtcomcgjilhcimabG5
import Derived.Test.YtcomcgjilhcimabGmMap
namespace Go.Proofs.Ytcomcgjilhcimab
open Go.RowKit Vl

theorem okT_more {N n L : Nat} {K X : Nat → V} (h : OkT N L K X) : OkT (N + n) L K X := ⟨h.len, fun c hc => ⟨(h.all c hc).key, isV_more (h.all c hc).val, (h.all c hc).some, (h.all c hc).once⟩⟩
theorem okT_sh {N n L : Nat} {K X : Nat → V} (h : OkT n L K X) : OkT (N + n) L K (fun c => sh N (X c)) := ⟨h.len, fun c hc => ⟨(h.all c hc).key, sh_isV (h.all c hc).val, by rw [sh_k]; exact (h.all c hc).some, (h.all c hc).once⟩⟩
theorem okT_join {n m : Nat} {u u' : V} {L L' : Nat → Nat} {K X K' X' : Nat → Nat → V} (h : OkG n u L K X) (h' : OkG m u' L' K' X') : ∀ r, r < n + m → OkT (n + m) (jn n L L' r) (jn n K K' r) (jn n X (fun j c => sh n (X' j c)) r) := fun r hr => by
  by_cases e : r < n
  · rw [jn_lt e, jn_lt e, jn_lt e]
    exact okT_more (h.all r e)
  · rw [jn_ge e, jn_ge e, jn_ge e]
    exact okT_sh (h'.all (r - n) (by omega))

theorem ClsAre.uniqT {n : Nat} {L : Nat → Nat} {K X : Nat → Nat → V} {f f' : Nat → Nat} (hok : ∀ r, r < n → OkT n (L r) (K r) (X r)) (h : ClsAre n L K X f) (h' : ClsAre n L K X f') {i : Nat} (hi : i < n) : f i = f' i := by
  obtain ⟨ls, h1, h2⟩ := h
  obtain ⟨ls', k1, k2⟩ := h'
  have e : ∀ r, r < n → ls' r = ls r := fun r hr => SortI.one (hok r hr) (k1 r hr) (h1 r hr)
  have k3 := k2.agree (L' := L) (K' := sK K ls) (X' := sK X ls) (fun _ _ => rfl) (fun j hj => by unfold sK; rw [e j hj]) (fun j hj => by unfold sK; rw [e j hj])
  refine IsCls.uniq (fun r hr c hc => ?_) h2 k3 hi
  exact ((hok r hr).all _ ((h1 r hr).lt hc)).val

theorem fstV_k (f : Nat → Nat) (v : V) : (fstV f v).k = v.k := by unfold fstV; split <;> rfl
theorem fstV_a {f : Nat → Nat} {v : V} (h : v.k = 4) : (fstV f v).a.toNat = f v.a.toNat := by unfold fstV; rw [if_pos h]; simp
theorem fstV_ne {f : Nat → Nat} {v : V} (h : v.k ≠ 4) : fstV f v = v := by unfold fstV; rw [if_neg h]
theorem fstV_isV {f : Nat → Nat} {N : Nat} (hf : ∀ i, i < N → f i ≤ i) {v : V} (h : isV N v = true) : isV N (fstV f v) = true := by
  by_cases h4 : v.k = 4
  · obtain ⟨a0, a1⟩ := isV_tab h h4
    have hl := hf v.a.toNat (by omega)
    unfold fstV
    rw [if_pos h4]
    unfold isV at h ⊢
    rw [if_neg (by omega), if_neg (by omega), if_neg (by omega), if_neg (by omega), if_pos h4] at h
    rw [if_neg (by simp only; omega), if_neg (by simp only; omega), if_neg (by simp only; omega), if_neg (by simp only; omega), if_pos (by simp only; omega)]
    simp only [Bool.and_eq_true, decide_eq_true_eq] at h ⊢
    refine ⟨h.1, h.2.1, ?_, ?_⟩ <;> omega
  · rw [fstV_ne h4]; exact h
theorem alike_fst {T f : Nat → Nat} {N : Nat} (hinj : ∀ i j, i < N → j < N → T i = T j → i = j) (hf : ∀ i, i < N → f i ≤ i) {x y : V} (hx : isV N x = true) (hy : isV N y = true) : alike T (fstV f x) (fstV f y) = alike f x y := by
  rw [Bool.eq_iff_iff, alike_iff, alike_iff, fstV_k, fstV_k]
  constructor
  · rintro ⟨h1, h2, h3⟩
    refine ⟨h1, fun h4 => ?_, fun h4 => ?_⟩
    · have e := h2 h4
      rw [fstV_a h4, fstV_a (h1.symm.trans h4)] at e
      obtain ⟨a0, a1⟩ := isV_tab hx h4
      obtain ⟨b0, b1⟩ := isV_tab hy (h1.symm.trans h4)
      exact hinj _ _ (by have := hf x.a.toNat (by omega); omega) (by have := hf y.a.toNat (by omega); omega) e
    · have e := h3 h4
      rw [fstV_ne h4, fstV_ne (by rw [← h1]; exact h4)] at e
      exact e
  · rintro ⟨h1, h2, h3⟩
    refine ⟨h1, fun h4 => ?_, fun h4 => ?_⟩
    · rw [fstV_a h4, fstV_a (h1.symm.trans h4), h2 h4]
    · rw [fstV_ne h4, fstV_ne (by rw [← h1]; exact h4)]
      exact h3 h4
theorem alike_congr {f f' : Nat → Nat} {N : Nat} (h : ∀ i, i < N → f i = f' i) {x y : V} (hx : isV N x = true) (hy : isV N y = true) : alike f x y = alike f' x y := by
  rw [Bool.eq_iff_iff, alike_iff, alike_iff]
  have key : x.k = y.k → x.k = 4 → (f x.a.toNat = f y.a.toNat ↔ f' x.a.toNat = f' y.a.toNat) := fun h1 h4 => by
    obtain ⟨a0, a1⟩ := isV_tab hx h4
    obtain ⟨b0, b1⟩ := isV_tab hy (h1.symm.trans h4)
    rw [h _ (by omega), h _ (by omega)]
  exact ⟨fun ⟨h1, h2, h3⟩ => ⟨h1, fun h4 => (key h1 h4).1 (h2 h4), h3⟩, fun ⟨h1, h2, h3⟩ => ⟨h1, fun h4 => (key h1 h4).2 (h2 h4), h3⟩⟩

/-- The answer of 'Same', of two graphs. -/
def SameRes (e : Ending) (n m : Nat) (u u' : V) (L L' : Nat → Nat) (K X K' X' : Nat → Nat → V) : Prop :=
  ((OkG n u L K X ∧ OkG m u' L' K' X') ∧ ∃ f : Nat → Nat, ClsAre (n + m) (jn n L L') (jn n K K') (jn n X (fun j c => sh n (X' j c))) f ∧ e = .returned (.bool (alike f u (sh n u')))) ∨ (¬ (OkG n u L K X ∧ OkG m u' L' K' X') ∧ e = .returned (.bool false))

open Classical in
theorem same_fixed (n m : Nat) (u u' : V) (L L' : Nat → Nat) (K X K' X' : Nat → Nat → V) : ∃ b : Bool, ∀ e, SameRes e n m u u' L L' K X K' X' → e = .returned (.bool b) := by
  by_cases hok : OkG n u L K X ∧ OkG m u' L' K' X'
  · refine ⟨alike (Classical.epsilon (fun f => ClsAre (n + m) (jn n L L') (jn n K K') (jn n X (fun j c => sh n (X' j c))) f)) u (sh n u'), fun e h => ?_⟩
    rcases h with ⟨_, f, hf, rfl⟩ | ⟨hno, _⟩
    · have he := Classical.epsilon_spec (p := fun f => ClsAre (n + m) (jn n L L') (jn n K K') (jn n X (fun j c => sh n (X' j c))) f) ⟨f, hf⟩
      rw [alike_congr (fun i hi => hf.uniqT (okT_join hok.1 hok.2) he hi) (isV_more hok.1.root) (sh_isV hok.2.root)]
    · exact absurd hok hno
  · refine ⟨false, fun e h => ?_⟩
    rcases h with ⟨h, _⟩ | ⟨_, rfl⟩
    · exact absurd h hok
    · rfl

end Go.Proofs.Ytcomcgjilhcimab

namespace Go.Proofs.Ytcomcgjilhcimab
open Go.RowKit Vl

/-- The values of the sorted tables, of each class of tables the first. -/
def fX (X : Nat → Nat → V) (ls : Nat → List Nat) (f : Nat → Nat) (r c : Nat) : V := fstV f (sK X ls r c)

theorem SortI.ne {K : Nat → V} {L : Nat} {ls : List Nat} (h : SortI K L ls) {i j : Nat} (hi : i < j) (hj : j < L) : ls.getD i 0 ≠ ls.getD j 0 := by
  have hn : ls.Nodup := h.perm.nodup_iff.2 List.nodup_range
  have hl := h.len
  simp only [List.getD_eq_getElem?_getD]
  rw [List.getElem?_eq_getElem (by omega), List.getElem?_eq_getElem (by omega)]
  simp only [Option.getD_some]
  exact List.pairwise_iff_getElem.1 hn i j (by omega) (by omega) hi
theorem Vl.OkT.once {n L : Nat} {K X : Nat → V} (h : OkT n L K X) {a b : Nat} (ha : a < L) (hb : b < L) (hne : a ≠ b) : K a ≠ K b := fun e => by
  rcases Nat.lt_or_gt_of_ne hne with h' | h'
  · have := (h.all b hb).once a h'
    rw [eqV_iff.2 e] at this
    cases this
  · have := (h.all a ha).once b h'
    rw [eqV_iff.2 e.symm] at this
    cases this

/-- What is shrunk is well made. -/
theorem okG_shr {n : Nat} {u : V} {L : Nat → Nat} {K X : Nat → Nat → V} {ls : Nat → List Nat} {f : Nat → Nat} (hok : OkG n u L K X) (hs : ∀ r, r < n → SortI (K r) (L r) (ls r)) (hf : ∀ i, i < n → f i ≤ i) : OkG n (fstV f u) L (sK K ls) (fX X ls f) := by
  refine ⟨hok.len, fstV_isV hf hok.root, fun r hr => ⟨(hok.all r hr).len, fun c hc => ?_⟩⟩
  have hl := (hs r hr).lt hc
  have hp := (hok.all r hr).all _ hl
  refine ⟨hp.key, fstV_isV hf hp.val, ?_, fun j hj => ?_⟩
  · show (fstV f _).k ≠ 0
    rw [fstV_k]
    exact hp.some
  · have := (hok.all r hr).once ((hs r hr).lt (show j < L r by omega)) hl ((hs r hr).ne hj hc)
    show eqV (K r ((ls r).getD j 0)) (K r ((ls r).getD c 0)) = false
    cases h : eqV (K r ((ls r).getD j 0)) (K r ((ls r).getD c 0))
    · rfl
    · exact absurd (eqV_iff.1 h) this

theorem met_same {n : Nat} {L : Nat → Nat} {X X' : Nat → Nat → V} (hg : Good n L X) (he : ∀ r, r < n → ∀ c, c < L r → X r c = X' r c) : ∀ (f : Nat) (S : List Nat) (v : V), isV n v = true → met L X f S v = met L X' f S v
  | 0, S, v, _ => rfl
  | f + 1, S, v, hv => by
    by_cases h : v.k = 4 ∧ v.a.toNat ∉ S
    · obtain ⟨a0, a1⟩ := isV_tab hv h.1
      have hr : v.a.toNat < n := by omega
      rw [met_new h.1 h.2, met_new h.1 h.2]
      have key : ∀ c T, c ≤ L v.a.toNat → mets L X f T (X v.a.toNat) c = mets L X' f T (X' v.a.toNat) c := by
        intro c
        induction c with
        | zero => intro T _; rfl
        | succ c ih =>
          intro T hc
          rw [mets_succ, mets_succ, ih T (by omega), ← he _ hr c (by omega)]
          exact met_same hg he f _ _ (hg _ hr c (by omega))
      exact key _ _ (Nat.le_refl _)
    · have h' : v.k ≠ 4 ∨ v.a.toNat ∈ S := by
        by_cases h4 : v.k = 4
        · exact Or.inr (Classical.byContradiction fun hn => h ⟨h4, hn⟩)
        · exact Or.inl h4
      rw [met_old h', met_old h']

theorem CanonIs.agree {w w' : World} {e : Ending} {n : Nat} {u : V} {L : Nat → Nat} {K X K' X' : Nat → Nat → V} (h : CanonIs w w' e n u L K X) (hok : OkG n u L K X) (hok' : OkG n u L K' X') (hK : ∀ r, r < n → K r = K' r) (hX : ∀ r, r < n → ∀ c, c < L r → X r c = X' r c) : CanonIs w w' e n u L K' X' := by
  have eo : order n u L X' = order n u L X := (met_same (good_of hok) hX (n + 1) [] u hok.root).symm
  rcases h with ⟨_, tv, PV, base, h1, h2, h3⟩ | ⟨hno, _⟩
  · refine Or.inl ⟨hok', tv, PV, base, h1, ?_, ?_⟩
    · rw [eo]; exact h2
    · rw [eo]
      have hlt : ∀ j, j < (order n u L X).length → (order n u L X).getD j 0 < n := fun j hj => by
        rw [List.getD_eq_getElem?_getD, List.getElem?_eq_getElem hj]
        exact (order_all hok).1.lt _ (List.getElem_mem hj)
      refine h3.congr (fun _ _ => rfl) (fun j hj c hc => ⟨?_, ?_⟩)
      · unfold cK; rw [hK _ (hlt j hj)]
      · unfold cX; rw [hX _ (hlt j hj) c hc]
  · exact absurd hok hno

/-- The answer of 'Shrink'. -/
def ShrIs (w w' : World) (e : Ending) (n : Nat) (u : V) (L : Nat → Nat) (K X : Nat → Nat → V) : Prop :=
  (OkG n u L K X ∧ ∃ (f : Nat → Nat) (ls : Nat → List Nat), ((∀ r, r < n → SortI (K r) (L r) (ls r)) ∧ IsCls n L (sK K ls) (sK X ls) f) ∧ CanonIs w w' e n (fstV f u) L (sK K ls) (fX X ls f)) ∨ (¬ OkG n u L K X ∧ e = .returned (.agg #[.int .i64 0, .int .i64 0, .string ⟨#[]⟩, .int .i64 0, .slice none 0 0]))

theorem fstV_congr {f f' : Nat → Nat} {n : Nat} (h : ∀ i, i < n → f i = f' i) {v : V} (hv : isV n v = true) : fstV f v = fstV f' v := by
  by_cases h4 : v.k = 4
  · obtain ⟨a0, a1⟩ := isV_tab hv h4
    unfold fstV
    rw [if_pos h4, if_pos h4, h _ (by omega)]
  · rw [fstV_ne h4, fstV_ne h4]

theorem shr_fixed {n : Nat} (u : V) {L : Nat → Nat} {K X : Nat → Nat → V} (hS : Small 1048576 n L K X) : ∃ (N : Nat) (U : V) (L' : Nat → Nat) (K' X' : Nat → Nat → V), N ≤ 1048576 ∧ Small 1048576 N L' K' X' ∧ ∀ w w' e, ShrIs w w' e n u L K X → GrRes w w' e N U L' K' X' := by
  by_cases hok : OkG n u L K X
  · by_cases hex : ∃ (f : Nat → Nat) (ls : Nat → List Nat), (∀ r, r < n → SortI (K r) (L r) (ls r)) ∧ IsCls n L (sK K ls) (sK X ls) f
    · obtain ⟨f0, ls0, hs0, hi0⟩ := hex
      have hok0 := okG_shr hok hs0 hi0.low
      have hS0 : Small 1048576 n L (sK K ls0) (fX X ls0 f0) := fun r hr => ⟨(hS r hr).1, fun c hc => by
        have hl := (hs0 r hr).lt hc
        have := (hS r hr).2 _ hl
        refine ⟨this.1, ?_⟩
        unfold fX fstV
        split
        · exact this.2
        · exact this.2⟩
      refine ⟨_, cnU n (fstV f0 u) L (sK K ls0) (fX X ls0 f0), _, _, _, (small_can (u := fstV f0 u) hS0).1, (small_can (u := fstV f0 u) hS0).2, fun w w' e h => ?_⟩
      rcases h with ⟨_, f, ls, ⟨hs, hi⟩, hc⟩ | ⟨hno, _⟩
      · have hf : ∀ i, i < n → f i = f0 i := fun i hi' => ClsAre.uniq hok ⟨ls, hs, hi⟩ ⟨ls0, hs0, hi0⟩ hi'
        have hls : ∀ r, r < n → ls r = ls0 r := fun r hr => SortI.one (hok.all r hr) (hs r hr) (hs0 r hr)
        have hok1 := okG_shr hok hs hi.low
        rw [fstV_congr hf hok.root] at hc hok1
        refine (hc.agree hok1 hok0 (fun r hr => by unfold sK; rw [hls r hr]) (fun r hr c hc => ?_)).res
        unfold fX sK
        rw [hls r hr]
        exact fstV_congr hf (good_of hok r hr _ ((hs0 r hr).lt hc))
      · exact absurd hok hno
    · refine ⟨0, ⟨0, 0, ⟨#[]⟩, 0⟩, fun _ => 0, fun _ _ => ⟨0, 0, ⟨#[]⟩, 0⟩, fun _ _ => ⟨0, 0, ⟨#[]⟩, 0⟩, by omega, fun r hr => by omega, fun w w' e h => ?_⟩
      rcases h with ⟨_, f, ls, h1, _⟩ | ⟨hno, _⟩
      · exact absurd ⟨f, ls, h1⟩ hex
      · exact absurd hok hno
  · refine ⟨0, ⟨0, 0, ⟨#[]⟩, 0⟩, fun _ => 0, fun _ _ => ⟨0, 0, ⟨#[]⟩, 0⟩, fun _ _ => ⟨0, 0, ⟨#[]⟩, 0⟩, by omega, fun r hr => by omega, fun w w' e h => ?_⟩
    rcases h with ⟨h, _⟩ | ⟨_, rfl⟩
    · exact absurd h hok
    · exact ⟨none, 0, fun _ => .nilIface, w.heap.size, Nat.le_refl _, rfl, OTab.nil w' _ _ _ _ _⟩

end Go.Proofs.Ytcomcgjilhcimab

namespace Go.Proofs.Ytcomcgjilhcimab
open Go.RowKit Vl

/-- The last number of a pair is written. -/
theorem pairCells_setA {K X : Nat → V} {c j : Nat} (hj : j < c) (a : Int) : (pairCells K X c).set (j * 8 + 7) (.int .i64 a) = pairCells K (fun i => if i = j then ⟨(X j).k, (X j).n, (X j).s, a⟩ else X i) c := by
  apply List.ext_getElem?
  intro m
  by_cases hm : m < c * 8
  · obtain ⟨q, i, hi, rfl⟩ : ∃ q i, i < 8 ∧ m = q * 8 + i := ⟨m / 8, m % 8, by omega, by omega⟩
    have hq : q < c := by omega
    rw [pairCells_at _ _ _ _ _ hq hi]
    simp only [List.getElem?_set, pairCells_len]
    by_cases e : q = j
    · subst e
      simp only [if_true]
      by_cases e7 : i = 7
      · subst e7
        rw [if_pos rfl, if_pos (by omega)]
        rfl
      · rw [if_neg (by omega), pairCells_at K X c q i hq hi]
        rcases (show i = 0 ∨ i = 1 ∨ i = 2 ∨ i = 3 ∨ i = 4 ∨ i = 5 ∨ i = 6 by omega) with rfl | rfl | rfl | rfl | rfl | rfl | rfl <;> rfl
    · simp only [e, if_false]
      rw [if_neg (by omega)]
      exact pairCells_at K X c q i hq hi
  · rw [List.getElem?_eq_none (by simp only [List.length_set, pairCells_len]; omega), List.getElem?_eq_none (by rw [pairCells_len]; omega)]

/-- The first k values turned to the first of their class. -/
def fTo (f : Nat → Nat) (X : Nat → V) (k c : Nat) : V := if c < k then fstV f (X c) else X c
theorem fTo_tab {w : World} {b g cap l k a : Nat} {K X : Nat → V} {f : Nat → Nat} (h : w.ownsRow b 63 8 (.slice (some ⟨g, 0, none⟩) l cap) l (pairCells K (fTo f X k) l)) (hk : k < l) (h4 : (X k).k = 4) (ha : (X k).a.toNat = a) :
    (w.setCell ⟨g, k * 8 + 7, none⟩ (.int .i64 (f a : Nat))).ownsRow b 63 8 (.slice (some ⟨g, 0, none⟩) l cap) l (pairCells K (fTo f X (k + 1)) l) := by
  have e := owns_set h (k * 8 + 7) (.int .i64 (f a : Nat))
  rw [pairCells_setA hk, pairCells_congr (K' := K) (X' := fTo f X (k + 1)) (fun j hj => ⟨rfl, ?_⟩)] at e
  · exact e
  · unfold fTo
    by_cases e : j = k
    · subst e
      rw [if_pos rfl, if_neg (Nat.lt_irrefl _), if_pos (Nat.lt_succ_self _)]
      unfold fstV
      rw [if_pos h4, ha]
    · rw [if_neg e]
      by_cases h' : j < k
      · rw [if_pos h', if_pos (by omega)]
      · rw [if_neg h', if_neg (by omega)]
theorem fTo_ne {f : Nat → Nat} {X : Nat → V} {k l : Nat} {K : Nat → V} (h4 : (X k).k ≠ 4) : pairCells K (fTo f X (k + 1)) l = pairCells K (fTo f X k) l := by
  refine pairCells_congr (fun j _ => ⟨rfl, ?_⟩)
  unfold fTo
  by_cases e : j = k
  · subst e
    rw [if_pos (Nat.lt_succ_self _), if_neg (Nat.lt_irrefl _), fstV_ne h4]
  · by_cases h' : j < k
    · rw [if_pos h', if_pos (by omega)]
    · rw [if_neg h', if_neg (by omega)]

set_option maxHeartbeats 8000000 in
set_option maxRecDepth 100000 in
/-- 'spec.Shrink'. -/
theorem specShrink_any (u : V) (ta : Option Addr) (n cp TB TO : Nat) (A : Nat → Option Addr) (L C RB RO : Nat → Nat) (K X : Nat → Nat → V) (w : World) (hn : n ≤ 1048576) (HS : Hid (Small 1048576 n L K X)) (HT : Hid (TabsAt w ta n TB TO A L C RB RO K X)) :
    Calls Try.prog 37 #[.agg #[.int .i64 u.k, .int .i64 u.n, .string u.s, .int .i64 u.a, .slice ta n cp]] w fun e w' => ShrIs w w' e n u L K X ∧ Below w.heap.size w w' := by
  have A2 : Hid _ := alloc2 w (.cells #[.int .i64 u.k, .int .i64 u.n, .string u.s, .int .i64 u.a, .slice ta n cp] 32) (.cells #[.int .i64 0, .int .i64 0, .string ⟨#[]⟩, .int .i64 0, .slice none 0 0] 32)
  obtain ⟨w0, hw0⟩ : ∃ w0, w0 = (w.alloc (.cells #[.int .i64 u.k, .int .i64 u.n, .string u.s, .int .i64 u.a, .slice ta n cp] 32)).alloc (.cells #[.int .i64 0, .int .i64 0, .string ⟨#[]⟩, .int .i64 0, .slice none 0 0] 32) := ⟨_, rfl⟩
  have H0 : Hid (CanW w w0 u ta n cp) := by rw [hw0]; exact ⟨A2.out.1, A2.out.2.1, A2.out.2.2.2⟩
  clear A2
  have hsp := specOk_any u ta n cp TB TO A L C RB RO K X w0 hn HS (HT.out.below H0.out.bel)
  go_enter Try.func37, Try.ntmps37
  go_wp2_with fail
  rw [← hw0]
  refine hsp.mono ?_
  clear hsp hw0
  rintro e w1 ⟨⟨bs, rfl, hbs⟩, hb1⟩
  have H1 : Hid (CanW w w1 u ta n cp) := H0.out.below hb1
  clear hb1 H0
  cases bs
  · have HN : Hid (¬ OkG n u L K X) := show ¬ OkG n u L K X from fun h => by have := hbs.2 h; cases this
    clear hbs
    obtain ⟨r0, r1, r2, r3, r4, r5⟩ := cells5 H1.out.res
    simp only [zeroV] at r0 r1 r2 r3
    go_wp2
    have F := put5hi (put5lo H1.out.res (.int .i64 0) (.int .i64 0) (.string ⟨#[]⟩) (.int .i64 0)) (.slice none 0 0)
    obtain ⟨q0, q1, q2, q3, q4, _⟩ := cells5 F
    refine bodyPost_ret (v := .agg #[.int .i64 0, .int .i64 0, .string ⟨#[]⟩, .int .i64 0, .slice none 0 0]) (by simp [results, Try.results37, go_sem, q0, q1, q2, q3, q4]) rfl ⟨Or.inr ⟨HN.out, rfl⟩, ?_⟩
    exact (H1.out.bel.trans (set4_below.mono (by omega))).setCell (by show w.heap.size ≤ w.heap.size + 1; omega) _
  have HG : Hid (OkG n u L K X) := hbs.1 rfl
  clear hbs
  have hcl := l3classes_any ta n cp TB TO A L C RB RO K X w1 (by have := HG.out.len; omega) (show ∀ r, _ from fun r hr => (HG.out.all r hr).len) (show ∀ r, _ from fun r hr c hc => by have := ((HS.out r hr).2 c hc).1; omega) (good_of HG.out) (HT.out.below H1.out.bel)
  obtain ⟨g0, g1, g2, g3, g4, _⟩ := cells5 H1.out.graph
  go_wp2_with fail
  refine hcl.mono ?_
  clear hcl g0 g1 g2 g3 g4
  rintro e w2 ⟨⟨cg, f, ls0, rfl, hcg, hrow, hsrt, hcls⟩, hb2⟩
  have H2 : Hid (CanW w w2 u ta n cp) := H1.out.below hb2
  have HC2 : Hid (w2.rowIs cg 3 n (fun i => .int .i64 (f i : Nat))) := hrow
  have HCS : Hid ((∀ r, r < n → SortI (K r) (L r) (ls0 r)) ∧ IsCls n L (sK K ls0) (sK X ls0) f) := ⟨hsrt, hcls⟩
  clear hb2 H1 hrow hcg hsrt hcls
  have hcgl : cg < w2.heap.size := HC2.out.lt
  have hur := HG.out.root
  obtain ⟨g0, g1, g2, g3, g4, _⟩ := cells5 H2.out.graph
  have hgl : w.heap.size < w2.heap.size := blk_lt H2.out.graph
  by_cases h4 : u.k = 4
  · obtain ⟨a0, a1⟩ := isV_tab hur h4
    obtain ⟨a, ha⟩ : ∃ a : Nat, u.a = a := ⟨u.a.toNat, by omega⟩
    have hc := HC2.out.cell (i := a) (by omega)
    obtain ⟨fa, hfa⟩ : ∃ fa, f a = fa := ⟨_, rfl⟩
    rw [hfa] at hc
    obtain ⟨ya, hya⟩ : ∃ ya : Int, (fa : Int) = ya := ⟨_, rfl⟩
    rw [hya] at hc
    have hk4 : (u.k == 4) = true := by simp [h4]
    have hbd : (0 : Int) ≤ (a : Int) ∧ (a : Int) < (n : Int) := by omega
    have HSH : Hid (fstV f u = ⟨u.k, u.n, u.s, ya⟩) := by show fstV f u = _; unfold fstV; rw [if_pos h4, ha, Int.toNat_natCast, hfa, hya]
    rw [ha] at g3
    clear h4 hya a0 a1 hur hfa
    obtain ⟨w3, hw3⟩ : ∃ w3, w3 = w2.alloc (.cells #[.int .i64 u.k, .int .i64 u.n, .string u.s, .int .i64 ya, .slice none 0 0] 32) := ⟨_, rfl⟩
    have hb3 : Below w2.heap.size w2 w3 := by rw [hw3]; exact (Below.refl _ _).alloc (Nat.le_refl _) _
    have H3 : Hid (CanW w w3 u ta n cp) := H2.out.below hb3
    have HO3 : Hid (w3.heap[w2.heap.size]? = some (.cells #[.int .i64 u.k, .int .i64 u.n, .string u.s, .int .i64 ya, .slice none 0 0] 32 (0, 0))) := by rw [hw3]; exact heap_alloc_new _ _
    have HC3 : Hid (w3.rowIs cg 3 n (fun i => .int .i64 (f i : Nat))) := HC2.out.of_block (hb3.block _ HC2.out.lt)
    have hs3 : w3.heap.size = w2.heap.size + 1 := by rw [hw3]; simp
    obtain ⟨ob, hob⟩ : ∃ ob, w2.heap.size = ob := ⟨_, rfl⟩
    obtain ⟨b3, hb3'⟩ : ∃ b3, w3.heap.size = b3 := ⟨_, rfl⟩
    have HOB : Hid (b3 = ob + 1 ∧ w.heap.size + 2 ≤ ob ∧ cg < ob ∧ w3.heap.size = b3) := ⟨by omega, by have := blk_lt H2.out.res; omega, by omega, hb3'⟩
    rw [hob] at HO3 hgl hcgl
    clear hb3 hs3 HC2
    go_wp2
    rw [← hw3]
    try rw [hob]
    clear hw3 hc hob hcgl hgl H2 g0 g1 g2 g3 g4 hb3'
    obtain ⟨it, hti, ht0, ht1, ht2⟩ := info_parts Try.info61
    go_loopw [34] (fun ii wr => ∃ (i : Nat) (tv : Value) (PV : Nat → Value) (ls : Nat → List Nat), i ≤ n ∧ ii = .int .i64 i ∧ Hid (∀ r, r < i → SortI (K r) (L r) (ls r)) ∧ Hid (wr.heap[ob]? = some (.cells #[.int .i64 u.k, .int .i64 u.n, .string u.s, .int .i64 ya, tv] 32 (0, 0))) ∧ Hid (OTab wr b3 tv i PV L (sK K ls) (fX X ls f)) ∧ Hid (Only (fun k => k = ob) w3 wr)) (fun ii _ => n - (intOf ii).toNat)
    case atStart => exact ⟨0, _, fun _ => .nilIface, fun _ => [], Nat.zero_le _, rfl, fun r hr => absurd hr (Nat.not_lt_zero _), HO3, OTab.nil _ _ _ _ _ _, Only.refl _ _⟩
    case round =>
      obtain ⟨i, tv, PV, ls, hi, rfl, HLs, HOb, HOT, HON⟩ := hrel
      have HCr : Hid (CanW w wr u ta n cp) := H3.out.only HON.out (fun k hk => by have := HOB.out; omega)
      have HRr : Hid (wr.rowIs cg 3 n (fun i => .int .i64 (f i : Nat))) := HON.out.rowIs HC3.out (by have := HOB.out; omega)
      obtain ⟨sa, sc, rfl, hsk⟩ := owns_form HOT.out.own
      have hwr3 : Hid (b3 ≤ wr.heap.size) := show _ ≤ _ by have := HON.out.size; have := HOB.out; omega
      have HSK : Hid (∀ k, (Value.slice sa i sc).ownBlock = some k → b3 ≤ k ∧ k < wr.heap.size) := hsk
      have HNP : Hid (∀ j, j < i → ∀ g, (PV j).ownBlock = some g → g < wr.heap.size) := show ∀ j, _ from fun j hj g hg => by obtain ⟨_, _, _, h⟩ := owns_form (HOT.out.rows j hj); exact (h g hg).2
      clear hsk
      by_cases hlt : i < n
      · have hta := HT.out.top (by omega)
        subst hta
        have t0 := (HT.out.below HCr.out.bel).tab i hlt
        obtain ⟨pa, hpa⟩ : ∃ a, A i = a := ⟨_, rfl⟩
        obtain ⟨l, hl⟩ : ∃ a, L i = a := ⟨_, rfl⟩
        obtain ⟨pc, hpc⟩ : ∃ a, C i = a := ⟨_, rfl⟩
        rw [hpa, hl, hpc] at t0
        have HP : Hid (PairsAt w pa l (RB i) (RO i) (K i) (X i)) := by rw [← hpa, ← hl]; exact HT.out.row i hlt
        have hl100 : l ≤ 100 := by rw [← hl]; exact (HG.out.all i hlt).len
        have HGi : Hid (∀ c, c < l → isV n (X i c) = true) := show ∀ c, _ from fun c hc => good_of HG.out i hlt c (by rw [hl]; exact hc)
        have HZi : Hid (∀ c, c < l → (K i c).s.size ≤ 9223372036854775807) := show ∀ c, _ from fun c hc => by have := ((HS.out i hlt).2 c (by rw [hl]; exact hc)).1; omega
        obtain ⟨wt, hwt⟩ : ∃ wt, wt = wr.alloc (.cells #[.slice pa l pc] 61) := ⟨_, rfl⟩
        have hbt : Below wr.heap.size wr wt := by rw [hwt]; exact (Below.refl _ _).alloc (Nat.le_refl _) _
        have HBt : Hid (Below wr.heap.size wr wt) := hbt
        have HWS : Hid (wt.heap.size = wr.heap.size + 1) := by rw [hwt]; show (wr.alloc _).heap.size = wr.heap.size + 1; simp
        have hcall := l3sorted_any pa l pc (RB i) (RO i) (K i) (X i) wt (by omega) HZi (HP.out.below (grw HCr.out.bel hbt))
        clear hbt
        go_wp2_with fail
        rw [← hwt]
        refine hcall.mono ?_
        clear hcall hwt t0
        rintro e w5 ⟨⟨pa', pc', lr, rfl, hsr, hown⟩, hb5⟩
        have HSR : Hid (SortI (K i) l lr) := hsr
        obtain ⟨w6, hw6⟩ : ∃ w6, w6 = w5.alloc (.cells #[.slice pa' l pc'] 61) := ⟨_, rfl⟩
        have hb6 : Below w5.heap.size w5 w6 := by rw [hw6]; exact (Below.refl _ _).alloc (Nat.le_refl _) _
        have HBr6 : Hid (Below wr.heap.size wr w6) := grw HBt.out (grw hb5 hb6)
        have HX6 : Hid (w6.heap[w5.heap.size]? = some (.cells #[.slice pa' l pc'] 61 (0, 0))) := by rw [hw6]; exact heap_alloc_new _ _
        have HR6 : Hid (w6.ownsRow wr.heap.size 63 8 (.slice pa' l pc') l (pairCells (byI (K i) lr) (fTo f (byI (X i) lr) 0) l)) := by
          have e1 := owns_mono ((Only.below (P := fun _ => False) hb6).owns hown (fun _ _ _ h => h)) HBt.out.size
          rw [pairCells_congr (X' := fTo f (byI (X i) lr) 0) (fun j hj => ⟨rfl, by unfold fTo; rw [if_neg (Nat.not_lt_zero _)]⟩)] at e1
          exact e1
        obtain ⟨xb, hxb⟩ : ∃ xb, w5.heap.size = xb := ⟨_, rfl⟩
        rw [hxb] at HX6
        have HXb : Hid (wr.heap.size < xb ∧ xb < w6.heap.size) := ⟨by have h1 := HBt.out.size; have h2 := hb5.size; have h3 : wt.heap.size = wr.heap.size + 1 := HWS.out; omega, by rw [hw6]; simp; omega⟩
        have HXR : Hid ((Value.slice pa' l pc').ownBlock ≠ some xb) := show _ ≠ _ from fun e => by obtain ⟨_, _, _, h⟩ := owns_form hown; have := (h _ e).2; omega
        clear hown hsr hb5 hb6
        go_wp2
        rw [← hw6]
        try rw [hxb]
        clear hw6 hxb
        obtain ⟨wi, hwi⟩ : ∃ wi, wi = wr := ⟨_, rfl⟩
        rw [← hwi] at HCr HRr HOb HOT HON hwr3 HSK HNP HBt HBr6 HR6 HXb
        clear hwi
        go_loopw [43] (fun ii wq => ∃ k : Nat, k ≤ l ∧ ii = .int .i64 k ∧ Hid (wq.ownsRow wi.heap.size 63 8 (.slice pa' l pc') l (pairCells (byI (K i) lr) (fTo f (byI (X i) lr) k) l)) ∧ Hid (Only (fun k => (Value.slice pa' l pc').ownBlock = some k) w6 wq)) (fun ii _ => l - (intOf ii).toNat)
        case atStart => exact ⟨0, Nat.zero_le _, rfl, HR6, Only.refl _ _⟩
        case round =>
          obtain ⟨k, hk, rfl, HRq, HOq⟩ := hrel
          clear HR6
          have HXq : Hid (wr.heap[xb]? = some (.cells #[.slice pa' l pc'] 61 (0, 0))) := (HOq.out.block _ (blk_lt HX6.out) HXR.out).trans HX6.out
          obtain ⟨y0, y1⟩ := one_at HXq.out
          by_cases hlk : k < l
          · obtain ⟨g', cap', e', _⟩ := HRq.out.form (by omega)
            cases e'
            have hP := (owns_pairs HRq.out).2
            obtain ⟨_, ⟨v0, v1, v2, v3⟩⟩ := hP.cells (c := k) hlk
            obtain ⟨xc, HXC⟩ : ∃ xc, Hid (byI (X i) lr k = xc) := ⟨_, rfl⟩
            have ek : fTo f (byI (X i) lr) k k = xc := by unfold fTo; rw [if_neg (Nat.lt_irrefl _)]; exact HXC.out
            simp only [ek, Nat.zero_add, slB, slA] at v0 v1 v2 v3
            have hvx : isV n xc = true := by rw [← HXC.out]; exact HGi.out _ (HSR.out.lt hlk)
            have hbk : (0 : Int) ≤ (k : Int) ∧ (k : Int) < (l : Int) := by omega
            clear hP ek
            by_cases h4 : xc.k = 4
            · obtain ⟨a0, a1⟩ := isV_tab hvx h4
              obtain ⟨a, ha⟩ : ∃ a : Nat, xc.a = a := ⟨xc.a.toNat, by omega⟩
              have hcr : Hid (wr.rowIs cg 3 n (fun i => .int .i64 (f i : Nat))) := by
                have h1 := HRr.out.of_block (HBr6.out.block _ HRr.out.lt)
                exact HOq.out.rowIs h1 (fun e => by obtain ⟨_, _, _, h⟩ := owns_form HRq.out; have := (h _ e).1; have := HRr.out.lt; omega)
              have hc := hcr.out.cell (i := a) (by omega)
              have gz : ∀ j, wr.frozen? ⟨g', j, none⟩ = false := owns_frozen HRq.out
              have hk4 : (xc.k == 4) = true := by simp [h4]
              have hba : (0 : Int) ≤ (a : Int) ∧ (a : Int) < (n : Int) := by omega
              have HR7 : Hid ((wr.setCell ⟨g', k * 8 + 7, none⟩ (.int .i64 (f a : Nat))).ownsRow wi.heap.size 63 8 (.slice (some ⟨g', 0, none⟩) l pc') l (pairCells (byI (K i) lr) (fTo f (byI (X i) lr) (k + 1)) l)) := fTo_tab HRq.out hlk (by rw [HXC.out]; exact h4) (by rw [HXC.out, ha, Int.toNat_natCast])
              have HO7 : Hid (Only (fun k => (Value.slice (some ⟨g', 0, none⟩) l pc').ownBlock = some k) w6 (wr.setCell ⟨g', k * 8 + 7, none⟩ (.int .i64 (f a : Nat)))) := HOq.out.set (p := ⟨g', k * 8 + 7, none⟩) rfl _
              rw [ha] at v3
              obtain ⟨fa, hfa⟩ : ∃ fa, f a = fa := ⟨_, rfl⟩
              rw [hfa] at hc HR7 HO7
              clear h4 hvx a0 a1 ha hfa hcr HRq HOq
              go_wp2
              go_region
              go_wp2
              go_roundw
              case rel => exact ⟨k + 1, by omega, by go_num, HR7, HO7.out.thenBelow (Below.refl _ _).drew HO7.out.size⟩
              case measure => simp [intOf]; omega
            · have hk4 : (xc.k == 4) = false := by simp [h4]
              have HR7 : Hid (wr.ownsRow wi.heap.size 63 8 (.slice (some ⟨g', 0, none⟩) l pc') l (pairCells (byI (K i) lr) (fTo f (byI (X i) lr) (k + 1)) l)) := by
                show World.ownsRow _ _ _ _ _ _ _
                rw [fTo_ne (by rw [HXC.out]; exact h4)]
                exact HRq.out
              clear h4 hvx HRq
              go_wp2
              go_roundw
              case rel => exact ⟨k + 1, by omega, by go_num, HR7, HOq⟩
              case measure => simp [intOf]; omega
          · obtain rfl : k = l := by omega
            have HRk : Hid (wr.ownsRow b3 63 8 (.slice pa' k pc') k (pairCells (byI (K i) lr) (fun c => fstV f (byI (X i) lr c)) k)) := by
              have e1 := owns_mono HRq.out hwr3.out
              rw [pairCells_congr (K' := byI (K i) lr) (X' := fun c => fstV f (byI (X i) lr c)) (fun j hj => ⟨rfl, by unfold fTo; rw [if_pos hj]⟩)] at e1
              exact e1
            have HNr : Hid (∀ g, (Value.slice pa' k pc').ownBlock = some g → wi.heap.size ≤ g) := show ∀ g, _ from fun g hg => by obtain ⟨_, _, _, h⟩ := owns_form HRq.out; exact (h g hg).1
            have HOTk : Hid (OTab wr b3 (.slice sa i sc) i PV L (sK K ls) (fX X ls f)) := (HOT.out.below HBr6.out).onlyB HOq.out (fun g hg e => by have := HNr.out g e; have := (HSK.out g hg).2; omega) (fun j hj g hg e => by have := HNr.out g e; have := HNP.out j hj g hg; omega)
            have HObk : Hid (wr.heap[ob]? = some (.cells #[.int .i64 u.k, .int .i64 u.n, .string u.s, .int .i64 ya, .slice sa i sc] 32 (0, 0))) := by
              have h1 := (HBr6.out.block _ (blk_lt HOb.out)).trans HOb.out
              exact (HOq.out.block _ (blk_lt h1) (fun e => by have := HNr.out _ e; have := blk_lt HOb.out; omega)).trans h1
            have HONk : Hid (Only (fun k => k = ob) w3 wr) := (HON.out.trans (Only.below HBr6.out)).thenBelow (base := wi.heap.size) (HOq.out.toBelow (fun k hk => HNr.out k hk) HBr6.out.size) HON.out.size
            have hsk3 : b3 ≤ wr.heap.size := by have h1 := HONk.out.size; have := HOB.out; omega
            have hi200 : i ≤ 200 := by have := HG.out.len; omega
            obtain ⟨o0, o1, o2, o3, o4, oz⟩ := cells5 HObk.out
            have hol : ob < wr.heap.size := blk_lt HObk.out
            clear HOT HOb HON HRq HOq HBr6
            go_wp2_with (at_builtin; refine wpList_append_lies _ (by rfl) (.tmp 72) (.tmp 74) 30 (by rfl) b3 61 it (.agg #[.slice none 0 0]) 1 24 Try.underlying30 hti ht0 ht1 ht2 (by rfl) (by omega) (.slice sa i sc) i ((List.range i).map PV) (by rfl) (HOTk.out.own.alloc _) ⟨wr.heap.size, 0, none⟩ 1 1 [.slice pa' k pc'] (by rfl) (by rfl) ?c1 ?c2 (by omega) ?c3 ?c4 ?c5 (wr.heap.size + 1) ?c6 ?_)
            case c1 => exact World.news_of_block (heap_alloc_new wr _)
            case c2 => intro v hv; simp at hv; subst hv; rfl
            case c3 => unfold maxLen; omega
            case c4 => omega
            case c5 => simp; omega
            case c6 => simp
            intro g cap w7 hown7 hgrow7 hat7 hlt7
            obtain ⟨hT7, hB7⟩ := HOTk.out.more HRk.out (fun j hj g hg e => by have := HNr.out g e; have := HNP.out j hj g hg; omega) _ hsk3 hown7 hgrow7
            have HT7 : Hid (OTab w7 b3 (.slice (some ⟨g, 0, none⟩) (i + 1) cap) (i + 1) (fun j => if j = i then .slice pa' k pc' else PV j) L (sK K (fun j => if j = i then lr else ls j)) (fX X (fun j => if j = i then lr else ls j) f)) := hT7.congr (fun j hj => by
                by_cases e : j = i
                · subst e; simp only [if_true]; exact hl.symm
                · simp only [e, if_false]) (fun j hj c' hc' => by
                unfold fX sK
                by_cases e : j = i
                · subst e; simp only [if_true]; exact ⟨trivial, trivial⟩
                · simp only [e, if_false]; exact ⟨trivial, trivial⟩)
            have HOb7 : Hid (w7.heap[ob]? = some (.cells #[.int .i64 u.k, .int .i64 u.n, .string u.s, .int .i64 ya, .slice sa i sc] 32 (0, 0))) := (hB7.block _ (by have := HOB.out; omega)).trans HObk.out
            have HON7 : Hid (Only (fun k => k = ob) w3 w7) := HONk.out.thenBelow hB7 (by have := HOB.out; omega)
            have HLs' : Hid (∀ r, r < i + 1 → SortI (K r) (L r) ((fun j => if j = i then lr else ls j) r)) := show ∀ r, _ from fun r hr => by
              by_cases e : r = i
              · subst e; simp only [if_true]; rw [hl]; exact HSR.out
              · simp only [e, if_false]; exact HLs.out r (by omega)
            obtain ⟨q0, q1, q2, q3, q4, qz⟩ := cells5 HOb7.out
            have HO8 : Hid ((w7.setCell ⟨ob, 4, none⟩ (.slice (some ⟨g, 0, none⟩) (i + 1) cap)).heap[ob]? = some (.cells #[.int .i64 u.k, .int .i64 u.n, .string u.s, .int .i64 ya, .slice (some ⟨g, 0, none⟩) (i + 1) cap] 32 (0, 0))) := put5hi HOb7.out _
            have HT8 : Hid (OTab (w7.setCell ⟨ob, 4, none⟩ (.slice (some ⟨g, 0, none⟩) (i + 1) cap)) b3 (.slice (some ⟨g, 0, none⟩) (i + 1) cap) (i + 1) (fun j => if j = i then .slice pa' k pc' else PV j) L (sK K (fun j => if j = i then lr else ls j)) (fX X (fun j => if j = i then lr else ls j) f)) := HT7.out.only ((Only.refl (fun k => k = ob) _).set (p := ⟨ob, 4, none⟩) rfl _) (fun k hk e => by have := HOB.out; omega)
            have HON8 : Hid (Only (fun k => k = ob) w3 (w7.setCell ⟨ob, 4, none⟩ (.slice (some ⟨g, 0, none⟩) (i + 1) cap))) := HON7.out.set (p := ⟨ob, 4, none⟩) rfl _
            clear hT7 hB7 hown7 hgrow7 hat7 hlt7 HOTk HObk HONk HRk HT7 HOb7 HON7 o0 o1 o2 o3 o4
            go_wp2
            go_roundw
            case rel => exact ⟨i + 1, _, _, _, by omega, by go_num, HLs', HO8, HT8, HON8⟩
            case measure => simp [intOf]; omega
      · obtain rfl : i = n := by omega
        obtain ⟨o0, o1, o2, o3, o4, _⟩ := cells5 HOb.out
        have hTt := HOT.out.tabs
        have hls : ∀ r, r < i → ls r = ls0 r := fun r hr => SortI.one (HG.out.all r hr) (HLs.out r hr) (HCS.out.1 r hr)
        have hOk := okG_shr HG.out HLs.out HCS.out.2.low
        have HCS' : Hid ((∀ r, r < i → SortI (K r) (L r) (ls r)) ∧ IsCls i L (sK K ls) (sK X ls) f) := ⟨HLs.out, HCS.out.2.agree (fun _ _ => rfl) (fun j hj => by unfold sK; rw [hls j hj]) (fun j hj => by unfold sK; rw [hls j hj])⟩
        obtain ⟨S, HSo⟩ : ∃ S, Hid (order i (fstV f u) L (fX X ls f) = S) := ⟨_, rfl⟩
        have hcan := l2canon_any (fstV f u) sa i sc _ 0 _ L _ _ _ (sK K ls) (fX X ls f) wr hOk hTt.2 S HSo
        rw [HSH.out] at hcan
        have HOk : Hid (OkG i (fstV f u) L (sK K ls) (fX X ls f)) := hOk
        obtain ⟨ru, HRU⟩ : ∃ ru, Hid (renum S (⟨u.k, u.n, u.s, ya⟩ : V) = ru) := ⟨_, rfl⟩
        rw [HRU.out] at hcan
        have hs1 : w.heap.size + 1 < wr.heap.size := blk_lt HCr.out.res
        clear hTt hOk hls
        go_wp2_with fail
        refine hcan.mono ?_
        clear hcan o0 o1 o2 o3 o4
        rintro e w8 ⟨⟨tv, PV8, base, hbase, rfl, hT⟩, hb8⟩
        have H8 : Hid (CanW w w8 u ta i cp) := HCr.out.below hb8
        have HO : Hid (OTab w8 base tv S.length PV8 (cL S L) (cK S (sK K ls)) (cX S (fX X ls f))) := hT
        clear hb8 hT
        obtain ⟨ta', tc', rfl, _⟩ := owns_form HO.out.own
        obtain ⟨r0, r1, r2, r3, r4, r5⟩ := cells5 H8.out.res
        simp only [zeroV] at r0 r1 r2 r3
        go_wp2
        have F := put5hi (put5lo H8.out.res (.int .i64 ru.k) (.int .i64 ru.n) (.string ru.s) (.int .i64 ru.a)) (.slice ta' S.length tc')
        obtain ⟨wf, hwf⟩ : ∃ wf, wf = ((((w8.setCell ⟨w.heap.size + 1, 0, none⟩ (.int .i64 ru.k)).setCell ⟨w.heap.size + 1, 1, none⟩ (.int .i64 ru.n)).setCell ⟨w.heap.size + 1, 2, none⟩ (.string ru.s)).setCell ⟨w.heap.size + 1, 3, none⟩ (.int .i64 ru.a)).setCell ⟨w.heap.size + 1, 4, none⟩ (.slice ta' S.length tc') := ⟨_, rfl⟩
        have ho : Only (fun k => k = w.heap.size + 1) w8 wf := by rw [hwf]; exact set4_only.set (p := ⟨w.heap.size + 1, 4, none⟩) rfl _
        rw [← hwf] at F ⊢
        clear hwf
        obtain ⟨q0, q1, q2, q3, q4, _⟩ := cells5 F
        refine bodyPost_ret (v := .agg #[.int .i64 ru.k, .int .i64 ru.n, .string ru.s, .int .i64 ru.a, .slice ta' S.length tc']) (by simp [results, Try.results37, go_sem, q0, q1, q2, q3, q4]) rfl ⟨Or.inl ⟨HG.out, f, ls, HCS'.out, Or.inl ⟨HOk.out, ?_⟩⟩, H8.out.bel.trans (ho.toBelow (fun k hk => by omega) (by have := H8.out.bel.size; omega))⟩
        rw [HSo.out, HSH.out, HRU.out]
        exact ⟨_, PV8, base, by omega, rfl, HO.out.only ho (fun k hk e => by omega)⟩
  · have hk4 : (u.k == 4) = false := by simp [h4]
    obtain ⟨ya, hya⟩ : ∃ ya : Int, u.a = ya := ⟨_, rfl⟩
    have HSH : Hid (fstV f u = ⟨u.k, u.n, u.s, ya⟩) := by show fstV f u = _; unfold fstV; rw [if_neg h4, ← hya]
    rw [hya] at g3
    clear h4 hur
    obtain ⟨w3, hw3⟩ : ∃ w3, w3 = w2.alloc (.cells #[.int .i64 u.k, .int .i64 u.n, .string u.s, .int .i64 ya, .slice none 0 0] 32) := ⟨_, rfl⟩
    have hb3 : Below w2.heap.size w2 w3 := by rw [hw3]; exact (Below.refl _ _).alloc (Nat.le_refl _) _
    have H3 : Hid (CanW w w3 u ta n cp) := H2.out.below hb3
    have HO3 : Hid (w3.heap[w2.heap.size]? = some (.cells #[.int .i64 u.k, .int .i64 u.n, .string u.s, .int .i64 ya, .slice none 0 0] 32 (0, 0))) := by rw [hw3]; exact heap_alloc_new _ _
    have HC3 : Hid (w3.rowIs cg 3 n (fun i => .int .i64 (f i : Nat))) := HC2.out.of_block (hb3.block _ HC2.out.lt)
    have hs3 : w3.heap.size = w2.heap.size + 1 := by rw [hw3]; simp
    obtain ⟨ob, hob⟩ : ∃ ob, w2.heap.size = ob := ⟨_, rfl⟩
    obtain ⟨b3, hb3'⟩ : ∃ b3, w3.heap.size = b3 := ⟨_, rfl⟩
    have HOB : Hid (b3 = ob + 1 ∧ w.heap.size + 2 ≤ ob ∧ cg < ob ∧ w3.heap.size = b3) := ⟨by omega, by have := blk_lt H2.out.res; omega, by omega, hb3'⟩
    rw [hob] at HO3 hgl hcgl
    clear hb3 hs3 HC2
    go_wp2
    rw [← hw3]
    try rw [hob]
    clear hw3 hob hcgl hgl H2 g0 g1 g2 g3 g4 hb3'
    obtain ⟨it, hti, ht0, ht1, ht2⟩ := info_parts Try.info61
    go_loopw [34] (fun ii wr => ∃ (i : Nat) (tv : Value) (PV : Nat → Value) (ls : Nat → List Nat), i ≤ n ∧ ii = .int .i64 i ∧ Hid (∀ r, r < i → SortI (K r) (L r) (ls r)) ∧ Hid (wr.heap[ob]? = some (.cells #[.int .i64 u.k, .int .i64 u.n, .string u.s, .int .i64 ya, tv] 32 (0, 0))) ∧ Hid (OTab wr b3 tv i PV L (sK K ls) (fX X ls f)) ∧ Hid (Only (fun k => k = ob) w3 wr)) (fun ii _ => n - (intOf ii).toNat)
    case atStart => exact ⟨0, _, fun _ => .nilIface, fun _ => [], Nat.zero_le _, rfl, fun r hr => absurd hr (Nat.not_lt_zero _), HO3, OTab.nil _ _ _ _ _ _, Only.refl _ _⟩
    case round =>
      obtain ⟨i, tv, PV, ls, hi, rfl, HLs, HOb, HOT, HON⟩ := hrel
      have HCr : Hid (CanW w wr u ta n cp) := H3.out.only HON.out (fun k hk => by have := HOB.out; omega)
      have HRr : Hid (wr.rowIs cg 3 n (fun i => .int .i64 (f i : Nat))) := HON.out.rowIs HC3.out (by have := HOB.out; omega)
      obtain ⟨sa, sc, rfl, hsk⟩ := owns_form HOT.out.own
      have hwr3 : Hid (b3 ≤ wr.heap.size) := show _ ≤ _ by have := HON.out.size; have := HOB.out; omega
      have HSK : Hid (∀ k, (Value.slice sa i sc).ownBlock = some k → b3 ≤ k ∧ k < wr.heap.size) := hsk
      have HNP : Hid (∀ j, j < i → ∀ g, (PV j).ownBlock = some g → g < wr.heap.size) := show ∀ j, _ from fun j hj g hg => by obtain ⟨_, _, _, h⟩ := owns_form (HOT.out.rows j hj); exact (h g hg).2
      clear hsk
      by_cases hlt : i < n
      · have hta := HT.out.top (by omega)
        subst hta
        have t0 := (HT.out.below HCr.out.bel).tab i hlt
        obtain ⟨pa, hpa⟩ : ∃ a, A i = a := ⟨_, rfl⟩
        obtain ⟨l, hl⟩ : ∃ a, L i = a := ⟨_, rfl⟩
        obtain ⟨pc, hpc⟩ : ∃ a, C i = a := ⟨_, rfl⟩
        rw [hpa, hl, hpc] at t0
        have HP : Hid (PairsAt w pa l (RB i) (RO i) (K i) (X i)) := by rw [← hpa, ← hl]; exact HT.out.row i hlt
        have hl100 : l ≤ 100 := by rw [← hl]; exact (HG.out.all i hlt).len
        have HGi : Hid (∀ c, c < l → isV n (X i c) = true) := show ∀ c, _ from fun c hc => good_of HG.out i hlt c (by rw [hl]; exact hc)
        have HZi : Hid (∀ c, c < l → (K i c).s.size ≤ 9223372036854775807) := show ∀ c, _ from fun c hc => by have := ((HS.out i hlt).2 c (by rw [hl]; exact hc)).1; omega
        obtain ⟨wt, hwt⟩ : ∃ wt, wt = wr.alloc (.cells #[.slice pa l pc] 61) := ⟨_, rfl⟩
        have hbt : Below wr.heap.size wr wt := by rw [hwt]; exact (Below.refl _ _).alloc (Nat.le_refl _) _
        have HBt : Hid (Below wr.heap.size wr wt) := hbt
        have HWS : Hid (wt.heap.size = wr.heap.size + 1) := by rw [hwt]; show (wr.alloc _).heap.size = wr.heap.size + 1; simp
        have hcall := l3sorted_any pa l pc (RB i) (RO i) (K i) (X i) wt (by omega) HZi (HP.out.below (grw HCr.out.bel hbt))
        clear hbt
        go_wp2_with fail
        rw [← hwt]
        refine hcall.mono ?_
        clear hcall hwt t0
        rintro e w5 ⟨⟨pa', pc', lr, rfl, hsr, hown⟩, hb5⟩
        have HSR : Hid (SortI (K i) l lr) := hsr
        obtain ⟨w6, hw6⟩ : ∃ w6, w6 = w5.alloc (.cells #[.slice pa' l pc'] 61) := ⟨_, rfl⟩
        have hb6 : Below w5.heap.size w5 w6 := by rw [hw6]; exact (Below.refl _ _).alloc (Nat.le_refl _) _
        have HBr6 : Hid (Below wr.heap.size wr w6) := grw HBt.out (grw hb5 hb6)
        have HX6 : Hid (w6.heap[w5.heap.size]? = some (.cells #[.slice pa' l pc'] 61 (0, 0))) := by rw [hw6]; exact heap_alloc_new _ _
        have HR6 : Hid (w6.ownsRow wr.heap.size 63 8 (.slice pa' l pc') l (pairCells (byI (K i) lr) (fTo f (byI (X i) lr) 0) l)) := by
          have e1 := owns_mono ((Only.below (P := fun _ => False) hb6).owns hown (fun _ _ _ h => h)) HBt.out.size
          rw [pairCells_congr (X' := fTo f (byI (X i) lr) 0) (fun j hj => ⟨rfl, by unfold fTo; rw [if_neg (Nat.not_lt_zero _)]⟩)] at e1
          exact e1
        obtain ⟨xb, hxb⟩ : ∃ xb, w5.heap.size = xb := ⟨_, rfl⟩
        rw [hxb] at HX6
        have HXb : Hid (wr.heap.size < xb ∧ xb < w6.heap.size) := ⟨by have h1 := HBt.out.size; have h2 := hb5.size; have h3 : wt.heap.size = wr.heap.size + 1 := HWS.out; omega, by rw [hw6]; simp; omega⟩
        have HXR : Hid ((Value.slice pa' l pc').ownBlock ≠ some xb) := show _ ≠ _ from fun e => by obtain ⟨_, _, _, h⟩ := owns_form hown; have := (h _ e).2; omega
        clear hown hsr hb5 hb6
        go_wp2
        rw [← hw6]
        try rw [hxb]
        clear hw6 hxb
        obtain ⟨wi, hwi⟩ : ∃ wi, wi = wr := ⟨_, rfl⟩
        rw [← hwi] at HCr HRr HOb HOT HON hwr3 HSK HNP HBt HBr6 HR6 HXb
        clear hwi
        go_loopw [43] (fun ii wq => ∃ k : Nat, k ≤ l ∧ ii = .int .i64 k ∧ Hid (wq.ownsRow wi.heap.size 63 8 (.slice pa' l pc') l (pairCells (byI (K i) lr) (fTo f (byI (X i) lr) k) l)) ∧ Hid (Only (fun k => (Value.slice pa' l pc').ownBlock = some k) w6 wq)) (fun ii _ => l - (intOf ii).toNat)
        case atStart => exact ⟨0, Nat.zero_le _, rfl, HR6, Only.refl _ _⟩
        case round =>
          obtain ⟨k, hk, rfl, HRq, HOq⟩ := hrel
          clear HR6
          have HXq : Hid (wr.heap[xb]? = some (.cells #[.slice pa' l pc'] 61 (0, 0))) := (HOq.out.block _ (blk_lt HX6.out) HXR.out).trans HX6.out
          obtain ⟨y0, y1⟩ := one_at HXq.out
          by_cases hlk : k < l
          · obtain ⟨g', cap', e', _⟩ := HRq.out.form (by omega)
            cases e'
            have hP := (owns_pairs HRq.out).2
            obtain ⟨_, ⟨v0, v1, v2, v3⟩⟩ := hP.cells (c := k) hlk
            obtain ⟨xc, HXC⟩ : ∃ xc, Hid (byI (X i) lr k = xc) := ⟨_, rfl⟩
            have ek : fTo f (byI (X i) lr) k k = xc := by unfold fTo; rw [if_neg (Nat.lt_irrefl _)]; exact HXC.out
            simp only [ek, Nat.zero_add, slB, slA] at v0 v1 v2 v3
            have hvx : isV n xc = true := by rw [← HXC.out]; exact HGi.out _ (HSR.out.lt hlk)
            have hbk : (0 : Int) ≤ (k : Int) ∧ (k : Int) < (l : Int) := by omega
            clear hP ek
            by_cases h4 : xc.k = 4
            · obtain ⟨a0, a1⟩ := isV_tab hvx h4
              obtain ⟨a, ha⟩ : ∃ a : Nat, xc.a = a := ⟨xc.a.toNat, by omega⟩
              have hcr : Hid (wr.rowIs cg 3 n (fun i => .int .i64 (f i : Nat))) := by
                have h1 := HRr.out.of_block (HBr6.out.block _ HRr.out.lt)
                exact HOq.out.rowIs h1 (fun e => by obtain ⟨_, _, _, h⟩ := owns_form HRq.out; have := (h _ e).1; have := HRr.out.lt; omega)
              have hc := hcr.out.cell (i := a) (by omega)
              have gz : ∀ j, wr.frozen? ⟨g', j, none⟩ = false := owns_frozen HRq.out
              have hk4 : (xc.k == 4) = true := by simp [h4]
              have hba : (0 : Int) ≤ (a : Int) ∧ (a : Int) < (n : Int) := by omega
              have HR7 : Hid ((wr.setCell ⟨g', k * 8 + 7, none⟩ (.int .i64 (f a : Nat))).ownsRow wi.heap.size 63 8 (.slice (some ⟨g', 0, none⟩) l pc') l (pairCells (byI (K i) lr) (fTo f (byI (X i) lr) (k + 1)) l)) := fTo_tab HRq.out hlk (by rw [HXC.out]; exact h4) (by rw [HXC.out, ha, Int.toNat_natCast])
              have HO7 : Hid (Only (fun k => (Value.slice (some ⟨g', 0, none⟩) l pc').ownBlock = some k) w6 (wr.setCell ⟨g', k * 8 + 7, none⟩ (.int .i64 (f a : Nat)))) := HOq.out.set (p := ⟨g', k * 8 + 7, none⟩) rfl _
              rw [ha] at v3
              obtain ⟨fa, hfa⟩ : ∃ fa, f a = fa := ⟨_, rfl⟩
              rw [hfa] at hc HR7 HO7
              clear h4 hvx a0 a1 ha hfa hcr HRq HOq
              go_wp2
              go_region
              go_wp2
              go_roundw
              case rel => exact ⟨k + 1, by omega, by go_num, HR7, HO7.out.thenBelow (Below.refl _ _).drew HO7.out.size⟩
              case measure => simp [intOf]; omega
            · have hk4 : (xc.k == 4) = false := by simp [h4]
              have HR7 : Hid (wr.ownsRow wi.heap.size 63 8 (.slice (some ⟨g', 0, none⟩) l pc') l (pairCells (byI (K i) lr) (fTo f (byI (X i) lr) (k + 1)) l)) := by
                show World.ownsRow _ _ _ _ _ _ _
                rw [fTo_ne (by rw [HXC.out]; exact h4)]
                exact HRq.out
              clear h4 hvx HRq
              go_wp2
              go_roundw
              case rel => exact ⟨k + 1, by omega, by go_num, HR7, HOq⟩
              case measure => simp [intOf]; omega
          · obtain rfl : k = l := by omega
            have HRk : Hid (wr.ownsRow b3 63 8 (.slice pa' k pc') k (pairCells (byI (K i) lr) (fun c => fstV f (byI (X i) lr c)) k)) := by
              have e1 := owns_mono HRq.out hwr3.out
              rw [pairCells_congr (K' := byI (K i) lr) (X' := fun c => fstV f (byI (X i) lr c)) (fun j hj => ⟨rfl, by unfold fTo; rw [if_pos hj]⟩)] at e1
              exact e1
            have HNr : Hid (∀ g, (Value.slice pa' k pc').ownBlock = some g → wi.heap.size ≤ g) := show ∀ g, _ from fun g hg => by obtain ⟨_, _, _, h⟩ := owns_form HRq.out; exact (h g hg).1
            have HOTk : Hid (OTab wr b3 (.slice sa i sc) i PV L (sK K ls) (fX X ls f)) := (HOT.out.below HBr6.out).onlyB HOq.out (fun g hg e => by have := HNr.out g e; have := (HSK.out g hg).2; omega) (fun j hj g hg e => by have := HNr.out g e; have := HNP.out j hj g hg; omega)
            have HObk : Hid (wr.heap[ob]? = some (.cells #[.int .i64 u.k, .int .i64 u.n, .string u.s, .int .i64 ya, .slice sa i sc] 32 (0, 0))) := by
              have h1 := (HBr6.out.block _ (blk_lt HOb.out)).trans HOb.out
              exact (HOq.out.block _ (blk_lt h1) (fun e => by have := HNr.out _ e; have := blk_lt HOb.out; omega)).trans h1
            have HONk : Hid (Only (fun k => k = ob) w3 wr) := (HON.out.trans (Only.below HBr6.out)).thenBelow (base := wi.heap.size) (HOq.out.toBelow (fun k hk => HNr.out k hk) HBr6.out.size) HON.out.size
            have hsk3 : b3 ≤ wr.heap.size := by have h1 := HONk.out.size; have := HOB.out; omega
            have hi200 : i ≤ 200 := by have := HG.out.len; omega
            obtain ⟨o0, o1, o2, o3, o4, oz⟩ := cells5 HObk.out
            have hol : ob < wr.heap.size := blk_lt HObk.out
            clear HOT HOb HON HRq HOq HBr6
            go_wp2_with (at_builtin; refine wpList_append_lies _ (by rfl) (.tmp 72) (.tmp 74) 30 (by rfl) b3 61 it (.agg #[.slice none 0 0]) 1 24 Try.underlying30 hti ht0 ht1 ht2 (by rfl) (by omega) (.slice sa i sc) i ((List.range i).map PV) (by rfl) (HOTk.out.own.alloc _) ⟨wr.heap.size, 0, none⟩ 1 1 [.slice pa' k pc'] (by rfl) (by rfl) ?c1 ?c2 (by omega) ?c3 ?c4 ?c5 (wr.heap.size + 1) ?c6 ?_)
            case c1 => exact World.news_of_block (heap_alloc_new wr _)
            case c2 => intro v hv; simp at hv; subst hv; rfl
            case c3 => unfold maxLen; omega
            case c4 => omega
            case c5 => simp; omega
            case c6 => simp
            intro g cap w7 hown7 hgrow7 hat7 hlt7
            obtain ⟨hT7, hB7⟩ := HOTk.out.more HRk.out (fun j hj g hg e => by have := HNr.out g e; have := HNP.out j hj g hg; omega) _ hsk3 hown7 hgrow7
            have HT7 : Hid (OTab w7 b3 (.slice (some ⟨g, 0, none⟩) (i + 1) cap) (i + 1) (fun j => if j = i then .slice pa' k pc' else PV j) L (sK K (fun j => if j = i then lr else ls j)) (fX X (fun j => if j = i then lr else ls j) f)) := hT7.congr (fun j hj => by
                by_cases e : j = i
                · subst e; simp only [if_true]; exact hl.symm
                · simp only [e, if_false]) (fun j hj c' hc' => by
                unfold fX sK
                by_cases e : j = i
                · subst e; simp only [if_true]; exact ⟨trivial, trivial⟩
                · simp only [e, if_false]; exact ⟨trivial, trivial⟩)
            have HOb7 : Hid (w7.heap[ob]? = some (.cells #[.int .i64 u.k, .int .i64 u.n, .string u.s, .int .i64 ya, .slice sa i sc] 32 (0, 0))) := (hB7.block _ (by have := HOB.out; omega)).trans HObk.out
            have HON7 : Hid (Only (fun k => k = ob) w3 w7) := HONk.out.thenBelow hB7 (by have := HOB.out; omega)
            have HLs' : Hid (∀ r, r < i + 1 → SortI (K r) (L r) ((fun j => if j = i then lr else ls j) r)) := show ∀ r, _ from fun r hr => by
              by_cases e : r = i
              · subst e; simp only [if_true]; rw [hl]; exact HSR.out
              · simp only [e, if_false]; exact HLs.out r (by omega)
            obtain ⟨q0, q1, q2, q3, q4, qz⟩ := cells5 HOb7.out
            have HO8 : Hid ((w7.setCell ⟨ob, 4, none⟩ (.slice (some ⟨g, 0, none⟩) (i + 1) cap)).heap[ob]? = some (.cells #[.int .i64 u.k, .int .i64 u.n, .string u.s, .int .i64 ya, .slice (some ⟨g, 0, none⟩) (i + 1) cap] 32 (0, 0))) := put5hi HOb7.out _
            have HT8 : Hid (OTab (w7.setCell ⟨ob, 4, none⟩ (.slice (some ⟨g, 0, none⟩) (i + 1) cap)) b3 (.slice (some ⟨g, 0, none⟩) (i + 1) cap) (i + 1) (fun j => if j = i then .slice pa' k pc' else PV j) L (sK K (fun j => if j = i then lr else ls j)) (fX X (fun j => if j = i then lr else ls j) f)) := HT7.out.only ((Only.refl (fun k => k = ob) _).set (p := ⟨ob, 4, none⟩) rfl _) (fun k hk e => by have := HOB.out; omega)
            have HON8 : Hid (Only (fun k => k = ob) w3 (w7.setCell ⟨ob, 4, none⟩ (.slice (some ⟨g, 0, none⟩) (i + 1) cap))) := HON7.out.set (p := ⟨ob, 4, none⟩) rfl _
            clear hT7 hB7 hown7 hgrow7 hat7 hlt7 HOTk HObk HONk HRk HT7 HOb7 HON7 o0 o1 o2 o3 o4
            go_wp2
            go_roundw
            case rel => exact ⟨i + 1, _, _, _, by omega, by go_num, HLs', HO8, HT8, HON8⟩
            case measure => simp [intOf]; omega
      · obtain rfl : i = n := by omega
        obtain ⟨o0, o1, o2, o3, o4, _⟩ := cells5 HOb.out
        have hTt := HOT.out.tabs
        have hls : ∀ r, r < i → ls r = ls0 r := fun r hr => SortI.one (HG.out.all r hr) (HLs.out r hr) (HCS.out.1 r hr)
        have hOk := okG_shr HG.out HLs.out HCS.out.2.low
        have HCS' : Hid ((∀ r, r < i → SortI (K r) (L r) (ls r)) ∧ IsCls i L (sK K ls) (sK X ls) f) := ⟨HLs.out, HCS.out.2.agree (fun _ _ => rfl) (fun j hj => by unfold sK; rw [hls j hj]) (fun j hj => by unfold sK; rw [hls j hj])⟩
        obtain ⟨S, HSo⟩ : ∃ S, Hid (order i (fstV f u) L (fX X ls f) = S) := ⟨_, rfl⟩
        have hcan := l2canon_any (fstV f u) sa i sc _ 0 _ L _ _ _ (sK K ls) (fX X ls f) wr hOk hTt.2 S HSo
        rw [HSH.out] at hcan
        have HOk : Hid (OkG i (fstV f u) L (sK K ls) (fX X ls f)) := hOk
        obtain ⟨ru, HRU⟩ : ∃ ru, Hid (renum S (⟨u.k, u.n, u.s, ya⟩ : V) = ru) := ⟨_, rfl⟩
        rw [HRU.out] at hcan
        have hs1 : w.heap.size + 1 < wr.heap.size := blk_lt HCr.out.res
        clear hTt hOk hls
        go_wp2_with fail
        refine hcan.mono ?_
        clear hcan o0 o1 o2 o3 o4
        rintro e w8 ⟨⟨tv, PV8, base, hbase, rfl, hT⟩, hb8⟩
        have H8 : Hid (CanW w w8 u ta i cp) := HCr.out.below hb8
        have HO : Hid (OTab w8 base tv S.length PV8 (cL S L) (cK S (sK K ls)) (cX S (fX X ls f))) := hT
        clear hb8 hT
        obtain ⟨ta', tc', rfl, _⟩ := owns_form HO.out.own
        obtain ⟨r0, r1, r2, r3, r4, r5⟩ := cells5 H8.out.res
        simp only [zeroV] at r0 r1 r2 r3
        go_wp2
        have F := put5hi (put5lo H8.out.res (.int .i64 ru.k) (.int .i64 ru.n) (.string ru.s) (.int .i64 ru.a)) (.slice ta' S.length tc')
        obtain ⟨wf, hwf⟩ : ∃ wf, wf = ((((w8.setCell ⟨w.heap.size + 1, 0, none⟩ (.int .i64 ru.k)).setCell ⟨w.heap.size + 1, 1, none⟩ (.int .i64 ru.n)).setCell ⟨w.heap.size + 1, 2, none⟩ (.string ru.s)).setCell ⟨w.heap.size + 1, 3, none⟩ (.int .i64 ru.a)).setCell ⟨w.heap.size + 1, 4, none⟩ (.slice ta' S.length tc') := ⟨_, rfl⟩
        have ho : Only (fun k => k = w.heap.size + 1) w8 wf := by rw [hwf]; exact set4_only.set (p := ⟨w.heap.size + 1, 4, none⟩) rfl _
        rw [← hwf] at F ⊢
        clear hwf
        obtain ⟨q0, q1, q2, q3, q4, _⟩ := cells5 F
        refine bodyPost_ret (v := .agg #[.int .i64 ru.k, .int .i64 ru.n, .string ru.s, .int .i64 ru.a, .slice ta' S.length tc']) (by simp [results, Try.results37, go_sem, q0, q1, q2, q3, q4]) rfl ⟨Or.inl ⟨HG.out, f, ls, HCS'.out, Or.inl ⟨HOk.out, ?_⟩⟩, H8.out.bel.trans (ho.toBelow (fun k hk => by omega) (by have := H8.out.bel.size; omega))⟩
        rw [HSo.out, HSH.out, HRU.out]
        exact ⟨_, PV8, base, by omega, rfl, HO.out.only ho (fun k hk e => by omega)⟩

end Go.Proofs.Ytcomcgjilhcimab

namespace Go.Proofs.Ytcomcgjilhcimab
open Go.RowKit Vl

/-- What is there when the value at a key is put anew. -/
def putG {α : Type} (eqb : α → α → Bool) (v : α) (x : Value) : List (α × Value) → List (α × Value)
  | [] => []
  | (k, y) :: l => if eqb v k = true then (k, x) :: l else (k, y) :: putG eqb v x l

theorem find_gat {α : Type} {mt kt et : TypeId} {enc : α → Value} {ok : World → α → Prop} {eqb : α → α → Bool} {z : Value} (hK : Keyed mt kt et enc ok eqb z) (v : α) (w : World) (hv : ok w v) : ∀ (es : List MapEntry) (l : List (α × Value)) (i : Nat), (∀ p ∈ l, ok w p.1) → es.map (fun e => (e.key, e.val)) = l.map (fun p => (enc p.1, p.2)) →
    ∀ y, findG eqb v l = some y → ∃ j k, (Instr.findAsking kt (enc v) es i).run Try.prog w = .ok (some (i + j, y)) w ∧ l[j]? = some (k, y) ∧ eqb v k = true ∧ ∀ x, putG eqb v x l = l.set j (k, x)
  | [], [], i, _, _ => fun y h => by cases h
  | [], _ :: _, i, _, h => by simp at h
  | _ :: _, [], i, _, h => by simp at h
  | e :: es, (k, x) :: l, i, hl, h => by
    simp only [List.map_cons, List.cons.injEq, Prod.mk.injEq] at h
    obtain ⟨⟨h1, h2⟩, h3⟩ := h
    have ih := find_gat hK v w hv es l (i + 1) (fun p hp => hl p (List.mem_cons_of_mem _ hp)) h3
    have e1 : (Instr.findAsking kt (enc v) (e :: es) i).run Try.prog w = if eqb v k = true then .ok (some (i, e.val)) w else (Instr.findAsking kt (enc v) es (i + 1)).run Try.prog w := by
      conv => lhs; unfold Instr.findAsking
      rw [Sem.run_bind, h1, hK.eq _ _ _ hv (hl (k, x) (by simp))]
      simp only [Result.andThen_ok]
      cases eqb v k <;> simp
    rw [e1]
    unfold findG
    by_cases he : eqb v k = true
    · rw [if_pos he, if_pos he, h2]
      intro y hy
      cases hy
      exact ⟨0, k, rfl, rfl, he, fun x' => by unfold putG; rw [if_pos he]; rfl⟩
    · rw [if_neg he, if_neg he]
      intro y hy
      obtain ⟨j, k', a1, a2, a3, a4⟩ := ih y hy
      exact ⟨j + 1, k', by rw [a1, show i + 1 + j = i + (j + 1) by omega], by simpa using a2, a3, fun x' => by unfold putG; rw [if_neg he, a4 x']; rfl⟩

theorem findKey_gat {α : Type} {mt kt et : TypeId} {enc : α → Value} {ok : World → α → Prop} {eqb : α → α → Bool} {z : Value} (hK : Keyed mt kt et enc ok eqb z) (v : α) (w : World) (hv : ok w v) (es : List MapEntry) (l : List (α × Value)) (hl : ∀ p ∈ l, ok w p.1) (h : es.map (fun e => (e.key, e.val)) = l.map (fun p => (enc p.1, p.2))) :
    ∀ y, findG eqb v l = some y → ∃ j k, (Instr.findKey kt (enc v) es).run Try.prog w = .ok (some (j, y)) w ∧ l[j]? = some (k, y) ∧ eqb v k = true ∧ ∀ x, putG eqb v x l = l.set j (k, x) := by
  have hf := find_gat hK v w hv es l 0 hl h
  obtain ⟨d, hd, hn⟩ := hK.now
  have e1 : (Instr.findKey kt (enc v) es).run Try.prog w = (Instr.findAsking kt (enc v) es 0).run Try.prog w := by
    unfold Instr.findKey
    rw [Sem.run_bind, run_underlying hd]
    simp only [Result.andThen_ok]
    cases es with
    | nil => rfl
    | cons e es =>
      cases l with
      | nil => simp at h
      | cons p l =>
        simp only [List.map_cons, List.cons.injEq, Prod.mk.injEq] at h
        have : Instr.findNow d (enc v) (e :: es) 0 = none := by
          unfold Instr.findNow
          rw [h.1.1, hn]
        rw [this]
  rw [e1]
  intro y hy
  obtain ⟨j, k, a1, a2⟩ := hf y hy
  rw [Nat.zero_add] at a1
  exact ⟨j, k, a1, a2⟩

/-- The value at a key that is there is put anew. -/
theorem MapG.replace {α : Type} {mt kt et : TypeId} {enc : α → Value} {ok : World → α → Prop} {eqb : α → α → Bool} {z : Value} (hK : Keyed mt kt et enc ok eqb z) {w : World} {M : Nat} {l : List (α × Value)} (h : MapG enc w M l) (v : α) (y x : Value) (hv : ok w v) (hok : ∀ p ∈ l, ok w p.1) (hf : findG eqb v l = some y) (heq : ∀ k, eqb v k = true → enc k = enc v) (hsb : Instr.sameBits 10000 (enc v) (enc v) = true) :
    ∃ w', (Instr.mapUpdate mt (.map (some M)) (enc v) x).run Try.prog w = .ok () w' ∧ MapG enc w' M (putG eqb v x l) ∧ Only (fun k => k = M) w w' ∧ w'.heap.size = w.heap.size := by
  obtain ⟨es, clk, hb, hl⟩ := h
  obtain ⟨j, k, a1, a2, a3, a4⟩ := findKey_gat hK v w hv es.toList l hok hl y hf
  have hkey : (es[j]?).map (fun e => (e.key, e.val)) = some (enc v, y) := by
    have := congrArg (fun l => l[j]?) hl
    simp only [List.getElem?_map, a2, Option.map_some, Array.getElem?_toList] at this
    rw [this, heq k a3]
  obtain ⟨en, hen, hek⟩ : ∃ en, es[j]? = some en ∧ en.key = enc v := by
    cases h : es[j]? with
    | none => rw [h] at hkey; cases hkey
    | some en => rw [h] at hkey; simp at hkey; exact ⟨en, rfl, hkey.1⟩
  refine ⟨{ w with heap := w.heap.setIfInBounds M (.map (es.modify j fun e => { e with key := enc v, val := x }) clk) }, ?_, ?_, ?_, by simp⟩
  · simp [Instr.mapUpdate, run_underlying hK.und, MapKept.run_getObj_map hb, hK.chk, a1, Result.andThen, hen, hek, Instr.keyThatStays, hsb, MapKept.run_setObj_map _ hb]
  · refine ⟨_, _, by rw [Array.getElem?_setIfInBounds_self_of_lt (blk_lt hb)], ?_⟩
    rw [a4 x]
    apply List.ext_getElem?
    intro m
    have hm := congrArg (fun l => l[m]?) hl
    simp only [List.getElem?_map, Array.getElem?_toList] at hm
    simp only [List.getElem?_map, Array.getElem?_toList, Array.getElem?_modify, List.getElem?_set]
    by_cases e : j = m
    · subst e
      have hlt : j < l.length := (List.getElem?_eq_some_iff.1 a2).1
      simp [hen, hlt, heq k a3]
    · simp only [e, if_false]
      exact hm
  · refine ⟨rfl, rfl, rfl, by simp, fun k _ hk => ?_⟩
    show (w.heap.setIfInBounds M _)[k]? = w.heap[k]?
    rw [Array.getElem?_setIfInBounds_ne (fun e => hk e.symm)]

theorem findG_put {α : Type} {eqb : α → α → Bool} (hE : ∀ a b, eqb a b = true ↔ a = b) (v : α) (x : Value) : ∀ (l : List (α × Value)) (y : Value), findG eqb v l = some y → findG eqb v (putG eqb v x l) = some x
  | [], y, h => by cases h
  | (k, z) :: l, y, h => by
    unfold findG at h
    by_cases he : eqb v k = true
    · unfold putG
      rw [if_pos he]
      unfold findG
      rw [if_pos he]
    · rw [if_neg he] at h
      unfold putG
      rw [if_neg he]
      unfold findG
      rw [if_neg he]
      exact findG_put hE v x l y h
theorem findG_put_ne {α : Type} {eqb : α → α → Bool} (hE : ∀ a b, eqb a b = true ↔ a = b) {u v : α} (hne : u ≠ v) (x : Value) : ∀ (l : List (α × Value)), findG eqb u (putG eqb v x l) = findG eqb u l
  | [] => rfl
  | (k, z) :: l => by
    unfold putG
    by_cases he : eqb v k = true
    · have hk := (hE v k).1 he
      subst hk
      have hu : ¬ eqb u v = true := fun h => hne ((hE u v).1 h)
      rw [if_pos he]
      unfold findG
      rw [if_neg hu, if_neg hu]
    · rw [if_neg he]
      unfold findG
      rw [findG_put_ne hE hne x l]
theorem putG_keys {α : Type} {eqb : α → α → Bool} (v : α) (x : Value) : ∀ (l : List (α × Value)), (putG eqb v x l).map (·.1) = l.map (·.1)
  | [] => rfl
  | (k, z) :: l => by
    unfold putG
    by_cases he : eqb v k = true
    · rw [if_pos he]; rfl
    · rw [if_neg he]
      simp only [List.map_cons]
      rw [putG_keys v x l]

theorem findG_eq (v : V) : ∀ l, findG eqV v l = findV v l
  | [] => rfl
  | (k, x) :: l => by unfold findG findV; rw [findG_eq v l]

theorem val_keyed : Keyed 93 29 67 vAgg (fun _ _ => True) eqV .nilIface :=
  ⟨Try.underlying93, fun u v w _ _ => equal_val u v w, check_val, ⟨_, Try.underlying29, fun _ _ => rfl⟩, fun w => by kernel_rfl⟩

theorem same_val (v : V) : Instr.sameBits 10000 (vAgg v) (vAgg v) = true := by
  have e : ∀ b : ByteArray, (b == b) = true := fun b => by
    cases b with
    | mk d => first | (show (d == d) = true; simp) | simp [BEq.beq] | rfl
  simp [Instr.sameBits, e]

theorem MapIs.replace {w : World} {M : Nat} {l : List (V × Value)} (h : MapIs w M l) (v : V) (y x : Value) (hf : findV v l = some y) :
    ∃ w' l', (Instr.mapUpdate 93 (.map (some M)) (vAgg v) x).run Try.prog w = .ok () w' ∧ MapIs w' M l' ∧ findV v l' = some x ∧ (∀ u, u ≠ v → findV u l' = findV u l) ∧ Only (fun k => k = M) w w' ∧ w'.heap.size = w.heap.size := by
  obtain ⟨w', h1, h2, h3, h4⟩ := MapG.replace val_keyed (show MapG vAgg w M l from h) v y x trivial (fun _ _ => trivial) (by rw [findG_eq]; exact hf) (fun k hk => by rw [eqV_iff.1 hk]) (same_val v)
  exact ⟨w', _, h1, h2, by rw [← findG_eq]; exact findG_put (fun a b => eqV_iff) v x l y (by rw [findG_eq]; exact hf), fun u hu => by rw [← findG_eq, ← findG_eq]; exact findG_put_ne (fun a b => eqV_iff) hu x l, h3, h4⟩

end Go.Proofs.Ytcomcgjilhcimab
