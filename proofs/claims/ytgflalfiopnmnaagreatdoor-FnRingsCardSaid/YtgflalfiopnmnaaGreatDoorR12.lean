import Derived.Test.YtgflalfiopnmnaaGreatDoorR3
import Derived.Test.YtgflalfiopnmnaaGreatDoorR11
import Derived.Test.YtgflalfiopnmnaaGreatDoorR10
import Derived.Test.YtgflalfiopnmnaaGreatDoorRgDef
import Derived.Test.YtgflalfiopnmnaaGreatDoorR1
namespace Go.Proofs.YtgflalfiopnmnaaGreatDoor
open Go.RowKit Vl

open Classical in
/-- The canonical graph, or the empty one. -/
noncomputable def cnN (n : Nat) (u : V) (L : Nat → Nat) (K X : Nat → Nat → V) : Nat := if OkG n u L K X then (order n u L X).length else 0
open Classical in
noncomputable def cnU (n : Nat) (u : V) (L : Nat → Nat) (K X : Nat → Nat → V) : V := if OkG n u L K X then renum (order n u L X) u else zeroV

theorem CanonIs.all {w w' : World} {e : Ending} {n : Nat} {u : V} {L : Nat → Nat} {K X : Nat → Nat → V} (h : CanonIs w w' e n u L K X) : ∃ (tv : Value) (PV : Nat → Value) (base : Nat), w.heap.size ≤ base ∧ e = .returned (.agg #[.int .i64 (cnU n u L K X).k, .int .i64 (cnU n u L K X).n, .string (cnU n u L K X).s, .int .i64 (cnU n u L K X).a, tv]) ∧ OTab w' base tv (cnN n u L K X) PV (cL (order n u L X) L) (cK (order n u L X) K) (cX (order n u L X) X) := by
  unfold cnU cnN
  rcases h with ⟨hG, tv, PV, base, h1, h2, h3⟩ | ⟨hN, h2⟩
  · rw [if_pos hG, if_pos hG]
    exact ⟨tv, PV, base, h1, h2, h3⟩
  · rw [if_neg hN, if_neg hN]
    exact ⟨.slice none 0 0, fun _ => .nilIface, w.heap.size, Nat.le_refl _, h2, OTab.nil _ _ _ _ _ _⟩

theorem renum_s (S : List Nat) (v : V) : (renum S v).s = v.s := by
  unfold renum
  split <;> rfl
theorem small_can {n : Nat} {u : V} {L : Nat → Nat} {K X : Nat → Nat → V} (h : Small 1048576 n L K X) : cnN n u L K X ≤ 1048576 ∧ Small 1048576 (cnN n u L K X) (cL (order n u L X) L) (cK (order n u L X) K) (cX (order n u L X) X) := by
  unfold cnN
  by_cases hG : OkG n u L K X
  · rw [if_pos hG]
    have hf := (order_all hG).1
    refine ⟨by have := hf.len; have := hG.len; omega, fun r hr => ?_⟩
    have hm : (order n u L X).getD r 0 < n := by
      rw [List.getD_eq_getElem?_getD, List.getElem?_eq_getElem hr]
      exact hf.lt _ (List.getElem_mem hr)
    obtain ⟨h1, h2⟩ := h _ hm
    exact ⟨h1, fun c hc => ⟨(h2 c hc).1, by unfold cX; rw [renum_s]; exact (h2 c hc).2⟩⟩
  · rw [if_neg hG]
    exact ⟨by omega, fun r hr => by omega⟩

/-- Whatever stands in a row. -/
theorem rowIs_any {w : World} {b t : Nat} {cur : Array Value} (h : w.heap[b]? = some (.cells cur t (0, 0))) : w.rowIs b t cur.size (fun i => (cur[i]?).getD .nilIface) :=
  ⟨cur, h, rfl, fun i hi => by simp [hi]⟩

/-- Tables that a call made may be marked. -/
theorem OTab.marks {w : World} {base : Nat} {tv : Value} {i : Nat} {PV : Nat → Value} {L : Nat → Nat} {K X : Nat → Nat → V} (h : OTab w base tv i PV L K X) :
    ∃ (cap : Nat → Nat) (f : Nat → Nat → Value), MTabs w (slA tv) i (slB tv) (fun j => slA (PV j)) L (fun j => slC (PV j)) (fun j => slB (PV j)) cap f ∧ ∀ j, j < i → 0 < L j → base ≤ slB (PV j) := by
  have each : ∀ j, ∃ (c : Nat) (f : Nat → Value), j < i → 0 < L j → slA (PV j) = some ⟨slB (PV j), 0, none⟩ ∧ w.rowIs (slB (PV j)) 39 c f ∧ L j * 8 ≤ c ∧ base ≤ slB (PV j) ∧ (PV j).ownBlock = some (slB (PV j)) := by
    intro j
    by_cases hj : j < i ∧ 0 < L j
    · rcases (h.rows j hj.1).2 with ⟨_, h0⟩ | ⟨g, cap, cur, hv, hge, hh, hl, _, hs, _⟩
      · omega
      · refine ⟨cur.size, (fun i => (cur[i]?).getD .nilIface), fun _ _ => ?_⟩
        have e1 : slB (PV j) = g := by rw [hv]; rfl
        rw [e1]
        refine ⟨by rw [hv]; rfl, rowIs_any hh, ?_, hge, by rw [hv]; rfl⟩
        rw [hs]
        exact Nat.mul_le_mul_right 8 hl
    · exact ⟨0, fun _ => .nilIface, fun a b => absurd ⟨a, b⟩ hj⟩
  refine ⟨fun j => (each j).choose, fun j => (each j).choose_spec.choose, ⟨fun h0 => ?_, fun r hr => ?_, fun r hr h0 => ((each r).choose_spec.choose_spec hr h0).1, fun r hr h0 => ((each r).choose_spec.choose_spec hr h0).2.1, fun r hr h0 => ((each r).choose_spec.choose_spec hr h0).2.2.1, fun r hr h0 e => ?_, fun r s hrs hs h0 h1 e => ?_⟩, fun j hj h0 => ((each j).choose_spec.choose_spec hj h0).2.2.2.1⟩
  · have := h.tabs.2.top h0
    exact this
  · have := h.tabs.2.tab r hr
    rw [Nat.zero_add] at this
    exact this
  · obtain ⟨c, hc, _⟩ := ((each r).choose_spec.choose_spec hr h0).2.1
    rcases h.own.2 with ⟨_, hn⟩ | ⟨g, cap, cur, hv, _, hh, _⟩
    · omega
    · have e1 : slB tv = g := by rw [hv]; rfl
      rw [e, e1, hh] at hc
      cases hc
  · have h2 := ((each r).choose_spec.choose_spec (by omega) h0).2.2.2.2
    have h3 := ((each s).choose_spec.choose_spec hs h1).2.2.2.2
    rw [← e] at h3
    exact h.dis r s hrs hs _ h2 h3

/-- A copy may be marked. -/
theorem Copied.marks {w0 w : World} {n : Nat} {G L : Nat → Nat} {K X : Nat → Nat → V} {B : Nat} (h : Copied w0 w n G L K X) (hB : w0.heap.size = B) (hr : w.rowIs B 37 n (fun i => .slice (some ⟨G i, 0, none⟩) (L i) (L i))) :
    ∃ f : Nat → Nat → Value, MTabs w (some ⟨B, 0, none⟩) n B (fun r => some ⟨G r, 0, none⟩) L L G (fun r => L r * 8) f := by
  have each : ∀ r, ∃ f, r < n → w.rowIs (G r) 39 (L r * 8) f := fun r => by
    by_cases hr : r < n
    · obtain ⟨f, hf⟩ := h.blk r hr
      exact ⟨f, fun _ => hf⟩
    · exact ⟨fun _ => .nilIface, fun x => absurd x hr⟩
  exact ⟨fun r => (each r).choose, fun _ => rfl, fun r hr' => hr.cell hr', fun r _ _ => rfl, fun r hr' _ => (each r).choose_spec hr', fun r _ _ => Nat.le_refl _, fun r hr' _ e => by have := (h.new r hr').1; omega, fun r s hrs hs _ _ e => by have := h.inc r s hrs hs; omega⟩

/-- What was marked is held. -/
theorem MTabs.held {w w' : World} {ta : Option Addr} {n TB k : Nat} {A : Nat → Option Addr} {L C RB cap : Nat → Nat} {f : Nat → Nat → Value} (h : MTabs w ta n TB A L C RB cap f) (hm : ∀ r, r < n → 0 < L r → Mk w' (RB r) (cap r) (koff k L r) (L r * 8) (f r)) (ho : Only (fun x => ∃ j, j < n ∧ x = RB j ∧ 0 < L j) w w') : HTabs w' ta n TB k A L C RB := by
  refine ⟨h.top, fun r hr => ho.cell (h.tab r hr) (fun ⟨j, hj, e, h0⟩ => h.ne j hj h0 e.symm), h.adr, fun r hr h0 i hi => ?_⟩
  have := (show World.rowIs _ _ _ _ _ from hm r hr h0).cell (Nat.lt_of_lt_of_le hi (h.fit r hr h0))
  rw [if_pos hi] at this
  exact this

end Go.Proofs.YtgflalfiopnmnaaGreatDoor

namespace Go.Proofs.YtgflalfiopnmnaaGreatDoor
open Go.RowKit Vl
open Go.ChangeShapes Go.WideShapes Go.ChangeAt Go.Joins

/-- A call's answer is a graph in memory of its own. -/
def GrRes (w w' : World) (e : Ending) (N : Nat) (U : V) (L : Nat → Nat) (K X : Nat → Nat → V) : Prop :=
  ∃ (ta : Option Addr) (tc : Nat) (PV : Nat → Value) (base : Nat), w.heap.size ≤ base ∧ e = .returned (.agg #[.int .i64 U.k, .int .i64 U.n, .string U.s, .int .i64 U.a, .slice ta N tc]) ∧ OTab w' base (.slice ta N tc) N PV L K X

theorem CanonIs.res {w w' : World} {e : Ending} {n : Nat} {u : V} {L : Nat → Nat} {K X : Nat → Nat → V} (h : CanonIs w w' e n u L K X) : GrRes w w' e (cnN n u L K X) (cnU n u L K X) (cL (order n u L X) L) (cK (order n u L X) K) (cX (order n u L X) X) := by
  obtain ⟨tv, PV, base, h1, h2, h3⟩ := h.all
  obtain ⟨ta, tc, rfl, _⟩ := owns_form h3.own
  exact ⟨ta, tc, PV, base, h1, h2, h3⟩

end Go.Proofs.YtgflalfiopnmnaaGreatDoor

namespace Go.Proofs.YtgflalfiopnmnaaGreatDoor
open Go.RowKit Vl

/-- The values of the sorted tables, of each class of tables the first. -/
def fX (X : Nat → Nat → V) (ls : Nat → List Nat) (f : Nat → Nat) (r c : Nat) : V := fstV f (sK X ls r c)

theorem SortI.ne {K : Nat → V} {L : Nat} {ls : List Nat} (h : SortI K L ls) {i j : Nat} (hi : i < j) (hj : j < L) : ls.getD i 0 ≠ ls.getD j 0 := by
  have hn : ls.Nodup := h.perm.nodup_iff.2 List.nodup_range
  have hl := h.len
  simp only [List.getD_eq_getElem?_getD]
  rw [List.getElem?_eq_getElem (by omega), List.getElem?_eq_getElem (by omega)]
  simp only [Option.getD_some]
  exact List.pairwise_iff_getElem.1 hn i j (by omega) (by omega) hi
theorem Vl.OkT.once {n L : Nat} {K X : Nat → V} (h : OkT n L K X) {a b : Nat} (ha : a < L) (hb : b < L) (hne : a ≠ b) : K a ≠ K b := fun e => by
  rcases Nat.lt_or_gt_of_ne hne with h' | h'
  · have := (h.all b hb).once a h'
    rw [eqV_iff.2 e] at this
    cases this
  · have := (h.all a ha).once b h'
    rw [eqV_iff.2 e.symm] at this
    cases this

/-- What is shrunk is well made. -/
theorem okG_shr {n : Nat} {u : V} {L : Nat → Nat} {K X : Nat → Nat → V} {ls : Nat → List Nat} {f : Nat → Nat} (hok : OkG n u L K X) (hs : ∀ r, r < n → SortI (K r) (L r) (ls r)) (hf : ∀ i, i < n → f i ≤ i) : OkG n (fstV f u) L (sK K ls) (fX X ls f) := by
  refine ⟨hok.len, fstV_isV hf hok.root, fun r hr => ⟨(hok.all r hr).len, fun c hc => ?_⟩⟩
  have hl := (hs r hr).lt hc
  have hp := (hok.all r hr).all _ hl
  refine ⟨hp.key, fstV_isV hf hp.val, ?_, fun j hj => ?_⟩
  · show (fstV f _).k ≠ 0
    rw [fstV_k]
    exact hp.some
  · have := (hok.all r hr).once ((hs r hr).lt (show j < L r by omega)) hl ((hs r hr).ne hj hc)
    show eqV (K r ((ls r).getD j 0)) (K r ((ls r).getD c 0)) = false
    cases h : eqV (K r ((ls r).getD j 0)) (K r ((ls r).getD c 0))
    · rfl
    · exact absurd (eqV_iff.1 h) this

theorem met_same {n : Nat} {L : Nat → Nat} {X X' : Nat → Nat → V} (hg : Good n L X) (he : ∀ r, r < n → ∀ c, c < L r → X r c = X' r c) : ∀ (f : Nat) (S : List Nat) (v : V), isV n v = true → met L X f S v = met L X' f S v
  | 0, S, v, _ => rfl
  | f + 1, S, v, hv => by
    by_cases h : v.k = 4 ∧ v.a.toNat ∉ S
    · obtain ⟨a0, a1⟩ := isV_tab hv h.1
      have hr : v.a.toNat < n := by omega
      rw [met_new h.1 h.2, met_new h.1 h.2]
      have key : ∀ c T, c ≤ L v.a.toNat → mets L X f T (X v.a.toNat) c = mets L X' f T (X' v.a.toNat) c := by
        intro c
        induction c with
        | zero => intro T _; rfl
        | succ c ih =>
          intro T hc
          rw [mets_succ, mets_succ, ih T (by omega), ← he _ hr c (by omega)]
          exact met_same hg he f _ _ (hg _ hr c (by omega))
      exact key _ _ (Nat.le_refl _)
    · have h' : v.k ≠ 4 ∨ v.a.toNat ∈ S := by
        by_cases h4 : v.k = 4
        · exact Or.inr (Classical.byContradiction fun hn => h ⟨h4, hn⟩)
        · exact Or.inl h4
      rw [met_old h', met_old h']

theorem CanonIs.agree {w w' : World} {e : Ending} {n : Nat} {u : V} {L : Nat → Nat} {K X K' X' : Nat → Nat → V} (h : CanonIs w w' e n u L K X) (hok : OkG n u L K X) (hok' : OkG n u L K' X') (hK : ∀ r, r < n → K r = K' r) (hX : ∀ r, r < n → ∀ c, c < L r → X r c = X' r c) : CanonIs w w' e n u L K' X' := by
  have eo : order n u L X' = order n u L X := (met_same (good_of hok) hX (n + 1) [] u hok.root).symm
  rcases h with ⟨_, tv, PV, base, h1, h2, h3⟩ | ⟨hno, _⟩
  · refine Or.inl ⟨hok', tv, PV, base, h1, ?_, ?_⟩
    · rw [eo]; exact h2
    · rw [eo]
      have hlt : ∀ j, j < (order n u L X).length → (order n u L X).getD j 0 < n := fun j hj => by
        rw [List.getD_eq_getElem?_getD, List.getElem?_eq_getElem hj]
        exact (order_all hok).1.lt _ (List.getElem_mem hj)
      refine h3.congr (fun _ _ => rfl) (fun j hj c hc => ⟨?_, ?_⟩)
      · unfold cK; rw [hK _ (hlt j hj)]
      · unfold cX; rw [hX _ (hlt j hj) c hc]
  · exact absurd hok hno

/-- The answer of 'Shrink'. -/
def ShrIs (w w' : World) (e : Ending) (n : Nat) (u : V) (L : Nat → Nat) (K X : Nat → Nat → V) : Prop :=
  (OkG n u L K X ∧ ∃ (f : Nat → Nat) (ls : Nat → List Nat), ((∀ r, r < n → SortI (K r) (L r) (ls r)) ∧ IsCls n L (sK K ls) (sK X ls) f) ∧ CanonIs w w' e n (fstV f u) L (sK K ls) (fX X ls f)) ∨ (¬ OkG n u L K X ∧ e = .returned (.agg #[.int .i64 0, .int .i64 0, .string ⟨#[]⟩, .int .i64 0, .slice none 0 0]))

theorem fstV_congr {f f' : Nat → Nat} {n : Nat} (h : ∀ i, i < n → f i = f' i) {v : V} (hv : isV n v = true) : fstV f v = fstV f' v := by
  by_cases h4 : v.k = 4
  · obtain ⟨a0, a1⟩ := isV_tab hv h4
    unfold fstV
    rw [if_pos h4, if_pos h4, h _ (by omega)]
  · rw [fstV_ne h4, fstV_ne h4]

theorem shr_fixed {n : Nat} (u : V) {L : Nat → Nat} {K X : Nat → Nat → V} (hS : Small 1048576 n L K X) : ∃ (N : Nat) (U : V) (L' : Nat → Nat) (K' X' : Nat → Nat → V), N ≤ 1048576 ∧ Small 1048576 N L' K' X' ∧ ∀ w w' e, ShrIs w w' e n u L K X → GrRes w w' e N U L' K' X' := by
  by_cases hok : OkG n u L K X
  · by_cases hex : ∃ (f : Nat → Nat) (ls : Nat → List Nat), (∀ r, r < n → SortI (K r) (L r) (ls r)) ∧ IsCls n L (sK K ls) (sK X ls) f
    · obtain ⟨f0, ls0, hs0, hi0⟩ := hex
      have hok0 := okG_shr hok hs0 hi0.low
      have hS0 : Small 1048576 n L (sK K ls0) (fX X ls0 f0) := fun r hr => ⟨(hS r hr).1, fun c hc => by
        have hl := (hs0 r hr).lt hc
        have := (hS r hr).2 _ hl
        refine ⟨this.1, ?_⟩
        unfold fX fstV
        split
        · exact this.2
        · exact this.2⟩
      refine ⟨_, cnU n (fstV f0 u) L (sK K ls0) (fX X ls0 f0), _, _, _, (small_can (u := fstV f0 u) hS0).1, (small_can (u := fstV f0 u) hS0).2, fun w w' e h => ?_⟩
      rcases h with ⟨_, f, ls, ⟨hs, hi⟩, hc⟩ | ⟨hno, _⟩
      · have hf : ∀ i, i < n → f i = f0 i := fun i hi' => ClsAre.uniq hok ⟨ls, hs, hi⟩ ⟨ls0, hs0, hi0⟩ hi'
        have hls : ∀ r, r < n → ls r = ls0 r := fun r hr => SortI.one (hok.all r hr) (hs r hr) (hs0 r hr)
        have hok1 := okG_shr hok hs hi.low
        rw [fstV_congr hf hok.root] at hc hok1
        refine (hc.agree hok1 hok0 (fun r hr => by unfold sK; rw [hls r hr]) (fun r hr c hc => ?_)).res
        unfold fX sK
        rw [hls r hr]
        exact fstV_congr hf (good_of hok r hr _ ((hs0 r hr).lt hc))
      · exact absurd hok hno
    · refine ⟨0, ⟨0, 0, ⟨#[]⟩, 0⟩, fun _ => 0, fun _ _ => ⟨0, 0, ⟨#[]⟩, 0⟩, fun _ _ => ⟨0, 0, ⟨#[]⟩, 0⟩, by omega, fun r hr => by omega, fun w w' e h => ?_⟩
      rcases h with ⟨_, f, ls, h1, _⟩ | ⟨hno, _⟩
      · exact absurd ⟨f, ls, h1⟩ hex
      · exact absurd hok hno
  · refine ⟨0, ⟨0, 0, ⟨#[]⟩, 0⟩, fun _ => 0, fun _ _ => ⟨0, 0, ⟨#[]⟩, 0⟩, fun _ _ => ⟨0, 0, ⟨#[]⟩, 0⟩, by omega, fun r hr => by omega, fun w w' e h => ?_⟩
    rcases h with ⟨h, _⟩ | ⟨_, rfl⟩
    · exact absurd h hok
    · exact ⟨none, 0, fun _ => .nilIface, w.heap.size, Nat.le_refl _, rfl, OTab.nil w' _ _ _ _ _⟩

end Go.Proofs.YtgflalfiopnmnaaGreatDoor

/-
  Rings of tables: which are the same, and which part. No Go in sight.
-/
namespace Go.Proofs.YtgflalfiopnmnaaGreatDoor
open Vl

theorem rgX_ok {n r : Nat} (hn : 0 < n) : isV n (rgX n r) = true := by
  have h : (r + 1) % n < n := Nat.mod_lt _ hn
  unfold rgX
  generalize (r + 1) % n = q at *
  unfold isV
  simp [rgE]
  omega
theorem rgK_ok : isK rgK = true := by unfold isK isV rgK; simp [rgE]
theorem rgT_ok : isK rgT = true := by unfold isK isV rgT; simp [rgE]
theorem rgT_v (n : Nat) : isV n rgT = true := by unfold isV rgT; simp [rgE]
theorem rgU_ok {n : Nat} (hn : 0 < n) : isV n rgU = true := by unfold isV rgU; simp [rgE]; omega

theorem ra_ok {n : Nat} (h0 : 0 < n) (h1 : n ≤ 60) : OkG n rgU raL raK (raX n) := by
  refine ⟨by omega, rgU_ok h0, fun r hr => ⟨by unfold raL; omega, fun c hc => ⟨rgK_ok, rgX_ok h0, by unfold raX rgX; simp, fun j hj => ?_⟩⟩⟩
  unfold raL at hc
  omega
theorem rb_ok {n : Nat} (h0 : 0 < n) (h1 : n ≤ 60) : OkG n rgU (rbL n) rbK (rbX n) := by
  refine ⟨by omega, rgU_ok h0, fun r hr => ⟨by unfold rbL; split <;> omega, fun c hc => ⟨?_, ?_, ?_, fun j hj => ?_⟩⟩⟩
  · unfold rbK; split
    · exact rgK_ok
    · exact rgT_ok
  · unfold rbX; split
    · exact rgX_ok h0
    · exact rgT_v n
  · unfold rbX; split
    · unfold rgX; simp
    · unfold rgT; simp
  · have hc2 : c < 2 := by unfold rbL at hc; split at hc <;> omega
    obtain rfl : c = 1 := by omega
    obtain rfl : j = 0 := by omega
    show eqV rgK rgT = false
    unfold eqV rgK rgT
    simp

/-- Where the next one is, in two rings side by side. -/
theorem jn_X {n m : Nat} (hn : 0 < n) (hm : 0 < m) {i c : Nat} (hi : i < n + m) : (jn n (raX n) (fun j c => sh n (raX m j c)) i c).k = 4 ∧ (jn n (raX n) (fun j c => sh n (raX m j c)) i c).a.toNat < n + m := by
  by_cases h : i < n
  · rw [jn_lt h]
    have h2 : (i + 1) % n < n := Nat.mod_lt _ hn
    refine ⟨rfl, ?_⟩
    show (((i + 1) % n : Nat) : Int).toNat < n + m
    omega
  · rw [jn_ge h]
    have h2 : (i - n + 1) % m < m := Nat.mod_lt _ hm
    unfold sh raX rgX
    rw [if_pos rfl]
    refine ⟨rfl, ?_⟩
    show ((((i - n + 1) % m : Nat) : Int) + n).toNat < n + m
    omega
theorem jn_L {n : Nat} (i : Nat) : jn n raL raL i = 1 := by unfold jn raL; split <;> rfl
theorem jn_K {n : Nat} (i c : Nat) : jn n raK raK i c = rgK := by unfold jn raK; split <;> rfl

/-- All tables of two rings are the same. -/
theorem rings_same {n m : Nat} (hn : 0 < n) (hm : 0 < m) {f : Nat → Nat} (h : ClsAre (n + m) (jn n raL raL) (jn n raK raK) (jn n (raX n) (fun j c => sh n (raX m j c))) f) {i j : Nat} (hi : i < n + m) (hj : j < n + m) : f i = f j := by
  obtain ⟨ls, hs, hc⟩ := h
  refine hc.wide (fun i j => i < n + m ∧ j < n + m) ?_ i j ⟨hi, hj⟩
  rintro i j ⟨hi, hj⟩
  refine ⟨hi, hj, by rw [jn_L, jn_L], fun c hc' => ?_⟩
  have ex : ∀ r c, ∃ c', sK (jn n (raX n) (fun j c => sh n (raX m j c))) ls r c = jn n (raX n) (fun j c => sh n (raX m j c)) r c' := fun r c => ⟨_, rfl⟩
  have ek : ∀ r c, sK (jn n raK raK) ls r c = rgK := fun r c => jn_K _ _
  obtain ⟨c1, e1⟩ := ex i c
  obtain ⟨c2, e2⟩ := ex j c
  obtain ⟨k1, a1⟩ := jn_X hn hm (c := c1) hi
  obtain ⟨k2, a2⟩ := jn_X hn hm (c := c2) hj
  rw [e1, e2, ek, ek]
  exact ⟨rfl, by rw [k1, k2], fun _ => ⟨a1, a2⟩, fun h => absurd k1 h⟩

/-- The last table is told by its pair. -/
theorem rbL_last (n : Nat) : rbL n (n - 1) = 2 := by unfold rbL; rw [if_pos rfl]
theorem rbL_one {n i : Nat} (h : i < n - 1) : rbL n i = 1 := by unfold rbL; rw [if_neg (by omega)]

/-- In a ring with one pair more every table is a class of its own. -/
theorem rb_next {n : Nat} {ls : Nat → List Nat} (hs : ∀ r, r < n → SortI (rbK r) (rbL n r) (ls r)) {i : Nat} (hi : i < n - 1) : sK (rbX n) ls i 0 = rgX n i := by
  have h1 := (hs i (by omega)).lt (i := 0) (by rw [rbL_one hi]; omega)
  rw [rbL_one hi] at h1
  have h2 : (ls i).getD 0 0 = 0 := by omega
  show rbX n i ((ls i).getD 0 0) = _
  rw [h2]
  rfl
theorem rb_cls {n : Nat} {f : Nat → Nat} {ls : Nat → List Nat} (hs : ∀ r, r < n → SortI (rbK r) (rbL n r) (ls r)) (hc : IsCls n (rbL n) (sK rbK ls) (sK (rbX n) ls) f) : ∀ (d i j : Nat), i < j → j + d = n - 1 → f i ≠ f j := by
  intro d
  induction d with
  | zero =>
    intro i j hij hj e
    have := (hc.bis i j (by omega) (by omega) e).len
    rw [show j = n - 1 by omega, rbL_last, rbL_one (by omega)] at this
    omega
  | succ d ih =>
    intro i j hij hj e
    have hl := hc.bis i j (by omega) (by omega) e
    have h0 := (hl.all 0 (by rw [rbL_one (by omega)]; omega)).2
    rw [rb_next hs (by omega), rb_next hs (by omega)] at h0
    have h1 := (alike_iff.1 h0).2.1 rfl
    have e1 : (rgX n i).a.toNat = i + 1 := by show (((i + 1) % n : Nat) : Int).toNat = i + 1; rw [Nat.mod_eq_of_lt (by omega)]; omega
    have e2 : (rgX n j).a.toNat = j + 1 := by show (((j + 1) % n : Nat) : Int).toNat = j + 1; rw [Nat.mod_eq_of_lt (by omega)]; omega
    rw [e1, e2] at h1
    exact ih (i + 1) (j + 1) (by omega) (by omega) h1
theorem rb_one {n : Nat} {f : Nat → Nat} {ls : Nat → List Nat} (hs : ∀ r, r < n → SortI (rbK r) (rbL n r) (ls r)) (hc : IsCls n (rbL n) (sK rbK ls) (sK (rbX n) ls) f) {i : Nat} (hi : i < n) : f i = i := by
  have h1 := hc.low i hi
  rcases Nat.lt_or_ge (f i) i with h | h
  · exact absurd (hc.idem i hi) (rb_cls hs hc (n - 1 - i) (f i) i h (by omega))
  · omega

end Go.Proofs.YtgflalfiopnmnaaGreatDoor

/-
  Going through two graphs side by side, in two ways; that both come to one answer. No Go in sight.
-/
namespace Go.Proofs.YtgflalfiopnmnaaGreatDoor.Aw
open Vl

theorem eqV_refl (x : V) : eqV x x = true := eqV_iff.2 rfl

structure E where
  a : V
  b : V
  p : List V

structure Sys where
  tab : V → Bool
  atA : V → V → V
  atB : V → V → V
  kids : V → V → List V
  D : V → V → Bool


def Sys.cp (S : Sys) (e : E) : Bool := S.tab e.a && S.tab e.b
def Sys.part (S : Sys) (e : E) : Bool := !(S.tab e.a && S.tab e.b) && !(eqV e.a e.b)
def Sys.child (S : Sys) (e : E) (k : V) : E := ⟨S.atA e.a k, S.atB e.b k, e.p ++ [k]⟩
def same (c y : E) : Bool := eqV y.a c.a && eqV y.b c.b
def Sys.add (S : Sys) (l : List (E)) (c : E) : List (E) := if S.cp c && l.any (same c) then l else l ++ [c]
def Sys.grow (S : Sys) (l : List (E)) (e : E) : List (E) := (S.kids e.a e.b).foldl (fun l k => S.add l (S.child e k)) l
def Sys.iadd (S : Sys) (l : List (E)) (c : E) : List (E) := if S.cp c && S.D c.a c.b && !(l.any (same c)) then l ++ [c] else l
def Sys.igrow (S : Sys) (l : List (E)) (e : E) : List (E) := (S.kids e.a e.b).foldl (fun l k => S.iadd l (S.child e k)) l

inductive SReach (S : Sys) (r : E) : Nat → List (E) → Prop
  | start : SReach S r 0 [r]
  | plain {i : Nat} {l : List (E)} {e : E} : SReach S r i l → l[i]? = some e → S.cp e = false → S.part e = false → SReach S r (i + 1) l
  | couple {i : Nat} {l : List (E)} {e : E} : SReach S r i l → l[i]? = some e → S.cp e = true → SReach S r (i + 1) (S.grow l e)

def SDone (S : Sys) (r : E) (ans : List V) : Prop := (∃ i l e, SReach S r i l ∧ l[i]? = some e ∧ S.part e = true ∧ ans = e.p) ∨ (∃ i l, SReach S r i l ∧ l.length ≤ i ∧ ans = [])

inductive IReach (S : Sys) (r : E) : Nat → List (E) → Prop
  | start : IReach S r 0 (S.iadd [] r)
  | step {j : Nat} {q : List (E)} {e : E} : IReach S r j q → q[j]? = some e → (∀ k ∈ S.kids e.a e.b, S.part (S.child e k) = false) → IReach S r (j + 1) (S.igrow q e)

def IDone (S : Sys) (r : E) (ans : List V) : Prop :=
  (∃ j q e pre k post, IReach S r j q ∧ q[j]? = some e ∧ S.kids e.a e.b = pre ++ k :: post ∧ (∀ k' ∈ pre, S.part (S.child e k') = false) ∧ S.part (S.child e k) = true ∧ ans = e.p ++ [k]) ∨ (∃ j q, IReach S r j q ∧ q.length ≤ j ∧ ans = [])


theorem IReach.det {S : Sys} {r : E} {j : Nat} {q : List (E)} (h : IReach S r j q) : ∀ {q'}, IReach S r j q' → q = q' := by
  induction h with
  | start => intro q' h'; cases h'; rfl
  | step h1 h2 h3 ih =>
    intro q' h'
    cases h' with
    | step g1 g2 g3 =>
      obtain rfl := ih g1
      rw [h2] at g2
      cases g2
      rfl

theorem IReach.back {S : Sys} {r : E} {j : Nat} {q : List (E)} (h : IReach S r j q) : ∀ i, i < j → ∃ q' e, IReach S r i q' ∧ q'[i]? = some e ∧ (∀ k ∈ S.kids e.a e.b, S.part (S.child e k) = false) := by
  induction h with
  | start => intro i hi; omega
  | @step j q e h1 h2 h3 ih =>
    intro i hi
    by_cases e' : i = j
    · subst e'; exact ⟨q, e, h1, h2, h3⟩
    · exact ih i (by omega)

theorem first_one {P : V → Bool} {pre post pre' post' : List V} {k k' : V} (h : pre ++ k :: post = pre' ++ k' :: post') (h1 : ∀ x ∈ pre, P x = false) (h2 : P k = true) (h3 : ∀ x ∈ pre', P x = false) (h4 : P k' = true) : k = k' := by
  induction pre generalizing pre' with
  | nil =>
    cases pre' with
    | nil => simp at h; exact h.1
    | cons y ys => simp at h; have := h3 y (by simp); rw [← h.1, h2] at this; cases this
  | cons x xs ih =>
    cases pre' with
    | nil => simp at h; have := h1 x (by simp); rw [h.1, h4] at this; cases this
    | cons y ys =>
      simp at h
      exact ih h.2 (fun z hz => h1 z (by simp [hz])) (fun z hz => h3 z (by simp [hz]))

theorem IDone.det {S : Sys} {r : E} {x y : List V} (h : IDone S r x) (g : IDone S r y) : x = y := by
  rcases h with ⟨j, q, e, pre, k, post, h1, h2, h3, h4, h5, rfl⟩ | ⟨j, q, h1, h2, rfl⟩
  · rcases g with ⟨j', q', e', pre', k', post', g1, g2, g3, g4, g5, rfl⟩ | ⟨j', q', g1, g2, rfl⟩
    · have hj : j = j' := by
        rcases Nat.lt_trichotomy j j' with hl | he | hl
        · obtain ⟨q2, e2, b1, b2, b3⟩ := g1.back j hl
          obtain rfl := h1.det b1
          rw [h2] at b2; cases b2
          have := b3 k (by rw [h3]; simp)
          rw [h5] at this; cases this
        · exact he
        · obtain ⟨q2, e2, b1, b2, b3⟩ := h1.back j' hl
          obtain rfl := g1.det b1
          rw [g2] at b2; cases b2
          have := b3 k' (by rw [g3]; simp)
          rw [g5] at this; cases this
      subst hj
      obtain rfl := h1.det g1
      rw [h2] at g2; cases g2
      rw [h3] at g3
      rw [first_one (P := fun k => S.part (S.child e k)) g3 h4 h5 g4 g5]
    · exfalso
      rcases Nat.lt_or_ge j j' with hl | hl
      · obtain ⟨q2, e2, b1, b2, b3⟩ := g1.back j hl
        obtain rfl := h1.det b1
        rw [h2] at b2; cases b2
        have := b3 k (by rw [h3]; simp)
        rw [h5] at this; cases this
      · rcases Nat.lt_or_ge j' j with hl' | hl'
        · obtain ⟨q2, e2, b1, b2, _⟩ := h1.back j' hl'
          obtain rfl := g1.det b1
          rw [List.getElem?_eq_none g2] at b2; cases b2
        · obtain rfl : j = j' := by omega
          obtain rfl := h1.det g1
          rw [List.getElem?_eq_none g2] at h2; cases h2
  · rcases g with ⟨j', q', e', pre', k', post', g1, g2, g3, g4, g5, rfl⟩ | ⟨j', q', g1, g2, rfl⟩
    · exfalso
      rcases Nat.lt_or_ge j' j with hl | hl
      · obtain ⟨q2, e2, b1, b2, b3⟩ := h1.back j' hl
        obtain rfl := g1.det b1
        rw [g2] at b2; cases b2
        have := b3 k' (by rw [g3]; simp)
        rw [g5] at this; cases this
      · rcases Nat.lt_or_ge j j' with hl' | hl'
        · obtain ⟨q2, e2, b1, b2, _⟩ := g1.back j hl'
          obtain rfl := h1.det b1
          rw [List.getElem?_eq_none h2] at b2; cases b2
        · obtain rfl : j = j' := by omega
          obtain rfl := h1.det g1
          rw [List.getElem?_eq_none h2] at g2; cases g2
    · rfl

/-- What holds of the graphs: Good couples lead to good ones; couples of one class part nowhere and lead to such. -/
structure Fits (S : Sys) (G : V → V → Prop) : Prop where
  next : ∀ x y, G x y → S.tab x = true → S.tab y = true → ∀ k ∈ S.kids x y, G (S.atA x k) (S.atB y k)
  alike : ∀ x y, G x y → S.tab x = true → S.tab y = true → S.D x y = false → ∀ k ∈ S.kids x y, (S.tab (S.atA x k) = true ∧ S.tab (S.atB y k) = true ∧ S.D (S.atA x k) (S.atB y k) = false) ∨ (¬ (S.tab (S.atA x k) = true ∧ S.tab (S.atB y k) = true) ∧ S.atA x k = S.atB y k)

def Sys.live (S : Sys) (e : E) : Bool := S.cp e && S.D e.a e.b

theorem any_live {S : Sys} {l : List (E)} {c : E} (hc : S.live c = true) : l.any (same c) = (l.filter S.live).any (same c) := by
  induction l with
  | nil => rfl
  | cons y ys ih =>
    rw [List.any_cons, ih]
    by_cases h : S.live y = true
    · rw [List.filter_cons_of_pos h, List.any_cons]
    · rw [List.filter_cons_of_neg h]
      have : same c y = false := by
        rw [Bool.eq_false_iff]
        intro hs
        simp only [same, Bool.and_eq_true, eqV_iff] at hs
        apply h
        simp only [Sys.live, Sys.cp] at hc ⊢
        rw [hs.1, hs.2]
        exact hc
      rw [this, Bool.false_or]

theorem add_filter {S : Sys} (l : List (E)) (c : E) : (S.add l c).filter S.live = S.iadd (l.filter S.live) c := by
  unfold Sys.add Sys.iadd
  by_cases hl : S.live c = true
  · have hcp : S.cp c = true := by unfold Sys.live at hl; simp at hl; exact hl.1
    have hD : S.D c.a c.b = true := by unfold Sys.live at hl; simp at hl; exact hl.2
    rw [any_live hl, hcp, hD]
    by_cases hm : (l.filter S.live).any (same c) = true
    · simp [hm]
    · simp only [Bool.not_eq_true] at hm
      simp [hm, hl]
  · simp only [Bool.not_eq_true] at hl
    have : (S.cp c && S.D c.a c.b) = false := hl
    rw [this]
    split
    · simp
    · simp [hl]

theorem fold_filter {S : Sys} (e : E) : ∀ (ks : List V) (l : List (E)), (ks.foldl (fun l k => S.add l (S.child e k)) l).filter S.live = ks.foldl (fun l k => S.iadd l (S.child e k)) (l.filter S.live)
  | [], l => rfl
  | k :: ks, l => by
    simp only [List.foldl_cons]
    rw [fold_filter e ks, add_filter]

theorem grow_filter {S : Sys} (l : List (E)) (e : E) : (S.grow l e).filter S.live = S.igrow (l.filter S.live) e := fold_filter e _ l

theorem fold_pre {S : Sys} (e : E) : ∀ (ks : List V) (l : List (E)), ∃ t, ks.foldl (fun l k => S.add l (S.child e k)) l = l ++ t ∧ ∀ c ∈ t, ∃ k ∈ ks, c = S.child e k
  | [], l => ⟨[], by simp, by simp⟩
  | k :: ks, l => by
    simp only [List.foldl_cons]
    obtain ⟨t, h1, h2⟩ := fold_pre e ks (S.add l (S.child e k))
    rw [h1]
    unfold Sys.add
    split
    · exact ⟨t, rfl, fun c hc => by obtain ⟨k', h, h'⟩ := h2 c hc; exact ⟨k', by simp [h], h'⟩⟩
    · refine ⟨S.child e k :: t, by simp, fun c hc => ?_⟩
      rcases List.mem_cons.1 hc with rfl | hc
      · exact ⟨k, by simp, rfl⟩
      · obtain ⟨k', h, h'⟩ := h2 c hc; exact ⟨k', by simp [h], h'⟩

theorem grow_pre {S : Sys} (l : List (E)) (e : E) : ∃ t, S.grow l e = l ++ t ∧ ∀ c ∈ t, ∃ k ∈ S.kids e.a e.b, c = S.child e k := fold_pre e _ l

theorem igrow_dead {S : Sys} {q : List (E)} {e : E} : (∀ k ∈ S.kids e.a e.b, S.live (S.child e k) = false) → S.igrow q e = q := by
  unfold Sys.igrow
  generalize S.kids e.a e.b = ks
  induction ks generalizing q with
  | nil => intro _; rfl
  | cons k ks ih =>
    intro h
    simp only [List.foldl_cons]
    have : S.iadd q (S.child e k) = q := by
      unfold Sys.iadd
      have hk := h k (by simp)
      unfold Sys.live at hk
      rw [hk]
      simp
    rw [this]
    exact ih (fun k' hk' => h k' (by simp [hk']))

/-- Up to where nothing parts: the two lines beside one another. -/
structure Ph1 (S : Sys) (G : V → V → Prop) (r : E) (i : Nat) (l : List (E)) : Prop where
  ex : ∃ j, IReach S r j (l.filter S.live) ∧ ((l.take i).filter S.live).length = j
  calm : ∀ e ∈ l, S.part e = false
  good : ∀ e ∈ l, G e.a e.b

structure Ph2 (S : Sys) (r : E) (i : Nat) (l : List (E)) : Prop where
  ex : ∃ pre e rest, l = pre ++ e :: rest ∧ i ≤ pre.length ∧ (∀ x ∈ pre, S.part x = false) ∧ S.part e = true ∧ IDone S r e.p

theorem take_next {l : List (E)} {i : Nat} {e : E} (h : l[i]? = some e) : l.take (i + 1) = l.take i ++ [e] := by
  rw [List.take_add_one, h]; rfl

theorem at_live {S : Sys} {l : List (E)} {i : Nat} {e : E} (h : l[i]? = some e) (hl : S.live e = true) : (l.filter S.live)[((l.take i).filter S.live).length]? = some e := by
  have e1 : l = l.take i ++ e :: l.drop (i + 1) := by
    have := List.take_append_drop i l
    rw [List.drop_eq_getElem_cons (by have := (List.getElem?_eq_some_iff.1 h).1; exact this)] at this
    rw [(List.getElem?_eq_some_iff.1 h).2] at this
    exact this.symm
  have e2 : l.filter S.live = (l.take i).filter S.live ++ e :: (l.drop (i + 1)).filter S.live := by
    conv => lhs; rw [e1]
    rw [List.filter_append, List.filter_cons_of_pos hl]
  rw [e2]
  simp

theorem split_first {P : V → Bool} : ∀ (ks : List V), (∃ k ∈ ks, P k = true) → ∃ pre k post, ks = pre ++ k :: post ∧ (∀ x ∈ pre, P x = false) ∧ P k = true
  | [], h => by obtain ⟨k, hk, _⟩ := h; cases hk
  | k :: ks, h => by
    by_cases hp : P k = true
    · exact ⟨[], k, ks, rfl, by simp, hp⟩
    · have : ∃ k ∈ ks, P k = true := by
        obtain ⟨x, hx, hxp⟩ := h
        rcases List.mem_cons.1 hx with rfl | hx
        · exact absurd hxp hp
        · exact ⟨x, hx, hxp⟩
      obtain ⟨pre, x, post, h1, h2, h3⟩ := split_first ks this
      exact ⟨k :: pre, x, post, by rw [h1]; rfl, fun y hy => by rcases List.mem_cons.1 hy with rfl | hy; exact (Bool.not_eq_true _).mp hp; exact h2 y hy, h3⟩

/-- Where one of the children parts: it stands behind all that lay ahead. -/
theorem fold_part {S : Sys} {e : E} {l : List (E)} (hl : ∀ x ∈ l, S.part x = false) : ∀ (pre : List V) (k : V) (post : List V), (∀ x ∈ pre, S.part (S.child e x) = false) → S.part (S.child e k) = true → ∃ ps rest, (pre ++ k :: post).foldl (fun l k => S.add l (S.child e k)) l = ps ++ S.child e k :: rest ∧ l.length ≤ ps.length ∧ ∀ x ∈ ps, S.part x = false
  | [], k, post, _, hk => by
    simp only [List.nil_append, List.foldl_cons]
    have : S.add l (S.child e k) = l ++ [S.child e k] := by
      unfold Sys.add
      have : S.cp (S.child e k) = false := by
        unfold Sys.part at hk
        unfold Sys.cp
        simp only [Bool.and_eq_true, Bool.not_eq_true'] at hk
        exact hk.1
      rw [this]; simp
    rw [this]
    obtain ⟨t, h1, _⟩ := fold_pre (S := S) e post (l ++ [S.child e k])
    exact ⟨l, t, by rw [h1]; simp, Nat.le_refl _, hl⟩
  | x :: pre, k, post, hp, hk => by
    simp only [List.cons_append, List.foldl_cons]
    have hl' : ∀ y ∈ S.add l (S.child e x), S.part y = false := by
      intro y hy
      unfold Sys.add at hy
      split at hy
      · exact hl y hy
      · rcases List.mem_append.1 hy with hy | hy
        · exact hl y hy
        · simp at hy; rw [hy]; exact hp x (by simp)
    obtain ⟨ps, rest, h1, h2, h3⟩ := fold_part hl' pre k post (fun y hy => hp y (by simp [hy])) hk
    refine ⟨ps, rest, h1, ?_, h3⟩
    have : l.length ≤ (S.add l (S.child e x)).length := by unfold Sys.add; split <;> simp
    omega

theorem phases {S : Sys} {G : V → V → Prop} (hF : Fits S G) {r : E} (hr : G r.a r.b) (hp : S.part r = false) {i : Nat} {l : List (E)} (h : SReach S r i l) : Ph1 S G r i l ∨ Ph2 S r i l := by
  induction h with
  | start =>
    refine Or.inl ⟨⟨0, ?_, by simp⟩, by simpa using hp, by simpa using hr⟩
    have : ([r] : List (E)).filter S.live = S.iadd [] r := by
      have := add_filter (S := S) [] r
      simpa [Sys.add] using this
    rw [this]
    exact IReach.start
  | @plain i l e h1 h2 h3 h4 ih =>
    rcases ih with ⟨⟨j, hi, hj⟩, hc, hg⟩ | ⟨pre, e', rest, p1, p2, p3, p4, p5⟩
    · refine Or.inl ⟨⟨j, hi, ?_⟩, hc, hg⟩
      rw [take_next h2, List.filter_append]
      have : S.live e = false := by unfold Sys.live; rw [h3]; rfl
      simp [this, hj]
    · refine Or.inr ⟨pre, e', rest, p1, ?_, p3, p4, p5⟩
      rcases Nat.lt_or_ge i pre.length with hl | hl
      · omega
      · obtain rfl : i = pre.length := by omega
        rw [p1] at h2
        simp at h2
        rw [← h2, p4] at h4
        cases h4
  | @couple i l e h1 h2 h3 ih =>
    rcases ih with ⟨⟨j, hi, hj⟩, hc, hg⟩ | ⟨pre, e', rest, p1, p2, p3, p4, p5⟩
    · have he : e ∈ l := List.mem_of_getElem? h2
      have h3' : S.tab e.a = true ∧ S.tab e.b = true := by unfold Sys.cp at h3; simpa using h3
      by_cases hpt : ∃ k ∈ S.kids e.a e.b, S.part (S.child e k) = true
      · obtain ⟨pre, k, post, s1, s2, s3⟩ := split_first (P := fun k => S.part (S.child e k)) _ hpt
        obtain ⟨ps, rest, f1, f2, f3⟩ := fold_part (S := S) (e := e) hc pre k post s2 s3
        have hlive : S.live e = true := by
          unfold Sys.live
          rw [h3, Bool.true_and]
          cases hD : S.D e.a e.b with
          | true => rfl
          | false =>
            exfalso
            rcases hF.alike _ _ (hg e he) h3'.1 h3'.2 hD k (by rw [s1]; simp) with ⟨a1, a2, _⟩ | ⟨_, a2⟩
            · unfold Sys.part Sys.child at s3; simp [a1, a2] at s3
            · unfold Sys.part Sys.child at s3; rw [a2] at s3; simp [eqV_refl] at s3
        have hat := at_live h2 hlive
        rw [hj] at hat
        refine Or.inr ⟨ps, S.child e k, rest, ?_, ?_, f3, s3, Or.inl ⟨j, _, e, pre, k, post, hi, hat, s1, s2, s3, rfl⟩⟩
        · unfold Sys.grow; rw [s1]; exact f1
        · have := (List.getElem?_eq_some_iff.1 h2).1; omega
      · have hno : ∀ k ∈ S.kids e.a e.b, S.part (S.child e k) = false := fun k hk => by
          cases hh : S.part (S.child e k) with
          | false => rfl
          | true => exact absurd ⟨k, hk, hh⟩ hpt
        obtain ⟨t, t1, t2⟩ := grow_pre (S := S) l e
        have hlt := (List.getElem?_eq_some_iff.1 h2).1
        have htk : (S.grow l e).take (i + 1) = l.take i ++ [e] := by
          rw [t1, List.take_append_of_le_length (by omega), take_next h2]
        refine Or.inl ⟨?_, ?_, ?_⟩
        · rw [grow_filter, htk, List.filter_append]
          cases hlive : S.live e with
          | true =>
            have hat := at_live h2 hlive
            rw [hj] at hat
            refine ⟨j + 1, IReach.step hi hat hno, ?_⟩
            simp [hlive, hj]
          | false =>
            have hD : S.D e.a e.b = false := by unfold Sys.live at hlive; rw [h3, Bool.true_and] at hlive; exact hlive
            have : S.igrow (l.filter S.live) e = l.filter S.live := igrow_dead (fun k hk => by
              unfold Sys.live Sys.cp Sys.child
              rcases hF.alike _ _ (hg e he) h3'.1 h3'.2 hD k hk with ⟨_, _, a3⟩ | ⟨a1, _⟩
              · simp [a3]
              · simp only [Bool.and_eq_false_iff]
                left
                rw [← Bool.and_eq_false_iff, Bool.eq_false_iff]
                simpa using a1)
            rw [this]
            exact ⟨j, hi, by simp [hlive, hj]⟩
        · intro x hx
          rw [t1] at hx
          rcases List.mem_append.1 hx with hx | hx
          · exact hc x hx
          · obtain ⟨k, hk, rfl⟩ := t2 x hx; exact hno k hk
        · intro x hx
          rw [t1] at hx
          rcases List.mem_append.1 hx with hx | hx
          · exact hg x hx
          · obtain ⟨k, hk, rfl⟩ := t2 x hx
            exact hF.next _ _ (hg e he) h3'.1 h3'.2 k hk
    · obtain ⟨t, t1, t2⟩ := grow_pre (S := S) l e
      refine Or.inr ⟨pre, e', rest ++ t, by rw [t1, p1]; simp, ?_, p3, p4, p5⟩
      rcases Nat.lt_or_ge i pre.length with hl | hl
      · omega
      · obtain rfl : i = pre.length := by omega
        rw [p1] at h2
        simp at h2
        rw [h2] at p4
        unfold Sys.part at p4
        unfold Sys.cp at h3
        rw [h3] at p4
        cases p4

theorem meet {S : Sys} {G : V → V → Prop} (hF : Fits S G) {r : E} (hr : G r.a r.b) (hp0 : r.p = []) {x y : List V} (h : SDone S r x) (g : IDone S r y) : x = y := by
  refine IDone.det (S := S) (r := r) ?_ g
  by_cases hp : S.part r = true
  · have hz : S.iadd [] r = [] := by
      unfold Sys.iadd
      have : S.cp r = false := by unfold Sys.part at hp; unfold Sys.cp; simp only [Bool.and_eq_true, Bool.not_eq_true'] at hp; exact hp.1
      rw [this]; rfl
    have hI : IDone S r [] := Or.inr ⟨0, _, IReach.start, by rw [hz]; simp, rfl⟩
    have key : ∀ i l, SReach S r i l → i = 0 ∧ l = [r] := by
      intro i l hs
      induction hs with
      | start => exact ⟨rfl, rfl⟩
      | plain _ h2 _ h4 ih => obtain ⟨rfl, rfl⟩ := ih; simp at h2; rw [← h2, hp] at h4; cases h4
      | couple _ h2 h3 ih =>
        obtain ⟨rfl, rfl⟩ := ih
        simp at h2
        rw [← h2] at h3
        unfold Sys.part at hp; unfold Sys.cp at h3; rw [h3] at hp; cases hp
    rcases h with ⟨i, l, e, h1, h2, h3, rfl⟩ | ⟨i, l, h1, h2, rfl⟩
    · obtain ⟨rfl, rfl⟩ := key i l h1
      simp at h2
      rw [← h2, hp0]
      exact hI
    · exact hI
  · have hp' : S.part r = false := (Bool.not_eq_true _).mp hp
    rcases h with ⟨i, l, e, h1, h2, h3, rfl⟩ | ⟨i, l, h1, h2, rfl⟩
    · rcases phases hF hr hp' h1 with ⟨_, hc, _⟩ | ⟨pre, e', rest, p1, p2, p3, p4, p5⟩
      · have := hc e (List.mem_of_getElem? h2); rw [h3] at this; cases this
      · rcases Nat.lt_or_ge i pre.length with hl | hl
        · rw [p1, List.getElem?_append_left hl] at h2
          have := p3 e (List.mem_of_getElem? h2)
          rw [h3] at this; cases this
        · obtain rfl : i = pre.length := by omega
          rw [p1] at h2
          simp at h2
          rw [← h2]
          exact p5
    · rcases phases hF hr hp' h1 with ⟨⟨j, hi, hj⟩, hc, _⟩ | ⟨pre, e', rest, p1, p2, p3, p4, p5⟩
      · refine Or.inr ⟨j, _, hi, ?_, rfl⟩
        rw [List.take_of_length_le h2] at hj
        omega
      · exfalso
        rw [p1] at h2
        simp at h2
        omega


theorem nodup_len : ∀ (N : Nat) (l : List Nat), l.Nodup → (∀ x ∈ l, x < N) → l.length ≤ N
  | 0, l, _, h => by
    cases l with
    | nil => simp
    | cons x xs => have := h x (by simp); omega
  | N + 1, l, hn, h => by
    have h1 := nodup_len N (l.erase N) (hn.erase N) (fun x hx => by
      have h2 := (hn.mem_erase_iff).1 hx
      have := h x h2.2
      have := h2.1
      omega)
    rw [List.length_erase] at h1
    split at h1 <;> omega

/-- A number for each couple. -/
structure Ix (S : Sys) (G : V → V → Prop) (ix : V → V → Nat) (N : Nat) : Prop where
  lt : ∀ x y, G x y → S.tab x = true → S.tab y = true → ix x y < N
  one : ∀ x y x' y', G x y → S.tab x = true → S.tab y = true → G x' y' → S.tab x' = true → S.tab y' = true → ix x y = ix x' y' → x = x' ∧ y = y'

structure Wide (S : Sys) (G : V → V → Prop) (ix : V → V → Nat) (l : List (E)) (i : Nat) : Prop where
  good : ∀ e ∈ l, G e.a e.b
  path : ∀ e ∈ l, e.p.length ≤ i
  once : ((l.filter S.cp).map fun e => ix e.a e.b).Nodup

theorem Wide.add {S : Sys} {G : V → V → Prop} {ix : V → V → Nat} {N : Nat} (hI : Ix S G ix N) {l : List (E)} {i : Nat} (h : Wide S G ix l i) {c : E} (hg : G c.a c.b) (hp : c.p.length ≤ i) : Wide S G ix (S.add l c) i := by
  unfold Sys.add
  split
  · exact h
  · rename_i hm
    refine ⟨fun e he => ?_, fun e he => ?_, ?_⟩
    · rcases List.mem_append.1 he with he | he
      · exact h.good e he
      · simp at he; rw [he]; exact hg
    · rcases List.mem_append.1 he with he | he
      · exact h.path e he
      · simp at he; rw [he]; exact hp
    · rw [List.filter_append]
      cases hc : S.cp c with
      | false => simp [hc, h.once]
      | true =>
        simp only [hc, Bool.true_and] at hm
        have hct : S.tab c.a = true ∧ S.tab c.b = true := by unfold Sys.cp at hc; simpa using hc
        simp only [List.filter_cons, hc, if_true, List.filter_nil, List.map_append, List.map_cons, List.map_nil]
        rw [List.nodup_append]
        refine ⟨h.once, by simp, ?_⟩
        intro a ha b hb e
        simp at hb
        subst hb
        obtain ⟨y, hy, rfl⟩ := List.mem_map.1 ha
        rw [List.mem_filter] at hy
        have hyt : S.tab y.a = true ∧ S.tab y.b = true := by have := hy.2; unfold Sys.cp at this; simpa using this
        obtain ⟨e1, e2⟩ := hI.one _ _ _ _ (h.good y hy.1) hyt.1 hyt.2 hg hct.1 hct.2 e
        apply hm
        rw [List.any_eq_true]
        exact ⟨y, hy.1, by simp [same, eqV_iff, e1, e2]⟩

theorem Wide.more {S : Sys} {G : V → V → Prop} {ix : V → V → Nat} {l : List (E)} {i : Nat} (h : Wide S G ix l i) : Wide S G ix l (i + 1) := ⟨h.good, fun e he => by have := h.path e he; omega, h.once⟩

theorem Wide.fold {S : Sys} {G : V → V → Prop} {ix : V → V → Nat} {N : Nat} (hI : Ix S G ix N) {e : E} {i : Nat} : ∀ (ks : List V) (l : List (E)), Wide S G ix l i → (∀ k ∈ ks, G (S.atA e.a k) (S.atB e.b k)) → e.p.length + 1 ≤ i → Wide S G ix (ks.foldl (fun l k => S.add l (S.child e k)) l) i
  | [], _, h, _, _ => h
  | k :: ks, l, h, hg, hp => by
    simp only [List.foldl_cons]
    exact Wide.fold hI ks _ (h.add hI (hg k (by simp)) (by simp [Sys.child]; omega)) (fun k' hk' => hg k' (by simp [hk'])) hp

theorem fold_len {S : Sys} (e : E) : ∀ (ks : List V) (l : List (E)), (ks.foldl (fun l k => S.add l (S.child e k)) l).length ≤ l.length + ks.length
  | [], l => by simp
  | k :: ks, l => by
    simp only [List.foldl_cons, List.length_cons]
    have h1 := fold_len (S := S) e ks (S.add l (S.child e k))
    have h2 : (S.add l (S.child e k)).length ≤ l.length + 1 := by unfold Sys.add; split <;> simp
    omega

/-- What good couples lead to is good. -/
def Nexts (S : Sys) (G : V → V → Prop) : Prop := ∀ x y, G x y → S.tab x = true → S.tab y = true → ∀ k ∈ S.kids x y, G (S.atA x k) (S.atB y k)

theorem SReach.wide {S : Sys} {G : V → V → Prop} {ix : V → V → Nat} {N K : Nat} (hF : Nexts S G) (hI : Ix S G ix N) (hK : ∀ x y, G x y → S.tab x = true → S.tab y = true → (S.kids x y).length ≤ K) {r : E} (hr : G r.a r.b) (hp0 : r.p = []) {i : Nat} {l : List (E)} (h : SReach S r i l) : Wide S G ix l i ∧ l.length ≤ 1 + K * ((l.take i).filter S.cp).length := by
  induction h with
  | start =>
    refine ⟨⟨by simpa using hr, by simp [hp0], ?_⟩, by simp⟩
    cases hc : S.cp r <;> simp [hc]
  | @plain i l e h1 h2 h3 h4 ih =>
    refine ⟨ih.1.more, ?_⟩
    rw [take_next h2, List.filter_append]
    simp only [List.filter_cons, h3, List.filter_nil]
    simpa using ih.2
  | @couple i l e h1 h2 h3 ih =>
    have he : e ∈ l := List.mem_of_getElem? h2
    have h3' : S.tab e.a = true ∧ S.tab e.b = true := by unfold Sys.cp at h3; simpa using h3
    have hlt := (List.getElem?_eq_some_iff.1 h2).1
    obtain ⟨t, t1, _⟩ := grow_pre (S := S) l e
    have htk : (S.grow l e).take (i + 1) = l.take i ++ [e] := by
      rw [t1, List.take_append_of_le_length (by omega), take_next h2]
    refine ⟨Wide.fold hI _ _ ih.1.more (hF _ _ (ih.1.good e he) h3'.1 h3'.2) (by have := ih.1.path e he; omega), ?_⟩
    rw [htk, List.filter_append]
    have h5 := fold_len (S := S) e (S.kids e.a e.b) l
    have h6 := hK _ _ (ih.1.good e he) h3'.1 h3'.2
    have h7 := ih.2
    simp only [List.filter_cons, h3, if_true, List.filter_nil, List.length_append, List.length_cons, List.length_nil, Nat.mul_add, Nat.zero_add, Nat.mul_one]
    unfold Sys.grow
    omega

theorem Wide.few {S : Sys} {G : V → V → Prop} {ix : V → V → Nat} {N i : Nat} (hI : Ix S G ix N) {l : List (E)} (h : Wide S G ix l i) : (l.filter S.cp).length ≤ N := by
  have := nodup_len N _ h.once (fun x hx => by
    obtain ⟨y, hy, rfl⟩ := List.mem_map.1 hx
    rw [List.mem_filter] at hy
    have hyt : S.tab y.a = true ∧ S.tab y.b = true := by have := hy.2; unfold Sys.cp at this; simpa using this
    exact hI.lt _ _ (h.good y hy.1) hyt.1 hyt.2)
  simpa using this

theorem SReach.len {S : Sys} {G : V → V → Prop} {ix : V → V → Nat} {N K : Nat} (hF : Nexts S G) (hI : Ix S G ix N) (hK : ∀ x y, G x y → S.tab x = true → S.tab y = true → (S.kids x y).length ≤ K) {r : E} (hr : G r.a r.b) (hp0 : r.p = []) {i : Nat} {l : List (E)} (h : SReach S r i l) : l.length ≤ 1 + K * N := by
  obtain ⟨h1, h2⟩ := h.wide hF hI hK hr hp0
  have h3 := h1.few hI
  have h4 : ((l.take i).filter S.cp).length ≤ (l.filter S.cp).length := ((List.take_sublist i l).filter _).length_le
  have : K * ((l.take i).filter S.cp).length ≤ K * N := Nat.mul_le_mul_left _ (by omega)
  omega

theorem iadd_eq {S : Sys} (q : List (E)) (c : E) : S.iadd q c = q ∨ (S.iadd q c = S.add q c ∧ S.live c = true) := by
  unfold Sys.iadd Sys.add
  by_cases hl : S.live c = true
  · have hcp : S.cp c = true := by unfold Sys.live at hl; simp at hl; exact hl.1
    have hD : S.D c.a c.b = true := by unfold Sys.live at hl; simp at hl; exact hl.2
    rw [hcp, hD]
    cases q.any (same c) <;> simp [hl]
  · have : (S.cp c && S.D c.a c.b) = false := (Bool.not_eq_true _).mp hl
    rw [this]; simp

structure IWide (S : Sys) (G : V → V → Prop) (ix : V → V → Nat) (q : List (E)) (i : Nat) : Prop where
  wide : Wide S G ix q i
  live : ∀ e ∈ q, S.live e = true

theorem IWide.add {S : Sys} {G : V → V → Prop} {ix : V → V → Nat} {N : Nat} (hI : Ix S G ix N) {q : List (E)} {i : Nat} (h : IWide S G ix q i) {c : E} (hg : G c.a c.b) (hp : c.p.length ≤ i) : IWide S G ix (S.iadd q c) i := by
  rcases iadd_eq (S := S) q c with e | ⟨e, hl⟩
  · rw [e]; exact h
  · rw [e]
    refine ⟨h.wide.add hI hg hp, fun x hx => ?_⟩
    unfold Sys.add at hx
    split at hx
    · exact h.live x hx
    · rcases List.mem_append.1 hx with hx | hx
      · exact h.live x hx
      · simp at hx; rw [hx]; exact hl

theorem IWide.fold {S : Sys} {G : V → V → Prop} {ix : V → V → Nat} {N : Nat} (hI : Ix S G ix N) {e : E} {i : Nat} : ∀ (ks : List V) (q : List (E)), IWide S G ix q i → (∀ k ∈ ks, G (S.atA e.a k) (S.atB e.b k)) → e.p.length + 1 ≤ i → IWide S G ix (ks.foldl (fun l k => S.iadd l (S.child e k)) q) i
  | [], _, h, _, _ => h
  | k :: ks, q, h, hg, hp => by
    simp only [List.foldl_cons]
    exact IWide.fold hI ks _ (h.add hI (hg k (by simp)) (by simp [Sys.child]; omega)) (fun k' hk' => hg k' (by simp [hk'])) hp

theorem IReach.wide {S : Sys} {G : V → V → Prop} {ix : V → V → Nat} {N : Nat} (hF : Nexts S G) (hI : Ix S G ix N) {r : E} (hr : G r.a r.b) (hp0 : r.p = []) {j : Nat} {q : List (E)} (h : IReach S r j q) : IWide S G ix q j := by
  induction h with
  | start => exact IWide.add hI ⟨⟨by simp, by simp, by simp⟩, by simp⟩ hr (by simp [hp0])
  | @step j q e h1 h2 h3 ih =>
    have he : e ∈ q := List.mem_of_getElem? h2
    have hl := ih.live e he
    have h3' : S.tab e.a = true ∧ S.tab e.b = true := by unfold Sys.live Sys.cp at hl; simp at hl; exact hl.1
    exact IWide.fold hI _ _ ⟨ih.wide.more, ih.live⟩ (hF _ _ (ih.wide.good e he) h3'.1 h3'.2) (by have := ih.wide.path e he; omega)

theorem IWide.len {S : Sys} {G : V → V → Prop} {ix : V → V → Nat} {N i : Nat} (hI : Ix S G ix N) {q : List (E)} (h : IWide S G ix q i) : q.length ≤ N := by
  have h1 := h.wide.few hI
  have : q.filter S.cp = q := List.filter_eq_self.2 (fun e he => by have := h.live e he; unfold Sys.live at this; simp at this; exact this.1)
  rw [this] at h1
  exact h1


end Go.Proofs.YtgflalfiopnmnaaGreatDoor.Aw
