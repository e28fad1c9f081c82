import Derived.Test.YtgflalfiopnmnabCnSpec
import Derived.Deep.RegionHeld3
import Derived.Test.YtgflalfiopnmnabGkLawa
import Derived.Test.YtgflalfiopnmnabCnIm2
import Derived.Test.YtgflalfiopnmnabVlOrd
import Derived.Test.YtgflalfiopnmnabVlSp
import Derived.Test.YtgflalfiopnmnabGrMema
import Derived.Test.YtgflalfiopnmnabGrSza
import Derived.ProofKit
import Derived.OpenShut
import Derived.ShutString
import Derived.ChangeOld
import Derived.Lib.SmallJoins
import Derived.Deep.Slices
import Derived.Test.YtgflalfiopnmnabGrOpena
import Derived.Test.YtgflalfiopnmnabGrToa
import Derived.Test.YtgflalfiopnmnabGrTo2a
import Derived.Test.YtgflalfiopnmnabGrTo3a
import Derived.Test.YtgflalfiopnmnabGrEqa
import Derived.Test.YtgflalfiopnmnabGrEq2a
import Derived.Test.YtgflalfiopnmnabRows
import Derived.Test.YtgflalfiopnmnabLkLink2
namespace Go.Proofs.Ytgflalfiopnmnab
open Go.RowKit Vl

/-- The digits of k ahead of out. -/
def digs (k : Nat) (out : ByteArray) : ByteArray := if k = 0 then out else digs (k / 10) (strOfNums [48 + (k : Int) % 10] ++ out)
termination_by k
decreasing_by omega
theorem digs_zero (out : ByteArray) : digs 0 out = out := by rw [digs]; simp
theorem digs_pos {k : Nat} (h : ¬ k = 0) (out : ByteArray) : digs k out = digs (k / 10) (strOfNums [48 + (k : Int) % 10] ++ out) := by rw [digs]; simp [h]
/-- The text of a mark. -/
def markT (k : Nat) : ByteArray := ⟨#[109]⟩ ++ digs k ⟨#[]⟩

end Go.Proofs.Ytgflalfiopnmnab

namespace Go.Proofs.Ytgflalfiopnmnab
open Go.RowKit Vl

/-- Cell i of marked pairs. -/
def mkc (k i : Nat) : Value := if i % 8 = 2 ∨ i % 8 = 6 then .string (markT (k + i)) else .int .i64 ((k + i : Nat) : Int)
theorem mkc_int {k c d : Nat} {q : Int} (hd : d < 8) (h2 : d ≠ 2) (h6 : d ≠ 6) (hq : q = k + c * 8 + d) : mkc k (c * 8 + d) = .int .i64 q := by
  unfold mkc
  rw [if_neg (by omega), hq]
  congr 1
  omega
theorem mkc_text {k c d q : Nat} (hd : d = 2 ∨ d = 6) (hq : q = k + c * 8 + d) : mkc k (c * 8 + d) = .string (markT q) := by
  unfold mkc
  rw [if_pos (by omega), hq, Nat.add_assoc]

/-- The first p cells are marked. -/
def Mk (w : World) (B cap k p : Nat) (f : Nat → Value) : Prop := w.rowIs B 63 cap (fun i => if i < p then mkc k i else f i)
theorem Mk.step {w : World} {B cap k p : Nat} {f : Nat → Value} {v : Value} (h : Mk w B cap k p f) (hv : mkc k p = v) : Mk (w.setCell ⟨B, p, none⟩ v) B cap k (p + 1) f := by
  refine ((show w.rowIs B _ _ _ from h).set p v).congr (fun i _ => ?_)
  by_cases e : i = p
  · subst e; rw [if_pos rfl, if_pos (by omega), hv]
  · rw [if_neg e]
    by_cases h' : i < p
    · rw [if_pos h', if_pos (by omega)]
    · rw [if_neg h', if_neg (by omega)]
theorem Mk.below {w w' : World} {B cap k p : Nat} {f : Nat → Value} (h : Mk w B cap k p f) (hb : Below w.heap.size w w') : Mk w' B cap k p f := h.of_block (hb.block B h.lt)
theorem Mk.cell {w : World} {B cap k p : Nat} {f : Nat → Value} (h : Mk w B cap k p f) {i : Nat} (hi : i < cap) (hp : p ≤ i) : w.cell? ⟨B, i, none⟩ = some (f i) := by
  have := (show w.rowIs B _ _ _ from h).cell hi
  rw [if_neg (by omega)] at this
  exact this

end Go.Proofs.Ytgflalfiopnmnab

namespace Go.Proofs.Ytgflalfiopnmnab
open Go.RowKit Vl

/-- Marked pairs, as they are read. -/
def MkAt (w : World) (B k L : Nat) : Prop := ∀ i, i < L * 8 → w.cell? ⟨B, i, none⟩ = some (mkc k i)
theorem Mk.at {w : World} {B cap k L : Nat} {f : Nat → Value} (h : Mk w B cap k (L * 8) f) (hc : L * 8 ≤ cap) : MkAt w B k L := fun i hi => by
  have := (show w.rowIs B _ _ _ from h).cell (i := i) (by omega)
  rw [if_pos hi] at this
  exact this
theorem MkAt.below {w w' : World} {B k L : Nat} (h : MkAt w B k L) (hb : Below w.heap.size w w') : MkAt w' B k L := fun i hi => (hb.cell (p := ⟨B, i, none⟩) (World.block_lt_of_cell? _ _ (h i hi))).trans (h i hi)

theorem MkAt.cells {w : World} {B k L c q : Nat} (h : MkAt w B k L) (hc : c < L) (hq : q = k + c * 8) :
    w.cell? ⟨B, c * 8, none⟩ = some (.int .i64 (q : Int)) ∧ w.cell? ⟨B, c * 8 + 1, none⟩ = some (.int .i64 ((q : Int) + 1)) ∧ w.cell? ⟨B, c * 8 + 2, none⟩ = some (.string (markT (q + 2))) ∧ w.cell? ⟨B, c * 8 + 3, none⟩ = some (.int .i64 ((q : Int) + 1 + 1 + 1)) ∧ w.cell? ⟨B, c * 8 + 4, none⟩ = some (.int .i64 ((q : Int) + 1 + 1 + 1 + 1)) ∧ w.cell? ⟨B, c * 8 + 5, none⟩ = some (.int .i64 ((q : Int) + 1 + 1 + 1 + 1 + 1)) ∧ w.cell? ⟨B, c * 8 + 6, none⟩ = some (.string (markT (q + 6))) ∧ w.cell? ⟨B, c * 8 + 7, none⟩ = some (.int .i64 ((q : Int) + 1 + 1 + 1 + 1 + 1 + 1 + 1)) := by
  have g : ∀ d, d < 8 → w.cell? ⟨B, c * 8 + d, none⟩ = some (mkc k (c * 8 + d)) := fun d hd => h _ (by omega)
  refine ⟨?_, ?_, ?_, ?_, ?_, ?_, ?_, ?_⟩
  · rw [← mkc_int (k := k) (c := c) (d := 0) (by omega) (by omega) (by omega) (by omega)]; exact g 0 (by omega)
  · rw [← mkc_int (k := k) (c := c) (d := 1) (by omega) (by omega) (by omega) (by omega)]; exact g 1 (by omega)
  · rw [← mkc_text (k := k) (c := c) (d := 2) (Or.inl rfl) (by omega)]; exact g 2 (by omega)
  · rw [← mkc_int (k := k) (c := c) (d := 3) (by omega) (by omega) (by omega) (by omega)]; exact g 3 (by omega)
  · rw [← mkc_int (k := k) (c := c) (d := 4) (by omega) (by omega) (by omega) (by omega)]; exact g 4 (by omega)
  · rw [← mkc_int (k := k) (c := c) (d := 5) (by omega) (by omega) (by omega) (by omega)]; exact g 5 (by omega)
  · rw [← mkc_text (k := k) (c := c) (d := 6) (Or.inr rfl) (by omega)]; exact g 6 (by omega)
  · rw [← mkc_int (k := k) (c := c) (d := 7) (by omega) (by omega) (by omega) (by omega)]; exact g 7 (by omega)

theorem keep1m {w0 w w' : World} {a : Addr} {x : Value} (h : w.cell? a = some x ∧ Hid (Below w0.heap.size w0 w)) (hb : Below w.heap.size w w') : w'.cell? a = some x ∧ Hid (Below w0.heap.size w0 w') :=
  ⟨(hb.cell (World.block_lt_of_cell? _ _ h.1)).trans h.1, grw h.2.out hb⟩

end Go.Proofs.Ytgflalfiopnmnab

namespace Go.Proofs.Ytgflalfiopnmnab
open Go.RowKit Vl

/-- The first mark of table r. -/
def koff (k : Nat) (L : Nat → Nat) : Nat → Nat
  | 0 => k
  | r + 1 => koff k L r + L r * 8
theorem koff_le {k n b : Nat} {L : Nat → Nat} (h : ∀ r, r < n → L r ≤ b) : ∀ r, r ≤ n → koff k L r ≤ k + r * (b * 8)
  | 0, _ => by simp [koff]
  | r + 1, hr => by
    have h1 := koff_le (k := k) h r (by omega)
    have h2 := h r (by omega)
    show koff k L r + L r * 8 ≤ _
    have : L r * 8 ≤ b * 8 := Nat.mul_le_mul_right 8 h2
    have e : (r + 1) * (b * 8) = r * (b * 8) + b * 8 := Nat.succ_mul _ _
    omega
theorem koff_pos {k : Nat} {L : Nat → Nat} (h : 0 < k) : ∀ r, 0 < koff k L r
  | 0 => h
  | r + 1 => by have := koff_pos (L := L) h r; show 0 < koff k L r + L r * 8; omega

/-- Tables whose pairs may be written. -/
structure MTabs (w : World) (ta : Option Addr) (n TB : Nat) (A : Nat → Option Addr) (L C RB cap : Nat → Nat) (f : Nat → Nat → Value) : Prop where
  top : 0 < n → ta = some ⟨TB, 0, none⟩
  tab : ∀ r, r < n → w.cell? ⟨TB, r, none⟩ = some (.slice (A r) (L r) (C r))
  adr : ∀ r, r < n → 0 < L r → A r = some ⟨RB r, 0, none⟩
  row : ∀ r, r < n → 0 < L r → w.rowIs (RB r) 63 (cap r) (f r)
  fit : ∀ r, r < n → 0 < L r → L r * 8 ≤ cap r
  ne : ∀ r, r < n → 0 < L r → RB r ≠ TB
  dis : ∀ r s, r < s → s < n → 0 < L r → 0 < L s → RB r ≠ RB s

/-- Marked tables, as they are read. -/
structure HTabs (w : World) (ta : Option Addr) (n TB k : Nat) (A : Nat → Option Addr) (L C RB : Nat → Nat) : Prop where
  top : 0 < n → ta = some ⟨TB, 0, none⟩
  tab : ∀ r, r < n → w.cell? ⟨TB, r, none⟩ = some (.slice (A r) (L r) (C r))
  adr : ∀ r, r < n → 0 < L r → A r = some ⟨RB r, 0, none⟩
  row : ∀ r, r < n → 0 < L r → MkAt w (RB r) (koff k L r) (L r)
theorem HTabs.below {w w' : World} {ta : Option Addr} {n TB k : Nat} {A : Nat → Option Addr} {L C RB : Nat → Nat} (h : HTabs w ta n TB k A L C RB) (hb : Below w.heap.size w w') : HTabs w' ta n TB k A L C RB :=
  ⟨h.top, fun r hr => (hb.cell (p := ⟨TB, r, none⟩) (World.block_lt_of_cell? _ _ (h.tab r hr))).trans (h.tab r hr), h.adr, fun r hr h0 => (h.row r hr h0).below hb⟩

end Go.Proofs.Ytgflalfiopnmnab

namespace Go.Proofs.Ytgflalfiopnmnab
open Go.RowKit Vl

theorem MTabs.below {w w' : World} {ta : Option Addr} {n TB : Nat} {A : Nat → Option Addr} {L C RB cap : Nat → Nat} {f : Nat → Nat → Value} (h : MTabs w ta n TB A L C RB cap f) (hb : Below w.heap.size w w') : MTabs w' ta n TB A L C RB cap f :=
  ⟨h.top, fun r hr => (hb.cell (p := ⟨TB, r, none⟩) (World.block_lt_of_cell? _ _ (h.tab r hr))).trans (h.tab r hr), h.adr, fun r hr h0 => (h.row r hr h0).of_block (hb.block _ (h.row r hr h0).lt), h.fit, h.ne, h.dis⟩

end Go.Proofs.Ytgflalfiopnmnab

namespace Go.Proofs.Ytgflalfiopnmnab
open Go.RowKit Vl

open Classical in
/-- The canonical graph, or the empty one. -/
noncomputable def cnN (n : Nat) (u : V) (L : Nat → Nat) (K X : Nat → Nat → V) : Nat := if OkG n u L K X then (order n u L X).length else 0
open Classical in
noncomputable def cnU (n : Nat) (u : V) (L : Nat → Nat) (K X : Nat → Nat → V) : V := if OkG n u L K X then renum (order n u L X) u else zeroV

theorem CanonIs.all {w w' : World} {e : Ending} {n : Nat} {u : V} {L : Nat → Nat} {K X : Nat → Nat → V} (h : CanonIs w w' e n u L K X) : ∃ (tv : Value) (PV : Nat → Value) (base : Nat), w.heap.size ≤ base ∧ e = .returned (.agg #[.int .i64 (cnU n u L K X).k, .int .i64 (cnU n u L K X).n, .string (cnU n u L K X).s, .int .i64 (cnU n u L K X).a, tv]) ∧ OTab w' base tv (cnN n u L K X) PV (cL (order n u L X) L) (cK (order n u L X) K) (cX (order n u L X) X) := by
  unfold cnU cnN
  rcases h with ⟨hG, tv, PV, base, h1, h2, h3⟩ | ⟨hN, h2⟩
  · rw [if_pos hG, if_pos hG]
    exact ⟨tv, PV, base, h1, h2, h3⟩
  · rw [if_neg hN, if_neg hN]
    exact ⟨.slice none 0 0, fun _ => .nilIface, w.heap.size, Nat.le_refl _, h2, OTab.nil _ _ _ _ _ _⟩

theorem renum_s (S : List Nat) (v : V) : (renum S v).s = v.s := by
  unfold renum
  split <;> rfl
theorem small_can {n : Nat} {u : V} {L : Nat → Nat} {K X : Nat → Nat → V} (h : Small 1048576 n L K X) : cnN n u L K X ≤ 1048576 ∧ Small 1048576 (cnN n u L K X) (cL (order n u L X) L) (cK (order n u L X) K) (cX (order n u L X) X) := by
  unfold cnN
  by_cases hG : OkG n u L K X
  · rw [if_pos hG]
    have hf := (order_all hG).1
    refine ⟨by have := hf.len; have := hG.len; omega, fun r hr => ?_⟩
    have hm : (order n u L X).getD r 0 < n := by
      rw [List.getD_eq_getElem?_getD, List.getElem?_eq_getElem hr]
      exact hf.lt _ (List.getElem_mem hr)
    obtain ⟨h1, h2⟩ := h _ hm
    exact ⟨h1, fun c hc => ⟨(h2 c hc).1, by unfold cX; rw [renum_s]; exact (h2 c hc).2⟩⟩
  · rw [if_neg hG]
    exact ⟨by omega, fun r hr => by omega⟩

/-- Whatever stands in a row. -/
theorem rowIs_any {w : World} {b t : Nat} {cur : Array Value} (h : w.heap[b]? = some (.cells cur t (0, 0))) : w.rowIs b t cur.size (fun i => (cur[i]?).getD .nilIface) :=
  ⟨cur, h, rfl, fun i hi => by simp [hi]⟩

/-- Tables that a call made may be marked. -/
theorem OTab.marks {w : World} {base : Nat} {tv : Value} {i : Nat} {PV : Nat → Value} {L : Nat → Nat} {K X : Nat → Nat → V} (h : OTab w base tv i PV L K X) :
    ∃ (cap : Nat → Nat) (f : Nat → Nat → Value), MTabs w (slA tv) i (slB tv) (fun j => slA (PV j)) L (fun j => slC (PV j)) (fun j => slB (PV j)) cap f ∧ ∀ j, j < i → 0 < L j → base ≤ slB (PV j) := by
  have each : ∀ j, ∃ (c : Nat) (f : Nat → Value), j < i → 0 < L j → slA (PV j) = some ⟨slB (PV j), 0, none⟩ ∧ w.rowIs (slB (PV j)) 63 c f ∧ L j * 8 ≤ c ∧ base ≤ slB (PV j) ∧ (PV j).ownBlock = some (slB (PV j)) := by
    intro j
    by_cases hj : j < i ∧ 0 < L j
    · rcases (h.rows j hj.1).2 with ⟨_, h0⟩ | ⟨g, cap, cur, hv, hge, hh, hl, _, hs, _⟩
      · omega
      · refine ⟨cur.size, (fun i => (cur[i]?).getD .nilIface), fun _ _ => ?_⟩
        have e1 : slB (PV j) = g := by rw [hv]; rfl
        rw [e1]
        refine ⟨by rw [hv]; rfl, rowIs_any hh, ?_, hge, by rw [hv]; rfl⟩
        rw [hs]
        exact Nat.mul_le_mul_right 8 hl
    · exact ⟨0, fun _ => .nilIface, fun a b => absurd ⟨a, b⟩ hj⟩
  refine ⟨fun j => (each j).choose, fun j => (each j).choose_spec.choose, ⟨fun h0 => ?_, fun r hr => ?_, fun r hr h0 => ((each r).choose_spec.choose_spec hr h0).1, fun r hr h0 => ((each r).choose_spec.choose_spec hr h0).2.1, fun r hr h0 => ((each r).choose_spec.choose_spec hr h0).2.2.1, fun r hr h0 e => ?_, fun r s hrs hs h0 h1 e => ?_⟩, fun j hj h0 => ((each j).choose_spec.choose_spec hj h0).2.2.2.1⟩
  · have := h.tabs.2.top h0
    exact this
  · have := h.tabs.2.tab r hr
    rw [Nat.zero_add] at this
    exact this
  · obtain ⟨c, hc, _⟩ := ((each r).choose_spec.choose_spec hr h0).2.1
    rcases h.own.2 with ⟨_, hn⟩ | ⟨g, cap, cur, hv, _, hh, _⟩
    · omega
    · have e1 : slB tv = g := by rw [hv]; rfl
      rw [e, e1, hh] at hc
      cases hc
  · have h2 := ((each r).choose_spec.choose_spec (by omega) h0).2.2.2.2
    have h3 := ((each s).choose_spec.choose_spec hs h1).2.2.2.2
    rw [← e] at h3
    exact h.dis r s hrs hs _ h2 h3

/-- A copy may be marked. -/
theorem Copied.marks {w0 w : World} {n : Nat} {G L : Nat → Nat} {K X : Nat → Nat → V} {B : Nat} (h : Copied w0 w n G L K X) (hB : w0.heap.size = B) (hr : w.rowIs B 61 n (fun i => .slice (some ⟨G i, 0, none⟩) (L i) (L i))) :
    ∃ f : Nat → Nat → Value, MTabs w (some ⟨B, 0, none⟩) n B (fun r => some ⟨G r, 0, none⟩) L L G (fun r => L r * 8) f := by
  have each : ∀ r, ∃ f, r < n → w.rowIs (G r) 63 (L r * 8) f := fun r => by
    by_cases hr : r < n
    · obtain ⟨f, hf⟩ := h.blk r hr
      exact ⟨f, fun _ => hf⟩
    · exact ⟨fun _ => .nilIface, fun x => absurd x hr⟩
  exact ⟨fun r => (each r).choose, fun _ => rfl, fun r hr' => hr.cell hr', fun r _ _ => rfl, fun r hr' _ => (each r).choose_spec hr', fun r _ _ => Nat.le_refl _, fun r hr' _ e => by have := (h.new r hr').1; omega, fun r s hrs hs _ _ e => by have := h.inc r s hrs hs; omega⟩

/-- What was marked is held. -/
theorem MTabs.held {w w' : World} {ta : Option Addr} {n TB k : Nat} {A : Nat → Option Addr} {L C RB cap : Nat → Nat} {f : Nat → Nat → Value} (h : MTabs w ta n TB A L C RB cap f) (hm : ∀ r, r < n → 0 < L r → Mk w' (RB r) (cap r) (koff k L r) (L r * 8) (f r)) (ho : Only (fun x => ∃ j, j < n ∧ x = RB j ∧ 0 < L j) w w') : HTabs w' ta n TB k A L C RB := by
  refine ⟨h.top, fun r hr => ho.cell (h.tab r hr) (fun ⟨j, hj, e, h0⟩ => h.ne j hj h0 e.symm), h.adr, fun r hr h0 i hi => ?_⟩
  have := (show World.rowIs _ _ _ _ _ from hm r hr h0).cell (Nat.lt_of_lt_of_le hi (h.fit r hr h0))
  rw [if_pos hi] at this
  exact this

end Go.Proofs.Ytgflalfiopnmnab

namespace Go.Proofs.Ytgflalfiopnmnab
open Go.RowKit Vl
open Go.ChangeShapes Go.WideShapes Go.ChangeAt Go.Joins

/-- A call's answer is a graph in memory of its own. -/
def GrRes (w w' : World) (e : Ending) (N : Nat) (U : V) (L : Nat → Nat) (K X : Nat → Nat → V) : Prop :=
  ∃ (ta : Option Addr) (tc : Nat) (PV : Nat → Value) (base : Nat), w.heap.size ≤ base ∧ e = .returned (.agg #[.int .i64 U.k, .int .i64 U.n, .string U.s, .int .i64 U.a, .slice ta N tc]) ∧ OTab w' base (.slice ta N tc) N PV L K X

theorem CanonIs.res {w w' : World} {e : Ending} {n : Nat} {u : V} {L : Nat → Nat} {K X : Nat → Nat → V} (h : CanonIs w w' e n u L K X) : GrRes w w' e (cnN n u L K X) (cnU n u L K X) (cL (order n u L X) L) (cK (order n u L X) K) (cX (order n u L X) X) := by
  obtain ⟨tv, PV, base, h1, h2, h3⟩ := h.all
  obtain ⟨ta, tc, rfl, _⟩ := owns_form h3.own
  exact ⟨ta, tc, PV, base, h1, h2, h3⟩

end Go.Proofs.Ytgflalfiopnmnab

namespace Go.Proofs.Ytgflalfiopnmnab
open Go.RowKit Vl

/-- 'toVal'. -/
theorem toVal_any (v : V) (w : World) :
    Calls Try.prog 18 #[.agg #[.int .i64 v.k, .int .i64 v.n, .string v.s, .int .i64 v.a]] w fun e w' => e = .returned (.agg #[.int .i64 v.k, .int .i64 v.n, .string v.s, .int .i64 v.a]) ∧ Below w.heap.size w w' := by
  go_enter Try.func18, Try.ntmps18
  go_wp2
  refine bodyPost_ret (v := .agg #[.int .i64 v.k, .int .i64 v.n, .string v.s, .int .i64 v.a]) (by simp [results, Try.results18, go_sem]) rfl ⟨rfl, ?_⟩
  exact (((Below.refl _ _).alloc (Nat.le_refl _) _).alloc (by simp) _).alloc (by simp; omega) _

/-- 'szVal'. -/
theorem szVal_any (v : V) (k : Int) (w : World) (hk0 : 0 ≤ k) (hk1 : k ≤ 1048576) (hs : v.s.size ≤ 9223372036854775807) :
    Calls Try.prog 16 #[.agg #[.int .i64 v.k, .int .i64 v.n, .string v.s, .int .i64 v.a], .int .i64 k] w fun e w' => e = .returned (.int .i64 (if k < v.s.size then -1 else k - v.s.size)) ∧ Below w.heap.size w w' := by
  have hb0 : Hid (Below w.heap.size w (w.alloc (Obj.cells #[.int .i64 v.k, .int .i64 v.n, .string v.s, .int .i64 v.a] 23))) := (Below.refl _ _).alloc (Nat.le_refl _) _
  by_cases h : k - v.s.size < 0
  · rw [if_pos (by omega)]
    go_enter Try.func16, Try.ntmps16
    go_wp2
    go_ret
    exact ⟨rfl, hb0.out⟩
  · rw [if_neg (by omega)]
    go_enter Try.func16, Try.ntmps16
    go_wp2
    go_ret
    exact ⟨rfl, hb0.out⟩

end Go.Proofs.Ytgflalfiopnmnab

namespace Go.Proofs.Ytgflalfiopnmnab
open Go.RowKit Vl

set_option maxHeartbeats 400000 in
/-- 'szPair'. -/
theorem szPair_any (u v : V) (k : Int) (w : World) (hk0 : 0 ≤ k) (hk1 : k ≤ 1048576) (hu : u.s.size ≤ 9223372036854775807) (hv : v.s.size ≤ 9223372036854775807) :
    Calls Try.prog 114 #[.agg #[.int .i64 u.k, .int .i64 u.n, .string u.s, .int .i64 u.a, .int .i64 v.k, .int .i64 v.n, .string v.s, .int .i64 v.a], .int .i64 k] w fun e w' => (∃ q : Int, e = .returned (.int .i64 q) ∧ q ≤ k ∧ (0 ≤ q → u.s.size ≤ 1048576 ∧ v.s.size ≤ 1048576)) ∧ Below w.heap.size w w' := by
  have hb0 : Hid (Below w.heap.size w (w.alloc (Obj.cells #[.int .i64 u.k, .int .i64 u.n, .string u.s, .int .i64 u.a, .int .i64 v.k, .int .i64 v.n, .string v.s, .int .i64 v.a] 191))) := (Below.refl _ _).alloc (Nat.le_refl _) _
  have hc : ∀ w', Below (w.alloc (Obj.cells #[.int .i64 u.k, .int .i64 u.n, .string u.s, .int .i64 u.a, .int .i64 v.k, .int .i64 v.n, .string v.s, .int .i64 v.a] 191)).heap.size (w.alloc (Obj.cells #[.int .i64 u.k, .int .i64 u.n, .string u.s, .int .i64 u.a, .int .i64 v.k, .int .i64 v.n, .string v.s, .int .i64 v.a] 191)) w' →
      w'.cell? ⟨w.heap.size, 4, none⟩ = some (.int .i64 v.k) ∧ w'.cell? ⟨w.heap.size, 5, none⟩ = some (.int .i64 v.n) ∧ w'.cell? ⟨w.heap.size, 6, none⟩ = some (.string v.s) ∧ w'.cell? ⟨w.heap.size, 7, none⟩ = some (.int .i64 v.a) := fun w' h => by
    refine ⟨?_, ?_, ?_, ?_⟩ <;> (rw [h.cell (by simp)]; simp [World.cell?_alloc_new])
  go_enter Try.func114, Try.ntmps114
  go_wp2_with fail
  refine (szVal_any u k _ hk0 hk1 hu).mono ?_
  rintro e w1 ⟨rfl, hb1⟩
  obtain ⟨c4, c5, c6, c7⟩ := hc w1 hb1
  have HW1 : Hid (Below w.heap.size w w1) := grw hb0.out hb1
  clear hc hb1 hb0
  by_cases h1 : k < u.s.size
  · rw [if_pos h1]
    go_wp2
    go_ret
    exact ⟨⟨_, rfl, by omega, by omega⟩, HW1.out⟩
  · rw [if_neg h1]
    have hn : ¬ k - u.s.size < 0 := by omega
    go_wp2_with fail
    refine (szVal_any v _ _ (by omega) (by omega) hv).mono ?_
    rintro e w2 ⟨rfl, hb2⟩
    have HW2 : Hid (Below w.heap.size w w2) := grw HW1.out hb2
    clear hb2 HW1 c4 c5 c6 c7
    by_cases h2 : k - u.s.size < v.s.size
    · rw [if_pos h2]
      go_wp2
      go_ret
      exact ⟨⟨_, rfl, by omega, by omega⟩, HW2.out⟩
    · rw [if_neg h2]
      have hn2 : ¬ k - u.s.size - v.s.size < 0 := by omega
      go_wp2
      go_ret
      exact ⟨⟨_, rfl, by omega, by omega⟩, HW2.out⟩

end Go.Proofs.Ytgflalfiopnmnab

namespace Go.Proofs.Ytgflalfiopnmnab
open Go.RowKit Vl

set_option maxHeartbeats 1000000 in
set_option maxRecDepth 100000 in
/-- 'szPairS': what is not too much has at most so many pairs, and its texts are not too long. -/
theorem szPairS_any (pa : Option Addr) (L C B O : Nat) (K X : Nat → V) (k : Int) (w : World) (hk0 : 0 ≤ k) (hk1 : k ≤ 1048576) (hL : L ≤ 9223372036854775807)
    (HS : Hid (∀ c, c < L → (K c).s.size ≤ 9223372036854775807 ∧ (X c).s.size ≤ 9223372036854775807)) (HP : Hid (PairsAt w pa L B O K X)) :
    Calls Try.prog 99 #[.slice pa L C, .int .i64 k] w fun e w' => (∃ q : Int, e = .returned (.int .i64 q) ∧ q ≤ k ∧ (0 ≤ q → L ≤ 1048576 ∧ ∀ c, c < L → (K c).s.size ≤ 1048576 ∧ (X c).s.size ≤ 1048576)) ∧ Below w.heap.size w w' := by
  by_cases h : k - L < 0
  · go_enter Try.func99, Try.ntmps99
    go_wp2
    go_ret
    exact ⟨⟨_, rfl, by omega, by omega⟩, Below.refl _ _⟩
  · go_enter Try.func99, Try.ntmps99
    go_wp2
    go_loopw [1, 5] (fun l i wr => ∃ (c : Nat) (q : Int), c ≤ L ∧ i = .int .i64 c ∧ l = .int .i64 q ∧ 0 ≤ q ∧ q ≤ k ∧ Hid (∀ j, j < c → (K j).s.size ≤ 1048576 ∧ (X j).s.size ≤ 1048576) ∧ Hid (Below w.heap.size w wr)) (fun _ i _ => L - (intOf i).toNat)
    case atStart => exact ⟨0, _, Nat.zero_le _, rfl, rfl, by omega, by omega, fun r hr => absurd hr (Nat.not_lt_zero _), Below.refl _ _⟩
    case round =>
      obtain ⟨c, q, hc, rfl, rfl, hq0, hq1, HZ, HW⟩ := hrel
      by_cases hlt : c < L
      · obtain rfl := HP.out.top (by omega)
        obtain ⟨⟨k0, k1, k2, k3⟩, ⟨x0, x1, x2, x3⟩⟩ := (HP.out.below HW.out).cells hlt
        have hs := HS.out c hlt
        go_wp2_with fail
        refine (szPair_any (K c) (X c) q _ hq0 (by omega) hs.1 hs.2).mono ?_
        rintro e w1 ⟨⟨q1, rfl, hq2, hq3⟩, hb1⟩
        have HW1 : Hid (Below w.heap.size w w1) := grw HW.out hb1
        clear hb1 HW k0 k1 k2 k3 x0 x1 x2 x3 hs
        by_cases hq : q1 < 0
        · clear hq3
          go_wp2
          go_ret
          exact ⟨⟨_, rfl, by omega, by omega⟩, HW1.out⟩
        · have HZ1 : Hid (∀ j, j < c + 1 → (K j).s.size ≤ 1048576 ∧ (X j).s.size ≤ 1048576) := show ∀ j, j < c + 1 → _ from fun j hj => by
            by_cases e : j = c
            · subst e; exact hq3 (by omega)
            · exact HZ.out j (by omega)
          clear hq3 HZ
          go_wp2
          go_roundw
          case rel => exact ⟨c + 1, q1, by omega, by go_num, rfl, by omega, by omega, HZ1, HW1⟩
          case measure => simp [intOf]; omega
      · have HK : Hid (c = L) := show c = L by omega
        go_wp2
        go_ret
        exact ⟨⟨_, rfl, by omega, fun _ => ⟨by omega, by rw [← HK.out]; exact HZ.out⟩⟩, HW.out⟩

/-- 'szTable'. -/
theorem szTable_any (pa : Option Addr) (L C B O : Nat) (K X : Nat → V) (k : Int) (w : World) (hk0 : 0 ≤ k) (hk1 : k ≤ 1048576) (hL : L ≤ 9223372036854775807)
    (HS : Hid (∀ c, c < L → (K c).s.size ≤ 9223372036854775807 ∧ (X c).s.size ≤ 9223372036854775807)) (HP : Hid (PairsAt w pa L B O K X)) :
    Calls Try.prog 75 #[.agg #[.slice pa L C], .int .i64 k] w fun e w' => (∃ q : Int, e = .returned (.int .i64 q) ∧ q ≤ k ∧ (0 ≤ q → L ≤ 1048576 ∧ ∀ c, c < L → (K c).s.size ≤ 1048576 ∧ (X c).s.size ≤ 1048576)) ∧ Below w.heap.size w w' := by
  have hb0 : Hid (Below w.heap.size w (w.alloc (Obj.cells #[.slice pa L C] 125))) := (Below.refl _ _).alloc (Nat.le_refl _) _
  have hs := szPairS_any pa L C B O K X k _ hk0 hk1 hL HS (HP.out.below hb0.out)
  go_enter Try.func75, Try.ntmps75
  go_wp2_with fail
  refine hs.mono ?_
  clear hs
  rintro e w1 ⟨⟨q1, rfl, hq2, hq3⟩, hb1⟩
  have HW1 : Hid (Below w.heap.size w w1) := grw hb0.out hb1
  have HQ3 : Hid _ := hq3
  clear hb1 hb0 hq3
  by_cases hq : q1 < 0
  · go_wp2
    go_ret
    exact ⟨⟨_, rfl, by omega, by omega⟩, HW1.out⟩
  · go_wp2
    go_ret
    exact ⟨⟨_, rfl, by omega, HQ3.out⟩, HW1.out⟩

set_option maxHeartbeats 1000000 in
set_option maxRecDepth 100000 in
/-- 'szTableS'. -/
theorem szTableS_any (ta : Option Addr) (n cp TB TO : Nat) (A : Nat → Option Addr) (L C RB RO : Nat → Nat) (K X : Nat → Nat → V) (k : Int) (w : World) (hk0 : 0 ≤ k) (hk1 : k ≤ 1048576) (hn : n ≤ 9223372036854775807)
    (HS : Hid (Small 9223372036854775807 n L K X)) (HT : Hid (TabsAt w ta n TB TO A L C RB RO K X)) :
    Calls Try.prog 43 #[.slice ta n cp, .int .i64 k] w fun e w' => (∃ q : Int, e = .returned (.int .i64 q) ∧ q ≤ k ∧ (0 ≤ q → n ≤ 1048576 ∧ Small 1048576 n L K X)) ∧ Below w.heap.size w w' := by
  by_cases h : k - n < 0
  · go_enter Try.func43, Try.ntmps43
    go_wp2
    go_ret
    exact ⟨⟨_, rfl, by omega, by omega⟩, Below.refl _ _⟩
  · go_enter Try.func43, Try.ntmps43
    go_wp2
    go_loopw [1, 5] (fun l i wr => ∃ (c : Nat) (q : Int), c ≤ n ∧ i = .int .i64 c ∧ l = .int .i64 q ∧ 0 ≤ q ∧ q ≤ k ∧ Hid (Small 1048576 c L K X) ∧ Hid (Below w.heap.size w wr)) (fun _ i _ => n - (intOf i).toNat)
    case atStart => exact ⟨0, _, Nat.zero_le _, rfl, rfl, by omega, by omega, fun r hr => absurd hr (Nat.not_lt_zero _), Below.refl _ _⟩
    case round =>
      obtain ⟨c, q, hc, rfl, rfl, hq0, hq1, HZ, HW⟩ := hrel
      by_cases hlt : c < n
      · obtain rfl := HT.out.top (by omega)
        have t0 := (HT.out.below HW.out).tab c hlt
        have hz := szTable_any (A c) (L c) (C c) (RB c) (RO c) (K c) (X c) q wr hq0 (by omega) (HS.out c hlt).1 (HS.out c hlt).2 ((HT.out.below HW.out).row c hlt)
        go_wp2_with fail
        refine hz.mono ?_
        clear hz
        rintro e w1 ⟨⟨q1, rfl, hq2, hq3⟩, hb1⟩
        have HW1 : Hid (Below w.heap.size w w1) := grw HW.out hb1
        clear hb1 HW t0
        by_cases hq : q1 < 0
        · clear hq3
          go_wp2
          go_ret
          exact ⟨⟨_, rfl, by omega, by omega⟩, HW1.out⟩
        · have HZ1 : Hid (Small 1048576 (c + 1) L K X) := show Small 1048576 (c + 1) L K X from fun j hj => by
            by_cases e : j = c
            · subst e; exact hq3 (by omega)
            · exact HZ.out j (by omega)
          clear hq3 HZ
          go_wp2
          go_roundw
          case rel => exact ⟨c + 1, q1, by omega, by go_num, rfl, by omega, by omega, HZ1, HW1⟩
          case measure => simp [intOf]; omega
      · have HK : Hid (c = n) := show c = n by omega
        go_wp2
        go_ret
        exact ⟨⟨_, rfl, by omega, fun _ => ⟨by omega, by rw [← HK.out]; exact HZ.out⟩⟩, HW.out⟩

set_option maxHeartbeats 1000000 in
set_option maxRecDepth 100000 in
/-- 'szGraph'. -/
theorem szGraph_any (u : V) (ta : Option Addr) (n cp TB TO : Nat) (A : Nat → Option Addr) (L C RB RO : Nat → Nat) (K X : Nat → Nat → V) (k : Int) (w : World) (hk0 : 0 ≤ k) (hk1 : k ≤ 1048576) (hu : u.s.size ≤ 9223372036854775807) (hn : n ≤ 9223372036854775807)
    (HS : Hid (Small 9223372036854775807 n L K X)) (HT : Hid (TabsAt w ta n TB TO A L C RB RO K X)) :
    Calls Try.prog 11 #[.agg #[.int .i64 u.k, .int .i64 u.n, .string u.s, .int .i64 u.a, .slice ta n cp], .int .i64 k] w fun e w' => (∃ q : Int, e = .returned (.int .i64 q) ∧ q ≤ k ∧ (0 ≤ q → u.s.size ≤ 1048576 ∧ n ≤ 1048576 ∧ Small 1048576 n L K X)) ∧ Below w.heap.size w w' := by
  have hb0 : Hid (Below w.heap.size w (w.alloc (Obj.cells #[.int .i64 u.k, .int .i64 u.n, .string u.s, .int .i64 u.a, .slice ta n cp] 26))) := (Below.refl _ _).alloc (Nat.le_refl _) _
  have hc : Hid (∀ w', Below (w.alloc (Obj.cells #[.int .i64 u.k, .int .i64 u.n, .string u.s, .int .i64 u.a, .slice ta n cp] 26)).heap.size (w.alloc (Obj.cells #[.int .i64 u.k, .int .i64 u.n, .string u.s, .int .i64 u.a, .slice ta n cp] 26)) w' →
      w'.cell? ⟨w.heap.size, 4, none⟩ = some (.slice ta n cp)) := show ∀ w', _ from fun w' h => by
    rw [h.cell (by simp)]; simp [World.cell?_alloc_new]
  have HT0 : Hid (TabsAt (w.alloc (Obj.cells #[.int .i64 u.k, .int .i64 u.n, .string u.s, .int .i64 u.a, .slice ta n cp] 26)) ta n TB TO A L C RB RO K X) := HT.out.below hb0.out
  go_enter Try.func11, Try.ntmps11
  go_wp2_with fail
  refine (szVal_any u k _ hk0 hk1 hu).mono ?_
  rintro e w1 ⟨rfl, hb1⟩
  have c4 := hc.out w1 hb1
  have HW1 : Hid (Below w.heap.size w w1) := grw hb0.out hb1
  have HT1 : Hid (TabsAt w1 ta n TB TO A L C RB RO K X) := HT0.out.below hb1
  clear hc hb1 hb0 HT0 HT
  by_cases h1 : k < u.s.size
  · rw [if_pos h1]
    go_wp2
    go_ret
    exact ⟨⟨_, rfl, by omega, by omega⟩, HW1.out⟩
  · rw [if_neg h1]
    have hn1 : ¬ k - u.s.size < 0 := by omega
    have hz := szTableS_any ta n cp TB TO A L C RB RO K X (k - u.s.size) w1 (by omega) (by omega) hn HS HT1
    go_wp2_with fail
    refine hz.mono ?_
    clear hz
    rintro e w2 ⟨⟨q1, rfl, hq2, hq3⟩, hb2⟩
    have HW2 : Hid (Below w.heap.size w w2) := grw HW1.out hb2
    have HQ3 : Hid _ := hq3
    clear hb2 HW1 c4 hq3 HT1
    by_cases hq : q1 < 0
    · go_wp2
      go_ret
      exact ⟨⟨_, rfl, by omega, by omega⟩, HW2.out⟩
    · go_wp2
      go_ret
      exact ⟨⟨_, rfl, by omega, fun h => ⟨by omega, HQ3.out h⟩⟩, HW2.out⟩

end Go.Proofs.Ytgflalfiopnmnab

namespace Go.Proofs.Ytgflalfiopnmnab
open Go.RowKit Vl
open Go.ChangeShapes Go.WideShapes Go.ChangeAt Go.Joins

theorem cellsG_val : Try.prog.cellsOf 23 = 4 := by kernel_rfl
theorem cellsG_pair : Try.prog.cellsOf 191 = 8 := by kernel_rfl
theorem cellsG_table : Try.prog.cellsOf 125 = 1 := by kernel_rfl
theorem cellsG_pairs : Try.prog.cellsOf 123 = 1 := by kernel_rfl
theorem cellsG_tables : Try.prog.cellsOf 24 = 1 := by kernel_rfl
theorem cellsG_graph : Try.prog.cellsOf 26 = 5 := by kernel_rfl

section
variable {H : Type} {enc : TypeId × Value → H} {w : World} {base : Nat} {spare : Nat → Bool} {held : Bool}

theorem opens_val {fuel : Nat} {cs : List Value} {x : DataW H × List MemPlace} (h : DataW.trod enc Try.prog w base spare held fuel 23 cs = some x) : ∃ v : V, cs = vCells v ∧ v.s.size ≤ 9223372036854775807 := by
  obtain ⟨xs, n, _, _, hlen, hl, hf⟩ := DataW.trod_struct Try.underlying23 h
  rw [cellsG_val] at hlen
  obtain ⟨c0, c1, c2, c3, rfl⟩ := four_of hlen
  have hl4 : xs.length = 4 := hl
  have f0 : DataW.trod enc Try.prog w base spare held n 3 (([c0, c1, c2, c3].drop 0).take (Try.prog.cellsOf 3)) = xs[0]? := hf 0 _ rfl
  have f1 : DataW.trod enc Try.prog w base spare held n 2 (([c0, c1, c2, c3].drop 1).take (Try.prog.cellsOf 2)) = xs[1]? := hf 1 _ rfl
  have f2 : DataW.trod enc Try.prog w base spare held n 9 (([c0, c1, c2, c3].drop 2).take (Try.prog.cellsOf 9)) = xs[2]? := hf 2 _ rfl
  have f3 : DataW.trod enc Try.prog w base spare held n 3 (([c0, c1, c2, c3].drop 3).take (Try.prog.cellsOf 3)) = xs[3]? := hf 3 _ rfl
  rw [cellsG_int] at f0 f3
  rw [cellsG_int64] at f1
  rw [cellsG_string] at f2
  obtain ⟨k, rfl⟩ := opens_int Try.underlying3 (c := c0) f0 (isSome_at (by omega))
  obtain ⟨m, rfl⟩ := opens_int Try.underlying2 (c := c1) f1 (isSome_at (by omega))
  obtain ⟨s, rfl, hs⟩ := opens_string Try.underlying9 (c := c2) f2 (isSome_at (by omega))
  obtain ⟨a, rfl⟩ := opens_int Try.underlying3 (c := c3) f3 (isSome_at (by omega))
  exact ⟨⟨k, m, s, a⟩, rfl, hs⟩

theorem opens_pair {fuel : Nat} {cs : List Value} {x : DataW H × List MemPlace} (h : DataW.trod enc Try.prog w base spare held fuel 191 cs = some x) : ∃ u v : V, cs = vCells u ++ vCells v ∧ u.s.size ≤ 9223372036854775807 ∧ v.s.size ≤ 9223372036854775807 := by
  obtain ⟨xs, n, _, _, hlen, hl, hf⟩ := DataW.trod_struct Try.underlying191 h
  rw [cellsG_pair] at hlen
  have hl2 : xs.length = 2 := hl
  have f0 : DataW.trod enc Try.prog w base spare held n 23 ((cs.drop 0).take (Try.prog.cellsOf 23)) = xs[0]? := hf 0 _ rfl
  have f1 : DataW.trod enc Try.prog w base spare held n 23 ((cs.drop 4).take (Try.prog.cellsOf 23)) = xs[1]? := hf 1 _ rfl
  rw [cellsG_val] at f0 f1
  obtain ⟨y0, e0⟩ := Option.isSome_iff_exists.1 (isSome_at (l := xs) (i := 0) (by omega))
  obtain ⟨y1, e1⟩ := Option.isSome_iff_exists.1 (isSome_at (l := xs) (i := 1) (by omega))
  rw [e0] at f0
  rw [e1] at f1
  obtain ⟨u, hu, su⟩ := opens_val f0
  obtain ⟨v, hv, sv⟩ := opens_val f1
  refine ⟨u, v, ?_, su, sv⟩
  obtain ⟨c0, c1, c2, c3, c4, c5, c6, c7, rfl⟩ := eight_of hlen
  rw [← hu, ← hv]
  rfl

/-- A slice of pairs that came in. -/
theorem opens_pairs {fuel : Nat} {c : Value} {x : DataW H × List MemPlace} (h : DataW.trod enc Try.prog w base (fun _ => true) held fuel 123 [c] = some x) :
    ∃ (pa : Option Addr) (L C B O : Nat) (K X : Nat → V), c = .slice pa L C ∧ L ≤ 9223372036854775807 ∧ PairsAt w pa L B O K X ∧ ∀ j, j < L → (K j).s.size ≤ 9223372036854775807 ∧ (X j).s.size ≤ 9223372036854775807 := by
  rcases Deep.open_slice Try.underlying123 h with ⟨hcs, _⟩ | ⟨a, len, cap, m, n, D, Pl, hcs, hb, hl, hm, hmm, hx, hall⟩
  · obtain rfl : c = .slice none 0 0 := by simpa using hcs
    exact ⟨none, 0, 0, 0, 0, fun _ => ⟨0, 0, ⟨#[]⟩, 0⟩, fun _ => ⟨0, 0, ⟨#[]⟩, 0⟩, rfl, by omega, ⟨fun h => by omega, fun j hj => by omega, fun j hj => by omega⟩, fun j hj => by omega⟩
  · obtain rfl : c = .slice (some a) len cap := by simpa using hcs
    unfold maxLen at hm
    simp only [if_true] at hmm
    have each : ∀ j, j < len → ∃ q : V × V, (∀ i v, (vCells q.1 ++ vCells q.2)[i]? = some v → w.cell? (a.add (j * 8 + i)) = some v) ∧ q.1.s.size ≤ 9223372036854775807 ∧ q.2.s.size ≤ 9223372036854775807 := by
      intro j hj
      obtain ⟨cs', h1, h2⟩ := hall j (by omega)
      rw [cellsG_pair] at h1
      obtain ⟨u, v, rfl, su, sv⟩ := opens_pair h2
      obtain ⟨_, hlen, hcell⟩ := World.cells?_some h1
      refine ⟨(u, v), fun i y hy => ?_, su, sv⟩
      have hi : i < 8 := by
        rcases Nat.lt_or_ge i 8 with h | h
        · exact h
        · rw [List.getElem?_eq_none (by simp [vCells]; omega)] at hy; cases hy
      have := hcell i hi
      rw [Deep.add_add, hy] at this
      exact this
    obtain ⟨q, hq⟩ := Deep.choose_lt (α := V × V) (n := len) (p := fun j q => (∀ i v, (vCells q.1 ++ vCells q.2)[i]? = some v → w.cell? (a.add (j * 8 + i)) = some v) ∧ q.1.s.size ≤ 9223372036854775807 ∧ q.2.s.size ≤ 9223372036854775807) each
    have hp : 0 < len → a = ⟨a.block, a.off, none⟩ := fun h0 => plain_of (v := .int .i64 (q 0).1.k) (by have := (hq 0 h0).1 0 _ rfl; simpa using this)
    refine ⟨some a, len, cap, a.block, a.off, fun j => (q j).1, fun j => (q j).2, rfl, by omega, ⟨fun h0 => by rw [← hp h0], fun j hj => ?_, fun j hj => ?_⟩, fun j hj => (hq j hj).2⟩
    all_goals
      have g : ∀ i v, (vCells (q j).1 ++ vCells (q j).2)[i]? = some v → w.cell? ⟨a.block, a.off + (j * 8 + i), none⟩ = some v := fun i v hv => by
        have := (hq j hj).1 i v hv
        rw [hp (by omega), add_plain] at this
        exact this
    · exact ⟨g 0 _ rfl, g 1 _ rfl, g 2 _ rfl, g 3 _ rfl⟩
    · exact ⟨g 4 _ rfl, g 5 _ rfl, g 6 _ rfl, g 7 _ rfl⟩

/-- A slice of tables that came in. -/
theorem opens_tables {fuel : Nat} {c : Value} {x : DataW H × List MemPlace} (h : DataW.trod enc Try.prog w base (fun _ => true) held fuel 24 [c] = some x) :
    ∃ (ta : Option Addr) (n cp TB TO : Nat) (A : Nat → Option Addr) (L C RB RO : Nat → Nat) (K X : Nat → Nat → V), c = .slice ta n cp ∧ n ≤ 9223372036854775807 ∧ TabsAt w ta n TB TO A L C RB RO K X ∧ Small 9223372036854775807 n L K X := by
  rcases Deep.open_slice1 Try.underlying24 cellsG_table h with ⟨hcs, _⟩ | ⟨a, len, cap, m, n, V', D, Pl, hcs, hb, hl, hm, hmm, hx, hall⟩
  · obtain rfl : c = .slice none 0 0 := by simpa using hcs
    exact ⟨none, 0, 0, 0, 0, fun _ => none, fun _ => 0, fun _ => 0, fun _ => 0, fun _ => 0, fun _ _ => ⟨0, 0, ⟨#[]⟩, 0⟩, fun _ _ => ⟨0, 0, ⟨#[]⟩, 0⟩, rfl, by omega, ⟨fun h => by omega, fun j hj => by omega, fun j hj => by omega⟩, fun j hj => by omega⟩
  · obtain rfl : c = .slice (some a) len cap := by simpa using hcs
    unfold maxLen at hm
    simp only [if_true] at hmm
    have each : ∀ r, r < len → ∃ y : Option Addr × Nat × Nat × Nat × Nat × (Nat → V) × (Nat → V), w.cell? (a.add r) = some (.slice y.1 y.2.1 y.2.2.1) ∧ y.2.1 ≤ 9223372036854775807 ∧ PairsAt w y.1 y.2.1 y.2.2.2.1 y.2.2.2.2.1 y.2.2.2.2.2.1 y.2.2.2.2.2.2 ∧ ∀ j, j < y.2.1 → (y.2.2.2.2.2.1 j).s.size ≤ 9223372036854775807 ∧ (y.2.2.2.2.2.2 j).s.size ≤ 9223372036854775807 := by
      intro r hr
      obtain ⟨h1, h2⟩ := hall r (by omega)
      obtain ⟨xs, k, _, _, hlen, hl2, hf⟩ := DataW.trod_struct Try.underlying125 h2
      have hl1 : xs.length = 1 := hl2
      have f0 : DataW.trod enc Try.prog w base (fun _ => true) held k 123 (([V' r].drop 0).take (Try.prog.cellsOf 123)) = xs[0]? := hf 0 _ rfl
      rw [cellsG_pairs] at f0
      obtain ⟨y0, e0⟩ := Option.isSome_iff_exists.1 (isSome_at (l := xs) (i := 0) (by omega))
      rw [e0] at f0
      obtain ⟨pa, L, C, B, O, K, X, hc, hL, hP, hS⟩ := opens_pairs (c := V' r) f0
      exact ⟨(pa, L, C, B, O, K, X), by rw [h1, hc], hL, hP, hS⟩
    obtain ⟨y, hy⟩ := Deep.choose_lt (α := Option Addr × Nat × Nat × Nat × Nat × (Nat → V) × (Nat → V)) (n := len) (p := fun r y => w.cell? (a.add r) = some (.slice y.1 y.2.1 y.2.2.1) ∧ y.2.1 ≤ 9223372036854775807 ∧ PairsAt w y.1 y.2.1 y.2.2.2.1 y.2.2.2.2.1 y.2.2.2.2.2.1 y.2.2.2.2.2.2 ∧ ∀ j, j < y.2.1 → (y.2.2.2.2.2.1 j).s.size ≤ 9223372036854775807 ∧ (y.2.2.2.2.2.2 j).s.size ≤ 9223372036854775807) each
    have hp : 0 < len → a = ⟨a.block, a.off, none⟩ := fun h0 => plain_of (hy 0 h0).1
    refine ⟨some a, len, cap, a.block, a.off, fun r => (y r).1, fun r => (y r).2.1, fun r => (y r).2.2.1, fun r => (y r).2.2.2.1, fun r => (y r).2.2.2.2.1, fun r => (y r).2.2.2.2.2.1, fun r => (y r).2.2.2.2.2.2, rfl, by omega, ⟨fun h0 => by rw [← hp h0], fun r hr => ?_, fun r hr => (hy r hr).2.2.1⟩, fun r hr => ⟨(hy r hr).2.1, (hy r hr).2.2.2⟩⟩
    have := (hy r hr).1
    rw [hp (by omega), add_plain] at this
    exact this

set_option maxRecDepth 100000 in
/-- A graph that came in. -/
theorem opens_graph {r : Reach} {b0 : Nat} {v : Value} {d : DataW H} {p : List MemPlace} (hv : Value.okWide Try.prog w r b0 26 v) (h : DataW.Trod enc Try.prog w base (fun _ => true) held 26 v d p) :
    ∃ (u : V) (ta : Option Addr) (n cp TB TO : Nat) (A : Nat → Option Addr) (L C RB RO : Nat → Nat) (K X : Nat → Nat → V), v = .agg #[.int .i64 u.k, .int .i64 u.n, .string u.s, .int .i64 u.a, .slice ta n cp] ∧ u.s.size ≤ 9223372036854775807 ∧ n ≤ 9223372036854775807 ∧ TabsAt w ta n TB TO A L C RB RO K X ∧ Small 9223372036854775807 n L K X := by
  obtain ⟨cs, rfl, hsz⟩ := okWide_struct Try.underlying26 hv
  obtain ⟨fuel, hf0⟩ := h
  obtain ⟨xs, k, _, _, hlen, hl2, hf⟩ := DataW.trod_struct Try.underlying26 hf0
  have hl : xs.length = 2 := hl2
  have hcs : cs.toList.length = 5 := by rw [Array.length_toList, hsz]; exact cellsG_graph
  obtain ⟨c0, c1, c2, c3, c4, e5⟩ := five_of hcs
  obtain rfl : cs = #[c0, c1, c2, c3, c4] := by cases cs; simp_all
  have f0 : DataW.trod enc Try.prog w base (fun _ => true) held k 23 (([c0, c1, c2, c3, c4].drop 0).take (Try.prog.cellsOf 23)) = xs[0]? := hf 0 _ rfl
  have f1 : DataW.trod enc Try.prog w base (fun _ => true) held k 24 (([c0, c1, c2, c3, c4].drop 4).take (Try.prog.cellsOf 24)) = xs[1]? := hf 1 _ rfl
  rw [cellsG_val] at f0
  rw [cellsG_tables] at f1
  obtain ⟨y0, e0⟩ := Option.isSome_iff_exists.1 (isSome_at (l := xs) (i := 0) (by omega))
  obtain ⟨y1, e1⟩ := Option.isSome_iff_exists.1 (isSome_at (l := xs) (i := 1) (by omega))
  rw [e0] at f0
  rw [e1] at f1
  obtain ⟨u, hu, su⟩ := opens_val (cs := [c0, c1, c2, c3]) f0
  obtain ⟨ta, n, cp, TB, TO, A, L, C, RB, RO, K, X, hc, hn, hT, hS⟩ := opens_tables (c := c4) f1
  unfold vCells at hu
  simp only [List.cons.injEq, and_true] at hu
  obtain ⟨rfl, rfl, rfl, rfl⟩ := hu
  subst hc
  exact ⟨u, ta, n, cp, TB, TO, A, L, C, RB, RO, K, X, rfl, su, hn, hT, hS⟩
end

end Go.Proofs.Ytgflalfiopnmnab

namespace Go.Proofs.Ytgflalfiopnmnab
open Go.RowKit Vl

set_option maxHeartbeats 1000000 in
set_option maxRecDepth 100000 in
/-- 'toPair'. -/
theorem toPair_any (u v : V) (w : World) :
    Calls Try.prog 115 #[.agg #[.int .i64 u.k, .int .i64 u.n, .string u.s, .int .i64 u.a, .int .i64 v.k, .int .i64 v.n, .string v.s, .int .i64 v.a]] w fun e w' => e = .returned (.agg #[.int .i64 u.k, .int .i64 u.n, .string u.s, .int .i64 u.a, .int .i64 v.k, .int .i64 v.n, .string v.s, .int .i64 v.a]) ∧ Below w.heap.size w w' := by
  have A3 : Hid _ := alloc3 w (.cells #[.int .i64 u.k, .int .i64 u.n, .string u.s, .int .i64 u.a, .int .i64 v.k, .int .i64 v.n, .string v.s, .int .i64 v.a] 191) (.cells #[.int .i64 0, .int .i64 0, .string ⟨#[]⟩, .int .i64 0, .int .i64 0, .int .i64 0, .string ⟨#[]⟩, .int .i64 0] 63) (.cells #[.int .i64 0, .int .i64 0, .string ⟨#[]⟩, .int .i64 0, .int .i64 0, .int .i64 0, .string ⟨#[]⟩, .int .i64 0] 63)
  go_enter Try.func115, Try.ntmps115
  go_wp2_with fail
  refine (toVal_any u _).mono ?_
  rintro e w1 ⟨rfl, hb1⟩
  obtain ⟨p0, p1, p2, ps, pb⟩ := A3.out
  have P0 : Hid (w1.heap[w.heap.size]? = _) := (hb1.block _ (by omega)).trans p0
  have P1 : Hid (w1.heap[w.heap.size + 1]? = _) := (hb1.block _ (by omega)).trans p1
  have P2 : Hid (w1.heap[w.heap.size + 2]? = _) := (hb1.block _ (by omega)).trans p2
  have HW1 : Hid (Below w.heap.size w w1) := grw pb hb1
  clear hb1 p0 p1 p2 ps pb A3
  obtain ⟨c0, c1, c2, c3, c4, c5, c6, c7, z0⟩ := cells8 P2.out
  obtain ⟨d0, d1, d2, d3, d4, d5, d6, d7, _⟩ := cells8 P0.out
  go_wp2_with fail
  refine (toVal_any v _).mono ?_
  rintro e w2 ⟨rfl, hb2⟩
  have Q2 : Hid (w2.heap[w.heap.size + 2]? = some (.cells #[.int .i64 u.k, .int .i64 u.n, .string u.s, .int .i64 u.a, .int .i64 0, .int .i64 0, .string ⟨#[]⟩, .int .i64 0] 63 (0, 0))) := by
    rw [hb2.block _ (by simp [World.setCell]; exact blk_lt P2.out)]; exact put8lo P2.out _ _ _ _
  have Q1 : Hid (w2.heap[w.heap.size + 1]? = some (.cells #[.int .i64 0, .int .i64 0, .string ⟨#[]⟩, .int .i64 0, .int .i64 0, .int .i64 0, .string ⟨#[]⟩, .int .i64 0] 63 (0, 0))) := by
    rw [hb2.block _ (by simp [World.setCell]; exact blk_lt P1.out)]; exact (set4_far (by omega)).trans P1.out
  have HW2 : Hid (Below w.heap.size w w2) := grw (HW1.out.trans (set4_below.mono (by omega))) hb2
  clear hb2 P0 P1 P2 HW1 c0 c1 c2 c3 c4 c5 c6 c7 z0 d0 d1 d2 d3 d4 d5 d6 d7
  obtain ⟨c0, c1, c2, c3, c4, c5, c6, c7, z0⟩ := cells8 Q2.out
  obtain ⟨d0, d1, d2, d3, d4, d5, d6, d7, z1⟩ := cells8 Q1.out
  go_wp2
  have F := put8hi (put8lo ((set4_far (w := w2) (B := w.heap.size + 2) (i := 4) (j := 5) (k := 6) (l := 7) (a' := .int .i64 v.k) (b' := .int .i64 v.n) (c' := .string v.s) (d' := .int .i64 v.a) (show w.heap.size + 1 ≠ w.heap.size + 2 by omega)).trans Q1.out) (.int .i64 u.k) (.int .i64 u.n) (.string u.s) (.int .i64 u.a)) (.int .i64 v.k) (.int .i64 v.n) (.string v.s) (.int .i64 v.a)
  have HB : Hid (Below w.heap.size w _) := ((HW2.out.trans (set4_below (w := w2) (B := w.heap.size + 2) (i := 4) (j := 5) (k := 6) (l := 7) (a' := .int .i64 v.k) (b' := .int .i64 v.n) (c' := .string v.s) (d' := .int .i64 v.a) |>.mono (by omega))).trans ((set4_below (B := w.heap.size + 1) (i := 0) (j := 1) (k := 2) (l := 3) (a' := .int .i64 u.k) (b' := .int .i64 u.n) (c' := .string u.s) (d' := .int .i64 u.a)).mono (by omega))).trans ((set4_below (B := w.heap.size + 1) (i := 4) (j := 5) (k := 6) (l := 7) (a' := .int .i64 v.k) (b' := .int .i64 v.n) (c' := .string v.s) (d' := .int .i64 v.a)).mono (by omega))
  obtain ⟨q0, q1, q2, q3, q4, q5, q6, q7, _⟩ := cells8 F
  refine bodyPost_ret (v := .agg #[.int .i64 u.k, .int .i64 u.n, .string u.s, .int .i64 u.a, .int .i64 v.k, .int .i64 v.n, .string v.s, .int .i64 v.a]) (by simp [results, Try.results115, go_sem, q0, q1, q2, q3, q4, q5, q6, q7]) rfl ⟨rfl, HB.out⟩

set_option maxHeartbeats 1000000 in
set_option maxRecDepth 100000 in
/-- 'toPairS'. -/
theorem toPairS_any (pa : Option Addr) (L C B O : Nat) (K X : Nat → V) (w : World) (hL : L ≤ 1048576) (HP : Hid (PairsAt w pa L B O K X)) :
    Calls Try.prog 100 #[.slice pa L C] w fun e w' => e = .returned (.slice (some ⟨w.heap.size, 0, none⟩) L L) ∧ PairsAt w' (some ⟨w.heap.size, 0, none⟩) L w.heap.size 0 K X ∧ (∃ f, w'.rowIs w.heap.size 63 (L * 8) f) ∧ w.heap.size < w'.heap.size ∧ Below w.heap.size w w' := by
  have hmk := run_make_n 59 63 _ 8 80 Try.underlying59 Try.info63 L (by omega) (by omega)
  obtain ⟨z, hz⟩ : ∃ z : Nat → Value, PRow (w.alloc (.cells (madeCells (Value.agg #[.int .i64 0, .int .i64 0, .string ⟨#[]⟩, .int .i64 0, .int .i64 0, .int .i64 0, .string ⟨#[]⟩, .int .i64 0]).cells (L * 8)) 63)) w.heap.size L 0 K X z :=
    ⟨_, (row_made w _ (L * 8) 63).congr (fun i _ => by rw [if_neg (by omega)])⟩
  have HZ : Hid _ := hz
  clear hz
  go_enter Try.func100, Try.ntmps100
  go_wp2
  clear hmk
  go_loopw [4] (fun i wr => ∃ c : Nat, c ≤ L ∧ i = .int .i64 c ∧ Hid (PRow wr w.heap.size L c K X z) ∧ Hid (Below w.heap.size w wr)) (fun i _ => L - (intOf i).toNat)
  case atStart => exact ⟨0, Nat.zero_le _, rfl, HZ, (Below.refl _ _).alloc (Nat.le_refl _) _⟩
  case round =>
    obtain ⟨c, hc, rfl, HR, HW⟩ := hrel
    clear HZ
    by_cases hlt : c < L
    · obtain rfl := HP.out.top (by omega)
      obtain ⟨⟨k0, k1, k2, k3⟩, ⟨x0, x1, x2, x3⟩⟩ := (HP.out.below HW.out).cells hlt
      go_wp2_with fail
      refine (toPair_any (K c) (X c) _).mono ?_
      rintro e w1 ⟨rfl, hb1⟩
      have HR1 : Hid (PRow w1 w.heap.size L c K X z) := HR.out.below hb1
      have HW1 : Hid (Below w.heap.size w w1) := grw HW.out hb1
      clear hb1 HW HR k0 k1 k2 k3 x0 x1 x2 x3
      have c0 := HR1.out.cell (i := c * 8) (by omega)
      have c1 := HR1.out.cell (i := c * 8 + 1) (by omega)
      have c2 := HR1.out.cell (i := c * 8 + 2) (by omega)
      have c3 := HR1.out.cell (i := c * 8 + 3) (by omega)
      have c4 := HR1.out.cell (i := c * 8 + 4) (by omega)
      have c5 := HR1.out.cell (i := c * 8 + 5) (by omega)
      have c6 := HR1.out.cell (i := c * 8 + 6) (by omega)
      have c7 := HR1.out.cell (i := c * 8 + 7) (by omega)
      have z0 := HR1.out.frozen
      go_wp2
      go_roundw
      case rel =>
        refine ⟨c + 1, by omega, by go_num, HR1.out.put, ?_⟩
        exact (((((((HW1.out.setCell (Nat.le_refl _) _).setCell (Nat.le_refl _) _).setCell (Nat.le_refl _) _).setCell (Nat.le_refl _) _).setCell (Nat.le_refl _) _).setCell (Nat.le_refl _) _).setCell (Nat.le_refl _) _).setCell (Nat.le_refl _) _
      case measure => simp [intOf]; omega
    · obtain rfl : c = L := by omega
      go_wp2
      go_ret
      exact ⟨rfl, HR.out.pairs (fun _ => rfl) (Nat.le_refl _), ⟨_, (show World.rowIs _ _ _ _ _ from HR.out)⟩, HR.out.lt, HW.out⟩

end Go.Proofs.Ytgflalfiopnmnab

namespace Go.Proofs.Ytgflalfiopnmnab
open Go.RowKit Vl

set_option maxHeartbeats 1000000 in
set_option maxRecDepth 100000 in
/-- 'toTable'. -/
theorem toTable_any (pa : Option Addr) (L C B O : Nat) (K X : Nat → V) (w : World) (hL : L ≤ 1048576) (HP : Hid (PairsAt w pa L B O K X)) :
    Calls Try.prog 76 #[.agg #[.slice pa L C]] w fun e w' => (∃ G, e = .returned (.agg #[.slice (some ⟨G, 0, none⟩) L L]) ∧ w.heap.size ≤ G ∧ G < w'.heap.size ∧ PairsAt w' (some ⟨G, 0, none⟩) L G 0 K X ∧ ∃ f, w'.rowIs G 63 (L * 8) f) ∧ Below w.heap.size w w' := by
  have A3 : Hid _ := alloc3 w (.cells #[.slice pa L C] 125) (.cells #[.slice none 0 0] 61) (.cells #[.slice none 0 0] 61)
  have hto := toPairS_any pa L C B O K X _ hL (HP.out.below A3.out.2.2.2.2)
  go_enter Try.func76, Try.ntmps76
  go_wp2_with fail
  refine hto.mono ?_
  clear hto
  rintro e w1 ⟨rfl, hP1, hf1, hlt1, hb1⟩
  obtain ⟨p0, p1, p2, ps, pb⟩ := A3.out
  have P1 : Hid (w1.heap[w.heap.size + 1]? = some (.cells #[.slice none 0 0] 61 (0, 0))) := (hb1.block _ (by omega)).trans p1
  have P2 : Hid (w1.heap[w.heap.size + 2]? = some (.cells #[.slice none 0 0] 61 (0, 0))) := (hb1.block _ (by omega)).trans p2
  have HW1 : Hid (Below w.heap.size w w1) := grw pb hb1
  rw [ps] at hP1 hf1 hlt1 ⊢
  have HF1 : Hid (∃ f, w1.rowIs (w.heap.size + 3) 63 (L * 8) f) := hf1
  have HP1 : Hid (PairsAt w1 (some ⟨w.heap.size + 3, 0, none⟩) L (w.heap.size + 3) 0 K X) := hP1
  have hsz : Hid (w.heap.size + 3 < w1.heap.size) := hlt1
  clear hb1 p0 p1 p2 ps pb A3 hP1 hlt1 hf1
  obtain ⟨c0, z0⟩ := one_at P2.out
  obtain ⟨d0, z1⟩ := one_at P1.out
  go_wp2
  have F := one_put ((Below.heap_setCell w1 ⟨w.heap.size + 2, 0, none⟩ (.slice (some ⟨w.heap.size + 3, 0, none⟩) L L) (w.heap.size + 1) (show w.heap.size + 1 ≠ w.heap.size + 2 by omega)).trans P1.out) (.slice (some ⟨w.heap.size + 3, 0, none⟩) L L)
  obtain ⟨q0, _⟩ := one_at F
  refine bodyPost_ret (v := .agg #[.slice (some ⟨w.heap.size + 3, 0, none⟩) L L]) (by simp [results, Try.results76, go_sem, q0]) rfl ⟨⟨w.heap.size + 3, rfl, by omega, ?_, ?_, ?_⟩, ?_⟩
  · simp only [World.setCell, Array.size_modify]; exact hsz.out
  · refine HP1.out.same ?_
    rw [Below.heap_setCell _ _ _ _ (show w.heap.size + 3 ≠ w.heap.size + 1 by omega), Below.heap_setCell _ _ _ _ (show w.heap.size + 3 ≠ w.heap.size + 2 by omega)]
  · obtain ⟨f, hf⟩ := HF1.out
    refine ⟨f, hf.of_block ?_⟩
    rw [Below.heap_setCell _ _ _ _ (show w.heap.size + 3 ≠ w.heap.size + 1 by omega), Below.heap_setCell _ _ _ _ (show w.heap.size + 3 ≠ w.heap.size + 2 by omega)]
  · exact (HW1.out.setCell (by show w.heap.size ≤ w.heap.size + 2; omega) _).setCell (by show w.heap.size ≤ w.heap.size + 1; omega) _

set_option maxHeartbeats 1000000 in
set_option maxRecDepth 100000 in
/-- 'toTableS'. -/
theorem toTableS_any (ta : Option Addr) (n cp TB TO : Nat) (A : Nat → Option Addr) (L C RB RO : Nat → Nat) (K X : Nat → Nat → V) (w : World) (hn : n ≤ 1048576)
    (HS : Hid (Small 1048576 n L K X)) (HT : Hid (TabsAt w ta n TB TO A L C RB RO K X)) :
    Calls Try.prog 46 #[.slice ta n cp] w fun e w' => e = .returned (.slice (some ⟨w.heap.size, 0, none⟩) n n) ∧ (∃ G, Copied w w' n G L K X ∧ w'.rowIs w.heap.size 61 n (fun i => .slice (some ⟨G i, 0, none⟩) (L i) (L i))) ∧ Below w.heap.size w w' := by
  have hmk := run_make_n 30 61 _ 1 24 Try.underlying30 Try.info61 n (by omega) (by omega)
  simp only [Nat.mul_one] at hmk
  obtain ⟨z, hz⟩ : ∃ z : Nat → Value, TRow (w.alloc (.cells (madeCells (Value.agg #[.slice none 0 0]).cells n) 61)) w.heap.size n 0 (fun _ => 0) L z :=
    ⟨_, (row_made w _ n 61).congr (fun i _ => by rw [if_neg (by omega)])⟩
  have HZ : Hid _ := hz
  clear hz
  go_enter Try.func46, Try.ntmps46
  go_wp2
  clear hmk
  go_loopw [4] (fun i wr => ∃ (c : Nat) (G : Nat → Nat), c ≤ n ∧ i = .int .i64 c ∧ Hid (TRow wr w.heap.size n c G L z) ∧ Hid (Copied w wr c G L K X) ∧ Hid (Below w.heap.size w wr)) (fun i _ => n - (intOf i).toNat)
  case atStart => exact ⟨0, _, Nat.zero_le _, rfl, HZ, ⟨fun r hr => by omega, fun i j _ hj => by omega, fun r hr => by omega, fun r hr => by omega⟩, (Below.refl _ _).alloc (Nat.le_refl _) _⟩
  case round =>
    obtain ⟨c, G, hc, rfl, HR, HC, HW⟩ := hrel
    clear HZ
    by_cases hlt : c < n
    · obtain rfl := HT.out.top (by omega)
      have t0 := (HT.out.below HW.out).tab c hlt
      have hto := toTable_any (A c) (L c) (C c) (RB c) (RO c) (K c) (X c) wr (HS.out c hlt).1 ((HT.out.below HW.out).row c hlt)
      go_wp2_with fail
      refine hto.mono ?_
      clear hto
      rintro e w1 ⟨⟨g, rfl, hg0, hg1, hgp, hgf⟩, hb1⟩
      have HR1 : Hid (TRow w1 w.heap.size n c G L z) := (show World.rowIs _ _ _ _ _ from HR.out).of_block (hb1.block _ (show World.rowIs _ _ _ _ _ from HR.out).lt)
      have hlt0 : w.heap.size < wr.heap.size := (show World.rowIs _ _ _ _ _ from HR.out).lt
      have HC1 : Hid (Copied w w1 (c + 1) (fun i => if i = c then g else G i) L K X) := (HC.out.below hb1).snoc (by omega) hg1 (fun r hr => by have := (HC.out.new r hr).2; omega) hgp hgf
      have HW1 : Hid (Below w.heap.size w w1) := grw HW.out hb1
      have c0 := (show World.rowIs _ _ _ _ _ from HR1.out).cell hlt
      have z0 := (show World.rowIs _ _ _ _ _ from HR1.out).frozen
      clear hb1 HW HR HC t0 hg0 hg1 hgp hgf hlt0
      go_wp2
      go_roundw
      case rel => exact ⟨c + 1, (fun i => if i = c then g else G i), by omega, by go_num, HR1.out.put g, HC1.out.set c _, HW1.out.setCell (Nat.le_refl _) _⟩
      case measure => simp [intOf]; omega
    · obtain rfl : c = n := by omega
      go_wp2
      go_ret
      exact ⟨rfl, ⟨G, HC.out, (show World.rowIs _ _ _ _ _ from HR.out).congr (fun i hi => by rw [if_pos hi])⟩, HW.out⟩

end Go.Proofs.Ytgflalfiopnmnab

namespace Go.Proofs.Ytgflalfiopnmnab
open Go.RowKit Vl

set_option maxHeartbeats 1000000 in
set_option maxRecDepth 100000 in
/-- 'toGraph'. -/
theorem toGraph_any (u : V) (ta : Option Addr) (n cp TB TO : Nat) (A : Nat → Option Addr) (L C RB RO : Nat → Nat) (K X : Nat → Nat → V) (w : World) (hn : n ≤ 1048576)
    (HS : Hid (Small 1048576 n L K X)) (HT : Hid (TabsAt w ta n TB TO A L C RB RO K X)) :
    Calls Try.prog 13 #[.agg #[.int .i64 u.k, .int .i64 u.n, .string u.s, .int .i64 u.a, .slice ta n cp]] w fun e w' => (∃ B, e = .returned (.agg #[.int .i64 u.k, .int .i64 u.n, .string u.s, .int .i64 u.a, .slice (some ⟨B, 0, none⟩) n n]) ∧ w.heap.size ≤ B ∧
      ∃ (w0 : World) (G : Nat → Nat), w0.heap.size = B ∧ Copied w0 w' n G L K X ∧ w'.rowIs B 61 n (fun i => .slice (some ⟨G i, 0, none⟩) (L i) (L i))) ∧ Below w.heap.size w w' := by
  have A3 : Hid _ := alloc3 w (.cells #[.int .i64 u.k, .int .i64 u.n, .string u.s, .int .i64 u.a, .slice ta n cp] 26) (.cells #[.int .i64 0, .int .i64 0, .string ⟨#[]⟩, .int .i64 0, .slice none 0 0] 32) (.cells #[.int .i64 0, .int .i64 0, .string ⟨#[]⟩, .int .i64 0, .slice none 0 0] 32)
  go_enter Try.func13, Try.ntmps13
  go_wp2_with fail
  refine (toVal_any u _).mono ?_
  rintro e w1 ⟨rfl, hb1⟩
  obtain ⟨p0, p1, p2, ps, pb⟩ := A3.out
  have P0 : Hid (w1.heap[w.heap.size]? = some (.cells #[.int .i64 u.k, .int .i64 u.n, .string u.s, .int .i64 u.a, .slice ta n cp] 26 (0, 0))) := (hb1.block _ (by omega)).trans p0
  have P1 : Hid (w1.heap[w.heap.size + 1]? = some (.cells #[.int .i64 0, .int .i64 0, .string ⟨#[]⟩, .int .i64 0, .slice none 0 0] 32 (0, 0))) := (hb1.block _ (by omega)).trans p1
  have P2 : Hid (w1.heap[w.heap.size + 2]? = some (.cells #[.int .i64 0, .int .i64 0, .string ⟨#[]⟩, .int .i64 0, .slice none 0 0] 32 (0, 0))) := (hb1.block _ (by omega)).trans p2
  have HW1 : Hid (Below w.heap.size w w1) := grw pb hb1
  clear hb1 p0 p1 p2 ps pb A3
  obtain ⟨c0, c1, c2, c3, c4, z0⟩ := cells5 P2.out
  obtain ⟨d0, d1, d2, d3, d4, _⟩ := cells5 P0.out
  obtain ⟨wa, hwa⟩ : ∃ wa, wa = ((((w1.setCell ⟨w.heap.size + 2, 0, none⟩ (.int .i64 u.k)).setCell ⟨w.heap.size + 2, 1, none⟩ (.int .i64 u.n)).setCell ⟨w.heap.size + 2, 2, none⟩ (.string u.s)).setCell ⟨w.heap.size + 2, 3, none⟩ (.int .i64 u.a)) := ⟨_, rfl⟩
  have HWa : Hid (Below w.heap.size w wa) := by rw [hwa]; exact HW1.out.trans (set4_below.mono (by omega))
  have Q2 : Hid (wa.heap[w.heap.size + 2]? = some (.cells #[.int .i64 u.k, .int .i64 u.n, .string u.s, .int .i64 u.a, .slice none 0 0] 32 (0, 0))) := by rw [hwa]; exact put5lo P2.out _ _ _ _
  have Q1 : Hid (wa.heap[w.heap.size + 1]? = some (.cells #[.int .i64 0, .int .i64 0, .string ⟨#[]⟩, .int .i64 0, .slice none 0 0] 32 (0, 0))) := by rw [hwa]; exact (set4_far (by omega)).trans P1.out
  have hto := toTableS_any ta n cp TB TO A L C RB RO K X wa hn HS (HT.out.below HWa.out)
  go_wp2_with fail
  rw [← hwa]
  refine hto.mono ?_
  clear hto HT hwa c0 c1 c2 c3 c4 z0 d0 d1 d2 d3 d4 P0 P1 P2 HW1
  rintro e w2 ⟨rfl, ⟨G, hC, hR⟩, hb2⟩
  have R2 : Hid (w2.heap[w.heap.size + 2]? = some (.cells #[.int .i64 u.k, .int .i64 u.n, .string u.s, .int .i64 u.a, .slice none 0 0] 32 (0, 0))) := (hb2.block _ (blk_lt Q2.out)).trans Q2.out
  have R1 : Hid (w2.heap[w.heap.size + 1]? = some (.cells #[.int .i64 0, .int .i64 0, .string ⟨#[]⟩, .int .i64 0, .slice none 0 0] 32 (0, 0))) := (hb2.block _ (blk_lt Q1.out)).trans Q1.out
  have HW2 : Hid (Below w.heap.size w w2) := grw HWa.out hb2
  have hsz : Hid (w.heap.size + 2 < wa.heap.size) := blk_lt Q2.out
  have HC : Hid (Copied wa w2 n G L K X) := hC
  have HR : Hid (w2.rowIs wa.heap.size 61 n (fun i => .slice (some ⟨G i, 0, none⟩) (L i) (L i))) := hR
  clear Q1 Q2 hb2 hC hR
  obtain ⟨c0, c1, c2, c3, c4, z0⟩ := cells5 R2.out
  obtain ⟨d0, d1, d2, d3, d4, z1⟩ := cells5 R1.out
  go_wp2
  obtain ⟨B, hB⟩ : ∃ B, wa.heap.size = B := ⟨_, rfl⟩
  obtain ⟨wb, hwb⟩ : ∃ wb, wb = (((((w2.setCell ⟨w.heap.size + 2, 4, none⟩ (.slice (some ⟨wa.heap.size, 0, none⟩) n n)).setCell ⟨w.heap.size + 1, 0, none⟩ (.int .i64 u.k)).setCell ⟨w.heap.size + 1, 1, none⟩ (.int .i64 u.n)).setCell ⟨w.heap.size + 1, 2, none⟩ (.string u.s)).setCell ⟨w.heap.size + 1, 3, none⟩ (.int .i64 u.a)).setCell ⟨w.heap.size + 1, 4, none⟩ (.slice (some ⟨wa.heap.size, 0, none⟩) n n) := ⟨_, rfl⟩
  have F : wb.heap[w.heap.size + 1]? = some (.cells #[.int .i64 u.k, .int .i64 u.n, .string u.s, .int .i64 u.a, .slice (some ⟨wa.heap.size, 0, none⟩) n n] 32 (0, 0)) := by
    rw [hwb]
    exact put5hi (put5lo ((Below.heap_setCell _ _ _ _ (by show w.heap.size + 1 ≠ w.heap.size + 2; omega)).trans R1.out) _ _ _ _) _
  have hfar : ∀ k, w.heap.size + 2 < k → wb.heap[k]? = w2.heap[k]? := fun k hk => by
    rw [hwb, Below.heap_setCell _ _ _ _ (by show k ≠ w.heap.size + 1; omega), set4_far (by omega), Below.heap_setCell _ _ _ _ (by show k ≠ w.heap.size + 2; omega)]
  have HWb : Hid (Below w.heap.size w wb) := by
    rw [hwb]
    exact ((HW2.out.setCell (by show w.heap.size ≤ w.heap.size + 2; omega) _).trans (set4_below.mono (by omega))).setCell (by show w.heap.size ≤ w.heap.size + 1; omega) _
  have hsz2 : wb.heap.size = w2.heap.size := by rw [hwb]; simp [World.setCell]
  have hA0 : w.heap.size + 2 < wa.heap.size := hsz.out
  obtain ⟨q0, q1, q2, q3, q4, _⟩ := cells5 F
  rw [← hwb]
  clear hwb F c0 c1 c2 c3 c4 z0 d0 d1 d2 d3 d4 z1 R1 R2
  refine bodyPost_ret (v := .agg #[.int .i64 u.k, .int .i64 u.n, .string u.s, .int .i64 u.a, .slice (some ⟨wa.heap.size, 0, none⟩) n n]) (by simp [results, Try.results13, go_sem, q0, q1, q2, q3, q4]) rfl ⟨⟨wa.heap.size, rfl, by omega, wa, G, rfl, ?_, ?_⟩, HWb.out⟩
  · have h := HC.out
    exact ⟨fun r hr => ⟨(h.new r hr).1, by have := (h.new r hr).2; omega⟩, h.inc, fun r hr => (h.row r hr).same (hfar _ (by have := (h.new r hr).1; omega)), fun r hr => by obtain ⟨f, hf⟩ := h.blk r hr; exact ⟨f, hf.of_block (hfar _ (by have := (h.new r hr).1; omega))⟩⟩
  · exact HR.out.of_block (hfar _ (by omega))

end Go.Proofs.Ytgflalfiopnmnab

namespace Go.Proofs.Ytgflalfiopnmnab
open Go.RowKit Vl

set_option maxHeartbeats 1000000 in
/-- 'eqVal' of a value and itself. -/
theorem eqVal_same (u : V) (w : World) :
    Calls Try.prog 28 #[.agg #[.int .i64 u.k, .int .i64 u.n, .string u.s, .int .i64 u.a], .agg #[.int .i64 u.k, .int .i64 u.n, .string u.s, .int .i64 u.a]] w fun e w' => e = .returned (.bool true) ∧ Below w.heap.size w w' := by
  have hb0 : Hid _ := boxes w u u
  have h1 : (u.k != u.k) = false := by simp
  have h2 : (u.n != u.n) = false := by simp
  have h3 : (u.s.toList == u.s.toList) = true := by simp
  have h4 : (u.a != u.a) = false := by simp
  go_enter Try.func28, Try.ntmps28
  go_wp2
  go_ret
  exact ⟨rfl, hb0.out⟩

set_option maxHeartbeats 1000000 in
set_option maxRecDepth 100000 in
/-- 'eqPair' of a pair and itself. -/
theorem eqPair_same (u v : V) (w : World) :
    Calls Try.prog 116 #[.agg #[.int .i64 u.k, .int .i64 u.n, .string u.s, .int .i64 u.a, .int .i64 v.k, .int .i64 v.n, .string v.s, .int .i64 v.a], .agg #[.int .i64 u.k, .int .i64 u.n, .string u.s, .int .i64 u.a, .int .i64 v.k, .int .i64 v.n, .string v.s, .int .i64 v.a]] w fun e w' => e = .returned (.bool true) ∧ Below w.heap.size w w' := by
  have A2 : Hid _ := alloc2 w (.cells #[.int .i64 u.k, .int .i64 u.n, .string u.s, .int .i64 u.a, .int .i64 v.k, .int .i64 v.n, .string v.s, .int .i64 v.a] 63) (.cells #[.int .i64 u.k, .int .i64 u.n, .string u.s, .int .i64 u.a, .int .i64 v.k, .int .i64 v.n, .string v.s, .int .i64 v.a] 63)
  go_enter Try.func116, Try.ntmps116
  go_wp2_with fail
  refine (eqVal_same u _).mono ?_
  rintro e w1 ⟨rfl, hb1⟩
  obtain ⟨p0, p1, ps, pb⟩ := A2.out
  have P0 : Hid (w1.heap[w.heap.size]? = some (.cells #[.int .i64 u.k, .int .i64 u.n, .string u.s, .int .i64 u.a, .int .i64 v.k, .int .i64 v.n, .string v.s, .int .i64 v.a] 63 (0, 0))) := (hb1.block _ (by omega)).trans p0
  have P1 : Hid (w1.heap[w.heap.size + 1]? = some (.cells #[.int .i64 u.k, .int .i64 u.n, .string u.s, .int .i64 u.a, .int .i64 v.k, .int .i64 v.n, .string v.s, .int .i64 v.a] 63 (0, 0))) := (hb1.block _ (by omega)).trans p1
  have HW1 : Hid (Below w.heap.size w w1) := grw pb hb1
  clear hb1 p0 p1 ps pb A2
  obtain ⟨c0, c1, c2, c3, c4, c5, c6, c7, _⟩ := cells8 P0.out
  obtain ⟨d0, d1, d2, d3, d4, d5, d6, d7, _⟩ := cells8 P1.out
  go_wp2_with fail
  refine (eqVal_same v _).mono ?_
  rintro e w2 ⟨rfl, hb2⟩
  have HW2 : Hid (Below w.heap.size w w2) := grw HW1.out hb2
  clear hb2 P0 P1 HW1 c0 c1 c2 c3 c4 c5 c6 c7 d0 d1 d2 d3 d4 d5 d6 d7
  go_wp2
  go_ret
  exact ⟨rfl, HW2.out⟩

set_option maxHeartbeats 1000000 in
set_option maxRecDepth 100000 in
/-- 'eqPairS' of the same pairs. -/
theorem eqPairS_same (pa pa' : Option Addr) (L C C' B O B' O' : Nat) (K X : Nat → V) (w : World) (hL : L ≤ 1048576) (HP : Hid (PairsAt w pa L B O K X)) (HP' : Hid (PairsAt w pa' L B' O' K X)) :
    Calls Try.prog 103 #[.slice pa L C, .slice pa' L C'] w fun e w' => e = .returned (.bool true) ∧ Below w.heap.size w w' := by
  have hne : ((L : Int) != (L : Int)) = false := by simp
  go_enter Try.func103, Try.ntmps103
  go_wp2
  clear hne
  go_loopw [5] (fun i wr => ∃ c : Nat, c ≤ L ∧ i = .int .i64 c ∧ Hid (Below w.heap.size w wr)) (fun i _ => L - (intOf i).toNat)
  case atStart => exact ⟨0, Nat.zero_le _, rfl, Below.refl _ _⟩
  case round =>
    obtain ⟨c, hc, rfl, HW⟩ := hrel
    by_cases hlt : c < L
    · obtain rfl := HP.out.top (by omega)
      obtain rfl := HP'.out.top (by omega)
      have hh := (HP.out.below HW.out).cells hlt
      have hh' := (HP'.out.below HW.out).cells hlt
      have HH : Hid _ := hh
      have HH' : Hid _ := hh'
      obtain ⟨⟨k0, k1, k2, k3⟩, ⟨x0, x1, x2, x3⟩⟩ := hh
      obtain ⟨⟨l0, l1, l2, l3⟩, ⟨y0, y1, y2, y3⟩⟩ := hh'
      go_wp2
      go_region_held3 (fun w' => ((w'.cell? ⟨B, O + c * 8, none⟩ = some (.int .i64 (K c).k) ∧ w'.cell? ⟨B, O + c * 8 + 1, none⟩ = some (.int .i64 (K c).n) ∧ w'.cell? ⟨B, O + c * 8 + 2, none⟩ = some (.string (K c).s) ∧ w'.cell? ⟨B, O + c * 8 + 3, none⟩ = some (.int .i64 (K c).a)) ∧ (w'.cell? ⟨B, O + c * 8 + 4, none⟩ = some (.int .i64 (X c).k) ∧ w'.cell? ⟨B, O + c * 8 + 5, none⟩ = some (.int .i64 (X c).n) ∧ w'.cell? ⟨B, O + c * 8 + 6, none⟩ = some (.string (X c).s) ∧ w'.cell? ⟨B, O + c * 8 + 7, none⟩ = some (.int .i64 (X c).a))) ∧
          ((w'.cell? ⟨B', O' + c * 8, none⟩ = some (.int .i64 (K c).k) ∧ w'.cell? ⟨B', O' + c * 8 + 1, none⟩ = some (.int .i64 (K c).n) ∧ w'.cell? ⟨B', O' + c * 8 + 2, none⟩ = some (.string (K c).s) ∧ w'.cell? ⟨B', O' + c * 8 + 3, none⟩ = some (.int .i64 (K c).a)) ∧ (w'.cell? ⟨B', O' + c * 8 + 4, none⟩ = some (.int .i64 (X c).k) ∧ w'.cell? ⟨B', O' + c * 8 + 5, none⟩ = some (.int .i64 (X c).n) ∧ w'.cell? ⟨B', O' + c * 8 + 6, none⟩ = some (.string (X c).s) ∧ w'.cell? ⟨B', O' + c * 8 + 7, none⟩ = some (.int .i64 (X c).a))) ∧ Hid (Below w.heap.size w w'))
        (first | exact keep8 ‹_ ∧ _› hb1 | exact ⟨HH.out, HH'.out, HW.out.drew⟩)
        ((go_at_call 116; refine (eqPair_same (K c) (X c) _).mono ?_; rintro e w1 ⟨rfl, hb1⟩))
      rename_i hS
      have HW1 := hS.2.2
      clear hS hb1 HH HH' k0 k1 k2 k3 x0 x1 x2 x3 l0 l1 l2 l3 y0 y1 y2 y3 HW
      go_wp2
      go_roundw
      case rel => exact ⟨c + 1, by omega, by go_num, HW1⟩
      case measure => simp [intOf]; omega
    · go_wp2
      go_ret
      exact ⟨rfl, HW.out⟩

end Go.Proofs.Ytgflalfiopnmnab

namespace Go.Proofs.Ytgflalfiopnmnab
open Go.RowKit Vl

set_option maxHeartbeats 1000000 in
set_option maxRecDepth 100000 in
/-- 'eqTable' of the same pairs. -/
theorem eqTable_same (pa pa' : Option Addr) (L C C' B O B' O' : Nat) (K X : Nat → V) (w : World) (hL : L ≤ 1048576) (HP : Hid (PairsAt w pa L B O K X)) (HP' : Hid (PairsAt w pa' L B' O' K X)) :
    Calls Try.prog 79 #[.agg #[.slice pa L C], .agg #[.slice pa' L C']] w fun e w' => e = .returned (.bool true) ∧ Below w.heap.size w w' := by
  have A2 : Hid _ := alloc2 w (.cells #[.slice pa L C] 61) (.cells #[.slice pa' L C'] 61)
  have h := eqPairS_same pa pa' L C C' B O B' O' K X _ hL (HP.out.below A2.out.2.2.2) (HP'.out.below A2.out.2.2.2)
  have HB : Hid (Below w.heap.size w ((w.alloc (.cells #[.slice pa L C] 61)).alloc (.cells #[.slice pa' L C'] 61))) := A2.out.2.2.2
  clear A2
  go_enter Try.func79, Try.ntmps79
  go_wp2_with fail
  refine h.mono ?_
  clear h
  rintro e w1 ⟨rfl, hb1⟩
  have HW1 : Hid (Below w.heap.size w w1) := grw HB.out hb1
  clear hb1 HB
  go_wp2
  go_ret
  exact ⟨rfl, HW1.out⟩

set_option maxHeartbeats 1000000 in
set_option maxRecDepth 100000 in
/-- 'eqTableS' of the same tables. -/
theorem eqTableS_same (ta ta' : Option Addr) (n cp cp' TB TO TB' TO' : Nat) (A A' : Nat → Option Addr) (L C C' RB RO RB' RO' : Nat → Nat) (K X : Nat → Nat → V) (w : World) (hn : n ≤ 1048576) (HS : Hid (Small 1048576 n L K X))
    (HT : Hid (TabsAt w ta n TB TO A L C RB RO K X)) (HT' : Hid (TabsAt w ta' n TB' TO' A' L C' RB' RO' K X)) :
    Calls Try.prog 48 #[.slice ta n cp, .slice ta' n cp'] w fun e w' => e = .returned (.bool true) ∧ Below w.heap.size w w' := by
  have hne : ((n : Int) != (n : Int)) = false := by simp
  go_enter Try.func48, Try.ntmps48
  go_wp2
  clear hne
  go_loopw [5] (fun i wr => ∃ c : Nat, c ≤ n ∧ i = .int .i64 c ∧ Hid (Below w.heap.size w wr)) (fun i _ => n - (intOf i).toNat)
  case atStart => exact ⟨0, Nat.zero_le _, rfl, Below.refl _ _⟩
  case round =>
    obtain ⟨c, hc, rfl, HW⟩ := hrel
    by_cases hlt : c < n
    · obtain rfl := HT.out.top (by omega)
      obtain rfl := HT'.out.top (by omega)
      have t0 := (HT.out.below HW.out).tab c hlt
      have t1 := (HT'.out.below HW.out).tab c hlt
      have HE : Hid (∀ w', Below wr.heap.size wr w' → Calls Try.prog 79 #[.agg #[.slice (A c) (L c) (C c)], .agg #[.slice (A' c) (L c) (C' c)]] w' fun e w'' => e = .returned (.bool true) ∧ Below w'.heap.size w' w'') := show ∀ w', _ from fun w' hb' =>
        eqTable_same (A c) (A' c) (L c) (C c) (C' c) (RB c) (RO c) (RB' c) (RO' c) (K c) (X c) w' (HS.out c hlt).1 ((HT.out.below (grw HW.out hb')).row c hlt) ((HT'.out.below (grw HW.out hb')).row c hlt)
      go_wp2
      go_region_held3 (fun w' => w'.cell? ⟨TB, TO + c, none⟩ = some (.slice (A c) (L c) (C c)) ∧ w'.cell? ⟨TB', TO' + c, none⟩ = some (.slice (A' c) (L c) (C' c)) ∧ Hid (Below w.heap.size w w'))
        (first | exact keep2c ‹_ ∧ _› hb1 | exact ⟨t0, t1, HW.out.drew⟩)
        ((go_at_call 79; refine (HE.out _ ((Below.refl _ _).drew)).mono ?_; rintro e w1 ⟨rfl, hb1⟩))
      rename_i hS
      have HW1 := hS.2.2
      clear hS hb1 t0 t1 HE HW
      go_wp2
      go_roundw
      case rel => exact ⟨c + 1, by omega, by go_num, HW1⟩
      case measure => simp [intOf]; omega
    · go_wp2
      go_ret
      exact ⟨rfl, HW.out⟩

set_option maxHeartbeats 1000000 in
set_option maxRecDepth 100000 in
/-- 'eqGraph' of the same graphs. -/
theorem eqGraph_same (u : V) (ta ta' : Option Addr) (n cp cp' TB TO TB' TO' : Nat) (A A' : Nat → Option Addr) (L C C' RB RO RB' RO' : Nat → Nat) (K X : Nat → Nat → V) (w : World) (hn : n ≤ 1048576) (HS : Hid (Small 1048576 n L K X))
    (HT : Hid (TabsAt w ta n TB TO A L C RB RO K X)) (HT' : Hid (TabsAt w ta' n TB' TO' A' L C' RB' RO' K X)) :
    Calls Try.prog 15 #[.agg #[.int .i64 u.k, .int .i64 u.n, .string u.s, .int .i64 u.a, .slice ta n cp], .agg #[.int .i64 u.k, .int .i64 u.n, .string u.s, .int .i64 u.a, .slice ta' n cp']] w fun e w' => e = .returned (.bool true) ∧ Below w.heap.size w w' := by
  have A2 : Hid _ := alloc2 w (.cells #[.int .i64 u.k, .int .i64 u.n, .string u.s, .int .i64 u.a, .slice ta n cp] 32) (.cells #[.int .i64 u.k, .int .i64 u.n, .string u.s, .int .i64 u.a, .slice ta' n cp'] 32)
  go_enter Try.func15, Try.ntmps15
  go_wp2_with fail
  refine (eqVal_same u _).mono ?_
  rintro e w1 ⟨rfl, hb1⟩
  obtain ⟨p0, p1, ps, pb⟩ := A2.out
  have P0 : Hid (w1.heap[w.heap.size]? = some (.cells #[.int .i64 u.k, .int .i64 u.n, .string u.s, .int .i64 u.a, .slice ta n cp] 32 (0, 0))) := (hb1.block _ (by omega)).trans p0
  have P1 : Hid (w1.heap[w.heap.size + 1]? = some (.cells #[.int .i64 u.k, .int .i64 u.n, .string u.s, .int .i64 u.a, .slice ta' n cp'] 32 (0, 0))) := (hb1.block _ (by omega)).trans p1
  have HW1 : Hid (Below w.heap.size w w1) := grw pb hb1
  clear hb1 p0 p1 ps pb A2
  obtain ⟨c0, c1, c2, c3, c4, _⟩ := cells5 P0.out
  obtain ⟨d0, d1, d2, d3, d4, _⟩ := cells5 P1.out
  have h := eqTableS_same ta ta' n cp cp' TB TO TB' TO' A A' L C C' RB RO RB' RO' K X w1 hn HS (HT.out.below HW1.out) (HT'.out.below HW1.out)
  go_wp2_with fail
  refine h.mono ?_
  clear h
  rintro e w2 ⟨rfl, hb2⟩
  have HW2 : Hid (Below w.heap.size w w2) := grw HW1.out hb2
  clear hb2 P0 P1 HW1 c0 c1 c2 c3 c4 d0 d1 d2 d3 d4
  go_wp2
  go_ret
  exact ⟨rfl, HW2.out⟩

end Go.Proofs.Ytgflalfiopnmnab

namespace Go.Proofs.Ytgflalfiopnmnab
open Go.RowKit Vl
open Go.ChangeShapes Go.WideShapes Go.ChangeAt Go.Joins

set_option maxHeartbeats 1000000 in
set_option maxRecDepth 100000 in
/-- 'impl.GraphOk'. -/
theorem implOk_any (u : V) (ta : Option Addr) (n cp TB TO : Nat) (A : Nat → Option Addr) (L C RB RO : Nat → Nat) (K X : Nat → Nat → V) (w : World) (hn : n ≤ 1048576)
    (HS : Hid (Small 1048576 n L K X)) (HT : Hid (TabsAt w ta n TB TO A L C RB RO K X)) :
    Calls Try.prog 14 #[.agg #[.int .i64 u.k, .int .i64 u.n, .string u.s, .int .i64 u.a, .slice ta n cp]] w fun e w' => Tells (OkG n u L K X) e ∧ Below w.heap.size w w' := by
  obtain ⟨w0, hw0⟩ : ∃ w0, w0 = w.alloc (.cells #[.int .i64 u.k, .int .i64 u.n, .string u.s, .int .i64 u.a, .slice ta n cp] 32) := ⟨_, rfl⟩
  have HB : Hid (Below w.heap.size w w0) := by rw [hw0]; exact (Below.refl _ _).alloc (Nat.le_refl _) _
  have hlk := link_any u ta n cp TB TO A L C RB RO K X w0 hn HS (HT.out.below HB.out)
  go_enter Try.func14, Try.ntmps14
  go_wp2_with fail
  rw [← hw0]
  refine hlk.mono ?_
  clear hlk
  rintro e w1 ⟨hcase, hb1⟩
  have HW1 : Hid (Below w.heap.size w w1) := grw HB.out hb1
  clear hb1 hw0
  rcases hcase with ⟨hG, rfl, _⟩ | ⟨hN, rfl⟩
  · have HG : Hid (OkG n u L K X) := hG
    obtain ⟨xt, xy, hxv⟩ := ifv_form (tT w0.heap.size) u
    rw [hxv]
    clear hG hxv
    go_wp2
    go_ret
    exact ⟨tells_yes HG.out, HW1.out.alloc HW1.out.size _⟩
  · have HN : Hid (¬ OkG n u L K X) := hN
    clear hN
    go_wp2
    go_ret
    exact ⟨tells_no HN.out, HW1.out.alloc HW1.out.size _⟩

set_option maxHeartbeats 1000000 in
set_option maxRecDepth 100000 in
theorem graphOkLaw (u : V) (ta : Option Addr) (n cp TB TO : Nat) (A : Nat → Option Addr) (L C RB RO : Nat → Nat) (K X : Nat → Nat → V) (w : World) (hu : u.s.size ≤ 9223372036854775807) (hn : n ≤ 9223372036854775807)
    (HS : Hid (Small 9223372036854775807 n L K X)) (HT : Hid (TabsAt w ta n TB TO A L C RB RO K X)) :
    Calls Try.prog 3 #[.agg #[.int .i64 u.k, .int .i64 u.n, .string u.s, .int .i64 u.a, .slice ta n cp]] w fun e w' => e = .returned (.bool true) ∧ Below w.heap.size w w' := by
  obtain ⟨w0, hw0⟩ : ∃ w0, w0 = w.alloc (.cells #[.int .i64 u.k, .int .i64 u.n, .string u.s, .int .i64 u.a, .slice ta n cp] 26) := ⟨_, rfl⟩
  have HB0 : Hid (Below w.heap.size w w0) := by rw [hw0]; exact (Below.refl _ _).alloc (Nat.le_refl _) _
  have G0 : Hid (w0.heap[w.heap.size]? = some (.cells #[.int .i64 u.k, .int .i64 u.n, .string u.s, .int .i64 u.a, .slice ta n cp] 26 (0, 0))) := by rw [hw0]; exact heap_alloc_new _ _
  have hsz := szGraph_any u ta n cp TB TO A L C RB RO K X 1048576 w0 (by omega) (by omega) hu hn HS (HT.out.below HB0.out)
  go_enter Try.func3, Try.ntmps3
  go_wp2_with fail
  rw [← hw0]
  refine hsz.mono ?_
  clear hsz hw0
  rintro e w1 ⟨⟨q, rfl, hq1, hq2⟩, hb1⟩
  have G1 : Hid (w1.heap[w.heap.size]? = some (.cells #[.int .i64 u.k, .int .i64 u.n, .string u.s, .int .i64 u.a, .slice ta n cp] 26 (0, 0))) := blk_below G0.out hb1
  have HB1 : Hid (Below w.heap.size w w1) := grw HB0.out hb1
  clear hb1 G0 HB0
  by_cases hq : q < 0
  · clear hq2
    go_wp2
    go_ret
    exact ⟨rfl, HB1.out⟩
  obtain ⟨_, hn1, hsm⟩ := hq2 (by omega)
  have HSm : Hid (Small 1048576 n L K X) := hsm
  clear hq2 hsm HS
  obtain ⟨g0, g1, g2, g3, g4, _⟩ := cells5 G1.out
  have hto := toGraph_any u ta n cp TB TO A L C RB RO K X w1 hn1 HSm (HT.out.below HB1.out)
  go_wp2_with fail
  refine hto.mono ?_
  clear hto
  rintro e w2 ⟨⟨B2, rfl, _, w02, H2, _, hC2, hR2⟩, hb2⟩
  have HT2 : Hid (TabsAt w2 (some ⟨B2, 0, none⟩) n B2 0 (fun r => some ⟨H2 r, 0, none⟩) L L H2 (fun _ => 0) K X) := hC2.tabs hR2
  have G2 : Hid (w2.heap[w.heap.size]? = some (.cells #[.int .i64 u.k, .int .i64 u.n, .string u.s, .int .i64 u.a, .slice ta n cp] 26 (0, 0))) := blk_below G1.out hb2
  have HB2 : Hid (Below w.heap.size w w2) := grw HB1.out hb2
  clear hb2 G1 HB1 hC2 hR2 g0 g1 g2 g3 g4
  have hsp := specOk_any u (some ⟨B2, 0, none⟩) n n B2 0 _ L _ _ _ K X w2 hn1 HSm HT2
  go_wp2_with fail
  refine hsp.mono ?_
  clear hsp
  rintro e w3 ⟨⟨bs, rfl, hbs⟩, hb3⟩
  have G3 : Hid (w3.heap[w.heap.size]? = some (.cells #[.int .i64 u.k, .int .i64 u.n, .string u.s, .int .i64 u.a, .slice ta n cp] 26 (0, 0))) := blk_below G2.out hb3
  have HB3 : Hid (Below w.heap.size w w3) := grw HB2.out hb3
  have HBS : Hid (bs = true ↔ OkG n u L K X) := hbs
  clear hb3 G2 HB2 HT2 hbs
  obtain ⟨g0, g1, g2, g3, g4, _⟩ := cells5 G3.out
  have hto := toGraph_any u ta n cp TB TO A L C RB RO K X w3 hn1 HSm (HT.out.below HB3.out)
  go_wp2_with fail
  refine hto.mono ?_
  clear hto
  rintro e w4 ⟨⟨B4, rfl, _, w04, H4, _, hC4, hR4⟩, hb4⟩
  obtain ⟨w5, hw5⟩ : ∃ w5, w5 = w4.alloc (.cells #[.int .i64 u.k, .int .i64 u.n, .string u.s, .int .i64 u.a, .slice (some ⟨B4, 0, none⟩) n n] 32) := ⟨_, rfl⟩
  have HB45 : Hid (Below w4.heap.size w4 w5) := by rw [hw5]; exact (Below.refl _ _).alloc (Nat.le_refl _) _
  have X5 : Hid (w5.heap[w4.heap.size]? = some (.cells #[.int .i64 u.k, .int .i64 u.n, .string u.s, .int .i64 u.a, .slice (some ⟨B4, 0, none⟩) n n] 32 (0, 0))) := by rw [hw5]; exact heap_alloc_new _ _
  have HT5 : Hid (TabsAt w5 (some ⟨B4, 0, none⟩) n B4 0 (fun r => some ⟨H4 r, 0, none⟩) L L H4 (fun _ => 0) K X) := (hC4.tabs hR4).below HB45.out
  have XG5 : Hid (w5.heap[w.heap.size]? = some (.cells #[.int .i64 u.k, .int .i64 u.n, .string u.s, .int .i64 u.a, .slice ta n cp] 26 (0, 0))) := blk_below (blk_below G3.out hb4) HB45.out
  have HB5 : Hid (Below w.heap.size w w5) := grw (grw HB3.out hb4) HB45.out
  have him := implOk_any u (some ⟨B4, 0, none⟩) n n B4 0 _ L _ _ _ K X w5 hn1 HSm HT5
  obtain ⟨xb, hxb⟩ : ∃ xb, w4.heap.size = xb := ⟨_, rfl⟩
  rw [hxb] at X5
  clear hb4 G3 HB3 hC4 hR4 g0 g1 g2 g3 g4 HB45
  go_wp2_with fail
  rw [← hw5]
  refine him.mono ?_
  clear him hw5 hxb
  rintro e w6 ⟨⟨bi, rfl, hbi⟩, hb6⟩
  obtain rfl : bi = bs := Bool.eq_iff_iff.2 (hbi.trans HBS.out.symm)
  have G6 : Hid (w6.heap[w.heap.size]? = some (.cells #[.int .i64 u.k, .int .i64 u.n, .string u.s, .int .i64 u.a, .slice ta n cp] 26 (0, 0))) := blk_below XG5.out hb6
  have X6 : Hid (w6.heap[xb]? = some (.cells #[.int .i64 u.k, .int .i64 u.n, .string u.s, .int .i64 u.a, .slice (some ⟨B4, 0, none⟩) n n] 32 (0, 0))) := blk_below X5.out hb6
  have HT6 : Hid (TabsAt w6 (some ⟨B4, 0, none⟩) n B4 0 (fun r => some ⟨H4 r, 0, none⟩) L L H4 (fun _ => 0) K X) := HT5.out.below hb6
  have HB6 : Hid (Below w.heap.size w w6) := grw HB5.out hb6
  clear hb6 XG5 X5 HT5 HB5 hbi HBS
  have hne : (bi != bi) = false := by simp
  obtain ⟨g0, g1, g2, g3, g4, _⟩ := cells5 G6.out
  obtain ⟨x0, x1, x2, x3, x4, _⟩ := cells5 X6.out
  have hto := toGraph_any u ta n cp TB TO A L C RB RO K X w6.drew hn1 HSm (HT.out.below HB6.out.drew)
  go_wp2
  go_region_held3 (fun w' => (w'.cell? ⟨xb, 0, none⟩ = some (.int .i64 u.k) ∧ w'.cell? ⟨xb, 1, none⟩ = some (.int .i64 u.n) ∧ w'.cell? ⟨xb, 2, none⟩ = some (.string u.s) ∧ w'.cell? ⟨xb, 3, none⟩ = some (.int .i64 u.a) ∧ w'.cell? ⟨xb, 4, none⟩ = some (.slice (some ⟨B4, 0, none⟩) n n)) ∧ (w'.cell? ⟨w.heap.size, 0, none⟩ = some (.int .i64 u.k) ∧ w'.cell? ⟨w.heap.size, 1, none⟩ = some (.int .i64 u.n) ∧ w'.cell? ⟨w.heap.size, 2, none⟩ = some (.string u.s) ∧ w'.cell? ⟨w.heap.size, 3, none⟩ = some (.int .i64 u.a) ∧ w'.cell? ⟨w.heap.size, 4, none⟩ = some (.slice ta n cp)) ∧ Hid (Below w.heap.size w w'))
    (first | exact keep55 ‹_ ∧ _› hb8 | exact keep55 ‹_ ∧ _› hb7 | exact ⟨⟨x0, x1, x2, x3, x4⟩, ⟨g0, g1, g2, g3, g4⟩, HB6.out.drew⟩)
    (first
      | (go_at_call 13; refine hto.mono ?_; rintro e w7 ⟨⟨B7, rfl, _, w07, H7, _, hC7, hR7⟩, hb7⟩)
      | (go_at_call 15; refine (eqGraph_same u (some ⟨B4, 0, none⟩) (some ⟨B7, 0, none⟩) n n n B4 0 B7 0 _ _ L _ _ _ _ _ _ K X _ hn1 HSm ((HT6.out.below ((Below.refl _ _).drew)).below hb7) (hC7.tabs hR7)).mono ?_; rintro e w8 ⟨rfl, hb8⟩))
  rename_i hS
  have HB8 := hS.2.2
  clear hS hb7 hb8 hC7 hR7 g0 g1 g2 g3 g4 x0 x1 x2 x3 x4 G6 X6 HT6 HB6 hto
  go_wp2
  go_ret
  exact ⟨rfl, HB8.out⟩

set_option maxRecDepth 100000 in
theorem graphOkLifted (os : Os) (started : os.Started) (H : Type) (enc : TypeId × Value → H) :
    ReturnsInHanded {} Try.checked os 3 .any (Rows.fnExactGraphOkSpec.pre6 enc Try.prog Try.f3 Rows.fnExactGraphOkRow.domain false) (Rows.fnExactGraphOkSpec.post enc Try.prog Try.f3 false true false false) := by
  refine returnsInHanded_of_change (C := Try.checked) ownG started (by kernel_rfl) Try.func3
    (ChangeSpec.witness6 (enc := enc) (C := Try.checked) false ⟨#[], #[.agg #[.int .i64 0, .int .i64 0, .string ⟨#[]⟩, .int .i64 0, .slice none 0 0]], []⟩ 8 (by kernel_rfl) (by kernel_rfl) (by kernel_rfl) (by kernel_rfl)) ?_
  intro W base args ds gs before hval0 hW hcnd _
  have hval : ∀ (j : Nat) t v, Try.f3.params[j]? = some t → args[j]? = some v → Value.okWide Try.prog W .any base t v := hval0
  have hW' := hW
  obtain ⟨p, q, hA0, hV, rfl, hfz, hnd⟩ := hW
  have hA : DataW.TrodAll enc Try.prog W 0 (fun _ => true) true Try.f3.params.toList args.toList ds p := hA0
  rw [Try.params3] at hA hval
  obtain ⟨v0, vs0, d0, ds0, p0, q0, hargs, rfl, rfl, h0, r0⟩ := trodAll_cons hA
  obtain ⟨rfl, rfl, rfl⟩ := trodAll_nil r0
  obtain rfl : args = #[v0] := by cases args; simp_all
  obtain ⟨rfl, rfl⟩ := trodVars_none hV
  have k0 := h0
  have lt0 : ∀ x ∈ p0, x.block < W.heap.size := by obtain ⟨m, hm⟩ := k0; exact DataW.trod_lt m _ _ _ hm
  obtain ⟨u, ta, n, cp, TB, TO, A, L, C, RB, RO, K, X, rfl, hu, hn, hT, hS⟩ := opens_graph (hval 0 26 v0 rfl rfl) h0
  clear hA0 hval0
  refine (graphOkLaw u ta n cp TB TO A L C RB RO K X W hu hn hS hT).mono fun e W' ⟨he, bel⟩ => ?_
  subst he
  exact ⟨_, rfl, _, _, _, [], _, [], hW', trodAll_mk1 (shut_bool Try.underlying4 _), (trodAll_cons_mk (Below.trod laidOutG (by kernel_rfl) (of_decide_eq_true (by kernel_rfl)) k0 bel lt0) trodAll_mk0), rfl, bel.frame _, fun h => by cases h⟩

theorem graphOk_holds : Rows.FnExactGraphOkSaid :=
  OpenClaim.holds_of_wide 3 Try.f3 rfl rfl rfl rfl rfl rfl rfl ⟨rfl, rfl, rfl, rfl, rfl⟩ rfl rfl rfl rfl rfl (by kernel_rfl) Try.func3 (by kernel_rfl)
    (of_decide_eq_true (by kernel_rfl)) (by unfold Func.isWrapper; first | (rw [if_pos (by decide +kernel)]; kernel_rfl) | (rw [if_neg (by decide +kernel)]; exact ⟨rfl, rfl⟩))
    (fun os started H enc _ => graphOkLifted os started H enc)
#print axioms graphOk_holds

end Go.Proofs.Ytgflalfiopnmnab

namespace Go.Proofs.Ytgflalfiopnmnab
open Go.RowKit Vl

set_option maxHeartbeats 1000000 in
set_option maxRecDepth 100000 in
/-- 'markText'. -/
theorem markText_any (k : Nat) (w : World) (hk0 : 0 < k) (hk1 : k ≤ 1125899906842624) :
    Calls Try.prog 74 #[.int .i64 k] w fun e w' => e = .returned (.string (markT k)) ∧ Below w.heap.size w w' := by
  have hk : ¬ ((k : Int) ≤ 0) := by omega
  go_enter Try.func74, Try.ntmps74
  go_wp2
  go_loopw [0, 3] (fun kk oo wr => ∃ (j : Nat) (out : ByteArray), j ≤ k ∧ kk = .int .i64 j ∧ oo = .string out ∧ digs j out = digs k ⟨#[]⟩ ∧ out.size + j ≤ k ∧ Hid (Below w.heap.size w wr)) (fun kk _ _ => (intOf kk).toNat)
  case atStart => exact ⟨k, ⟨#[]⟩, Nat.le_refl _, rfl, rfl, rfl, by simp [ByteArray.size], Below.refl _ _⟩
  case round =>
    obtain ⟨j, out, hj, rfl, rfl, hd, hos, HW⟩ := hrel
    by_cases h0 : j = 0
    · subst h0
      rw [digs_zero] at hd
      have HD : Hid (out = digs k ⟨#[]⟩) := hd
      clear hd
      obtain rfl := HD.out
      go_wp2
      refine bodyPost_ret (v := .string (markT k)) (by simp [results, Try.results74, go_sem, markT]) rfl ⟨rfl, HW.out⟩
    · have hpos : (0 : Int) < (j : Int) := by omega
      have HD : Hid (digs (j / 10) (strOfNums [48 + (j : Int) % 10] ++ out) = digs k ⟨#[]⟩) := by rw [← hd, digs_pos h0]; exact rfl
      clear hd
      have hcv := run_convert_bytes_arg (P := Try.prog) (wr.alloc (.cells #[.int .u8 (48 + (j : Int) % 10)] 5)) 167 5 Try.underlying167 Try.underlying5 wr.heap.size 0 1 1 [48 + (j : Int) % 10] rfl (fun i hi => by
        obtain rfl : i = 0 := by omega
        rw [Nat.zero_add]
        exact (one_at (heap_alloc_new wr (.cells #[.int .u8 (48 + (j : Int) % 10)] 5))).1) 9 Try.underlying9
      obtain ⟨dg, hdg⟩ : ∃ dg, strOfNums [48 + (j : Int) % 10] = dg := ⟨_, rfl⟩
      have hds : dg.size = 1 := by rw [← hdg]; rfl
      rw [hdg] at hcv HD
      clear hdg
      go_wp2
      go_roundw
      case rel => exact ⟨j / 10, dg ++ out, by omega, by go_num, rfl, HD.out, by rw [ByteArray.size_append, hds]; omega, HW.out.alloc HW.out.size _⟩
      case measure => simp [intOf]; omega

end Go.Proofs.Ytgflalfiopnmnab

namespace Go.Proofs.Ytgflalfiopnmnab
open Go.RowKit Vl

set_option maxHeartbeats 2000000 in
set_option maxRecDepth 100000 in
/-- 'markPairS'. -/
theorem markPairS_any (pa : Option Addr) (L C B cap k : Nat) (f : Nat → Value) (w : World) (hL : L ≤ 1048576) (hk0 : 0 < k) (hk1 : k ≤ 562949953421312) (hA : 0 < L → pa = some ⟨B, 0, none⟩) (hc : L * 8 ≤ cap) (HR : Hid (0 < L → w.rowIs B 63 cap f)) :
    Calls Try.prog 86 #[.slice pa L C, .int .i64 k] w fun e w' => e = .returned (.int .i64 ((k + L * 8 : Nat) : Int)) ∧ (0 < L → Mk w' B cap k (L * 8) f) ∧ Only (fun x => x = B ∧ 0 < L) w w' := by
  go_enter Try.func86, Try.ntmps86
  go_wp2
  go_loopw [1, 5] (fun kk ii wr => ∃ (c q : Nat), c ≤ L ∧ q = k + c * 8 ∧ kk = .int .i64 (q : Nat) ∧ ii = .int .i64 c ∧ Hid (0 < L → Mk wr B cap k (c * 8) f) ∧ Hid (Only (fun x => x = B ∧ 0 < L) w wr)) (fun _ ii _ => L - (intOf ii).toNat)
  case atStart => exact ⟨0, k, Nat.zero_le _, by omega, rfl, rfl, show _ → _ from fun h => (HR.out h).congr (fun i _ => by rw [if_neg (by omega)]), Only.refl _ _⟩
  case round =>
    obtain ⟨c, q, hcl, hq, rfl, rfl, HM, HO⟩ := hrel
    have HQ : Hid (q = k + c * 8) := hq
    have hq0 : 0 < q := by omega
    by_cases hlt : c < L
    · have hL0 : 0 < L := by omega
      have hq1 : q ≤ 562949961809920 := by omega
      obtain rfl := hA hL0
      have HM0 : Hid (Mk wr B cap k (c * 8) f) := HM.out hL0
      have c0 := HM0.out.cell (i := c * 8) (by omega) (by omega)
      have c1 := HM0.out.cell (i := c * 8 + 1) (by omega) (by omega)
      have z0 := (show wr.rowIs B _ _ _ from HM0.out).frozen
      obtain ⟨wa, hwa⟩ : ∃ wa, wa = (wr.setCell ⟨B, c * 8, none⟩ (.int .i64 (q : Nat))).setCell ⟨B, c * 8 + 1, none⟩ (.int .i64 ((q : Int) + 1)) := ⟨_, rfl⟩
      have HMa : Hid (Mk wa B cap k (c * 8 + 2) f) := by
        rw [hwa]
        exact (HM0.out.step (mkc_int (d := 0) (by omega) (by omega) (by omega) (by omega))).step (mkc_int (d := 1) (by omega) (by omega) (by omega) (by omega))
      have HOa : Hid (Only (fun x => x = B ∧ 0 < L) w wa) := by rw [hwa]; exact (HO.out.set ⟨rfl, hL0⟩ _).set ⟨rfl, hL0⟩ _
      have hm := markText_any (q + 2) wa (by omega) (by omega)
      rw [show ((q + 2 : Nat) : Int) = (q : Int) + 1 + 1 by omega] at hm
      obtain ⟨t1, ht1⟩ : ∃ t, markT (q + 2) = t := ⟨_, rfl⟩
      rw [ht1] at hm
      have HT1 : Hid (mkc k (c * 8 + 2) = .string t1) := by rw [← ht1]; exact mkc_text (Or.inl rfl) (by omega)
      obtain ⟨t2, ht2⟩ : ∃ t, markT (q + 6) = t := ⟨_, rfl⟩
      have HT2 : Hid (mkc k (c * 8 + 6) = .string t2) := by rw [← ht2]; exact mkc_text (Or.inr rfl) (by omega)
      clear ht1 hq HM0 HM HO
      go_wp2_with fail
      rw [← hwa]
      refine hm.mono ?_
      clear hm hwa c0 c1 z0
      rintro e w1 ⟨rfl, hb1⟩
      have HM1 : Hid (Mk w1 B cap k (c * 8 + 2) f) := HMa.out.below hb1
      have HO1 : Hid (Only (fun x => x = B ∧ 0 < L) w w1) := HOa.out.trans (Only.below hb1)
      clear hb1 HMa HOa
      have c2 := HM1.out.cell (i := c * 8 + 2) (by omega) (by omega)
      have c3 := HM1.out.cell (i := c * 8 + 3) (by omega) (by omega)
      have c4 := HM1.out.cell (i := c * 8 + 4) (by omega) (by omega)
      have c5 := HM1.out.cell (i := c * 8 + 5) (by omega) (by omega)
      have z0 := (show w1.rowIs B _ _ _ from HM1.out).frozen
      obtain ⟨wb, hwb⟩ : ∃ wb, wb = (((w1.setCell ⟨B, c * 8 + 2, none⟩ (.string t1)).setCell ⟨B, c * 8 + 3, none⟩ (.int .i64 ((q : Int) + 1 + 1 + 1))).setCell ⟨B, c * 8 + 4, none⟩ (.int .i64 ((q : Int) + 1 + 1 + 1 + 1))).setCell ⟨B, c * 8 + 5, none⟩ (.int .i64 ((q : Int) + 1 + 1 + 1 + 1 + 1)) := ⟨_, rfl⟩
      have hQ := HQ.out
      have HMb : Hid (Mk wb B cap k (c * 8 + 6) f) := by
        rw [hwb]
        exact (((HM1.out.step HT1.out).step (mkc_int (d := 3) (by omega) (by omega) (by omega) (by omega))).step (mkc_int (d := 4) (by omega) (by omega) (by omega) (by omega))).step (mkc_int (d := 5) (by omega) (by omega) (by omega) (by omega))
      have HOb : Hid (Only (fun x => x = B ∧ 0 < L) w wb) := by rw [hwb]; exact (((HO1.out.set ⟨rfl, hL0⟩ _).set ⟨rfl, hL0⟩ _).set ⟨rfl, hL0⟩ _).set ⟨rfl, hL0⟩ _
      have hm := markText_any (q + 6) wb (by omega) (by omega)
      rw [show ((q + 6 : Nat) : Int) = (q : Int) + 1 + 1 + 1 + 1 + 1 + 1 by omega, ht2] at hm
      clear ht2 hQ HM1 HO1
      go_wp2_with fail
      rw [← hwb]
      refine hm.mono ?_
      clear hm hwb c2 c3 c4 c5 z0
      rintro e w2 ⟨rfl, hb2⟩
      have HM2 : Hid (Mk w2 B cap k (c * 8 + 6) f) := HMb.out.below hb2
      have HO2 : Hid (Only (fun x => x = B ∧ 0 < L) w w2) := HOb.out.trans (Only.below hb2)
      clear hb2 HMb HOb
      have c6 := HM2.out.cell (i := c * 8 + 6) (by omega) (by omega)
      have c7 := HM2.out.cell (i := c * 8 + 7) (by omega) (by omega)
      have z0 := (show w2.rowIs B _ _ _ from HM2.out).frozen
      go_wp2
      have hQ := HQ.out
      go_roundw
      case rel =>
        refine ⟨c + 1, q + 8, by omega, by omega, by go_num, by go_num, show _ → _ from fun _ => ?_, (HO2.out.set ⟨rfl, hL0⟩ _).set ⟨rfl, hL0⟩ _⟩
        have := (HM2.out.step HT2.out).step (mkc_int (d := 7) (q := (q : Int) + 1 + 1 + 1 + 1 + 1 + 1 + 1) (by omega) (by omega) (by omega) (by omega))
        rw [show c * 8 + 7 + 1 = (c + 1) * 8 by omega] at this
        exact this
      case measure => simp [intOf]; omega
    · obtain rfl : c = L := by omega
      subst hq
      clear HQ
      go_wp2
      go_ret
      exact ⟨rfl, HM.out, HO.out⟩

end Go.Proofs.Ytgflalfiopnmnab

namespace Go.Proofs.Ytgflalfiopnmnab
open Go.RowKit Vl

set_option maxHeartbeats 2000000 in
set_option maxRecDepth 100000 in
/-- 'heldPairS'. -/
theorem heldPairS_any (pa : Option Addr) (L C B k : Nat) (w : World) (hL : L ≤ 1048576) (hk0 : 0 < k) (hk1 : k ≤ 562949953421312) (hA : 0 < L → pa = some ⟨B, 0, none⟩) (HM : Hid (MkAt w B k L)) :
    Calls Try.prog 87 #[.slice pa L C, .int .i64 k] w fun e w' => e = .returned (.int .i64 ((k + L * 8 : Nat) : Int)) ∧ Below w.heap.size w w' := by
  go_enter Try.func87, Try.ntmps87
  go_wp2
  go_loopw [1, 5] (fun kk ii wr => ∃ (c q : Nat), c ≤ L ∧ q = k + c * 8 ∧ kk = .int .i64 (q : Nat) ∧ ii = .int .i64 c ∧ Hid (Below w.heap.size w wr)) (fun _ ii _ => L - (intOf ii).toNat)
  case atStart => exact ⟨0, k, Nat.zero_le _, by omega, rfl, rfl, Below.refl _ _⟩
  case round =>
    obtain ⟨c, q, hcl, hq, rfl, rfl, HW⟩ := hrel
    have HQ : Hid (q = k + c * 8) := hq
    have hq0 : 0 < q := by omega
    by_cases hlt : c < L
    · have hL0 : 0 < L := by omega
      have hq1 : q ≤ 562949961809920 := by omega
      obtain rfl := hA hL0
      obtain ⟨c0, c1, c2, c3, c4, c5, c6, c7⟩ := (HM.out.below HW.out).cells hlt hq
      have hbc : (0 : Int) ≤ (c : Int) ∧ (c : Int) < (L : Int) := by omega
      have hm1 := fun w1 => markText_any (q + 2) w1 (by omega) (by omega)
      rw [show ((q + 2 : Nat) : Int) = (q : Int) + 1 + 1 by omega] at hm1
      have hm2 := fun w1 => markText_any (q + 6) w1 (by omega) (by omega)
      rw [show ((q + 6 : Nat) : Int) = (q : Int) + 1 + 1 + 1 + 1 + 1 + 1 by omega] at hm2
      obtain ⟨t1, ht1⟩ : ∃ t, markT (q + 2) = t := ⟨_, rfl⟩
      rw [ht1] at hm1 c2
      obtain ⟨t2, ht2⟩ : ∃ t, markT (q + 6) = t := ⟨_, rfl⟩
      rw [ht2] at hm2 c6
      have HT2 : Hid (markT (q + 6) = t2) := ht2
      clear ht1 ht2 hq c4 c5 c6 c7 c3
      have C2 : Hid _ := c2
      go_wp2
      go_region_held3 (fun w' => w'.cell? ⟨B, c * 8 + 2, none⟩ = some (.string t1) ∧ Hid (Below w.heap.size w w'))
        (first | exact keep1m ‹_ ∧ _› hb1 | exact ⟨C2.out, HW.out.drew⟩)
        ((go_at_call 74; refine (hm1 _).mono ?_; rintro e w1 ⟨rfl, hb1⟩))
      rename_i hS
      have HW1 := hS.2
      have hQ := HQ.out
      clear hS hb1 c0 c1 c2 C2 HW hm1
      obtain ⟨_, _, _, c3, c4, c5, c6, c7⟩ := (HM.out.below HW1.out).cells hlt hQ
      rw [HT2.out] at c6
      have C6 : Hid _ := c6
      clear hQ c7
      go_wp2
      go_region_held3 (fun w' => w'.cell? ⟨B, c * 8 + 6, none⟩ = some (.string t2) ∧ Hid (Below w.heap.size w w'))
        (first | exact keep1m ‹_ ∧ _› hb2 | exact ⟨C6.out, HW1.out.drew⟩)
        ((go_at_call 74; refine (hm2 _).mono ?_; rintro e w2 ⟨rfl, hb2⟩))
      rename_i hS
      have HW2 := hS.2
      have hQ := HQ.out
      clear hS hb2 c3 c4 c5 c6 C6 HW1 hm2
      obtain ⟨_, _, _, _, _, _, _, c7⟩ := (HM.out.below HW2.out).cells hlt hQ
      clear hQ
      go_wp2
      have hQ := HQ.out
      go_roundw
      case rel => exact ⟨c + 1, q + 8, by omega, by omega, by go_num, by go_num, HW2⟩
      case measure => simp [intOf]; omega
    · obtain rfl : c = L := by omega
      subst hq
      clear HQ
      go_wp2
      go_ret
      exact ⟨rfl, HW.out⟩

end Go.Proofs.Ytgflalfiopnmnab

namespace Go.Proofs.Ytgflalfiopnmnab
open Go.RowKit Vl

set_option maxHeartbeats 1000000 in
set_option maxRecDepth 100000 in
/-- 'markTableS'. -/
theorem markTableS_any (ta : Option Addr) (n cp TB k : Nat) (A : Nat → Option Addr) (L C RB cap : Nat → Nat) (f : Nat → Nat → Value) (w : World) (hn : n ≤ 1048576) (HL : Hid (∀ r, r < n → L r ≤ 1048576)) (hk0 : 0 < k) (hk1 : k ≤ 17592186044416) (HT : Hid (MTabs w ta n TB A L C RB cap f)) :
    Calls Try.prog 57 #[.slice ta n cp, .int .i64 k] w fun e w' => e = .returned (.int .i64 ((koff k L n : Nat) : Int)) ∧ (∀ r, r < n → 0 < L r → Mk w' (RB r) (cap r) (koff k L r) (L r * 8) (f r)) ∧ Only (fun x => ∃ j, j < n ∧ x = RB j ∧ 0 < L j) w w' := by
  have HK : Hid (∀ r, r ≤ n → koff k L r ≤ k + r * (1048576 * 8)) := fun r hr => koff_le HL.out r hr
  go_enter Try.func57, Try.ntmps57
  go_wp2
  go_loopw [1, 5] (fun kk ii wr => ∃ (r q : Nat), r ≤ n ∧ Hid (koff k L r = q) ∧ kk = .int .i64 (q : Nat) ∧ ii = .int .i64 r ∧ Hid (∀ j, j < r → 0 < L j → Mk wr (RB j) (cap j) (koff k L j) (L j * 8) (f j)) ∧ Hid (Only (fun x => ∃ j, j < r ∧ x = RB j ∧ 0 < L j) w wr)) (fun _ ii _ => n - (intOf ii).toNat)
  case atStart => exact ⟨0, k, Nat.zero_le _, (show koff k L 0 = k from rfl), rfl, rfl, (show ∀ j, _ from fun j hj => by omega), Only.refl _ _⟩
  case round =>
    obtain ⟨r, q, hr, HQ, rfl, rfl, HM, HO⟩ := hrel
    by_cases hlt : r < n
    · obtain rfl := HT.out.top (by omega)
      have t0 : wr.cell? ⟨TB, r, none⟩ = some (.slice (A r) (L r) (C r)) := HO.out.cell (HT.out.tab r hlt) (by rintro ⟨j, hj, e, h0⟩; exact HT.out.ne j (by omega) h0 e.symm)
      have hq1 : q ≤ k + r * (1048576 * 8) := by have := HK.out r hr; rw [HQ.out] at this; exact this
      have hq0 : 0 < q := by rw [← HQ.out]; exact koff_pos hk0 r
      have hLr := HL.out r hlt
      obtain ⟨a, ha⟩ : ∃ a, A r = a := ⟨_, rfl⟩
      rw [ha] at t0
      have hm := markPairS_any a (L r) (C r) (RB r) (cap r) q (f r) wr hLr hq0 (by omega) (fun h => ha ▸ HT.out.adr r hlt h) (by
          rcases Nat.eq_zero_or_pos (L r) with h | h
          · omega
          · exact HT.out.fit r hlt h) (show _ → _ from fun h => HO.out.rowIs (HT.out.row r hlt h) (by rintro ⟨j, hj, e, h0⟩; exact HT.out.dis j r hj hlt h0 h e.symm))
      have hbr : (0 : Int) ≤ (r : Int) ∧ (r : Int) < (n : Int) := by omega
      clear hq1
      go_wp2_with fail
      refine hm.mono ?_
      clear hm t0
      rintro e w1 ⟨rfl, hM1, hO1⟩
      have HM1 : Hid (∀ j, j < r + 1 → 0 < L j → Mk w1 (RB j) (cap j) (koff k L j) (L j * 8) (f j)) := show ∀ j, _ from fun j hj h0 => by
        by_cases e : j = r
        · subst e; rw [HQ.out]; exact hM1 h0
        · exact hO1.rowIs (HM.out j (by omega) h0) (by rintro ⟨e', h0'⟩; exact HT.out.dis j r (by omega) hlt h0 h0' e')
      have HO1 : Hid (Only (fun x => ∃ j, j < r + 1 ∧ x = RB j ∧ 0 < L j) w w1) := (HO.out.mono (fun x _ ⟨j, h1, h2⟩ => ⟨j, by omega, h2⟩)).trans (hO1.mono (fun x _ h => ⟨r, by omega, h⟩))
      clear hM1 hO1 HM HO
      go_wp2
      go_roundw
      case rel => exact ⟨r + 1, q + L r * 8, by omega, (show koff k L r + L r * 8 = _ by rw [HQ.out]), rfl, by go_num, HM1, HO1⟩
      case measure => simp [intOf]; omega
    · obtain rfl : r = n := by omega
      go_wp2
      go_ret
      refine ⟨?_, HM.out, HO.out⟩
      have := HQ.out
      subst this
      rfl

set_option maxHeartbeats 1000000 in
set_option maxRecDepth 100000 in
/-- 'heldTableS'. -/
theorem heldTableS_any (ta : Option Addr) (n cp TB k : Nat) (A : Nat → Option Addr) (L C RB : Nat → Nat) (w : World) (hn : n ≤ 1048576) (HL : Hid (∀ r, r < n → L r ≤ 1048576)) (hk0 : 0 < k) (hk1 : k ≤ 1048576) (HT : Hid (HTabs w ta n TB k A L C RB)) :
    Calls Try.prog 58 #[.slice ta n cp, .int .i64 k] w fun e w' => e = .returned (.int .i64 ((koff k L n : Nat) : Int)) ∧ Below w.heap.size w w' := by
  have HK : Hid (∀ r, r ≤ n → koff k L r ≤ k + r * (1048576 * 8)) := fun r hr => koff_le HL.out r hr
  go_enter Try.func58, Try.ntmps58
  go_wp2
  go_loopw [1, 5] (fun kk ii wr => ∃ (r q : Nat), r ≤ n ∧ Hid (koff k L r = q) ∧ kk = .int .i64 (q : Nat) ∧ ii = .int .i64 r ∧ Hid (Below w.heap.size w wr)) (fun _ ii _ => n - (intOf ii).toNat)
  case atStart => exact ⟨0, k, Nat.zero_le _, (show koff k L 0 = k from rfl), rfl, rfl, Below.refl _ _⟩
  case round =>
    obtain ⟨r, q, hr, HQ, rfl, rfl, HW⟩ := hrel
    by_cases hlt : r < n
    · obtain rfl := HT.out.top (by omega)
      have t0 := (HT.out.below HW.out).tab r hlt
      have hq1 : q ≤ k + r * (1048576 * 8) := by have := HK.out r hr; rw [HQ.out] at this; exact this
      have hq0 : 0 < q := by rw [← HQ.out]; exact koff_pos hk0 r
      have hLr := HL.out r hlt
      obtain ⟨a, ha⟩ : ∃ a, A r = a := ⟨_, rfl⟩
      rw [ha] at t0
      have hm := heldPairS_any a (L r) (C r) (RB r) q wr hLr hq0 (by omega) (fun h => ha ▸ HT.out.adr r hlt h) (show MkAt _ _ _ _ from fun i hi => by
        have := (HT.out.below HW.out).row r hlt (by omega)
        rw [HQ.out] at this
        exact this i hi)
      have hbr : (0 : Int) ≤ (r : Int) ∧ (r : Int) < (n : Int) := by omega
      have hq2 : q ≤ 8796094070784 := by omega
      clear hq1
      go_wp2_with fail
      refine hm.mono ?_
      clear hm t0
      rintro e w1 ⟨rfl, hb1⟩
      have HW1 : Hid (Below w.heap.size w w1) := grw HW.out hb1
      clear hb1 HW
      obtain ⟨q', hq'⟩ : ∃ q', q + L r * 8 = q' := ⟨_, rfl⟩
      have HQ' : Hid (koff k L (r + 1) = q') := show koff k L r + L r * 8 = q' by rw [HQ.out]; exact hq'
      rw [hq']
      have hnn : ¬ ((q' : Int) < 0) := by omega
      clear hq'
      go_wp2
      go_roundw
      case rel => exact ⟨r + 1, q', by omega, HQ', rfl, by go_num, HW1⟩
      case measure => simp [intOf]; omega
    · obtain rfl : r = n := by omega
      go_wp2
      go_ret
      refine ⟨?_, HW.out⟩
      have := HQ.out
      subst this
      rfl

end Go.Proofs.Ytgflalfiopnmnab

namespace Go.Proofs.Ytgflalfiopnmnab
open Go.RowKit Vl

set_option maxHeartbeats 1000000 in
set_option maxRecDepth 100000 in
/-- 'markGraph'. -/
theorem markGraph_any (u : V) (ta : Option Addr) (n cp TB k : Nat) (A : Nat → Option Addr) (L C RB cap : Nat → Nat) (f : Nat → Nat → Value) (w : World) (hn : n ≤ 1048576) (HL : Hid (∀ r, r < n → L r ≤ 1048576)) (hk0 : 0 < k) (hk1 : k ≤ 17592186044416) (HT : Hid (MTabs w ta n TB A L C RB cap f)) :
    Calls Try.prog 22 #[.agg #[.int .i64 u.k, .int .i64 u.n, .string u.s, .int .i64 u.a, .slice ta n cp], .int .i64 k] w fun e w' => e = .returned (.int .i64 ((koff k L n : Nat) : Int)) ∧ (∀ r, r < n → 0 < L r → Mk w' (RB r) (cap r) (koff k L r) (L r * 8) (f r)) ∧ Only (fun x => ∃ j, j < n ∧ x = RB j ∧ 0 < L j) w w' := by
  obtain ⟨w0, hw0⟩ : ∃ w0, w0 = w.alloc (.cells #[.int .i64 u.k, .int .i64 u.n, .string u.s, .int .i64 u.a, .slice ta n cp] 32) := ⟨_, rfl⟩
  have hb0 : Below w.heap.size w w0 := by rw [hw0]; exact (Below.refl _ _).alloc (Nat.le_refl _) _
  have HB0 : Hid _ := hb0
  have hm := markTableS_any ta n cp TB k A L C RB cap f w0 hn HL hk0 hk1 (HT.out.below hb0)
  obtain ⟨q, hq⟩ : ∃ q, koff k L n = q := ⟨_, rfl⟩
  rw [hq] at hm ⊢
  clear hq hb0
  go_enter Try.func22, Try.ntmps22
  go_wp2_with fail
  rw [← hw0]
  refine hm.mono ?_
  clear hm hw0
  rintro e w1 ⟨rfl, hM, hO⟩
  have HM : Hid _ := hM
  have HO : Hid (Only (fun x => ∃ j, j < n ∧ x = RB j ∧ 0 < L j) w w1) := (Only.below HB0.out).trans hO
  clear hM hO
  go_wp2
  go_ret
  exact ⟨rfl, HM.out, HO.out⟩

set_option maxHeartbeats 1000000 in
set_option maxRecDepth 100000 in
/-- 'heldGraph'. -/
theorem heldGraph_any (u : V) (ta : Option Addr) (n cp TB k : Nat) (A : Nat → Option Addr) (L C RB : Nat → Nat) (w : World) (hn : n ≤ 1048576) (HL : Hid (∀ r, r < n → L r ≤ 1048576)) (hk0 : 0 < k) (hk1 : k ≤ 1048576) (HT : Hid (HTabs w ta n TB k A L C RB)) :
    Calls Try.prog 23 #[.agg #[.int .i64 u.k, .int .i64 u.n, .string u.s, .int .i64 u.a, .slice ta n cp], .int .i64 k] w fun e w' => e = .returned (.int .i64 ((koff k L n : Nat) : Int)) ∧ Below w.heap.size w w' := by
  obtain ⟨w0, hw0⟩ : ∃ w0, w0 = w.alloc (.cells #[.int .i64 u.k, .int .i64 u.n, .string u.s, .int .i64 u.a, .slice ta n cp] 32) := ⟨_, rfl⟩
  have hb0 : Below w.heap.size w w0 := by rw [hw0]; exact (Below.refl _ _).alloc (Nat.le_refl _) _
  have HB0 : Hid _ := hb0
  have hm := heldTableS_any ta n cp TB k A L C RB w0 hn HL hk0 hk1 (HT.out.below hb0)
  obtain ⟨q, hq⟩ : ∃ q, koff k L n = q := ⟨_, rfl⟩
  rw [hq] at hm ⊢
  clear hq hb0
  have hnn : ¬ ((q : Int) < 0) := by omega
  go_enter Try.func23, Try.ntmps23
  go_wp2_with fail
  rw [← hw0]
  refine hm.mono ?_
  clear hm hw0
  rintro e w1 ⟨rfl, hb1⟩
  have HW : Hid (Below w.heap.size w w1) := grw HB0.out hb1
  clear hb1
  go_wp2
  go_ret
  exact ⟨rfl, HW.out⟩

end Go.Proofs.Ytgflalfiopnmnab
