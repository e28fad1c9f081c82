import Derived.Test.YtgflalfiopnmnaaP11
import Derived.LaidEql
import Derived.ProofKit
import Derived.OpenShut
import Derived.ShutString
import Derived.ChangeOld
import Derived.Lib.SmallJoins
import Derived.Deep.Slices
import Derived.Test.YtgflalfiopnmnaaP1
import Derived.Test.YtgflalfiopnmnaaRows
import Derived.Test.YtgflalfiopnmnaaP2
import Derived.Test.YtgflalfiopnmnaaP4
import Derived.Deep.RegionHeld3
import Derived.Test.YtgflalfiopnmnaaP6
namespace Go.Proofs.Ytgflalfiopnmnaa
open Go.RowKit Vl

theorem eq_truth (a b : Bool) (w : World) : (binOp .eql 68 (.iface 156 (.agg #[.bool a])) (.iface 156 (.agg #[.bool b]))).run Try.prog w = .ok (.bool (a == b)) w := by
  cases a <;> cases b <;> kernel_rfl
theorem eq_whole (a b : Int) (w : World) : (binOp .eql 68 (.iface 158 (.agg #[.int .i64 a])) (.iface 158 (.agg #[.int .i64 b]))).run Try.prog w = .ok (.bool (a == b)) w := by
  have h1 : (binOp .eql 68 (.iface 158 (.agg #[.int .i64 a])) (.iface 158 (.agg #[.int .i64 b]))).run Try.prog w = (binOp .eql 158 (.agg #[.int .i64 a]) (.agg #[.int .i64 b])).run Try.prog w := by kernel_rfl
  rw [h1]
  go_simp
  by_cases h : a = b <;> simp [h]
theorem eq_words (a b : ByteArray) (w : World) : (binOp .eql 68 (.iface 160 (.agg #[.string a])) (.iface 160 (.agg #[.string b]))).run Try.prog w = .ok (.bool (a.toList == b.toList)) w := by
  have h1 : (binOp .eql 68 (.iface 160 (.agg #[.string a])) (.iface 160 (.agg #[.string b]))).run Try.prog w = (binOp .eql 160 (.agg #[.string a]) (.agg #[.string b])).run Try.prog w := by kernel_rfl
  rw [h1]
  go_simp
  by_cases h : a.toList = b.toList <;> simp [h]
theorem Try.isFace : ((Try.prog.underlying 68).map fun d => match d with | .interface _ => true | _ => false) = some true := by kernel_rfl
theorem Try.isPtr : ((Try.prog.underlying 63).map fun d => match d with | .pointer e => some e | _ => none) = some (some 66) := by kernel_rfl
theorem Try.cmpPtr : (Try.prog.info? 63).map (fun i => i.comparable) = some true := by kernel_rfl
theorem Try.szTab : (Try.prog.info? 66).map (fun i => i.size) = some 3 := by kernel_rfl
theorem eq_tab (a b : Nat) (w : World) (ha : ∃ ca ta, w.heap[a]? = some (.cells ca ta (0, 0))) (hb : ∃ cb tb, w.heap[b]? = some (.cells cb tb (0, 0))) : (binOp .eql 68 (.iface 63 (ptr a)) (.iface 63 (ptr b))).run Try.prog w = .ok (.bool (a == b)) w := by
  obtain ⟨ca, ta, ha⟩ := ha
  obtain ⟨cb, tb, hb⟩ := hb
  obtain ⟨ms, hi⟩ : ∃ ms, Try.prog.underlying 68 = some (.interface ms) := by
    have h := Try.isFace
    cases e : Try.prog.underlying 68 with
    | none => rw [e] at h; cases h
    | some d => rw [e] at h; cases d <;> first | exact ⟨_, rfl⟩ | cases h
  have hp : Try.prog.underlying 63 = some (.pointer 66) := by
    have h := Try.isPtr
    cases e : Try.prog.underlying 63 with
    | none => rw [e] at h; cases h
    | some d => rw [e] at h; cases d <;> first | (cases h; rfl) | cases h
  obtain ⟨i, hinfo, hc⟩ : ∃ i, Try.prog.info? 63 = some i ∧ i.comparable = true := by
    have h := Try.cmpPtr
    cases e : Try.prog.info? 63 with
    | none => rw [e] at h; cases h
    | some d => rw [e] at h; exact ⟨d, rfl, by simpa using h⟩
  obtain ⟨j, hj, hsz⟩ : ∃ j, Try.prog.info? 66 = some j ∧ j.size = 3 := by
    have h := Try.szTab
    cases e : Try.prog.info? 66 with
    | none => rw [e] at h; cases h
    | some d => rw [e] at h; exact ⟨d, rfl, by simpa using h⟩
  by_cases h : a = b
  · subst h
    have := run_eql_iface_ptr_same (P := Try.prog) w ⟨a, 0, none⟩ hi hp hinfo hc hj
    simpa using this
  · have := run_eql_iface_ptr_other (P := Try.prog) w (a := ⟨a, 0, none⟩) (b := ⟨b, 0, none⟩) hi hp hinfo hc hj (by omega) (fun e => h (by cases e; rfl)) ha hb
    have hf : (a == b) = false := by simpa using h
    rw [hf]
    exact this

theorem kinds {n : Nat} {v : V} (h : isV n v = true) : v.k = 0 ∨ v.k = 1 ∨ v.k = 2 ∨ v.k = 3 ∨ v.k = 4 := by
  by_cases k0 : v.k = 0
  · exact Or.inl k0
  by_cases k1 : v.k = 1
  · exact Or.inr (Or.inl k1)
  by_cases k2 : v.k = 2
  · exact Or.inr (Or.inr (Or.inl k2))
  by_cases k3 : v.k = 3
  · exact Or.inr (Or.inr (Or.inr (Or.inl k3)))
  by_cases k4 : v.k = 4
  · exact Or.inr (Or.inr (Or.inr (Or.inr k4)))
  · simp [isV, k0, k1, k2, k3, k4] at h

/-- Values against one another. -/
theorem eql_ifv (T : Nat → Nat) {n : Nat} {x y : V} (hx : isV n x = true) (hy : isV n y = true) (w : World) (hT : ∀ j, j < n → ∃ cs t, w.heap[T j]? = some (.cells cs t (0, 0))) :
    (binOp .eql 68 (ifv T x) (ifv T y)).run Try.prog w = .ok (.bool (alike T x y)) w := by
  have kx := kinds hx
  have ky := kinds hy
  have tx := fun h4 => isV_tab hx h4
  have ty := fun h4 => isV_tab hy h4
  obtain ⟨k, m, s, a⟩ := x
  obtain ⟨k', m', s', a'⟩ := y
  simp only at kx ky tx ty
  by_cases hk : k = k'
  case neg => rcases kx with rfl | rfl | rfl | rfl | rfl <;> rcases ky with rfl | rfl | rfl | rfl | rfl <;> first | exact absurd rfl hk | (show _ = _; kernel_rfl)
  subst hk
  rcases kx with rfl | rfl | rfl | rfl | rfl
  · simp only [isV, if_pos, Bool.and_eq_true, beq_iff_eq] at hx hy
    have e : alike T ⟨0, m, s, a⟩ ⟨0, m', s', a'⟩ = true := by simp [alike, eqV, hx.1, hx.2.1, hx.2.2, hy.1, hy.2.1, hy.2.2]
    rw [e]
    show _ = _
    kernel_rfl
  · have e := eq_truth (m == 1) (m' == 1) w
    have e2 : alike T ⟨1, m, s, a⟩ ⟨1, m', s', a'⟩ = ((m == 1) == (m' == 1)) := by
      simp [isV] at hx hy
      rcases hx.1 with rfl | rfl <;> rcases hy.1 with rfl | rfl <;> simp [alike, eqV, hx.2.1, hx.2.2, hy.2.1, hy.2.2]
    rw [e2]
    exact e
  · have e := eq_whole m m' w
    have e2 : alike T ⟨2, m, s, a⟩ ⟨2, m', s', a'⟩ = (m == m') := by
      simp [isV] at hx hy
      simp [alike, eqV, hx.1, hx.2, hy.1, hy.2]
    rw [e2]
    exact e
  · have e := eq_words s s' w
    have e2 : alike T ⟨3, m, s, a⟩ ⟨3, m', s', a'⟩ = (s.toList == s'.toList) := by
      simp [isV] at hx hy
      simp [alike, eqV, hx.1, hx.2.1, hy.1, hy.2.1]
    rw [e2]
    exact e
  · obtain ⟨a0, a1⟩ := tx rfl
    obtain ⟨b0, b1⟩ := ty rfl
    have e := eq_tab (T a.toNat) (T a'.toNat) w (hT _ (by omega)) (hT _ (by omega))
    have e2 : alike T ⟨4, m, s, a⟩ ⟨4, m', s', a'⟩ = (T a.toNat == T a'.toNat) := by simp [alike]
    rw [e2]
    exact e

end Go.Proofs.Ytgflalfiopnmnaa

namespace Go.Proofs.Ytgflalfiopnmnaa
open Go.RowKit Vl

/-- Two of them. -/
def two {α : Type} (a b : α) (q : Nat) : α := if q = 0 then a else b

theorem Cfd.root {G : GrS} {w w1 : World} {m : Nat} {T M L : Nat → Nat} {K X : Nat → Nat → V} {ls : Nat → List Nat} {f : Nat → Nat} {rv tv : Value} {cb : Nat} (hd : Cfd G w w1 m T M L K X ls f rv tv cb) {p : Nat} (hp : p < m) : isV (G.off m) (sh (G.off p) (G.U p)) = true := by
  have h1 := sh_isV (N := G.off p) (hd.cmb.ok p hp).root
  have h2 := G.off_le hp
  have h3 := isV_more (n := G.off m - (G.off p + G.n p)) h1
  rw [show G.off p + G.n p + (G.off m - (G.off p + G.n p)) = G.off m by omega] at h3
  exact h3

/-- 'first', of what classify gave. -/
theorem Cfd.first {G : GrS} {w w1 : World} {m rc vc : Nat} {T M L : Nat → Nat} {K X : Nat → Nat → V} {ls : Nat → List Nat} {f : Nat → Nat} {ra va : Option Addr} {cb : Nat} (hd : Cfd G w w1 m T M L K X ls f (.slice ra m rc) (.slice va (G.off m) vc) cb) (hN : G.off m ≤ 400) (x : V) (w' : World) (hx : isV (G.off m) x = true) (hb : Below w1.heap.size w1 w') :
    Calls Try.prog 36 #[.agg #[.slice ra m rc, .slice va (G.off m) vc, .slice (some ⟨cb, 0, none⟩) (G.off m) (G.off m)], ifv T x] w' fun e w'' => e = .returned (ifv T (fstV f x)) ∧ Below w'.heap.size w' w'' := by
  obtain ⟨tb, hva, hrow⟩ : ∃ tb, (0 < G.off m → va = some ⟨tb, 0, none⟩) ∧ ∀ j, j < G.off m → w1.cell? ⟨tb, j, none⟩ = some (ptr (T j)) := by
    by_cases h0 : 0 < G.off m
    · obtain ⟨g, cap, e, _⟩ := hd.tabs.form h0
      cases e
      refine ⟨g, fun _ => rfl, fun j hj => ?_⟩
      obtain ⟨g', cap', e', h⟩ := owns_cell hd.tabs (k := j) (y := ptr (T j)) (by simp [hj])
      cases e'
      exact h
    · exact ⟨0, fun h => absurd h h0, fun j hj => by omega⟩
  exact first_any (G.off m) m rc vc tb cb T M L (sK K ls) (sK X ls) f ra va x w' hx hN hd.is.low hva (show ∀ j, _ from fun j hj => (hb.cell (World.block_lt_of_cell? _ _ (hrow j hj))).trans (hrow j hj)) (show ∀ j, _ from fun j hj => (hb.cell (World.block_lt_of_cell? _ _ (hd.cls.cell hj))).trans (hd.cls.cell hj)) (hd.tbs.below hb)

end Go.Proofs.Ytgflalfiopnmnaa

namespace Go.Proofs.Ytgflalfiopnmnaa
open Go.RowKit Vl

theorem okT_more {N n L : Nat} {K X : Nat → V} (h : OkT N L K X) : OkT (N + n) L K X := ⟨h.len, fun c hc => ⟨(h.all c hc).key, isV_more (h.all c hc).val, (h.all c hc).some, (h.all c hc).once⟩⟩
theorem okT_sh {N n L : Nat} {K X : Nat → V} (h : OkT n L K X) : OkT (N + n) L K (fun c => sh N (X c)) := ⟨h.len, fun c hc => ⟨(h.all c hc).key, sh_isV (h.all c hc).val, by rw [sh_k]; exact (h.all c hc).some, (h.all c hc).once⟩⟩
theorem okT_join {n m : Nat} {u u' : V} {L L' : Nat → Nat} {K X K' X' : Nat → Nat → V} (h : OkG n u L K X) (h' : OkG m u' L' K' X') : ∀ r, r < n + m → OkT (n + m) (jn n L L' r) (jn n K K' r) (jn n X (fun j c => sh n (X' j c)) r) := fun r hr => by
  by_cases e : r < n
  · rw [jn_lt e, jn_lt e, jn_lt e]
    exact okT_more (h.all r e)
  · rw [jn_ge e, jn_ge e, jn_ge e]
    exact okT_sh (h'.all (r - n) (by omega))

theorem ClsAre.uniqT {n : Nat} {L : Nat → Nat} {K X : Nat → Nat → V} {f f' : Nat → Nat} (hok : ∀ r, r < n → OkT n (L r) (K r) (X r)) (h : ClsAre n L K X f) (h' : ClsAre n L K X f') {i : Nat} (hi : i < n) : f i = f' i := by
  obtain ⟨ls, h1, h2⟩ := h
  obtain ⟨ls', k1, k2⟩ := h'
  have e : ∀ r, r < n → ls' r = ls r := fun r hr => SortI.one (hok r hr) (k1 r hr) (h1 r hr)
  have k3 := k2.agree (L' := L) (K' := sK K ls) (X' := sK X ls) (fun _ _ => rfl) (fun j hj => by unfold sK; rw [e j hj]) (fun j hj => by unfold sK; rw [e j hj])
  refine IsCls.uniq (fun r hr c hc => ?_) h2 k3 hi
  exact ((hok r hr).all _ ((h1 r hr).lt hc)).val

theorem fstV_k (f : Nat → Nat) (v : V) : (fstV f v).k = v.k := by unfold fstV; split <;> rfl
theorem fstV_a {f : Nat → Nat} {v : V} (h : v.k = 4) : (fstV f v).a.toNat = f v.a.toNat := by unfold fstV; rw [if_pos h]; simp
theorem fstV_ne {f : Nat → Nat} {v : V} (h : v.k ≠ 4) : fstV f v = v := by unfold fstV; rw [if_neg h]
theorem fstV_isV {f : Nat → Nat} {N : Nat} (hf : ∀ i, i < N → f i ≤ i) {v : V} (h : isV N v = true) : isV N (fstV f v) = true := by
  by_cases h4 : v.k = 4
  · obtain ⟨a0, a1⟩ := isV_tab h h4
    have hl := hf v.a.toNat (by omega)
    unfold fstV
    rw [if_pos h4]
    unfold isV at h ⊢
    rw [if_neg (by omega), if_neg (by omega), if_neg (by omega), if_neg (by omega), if_pos h4] at h
    rw [if_neg (by simp only; omega), if_neg (by simp only; omega), if_neg (by simp only; omega), if_neg (by simp only; omega), if_pos (by simp only; omega)]
    simp only [Bool.and_eq_true, decide_eq_true_eq] at h ⊢
    refine ⟨h.1, h.2.1, ?_, ?_⟩ <;> omega
  · rw [fstV_ne h4]; exact h
theorem alike_fst {T f : Nat → Nat} {N : Nat} (hinj : ∀ i j, i < N → j < N → T i = T j → i = j) (hf : ∀ i, i < N → f i ≤ i) {x y : V} (hx : isV N x = true) (hy : isV N y = true) : alike T (fstV f x) (fstV f y) = alike f x y := by
  rw [Bool.eq_iff_iff, alike_iff, alike_iff, fstV_k, fstV_k]
  constructor
  · rintro ⟨h1, h2, h3⟩
    refine ⟨h1, fun h4 => ?_, fun h4 => ?_⟩
    · have e := h2 h4
      rw [fstV_a h4, fstV_a (h1.symm.trans h4)] at e
      obtain ⟨a0, a1⟩ := isV_tab hx h4
      obtain ⟨b0, b1⟩ := isV_tab hy (h1.symm.trans h4)
      exact hinj _ _ (by have := hf x.a.toNat (by omega); omega) (by have := hf y.a.toNat (by omega); omega) e
    · have e := h3 h4
      rw [fstV_ne h4, fstV_ne (by rw [← h1]; exact h4)] at e
      exact e
  · rintro ⟨h1, h2, h3⟩
    refine ⟨h1, fun h4 => ?_, fun h4 => ?_⟩
    · rw [fstV_a h4, fstV_a (h1.symm.trans h4), h2 h4]
    · rw [fstV_ne h4, fstV_ne (by rw [← h1]; exact h4)]
      exact h3 h4
theorem alike_congr {f f' : Nat → Nat} {N : Nat} (h : ∀ i, i < N → f i = f' i) {x y : V} (hx : isV N x = true) (hy : isV N y = true) : alike f x y = alike f' x y := by
  rw [Bool.eq_iff_iff, alike_iff, alike_iff]
  have key : x.k = y.k → x.k = 4 → (f x.a.toNat = f y.a.toNat ↔ f' x.a.toNat = f' y.a.toNat) := fun h1 h4 => by
    obtain ⟨a0, a1⟩ := isV_tab hx h4
    obtain ⟨b0, b1⟩ := isV_tab hy (h1.symm.trans h4)
    rw [h _ (by omega), h _ (by omega)]
  exact ⟨fun ⟨h1, h2, h3⟩ => ⟨h1, fun h4 => (key h1 h4).1 (h2 h4), h3⟩, fun ⟨h1, h2, h3⟩ => ⟨h1, fun h4 => (key h1 h4).2 (h2 h4), h3⟩⟩

/-- The answer of 'Same', of two graphs. -/
def SameRes (e : Ending) (n m : Nat) (u u' : V) (L L' : Nat → Nat) (K X K' X' : Nat → Nat → V) : Prop :=
  ((OkG n u L K X ∧ OkG m u' L' K' X') ∧ ∃ f : Nat → Nat, ClsAre (n + m) (jn n L L') (jn n K K') (jn n X (fun j c => sh n (X' j c))) f ∧ e = .returned (.bool (alike f u (sh n u')))) ∨ (¬ (OkG n u L K X ∧ OkG m u' L' K' X') ∧ e = .returned (.bool false))

end Go.Proofs.Ytgflalfiopnmnaa

namespace Go.Proofs.Ytgflalfiopnmnaa
open Go.RowKit Vl
open Go.ChangeShapes Go.WideShapes Go.ChangeAt Go.Joins

instance : Inhabited V := ⟨⟨0, 0, ⟨#[]⟩, 0⟩⟩

section
variable {H : Type} {enc : TypeId × Value → H} {w : World} {base : Nat} {spare : Nat → Bool} {held : Bool}

end

end Go.Proofs.Ytgflalfiopnmnaa

namespace Go.Proofs.Ytgflalfiopnmnaa
open Go.RowKit Vl
open Go.ChangeShapes Go.WideShapes Go.ChangeAt Go.Joins

end Go.Proofs.Ytgflalfiopnmnaa

namespace Go.Proofs.Ytgflalfiopnmnaa
open Go.RowKit Vl

/-- The digits of k ahead of out. -/
def digs (k : Nat) (out : ByteArray) : ByteArray := if k = 0 then out else digs (k / 10) (strOfNums [48 + (k : Int) % 10] ++ out)
termination_by k
decreasing_by omega
/-- The text of a mark. -/
def markT (k : Nat) : ByteArray := ⟨#[109]⟩ ++ digs k ⟨#[]⟩

end Go.Proofs.Ytgflalfiopnmnaa

namespace Go.Proofs.Ytgflalfiopnmnaa
open Go.RowKit Vl

/-- Cell i of marked pairs. -/
def mkc (k i : Nat) : Value := if i % 8 = 2 ∨ i % 8 = 6 then .string (markT (k + i)) else .int .i64 ((k + i : Nat) : Int)
theorem mkc_int {k c d : Nat} {q : Int} (hd : d < 8) (h2 : d ≠ 2) (h6 : d ≠ 6) (hq : q = k + c * 8 + d) : mkc k (c * 8 + d) = .int .i64 q := by
  unfold mkc
  rw [if_neg (by omega), hq]
  congr 1
  omega
theorem mkc_text {k c d q : Nat} (hd : d = 2 ∨ d = 6) (hq : q = k + c * 8 + d) : mkc k (c * 8 + d) = .string (markT q) := by
  unfold mkc
  rw [if_pos (by omega), hq, Nat.add_assoc]

/-- The first p cells are marked. -/
def Mk (w : World) (B cap k p : Nat) (f : Nat → Value) : Prop := w.rowIs B 75 cap (fun i => if i < p then mkc k i else f i)
theorem Mk.step {w : World} {B cap k p : Nat} {f : Nat → Value} {v : Value} (h : Mk w B cap k p f) (hv : mkc k p = v) : Mk (w.setCell ⟨B, p, none⟩ v) B cap k (p + 1) f := by
  refine ((show w.rowIs B _ _ _ from h).set p v).congr (fun i _ => ?_)
  by_cases e : i = p
  · subst e; rw [if_pos rfl, if_pos (by omega), hv]
  · rw [if_neg e]
    by_cases h' : i < p
    · rw [if_pos h', if_pos (by omega)]
    · rw [if_neg h', if_neg (by omega)]
theorem Mk.below {w w' : World} {B cap k p : Nat} {f : Nat → Value} (h : Mk w B cap k p f) (hb : Below w.heap.size w w') : Mk w' B cap k p f := h.of_block (hb.block B h.lt)
theorem Mk.cell {w : World} {B cap k p : Nat} {f : Nat → Value} (h : Mk w B cap k p f) {i : Nat} (hi : i < cap) (hp : p ≤ i) : w.cell? ⟨B, i, none⟩ = some (f i) := by
  have := (show w.rowIs B _ _ _ from h).cell hi
  rw [if_neg (by omega)] at this
  exact this

end Go.Proofs.Ytgflalfiopnmnaa

namespace Go.Proofs.Ytgflalfiopnmnaa
open Go.RowKit Vl

/-- Marked pairs, as they are read. -/
def MkAt (w : World) (B k L : Nat) : Prop := ∀ i, i < L * 8 → w.cell? ⟨B, i, none⟩ = some (mkc k i)
theorem Mk.at {w : World} {B cap k L : Nat} {f : Nat → Value} (h : Mk w B cap k (L * 8) f) (hc : L * 8 ≤ cap) : MkAt w B k L := fun i hi => by
  have := (show w.rowIs B _ _ _ from h).cell (i := i) (by omega)
  rw [if_pos hi] at this
  exact this
theorem MkAt.below {w w' : World} {B k L : Nat} (h : MkAt w B k L) (hb : Below w.heap.size w w') : MkAt w' B k L := fun i hi => (hb.cell (p := ⟨B, i, none⟩) (World.block_lt_of_cell? _ _ (h i hi))).trans (h i hi)

theorem MkAt.cells {w : World} {B k L c q : Nat} (h : MkAt w B k L) (hc : c < L) (hq : q = k + c * 8) :
    w.cell? ⟨B, c * 8, none⟩ = some (.int .i64 (q : Int)) ∧ w.cell? ⟨B, c * 8 + 1, none⟩ = some (.int .i64 ((q : Int) + 1)) ∧ w.cell? ⟨B, c * 8 + 2, none⟩ = some (.string (markT (q + 2))) ∧ w.cell? ⟨B, c * 8 + 3, none⟩ = some (.int .i64 ((q : Int) + 1 + 1 + 1)) ∧ w.cell? ⟨B, c * 8 + 4, none⟩ = some (.int .i64 ((q : Int) + 1 + 1 + 1 + 1)) ∧ w.cell? ⟨B, c * 8 + 5, none⟩ = some (.int .i64 ((q : Int) + 1 + 1 + 1 + 1 + 1)) ∧ w.cell? ⟨B, c * 8 + 6, none⟩ = some (.string (markT (q + 6))) ∧ w.cell? ⟨B, c * 8 + 7, none⟩ = some (.int .i64 ((q : Int) + 1 + 1 + 1 + 1 + 1 + 1 + 1)) := by
  have g : ∀ d, d < 8 → w.cell? ⟨B, c * 8 + d, none⟩ = some (mkc k (c * 8 + d)) := fun d hd => h _ (by omega)
  refine ⟨?_, ?_, ?_, ?_, ?_, ?_, ?_, ?_⟩
  · rw [← mkc_int (k := k) (c := c) (d := 0) (by omega) (by omega) (by omega) (by omega)]; exact g 0 (by omega)
  · rw [← mkc_int (k := k) (c := c) (d := 1) (by omega) (by omega) (by omega) (by omega)]; exact g 1 (by omega)
  · rw [← mkc_text (k := k) (c := c) (d := 2) (Or.inl rfl) (by omega)]; exact g 2 (by omega)
  · rw [← mkc_int (k := k) (c := c) (d := 3) (by omega) (by omega) (by omega) (by omega)]; exact g 3 (by omega)
  · rw [← mkc_int (k := k) (c := c) (d := 4) (by omega) (by omega) (by omega) (by omega)]; exact g 4 (by omega)
  · rw [← mkc_int (k := k) (c := c) (d := 5) (by omega) (by omega) (by omega) (by omega)]; exact g 5 (by omega)
  · rw [← mkc_text (k := k) (c := c) (d := 6) (Or.inr rfl) (by omega)]; exact g 6 (by omega)
  · rw [← mkc_int (k := k) (c := c) (d := 7) (by omega) (by omega) (by omega) (by omega)]; exact g 7 (by omega)

end Go.Proofs.Ytgflalfiopnmnaa

namespace Go.Proofs.Ytgflalfiopnmnaa
open Go.RowKit Vl

/-- The first mark of table r. -/
def koff (k : Nat) (L : Nat → Nat) : Nat → Nat
  | 0 => k
  | r + 1 => koff k L r + L r * 8
/-- Tables whose pairs may be written. -/
structure MTabs (w : World) (ta : Option Addr) (n TB : Nat) (A : Nat → Option Addr) (L C RB cap : Nat → Nat) (f : Nat → Nat → Value) : Prop where
  top : 0 < n → ta = some ⟨TB, 0, none⟩
  tab : ∀ r, r < n → w.cell? ⟨TB, r, none⟩ = some (.slice (A r) (L r) (C r))
  adr : ∀ r, r < n → 0 < L r → A r = some ⟨RB r, 0, none⟩
  row : ∀ r, r < n → 0 < L r → w.rowIs (RB r) 75 (cap r) (f r)
  fit : ∀ r, r < n → 0 < L r → L r * 8 ≤ cap r
  ne : ∀ r, r < n → 0 < L r → RB r ≠ TB
  dis : ∀ r s, r < s → s < n → 0 < L r → 0 < L s → RB r ≠ RB s

/-- Marked tables, as they are read. -/
structure HTabs (w : World) (ta : Option Addr) (n TB k : Nat) (A : Nat → Option Addr) (L C RB : Nat → Nat) : Prop where
  top : 0 < n → ta = some ⟨TB, 0, none⟩
  tab : ∀ r, r < n → w.cell? ⟨TB, r, none⟩ = some (.slice (A r) (L r) (C r))
  adr : ∀ r, r < n → 0 < L r → A r = some ⟨RB r, 0, none⟩
  row : ∀ r, r < n → 0 < L r → MkAt w (RB r) (koff k L r) (L r)
theorem HTabs.below {w w' : World} {ta : Option Addr} {n TB k : Nat} {A : Nat → Option Addr} {L C RB : Nat → Nat} (h : HTabs w ta n TB k A L C RB) (hb : Below w.heap.size w w') : HTabs w' ta n TB k A L C RB :=
  ⟨h.top, fun r hr => (hb.cell (p := ⟨TB, r, none⟩) (World.block_lt_of_cell? _ _ (h.tab r hr))).trans (h.tab r hr), h.adr, fun r hr h0 => (h.row r hr h0).below hb⟩

end Go.Proofs.Ytgflalfiopnmnaa

namespace Go.Proofs.Ytgflalfiopnmnaa
open Go.RowKit Vl

theorem MTabs.below {w w' : World} {ta : Option Addr} {n TB : Nat} {A : Nat → Option Addr} {L C RB cap : Nat → Nat} {f : Nat → Nat → Value} (h : MTabs w ta n TB A L C RB cap f) (hb : Below w.heap.size w w') : MTabs w' ta n TB A L C RB cap f :=
  ⟨h.top, fun r hr => (hb.cell (p := ⟨TB, r, none⟩) (World.block_lt_of_cell? _ _ (h.tab r hr))).trans (h.tab r hr), h.adr, fun r hr h0 => (h.row r hr h0).of_block (hb.block _ (h.row r hr h0).lt), h.fit, h.ne, h.dis⟩

end Go.Proofs.Ytgflalfiopnmnaa

namespace Go.Proofs.Ytgflalfiopnmnaa
open Go.RowKit Vl

open Classical in
/-- The canonical graph, or the empty one. -/
noncomputable def cnN (n : Nat) (u : V) (L : Nat → Nat) (K X : Nat → Nat → V) : Nat := if OkG n u L K X then (order n u L X).length else 0
open Classical in
noncomputable def cnU (n : Nat) (u : V) (L : Nat → Nat) (K X : Nat → Nat → V) : V := if OkG n u L K X then renum (order n u L X) u else zeroV

theorem CanonIs.all {w w' : World} {e : Ending} {n : Nat} {u : V} {L : Nat → Nat} {K X : Nat → Nat → V} (h : CanonIs w w' e n u L K X) : ∃ (tv : Value) (PV : Nat → Value) (base : Nat), w.heap.size ≤ base ∧ e = .returned (.agg #[.int .i64 (cnU n u L K X).k, .int .i64 (cnU n u L K X).n, .string (cnU n u L K X).s, .int .i64 (cnU n u L K X).a, tv]) ∧ OTab w' base tv (cnN n u L K X) PV (cL (order n u L X) L) (cK (order n u L X) K) (cX (order n u L X) X) := by
  unfold cnU cnN
  rcases h with ⟨hG, tv, PV, base, h1, h2, h3⟩ | ⟨hN, h2⟩
  · rw [if_pos hG, if_pos hG]
    exact ⟨tv, PV, base, h1, h2, h3⟩
  · rw [if_neg hN, if_neg hN]
    exact ⟨.slice none 0 0, fun _ => .nilIface, w.heap.size, Nat.le_refl _, h2, OTab.nil _ _ _ _ _ _⟩

/-- What was marked is held. -/
theorem MTabs.held {w w' : World} {ta : Option Addr} {n TB k : Nat} {A : Nat → Option Addr} {L C RB cap : Nat → Nat} {f : Nat → Nat → Value} (h : MTabs w ta n TB A L C RB cap f) (hm : ∀ r, r < n → 0 < L r → Mk w' (RB r) (cap r) (koff k L r) (L r * 8) (f r)) (ho : Only (fun x => ∃ j, j < n ∧ x = RB j ∧ 0 < L j) w w') : HTabs w' ta n TB k A L C RB := by
  refine ⟨h.top, fun r hr => ho.cell (h.tab r hr) (fun ⟨j, hj, e, h0⟩ => h.ne j hj h0 e.symm), h.adr, fun r hr h0 i hi => ?_⟩
  have := (show World.rowIs _ _ _ _ _ from hm r hr h0).cell (Nat.lt_of_lt_of_le hi (h.fit r hr h0))
  rw [if_pos hi] at this
  exact this

end Go.Proofs.Ytgflalfiopnmnaa

namespace Go.Proofs.Ytgflalfiopnmnaa
open Go.RowKit Vl
open Go.ChangeShapes Go.WideShapes Go.ChangeAt Go.Joins

/-- A call's answer is a graph in memory of its own. -/
def GrRes (w w' : World) (e : Ending) (N : Nat) (U : V) (L : Nat → Nat) (K X : Nat → Nat → V) : Prop :=
  ∃ (ta : Option Addr) (tc : Nat) (PV : Nat → Value) (base : Nat), w.heap.size ≤ base ∧ e = .returned (.agg #[.int .i64 U.k, .int .i64 U.n, .string U.s, .int .i64 U.a, .slice ta N tc]) ∧ OTab w' base (.slice ta N tc) N PV L K X

theorem CanonIs.res {w w' : World} {e : Ending} {n : Nat} {u : V} {L : Nat → Nat} {K X : Nat → Nat → V} (h : CanonIs w w' e n u L K X) : GrRes w w' e (cnN n u L K X) (cnU n u L K X) (cL (order n u L X) L) (cK (order n u L X) K) (cX (order n u L X) X) := by
  obtain ⟨tv, PV, base, h1, h2, h3⟩ := h.all
  obtain ⟨ta, tc, rfl, _⟩ := owns_form h3.own
  exact ⟨ta, tc, PV, base, h1, h2, h3⟩

end Go.Proofs.Ytgflalfiopnmnaa

namespace Go.Proofs.Ytgflalfiopnmnaa
open Go.RowKit Vl

theorem SortI.ne {K : Nat → V} {L : Nat} {ls : List Nat} (h : SortI K L ls) {i j : Nat} (hi : i < j) (hj : j < L) : ls.getD i 0 ≠ ls.getD j 0 := by
  have hn : ls.Nodup := h.perm.nodup_iff.2 List.nodup_range
  have hl := h.len
  simp only [List.getD_eq_getElem?_getD]
  rw [List.getElem?_eq_getElem (by omega), List.getElem?_eq_getElem (by omega)]
  simp only [Option.getD_some]
  exact List.pairwise_iff_getElem.1 hn i j (by omega) (by omega) hi
theorem Vl.OkT.once {n L : Nat} {K X : Nat → V} (h : OkT n L K X) {a b : Nat} (ha : a < L) (hb : b < L) (hne : a ≠ b) : K a ≠ K b := fun e => by
  rcases Nat.lt_or_gt_of_ne hne with h' | h'
  · have := (h.all b hb).once a h'
    rw [eqV_iff.2 e] at this
    cases this
  · have := (h.all a ha).once b h'
    rw [eqV_iff.2 e.symm] at this
    cases this

theorem met_same {n : Nat} {L : Nat → Nat} {X X' : Nat → Nat → V} (hg : Good n L X) (he : ∀ r, r < n → ∀ c, c < L r → X r c = X' r c) : ∀ (f : Nat) (S : List Nat) (v : V), isV n v = true → met L X f S v = met L X' f S v
  | 0, S, v, _ => rfl
  | f + 1, S, v, hv => by
    by_cases h : v.k = 4 ∧ v.a.toNat ∉ S
    · obtain ⟨a0, a1⟩ := isV_tab hv h.1
      have hr : v.a.toNat < n := by omega
      rw [met_new h.1 h.2, met_new h.1 h.2]
      have key : ∀ c T, c ≤ L v.a.toNat → mets L X f T (X v.a.toNat) c = mets L X' f T (X' v.a.toNat) c := by
        intro c
        induction c with
        | zero => intro T _; rfl
        | succ c ih =>
          intro T hc
          rw [mets_succ, mets_succ, ih T (by omega), ← he _ hr c (by omega)]
          exact met_same hg he f _ _ (hg _ hr c (by omega))
      exact key _ _ (Nat.le_refl _)
    · have h' : v.k ≠ 4 ∨ v.a.toNat ∈ S := by
        by_cases h4 : v.k = 4
        · exact Or.inr (Classical.byContradiction fun hn => h ⟨h4, hn⟩)
        · exact Or.inl h4
      rw [met_old h', met_old h']

theorem CanonIs.agree {w w' : World} {e : Ending} {n : Nat} {u : V} {L : Nat → Nat} {K X K' X' : Nat → Nat → V} (h : CanonIs w w' e n u L K X) (hok : OkG n u L K X) (hok' : OkG n u L K' X') (hK : ∀ r, r < n → K r = K' r) (hX : ∀ r, r < n → ∀ c, c < L r → X r c = X' r c) : CanonIs w w' e n u L K' X' := by
  have eo : order n u L X' = order n u L X := (met_same (good_of hok) hX (n + 1) [] u hok.root).symm
  rcases h with ⟨_, tv, PV, base, h1, h2, h3⟩ | ⟨hno, _⟩
  · refine Or.inl ⟨hok', tv, PV, base, h1, ?_, ?_⟩
    · rw [eo]; exact h2
    · rw [eo]
      have hlt : ∀ j, j < (order n u L X).length → (order n u L X).getD j 0 < n := fun j hj => by
        rw [List.getD_eq_getElem?_getD, List.getElem?_eq_getElem hj]
        exact (order_all hok).1.lt _ (List.getElem_mem hj)
      refine h3.congr (fun _ _ => rfl) (fun j hj c hc => ⟨?_, ?_⟩)
      · unfold cK; rw [hK _ (hlt j hj)]
      · unfold cX; rw [hX _ (hlt j hj) c hc]
  · exact absurd hok hno

end Go.Proofs.Ytgflalfiopnmnaa

namespace Go.Proofs.Ytgflalfiopnmnaa.Aw
open Vl

theorem lt_trans {a b c : V} (h : less a b = true) (k : less b c = true) : less a c = true := by
  cases e : less a c with
  | true => rfl
  | false =>
    have := le_trans e (less_asymm h)
    rw [k] at this
    cases this
theorem lt_irrefl (a : V) : less a a = false := by
  cases e : less a a with
  | false => rfl
  | true => have := less_asymm e; rw [e] at this; cases this

/-- Keys in order, each once. -/
def ins (k : V) : List V → List V
  | [] => [k]
  | x :: xs => if less k x = true then k :: x :: xs else if eqV k x = true then x :: xs else x :: ins k xs
def kidsOf (ks : List V) : List V := ks.foldr ins []
def Strict (l : List V) : Prop := l.Pairwise fun a b => less a b = true

theorem mem_ins (k : V) : ∀ (l : List V) (x : V), x ∈ ins k l ↔ x = k ∨ x ∈ l
  | [], x => by simp [ins]
  | y :: ys, x => by
    unfold ins
    split
    · simp
    · split
      · rename_i h
        have : k = y := eqV_iff.1 h
        simp [this]
      · simp only [List.mem_cons, mem_ins k ys x]
        constructor
        · rintro (h | h | h)
          · exact Or.inr (Or.inl h)
          · exact Or.inl h
          · exact Or.inr (Or.inr h)
        · rintro (h | h | h)
          · exact Or.inr (Or.inl h)
          · exact Or.inl h
          · exact Or.inr (Or.inr h)
theorem ins_len (k : V) : ∀ (l : List V), (ins k l).length ≤ l.length + 1
  | [] => by simp [ins]
  | y :: ys => by
    unfold ins
    split
    · simp
    · split
      · simp
      · have := ins_len k ys
        simp only [List.length_cons]
        omega
theorem ins_strict {k : V} (hk : isK k = true) : ∀ (l : List V), (∀ x ∈ l, isK x = true) → Strict l → Strict (ins k l)
  | [], _, _ => by simp [ins, Strict]
  | y :: ys, ha, h => by
    obtain ⟨h1, h2⟩ := List.pairwise_cons.1 h
    unfold ins
    split
    · rename_i hl
      refine List.pairwise_cons.2 ⟨fun z hz => ?_, h⟩
      rcases List.mem_cons.1 hz with rfl | hz
      · exact hl
      · exact lt_trans hl (h1 z hz)
    · split
      · exact h
      · rename_i hl he
        refine List.pairwise_cons.2 ⟨fun z hz => ?_, ins_strict hk ys (fun x hx => ha x (by simp [hx])) h2⟩
        rcases (mem_ins k ys z).1 hz with rfl | hz
        · cases e : less y z with
          | true => rfl
          | false => exact absurd (eqV_iff.2 (key_one hk (ha y (by simp)) ((Bool.not_eq_true _).mp hl) e)) he
        · exact h1 z hz
theorem mem_kidsOf : ∀ (ks : List V) (x : V), x ∈ kidsOf ks ↔ x ∈ ks
  | [], x => by simp [kidsOf]
  | k :: ks, x => by
    have := mem_kidsOf ks x
    unfold kidsOf at this ⊢
    rw [List.foldr_cons, mem_ins, this]
    simp
theorem kidsOf_len : ∀ (ks : List V), (kidsOf ks).length ≤ ks.length
  | [] => by simp [kidsOf]
  | k :: ks => by
    have := kidsOf_len ks
    have h2 := ins_len k (kidsOf ks)
    unfold kidsOf at this h2 ⊢
    rw [List.foldr_cons]
    simp only [List.length_cons]
    omega
theorem kidsOf_strict : ∀ (ks : List V), (∀ k ∈ ks, isK k = true) → Strict (kidsOf ks)
  | [], _ => by simp [kidsOf, Strict]
  | k :: ks, h => by
    have := kidsOf_strict ks (fun x hx => h x (by simp [hx]))
    refine ins_strict (h k (by simp)) _ (fun x hx => ?_) this
    exact h x (by rw [List.mem_cons]; exact Or.inr ((mem_kidsOf ks x).1 hx))
/-- Keys in order, each once, are one row. -/
theorem strict_one : ∀ {l m : List V}, Strict l → Strict m → (∀ x, x ∈ l ↔ x ∈ m) → l = m
  | [], [], _, _, _ => rfl
  | [], b :: m, _, _, h => by have := (h b).2 (by simp); cases this
  | a :: l, [], _, _, h => by have := (h a).1 (by simp); cases this
  | a :: l, b :: m, h1, h2, h => by
    obtain ⟨p1, p2⟩ := List.pairwise_cons.1 h1
    obtain ⟨q1, q2⟩ := List.pairwise_cons.1 h2
    have e : a = b := by
      by_cases e : a = b
      · exact e
      · have ha : a ∈ m := by
          rcases List.mem_cons.1 ((h a).1 (by simp)) with h | h
          · exact absurd h e
          · exact h
        have hb : b ∈ l := by
          rcases List.mem_cons.1 ((h b).2 (by simp)) with h | h
          · exact absurd h.symm e
          · exact h
        have := less_asymm (p1 b hb)
        rw [q1 a ha] at this
        cases this
    subst e
    rw [strict_one p2 q2 (fun x => ?_)]
    constructor
    · intro hx
      rcases List.mem_cons.1 ((h x).1 (by simp [hx])) with h' | h'
      · have := p1 x hx; rw [h', lt_irrefl] at this; cases this
      · exact h'
    · intro hx
      rcases List.mem_cons.1 ((h x).2 (by simp [hx])) with h' | h'
      · have := q1 x hx; rw [h', lt_irrefl] at this; cases this
      · exact h'

theorem mem_keys {K : Nat → V} {c : Nat} {k : V} : k ∈ keys K c ↔ ∃ j, j < c ∧ K j = k := by simp [keys]
theorem atKey_at {n L : Nat} {K X : Nat → V} (h : OkT n L K X) {c : Nat} (hc : c < L) : atKey L K X (K c) = X c :=
  atKey_hit hc (eqV_iff.2 rfl) (fun i hi => (h.all c hc).once i hi)
theorem atKey_no {L : Nat} {K X : Nat → V} {k : V} (h : k ∉ keys K L) : atKey L K X k = zeroV :=
  atKey_none (fun j hj => by
    cases e : eqV (K j) k with
    | false => rfl
    | true => exact absurd (mem_keys.2 ⟨j, hj, eqV_iff.1 e⟩) h)
theorem perm_at {L : Nat} {K : Nat → V} {ls : List Nat} (h : SortI K L ls) {c : Nat} (hc : c < L) : ∃ q, q < L ∧ ls.getD q 0 = c := by
  obtain ⟨q, hq, e⟩ := List.mem_iff_getElem.1 (h.perm.symm.subset (List.mem_range.2 hc))
  exact ⟨q, by rw [← h.len]; exact hq, by rw [List.getD_eq_getElem?_getD, List.getElem?_eq_getElem hq]; exact e⟩

/-- Two graphs, and the classes of their tables side by side. -/
def sysOf (n : Nat) (L : Nat → Nat) (K X : Nat → Nat → V) (L' : Nat → Nat) (K' X' : Nat → Nat → V) (f : Nat → Nat) : Sys where
  tab v := v.k == 4
  atA x k := atKey (L x.a.toNat) (K x.a.toNat) (X x.a.toNat) k
  atB y k := atKey (L' y.a.toNat) (K' y.a.toNat) (X' y.a.toNat) k
  kids x y := kidsOf (keys (K x.a.toNat) (L x.a.toNat) ++ keys (K' y.a.toNat) (L' y.a.toNat))
  D x y := !(f x.a.toNat == f (n + y.a.toNat))
def goodV (n m : Nat) (x y : V) : Prop := isV n x = true ∧ isV m y = true

theorem tab_one {n : Nat} {x y : V} (hx : isV n x = true) (hy : isV n y = true) (h : x.k = 4) (h' : y.k = 4) (e : x.a.toNat = y.a.toNat) : x = y := by
  obtain ⟨a0, a1⟩ := isV_tab hx h
  obtain ⟨b0, b1⟩ := isV_tab hy h'
  unfold isV at hx hy
  rw [if_neg (by omega), if_neg (by omega), if_neg (by omega), if_neg (by omega), if_pos h] at hx
  rw [if_neg (by omega), if_neg (by omega), if_neg (by omega), if_neg (by omega), if_pos h'] at hy
  simp only [Bool.and_eq_true, beq_iff_eq, decide_eq_true_eq] at hx hy
  apply eqV_iff.1
  simp only [eqV, Bool.and_eq_true, beq_iff_eq]
  refine ⟨by omega, by omega, by rw [hx.2.1, hy.2.1], by omega⟩

theorem sys_ix (n m : Nat) (L : Nat → Nat) (K X : Nat → Nat → V) (L' : Nat → Nat) (K' X' : Nat → Nat → V) (f : Nat → Nat) : Ix (sysOf n L K X L' K' X' f) (goodV n m) (fun x y => x.a.toNat * m + y.a.toNat) (n * m) := by
  refine ⟨fun x y hg hx hy => ?_, fun x y x' y' hg hx hy hg' hx' hy' e => ?_⟩
  · have hx : x.k = 4 := by simpa [sysOf] using hx
    have hy : y.k = 4 := by simpa [sysOf] using hy
    obtain ⟨a0, a1⟩ := isV_tab hg.1 hx
    obtain ⟨b0, b1⟩ := isV_tab hg.2 hy
    have h1 : x.a.toNat + 1 ≤ n := by omega
    have h2 : (x.a.toNat + 1) * m ≤ n * m := Nat.mul_le_mul_right _ h1
    rw [Nat.add_mul] at h2
    show x.a.toNat * m + y.a.toNat < n * m
    omega
  · have hx : x.k = 4 := by simpa [sysOf] using hx
    have hy : y.k = 4 := by simpa [sysOf] using hy
    have hx' : x'.k = 4 := by simpa [sysOf] using hx'
    have hy' : y'.k = 4 := by simpa [sysOf] using hy'
    obtain ⟨b0, b1⟩ := isV_tab hg.2 hy
    obtain ⟨c0, c1⟩ := isV_tab hg'.2 hy'
    have e : x.a.toNat * m + y.a.toNat = x'.a.toNat * m + y'.a.toNat := e
    have h1 : y.a.toNat = y'.a.toNat := by
      have h := congrArg (· % m) e
      simp only [Nat.mul_add_mod_self_right] at h
      rw [Nat.mod_eq_of_lt (by omega), Nat.mod_eq_of_lt (by omega)] at h
      exact h
    have h2 : x.a.toNat = x'.a.toNat := by
      rw [h1] at e
      exact Nat.eq_of_mul_eq_mul_right (show 0 < m by omega) (Nat.add_right_cancel e)
    exact ⟨tab_one hg.1 hg'.1 hx hx' h2, tab_one hg.2 hg'.2 hy hy' h1⟩

theorem sys_few {n m : Nat} {u u' : V} {L : Nat → Nat} {K X : Nat → Nat → V} {L' : Nat → Nat} {K' X' : Nat → Nat → V} {f : Nat → Nat} (h : OkG n u L K X) (h' : OkG m u' L' K' X') : ∀ x y, goodV n m x y → (sysOf n L K X L' K' X' f).tab x = true → (sysOf n L K X L' K' X' f).tab y = true → ((sysOf n L K X L' K' X' f).kids x y).length ≤ 200 := by
  intro x y hg hx hy
  have hx : x.k = 4 := by simpa [sysOf] using hx
  have hy : y.k = 4 := by simpa [sysOf] using hy
  obtain ⟨a0, a1⟩ := isV_tab hg.1 hx
  obtain ⟨b0, b1⟩ := isV_tab hg.2 hy
  have h1 := (h.all x.a.toNat (by omega)).len
  have h2 := (h'.all y.a.toNat (by omega)).len
  have h3 := kidsOf_len (keys (K x.a.toNat) (L x.a.toNat) ++ keys (K' y.a.toNat) (L' y.a.toNat))
  rw [List.length_append, keys_len, keys_len] at h3
  show (kidsOf _).length ≤ 200
  omega

theorem sys_next {n m : Nat} {u u' : V} {L : Nat → Nat} {K X : Nat → Nat → V} {L' : Nat → Nat} {K' X' : Nat → Nat → V} {f : Nat → Nat} (h : OkG n u L K X) (h' : OkG m u' L' K' X') : Nexts (sysOf n L K X L' K' X' f) (goodV n m) := fun x y hg hx hy k _ => by
  have hx : x.k = 4 := by simpa [sysOf] using hx
  have hy : y.k = 4 := by simpa [sysOf] using hy
  obtain ⟨a0, a1⟩ := isV_tab hg.1 hx
  obtain ⟨b0, b1⟩ := isV_tab hg.2 hy
  exact ⟨isV_at (h.all x.a.toNat (by omega)) k, isV_at (h'.all y.a.toNat (by omega)) k⟩

theorem sys_fits {n m : Nat} {u u' : V} {L : Nat → Nat} {K X : Nat → Nat → V} {L' : Nat → Nat} {K' X' : Nat → Nat → V} {f : Nat → Nat} (h : OkG n u L K X) (h' : OkG m u' L' K' X') (hc : ClsAre (n + m) (jn n L L') (jn n K K') (jn n X (fun j c => sh n (X' j c))) f) : Fits (sysOf n L K X L' K' X' f) (goodV n m) := by
  refine ⟨fun x y hg hx hy k hk => ?_, fun x y hg hx hy hD k hk => ?_⟩
  · have hx : x.k = 4 := by simpa [sysOf] using hx
    have hy : y.k = 4 := by simpa [sysOf] using hy
    obtain ⟨a0, a1⟩ := isV_tab hg.1 hx
    obtain ⟨b0, b1⟩ := isV_tab hg.2 hy
    exact ⟨isV_at (h.all x.a.toNat (by omega)) k, isV_at (h'.all y.a.toNat (by omega)) k⟩
  · have hx : x.k = 4 := by simpa [sysOf] using hx
    have hy : y.k = 4 := by simpa [sysOf] using hy
    have hD : f x.a.toNat = f (n + y.a.toNat) := by simpa [sysOf] using hD
    obtain ⟨a0, a1⟩ := isV_tab hg.1 hx
    obtain ⟨b0, b1⟩ := isV_tab hg.2 hy
    obtain ⟨i, hi⟩ : ∃ i, x.a.toNat = i := ⟨_, rfl⟩
    obtain ⟨j, hj⟩ : ∃ j, y.a.toNat = j := ⟨_, rfl⟩
    have hin : i < n := by omega
    have hjm : j < m := by omega
    have hk : k ∈ kidsOf (keys (K i) (L i) ++ keys (K' j) (L' j)) := by rw [← hi, ← hj]; exact hk
    rw [mem_kidsOf, List.mem_append] at hk
    show (((atKey (L x.a.toNat) (K x.a.toNat) (X x.a.toNat) k).k == 4) = true ∧ ((atKey (L' y.a.toNat) (K' y.a.toNat) (X' y.a.toNat) k).k == 4) = true ∧ (!(f (atKey (L x.a.toNat) (K x.a.toNat) (X x.a.toNat) k).a.toNat == f (n + (atKey (L' y.a.toNat) (K' y.a.toNat) (X' y.a.toNat) k).a.toNat))) = false) ∨ (¬ (((atKey (L x.a.toNat) (K x.a.toNat) (X x.a.toNat) k).k == 4) = true ∧ ((atKey (L' y.a.toNat) (K' y.a.toNat) (X' y.a.toNat) k).k == 4) = true) ∧ atKey (L x.a.toNat) (K x.a.toNat) (X x.a.toNat) k = atKey (L' y.a.toNat) (K' y.a.toNat) (X' y.a.toNat) k)
    rw [hi, hj] at hD ⊢
    obtain ⟨ls, hs, hcls⟩ := hc
    have hlk := hcls.bis i (n + j) (by omega) (by omega) hD
    have s1 := hs i (by omega)
    have s2 := hs (n + j) (by omega)
    have hlen := hlk.len
    have hall := hlk.all
    unfold sK at hall
    rw [jn_lt hin, jn_lt hin] at s1
    rw [jn_add, jn_add] at s2
    rw [jn_lt hin, jn_add] at hlen
    rw [jn_lt hin, jn_lt hin, jn_lt hin, jn_add, jn_add] at hall
    have o1 := h.all i hin
    have o2 := h'.all j hjm
    have key : ∃ q, q < L i ∧ K i ((ls i).getD q 0) = k := by
      rcases hk with hk | hk
      · obtain ⟨c, hc, rfl⟩ := mem_keys.1 hk
        obtain ⟨q, hq, e⟩ := perm_at s1 hc
        exact ⟨q, hq, by rw [e]⟩
      · obtain ⟨c, hc, rfl⟩ := mem_keys.1 hk
        obtain ⟨q, hq, e⟩ := perm_at s2 hc
        exact ⟨q, by omega, by rw [← e]; exact (hall q (by omega)).1⟩
    obtain ⟨q, hq, rfl⟩ := key
    obtain ⟨e1, e2⟩ := hall q hq
    have e1 : K i ((ls i).getD q 0) = K' j ((ls (n + j)).getD q 0) := e1
    have e2 : alike f (X i ((ls i).getD q 0)) (sh n (X' j ((ls (n + j)).getD q 0))) = true := e2
    have r1 : atKey (L i) (K i) (X i) (K i ((ls i).getD q 0)) = X i ((ls i).getD q 0) := atKey_at o1 (s1.lt hq)
    have r2 : atKey (L' j) (K' j) (X' j) (K i ((ls i).getD q 0)) = X' j ((ls (n + j)).getD q 0) := by rw [e1]; exact atKey_at o2 (s2.lt (by omega))
    have v2 := (o2.all _ (s2.lt (i := q) (by omega))).val
    rw [r1, r2]
    obtain ⟨b1', b2', b3'⟩ := alike_iff.1 e2
    rw [sh_k] at b1'
    by_cases h4 : (X i ((ls i).getD q 0)).k = 4
    · left
      have h4' := b1'.symm.trans h4
      obtain ⟨c0, c1⟩ := isV_tab v2 h4'
      refine ⟨by simpa using h4, by simpa using h4', ?_⟩
      have := b2' h4
      unfold sh at this
      rw [if_pos h4'] at this
      simp only [Bool.not_eq_false', beq_iff_eq]
      rw [this]
      congr 1
      simp only
      omega
    · right
      refine ⟨fun e => h4 (beq_iff_eq.1 e.1), ?_⟩
      have := b3' h4
      unfold sh at this
      rw [if_neg (by rw [← b1']; exact h4)] at this
      exact this

/-- Where no key parts two tables, the keys of the first are those of both. -/
theorem order_kids {n m : Nat} {L L' : Nat} {K X K' X' : Nat → V} {ls : List Nat} (h : OkT n L K X) (h' : OkT m L' K' X') (hs : SortI K L ls) (hno : ∀ k ∈ kidsOf (keys K L ++ keys K' L'), ¬ (¬ ((atKey L K X k).k = 4 ∧ (atKey L' K' X' k).k = 4) ∧ atKey L K X k ≠ atKey L' K' X' k)) : keys (byI K ls) L = kidsOf (keys K L ++ keys K' L') := by
  have hk : ∀ k ∈ keys K L ++ keys K' L', isK k = true := fun k hk => by
    rcases List.mem_append.1 hk with hk | hk
    · obtain ⟨c, hc, rfl⟩ := mem_keys.1 hk; exact (h.all c hc).key
    · obtain ⟨c, hc, rfl⟩ := mem_keys.1 hk; exact (h'.all c hc).key
  refine strict_one ?_ (kidsOf_strict _ hk) (fun x => ?_)
  · unfold Strict keys
    rw [List.pairwise_map]
    rw [List.pairwise_iff_getElem]
    intro a b ha hb hab
    simp only [List.getElem_range]
    simp only [List.length_range] at ha hb
    have hsw := hs.sort
    unfold SortW at hsw
    rw [List.pairwise_iff_getElem] at hsw
    have hl := hs.len
    have h1 := hsw a b (by omega) (by omega) hab
    have ga : ls.getD a 0 = ls[a] := by rw [List.getD_eq_getElem?_getD, List.getElem?_eq_getElem (by omega)]; rfl
    have gb : ls.getD b 0 = ls[b] := by rw [List.getD_eq_getElem?_getD, List.getElem?_eq_getElem (by omega)]; rfl
    rw [← ga, ← gb] at h1
    have hne := SortI.ne hs hab hb
    show less (K (ls.getD a 0)) (K (ls.getD b 0)) = true
    cases e : less (K (ls.getD a 0)) (K (ls.getD b 0)) with
    | true => rfl
    | false => exact absurd (key_one (h.all _ (hs.lt ha)).key (h.all _ (hs.lt hb)).key e h1) (Vl.OkT.once h (hs.lt ha) (hs.lt hb) hne)
  · rw [mem_kidsOf, List.mem_append]
    constructor
    · intro hx
      obtain ⟨c, hc, rfl⟩ := mem_keys.1 hx
      exact Or.inl (mem_keys.2 ⟨_, hs.lt hc, rfl⟩)
    · intro hx
      have hin : x ∈ keys K L := by
        rcases hx with hx | hx
        · exact hx
        · by_cases hh : x ∈ keys K L
          · exact hh
          · exfalso
            obtain ⟨c, hc, rfl⟩ := mem_keys.1 hx
            have hz := atKey_no (X := X) hh
            have hv : atKey L' K' X' (K' c) = X' c := atKey_at h' hc
            refine hno (K' c) ((mem_kidsOf _ _).2 (List.mem_append.2 (Or.inr hx))) ?_
            rw [hz, hv]
            refine ⟨fun e => by have := e.1; simp [zeroV] at this, fun e => (h'.all c hc).some ?_⟩
            rw [← e]
            rfl
      obtain ⟨c, hc, rfl⟩ := mem_keys.1 hin
      obtain ⟨q, hq, e⟩ := perm_at hs hc
      exact mem_keys.2 ⟨q, hq, by unfold byI; rw [e]⟩

theorem split_at {P : V → Prop} {ks : List V} {k : V} (hs : Strict (kidsOf ks)) (hk : k ∈ ks) (hmin : ∀ x ∈ ks, P x → less x k = false) : ∃ pre post, kidsOf ks = pre ++ k :: post ∧ ∀ x ∈ pre, ¬ P x := by
  obtain ⟨pre, post, e⟩ := List.append_of_mem ((mem_kidsOf ks k).2 hk)
  refine ⟨pre, post, e, fun x hx hp => ?_⟩
  rw [e] at hs
  have h1 := (List.pairwise_append.1 hs).2.2 x hx k (by simp)
  have h2 := hmin x ((mem_kidsOf ks x).1 (by rw [e]; simp [hx])) hp
  rw [h1] at h2
  cases h2

theorem atKey_sh (N L : Nat) (K X : Nat → V) (k : V) : atKey L K (fun c => sh N (X c)) k = sh N (atKey L K X k) := by
  unfold atKey
  cases (List.range L).find? (fun j => eqV (K j) k) with
  | none => simp [sh, zeroV]
  | some j => rfl

end Go.Proofs.Ytgflalfiopnmnaa.Aw
