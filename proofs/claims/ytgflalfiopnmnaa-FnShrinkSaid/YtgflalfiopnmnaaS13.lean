import Derived.Test.YtgflalfiopnmnaaS12
import Derived.BigQuiet
import Derived.WalkSmall
import Derived.LaidEql
import Derived.ProofKit
import Derived.OpenShut
import Derived.ShutString
import Derived.ChangeOld
import Derived.Lib.SmallJoins
import Derived.Deep.Slices
import Derived.Test.YtgflalfiopnmnaaGrSza
import Derived.Test.YtgflalfiopnmnaaRows
import Derived.Test.YtgflalfiopnmnaaS1
import Derived.Test.YtgflalfiopnmnaaS3
import Derived.Deep.RegionHeld3
import Derived.Test.YtgflalfiopnmnaaS4
namespace Go.Proofs.Ytgflalfiopnmnaa
open Go.RowKit Vl

theorem IsCls.agree {n : Nat} {L L' : Nat → Nat} {K X K' X' : Nat → Nat → V} {f : Nat → Nat} (h : IsCls n L K X f) (hL : ∀ j, j < n → L j = L' j) (hK : ∀ j, j < n → K j = K' j) (hX : ∀ j, j < n → X j = X' j) : IsCls n L' K' X' f := by
  refine ⟨h.low, h.idem, fun i j hi hj e => ?_, fun R hR i j hr => h.wide R (fun i j hr => ?_) i j hr⟩
  · have := h.bis i j hi hj e
    refine ⟨by rw [← hL i hi, ← hL j hj]; exact this.len, fun c hc => ?_⟩
    rw [← hK i hi, ← hK j hj, ← hX i hi, ← hX j hj]
    exact this.all c (by rw [hL i hi]; exact hc)
  · have h2 := hR i j hr
    have hi := h2.1
    have hj := h2.2.1
    rw [hL i hi, hL j hj, hK i hi, hK j hj, hX i hi, hX j hj]
    exact h2

/-- The classes of one graph. -/
def ClsRes (w w' : World) (e : Ending) (n : Nat) (u : V) (L : Nat → Nat) (K X : Nat → Nat → V) : Prop :=
  (OkG n u L K X ∧ ∃ (g : Nat) (f : Nat → Nat) (ls : Nat → List Nat), e = .returned (.slice (some ⟨g, 0, none⟩) n n) ∧ w.heap.size ≤ g ∧ w'.rowIs g 3 n (fun i => .int .i64 (f i : Nat)) ∧ (∀ r, r < n → SortI (K r) (L r) (ls r)) ∧ IsCls n L (sK K ls) (sK X ls) f) ∨ (¬ OkG n u L K X ∧ e = .returned (.slice none 0 0))

end Go.Proofs.Ytgflalfiopnmnaa

namespace Go.Proofs.Ytgflalfiopnmnaa
open Go.RowKit Vl

/-- Numbers in a row. -/
def IRow (w : World) (A : Option Addr) (L B : Nat) (f : Nat → Int) : Prop := ∀ k, k < L → A = some ⟨B, 0, none⟩ ∧ w.cell? ⟨B, k, none⟩ = some (.int .i64 (f k))
theorem IRow.below {w w' : World} {A : Option Addr} {L B : Nat} {f : Nat → Int} (h : IRow w A L B f) (hb : Below w.heap.size w w') : IRow w' A L B f := fun k hk => ⟨(h k hk).1, (hb.cell (World.block_lt_of_cell? _ _ (h k hk).2)).trans (h k hk).2⟩

theorem if_step2 {α : Type} (i j : Nat) (x : α) (f g : Nat → α) (e : x = f j) : (if i = j then x else if i < j then f i else g i) = if i < j + 1 then f i else g i := by
  by_cases h : i = j
  · subst h; simp [e]
  · rw [if_neg h]
    by_cases hlt : i < j
    · rw [if_pos hlt, if_pos (by omega)]
    · rw [if_neg hlt, if_neg (by omega)]

/-- The first j cells of a row are marked, from k on. -/
def marks (k : Int) (j : Nat) (f : Nat → Value) : Nat → Value := fun c => if c < j then .int .i64 (k + c) else f c

theorem marks_set {w : World} {B t cap : Nat} {k x : Int} {j : Nat} {f : Nat → Value} (h : w.rowIs B t cap (marks k j f)) (hx : x = k + j) : (w.setCell ⟨B, j, none⟩ (.int .i64 x)).rowIs B t cap (marks k (j + 1) f) := by
  subst hx
  exact (h.set j _).congr (fun i _ => if_step2 i j _ (fun c => Value.int .i64 (k + c)) f rfl)
theorem marks_zero {w : World} {B t cap : Nat} {k : Int} {f : Nat → Value} (h : w.rowIs B t cap f) : w.rowIs B t cap (marks k 0 f) := h.congr (fun i _ => by simp [marks])
theorem marks_cell {w : World} {B t cap : Nat} {k : Int} {j : Nat} {f : Nat → Value} (h : w.rowIs B t cap (marks k j f)) (hj : j < cap) : w.cell? ⟨B, j, none⟩ = some (f j) := by
  rw [h.cell hj]; simp [marks]

/-- A call's answer is a row of numbers in memory of its own. -/
def IntRes (w w' : World) (e : Ending) (N : Nat) (F : Nat → Nat) : Prop :=
  ∃ (A : Option Addr) (g : Nat), e = .returned (.slice A N N) ∧ (0 < N → A = some ⟨g, 0, none⟩) ∧ (0 < N → w.heap.size ≤ g ∧ w'.rowIs g 3 N (fun i => .int .i64 (F i : Nat)))

/-- The classes, told. -/
def ClsAre (n : Nat) (L : Nat → Nat) (K X : Nat → Nat → V) (f : Nat → Nat) : Prop := ∃ ls : Nat → List Nat, (∀ r, r < n → SortI (K r) (L r) (ls r)) ∧ IsCls n L (sK K ls) (sK X ls) f
theorem ClsAre.uniq {n : Nat} {u : V} {L : Nat → Nat} {K X : Nat → Nat → V} {f f' : Nat → Nat} (hok : OkG n u L K X) (h : ClsAre n L K X f) (h' : ClsAre n L K X f') {i : Nat} (hi : i < n) : f i = f' i := by
  obtain ⟨ls, h1, h2⟩ := h
  obtain ⟨ls', k1, k2⟩ := h'
  have e : ∀ r, r < n → ls' r = ls r := fun r hr => SortI.one (hok.all r hr) (k1 r hr) (h1 r hr)
  have k3 := k2.agree (L' := L) (K' := sK K ls) (X' := sK X ls) (fun _ _ => rfl) (fun j hj => by unfold sK; rw [e j hj]) (fun j hj => by unfold sK; rw [e j hj])
  refine IsCls.uniq (fun r hr c hc => ?_) h2 k3 hi
  exact good_of hok r hr _ ((h1 r hr).lt hc)

open Classical in
theorem cls_fixed (n : Nat) (u : V) (L : Nat → Nat) (K X : Nat → Nat → V) : ∃ (N : Nat) (F : Nat → Nat), N ≤ 200 ∧ ∀ w w' e, ClsRes w w' e n u L K X → IntRes w w' e N F := by
  by_cases hok : OkG n u L K X
  · refine ⟨n, Classical.epsilon (fun f => ClsAre n L K X f), hok.len, fun w w' e h => ?_⟩
    rcases h with ⟨_, g, f, ls, rfl, h1, h2, h3, h4⟩ | ⟨hno, _⟩
    · have hf : ClsAre n L K X f := ⟨ls, h3, h4⟩
      have he := Classical.epsilon_spec (p := fun f => ClsAre n L K X f) ⟨f, hf⟩
      exact ⟨_, g, rfl, fun _ => rfl, fun _ => ⟨h1, h2.congr (fun i hi => by rw [hf.uniq hok he hi])⟩⟩
    · exact absurd hok hno
  · refine ⟨0, fun _ => 0, Nat.zero_le _, fun w w' e h => ?_⟩
    rcases h with ⟨h, _⟩ | ⟨_, rfl⟩
    · exact absurd h hok
    · exact ⟨none, 0, rfl, fun h => by omega, fun h => by omega⟩

end Go.Proofs.Ytgflalfiopnmnaa

namespace Go.Proofs.Ytgflalfiopnmnaa
open Go.RowKit Vl

/-- The value itself, or the one table that stands for its class. -/
def fstV (f : Nat → Nat) (v : V) : V := if v.k = 4 then ⟨v.k, v.n, v.s, (f v.a.toNat : Nat)⟩ else v

set_option maxHeartbeats 2000000 in
set_option maxRecDepth 100000 in
/-- '(classed).first'. -/
theorem first_any (N q rc vc tb cb : Nat) (T M L : Nat → Nat) (K X : Nat → Nat → V) (f : Nat → Nat) (ra va : Option Addr) (v : V) (w : World) (hv : isV N v = true) (hN : N ≤ 400) (HF : Hid (∀ i, i < N → f i ≤ i)) (hva : 0 < N → va = some ⟨tb, 0, none⟩)
    (HR : Hid (∀ j, j < N → w.cell? ⟨tb, j, none⟩ = some (ptr (T j)))) (HC : Hid (∀ j, j < N → w.cell? ⟨cb, j, none⟩ = some (.int .i64 (f j : Nat)))) (HT : Hid (Tbs w N T M (fun j => (j : Nat)) L K X)) :
    Calls Try.prog 36 #[.agg #[.slice ra q rc, .slice va N vc, .slice (some ⟨cb, 0, none⟩) N N], ifv T v] w fun e w' => e = .returned (ifv T (fstV f v)) ∧ Below w.heap.size w w' := by
  obtain ⟨w0, hw0⟩ : ∃ w0, w0 = w.alloc (.cells #[.slice ra q rc, .slice va N vc, .slice (some ⟨cb, 0, none⟩) N N] 60) := ⟨_, rfl⟩
  have HB0 : Hid (Below w.heap.size w w0) := by rw [hw0]; exact (Below.refl _ _).alloc (Nat.le_refl _) _
  have H0 : Hid (w0.heap[w.heap.size]? = some (.cells #[.slice ra q rc, .slice va N vc, .slice (some ⟨cb, 0, none⟩) N N] 60 (0, 0))) := by rw [hw0]; exact heap_alloc_new _ _
  by_cases h4 : v.k = 4
  · obtain ⟨a0, a1⟩ := isV_tab hv h4
    obtain ⟨a, ha⟩ : ∃ a : Nat, v.a.toNat = a := ⟨_, rfl⟩
    have haN : a < N := by omega
    have hE : Hid (ifv T (fstV f v) = .iface 63 (ptr (T (f a)))) := by
      unfold fstV
      rw [if_pos h4]
      show ifv T ⟨v.k, v.n, v.s, (f v.a.toNat : Nat)⟩ = _
      rw [ifv_tab (show (⟨v.k, v.n, v.s, (f v.a.toNat : Nat)⟩ : V).k = 4 from h4), ha]
      rfl
    rw [hE.out, ifv_tab h4, ha]
    obtain rfl := hva (by omega)
    have hay := assert_yes (T a) w0
    obtain ⟨c0, c1, c2, cz⟩ := three_at H0.out
    have hfa := HF.out a haN
    have t0 : w0.cell? ⟨T a, 0, none⟩ = some (.int .i64 (a : Nat)) := (HB0.out.cell (p := ⟨T a, 0, none⟩) (HT.out.lt haN)).trans (HT.out.at0 a haN)
    have d0 : w0.cell? ⟨cb, a, none⟩ = some (.int .i64 (f a : Nat)) := (HB0.out.cell (World.block_lt_of_cell? _ _ (HC.out a haN))).trans (HC.out a haN)
    have e0 : w0.cell? ⟨tb, f a, none⟩ = some (ptr (T (f a))) := (HB0.out.cell (World.block_lt_of_cell? _ _ (HR.out (f a) (by omega)))).trans (HR.out (f a) (by omega))
    have ib : (0 : Int) ≤ (a : Int) ∧ (a : Int) < (N : Int) := by omega
    have jb : (0 : Int) ≤ (f a : Int) ∧ (f a : Int) < (N : Int) := by omega
    obtain ⟨fa, hfa'⟩ : ∃ fa, f a = fa := ⟨_, rfl⟩
    rw [hfa'] at d0 e0 jb hfa hE ⊢
    rw [hw0] at hay c0 c1 c2 t0 d0 e0
    go_enter Try.func36, Try.ntmps36
    go_wp2_with fail
    go_quiet (fail)
    go_wp2
    go_ret
    rw [← hw0]
    exact ⟨rfl, below_drewN HB0.out _⟩
  · have hE : Hid (fstV f v = v) := by unfold fstV; rw [if_neg h4]; rfl
    rw [hE.out]
    have hno := assert_no hv h4 T w0
    obtain ⟨xt, xy, hxv⟩ := ifv_form T v
    have HXV : Hid (ifv T v = .iface xt xy) := hxv
    rw [hxv] at hno ⊢
    rw [hw0] at hno
    clear hxv
    go_enter Try.func36, Try.ntmps36
    go_wp2
    go_ret
    rw [← hw0]
    exact ⟨rfl, HB0.out⟩

end Go.Proofs.Ytgflalfiopnmnaa

namespace Go.Proofs.Ytgflalfiopnmnaa
open Go.RowKit Vl

theorem eq_truth (a b : Bool) (w : World) : (binOp .eql 68 (.iface 156 (.agg #[.bool a])) (.iface 156 (.agg #[.bool b]))).run Try.prog w = .ok (.bool (a == b)) w := by
  cases a <;> cases b <;> kernel_rfl
theorem eq_whole (a b : Int) (w : World) : (binOp .eql 68 (.iface 158 (.agg #[.int .i64 a])) (.iface 158 (.agg #[.int .i64 b]))).run Try.prog w = .ok (.bool (a == b)) w := by
  have h1 : (binOp .eql 68 (.iface 158 (.agg #[.int .i64 a])) (.iface 158 (.agg #[.int .i64 b]))).run Try.prog w = (binOp .eql 158 (.agg #[.int .i64 a]) (.agg #[.int .i64 b])).run Try.prog w := by kernel_rfl
  rw [h1]
  go_simp
  by_cases h : a = b <;> simp [h]
theorem eq_words (a b : ByteArray) (w : World) : (binOp .eql 68 (.iface 160 (.agg #[.string a])) (.iface 160 (.agg #[.string b]))).run Try.prog w = .ok (.bool (a.toList == b.toList)) w := by
  have h1 : (binOp .eql 68 (.iface 160 (.agg #[.string a])) (.iface 160 (.agg #[.string b]))).run Try.prog w = (binOp .eql 160 (.agg #[.string a]) (.agg #[.string b])).run Try.prog w := by kernel_rfl
  rw [h1]
  go_simp
  by_cases h : a.toList = b.toList <;> simp [h]
theorem Try.isFace : ((Try.prog.underlying 68).map fun d => match d with | .interface _ => true | _ => false) = some true := by kernel_rfl
theorem Try.isPtr : ((Try.prog.underlying 63).map fun d => match d with | .pointer e => some e | _ => none) = some (some 66) := by kernel_rfl
theorem Try.cmpPtr : (Try.prog.info? 63).map (fun i => i.comparable) = some true := by kernel_rfl
theorem Try.szTab : (Try.prog.info? 66).map (fun i => i.size) = some 3 := by kernel_rfl
theorem eq_tab (a b : Nat) (w : World) (ha : ∃ ca ta, w.heap[a]? = some (.cells ca ta (0, 0))) (hb : ∃ cb tb, w.heap[b]? = some (.cells cb tb (0, 0))) : (binOp .eql 68 (.iface 63 (ptr a)) (.iface 63 (ptr b))).run Try.prog w = .ok (.bool (a == b)) w := by
  obtain ⟨ca, ta, ha⟩ := ha
  obtain ⟨cb, tb, hb⟩ := hb
  obtain ⟨ms, hi⟩ : ∃ ms, Try.prog.underlying 68 = some (.interface ms) := by
    have h := Try.isFace
    cases e : Try.prog.underlying 68 with
    | none => rw [e] at h; cases h
    | some d => rw [e] at h; cases d <;> first | exact ⟨_, rfl⟩ | cases h
  have hp : Try.prog.underlying 63 = some (.pointer 66) := by
    have h := Try.isPtr
    cases e : Try.prog.underlying 63 with
    | none => rw [e] at h; cases h
    | some d => rw [e] at h; cases d <;> first | (cases h; rfl) | cases h
  obtain ⟨i, hinfo, hc⟩ : ∃ i, Try.prog.info? 63 = some i ∧ i.comparable = true := by
    have h := Try.cmpPtr
    cases e : Try.prog.info? 63 with
    | none => rw [e] at h; cases h
    | some d => rw [e] at h; exact ⟨d, rfl, by simpa using h⟩
  obtain ⟨j, hj, hsz⟩ : ∃ j, Try.prog.info? 66 = some j ∧ j.size = 3 := by
    have h := Try.szTab
    cases e : Try.prog.info? 66 with
    | none => rw [e] at h; cases h
    | some d => rw [e] at h; exact ⟨d, rfl, by simpa using h⟩
  by_cases h : a = b
  · subst h
    have := run_eql_iface_ptr_same (P := Try.prog) w ⟨a, 0, none⟩ hi hp hinfo hc hj
    simpa using this
  · have := run_eql_iface_ptr_other (P := Try.prog) w (a := ⟨a, 0, none⟩) (b := ⟨b, 0, none⟩) hi hp hinfo hc hj (by omega) (fun e => h (by cases e; rfl)) ha hb
    have hf : (a == b) = false := by simpa using h
    rw [hf]
    exact this

theorem kinds {n : Nat} {v : V} (h : isV n v = true) : v.k = 0 ∨ v.k = 1 ∨ v.k = 2 ∨ v.k = 3 ∨ v.k = 4 := by
  by_cases k0 : v.k = 0
  · exact Or.inl k0
  by_cases k1 : v.k = 1
  · exact Or.inr (Or.inl k1)
  by_cases k2 : v.k = 2
  · exact Or.inr (Or.inr (Or.inl k2))
  by_cases k3 : v.k = 3
  · exact Or.inr (Or.inr (Or.inr (Or.inl k3)))
  by_cases k4 : v.k = 4
  · exact Or.inr (Or.inr (Or.inr (Or.inr k4)))
  · simp [isV, k0, k1, k2, k3, k4] at h

/-- Values against one another. -/
theorem eql_ifv (T : Nat → Nat) {n : Nat} {x y : V} (hx : isV n x = true) (hy : isV n y = true) (w : World) (hT : ∀ j, j < n → ∃ cs t, w.heap[T j]? = some (.cells cs t (0, 0))) :
    (binOp .eql 68 (ifv T x) (ifv T y)).run Try.prog w = .ok (.bool (alike T x y)) w := by
  have kx := kinds hx
  have ky := kinds hy
  have tx := fun h4 => isV_tab hx h4
  have ty := fun h4 => isV_tab hy h4
  obtain ⟨k, m, s, a⟩ := x
  obtain ⟨k', m', s', a'⟩ := y
  simp only at kx ky tx ty
  by_cases hk : k = k'
  case neg => rcases kx with rfl | rfl | rfl | rfl | rfl <;> rcases ky with rfl | rfl | rfl | rfl | rfl <;> first | exact absurd rfl hk | (show _ = _; kernel_rfl)
  subst hk
  rcases kx with rfl | rfl | rfl | rfl | rfl
  · simp only [isV, if_pos, Bool.and_eq_true, beq_iff_eq] at hx hy
    have e : alike T ⟨0, m, s, a⟩ ⟨0, m', s', a'⟩ = true := by simp [alike, eqV, hx.1, hx.2.1, hx.2.2, hy.1, hy.2.1, hy.2.2]
    rw [e]
    show _ = _
    kernel_rfl
  · have e := eq_truth (m == 1) (m' == 1) w
    have e2 : alike T ⟨1, m, s, a⟩ ⟨1, m', s', a'⟩ = ((m == 1) == (m' == 1)) := by
      simp [isV] at hx hy
      rcases hx.1 with rfl | rfl <;> rcases hy.1 with rfl | rfl <;> simp [alike, eqV, hx.2.1, hx.2.2, hy.2.1, hy.2.2]
    rw [e2]
    exact e
  · have e := eq_whole m m' w
    have e2 : alike T ⟨2, m, s, a⟩ ⟨2, m', s', a'⟩ = (m == m') := by
      simp [isV] at hx hy
      simp [alike, eqV, hx.1, hx.2, hy.1, hy.2]
    rw [e2]
    exact e
  · have e := eq_words s s' w
    have e2 : alike T ⟨3, m, s, a⟩ ⟨3, m', s', a'⟩ = (s.toList == s'.toList) := by
      simp [isV] at hx hy
      simp [alike, eqV, hx.1, hx.2.1, hy.1, hy.2.1]
    rw [e2]
    exact e
  · obtain ⟨a0, a1⟩ := tx rfl
    obtain ⟨b0, b1⟩ := ty rfl
    have e := eq_tab (T a.toNat) (T a'.toNat) w (hT _ (by omega)) (hT _ (by omega))
    have e2 : alike T ⟨4, m, s, a⟩ ⟨4, m', s', a'⟩ = (T a.toNat == T a'.toNat) := by simp [alike]
    rw [e2]
    exact e

end Go.Proofs.Ytgflalfiopnmnaa

namespace Go.Proofs.Ytgflalfiopnmnaa
open Go.RowKit Vl

/-- Two of them. -/
def two {α : Type} (a b : α) (q : Nat) : α := if q = 0 then a else b

theorem keepC {w w' w'' : World} {c ra : Nat} {a b d x y : Value} (h : (w'.cell? ⟨c, 0, none⟩ = some a ∧ w'.cell? ⟨c, 1, none⟩ = some b ∧ w'.cell? ⟨c, 2, none⟩ = some d ∧ w'.cell? ⟨ra, 0, none⟩ = some x ∧ w'.cell? ⟨ra, 1, none⟩ = some y) ∧ Hid (Below w.heap.size w w')) (hb : Below w'.heap.size w' w'') :
    (w''.cell? ⟨c, 0, none⟩ = some a ∧ w''.cell? ⟨c, 1, none⟩ = some b ∧ w''.cell? ⟨c, 2, none⟩ = some d ∧ w''.cell? ⟨ra, 0, none⟩ = some x ∧ w''.cell? ⟨ra, 1, none⟩ = some y) ∧ Hid (Below w.heap.size w w'') := by
  have k : ∀ {p v}, w'.cell? p = some v → w''.cell? p = some v := fun h => (hb.cell (World.block_lt_of_cell? _ _ h)).trans h
  exact ⟨⟨k h.1.1, k h.1.2.1, k h.1.2.2.1, k h.1.2.2.2.1, k h.1.2.2.2.2⟩, grw h.2.out hb⟩

theorem Cfd.root {G : GrS} {w w1 : World} {m : Nat} {T M L : Nat → Nat} {K X : Nat → Nat → V} {ls : Nat → List Nat} {f : Nat → Nat} {rv tv : Value} {cb : Nat} (hd : Cfd G w w1 m T M L K X ls f rv tv cb) {p : Nat} (hp : p < m) : isV (G.off m) (sh (G.off p) (G.U p)) = true := by
  have h1 := sh_isV (N := G.off p) (hd.cmb.ok p hp).root
  have h2 := G.off_le hp
  have h3 := isV_more (n := G.off m - (G.off p + G.n p)) h1
  rw [show G.off p + G.n p + (G.off m - (G.off p + G.n p)) = G.off m by omega] at h3
  exact h3

/-- 'first', of what classify gave. -/
theorem Cfd.first {G : GrS} {w w1 : World} {m rc vc : Nat} {T M L : Nat → Nat} {K X : Nat → Nat → V} {ls : Nat → List Nat} {f : Nat → Nat} {ra va : Option Addr} {cb : Nat} (hd : Cfd G w w1 m T M L K X ls f (.slice ra m rc) (.slice va (G.off m) vc) cb) (hN : G.off m ≤ 400) (x : V) (w' : World) (hx : isV (G.off m) x = true) (hb : Below w1.heap.size w1 w') :
    Calls Try.prog 36 #[.agg #[.slice ra m rc, .slice va (G.off m) vc, .slice (some ⟨cb, 0, none⟩) (G.off m) (G.off m)], ifv T x] w' fun e w'' => e = .returned (ifv T (fstV f x)) ∧ Below w'.heap.size w' w'' := by
  obtain ⟨tb, hva, hrow⟩ : ∃ tb, (0 < G.off m → va = some ⟨tb, 0, none⟩) ∧ ∀ j, j < G.off m → w1.cell? ⟨tb, j, none⟩ = some (ptr (T j)) := by
    by_cases h0 : 0 < G.off m
    · obtain ⟨g, cap, e, _⟩ := hd.tabs.form h0
      cases e
      refine ⟨g, fun _ => rfl, fun j hj => ?_⟩
      obtain ⟨g', cap', e', h⟩ := owns_cell hd.tabs (k := j) (y := ptr (T j)) (by simp [hj])
      cases e'
      exact h
    · exact ⟨0, fun h => absurd h h0, fun j hj => by omega⟩
  exact first_any (G.off m) m rc vc tb cb T M L (sK K ls) (sK X ls) f ra va x w' hx hN hd.is.low hva (show ∀ j, _ from fun j hj => (hb.cell (World.block_lt_of_cell? _ _ (hrow j hj))).trans (hrow j hj)) (show ∀ j, _ from fun j hj => (hb.cell (World.block_lt_of_cell? _ _ (hd.cls.cell hj))).trans (hd.cls.cell hj)) (hd.tbs.below hb)

end Go.Proofs.Ytgflalfiopnmnaa

namespace Go.Proofs.Ytgflalfiopnmnaa
open Go.RowKit Vl

theorem okT_more {N n L : Nat} {K X : Nat → V} (h : OkT N L K X) : OkT (N + n) L K X := ⟨h.len, fun c hc => ⟨(h.all c hc).key, isV_more (h.all c hc).val, (h.all c hc).some, (h.all c hc).once⟩⟩
theorem okT_sh {N n L : Nat} {K X : Nat → V} (h : OkT n L K X) : OkT (N + n) L K (fun c => sh N (X c)) := ⟨h.len, fun c hc => ⟨(h.all c hc).key, sh_isV (h.all c hc).val, by rw [sh_k]; exact (h.all c hc).some, (h.all c hc).once⟩⟩
theorem okT_join {n m : Nat} {u u' : V} {L L' : Nat → Nat} {K X K' X' : Nat → Nat → V} (h : OkG n u L K X) (h' : OkG m u' L' K' X') : ∀ r, r < n + m → OkT (n + m) (jn n L L' r) (jn n K K' r) (jn n X (fun j c => sh n (X' j c)) r) := fun r hr => by
  by_cases e : r < n
  · rw [jn_lt e, jn_lt e, jn_lt e]
    exact okT_more (h.all r e)
  · rw [jn_ge e, jn_ge e, jn_ge e]
    exact okT_sh (h'.all (r - n) (by omega))

theorem ClsAre.uniqT {n : Nat} {L : Nat → Nat} {K X : Nat → Nat → V} {f f' : Nat → Nat} (hok : ∀ r, r < n → OkT n (L r) (K r) (X r)) (h : ClsAre n L K X f) (h' : ClsAre n L K X f') {i : Nat} (hi : i < n) : f i = f' i := by
  obtain ⟨ls, h1, h2⟩ := h
  obtain ⟨ls', k1, k2⟩ := h'
  have e : ∀ r, r < n → ls' r = ls r := fun r hr => SortI.one (hok r hr) (k1 r hr) (h1 r hr)
  have k3 := k2.agree (L' := L) (K' := sK K ls) (X' := sK X ls) (fun _ _ => rfl) (fun j hj => by unfold sK; rw [e j hj]) (fun j hj => by unfold sK; rw [e j hj])
  refine IsCls.uniq (fun r hr c hc => ?_) h2 k3 hi
  exact ((hok r hr).all _ ((h1 r hr).lt hc)).val

theorem fstV_k (f : Nat → Nat) (v : V) : (fstV f v).k = v.k := by unfold fstV; split <;> rfl
theorem fstV_a {f : Nat → Nat} {v : V} (h : v.k = 4) : (fstV f v).a.toNat = f v.a.toNat := by unfold fstV; rw [if_pos h]; simp
theorem fstV_ne {f : Nat → Nat} {v : V} (h : v.k ≠ 4) : fstV f v = v := by unfold fstV; rw [if_neg h]
theorem fstV_isV {f : Nat → Nat} {N : Nat} (hf : ∀ i, i < N → f i ≤ i) {v : V} (h : isV N v = true) : isV N (fstV f v) = true := by
  by_cases h4 : v.k = 4
  · obtain ⟨a0, a1⟩ := isV_tab h h4
    have hl := hf v.a.toNat (by omega)
    unfold fstV
    rw [if_pos h4]
    unfold isV at h ⊢
    rw [if_neg (by omega), if_neg (by omega), if_neg (by omega), if_neg (by omega), if_pos h4] at h
    rw [if_neg (by simp only; omega), if_neg (by simp only; omega), if_neg (by simp only; omega), if_neg (by simp only; omega), if_pos (by simp only; omega)]
    simp only [Bool.and_eq_true, decide_eq_true_eq] at h ⊢
    refine ⟨h.1, h.2.1, ?_, ?_⟩ <;> omega
  · rw [fstV_ne h4]; exact h
theorem alike_fst {T f : Nat → Nat} {N : Nat} (hinj : ∀ i j, i < N → j < N → T i = T j → i = j) (hf : ∀ i, i < N → f i ≤ i) {x y : V} (hx : isV N x = true) (hy : isV N y = true) : alike T (fstV f x) (fstV f y) = alike f x y := by
  rw [Bool.eq_iff_iff, alike_iff, alike_iff, fstV_k, fstV_k]
  constructor
  · rintro ⟨h1, h2, h3⟩
    refine ⟨h1, fun h4 => ?_, fun h4 => ?_⟩
    · have e := h2 h4
      rw [fstV_a h4, fstV_a (h1.symm.trans h4)] at e
      obtain ⟨a0, a1⟩ := isV_tab hx h4
      obtain ⟨b0, b1⟩ := isV_tab hy (h1.symm.trans h4)
      exact hinj _ _ (by have := hf x.a.toNat (by omega); omega) (by have := hf y.a.toNat (by omega); omega) e
    · have e := h3 h4
      rw [fstV_ne h4, fstV_ne (by rw [← h1]; exact h4)] at e
      exact e
  · rintro ⟨h1, h2, h3⟩
    refine ⟨h1, fun h4 => ?_, fun h4 => ?_⟩
    · rw [fstV_a h4, fstV_a (h1.symm.trans h4), h2 h4]
    · rw [fstV_ne h4, fstV_ne (by rw [← h1]; exact h4)]
      exact h3 h4
theorem alike_congr {f f' : Nat → Nat} {N : Nat} (h : ∀ i, i < N → f i = f' i) {x y : V} (hx : isV N x = true) (hy : isV N y = true) : alike f x y = alike f' x y := by
  rw [Bool.eq_iff_iff, alike_iff, alike_iff]
  have key : x.k = y.k → x.k = 4 → (f x.a.toNat = f y.a.toNat ↔ f' x.a.toNat = f' y.a.toNat) := fun h1 h4 => by
    obtain ⟨a0, a1⟩ := isV_tab hx h4
    obtain ⟨b0, b1⟩ := isV_tab hy (h1.symm.trans h4)
    rw [h _ (by omega), h _ (by omega)]
  exact ⟨fun ⟨h1, h2, h3⟩ => ⟨h1, fun h4 => (key h1 h4).1 (h2 h4), h3⟩, fun ⟨h1, h2, h3⟩ => ⟨h1, fun h4 => (key h1 h4).2 (h2 h4), h3⟩⟩

/-- The answer of 'Same', of two graphs. -/
def SameRes (e : Ending) (n m : Nat) (u u' : V) (L L' : Nat → Nat) (K X K' X' : Nat → Nat → V) : Prop :=
  ((OkG n u L K X ∧ OkG m u' L' K' X') ∧ ∃ f : Nat → Nat, ClsAre (n + m) (jn n L L') (jn n K K') (jn n X (fun j c => sh n (X' j c))) f ∧ e = .returned (.bool (alike f u (sh n u')))) ∨ (¬ (OkG n u L K X ∧ OkG m u' L' K' X') ∧ e = .returned (.bool false))

open Classical in
theorem same_fixed (n m : Nat) (u u' : V) (L L' : Nat → Nat) (K X K' X' : Nat → Nat → V) : ∃ b : Bool, ∀ e, SameRes e n m u u' L L' K X K' X' → e = .returned (.bool b) := by
  by_cases hok : OkG n u L K X ∧ OkG m u' L' K' X'
  · refine ⟨alike (Classical.epsilon (fun f => ClsAre (n + m) (jn n L L') (jn n K K') (jn n X (fun j c => sh n (X' j c))) f)) u (sh n u'), fun e h => ?_⟩
    rcases h with ⟨_, f, hf, rfl⟩ | ⟨hno, _⟩
    · have he := Classical.epsilon_spec (p := fun f => ClsAre (n + m) (jn n L L') (jn n K K') (jn n X (fun j c => sh n (X' j c))) f) ⟨f, hf⟩
      rw [alike_congr (fun i hi => hf.uniqT (okT_join hok.1 hok.2) he hi) (isV_more hok.1.root) (sh_isV hok.2.root)]
    · exact absurd hok hno
  · refine ⟨false, fun e h => ?_⟩
    rcases h with ⟨h, _⟩ | ⟨_, rfl⟩
    · exact absurd h hok
    · rfl

end Go.Proofs.Ytgflalfiopnmnaa

namespace Go.Proofs.Ytgflalfiopnmnaa
open Go.RowKit Vl
open Go.ChangeShapes Go.WideShapes Go.ChangeAt Go.Joins

theorem laidOutG : laidOutB Try.prog = true := by kernel_rfl
theorem ownG : ownKnob Try.prog.godebug = none := by kernel_rfl
theorem cellsG_int : Try.prog.cellsOf 3 = 1 := by kernel_rfl
theorem cellsG_int64 : Try.prog.cellsOf 2 = 1 := by kernel_rfl
theorem cellsG_string : Try.prog.cellsOf 9 = 1 := by kernel_rfl
theorem four_of {α : Type} {l : List α} (h : l.length = 4) : ∃ a b c d, l = [a, b, c, d] := by
  match l, h with
  | [a, b, c, d], _ => exact ⟨a, b, c, d, rfl⟩
theorem five_of {α : Type} {l : List α} (h : l.length = 5) : ∃ a b c d e, l = [a, b, c, d, e] := by
  match l, h with
  | [a, b, c, d, e], _ => exact ⟨a, b, c, d, e, rfl⟩
theorem eight_of {α : Type} {l : List α} (h : l.length = 8) : ∃ a b c d e f g i, l = [a, b, c, d, e, f, g, i] := by
  match l, h with
  | [a, b, c, d, e, f, g, i], _ => exact ⟨a, b, c, d, e, f, g, i, rfl⟩

instance : Inhabited V := ⟨⟨0, 0, ⟨#[]⟩, 0⟩⟩

/-- The four cells of a value, as a list. -/
def vCells (v : V) : List Value := [.int .i64 v.k, .int .i64 v.n, .string v.s, .int .i64 v.a]

section
variable {H : Type} {enc : TypeId × Value → H} {w : World} {base : Nat} {spare : Nat → Bool} {held : Bool}

theorem opens_int {n : Nat} {t : TypeId} {o : Option (DataW H × List MemPlace)} {c : Value} (ht : Try.prog.underlying t = some (.int .i64)) (h : DataW.trod enc Try.prog w base spare held n t [c] = o) (ho : o.isSome = true) : ∃ k, c = .int .i64 k := by
  obtain ⟨x, hx⟩ := Option.isSome_iff_exists.1 ho
  rw [hx] at h
  obtain ⟨k, e, _, _⟩ := DataW.trod_int ht h
  exact ⟨k, by simpa using e⟩
theorem opens_string {n : Nat} {t : TypeId} {o : Option (DataW H × List MemPlace)} {c : Value} (ht : Try.prog.underlying t = some .string) (h : DataW.trod enc Try.prog w base spare held n t [c] = o) (ho : o.isSome = true) : ∃ s : ByteArray, c = .string s ∧ s.size ≤ 9223372036854775807 := by
  obtain ⟨x, hx⟩ := Option.isSome_iff_exists.1 ho
  rw [hx] at h
  obtain ⟨s, e, _, hs⟩ := DataW.trod_string ht h
  unfold maxLen at hs
  exact ⟨s, by simpa using e, by omega⟩
theorem isSome_at {α : Type} {l : List α} {i : Nat} (h : i < l.length) : (l[i]?).isSome = true := by simp [h]

theorem plain_of {w : World} {a : Addr} {v : Value} (h : w.cell? (a.add 0) = some v) : a = ⟨a.block, a.off, none⟩ := by
  obtain ⟨b, off, spot⟩ := a
  have hspot : spot = none := by simpa [Addr.add] using World.cell?_spot h
  subst hspot
  rfl
theorem add_plain (b o i : Nat) : Addr.add ⟨b, o, none⟩ i = ⟨b, o + i, none⟩ := by
  unfold Addr.add
  by_cases h : i = 0 <;> simp [h]

end

end Go.Proofs.Ytgflalfiopnmnaa

namespace Go.Proofs.Ytgflalfiopnmnaa
open Go.RowKit Vl
open Go.ChangeShapes Go.WideShapes Go.ChangeAt Go.Joins

theorem blk_below {w w' : World} {b : Nat} {o : Obj} (h : w.heap[b]? = some o) (hb : Below w.heap.size w w') : w'.heap[b]? = some o := (hb.block b (blk_lt h)).trans h

theorem keep55 {w0 w w' : World} {B B' : Nat} {c0 c1 c2 c3 c4 d0 d1 d2 d3 d4 : Value}
    (h : (w.cell? ⟨B, 0, none⟩ = some c0 ∧ w.cell? ⟨B, 1, none⟩ = some c1 ∧ w.cell? ⟨B, 2, none⟩ = some c2 ∧ w.cell? ⟨B, 3, none⟩ = some c3 ∧ w.cell? ⟨B, 4, none⟩ = some c4) ∧ (w.cell? ⟨B', 0, none⟩ = some d0 ∧ w.cell? ⟨B', 1, none⟩ = some d1 ∧ w.cell? ⟨B', 2, none⟩ = some d2 ∧ w.cell? ⟨B', 3, none⟩ = some d3 ∧ w.cell? ⟨B', 4, none⟩ = some d4) ∧ Hid (Below w0.heap.size w0 w)) (hb : Below w.heap.size w w') :
    (w'.cell? ⟨B, 0, none⟩ = some c0 ∧ w'.cell? ⟨B, 1, none⟩ = some c1 ∧ w'.cell? ⟨B, 2, none⟩ = some c2 ∧ w'.cell? ⟨B, 3, none⟩ = some c3 ∧ w'.cell? ⟨B, 4, none⟩ = some c4) ∧ (w'.cell? ⟨B', 0, none⟩ = some d0 ∧ w'.cell? ⟨B', 1, none⟩ = some d1 ∧ w'.cell? ⟨B', 2, none⟩ = some d2 ∧ w'.cell? ⟨B', 3, none⟩ = some d3 ∧ w'.cell? ⟨B', 4, none⟩ = some d4) ∧ Hid (Below w0.heap.size w0 w') := by
  obtain ⟨⟨h0, h1, h2, h3, h4⟩, ⟨k0, k1, k2, k3, k4⟩, hw⟩ := h
  have l1 : B < w.heap.size := World.block_lt_of_cell? _ _ h0
  have l2 : B' < w.heap.size := World.block_lt_of_cell? _ _ k0
  exact ⟨⟨(hb.cell l1).trans h0, (hb.cell l1).trans h1, (hb.cell l1).trans h2, (hb.cell l1).trans h3, (hb.cell l1).trans h4⟩, ⟨(hb.cell l2).trans k0, (hb.cell l2).trans k1, (hb.cell l2).trans k2, (hb.cell l2).trans k3, (hb.cell l2).trans k4⟩, grw hw.out hb⟩

end Go.Proofs.Ytgflalfiopnmnaa

namespace Go.Proofs.Ytgflalfiopnmnaa
open Go.RowKit Vl

/-- The digits of k ahead of out. -/
def digs (k : Nat) (out : ByteArray) : ByteArray := if k = 0 then out else digs (k / 10) (strOfNums [48 + (k : Int) % 10] ++ out)
termination_by k
decreasing_by omega
theorem digs_zero (out : ByteArray) : digs 0 out = out := by rw [digs]; simp
theorem digs_pos {k : Nat} (h : ¬ k = 0) (out : ByteArray) : digs k out = digs (k / 10) (strOfNums [48 + (k : Int) % 10] ++ out) := by rw [digs]; simp [h]
/-- The text of a mark. -/
def markT (k : Nat) : ByteArray := ⟨#[109]⟩ ++ digs k ⟨#[]⟩

end Go.Proofs.Ytgflalfiopnmnaa

namespace Go.Proofs.Ytgflalfiopnmnaa
open Go.RowKit Vl

/-- Cell i of marked pairs. -/
def mkc (k i : Nat) : Value := if i % 8 = 2 ∨ i % 8 = 6 then .string (markT (k + i)) else .int .i64 ((k + i : Nat) : Int)
theorem mkc_int {k c d : Nat} {q : Int} (hd : d < 8) (h2 : d ≠ 2) (h6 : d ≠ 6) (hq : q = k + c * 8 + d) : mkc k (c * 8 + d) = .int .i64 q := by
  unfold mkc
  rw [if_neg (by omega), hq]
  congr 1
  omega
theorem mkc_text {k c d q : Nat} (hd : d = 2 ∨ d = 6) (hq : q = k + c * 8 + d) : mkc k (c * 8 + d) = .string (markT q) := by
  unfold mkc
  rw [if_pos (by omega), hq, Nat.add_assoc]

/-- The first p cells are marked. -/
def Mk (w : World) (B cap k p : Nat) (f : Nat → Value) : Prop := w.rowIs B 75 cap (fun i => if i < p then mkc k i else f i)
theorem Mk.step {w : World} {B cap k p : Nat} {f : Nat → Value} {v : Value} (h : Mk w B cap k p f) (hv : mkc k p = v) : Mk (w.setCell ⟨B, p, none⟩ v) B cap k (p + 1) f := by
  refine ((show w.rowIs B _ _ _ from h).set p v).congr (fun i _ => ?_)
  by_cases e : i = p
  · subst e; rw [if_pos rfl, if_pos (by omega), hv]
  · rw [if_neg e]
    by_cases h' : i < p
    · rw [if_pos h', if_pos (by omega)]
    · rw [if_neg h', if_neg (by omega)]
theorem Mk.below {w w' : World} {B cap k p : Nat} {f : Nat → Value} (h : Mk w B cap k p f) (hb : Below w.heap.size w w') : Mk w' B cap k p f := h.of_block (hb.block B h.lt)
theorem Mk.cell {w : World} {B cap k p : Nat} {f : Nat → Value} (h : Mk w B cap k p f) {i : Nat} (hi : i < cap) (hp : p ≤ i) : w.cell? ⟨B, i, none⟩ = some (f i) := by
  have := (show w.rowIs B _ _ _ from h).cell hi
  rw [if_neg (by omega)] at this
  exact this

end Go.Proofs.Ytgflalfiopnmnaa

namespace Go.Proofs.Ytgflalfiopnmnaa
open Go.RowKit Vl

/-- Marked pairs, as they are read. -/
def MkAt (w : World) (B k L : Nat) : Prop := ∀ i, i < L * 8 → w.cell? ⟨B, i, none⟩ = some (mkc k i)
theorem Mk.at {w : World} {B cap k L : Nat} {f : Nat → Value} (h : Mk w B cap k (L * 8) f) (hc : L * 8 ≤ cap) : MkAt w B k L := fun i hi => by
  have := (show w.rowIs B _ _ _ from h).cell (i := i) (by omega)
  rw [if_pos hi] at this
  exact this
theorem MkAt.below {w w' : World} {B k L : Nat} (h : MkAt w B k L) (hb : Below w.heap.size w w') : MkAt w' B k L := fun i hi => (hb.cell (p := ⟨B, i, none⟩) (World.block_lt_of_cell? _ _ (h i hi))).trans (h i hi)

theorem MkAt.cells {w : World} {B k L c q : Nat} (h : MkAt w B k L) (hc : c < L) (hq : q = k + c * 8) :
    w.cell? ⟨B, c * 8, none⟩ = some (.int .i64 (q : Int)) ∧ w.cell? ⟨B, c * 8 + 1, none⟩ = some (.int .i64 ((q : Int) + 1)) ∧ w.cell? ⟨B, c * 8 + 2, none⟩ = some (.string (markT (q + 2))) ∧ w.cell? ⟨B, c * 8 + 3, none⟩ = some (.int .i64 ((q : Int) + 1 + 1 + 1)) ∧ w.cell? ⟨B, c * 8 + 4, none⟩ = some (.int .i64 ((q : Int) + 1 + 1 + 1 + 1)) ∧ w.cell? ⟨B, c * 8 + 5, none⟩ = some (.int .i64 ((q : Int) + 1 + 1 + 1 + 1 + 1)) ∧ w.cell? ⟨B, c * 8 + 6, none⟩ = some (.string (markT (q + 6))) ∧ w.cell? ⟨B, c * 8 + 7, none⟩ = some (.int .i64 ((q : Int) + 1 + 1 + 1 + 1 + 1 + 1 + 1)) := by
  have g : ∀ d, d < 8 → w.cell? ⟨B, c * 8 + d, none⟩ = some (mkc k (c * 8 + d)) := fun d hd => h _ (by omega)
  refine ⟨?_, ?_, ?_, ?_, ?_, ?_, ?_, ?_⟩
  · rw [← mkc_int (k := k) (c := c) (d := 0) (by omega) (by omega) (by omega) (by omega)]; exact g 0 (by omega)
  · rw [← mkc_int (k := k) (c := c) (d := 1) (by omega) (by omega) (by omega) (by omega)]; exact g 1 (by omega)
  · rw [← mkc_text (k := k) (c := c) (d := 2) (Or.inl rfl) (by omega)]; exact g 2 (by omega)
  · rw [← mkc_int (k := k) (c := c) (d := 3) (by omega) (by omega) (by omega) (by omega)]; exact g 3 (by omega)
  · rw [← mkc_int (k := k) (c := c) (d := 4) (by omega) (by omega) (by omega) (by omega)]; exact g 4 (by omega)
  · rw [← mkc_int (k := k) (c := c) (d := 5) (by omega) (by omega) (by omega) (by omega)]; exact g 5 (by omega)
  · rw [← mkc_text (k := k) (c := c) (d := 6) (Or.inr rfl) (by omega)]; exact g 6 (by omega)
  · rw [← mkc_int (k := k) (c := c) (d := 7) (by omega) (by omega) (by omega) (by omega)]; exact g 7 (by omega)

theorem keep1m {w0 w w' : World} {a : Addr} {x : Value} (h : w.cell? a = some x ∧ Hid (Below w0.heap.size w0 w)) (hb : Below w.heap.size w w') : w'.cell? a = some x ∧ Hid (Below w0.heap.size w0 w') :=
  ⟨(hb.cell (World.block_lt_of_cell? _ _ h.1)).trans h.1, grw h.2.out hb⟩

end Go.Proofs.Ytgflalfiopnmnaa

namespace Go.Proofs.Ytgflalfiopnmnaa
open Go.RowKit Vl

/-- The first mark of table r. -/
def koff (k : Nat) (L : Nat → Nat) : Nat → Nat
  | 0 => k
  | r + 1 => koff k L r + L r * 8
theorem koff_le {k n b : Nat} {L : Nat → Nat} (h : ∀ r, r < n → L r ≤ b) : ∀ r, r ≤ n → koff k L r ≤ k + r * (b * 8)
  | 0, _ => by simp [koff]
  | r + 1, hr => by
    have h1 := koff_le (k := k) h r (by omega)
    have h2 := h r (by omega)
    show koff k L r + L r * 8 ≤ _
    have : L r * 8 ≤ b * 8 := Nat.mul_le_mul_right 8 h2
    have e : (r + 1) * (b * 8) = r * (b * 8) + b * 8 := Nat.succ_mul _ _
    omega
theorem koff_pos {k : Nat} {L : Nat → Nat} (h : 0 < k) : ∀ r, 0 < koff k L r
  | 0 => h
  | r + 1 => by have := koff_pos (L := L) h r; show 0 < koff k L r + L r * 8; omega

/-- Tables whose pairs may be written. -/
structure MTabs (w : World) (ta : Option Addr) (n TB : Nat) (A : Nat → Option Addr) (L C RB cap : Nat → Nat) (f : Nat → Nat → Value) : Prop where
  top : 0 < n → ta = some ⟨TB, 0, none⟩
  tab : ∀ r, r < n → w.cell? ⟨TB, r, none⟩ = some (.slice (A r) (L r) (C r))
  adr : ∀ r, r < n → 0 < L r → A r = some ⟨RB r, 0, none⟩
  row : ∀ r, r < n → 0 < L r → w.rowIs (RB r) 75 (cap r) (f r)
  fit : ∀ r, r < n → 0 < L r → L r * 8 ≤ cap r
  ne : ∀ r, r < n → 0 < L r → RB r ≠ TB
  dis : ∀ r s, r < s → s < n → 0 < L r → 0 < L s → RB r ≠ RB s

/-- Marked tables, as they are read. -/
structure HTabs (w : World) (ta : Option Addr) (n TB k : Nat) (A : Nat → Option Addr) (L C RB : Nat → Nat) : Prop where
  top : 0 < n → ta = some ⟨TB, 0, none⟩
  tab : ∀ r, r < n → w.cell? ⟨TB, r, none⟩ = some (.slice (A r) (L r) (C r))
  adr : ∀ r, r < n → 0 < L r → A r = some ⟨RB r, 0, none⟩
  row : ∀ r, r < n → 0 < L r → MkAt w (RB r) (koff k L r) (L r)
theorem HTabs.below {w w' : World} {ta : Option Addr} {n TB k : Nat} {A : Nat → Option Addr} {L C RB : Nat → Nat} (h : HTabs w ta n TB k A L C RB) (hb : Below w.heap.size w w') : HTabs w' ta n TB k A L C RB :=
  ⟨h.top, fun r hr => (hb.cell (p := ⟨TB, r, none⟩) (World.block_lt_of_cell? _ _ (h.tab r hr))).trans (h.tab r hr), h.adr, fun r hr h0 => (h.row r hr h0).below hb⟩

end Go.Proofs.Ytgflalfiopnmnaa

namespace Go.Proofs.Ytgflalfiopnmnaa
open Go.RowKit Vl

theorem MTabs.below {w w' : World} {ta : Option Addr} {n TB : Nat} {A : Nat → Option Addr} {L C RB cap : Nat → Nat} {f : Nat → Nat → Value} (h : MTabs w ta n TB A L C RB cap f) (hb : Below w.heap.size w w') : MTabs w' ta n TB A L C RB cap f :=
  ⟨h.top, fun r hr => (hb.cell (p := ⟨TB, r, none⟩) (World.block_lt_of_cell? _ _ (h.tab r hr))).trans (h.tab r hr), h.adr, fun r hr h0 => (h.row r hr h0).of_block (hb.block _ (h.row r hr h0).lt), h.fit, h.ne, h.dis⟩

end Go.Proofs.Ytgflalfiopnmnaa

namespace Go.Proofs.Ytgflalfiopnmnaa
open Go.RowKit Vl

open Classical in
/-- The canonical graph, or the empty one. -/
noncomputable def cnN (n : Nat) (u : V) (L : Nat → Nat) (K X : Nat → Nat → V) : Nat := if OkG n u L K X then (order n u L X).length else 0
open Classical in
noncomputable def cnU (n : Nat) (u : V) (L : Nat → Nat) (K X : Nat → Nat → V) : V := if OkG n u L K X then renum (order n u L X) u else zeroV

theorem CanonIs.all {w w' : World} {e : Ending} {n : Nat} {u : V} {L : Nat → Nat} {K X : Nat → Nat → V} (h : CanonIs w w' e n u L K X) : ∃ (tv : Value) (PV : Nat → Value) (base : Nat), w.heap.size ≤ base ∧ e = .returned (.agg #[.int .i64 (cnU n u L K X).k, .int .i64 (cnU n u L K X).n, .string (cnU n u L K X).s, .int .i64 (cnU n u L K X).a, tv]) ∧ OTab w' base tv (cnN n u L K X) PV (cL (order n u L X) L) (cK (order n u L X) K) (cX (order n u L X) X) := by
  unfold cnU cnN
  rcases h with ⟨hG, tv, PV, base, h1, h2, h3⟩ | ⟨hN, h2⟩
  · rw [if_pos hG, if_pos hG]
    exact ⟨tv, PV, base, h1, h2, h3⟩
  · rw [if_neg hN, if_neg hN]
    exact ⟨.slice none 0 0, fun _ => .nilIface, w.heap.size, Nat.le_refl _, h2, OTab.nil _ _ _ _ _ _⟩

theorem renum_s (S : List Nat) (v : V) : (renum S v).s = v.s := by
  unfold renum
  split <;> rfl
theorem small_can {n : Nat} {u : V} {L : Nat → Nat} {K X : Nat → Nat → V} (h : Small 1048576 n L K X) : cnN n u L K X ≤ 1048576 ∧ Small 1048576 (cnN n u L K X) (cL (order n u L X) L) (cK (order n u L X) K) (cX (order n u L X) X) := by
  unfold cnN
  by_cases hG : OkG n u L K X
  · rw [if_pos hG]
    have hf := (order_all hG).1
    refine ⟨by have := hf.len; have := hG.len; omega, fun r hr => ?_⟩
    have hm : (order n u L X).getD r 0 < n := by
      rw [List.getD_eq_getElem?_getD, List.getElem?_eq_getElem hr]
      exact hf.lt _ (List.getElem_mem hr)
    obtain ⟨h1, h2⟩ := h _ hm
    exact ⟨h1, fun c hc => ⟨(h2 c hc).1, by unfold cX; rw [renum_s]; exact (h2 c hc).2⟩⟩
  · rw [if_neg hG]
    exact ⟨by omega, fun r hr => by omega⟩

/-- Whatever stands in a row. -/
theorem rowIs_any {w : World} {b t : Nat} {cur : Array Value} (h : w.heap[b]? = some (.cells cur t (0, 0))) : w.rowIs b t cur.size (fun i => (cur[i]?).getD .nilIface) :=
  ⟨cur, h, rfl, fun i hi => by simp [hi]⟩

/-- Tables that a call made may be marked. -/
theorem OTab.marks {w : World} {base : Nat} {tv : Value} {i : Nat} {PV : Nat → Value} {L : Nat → Nat} {K X : Nat → Nat → V} (h : OTab w base tv i PV L K X) :
    ∃ (cap : Nat → Nat) (f : Nat → Nat → Value), MTabs w (slA tv) i (slB tv) (fun j => slA (PV j)) L (fun j => slC (PV j)) (fun j => slB (PV j)) cap f ∧ ∀ j, j < i → 0 < L j → base ≤ slB (PV j) := by
  have each : ∀ j, ∃ (c : Nat) (f : Nat → Value), j < i → 0 < L j → slA (PV j) = some ⟨slB (PV j), 0, none⟩ ∧ w.rowIs (slB (PV j)) 75 c f ∧ L j * 8 ≤ c ∧ base ≤ slB (PV j) ∧ (PV j).ownBlock = some (slB (PV j)) := by
    intro j
    by_cases hj : j < i ∧ 0 < L j
    · rcases (h.rows j hj.1).2 with ⟨_, h0⟩ | ⟨g, cap, cur, hv, hge, hh, hl, _, hs, _⟩
      · omega
      · refine ⟨cur.size, (fun i => (cur[i]?).getD .nilIface), fun _ _ => ?_⟩
        have e1 : slB (PV j) = g := by rw [hv]; rfl
        rw [e1]
        refine ⟨by rw [hv]; rfl, rowIs_any hh, ?_, hge, by rw [hv]; rfl⟩
        rw [hs]
        exact Nat.mul_le_mul_right 8 hl
    · exact ⟨0, fun _ => .nilIface, fun a b => absurd ⟨a, b⟩ hj⟩
  refine ⟨fun j => (each j).choose, fun j => (each j).choose_spec.choose, ⟨fun h0 => ?_, fun r hr => ?_, fun r hr h0 => ((each r).choose_spec.choose_spec hr h0).1, fun r hr h0 => ((each r).choose_spec.choose_spec hr h0).2.1, fun r hr h0 => ((each r).choose_spec.choose_spec hr h0).2.2.1, fun r hr h0 e => ?_, fun r s hrs hs h0 h1 e => ?_⟩, fun j hj h0 => ((each j).choose_spec.choose_spec hj h0).2.2.2.1⟩
  · have := h.tabs.2.top h0
    exact this
  · have := h.tabs.2.tab r hr
    rw [Nat.zero_add] at this
    exact this
  · obtain ⟨c, hc, _⟩ := ((each r).choose_spec.choose_spec hr h0).2.1
    rcases h.own.2 with ⟨_, hn⟩ | ⟨g, cap, cur, hv, _, hh, _⟩
    · omega
    · have e1 : slB tv = g := by rw [hv]; rfl
      rw [e, e1, hh] at hc
      cases hc
  · have h2 := ((each r).choose_spec.choose_spec (by omega) h0).2.2.2.2
    have h3 := ((each s).choose_spec.choose_spec hs h1).2.2.2.2
    rw [← e] at h3
    exact h.dis r s hrs hs _ h2 h3

/-- A copy may be marked. -/
theorem Copied.marks {w0 w : World} {n : Nat} {G L : Nat → Nat} {K X : Nat → Nat → V} {B : Nat} (h : Copied w0 w n G L K X) (hB : w0.heap.size = B) (hr : w.rowIs B 73 n (fun i => .slice (some ⟨G i, 0, none⟩) (L i) (L i))) :
    ∃ f : Nat → Nat → Value, MTabs w (some ⟨B, 0, none⟩) n B (fun r => some ⟨G r, 0, none⟩) L L G (fun r => L r * 8) f := by
  have each : ∀ r, ∃ f, r < n → w.rowIs (G r) 75 (L r * 8) f := fun r => by
    by_cases hr : r < n
    · obtain ⟨f, hf⟩ := h.blk r hr
      exact ⟨f, fun _ => hf⟩
    · exact ⟨fun _ => .nilIface, fun x => absurd x hr⟩
  exact ⟨fun r => (each r).choose, fun _ => rfl, fun r hr' => hr.cell hr', fun r _ _ => rfl, fun r hr' _ => (each r).choose_spec hr', fun r _ _ => Nat.le_refl _, fun r hr' _ e => by have := (h.new r hr').1; omega, fun r s hrs hs _ _ e => by have := h.inc r s hrs hs; omega⟩

/-- What was marked is held. -/
theorem MTabs.held {w w' : World} {ta : Option Addr} {n TB k : Nat} {A : Nat → Option Addr} {L C RB cap : Nat → Nat} {f : Nat → Nat → Value} (h : MTabs w ta n TB A L C RB cap f) (hm : ∀ r, r < n → 0 < L r → Mk w' (RB r) (cap r) (koff k L r) (L r * 8) (f r)) (ho : Only (fun x => ∃ j, j < n ∧ x = RB j ∧ 0 < L j) w w') : HTabs w' ta n TB k A L C RB := by
  refine ⟨h.top, fun r hr => ho.cell (h.tab r hr) (fun ⟨j, hj, e, h0⟩ => h.ne j hj h0 e.symm), h.adr, fun r hr h0 i hi => ?_⟩
  have := (show World.rowIs _ _ _ _ _ from hm r hr h0).cell (Nat.lt_of_lt_of_le hi (h.fit r hr h0))
  rw [if_pos hi] at this
  exact this

end Go.Proofs.Ytgflalfiopnmnaa

namespace Go.Proofs.Ytgflalfiopnmnaa
open Go.RowKit Vl
open Go.ChangeShapes Go.WideShapes Go.ChangeAt Go.Joins

/-- A call's answer is a graph in memory of its own. -/
def GrRes (w w' : World) (e : Ending) (N : Nat) (U : V) (L : Nat → Nat) (K X : Nat → Nat → V) : Prop :=
  ∃ (ta : Option Addr) (tc : Nat) (PV : Nat → Value) (base : Nat), w.heap.size ≤ base ∧ e = .returned (.agg #[.int .i64 U.k, .int .i64 U.n, .string U.s, .int .i64 U.a, .slice ta N tc]) ∧ OTab w' base (.slice ta N tc) N PV L K X

theorem CanonIs.res {w w' : World} {e : Ending} {n : Nat} {u : V} {L : Nat → Nat} {K X : Nat → Nat → V} (h : CanonIs w w' e n u L K X) : GrRes w w' e (cnN n u L K X) (cnU n u L K X) (cL (order n u L X) L) (cK (order n u L X) K) (cX (order n u L X) X) := by
  obtain ⟨tv, PV, base, h1, h2, h3⟩ := h.all
  obtain ⟨ta, tc, rfl, _⟩ := owns_form h3.own
  exact ⟨ta, tc, PV, base, h1, h2, h3⟩

end Go.Proofs.Ytgflalfiopnmnaa

namespace Go.Proofs.Ytgflalfiopnmnaa
open Go.RowKit Vl

/-- The values of the sorted tables, of each class of tables the first. -/
def fX (X : Nat → Nat → V) (ls : Nat → List Nat) (f : Nat → Nat) (r c : Nat) : V := fstV f (sK X ls r c)

theorem SortI.ne {K : Nat → V} {L : Nat} {ls : List Nat} (h : SortI K L ls) {i j : Nat} (hi : i < j) (hj : j < L) : ls.getD i 0 ≠ ls.getD j 0 := by
  have hn : ls.Nodup := h.perm.nodup_iff.2 List.nodup_range
  have hl := h.len
  simp only [List.getD_eq_getElem?_getD]
  rw [List.getElem?_eq_getElem (by omega), List.getElem?_eq_getElem (by omega)]
  simp only [Option.getD_some]
  exact List.pairwise_iff_getElem.1 hn i j (by omega) (by omega) hi
theorem Vl.OkT.once {n L : Nat} {K X : Nat → V} (h : OkT n L K X) {a b : Nat} (ha : a < L) (hb : b < L) (hne : a ≠ b) : K a ≠ K b := fun e => by
  rcases Nat.lt_or_gt_of_ne hne with h' | h'
  · have := (h.all b hb).once a h'
    rw [eqV_iff.2 e] at this
    cases this
  · have := (h.all a ha).once b h'
    rw [eqV_iff.2 e.symm] at this
    cases this

/-- What is shrunk is well made. -/
theorem okG_shr {n : Nat} {u : V} {L : Nat → Nat} {K X : Nat → Nat → V} {ls : Nat → List Nat} {f : Nat → Nat} (hok : OkG n u L K X) (hs : ∀ r, r < n → SortI (K r) (L r) (ls r)) (hf : ∀ i, i < n → f i ≤ i) : OkG n (fstV f u) L (sK K ls) (fX X ls f) := by
  refine ⟨hok.len, fstV_isV hf hok.root, fun r hr => ⟨(hok.all r hr).len, fun c hc => ?_⟩⟩
  have hl := (hs r hr).lt hc
  have hp := (hok.all r hr).all _ hl
  refine ⟨hp.key, fstV_isV hf hp.val, ?_, fun j hj => ?_⟩
  · show (fstV f _).k ≠ 0
    rw [fstV_k]
    exact hp.some
  · have := (hok.all r hr).once ((hs r hr).lt (show j < L r by omega)) hl ((hs r hr).ne hj hc)
    show eqV (K r ((ls r).getD j 0)) (K r ((ls r).getD c 0)) = false
    cases h : eqV (K r ((ls r).getD j 0)) (K r ((ls r).getD c 0))
    · rfl
    · exact absurd (eqV_iff.1 h) this

theorem met_same {n : Nat} {L : Nat → Nat} {X X' : Nat → Nat → V} (hg : Good n L X) (he : ∀ r, r < n → ∀ c, c < L r → X r c = X' r c) : ∀ (f : Nat) (S : List Nat) (v : V), isV n v = true → met L X f S v = met L X' f S v
  | 0, S, v, _ => rfl
  | f + 1, S, v, hv => by
    by_cases h : v.k = 4 ∧ v.a.toNat ∉ S
    · obtain ⟨a0, a1⟩ := isV_tab hv h.1
      have hr : v.a.toNat < n := by omega
      rw [met_new h.1 h.2, met_new h.1 h.2]
      have key : ∀ c T, c ≤ L v.a.toNat → mets L X f T (X v.a.toNat) c = mets L X' f T (X' v.a.toNat) c := by
        intro c
        induction c with
        | zero => intro T _; rfl
        | succ c ih =>
          intro T hc
          rw [mets_succ, mets_succ, ih T (by omega), ← he _ hr c (by omega)]
          exact met_same hg he f _ _ (hg _ hr c (by omega))
      exact key _ _ (Nat.le_refl _)
    · have h' : v.k ≠ 4 ∨ v.a.toNat ∈ S := by
        by_cases h4 : v.k = 4
        · exact Or.inr (Classical.byContradiction fun hn => h ⟨h4, hn⟩)
        · exact Or.inl h4
      rw [met_old h', met_old h']

theorem CanonIs.agree {w w' : World} {e : Ending} {n : Nat} {u : V} {L : Nat → Nat} {K X K' X' : Nat → Nat → V} (h : CanonIs w w' e n u L K X) (hok : OkG n u L K X) (hok' : OkG n u L K' X') (hK : ∀ r, r < n → K r = K' r) (hX : ∀ r, r < n → ∀ c, c < L r → X r c = X' r c) : CanonIs w w' e n u L K' X' := by
  have eo : order n u L X' = order n u L X := (met_same (good_of hok) hX (n + 1) [] u hok.root).symm
  rcases h with ⟨_, tv, PV, base, h1, h2, h3⟩ | ⟨hno, _⟩
  · refine Or.inl ⟨hok', tv, PV, base, h1, ?_, ?_⟩
    · rw [eo]; exact h2
    · rw [eo]
      have hlt : ∀ j, j < (order n u L X).length → (order n u L X).getD j 0 < n := fun j hj => by
        rw [List.getD_eq_getElem?_getD, List.getElem?_eq_getElem hj]
        exact (order_all hok).1.lt _ (List.getElem_mem hj)
      refine h3.congr (fun _ _ => rfl) (fun j hj c hc => ⟨?_, ?_⟩)
      · unfold cK; rw [hK _ (hlt j hj)]
      · unfold cX; rw [hX _ (hlt j hj) c hc]
  · exact absurd hok hno

/-- The answer of 'Shrink'. -/
def ShrIs (w w' : World) (e : Ending) (n : Nat) (u : V) (L : Nat → Nat) (K X : Nat → Nat → V) : Prop :=
  (OkG n u L K X ∧ ∃ (f : Nat → Nat) (ls : Nat → List Nat), ((∀ r, r < n → SortI (K r) (L r) (ls r)) ∧ IsCls n L (sK K ls) (sK X ls) f) ∧ CanonIs w w' e n (fstV f u) L (sK K ls) (fX X ls f)) ∨ (¬ OkG n u L K X ∧ e = .returned (.agg #[.int .i64 0, .int .i64 0, .string ⟨#[]⟩, .int .i64 0, .slice none 0 0]))

theorem fstV_congr {f f' : Nat → Nat} {n : Nat} (h : ∀ i, i < n → f i = f' i) {v : V} (hv : isV n v = true) : fstV f v = fstV f' v := by
  by_cases h4 : v.k = 4
  · obtain ⟨a0, a1⟩ := isV_tab hv h4
    unfold fstV
    rw [if_pos h4, if_pos h4, h _ (by omega)]
  · rw [fstV_ne h4, fstV_ne h4]

theorem shr_fixed {n : Nat} (u : V) {L : Nat → Nat} {K X : Nat → Nat → V} (hS : Small 1048576 n L K X) : ∃ (N : Nat) (U : V) (L' : Nat → Nat) (K' X' : Nat → Nat → V), N ≤ 1048576 ∧ Small 1048576 N L' K' X' ∧ ∀ w w' e, ShrIs w w' e n u L K X → GrRes w w' e N U L' K' X' := by
  by_cases hok : OkG n u L K X
  · by_cases hex : ∃ (f : Nat → Nat) (ls : Nat → List Nat), (∀ r, r < n → SortI (K r) (L r) (ls r)) ∧ IsCls n L (sK K ls) (sK X ls) f
    · obtain ⟨f0, ls0, hs0, hi0⟩ := hex
      have hok0 := okG_shr hok hs0 hi0.low
      have hS0 : Small 1048576 n L (sK K ls0) (fX X ls0 f0) := fun r hr => ⟨(hS r hr).1, fun c hc => by
        have hl := (hs0 r hr).lt hc
        have := (hS r hr).2 _ hl
        refine ⟨this.1, ?_⟩
        unfold fX fstV
        split
        · exact this.2
        · exact this.2⟩
      refine ⟨_, cnU n (fstV f0 u) L (sK K ls0) (fX X ls0 f0), _, _, _, (small_can (u := fstV f0 u) hS0).1, (small_can (u := fstV f0 u) hS0).2, fun w w' e h => ?_⟩
      rcases h with ⟨_, f, ls, ⟨hs, hi⟩, hc⟩ | ⟨hno, _⟩
      · have hf : ∀ i, i < n → f i = f0 i := fun i hi' => ClsAre.uniq hok ⟨ls, hs, hi⟩ ⟨ls0, hs0, hi0⟩ hi'
        have hls : ∀ r, r < n → ls r = ls0 r := fun r hr => SortI.one (hok.all r hr) (hs r hr) (hs0 r hr)
        have hok1 := okG_shr hok hs hi.low
        rw [fstV_congr hf hok.root] at hc hok1
        refine (hc.agree hok1 hok0 (fun r hr => by unfold sK; rw [hls r hr]) (fun r hr c hc => ?_)).res
        unfold fX sK
        rw [hls r hr]
        exact fstV_congr hf (good_of hok r hr _ ((hs0 r hr).lt hc))
      · exact absurd hok hno
    · refine ⟨0, ⟨0, 0, ⟨#[]⟩, 0⟩, fun _ => 0, fun _ _ => ⟨0, 0, ⟨#[]⟩, 0⟩, fun _ _ => ⟨0, 0, ⟨#[]⟩, 0⟩, by omega, fun r hr => by omega, fun w w' e h => ?_⟩
      rcases h with ⟨_, f, ls, h1, _⟩ | ⟨hno, _⟩
      · exact absurd ⟨f, ls, h1⟩ hex
      · exact absurd hok hno
  · refine ⟨0, ⟨0, 0, ⟨#[]⟩, 0⟩, fun _ => 0, fun _ _ => ⟨0, 0, ⟨#[]⟩, 0⟩, fun _ _ => ⟨0, 0, ⟨#[]⟩, 0⟩, by omega, fun r hr => by omega, fun w w' e h => ?_⟩
    rcases h with ⟨h, _⟩ | ⟨_, rfl⟩
    · exact absurd h hok
    · exact ⟨none, 0, fun _ => .nilIface, w.heap.size, Nat.le_refl _, rfl, OTab.nil w' _ _ _ _ _⟩

end Go.Proofs.Ytgflalfiopnmnaa
