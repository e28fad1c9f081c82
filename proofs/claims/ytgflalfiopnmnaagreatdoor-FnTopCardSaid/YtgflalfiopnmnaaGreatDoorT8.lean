import Derived.Test.YtgflalfiopnmnaaGreatDoorT7
import Derived.Deep.Upon
import Derived.BigQuiet
import Derived.WalkSmall
import Derived.LaidEql
import Derived.ProofKit
import Derived.OpenShut
import Derived.ShutString
import Derived.ChangeOld
import Derived.Lib.SmallJoins
import Derived.Deep.Slices
import Derived.Test.YtgflalfiopnmnaaGreatDoorT1
import Derived.Test.YtgflalfiopnmnaaGreatDoorRows
import Derived.Test.YtgflalfiopnmnaaGreatDoorT2
import Derived.Test.YtgflalfiopnmnaaGreatDoorT4
import Derived.Deep.RegionHeld3
import Derived.Test.YtgflalfiopnmnaaGreatDoorT5
namespace Go.Proofs.YtgflalfiopnmnaaGreatDoor
open Go.RowKit Vl

structure GrS where
  U : Nat → V
  n : Nat → Nat
  L : Nat → Nat → Nat
  K : Nat → Nat → Nat → V
  X : Nat → Nat → Nat → V

def GrS.off (G : GrS) : Nat → Nat
  | 0 => 0
  | q + 1 => G.off q + G.n q

theorem GrS.off_le (G : GrS) {p q : Nat} (h : p < q) : G.off p + G.n p ≤ G.off q := by
  induction q with
  | zero => omega
  | succ q ih =>
    show _ ≤ G.off q + G.n q
    by_cases e : p = q
    · subst e; exact Nat.le_refl _
    · have := ih (by omega); omega

structure Cmb (G : GrS) (q : Nat) (L : Nat → Nat) (K X : Nat → Nat → V) : Prop where
  tab : ∀ p, p < q → ∀ j, j < G.n p → L (G.off p + j) = G.L p j ∧ K (G.off p + j) = G.K p j ∧ ∀ c, X (G.off p + j) c = sh (G.off p) (G.X p j c)
  ok : ∀ p, p < q → OkG (G.n p) (G.U p) (G.L p) (G.K p) (G.X p)
  good : Good (G.off q) L X
  key : ∀ j, j < G.off q → L j ≤ 100 ∧ ∀ c, c < L j → isK (K j c) = true

structure Cf1 (G : GrS) (w wr : World) (q : Nat) (T M : Nat → Nat) (at_ : Nat → Int) (L : Nat → Nat) (K X : Nat → Nat → V) (rv tv : Value) : Prop where
  blk : wr.heap[w.heap.size + 1]? = some (.cells #[rv, tv, .slice none 0 0] 95 (0, 0))
  res : wr.heap[w.heap.size]? = some (.cells #[.slice none 0 0, .slice none 0 0, .slice none 0 0] 95 (0, 0))
  roots : wr.ownsRow (w.heap.size + 2) 54 1 rv q ((List.range q).map fun p => ifv T (sh (G.off p) (G.U p)))
  tabs : wr.ownsRow (w.heap.size + 2) 107 1 tv (G.off q) ((List.range (G.off q)).map fun j => ptr (T j))
  tbs : Tbs wr (G.off q) T M at_ L K X
  ap : Ap wr (w.heap.size + 2) (G.off q) T M
  cmb : Cmb G q L K X
  bel : Below w.heap.size w wr
  size : w.heap.size + 2 ≤ wr.heap.size

theorem Cf1.below {G : GrS} {w wr wk : World} {q : Nat} {T M : Nat → Nat} {at_ : Nat → Int} {L : Nat → Nat} {K X : Nat → Nat → V} {rv tv : Value} (h : Cf1 G w wr q T M at_ L K X rv tv) (hb : Below wr.heap.size wr wk) : Cf1 G w wk q T M at_ L K X rv tv where
  blk := blkB h.blk hb
  res := blkB h.res hb
  roots := (Only.below (P := fun _ => False) hb).owns h.roots (fun _ _ _ h => h)
  tabs := (Only.below (P := fun _ => False) hb).owns h.tabs (fun _ _ _ h => h)
  tbs := h.tbs.below hb
  ap := h.ap.same (fun _ hj => hb.block _ (h.tbs.lt hj))
  cmb := h.cmb
  bel := h.bel.trans (hb.mono h.bel.size)
  size := Nat.le_trans h.size hb.size

end Go.Proofs.YtgflalfiopnmnaaGreatDoor

namespace Go.Proofs.YtgflalfiopnmnaaGreatDoor
open Go.RowKit Vl

theorem three_at {w : World} {B : Nat} {a b c : Value} {t : TypeId} (H : w.heap[B]? = some (.cells #[a, b, c] t (0, 0))) : w.cell? ⟨B, 0, none⟩ = some a ∧ w.cell? ⟨B, 1, none⟩ = some b ∧ w.cell? ⟨B, 2, none⟩ = some c ∧ ∀ i, w.frozen? ⟨B, i, none⟩ = false := by
  refine ⟨?_, ?_, ?_, fun i => ?_⟩ <;> simp [World.cell?, World.frozen?, H]

structure Cfd (G : GrS) (w w' : World) (m : Nat) (T M : Nat → Nat) (L : Nat → Nat) (K X : Nat → Nat → V) (ls : Nat → List Nat) (f : Nat → Nat) (rv tv : Value) (cb : Nat) : Prop where
  roots : w'.ownsRow (w.heap.size + 2) 54 1 rv m ((List.range m).map fun p => ifv T (sh (G.off p) (G.U p)))
  tabs : w'.ownsRow (w.heap.size + 2) 107 1 tv (G.off m) ((List.range (G.off m)).map fun j => ptr (T j))
  cls : w'.rowIs cb 3 (G.off m) (fun i => .int .i64 (f i : Nat))
  lo : w.heap.size ≤ cb
  tbs : Tbs w' (G.off m) T M (fun j => (j : Nat)) L (sK K ls) (sK X ls)
  ap : Ap w' (w.heap.size + 2) (G.off m) T M
  srt : ∀ j, j < G.off m → SortI (K j) (L j) (ls j)
  is : IsCls (G.off m) L (sK K ls) (sK X ls) f
  cmb : Cmb G m L K X

end Go.Proofs.YtgflalfiopnmnaaGreatDoor

namespace Go.Proofs.YtgflalfiopnmnaaGreatDoor
open Go.RowKit Vl

end Go.Proofs.YtgflalfiopnmnaaGreatDoor

namespace Go.Proofs.YtgflalfiopnmnaaGreatDoor
open Go.RowKit Vl

end Go.Proofs.YtgflalfiopnmnaaGreatDoor

namespace Go.Proofs.YtgflalfiopnmnaaGreatDoor
open Go.RowKit Vl

def IRow (w : World) (A : Option Addr) (L B : Nat) (f : Nat → Int) : Prop := ∀ k, k < L → A = some ⟨B, 0, none⟩ ∧ w.cell? ⟨B, k, none⟩ = some (.int .i64 (f k))
theorem IRow.below {w w' : World} {A : Option Addr} {L B : Nat} {f : Nat → Int} (h : IRow w A L B f) (hb : Below w.heap.size w w') : IRow w' A L B f := fun k hk => ⟨(h k hk).1, (hb.cell (World.block_lt_of_cell? _ _ (h k hk).2)).trans (h k hk).2⟩

def ClsAre (n : Nat) (L : Nat → Nat) (K X : Nat → Nat → V) (f : Nat → Nat) : Prop := ∃ ls : Nat → List Nat, (∀ r, r < n → SortI (K r) (L r) (ls r)) ∧ IsCls n L (sK K ls) (sK X ls) f
end Go.Proofs.YtgflalfiopnmnaaGreatDoor

namespace Go.Proofs.YtgflalfiopnmnaaGreatDoor
open Go.RowKit Vl

def fstV (f : Nat → Nat) (v : V) : V := if v.k = 4 then ⟨v.k, v.n, v.s, (f v.a.toNat : Nat)⟩ else v

set_option maxHeartbeats 2000000 in
set_option maxRecDepth 100000 in
theorem first_any (N q rc vc tb cb : Nat) (T M L : Nat → Nat) (K X : Nat → Nat → V) (f : Nat → Nat) (ra va : Option Addr) (v : V) (w : World) (hv : isV N v = true) (hN : N ≤ 400) (HF : Hid (∀ i, i < N → f i ≤ i)) (hva : 0 < N → va = some ⟨tb, 0, none⟩)
    (HR : Hid (∀ j, j < N → w.cell? ⟨tb, j, none⟩ = some (ptr (T j)))) (HC : Hid (∀ j, j < N → w.cell? ⟨cb, j, none⟩ = some (.int .i64 (f j : Nat)))) (HT : Hid (Tbs w N T M (fun j => (j : Nat)) L K X)) :
    Calls Tryz.prog 36 #[.agg #[.slice ra q rc, .slice va N vc, .slice (some ⟨cb, 0, none⟩) N N], ifv T v] w fun e w' => e = .returned (ifv T (fstV f v)) ∧ Below w.heap.size w w' := by
  obtain ⟨w0, hw0⟩ : ∃ w0, w0 = w.alloc (.cells #[.slice ra q rc, .slice va N vc, .slice (some ⟨cb, 0, none⟩) N N] 95) := ⟨_, rfl⟩
  have HB0 : Hid (Below w.heap.size w w0) := by rw [hw0]; exact (Below.refl _ _).alloc (Nat.le_refl _) _
  have H0 : Hid (w0.heap[w.heap.size]? = some (.cells #[.slice ra q rc, .slice va N vc, .slice (some ⟨cb, 0, none⟩) N N] 95 (0, 0))) := by rw [hw0]; exact heap_alloc_new _ _
  by_cases h4 : v.k = 4
  · obtain ⟨a0, a1⟩ := isV_tab hv h4
    obtain ⟨a, ha⟩ : ∃ a : Nat, v.a.toNat = a := ⟨_, rfl⟩
    have haN : a < N := by omega
    have hE : Hid (ifv T (fstV f v) = .iface 107 (ptr (T (f a)))) := by
      unfold fstV
      rw [if_pos h4]
      show ifv T ⟨v.k, v.n, v.s, (f v.a.toNat : Nat)⟩ = _
      rw [ifv_tab (show (⟨v.k, v.n, v.s, (f v.a.toNat : Nat)⟩ : V).k = 4 from h4), ha]
      rfl
    rw [hE.out, ifv_tab h4, ha]
    obtain rfl := hva (by omega)
    have hay := assert_yes (T a) w0
    obtain ⟨c0, c1, c2, cz⟩ := three_at H0.out
    have hfa := HF.out a haN
    have t0 : w0.cell? ⟨T a, 0, none⟩ = some (.int .i64 (a : Nat)) := (HB0.out.cell (p := ⟨T a, 0, none⟩) (HT.out.lt haN)).trans (HT.out.at0 a haN)
    have d0 : w0.cell? ⟨cb, a, none⟩ = some (.int .i64 (f a : Nat)) := (HB0.out.cell (World.block_lt_of_cell? _ _ (HC.out a haN))).trans (HC.out a haN)
    have e0 : w0.cell? ⟨tb, f a, none⟩ = some (ptr (T (f a))) := (HB0.out.cell (World.block_lt_of_cell? _ _ (HR.out (f a) (by omega)))).trans (HR.out (f a) (by omega))
    have ib : (0 : Int) ≤ (a : Int) ∧ (a : Int) < (N : Int) := by omega
    have jb : (0 : Int) ≤ (f a : Int) ∧ (f a : Int) < (N : Int) := by omega
    obtain ⟨fa, hfa'⟩ : ∃ fa, f a = fa := ⟨_, rfl⟩
    rw [hfa'] at d0 e0 jb hfa hE ⊢
    rw [hw0] at hay c0 c1 c2 t0 d0 e0
    go_enter Tryz.func36, Tryz.ntmps36
    go_wp2_with fail
    go_quiet (fail)
    go_wp2
    go_ret
    rw [← hw0]
    exact ⟨rfl, below_drewN HB0.out _⟩
  · have hE : Hid (fstV f v = v) := by unfold fstV; rw [if_neg h4]; rfl
    rw [hE.out]
    have hno := assert_no hv h4 T w0
    obtain ⟨xt, xy, hxv⟩ := ifv_form T v
    have HXV : Hid (ifv T v = .iface xt xy) := hxv
    rw [hxv] at hno ⊢
    rw [hw0] at hno
    clear hxv
    go_enter Tryz.func36, Tryz.ntmps36
    go_wp2
    go_ret
    rw [← hw0]
    exact ⟨rfl, HB0.out⟩

end Go.Proofs.YtgflalfiopnmnaaGreatDoor

namespace Go.Proofs.YtgflalfiopnmnaaGreatDoor
open Go.RowKit Vl

end Go.Proofs.YtgflalfiopnmnaaGreatDoor

namespace Go.Proofs.YtgflalfiopnmnaaGreatDoor
open Go.RowKit Vl

def two {α : Type} (a b : α) (q : Nat) : α := if q = 0 then a else b

theorem Cfd.root {G : GrS} {w w1 : World} {m : Nat} {T M L : Nat → Nat} {K X : Nat → Nat → V} {ls : Nat → List Nat} {f : Nat → Nat} {rv tv : Value} {cb : Nat} (hd : Cfd G w w1 m T M L K X ls f rv tv cb) {p : Nat} (hp : p < m) : isV (G.off m) (sh (G.off p) (G.U p)) = true := by
  have h1 := sh_isV (N := G.off p) (hd.cmb.ok p hp).root
  have h2 := G.off_le hp
  have h3 := isV_more (n := G.off m - (G.off p + G.n p)) h1
  rw [show G.off p + G.n p + (G.off m - (G.off p + G.n p)) = G.off m by omega] at h3
  exact h3

theorem Cfd.first {G : GrS} {w w1 : World} {m rc vc : Nat} {T M L : Nat → Nat} {K X : Nat → Nat → V} {ls : Nat → List Nat} {f : Nat → Nat} {ra va : Option Addr} {cb : Nat} (hd : Cfd G w w1 m T M L K X ls f (.slice ra m rc) (.slice va (G.off m) vc) cb) (hN : G.off m ≤ 400) (x : V) (w' : World) (hx : isV (G.off m) x = true) (hb : Below w1.heap.size w1 w') :
    Calls Tryz.prog 36 #[.agg #[.slice ra m rc, .slice va (G.off m) vc, .slice (some ⟨cb, 0, none⟩) (G.off m) (G.off m)], ifv T x] w' fun e w'' => e = .returned (ifv T (fstV f x)) ∧ Below w'.heap.size w' w'' := by
  obtain ⟨tb, hva, hrow⟩ : ∃ tb, (0 < G.off m → va = some ⟨tb, 0, none⟩) ∧ ∀ j, j < G.off m → w1.cell? ⟨tb, j, none⟩ = some (ptr (T j)) := by
    by_cases h0 : 0 < G.off m
    · obtain ⟨g, cap, e, _⟩ := hd.tabs.form h0
      cases e
      refine ⟨g, fun _ => rfl, fun j hj => ?_⟩
      obtain ⟨g', cap', e', h⟩ := owns_cell hd.tabs (k := j) (y := ptr (T j)) (by simp [hj])
      cases e'
      exact h
    · exact ⟨0, fun h => absurd h h0, fun j hj => by omega⟩
  exact first_any (G.off m) m rc vc tb cb T M L (sK K ls) (sK X ls) f ra va x w' hx hN hd.is.low hva (show ∀ j, _ from fun j hj => (hb.cell (World.block_lt_of_cell? _ _ (hrow j hj))).trans (hrow j hj)) (show ∀ j, _ from fun j hj => (hb.cell (World.block_lt_of_cell? _ _ (hd.cls.cell hj))).trans (hd.cls.cell hj)) (hd.tbs.below hb)

end Go.Proofs.YtgflalfiopnmnaaGreatDoor

namespace Go.Proofs.YtgflalfiopnmnaaGreatDoor
open Go.RowKit Vl

theorem okT_more {N n L : Nat} {K X : Nat → V} (h : OkT N L K X) : OkT (N + n) L K X := ⟨h.len, fun c hc => ⟨(h.all c hc).key, isV_more (h.all c hc).val, (h.all c hc).some, (h.all c hc).once⟩⟩
theorem okT_sh {N n L : Nat} {K X : Nat → V} (h : OkT n L K X) : OkT (N + n) L K (fun c => sh N (X c)) := ⟨h.len, fun c hc => ⟨(h.all c hc).key, sh_isV (h.all c hc).val, by rw [sh_k]; exact (h.all c hc).some, (h.all c hc).once⟩⟩
theorem okT_join {n m : Nat} {u u' : V} {L L' : Nat → Nat} {K X K' X' : Nat → Nat → V} (h : OkG n u L K X) (h' : OkG m u' L' K' X') : ∀ r, r < n + m → OkT (n + m) (jn n L L' r) (jn n K K' r) (jn n X (fun j c => sh n (X' j c)) r) := fun r hr => by
  by_cases e : r < n
  · rw [jn_lt e, jn_lt e, jn_lt e]
    exact okT_more (h.all r e)
  · rw [jn_ge e, jn_ge e, jn_ge e]
    exact okT_sh (h'.all (r - n) (by omega))

end Go.Proofs.YtgflalfiopnmnaaGreatDoor

namespace Go.Proofs.YtgflalfiopnmnaaGreatDoor
open Go.RowKit Vl
open Go.ChangeShapes Go.WideShapes Go.ChangeAt Go.Joins

instance : Inhabited V := ⟨⟨0, 0, ⟨#[]⟩, 0⟩⟩

section
variable {H : Type} {enc : TypeId × Value → H} {w : World} {base : Nat} {spare : Nat → Bool} {held : Bool}

end

end Go.Proofs.YtgflalfiopnmnaaGreatDoor

namespace Go.Proofs.YtgflalfiopnmnaaGreatDoor
open Go.RowKit Vl
open Go.ChangeShapes Go.WideShapes Go.ChangeAt Go.Joins

end Go.Proofs.YtgflalfiopnmnaaGreatDoor

namespace Go.Proofs.YtgflalfiopnmnaaGreatDoor
open Go.RowKit Vl

def digs (k : Nat) (out : ByteArray) : ByteArray := if k = 0 then out else digs (k / 10) (strOfNums [48 + (k : Int) % 10] ++ out)
termination_by k
decreasing_by omega
def markT (k : Nat) : ByteArray := ⟨#[109]⟩ ++ digs k ⟨#[]⟩

end Go.Proofs.YtgflalfiopnmnaaGreatDoor

namespace Go.Proofs.YtgflalfiopnmnaaGreatDoor
open Go.RowKit Vl

def mkc (k i : Nat) : Value := if i % 8 = 2 ∨ i % 8 = 6 then .string (markT (k + i)) else .int .i64 ((k + i : Nat) : Int)
theorem mkc_int {k c d : Nat} {q : Int} (hd : d < 8) (h2 : d ≠ 2) (h6 : d ≠ 6) (hq : q = k + c * 8 + d) : mkc k (c * 8 + d) = .int .i64 q := by
  unfold mkc
  rw [if_neg (by omega), hq]
  congr 1
  omega
theorem mkc_text {k c d q : Nat} (hd : d = 2 ∨ d = 6) (hq : q = k + c * 8 + d) : mkc k (c * 8 + d) = .string (markT q) := by
  unfold mkc
  rw [if_pos (by omega), hq, Nat.add_assoc]

def Mk (w : World) (B cap k p : Nat) (f : Nat → Value) : Prop := w.rowIs B 39 cap (fun i => if i < p then mkc k i else f i)
theorem Mk.below {w w' : World} {B cap k p : Nat} {f : Nat → Value} (h : Mk w B cap k p f) (hb : Below w.heap.size w w') : Mk w' B cap k p f := h.of_block (hb.block B h.lt)
theorem Mk.cell {w : World} {B cap k p : Nat} {f : Nat → Value} (h : Mk w B cap k p f) {i : Nat} (hi : i < cap) (hp : p ≤ i) : w.cell? ⟨B, i, none⟩ = some (f i) := by
  have := (show w.rowIs B _ _ _ from h).cell hi
  rw [if_neg (by omega)] at this
  exact this

end Go.Proofs.YtgflalfiopnmnaaGreatDoor

namespace Go.Proofs.YtgflalfiopnmnaaGreatDoor
open Go.RowKit Vl

def MkAt (w : World) (B k L : Nat) : Prop := ∀ i, i < L * 8 → w.cell? ⟨B, i, none⟩ = some (mkc k i)
theorem MkAt.below {w w' : World} {B k L : Nat} (h : MkAt w B k L) (hb : Below w.heap.size w w') : MkAt w' B k L := fun i hi => (hb.cell (p := ⟨B, i, none⟩) (World.block_lt_of_cell? _ _ (h i hi))).trans (h i hi)

theorem MkAt.cells {w : World} {B k L c q : Nat} (h : MkAt w B k L) (hc : c < L) (hq : q = k + c * 8) :
    w.cell? ⟨B, c * 8, none⟩ = some (.int .i64 (q : Int)) ∧ w.cell? ⟨B, c * 8 + 1, none⟩ = some (.int .i64 ((q : Int) + 1)) ∧ w.cell? ⟨B, c * 8 + 2, none⟩ = some (.string (markT (q + 2))) ∧ w.cell? ⟨B, c * 8 + 3, none⟩ = some (.int .i64 ((q : Int) + 1 + 1 + 1)) ∧ w.cell? ⟨B, c * 8 + 4, none⟩ = some (.int .i64 ((q : Int) + 1 + 1 + 1 + 1)) ∧ w.cell? ⟨B, c * 8 + 5, none⟩ = some (.int .i64 ((q : Int) + 1 + 1 + 1 + 1 + 1)) ∧ w.cell? ⟨B, c * 8 + 6, none⟩ = some (.string (markT (q + 6))) ∧ w.cell? ⟨B, c * 8 + 7, none⟩ = some (.int .i64 ((q : Int) + 1 + 1 + 1 + 1 + 1 + 1 + 1)) := by
  have g : ∀ d, d < 8 → w.cell? ⟨B, c * 8 + d, none⟩ = some (mkc k (c * 8 + d)) := fun d hd => h _ (by omega)
  refine ⟨?_, ?_, ?_, ?_, ?_, ?_, ?_, ?_⟩
  · rw [← mkc_int (k := k) (c := c) (d := 0) (by omega) (by omega) (by omega) (by omega)]; exact g 0 (by omega)
  · rw [← mkc_int (k := k) (c := c) (d := 1) (by omega) (by omega) (by omega) (by omega)]; exact g 1 (by omega)
  · rw [← mkc_text (k := k) (c := c) (d := 2) (Or.inl rfl) (by omega)]; exact g 2 (by omega)
  · rw [← mkc_int (k := k) (c := c) (d := 3) (by omega) (by omega) (by omega) (by omega)]; exact g 3 (by omega)
  · rw [← mkc_int (k := k) (c := c) (d := 4) (by omega) (by omega) (by omega) (by omega)]; exact g 4 (by omega)
  · rw [← mkc_int (k := k) (c := c) (d := 5) (by omega) (by omega) (by omega) (by omega)]; exact g 5 (by omega)
  · rw [← mkc_text (k := k) (c := c) (d := 6) (Or.inr rfl) (by omega)]; exact g 6 (by omega)
  · rw [← mkc_int (k := k) (c := c) (d := 7) (by omega) (by omega) (by omega) (by omega)]; exact g 7 (by omega)

end Go.Proofs.YtgflalfiopnmnaaGreatDoor

namespace Go.Proofs.YtgflalfiopnmnaaGreatDoor
open Go.RowKit Vl

def koff (k : Nat) (L : Nat → Nat) : Nat → Nat
  | 0 => k
  | r + 1 => koff k L r + L r * 8
structure MTabs (w : World) (ta : Option Addr) (n TB : Nat) (A : Nat → Option Addr) (L C RB cap : Nat → Nat) (f : Nat → Nat → Value) : Prop where
  top : 0 < n → ta = some ⟨TB, 0, none⟩
  tab : ∀ r, r < n → w.cell? ⟨TB, r, none⟩ = some (.slice (A r) (L r) (C r))
  adr : ∀ r, r < n → 0 < L r → A r = some ⟨RB r, 0, none⟩
  row : ∀ r, r < n → 0 < L r → w.rowIs (RB r) 39 (cap r) (f r)
  fit : ∀ r, r < n → 0 < L r → L r * 8 ≤ cap r
  ne : ∀ r, r < n → 0 < L r → RB r ≠ TB
  dis : ∀ r s, r < s → s < n → 0 < L r → 0 < L s → RB r ≠ RB s

structure HTabs (w : World) (ta : Option Addr) (n TB k : Nat) (A : Nat → Option Addr) (L C RB : Nat → Nat) : Prop where
  top : 0 < n → ta = some ⟨TB, 0, none⟩
  tab : ∀ r, r < n → w.cell? ⟨TB, r, none⟩ = some (.slice (A r) (L r) (C r))
  adr : ∀ r, r < n → 0 < L r → A r = some ⟨RB r, 0, none⟩
  row : ∀ r, r < n → 0 < L r → MkAt w (RB r) (koff k L r) (L r)
theorem HTabs.below {w w' : World} {ta : Option Addr} {n TB k : Nat} {A : Nat → Option Addr} {L C RB : Nat → Nat} (h : HTabs w ta n TB k A L C RB) (hb : Below w.heap.size w w') : HTabs w' ta n TB k A L C RB :=
  ⟨h.top, fun r hr => (hb.cell (p := ⟨TB, r, none⟩) (World.block_lt_of_cell? _ _ (h.tab r hr))).trans (h.tab r hr), h.adr, fun r hr h0 => (h.row r hr h0).below hb⟩

end Go.Proofs.YtgflalfiopnmnaaGreatDoor

namespace Go.Proofs.YtgflalfiopnmnaaGreatDoor
open Go.RowKit Vl

theorem MTabs.below {w w' : World} {ta : Option Addr} {n TB : Nat} {A : Nat → Option Addr} {L C RB cap : Nat → Nat} {f : Nat → Nat → Value} (h : MTabs w ta n TB A L C RB cap f) (hb : Below w.heap.size w w') : MTabs w' ta n TB A L C RB cap f :=
  ⟨h.top, fun r hr => (hb.cell (p := ⟨TB, r, none⟩) (World.block_lt_of_cell? _ _ (h.tab r hr))).trans (h.tab r hr), h.adr, fun r hr h0 => (h.row r hr h0).of_block (hb.block _ (h.row r hr h0).lt), h.fit, h.ne, h.dis⟩

end Go.Proofs.YtgflalfiopnmnaaGreatDoor

namespace Go.Proofs.YtgflalfiopnmnaaGreatDoor
open Go.RowKit Vl

open Classical in
noncomputable def cnN (n : Nat) (u : V) (L : Nat → Nat) (K X : Nat → Nat → V) : Nat := if OkG n u L K X then (order n u L X).length else 0
open Classical in
noncomputable def cnU (n : Nat) (u : V) (L : Nat → Nat) (K X : Nat → Nat → V) : V := if OkG n u L K X then renum (order n u L X) u else zeroV

theorem CanonIs.all {w w' : World} {e : Ending} {n : Nat} {u : V} {L : Nat → Nat} {K X : Nat → Nat → V} (h : CanonIs w w' e n u L K X) : ∃ (tv : Value) (PV : Nat → Value) (base : Nat), w.heap.size ≤ base ∧ e = .returned (.agg #[.int .i64 (cnU n u L K X).k, .int .i64 (cnU n u L K X).n, .string (cnU n u L K X).s, .int .i64 (cnU n u L K X).a, tv]) ∧ OTab w' base tv (cnN n u L K X) PV (cL (order n u L X) L) (cK (order n u L X) K) (cX (order n u L X) X) := by
  unfold cnU cnN
  rcases h with ⟨hG, tv, PV, base, h1, h2, h3⟩ | ⟨hN, h2⟩
  · rw [if_pos hG, if_pos hG]
    exact ⟨tv, PV, base, h1, h2, h3⟩
  · rw [if_neg hN, if_neg hN]
    exact ⟨.slice none 0 0, fun _ => .nilIface, w.heap.size, Nat.le_refl _, h2, OTab.nil _ _ _ _ _ _⟩

end Go.Proofs.YtgflalfiopnmnaaGreatDoor

namespace Go.Proofs.YtgflalfiopnmnaaGreatDoor
open Go.RowKit Vl
open Go.ChangeShapes Go.WideShapes Go.ChangeAt Go.Joins

def GrRes (w w' : World) (e : Ending) (N : Nat) (U : V) (L : Nat → Nat) (K X : Nat → Nat → V) : Prop :=
  ∃ (ta : Option Addr) (tc : Nat) (PV : Nat → Value) (base : Nat), w.heap.size ≤ base ∧ e = .returned (.agg #[.int .i64 U.k, .int .i64 U.n, .string U.s, .int .i64 U.a, .slice ta N tc]) ∧ OTab w' base (.slice ta N tc) N PV L K X

theorem CanonIs.res {w w' : World} {e : Ending} {n : Nat} {u : V} {L : Nat → Nat} {K X : Nat → Nat → V} (h : CanonIs w w' e n u L K X) : GrRes w w' e (cnN n u L K X) (cnU n u L K X) (cL (order n u L X) L) (cK (order n u L X) K) (cX (order n u L X) X) := by
  obtain ⟨tv, PV, base, h1, h2, h3⟩ := h.all
  obtain ⟨ta, tc, rfl, _⟩ := owns_form h3.own
  exact ⟨ta, tc, PV, base, h1, h2, h3⟩

end Go.Proofs.YtgflalfiopnmnaaGreatDoor

namespace Go.Proofs.YtgflalfiopnmnaaGreatDoor
open Go.RowKit Vl

theorem SortI.ne {K : Nat → V} {L : Nat} {ls : List Nat} (h : SortI K L ls) {i j : Nat} (hi : i < j) (hj : j < L) : ls.getD i 0 ≠ ls.getD j 0 := by
  have hn : ls.Nodup := h.perm.nodup_iff.2 List.nodup_range
  have hl := h.len
  simp only [List.getD_eq_getElem?_getD]
  rw [List.getElem?_eq_getElem (by omega), List.getElem?_eq_getElem (by omega)]
  simp only [Option.getD_some]
  exact List.pairwise_iff_getElem.1 hn i j (by omega) (by omega) hi
theorem Vl.OkT.once {n L : Nat} {K X : Nat → V} (h : OkT n L K X) {a b : Nat} (ha : a < L) (hb : b < L) (hne : a ≠ b) : K a ≠ K b := fun e => by
  rcases Nat.lt_or_gt_of_ne hne with h' | h'
  · have := (h.all b hb).once a h'
    rw [eqV_iff.2 e] at this
    cases this
  · have := (h.all a ha).once b h'
    rw [eqV_iff.2 e.symm] at this
    cases this

end Go.Proofs.YtgflalfiopnmnaaGreatDoor

namespace Go.Proofs.YtgflalfiopnmnaaGreatDoor.Aw
open Vl

theorem lt_trans {a b c : V} (h : less a b = true) (k : less b c = true) : less a c = true := by
  cases e : less a c with
  | true => rfl
  | false =>
    have := le_trans e (less_asymm h)
    rw [k] at this
    cases this
theorem lt_irrefl (a : V) : less a a = false := by
  cases e : less a a with
  | false => rfl
  | true => have := less_asymm e; rw [e] at this; cases this

def ins (k : V) : List V → List V
  | [] => [k]
  | x :: xs => if less k x = true then k :: x :: xs else if eqV k x = true then x :: xs else x :: ins k xs
def kidsOf (ks : List V) : List V := ks.foldr ins []
def Strict (l : List V) : Prop := l.Pairwise fun a b => less a b = true

theorem mem_ins (k : V) : ∀ (l : List V) (x : V), x ∈ ins k l ↔ x = k ∨ x ∈ l
  | [], x => by simp [ins]
  | y :: ys, x => by
    unfold ins
    split
    · simp
    · split
      · rename_i h
        have : k = y := eqV_iff.1 h
        simp [this]
      · simp only [List.mem_cons, mem_ins k ys x]
        constructor
        · rintro (h | h | h)
          · exact Or.inr (Or.inl h)
          · exact Or.inl h
          · exact Or.inr (Or.inr h)
        · rintro (h | h | h)
          · exact Or.inr (Or.inl h)
          · exact Or.inl h
          · exact Or.inr (Or.inr h)
theorem ins_strict {k : V} (hk : isK k = true) : ∀ (l : List V), (∀ x ∈ l, isK x = true) → Strict l → Strict (ins k l)
  | [], _, _ => by simp [ins, Strict]
  | y :: ys, ha, h => by
    obtain ⟨h1, h2⟩ := List.pairwise_cons.1 h
    unfold ins
    split
    · rename_i hl
      refine List.pairwise_cons.2 ⟨fun z hz => ?_, h⟩
      rcases List.mem_cons.1 hz with rfl | hz
      · exact hl
      · exact lt_trans hl (h1 z hz)
    · split
      · exact h
      · rename_i hl he
        refine List.pairwise_cons.2 ⟨fun z hz => ?_, ins_strict hk ys (fun x hx => ha x (by simp [hx])) h2⟩
        rcases (mem_ins k ys z).1 hz with rfl | hz
        · cases e : less y z with
          | true => rfl
          | false => exact absurd (eqV_iff.2 (key_one hk (ha y (by simp)) ((Bool.not_eq_true _).mp hl) e)) he
        · exact h1 z hz
theorem mem_kidsOf : ∀ (ks : List V) (x : V), x ∈ kidsOf ks ↔ x ∈ ks
  | [], x => by simp [kidsOf]
  | k :: ks, x => by
    have := mem_kidsOf ks x
    unfold kidsOf at this ⊢
    rw [List.foldr_cons, mem_ins, this]
    simp
theorem kidsOf_strict : ∀ (ks : List V), (∀ k ∈ ks, isK k = true) → Strict (kidsOf ks)
  | [], _ => by simp [kidsOf, Strict]
  | k :: ks, h => by
    have := kidsOf_strict ks (fun x hx => h x (by simp [hx]))
    refine ins_strict (h k (by simp)) _ (fun x hx => ?_) this
    exact h x (by rw [List.mem_cons]; exact Or.inr ((mem_kidsOf ks x).1 hx))
theorem strict_one : ∀ {l m : List V}, Strict l → Strict m → (∀ x, x ∈ l ↔ x ∈ m) → l = m
  | [], [], _, _, _ => rfl
  | [], b :: m, _, _, h => by have := (h b).2 (by simp); cases this
  | a :: l, [], _, _, h => by have := (h a).1 (by simp); cases this
  | a :: l, b :: m, h1, h2, h => by
    obtain ⟨p1, p2⟩ := List.pairwise_cons.1 h1
    obtain ⟨q1, q2⟩ := List.pairwise_cons.1 h2
    have e : a = b := by
      by_cases e : a = b
      · exact e
      · have ha : a ∈ m := by
          rcases List.mem_cons.1 ((h a).1 (by simp)) with h | h
          · exact absurd h e
          · exact h
        have hb : b ∈ l := by
          rcases List.mem_cons.1 ((h b).2 (by simp)) with h | h
          · exact absurd h.symm e
          · exact h
        have := less_asymm (p1 b hb)
        rw [q1 a ha] at this
        cases this
    subst e
    rw [strict_one p2 q2 (fun x => ?_)]
    constructor
    · intro hx
      rcases List.mem_cons.1 ((h x).1 (by simp [hx])) with h' | h'
      · have := p1 x hx; rw [h', lt_irrefl] at this; cases this
      · exact h'
    · intro hx
      rcases List.mem_cons.1 ((h x).2 (by simp [hx])) with h' | h'
      · have := q1 x hx; rw [h', lt_irrefl] at this; cases this
      · exact h'

theorem mem_keys {K : Nat → V} {c : Nat} {k : V} : k ∈ keys K c ↔ ∃ j, j < c ∧ K j = k := by simp [keys]
theorem atKey_at {n L : Nat} {K X : Nat → V} (h : OkT n L K X) {c : Nat} (hc : c < L) : atKey L K X (K c) = X c :=
  atKey_hit hc (eqV_iff.2 rfl) (fun i hi => (h.all c hc).once i hi)
theorem atKey_no {L : Nat} {K X : Nat → V} {k : V} (h : k ∉ keys K L) : atKey L K X k = zeroV :=
  atKey_none (fun j hj => by
    cases e : eqV (K j) k with
    | false => rfl
    | true => exact absurd (mem_keys.2 ⟨j, hj, eqV_iff.1 e⟩) h)
theorem perm_at {L : Nat} {K : Nat → V} {ls : List Nat} (h : SortI K L ls) {c : Nat} (hc : c < L) : ∃ q, q < L ∧ ls.getD q 0 = c := by
  obtain ⟨q, hq, e⟩ := List.mem_iff_getElem.1 (h.perm.symm.subset (List.mem_range.2 hc))
  exact ⟨q, by rw [← h.len]; exact hq, by rw [List.getD_eq_getElem?_getD, List.getElem?_eq_getElem hq]; exact e⟩

def sysOf (n : Nat) (L : Nat → Nat) (K X : Nat → Nat → V) (L' : Nat → Nat) (K' X' : Nat → Nat → V) (f : Nat → Nat) : Sys where
  tab v := v.k == 4
  atA x k := atKey (L x.a.toNat) (K x.a.toNat) (X x.a.toNat) k
  atB y k := atKey (L' y.a.toNat) (K' y.a.toNat) (X' y.a.toNat) k
  kids x y := kidsOf (keys (K x.a.toNat) (L x.a.toNat) ++ keys (K' y.a.toNat) (L' y.a.toNat))
  D x y := !(f x.a.toNat == f (n + y.a.toNat))
def goodV (n m : Nat) (x y : V) : Prop := isV n x = true ∧ isV m y = true

theorem tab_one {n : Nat} {x y : V} (hx : isV n x = true) (hy : isV n y = true) (h : x.k = 4) (h' : y.k = 4) (e : x.a.toNat = y.a.toNat) : x = y := by
  obtain ⟨a0, a1⟩ := isV_tab hx h
  obtain ⟨b0, b1⟩ := isV_tab hy h'
  unfold isV at hx hy
  rw [if_neg (by omega), if_neg (by omega), if_neg (by omega), if_neg (by omega), if_pos h] at hx
  rw [if_neg (by omega), if_neg (by omega), if_neg (by omega), if_neg (by omega), if_pos h'] at hy
  simp only [Bool.and_eq_true, beq_iff_eq, decide_eq_true_eq] at hx hy
  apply eqV_iff.1
  simp only [eqV, Bool.and_eq_true, beq_iff_eq]
  refine ⟨by omega, by omega, by rw [hx.2.1, hy.2.1], by omega⟩

theorem sys_ix (n m : Nat) (L : Nat → Nat) (K X : Nat → Nat → V) (L' : Nat → Nat) (K' X' : Nat → Nat → V) (f : Nat → Nat) : Ix (sysOf n L K X L' K' X' f) (goodV n m) (fun x y => x.a.toNat * m + y.a.toNat) (n * m) := by
  refine ⟨fun x y hg hx hy => ?_, fun x y x' y' hg hx hy hg' hx' hy' e => ?_⟩
  · have hx : x.k = 4 := by simpa [sysOf] using hx
    have hy : y.k = 4 := by simpa [sysOf] using hy
    obtain ⟨a0, a1⟩ := isV_tab hg.1 hx
    obtain ⟨b0, b1⟩ := isV_tab hg.2 hy
    have h1 : x.a.toNat + 1 ≤ n := by omega
    have h2 : (x.a.toNat + 1) * m ≤ n * m := Nat.mul_le_mul_right _ h1
    rw [Nat.add_mul] at h2
    show x.a.toNat * m + y.a.toNat < n * m
    omega
  · have hx : x.k = 4 := by simpa [sysOf] using hx
    have hy : y.k = 4 := by simpa [sysOf] using hy
    have hx' : x'.k = 4 := by simpa [sysOf] using hx'
    have hy' : y'.k = 4 := by simpa [sysOf] using hy'
    obtain ⟨b0, b1⟩ := isV_tab hg.2 hy
    obtain ⟨c0, c1⟩ := isV_tab hg'.2 hy'
    have e : x.a.toNat * m + y.a.toNat = x'.a.toNat * m + y'.a.toNat := e
    have h1 : y.a.toNat = y'.a.toNat := by
      have h := congrArg (· % m) e
      simp only [Nat.mul_add_mod_self_right] at h
      rw [Nat.mod_eq_of_lt (by omega), Nat.mod_eq_of_lt (by omega)] at h
      exact h
    have h2 : x.a.toNat = x'.a.toNat := by
      rw [h1] at e
      exact Nat.eq_of_mul_eq_mul_right (show 0 < m by omega) (Nat.add_right_cancel e)
    exact ⟨tab_one hg.1 hg'.1 hx hx' h2, tab_one hg.2 hg'.2 hy hy' h1⟩

theorem sys_next {n m : Nat} {u u' : V} {L : Nat → Nat} {K X : Nat → Nat → V} {L' : Nat → Nat} {K' X' : Nat → Nat → V} {f : Nat → Nat} (h : OkG n u L K X) (h' : OkG m u' L' K' X') : Nexts (sysOf n L K X L' K' X' f) (goodV n m) := fun x y hg hx hy k _ => by
  have hx : x.k = 4 := by simpa [sysOf] using hx
  have hy : y.k = 4 := by simpa [sysOf] using hy
  obtain ⟨a0, a1⟩ := isV_tab hg.1 hx
  obtain ⟨b0, b1⟩ := isV_tab hg.2 hy
  exact ⟨isV_at (h.all x.a.toNat (by omega)) k, isV_at (h'.all y.a.toNat (by omega)) k⟩

theorem order_kids {n m : Nat} {L L' : Nat} {K X K' X' : Nat → V} {ls : List Nat} (h : OkT n L K X) (h' : OkT m L' K' X') (hs : SortI K L ls) (hno : ∀ k ∈ kidsOf (keys K L ++ keys K' L'), ¬ (¬ ((atKey L K X k).k = 4 ∧ (atKey L' K' X' k).k = 4) ∧ atKey L K X k ≠ atKey L' K' X' k)) : keys (byI K ls) L = kidsOf (keys K L ++ keys K' L') := by
  have hk : ∀ k ∈ keys K L ++ keys K' L', isK k = true := fun k hk => by
    rcases List.mem_append.1 hk with hk | hk
    · obtain ⟨c, hc, rfl⟩ := mem_keys.1 hk; exact (h.all c hc).key
    · obtain ⟨c, hc, rfl⟩ := mem_keys.1 hk; exact (h'.all c hc).key
  refine strict_one ?_ (kidsOf_strict _ hk) (fun x => ?_)
  · unfold Strict keys
    rw [List.pairwise_map]
    rw [List.pairwise_iff_getElem]
    intro a b ha hb hab
    simp only [List.getElem_range]
    simp only [List.length_range] at ha hb
    have hsw := hs.sort
    unfold SortW at hsw
    rw [List.pairwise_iff_getElem] at hsw
    have hl := hs.len
    have h1 := hsw a b (by omega) (by omega) hab
    have ga : ls.getD a 0 = ls[a] := by rw [List.getD_eq_getElem?_getD, List.getElem?_eq_getElem (by omega)]; rfl
    have gb : ls.getD b 0 = ls[b] := by rw [List.getD_eq_getElem?_getD, List.getElem?_eq_getElem (by omega)]; rfl
    rw [← ga, ← gb] at h1
    have hne := SortI.ne hs hab hb
    show less (K (ls.getD a 0)) (K (ls.getD b 0)) = true
    cases e : less (K (ls.getD a 0)) (K (ls.getD b 0)) with
    | true => rfl
    | false => exact absurd (key_one (h.all _ (hs.lt ha)).key (h.all _ (hs.lt hb)).key e h1) (Vl.OkT.once h (hs.lt ha) (hs.lt hb) hne)
  · rw [mem_kidsOf, List.mem_append]
    constructor
    · intro hx
      obtain ⟨c, hc, rfl⟩ := mem_keys.1 hx
      exact Or.inl (mem_keys.2 ⟨_, hs.lt hc, rfl⟩)
    · intro hx
      have hin : x ∈ keys K L := by
        rcases hx with hx | hx
        · exact hx
        · by_cases hh : x ∈ keys K L
          · exact hh
          · exfalso
            obtain ⟨c, hc, rfl⟩ := mem_keys.1 hx
            have hz := atKey_no (X := X) hh
            have hv : atKey L' K' X' (K' c) = X' c := atKey_at h' hc
            refine hno (K' c) ((mem_kidsOf _ _).2 (List.mem_append.2 (Or.inr hx))) ?_
            rw [hz, hv]
            refine ⟨fun e => by have := e.1; simp [zeroV] at this, fun e => (h'.all c hc).some ?_⟩
            rw [← e]
            rfl
      obtain ⟨c, hc, rfl⟩ := mem_keys.1 hin
      obtain ⟨q, hq, e⟩ := perm_at hs hc
      exact mem_keys.2 ⟨q, hq, by unfold byI; rw [e]⟩

end Go.Proofs.YtgflalfiopnmnaaGreatDoor.Aw

namespace Go.Proofs.YtgflalfiopnmnaaGreatDoor.Aw
open Vl

theorem ifold_pre {S : Sys} (e : E) : ∀ (ks : List V) (q : List E), ∃ t, ks.foldl (fun l k => S.iadd l (S.child e k)) q = q ++ t ∧ (∀ c ∈ t, ∃ k ∈ ks, c = S.child e k) ∧ ∀ k ∈ ks, S.live (S.child e k) = true → (q ++ t).any (same (S.child e k)) = true
  | [], q => ⟨[], by simp, by simp, by simp⟩
  | k :: ks, q => by
    obtain ⟨s, hs, hs2, hs3⟩ : ∃ s, S.iadd q (S.child e k) = q ++ s ∧ (∀ c ∈ s, c = S.child e k) ∧ (S.live (S.child e k) = true → (q ++ s).any (same (S.child e k)) = true) := by
      unfold Sys.iadd
      split
      · refine ⟨[S.child e k], rfl, fun c hc => by simpa using hc, fun _ => ?_⟩
        rw [List.any_append]
        simp [same, eqV_refl]
      · rename_i h
        refine ⟨[], by simp, by simp, fun hl => ?_⟩
        rw [List.append_nil]
        unfold Sys.live at hl
        rw [hl] at h
        simpa using h
    obtain ⟨t, ht, h2, h3⟩ := ifold_pre e ks (q ++ s)
    refine ⟨s ++ t, ?_, ?_, ?_⟩
    · rw [List.foldl_cons, hs, ht, List.append_assoc]
    · intro c hc
      rcases List.mem_append.1 hc with hc | hc
      · exact ⟨k, by simp, hs2 c hc⟩
      · obtain ⟨k', hk', e'⟩ := h2 c hc
        exact ⟨k', by simp [hk'], e'⟩
    · intro k' hk' hl
      rw [← List.append_assoc]
      rcases List.mem_cons.1 hk' with rfl | hk'
      · rw [List.any_append, hs3 hl]; rfl
      · exact h3 k' hk' hl

theorem igrow_pre {S : Sys} (q : List E) (e : E) : ∃ t, S.igrow q e = q ++ t ∧ (∀ c ∈ t, ∃ k ∈ S.kids e.a e.b, c = S.child e k) ∧ ∀ k ∈ S.kids e.a e.b, S.live (S.child e k) = true → (q ++ t).any (same (S.child e k)) = true := ifold_pre e _ q

theorem IReach.seen {S : Sys} {r : E} {j : Nat} {q : List E} (h : IReach S r j q) : ∀ i, i < j → ∃ e, q[i]? = some e ∧ ∀ k ∈ S.kids e.a e.b, S.part (S.child e k) = false ∧ (S.live (S.child e k) = true → q.any (same (S.child e k)) = true) := by
  induction h with
  | start => intro i hi; omega
  | @step j q e h1 h2 h3 ih =>
    obtain ⟨t, ht, _, t3⟩ := igrow_pre (S := S) q e
    rw [ht]
    intro i hi
    by_cases e' : i = j
    · subst e'
      refine ⟨e, ?_, fun k hk => ⟨h3 k hk, t3 k hk⟩⟩
      obtain ⟨hlt, _⟩ := List.getElem?_eq_some_iff.1 h2
      rw [List.getElem?_append_left hlt]
      exact h2
    · obtain ⟨x, hx, hk⟩ := ih i (by omega)
      obtain ⟨hlt, _⟩ := List.getElem?_eq_some_iff.1 hx
      refine ⟨x, by rw [List.getElem?_append_left hlt]; exact hx, fun k hk' => ⟨(hk k hk').1, fun hl => ?_⟩⟩
      rw [List.any_append, (hk k hk').2 hl]
      rfl

theorem IReach.closed {S : Sys} {r : E} {j : Nat} {q : List E} (h : IReach S r j q) (hj : q.length ≤ j) : ∀ e ∈ q, ∀ k ∈ S.kids e.a e.b, S.part (S.child e k) = false ∧ (S.live (S.child e k) = true → ∃ x ∈ q, x.a = S.atA e.a k ∧ x.b = S.atB e.b k) := by
  intro e he k hk
  obtain ⟨i, hi, e1⟩ := List.mem_iff_getElem.1 he
  obtain ⟨x, hx, hall⟩ := h.seen i (by omega)
  rw [List.getElem?_eq_getElem hi, e1] at hx
  obtain rfl := Option.some.inj hx
  refine ⟨(hall k hk).1, fun hl => ?_⟩
  obtain ⟨x, hx, hs⟩ := List.any_eq_true.1 ((hall k hk).2 hl)
  unfold same at hs
  rw [Bool.and_eq_true] at hs
  exact ⟨x, hx, eqV_iff.1 hs.1, eqV_iff.1 hs.2⟩

theorem IReach.first {S : Sys} {r : E} {j : Nat} {q : List E} (h : IReach S r j q) (hl : S.live r = true) : r ∈ q := by
  induction h with
  | start =>
    unfold Sys.iadd
    unfold Sys.live at hl
    rw [hl]
    simp
  | @step j q e h1 h2 h3 ih =>
    obtain ⟨t, ht, _, _⟩ := igrow_pre (S := S) q e
    rw [ht]
    exact List.mem_append.2 (Or.inl ih)

theorem IReach.dead {S : Sys} {r : E} {j : Nat} {q : List E} (h : IReach S r j q) (hl : S.live r = false) : q = [] := by
  induction h with
  | start =>
    unfold Sys.iadd
    unfold Sys.live at hl
    rw [hl]
    simp
  | @step j q e h1 h2 h3 ih =>
    rw [ih] at h2
    simp at h2

theorem IDone.dead {S : Sys} {r : E} {ans : List V} (h : IDone S r ans) (hl : S.live r = false) : ans = [] := by
  rcases h with ⟨j, q, e, pre, k, post, h1, h2, _⟩ | ⟨j, q, _, _, rfl⟩
  · rw [h1.dead hl] at h2
    simp at h2
  · rfl

section
variable {n m : Nat} {u u' : V} {L : Nat → Nat} {K X : Nat → Nat → V} {L' : Nat → Nat} {K' X' : Nat → Nat → V} {f : Nat → Nat}

theorem kidsOf_comm {xs ys : List V} (h : ∀ k ∈ xs ++ ys, isK k = true) : kidsOf (xs ++ ys) = kidsOf (ys ++ xs) := by
  refine strict_one (kidsOf_strict _ h) (kidsOf_strict _ (fun k hk => h k ?_)) (fun x => ?_)
  · rw [List.mem_append] at hk ⊢; exact hk.symm
  · rw [mem_kidsOf, mem_kidsOf, List.mem_append, List.mem_append]; exact Or.comm

theorem keys_one {l l' : Nat} {k x k' x' : Nat → V} {ls ls' : List Nat} (h : OkT n l k x) (h' : OkT m l' k' x') (hs : SortI k l ls) (hs' : SortI k' l' ls') (hno : ∀ z ∈ kidsOf (keys k l ++ keys k' l'), ¬ (¬ ((atKey l k x z).k = 4 ∧ (atKey l' k' x' z).k = 4) ∧ atKey l k x z ≠ atKey l' k' x' z)) : l = l' ∧ ∀ c, c < l → byI k ls c = byI k' ls' c := by
  have hk : ∀ z ∈ keys k l ++ keys k' l', isK z = true := fun z hz => by
    rcases List.mem_append.1 hz with hz | hz
    · obtain ⟨c, hc, rfl⟩ := mem_keys.1 hz; exact (h.all c hc).key
    · obtain ⟨c, hc, rfl⟩ := mem_keys.1 hz; exact (h'.all c hc).key
  have e1 := order_kids h h' hs hno
  have e2 := order_kids h' h hs' (fun z hz hp => by
    rw [← kidsOf_comm hk] at hz
    exact hno z hz ⟨fun hh => hp.1 ⟨hh.2, hh.1⟩, fun hh => hp.2 hh.symm⟩)
  rw [← kidsOf_comm hk, ← e1] at e2
  have hl : l = l' := by
    have := congrArg List.length e2
    rw [keys_len, keys_len] at this
    exact this.symm
  subst hl
  refine ⟨rfl, fun c hc => ?_⟩
  have := congrArg (fun l => l[c]?) e2
  unfold keys at this
  simp only [List.getElem?_map, List.getElem?_range hc, Option.map_some] at this
  exact (Option.some.inj this).symm

theorem IReach.nobody (h : OkG n u L K X) (h' : OkG m u' L' K' X') (hc : ClsAre (n + m) (jn n L L') (jn n K K') (jn n X (fun j c => sh n (X' j c))) f) {j : Nat} {q : List E} (hI : IReach (sysOf n L K X L' K' X' f) ⟨u, u', []⟩ j q) (hj : q.length ≤ j) : q = [] := by
  have hW := hI.wide (sys_next h h') (sys_ix n m L K X L' K' X' f) (show goodV n m u u' from ⟨h.root, h'.root⟩) rfl
  have hcl := hI.closed hj
  obtain ⟨ls, hs, hcls⟩ := hc
  have hgood : Good (n + m) (jn n L L') (sK (jn n X (fun j c => sh n (X' j c))) ls) := fun r hr c hc => ((okT_join h h' r hr).all _ ((hs r hr).lt hc)).val
  have hbis : Bis (n + m) (jn n L L') (sK (jn n K K') ls) (sK (jn n X (fun j c => sh n (X' j c))) ls) (fun i j => (i < n + m ∧ j < n + m ∧ f i = f j) ∨ ∃ e ∈ q, i = e.a.a.toNat ∧ j = n + e.b.a.toNat) := by
    rintro i j (hij | ⟨e, he, rfl, rfl⟩)
    · obtain ⟨h1, h2, h3, h4⟩ := hcls.rel hgood i j hij
      exact ⟨h1, h2, h3, fun c hc => ⟨(h4 c hc).1, (h4 c hc).2.1, fun e => Or.inl ((h4 c hc).2.2.1 e), (h4 c hc).2.2.2⟩⟩
    · have hl := hW.live e he
      obtain ⟨g1, g2⟩ := hW.wide.good e he
      have t1 : e.a.k = 4 := by unfold Sys.live Sys.cp sysOf at hl; simp at hl; exact hl.1.1
      have t2 : e.b.k = 4 := by unfold Sys.live Sys.cp sysOf at hl; simp at hl; exact hl.1.2
      obtain ⟨a0, a1⟩ := isV_tab g1 t1
      obtain ⟨b0, b1⟩ := isV_tab g2 t2
      have hk := hcl e he
      obtain ⟨i, hi⟩ : ∃ i, e.a.a.toNat = i := ⟨_, rfl⟩
      obtain ⟨j, hj'⟩ : ∃ j, e.b.a.toNat = j := ⟨_, rfl⟩
      have hin : i < n := by omega
      have hjm : j < m := by omega
      have hk : ∀ k ∈ kidsOf (keys (K i) (L i) ++ keys (K' j) (L' j)), (sysOf n L K X L' K' X' f).part ⟨atKey (L i) (K i) (X i) k, atKey (L' j) (K' j) (X' j) k, e.p ++ [k]⟩ = false ∧ ((sysOf n L K X L' K' X' f).live ⟨atKey (L i) (K i) (X i) k, atKey (L' j) (K' j) (X' j) k, e.p ++ [k]⟩ = true → ∃ x ∈ q, x.a = atKey (L i) (K i) (X i) k ∧ x.b = atKey (L' j) (K' j) (X' j) k) := by
        subst hi hj'
        exact hk
      rw [hi, hj']
      have o1 := h.all i hin
      have o2 := h'.all j hjm
      have s1 := hs i (by omega)
      have s2 := hs (n + j) (by omega)
      rw [jn_lt hin, jn_lt hin] at s1
      rw [jn_add, jn_add] at s2
      obtain ⟨hlen, hkeys⟩ := keys_one o1 o2 s1 s2 (fun z hz hp => by
        have h1 := (hk z hz).1
        unfold Sys.part sysOf at h1
        simp only [Bool.and_eq_false_iff, Bool.not_eq_false', Bool.and_eq_true, beq_iff_eq] at h1
        rcases h1 with h1 | h1
        · exact hp.1 h1
        · exact hp.2 (eqV_iff.1 h1))
      refine ⟨by omega, by omega, by rw [jn_lt hin, jn_add]; exact hlen, fun c hc => ?_⟩
      rw [jn_lt hin] at hc
      have lc := s1.lt hc
      have lc' := s2.lt (i := c) (by omega)
      have ek := hkeys c hc
      unfold byI at ek
      unfold sK byI
      rw [jn_lt hin, jn_lt hin, jn_add, jn_add]
      have r1 : atKey (L i) (K i) (X i) (K i ((ls i).getD c 0)) = X i ((ls i).getD c 0) := atKey_at o1 lc
      have r2 : atKey (L' j) (K' j) (X' j) (K i ((ls i).getD c 0)) = X' j ((ls (n + j)).getD c 0) := by rw [ek]; exact atKey_at o2 lc'
      have v2 := (o2.all _ lc').val
      have v1 := (o1.all _ lc).val
      obtain ⟨p1, p2⟩ := hk (K i ((ls i).getD c 0)) ((mem_kidsOf _ _).2 (List.mem_append.2 (Or.inl (mem_keys.2 ⟨_, lc, rfl⟩))))
      rw [r1, r2] at p1 p2
      refine ⟨ek, ?_⟩
      unfold Sys.part sysOf at p1
      simp only [Bool.and_eq_false_iff, Bool.not_eq_false', Bool.and_eq_true, beq_iff_eq] at p1
      unfold Sys.live Sys.cp sysOf at p2
      simp only [Bool.and_eq_true, beq_iff_eq, Bool.not_eq_true', beq_eq_false_iff_ne] at p2
      rw [sh_k]
      have both : (X i ((ls i).getD c 0)).k = 4 → (X' j ((ls (n + j)).getD c 0)).k = 4 → (X i ((ls i).getD c 0)).a.toNat < n + m ∧ (sh n (X' j ((ls (n + j)).getD c 0))).a.toNat = n + (X' j ((ls (n + j)).getD c 0)).a.toNat ∧ n + (X' j ((ls (n + j)).getD c 0)).a.toNat < n + m := fun z1 z2 => by
        obtain ⟨c0, c1⟩ := isV_tab v1 z1
        obtain ⟨d0, d1⟩ := isV_tab v2 z2
        refine ⟨by omega, ?_, by omega⟩
        unfold sh
        rw [if_pos z2]
        simp only
        omega
      rcases p1 with p1 | p1
      · refine ⟨p1.1.trans p1.2.symm, fun _ => ?_, fun h4 => absurd p1.1 h4⟩
        obtain ⟨y1, y2, y3⟩ := both p1.1 p1.2
        rw [y2]
        by_cases hD : f (X i ((ls i).getD c 0)).a.toNat = f (n + (X' j ((ls (n + j)).getD c 0)).a.toNat)
        · exact Or.inl ⟨y1, y3, hD⟩
        · obtain ⟨x, hx, e1, e2⟩ := p2 ⟨p1, hD⟩
          exact Or.inr ⟨x, hx, by rw [e1], by rw [e2]⟩
      · have p1 := eqV_iff.1 p1
        refine ⟨by rw [p1], fun h4 => ?_, fun h4 => ?_⟩
        · have h4' : (X' j ((ls (n + j)).getD c 0)).k = 4 := by rw [← p1]; exact h4
          obtain ⟨y1, y2, y3⟩ := both h4 h4'
          rw [y2]
          by_cases hD : f (X i ((ls i).getD c 0)).a.toNat = f (n + (X' j ((ls (n + j)).getD c 0)).a.toNat)
          · exact Or.inl ⟨y1, y3, hD⟩
          · obtain ⟨x, hx, e1, e2⟩ := p2 ⟨⟨h4, h4'⟩, hD⟩
            exact Or.inr ⟨x, hx, by rw [e1], by rw [e2]⟩
        · rw [p1] at h4 ⊢
          unfold sh
          rw [if_neg h4]
  cases q with
  | nil => rfl
  | cons e q =>
    have hl := hW.live e (by simp)
    have he := hcls.wide _ hbis e.a.a.toNat (n + e.b.a.toNat) (Or.inr ⟨e, by simp, rfl, rfl⟩)
    unfold Sys.live Sys.cp sysOf at hl
    simp at hl
    exact absurd he hl.2

theorem ireach_way (h : OkG n u L K X) (h' : OkG m u' L' K' X') {j : Nat} {q : List E} (hI : IReach (sysOf n L K X L' K' X' f) ⟨u, u', []⟩ j q) : ∀ e ∈ q, e.a.k = 4 ∧ e.b.k = 4 ∧ e.p.foldl (step L K X) u = e.a ∧ e.p.foldl (step L' K' X') u' = e.b := by
  have hW := hI.wide (sys_next h h') (sys_ix n m L K X L' K' X' f) (show goodV n m u u' from ⟨h.root, h'.root⟩) rfl
  have hp : ∀ e ∈ q, e.p.foldl (step L K X) u = e.a ∧ e.p.foldl (step L' K' X') u' = e.b := by
    clear hW
    induction hI with
    | start =>
      intro e he
      unfold Sys.iadd at he
      split at he
      · obtain rfl : e = ⟨u, u', []⟩ := by simpa using he
        exact ⟨rfl, rfl⟩
      · simp at he
    | @step j q e h1 h2 h3 ih =>
      have hW := h1.wide (sys_next h h') (sys_ix n m L K X L' K' X' f) (show goodV n m u u' from ⟨h.root, h'.root⟩) rfl
      have hm : e ∈ q := List.mem_of_getElem? h2
      have hl := hW.live e hm
      have t1 : e.a.k = 4 := by unfold Sys.live Sys.cp sysOf at hl; simp at hl; exact hl.1.1
      have t2 : e.b.k = 4 := by unfold Sys.live Sys.cp sysOf at hl; simp at hl; exact hl.1.2
      obtain ⟨i1, i2⟩ := ih e hm
      obtain ⟨t, ht, ht2, _⟩ := igrow_pre (S := sysOf n L K X L' K' X' f) q e
      rw [ht]
      intro x hx
      rcases List.mem_append.1 hx with hx | hx
      · exact ih x hx
      · obtain ⟨k, _, rfl⟩ := ht2 x hx
        show (e.p ++ [k]).foldl (step L K X) u = atKey (L e.a.a.toNat) (K e.a.a.toNat) (X e.a.a.toNat) k ∧ (e.p ++ [k]).foldl (step L' K' X') u' = atKey (L' e.b.a.toNat) (K' e.b.a.toNat) (X' e.b.a.toNat) k
        rw [List.foldl_append, List.foldl_append, i1, i2]
        show step L K X e.a k = _ ∧ step L' K' X' e.b k = _
        unfold step
        rw [if_pos t1, if_pos t2]
        exact ⟨rfl, rfl⟩
  intro e he
  have hl := hW.live e he
  have t1 : e.a.k = 4 := by unfold Sys.live Sys.cp sysOf at hl; simp at hl; exact hl.1.1
  have t2 : e.b.k = 4 := by unfold Sys.live Sys.cp sysOf at hl; simp at hl; exact hl.1.2
  exact ⟨t1, t2, hp e he⟩

theorem IDone.same (h' : OkG m u' L' K' X') {ans : List V} (hI : IDone (sysOf n L K X L' K' X' f) ⟨u, u', []⟩ ans) (ha : alike f u (sh n u') = true) : ans = [] := by
  refine hI.dead ?_
  unfold Sys.live Sys.cp sysOf
  simp only [Bool.and_eq_false_iff, Bool.not_eq_false', beq_iff_eq, beq_eq_false_iff_ne]
  by_cases h4 : u.k = 4 ∧ u'.k = 4
  · right
    have := (alike_iff.1 ha).2.1 h4.1
    obtain ⟨b0, b1⟩ := isV_tab h'.root h4.2
    unfold sh at this
    rw [if_pos h4.2] at this
    rw [this]
    congr 1
    simp only
    omega
  · left
    by_cases h1 : u.k = 4
    · exact Or.inr (fun h2 => h4 ⟨h1, h2⟩)
    · exact Or.inl h1

theorem IDone.parts (h : OkG n u L K X) (h' : OkG m u' L' K' X') (hc : ClsAre (n + m) (jn n L L') (jn n K K') (jn n X (fun j c => sh n (X' j c))) f) {ans : List V} (hI : IDone (sysOf n L K X L' K' X' f) ⟨u, u', []⟩ ans) (ha : alike f u (sh n u') = false) : ¬ ((ans.foldl (step L K X) u).k = 4 ∧ (ans.foldl (step L' K' X') u').k = 4) ∧ ans.foldl (step L K X) u ≠ ans.foldl (step L' K' X') u' := by
  by_cases h4 : u.k = 4 ∧ u'.k = 4
  · obtain ⟨b0, b1⟩ := isV_tab h'.root h4.2
    have hD : f u.a.toNat ≠ f (n + u'.a.toNat) := fun e => by
      have : alike f u (sh n u') = true := alike_iff.2 ⟨by rw [sh_k]; exact h4.1.trans h4.2.symm, fun _ => by
        unfold sh
        rw [if_pos h4.2, e]
        congr 1
        simp only
        omega, fun h => absurd h4.1 h⟩
      rw [this] at ha
      cases ha
    have hl : (sysOf n L K X L' K' X' f).live ⟨u, u', []⟩ = true := by
      unfold Sys.live Sys.cp sysOf
      simp [h4.1, h4.2, hD]
    rcases hI with ⟨j, q, e, pre, k, post, h1, h2, h3, _, h5, rfl⟩ | ⟨j, q, h1, h2, rfl⟩
    · obtain ⟨t1, t2, w1, w2⟩ := ireach_way h h' h1 e (List.mem_of_getElem? h2)
      rw [List.foldl_append, List.foldl_append, w1, w2]
      show ¬ ((step L K X e.a k).k = 4 ∧ (step L' K' X' e.b k).k = 4) ∧ step L K X e.a k ≠ step L' K' X' e.b k
      unfold step
      rw [if_pos t1, if_pos t2]
      unfold Sys.part Sys.child sysOf at h5
      simp only [Bool.and_eq_true, Bool.not_eq_true', Bool.and_eq_false_iff, beq_eq_false_iff_ne] at h5
      refine ⟨fun hh => ?_, fun hh => ?_⟩
      · rcases h5.1 with h6 | h6
        · exact h6 hh.1
        · exact h6 hh.2
      · have := h5.2
        rw [eqV_iff.2 hh] at this
        cases this
    · have := h1.first hl
      rw [h1.nobody h h' hc h2] at this
      simp at this
  · have hl : (sysOf n L K X L' K' X' f).live ⟨u, u', []⟩ = false := by
      unfold Sys.live Sys.cp sysOf
      simp only [Bool.and_eq_false_iff, beq_eq_false_iff_ne]
      left
      by_cases h1 : u.k = 4
      · exact Or.inr (fun h2 => h4 ⟨h1, h2⟩)
      · exact Or.inl h1
    obtain rfl := hI.dead hl
    refine ⟨h4, fun e => ?_⟩
    have e : u = u' := e
    subst e
    have hk : u.k ≠ 4 := fun e => h4 ⟨e, e⟩
    unfold sh at ha
    rw [if_neg hk, alike_refl] at ha
    cases ha
end

end Go.Proofs.YtgflalfiopnmnaaGreatDoor.Aw
