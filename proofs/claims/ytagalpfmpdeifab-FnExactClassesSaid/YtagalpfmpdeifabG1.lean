import GoSem.Op.String
import Derived.Laws.Strings
import Derived.Test.YtagalpfmpdeifabProg
import Derived.WalkKit
import Derived.WalkLawsBesides
import Derived.Deep.OwnRows
import Derived.BigQuiet
import Derived.WalkSmall
import Derived.Deep.RegionWith
import Derived.Deep.RegionHeld3
/-
  The plain mathematics of values. No Go in sight.
-/
namespace Go.Proofs.Ytagalpfmpdeifab.Vl

structure V where
  k : Int
  n : Int
  s : ByteArray
  a : Int

/-- A value of a graph of m tables. -/
def isV (m : Nat) (v : V) : Bool :=
  if v.k = 0 then v.n == 0 && (v.s.toList == [] && v.a == 0)
  else if v.k = 1 then (v.n == 0 || v.n == 1) && (v.s.toList == [] && v.a == 0)
  else if v.k = 2 then v.s.toList == [] && v.a == 0
  else if v.k = 3 then v.n == 0 && (v.a == 0 && decide (v.s.size ≤ 500))
  else if v.k = 4 then v.n == 0 && (v.s.toList == [] && (decide (0 ≤ v.a) && decide (v.a < m)))
  else false

def isK (v : V) : Bool := (v.k == 1 || v.k == 2 || v.k == 3) && isV 0 v

end Go.Proofs.Ytagalpfmpdeifab.Vl

/-
  The order of keys. No Go in sight.
-/
namespace Go.Proofs.Ytagalpfmpdeifab.Vl
open Go

theorem bl_irrefl : ∀ x : List UInt8, Op.bytesLess x x = false
  | [] => rfl
  | a :: x => by simp [Op.bytesLess, bl_irrefl x]

theorem bl_total : ∀ x y : List UInt8, (!(Op.bytesLess x y || x == y)) = Op.bytesLess y x
  | [], [] => by simp [Op.bytesLess]
  | [], _ :: _ => by simp [Op.bytesLess]
  | _ :: _, [] => by simp [Op.bytesLess]
  | a :: x, b :: y => by
    have ih := bl_total x y
    by_cases h : a = b
    · subst h
      simp only [Op.bytesLess, UInt8.lt_irrefl, decide_false, beq_self_eq_true, Bool.true_and, Bool.false_or]
      rw [← ih]
      simp
    · have h1 : (a == b) = false := by simpa using h
      have h2 : (b == a) = false := by simpa using fun e => h e.symm
      have h3 : ((a :: x) == (b :: y)) = false := by simp [h]
      simp only [Op.bytesLess, h1, h2, h3, Bool.false_and, Bool.or_false]
      by_cases h4 : a < b
      · have : ¬ b < a := UInt8.lt_asymm h4
        simp [h4, this]
      · have : b < a := by
          rcases UInt8.lt_or_lt_of_ne h with h5 | h5
          · exact absurd h5 h4
          · exact h5
        simp [h4, this]

def less (a b : V) : Bool := if a.k = b.k then (if a.k = 3 then Op.bytesLess a.s.toList b.s.toList else decide (a.n < b.n)) else decide (a.k < b.k)

/-- What the specification says. -/
def ko (a b : V) : Int := if (isK a && isK b) = true then (if less a b then -1 else if less b a then 1 else 0) else 2

def cmpI (a b : Int) : Int := if a < b then -1 else if b < a then 1 else 0
def cmpS (a b : ByteArray) : Int := if Op.bytesLess a.toList b.toList then -1 else if (!(Op.bytesLess a.toList b.toList || a.toList == b.toList)) = true then 1 else 0
def orI (a b c : Int) : Int := if a ≠ 0 then a else if b ≠ 0 then b else c

theorem key_cases {v : V} (h : isK v = true) : (v.k = 1 ∧ v.s.toList = []) ∨ (v.k = 2 ∧ v.s.toList = []) ∨ (v.k = 3 ∧ v.n = 0) := by
  obtain ⟨k, n, s, a⟩ := v
  simp only [isK, Bool.and_eq_true, Bool.or_eq_true, beq_iff_eq] at h
  obtain ⟨hk, hv⟩ := h
  rcases hk with (rfl | rfl) | rfl
  · simp [isV] at hv; exact Or.inl ⟨rfl, hv.2.1⟩
  · simp [isV] at hv; exact Or.inr (Or.inl ⟨rfl, hv.1⟩)
  · simp [isV] at hv; exact Or.inr (Or.inr ⟨rfl, hv.1⟩)

theorem ko_eq {a b : V} (ha : isK a = true) (hb : isK b = true) : orI (cmpI a.k b.k) (cmpI a.n b.n) (cmpS a.s b.s) = ko a b := by
  unfold ko
  rw [ha, hb, if_pos (by rfl : (true && true) = true)]
  by_cases hk : a.k = b.k
  · have h0 : cmpI a.k b.k = 0 := by unfold cmpI; rw [if_neg (by omega), if_neg (by omega)]
    have hk' : b.k = a.k := hk.symm
    unfold orI less
    rw [h0, if_neg (by simp), if_pos hk, if_pos hk']
    by_cases h3 : a.k = 3
    · have h3' : b.k = 3 := by omega
      rw [if_pos h3, if_pos h3']
      have na : a.n = 0 := by rcases key_cases ha with h | h | h <;> first | exact h.2 | omega
      have nb : b.n = 0 := by rcases key_cases hb with h | h | h <;> first | exact h.2 | omega
      have h1 : cmpI a.n b.n = 0 := by unfold cmpI; rw [if_neg (by omega), if_neg (by omega)]
      rw [h1, if_neg (by simp)]
      unfold cmpS
      rw [bl_total]
    · have h3' : ¬ b.k = 3 := by omega
      rw [if_neg h3, if_neg h3']
      have sa : a.s.toList = [] := by rcases key_cases ha with h | h | h <;> first | exact h.2 | omega
      have sb : b.s.toList = [] := by rcases key_cases hb with h | h | h <;> first | exact h.2 | omega
      have h1 : cmpS a.s b.s = 0 := by unfold cmpS; rw [sa, sb]; simp [Op.bytesLess]
      rw [h1]
      unfold cmpI
      by_cases l1 : a.n < b.n
      · simp [l1]
      · by_cases l2 : b.n < a.n
        · simp [l1, l2]
        · simp [l1, l2]
  · have hk' : ¬ b.k = a.k := fun e => hk e.symm
    unfold orI less cmpI
    rw [if_neg hk, if_neg hk']
    by_cases l1 : a.k < b.k
    · simp [l1]
    · have l2 : b.k < a.k := by omega
      simp [l1, l2]

end Go.Proofs.Ytagalpfmpdeifab.Vl

/-
  The plain mathematics of MostAsked: two loops over numbers. No Go in sight.
-/
namespace Go.Proofs.Ytagalpfmpdeifab.Mm

/-- One size, k steps at most: from the place f on, the count a so far. -/
def innerF (n s : Nat) : Nat → Nat → Nat → Nat
  | 0, _, a => a
  | k + 1, f, a => if f + s < n ∧ 0 < s then innerF n s k (f + 2 * s) (a + (min (f + 2 * s) n - f - 1)) else a
/-- One size. -/
def inner (n s f a : Nat) : Nat := innerF n s (n - f) f a
theorem innerF_more (n s : Nat) : ∀ (k f a : Nat), n - f ≤ k → innerF n s (k + 1) f a = innerF n s k f a := by
  intro k
  induction k with
  | zero => intro f a h; show (if f + s < n ∧ 0 < s then _ else a) = a; rw [if_neg (by omega)]
  | succ k ih =>
    intro f a h
    show (if f + s < n ∧ 0 < s then innerF n s (k + 1) (f + 2 * s) _ else a) = (if f + s < n ∧ 0 < s then innerF n s k (f + 2 * s) _ else a)
    by_cases hc : f + s < n ∧ 0 < s
    · rw [if_pos hc, if_pos hc, ih _ _ (by omega)]
    · rw [if_neg hc, if_neg hc]
theorem innerF_any (n s f a d : Nat) : innerF n s (n - f + d) f a = inner n s f a := by
  induction d with
  | zero => rfl
  | succ d ih => rw [← ih]; exact innerF_more n s (n - f + d) f a (by omega)
theorem inner_eq (n s f a : Nat) : inner n s f a = if f + s < n ∧ 0 < s then inner n s (f + 2 * s) (a + (min (f + 2 * s) n - f - 1)) else a := by
  by_cases hc : f + s < n ∧ 0 < s
  · rw [if_pos hc]
    have e : n - f = (n - f - 1) + 1 := by omega
    have e2 : n - f - 1 = n - (f + 2 * s) + (n - f - 1 - (n - (f + 2 * s))) := by omega
    show innerF n s (n - f) f a = _
    rw [e]
    show (if f + s < n ∧ 0 < s then innerF n s (n - f - 1) (f + 2 * s) _ else a) = _
    rw [if_pos hc, e2, innerF_any]
  · rw [if_neg hc, ← innerF_any n s f a 1]
    show (if f + s < n ∧ 0 < s then _ else a) = a
    rw [if_neg hc]

/-- All sizes, k at most, from s on. -/
def outerF (n : Nat) : Nat → Nat → Nat → Nat
  | 0, _, a => a
  | k + 1, s, a => if s < n ∧ 0 < s then outerF n k (2 * s) (inner n s 0 a) else a
/-- All sizes. -/
def outer (n s a : Nat) : Nat := outerF n (n - s) s a
theorem outerF_more (n : Nat) : ∀ (k s a : Nat), n - s ≤ k → outerF n (k + 1) s a = outerF n k s a := by
  intro k
  induction k with
  | zero => intro s a h; show (if s < n ∧ 0 < s then _ else a) = a; rw [if_neg (by omega)]
  | succ k ih =>
    intro s a h
    show (if s < n ∧ 0 < s then outerF n (k + 1) (2 * s) _ else a) = (if s < n ∧ 0 < s then outerF n k (2 * s) _ else a)
    by_cases hc : s < n ∧ 0 < s
    · rw [if_pos hc, if_pos hc, ih _ _ (by omega)]
    · rw [if_neg hc, if_neg hc]
theorem outerF_any (n s a d : Nat) : outerF n (n - s + d) s a = outer n s a := by
  induction d with
  | zero => rfl
  | succ d ih => rw [← ih]; exact outerF_more n (n - s + d) s a (by omega)
theorem outer_eq (n s a : Nat) : outer n s a = if s < n ∧ 0 < s then outer n (2 * s) (inner n s 0 a) else a := by
  by_cases hc : s < n ∧ 0 < s
  · rw [if_pos hc]
    have e : n - s = (n - s - 1) + 1 := by omega
    have e2 : n - s - 1 = n - 2 * s + (n - s - 1 - (n - 2 * s)) := by omega
    show outerF n (n - s) s a = _
    rw [e]
    show (if s < n ∧ 0 < s then outerF n (n - s - 1) (2 * s) _ else a) = _
    rw [if_pos hc, e2, outerF_any]
  · rw [if_neg hc, ← outerF_any n s a 1]
    show (if s < n ∧ 0 < s then _ else a) = a
    rw [if_neg hc]

theorem inner_yes {n s f a : Nat} (h : f + s < n) (h0 : 0 < s) : inner n s f a = inner n s (f + 2 * s) (a + (min (f + 2 * s) n - f - 1)) := by
  rw [inner_eq, if_pos ⟨h, h0⟩]
theorem inner_no {n s f a : Nat} (h : ¬ f + s < n) : inner n s f a = a := by
  rw [inner_eq, if_neg (by omega)]
theorem outer_yes {n s a : Nat} (h : s < n) (h0 : 0 < s) : outer n s a = outer n (2 * s) (inner n s 0 a) := by
  rw [outer_eq, if_pos ⟨h, h0⟩]
theorem outer_no {n s a : Nat} (h : ¬ s < n) : outer n s a = a := by
  rw [outer_eq, if_neg (by omega)]

end Go.Proofs.Ytagalpfmpdeifab.Mm

namespace Go.Proofs.Ytagalpfmpdeifab
open Go.RowKit

theorem grw {a b c : World} (h : Below a.heap.size a b) (k : Below b.heap.size b c) : Below a.heap.size a c := h.trans (k.mono h.size)

/-- What a value of an interface says of itself: nothing. -/
theorem asNil_any (w : World) :
    Calls Try.prog 152 #[.agg #[]] w fun e w' => e = .returned (.agg #[.int .i64 0, .int .i64 0, .string ⟨#[]⟩, .int .i64 0]) ∧ Below w.heap.size w w' := by
  go_enter Try.func152, Try.ntmps152
  go_wp2
  refine bodyPost_ret (v := .agg #[.int .i64 0, .int .i64 0, .string ⟨#[]⟩, .int .i64 0]) (by simp [results, Try.results152, go_sem]) rfl ⟨rfl, ?_⟩
  exact ((Below.refl _ _).alloc (Nat.le_refl _) _).alloc (by simp) _

theorem asBool_any (b : Bool) (w : World) :
    Calls Try.prog 149 #[.agg #[.bool b]] w fun e w' => e = .returned (.agg #[.int .i64 1, .int .i64 (if b then 1 else 0), .string ⟨#[]⟩, .int .i64 0]) ∧ Below w.heap.size w w' := by
  cases b
  all_goals
    go_enter Try.func149, Try.ntmps149
    go_wp2
  · refine bodyPost_ret (v := .agg #[.int .i64 1, .int .i64 0, .string ⟨#[]⟩, .int .i64 0]) (by simp [results, Try.results149, go_sem]) rfl ⟨rfl, ?_⟩
    exact ((Below.refl _ _).alloc (Nat.le_refl _) _).alloc (by simp) _
  · refine bodyPost_ret (v := .agg #[.int .i64 1, .int .i64 1, .string ⟨#[]⟩, .int .i64 0]) (by simp [results, Try.results149, go_sem]) rfl ⟨rfl, ?_⟩
    exact ((Below.refl _ _).alloc (Nat.le_refl _) _).alloc (by simp) _

theorem asInt_any (n : Int) (w : World) :
    Calls Try.prog 150 #[.agg #[.int .i64 n]] w fun e w' => e = .returned (.agg #[.int .i64 2, .int .i64 n, .string ⟨#[]⟩, .int .i64 0]) ∧ Below w.heap.size w w' := by
  go_enter Try.func150, Try.ntmps150
  go_wp2
  refine bodyPost_ret (v := .agg #[.int .i64 2, .int .i64 n, .string ⟨#[]⟩, .int .i64 0]) (by simp [results, Try.results150, go_sem]) rfl ⟨rfl, ?_⟩
  exact ((Below.refl _ _).alloc (Nat.le_refl _) _).alloc (by simp) _

theorem asText_any (s : ByteArray) (w : World) :
    Calls Try.prog 151 #[.agg #[.string s]] w fun e w' => e = .returned (.agg #[.int .i64 3, .int .i64 0, .string s, .int .i64 0]) ∧ Below w.heap.size w w' := by
  go_enter Try.func151, Try.ntmps151
  go_wp2
  refine bodyPost_ret (v := .agg #[.int .i64 3, .int .i64 0, .string s, .int .i64 0]) (by simp [results, Try.results151, go_sem]) rfl ⟨rfl, ?_⟩
  exact ((Below.refl _ _).alloc (Nat.le_refl _) _).alloc (by simp) _

theorem asTab_any (b : Nat) (i : Int) (w : World) (h : w.cell? ⟨b, 0, none⟩ = some (.int .i64 i)) :
    Calls Try.prog 148 #[.pointer (some ⟨b, 0, none⟩)] w fun e w' => e = .returned (.agg #[.int .i64 4, .int .i64 0, .string ⟨#[]⟩, .int .i64 i]) ∧ Below w.heap.size w w' := by
  have hlt : b < w.heap.size := World.block_lt_of_cell? _ _ h
  go_enter Try.func148, Try.ntmps148
  go_wp2
  refine bodyPost_ret (v := .agg #[.int .i64 4, .int .i64 0, .string ⟨#[]⟩, .int .i64 i]) (by simp [results, Try.results148, go_sem]) rfl ⟨rfl, ?_⟩
  exact (Below.refl _ _).alloc (Nat.le_refl _) _

end Go.Proofs.Ytagalpfmpdeifab

namespace Go.Proofs.Ytagalpfmpdeifab
open Go.RowKit Vl

/-- Tables that stand in a row: number i lies at T i and says so. -/
structure Tabs (w : World) (ta : Option Addr) (tb n : Nat) (T : Nat → Nat) : Prop where
  top : 0 < n → ta = some ⟨tb, 0, none⟩
  ptr : ∀ i, i < n → w.cell? ⟨tb, i, none⟩ = some (.pointer (some ⟨T i, 0, none⟩))
  at_ : ∀ i, i < n → w.cell? ⟨T i, 0, none⟩ = some (.int .i64 i)

theorem Tabs.below {w w' : World} {ta : Option Addr} {tb n : Nat} {T : Nat → Nat} (h : Tabs w ta tb n T) (hb : Below w.heap.size w w') : Tabs w' ta tb n T :=
  ⟨h.top, fun i hi => (hb.cell (p := ⟨tb, i, none⟩) (World.block_lt_of_cell? _ _ (h.ptr i hi))).trans (h.ptr i hi),
   fun i hi => (hb.cell (p := ⟨T i, 0, none⟩) (World.block_lt_of_cell? _ _ (h.at_ i hi))).trans (h.at_ i hi)⟩

theorem Tabs.nil (w : World) : Tabs w none 0 0 (fun _ => 0) := ⟨fun h => by omega, fun i h => by omega, fun i h => by omega⟩

/-- A value as it is held. -/
def ifv (T : Nat → Nat) (v : V) : Value :=
  if v.k = 0 then .iface 152 (.agg #[])
  else if v.k = 1 then .iface 132 (.agg #[.bool (v.n == 1)])
  else if v.k = 2 then .iface 134 (.agg #[.int .i64 v.n])
  else if v.k = 3 then .iface 136 (.agg #[.string v.s])
  else .iface 92 (.pointer (some ⟨T v.a.toNat, 0, none⟩))

theorem nf_0 (n : Int) (s : ByteArray) (a : Int) (ta : Option Addr) (m cp : Nat) (w : World) :
    Calls Try.prog 102 #[.agg #[.int .i64 0, .int .i64 n, .string s, .int .i64 a], .slice ta m cp] w fun e w' => e = .returned (.tuple #[.iface 152 (.agg #[]), .bool true]) ∧ Below w.heap.size w w' := by
  go_enter Try.func102, Try.ntmps102
  go_wp2
  go_ret2
  exact ⟨rfl, (Below.refl _ _).alloc (Nat.le_refl _) _⟩

theorem nf_1 (n : Int) (s : ByteArray) (a : Int) (ta : Option Addr) (m cp : Nat) (w : World) :
    Calls Try.prog 102 #[.agg #[.int .i64 1, .int .i64 n, .string s, .int .i64 a], .slice ta m cp] w fun e w' => e = .returned (.tuple #[.iface 132 (.agg #[.bool (n == 1)]), .bool true]) ∧ Below w.heap.size w w' := by
  go_enter Try.func102, Try.ntmps102
  go_wp2
  go_ret2
  exact ⟨rfl, (Below.refl _ _).alloc (Nat.le_refl _) _⟩

theorem nf_2 (n : Int) (s : ByteArray) (a : Int) (ta : Option Addr) (m cp : Nat) (w : World) :
    Calls Try.prog 102 #[.agg #[.int .i64 2, .int .i64 n, .string s, .int .i64 a], .slice ta m cp] w fun e w' => e = .returned (.tuple #[.iface 134 (.agg #[.int .i64 n]), .bool true]) ∧ Below w.heap.size w w' := by
  go_enter Try.func102, Try.ntmps102
  go_wp2
  go_ret2
  exact ⟨rfl, (Below.refl _ _).alloc (Nat.le_refl _) _⟩

theorem nf_3 (n : Int) (s : ByteArray) (a : Int) (ta : Option Addr) (m cp : Nat) (w : World) :
    Calls Try.prog 102 #[.agg #[.int .i64 3, .int .i64 n, .string s, .int .i64 a], .slice ta m cp] w fun e w' => e = .returned (.tuple #[.iface 136 (.agg #[.string s]), .bool (decide ((s.size : Int) ≤ 500))]) ∧ Below w.heap.size w w' := by
  go_enter Try.func102, Try.ntmps102
  go_wp2
  go_quiet (fail)
  go_wp2
  go_ret2
  exact ⟨rfl, below_drewN ((Below.refl _ _).alloc (Nat.le_refl _) _) nq⟩

theorem nf_4 (n : Int) (s : ByteArray) (a : Int) (ta : Option Addr) (tb m cp : Nat) (T : Nat → Nat) (w : World) (h0 : 0 ≤ a) (h1 : a < m) (H : Hid (Tabs w ta tb m T)) :
    Calls Try.prog 102 #[.agg #[.int .i64 4, .int .i64 n, .string s, .int .i64 a], .slice ta m cp] w fun e w' => e = .returned (.tuple #[.iface 92 (.pointer (some ⟨T a.toNat, 0, none⟩)), .bool true]) ∧ Below w.heap.size w w' := by
  obtain ⟨j, rfl⟩ : ∃ j : Nat, a = j := ⟨a.toNat, by omega⟩
  obtain rfl := H.out.top (by omega)
  have hp := H.out.ptr j (by omega)
  have hlt : tb < w.heap.size := World.block_lt_of_cell? _ _ hp
  go_enter Try.func102, Try.ntmps102
  go_wp2
  go_ret2
  exact ⟨rfl, (Below.refl _ _).alloc (Nat.le_refl _) _⟩

theorem nf_4no (n : Int) (s : ByteArray) (a : Int) (ta : Option Addr) (m cp : Nat) (w : World) (h : ¬ (0 ≤ a ∧ a < m)) :
    Calls Try.prog 102 #[.agg #[.int .i64 4, .int .i64 n, .string s, .int .i64 a], .slice ta m cp] w fun e w' => e = .returned (.tuple #[.nilIface, .bool false]) ∧ Below w.heap.size w w' := by
  by_cases h0 : 0 ≤ a
  · have h1 : ¬ a < m := fun h1 => h ⟨h0, h1⟩
    go_enter Try.func102, Try.ntmps102
    go_wp2
    go_ret2
    exact ⟨rfl, (Below.refl _ _).alloc (Nat.le_refl _) _⟩
  · go_enter Try.func102, Try.ntmps102
    go_wp2
    go_ret2
    exact ⟨rfl, (Below.refl _ _).alloc (Nat.le_refl _) _⟩

theorem nf_no (k n : Int) (s : ByteArray) (a : Int) (ta : Option Addr) (m cp : Nat) (w : World) (h0 : (k == 0) = false) (h1 : (k == 1) = false) (h2 : (k == 2) = false) (h3 : (k == 3) = false) (h4 : (k == 4) = false) :
    Calls Try.prog 102 #[.agg #[.int .i64 k, .int .i64 n, .string s, .int .i64 a], .slice ta m cp] w fun e w' => e = .returned (.tuple #[.nilIface, .bool false]) ∧ Below w.heap.size w w' := by
  go_enter Try.func102, Try.ntmps102
  go_wp2
  go_ret2
  exact ⟨rfl, (Below.refl _ _).alloc (Nat.le_refl _) _⟩

end Go.Proofs.Ytagalpfmpdeifab

namespace Go.Proofs.Ytagalpfmpdeifab
open Go.RowKit Vl

/-- The four cells of a value. -/
def ValAt (w : World) (b o : Nat) (k n : Int) (s : ByteArray) (a : Int) : Prop :=
  w.cell? ⟨b, o, none⟩ = some (.int .i64 k) ∧ w.cell? ⟨b, o + 1, none⟩ = some (.int .i64 n) ∧ w.cell? ⟨b, o + 2, none⟩ = some (.string s) ∧ w.cell? ⟨b, o + 3, none⟩ = some (.int .i64 a)

theorem ValAt.below {w w' : World} {b o : Nat} {k n : Int} {s : ByteArray} {a : Int} (h : ValAt w b o k n s a) (hb : Below w.heap.size w w') : ValAt w' b o k n s a := by
  have hlt : b < w.heap.size := World.block_lt_of_cell? _ _ h.1
  exact ⟨(hb.cell hlt).trans h.1, (hb.cell hlt).trans h.2.1, (hb.cell hlt).trans h.2.2.1, (hb.cell hlt).trans h.2.2.2⟩

theorem ValAt.new (w : World) (k n : Int) (s : ByteArray) (a : Int) : ValAt (w.alloc (Obj.cells #[.int .i64 k, .int .i64 n, .string s, .int .i64 a] 29)) w.heap.size 0 k n s a := by
  refine ⟨?_, ?_, ?_, ?_⟩ <;> simp [World.cell?_alloc_new]

theorem neq_val (k n : Int) (s : ByteArray) (a : Int) (k' n' : Int) (s' : ByteArray) (a' : Int) (w : World) :
    (binOp .neq 29 (.agg #[.int .i64 k', .int .i64 n', .string s', .int .i64 a']) (.agg #[.int .i64 k, .int .i64 n, .string s, .int .i64 a])).run Try.prog w = .ok (.bool (!(k' == k && (n' == n && (s'.toList == s.toList && a' == a))))) w := by
  go_simp
  by_cases h1 : k' = k <;> by_cases h2 : n' = n <;> by_cases h3 : s'.toList = s.toList <;> by_cases h4 : a' = a <;> simp [h1, h2, h3, h4]

set_option maxHeartbeats 1000000 in
set_option maxRecDepth 100000 in
theorem of_yes (k n : Int) (s : ByteArray) (a : Int) (k' n' : Int) (s' : ByteArray) (a' : Int) (t : TypeId) (x : Value) (F : Nat) (ta : Option Addr) (m cp : Nat) (w : World)
    (hnf : ∀ w0, Below w.heap.size w w0 → Calls Try.prog 102 #[.agg #[.int .i64 k, .int .i64 n, .string s, .int .i64 a], .slice ta m cp] w0 fun e w' => e = .returned (.tuple #[.iface t x, .bool true]) ∧ Below w0.heap.size w0 w')
    (hm : ∀ w f, (method (f + 3) t x "loop.example/cloth/impl.asVal").run Try.prog w = .ok (F, x) w)
    (hf : ∀ args w, (callFunc F args).run Try.prog w = .ok (.enter F args) w)
    (hcall : ∀ w0, Below w.heap.size w w0 → Calls Try.prog F #[x] w0 fun e w' => e = .returned (.agg #[.int .i64 k', .int .i64 n', .string s', .int .i64 a']) ∧ Below w0.heap.size w0 w')
    (b : Bool) (hb : (k' == k && (n' == n && (s'.toList == s.toList && a' == a))) = b) :
    Calls Try.prog 78 #[.agg #[.int .i64 k, .int .i64 n, .string s, .int .i64 a], .slice ta m cp] w fun e w' => e = .returned (.tuple #[if b then .iface t x else .nilIface, .bool b]) ∧ Below w.heap.size w w' := by
  have hne := neq_val k n s a k' n' s' a'
  rw [hb] at hne
  have hb0 : Below w.heap.size w (w.alloc (Obj.cells #[.int .i64 k, .int .i64 n, .string s, .int .i64 a] 29)) := (Below.refl _ _).alloc (Nat.le_refl _) _
  go_enter Try.func78, Try.ntmps78
  go_wp2_with fail
  refine (hnf _ hb0).mono ?_
  rintro e w1 ⟨rfl, hb1⟩
  have hv := (ValAt.new w k n s a).below hb1
  have hB1 : Hid (Below w.heap.size w w1) := grw hb0 hb1
  have c0 := hv.1; have c1 := hv.2.1; have c2 := hv.2.2.1; have c3 := hv.2.2.2
  simp only [Nat.zero_add] at c1 c2 c3
  clear hnf hb0
  go_wp2
  go_region_held3 (fun w' => w'.cell? ⟨w.heap.size, 0, none⟩ = some (.int .i64 k) ∧ w'.cell? ⟨w.heap.size, 1, none⟩ = some (.int .i64 n) ∧ w'.cell? ⟨w.heap.size, 2, none⟩ = some (.string s) ∧ w'.cell? ⟨w.heap.size, 3, none⟩ = some (.int .i64 a)) 
    (first | exact ⟨c0, c1, c2, c3⟩ | exact (ValAt.below (w := w1.drew) ⟨c0, c1, c2, c3⟩ hb2))
    ((refine (hcall _ hB1.out.drew).mono ?_; rintro e w2 ⟨rfl, hb2⟩))
  clear hne hb hm hcall hf
  have hB2 : Hid (Below w.heap.size w w2) := grw hB1.out.drew hb2
  cases b
  · go_wp2
    go_ret2
    exact ⟨rfl, hB2.out⟩
  · go_wp2
    go_ret2
    exact ⟨rfl, hB2.out⟩

theorem of_no (k n : Int) (s : ByteArray) (a : Int) (x : Value) (ta : Option Addr) (m cp : Nat) (w : World)
    (hnf : ∀ w0, Below w.heap.size w w0 → Calls Try.prog 102 #[.agg #[.int .i64 k, .int .i64 n, .string s, .int .i64 a], .slice ta m cp] w0 fun e w' => e = .returned (.tuple #[x, .bool false]) ∧ Below w0.heap.size w0 w') :
    Calls Try.prog 78 #[.agg #[.int .i64 k, .int .i64 n, .string s, .int .i64 a], .slice ta m cp] w fun e w' => e = .returned (.tuple #[.nilIface, .bool false]) ∧ Below w.heap.size w w' := by
  have hb0 : Below w.heap.size w (w.alloc (Obj.cells #[.int .i64 k, .int .i64 n, .string s, .int .i64 a] 29)) := (Below.refl _ _).alloc (Nat.le_refl _) _
  go_enter Try.func78, Try.ntmps78
  go_wp2_with fail
  refine (hnf _ hb0).mono ?_
  rintro e w1 ⟨rfl, hb1⟩
  have hB1 : Hid (Below w.heap.size w w1) := grw hb0 hb1
  clear hnf hb0 hb1
  go_wp2
  go_quiet (fail)
  go_wp2
  go_ret2
  exact ⟨rfl, below_drewN hB1.out nq⟩

end Go.Proofs.Ytagalpfmpdeifab

namespace Go.Proofs.Ytagalpfmpdeifab
open Go.RowKit Vl

theorem meth_0 (w : World) (f : Nat) : (method (f + 3) 152 (.agg #[]) "loop.example/cloth/impl.asVal").run Try.prog w = .ok (152, .agg #[]) w := by kernel_rfl
theorem meth_1 (b : Bool) (w : World) (f : Nat) : (method (f + 3) 132 (.agg #[.bool b]) "loop.example/cloth/impl.asVal").run Try.prog w = .ok (149, .agg #[.bool b]) w := by kernel_rfl
theorem meth_2 (n : Int) (w : World) (f : Nat) : (method (f + 3) 134 (.agg #[.int .i64 n]) "loop.example/cloth/impl.asVal").run Try.prog w = .ok (150, .agg #[.int .i64 n]) w := by kernel_rfl
theorem meth_3 (s : ByteArray) (w : World) (f : Nat) : (method (f + 3) 136 (.agg #[.string s]) "loop.example/cloth/impl.asVal").run Try.prog w = .ok (151, .agg #[.string s]) w := by kernel_rfl
theorem meth_4 (b : Nat) (w : World) (f : Nat) : (method (f + 3) 92 (.pointer (some ⟨b, 0, none⟩)) "loop.example/cloth/impl.asVal").run Try.prog w = .ok (148, .pointer (some ⟨b, 0, none⟩)) w := by kernel_rfl

/-- 'valueOf'. -/
theorem of_any (v : V) (ta : Option Addr) (tb m cp : Nat) (T : Nat → Nat) (w : World) (H : Hid (Tabs w ta tb m T)) :
    Calls Try.prog 78 #[.agg #[.int .i64 v.k, .int .i64 v.n, .string v.s, .int .i64 v.a], .slice ta m cp] w fun e w' => e = .returned (.tuple #[if isV m v then ifv T v else .nilIface, .bool (isV m v)]) ∧ Below w.heap.size w w' := by
  obtain ⟨k, n, s, a⟩ := v
  simp only
  have eq0 : ∀ x : Int, ((0 : Int) == x) = (x == 0) := fun x => Bool.eq_iff_iff.2 (by simp only [beq_iff_eq]; exact eq_comm)
  have eqs : (([] : List UInt8) == s.toList) = (s.toList == []) := Bool.eq_iff_iff.2 (by simp only [beq_iff_eq]; exact eq_comm)
  have hes : (ByteArray.mk #[]).toList = [] := by rw [ByteArray.toList_eq]
  by_cases k0 : k = 0
  · subst k0
    refine (of_yes 0 n s a 0 0 ⟨#[]⟩ 0 _ _ _ ta m cp w (fun w0 _ => nf_0 n s a ta m cp w0) meth_0 Try.call152 (fun w0 _ => asNil_any w0) (isV m ⟨0, n, s, a⟩) ?_).mono ?_
    · rw [hes, eq0 n, eq0 a, eqs]; rfl
    · rintro e w' ⟨rfl, h⟩
      exact ⟨rfl, h⟩
  by_cases k1 : k = 1
  · subst k1
    refine (of_yes 1 n s a 1 (if (n == 1) then 1 else 0) ⟨#[]⟩ 0 _ _ _ ta m cp w (fun w0 _ => nf_1 n s a ta m cp w0) (meth_1 _) Try.call149 (fun w0 _ => asBool_any _ w0) (isV m ⟨1, n, s, a⟩) ?_).mono ?_
    · rw [hes, eq0 a, eqs]
      show (true && (((if (n == 1) = true then (1 : Int) else 0) == n) && _)) = ((n == 0 || n == 1) && _)
      by_cases h1 : n = 1
      · subst h1; rfl
      · have : (n == 1) = false := by simpa using h1
        rw [this, if_neg (by simp), eq0 n, Bool.or_false, Bool.true_and]
    · rintro e w' ⟨rfl, h⟩
      exact ⟨rfl, h⟩
  by_cases k2 : k = 2
  · subst k2
    refine (of_yes 2 n s a 2 n ⟨#[]⟩ 0 _ _ _ ta m cp w (fun w0 _ => nf_2 n s a ta m cp w0) (meth_2 _) Try.call150 (fun w0 _ => asInt_any _ w0) (isV m ⟨2, n, s, a⟩) ?_).mono ?_
    · rw [hes, eq0 a, eqs, beq_self_eq_true n]; rfl
    · rintro e w' ⟨rfl, h⟩
      exact ⟨rfl, h⟩
  by_cases k3 : k = 3
  · subst k3
    by_cases hs : (s.size : Int) ≤ 500
    · have hd : decide ((s.size : Int) ≤ 500) = true := by simpa using hs
      refine (of_yes 3 n s a 3 0 s 0 _ _ _ ta m cp w (fun w0 _ => hd ▸ nf_3 n s a ta m cp w0) (meth_3 _) Try.call151 (fun w0 _ => asText_any _ w0) (isV m ⟨3, n, s, a⟩) ?_).mono ?_
      · rw [eq0 a, eq0 n, beq_self_eq_true s.toList]
        have hd' : decide (s.size ≤ 500) = true := by simpa using (by omega : s.size ≤ 500)
        show (true && (n == 0 && (true && a == 0))) = (n == 0 && (a == 0 && decide (s.size ≤ 500)))
        rw [hd', Bool.and_true, Bool.true_and, Bool.true_and]
      · rintro e w' ⟨rfl, h⟩
        exact ⟨rfl, h⟩
    · have hd : decide ((s.size : Int) ≤ 500) = false := by simpa using hs
      have hno : isV m ⟨3, n, s, a⟩ = false := by
        have hd' : decide (s.size ≤ 500) = false := by simpa using (by omega : ¬ s.size ≤ 500)
        show (n == 0 && (a == 0 && decide (s.size ≤ 500))) = false
        rw [hd', Bool.and_false, Bool.and_false]
      rw [hno]
      exact of_no 3 n s a _ ta m cp w (fun w0 _ => hd ▸ nf_3 n s a ta m cp w0)
  by_cases k4 : k = 4
  · subst k4
    by_cases ha : 0 ≤ a ∧ a < m
    · refine (of_yes 4 n s a 4 0 ⟨#[]⟩ a _ _ _ ta m cp w (fun w0 hb => nf_4 n s a ta tb m cp T w0 ha.1 ha.2 (H.out.below hb)) (meth_4 _) Try.call148 (fun w0 hb => asTab_any _ a w0 ?_) (isV m ⟨4, n, s, a⟩) ?_).mono ?_
      · have := (H.out.below hb).at_ a.toNat (by omega)
        rw [this]; congr 2; omega
      · rw [hes, eq0 n, eqs, beq_self_eq_true a]
        have h1 : decide (0 ≤ a) = true := by simpa using ha.1
        have h2 : decide (a < m) = true := by simpa using ha.2
        show (true && (n == 0 && (s.toList == [] && true))) = (n == 0 && (s.toList == [] && (decide (0 ≤ a) && decide (a < m))))
        rw [h1, h2]; rfl
      · rintro e w' ⟨rfl, h⟩
        exact ⟨rfl, h⟩
    · have hno : isV m ⟨4, n, s, a⟩ = false := by
        have hd : (decide (0 ≤ a) && decide (a < m)) = false := by
          rw [← Bool.decide_and]; simpa using ha
        show (n == 0 && (s.toList == [] && (decide (0 ≤ a) && decide (a < m)))) = false
        rw [hd, Bool.and_false, Bool.and_false]
      rw [hno]
      exact of_no 4 n s a _ ta m cp w (fun w0 _ => nf_4no n s a ta m cp w0 ha)
  · have hno : isV m ⟨k, n, s, a⟩ = false := by simp [isV, k0, k1, k2, k3, k4]
    rw [hno]
    exact of_no k n s a _ ta m cp w (fun w0 _ => nf_no k n s a ta m cp w0 (by simpa using k0) (by simpa using k1) (by simpa using k2) (by simpa using k3) (by simpa using k4))

theorem isKey_of (k n : Int) (s : ByteArray) (a : Int) (w : World) (x : Value) (t : TypeId) (b b1 b2 b3 : Bool) (y1 y2 y3 : Value) (hb : (b1 || (b2 || b3)) = b)
    (h1 : ∀ w, (Instr.typeAssert (.iface t x) 67 132 true).run Try.prog w = .ok (.tuple #[y1, .bool b1]) w)
    (h2 : ∀ w, (Instr.typeAssert (.iface t x) 67 134 true).run Try.prog w = .ok (.tuple #[y2, .bool b2]) w)
    (h3 : ∀ w, (Instr.typeAssert (.iface t x) 67 136 true).run Try.prog w = .ok (.tuple #[y3, .bool b3]) w)
    (hof : ∀ w, Calls Try.prog 78 #[.agg #[.int .i64 k, .int .i64 n, .string s, .int .i64 a], .slice none 0 0] w fun e w' => e = .returned (.tuple #[.iface t x, .bool true]) ∧ Below w.heap.size w w') :
    Calls Try.prog 50 #[.agg #[.int .i64 k, .int .i64 n, .string s, .int .i64 a]] w fun e w' => e = .returned (.bool b) ∧ Below w.heap.size w w' := by
  have hb0 : Hid (Below w.heap.size w (w.alloc (Obj.cells #[.int .i64 k, .int .i64 n, .string s, .int .i64 a] 29))) := (Below.refl _ _).alloc (Nat.le_refl _) _
  subst hb
  go_enter Try.func50, Try.ntmps50
  go_wp2_with fail
  refine (hof _).mono ?_
  rintro e w1 ⟨rfl, hb1⟩
  have HB : Hid (Below w.heap.size w w1) := grw hb0.out hb1
  clear hb1 hof hb0
  cases b1 <;> cases b2 <;> cases b3
  all_goals
    go_wp2
    go_ret
    exact ⟨rfl, HB.out⟩

/-- 'isKey'. -/
theorem isKey_any (v : V) (w : World) :
    Calls Try.prog 50 #[.agg #[.int .i64 v.k, .int .i64 v.n, .string v.s, .int .i64 v.a]] w fun e w' => e = .returned (.bool (isK v)) ∧ Below w.heap.size w w' := by
  obtain ⟨k, n, s, a⟩ := v
  simp only
  have hof := fun w => of_any ⟨k, n, s, a⟩ none 0 0 0 (fun _ => 0) w (Tabs.nil _)
  obtain ⟨b, hbv⟩ : ∃ b, isV 0 ⟨k, n, s, a⟩ = b := ⟨_, rfl⟩
  simp only [hbv] at hof
  cases b
  · have hno : isK ⟨k, n, s, a⟩ = false := by simp [isK, hbv]
    rw [hno]
    clear hbv hno
    have hb0 : Hid (Below w.heap.size w (w.alloc (Obj.cells #[.int .i64 k, .int .i64 n, .string s, .int .i64 a] 29))) := (Below.refl _ _).alloc (Nat.le_refl _) _
    go_enter Try.func50, Try.ntmps50
    go_wp2_with fail
    refine (hof _).mono ?_
    rintro e w1 ⟨rfl, hb1⟩
    go_wp2
    go_ret
    exact ⟨rfl, grw hb0.out hb1⟩
  · have hk : isK ⟨k, n, s, a⟩ = (k == 1 || k == 2 || k == 3) := by simp [isK, hbv]
    rw [hk]
    by_cases k0 : k = 0
    · subst k0
      exact isKey_of 0 n s a w _ _ _ false false false (.agg #[.bool false]) (.agg #[.int .i64 0]) (.agg #[.string ⟨#[]⟩]) rfl (fun _ => by kernel_rfl) (fun _ => by kernel_rfl) (fun _ => by kernel_rfl) hof
    by_cases k1 : k = 1
    · subst k1
      exact isKey_of 1 n s a w _ _ _ true false false (.agg #[.bool (n == 1)]) (.agg #[.int .i64 0]) (.agg #[.string ⟨#[]⟩]) rfl (fun _ => by kernel_rfl) (fun _ => by kernel_rfl) (fun _ => by kernel_rfl) hof
    by_cases k2 : k = 2
    · subst k2
      exact isKey_of 2 n s a w _ _ _ false true false (.agg #[.bool false]) (.agg #[.int .i64 n]) (.agg #[.string ⟨#[]⟩]) rfl (fun _ => by kernel_rfl) (fun _ => by kernel_rfl) (fun _ => by kernel_rfl) hof
    by_cases k3 : k = 3
    · subst k3
      exact isKey_of 3 n s a w _ _ _ false false true (.agg #[.bool false]) (.agg #[.int .i64 0]) (.agg #[.string s]) rfl (fun _ => by kernel_rfl) (fun _ => by kernel_rfl) (fun _ => by kernel_rfl) hof
    · exfalso
      by_cases k4 : k = 4
      · subst k4
        have : (n == 0 && (s.toList == [] && (decide (0 ≤ a) && decide (a < ((0 : Nat) : Int))))) = true := hbv
        simp at this
        omega
      · simp [isV, k0, k1, k2, k3, k4] at hbv

end Go.Proofs.Ytagalpfmpdeifab

namespace Go.Proofs.Ytagalpfmpdeifab
open Go.RowKit Vl

set_option maxHeartbeats 1000000 in
set_option maxRecDepth 100000 in
/-- 'l2val'. -/
theorem l2val_any (k0 n0 : Int) (s0 : ByteArray) (a0 : Int) (ta : Option Addr) (m cp : Nat) (v : V) (w : World) :
    Calls Try.prog 44 #[.agg #[.int .i64 k0, .int .i64 n0, .string s0, .int .i64 a0, .slice ta m cp], .agg #[.int .i64 v.k, .int .i64 v.n, .string v.s, .int .i64 v.a]] w fun e w' => e = .returned (.bool (isV m v)) ∧ Below w.heap.size w w' := by
  obtain ⟨k, n, s, a⟩ := v
  simp only
  have hes : (ByteArray.mk #[]).toList = [] := by rw [ByteArray.toList_eq]
  have hbel : Hid (Below w.heap.size w ((w.alloc (Obj.cells #[.int .i64 k0, .int .i64 n0, .string s0, .int .i64 a0, .slice ta m cp] 32)).alloc (Obj.cells #[.int .i64 k, .int .i64 n, .string s, .int .i64 a] 29))) := ((Below.refl _ _).alloc (Nat.le_refl _) _).alloc (by simp) _
  by_cases k0 : k = 0
  · subst k0
    obtain ⟨b1, h1⟩ : ∃ b, (n == 0) = b := ⟨_, rfl⟩
    obtain ⟨b2, h2⟩ : ∃ b, (s.toList == []) = b := ⟨_, rfl⟩
    obtain ⟨b3, h3⟩ : ∃ b, (a == 0) = b := ⟨_, rfl⟩
    have e : isV m ⟨0, n, s, a⟩ = (b1 && (b2 && b3)) := by rw [← h1, ← h2, ← h3]; rfl
    rw [e]
    clear e
    cases b1 <;> cases b2 <;> cases b3
    all_goals
      go_enter Try.func44, Try.ntmps44
      go_wp2
      go_ret
      exact ⟨rfl, hbel.out⟩
  by_cases k1 : k = 1
  · subst k1
    obtain ⟨b1, h1⟩ : ∃ b, (n == 0) = b := ⟨_, rfl⟩
    obtain ⟨b1', h1'⟩ : ∃ b, (n == 1) = b := ⟨_, rfl⟩
    obtain ⟨b2, h2⟩ : ∃ b, (s.toList == []) = b := ⟨_, rfl⟩
    obtain ⟨b3, h3⟩ : ∃ b, (a == 0) = b := ⟨_, rfl⟩
    have e : isV m ⟨1, n, s, a⟩ = ((b1 || b1') && (b2 && b3)) := by rw [← h1, ← h1', ← h2, ← h3]; rfl
    rw [e]
    clear e
    cases b1 <;> cases b1' <;> cases b2 <;> cases b3
    all_goals
      go_enter Try.func44, Try.ntmps44
      go_wp2
      go_ret
      exact ⟨rfl, hbel.out⟩
  by_cases k2 : k = 2
  · subst k2
    obtain ⟨b2, h2⟩ : ∃ b, (s.toList == []) = b := ⟨_, rfl⟩
    obtain ⟨b3, h3⟩ : ∃ b, (a == 0) = b := ⟨_, rfl⟩
    have e : isV m ⟨2, n, s, a⟩ = (b2 && b3) := by rw [← h2, ← h3]; rfl
    rw [e]
    clear e
    cases b2 <;> cases b3
    all_goals
      go_enter Try.func44, Try.ntmps44
      go_wp2
      go_ret
      exact ⟨rfl, hbel.out⟩
  by_cases k3 : k = 3
  · subst k3
    obtain ⟨b1, h1⟩ : ∃ b, (n == 0) = b := ⟨_, rfl⟩
    obtain ⟨b3, h3⟩ : ∃ b, (a == 0) = b := ⟨_, rfl⟩
    obtain ⟨b2, h2⟩ : ∃ b, decide ((s.size : Int) ≤ 500) = b := ⟨_, rfl⟩
    have e : isV m ⟨3, n, s, a⟩ = (b1 && (b3 && b2)) := by
      have : decide (s.size ≤ 500) = decide ((s.size : Int) ≤ 500) := by rw [decide_eq_decide]; omega
      rw [← h1, ← h2, ← h3, ← this]; rfl
    rw [e]
    clear e
    cases b1 <;> cases b2 <;> cases b3
    all_goals
      go_enter Try.func44, Try.ntmps44
      go_wp2
      go_ret
      exact ⟨rfl, hbel.out⟩
  by_cases k4 : k = 4
  · subst k4
    obtain ⟨b1, h1⟩ : ∃ b, (n == 0) = b := ⟨_, rfl⟩
    obtain ⟨b2, h2⟩ : ∃ b, (s.toList == []) = b := ⟨_, rfl⟩
    obtain ⟨b3, h3⟩ : ∃ b, decide (0 ≤ a) = b := ⟨_, rfl⟩
    obtain ⟨b4, h4⟩ : ∃ b, decide (a < (m : Int)) = b := ⟨_, rfl⟩
    have e : isV m ⟨4, n, s, a⟩ = (b1 && (b2 && (b3 && b4))) := by rw [← h1, ← h2, ← h3, ← h4]; rfl
    rw [e]
    clear e
    cases b1 <;> cases b2 <;> cases b3 <;> cases b4
    all_goals
      go_enter Try.func44, Try.ntmps44
      go_wp2
      go_ret
      exact ⟨rfl, hbel.out⟩
  · have hno : isV m ⟨k, n, s, a⟩ = false := by simp [isV, k0, k1, k2, k3, k4]
    rw [hno]
    have h0 : (k == 0) = false := by simpa using k0
    have h1 : (k == 1) = false := by simpa using k1
    have h2 : (k == 2) = false := by simpa using k2
    have h3 : (k == 3) = false := by simpa using k3
    have h4 : (k == 4) = false := by simpa using k4
    clear hno k0 k1 k2 k3 k4
    go_enter Try.func44, Try.ntmps44
    go_wp2
    go_ret
    exact ⟨rfl, hbel.out⟩

set_option maxHeartbeats 1000000 in
/-- 'l2key'. -/
theorem l2key_any (v : V) (w : World) :
    Calls Try.prog 45 #[.agg #[.int .i64 v.k, .int .i64 v.n, .string v.s, .int .i64 v.a]] w fun e w' => e = .returned (.bool (isK v)) ∧ Below w.heap.size w w' := by
  obtain ⟨k, n, s, a⟩ := v
  simp only
  have hof := fun w => l2val_any 0 0 ⟨#[]⟩ 0 none 0 0 ⟨k, n, s, a⟩ w
  have hb0 : Hid (Below w.heap.size w (w.alloc (Obj.cells #[.int .i64 k, .int .i64 n, .string s, .int .i64 a] 29))) := (Below.refl _ _).alloc (Nat.le_refl _) _
  obtain ⟨b1, h1⟩ : ∃ b, (k == 1) = b := ⟨_, rfl⟩
  obtain ⟨b2, h2⟩ : ∃ b, (k == 2) = b := ⟨_, rfl⟩
  obtain ⟨b3, h3⟩ : ∃ b, (k == 3) = b := ⟨_, rfl⟩
  have e : isK ⟨k, n, s, a⟩ = ((b1 || b2 || b3) && isV 0 ⟨k, n, s, a⟩) := by rw [← h1, ← h2, ← h3]; rfl
  rw [e]
  clear e
  by_cases hk : (b1 || b2 || b3) = true
  · rw [hk, Bool.true_and]
    cases b1 <;> cases b2 <;> cases b3
    all_goals first | (exfalso; revert hk; decide) | skip
    all_goals
      go_enter Try.func45, Try.ntmps45
      go_wp2_with fail
      refine (hof _).mono ?_
      rintro e w1 ⟨rfl, hb1⟩
      go_wp2
      go_ret
      exact ⟨rfl, grw hb0.out hb1⟩
  · have hk' : (b1 || b2 || b3) = false := by simpa using hk
    rw [hk', Bool.false_and]
    cases b1 <;> cases b2 <;> cases b3
    all_goals first | (exfalso; revert hk; decide) | skip
    go_enter Try.func45, Try.ntmps45
    go_wp2
    go_ret
    exact ⟨rfl, hb0.out⟩

end Go.Proofs.Ytagalpfmpdeifab

namespace Go.Proofs.Ytagalpfmpdeifab
open Go.RowKit Vl

theorem nanI_any (a : Int) (w : World) : Calls Try.prog 80 #[.int .i64 a] w fun e w' => e = .returned (.bool false) ∧ w' = w := by
  go_enter Try.func80, Try.ntmps80
  go_wp2
  go_ret
  exact ⟨by simp, rfl⟩
theorem nanL_any (a : Int) (w : World) : Calls Try.prog 81 #[.int .i64 a] w fun e w' => e = .returned (.bool false) ∧ w' = w := by
  go_enter Try.func81, Try.ntmps81
  go_wp2
  go_ret
  exact ⟨by simp, rfl⟩
theorem nanS_any (a : ByteArray) (w : World) : Calls Try.prog 82 #[.string a] w fun e w' => e = .returned (.bool false) ∧ w' = w := by
  go_enter Try.func82, Try.ntmps82
  go_wp2
  go_ret
  exact ⟨by simp, rfl⟩

theorem cmpI_any (a b : Int) (w : World) : Calls Try.prog 52 #[.int .i64 a, .int .i64 b] w fun e w' => e = .returned (.int .i64 (cmpI a b)) ∧ w' = w := by
  unfold cmpI
  by_cases h1 : a < b
  · rw [if_pos h1]
    go_enter Try.func52, Try.ntmps52
    go_wp2_with (go_at_call 80; refine (nanI_any _ _).mono ?_; rintro e w' ⟨rfl, rfl⟩)
    go_ret
    exact ⟨rfl, rfl⟩
  · rw [if_neg h1]
    by_cases h2 : b < a
    · rw [if_pos h2]
      go_enter Try.func52, Try.ntmps52
      go_wp2_with (go_at_call 80; refine (nanI_any _ _).mono ?_; rintro e w' ⟨rfl, rfl⟩)
      go_ret
      exact ⟨rfl, rfl⟩
    · rw [if_neg h2]
      go_enter Try.func52, Try.ntmps52
      go_wp2_with (go_at_call 80; refine (nanI_any _ _).mono ?_; rintro e w' ⟨rfl, rfl⟩)
      go_ret
      exact ⟨rfl, rfl⟩

theorem cmpL_any (a b : Int) (w : World) : Calls Try.prog 53 #[.int .i64 a, .int .i64 b] w fun e w' => e = .returned (.int .i64 (cmpI a b)) ∧ w' = w := by
  unfold cmpI
  by_cases h1 : a < b
  · rw [if_pos h1]
    go_enter Try.func53, Try.ntmps53
    go_wp2_with (go_at_call 81; refine (nanL_any _ _).mono ?_; rintro e w' ⟨rfl, rfl⟩)
    go_ret
    exact ⟨rfl, rfl⟩
  · rw [if_neg h1]
    by_cases h2 : b < a
    · rw [if_pos h2]
      go_enter Try.func53, Try.ntmps53
      go_wp2_with (go_at_call 81; refine (nanL_any _ _).mono ?_; rintro e w' ⟨rfl, rfl⟩)
      go_ret
      exact ⟨rfl, rfl⟩
    · rw [if_neg h2]
      go_enter Try.func53, Try.ntmps53
      go_wp2_with (go_at_call 81; refine (nanL_any _ _).mono ?_; rintro e w' ⟨rfl, rfl⟩)
      go_ret
      exact ⟨rfl, rfl⟩

theorem cmpS_any (a b : ByteArray) (w : World) : Calls Try.prog 54 #[.string a, .string b] w fun e w' => e = .returned (.int .i64 (cmpS a b)) ∧ w' = w := by
  unfold cmpS
  obtain ⟨b1, h1⟩ : ∃ x, Op.bytesLess a.toList b.toList = x := ⟨_, rfl⟩
  obtain ⟨b2, h2⟩ : ∃ x, (a.toList == b.toList) = x := ⟨_, rfl⟩
  rw [h2, h1]
  cases b1 <;> cases b2
  all_goals
    go_enter Try.func54, Try.ntmps54
    go_wp2_with (go_at_call 82; refine (nanS_any _ _).mono ?_; rintro e w' ⟨rfl, rfl⟩)
    go_ret
    exact ⟨rfl, rfl⟩

def or3 (a b c : Int) (j : Nat) : Int := if j = 0 then a else if j = 1 then b else c

theorem or_any (a b c : Int) (B : Nat) (w : World) (h0 : w.cell? ⟨B, 0, none⟩ = some (.int .i64 a)) (h1 : w.cell? ⟨B, 1, none⟩ = some (.int .i64 b)) (h2 : w.cell? ⟨B, 2, none⟩ = some (.int .i64 c)) :
    Calls Try.prog 51 #[.slice (some ⟨B, 0, none⟩) 3 3] w fun e w' => e = .returned (.int .i64 (orI a b c)) ∧ w' = w := by
  have H : Hid (∀ j, j < 3 → w.cell? ⟨B, j, none⟩ = some (.int .i64 (or3 a b c j))) := show ∀ j, j < 3 → _ from fun j hj => by
    rcases (by omega : j = 0 ∨ j = 1 ∨ j = 2) with rfl | rfl | rfl
    · exact h0
    · exact h1
    · exact h2
  obtain ⟨r, HR⟩ : ∃ r, Hid (orI a b c = r) := ⟨_, rfl⟩
  rw [HR.out]
  clear h0 h1 h2
  go_enter Try.func51, Try.ntmps51
  go_wp2
  go_loop [8] (fun i => ∃ k : Nat, k ≤ 3 ∧ i = .int .i64 k ∧ Hid (∀ j, j < k → or3 a b c j = 0)) (fun i => 3 - (intOf i).toNat)
  case atStart => exact ⟨0, by omega, rfl, fun j hj => absurd hj (Nat.not_lt_zero _)⟩
  case round =>
    obtain ⟨k, hk, rfl, HZ⟩ := hrel
    by_cases hlt : k < 3
    · have hc := H.out k hlt
      obtain ⟨x, HX⟩ : ∃ x, Hid (or3 a b c k = x) := ⟨_, rfl⟩
      rw [HX.out] at hc
      by_cases hx : x = 0
      · subst hx
        have HZ' : Hid (∀ j, j < k + 1 → or3 a b c j = 0) := show ∀ j, j < k + 1 → or3 a b c j = 0 from fun j hj => by
          by_cases e : j = k
          · subst e; exact HX.out
          · exact HZ.out j (by omega)
        clear HZ HX
        go_wp2
        go_round
        case rel => exact ⟨k + 1, by omega, by go_num, HZ'⟩
        case measure => simp [intOf]; omega
      · have hr : Hid (x = r) := by
          rw [← HX.out, ← HR.out]
          have z := HZ.out
          rcases (by omega : k = 0 ∨ k = 1 ∨ k = 2) with rfl | rfl | rfl
          · have : a ≠ 0 := by rw [← HX.out] at hx; exact hx
            show or3 a b c 0 = orI a b c
            simp [orI, or3, this]
          · have e0 : a = 0 := z 0 (by omega)
            have : b ≠ 0 := by rw [← HX.out] at hx; exact hx
            show or3 a b c 1 = orI a b c
            simp [orI, or3, this, e0]
          · have e0 : a = 0 := z 0 (by omega)
            have e1 : b = 0 := z 1 (by omega)
            show or3 a b c 2 = orI a b c
            simp [orI, or3, e0, e1]
        have hne : (x != 0) = true := by simpa using hx
        clear HZ HX hx
        go_wp2
        go_ret
        exact ⟨by rw [← hr.out]; rfl, rfl⟩
    · have hr : Hid (0 = r) := by
        rw [← HR.out]
        have z := HZ.out
        have e0 : a = 0 := z 0 (by omega)
        have e1 : b = 0 := z 1 (by omega)
        have e2 : c = 0 := z 2 (by omega)
        show 0 = orI a b c
        simp [orI, e0, e1, e2]
      clear HZ
      go_wp2
      go_ret
      exact ⟨by rw [← hr.out]; rfl, rfl⟩

end Go.Proofs.Ytagalpfmpdeifab
