import Derived.Test.YtgflalfiopnmnaaGreatDoorVlAs
import Derived.Test.YtgflalfiopnmnaaGreatDoorVlVal
namespace Go.Proofs.YtgflalfiopnmnaaGreatDoor
open Go.RowKit Vl

/-- Tables that stand in a row: number i lies at T i and says so. -/
structure Tabs (w : World) (ta : Option Addr) (tb n : Nat) (T : Nat → Nat) : Prop where
  top : 0 < n → ta = some ⟨tb, 0, none⟩
  ptr : ∀ i, i < n → w.cell? ⟨tb, i, none⟩ = some (.pointer (some ⟨T i, 0, none⟩))
  at_ : ∀ i, i < n → w.cell? ⟨T i, 0, none⟩ = some (.int .i64 i)

theorem Tabs.below {w w' : World} {ta : Option Addr} {tb n : Nat} {T : Nat → Nat} (h : Tabs w ta tb n T) (hb : Below w.heap.size w w') : Tabs w' ta tb n T :=
  ⟨h.top, fun i hi => (hb.cell (p := ⟨tb, i, none⟩) (World.block_lt_of_cell? _ _ (h.ptr i hi))).trans (h.ptr i hi),
   fun i hi => (hb.cell (p := ⟨T i, 0, none⟩) (World.block_lt_of_cell? _ _ (h.at_ i hi))).trans (h.at_ i hi)⟩

theorem Tabs.nil (w : World) : Tabs w none 0 0 (fun _ => 0) := ⟨fun h => by omega, fun i h => by omega, fun i h => by omega⟩

/-- A value as it is held. -/
def ifv (T : Nat → Nat) (v : V) : Value :=
  if v.k = 0 then .iface 180 (.agg #[])
  else if v.k = 1 then .iface 232 (.agg #[.bool (v.n == 1)])
  else if v.k = 2 then .iface 234 (.agg #[.int .i64 v.n])
  else if v.k = 3 then .iface 236 (.agg #[.string v.s])
  else .iface 107 (.pointer (some ⟨T v.a.toNat, 0, none⟩))

theorem nf_0 (n : Int) (s : ByteArray) (a : Int) (ta : Option Addr) (m cp : Nat) (w : World) :
    Calls Tryz.prog 90 #[.agg #[.int .i64 0, .int .i64 n, .string s, .int .i64 a], .slice ta m cp] w fun e w' => e = .returned (.tuple #[.iface 180 (.agg #[]), .bool true]) ∧ Below w.heap.size w w' := by
  go_enter Tryz.func90, Tryz.ntmps90
  go_wp2
  go_ret2
  exact ⟨rfl, (Below.refl _ _).alloc (Nat.le_refl _) _⟩

theorem nf_1 (n : Int) (s : ByteArray) (a : Int) (ta : Option Addr) (m cp : Nat) (w : World) :
    Calls Tryz.prog 90 #[.agg #[.int .i64 1, .int .i64 n, .string s, .int .i64 a], .slice ta m cp] w fun e w' => e = .returned (.tuple #[.iface 232 (.agg #[.bool (n == 1)]), .bool true]) ∧ Below w.heap.size w w' := by
  go_enter Tryz.func90, Tryz.ntmps90
  go_wp2
  go_ret2
  exact ⟨rfl, (Below.refl _ _).alloc (Nat.le_refl _) _⟩

theorem nf_2 (n : Int) (s : ByteArray) (a : Int) (ta : Option Addr) (m cp : Nat) (w : World) :
    Calls Tryz.prog 90 #[.agg #[.int .i64 2, .int .i64 n, .string s, .int .i64 a], .slice ta m cp] w fun e w' => e = .returned (.tuple #[.iface 234 (.agg #[.int .i64 n]), .bool true]) ∧ Below w.heap.size w w' := by
  go_enter Tryz.func90, Tryz.ntmps90
  go_wp2
  go_ret2
  exact ⟨rfl, (Below.refl _ _).alloc (Nat.le_refl _) _⟩

theorem nf_3 (n : Int) (s : ByteArray) (a : Int) (ta : Option Addr) (m cp : Nat) (w : World) :
    Calls Tryz.prog 90 #[.agg #[.int .i64 3, .int .i64 n, .string s, .int .i64 a], .slice ta m cp] w fun e w' => e = .returned (.tuple #[.iface 236 (.agg #[.string s]), .bool (decide ((s.size : Int) ≤ 500))]) ∧ Below w.heap.size w w' := by
  go_enter Tryz.func90, Tryz.ntmps90
  go_wp2
  go_quiet (fail)
  go_wp2
  go_ret2
  exact ⟨rfl, below_drewN ((Below.refl _ _).alloc (Nat.le_refl _) _) nq⟩

theorem nf_4 (n : Int) (s : ByteArray) (a : Int) (ta : Option Addr) (tb m cp : Nat) (T : Nat → Nat) (w : World) (h0 : 0 ≤ a) (h1 : a < m) (H : Hid (Tabs w ta tb m T)) :
    Calls Tryz.prog 90 #[.agg #[.int .i64 4, .int .i64 n, .string s, .int .i64 a], .slice ta m cp] w fun e w' => e = .returned (.tuple #[.iface 107 (.pointer (some ⟨T a.toNat, 0, none⟩)), .bool true]) ∧ Below w.heap.size w w' := by
  obtain ⟨j, rfl⟩ : ∃ j : Nat, a = j := ⟨a.toNat, by omega⟩
  obtain rfl := H.out.top (by omega)
  have hp := H.out.ptr j (by omega)
  have hlt : tb < w.heap.size := World.block_lt_of_cell? _ _ hp
  go_enter Tryz.func90, Tryz.ntmps90
  go_wp2
  go_ret2
  exact ⟨rfl, (Below.refl _ _).alloc (Nat.le_refl _) _⟩

theorem nf_4no (n : Int) (s : ByteArray) (a : Int) (ta : Option Addr) (m cp : Nat) (w : World) (h : ¬ (0 ≤ a ∧ a < m)) :
    Calls Tryz.prog 90 #[.agg #[.int .i64 4, .int .i64 n, .string s, .int .i64 a], .slice ta m cp] w fun e w' => e = .returned (.tuple #[.nilIface, .bool false]) ∧ Below w.heap.size w w' := by
  by_cases h0 : 0 ≤ a
  · have h1 : ¬ a < m := fun h1 => h ⟨h0, h1⟩
    go_enter Tryz.func90, Tryz.ntmps90
    go_wp2
    go_ret2
    exact ⟨rfl, (Below.refl _ _).alloc (Nat.le_refl _) _⟩
  · go_enter Tryz.func90, Tryz.ntmps90
    go_wp2
    go_ret2
    exact ⟨rfl, (Below.refl _ _).alloc (Nat.le_refl _) _⟩

theorem nf_no (k n : Int) (s : ByteArray) (a : Int) (ta : Option Addr) (m cp : Nat) (w : World) (h0 : (k == 0) = false) (h1 : (k == 1) = false) (h2 : (k == 2) = false) (h3 : (k == 3) = false) (h4 : (k == 4) = false) :
    Calls Tryz.prog 90 #[.agg #[.int .i64 k, .int .i64 n, .string s, .int .i64 a], .slice ta m cp] w fun e w' => e = .returned (.tuple #[.nilIface, .bool false]) ∧ Below w.heap.size w w' := by
  go_enter Tryz.func90, Tryz.ntmps90
  go_wp2
  go_ret2
  exact ⟨rfl, (Below.refl _ _).alloc (Nat.le_refl _) _⟩

end Go.Proofs.YtgflalfiopnmnaaGreatDoor
