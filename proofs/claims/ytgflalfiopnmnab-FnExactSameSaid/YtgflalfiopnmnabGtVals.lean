import Derived.Test.YtgflalfiopnmnabGrEq2
import Derived.Test.YtgflalfiopnmnabCnFr
namespace Go.Proofs.Ytgflalfiopnmnab
open Go.RowKit Vl

set_option maxHeartbeats 1000000 in
set_option maxRecDepth 100000 in
/-- 'szValS'. -/
theorem szValS_any (pa : Option Addr) (L C B O : Nat) (P : Nat → V) (k : Int) (w : World) (hk0 : 0 ≤ k) (hk1 : k ≤ 1048576) (hL : L ≤ 9223372036854775807)
    (HS : Hid (∀ c, c < L → (P c).s.size ≤ 9223372036854775807)) (HP : Hid (ValsAt w pa L B O P)) :
    Calls Try.prog 24 #[.slice pa L C, .int .i64 k] w fun e w' => (∃ q : Int, e = .returned (.int .i64 q) ∧ q ≤ k ∧ (0 ≤ q → L ≤ 1048576)) ∧ Below w.heap.size w w' := by
  by_cases h : k - L < 0
  · go_enter Try.func24, Try.ntmps24
    go_wp2
    go_ret
    exact ⟨⟨_, rfl, by omega, by omega⟩, Below.refl _ _⟩
  · go_enter Try.func24, Try.ntmps24
    go_wp2
    go_loopw [1, 5] (fun l i wr => ∃ (c : Nat) (q : Int), c ≤ L ∧ i = .int .i64 c ∧ l = .int .i64 q ∧ 0 ≤ q ∧ q ≤ k ∧ Hid (Below w.heap.size w wr)) (fun _ i _ => L - (intOf i).toNat)
    case atStart => exact ⟨0, _, Nat.zero_le _, rfl, rfl, by omega, by omega, Below.refl _ _⟩
    case round =>
      obtain ⟨c, q, hc, rfl, rfl, hq0, hq1, HW⟩ := hrel
      by_cases hlt : c < L
      · obtain rfl := HP.out.top (by omega)
        obtain ⟨k0, k1, k2, k3⟩ := (HP.out.below HW.out).cells hlt
        have hs := HS.out c hlt
        go_wp2_with fail
        refine (szVal_any (P c) q _ hq0 (by omega) hs).mono ?_
        rintro e w1 ⟨rfl, hb1⟩
        have HW1 : Hid (Below w.heap.size w w1) := grw HW.out hb1
        clear hb1 HW k0 k1 k2 k3 hs
        by_cases hq : q < (P c).s.size
        · rw [if_pos hq]
          go_wp2
          go_ret
          exact ⟨⟨_, rfl, by omega, by omega⟩, HW1.out⟩
        · rw [if_neg hq]
          have hn : ¬ q - (P c).s.size < 0 := by omega
          go_wp2
          go_roundw
          case rel => exact ⟨c + 1, q - (P c).s.size, by omega, by go_num, rfl, by omega, by omega, HW1⟩
          case measure => simp [intOf]; omega
      · go_wp2
        go_ret
        exact ⟨⟨_, rfl, by omega, fun _ => by omega⟩, HW.out⟩

/-- Cell i of values. -/
def vc (P : Nat → V) (i : Nat) : Value :=
  if i % 4 = 0 then .int .i64 (P (i / 4)).k else if i % 4 = 1 then .int .i64 (P (i / 4)).n else if i % 4 = 2 then .string (P (i / 4)).s else .int .i64 (P (i / 4)).a
theorem vc_at (P : Nat → V) (c : Nat) : vc P (c * 4) = .int .i64 (P c).k ∧ vc P (c * 4 + 1) = .int .i64 (P c).n ∧ vc P (c * 4 + 2) = .string (P c).s ∧ vc P (c * 4 + 3) = .int .i64 (P c).a := by
  have h : ∀ j, j < 4 → (c * 4 + j) % 4 = j ∧ (c * 4 + j) / 4 = c := fun j hj => by omega
  refine ⟨?_, ?_, ?_, ?_⟩
  · have := h 0 (by omega); simp only [Nat.add_zero] at this; simp [vc, this]
  · simp [vc, h 1 (by omega)]
  · simp [vc, h 2 (by omega)]
  · simp [vc, h 3 (by omega)]

/-- A row that holds the first c values. -/
def VRow (w : World) (B n c : Nat) (P : Nat → V) (z : Nat → Value) : Prop := w.rowIs B 29 (n * 4) (fun i => if i < c * 4 then vc P i else z i)
theorem VRow.vals {w : World} {B n c : Nat} {P : Nat → V} {z : Nat → Value} (h : VRow w B n c P z) {pa : Option Addr} (ha : 0 < c → pa = some ⟨B, 0, none⟩) (hc : c ≤ n) : ValsAt w pa c B 0 P := by
  refine ⟨ha, fun j hj => ?_⟩
  have g : ∀ i, i < 4 → w.cell? ⟨B, j * 4 + i, none⟩ = some (vc P (j * 4 + i)) := fun i hi => by
    have := h.cell (i := j * 4 + i) (by omega)
    rw [this, if_pos (by omega)]
  obtain ⟨p0, p1, p2, p3⟩ := vc_at P j
  have g0 := g 0 (by omega); have g1 := g 1 (by omega); have g2 := g 2 (by omega); have g3 := g 3 (by omega)
  simp only [Nat.add_zero] at g0
  rw [p0] at g0; rw [p1] at g1; rw [p2] at g2; rw [p3] at g3
  rw [Nat.zero_add]
  exact ⟨g0, g1, g2, g3⟩
theorem VRow.put {w : World} {B n c : Nat} {P : Nat → V} {z : Nat → Value} (h : VRow w B n c P z) :
    VRow ((((w.setCell ⟨B, c * 4, none⟩ (.int .i64 (P c).k)).setCell ⟨B, c * 4 + 1, none⟩ (.int .i64 (P c).n)).setCell ⟨B, c * 4 + 2, none⟩ (.string (P c).s)).setCell ⟨B, c * 4 + 3, none⟩ (.int .i64 (P c).a)) B n (c + 1) P z := by
  refine (((((show w.rowIs B _ _ _ from h).set (c * 4) _).set (c * 4 + 1) _).set (c * 4 + 2) _).set (c * 4 + 3) _).congr (fun i _ => ?_)
  obtain ⟨p0, p1, p2, p3⟩ := vc_at P c
  by_cases e3 : i = c * 4 + 3
  · subst e3; rw [if_pos rfl, if_pos (by omega), p3]
  rw [if_neg e3]
  by_cases e2 : i = c * 4 + 2
  · subst e2; rw [if_pos rfl, if_pos (by omega), p2]
  rw [if_neg e2]
  by_cases e1 : i = c * 4 + 1
  · subst e1; rw [if_pos rfl, if_pos (by omega), p1]
  rw [if_neg e1]
  by_cases e0 : i = c * 4
  · subst e0; rw [if_pos rfl, if_pos (by omega), p0]
  rw [if_neg e0]
  by_cases hl : i < c * 4
  · rw [if_pos hl, if_pos (by omega)]
  · rw [if_neg hl, if_neg (by omega)]
theorem VRow.below {w w' : World} {B n c : Nat} {P : Nat → V} {z : Nat → Value} (h : VRow w B n c P z) (hb : Below w.heap.size w w') : VRow w' B n c P z := h.of_block (hb.block B h.lt)

theorem infoV : (Try.prog.info? 29).map (fun i => (i.zero, i.size, i.bytes)) = some (some (.agg #[.int .i64 0, .int .i64 0, .string ⟨#[]⟩, .int .i64 0]), 4, 40) := by kernel_rfl

set_option maxHeartbeats 1000000 in
set_option maxRecDepth 100000 in
/-- 'toValS'. -/
theorem toValS_any (pa : Option Addr) (L C B O : Nat) (P : Nat → V) (w : World) (hL : L ≤ 1048576) (HP : Hid (ValsAt w pa L B O P)) :
    Calls Try.prog 26 #[.slice pa L C] w fun e w' => e = .returned (.slice (some ⟨w.heap.size, 0, none⟩) L L) ∧ ValsAt w' (some ⟨w.heap.size, 0, none⟩) L w.heap.size 0 P ∧ Below w.heap.size w w' := by
  have hmk := run_make_n 45 29 _ 4 40 Try.underlying45 infoV L (by omega) (by omega)
  obtain ⟨z, hz⟩ : ∃ z : Nat → Value, VRow (w.alloc (.cells (madeCells (Value.agg #[.int .i64 0, .int .i64 0, .string ⟨#[]⟩, .int .i64 0]).cells (L * 4)) 29)) w.heap.size L 0 P z :=
    ⟨_, (row_made w _ (L * 4) 29).congr (fun i _ => by rw [if_neg (by omega)])⟩
  have HZ : Hid _ := hz
  clear hz
  go_enter Try.func26, Try.ntmps26
  go_wp2
  clear hmk
  go_loopw [4] (fun i wr => ∃ c : Nat, c ≤ L ∧ i = .int .i64 c ∧ Hid (VRow wr w.heap.size L c P z) ∧ Hid (Below w.heap.size w wr)) (fun i _ => L - (intOf i).toNat)
  case atStart => exact ⟨0, Nat.zero_le _, rfl, HZ, (Below.refl _ _).alloc (Nat.le_refl _) _⟩
  case round =>
    obtain ⟨c, hc, rfl, HR, HW⟩ := hrel
    clear HZ
    by_cases hlt : c < L
    · obtain rfl := HP.out.top (by omega)
      obtain ⟨k0, k1, k2, k3⟩ := (HP.out.below HW.out).cells hlt
      go_wp2_with fail
      refine (toVal_any (P c) _).mono ?_
      rintro e w1 ⟨rfl, hb1⟩
      have HR1 : Hid (VRow w1 w.heap.size L c P z) := HR.out.below hb1
      have HW1 : Hid (Below w.heap.size w w1) := grw HW.out hb1
      clear hb1 HW HR k0 k1 k2 k3
      have c0 := HR1.out.cell (i := c * 4) (by omega)
      have c1 := HR1.out.cell (i := c * 4 + 1) (by omega)
      have c2 := HR1.out.cell (i := c * 4 + 2) (by omega)
      have c3 := HR1.out.cell (i := c * 4 + 3) (by omega)
      have z0 := HR1.out.frozen
      go_wp2
      go_roundw
      case rel =>
        refine ⟨c + 1, by omega, by go_num, HR1.out.put, ?_⟩
        exact (((HW1.out.setCell (Nat.le_refl _) _).setCell (Nat.le_refl _) _).setCell (Nat.le_refl _) _).setCell (Nat.le_refl _) _
      case measure => simp [intOf]; omega
    · obtain rfl : c = L := by omega
      go_wp2
      go_ret
      exact ⟨rfl, HR.out.vals (fun _ => rfl) (Nat.le_refl _), HW.out⟩

theorem keep4v {w0 w w' : World} {B o B' o' : Nat} {u : V}
    (h : (w.cell? ⟨B, o, none⟩ = some (.int .i64 u.k) ∧ w.cell? ⟨B, o + 1, none⟩ = some (.int .i64 u.n) ∧ w.cell? ⟨B, o + 2, none⟩ = some (.string u.s) ∧ w.cell? ⟨B, o + 3, none⟩ = some (.int .i64 u.a)) ∧ (w.cell? ⟨B', o', none⟩ = some (.int .i64 u.k) ∧ w.cell? ⟨B', o' + 1, none⟩ = some (.int .i64 u.n) ∧ w.cell? ⟨B', o' + 2, none⟩ = some (.string u.s) ∧ w.cell? ⟨B', o' + 3, none⟩ = some (.int .i64 u.a)) ∧ Hid (Below w0.heap.size w0 w)) (hb : Below w.heap.size w w') :
    (w'.cell? ⟨B, o, none⟩ = some (.int .i64 u.k) ∧ w'.cell? ⟨B, o + 1, none⟩ = some (.int .i64 u.n) ∧ w'.cell? ⟨B, o + 2, none⟩ = some (.string u.s) ∧ w'.cell? ⟨B, o + 3, none⟩ = some (.int .i64 u.a)) ∧ (w'.cell? ⟨B', o', none⟩ = some (.int .i64 u.k) ∧ w'.cell? ⟨B', o' + 1, none⟩ = some (.int .i64 u.n) ∧ w'.cell? ⟨B', o' + 2, none⟩ = some (.string u.s) ∧ w'.cell? ⟨B', o' + 3, none⟩ = some (.int .i64 u.a)) ∧ Hid (Below w0.heap.size w0 w') :=
  ⟨ValAt.below (o := o) h.1 hb, ValAt.below (o := o') h.2.1 hb, grw h.2.2.out hb⟩

set_option maxHeartbeats 1000000 in
set_option maxRecDepth 100000 in
/-- 'eqValS' of the same values. -/
theorem eqValS_same (pa pa' : Option Addr) (L C C' B O B' O' : Nat) (P : Nat → V) (w : World) (hL : L ≤ 1048576) (HP : Hid (ValsAt w pa L B O P)) (HP' : Hid (ValsAt w pa' L B' O' P)) :
    Calls Try.prog 29 #[.slice pa L C, .slice pa' L C'] w fun e w' => e = .returned (.bool true) ∧ Below w.heap.size w w' := by
  have hne : ((L : Int) != (L : Int)) = false := by simp
  go_enter Try.func29, Try.ntmps29
  go_wp2
  clear hne
  go_loopw [5] (fun i wr => ∃ c : Nat, c ≤ L ∧ i = .int .i64 c ∧ Hid (Below w.heap.size w wr)) (fun i _ => L - (intOf i).toNat)
  case atStart => exact ⟨0, Nat.zero_le _, rfl, Below.refl _ _⟩
  case round =>
    obtain ⟨c, hc, rfl, HW⟩ := hrel
    by_cases hlt : c < L
    · obtain rfl := HP.out.top (by omega)
      obtain rfl := HP'.out.top (by omega)
      have hh := (HP.out.below HW.out).cells hlt
      have hh' := (HP'.out.below HW.out).cells hlt
      have HH : Hid _ := hh
      have HH' : Hid _ := hh'
      obtain ⟨k0, k1, k2, k3⟩ := hh
      obtain ⟨l0, l1, l2, l3⟩ := hh'
      go_wp2
      go_region_held3 (fun w' => (w'.cell? ⟨B, O + c * 4, none⟩ = some (.int .i64 (P c).k) ∧ w'.cell? ⟨B, O + c * 4 + 1, none⟩ = some (.int .i64 (P c).n) ∧ w'.cell? ⟨B, O + c * 4 + 2, none⟩ = some (.string (P c).s) ∧ w'.cell? ⟨B, O + c * 4 + 3, none⟩ = some (.int .i64 (P c).a)) ∧ (w'.cell? ⟨B', O' + c * 4, none⟩ = some (.int .i64 (P c).k) ∧ w'.cell? ⟨B', O' + c * 4 + 1, none⟩ = some (.int .i64 (P c).n) ∧ w'.cell? ⟨B', O' + c * 4 + 2, none⟩ = some (.string (P c).s) ∧ w'.cell? ⟨B', O' + c * 4 + 3, none⟩ = some (.int .i64 (P c).a)) ∧ Hid (Below w.heap.size w w'))
        (first | exact keep4v ‹_ ∧ _› hb1 | exact ⟨HH.out, HH'.out, HW.out.drew⟩)
        ((go_at_call 28; refine (eqVal_same (P c) _).mono ?_; rintro e w1 ⟨rfl, hb1⟩))
      rename_i hS
      have HW1 := hS.2.2
      clear hS hb1 HH HH' k0 k1 k2 k3 l0 l1 l2 l3 HW
      go_wp2
      go_roundw
      case rel => exact ⟨c + 1, by omega, by go_num, HW1⟩
      case measure => simp [intOf]; omega
    · go_wp2
      go_ret
      exact ⟨rfl, HW.out⟩

end Go.Proofs.Ytgflalfiopnmnab
