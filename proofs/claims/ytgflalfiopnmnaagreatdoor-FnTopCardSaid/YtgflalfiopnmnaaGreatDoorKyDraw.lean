import Derived.Test.YtgflalfiopnmnaaGreatDoorKyCur
import Derived.Laws.BytesArg
import Derived.Deep.AppendLies
namespace Go.Proofs.YtgflalfiopnmnaaGreatDoor
open Go.RowKit

theorem CurS.mono {w : World} {CB t t' : Nat} {sl : Value} (h : CurS w CB sl t) (ht : t ≤ t') : CurS w CB sl t' := by
  obtain ⟨a, sd, ha, hb⟩ := h.ex
  exact ⟨a, sd, by omega, hb⟩
theorem CurS.alloc {w : World} {CB t : Nat} {sl : Value} (h : CurS w CB sl t) (o : Obj) : CurS (w.alloc o) CB sl t := by
  obtain ⟨a, sd, ha, hb⟩ := h.ex
  exact ⟨a, sd, ha, by rw [Below.heap_alloc _ _ _ (lt_of_block hb)]; exact hb⟩
theorem CurS.lt {w : World} {CB t : Nat} {sl : Value} (h : CurS w CB sl t) : CB < w.heap.size := by
  obtain ⟨a, sd, ha, hb⟩ := h.ex
  exact lt_of_block hb

set_option maxHeartbeats 1000000 in
/-- 'pick' of more than 200. -/
theorem pickBig_any (w : World) (CB : Nat) (ca : Option Addr) (cl cc cb co t m : Nat) (hm : 200 < m) (hm' : m ≤ 70000) (hC : CurS w CB (.slice ca cl cc) t) (hB : ByteR w ca cl cb co) (hne : 0 < cl → cb ≠ CB) (hcl : cl ≤ 1048576) (ht : t ≤ 90000000) :
    Calls Tryz.prog 47 #[.pointer (some ⟨CB, 0, none⟩), .int .i64 m] w fun e w' => (∃ y : Nat, y < m ∧ e = .returned (.int .i64 y)) ∧ CurS w' CB (.slice ca cl cc) (t + 2) ∧ Only (fun k => k = CB) w w' := by
  have hnx := next_any w CB ca cl cc cb co t hC hB hcl (by omega)
  have HB : Hid (ByteR w ca cl cb co) := hB
  clear hC hB
  have hne0 : ¬ (m : Int) = 0 := by omega
  have hneb : ((m : Int) == 0) = false := by simp; omega
  go_enter Tryz.func47, Tryz.ntmps47
  go_wp2_with fail
  refine hnx.mono ?_
  clear hnx
  rintro e w1 ⟨⟨y, hy, rfl⟩, hC1, hO1⟩
  have hB1 : ByteR w1 ca cl cb co := by
    intro i hi
    obtain ⟨e, x, hx, hc⟩ := HB.out i hi
    exact ⟨e, x, hx, hO1.cell hc (hne (by omega))⟩
  have hnx := next_any w1 CB ca cl cc cb co (t + 1) hC1 hB1 hcl (by omega)
  have HO1 : Hid _ := hO1
  clear hC1 hB1 hO1
  go_wp2_with fail
  refine hnx.mono ?_
  clear hnx
  rintro e w2 ⟨⟨z, hz, rfl⟩, hC2, hO2⟩
  have HC2 : Hid _ := hC2
  have HO2 : Hid _ := hO2
  clear hC2 hO2
  go_wp2
  go_ret
  refine ⟨⟨(y * 256 + z) % m, Nat.mod_lt _ (by omega), ?_⟩, HC2.out, HO1.out.trans HO2.out⟩
  show Ending.returned (Value.int .i64 (((y : Int) * 256 + (z : Int)) % (m : Int))) = _
  rw [Int.natCast_emod]
  rfl

/-- The reader, and its bytes. -/
structure Rd (w : World) (CB : Nat) (ca : Option Addr) (cl cc cb co t : Nat) : Prop where
  cur : CurS w CB (.slice ca cl cc) t
  byt : ByteR w ca cl cb co
  ne : 0 < cl → cb ≠ CB
  len : cl ≤ 1048576

section
variable {w w' : World} {CB : Nat} {ca : Option Addr} {cl cc cb co t : Nat}
theorem Rd.mono (h : Rd w CB ca cl cc cb co t) {t' : Nat} (ht : t ≤ t') : Rd w CB ca cl cc cb co t' := ⟨h.cur.mono ht, h.byt, h.ne, h.len⟩
theorem Rd.next {k : Nat} (h : Rd w CB ca cl cc cb co t) (hc : CurS w' CB (.slice ca cl cc) (t + k)) (ho : Only (fun j => j = CB) w w') : Rd w' CB ca cl cc cb co (t + k) :=
  ⟨hc, fun i hi => by obtain ⟨e, x, hx, hcl⟩ := h.byt i hi; exact ⟨e, x, hx, ho.cell hcl (h.ne (by omega))⟩, h.ne, h.len⟩
theorem Rd.below (h : Rd w CB ca cl cc cb co t) (hb : Below w.heap.size w w') : Rd w' CB ca cl cc cb co t := by
  obtain ⟨a, sd, ha, hh⟩ := h.cur.ex
  exact ⟨⟨a, sd, ha, by rw [hb.block CB (lt_of_block hh)]; exact hh⟩, fun i hi => by obtain ⟨e, x, hx, hcl⟩ := h.byt i hi; exact ⟨e, x, hx, (hb.cell (World.block_lt_of_cell? _ _ hcl)).trans hcl⟩, h.ne, h.len⟩
theorem Rd.alloc (h : Rd w CB ca cl cc cb co t) (o : Obj) : Rd (w.alloc o) CB ca cl cc cb co t := h.below ((Below.refl _ _).alloc (Nat.le_refl _) _)

theorem next_r (h : Rd w CB ca cl cc cb co t) (ht : t ≤ 90000000) :
    Calls Tryz.prog 84 #[.pointer (some ⟨CB, 0, none⟩)] w fun e w' => (∃ y : Nat, y ≤ 255 ∧ e = .returned (.int .i64 y)) ∧ Hid (Rd w' CB ca cl cc cb co (t + 2)) ∧ Hid (Only (fun k => k = CB) w w') := by
  refine (next_any w CB ca cl cc cb co t h.cur h.byt h.len (by omega)).mono ?_
  rintro e w' ⟨h1, h2, h3⟩
  exact ⟨h1, (h.next h2 h3).mono (by omega), h3⟩
theorem pick_r (m : Nat) (h : Rd w CB ca cl cc cb co t) (hm0 : 0 < m) (hm : m ≤ 200) (ht : t ≤ 90000000) :
    Calls Tryz.prog 47 #[.pointer (some ⟨CB, 0, none⟩), .int .i64 m] w fun e w' => (∃ y : Nat, y < m ∧ e = .returned (.int .i64 y)) ∧ Hid (Rd w' CB ca cl cc cb co (t + 2)) ∧ Hid (Only (fun k => k = CB) w w') := by
  refine (pick_any w CB ca cl cc cb co t m hm0 hm h.cur h.byt h.len (by omega)).mono ?_
  rintro e w' ⟨h1, h2, h3⟩
  exact ⟨h1, (h.next h2 h3).mono (by omega), h3⟩
theorem pickBig_r (h : Rd w CB ca cl cc cb co t) (ht : t ≤ 90000000) :
    Calls Tryz.prog 47 #[.pointer (some ⟨CB, 0, none⟩), .int .i64 70000] w fun e w' => (∃ y : Nat, y < 70000 ∧ e = .returned (.int .i64 y)) ∧ Hid (Rd w' CB ca cl cc cb co (t + 2)) ∧ Hid (Only (fun k => k = CB) w w') := by
  refine (pickBig_any w CB ca cl cc cb co t 70000 (by omega) (by omega) h.cur h.byt h.ne h.len ht).mono ?_
  rintro e w' ⟨h1, h2, h3⟩
  exact ⟨h1, (h.next h2 h3).mono (by omega), h3⟩

/-- 'pick' of any number of this size. -/
theorem pickW_r (m : Nat) (h : Rd w CB ca cl cc cb co t) (hm0 : 0 < m) (hm : m ≤ 70000) (ht : t ≤ 90000000) :
    Calls Tryz.prog 47 #[.pointer (some ⟨CB, 0, none⟩), .int .i64 m] w fun e w' => (∃ y : Nat, y < m ∧ e = .returned (.int .i64 y)) ∧ Hid (Rd w' CB ca cl cc cb co (t + 2)) ∧ Hid (Only (fun k => k = CB) w w') := by
  by_cases h2 : m ≤ 200
  · exact pick_r m h hm0 h2 ht
  · refine (pickBig_any w CB ca cl cc cb co t m (by omega) hm h.cur h.byt h.ne h.len ht).mono ?_
    rintro e w' ⟨h1, h2, h3⟩
    exact ⟨h1, (h.next h2 h3).mono (by omega), h3⟩

set_option maxHeartbeats 1000000 in
/-- 'whole'. -/
theorem whole_r (h : Rd w CB ca cl cc cb co t) (ht : t ≤ 80000000) :
    Calls Tryz.prog 86 #[.pointer (some ⟨CB, 0, none⟩)] w fun e w' => (∃ y : Int, e = .returned (.int .i64 y) ∧ -9223372036854775808 ≤ y ∧ y ≤ 9223372036854775807) ∧ Hid (Rd w' CB ca cl cc cb co (t + 4)) ∧ Hid (Only (fun k => k = CB) w w') := by
  have hp := pick_r 6 h (by omega) (by omega) (by omega)
  clear h
  go_enter Tryz.func86, Tryz.ntmps86
  go_wp2_with fail
  refine hp.mono ?_
  clear hp
  rintro e w1 ⟨⟨y, hy, rfl⟩, HR, HO⟩
  by_cases y0 : y = 0
  · subst y0
    have hp := pick_r 3 HR.out (by omega) (by omega) (by omega)
    go_wp2_with fail
    refine hp.mono ?_
    clear hp
    rintro e w2 ⟨⟨z, hz, rfl⟩, HR2, HO2⟩
    go_wp2
    go_ret
    exact ⟨⟨_, rfl, by omega, by omega⟩, HR2.out.mono (by omega), HO.out.trans HO2.out⟩
  have h0 : ((y : Int) == 0) = false := by simpa using y0
  by_cases y1 : y = 1
  · subst y1
    have hp := pick_r 3 HR.out (by omega) (by omega) (by omega)
    clear h0
    go_wp2_with fail
    refine hp.mono ?_
    clear hp
    rintro e w2 ⟨⟨z, hz, rfl⟩, HR2, HO2⟩
    go_wp2
    go_ret
    exact ⟨⟨_, rfl, by omega, by omega⟩, HR2.out.mono (by omega), HO.out.trans HO2.out⟩
  have h1 : ((y : Int) == 1) = false := by simp; omega
  by_cases y2 : y = 2
  · subst y2
    have hp := pickBig_r HR.out (by omega)
    clear h0 h1
    go_wp2_with fail
    refine hp.mono ?_
    clear hp
    rintro e w2 ⟨⟨z, hz, rfl⟩, HR2, HO2⟩
    go_wp2
    go_ret
    exact ⟨⟨_, rfl, by omega, by omega⟩, HR2.out.mono (by omega), HO.out.trans HO2.out⟩
  have h2 : ((y : Int) == 2) = false := by simp; omega
  have hp := pick_r 12 HR.out (by omega) (by omega) (by omega)
  clear y0 y1 y2
  go_wp2_with fail
  refine hp.mono ?_
  clear hp
  rintro e w2 ⟨⟨z, hz, rfl⟩, HR2, HO2⟩
  go_wp2
  go_ret
  exact ⟨⟨_, rfl, by omega, by omega⟩, HR2.out.mono (by omega), HO.out.trans HO2.out⟩
end

end Go.Proofs.YtgflalfiopnmnaaGreatDoor
