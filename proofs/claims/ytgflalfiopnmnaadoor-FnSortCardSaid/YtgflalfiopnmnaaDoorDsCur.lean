import Derived.Test.YtgflalfiopnmnaaDoorXsMark
import Derived.Test.YtgflalfiopnmnaaDoorSoOm
import Derived.Laws.BitsLemmas
import Derived.Laws.Bits64
namespace Go.Proofs.YtgflalfiopnmnaaDoor
open Go.RowKit Rk So

/-- The reader of choices: its box CB; at most t choices were taken. -/
structure CurS (w : World) (CB : Nat) (sl : Value) (t : Nat) : Prop where
  ex : ∃ (a : Nat) (sd : Int), a ≤ t ∧ w.heap[CB]? = some (.cells #[sl, .int .i64 a, .int .u64 sd] 63 (0, 0))

/-- The bytes that came in. -/
def ByteR (w : World) (ca : Option Addr) (cl cb co : Nat) : Prop := ∀ i, i < cl → ca = some ⟨cb, co, none⟩ ∧ ∃ x : Nat, x ≤ 255 ∧ w.cell? ⟨cb, co + i, none⟩ = some (.int .u8 x)

theorem CurS.drewN {w : World} {CB t : Nat} {sl : Value} (h : CurS w CB sl t) (m : Nat) : CurS (w.drewN m) CB sl t := ⟨h.ex⟩
theorem Only.drewN {P : Nat → Prop} {a b : World} (h : Only P a b) (m : Nat) : Only P a (b.drewN m) := ⟨h.os, h.tape, h.output, h.size, h.block⟩
theorem cur_set {w : World} {CB : Nat} {sl : Value} {a : Nat} {sd : Int} (h : w.heap[CB]? = some (.cells #[sl, .int .i64 a, .int .u64 sd] 63 (0, 0))) (a' : Int) (sd' : Int) :
    (w.setCell ⟨CB, 1, none⟩ (.int .i64 a')).heap[CB]? = some (.cells #[sl, .int .i64 a', .int .u64 sd] 63 (0, 0)) ∧ (w.setCell ⟨CB, 2, none⟩ (.int .u64 sd')).heap[CB]? = some (.cells #[sl, .int .i64 a, .int .u64 sd'] 63 (0, 0)) := by
  constructor <;> simp [World.setCell, Array.getElem?_modify, h]

theorem eight (Y : Int) : ∃ y : Nat, y ≤ 255 ∧ wrap64 (bits .and .u64 (IntKind.u64.wrap Y / 1099511627776) 255) = (y : Int) := by
  have hw : ∀ n : Int, 0 ≤ n → n < 2 ^ 63 → IntKind.u64.wrap n = n := fun n _ _ => by rw [IntKind.wrap_u64]; omega
  have h0 : 0 ≤ IntKind.u64.wrap Y / 1099511627776 ∧ IntKind.u64.wrap Y / 1099511627776 < 16777216 := by rw [IntKind.wrap_u64]; omega
  have h := bits_mask .u64 63 (by decide) hw 8 (by decide) (IntKind.u64.wrap Y / 1099511627776) h0.1 (by omega)
  have e : ((2 : Int) ^ 8 - 1) = 255 := by decide
  have e2 : ((2 : Int) ^ 8) = 256 := by decide
  rw [e, e2] at h
  rw [h]
  refine ⟨((IntKind.u64.wrap Y / 1099511627776) % 256).toNat, by omega, ?_⟩
  unfold wrap64
  omega

/-- Behind a choice: both numbers are laid anew. -/
theorem cur_next {w : World} {CB : Nat} {sl : Value} {a t : Nat} {sd : Int} (h : w.heap[CB]? = some (.cells #[sl, .int .i64 a, .int .u64 sd] 63 (0, 0))) (ha : a ≤ t) (m : Nat) (sd' : Int) :
    (CurS (((w.drewN m).setCell ⟨CB, 1, none⟩ (.int .i64 ((a : Int) + 1))).setCell ⟨CB, 2, none⟩ (.int .u64 sd')) CB sl (t + 1) ∧ Only (fun k => k = CB) w (((w.drewN m).setCell ⟨CB, 1, none⟩ (.int .i64 ((a : Int) + 1))).setCell ⟨CB, 2, none⟩ (.int .u64 sd'))) ∧
    (CurS (((w.drewN m).setCell ⟨CB, 2, none⟩ (.int .u64 sd')).setCell ⟨CB, 1, none⟩ (.int .i64 ((a : Int) + 1))) CB sl (t + 1) ∧ Only (fun k => k = CB) w (((w.drewN m).setCell ⟨CB, 2, none⟩ (.int .u64 sd')).setCell ⟨CB, 1, none⟩ (.int .i64 ((a : Int) + 1)))) := by
  have h0 : (w.drewN m).heap[CB]? = some (.cells #[sl, .int .i64 a, .int .u64 sd] 63 (0, 0)) := h
  have h1 := (cur_set h0 ((a + 1 : Nat) : Int) sd').1
  have h2 := (cur_set h1 0 sd').2
  have h3 := (cur_set h0 0 sd').2
  have h4 := (cur_set h3 ((a + 1 : Nat) : Int) 0).1
  have e : ((a + 1 : Nat) : Int) = (a : Int) + 1 := by omega
  refine ⟨⟨⟨a + 1, sd', by omega, h2⟩, ?_⟩, ⟨⟨a + 1, sd', by omega, h4⟩, ?_⟩⟩
  · exact (((Only.refl (fun k => k = CB) w).drewN m).set (p := ⟨CB, 1, none⟩) rfl _).set (p := ⟨CB, 2, none⟩) rfl _
  · exact (((Only.refl (fun k => k = CB) w).drewN m).set (p := ⟨CB, 2, none⟩) rfl _).set (p := ⟨CB, 1, none⟩) rfl _

set_option maxHeartbeats 1000000 in
theorem next_any (w : World) (CB : Nat) (ca : Option Addr) (cl cc cb co t : Nat) (hC : CurS w CB (.slice ca cl cc) t) (hB : ByteR w ca cl cb co) (hcl : cl ≤ 1048576) (ht : t ≤ 1000000) :
    Calls Tryd.prog 48 #[.pointer (some ⟨CB, 0, none⟩)] w fun e w' => (∃ y : Nat, y ≤ 255 ∧ e = .returned (.int .i64 y)) ∧ CurS w' CB (.slice ca cl cc) (t + 1) ∧ Only (fun k => k = CB) w w' := by
  obtain ⟨a, sd, ha, hb⟩ := hC.ex
  have c0 : w.cell? ⟨CB, 0, none⟩ = some (.slice ca cl cc) := by simp [World.cell?, hb]
  have c1 : w.cell? ⟨CB, 1, none⟩ = some (.int .i64 a) := by simp [World.cell?, hb]
  have c2 : w.cell? ⟨CB, 2, none⟩ = some (.int .u64 sd) := by simp [World.cell?, hb]
  have z : ∀ i, w.frozen? ⟨CB, i, none⟩ = false := fun i => by simp [World.frozen?, hb]
  have Hb : Hid _ := hb
  clear hb
  by_cases hlt : a < cl
  · obtain ⟨rfl, x, hx, hc⟩ := hB a hlt
    have il : (a : Int) < (cl : Int) := by omega
    clear hB hC
    go_enter Tryd.func48, Tryd.ntmps48
    go_wp2_with fail
    go_quiet (fail)
    go_wp2_with fail
    go_quiet (fail)
    go_wp2
    go_ret
    exact ⟨⟨x, hx, rfl⟩, (cur_next Hb.out ha _ _).1⟩
  · clear hB hC
    have il : ¬ (a : Int) < (cl : Int) := by omega
    go_enter Tryd.func48, Tryd.ntmps48
    go_wp2_with fail
    go_quiet (fail)
    go_wp2
    go_ret
    obtain ⟨y, hy, e⟩ := eight (IntKind.u64.wrap (sd * 6364136223846793005) + 1442695040888963407)
    exact ⟨⟨y, hy, by show Ending.returned (Value.int .i64 (wrap64 _)) = _; rw [e]⟩, (cur_next Hb.out ha _ _).2⟩

theorem ByteR.only {w w' : World} {ca : Option Addr} {cl cb co : Nat} (h : ByteR w ca cl cb co) {P : Nat → Prop} (ho : Only P w w') (hP : ¬ P cb) : ByteR w' ca cl cb co := by
  intro i hi
  obtain ⟨e, x, hx, hc⟩ := h i hi
  exact ⟨e, x, hx, by rw [World.cell?_of_block (ho.block cb (World.block_lt_of_cell? _ _ hc) hP)]; exact hc⟩

set_option maxHeartbeats 1000000 in
/-- 'pick' of at most 200. -/
theorem pick_any (w : World) (CB : Nat) (ca : Option Addr) (cl cc cb co t : Nat) (m : Nat) (hm0 : 0 < m) (hm : m ≤ 200) (hC : CurS w CB (.slice ca cl cc) t) (hB : ByteR w ca cl cb co) (hcl : cl ≤ 1048576) (ht : t ≤ 1000000) :
    Calls Tryd.prog 41 #[.pointer (some ⟨CB, 0, none⟩), .int .i64 m] w fun e w' => (∃ y : Nat, y < m ∧ e = .returned (.int .i64 y)) ∧ CurS w' CB (.slice ca cl cc) (t + 1) ∧ Only (fun k => k = CB) w w' := by
  by_cases h1 : m ≤ 1
  · have HC : Hid (CurS w CB (.slice ca cl cc) (t + 1)) := by obtain ⟨a, sd, ha, hb⟩ := hC.ex; exact ⟨a, sd, by omega, hb⟩
    have hn := hC
    clear hC hn hB
    go_enter Tryd.func41, Tryd.ntmps41
    go_wp2
    go_ret
    exact ⟨⟨0, by omega, rfl⟩, HC.out, Only.refl _ _⟩
  · have hnx := next_any w CB ca cl cc cb co t hC hB hcl ht
    clear hC hB
    have hne : ¬ (m : Int) = 0 := by omega
    have hneb : ((m : Int) == 0) = false := by simp; omega
    go_enter Tryd.func41, Tryd.ntmps41
    go_wp2_with fail
    refine hnx.mono ?_
    clear hnx
    rintro e w1 ⟨⟨y, hy, rfl⟩, hC1, hO1⟩
    have HC1 : Hid _ := hC1
    have HO1 : Hid _ := hO1
    clear hC1 hO1
    go_wp2
    go_ret
    refine ⟨⟨y % m, Nat.mod_lt _ hm0, ?_⟩, HC1.out, HO1.out⟩
    show Ending.returned (Value.int .i64 ((y : Int) % (m : Int))) = _
    rw [Int.natCast_emod]

end Go.Proofs.YtgflalfiopnmnaaDoor
