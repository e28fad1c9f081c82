import Derived.Test.YtgflalfiopnmnaaDoorXsEq
namespace Go.Proofs.YtgflalfiopnmnaaDoor
open Go.RowKit Rk So

/-- Nothing that was there has turned but blocks of P. -/
structure Only (P : Nat → Prop) (w w' : World) : Prop where
  os : w'.os = w.os
  tape : w'.tape = w.tape
  output : w'.output = w.output
  size : w.heap.size ≤ w'.heap.size
  block : ∀ k, k < w.heap.size → ¬ P k → w'.heap[k]? = w.heap[k]?

theorem Only.refl (P : Nat → Prop) (w : World) : Only P w w := ⟨rfl, rfl, rfl, Nat.le_refl _, fun _ _ _ => rfl⟩
theorem Only.trans {P : Nat → Prop} {a b c : World} (h : Only P a b) (k : Only P b c) : Only P a c :=
  ⟨k.os.trans h.os, k.tape.trans h.tape, k.output.trans h.output, Nat.le_trans h.size k.size, fun i hi hp => by rw [k.block i (Nat.lt_of_lt_of_le hi h.size) hp, h.block i hi hp]⟩
theorem Only.mono {P Q : Nat → Prop} {a b : World} (h : Only P a b) (hq : ∀ k, k < a.heap.size → P k → Q k) : Only Q a b := ⟨h.os, h.tape, h.output, h.size, fun i hi hp => h.block i hi (fun x => hp (hq i hi x))⟩
theorem Only.set {P : Nat → Prop} {a w : World} (h : Only P a w) {p : Addr} (hp : P p.block) (v : Value) : Only P a (w.setCell p v) :=
  h.trans ⟨rfl, rfl, rfl, by simp [World.setCell], fun k _ hk => Below.heap_setCell _ _ _ _ (fun e => hk (by rw [e]; exact hp))⟩
theorem Only.below {P : Nat → Prop} {a b : World} (h : Below a.heap.size a b) : Only P a b := ⟨h.os, h.tape, h.output, h.size, fun k hk _ => h.block k hk⟩
theorem Only.toBelow {P : Nat → Prop} {a b : World} {base : Nat} (h : Only P a b) (hP : ∀ k, P k → base ≤ k) (hb : base ≤ a.heap.size) : Below base a b := ⟨h.os, h.tape, h.output, h.size, fun k hk => h.block k (by omega) (fun x => by have := hP k x; omega)⟩
theorem Only.rowIs {P : Nat → Prop} {a b : World} (h : Only P a b) {B t n : Nat} {f : Nat → Value} (hr : a.rowIs B t n f) (hB : ¬ P B) : b.rowIs B t n f := by
  obtain ⟨c, hb, hn, hc⟩ := hr
  exact ⟨c, by rw [h.block B (lt_of_block hb) hB]; exact hb, hn, hc⟩
theorem Only.owns {P : Nat → Prop} {a b : World} (h : Only P a b) {base t s n : Nat} {v : Value} {xs : List Value} (ho : a.ownsRow base t s v n xs) (hB : ∀ g, base ≤ g → g < a.heap.size → ¬ P g) : b.ownsRow base t s v n xs := by
  refine ⟨ho.1, ?_⟩
  rcases ho.2 with h2 | ⟨g, cap, cur, hv, hg, hh, r⟩
  · exact Or.inl h2
  · exact Or.inr ⟨g, cap, cur, hv, hg, by rw [h.block g (lt_of_block hh) (hB g hg (lt_of_block hh))]; exact hh, r⟩

theorem if_step2 {α : Type} (i j : Nat) (x : α) (f g : Nat → α) (e : x = f j) : (if i = j then x else if i < j then f i else g i) = if i < j + 1 then f i else g i := by
  by_cases h : i = j
  · subst h; simp [e]
  · rw [if_neg h]
    by_cases hlt : i < j
    · rw [if_pos hlt, if_pos (by omega)]
    · rw [if_neg hlt, if_neg (by omega)]

/-- The first j cells of a row are marked, from k on. -/
def marks (k : Int) (j : Nat) (f : Nat → Value) : Nat → Value := fun c => if c < j then .int .i64 (k + c) else f c

theorem marks_set {w : World} {B t cap : Nat} {k x : Int} {j : Nat} {f : Nat → Value} (h : w.rowIs B t cap (marks k j f)) (hx : x = k + j) : (w.setCell ⟨B, j, none⟩ (.int .i64 x)).rowIs B t cap (marks k (j + 1) f) := by
  subst hx
  exact (h.set j _).congr (fun i _ => if_step2 i j _ (fun c => Value.int .i64 (k + c)) f rfl)
theorem marks_zero {w : World} {B t cap : Nat} {k : Int} {f : Nat → Value} (h : w.rowIs B t cap f) : w.rowIs B t cap (marks k 0 f) := h.congr (fun i _ => by simp [marks])
theorem marks_cell {w : World} {B t cap : Nat} {k : Int} {j : Nat} {f : Nat → Value} (h : w.rowIs B t cap (marks k j f)) (hj : j < cap) : w.cell? ⟨B, j, none⟩ = some (f j) := by
  rw [h.cell hj]; simp [marks]

set_option maxHeartbeats 1000000 in
/-- 'markIntS'. -/
theorem markS_any (A : Option Addr) (L C B cap : Nat) (f : Nat → Value) (k : Int) (w : World) (hL : L ≤ 1048576) (hk0 : 0 ≤ k) (hk1 : k ≤ 1125899906842624) (hA : 0 < L → A = some ⟨B, 0, none⟩) (hc : L ≤ cap) (HR : Hid (0 < L → w.rowIs B 3 cap f)) :
    Calls Tryd.prog 36 #[.slice A L C, .int .i64 k] w fun e w' => e = .returned (.int .i64 (k + L)) ∧ Only (fun b => b = B ∧ 0 < L) w w' ∧ (0 < L → w'.rowIs B 3 cap (marks k L f)) := by
  go_enter Tryd.func36, Tryd.ntmps36
  go_wp2
  go_loopw [1, 5] (fun kk i wr => ∃ j : Nat, j ≤ L ∧ i = .int .i64 j ∧ kk = .int .i64 (k + j) ∧ Hid (Only (fun b => b = B ∧ 0 < L) w wr) ∧ Hid (0 < L → wr.rowIs B 3 cap (marks k j f))) (fun _ i _ => L - (intOf i).toNat)
  case atStart => exact ⟨0, Nat.zero_le _, rfl, by simp, Only.refl _ _, fun h => marks_zero (HR.out h)⟩
  case round =>
    obtain ⟨j, hj, rfl, rfl, HO, HM⟩ := hrel
    by_cases hlt : j < L
    · obtain rfl := hA (by omega)
      have hr := HM.out (by omega)
      have ho := marks_cell hr (by omega)
      have hz := hr.frozen j
      have HN : Hid (0 < L → (wr.setCell ⟨B, j, none⟩ (.int .i64 (k + j))).rowIs B 3 cap (marks k (j + 1) f)) := fun _ => marks_set hr rfl
      have HO2 : Hid (Only (fun b => b = B ∧ 0 < L) w (wr.setCell ⟨B, j, none⟩ (.int .i64 (k + j)))) := HO.out.set (p := ⟨B, j, none⟩) ⟨rfl, by omega⟩ _
      clear hr HO HM
      go_wp2
      go_roundw
      case rel => exact ⟨j + 1, by omega, by go_num, by go_num, HO2, HN⟩
      case measure => simp [intOf]; omega
    · obtain rfl : j = L := by omega
      go_wp2
      go_ret
      exact ⟨rfl, HO.out, HM.out⟩

set_option maxHeartbeats 1000000 in
/-- 'markAskS'. -/
theorem markA_any (A : Option Addr) (L C B cap : Nat) (f : Nat → Value) (k : Int) (w : World) (hL : L ≤ 1048576) (hk0 : 0 ≤ k) (hk1 : k ≤ 1125899906842624) (hA : 0 < L → A = some ⟨B, 0, none⟩) (hc : L * 2 ≤ cap) (HR : Hid (0 < L → w.rowIs B 53 cap f)) :
    Calls Tryd.prog 37 #[.slice A L C, .int .i64 k] w fun e w' => e = .returned (.int .i64 (k + L * 2)) ∧ Only (fun b => b = B ∧ 0 < L) w w' ∧ (0 < L → w'.rowIs B 53 cap (marks k (L * 2) f)) := by
  go_enter Tryd.func37, Tryd.ntmps37
  go_wp2
  go_loopw [1, 5] (fun kk i wr => ∃ j : Nat, j ≤ L ∧ i = .int .i64 j ∧ kk = .int .i64 (k + j * 2) ∧ Hid (Only (fun b => b = B ∧ 0 < L) w wr) ∧ Hid (0 < L → wr.rowIs B 53 cap (marks k (j * 2) f))) (fun _ i _ => L - (intOf i).toNat)
  case atStart => exact ⟨0, Nat.zero_le _, rfl, by simp, Only.refl _ _, fun h => marks_zero (HR.out h)⟩
  case round =>
    obtain ⟨j, hj, rfl, rfl, HO, HM⟩ := hrel
    by_cases hlt : j < L
    · obtain rfl := hA (by omega)
      have hr := HM.out (by omega)
      have ho := marks_cell hr (by omega)
      have hz := hr.frozen (j * 2)
      have hr2 := marks_set (x := k + j * 2) hr (by omega)
      have ho2 := marks_cell hr2 (by omega)
      have hz2 := hr2.frozen (j * 2 + 1)
      have hr3 := marks_set (x := k + j * 2 + 1) hr2 (by omega)
      have HN : Hid _ := hr3
      have HO2 : Hid _ := (HO.out.set (p := ⟨B, j * 2, none⟩) ⟨rfl, by omega⟩ (.int .i64 (k + j * 2))).set (p := ⟨B, j * 2 + 1, none⟩) ⟨rfl, by omega⟩ (.int .i64 (k + j * 2 + 1))
      clear hr hr2 hr3 HO HM
      go_wp2
      go_roundw
      case rel => exact ⟨j + 1, by omega, by go_num, by go_num, HO2, fun _ => by rw [show (j + 1) * 2 = j * 2 + 1 + 1 by omega]; exact HN.out⟩
      case measure => simp [intOf]; omega
    · obtain rfl : j = L := by omega
      go_wp2
      go_ret
      exact ⟨rfl, HO.out, HM.out⟩

set_option maxHeartbeats 1000000 in
/-- 'heldIntS' behind 'markIntS'. -/
theorem heldS_any (A : Option Addr) (L C B : Nat) (k : Int) (w : World) (hL : L ≤ 1048576) (hk0 : 0 ≤ k) (hk1 : k ≤ 1125899906842624) (HR : Hid (RowR w A L B 0 (fun c => k + c))) :
    Calls Tryd.prog 38 #[.slice A L C, .int .i64 k] w fun e w' => e = .returned (.int .i64 (k + L)) ∧ w' = w := by
  go_enter Tryd.func38, Tryd.ntmps38
  go_wp2
  go_loop [1, 5] (fun kk i => ∃ j : Nat, j ≤ L ∧ i = .int .i64 j ∧ kk = .int .i64 (k + j)) (fun _ i => L - (intOf i).toNat)
  case atStart => exact ⟨0, Nat.zero_le _, rfl, by simp⟩
  case round =>
    obtain ⟨j, hj, rfl, rfl⟩ := hrel
    by_cases hlt : j < L
    · obtain ⟨e1, v⟩ := HR.out j hlt
      subst e1
      rw [Nat.zero_add] at v
      go_wp2
      go_round
      case rel => exact ⟨j + 1, by omega, by go_num, by go_num⟩
      case measure => simp [intOf]; omega
    · obtain rfl : j = L := by omega
      go_wp2
      go_ret
      exact ⟨rfl, rfl⟩

set_option maxHeartbeats 1000000 in
/-- 'heldAskS' behind 'markAskS'. -/
theorem heldA_any (A : Option Addr) (L C B : Nat) (k : Int) (w : World) (hL : L ≤ 1048576) (hk0 : 0 ≤ k) (hk1 : k ≤ 1125899906842624) (HR : Hid (AskR w A L B (fun c => k + c * 2) (fun c => k + c * 2 + 1))) :
    Calls Tryd.prog 39 #[.slice A L C, .int .i64 k] w fun e w' => e = .returned (.int .i64 (k + L * 2)) ∧ w' = w := by
  go_enter Tryd.func39, Tryd.ntmps39
  go_wp2
  go_loop [1, 5] (fun kk i => ∃ j : Nat, j ≤ L ∧ i = .int .i64 j ∧ kk = .int .i64 (k + j * 2)) (fun _ i => L - (intOf i).toNat)
  case atStart => exact ⟨0, Nat.zero_le _, rfl, by simp⟩
  case round =>
    obtain ⟨j, hj, rfl, rfl⟩ := hrel
    by_cases hlt : j < L
    · obtain ⟨e1, v1, v2⟩ := HR.out j hlt
      subst e1
      go_wp2
      go_round
      case rel => exact ⟨j + 1, by omega, by go_num, by go_num⟩
      case measure => simp [intOf]; omega
    · obtain rfl : j = L := by omega
      go_wp2
      go_ret
      exact ⟨rfl, rfl⟩

end Go.Proofs.YtgflalfiopnmnaaDoor
