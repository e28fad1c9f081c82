import Derived.Test.YtgflalfiopnmnaaDoorRkMat
namespace Go.Proofs.YtgflalfiopnmnaaDoor
open Go.RowKit

/-- A row that is being filled: k of its L numbers are there. -/
structure Fill (w wr : World) (t L k : Nat) (z : Value) (f : Nat → Value) : Prop where
  size : wr.heap.size = w.heap.size + 1
  bel : Below w.heap.size w wr
  row : wr.rowIs w.heap.size t L (fun c => if c < k then f c else z)

theorem Fill.start (w : World) (t L : Nat) (z : Value) (f : Nat → Value) : Fill w (w.alloc (.cells (madeCells #[z] L) t)) t L 0 z f :=
  ⟨by simp, (Below.refl _ _).alloc (Nat.le_refl _) _, (World.rowIs_made w z L t).congr (fun j _ => by simp)⟩

theorem if_step {α : Type} (i k : Nat) (x z : α) (f : Nat → α) (e : x = f k) : (if i = k then x else if i < k then f i else z) = if i < k + 1 then f i else z := by
  by_cases h : i = k
  · subst h; simp [e]
  · rw [if_neg h]
    by_cases hlt : i < k
    · rw [if_pos hlt, if_pos (by omega)]
    · rw [if_neg hlt, if_neg (by omega)]

theorem Fill.step {w wr : World} {t L k : Nat} {z : Value} {f : Nat → Value} (h : Fill w wr t L k z f) : Fill w (wr.setCell ⟨w.heap.size, k, none⟩ (f k)) t L (k + 1) z f :=
  ⟨by simp [h.size], h.bel.setCell (Nat.le_refl _) _, (h.row.set k _).congr (fun i _ => if_step i k _ z f rfl)⟩

theorem Fill.cellAt {w wr : World} {t L k : Nat} {z : Value} {f : Nat → Value} (h : Fill w wr t L k z f) (hk : k < L) : wr.cell? ⟨w.heap.size, k, none⟩ = some z := by
  rw [h.row.cell hk, if_neg (by omega)]

theorem Fill.done {w wr : World} {t L : Nat} {z : Value} {f : Nat → Value} (h : Fill w wr t L L z f) : wr.rowIs w.heap.size t L f := h.row.congr (fun _ hi => if_pos hi)

set_option maxHeartbeats 400000 in
/-- 'toIntS'. -/
theorem toS_any (A : Option Addr) (L C B O : Nat) (f : Nat → Int) (w : World) (hL : L ≤ 1048576) (hr : RowR w A L B O f) :
    Calls Tryd.prog 33 #[.slice A L C] w fun e w' => e = .returned (.slice (some ⟨w.heap.size, 0, none⟩) L L) ∧ w'.heap.size = w.heap.size + 1 ∧ Below w.heap.size w w' ∧ w'.rowIs w.heap.size 3 L (fun c => .int .i64 (f c)) := by
  have hmk := run_make_row' (P := Tryd.prog) 25 3 (.int .i64 0) 8 Tryd.underlying25 Tryd.info3 rfl .i64 .i64 L (by omega) (by omega)
  go_enter Tryd.func33, Tryd.ntmps33
  go_wp2
  clear hmk
  go_loopw [4] (fun i wr => ∃ k : Nat, k ≤ L ∧ i = .int .i64 k ∧ Fill w wr 3 L k (.int .i64 0) (fun c => .int .i64 (f c))) (fun i _ => L - (intOf i).toNat)
  case atStart => exact ⟨0, Nat.zero_le _, rfl, Fill.start _ _ _ _ _⟩
  case round =>
    obtain ⟨k, hk, rfl, hF⟩ := hrel
    by_cases hlt : k < L
    · obtain rfl := (hr k hlt).1
      have hc : wr.cell? ⟨B, O + k, none⟩ = some (.int .i64 (f k)) := (hr.below hF.bel k hlt).2
      have ho := hF.cellAt hlt
      have hz := hF.row.frozen k
      have hn := hF.step
      clear hr hF
      go_wp2
      go_roundw
      case rel => exact ⟨k + 1, by omega, by go_num, hn⟩
      case measure => simp [intOf]; omega
    · obtain rfl : k = L := by omega
      go_wp2
      go_ret
      exact ⟨rfl, hF.size, hF.bel, hF.done⟩

/-- A copy that is being made: k of its n rows are there. -/
structure Rows2 (w wr : World) (n : Nat) (L : Nat → Nat) (k : Nat) (M : Nat → Nat → Int) : Prop where
  size : wr.heap.size = w.heap.size + 1 + k
  bel : Below w.heap.size w wr
  top : wr.rowIs w.heap.size 25 n (fun j => if j < k then .slice (some ⟨w.heap.size + 1 + j, 0, none⟩) (L j) (L j) else .slice none 0 0)
  rows : ∀ j, j < k → wr.rowIs (w.heap.size + 1 + j) 3 (L j) (fun c => .int .i64 (M j c))

theorem Rows2.start (w : World) (n : Nat) (L : Nat → Nat) (M : Nat → Nat → Int) : Rows2 w (w.alloc (.cells (madeCells #[.slice none 0 0] n) 25)) n L 0 M :=
  ⟨by simp, (Below.refl _ _).alloc (Nat.le_refl _) _, (World.rowIs_made w _ n 25).congr (fun j _ => by simp), fun j hj => absurd hj (Nat.not_lt_zero _)⟩

theorem Rows2.step {w wr w1 : World} {n : Nat} {L : Nat → Nat} {k : Nat} {M : Nat → Nat → Int} (h : Rows2 w wr n L k M)
    (h1 : w1.heap.size = wr.heap.size + 1) (hb : Below wr.heap.size wr w1) (hr : w1.rowIs wr.heap.size 3 (L k) (fun c => .int .i64 (M k c))) :
    Rows2 w (w1.setCell ⟨w.heap.size, k, none⟩ (.slice (some ⟨wr.heap.size, 0, none⟩) (L k) (L k))) n L (k + 1) M := by
  have hs := h.size
  refine ⟨by simp [h1, hs]; omega, (h.bel.trans (hb.mono (by omega))).setCell (Nat.le_refl _) _, ?_, ?_⟩
  · refine ((h.top.of_block (hb.block _ (by omega))).set k _).congr (fun i _ => ?_)
    exact if_step (α := Value) i k _ (Value.slice none 0 0) (fun j => Value.slice (some ⟨w.heap.size + 1 + j, 0, none⟩) (L j) (L j)) (by rw [hs])
  · intro j hj
    by_cases e : j = k
    · subst e
      rw [hs] at hr
      exact hr.setOther (by show w.heap.size + 1 + j ≠ w.heap.size; omega) _
    · exact ((h.rows j (by omega)).of_block (hb.block _ (by omega))).setOther (by show w.heap.size + 1 + j ≠ w.heap.size; omega) _

/-- A whole copy, as it is read. -/
theorem Rows2.mat {w wr : World} {n : Nat} {L : Nat → Nat} {M : Nat → Nat → Int} (h : Rows2 w wr n L n M) :
    MatR wr w.heap.size 0 n (fun j => some ⟨w.heap.size + 1 + j, 0, none⟩) L L (fun j => w.heap.size + 1 + j) (fun _ => 0) M :=
  ⟨fun r hr => by rw [Nat.zero_add, h.top.cell hr, if_pos hr], fun r hr c hc => ⟨rfl, by rw [Nat.zero_add]; exact (h.rows r hr).cell hc⟩⟩

set_option maxHeartbeats 400000 in
/-- 'toIntSS'. -/
theorem toSS_any (ga : Option Addr) (gb go n cp : Nat) (A : Nat → Option Addr) (L C RB RO : Nat → Nat) (M : Nat → Nat → Int) (w : World) (hga : 0 < n → ga = some ⟨gb, go, none⟩)
    (hn : n ≤ 1048576) (hL : ∀ r, r < n → L r ≤ 1048576) (hM : MatR w gb go n A L C RB RO M) :
    Calls Tryd.prog 17 #[.slice ga n cp] w fun e w' => e = .returned (.slice (some ⟨w.heap.size, 0, none⟩) n n) ∧ Rows2 w w' n L n M := by
  have hmk := run_make_row' (P := Tryd.prog) 23 25 (.slice none 0 0) 24 Tryd.underlying23 Tryd.info25 rfl .i64 .i64 n (by omega) (by omega)
  go_enter Tryd.func17, Tryd.ntmps17
  go_wp2
  clear hmk
  go_loopw [4] (fun i wr => ∃ k : Nat, k ≤ n ∧ i = .int .i64 k ∧ Rows2 w wr n L k M) (fun i _ => n - (intOf i).toNat)
  case atStart => exact ⟨0, Nat.zero_le _, rfl, Rows2.start _ _ _ _⟩
  case round =>
    obtain ⟨k, hk, rfl, hF⟩ := hrel
    by_cases hlt : k < n
    · obtain rfl := hga (by omega)
      have hMr := hM.below hF.bel
      have hc := hMr.top k hlt
      have hrow : RowR wr (A k) (L k) (RB k) (RO k) (M k) := hMr.row k hlt
      have hLk := hL k hlt
      clear hM hMr hL
      go_wp2_with fail
      refine (toS_any _ _ _ _ _ _ _ hLk hrow).mono ?_
      rintro e w1 ⟨rfl, hs1, hb1, hr1⟩
      have hs := hF.size
      have ho : w1.cell? ⟨w.heap.size, k, none⟩ = some (.slice none 0 0) := by
        rw [(hF.top.of_block (hb1.block _ (by omega))).cell hlt, if_neg (by omega)]
      have hz : w1.frozen? ⟨w.heap.size, k, none⟩ = false := (hF.top.of_block (hb1.block _ (by omega))).frozen k
      have hn := hF.step hs1 hb1 hr1
      clear hs1 hb1 hr1 hF hs hrow
      go_wp2
      go_roundw
      case rel => exact ⟨k + 1, by omega, by go_num, hn⟩
      case measure => simp [intOf]; omega
    · obtain rfl : k = n := by omega
      go_wp2
      go_ret
      exact ⟨rfl, hF⟩

end Go.Proofs.YtgflalfiopnmnaaDoor
