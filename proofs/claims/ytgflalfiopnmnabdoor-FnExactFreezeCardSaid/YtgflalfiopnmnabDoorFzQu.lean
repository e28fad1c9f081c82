import Derived.Test.YtgflalfiopnmnabDoorFzPut
import Derived.Lib.ConvBytes
namespace Go.Proofs.YtgflalfiopnmnabDoor
open Go.RowKit Vl

/-- One piece, laid anew. -/
theorem pcs_new (w : World) (s : ByteArray) : Pcs (w.alloc (.cells #[.string s] 9)) w.heap.size [s] := by
  unfold Pcs
  exact heap_alloc_new w _
theorem below_alloc (w : World) (o : Obj) : Below w.heap.size w (w.alloc o) := (Below.refl _ _).alloc (Nat.le_refl _) _

set_option maxRecDepth 100000 in
theorem mustEscape_any (b : Nat) (w : World) : Calls Tryd.prog 61 #[.int .u8 (b : Int)] w fun e w' => e = .returned (.bool (decide (b < 32 ∨ 126 < b))) ∧ w' = w := by
  by_cases h1 : b < 32
  · have g1 : ((b : Int) < 32) := by omega
    have hR : Hid (decide (b < 32 ∨ 126 < b) = true) := show _ = _ by simp [h1]
    rw [hR.out]
    clear h1
    go_enter Tryd.func61, Tryd.ntmps61
    go_wp2
    go_ret
    exact ⟨by first | rfl | simp, rfl⟩
  · have g1 : ¬ ((b : Int) < 32) := by omega
    by_cases h2 : 126 < b
    · have g2 : ((126 : Int) < (b : Int)) := by omega
      have hR : Hid (decide (b < 32 ∨ 126 < b) = true) := show _ = _ by simp [h2]
      rw [hR.out]
      clear h1 h2
      go_enter Tryd.func61, Tryd.ntmps61
      go_wp2
      go_ret
      exact ⟨by first | rfl | simp, rfl⟩
    · have g2 : ¬ ((126 : Int) < (b : Int)) := by omega
      have hR : Hid (decide (b < 32 ∨ 126 < b) = false) := show _ = _ by simp [h1, h2]
      rw [hR.out]
      clear h1 h2
      go_enter Tryd.func61, Tryd.ntmps61
      go_wp2
      go_ret
      exact ⟨by first | rfl | simp, rfl⟩

abbrev hexS : ByteArray := ⟨#[48, 49, 50, 51, 52, 53, 54, 55, 56, 57, 97, 98, 99, 100, 101, 102]⟩
theorem lt16 {P : Nat → Prop} (h : ∀ d, d ∈ [0, 1, 2, 3, 4, 5, 6, 7, 8, 9, 10, 11, 12, 13, 14, 15] → P d) {d : Nat} (hd : d < 16) : P d := by
  refine h d ?_
  have : d = 0 ∨ d = 1 ∨ d = 2 ∨ d = 3 ∨ d = 4 ∨ d = 5 ∨ d = 6 ∨ d = 7 ∨ d = 8 ∨ d = 9 ∨ d = 10 ∨ d = 11 ∨ d = 12 ∨ d = 13 ∨ d = 14 ∨ d = 15 := by omega
  rcases this with rfl | rfl | rfl | rfl | rfl | rfl | rfl | rfl | rfl | rfl | rfl | rfl | rfl | rfl | rfl | rfl <;> simp
theorem hex_run {d : Nat} (hd : d < 16) (w : World) : (Instr.index 9 (.string hexS) (.int .u8 (d : Int))).run Tryd.prog w = .ok (.int .u8 ((hexB d).toNat : Int)) w := by
  refine lt16 (P := fun d => (Instr.index 9 (.string hexS) (.int .u8 (d : Int))).run Tryd.prog w = .ok (.int .u8 ((hexB d).toNat : Int)) w) (fun d hd => ?_) hd
  simp only [List.mem_cons, List.not_mem_nil, or_false] at hd
  rcases hd with rfl | rfl | rfl | rfl | rfl | rfl | rfl | rfl | rfl | rfl | rfl | rfl | rfl | rfl | rfl | rfl <;> kernel_rfl
theorem wrapU8 {n : Int} (h0 : 0 ≤ n) (h1 : n < 256) : IntKind.u8.wrap n = n := by
  unfold IntKind.wrap
  simp [IntKind.bits, IntKind.signed]
  omega
end Go.Proofs.YtgflalfiopnmnabDoor
