import Derived.Test.YtgflalfiopnmnaaDoorRkSpec
import Derived.BigQuiet
import Derived.WalkSmall
namespace Go.Proofs.YtgflalfiopnmnaaDoor
open Go.RowKit Rk

/-- Counts that are being made: k rows are counted, and c numbers of the next. -/
structure Counts (w wr : World) (n : Nat) (M : Nat → Nat → Int) (k c : Nat) : Prop where
  size : wr.heap.size = w.heap.size + 1
  bel : Below w.heap.size w wr
  row : wr.rowIs w.heap.size 3 n (fun j => .int .i64 (cnt (fun x => M x j == 1) (if j < c then k + 1 else k) : Nat))

theorem Counts.start (w : World) (n : Nat) (M : Nat → Nat → Int) : Counts w (w.alloc (.cells (madeCells #[.int .i64 0] n) 3)) n M 0 0 :=
  ⟨by simp, (Below.refl _ _).alloc (Nat.le_refl _) _, (World.rowIs_made w _ n 3).congr (fun j _ => by simp [cnt])⟩

theorem Counts.miss {w wr : World} {n : Nat} {M : Nat → Nat → Int} {k c : Nat} (h : Counts w wr n M k c) (hm : ¬ M k c = 1) : Counts w wr n M k (c + 1) :=
  ⟨h.size, h.bel, h.row.congr fun j _ => by
    by_cases e : j = c
    · subst e; simp [cnt, hm]
    · by_cases hlt : j < c
      · rw [if_pos hlt, if_pos (by omega)]
      · rw [if_neg hlt, if_neg (by omega)]⟩

theorem Counts.hit {w wr : World} {n : Nat} {M : Nat → Nat → Int} {k c : Nat} (h : Counts w wr n M k c) (hm : M k c = 1) :
    Counts w (wr.setCell ⟨w.heap.size, c, none⟩ (.int .i64 ((cnt (fun x => M x c == 1) k : Nat) + 1))) n M k (c + 1) :=
  ⟨by simp [h.size], h.bel.setCell (Nat.le_refl _) _, (h.row.set c _).congr fun j _ => by
    by_cases e : j = c
    · subst e; simp [cnt, hm]
    · rw [if_neg e]
      by_cases hlt : j < c
      · rw [if_pos hlt, if_pos (by omega)]
      · rw [if_neg hlt, if_neg (by omega)]⟩

theorem Counts.next {w wr : World} {n : Nat} {M : Nat → Nat → Int} {k : Nat} (h : Counts w wr n M k n) : Counts w wr n M (k + 1) 0 :=
  ⟨h.size, h.bel, h.row.congr fun j hj => by rw [if_pos hj, if_neg (by omega)]⟩

theorem Counts.cellAt {w wr : World} {n : Nat} {M : Nat → Nat → Int} {k c : Nat} (h : Counts w wr n M k c) (hc : c < n) : wr.cell? ⟨w.heap.size, c, none⟩ = some (.int .i64 (cnt (fun x => M x c == 1) k : Nat)) := by
  rw [h.row.cell hc, if_neg (by omega)]

theorem Counts.done {w wr : World} {n : Nat} {M : Nat → Nat → Int} (h : Counts w wr n M n 0) : wr.rowIs w.heap.size 3 n (fun j => .int .i64 (rank n M j : Nat)) :=
  h.row.congr fun j _ => by rw [if_neg (by omega)]; rfl

set_option maxHeartbeats 1000000 in
set_option maxRecDepth 100000 in
/-- 'countsAhead' of a square. -/
theorem counts_any (ga : Option Addr) (gb go n cp : Nat) (A : Nat → Option Addr) (L C RB RO : Nat → Nat) (M : Nat → Nat → Int) (w : World) (hga : 0 < n → ga = some ⟨gb, go, none⟩)
    (HS : Hid (Sq n L M)) (HM : Hid (MatR w gb go n A L C RB RO M)) :
    Calls Tryd.prog 29 #[.slice ga n cp] w fun e w' => e = .returned (.slice (some ⟨w.heap.size, 0, none⟩) n n) ∧ w'.heap.size = w.heap.size + 1 ∧ Below w.heap.size w w' ∧ w'.rowIs w.heap.size 3 n (fun j => .int .i64 (rank n M j : Nat)) := by
  have h200 : n ≤ 200 := HS.out.1
  have hmk := run_make_row' (P := Tryd.prog) 25 3 (.int .i64 0) 8 Tryd.underlying25 Tryd.info3 rfl .i64 .i64 n (by omega) (by omega)
  go_enter Tryd.func29, Tryd.ntmps29
  go_wp2
  clear hmk
  go_loopw [13] (fun i wr => ∃ k : Nat, k ≤ n ∧ i = .int .i64 k ∧ Counts w wr n M k 0) (fun i _ => n - (intOf i).toNat)
  case atStart => exact ⟨0, Nat.zero_le _, rfl, Counts.start _ _ _⟩
  case round =>
    obtain ⟨k, hk, rfl, hF⟩ := hrel
    by_cases hlt : k < n
    · obtain rfl := hga (by omega)
      have ta := (HM.out.below hF.bel).topAt HS.out hlt
      obtain ⟨wo, rfl⟩ : ∃ wo : World, wo = wr := ⟨_, rfl⟩
      go_wp2
      go_loopw [19] (fun i wr => ∃ c : Nat, c ≤ n ∧ i = .int .i64 c ∧ Counts w wr n M k c) (fun i _ => n - (intOf i).toNat)
      case atStart => exact ⟨0, Nat.zero_le _, rfl, hF⟩
      case round =>
        obtain ⟨c, hc, rfl, hG⟩ := hrel
        clear hF ta
        by_cases hcl : c < n
        · have v := (HM.out.below hG.bel).valAt HS.out hlt hcl
          have ho := hG.cellAt hcl
          have hz := hG.row.frozen c
          have hle := cnt_le (fun x => M x c == 1) k
          by_cases e : M k c = 1
          · have hn := hG.hit e
            rw [e] at v
            obtain ⟨q, hq⟩ : ∃ q, cnt (fun x => M x c == 1) k = q := ⟨_, rfl⟩
            rw [hq] at ho hle hn
            clear hG e hq
            go_wp2
            go_roundw
            case rel => exact ⟨c + 1, by omega, by go_num, hn⟩
            case measure => simp [intOf]; omega
          · have hn := hG.miss e
            have hne : (M k c == 1) = false := by simpa using e
            clear hG e ho hz hle
            go_wp2
            go_roundw
            case rel => exact ⟨c + 1, by omega, by go_num, hn⟩
            case measure => simp [intOf]; omega
        · obtain rfl : c = n := by omega
          go_wp2
          go_roundw
          case rel => exact ⟨k + 1, by omega, by go_num, hG.next⟩
          case measure => simp [intOf]; omega
    · obtain rfl : k = n := by omega
      go_wp2
      go_ret
      exact ⟨rfl, hF.size, hF.bel, hF.done⟩

end Go.Proofs.YtgflalfiopnmnaaDoor
