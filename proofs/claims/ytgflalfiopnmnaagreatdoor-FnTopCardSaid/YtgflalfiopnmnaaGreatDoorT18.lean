import Derived.Test.YtgflalfiopnmnaaGreatDoorT0
import Derived.Test.YtgflalfiopnmnaaGreatDoorT17
import Derived.Test.YtgflalfiopnmnaaGreatDoorT16
import Derived.Test.YtgflalfiopnmnaaGreatDoorT1
import Derived.Test.YtgflalfiopnmnaaGreatDoorT5
import Derived.Test.YtgflalfiopnmnaaGreatDoorT4
import Derived.Test.YtgflalfiopnmnaaGreatDoorT2
import Derived.Deep.CutRange
import Derived.Test.YtgflalfiopnmnaaGreatDoorT3
import Derived.Test.YtgflalfiopnmnaaGreatDoorT7
import Derived.Test.YtgflalfiopnmnaaGreatDoorT9
import Derived.Deep.CutBlock
import Derived.Test.YtgflalfiopnmnaaGreatDoorT13
namespace Go.Proofs.YtgflalfiopnmnaaGreatDoor
open Go.RowKit Vl

theorem Tryz.infoI : (Tryz.prog.info? 3).map (fun i => (i.zero, i.size, i.bytes)) = some (some (.int .i64 0), 1, 8) := by kernel_rfl
theorem fz_alloc4 (w : World) (a b c d : Obj) : ((((w.alloc a).alloc b).alloc c).alloc d).heap[w.heap.size]? = some a ∧ ((((w.alloc a).alloc b).alloc c).alloc d).heap[w.heap.size + 1]? = some b ∧ ((((w.alloc a).alloc b).alloc c).alloc d).heap[w.heap.size + 2]? = some c ∧ ((((w.alloc a).alloc b).alloc c).alloc d).heap[w.heap.size + 3]? = some d ∧ ((((w.alloc a).alloc b).alloc c).alloc d).heap.size = w.heap.size + 4 ∧ Below w.heap.size w ((((w.alloc a).alloc b).alloc c).alloc d) := by
  have A := alloc2 w a b
  have B := alloc2 ((w.alloc a).alloc b) c d
  rw [A.2.2.1] at B
  refine ⟨blkB A.1 (by rw [A.2.2.1]; exact B.2.2.2), blkB A.2.1 (by rw [A.2.2.1]; exact B.2.2.2), B.1, B.2.1, B.2.2.1, A.2.2.2.trans (B.2.2.2.mono (by omega))⟩
theorem made_zero {w : World} {B n : Nat} (h : w.heap[B]? = some (.cells (madeCells #[.int .i64 0] n) 3 (0, 0))) : w.rowIs B 3 n (fun _ => .int .i64 ((0 : Nat) : Int)) := by
  have h1 := row_made w #[.int .i64 0] n 3
  obtain ⟨c, hc, hs, hv⟩ := h1
  rw [heap_alloc_new] at hc
  simp only [Option.some.injEq, Obj.cells.injEq, and_true] at hc
  refine ⟨madeCells #[.int .i64 0] n, h, ?_, fun i hi => ?_⟩
  · rw [hc]; simpa using hs
  · rw [hc]
    have := hv i (by simpa using hi)
    simpa [Nat.mod_one] using this

theorem sfw0 {w : World} {LB XB FB : Nat} {u : V} {ta : Option Addr} {n cp : Nat} {w1 : World} (hb : Below w.heap.size w w1) (h1 : w1.heap[LB]? = some (.cells (madeCells #[.int .i64 0] n) 3 (0, 0))) (h2 : w1.heap[XB]? = some (.cells (madeCells #[.int .i64 0] n) 3 (0, 0)))
    (h3 : w1.heap[FB]? = some (.cells #[.int .i64 u.k, .int .i64 u.n, .string u.s, .int .i64 u.a, .slice ta n cp, .slice (some ⟨LB, 0, none⟩) n n, .slice (some ⟨XB, 0, none⟩) n n, .int .i64 0, .slice none 0 0] 137 (0, 0))) : SfW w w1 FB LB XB (FB + 1) u ta n cp (fun _ => 0) ft0 (.slice none 0 0) :=
  ⟨h3, made_zero h1, made_zero h2, World.ownsRow_nil _ _ _ _, hb⟩

set_option maxHeartbeats 2000000 in
set_option maxRecDepth 100000 in
theorem l4freeze_any (u : V) (ta : Option Addr) (n cp TB TO : Nat) (A : Nat → Option Addr) (L C RB RO : Nat → Nat) (K X : Nat → Nat → V) (w : World) (HG : Hid (OkG n u L K X)) (HT : Hid (TabsAt w ta n TB TO A L C RB RO K X)) (HR : Hid (Rgs n u L K X)) :
    Calls Tryz.prog 29 #[.agg #[.int .i64 u.k, .int .i64 u.n, .string u.s, .int .i64 u.a, .slice ta n cp]] w fun e w' => e = .returned (.string ⟨(wrAll n u L K X).out.toArray⟩) ∧ Below w.heap.size w w' := by
  have hn : n ≤ 200 := HG.out.len
  have hmk := run_make_n 93 3 _ 1 8 Tryz.underlying93 Tryz.infoI n (by omega) (by omega)
  go_enter Tryz.func29, Tryz.ntmps29
  go_wp2
  go_region
  all_goals (try go_wp2_with fail)
  all_goals clear hmk
  · have A4 := fz_alloc4 w (.cells #[.int .i64 u.k, .int .i64 u.n, .string u.s, .int .i64 u.a, .slice ta n cp] 27) (.cells (madeCells #[.int .i64 0] n) 3) (.cells (madeCells #[.int .i64 0] n) 3) (.cells #[.int .i64 u.k, .int .i64 u.n, .string u.s, .int .i64 u.a, .slice ta n cp, .slice (some ⟨w.heap.size + 1, 0, none⟩) n n, .slice (some ⟨w.heap.size + 1 + 1, 0, none⟩) n n, .int .i64 0, .slice none 0 0] 137)
    obtain ⟨w1, hw1⟩ : ∃ w1, w1 = ((((w.alloc (.cells #[.int .i64 u.k, .int .i64 u.n, .string u.s, .int .i64 u.a, .slice ta n cp] 27)).alloc (.cells (madeCells #[.int .i64 0] n) 3)).alloc (.cells (madeCells #[.int .i64 0] n) 3)).alloc (.cells #[.int .i64 u.k, .int .i64 u.n, .string u.s, .int .i64 u.a, .slice ta n cp, .slice (some ⟨w.heap.size + 1, 0, none⟩) n n, .slice (some ⟨w.heap.size + 1 + 1, 0, none⟩) n n, .int .i64 0, .slice none 0 0] 137)).drew := ⟨_, rfl⟩
    rw [← hw1]
    have HB1 : Hid (Below w.heap.size w w1) := by rw [hw1]; exact A4.2.2.2.2.2.drew
    have HG1 : Hid (w1.heap[w.heap.size]? = some (.cells #[.int .i64 u.k, .int .i64 u.n, .string u.s, .int .i64 u.a, .slice ta n cp] 27 (0, 0))) := by rw [hw1]; exact A4.1
    have HF1 : Hid (SfW w w1 (w.heap.size + 1 + 1 + 1) (w.heap.size + 1) (w.heap.size + 1 + 1) (w.heap.size + 1 + 1 + 1 + 1) u ta n cp (fun _ => 0) ft0 (.slice none 0 0)) := by
      rw [hw1]
      exact sfw0 A4.2.2.2.2.2.drew A4.2.1 A4.2.2.1 A4.2.2.2.1
    have hz1 : w1.heap.size = w.heap.size + 4 := by rw [hw1]; exact A4.2.2.2.2.1
    have HBs : Hid (SfB w (w.heap.size + 1 + 1 + 1) (w.heap.size + 1) (w.heap.size + 1 + 1) (w.heap.size + 1 + 1 + 1 + 1)) := ⟨by omega, by omega, by omega, by omega, by omega, by omega, by omega, by omega, by omega⟩
    have HCat := cat0 (L := L) (X := X) HG.out.len (good_of HG.out) (fun r hr => (HG.out.all r hr).len) HG.out.root
    have HEv : Hid (SEnv w n TB TO cp ta A L C RB RO K X (w.heap.size + 1 + 1 + 1) (w.heap.size + 1) (w.heap.size + 1 + 1) (w.heap.size + 1 + 1 + 1 + 1) (cntAll n u L X)) := ⟨HG.out.len, fun r hr => (HG.out.all r hr).len, good_of HG.out, HT.out, HBs.out, plain_of_ok HG.out HR.out, HCat.le⟩
    have hcnt := count_any n TB TO cp ta A L C RB RO K X u w (w.heap.size + 1 + 1 + 1) (w.heap.size + 1) (w.heap.size + 1 + 1) (w.heap.size + 1 + 1 + 1 + 1) ft0 (.slice none 0 0) hn (show ∀ r, _ from fun r hr => (HG.out.all r hr).len) (good_of HG.out) HT HBs (n + 1) [] (fun _ => 0) u w1 HCat HF1
    clear hw1 A4
    refine hcnt.mono ?_
    clear hcnt HF1
    rintro e w2 ⟨rfl, hW2, hO2⟩
    have HW2 : Hid (SfW w w2 (w.heap.size + 1 + 1 + 1) (w.heap.size + 1) (w.heap.size + 1 + 1) (w.heap.size + 1 + 1 + 1 + 1) u ta n cp (cntAll n u L X) ft0 (.slice none 0 0)) := hW2
    have HG2 : Hid (w2.heap[w.heap.size]? = some (.cells #[.int .i64 u.k, .int .i64 u.n, .string u.s, .int .i64 u.a, .slice ta n cp] 27 (0, 0))) := (hO2.block _ (blk_lt HG1.out) (by omega)).trans HG1.out
    have hz2 : w.heap.size + 1 + 1 + 1 + 1 ≤ w2.heap.size := by have := hO2.size; omega
    obtain ⟨g0, g1, g2, g3, _, _⟩ := cells5 HG2.out
    have hval := sval_any w n TB TO cp ta A L C RB RO K X u (w.heap.size + 1 + 1 + 1) (w.heap.size + 1) (w.heap.size + 1 + 1) (w.heap.size + 1 + 1 + 1 + 1) (cntAll n u L X) HEv (n + 1) [] (fun _ => 0) ft0 u w2 (.slice none 0 0) (wat0 HG.out.root) ⟨short_of HG.out.root, HR.out.1⟩ (wrAll_len HG.out HR.out) hz2 HW2
    clear hW2 hO2
    go_wp2_with fail
    refine hval.mono ?_
    clear hval g0 g1 g2 g3
    rintro e w3 ⟨rfl, o3, hW3, hF3⟩
    have HW3 : Hid (SfW w w3 (w.heap.size + 1 + 1 + 1) (w.heap.size + 1) (w.heap.size + 1 + 1) (w.heap.size + 1 + 1 + 1 + 1) u ta n cp (cntAll n u L X) (wrAll n u L K X) o3) := hW3
    have hne : (wrAll n u L K X).out ≠ [] := fun e => by
      have h2 : 0 < (wrAll n u L K X).out.length := frz_pos (Q := cntAll n u L X) (L := L) (K := K) (X := X) n ft0 u
      rw [e] at h2
      simp at h2
    have hcv := own_string HW3.out.own hne
    obtain ⟨_, _, _, _, x8, _⟩ := nine_at HW3.out.blk
    obtain ⟨oa, oc, rfl, _⟩ := owns_form HW3.out.own
    obtain ⟨str, hstr⟩ : ∃ str : ByteArray, ⟨(wrAll n u L K X).out.toArray⟩ = str := ⟨_, rfl⟩
    have HST : Hid ((⟨(wrAll n u L K X).out.toArray⟩ : ByteArray) = str) := hstr
    rw [hstr] at hcv
    clear hW3 hF3 hne hstr
    go_wp2
    go_ret
    exact ⟨by rw [HST.out]; rfl, HW3.out.bel⟩
  · have A4 := fz_alloc4 w (.cells #[.int .i64 u.k, .int .i64 u.n, .string u.s, .int .i64 u.a, .slice ta n cp] 27) (.cells (madeCells #[.int .i64 0] n) 3) (.cells (madeCells #[.int .i64 0] n) 3) (.cells #[.int .i64 u.k, .int .i64 u.n, .string u.s, .int .i64 u.a, .slice ta n cp, .slice (some ⟨w.heap.size + 1 + 1, 0, none⟩) n n, .slice (some ⟨w.heap.size + 1, 0, none⟩) n n, .int .i64 0, .slice none 0 0] 137)
    obtain ⟨w1, hw1⟩ : ∃ w1, w1 = ((((w.alloc (.cells #[.int .i64 u.k, .int .i64 u.n, .string u.s, .int .i64 u.a, .slice ta n cp] 27)).alloc (.cells (madeCells #[.int .i64 0] n) 3)).alloc (.cells (madeCells #[.int .i64 0] n) 3)).alloc (.cells #[.int .i64 u.k, .int .i64 u.n, .string u.s, .int .i64 u.a, .slice ta n cp, .slice (some ⟨w.heap.size + 1 + 1, 0, none⟩) n n, .slice (some ⟨w.heap.size + 1, 0, none⟩) n n, .int .i64 0, .slice none 0 0] 137)).drew := ⟨_, rfl⟩
    rw [← hw1]
    have HB1 : Hid (Below w.heap.size w w1) := by rw [hw1]; exact A4.2.2.2.2.2.drew
    have HG1 : Hid (w1.heap[w.heap.size]? = some (.cells #[.int .i64 u.k, .int .i64 u.n, .string u.s, .int .i64 u.a, .slice ta n cp] 27 (0, 0))) := by rw [hw1]; exact A4.1
    have HF1 : Hid (SfW w w1 (w.heap.size + 1 + 1 + 1) (w.heap.size + 1 + 1) (w.heap.size + 1) (w.heap.size + 1 + 1 + 1 + 1) u ta n cp (fun _ => 0) ft0 (.slice none 0 0)) := by
      rw [hw1]
      exact sfw0 A4.2.2.2.2.2.drew A4.2.2.1 A4.2.1 A4.2.2.2.1
    have hz1 : w1.heap.size = w.heap.size + 4 := by rw [hw1]; exact A4.2.2.2.2.1
    have HBs : Hid (SfB w (w.heap.size + 1 + 1 + 1) (w.heap.size + 1 + 1) (w.heap.size + 1) (w.heap.size + 1 + 1 + 1 + 1)) := ⟨by omega, by omega, by omega, by omega, by omega, by omega, by omega, by omega, by omega⟩
    have HCat := cat0 (L := L) (X := X) HG.out.len (good_of HG.out) (fun r hr => (HG.out.all r hr).len) HG.out.root
    have HEv : Hid (SEnv w n TB TO cp ta A L C RB RO K X (w.heap.size + 1 + 1 + 1) (w.heap.size + 1 + 1) (w.heap.size + 1) (w.heap.size + 1 + 1 + 1 + 1) (cntAll n u L X)) := ⟨HG.out.len, fun r hr => (HG.out.all r hr).len, good_of HG.out, HT.out, HBs.out, plain_of_ok HG.out HR.out, HCat.le⟩
    have hcnt := count_any n TB TO cp ta A L C RB RO K X u w (w.heap.size + 1 + 1 + 1) (w.heap.size + 1 + 1) (w.heap.size + 1) (w.heap.size + 1 + 1 + 1 + 1) ft0 (.slice none 0 0) hn (show ∀ r, _ from fun r hr => (HG.out.all r hr).len) (good_of HG.out) HT HBs (n + 1) [] (fun _ => 0) u w1 HCat HF1
    clear hw1 A4
    refine hcnt.mono ?_
    clear hcnt HF1
    rintro e w2 ⟨rfl, hW2, hO2⟩
    have HW2 : Hid (SfW w w2 (w.heap.size + 1 + 1 + 1) (w.heap.size + 1 + 1) (w.heap.size + 1) (w.heap.size + 1 + 1 + 1 + 1) u ta n cp (cntAll n u L X) ft0 (.slice none 0 0)) := hW2
    have HG2 : Hid (w2.heap[w.heap.size]? = some (.cells #[.int .i64 u.k, .int .i64 u.n, .string u.s, .int .i64 u.a, .slice ta n cp] 27 (0, 0))) := (hO2.block _ (blk_lt HG1.out) (by omega)).trans HG1.out
    have hz2 : w.heap.size + 1 + 1 + 1 + 1 ≤ w2.heap.size := by have := hO2.size; omega
    obtain ⟨g0, g1, g2, g3, _, _⟩ := cells5 HG2.out
    have hval := sval_any w n TB TO cp ta A L C RB RO K X u (w.heap.size + 1 + 1 + 1) (w.heap.size + 1 + 1) (w.heap.size + 1) (w.heap.size + 1 + 1 + 1 + 1) (cntAll n u L X) HEv (n + 1) [] (fun _ => 0) ft0 u w2 (.slice none 0 0) (wat0 HG.out.root) ⟨short_of HG.out.root, HR.out.1⟩ (wrAll_len HG.out HR.out) hz2 HW2
    clear hW2 hO2
    go_wp2_with fail
    refine hval.mono ?_
    clear hval g0 g1 g2 g3
    rintro e w3 ⟨rfl, o3, hW3, hF3⟩
    have HW3 : Hid (SfW w w3 (w.heap.size + 1 + 1 + 1) (w.heap.size + 1 + 1) (w.heap.size + 1) (w.heap.size + 1 + 1 + 1 + 1) u ta n cp (cntAll n u L X) (wrAll n u L K X) o3) := hW3
    have hne : (wrAll n u L K X).out ≠ [] := fun e => by
      have h2 : 0 < (wrAll n u L K X).out.length := frz_pos (Q := cntAll n u L X) (L := L) (K := K) (X := X) n ft0 u
      rw [e] at h2
      simp at h2
    have hcv := own_string HW3.out.own hne
    obtain ⟨_, _, _, _, x8, _⟩ := nine_at HW3.out.blk
    obtain ⟨oa, oc, rfl, _⟩ := owns_form HW3.out.own
    obtain ⟨str, hstr⟩ : ∃ str : ByteArray, ⟨(wrAll n u L K X).out.toArray⟩ = str := ⟨_, rfl⟩
    have HST : Hid ((⟨(wrAll n u L K X).out.toArray⟩ : ByteArray) = str) := hstr
    rw [hstr] at hcv
    clear hW3 hF3 hne hstr
    go_wp2
    go_ret
    exact ⟨by rw [HST.out]; rfl, HW3.out.bel⟩

set_option maxHeartbeats 1000000 in
set_option maxRecDepth 100000 in
theorem specFreeze_any (u : V) (ta : Option Addr) (n cp TB TO : Nat) (A : Nat → Option Addr) (L C RB RO : Nat → Nat) (K X : Nat → Nat → V) (w : World) (hn : n ≤ 1048576) (HS : Hid (Small 1048576 n L K X)) (HT : Hid (TabsAt w ta n TB TO A L C RB RO K X)) (HR : Hid (Rgs n u L K X)) :
    Calls Tryz.prog 8 #[.agg #[.int .i64 u.k, .int .i64 u.n, .string u.s, .int .i64 u.a, .slice ta n cp]] w fun e w' => FrzIs e n u L K X ∧ Below w.heap.size w w' := by
  obtain ⟨w0, hw0⟩ : ∃ w0, w0 = w.alloc (.cells #[.int .i64 u.k, .int .i64 u.n, .string u.s, .int .i64 u.a, .slice ta n cp] 27) := ⟨_, rfl⟩
  have HB0 : Hid (Below w.heap.size w w0) := by rw [hw0]; exact below_alloc _ _
  have HG0 : Hid (w0.heap[w.heap.size]? = some (.cells #[.int .i64 u.k, .int .i64 u.n, .string u.s, .int .i64 u.a, .slice ta n cp] 27 (0, 0))) := by rw [hw0]; exact heap_alloc_new _ _
  have hsp := specOk_any u ta n cp TB TO A L C RB RO K X w0 hn HS (HT.out.below HB0.out)
  go_enter Tryz.func8, Tryz.ntmps8
  go_wp2_with fail
  rw [← hw0]
  refine hsp.mono ?_
  clear hsp hw0
  rintro e w1 ⟨⟨bs, rfl, hbs⟩, hb1⟩
  have HB1 : Hid (Below w.heap.size w w1) := HB0.out.trans (hb1.mono HB0.out.size)
  have HG1 : Hid (w1.heap[w.heap.size]? = some (.cells #[.int .i64 u.k, .int .i64 u.n, .string u.s, .int .i64 u.a, .slice ta n cp] 27 (0, 0))) := blkB HG0.out hb1
  have HBS : Hid (bs = true ↔ OkG n u L K X) := hbs
  clear hb1 hbs HB0 HG0
  obtain ⟨g0, g1, g2, g3, g4, _⟩ := cells5 HG1.out
  cases bs with
  | false =>
    have HN : Hid (¬ OkG n u L K X) := show ¬ _ from fun h => by cases HBS.out.2 h
    go_wp2
    go_ret
    exact ⟨Or.inr ⟨HN.out, rfl⟩, HB1.out⟩
  | true =>
    have HOk : Hid (OkG n u L K X) := HBS.out.1 rfl
    have hfr := l4freeze_any u ta n cp TB TO A L C RB RO K X w1 HOk (HT.out.below HB1.out) HR
    obtain ⟨str, hstr⟩ : ∃ str : ByteArray, ⟨(wrAll n u L K X).out.toArray⟩ = str := ⟨_, rfl⟩
    have HSZ : Hid (str.size = (wrAll n u L K X).out.length) := by rw [← hstr]; show _ = _; rw [← str_len]
    have HST : Hid (frzS n u L K X = if 20000 < str.size then ⟨#[]⟩ else str) := by
      rw [HSZ.out, ← hstr]
      exact rfl
    have hsb : str.size ≤ 100000000 := by rw [HSZ.out]; exact wrAll_len HOk.out HR.out
    rw [hstr] at hfr
    clear hstr
    go_wp2_with fail
    refine hfr.mono ?_
    clear hfr g0 g1 g2 g3 g4
    rintro e w2 ⟨rfl, hb2⟩
    have HB2 : Hid (Below w.heap.size w w2) := HB1.out.trans (hb2.mono HB1.out.size)
    clear hb2
    by_cases hl : 20000 < str.size
    · have hli : (20000 : Int) < (str.size : Int) := by omega
      have hld : decide ((20000 : Int) < (str.size : Int)) = true := decide_eq_true hli
      rw [if_pos hl] at HST
      have HF : Hid (FrzIs (.returned (.string ⟨#[]⟩)) n u L K X) := Or.inl ⟨HOk.out, by rw [HST.out]⟩
      clear hl
      go_wp2
      go_ret
      exact ⟨HF.out, HB2.out⟩
    · have hli : ¬ ((20000 : Int) < (str.size : Int)) := by omega
      have hld : decide ((20000 : Int) < (str.size : Int)) = false := decide_eq_false hli
      rw [if_neg hl] at HST
      have HF : Hid (FrzIs (.returned (.string str)) n u L K X) := Or.inl ⟨HOk.out, by rw [HST.out]⟩
      clear hl
      go_wp2
      go_ret
      exact ⟨HF.out, HB2.out⟩
end Go.Proofs.YtgflalfiopnmnaaGreatDoor

namespace Go.Proofs.YtgflalfiopnmnaaGreatDoor
open Go.RowKit Vl

set_option maxHeartbeats 1000000 in
set_option maxRecDepth 100000 in
theorem implCanon_any (u : V) (ta : Option Addr) (n cp TB TO : Nat) (A : Nat → Option Addr) (L C RB RO : Nat → Nat) (K X : Nat → Nat → V) (w : World) (hn : n ≤ 1048576) (HS : Hid (Small 1048576 n L K X)) (HT : Hid (TabsAt w ta n TB TO A L C RB RO K X)) :
    Calls Tryz.prog 10 #[.agg #[.int .i64 u.k, .int .i64 u.n, .string u.s, .int .i64 u.a, .slice ta n cp]] w fun e w' => CanonIs w w' e n u L K X ∧ Below w.heap.size w w' := by
  have A2 : Hid _ := alloc2 w (.cells #[.int .i64 u.k, .int .i64 u.n, .string u.s, .int .i64 u.a, .slice ta n cp] 27) (.cells #[.int .i64 0, .int .i64 0, .string ⟨#[]⟩, .int .i64 0, .slice none 0 0] 27)
  obtain ⟨w0, hw0⟩ : ∃ w0, w0 = (w.alloc (.cells #[.int .i64 u.k, .int .i64 u.n, .string u.s, .int .i64 u.a, .slice ta n cp] 27)).alloc (.cells #[.int .i64 0, .int .i64 0, .string ⟨#[]⟩, .int .i64 0, .slice none 0 0] 27) := ⟨_, rfl⟩
  have H0 : Hid (CanW w w0 u ta n cp) := by rw [hw0]; exact ⟨A2.out.1, A2.out.2.1, A2.out.2.2.2⟩
  have HS0 : Hid (w0.heap.size = w.heap.size + 2) := by rw [hw0]; exact A2.out.2.2.1
  clear A2
  have hlk := link_any u ta n cp TB TO A L C RB RO K X w0 hn HS (HT.out.below H0.out.bel)
  go_enter Tryz.func10, Tryz.ntmps10
  go_wp2_with fail
  rw [← hw0]
  refine hlk.mono ?_
  clear hlk hw0
  rintro e w1 ⟨hcase, hb1⟩
  have H1 : Hid (CanW w w1 u ta n cp) := H0.out.below hb1
  clear hb1 H0
  rcases hcase with ⟨hG, rfl, base, hH⟩ | ⟨hN, rfl⟩
  · have HG : Hid (OkG n u L K X) := hG
    have HH : Hid (Half w1 w0.heap.size n n base L K X) := hH
    obtain ⟨b, hb⟩ : ∃ b, w0.heap.size = b := ⟨_, rfl⟩
    rw [hb] at HH HS0 ⊢
    clear hG hH hb
    obtain ⟨xt, xy, hxv⟩ := ifv_form (tT b) u
    have HXV : Hid (ifv (tT b) u = .iface xt xy) := hxv
    rw [hxv]
    clear hxv
    obtain ⟨w2, hw2⟩ : ∃ w2, w2 = w1.alloc (.cells #[.iface xt xy, .slice (some ⟨b + 2, 0, none⟩) n n] 57) := ⟨_, rfl⟩
    have hb2 : Below w1.heap.size w1 w2 := by rw [hw2]; exact (Below.refl _ _).alloc (Nat.le_refl _) _
    have H2 : Hid (CanW w w2 u ta n cp) := H1.out.below hb2
    have HT2 : Hid (Tbs w2 n (tT b) (tM b) (fun j => (j : Nat)) L K X) := (HH.out.tbs HG.out).below hb2
    obtain ⟨S, HSo⟩ : ∃ S, Hid (order n u L X = S) := ⟨_, rfl⟩
    have hcan := canonical_any n (tT b) (tM b) _ L K X u w2 (by have := HG.out.len; omega) (show ∀ r, _ from fun r hr => (HG.out.all r hr).len) (good_of HG.out) HG.out.root HT2 S HSo
    rw [HXV.out] at hcan
    obtain ⟨ru, HRU⟩ : ∃ ru, Hid (renum S u = ru) := ⟨_, rfl⟩
    rw [HRU.out] at hcan
    clear HH H1 hb2
    go_wp2_with fail
    rw [← hw2]
    refine hcan.mono ?_
    clear hcan hw2
    rintro e w3 ⟨⟨tv, PV, bs, hbs, rfl, hO⟩, hL⟩
    have H3 : Hid (CanW w w3 u ta n cp) := H2.out.only hL (fun k ⟨j, hj, e⟩ => by have := HS0.out; rw [e]; unfold tT; omega)
    have HO : Hid (OTab w3 bs tv S.length PV (cL S L) (cK S K) (cX S X)) := hO
    have hs2 : w.heap.size + 1 < w2.heap.size := blk_lt H2.out.res
    clear hO hL H2 HT2
    obtain ⟨ta', tc', rfl, _⟩ := owns_form HO.out.own
    obtain ⟨r0, r1, r2, r3, r4, r5⟩ := cells5 H3.out.res
    simp only [zeroV] at r0 r1 r2 r3
    go_wp2
    have F := put5hi (put5lo H3.out.res (.int .i64 ru.k) (.int .i64 ru.n) (.string ru.s) (.int .i64 ru.a)) (.slice ta' S.length tc')
    obtain ⟨wf, hwf⟩ : ∃ wf, wf = ((((w3.setCell ⟨w.heap.size + 1, 0, none⟩ (.int .i64 ru.k)).setCell ⟨w.heap.size + 1, 1, none⟩ (.int .i64 ru.n)).setCell ⟨w.heap.size + 1, 2, none⟩ (.string ru.s)).setCell ⟨w.heap.size + 1, 3, none⟩ (.int .i64 ru.a)).setCell ⟨w.heap.size + 1, 4, none⟩ (.slice ta' S.length tc') := ⟨_, rfl⟩
    have ho : Only (fun k => k = w.heap.size + 1) w3 wf := by rw [hwf]; exact set4_only.set (p := ⟨w.heap.size + 1, 4, none⟩) rfl _
    rw [← hwf] at F ⊢
    clear hwf
    obtain ⟨q0, q1, q2, q3, q4, _⟩ := cells5 F
    refine bodyPost_ret (v := .agg #[.int .i64 ru.k, .int .i64 ru.n, .string ru.s, .int .i64 ru.a, .slice ta' S.length tc']) (by simp [results, Tryz.results10, go_sem, q0, q1, q2, q3, q4]) rfl ⟨Or.inl ⟨HG.out, ?_⟩, H3.out.bel.trans (ho.toBelow (fun k hk => by omega) (by have := H3.out.bel.size; omega))⟩
    rw [HSo.out, HRU.out]
    exact ⟨_, PV, bs, by omega, rfl, HO.out.only ho (fun k hk e => by omega)⟩
  · have HN : Hid (¬ OkG n u L K X) := hN
    clear hN
    have hb2 : Below w1.heap.size w1 (w1.alloc (.cells #[.nilIface, .slice none 0 0] 57)) := (Below.refl _ _).alloc (Nat.le_refl _) _
    have H2 : Hid (CanW w (w1.alloc (.cells #[.nilIface, .slice none 0 0] 57)) u ta n cp) := H1.out.below hb2
    obtain ⟨r0, r1, r2, r3, r4, r5⟩ := cells5 H2.out.res
    simp only [zeroV] at r0 r1 r2 r3
    obtain ⟨s0, s1, s2, s3, s4, s5⟩ := cells5 H1.out.res
    simp only [zeroV] at s0 s1 s2 s3
    have hlt : w.heap.size + 1 < w1.heap.size := blk_lt H1.out.res
    go_wp2
    have F := put5hi (put5lo H1.out.res (.int .i64 0) (.int .i64 0) (.string ⟨#[]⟩) (.int .i64 0)) (.slice none 0 0)
    obtain ⟨q0, q1, q2, q3, q4, _⟩ := cells5 (blkB F ((Below.refl _ _).alloc (Nat.le_refl _) (.cells #[.nilIface, .slice none 0 0] 57)))
    refine bodyPost_ret (v := .agg #[.int .i64 0, .int .i64 0, .string ⟨#[]⟩, .int .i64 0, .slice none 0 0]) (by simp [results, Tryz.results10, go_sem, q0, q1, q2, q3, q4]) rfl ⟨Or.inr ⟨HN.out, rfl⟩, ?_⟩
    have hfin := (H1.out.bel.trans (set4_below (B := w.heap.size + 1) (i := 0) (j := 1) (k := 2) (l := 3) (a' := .int .i64 0) (b' := .int .i64 0) (c' := .string ⟨#[]⟩) (d' := .int .i64 0) |>.mono (show w.heap.size ≤ w.heap.size + 1 by omega))).setCell (p := ⟨w.heap.size + 1, 4, none⟩) (by show w.heap.size ≤ w.heap.size + 1; omega) (.slice none 0 0)
    exact hfin.alloc hfin.size _

end Go.Proofs.YtgflalfiopnmnaaGreatDoor

namespace Go.Proofs.YtgflalfiopnmnaaGreatDoor
open Go.RowKit Vl

set_option maxHeartbeats 1000000 in
set_option maxRecDepth 100000 in
theorem specCanon_any (u : V) (ta : Option Addr) (n cp TB TO : Nat) (A : Nat → Option Addr) (L C RB RO : Nat → Nat) (K X : Nat → Nat → V) (w : World) (hn : n ≤ 1048576) (HS : Hid (Small 1048576 n L K X)) (HT : Hid (TabsAt w ta n TB TO A L C RB RO K X)) :
    Calls Tryz.prog 11 #[.agg #[.int .i64 u.k, .int .i64 u.n, .string u.s, .int .i64 u.a, .slice ta n cp]] w fun e w' => CanonIs w w' e n u L K X ∧ Below w.heap.size w w' := by
  have A2 : Hid _ := alloc2 w (.cells #[.int .i64 u.k, .int .i64 u.n, .string u.s, .int .i64 u.a, .slice ta n cp] 27) (.cells #[.int .i64 0, .int .i64 0, .string ⟨#[]⟩, .int .i64 0, .slice none 0 0] 27)
  obtain ⟨w0, hw0⟩ : ∃ w0, w0 = (w.alloc (.cells #[.int .i64 u.k, .int .i64 u.n, .string u.s, .int .i64 u.a, .slice ta n cp] 27)).alloc (.cells #[.int .i64 0, .int .i64 0, .string ⟨#[]⟩, .int .i64 0, .slice none 0 0] 27) := ⟨_, rfl⟩
  have H0 : Hid (CanW w w0 u ta n cp) := by rw [hw0]; exact ⟨A2.out.1, A2.out.2.1, A2.out.2.2.2⟩
  clear A2
  have hsp := specOk_any u ta n cp TB TO A L C RB RO K X w0 hn HS (HT.out.below H0.out.bel)
  go_enter Tryz.func11, Tryz.ntmps11
  go_wp2_with fail
  rw [← hw0]
  refine hsp.mono ?_
  clear hsp hw0
  rintro e w1 ⟨⟨bs, rfl, hbs⟩, hb1⟩
  have H1 : Hid (CanW w w1 u ta n cp) := H0.out.below hb1
  clear hb1 H0
  cases bs
  · have HN : Hid (¬ OkG n u L K X) := show ¬ OkG n u L K X from fun h => by have := hbs.2 h; cases this
    clear hbs
    obtain ⟨r0, r1, r2, r3, r4, r5⟩ := cells5 H1.out.res
    simp only [zeroV] at r0 r1 r2 r3
    go_wp2
    have F := put5hi (put5lo H1.out.res (.int .i64 0) (.int .i64 0) (.string ⟨#[]⟩) (.int .i64 0)) (.slice none 0 0)
    obtain ⟨q0, q1, q2, q3, q4, _⟩ := cells5 F
    refine bodyPost_ret (v := .agg #[.int .i64 0, .int .i64 0, .string ⟨#[]⟩, .int .i64 0, .slice none 0 0]) (by simp [results, Tryz.results11, go_sem, q0, q1, q2, q3, q4]) rfl ⟨Or.inr ⟨HN.out, rfl⟩, ?_⟩
    exact (H1.out.bel.trans (set4_below.mono (by omega))).setCell (by show w.heap.size ≤ w.heap.size + 1; omega) _
  · have HG : Hid (OkG n u L K X) := hbs.1 rfl
    clear hbs
    obtain ⟨g0, g1, g2, g3, g4, _⟩ := cells5 H1.out.graph
    obtain ⟨S, HSo⟩ : ∃ S, Hid (order n u L X = S) := ⟨_, rfl⟩
    have hcan := l2canon_any u ta n cp TB TO A L C RB RO K X w1 HG (HT.out.below H1.out.bel) S HSo
    obtain ⟨ru, HRU⟩ : ∃ ru, Hid (renum S u = ru) := ⟨_, rfl⟩
    rw [HRU.out] at hcan
    go_wp2_with fail
    refine hcan.mono ?_
    clear hcan g0 g1 g2 g3 g4
    rintro e w2 ⟨⟨tv, PV, base, hbase, rfl, hT⟩, hb2⟩
    have H2 : Hid (CanW w w2 u ta n cp) := H1.out.below hb2
    have HO : Hid (OTab w2 base tv S.length PV (cL S L) (cK S K) (cX S X)) := hT
    have hs1 : w.heap.size + 1 < w1.heap.size := blk_lt H1.out.res
    clear hb2 H1 hT
    obtain ⟨ta', tc', rfl, _⟩ := owns_form HO.out.own
    obtain ⟨r0, r1, r2, r3, r4, r5⟩ := cells5 H2.out.res
    simp only [zeroV] at r0 r1 r2 r3
    go_wp2
    have F := put5hi (put5lo H2.out.res (.int .i64 ru.k) (.int .i64 ru.n) (.string ru.s) (.int .i64 ru.a)) (.slice ta' S.length tc')
    obtain ⟨wf, hwf⟩ : ∃ wf, wf = ((((w2.setCell ⟨w.heap.size + 1, 0, none⟩ (.int .i64 ru.k)).setCell ⟨w.heap.size + 1, 1, none⟩ (.int .i64 ru.n)).setCell ⟨w.heap.size + 1, 2, none⟩ (.string ru.s)).setCell ⟨w.heap.size + 1, 3, none⟩ (.int .i64 ru.a)).setCell ⟨w.heap.size + 1, 4, none⟩ (.slice ta' S.length tc') := ⟨_, rfl⟩
    have ho : Only (fun k => k = w.heap.size + 1) w2 wf := by rw [hwf]; exact set4_only.set (p := ⟨w.heap.size + 1, 4, none⟩) rfl _
    rw [← hwf] at F ⊢
    clear hwf
    obtain ⟨q0, q1, q2, q3, q4, _⟩ := cells5 F
    refine bodyPost_ret (v := .agg #[.int .i64 ru.k, .int .i64 ru.n, .string ru.s, .int .i64 ru.a, .slice ta' S.length tc']) (by simp [results, Tryz.results11, go_sem, q0, q1, q2, q3, q4]) rfl ⟨Or.inl ⟨HG.out, ?_⟩, H2.out.bel.trans (ho.toBelow (fun k hk => by omega) (by have := H2.out.bel.size; omega))⟩
    rw [HSo.out, HRU.out]
    exact ⟨_, PV, base, by omega, rfl, HO.out.only ho (fun k hk e => by omega)⟩

end Go.Proofs.YtgflalfiopnmnaaGreatDoor

namespace Go.Proofs.YtgflalfiopnmnaaGreatDoor
open Go.RowKit Vl

theorem below_drewN {b : Nat} {w w' : World} (h : Below b w w') (m : Nat) : Below b w (w'.drewN m) := ⟨h.os, h.tape, h.output, h.size, h.block⟩

structure SameD (n : Nat) (L L' : Nat → Nat) (K K' X X' : Nat → Nat → V) : Prop where
  len : ∀ r, r < n → L' r = L r
  all : ∀ r, r < n → ∀ c, c < L r → K' r c = K r c ∧ X' r c = X r c

set_option maxHeartbeats 4000000 in
set_option maxRecDepth 100000 in
theorem wGraph_any (u : V) (ta ta' : Option Addr) (n cp cp' TB TO TB' TO' : Nat) (A A' : Nat → Option Addr) (L L' C C' RB RB' RO RO' : Nat → Nat) (K K' X X' : Nat → Nat → V) (w : World) (hn : n ≤ 1048576) (HS : Hid (∀ r, r < n → L r ≤ 1048576)) (HE : Hid (SameD n L L' K K' X X'))
    (HT : Hid (TabsAt w ta n TB TO A L C RB RO K X)) (HT' : Hid (TabsAt w ta' n TB' TO' A' L' C' RB' RO' K' X')) :
    Calls Tryz.prog 9 #[.agg #[.int .i64 u.k, .int .i64 u.n, .string u.s, .int .i64 u.a, .slice ta n cp], .agg #[.int .i64 u.k, .int .i64 u.n, .string u.s, .int .i64 u.a, .slice ta' n cp']] w fun e w' => e = .returned (.bool true) ∧ Below w.heap.size w w' := by
  have A2 := alloc2 w (.cells #[.int .i64 u.k, .int .i64 u.n, .string u.s, .int .i64 u.a, .slice ta n cp] 27) (.cells #[.int .i64 u.k, .int .i64 u.n, .string u.s, .int .i64 u.a, .slice ta' n cp'] 27)
  obtain ⟨w0, hw0⟩ : ∃ w0, w0 = (w.alloc (.cells #[.int .i64 u.k, .int .i64 u.n, .string u.s, .int .i64 u.a, .slice ta n cp] 27)).alloc (.cells #[.int .i64 u.k, .int .i64 u.n, .string u.s, .int .i64 u.a, .slice ta' n cp'] 27) := ⟨_, rfl⟩
  rw [← hw0] at A2
  obtain ⟨pb, hpb⟩ : ∃ pb, w.heap.size = pb := ⟨_, rfl⟩
  obtain ⟨qb, hqb⟩ : ∃ qb, pb + 1 = qb := ⟨_, rfl⟩
  have HA0 : Hid (w0.heap[pb]? = some (.cells #[.int .i64 u.k, .int .i64 u.n, .string u.s, .int .i64 u.a, .slice ta n cp] 27 (0, 0))) := by rw [← hpb]; exact A2.1
  have HB0 : Hid (w0.heap[qb]? = some (.cells #[.int .i64 u.k, .int .i64 u.n, .string u.s, .int .i64 u.a, .slice ta' n cp'] 27 (0, 0))) := by rw [← hqb, ← hpb]; exact A2.2.1
  have HW0 : Hid (Below w.heap.size w w0) := A2.2.2.2
  have HT0 : Hid (TabsAt w0 ta n TB TO A L C RB RO K X) := HT.out.below HW0.out
  have HT0' : Hid (TabsAt w0 ta' n TB' TO' A' L' C' RB' RO' K' X') := HT'.out.below HW0.out
  clear A2 HT HT'
  go_enter Tryz.func9, Tryz.ntmps9
  go_upto_region 1 with fail
  rw [← hw0]
  try rw [hpb]
  try rw [hqb]
  clear hw0
  obtain ⟨a0, a1, a2, a3, a4, _⟩ := cells5 HA0.out
  obtain ⟨b0, b1, b2, b3, b4, _⟩ := cells5 HB0.out
  go_wp2
  clear a0 a1 a2 a3 a4 b0 b1 b2 b3 b4
  go_loopw [24] (fun ii wr => ∃ i : Nat, i ≤ n ∧ ii = .int .i64 i ∧ Hid (Below w0.heap.size w0 wr)) (fun ii _ => n - (intOf ii).toNat)
  case atStart => exact ⟨0, Nat.zero_le _, rfl, Below.refl _ _⟩
  case round =>
    obtain ⟨i, hi, rfl, HBr⟩ := hrel
    by_cases hlt : i < n
    · obtain rfl := HT0.out.top (by omega)
      obtain rfl := HT0'.out.top (by omega)
      have t0 := (HT0.out.below HBr.out).tab i hlt
      have t0' := (HT0'.out.below HBr.out).tab i hlt
      rw [HE.out.len i hlt] at t0'
      obtain ⟨pa, hpa⟩ : ∃ a, A i = a := ⟨_, rfl⟩
      obtain ⟨pa', hpa'⟩ : ∃ a, A' i = a := ⟨_, rfl⟩
      obtain ⟨l, hl⟩ : ∃ a, L i = a := ⟨_, rfl⟩
      have HP : Hid (PairsAt w0 pa l (RB i) (RO i) (K i) (X i)) := by rw [← hpa, ← hl]; exact HT0.out.row i hlt
      have HP' : Hid (PairsAt w0 pa' l (RB' i) (RO' i) (K' i) (X' i)) := by rw [← hpa', ← hl, ← HE.out.len i hlt]; exact HT0'.out.row i hlt
      have hl1 : l ≤ 1048576 := by rw [← hl]; exact HS.out i hlt
      have HEl : Hid (∀ c, c < l → K' i c = K i c ∧ X' i c = X i c) := show ∀ c, _ from fun c hc => HE.out.all i hlt c (by rw [hl]; exact hc)
      rw [hpa, hl] at t0
      rw [hpa', hl] at t0'
      have HAr : Hid (wr.heap[pb]? = some (.cells #[.int .i64 u.k, .int .i64 u.n, .string u.s, .int .i64 u.a, .slice (some ⟨TB, TO, none⟩) n cp] 27 (0, 0))) := blkB HA0.out HBr.out
      have HBr' : Hid (wr.heap[qb]? = some (.cells #[.int .i64 u.k, .int .i64 u.n, .string u.s, .int .i64 u.a, .slice (some ⟨TB', TO', none⟩) n cp'] 27 (0, 0))) := blkB HB0.out HBr.out
      obtain ⟨a0, a1, a2, a3, a4, _⟩ := cells5 HAr.out
      obtain ⟨b0, b1, b2, b3, b4, _⟩ := cells5 HBr'.out
      have il : (0 : Int) ≤ (i : Int) ∧ (i : Int) < (n : Int) := by omega
      have HTA : Hid (A i = pa ∧ L i = l ∧ A' i = pa' ∧ L' i = l) := ⟨hpa, hl, hpa', (HE.out.len i hlt).trans hl⟩
      clear hpa hpa' hl
      go_wp2_with fail
      go_quiet (fail)
      go_wp2
      clear t0 t0' a0 a1 a2 a3 a4 b0 b1 b2 b3 b4 HAr HBr'
      go_loopw [49] (fun jj wq => ∃ j : Nat, j ≤ l ∧ jj = .int .i64 j ∧ Hid (Below w0.heap.size w0 wq)) (fun jj _ => l - (intOf jj).toNat)
      case atStart => exact ⟨0, Nat.zero_le _, rfl, below_drewN HBr.out _⟩
      case round =>
        obtain ⟨j, hj, rfl, HBq⟩ := hrel
        by_cases hjl : j < l
        · obtain rfl := HP.out.top (by omega)
          obtain rfl := HP'.out.top (by omega)
          have t0 := (HT0.out.below HBq.out).tab i hlt
          have t0' := (HT0'.out.below HBq.out).tab i hlt
          rw [HTA.out.1, HTA.out.2.1] at t0
          rw [HTA.out.2.2.1, HTA.out.2.2.2] at t0'
          obtain ⟨⟨k0, k1, k2, k3⟩, ⟨x0, x1, x2, x3⟩⟩ := (HP.out.below HBq.out).cells hjl
          obtain ⟨⟨k0', k1', k2', k3'⟩, ⟨x0', x1', x2', x3'⟩⟩ := (HP'.out.below HBq.out).cells hjl
          rw [(HEl.out j hjl).1] at k0' k1' k2' k3'
          rw [(HEl.out j hjl).2] at x0' x1' x2' x3'
          obtain ⟨a0, a1, a2, a3, a4, _⟩ := cells5 (blkB HA0.out HBq.out)
          obtain ⟨b0, b1, b2, b3, b4, _⟩ := cells5 (blkB HB0.out HBq.out)
          have jl : (0 : Int) ≤ (j : Int) ∧ (j : Int) < (l : Int) := by omega
          go_wp2_with fail
          go_quiet (fail)
          go_wp2
          go_roundw
          case rel => exact ⟨j + 1, by omega, by go_num, below_drewN HBq.out _⟩
          case measure => simp [intOf]; omega
        · obtain rfl : j = l := by omega
          go_wp2
          go_roundw
          case rel => exact ⟨i + 1, by omega, by go_num, HBq⟩
          case measure => simp [intOf]; omega
    · obtain rfl : i = n := by omega
      go_wp2
      go_ret
      exact ⟨rfl, grw HW0.out HBr.out⟩

end Go.Proofs.YtgflalfiopnmnaaGreatDoor

namespace Go.Proofs.YtgflalfiopnmnaaGreatDoor
open Go.RowKit Vl

theorem types_apart {w : World} {base base' n m tg : Nat} {v v' : Value} {xs ys : List Value} (h : w.ownsRow base 37 1 v n xs) (h' : w.ownsRow base' 39 8 v' m ys) (e : v.ownBlock = some tg) : v'.ownBlock ≠ some tg := fun e' => by
  obtain ⟨_, c, hc⟩ := owns_type h e
  obtain ⟨_, c', hc'⟩ := owns_type h' e'
  rw [hc] at hc'
  cases hc'

end Go.Proofs.YtgflalfiopnmnaaGreatDoor

namespace Go.Proofs.YtgflalfiopnmnaaGreatDoor
open Go.RowKit Vl

theorem OTab.apart {w w' : World} {base b : Nat} {tv : Value} {n : Nat} {PV : Nat → Value} {L : Nat → Nat} {K X : Nat → Nat → V} {cs : Array Value} {t : TypeId} {fr : Nat × Nat} (h : OTab w base tv n PV L K X) (hb : w.heap[b]? = some (.cells cs t fr)) (h1 : t ≠ 37) (h2 : t ≠ 39) (ho : Only (fun k => k = b) w w') : OTab w' base tv n PV L K X :=
  h.onlyB ho (fun g hg e => by
    obtain ⟨_, cur, hc⟩ := owns_type h.own hg
    subst e
    rw [hb] at hc
    injection hc with hc
    injection hc with _ hc
    exact h1 hc) (fun j hj g hg e => by
    obtain ⟨_, cur, hc⟩ := owns_type (h.rows j hj) hg
    subst e
    rw [hb] at hc
    injection hc with hc
    injection hc with _ hc
    exact h2 hc)

structure SpS (w wk : World) (CB pb rb base : Nat) (ca : Option Addr) (cl cc cb co t : Nat) (u : V) (tv : Value) (n : Nat) (PV : Nat → Value) (L : Nat → Nat) (K X : Nat → Nat → V) : Prop where
  par : OutB wk pb u tv
  res : OutB wk rb zeroV (.slice none 0 0)
  tab : OTab wk base tv n PV L K X
  rd : Rd wk CB ca cl cc cb co t
  bel : Below base w wk
  one : base ≤ CB ∧ base ≤ pb ∧ base ≤ rb ∧ pb ≠ rb ∧ (0 < cl → cb < base)
  new : w.heap.size ≤ pb ∧ w.heap.size ≤ rb
  oth : ∀ b x v, OutB w b x v → OutB wk b x v

section
variable {w wk wk' : World} {CB pb rb base : Nat} {ca : Option Addr} {cl cc cb co t : Nat} {u : V} {tv : Value} {n : Nat} {PV : Nat → Value} {L : Nat → Nat} {K X : Nat → Nat → V}
theorem Rd.block (h : Rd wk CB ca cl cc cb co t) : ∃ cs, wk.heap[CB]? = some (.cells cs 51 (0, 0)) := by
  obtain ⟨a, sd, _, hh⟩ := h.cur.ex
  exact ⟨_, hh⟩
theorem OutB.ne (h : OutB wk pb u tv) (hr : Rd wk CB ca cl cc cb co t) : pb ≠ CB := fun e => by
  obtain ⟨cs, hc⟩ := hr.block
  subst e
  unfold OutB at h
  rw [hc] at h
  injection h with h
  injection h with _ h
  exact absurd h (by decide)
theorem SpS.size (h : SpS w wk CB pb rb base ca cl cc cb co t u tv n PV L K X) : base ≤ wk.heap.size := Nat.le_trans h.one.1 (Nat.le_of_lt h.rd.blocks.1)
theorem SpS.below (h : SpS w wk CB pb rb base ca cl cc cb co t u tv n PV L K X) (hb : Below wk.heap.size wk wk') : SpS w wk' CB pb rb base ca cl cc cb co t u tv n PV L K X :=
  ⟨blkB h.par hb, blkB h.res hb, h.tab.below hb, h.rd.below hb, h.bel.trans (hb.mono h.size), h.one, h.new, fun b x v hx => blkB (h.oth b x v hx) hb⟩
theorem SpS.mono {s : Nat} (h : SpS w wk CB pb rb base ca cl cc cb co t u tv n PV L K X) (hs : t ≤ s) : SpS w wk CB pb rb base ca cl cc cb co s u tv n PV L K X := ⟨h.par, h.res, h.tab, h.rd.mono hs, h.bel, h.one, h.new, h.oth⟩
theorem SpS.root (h : SpS w wk CB pb rb base ca cl cc cb co t u tv n PV L K X) (x : V) : SpS w ((((wk.setCell ⟨pb, 0, none⟩ (.int .i64 x.k)).setCell ⟨pb, 1, none⟩ (.int .i64 x.n)).setCell ⟨pb, 2, none⟩ (.string x.s)).setCell ⟨pb, 3, none⟩ (.int .i64 x.a)) CB pb rb base ca cl cc cb co t x tv n PV L K X := by
  have ho : Only (fun k => k = pb) wk ((((wk.setCell ⟨pb, 0, none⟩ (.int .i64 x.k)).setCell ⟨pb, 1, none⟩ (.int .i64 x.n)).setCell ⟨pb, 2, none⟩ (.string x.s)).setCell ⟨pb, 3, none⟩ (.int .i64 x.a)) := set4_only
  have hbe := ho.toBelow (base := base) (fun k e => by have := h.one.2.1; omega) h.size
  refine ⟨put5lo h.par _ _ _ _, (ho.block _ (blk_lt h.res) (fun e => h.one.2.2.2.1 e.symm)).trans h.res, h.tab.apart h.par (by decide) (by decide) ho, ?_, h.bel.trans hbe, h.one, h.new, fun b x v hb => (ho.block _ (blk_lt (h.oth b x v hb)) (by have := blk_lt hb; have := h.new; omega)).trans (h.oth b x v hb)⟩
  obtain ⟨a, sd, ha, hh⟩ := h.rd.cur.ex
  refine ⟨⟨a, sd, ha, (ho.block CB (blk_lt hh) (fun e => (h.par.ne h.rd) e.symm)).trans hh⟩, fun i hi => ?_, h.rd.ne, h.rd.len⟩
  obtain ⟨e, x, hx, hc⟩ := h.rd.byt i hi
  exact ⟨e, x, hx, (hbe.cell (p := ⟨cb, co + i, none⟩) (h.one.2.2.2.2 (by omega))).trans hc⟩
end

section
variable {w wk wk' : World} {CB pb rb base : Nat} {ca : Option Addr} {cl cc cb co t : Nat} {u : V} {tv : Value} {n : Nat} {PV : Nat → Value} {L : Nat → Nat} {K X : Nat → Nat → V}
theorem OTab.put {tg tc ob oc i k l : Nat} (h : OTab wk base (.slice (some ⟨tg, 0, none⟩) n tc) n PV L K X) (hi : i < n) (hpv : PV i = .slice (some ⟨ob, 0, none⟩) l oc) (hl : L i = l) (hk : k < l) (pk px : V) :
    OTab ((((((((wk.setCell ⟨ob, k * 8, none⟩ (.int .i64 pk.k)).setCell ⟨ob, k * 8 + 1, none⟩ (.int .i64 pk.n)).setCell ⟨ob, k * 8 + 2, none⟩ (.string pk.s)).setCell ⟨ob, k * 8 + 3, none⟩ (.int .i64 pk.a)).setCell ⟨ob, k * 8 + 4, none⟩ (.int .i64 px.k)).setCell ⟨ob, k * 8 + 5, none⟩ (.int .i64 px.n)).setCell ⟨ob, k * 8 + 6, none⟩ (.string px.s)).setCell ⟨ob, k * 8 + 7, none⟩ (.int .i64 px.a)) base (.slice (some ⟨tg, 0, none⟩) n tc) n PV L
      (fun j => if j = i then (fun c => if c = k then pk else K i c) else K j) (fun j => if j = i then (fun c => if c = k then px else X i c) else X j) := by
  have hob : (PV i).ownBlock = some ob := by rw [hpv]; rfl
  have hdis : ∀ j, j < n → j ≠ i → ∀ g, (PV j).ownBlock = some g → g ≠ ob := fun j hj hne g hg e => by
    subst e
    rcases Nat.lt_or_gt_of_ne hne with hlt | hlt
    · exact h.dis j i hlt hi g hg hob
    · exact h.dis i j hlt hj g hob hg
  refine ⟨only8.ownsB h.own (fun g hg e => ?_), fun j hj => ?_, h.dis⟩
  · subst e
    exact types_apart h.own (h.rows i hi) hg hob
  · by_cases e : j = i
    · subst e
      simp only [if_true]
      have hr := h.rows j hi
      rw [hpv, hl] at hr ⊢
      exact owns_put hr hk pk px
    · simp only [e, if_false]
      exact only8.ownsB (h.rows j hj) (hdis j hj e)

end

end Go.Proofs.YtgflalfiopnmnaaGreatDoor

namespace Go.Proofs.YtgflalfiopnmnaaGreatDoor
open Go.RowKit Vl

def canC (n : Nat) (u : V) (L : Nat → Nat) (K X : Nat → Nat → V) : Gr := ⟨(order n u L X).length, renum (order n u L X) u, cL (order n u L X) L, cK (order n u L X) K, cX (order n u L X) X⟩
structure CanG (n : Nat) (u : V) (L : Nat → Nat) (K X : Nat → Nat → V) (c : Gr) : Prop where
  ok : OkG c.n c.u c.L c.K c.X
  fine : FineG c.n c.u c.L c.K c.X
  ord : order c.n c.u c.L c.X = List.range c.n
  txt : frzS c.n c.u c.L c.K c.X = frzS n u L K X
theorem fine_renum (S : List Nat) {v : V} (h : fineV v) : fineV (renum S v) := by
  unfold renum
  split
  · exact h
  · exact h
theorem can_g {n : Nat} {u : V} {L : Nat → Nat} {K X : Nat → Nat → V} (h : OkG n u L K X) (hf : FineG n u L K X) : CanG n u L K X (canC n u L K X) := by
  refine ⟨okG_canon h, ⟨fine_renum _ hf.root, fun r hr => ?_⟩, order_canon h, frzS_canon h⟩
  have hm := (order_all h).1.lt _ (ord_mem hr)
  exact ⟨(hf.all _ hm).1, fun c hc => ⟨((hf.all _ hm).2 c hc).1, fine_renum _ ((hf.all _ hm).2 c hc).2⟩⟩
theorem canon_is {w w' : World} {e : Ending} {n : Nat} {u : V} {L : Nat → Nat} {K X : Nat → Nat → V} {c : Gr} (h : OkG n u L K X) (hc : canC n u L K X = c) (hi : CanonIs w w' e n u L K X) : ∃ (ta : Option Addr) (tc : Nat) (PV : Nat → Value) (base : Nat), e = .returned (.agg #[.int .i64 c.u.k, .int .i64 c.u.n, .string c.u.s, .int .i64 c.u.a, .slice ta c.n tc]) ∧ OTab w' base (.slice ta c.n tc) c.n PV c.L c.K c.X := by
  subst hc
  rcases hi with ⟨_, tv, PV, base, _, rfl, hO⟩ | ⟨hno, _⟩
  · obtain ⟨ta, tc, rfl, _⟩ := owns_form hO.own
    exact ⟨ta, tc, PV, base, rfl, hO⟩
  · exact absurd h hno
theorem frz_is {e : Ending} {n : Nat} {u : V} {L : Nat → Nat} {K X : Nat → Nat → V} {A : ByteArray} (h : OkG n u L K X) (hA : frzS n u L K X = A) (hi : FrzIs e n u L K X) : e = .returned (.string A) := by
  rcases hi with ⟨_, rfl⟩ | ⟨hno, _⟩
  · rw [hA]
  · exact absurd h hno
theorem drawn_again {B : Nat → Nat} {cl n n' : Nat} {σ : Sd} {u u' : V} {L L' : Nat → Nat} {K X K' X' : Nat → Nat → V} {w' : World} {base : Nat} {tv : Value} {PV : Nat → Value} (h : graphF B cl σ = (n, u, tbL n L K X)) (h' : graphF B cl σ = (n', u', tbL n' L' K' X')) (hO : OTab w' base tv n' PV L' K' X') : n = n' ∧ u = u' ∧ OTab w' base tv n PV L K X := by
  obtain ⟨e1, e2, e3⟩ := drawn_one h h'
  subst e1
  refine ⟨rfl, e2.symm, hO.congr (fun j hj => (e3 j hj).1) (fun j hj c hc => (e3 j hj).2 c hc)⟩
theorem SameD.rfl' (n : Nat) (L : Nat → Nat) (K X : Nat → Nat → V) : SameD n L L K K X X := ⟨fun _ _ => rfl, fun _ _ _ _ => ⟨rfl, rfl⟩⟩
theorem FineG.rgs' {n : Nat} {u : V} {L : Nat → Nat} {K X : Nat → Nat → V} (h : FineG n u L K X) : Rgs n u L K X := ⟨h.root.2, fun r hr c hc => ⟨((h.all r hr).2 c hc).1.2, ((h.all r hr).2 c hc).2.2⟩⟩
theorem FineG.lens {n : Nat} {u : V} {L : Nat → Nat} {K X : Nat → Nat → V} (h : FineG n u L K X) : ∀ r, r < n → L r ≤ 1048576 := fun r hr => by have := (h.all r hr).1; omega
theorem frzS_txt {n : Nat} {u : V} {L : Nat → Nat} {K X : Nat → Nat → V} {A : ByteArray} (h : frzS n u L K X = A) (hA : A.toList ≠ []) : A.data.toList = (wrAll n u L K X).out ∧ A.size ≤ 20000 := by
  unfold frzS at h
  split at h
  · subst h
    exact absurd (by simp) hA
  · rename_i hl
    subst h
    refine ⟨by simp, ?_⟩
    show (wrAll n u L K X).out.toArray.size ≤ _
    simp
    omega

structure Zs (w wq : World) (xb bx : Nat) (c : Gr) (xa : Option Addr) (xc : Nat) (PV : Nat → Value) (K X : Nat → Nat → V) : Prop where
  tab : OTab wq bx (.slice xa c.n xc) c.n PV c.L K X
  blk : wq.heap[xb]? = some (.cells #[.bool true, .int .i64 0, .int .i64 c.u.k, .int .i64 c.u.n, .string c.u.s, .int .i64 c.u.a, .slice xa c.n xc] 33 (0, 0))
  bel : Below w.heap.size w wq
section
variable {w wq wk : World} {xb bx : Nat} {c : Gr} {xa : Option Addr} {xc : Nat} {PV : Nat → Value} {K X : Nat → Nat → V}
theorem Zs.below (h : Zs w wq xb bx c xa xc PV K X) (hb : Below wq.heap.size wq wk) : Zs w wk xb bx c xa xc PV K X := ⟨h.tab.below hb, blkB h.blk hb, grw h.bel hb⟩
theorem Zs.put {tg ob oc i k l : Nat} (h : Zs w wq xb bx c (some ⟨tg, 0, none⟩) xc PV K X) (hbx : w.heap.size ≤ bx) (hi : i < c.n) (hpv : PV i = .slice (some ⟨ob, 0, none⟩) l oc) (hl : c.L i = l) (hk : k < l)
    (hw : wk = (((((((wq.setCell ⟨ob, k * 8, none⟩ (.int .i64 0)).setCell ⟨ob, k * 8 + 1, none⟩ (.int .i64 0)).setCell ⟨ob, k * 8 + 2, none⟩ (.string ⟨#[]⟩)).setCell ⟨ob, k * 8 + 3, none⟩ (.int .i64 0)).setCell ⟨ob, k * 8 + 4, none⟩ (.int .i64 0)).setCell ⟨ob, k * 8 + 5, none⟩ (.int .i64 0)).setCell ⟨ob, k * 8 + 6, none⟩ (.string ⟨#[]⟩)).setCell ⟨ob, k * 8 + 7, none⟩ (.int .i64 0)) :
    ∃ K' X', Zs w wk xb bx c (some ⟨tg, 0, none⟩) xc PV K' X' := by
  have hob : (PV i).ownBlock = some ob := by rw [hpv]; rfl
  obtain ⟨hge, cur, hcur⟩ := owns_type (h.tab.rows i hi) hob
  have ho : Only (fun k => k = ob) wq wk := by rw [hw]; exact only8
  have hne : xb ≠ ob := fun e => by
    have := h.blk
    rw [e, hcur] at this
    injection this with this
    injection this with _ this
    exact absurd this (by decide)
  refine ⟨_, _, by rw [hw]; exact h.tab.put hi hpv hl hk zeroV zeroV, (ho.block _ (blk_lt h.blk) hne).trans h.blk, h.bel.trans (ho.toBelow (fun k e => by omega) h.bel.size)⟩
end

set_option maxHeartbeats 8000000 in
set_option maxRecDepth 100000 in
theorem topLaw (ca : Option Addr) (cl cc cb co : Nat) (w : World) (hB : ByteR w ca cl cb co) (hcl : cl ≤ 9223372036854775807) (HTab : Hid (Tab w)) :
    Calls Tryz.prog 3 #[.slice ca cl cc] w fun e w' => e = .returned (.bool true) ∧ Below w.heap.size w w' := by
  by_cases hl : 1048576 < cl
  · clear hB
    go_enter Tryz.func3, Tryz.ntmps3
    go_wp2
    go_ret
    exact ⟨rfl, Below.refl _ _⟩
  obtain ⟨B, hBD⟩ := hB.these
  have HBD : Hid (ByteD w ca cl cb co B) := hBD
  have hdr := drawnD_any B ca cl cc cb co w hBD (by omega)
  clear hB hBD
  go_enter Tryz.func3, Tryz.ntmps3
  go_wp2_with fail
  refine hdr.mono ?_
  clear hdr
  rintro e w1 ⟨⟨n, u, tv, PV, L, K, X, base, _, rfl, hok, hfi, hO1, hGF⟩, hb1⟩
  obtain ⟨ta, tc, rfl, _⟩ := owns_form hO1.own
  have hn := hok.len
  have HOK : Hid (OkG n u L K X) := hok
  have HFI : Hid (FineG n u L K X) := hfi
  have HGF : Hid (graphF B cl ⟨0, 0⟩ = (n, u, tbL n L K X)) := hGF
  have HLs : Hid (∀ r, r < n → L r ≤ 1048576) := hfi.lens
  obtain ⟨A, HA⟩ : ∃ A, Hid (frzS n u L K X = A) := ⟨_, rfl⟩
  obtain ⟨c, HC⟩ : ∃ c, Hid (canC n u L K X = c) := ⟨_, rfl⟩
  have HCG : Hid (CanG n u L K X c) := by rw [← HC.out]; exact can_g hok hfi
  obtain ⟨w2, hw2⟩ : ∃ w2, w2 = w1.alloc (.cells #[.int .i64 u.k, .int .i64 u.n, .string u.s, .int .i64 u.a, .slice ta n tc] 27) := ⟨_, rfl⟩
  have hb2 : Below w1.heap.size w1 w2 := by rw [hw2]; exact (Below.refl _ _).alloc (Nat.le_refl _) _
  obtain ⟨gb, hgb⟩ : ∃ gb, w1.heap.size = gb := ⟨_, rfl⟩
  have HG2 : Hid (OutB w2 gb u (.slice ta n tc)) := by rw [hw2, ← hgb]; exact heap_alloc_new _ _
  have HOg2 : Hid (OTab w2 base (.slice ta n tc) n PV L K X) := hO1.below hb2
  have HW2 : Hid (Below w.heap.size w w2) := grw hb1 hb2
  have hdr := drawnD_any B ca cl cc cb co w2 (HBD.out.below HW2.out) (by omega)
  clear hok hfi hO1 hb1 hb2 hGF
  go_upto_region 4 with fail
  rw [← hw2]
  try rw [hgb]
  clear hw2
  go_wp2_with fail
  refine hdr.mono ?_
  clear hdr
  rintro e w3 ⟨⟨n', u', tv', PV2, L', K', X', bs2, _, rfl, _, _, hO3, hGF'⟩, hb3⟩
  obtain ⟨rfl, rfl, hO3'⟩ := drawn_again HGF.out hGF' hO3
  obtain ⟨ta2, tc2, rfl, _⟩ := owns_form hO3'.own
  obtain ⟨w4, hw4⟩ : ∃ w4, w4 = w3.alloc (.cells #[.int .i64 u.k, .int .i64 u.n, .string u.s, .int .i64 u.a, .slice ta2 n tc2] 27) := ⟨_, rfl⟩
  have hb4 : Below w3.heap.size w3 w4 := by rw [hw4]; exact (Below.refl _ _).alloc (Nat.le_refl _) _
  obtain ⟨hb_, hhb⟩ : ∃ hb_, w3.heap.size = hb_ := ⟨_, rfl⟩
  have HH4 : Hid (OutB w4 hb_ u (.slice ta2 n tc2)) := by rw [hw4, ← hhb]; exact heap_alloc_new _ _
  have HOh4 : Hid (OTab w4 bs2 (.slice ta2 n tc2) n PV2 L K X) := hO3'.below hb4
  have hb24 := grw hb3 hb4
  have HG4 : Hid (OutB w4 gb u (.slice ta n tc)) := blkB HG2.out hb24
  have HOg4 : Hid (OTab w4 base (.slice ta n tc) n PV L K X) := HOg2.out.below hb24
  have HW4 : Hid (Below w.heap.size w w4) := grw HW2.out hb24
  clear HG2 HOg2 HW2 hb24 
  clear hO3 hO3' hGF' HGF hb3 hb4
  go_upto_region 5 with fail
  rw [← hw4]
  try rw [hhb]
  clear hw4
  obtain ⟨a0, a1, a2, a3, a4, _⟩ := cells5 HG4.out
  have hfr := implFreeze_any u ta n tc _ _ _ L _ _ _ K X w4 (by omega) HFI.out.small HOg4.out.tabs.2 (HTab.out.below HW4.out) HFI.out.rgs'
  go_wp2_with fail
  refine hfr.mono ?_
  clear hfr
  rintro e w5 ⟨hf5, hb5⟩
  obtain rfl := frz_is HOK.out HA.out hf5
  have HG5 : Hid (OutB w5 gb u (.slice ta n tc)) := blkB HG4.out hb5
  have HOg5 : Hid (OTab w5 base (.slice ta n tc) n PV L K X) := HOg4.out.below hb5
  have HW5 : Hid (Below w.heap.size w w5) := grw HW4.out hb5
  have HH5 : Hid (OutB w5 hb_ u (.slice ta2 n tc2)) := blkB HH4.out hb5
  have HOh5 : Hid (OTab w5 bs2 (.slice ta2 n tc2) n PV2 L K X) := HOh4.out.below hb5
  clear HG4 HOg4 HW4 HH4 HOh4 hb5 hf5 a0 a1 a2 a3 a4
  obtain ⟨b0, b1, b2, b3, b4, _⟩ := cells5 HH5.out
  have hfr := specFreeze_any u ta2 n tc2 _ _ _ L _ _ _ K X w5 (by omega) HFI.out.small HOh5.out.tabs.2 HFI.out.rgs'
  have hAA : (A.toList != A.toList) = false := by simp
  go_wp2_with fail
  refine hfr.mono ?_
  clear hfr
  rintro e w6 ⟨hf6, hb6⟩
  obtain rfl := frz_is HOK.out HA.out hf6
  have HG6 : Hid (OutB w6 gb u (.slice ta n tc)) := blkB HG5.out hb6
  have HOg6 : Hid (OTab w6 base (.slice ta n tc) n PV L K X) := HOg5.out.below hb6
  have HW6 : Hid (Below w.heap.size w w6) := grw HW5.out hb6
  have HH6 : Hid (OutB w6 hb_ u (.slice ta2 n tc2)) := blkB HH5.out hb6
  have HOh6 : Hid (OTab w6 bs2 (.slice ta2 n tc2) n PV2 L K X) := HOh5.out.below hb6
  clear HG5 HOg5 HW5 HH5 HOh5 hb6 hf6 b0 b1 b2 b3 b4
  obtain ⟨a0, a1, a2, a3, a4, _⟩ := cells5 HG6.out
  obtain ⟨b0, b1, b2, b3, b4, _⟩ := cells5 HH6.out
  have hwg := wGraph_any u ta ta2 n tc tc2 _ _ _ _ _ _ L L _ _ _ _ _ _ K K X X w6 (by omega) HLs (SameD.rfl' n L K X) HOg6.out.tabs.2 HOh6.out.tabs.2
  go_wp2_with fail
  refine hwg.mono ?_
  clear hwg
  rintro e w7 ⟨rfl, hb7⟩
  have HG7 : Hid (OutB w7 gb u (.slice ta n tc)) := blkB HG6.out hb7
  have HOg7 : Hid (OTab w7 base (.slice ta n tc) n PV L K X) := HOg6.out.below hb7
  have HW7 : Hid (Below w.heap.size w w7) := grw HW6.out hb7
  have HH7 : Hid (OutB w7 hb_ u (.slice ta2 n tc2)) := blkB HH6.out hb7
  have HOh7 : Hid (OTab w7 bs2 (.slice ta2 n tc2) n PV2 L K X) := HOh6.out.below hb7
  clear HG6 HOg6 HW6 HH6 HOh6 hb7 a0 a1 a2 a3 a4 b0 b1 b2 b3 b4 hAA
  obtain ⟨a0, a1, a2, a3, a4, _⟩ := cells5 HG7.out
  have hcn := implCanon_any u ta n tc _ _ _ L _ _ _ K X w7 (by omega) HFI.out.small HOg7.out.tabs.2
  go_wp2_with fail
  refine hcn.mono ?_
  clear hcn
  rintro e w8 ⟨hc8, hb8⟩
  obtain ⟨ka, kc, PVc, kbase, rfl, hO8⟩ := canon_is HOK.out HC.out hc8
  have hcn : c.n ≤ 200 := HCG.out.ok.len
  obtain ⟨w9, hw9⟩ : ∃ w9, w9 = w8.alloc (.cells #[.int .i64 c.u.k, .int .i64 c.u.n, .string c.u.s, .int .i64 c.u.a, .slice ka c.n kc] 27) := ⟨_, rfl⟩
  have hb9 : Below w8.heap.size w8 w9 := by rw [hw9]; exact (Below.refl _ _).alloc (Nat.le_refl _) _
  obtain ⟨kb, hkb⟩ : ∃ kb, w8.heap.size = kb := ⟨_, rfl⟩
  have HC9 : Hid (OutB w9 kb c.u (.slice ka c.n kc)) := by rw [hw9, ← hkb]; exact heap_alloc_new _ _
  have HOc9 : Hid (OTab w9 kbase (.slice ka c.n kc) c.n PVc c.L c.K c.X) := hO8.below hb9
  have HLc : Hid (∀ r, r < c.n → c.L r ≤ 1048576) := HCG.out.fine.lens
  have hb79 := grw hb8 hb9
  have HG9 : Hid (OutB w9 gb u (.slice ta n tc)) := blkB HG7.out hb79
  have HOg9 : Hid (OTab w9 base (.slice ta n tc) n PV L K X) := HOg7.out.below hb79
  have HW9 : Hid (Below w.heap.size w w9) := grw HW7.out hb79
  have HH9 : Hid (OutB w9 hb_ u (.slice ta2 n tc2)) := blkB HH7.out hb79
  have HOh9 : Hid (OTab w9 bs2 (.slice ta2 n tc2) n PV2 L K X) := HOh7.out.below hb79
  clear HG7 HOg7 HW7 HH7 HOh7 hb79 a0 a1 a2 a3 a4
  clear hc8 hO8 hb8 hb9 HG9 HOg9
  go_upto_region 9 with fail
  rw [← hw9]
  try rw [hkb]
  clear hw9
  have B9 : Below w9.heap.size w9 w9.drew := (Below.refl _ _).drew
  refine wp_region_held_drew (S := fun w' => OutB w' kb c.u (.slice ka c.n kc) ∧ OutB w' hb_ u (.slice ta2 n tc2)) (by kernel_rfl) ⟨HC9.out, HH9.out⟩ (fun hHeld => ?_)
  refine wpT (i := 0) (v := .agg #[.int .i64 c.u.k, .int .i64 c.u.n, .string c.u.s, .int .i64 c.u.a, .slice ka c.n kc]) rfl (fun w hSw => ?_) hHeld ?_
  · obtain ⟨k0, k1, k2, k3, k4, _⟩ := cells5 hSw.1
    go_simp
  simp only [Act.put, pz]
  refine wpT (i := 1) (v := .agg #[.int .i64 u.k, .int .i64 u.n, .string u.s, .int .i64 u.a, .slice ta2 n tc2]) rfl (fun w hSw => ?_) hHeld ?_
  · obtain ⟨k0, k1, k2, k3, k4, _⟩ := cells5 hSw.2
    go_simp
  simp only [Act.put, pz]
  refine wpAnyH_ready (rs := [2]) (by kernel_rfl) (by simp) ?_
  refine AllReadyH.cons rfl (fun K' hK' => ?_) AllReadyH.nil
  have hcl := specCanon_any u ta2 n tc2 _ _ _ L _ _ _ K X w9.drew (by omega) HFI.out.small (HOh9.out.below B9).tabs.2
  go_simp
  refine hcl.mono ?_
  clear hcl
  rintro e w10 ⟨hc10, hb10⟩
  obtain ⟨sa, sc, PVs, sbase, rfl, hO10⟩ := canon_is HOK.out HC.out hc10
  have B10 := grw B9 hb10
  have HO10 : Hid (OTab w10 sbase (.slice sa c.n sc) c.n PVs c.L c.K c.X) := hO10
  clear hc10 hO10
  refine hK'.out _ _ ⟨blkB hHeld.1 hb10, blkB hHeld.2 hb10⟩ (fun hHeld => ?_)
  clear hK'
  try simp only [Act.put, pz]
  refine wpAnyH_ready (rs := [3]) (by kernel_rfl) (by simp) ?_
  refine AllReadyH.cons rfl (fun K' hK' => ?_) AllReadyH.nil
  have hcl := wGraph_any c.u ka sa c.n kc sc _ _ _ _ _ _ c.L c.L _ _ _ _ _ _ c.K c.K c.X c.X w10 (by omega) HLc (SameD.rfl' c.n c.L c.K c.X) (HOc9.out.below B10).tabs.2 HO10.out.tabs.2
  go_simp
  refine hcl.mono ?_
  clear hcl
  rintro e w11 ⟨rfl, hb11⟩
  have B11 := grw B10 hb11
  refine hK'.out _ _ ⟨blkB hHeld.1 hb11, blkB hHeld.2 hb11⟩ (fun hHeld => ?_)
  clear hK'
  try simp only [Act.put, pz]
  refine wpT (i := 4) (v := .bool false) rfl (fun w hSw => ?_) hHeld ?_
  · go_simp
  simp only [Act.put, pz]
  have HB11 : Hid (Below w9.heap.size w9 w11) := B11
  have HC11 : Hid (OutB w11 kb c.u (.slice ka c.n kc)) := hHeld.1
  clear hHeld B9 B10 B11
  refine wpAnyH_done (by kernel_rfl) ?_ _
  have HW11 : Hid (Below w.heap.size w w11) := grw HW9.out HB11.out
  have HOc11 : Hid (OTab w11 kbase (.slice ka c.n kc) c.n PVc c.L c.K c.X) := HOc9.out.below HB11.out
  clear HC9 HOc9 HW9 HH9 HOh9 HB11
  by_cases hA : A.toList = []
  · have hAb : (A.toList == []) = true := by simp [hA]
    clear hA
    go_wp2
    go_ret
    exact ⟨rfl, HW11.out⟩
  have hAb : (A.toList == []) = false := by simpa using hA
  obtain ⟨hAt, hAs⟩ := frzS_txt (HCG.out.txt.trans HA.out) hA
  have HAc : Hid (frzS c.n c.u c.L c.K c.X = A) := HCG.out.txt.trans HA.out
  have HTh : Hid (∀ wr, Calls Tryz.prog 12 #[.string A] wr fun e w' => (∃ (tv : Value) (PV : Nat → Value) (base : Nat), wr.heap.size ≤ base ∧ e = .returned (.agg #[.bool true, .int .i64 0, .int .i64 c.u.k, .int .i64 c.u.n, .string c.u.s, .int .i64 c.u.a, tv]) ∧ OTab w' base tv c.n PV c.L c.K c.X) ∧ Below wr.heap.size wr w') := fun wr =>
    thaw_any c.n c.u c.L c.K c.X A wr HCG.out.ok ⟨hcn, HCG.out.ok.all, fun r hr k hk => ((HCG.out.fine.all r hr).2 k hk).1, fun r hr k hk => ((HCG.out.fine.all r hr).2 k hk).2, hAs⟩ HCG.out.fine.root hAt HCG.out.ord
  clear hA hAt hAs
  go_wp2
  clear hAb
  go_loopw [7] (fun ii wr => ∃ k : Nat, k ≤ 2 ∧ ii = .int .i64 k ∧ Hid (Below w11.heap.size w11 wr)) (fun ii _ => 2 - (intOf ii).toNat)
  case atStart => exact ⟨0, by omega, rfl, Below.refl _ _⟩
  case round =>
    obtain ⟨k, hk, rfl, HBr⟩ := hrel
    obtain ⟨wO, hwO⟩ : ∃ wO, wO = wr := ⟨_, rfl⟩
    subst hwO
    by_cases hk2 : k < 2
    · have hth := HTh.out wO
      go_wp2_with fail
      refine hth.mono ?_
      clear hth
      rintro e wa ⟨⟨tv, PVx, bx, hbx, rfl, hOa⟩, hba⟩
      obtain ⟨xa, xc, rfl, _⟩ := owns_form hOa.own
      obtain ⟨wb, hwb⟩ : ∃ wb, wb = wa.alloc (.cells #[.bool true, .int .i64 0, .int .i64 c.u.k, .int .i64 c.u.n, .string c.u.s, .int .i64 c.u.a, .slice xa c.n xc] 33) := ⟨_, rfl⟩
      have hbb : Below wa.heap.size wa wb := by rw [hwb]; exact below_alloc _ _
      obtain ⟨xb, hxb⟩ : ∃ xb, wa.heap.size = xb := ⟨_, rfl⟩
      have HZb : Hid (Zs wO wb xb bx c xa xc PVx c.K c.X) := ⟨hOa.below hbb, by rw [hwb, ← hxb]; exact heap_alloc_new _ _, grw hba hbb⟩
      clear hOa hba hbb
      go_upto_region 17 with fail
      rw [← hwb]
      try rw [hxb]
      clear hwb hxb
      have HCb : Hid (OutB wb kb c.u (.slice ka c.n kc)) := blkB HC11.out (grw HBr.out HZb.out.bel)
      obtain ⟨x0, x1, x2, x3, x4, x5, x6, _⟩ := cellsT7 HZb.out.blk
      obtain ⟨b0, b1, b2, b3, b4, _⟩ := cells5 HCb.out
      have hwg := wGraph_any c.u xa ka c.n xc kc _ _ _ _ _ _ c.L c.L _ _ _ _ _ _ c.K c.K c.X c.X wb (by omega) HLc (SameD.rfl' c.n c.L c.K c.X) HZb.out.tab.tabs.2 (HOc11.out.below (grw HBr.out HZb.out.bel)).tabs.2
      go_wp2_with fail
      refine hwg.mono ?_
      clear hwg x0 x1 x2 x3 x4 x5 x6 b0 b1 b2 b3 b4
      rintro e wc ⟨rfl, hbc⟩
      have HZc : Hid (Zs wO wc xb bx c xa xc PVx c.K c.X) := HZb.out.below hbc
      obtain ⟨x0, x1, x2, x3, x4, x5, x6, _⟩ := cellsT7 HZc.out.blk
      have hfr := implFreeze_any c.u xa c.n xc _ _ _ c.L _ _ _ c.K c.X wc (by omega) HCG.out.fine.small HZc.out.tab.tabs.2 (HTab.out.below (grw HW11.out (grw HBr.out HZc.out.bel))) HCG.out.fine.rgs'
      have hAA : (A.toList != A.toList) = false := by simp
      clear hbc HZb HCb
      go_wp2_with fail
      refine hfr.mono ?_
      clear hfr
      rintro e wd ⟨hfd, hbd⟩
      obtain rfl := frz_is HCG.out.ok HAc.out hfd
      have HZd : Hid (Zs wO wd xb bx c xa xc PVx c.K c.X) := HZc.out.below hbd
      clear hfd hbd HZc x0 x1 x2 x3 x4 x5 x6
      obtain ⟨x0, x1, x2, x3, x4, x5, x6, _⟩ := cellsT7 HZd.out.blk
      go_wp2
      clear x0 x1 x2 x3 x4 x5 x6 hAA
      go_loopw [66] (fun ii wq => ∃ (i : Nat) (K2 X2 : Nat → Nat → V), i ≤ c.n ∧ ii = .int .i64 i ∧ Hid (Zs wO wq xb bx c xa xc PVx K2 X2)) (fun ii _ => c.n - (intOf ii).toNat)
      case atStart => exact ⟨0, c.K, c.X, Nat.zero_le _, rfl, HZd⟩
      case round =>
        obtain ⟨i, K2, X2, hi, rfl, HZ⟩ := hrel
        clear HZd
        obtain ⟨x0, x1, x2, x3, x4, x5, x6, _⟩ := cellsT7 HZ.out.blk
        by_cases hic : i < c.n
        · obtain ⟨tg, tcc, ee, hcell⟩ := owns_cell HZ.out.tab.own (k := i) (y := PVx i) (by simp [hic])
          cases ee
          obtain ⟨oa, oc, hpv, _⟩ := owns_form (HZ.out.tab.rows i hic)
          obtain ⟨l, HL⟩ : ∃ l, Hid (c.L i = l) := ⟨_, rfl⟩
          rw [HL.out] at hpv
          have HPV : Hid (PVx i = .slice oa l oc) := hpv
          rw [hpv] at hcell
          have hl1 : l ≤ 100 := by rw [← HL.out]; exact (HCG.out.ok.all i hic).len
          have il : (0 : Int) ≤ (i : Int) ∧ (i : Int) < (c.n : Int) := by omega
          clear hpv
          go_wp2
          clear x0 x1 x2 x3 x4 x5 x6 hcell
          go_loopw [77] (fun jj wq => ∃ (j : Nat) (K3 X3 : Nat → Nat → V), j ≤ l ∧ jj = .int .i64 j ∧ Hid (Zs wO wq xb bx c (some ⟨tg, 0, none⟩) xc PVx K3 X3)) (fun jj _ => l - (intOf jj).toNat)
          case atStart => exact ⟨0, K2, X2, Nat.zero_le _, rfl, HZ⟩
          case round =>
            obtain ⟨j, K3, X3, hj, rfl, HZ3⟩ := hrel
            clear HZ
            obtain ⟨x0, x1, x2, x3, x4, x5, x6, _⟩ := cellsT7 HZ3.out.blk
            by_cases hjl : j < l
            · obtain ⟨tg2, tcc2, ee, hcell⟩ := owns_cell HZ3.out.tab.own (k := i) (y := PVx i) (by simp [hic])
              cases ee
              have hrow := HZ3.out.tab.rows i hic
              rw [HPV.out, HL.out] at hrow
              obtain ⟨ob, hob⟩ : ∃ ob, oa = some ⟨ob, 0, none⟩ := by
                obtain ⟨g, cap, e3, _⟩ := owns_cell hrow (k := 0) (y := .int .i64 (K3 i 0).k) (by
                  obtain ⟨l', rfl⟩ : ∃ l', l = l' + 1 := ⟨l - 1, by omega⟩
                  simp [pairCells, List.range_succ_eq_map])
                cases e3
                exact ⟨g, rfl⟩
              subst hob
              rw [HPV.out] at hcell
              obtain ⟨_, ocur, hocur⟩ := owns_type hrow (g := ob) rfl
              obtain ⟨⟨k0, k1, k2, k3⟩, ⟨y0, y1, y2, y3⟩⟩ := (owns_pairs hrow).2.cells hjl
              have kb' : slB (.slice (some ⟨ob, 0, none⟩) l oc) = ob := rfl
              rw [kb'] at k0 k1 k2 k3 y0 y1 y2 y3
              simp only [Nat.zero_add] at k0 k1 k2 k3 y0 y1 y2 y3
              have ocell : ∀ d, wr.frozen? ⟨ob, d, none⟩ = false := fun d => by simp [World.frozen?, hocur]
              have jl : (0 : Int) ≤ (j : Int) ∧ (j : Int) < (l : Int) := by omega
              obtain ⟨wp, hwp⟩ : ∃ wp, wp = (((((((wr.setCell ⟨ob, j * 8, none⟩ (.int .i64 0)).setCell ⟨ob, j * 8 + 1, none⟩ (.int .i64 0)).setCell ⟨ob, j * 8 + 2, none⟩ (.string ⟨#[]⟩)).setCell ⟨ob, j * 8 + 3, none⟩ (.int .i64 0)).setCell ⟨ob, j * 8 + 4, none⟩ (.int .i64 0)).setCell ⟨ob, j * 8 + 5, none⟩ (.int .i64 0)).setCell ⟨ob, j * 8 + 6, none⟩ (.string ⟨#[]⟩)).setCell ⟨ob, j * 8 + 7, none⟩ (.int .i64 0) := ⟨_, rfl⟩
              obtain ⟨K4, X4, hZ4⟩ := HZ3.out.put hbx hic HPV.out HL.out hjl hwp
              have HZ4 : Hid _ := hZ4
              clear hZ4 hrow kb' hocur
              go_wp2
              rw [← hwp]
              go_roundw
              case rel => exact ⟨j + 1, K4, X4, by omega, by go_num, HZ4⟩
              case measure => simp [intOf]; omega
            · go_wp2
              go_roundw
              case rel => exact ⟨i + 1, K3, X3, by omega, by go_num, HZ3⟩
              case measure => simp [intOf]; omega
        · go_wp2
          go_roundw
          case rel => exact ⟨k + 1, by omega, by go_num, grw HBr.out HZ.out.bel⟩
          case measure => simp [intOf]; omega
    · go_wp2
      go_ret
      exact ⟨rfl, grw HW11.out HBr.out⟩

end Go.Proofs.YtgflalfiopnmnaaGreatDoor
