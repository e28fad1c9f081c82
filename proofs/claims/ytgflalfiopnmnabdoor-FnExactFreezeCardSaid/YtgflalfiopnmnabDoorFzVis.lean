import Derived.Test.YtgflalfiopnmnabDoorCnTa
import Derived.Test.YtgflalfiopnmnabDoorFzMap
import Derived.Test.YtgflalfiopnmnabDoorFzPl
import Derived.Laws.EntriesVeiled
namespace Go.Proofs.YtgflalfiopnmnabDoor
open Go.RowKit Vl

/-- The counter's two methods, bound. -/
abbrev fnCT (QM : Nat) : Value := .func (.func 31) #[.agg #[.map (some QM)]] #[]
abbrev fnCP (QM : Nat) : Value := .func (.func 32) #[.agg #[.map (some QM)]] #[]
/-- The writer's. -/
abbrev fnWT (WB : Nat) : Value := .func (.func 33) #[.pointer (some ⟨WB, 0, none⟩)] #[]
abbrev fnWP (WB : Nat) : Value := .func (.func 34) #[.pointer (some ⟨WB, 0, none⟩)] #[]

set_option maxRecDepth 100000 in
theorem cVisitor_any (QM : Nat) (w : World) : Calls Tryd.prog 16 #[.agg #[.map (some QM)]] w fun e w' => e = .returned (.agg #[fnCT QM, fnCP QM]) ∧ Below w.heap.size w w' := by
  go_enter Tryd.func16, Tryd.ntmps16
  go_wp2
  refine bodyPost_ret (v := .agg #[fnCT QM, fnCP QM]) (by simp [results, Tryd.results16, go_sem]) rfl ⟨rfl, ?_⟩
  exact ((Below.refl _ _).alloc (Nat.le_refl _) _).alloc (by simp) _

set_option maxRecDepth 100000 in
theorem wVisitor_any (WB : Nat) (w : World) : Calls Tryd.prog 18 #[.pointer (some ⟨WB, 0, none⟩)] w fun e w' => e = .returned (.agg #[fnWT WB, fnWP WB]) ∧ Below w.heap.size w w' := by
  go_enter Tryd.func18, Tryd.ntmps18
  go_wp2
  refine bodyPost_ret (v := .agg #[fnWT WB, fnWP WB]) (by simp [results, Tryd.results18, go_sem]) rfl ⟨rfl, ?_⟩
  exact (Below.refl _ _).alloc (Nat.le_refl _) _

set_option maxRecDepth 100000 in
theorem cPlain_any (QM : Nat) (v : V) (w : World) : Calls Tryd.prog 32 #[.agg #[.map (some QM)], vAgg v] w fun e w' => e = .returned (.tuple #[]) ∧ Below w.heap.size w w' := by
  go_enter Tryd.func32, Tryd.ntmps32
  go_wp2
  go_end0
  exact ⟨rfl, ((Below.refl _ _).alloc (Nat.le_refl _) _).alloc (by simp) _⟩


set_option maxHeartbeats 1000000 in
set_option maxRecDepth 100000 in
/-- 'visit' at a table. -/
theorem cVisit_tab (QM b : Nat) (w : World) (R : World → Prop) (hcall : Calls Tryd.prog 31 #[.agg #[.map (some QM)], ptr b] (w.alloc (.cells #[fnCT QM, fnCP QM] 54)) fun e w' => e = .returned (.tuple #[]) ∧ R w') :
    Calls Tryd.prog 17 #[.agg #[fnCT QM, fnCP QM], .iface 84 (ptr b)] w fun e w' => e = .returned (.tuple #[]) ∧ R w' := by
  have hta := assert_yes b
  go_enter Tryd.func17, Tryd.ntmps17
  go_wp2_with (go_at_call 31; refine hcall.mono ?_; rintro e w' ⟨rfl, hR⟩)
  have HR : Hid (R w') := hR
  clear hR hcall
  go_end0
  exact ⟨rfl, HR.out⟩

set_option maxHeartbeats 1000000 in
set_option maxRecDepth 100000 in
/-- 'visit' at a value that is none. -/
theorem cVisit_plain (QM : Nat) (n : Nat) (T : Nat → Nat) (at_ : Nat → Int) (v : V) (hv : isV n v = true) (h4 : v.k ≠ 4) (w : World) (R : World → Prop) (HT : Hid (∀ w', Below w.heap.size w w' → ∀ j, j < n → w'.cell? ⟨T j, 0, none⟩ = some (.int .i64 (at_ j))))
    (hcall : ∀ w1, Below w.heap.size w w1 → w.heap.size < w1.heap.size → Calls Tryd.prog 32 #[.agg #[.map (some QM)], vAgg v] w1 fun e w' => e = .returned (.tuple #[]) ∧ R w' ∧ w'.heap[w.heap.size]? = w1.heap[w.heap.size]?) :
    Calls Tryd.prog 17 #[.agg #[fnCT QM, fnCP QM], ifv T v] w fun e w' => e = .returned (.tuple #[]) ∧ R w' := by
  have hta := assert_no hv h4 T
  obtain ⟨xt, xy, F, hty, hmeth, hcf, hcl⟩ := as_at hv T at_
  have hE : atV at_ v = v := by unfold atV; rw [if_neg h4]
  rw [hE] at hcl
  rw [hty] at hta ⊢
  have HC : Hid (∀ w1, Below w.heap.size w w1 → w.heap.size < w1.heap.size → Calls Tryd.prog 32 #[.agg #[.map (some QM)], vAgg v] w1 fun e w' => e = .returned (.tuple #[]) ∧ R w' ∧ w'.heap[w.heap.size]? = w1.heap[w.heap.size]?) := hcall
  have HB0 : Hid (Below w.heap.size w (w.alloc (.cells #[fnCT QM, fnCP QM] 54))) := below_alloc _ _
  have HV0 : Hid ((w.alloc (.cells #[fnCT QM, fnCP QM] 54)).heap[w.heap.size]? = some (.cells #[fnCT QM, fnCP QM] 54 (0, 0))) := heap_alloc_new w _
  clear hcall hE hty
  go_enter Tryd.func17, Tryd.ntmps17
  go_wp2_with fail
  obtain ⟨w0, hw0⟩ : ∃ w0, w0 = w.alloc (.cells #[fnCT QM, fnCP QM] 54) := ⟨_, rfl⟩
  rw [← hw0] at HB0 HV0 ⊢
  clear hw0
  have HB1 : Hid (Below w.heap.size w w0.drew) := HB0.out.drew
  refine wp_region_held_drew (S := fun w' => w'.heap[w.heap.size]? = some (.cells #[fnCT QM, fnCP QM] 54 (0, 0))) (by kernel_rfl) HV0.out (fun hHeld => ?_)
  refine wpAnyH_take (i := 0) (v := .pointer (some ⟨w.heap.size, 1, none⟩)) rfl (by kernel_rfl) (by kernel_rfl) (by kernel_rfl) (fun _ _ _ h => h) (Or.inl ⟨by rfl, fun w hSw => ?_⟩) hHeld ?_
  · first | rfl | go_simp
  simp only [Act.put, List.setIfInBounds_toArray, List.set_cons_zero, List.set_cons_succ, List.getElem_toArray, List.getElem_cons_zero]
  refine wpAnyH_take (i := 1) (v := fnCP QM) rfl (by kernel_rfl) (by kernel_rfl) (by kernel_rfl) (fun _ _ _ h => h) (Or.inl ⟨by rfl, fun w hSw => ?_⟩) hHeld ?_
  · have s1 := (two_at hSw).2.1
    first | rfl | go_simp
  simp only [Act.put, List.setIfInBounds_toArray, List.set_cons_zero, List.set_cons_succ, List.getElem_toArray, List.getElem_cons_zero, List.getElem_cons_succ]
  refine wpAnyH_take (i := 2) (v := .iface xt xy) rfl (by kernel_rfl) (by kernel_rfl) (by kernel_rfl) (fun _ _ _ h => h) (Or.inl ⟨by rfl, fun w hSw => ?_⟩) hHeld ?_
  · first | rfl | go_simp
  simp only [Act.put, List.setIfInBounds_toArray, List.set_cons_zero, List.set_cons_succ, List.getElem_toArray, List.getElem_cons_zero, List.getElem_cons_succ]
  refine wpAnyH_ready (rs := [3]) (by kernel_rfl) (by simp) ?_
  refine AllReadyH.cons rfl (fun K' hK' => ?_) AllReadyH.nil
  have hc2 := hcl w0.drew (HT.out _ HB1.out)
  clear hcl
  go_simp
  refine hc2.mono ?_
  clear hc2
  rintro e w5 ⟨rfl, hb5⟩
  have HB5 : Hid (Below w.heap.size w w5) := HB1.out.trans (hb5.mono HB1.out.size)
  have HV5 : Hid (w5.heap[w.heap.size]? = some (.cells #[fnCT QM, fnCP QM] 54 (0, 0))) := blkB (w := w0.drew) HV0.out hb5
  refine hK'.out _ _ HV5.out (fun hHeld => ?_)
  clear hK' hb5
  refine wpAnyH_ready (rs := [4]) (by kernel_rfl) (by simp) ?_
  refine AllReadyH.cons rfl (fun K' hK' => ?_) AllReadyH.nil
  have hc3 := HC.out w5 HB5.out (blk_lt HV5.out)
  go_simp
  refine hc3.mono ?_
  clear hc3
  rintro e w6 ⟨rfl, hR, hk⟩
  have HR : Hid (R w6) := hR
  have HK6 : Hid (w6.heap[w.heap.size]? = some (.cells #[fnCT QM, fnCP QM] 54 (0, 0))) := hk.trans HV5.out
  refine hK'.out _ _ HK6.out (fun hHeld => ?_)
  clear hK' hHeld hR hk
  refine wpAnyH_done (by kernel_rfl) ?_ _
  go_wp2
  go_end0
  exact ⟨rfl, HR.out⟩

set_option maxHeartbeats 1000000 in
set_option maxRecDepth 100000 in
/-- 'visit' at a table. -/
theorem wVisit_tab (WB b : Nat) (w : World) (R : World → Prop) (hcall : Calls Tryd.prog 33 #[.pointer (some ⟨WB, 0, none⟩), ptr b] (w.alloc (.cells #[fnWT WB, fnWP WB] 54)) fun e w' => e = .returned (.tuple #[]) ∧ R w') :
    Calls Tryd.prog 17 #[.agg #[fnWT WB, fnWP WB], .iface 84 (ptr b)] w fun e w' => e = .returned (.tuple #[]) ∧ R w' := by
  have hta := assert_yes b
  go_enter Tryd.func17, Tryd.ntmps17
  go_wp2_with (go_at_call 33; refine hcall.mono ?_; rintro e w' ⟨rfl, hR⟩)
  have HR : Hid (R w') := hR
  clear hR hcall
  go_end0
  exact ⟨rfl, HR.out⟩

set_option maxHeartbeats 1000000 in
set_option maxRecDepth 100000 in
/-- 'visit' at a value that is none. -/
theorem wVisit_plain (WB : Nat) (n : Nat) (T : Nat → Nat) (at_ : Nat → Int) (v : V) (hv : isV n v = true) (h4 : v.k ≠ 4) (w : World) (R : World → Prop) (HT : Hid (∀ w', Below w.heap.size w w' → ∀ j, j < n → w'.cell? ⟨T j, 0, none⟩ = some (.int .i64 (at_ j))))
    (hcall : ∀ w1, Below w.heap.size w w1 → w.heap.size < w1.heap.size → Calls Tryd.prog 34 #[.pointer (some ⟨WB, 0, none⟩), vAgg v] w1 fun e w' => e = .returned (.tuple #[]) ∧ R w' ∧ w'.heap[w.heap.size]? = w1.heap[w.heap.size]?) :
    Calls Tryd.prog 17 #[.agg #[fnWT WB, fnWP WB], ifv T v] w fun e w' => e = .returned (.tuple #[]) ∧ R w' := by
  have hta := assert_no hv h4 T
  obtain ⟨xt, xy, F, hty, hmeth, hcf, hcl⟩ := as_at hv T at_
  have hE : atV at_ v = v := by unfold atV; rw [if_neg h4]
  rw [hE] at hcl
  rw [hty] at hta ⊢
  have HC : Hid (∀ w1, Below w.heap.size w w1 → w.heap.size < w1.heap.size → Calls Tryd.prog 34 #[.pointer (some ⟨WB, 0, none⟩), vAgg v] w1 fun e w' => e = .returned (.tuple #[]) ∧ R w' ∧ w'.heap[w.heap.size]? = w1.heap[w.heap.size]?) := hcall
  have HB0 : Hid (Below w.heap.size w (w.alloc (.cells #[fnWT WB, fnWP WB] 54))) := below_alloc _ _
  have HV0 : Hid ((w.alloc (.cells #[fnWT WB, fnWP WB] 54)).heap[w.heap.size]? = some (.cells #[fnWT WB, fnWP WB] 54 (0, 0))) := heap_alloc_new w _
  clear hcall hE hty
  go_enter Tryd.func17, Tryd.ntmps17
  go_wp2_with fail
  obtain ⟨w0, hw0⟩ : ∃ w0, w0 = w.alloc (.cells #[fnWT WB, fnWP WB] 54) := ⟨_, rfl⟩
  rw [← hw0] at HB0 HV0 ⊢
  clear hw0
  have HB1 : Hid (Below w.heap.size w w0.drew) := HB0.out.drew
  refine wp_region_held_drew (S := fun w' => w'.heap[w.heap.size]? = some (.cells #[fnWT WB, fnWP WB] 54 (0, 0))) (by kernel_rfl) HV0.out (fun hHeld => ?_)
  refine wpAnyH_take (i := 0) (v := .pointer (some ⟨w.heap.size, 1, none⟩)) rfl (by kernel_rfl) (by kernel_rfl) (by kernel_rfl) (fun _ _ _ h => h) (Or.inl ⟨by rfl, fun w hSw => ?_⟩) hHeld ?_
  · first | rfl | go_simp
  simp only [Act.put, List.setIfInBounds_toArray, List.set_cons_zero, List.set_cons_succ, List.getElem_toArray, List.getElem_cons_zero]
  refine wpAnyH_take (i := 1) (v := fnWP WB) rfl (by kernel_rfl) (by kernel_rfl) (by kernel_rfl) (fun _ _ _ h => h) (Or.inl ⟨by rfl, fun w hSw => ?_⟩) hHeld ?_
  · have s1 := (two_at hSw).2.1
    first | rfl | go_simp
  simp only [Act.put, List.setIfInBounds_toArray, List.set_cons_zero, List.set_cons_succ, List.getElem_toArray, List.getElem_cons_zero, List.getElem_cons_succ]
  refine wpAnyH_take (i := 2) (v := .iface xt xy) rfl (by kernel_rfl) (by kernel_rfl) (by kernel_rfl) (fun _ _ _ h => h) (Or.inl ⟨by rfl, fun w hSw => ?_⟩) hHeld ?_
  · first | rfl | go_simp
  simp only [Act.put, List.setIfInBounds_toArray, List.set_cons_zero, List.set_cons_succ, List.getElem_toArray, List.getElem_cons_zero, List.getElem_cons_succ]
  refine wpAnyH_ready (rs := [3]) (by kernel_rfl) (by simp) ?_
  refine AllReadyH.cons rfl (fun K' hK' => ?_) AllReadyH.nil
  have hc2 := hcl w0.drew (HT.out _ HB1.out)
  clear hcl
  go_simp
  refine hc2.mono ?_
  clear hc2
  rintro e w5 ⟨rfl, hb5⟩
  have HB5 : Hid (Below w.heap.size w w5) := HB1.out.trans (hb5.mono HB1.out.size)
  have HV5 : Hid (w5.heap[w.heap.size]? = some (.cells #[fnWT WB, fnWP WB] 54 (0, 0))) := blkB (w := w0.drew) HV0.out hb5
  refine hK'.out _ _ HV5.out (fun hHeld => ?_)
  clear hK' hb5
  refine wpAnyH_ready (rs := [4]) (by kernel_rfl) (by simp) ?_
  refine AllReadyH.cons rfl (fun K' hK' => ?_) AllReadyH.nil
  have hc3 := HC.out w5 HB5.out (blk_lt HV5.out)
  go_simp
  refine hc3.mono ?_
  clear hc3
  rintro e w6 ⟨rfl, hR, hk⟩
  have HR : Hid (R w6) := hR
  have HK6 : Hid (w6.heap[w.heap.size]? = some (.cells #[fnWT WB, fnWP WB] 54 (0, 0))) := hk.trans HV5.out
  refine hK'.out _ _ HK6.out (fun hHeld => ?_)
  clear hK' hHeld hR hk
  refine wpAnyH_done (by kernel_rfl) ?_ _
  go_wp2
  go_end0
  exact ⟨rfl, HR.out⟩

end Go.Proofs.YtgflalfiopnmnabDoor
