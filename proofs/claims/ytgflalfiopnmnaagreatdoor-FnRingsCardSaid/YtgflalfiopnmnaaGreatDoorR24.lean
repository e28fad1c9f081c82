import Derived.Test.YtgflalfiopnmnaaGreatDoorR23
import Derived.Test.YtgflalfiopnmnaaGreatDoorR13
import Derived.Test.YtgflalfiopnmnaaGreatDoorR14
import Derived.Test.YtgflalfiopnmnaaGreatDoorR15
import Derived.Test.YtgflalfiopnmnaaGreatDoorR20
import Derived.Test.YtgflalfiopnmnaaGreatDoorR7
import Derived.Test.YtgflalfiopnmnaaGreatDoorR4
import Derived.Test.YtgflalfiopnmnaaGreatDoorOnlyB
import Derived.Laws.BitsLemmas
import Derived.Laws.Bits64
import Derived.Test.YtgflalfiopnmnaaGreatDoorRgDef
import Derived.Test.YtgflalfiopnmnaaGreatDoorR11
import Derived.Test.YtgflalfiopnmnaaGreatDoorR2
import Derived.Test.YtgflalfiopnmnaaGreatDoorR5
namespace Go.Proofs.YtgflalfiopnmnaaGreatDoor
open Go.RowKit Vl

theorem short_of {n : Nat} {v : V} (h : isV n v = true) : v.s.size ≤ 500 := by
  obtain ⟨k, m, s, a⟩ := v
  have hz : s.toList = [] → s.size ≤ 500 := fun e => by rw [bytes_empty e]; decide
  by_cases k0 : k = 0
  · subst k0; simp [isV] at h; exact hz h.2.1
  by_cases k1 : k = 1
  · subst k1; simp [isV] at h; exact hz h.2.1
  by_cases k2 : k = 2
  · subst k2; simp [isV] at h; exact hz h.1
  by_cases k3 : k = 3
  · subst k3; simp [isV] at h; exact h.2.2
  by_cases k4 : k = 4
  · subst k4; simp [isV] at h; exact hz h.2.1
  · simp [isV, k0, k1, k2, k3, k4] at h

/-- The numbers are int64's. -/
def Rg (v : V) : Prop := -9223372036854775808 ≤ v.n ∧ v.n ≤ 9223372036854775807
def Rgs (n : Nat) (u : V) (L : Nat → Nat) (K X : Nat → Nat → V) : Prop := Rg u ∧ ∀ r, r < n → ∀ c, c < L r → Rg (K r c) ∧ Rg (X r c)
theorem plain_of_ok {n : Nat} {u : V} {L : Nat → Nat} {K X : Nat → Nat → V} (h : OkG n u L K X) (hr : Rgs n u L K X) : Plain n L K X := by
  refine ⟨fun r hrn c hc => ?_, fun r hrn c hc => ⟨short_of ((h.all r hrn).all c hc).val, (hr.2 r hrn c hc).2⟩⟩
  have hk := ((h.all r hrn).all c hc).key
  unfold isK at hk
  simp only [Bool.and_eq_true, Bool.or_eq_true, beq_iff_eq] at hk
  refine ⟨⟨short_of hk.2, (hr.2 r hrn c hc).1⟩, ?_⟩
  rcases hk.1 with (h1 | h1) | h1
  · exact Or.inr (Or.inl h1)
  · exact Or.inr (Or.inr (Or.inl h1))
  · exact Or.inr (Or.inr (Or.inr h1))

theorem plT_pos (v : V) : 0 < (plT v).length := by
  unfold plT
  split
  · split <;> decide
  · split
    · unfold Lib.itoa
      split
      · simp
      · rw [Lib.decDigits]
        split
        · simp
        · simp
    · split
      · simp [quT]
      · decide
theorem frz_pos {Q : Nat → Nat} {L : Nat → Nat} {K X : Nat → Nat → V} (f : Nat) (t : Ft) (v : V) : 0 < (frz Q L K X (f + 1) t v).out.length := by
  by_cases h4 : v.k = 4
  · by_cases hl : t.lab v.a.toNat = 0
    · rw [wr_new h4 hl, say_len]; simp
    · rw [wr_old h4 (by omega), say_len, List.length_cons]; omega
  · rw [wr_no h4, say_len]; have := plT_pos v; omega

/-- The frozen text. -/
def frzS (n : Nat) (u : V) (L : Nat → Nat) (K X : Nat → Nat → V) : ByteArray := if 20000 < (wrAll n u L K X).out.length then ⟨#[]⟩ else ⟨(wrAll n u L K X).out.toArray⟩
def FrzIs (e : Ending) (n : Nat) (u : V) (L : Nat → Nat) (K X : Nat → Nat → V) : Prop := (OkG n u L K X ∧ e = .returned (.string (frzS n u L K X))) ∨ (¬ OkG n u L K X ∧ e = .returned (.string ⟨#[]⟩))

theorem wrAll_len {n : Nat} {u : V} {L : Nat → Nat} {K X : Nat → Nat → V} (h : OkG n u L K X) (hr : Rgs n u L K X) : (wrAll n u L K X).out.length ≤ 100000000 := by
  have hp := plain_of_ok h hr
  have h1 := wr_len (K := K) h.len (good_of h) (fun r hrn => (h.all r hrn).len) (fun r hrn c hc => (hp.key r hrn c hc).1) hp.val (n + 1) (wat0 (L := L) (X := X) h.root) ⟨short_of h.root, hr.1⟩
  have h2 := (order_all h).1.len
  unfold order at h2
  have h3 := h.len
  have h4 : (frz (cntAll n u L X) L K X (n + 1) ft0 u).out.length ≤ 0 + 1502 + 400000 * ((met L X (n + 1) [] u).length - 0) := h1
  show (frz (cntAll n u L X) L K X (n + 1) ft0 u).out.length ≤ 100000000
  have h5 : 400000 * ((met L X (n + 1) [] u).length - 0) ≤ 400000 * 200 := Nat.mul_le_mul_left _ (by omega)
  exact Nat.le_trans h4 (Nat.le_trans (Nat.add_le_add_left h5 _) (by decide))

set_option maxHeartbeats 4000000 in
set_option maxRecDepth 100000 in
/-- 'impl.Freeze'. -/
theorem implFreeze_any (u : V) (ta : Option Addr) (n cp TB TO : Nat) (A : Nat → Option Addr) (L C RB RO : Nat → Nat) (K X : Nat → Nat → V) (w : World) (hn : n ≤ 1048576) (HS : Hid (Small 1048576 n L K X)) (HT : Hid (TabsAt w ta n TB TO A L C RB RO K X)) (HTab : Hid (Tab w)) (HR : Hid (Rgs n u L K X)) :
    Calls Tryz.prog 7 #[.agg #[.int .i64 u.k, .int .i64 u.n, .string u.s, .int .i64 u.a, .slice ta n cp]] w fun e w' => FrzIs e n u L K X ∧ Below w.heap.size w w' := by
  obtain ⟨w0, hw0⟩ : ∃ w0, w0 = w.alloc (.cells #[.int .i64 u.k, .int .i64 u.n, .string u.s, .int .i64 u.a, .slice ta n cp] 27) := ⟨_, rfl⟩
  have H0 : Hid (Below w.heap.size w w0) := by rw [hw0]; exact below_alloc _ _
  have hlk := link_any u ta n cp TB TO A L C RB RO K X w0 hn HS (HT.out.below H0.out)
  go_enter Tryz.func7, Tryz.ntmps7
  go_wp2_with fail
  rw [← hw0]
  refine hlk.mono ?_
  clear hlk hw0
  rintro e w1 ⟨hcase, hb1⟩
  have H1 : Hid (Below w.heap.size w w1) := H0.out.trans (hb1.mono H0.out.size)
  clear hb1 H0
  rcases hcase with ⟨hG, rfl, base0, hH⟩ | ⟨hN, rfl⟩
  · have HG : Hid (OkG n u L K X) := hG
    have HH : Hid (Half w1 w0.heap.size n n base0 L K X) := hH
    obtain ⟨b, hb⟩ : ∃ b, w0.heap.size = b := ⟨_, rfl⟩
    rw [hb] at HH ⊢
    clear hG hH hb
    obtain ⟨xt, xy, hxv⟩ := ifv_form (tT b) u
    have HXV : Hid (ifv (tT b) u = .iface xt xy) := hxv
    rw [hxv]
    clear hxv
    obtain ⟨w2, hw2⟩ : ∃ w2, w2 = w1.alloc (.cells #[.iface xt xy, .slice (some ⟨b + 2, 0, none⟩) n n] 57) := ⟨_, rfl⟩
    have hb2 : Below w1.heap.size w1 w2 := by rw [hw2]; exact below_alloc _ _
    have H2 : Hid (Below w.heap.size w w2) := H1.out.trans (hb2.mono H1.out.size)
    have HT2 : Hid (Tbs w2 n (tT b) (tM b) (fun j => (j : Nat)) L K X) := (HH.out.tbs HG.out).below hb2
    have HL2 : Hid (w2.heap[w1.heap.size]? = some (.cells #[.iface xt xy, .slice (some ⟨b + 2, 0, none⟩) n n] 57 (0, 0))) := by rw [hw2]; exact heap_alloc_new w1 _
    have hs2 : w2.heap.size = w1.heap.size + 1 := by rw [hw2]; simp
    obtain ⟨w3, hw3⟩ : ∃ w3, w3 = (w2.alloc (.map #[] 0)).alloc (.cells #[.map (some w2.heap.size)] 62) := ⟨_, rfl⟩
    have A3 := alloc2 w2 (.map #[] 0) (.cells #[.map (some w2.heap.size)] 62)
    rw [← hw3] at A3
    obtain ⟨a1, a2, a3, a4⟩ := A3
    have HM3 : Hid (w3.heap[w2.heap.size]? = some (.map #[] 0)) := a1
    have HC3 : Hid (w3.heap[w2.heap.size + 1]? = some (.cells #[.map (some w2.heap.size)] 62 (0, 0))) := a2
    have HB3 : Hid (Below w2.heap.size w2 w3) := a4
    have hs3 : w3.heap.size = w2.heap.size + 2 := a3
    have HL3 : Hid (w3.heap[w1.heap.size]? = some (.cells #[.iface xt xy, .slice (some ⟨b + 2, 0, none⟩) n n] 57 (0, 0))) := blkB HL2.out a4
    clear a1 a2 a3 a4
    obtain ⟨QM, hQM⟩ : ∃ QM, w2.heap.size = QM := ⟨_, rfl⟩
    obtain ⟨LB, hLB⟩ : ∃ LB, w1.heap.size = LB := ⟨_, rfl⟩
    have hQ0 : w2.heap.size ≤ QM := by omega
    have HCt : Hid (CtW w2 w3 QM (tT b) [] (fun _ => 0)) := by
      rw [← hQM]
      exact ⟨⟨#[], 0, HM3.out, rfl⟩, HB3.out⟩
    have hcat := cat0 HG.out.len (good_of HG.out) (fun r hr => (HG.out.all r hr).len) HG.out.root
    have HCat : Hid _ := hcat
    rw [hQM] at hw3 HC3 hs3
    rw [hLB] at HL3
    rw [hw2] at hw3
    clear hcat HH hb2 HM3
    have HQS : Hid (LB + 1 = QM) := show _ = _ by omega
    have hmm := @run_makeMap Tryz.prog
    go_wp2_with fail
    rw [HQS.out, ← hw3]
    clear hw3 hw2 hmm
    have HS3 : Hid (w3.heap.size = QM + 2) := hs3
    have HZ2 : Hid (w2.heap.size = QM) := hQM
    clear hs3 hQM hLB hs2
    refine wp_region_held_drew (S := fun w' => w'.heap[QM + 1]? = some (.cells #[.map (some QM)] 62 (0, 0)) ∧ w'.heap[LB]? = some (.cells #[.iface xt xy, .slice (some ⟨b + 2, 0, none⟩) n n] 57 (0, 0))) (by kernel_rfl) ⟨HC3.out, HL3.out⟩ (fun hHeld => ?_)
    refine wpAnyH_take (i := 0) (v := .agg #[.map (some QM)]) rfl (by kernel_rfl) (by kernel_rfl) (by kernel_rfl) (fun _ _ _ h => h) (Or.inl ⟨by rfl, fun w hSw => ?_⟩) hHeld ?_
    · have s1 := (one_at hSw.1).1
      first | rfl | go_simp
    simp only [Act.put, List.setIfInBounds_toArray, List.set_cons_zero, List.set_cons_succ, List.getElem_toArray, List.getElem_cons_zero]
    refine wpAnyH_take (i := 2) (v := .pointer (some ⟨LB, 0, none⟩)) rfl (by kernel_rfl) (by kernel_rfl) (by kernel_rfl) (fun _ _ _ h => h) (Or.inl ⟨by rfl, fun w hSw => ?_⟩) hHeld ?_
    · first | rfl | go_simp
    simp only [Act.put, List.setIfInBounds_toArray, List.set_cons_zero, List.set_cons_succ, List.getElem_toArray, List.getElem_cons_zero, List.getElem_cons_succ]
    refine wpAnyH_take (i := 3) (v := .iface xt xy) rfl (by kernel_rfl) (by kernel_rfl) (by kernel_rfl) (fun _ _ _ h => h) (Or.inl ⟨by rfl, fun w hSw => ?_⟩) hHeld ?_
    · have s1 := (two_at hSw.2).1
      first | rfl | go_simp
    simp only [Act.put, List.setIfInBounds_toArray, List.set_cons_zero, List.set_cons_succ, List.getElem_toArray, List.getElem_cons_zero, List.getElem_cons_succ]
    refine wpAnyH_ready (rs := [1]) (by kernel_rfl) (by simp) ?_
    refine AllReadyH.cons rfl (fun K' hK' => ?_) AllReadyH.nil
    have hcv := cVisitor_any QM w3.drew
    go_simp
    refine hcv.mono ?_
    clear hcv
    rintro e w4 ⟨rfl, hb4⟩
    have HB4 : Hid (Below w3.drew.heap.size w3.drew w4) := hb4
    have HCt4 : Hid (CtW w2 w4 QM (tT b) [] (fun _ => 0)) := HCt.out.below ((Below.refl _ _).drew.trans hb4)
    have HC4 : Hid (w4.heap[QM + 1]? = some (.cells #[.map (some QM)] 62 (0, 0))) := blkB (w := w3.drew) HC3.out hb4
    have HL4 : Hid (w4.heap[LB]? = some (.cells #[.iface xt xy, .slice (some ⟨b + 2, 0, none⟩) n n] 57 (0, 0))) := blkB (w := w3.drew) HL3.out hb4
    refine hK'.out _ _ ⟨HC4.out, HL4.out⟩ (fun hHeld => ?_)
    clear hK' hb4
    refine wpAnyH_ready (rs := [4]) (by kernel_rfl) (by simp) ?_
    refine AllReadyH.cons rfl (fun K' hK' => ?_) AllReadyH.nil
    have hcall := cVisit_any n (tT b) (tM b) _ L K X w2 QM (show ∀ r, _ from fun r hr => (HG.out.all r hr).len) (good_of HG.out) HT2 hQ0 (n + 1) [] (fun _ => 0) u w4 HCat HCt4
    rw [HXV.out] at hcall
    go_simp
    refine hcall.mono ?_
    clear hcall
    rintro e w5 ⟨rfl, hW5, hO5⟩
    have HCt5 : Hid (CtW w2 w5 QM (tT b) (order n u L X) (cntAll n u L X)) := hW5
    have hqs := HQS.out
    have HC5 : Hid (w5.heap[QM + 1]? = some (.cells #[.map (some QM)] 62 (0, 0))) := (hO5.block _ (blk_lt HC4.out) (by omega)).trans HC4.out
    have HL5 : Hid (w5.heap[LB]? = some (.cells #[.iface xt xy, .slice (some ⟨b + 2, 0, none⟩) n n] 57 (0, 0))) := (hO5.block _ (blk_lt HL4.out) (by omega)).trans HL4.out
    refine hK'.out _ _ ⟨HC5.out, HL5.out⟩ (fun hHeld => ?_)
    clear hK' hHeld
    refine wpAnyH_done (by kernel_rfl) ?_ _
    have HZ5 : Hid (QM + 2 ≤ w5.heap.size) := show _ ≤ _ by have := HB4.out.size; have h1 := hO5.size; have h2 := HS3.out; have h3 : w3.drew.heap.size = w3.heap.size := rfl; omega
    have HB5 : Hid (Below w.heap.size w w5) := H2.out.trans (HCt5.out.bel.mono H2.out.size)
    have HT5 : Hid (Tbs w5 n (tT b) (tM b) (fun j => (j : Nat)) L K X) := by
      have h1 : Only (fun k => k = QM) w2 w5 := ((Only.below HB3.out).trans ((Only.below (Below.refl _ _).drew).trans (Only.below HB4.out))).trans hO5
      exact HT2.out.only h1 (fun k hk e => by have := HZ2.out; omega)
    clear hW5 hO5
    obtain ⟨WB, hWB⟩ : ∃ WB, w5.heap.size + 1 = WB := ⟨_, rfl⟩
    obtain ⟨LM, hLM⟩ : ∃ LM, w5.heap.size = LM := ⟨_, rfl⟩
    obtain ⟨w6, hw6⟩ : ∃ w6, w6 = (w5.alloc (.map #[] 0)).alloc (.cells #[.map (some QM), .map (some LM), .pointer none, .slice none 0 0] 74) := ⟨_, rfl⟩
    have A6 := alloc2 w5 (.map #[] 0) (.cells #[.map (some QM), .map (some LM), .pointer none, .slice none 0 0] 74)
    rw [← hw6] at A6
    obtain ⟨a1, a2, a3, a4⟩ := A6
    rw [hWB] at a2
    rw [hLM] at a1
    have HB6 : Hid (Below w5.heap.size w5 w6) := a4
    have HWrB : Hid (WrB w5 WB QM LM (WB + 1)) := by have h1 := HZ5.out; exact ⟨by omega, by omega, by omega, by omega, by omega, by omega, by omega, by omega⟩
    have HEnv : Hid (Env w5 n (tT b) (tM b) (fun j => (j : Nat)) L K X WB QM LM (WB + 1) (order n u L X) (cntAll n u L X)) := ⟨HG.out.len, fun r hr => (HG.out.all r hr).len, good_of HG.out, HT5.out, HWrB.out, plain_of_ok HG.out HR.out, fun w' hb' => HTab.out w' (HB5.out.trans (hb'.mono HB5.out.size)), (order_all HG.out).1, led_cnt (n + 1) u led_nil, HCat.out.le⟩
    have HWt6 : Hid (WtW w5 w6 WB QM LM (WB + 1) n (tT b) (order n u L X) (cntAll n u L X) ft0 (.slice none 0 0)) :=
      ⟨⟨⟨.pointer none, Or.inl rfl, a2⟩, World.ownsRow_nil _ _ _ _⟩, HCt5.out.map.same (a4.block _ HCt5.out.map.lt), ⟨[], Fit.nil n, fun i => by simp [ft0], rfl, ⟨#[], 0, a1, rfl⟩⟩, a4⟩
    have HL6 : Hid (w6.heap[LB]? = some (.cells #[.iface xt xy, .slice (some ⟨b + 2, 0, none⟩) n n] 57 (0, 0))) := blkB HL5.out a4
    have HZ6 : Hid (w6.heap.size = WB + 1) := show _ = _ by omega
    have x5 := (one_at HC5.out).1
    have x5' : ∀ o, (w5.alloc o).cell? ⟨QM + 1, 0, none⟩ = some (.map (some QM)) := fun o => ((below_alloc w5 o).cell (p := ⟨QM + 1, 0, none⟩) (blk_lt HC5.out)).trans x5
    have hmm := @run_makeMap Tryz.prog
    have HWL : Hid (LM + 1 = WB) := show _ = _ by omega
    clear a1 a2 a3 a4 hqs
    go_wp2_with fail
    rw [HWL.out, ← hw6]
    clear hw6 hmm x5 x5' hWB hLM
    refine wp_region_held_drew (S := fun w' => w'.heap[LB]? = some (.cells #[.iface xt xy, .slice (some ⟨b + 2, 0, none⟩) n n] 57 (0, 0))) (by kernel_rfl) HL6.out (fun hHeld => ?_)
    refine wpAnyH_take (i := 0) (v := .pointer (some ⟨WB, 0, none⟩)) rfl (by kernel_rfl) (by kernel_rfl) (by kernel_rfl) (fun _ _ _ h => h) (Or.inl ⟨by rfl, fun w hSw => ?_⟩) hHeld ?_
    · first | rfl | go_simp
    simp only [Act.put, List.setIfInBounds_toArray, List.set_cons_zero, List.set_cons_succ, List.getElem_toArray, List.getElem_cons_zero]
    refine wpAnyH_take (i := 2) (v := .pointer (some ⟨LB, 0, none⟩)) rfl (by kernel_rfl) (by kernel_rfl) (by kernel_rfl) (fun _ _ _ h => h) (Or.inl ⟨by rfl, fun w hSw => ?_⟩) hHeld ?_
    · first | rfl | go_simp
    simp only [Act.put, List.setIfInBounds_toArray, List.set_cons_zero, List.set_cons_succ, List.getElem_toArray, List.getElem_cons_zero, List.getElem_cons_succ]
    refine wpAnyH_take (i := 3) (v := .iface xt xy) rfl (by kernel_rfl) (by kernel_rfl) (by kernel_rfl) (fun _ _ _ h => h) (Or.inl ⟨by rfl, fun w hSw => ?_⟩) hHeld ?_
    · have s1 := (two_at hSw).1
      first | rfl | go_simp
    simp only [Act.put, List.setIfInBounds_toArray, List.set_cons_zero, List.set_cons_succ, List.getElem_toArray, List.getElem_cons_zero, List.getElem_cons_succ]
    refine wpAnyH_ready (rs := [1]) (by kernel_rfl) (by simp) ?_
    refine AllReadyH.cons rfl (fun K' hK' => ?_) AllReadyH.nil
    have hcv := wVisitor_any WB w6.drew
    go_simp
    refine hcv.mono ?_
    clear hcv
    rintro e w7 ⟨rfl, hb7⟩
    have HB7 : Hid (Below w6.drew.heap.size w6.drew w7) := hb7
    have HWt7 : Hid (WtW w5 w7 WB QM LM (WB + 1) n (tT b) (order n u L X) (cntAll n u L X) ft0 (.slice none 0 0)) := HWt6.out.below ((Below.refl _ _).drew.trans hb7)
    have HL7 : Hid (w7.heap[LB]? = some (.cells #[.iface xt xy, .slice (some ⟨b + 2, 0, none⟩) n n] 57 (0, 0))) := blkB (w := w6.drew) HL6.out hb7
    refine hK'.out _ _ HL7.out (fun hHeld => ?_)
    clear hK' hb7
    refine wpAnyH_ready (rs := [4]) (by kernel_rfl) (by simp) ?_
    refine AllReadyH.cons rfl (fun K' hK' => ?_) AllReadyH.nil
    have hz7 : WB + 1 ≤ w7.heap.size := by have := HB7.out.size; have h2 := HZ6.out; have h3 : w6.drew.heap.size = w6.heap.size := rfl; omega
    have hcall := wVisit_any w5 n (tT b) (tM b) (fun j => (j : Nat)) L K X WB QM LM (WB + 1) (order n u L X) (cntAll n u L X) HEnv (n + 1) [] (fun _ => 0) ft0 u w7 (.slice none 0 0) (wat0 HG.out.root) ⟨short_of HG.out.root, HR.out.1⟩ (wrAll_len HG.out HR.out) hz7 HWt7
    rw [HXV.out] at hcall
    go_simp
    refine hcall.mono ?_
    clear hcall
    rintro e w8 ⟨rfl, b8, hW8, hF8⟩
    have HL8 : Hid (w8.heap[LB]? = some (.cells #[.iface xt xy, .slice (some ⟨b + 2, 0, none⟩) n n] 57 (0, 0))) := hF8.blk HL7.out (by have := HQS.out; have := HZ5.out; have := HWL.out; have := HCt5.out.map.lt; have := HWrB.out.wb; omega) (by have := HQS.out; have := HZ5.out; have := HWrB.out.lm; omega) (by simp [Value.ownBlock])
    refine hK'.out _ _ HL8.out (fun hHeld => ?_)
    clear hK' hHeld
    refine wpAnyH_done (by kernel_rfl) ?_ _
    obtain ⟨o, ho1, ho2, ho3, ho4⟩ := hW8.st
    have HO1 : Hid (WrS w8 WB QM LM (WB + 1) b8 o) := ho1
    have HO2 : Hid (Below w5.heap.size w5 w8) := ho2
    have HB8 : Hid (Below w.heap.size w w8) := HB5.out.trans (ho2.mono HB5.out.size)
    have htl := tooLong_any WB QM LM (WB + 1) b8 o w8 HO1
    have ho3' : o.length ≤ (wrAll n u L K X).out.length := ho3
    clear hW8 hF8 ho1 ho2 ho3
    by_cases hlong : 20000 < o.length
    · rw [decide_eq_true hlong] at htl
      have HFin : Hid (FrzIs (.returned (.string ⟨#[]⟩)) n u L K X) := by
        refine Or.inl ⟨HG.out, ?_⟩
        unfold frzS
        rw [if_pos (by omega)]
      clear hlong ho4 ho3'
      go_wp2_with (go_at_call 27; refine htl.mono ?_; rintro e w' ⟨rfl, rfl⟩)
      go_ret
      exact ⟨HFin.out, HB8.out⟩
    · rw [decide_eq_false hlong] at htl
      have hoe : o = (wrAll n u L K X).out := (ho4.resolve_left hlong).2
      have hne : o ≠ [] := fun e => by
        have := frz_pos (Q := cntAll n u L X) (L := L) (K := K) (X := X) n ft0 u
        have h2 : 0 < (wrAll n u L K X).out.length := this
        rw [← hoe, e] at h2
        simp at h2
      have HFin : Hid (FrzIs (.returned (.string ⟨o.toArray⟩)) n u L K X) := by
        refine Or.inl ⟨HG.out, ?_⟩
        unfold frzS
        rw [if_neg (by rw [← hoe]; exact hlong), ← hoe]
      have hst := bString_any WB QM LM (WB + 1) b8 o hne w8 w HB8.out (by have := HB5.out.size; have := HWrB.out.wb; omega) HO1
      clear hlong ho4 ho3' hoe hne
      go_wp2_with (first | (go_at_call 27; refine htl.mono ?_; rintro e w' ⟨rfl, rfl⟩) | (go_at_call 28; refine hst.mono ?_; rintro e w' ⟨rfl, hb'⟩))
      have HBF : Hid _ := hb'
      clear hst htl hb'
      go_wp2
      go_ret
      exact ⟨HFin.out, HBF.out⟩
  · have HN : Hid (¬ OkG n u L K X) := hN
    clear hN
    have HB2 : Hid (Below w.heap.size w (w1.alloc (.cells #[.nilIface, .slice none 0 0] 57))) := H1.out.trans ((below_alloc _ _).mono H1.out.size)
    go_wp2
    go_ret
    exact ⟨Or.inr ⟨HN.out, rfl⟩, HB2.out⟩

end Go.Proofs.YtgflalfiopnmnaaGreatDoor

/-
  What the four functions answer at rings.
-/
namespace Go.Proofs.YtgflalfiopnmnaaGreatDoor
open Go.RowKit Vl

theorem shU (n : Nat) : (sh n rgU).a.toNat = n := by
  show ((0 : Int) + (n : Int)).toNat = n
  omega

theorem same_rr {n m : Nat} (h0 : 0 < n) (hn : n ≤ 60) (m0 : 0 < m) (hm : m ≤ 60) {e : Ending} (h : SameRes e n m rgU rgU raL raL raK (raX n) raK (raX m)) : e = .returned (.bool true) := by
  rcases h with ⟨_, f, hf, rfl⟩ | ⟨hno, _⟩
  · have : alike f rgU (sh n rgU) = true := by
      refine alike_iff.2 ⟨rfl, fun _ => ?_, fun h => absurd rfl h⟩
      rw [shU]
      exact rings_same h0 m0 hf (show 0 < n + m by omega) (by omega)
    rw [this]
  · exact absurd ⟨ra_ok h0 hn, ra_ok m0 hm⟩ hno

theorem same_ab {n : Nat} (h0 : 0 < n) (hn : n ≤ 60) {e : Ending} (h : SameRes e n n rgU rgU raL (rbL n) raK (raX n) rbK (rbX n)) : e = .returned (.bool false) := by
  rcases h with ⟨_, f, hf, rfl⟩ | ⟨hno, _⟩
  · have hne := ab_part hf (n - 1) 0 (by omega) h0
    have : alike f rgU (sh n rgU) = false := by
      cases hb : alike f rgU (sh n rgU) with
      | false => rfl
      | true =>
        have h2 := (alike_iff.1 hb).2.1 rfl
        rw [shU] at h2
        exact absurd h2 hne
    rw [this]
  · exact absurd ⟨ra_ok h0 hn, rb_ok h0 hn⟩ hno

theorem apart_ab {n : Nat} (h0 : 0 < n) (hn : n ≤ 60) {w w' : World} {e : Ending} (h : ApI w w' e n n rgU rgU raL (rbL n) raK (raX n) rbK (rbX n)) :
    ∃ v, e = .returned v ∧ w'.ownsRow w.heap.size 24 4 v n (keyCells (List.replicate (n - 1) rgK ++ [rgT])) := by
  rcases h with ⟨_, f, v, ans, hf, _, rfl, hI, ho⟩ | ⟨hno, _⟩
  · have hd : ∀ i, i < n → f i ≠ f (n + i) := fun i hi => ab_part hf (n - 1 - i) i (by omega) hi
    have e := Aw.IDone.det hI (rg_path h0 hd)
    subst e
    refine ⟨v, rfl, ?_⟩
    have hl : (List.replicate (n - 1) rgK ++ [rgT]).length = n := by simp; omega
    rw [hl] at ho
    exact ho
  · exact absurd ⟨ra_ok h0 hn, rb_ok h0 hn⟩ hno

theorem shrink_a {n : Nat} (h0 : 0 < n) (hn : n ≤ 60) {w w' : World} {e : Ending} (h : ShrIs w w' e n rgU raL raK (raX n)) :
    ∃ (tv : Value) (PV : Nat → Value) (base : Nat) (L : Nat → Nat) (K X : Nat → Nat → V), w.heap.size ≤ base ∧ e = .returned (.agg #[.int .i64 4, .int .i64 0, .string ⟨#[]⟩, .int .i64 0, tv]) ∧ OTab w' base tv 1 PV L K X ∧ L 0 = 1 ∧ K 0 0 = rgK ∧ X 0 0 = rgV 0 := by
  rcases h with ⟨_, f, ls, ⟨hs, hi⟩, hc⟩ | ⟨hno, _⟩
  · have hu : fstV f rgU = rgV 0 := by
      show (⟨4, 0, rgE, ((f 0 : Nat) : Int)⟩ : V) = _
      rw [ra_cls h0 hi h0]
      rfl
    have hX : fX (raX n) ls f 0 0 = rgV 0 := by
      show (⟨4, 0, rgE, ((f ((((0 + 1) % n : Nat) : Int).toNat) : Nat) : Int)⟩ : V) = _
      have : ((((0 + 1) % n : Nat) : Int).toNat) < n := by have := Nat.mod_lt (0 + 1) h0; omega
      rw [ra_cls h0 hi this]
      rfl
    have hord : order n (fstV f rgU) raL (fX (raX n) ls f) = [0] := by rw [hu]; exact met_self rfl hX
    rcases hc with ⟨_, tv, PV, base, hb, rfl, hO⟩ | ⟨hno', _⟩
    · rw [hord] at hO ⊢
      refine ⟨tv, PV, base, _, _, _, hb, ?_, hO, rfl, rfl, ?_⟩
      · rw [hu]; rfl
      · show renum [0] (fX (raX n) ls f 0 0) = _
        rw [hX]
        rfl
    · exact absurd (okG_shr (ra_ok h0 hn) hs hi.low) hno'
  · exact absurd (ra_ok h0 hn) hno

theorem shrink_b {n : Nat} (h0 : 0 < n) (hn : n ≤ 60) {w w' : World} {e : Ending} (h : ShrIs w w' e n rgU (rbL n) rbK (rbX n)) :
    ∃ (k a : Int) (x : Int) (s : ByteArray) (ta : Option Addr) (cp : Nat), e = .returned (.agg #[.int .i64 k, .int .i64 x, .string s, .int .i64 a, .slice ta n cp]) := by
  rcases h with ⟨_, f, ls, ⟨hs, hi⟩, hc⟩ | ⟨hno, _⟩
  · have hu : fstV f rgU = rgV 0 := by
      show (⟨4, 0, rgE, ((f 0 : Nat) : Int)⟩ : V) = _
      rw [rb_one hs hi h0]
      rfl
    have hok := okG_shr (rb_ok h0 hn) hs hi.low
    have hord : (order n (fstV f rgU) (rbL n) (fX (rbX n) ls f)).length = n := rb_order hok hu (fun i hlt => by
      refine ⟨0, by rw [rbL_one (by omega)]; omega, ?_⟩
      show fstV f (sK (rbX n) ls i 0) = _
      rw [rb_next hs (by omega), rgX_eq hlt]
      show (⟨4, 0, rgE, ((f (((i + 1 : Nat) : Int).toNat) : Nat) : Int)⟩ : V) = _
      rw [show (((i + 1 : Nat) : Int).toNat) = i + 1 by omega, rb_one hs hi hlt]
      rfl)
    rcases hc with ⟨_, tv, PV, base, hb, rfl, hO⟩ | ⟨hno', _⟩
    · obtain ⟨oa, oc, rfl, _⟩ := owns_form hO.own
      rw [hord]
      exact ⟨_, _, _, _, oa, oc, rfl⟩
    · exact absurd hok hno'
  · exact absurd (rb_ok h0 hn) hno

theorem one_ok {L : Nat → Nat} {K X : Nat → Nat → V} (hL : L 0 = 1) (hK : K 0 0 = rgK) (hX : X 0 0 = rgV 0) : OkG 1 (rgV 0) L K X := by
  have hv : isV 1 (rgV 0) = true := by unfold isV rgV; simp [rgE]
  refine ⟨by omega, hv, fun r hr => ?_⟩
  obtain rfl : r = 0 := by omega
  refine ⟨by omega, fun c hc => ?_⟩
  obtain rfl : c = 0 := by omega
  exact ⟨by rw [hK]; exact rgK_ok, by rw [hX]; exact hv, by rw [hX]; unfold rgV; simp, fun j hj => by omega⟩

theorem freeze_one {L : Nat → Nat} {K X : Nat → Nat → V} (hL : L 0 = 1) (hK : K 0 0 = rgK) (hX : X 0 0 = rgV 0) {e : Ending} (h : FrzIs e 1 (rgV 0) L K X) : e = .returned (.string ⟨#[35, 49, 61, 123, 49, 58, 32, 35, 49, 125]⟩) := by
  rcases h with ⟨_, rfl⟩ | ⟨hno, _⟩
  · unfold frzS
    rw [frz_one hL hK hX]
    rfl
  · exact absurd (one_ok hL hK hX) hno

theorem ra_small (n : Nat) : Small 1048576 n raL raK (raX n) := fun r _ => ⟨by unfold raL; omega, fun c _ => ⟨Nat.zero_le _, Nat.zero_le _⟩⟩
theorem rb_small (n : Nat) : Small 1048576 n (rbL n) rbK (rbX n) := fun r _ => ⟨by unfold rbL; split <;> omega, fun c _ => by
  constructor
  · unfold rbK; split <;> exact Nat.zero_le _
  · unfold rbX; split <;> exact Nat.zero_le _⟩
theorem one_small {L : Nat → Nat} {K X : Nat → Nat → V} (hL : L 0 = 1) (hK : K 0 0 = rgK) (hX : X 0 0 = rgV 0) : Small 1048576 1 L K X := fun r hr => by
  obtain rfl : r = 0 := by omega
  refine ⟨by omega, fun c hc => ?_⟩
  obtain rfl : c = 0 := by omega
  rw [hK, hX]
  exact ⟨Nat.zero_le _, Nat.zero_le _⟩
theorem one_rgs {L : Nat → Nat} {K X : Nat → Nat → V} (hL : L 0 = 1) (hK : K 0 0 = rgK) (hX : X 0 0 = rgV 0) : Rgs 1 (rgV 0) L K X := by
  have hv : Rg (rgV 0) := by unfold Rg rgV; simp
  refine ⟨hv, fun r hr c hc => ?_⟩
  obtain rfl : r = 0 := by omega
  obtain rfl : c = 0 := by omega
  rw [hK, hX]
  exact ⟨by unfold Rg rgK; simp, hv⟩

end Go.Proofs.YtgflalfiopnmnaaGreatDoor

namespace Go.Proofs.YtgflalfiopnmnaaGreatDoor
open Go.RowKit

/-- The reader of choices: its box CB; at most t choices were taken. -/
structure CurS (w : World) (CB : Nat) (sl : Value) (t : Nat) : Prop where
  ex : ∃ (a : Nat) (sd : Int), a ≤ t ∧ w.heap[CB]? = some (.cells #[sl, .int .i64 a, .int .u64 sd] 51 (0, 0))

/-- The bytes that came in. -/
def ByteR (w : World) (ca : Option Addr) (cl cb co : Nat) : Prop := ∀ i, i < cl → ca = some ⟨cb, co, none⟩ ∧ ∃ x : Nat, x ≤ 255 ∧ w.cell? ⟨cb, co + i, none⟩ = some (.int .u8 x)

theorem CurS.drewN {w : World} {CB t : Nat} {sl : Value} (h : CurS w CB sl t) (m : Nat) : CurS (w.drewN m) CB sl t := ⟨h.ex⟩
theorem Only.drewN {P : Nat → Prop} {a b : World} (h : Only P a b) (m : Nat) : Only P a (b.drewN m) := ⟨h.os, h.tape, h.output, h.size, h.block⟩
theorem cur_set {w : World} {CB : Nat} {sl : Value} {a : Nat} {sd : Int} (h : w.heap[CB]? = some (.cells #[sl, .int .i64 a, .int .u64 sd] 51 (0, 0))) (a' : Int) (sd' : Int) :
    (w.setCell ⟨CB, 1, none⟩ (.int .i64 a')).heap[CB]? = some (.cells #[sl, .int .i64 a', .int .u64 sd] 51 (0, 0)) ∧ (w.setCell ⟨CB, 2, none⟩ (.int .u64 sd')).heap[CB]? = some (.cells #[sl, .int .i64 a, .int .u64 sd'] 51 (0, 0)) := by
  constructor <;> simp [World.setCell, Array.getElem?_modify, h]

theorem eight (Y : Int) : ∃ y : Nat, y ≤ 255 ∧ wrap64 (bits .and .u64 (IntKind.u64.wrap Y / 1099511627776) 255) = (y : Int) := by
  have hw : ∀ n : Int, 0 ≤ n → n < 2 ^ 63 → IntKind.u64.wrap n = n := fun n _ _ => by rw [IntKind.wrap_u64]; omega
  have h0 : 0 ≤ IntKind.u64.wrap Y / 1099511627776 ∧ IntKind.u64.wrap Y / 1099511627776 < 16777216 := by rw [IntKind.wrap_u64]; omega
  have h := bits_mask .u64 63 (by decide) hw 8 (by decide) (IntKind.u64.wrap Y / 1099511627776) h0.1 (by omega)
  have e : ((2 : Int) ^ 8 - 1) = 255 := by decide
  have e2 : ((2 : Int) ^ 8) = 256 := by decide
  rw [e, e2] at h
  rw [h]
  refine ⟨((IntKind.u64.wrap Y / 1099511627776) % 256).toNat, by omega, ?_⟩
  unfold wrap64
  omega

/-- Behind a choice: both numbers are laid anew. -/
theorem cur_next {w : World} {CB : Nat} {sl : Value} {a t : Nat} {sd : Int} (h : w.heap[CB]? = some (.cells #[sl, .int .i64 a, .int .u64 sd] 51 (0, 0))) (ha : a ≤ t) (m : Nat) (sd' : Int) :
    (CurS (((w.drewN m).setCell ⟨CB, 1, none⟩ (.int .i64 ((a : Int) + 1))).setCell ⟨CB, 2, none⟩ (.int .u64 sd')) CB sl (t + 1) ∧ Only (fun k => k = CB) w (((w.drewN m).setCell ⟨CB, 1, none⟩ (.int .i64 ((a : Int) + 1))).setCell ⟨CB, 2, none⟩ (.int .u64 sd'))) ∧
    (CurS (((w.drewN m).setCell ⟨CB, 2, none⟩ (.int .u64 sd')).setCell ⟨CB, 1, none⟩ (.int .i64 ((a : Int) + 1))) CB sl (t + 1) ∧ Only (fun k => k = CB) w (((w.drewN m).setCell ⟨CB, 2, none⟩ (.int .u64 sd')).setCell ⟨CB, 1, none⟩ (.int .i64 ((a : Int) + 1)))) := by
  have h0 : (w.drewN m).heap[CB]? = some (.cells #[sl, .int .i64 a, .int .u64 sd] 51 (0, 0)) := h
  have h1 := (cur_set h0 ((a + 1 : Nat) : Int) sd').1
  have h2 := (cur_set h1 0 sd').2
  have h3 := (cur_set h0 0 sd').2
  have h4 := (cur_set h3 ((a + 1 : Nat) : Int) 0).1
  have e : ((a + 1 : Nat) : Int) = (a : Int) + 1 := by omega
  refine ⟨⟨⟨a + 1, sd', by omega, h2⟩, ?_⟩, ⟨⟨a + 1, sd', by omega, h4⟩, ?_⟩⟩
  · exact (((Only.refl (fun k => k = CB) w).drewN m).set (p := ⟨CB, 1, none⟩) rfl _).set (p := ⟨CB, 2, none⟩) rfl _
  · exact (((Only.refl (fun k => k = CB) w).drewN m).set (p := ⟨CB, 2, none⟩) rfl _).set (p := ⟨CB, 1, none⟩) rfl _

set_option maxHeartbeats 1000000 in
theorem next_any (w : World) (CB : Nat) (ca : Option Addr) (cl cc cb co t : Nat) (hC : CurS w CB (.slice ca cl cc) t) (hB : ByteR w ca cl cb co) (hcl : cl ≤ 1048576) (ht : t ≤ 100000000) :
    Calls Tryz.prog 84 #[.pointer (some ⟨CB, 0, none⟩)] w fun e w' => (∃ y : Nat, y ≤ 255 ∧ e = .returned (.int .i64 y)) ∧ CurS w' CB (.slice ca cl cc) (t + 1) ∧ Only (fun k => k = CB) w w' := by
  obtain ⟨a, sd, ha, hb⟩ := hC.ex
  have c0 : w.cell? ⟨CB, 0, none⟩ = some (.slice ca cl cc) := by simp [World.cell?, hb]
  have c1 : w.cell? ⟨CB, 1, none⟩ = some (.int .i64 a) := by simp [World.cell?, hb]
  have c2 : w.cell? ⟨CB, 2, none⟩ = some (.int .u64 sd) := by simp [World.cell?, hb]
  have z : ∀ i, w.frozen? ⟨CB, i, none⟩ = false := fun i => by simp [World.frozen?, hb]
  have Hb : Hid _ := hb
  clear hb
  by_cases hlt : a < cl
  · obtain ⟨rfl, x, hx, hc⟩ := hB a hlt
    have il : (a : Int) < (cl : Int) := by omega
    clear hB hC
    go_enter Tryz.func84, Tryz.ntmps84
    go_wp2_with fail
    go_quiet (fail)
    go_wp2_with fail
    go_quiet (fail)
    go_wp2
    go_ret
    exact ⟨⟨x, hx, rfl⟩, (cur_next Hb.out ha _ _).1⟩
  · clear hB hC
    have il : ¬ (a : Int) < (cl : Int) := by omega
    go_enter Tryz.func84, Tryz.ntmps84
    go_wp2_with fail
    go_quiet (fail)
    go_wp2
    go_ret
    obtain ⟨y, hy, e⟩ := eight (IntKind.u64.wrap (sd * 6364136223846793005) + 1442695040888963407)
    exact ⟨⟨y, hy, by show Ending.returned (Value.int .i64 (wrap64 _)) = _; rw [e]⟩, (cur_next Hb.out ha _ _).2⟩

theorem ByteR.only {w w' : World} {ca : Option Addr} {cl cb co : Nat} (h : ByteR w ca cl cb co) {P : Nat → Prop} (ho : Only P w w') (hP : ¬ P cb) : ByteR w' ca cl cb co := by
  intro i hi
  obtain ⟨e, x, hx, hc⟩ := h i hi
  exact ⟨e, x, hx, by rw [World.cell?_of_block (ho.block cb (World.block_lt_of_cell? _ _ hc) hP)]; exact hc⟩

set_option maxHeartbeats 1000000 in
/-- 'pick' of at most 200. -/
theorem pick_any (w : World) (CB : Nat) (ca : Option Addr) (cl cc cb co t : Nat) (m : Nat) (hm0 : 0 < m) (hm : m ≤ 200) (hC : CurS w CB (.slice ca cl cc) t) (hB : ByteR w ca cl cb co) (hcl : cl ≤ 1048576) (ht : t ≤ 100000000) :
    Calls Tryz.prog 47 #[.pointer (some ⟨CB, 0, none⟩), .int .i64 m] w fun e w' => (∃ y : Nat, y < m ∧ e = .returned (.int .i64 y)) ∧ CurS w' CB (.slice ca cl cc) (t + 1) ∧ Only (fun k => k = CB) w w' := by
  by_cases h1 : m ≤ 1
  · have HC : Hid (CurS w CB (.slice ca cl cc) (t + 1)) := by obtain ⟨a, sd, ha, hb⟩ := hC.ex; exact ⟨a, sd, by omega, hb⟩
    have hn := hC
    clear hC hn hB
    go_enter Tryz.func47, Tryz.ntmps47
    go_wp2
    go_ret
    exact ⟨⟨0, by omega, rfl⟩, HC.out, Only.refl _ _⟩
  · have hnx := next_any w CB ca cl cc cb co t hC hB hcl ht
    clear hC hB
    have hne : ¬ (m : Int) = 0 := by omega
    have hneb : ((m : Int) == 0) = false := by simp; omega
    go_enter Tryz.func47, Tryz.ntmps47
    go_wp2_with fail
    refine hnx.mono ?_
    clear hnx
    rintro e w1 ⟨⟨y, hy, rfl⟩, hC1, hO1⟩
    have HC1 : Hid _ := hC1
    have HO1 : Hid _ := hO1
    clear hC1 hO1
    go_wp2
    go_ret
    refine ⟨⟨y % m, Nat.mod_lt _ hm0, ?_⟩, HC1.out, HO1.out⟩
    show Ending.returned (Value.int .i64 ((y : Int) % (m : Int))) = _
    rw [Int.natCast_emod]

end Go.Proofs.YtgflalfiopnmnaaGreatDoor

/-
  The law's own helpers: a byte of the code, a ring of tables.
-/
namespace Go.Proofs.YtgflalfiopnmnaaGreatDoor
open Go.RowKit Vl

set_option maxHeartbeats 1000000 in
/-- 'wByte'. -/
theorem wByte_any (ca : Option Addr) (cl cc cb co i : Nat) (w : World) (hB : ByteR w ca cl cb co) (hcl : cl ≤ 1048576) (hi : i ≤ 1) :
    Calls Tryz.prog 20 #[.slice ca cl cc, .int .i64 i] w fun e w' => (∃ x : Nat, x ≤ 255 ∧ e = .returned (.int .i64 x)) ∧ Below w.heap.size w w' := by
  by_cases h0 : cl = 0
  · subst h0
    clear hB
    go_enter Tryz.func20, Tryz.ntmps20
    go_wp2
    go_ret
    exact ⟨⟨0, by omega, rfl⟩, Below.refl _ _⟩
  · obtain ⟨q, hq⟩ : ∃ q, i % cl = q := ⟨_, rfl⟩
    have hql : q < cl := by rw [← hq]; exact Nat.mod_lt _ (by omega)
    obtain ⟨rfl, x, hx, hc⟩ := hB q hql
    have hz : ¬ (cl : Int) = 0 := by omega
    have hr : (i : Int) % (cl : Int) = (q : Int) := by omega
    have il : (0 : Int) ≤ (q : Int) ∧ (q : Int) < (cl : Int) := by omega
    clear hB
    go_enter Tryz.func20, Tryz.ntmps20
    go_wp2
    go_ret
    exact ⟨⟨x, hx, rfl⟩, Below.refl _ _⟩

theorem share0 {P Q : Prop} (h : Hid Q → P) (g : Q) : P := h g

theorem rg_pairs {w : World} {base b : Nat} {n i q : Nat} (hq : (i + 1) % n = q) (h : w.heap[b]? = some (.cells #[.int .i64 2, .int .i64 1, .string ⟨#[]⟩, .int .i64 0, .int .i64 4, .int .i64 0, .string ⟨#[]⟩, .int .i64 (q : Nat)] 39 (0, 0))) (hb : base ≤ b) : w.ownsRow base 39 8 (.slice (some ⟨b, 0, none⟩) 1 1) 1 (pairCells (fun c => raK i c) (fun c => raX n i c) 1) := by
  refine ⟨by rw [pairCells_len], Or.inr ⟨b, 1, _, rfl, hb, h, Nat.le_refl _, by unfold maxLen; omega, rfl, ?_⟩⟩
  subst hq
  rw [pairCells_succ]
  rfl

set_option maxHeartbeats 4000000 in
set_option maxRecDepth 100000 in
/-- 'wRing'. -/
theorem wRing_any (n : Nat) (h0 : 0 < n) (hn : n ≤ 60) (w : World) :
    Calls Tryz.prog 21 #[.int .i64 n] w fun e w' => (∃ (tv : Value) (PV : Nat → Value), e = .returned (.agg #[.int .i64 4, .int .i64 0, .string ⟨#[]⟩, .int .i64 0, tv]) ∧ OTab w' (w.heap.size + 2) tv n PV raL raK (raX n)) ∧ Below w.heap.size w w' := by
  have A2 := alloc2 w (.cells #[.int .i64 0, .int .i64 0, .string ⟨#[]⟩, .int .i64 0, .slice none 0 0] 27) (.cells #[.int .i64 4, .int .i64 0, .string ⟨#[]⟩, .int .i64 0, .slice none 0 0] 27)
  obtain ⟨w0, hw0⟩ : ∃ w0, w0 = (w.alloc (.cells #[.int .i64 0, .int .i64 0, .string ⟨#[]⟩, .int .i64 0, .slice none 0 0] 27)).alloc (.cells #[.int .i64 4, .int .i64 0, .string ⟨#[]⟩, .int .i64 0, .slice none 0 0] 27) := ⟨_, rfl⟩
  rw [← hw0] at A2
  have HR0 : Hid (OutB w0 w.heap.size zeroV (.slice none 0 0)) := A2.1
  have HU0 : Hid (OutB w0 (w.heap.size + 1) rgU (.slice none 0 0)) := A2.2.1
  have HB0 : Hid (Below w.heap.size w w0) := A2.2.2.2
  have hs0 : w0.heap.size = w.heap.size + 2 := A2.2.2.1
  clear A2
  obtain ⟨ob, hob⟩ : ∃ ob, w.heap.size + 1 = ob := ⟨_, rfl⟩
  have lr : w.heap.size < ob := by omega
  go_enter Tryz.func21, Tryz.ntmps21
  go_wp2
  rw [← hw0]
  rw [hob] at HU0
  clear hw0
  obtain ⟨it, hti, ht0, ht1, ht2⟩ := info_parts Tryz.info37
  go_loopw [4] (fun ii wr => ∃ (i : Nat) (tv : Value) (PV : Nat → Value), i ≤ n ∧ ii = .int .i64 i ∧ Hid (OutB wr ob rgU tv) ∧ Hid (OTab wr w0.heap.size tv i PV raL raK (raX n)) ∧ Hid (Only (fun k => k = ob) w0 wr)) (fun ii _ => n - (intOf ii).toNat)
  case atStart => exact ⟨0, _, fun _ => .nilIface, Nat.zero_le _, rfl, HU0, OTab.nil _ _ _ _ _ _, Only.refl _ _⟩
  case round =>
    obtain ⟨i, tv, PV, hi, rfl, HOr, HTr, HLr⟩ := hrel
    have hsr := HLr.out.size
    by_cases hlt : i < n
    · obtain ⟨ta', tc', rfl, htk⟩ := owns_form HTr.out.own
      have hz : ¬ n = 0 := by omega
      have hwr : IntKind.i64.wrap ((i : Int) + 1) = (i : Int) + 1 := by rw [IntKind.wrap_i64]; omega
      obtain ⟨q, HQ⟩ : ∃ q, Hid ((i + 1) % n = q) := ⟨_, rfl⟩
      have htm : ((i : Int) + 1).tmod (n : Int) = (q : Int) := by rw [Int.tmod_eq_emod_of_nonneg (by omega), ← HQ.out, Int.natCast_emod]; rfl
      have HN2 : Hid (∀ j, j < i → ∀ g, (PV j).ownBlock = some g → g < wr.heap.size) := show ∀ j, _ from fun j hj g hg => by obtain ⟨_, _, _, h⟩ := owns_form (HTr.out.rows j hj); exact (h g hg).2
      obtain ⟨c0, c1, c2, c3, c4, z0⟩ := cells5 HOr.out
      have lob : ob < wr.heap.size := by omega
      clear htk
      go_wp2
      refine wp_region_held_drew (S := fun _ => True) (by kernel_rfl) trivial (fun hHeld => ?_)
      refine wpAnyH_take (i := 0) (v := .pointer (some ⟨ob, 4, none⟩)) rfl (by kernel_rfl) (by kernel_rfl) (by kernel_rfl) (fun _ _ _ h => h) (Or.inl ⟨by rfl, fun w hSw => ?_⟩) hHeld ?_
      · first | rfl | go_simp
      simp only [Act.put, List.setIfInBounds_toArray, List.set_cons_zero, List.set_cons_succ, List.getElem_toArray, List.getElem_cons_zero]
      refine wpAnyH_take (i := 2) (v := .agg #[.int .i64 2, .int .i64 1, .string ⟨#[]⟩, .int .i64 0]) rfl (by kernel_rfl) (by kernel_rfl) (by kernel_rfl) (fun _ _ _ h => h) (Or.inl ⟨by rfl, fun w hSw => ?_⟩) hHeld ?_
      · first | rfl | go_simp
      simp only [Act.put, List.setIfInBounds_toArray, List.set_cons_zero, List.set_cons_succ, List.getElem_toArray, List.getElem_cons_zero, List.getElem_cons_succ]
      refine wpAnyH_take (i := 3) (v := .int .i64 (i : Int)) rfl (by kernel_rfl) (by kernel_rfl) (by kernel_rfl) (fun _ _ _ h => h) (Or.inl ⟨by rfl, fun w hSw => ?_⟩) hHeld ?_
      · first | rfl | go_simp
      simp only [Act.put, List.setIfInBounds_toArray, List.set_cons_zero, List.set_cons_succ, List.getElem_toArray, List.getElem_cons_zero, List.getElem_cons_succ]
      refine wpAnyH_take (i := 4) (v := .int .i64 ((i : Int) + 1)) rfl (by kernel_rfl) (by kernel_rfl) (by kernel_rfl) (fun _ _ _ h => h) (Or.inl ⟨by rfl, fun w hSw => ?_⟩) hHeld ?_
      · go_simp
      simp only [Act.put, List.setIfInBounds_toArray, List.set_cons_zero, List.set_cons_succ, List.getElem_toArray, List.getElem_cons_zero, List.getElem_cons_succ]
      refine wpAnyH_take (i := 5) (v := .int .i64 (n : Int)) rfl (by kernel_rfl) (by kernel_rfl) (by kernel_rfl) (fun _ _ _ h => h) (Or.inl ⟨by rfl, fun w hSw => ?_⟩) hHeld ?_
      · first | rfl | go_simp
      simp only [Act.put, List.setIfInBounds_toArray, List.set_cons_zero, List.set_cons_succ, List.getElem_toArray, List.getElem_cons_zero, List.getElem_cons_succ]
      refine wpAnyH_take (i := 6) (v := .int .i64 (q : Nat)) rfl (by kernel_rfl) (by kernel_rfl) (by kernel_rfl) (fun _ _ _ h => h) (Or.inl ⟨by rfl, fun w hSw => ?_⟩) hHeld ?_
      · go_simp
      simp only [Act.put, List.setIfInBounds_toArray, List.set_cons_zero, List.set_cons_succ, List.getElem_toArray, List.getElem_cons_zero, List.getElem_cons_succ]
      refine wpAnyH_take (i := 7) (v := .agg #[.int .i64 4, .int .i64 0, .string ⟨#[]⟩, .int .i64 (q : Nat)]) rfl (by kernel_rfl) (by kernel_rfl) (by kernel_rfl) (fun _ _ _ h => h) (Or.inl ⟨by rfl, fun w hSw => ?_⟩) hHeld ?_
      · first | rfl | go_simp
      simp only [Act.put, List.setIfInBounds_toArray, List.set_cons_zero, List.set_cons_succ, List.getElem_toArray, List.getElem_cons_zero, List.getElem_cons_succ]
      refine wpAnyH_take (i := 8) (v := .agg #[.int .i64 2, .int .i64 1, .string ⟨#[]⟩, .int .i64 0, .int .i64 4, .int .i64 0, .string ⟨#[]⟩, .int .i64 (q : Nat)]) rfl (by kernel_rfl) (by kernel_rfl) (by kernel_rfl) (fun _ _ _ h => h) (Or.inl ⟨by rfl, fun w hSw => ?_⟩) hHeld ?_
      · first | rfl | go_simp
      simp only [Act.put, List.setIfInBounds_toArray, List.set_cons_zero, List.set_cons_succ, List.getElem_toArray, List.getElem_cons_zero, List.getElem_cons_succ]
      apply share0
      · intro hG
        refine wpAnyH_ready (rs := [1, 9]) (by kernel_rfl) (by simp) ?_
        refine AllReadyH.cons rfl (fun K' hK' => ?_) (AllReadyH.cons rfl (fun K' hK' => ?_) AllReadyH.nil)
        · go_simp
          refine hK'.out _ _ trivial (fun hHeld => ?_)
          clear hK'
          try simp only [Act.put, List.setIfInBounds_toArray, List.set_cons_zero, List.set_cons_succ, List.getElem_toArray, List.getElem_cons_zero, List.getElem_cons_succ]
          refine wpAnyH_ready (rs := [9]) (by kernel_rfl) (by simp) ?_
          refine AllReadyH.cons rfl (fun K' hK' => ?_) AllReadyH.nil
          go_simp
          refine hK'.out _ _ trivial (fun hHeld => ?_)
          clear hK'
          try simp only [Act.put, List.setIfInBounds_toArray, List.set_cons_zero, List.set_cons_succ, List.getElem_toArray, List.getElem_cons_zero, List.getElem_cons_succ]
          refine wpAnyH_take (i := 10) (v := .agg #[.slice (some ⟨wr.heap.size, 0, none⟩) 1 1]) rfl (by kernel_rfl) (by kernel_rfl) (by kernel_rfl) (fun _ _ _ h => h) (Or.inl ⟨by rfl, fun w hSw => ?_⟩) hHeld ?_
          · first | rfl | go_simp
          simp only [Act.put, List.setIfInBounds_toArray, List.set_cons_zero, List.set_cons_succ, List.getElem_toArray, List.getElem_cons_zero, List.getElem_cons_succ]
          refine wpAnyH_ready (rs := [11]) (by kernel_rfl) (by simp) ?_
          refine AllReadyH.cons rfl (fun K' hK' => ?_) AllReadyH.nil
          go_simp
          refine hK'.out _ _ trivial (fun hHeld => ?_)
          clear hK'
          try simp only [Act.put, List.setIfInBounds_toArray, List.set_cons_zero, List.set_cons_succ, List.getElem_toArray, List.getElem_cons_zero, List.getElem_cons_succ]
          exact hG.out
        · go_simp
          refine hK'.out _ _ trivial (fun hHeld => ?_)
          clear hK'
          try simp only [Act.put, List.setIfInBounds_toArray, List.set_cons_zero, List.set_cons_succ, List.getElem_toArray, List.getElem_cons_zero, List.getElem_cons_succ]
          refine wpAnyH_take (i := 10) (v := .agg #[.slice (some ⟨wr.heap.size, 0, none⟩) 1 1]) rfl (by kernel_rfl) (by kernel_rfl) (by kernel_rfl) (fun _ _ _ h => h) (Or.inl ⟨by rfl, fun w hSw => ?_⟩) hHeld ?_
          · first | rfl | go_simp
          simp only [Act.put, List.setIfInBounds_toArray, List.set_cons_zero, List.set_cons_succ, List.getElem_toArray, List.getElem_cons_zero, List.getElem_cons_succ]
          refine wpAnyH_ready (rs := [1, 11]) (by kernel_rfl) (by simp) ?_
          refine AllReadyH.cons rfl (fun K' hK' => ?_) (AllReadyH.cons rfl (fun K' hK' => ?_) AllReadyH.nil)
          · go_simp
            refine hK'.out _ _ trivial (fun hHeld => ?_)
            clear hK'
            try simp only [Act.put, List.setIfInBounds_toArray, List.set_cons_zero, List.set_cons_succ, List.getElem_toArray, List.getElem_cons_zero, List.getElem_cons_succ]
            refine wpAnyH_ready (rs := [11]) (by kernel_rfl) (by simp) ?_
            refine AllReadyH.cons rfl (fun K' hK' => ?_) AllReadyH.nil
            go_simp
            refine hK'.out _ _ trivial (fun hHeld => ?_)
            clear hK'
            try simp only [Act.put, List.setIfInBounds_toArray, List.set_cons_zero, List.set_cons_succ, List.getElem_toArray, List.getElem_cons_zero, List.getElem_cons_succ]
            exact hG.out
          · go_simp
            refine hK'.out _ _ trivial (fun hHeld => ?_)
            clear hK'
            try simp only [Act.put, List.setIfInBounds_toArray, List.set_cons_zero, List.set_cons_succ, List.getElem_toArray, List.getElem_cons_zero, List.getElem_cons_succ]
            refine wpAnyH_ready (rs := [1]) (by kernel_rfl) (by simp) ?_
            refine AllReadyH.cons rfl (fun K' hK' => ?_) AllReadyH.nil
            go_simp
            refine hK'.out _ _ trivial (fun hHeld => ?_)
            clear hK'
            try simp only [Act.put, List.setIfInBounds_toArray, List.set_cons_zero, List.set_cons_succ, List.getElem_toArray, List.getElem_cons_zero, List.getElem_cons_succ]
            exact hG.out
      · obtain ⟨w5, hw5⟩ : ∃ w5, w5 = wr.alloc (.cells #[.int .i64 2, .int .i64 1, .string ⟨#[]⟩, .int .i64 0, .int .i64 4, .int .i64 0, .string ⟨#[]⟩, .int .i64 (q : Nat)] 39) := ⟨_, rfl⟩
        have HB5 : Hid (Below wr.heap.size wr w5) := by rw [hw5]; exact (Below.refl _ _).alloc (Nat.le_refl _) _
        have HPb : Hid (w5.heap[wr.heap.size]? = some (.cells #[.int .i64 2, .int .i64 1, .string ⟨#[]⟩, .int .i64 0, .int .i64 4, .int .i64 0, .string ⟨#[]⟩, .int .i64 (q : Nat)] 39 (0, 0))) := by rw [hw5]; exact heap_alloc_new wr _
        have hs5 : w5.heap.size = wr.heap.size + 1 := by rw [hw5]; exact World.size_alloc _ _
        rw [← hw5]
        clear hw5 c0 c1 c2 c3 c4 z0
        have HU5 : Hid (OutB w5 ob rgU (.slice ta' i tc')) := blkB HOr.out HB5.out
        have HT5 : Hid (OTab w5 w0.heap.size (.slice ta' i tc') i PV raL raK (raX n)) := HTr.out.below HB5.out
        have HL5 : Hid (Only (fun k => k = ob) w0 w5) := HLr.out.trans (Only.below HB5.out)
        have HP5 : Hid (w5.ownsRow w0.heap.size 39 8 (.slice (some ⟨wr.heap.size, 0, none⟩) 1 1) 1 (pairCells (fun c => raK i c) (fun c => raX n i c) 1)) := rg_pairs HQ.out HPb.out hsr
        refine wpAnyH_ready (rs := [12]) (by kernel_rfl) (by simp) ?_
        refine AllReadyH.cons rfl (fun K' hK' => ?_) AllReadyH.nil
        refine step_append_lies _ (by rfl) (.tmp 13) (.tmp 23) 25 (by rfl) w0.heap.size 37 it (.agg #[.slice none 0 0]) 1 24 Tryz.underlying25 hti ht0 ht1 ht2 (by rfl) (by omega) (.slice ta' i tc') i ((List.range i).map PV) (by rfl) ((Only.below (P := fun _ => False) (((Below.refl w5.heap.size w5).alloc (Nat.le_refl _) _).drew)).owns HT5.out.own (fun _ _ _ h => h)) ⟨wr.heap.size + 1, 0, none⟩ 1 1 [.slice (some ⟨wr.heap.size, 0, none⟩) 1 1] (by rfl) (by rfl) (World.news_of_block (w := (w5.alloc _).drew) (hs5 ▸ heap_alloc_new w5 _)) (by intro u hu; simp at hu; subst hu; rfl) (by omega) (by unfold maxLen; omega) (by omega) (by show w0.heap.size ≤ (w5.alloc _).heap.size; simp; omega) (w5.heap.size + 1) (by show (w5.alloc _).heap.size = _; simp) ?_
        intro g cap w7 hown7 hgrow7 hat7 hlt7
        obtain ⟨hT7, hB7⟩ := HT5.out.more HP5.out (fun j hj g hg e => by
          have h2 := HN2.out j hj g hg
          have e' : wr.heap.size = g := Option.some.inj e
          omega) (.cells #[.slice (some ⟨wr.heap.size, 0, none⟩) 1 1] 37) (by omega) hown7 ⟨hgrow7.os, hgrow7.tape, hgrow7.output, hgrow7.size, hgrow7.block⟩
        have HT7 : Hid (OTab w7 w0.heap.size (.slice (some ⟨g, 0, none⟩) (i + 1) cap) (i + 1) (fun j => if j = i then .slice (some ⟨wr.heap.size, 0, none⟩) 1 1 else PV j) raL raK (raX n)) := hT7.congr (fun j hj => by
            by_cases e : j = i
            · subst e; simp only [if_true]; rfl
            · simp only [e, if_false]) (fun j hj c' hc' => by
            by_cases e : j = i
            · subst e; simp only [if_true]; exact ⟨trivial, trivial⟩
            · simp only [e, if_false]; exact ⟨trivial, trivial⟩)
        have HU7 : Hid (OutB w7 ob rgU (.slice ta' i tc')) := (hB7.block _ (by omega)).trans HU5.out
        have HL7 : Hid (Only (fun k => k = ob) w0 w7) := HL5.out.thenBelow hB7 (Nat.le_refl _)
        refine hK'.out _ _ trivial (fun hHeld => ?_)
        clear hK' hT7 hB7 hown7 hgrow7 hat7 hlt7 HT5 HU5 HL5 HP5 HB5 HOr HTr HLr
        obtain ⟨c0, c1, c2, c3, c4, z0⟩ := cells5 HU7.out
        try simp only [Act.put, List.setIfInBounds_toArray, List.set_cons_zero, List.set_cons_succ, List.getElem_toArray, List.getElem_cons_zero, List.getElem_cons_succ]
        refine wpAnyH_take (i := 13) (v := .pointer (some ⟨ob, 4, none⟩)) rfl (by kernel_rfl) (by kernel_rfl) (by kernel_rfl) (fun _ _ _ h => h) (Or.inl ⟨by rfl, fun w hSw => ?_⟩) hHeld ?_
        · first | rfl | go_simp
        simp only [Act.put, List.setIfInBounds_toArray, List.set_cons_zero, List.set_cons_succ, List.getElem_toArray, List.getElem_cons_zero, List.getElem_cons_succ]
        refine wpAnyH_ready (rs := [14]) (by kernel_rfl) (by simp) ?_
        refine AllReadyH.cons rfl (fun K' hK' => ?_) AllReadyH.nil
        go_simp
        refine hK'.out _ _ trivial (fun hHeld => ?_)
        clear hK' hHeld
        refine wpAnyH_done (by kernel_rfl) ?_ _
        go_wp2
        go_roundw
        case rel =>
          refine ⟨i + 1, .slice (some ⟨g, 0, none⟩) (i + 1) cap, _, by omega, by go_num, put5hi HU7.out _, HT7.out.only ((Only.refl (fun k => k = ob) w7).set (p := ⟨ob, 4, none⟩) rfl _) (fun k hk e => by omega), HL7.out.set rfl _⟩
        case measure => simp [intOf]; omega
    · obtain rfl : i = n := by omega
      obtain ⟨ta', tc', rfl, _⟩ := owns_form HTr.out.own
      have HBr : Hid (OutB wr w.heap.size zeroV (.slice none 0 0)) := (HLr.out.block _ (blk_lt HR0.out) (by omega)).trans HR0.out
      obtain ⟨c0, c1, c2, c3, c4, z0⟩ := cells5 HOr.out
      obtain ⟨r0, r1, r2, r3, r4, r5⟩ := cells5 HBr.out
      simp only [zeroV] at r0 r1 r2 r3
      simp only [rgU, rgE] at c0 c1 c2 c3
      go_wp2
      have F := put5hi (put5lo HBr.out (.int .i64 4) (.int .i64 0) (.string ⟨#[]⟩) (.int .i64 0)) (.slice ta' i tc')
      obtain ⟨wf, hwf⟩ : ∃ wf, wf = ((((wr.setCell ⟨w.heap.size, 0, none⟩ (.int .i64 4)).setCell ⟨w.heap.size, 1, none⟩ (.int .i64 0)).setCell ⟨w.heap.size, 2, none⟩ (.string ⟨#[]⟩)).setCell ⟨w.heap.size, 3, none⟩ (.int .i64 0)).setCell ⟨w.heap.size, 4, none⟩ (.slice ta' i tc') := ⟨_, rfl⟩
      have ho : Only (fun k => k = w.heap.size) wr wf := by rw [hwf]; exact set4_only.set (p := ⟨w.heap.size, 4, none⟩) rfl _
      rw [← hwf] at F ⊢
      clear hwf
      obtain ⟨q0, q1, q2, q3, q4, _⟩ := cells5 F
      refine bodyPost_ret (v := .agg #[.int .i64 4, .int .i64 0, .string ⟨#[]⟩, .int .i64 0, .slice ta' i tc']) (by simp [results, Tryz.results21, go_sem, q0, q1, q2, q3, q4]) rfl ⟨⟨_, PV, rfl, hs0 ▸ HTr.out.only ho (fun k hk e => by omega)⟩, ?_⟩
      exact (HB0.out.trans (HLr.out.toBelow (base := w.heap.size) (fun k hk => by omega) (by omega))).trans (ho.toBelow (fun k hk => by omega) (by omega))
end Go.Proofs.YtgflalfiopnmnaaGreatDoor

/-
  A graph that was made: one of its tables gets another row of pairs.
-/
namespace Go.Proofs.YtgflalfiopnmnaaGreatDoor
open Go.RowKit Vl

theorem types_apart {w : World} {base base' n m tg : Nat} {v v' : Value} {xs ys : List Value} (h : w.ownsRow base 37 1 v n xs) (h' : w.ownsRow base' 39 8 v' m ys) (e : v.ownBlock = some tg) : v'.ownBlock ≠ some tg := fun e' => by
  obtain ⟨_, c, hc⟩ := owns_type h e
  obtain ⟨_, c', hc'⟩ := owns_type h' e'
  rw [hc] at hc'
  cases hc'

theorem OTab.swap {w w1 : World} {base tg tc : Nat} {pv : Value} {n r : Nat} {PV : Nat → Value} {L : Nat → Nat} {K X : Nat → Nat → V} (h : OTab w base (.slice (some ⟨tg, 0, none⟩) n tc) n PV L K X) (hr : r < n) {l : Nat} {k x : Nat → V}
    (hp : w1.ownsRow base 39 8 pv l (pairCells k x l)) (hg : w.grownBy w1 (PV r).ownBlock) (hnew : ∀ g, pv.ownBlock = some g → (PV r).ownBlock = some g ∨ w.heap.size ≤ g) :
    OTab (w1.setCell ⟨tg, r, none⟩ pv) base (.slice (some ⟨tg, 0, none⟩) n tc) n (fun j => if j = r then pv else PV j) (fun j => if j = r then l else L j) (fun j => if j = r then k else K j) (fun j => if j = r then x else X j) := by
  have own1 : w1.ownsRow base 37 1 (.slice (some ⟨tg, 0, none⟩) n tc) n ((List.range n).map PV) := h.own.kept hg (Or.inr (fun e => types_apart h.own (h.rows r hr) (tg := tg) rfl e.symm))
  have hlt : ∀ j, j < n → ∀ g, (PV j).ownBlock = some g → g < w.heap.size := fun j hj g e => by
    obtain ⟨_, _, _, h2⟩ := owns_form (h.rows j hj)
    exact (h2 g e).2
  have hdis : ∀ a b, a < n → b < n → a ≠ b → ∀ g, (PV a).ownBlock = some g → (PV b).ownBlock ≠ some g := fun a b ha hb hne g e e' => by
    rcases Nat.lt_or_gt_of_ne hne with hl | hl
    · exact h.dis a b hl hb g e e'
    · exact h.dis b a hl ha g e' e
  refine ⟨?_, fun j hj => ?_, fun a b hab hb g hga => ?_⟩
  · have h2 := owns_set own1 r pv
    have e : ((List.range n).map PV).set r pv = (List.range n).map (fun j => if j = r then pv else PV j) := by
      refine List.ext_getElem? fun i => ?_
      rw [List.getElem?_set]
      by_cases hir : r = i
      · subst hir
        simp [hr]
      · by_cases hi : i < n
        · simp [hir, hi, Ne.symm hir]
        · simp [hir, hi]
    rw [e] at h2
    exact h2
  · by_cases e : j = r
    · subst e
      simp only [if_true]
      exact ownsRow_setCell_other (a := ⟨tg, j, none⟩) hp (types_apart own1 hp rfl) _
    · simp only [e, if_false]
      have hk : w1.ownsRow base 39 8 (PV j) (L j) (pairCells (K j) (X j) (L j)) := (h.rows j hj).kept hg (by
        cases hb : (PV j).ownBlock with
        | none => exact Or.inl rfl
        | some g => exact Or.inr (fun e2 => hdis j r hj hr e g hb e2.symm))
      exact ownsRow_setCell_other (a := ⟨tg, r, none⟩) hk (types_apart own1 hk rfl) _
  · by_cases ea : a = r
    · subst ea
      simp only [if_true] at hga
      simp only [show ¬ b = a by omega, if_false]
      rcases hnew g hga with h2 | h2
      · exact hdis a b hr hb (by omega) g h2
      · intro e2
        have := hlt b hb g e2
        omega
    · simp only [ea, if_false] at hga
      by_cases eb : b = r
      · subst eb
        simp only [if_true]
        intro e2
        rcases hnew g e2 with h2 | h2
        · exact hdis a b (by omega) hr ea g hga h2
        · have := hlt a (by omega) g hga
          omega
      · simp only [eb, if_false]
        exact h.dis a b hab hb g hga

end Go.Proofs.YtgflalfiopnmnaaGreatDoor
