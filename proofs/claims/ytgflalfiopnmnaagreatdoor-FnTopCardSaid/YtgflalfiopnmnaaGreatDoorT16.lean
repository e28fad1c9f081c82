import Derived.Test.YtgflalfiopnmnaaGreatDoorT0
import Derived.Test.YtgflalfiopnmnaaGreatDoorT15
import Derived.Test.YtgflalfiopnmnaaGreatDoorT9
import Derived.Test.YtgflalfiopnmnaaGreatDoorT11
import Derived.Test.YtgflalfiopnmnaaGreatDoorT3
namespace Go.Proofs.YtgflalfiopnmnaaGreatDoor
open Go.RowKit Vl

theorem short_of {n : Nat} {v : V} (h : isV n v = true) : v.s.size ≤ 500 := by
  obtain ⟨k, m, s, a⟩ := v
  have hz : s.toList = [] → s.size ≤ 500 := fun e => by rw [bytes_empty e]; decide
  by_cases k0 : k = 0
  · subst k0; simp [isV] at h; exact hz h.2.1
  by_cases k1 : k = 1
  · subst k1; simp [isV] at h; exact hz h.2.1
  by_cases k2 : k = 2
  · subst k2; simp [isV] at h; exact hz h.1
  by_cases k3 : k = 3
  · subst k3; simp [isV] at h; exact h.2.2
  by_cases k4 : k = 4
  · subst k4; simp [isV] at h; exact hz h.2.1
  · simp [isV, k0, k1, k2, k3, k4] at h

def Rg (v : V) : Prop := -9223372036854775808 ≤ v.n ∧ v.n ≤ 9223372036854775807
def Rgs (n : Nat) (u : V) (L : Nat → Nat) (K X : Nat → Nat → V) : Prop := Rg u ∧ ∀ r, r < n → ∀ c, c < L r → Rg (K r c) ∧ Rg (X r c)
theorem plain_of_ok {n : Nat} {u : V} {L : Nat → Nat} {K X : Nat → Nat → V} (h : OkG n u L K X) (hr : Rgs n u L K X) : Plain n L K X := by
  refine ⟨fun r hrn c hc => ?_, fun r hrn c hc => ⟨short_of ((h.all r hrn).all c hc).val, (hr.2 r hrn c hc).2⟩⟩
  have hk := ((h.all r hrn).all c hc).key
  unfold isK at hk
  simp only [Bool.and_eq_true, Bool.or_eq_true, beq_iff_eq] at hk
  refine ⟨⟨short_of hk.2, (hr.2 r hrn c hc).1⟩, ?_⟩
  rcases hk.1 with (h1 | h1) | h1
  · exact Or.inr (Or.inl h1)
  · exact Or.inr (Or.inr (Or.inl h1))
  · exact Or.inr (Or.inr (Or.inr h1))

theorem plT_pos (v : V) : 0 < (plT v).length := by
  unfold plT
  split
  · split <;> decide
  · split
    · unfold Lib.itoa
      split
      · simp
      · rw [Lib.decDigits]
        split
        · simp
        · simp
    · split
      · simp [quT]
      · decide
theorem frz_pos {Q : Nat → Nat} {L : Nat → Nat} {K X : Nat → Nat → V} (f : Nat) (t : Ft) (v : V) : 0 < (frz Q L K X (f + 1) t v).out.length := by
  by_cases h4 : v.k = 4
  · by_cases hl : t.lab v.a.toNat = 0
    · rw [wr_new h4 hl, say_len]; simp
    · rw [wr_old h4 (by omega), say_len, List.length_cons]; omega
  · rw [wr_no h4, say_len]; have := plT_pos v; omega

def frzS (n : Nat) (u : V) (L : Nat → Nat) (K X : Nat → Nat → V) : ByteArray := if 20000 < (wrAll n u L K X).out.length then ⟨#[]⟩ else ⟨(wrAll n u L K X).out.toArray⟩
def FrzIs (e : Ending) (n : Nat) (u : V) (L : Nat → Nat) (K X : Nat → Nat → V) : Prop := (OkG n u L K X ∧ e = .returned (.string (frzS n u L K X))) ∨ (¬ OkG n u L K X ∧ e = .returned (.string ⟨#[]⟩))

theorem wrAll_len {n : Nat} {u : V} {L : Nat → Nat} {K X : Nat → Nat → V} (h : OkG n u L K X) (hr : Rgs n u L K X) : (wrAll n u L K X).out.length ≤ 100000000 := by
  have hp := plain_of_ok h hr
  have h1 := wr_len (K := K) h.len (good_of h) (fun r hrn => (h.all r hrn).len) (fun r hrn c hc => (hp.key r hrn c hc).1) hp.val (n + 1) (wat0 (L := L) (X := X) h.root) ⟨short_of h.root, hr.1⟩
  have h2 := (order_all h).1.len
  unfold order at h2
  have h3 := h.len
  have h4 : (frz (cntAll n u L X) L K X (n + 1) ft0 u).out.length ≤ 0 + 1502 + 400000 * ((met L X (n + 1) [] u).length - 0) := h1
  show (frz (cntAll n u L X) L K X (n + 1) ft0 u).out.length ≤ 100000000
  have h5 : 400000 * ((met L X (n + 1) [] u).length - 0) ≤ 400000 * 200 := Nat.mul_le_mul_left _ (by omega)
  exact Nat.le_trans h4 (Nat.le_trans (Nat.add_le_add_left h5 _) (by decide))

set_option maxHeartbeats 4000000 in
set_option maxRecDepth 100000 in
theorem implFreeze_any (u : V) (ta : Option Addr) (n cp TB TO : Nat) (A : Nat → Option Addr) (L C RB RO : Nat → Nat) (K X : Nat → Nat → V) (w : World) (hn : n ≤ 1048576) (HS : Hid (Small 1048576 n L K X)) (HT : Hid (TabsAt w ta n TB TO A L C RB RO K X)) (HTab : Hid (Tab w)) (HR : Hid (Rgs n u L K X)) :
    Calls Tryz.prog 7 #[.agg #[.int .i64 u.k, .int .i64 u.n, .string u.s, .int .i64 u.a, .slice ta n cp]] w fun e w' => FrzIs e n u L K X ∧ Below w.heap.size w w' := by
  obtain ⟨w0, hw0⟩ : ∃ w0, w0 = w.alloc (.cells #[.int .i64 u.k, .int .i64 u.n, .string u.s, .int .i64 u.a, .slice ta n cp] 27) := ⟨_, rfl⟩
  have H0 : Hid (Below w.heap.size w w0) := by rw [hw0]; exact below_alloc _ _
  have hlk := link_any u ta n cp TB TO A L C RB RO K X w0 hn HS (HT.out.below H0.out)
  go_enter Tryz.func7, Tryz.ntmps7
  go_wp2_with fail
  rw [← hw0]
  refine hlk.mono ?_
  clear hlk hw0
  rintro e w1 ⟨hcase, hb1⟩
  have H1 : Hid (Below w.heap.size w w1) := H0.out.trans (hb1.mono H0.out.size)
  clear hb1 H0
  rcases hcase with ⟨hG, rfl, base0, hH⟩ | ⟨hN, rfl⟩
  · have HG : Hid (OkG n u L K X) := hG
    have HH : Hid (Half w1 w0.heap.size n n base0 L K X) := hH
    obtain ⟨b, hb⟩ : ∃ b, w0.heap.size = b := ⟨_, rfl⟩
    rw [hb] at HH ⊢
    clear hG hH hb
    obtain ⟨xt, xy, hxv⟩ := ifv_form (tT b) u
    have HXV : Hid (ifv (tT b) u = .iface xt xy) := hxv
    rw [hxv]
    clear hxv
    obtain ⟨w2, hw2⟩ : ∃ w2, w2 = w1.alloc (.cells #[.iface xt xy, .slice (some ⟨b + 2, 0, none⟩) n n] 57) := ⟨_, rfl⟩
    have hb2 : Below w1.heap.size w1 w2 := by rw [hw2]; exact below_alloc _ _
    have H2 : Hid (Below w.heap.size w w2) := H1.out.trans (hb2.mono H1.out.size)
    have HT2 : Hid (Tbs w2 n (tT b) (tM b) (fun j => (j : Nat)) L K X) := (HH.out.tbs HG.out).below hb2
    have HL2 : Hid (w2.heap[w1.heap.size]? = some (.cells #[.iface xt xy, .slice (some ⟨b + 2, 0, none⟩) n n] 57 (0, 0))) := by rw [hw2]; exact heap_alloc_new w1 _
    have hs2 : w2.heap.size = w1.heap.size + 1 := by rw [hw2]; simp
    obtain ⟨w3, hw3⟩ : ∃ w3, w3 = (w2.alloc (.map #[] 0)).alloc (.cells #[.map (some w2.heap.size)] 62) := ⟨_, rfl⟩
    have A3 := alloc2 w2 (.map #[] 0) (.cells #[.map (some w2.heap.size)] 62)
    rw [← hw3] at A3
    obtain ⟨a1, a2, a3, a4⟩ := A3
    have HM3 : Hid (w3.heap[w2.heap.size]? = some (.map #[] 0)) := a1
    have HC3 : Hid (w3.heap[w2.heap.size + 1]? = some (.cells #[.map (some w2.heap.size)] 62 (0, 0))) := a2
    have HB3 : Hid (Below w2.heap.size w2 w3) := a4
    have hs3 : w3.heap.size = w2.heap.size + 2 := a3
    have HL3 : Hid (w3.heap[w1.heap.size]? = some (.cells #[.iface xt xy, .slice (some ⟨b + 2, 0, none⟩) n n] 57 (0, 0))) := blkB HL2.out a4
    clear a1 a2 a3 a4
    obtain ⟨QM, hQM⟩ : ∃ QM, w2.heap.size = QM := ⟨_, rfl⟩
    obtain ⟨LB, hLB⟩ : ∃ LB, w1.heap.size = LB := ⟨_, rfl⟩
    have hQ0 : w2.heap.size ≤ QM := by omega
    have HCt : Hid (CtW w2 w3 QM (tT b) [] (fun _ => 0)) := by
      rw [← hQM]
      exact ⟨⟨#[], 0, HM3.out, rfl⟩, HB3.out⟩
    have hcat := cat0 HG.out.len (good_of HG.out) (fun r hr => (HG.out.all r hr).len) HG.out.root
    have HCat : Hid _ := hcat
    rw [hQM] at hw3 HC3 hs3
    rw [hLB] at HL3
    rw [hw2] at hw3
    clear hcat HH hb2 HM3
    have HQS : Hid (LB + 1 = QM) := show _ = _ by omega
    have hmm := @run_makeMap Tryz.prog
    go_wp2_with fail
    rw [HQS.out, ← hw3]
    clear hw3 hw2 hmm
    have HS3 : Hid (w3.heap.size = QM + 2) := hs3
    have HZ2 : Hid (w2.heap.size = QM) := hQM
    clear hs3 hQM hLB hs2
    refine wp_region_held_drew (S := fun w' => w'.heap[QM + 1]? = some (.cells #[.map (some QM)] 62 (0, 0)) ∧ w'.heap[LB]? = some (.cells #[.iface xt xy, .slice (some ⟨b + 2, 0, none⟩) n n] 57 (0, 0))) (by kernel_rfl) ⟨HC3.out, HL3.out⟩ (fun hHeld => ?_)
    refine wpT (i := 0) (v := .agg #[.map (some QM)]) rfl (fun w hSw => ?_) hHeld ?_
    · have s1 := (one_at hSw.1).1
      first | rfl | go_simp
    simp only [Act.put, pz]
    refine wpT (i := 2) (v := .pointer (some ⟨LB, 0, none⟩)) rfl (fun w hSw => ?_) hHeld ?_
    · first | rfl | go_simp
    simp only [Act.put, pz]
    refine wpT (i := 3) (v := .iface xt xy) rfl (fun w hSw => ?_) hHeld ?_
    · have s1 := (two_at hSw.2).1
      first | rfl | go_simp
    simp only [Act.put, pz]
    refine wpAnyH_ready (rs := [1]) (by kernel_rfl) (by simp) ?_
    refine AllReadyH.cons rfl (fun K' hK' => ?_) AllReadyH.nil
    have hcv := cVisitor_any QM w3.drew
    go_simp
    refine hcv.mono ?_
    clear hcv
    rintro e w4 ⟨rfl, hb4⟩
    have HB4 : Hid (Below w3.drew.heap.size w3.drew w4) := hb4
    have HCt4 : Hid (CtW w2 w4 QM (tT b) [] (fun _ => 0)) := HCt.out.below ((Below.refl _ _).drew.trans hb4)
    have HC4 : Hid (w4.heap[QM + 1]? = some (.cells #[.map (some QM)] 62 (0, 0))) := blkB (w := w3.drew) HC3.out hb4
    have HL4 : Hid (w4.heap[LB]? = some (.cells #[.iface xt xy, .slice (some ⟨b + 2, 0, none⟩) n n] 57 (0, 0))) := blkB (w := w3.drew) HL3.out hb4
    refine hK'.out _ _ ⟨HC4.out, HL4.out⟩ (fun hHeld => ?_)
    clear hK' hb4
    refine wpAnyH_ready (rs := [4]) (by kernel_rfl) (by simp) ?_
    refine AllReadyH.cons rfl (fun K' hK' => ?_) AllReadyH.nil
    have hcall := cVisit_any n (tT b) (tM b) _ L K X w2 QM (show ∀ r, _ from fun r hr => (HG.out.all r hr).len) (good_of HG.out) HT2 hQ0 (n + 1) [] (fun _ => 0) u w4 HCat HCt4
    rw [HXV.out] at hcall
    go_simp
    refine hcall.mono ?_
    clear hcall
    rintro e w5 ⟨rfl, hW5, hO5⟩
    have HCt5 : Hid (CtW w2 w5 QM (tT b) (order n u L X) (cntAll n u L X)) := hW5
    have hqs := HQS.out
    have HC5 : Hid (w5.heap[QM + 1]? = some (.cells #[.map (some QM)] 62 (0, 0))) := (hO5.block _ (blk_lt HC4.out) (by omega)).trans HC4.out
    have HL5 : Hid (w5.heap[LB]? = some (.cells #[.iface xt xy, .slice (some ⟨b + 2, 0, none⟩) n n] 57 (0, 0))) := (hO5.block _ (blk_lt HL4.out) (by omega)).trans HL4.out
    refine hK'.out _ _ ⟨HC5.out, HL5.out⟩ (fun hHeld => ?_)
    clear hK' hHeld
    refine wpAnyH_done (by kernel_rfl) ?_ _
    have HZ5 : Hid (QM + 2 ≤ w5.heap.size) := show _ ≤ _ by have := HB4.out.size; have h1 := hO5.size; have h2 := HS3.out; have h3 : w3.drew.heap.size = w3.heap.size := rfl; omega
    have HB5 : Hid (Below w.heap.size w w5) := H2.out.trans (HCt5.out.bel.mono H2.out.size)
    have HT5 : Hid (Tbs w5 n (tT b) (tM b) (fun j => (j : Nat)) L K X) := by
      have h1 : Only (fun k => k = QM) w2 w5 := ((Only.below HB3.out).trans ((Only.below (Below.refl _ _).drew).trans (Only.below HB4.out))).trans hO5
      exact HT2.out.only h1 (fun k hk e => by have := HZ2.out; omega)
    clear hW5 hO5
    obtain ⟨WB, hWB⟩ : ∃ WB, w5.heap.size + 1 = WB := ⟨_, rfl⟩
    obtain ⟨LM, hLM⟩ : ∃ LM, w5.heap.size = LM := ⟨_, rfl⟩
    obtain ⟨w6, hw6⟩ : ∃ w6, w6 = (w5.alloc (.map #[] 0)).alloc (.cells #[.map (some QM), .map (some LM), .pointer none, .slice none 0 0] 74) := ⟨_, rfl⟩
    have A6 := alloc2 w5 (.map #[] 0) (.cells #[.map (some QM), .map (some LM), .pointer none, .slice none 0 0] 74)
    rw [← hw6] at A6
    obtain ⟨a1, a2, a3, a4⟩ := A6
    rw [hWB] at a2
    rw [hLM] at a1
    have HB6 : Hid (Below w5.heap.size w5 w6) := a4
    have HWrB : Hid (WrB w5 WB QM LM (WB + 1)) := by have h1 := HZ5.out; exact ⟨by omega, by omega, by omega, by omega, by omega, by omega, by omega, by omega⟩
    have HEnv : Hid (Env w5 n (tT b) (tM b) (fun j => (j : Nat)) L K X WB QM LM (WB + 1) (order n u L X) (cntAll n u L X)) := ⟨HG.out.len, fun r hr => (HG.out.all r hr).len, good_of HG.out, HT5.out, HWrB.out, plain_of_ok HG.out HR.out, fun w' hb' => HTab.out w' (HB5.out.trans (hb'.mono HB5.out.size)), (order_all HG.out).1, led_cnt (n + 1) u led_nil, HCat.out.le⟩
    have HWt6 : Hid (WtW w5 w6 WB QM LM (WB + 1) n (tT b) (order n u L X) (cntAll n u L X) ft0 (.slice none 0 0)) :=
      ⟨⟨⟨.pointer none, Or.inl rfl, a2⟩, World.ownsRow_nil _ _ _ _⟩, HCt5.out.map.same (a4.block _ HCt5.out.map.lt), ⟨[], Fit.nil n, fun i => by simp [ft0], rfl, ⟨#[], 0, a1, rfl⟩⟩, a4⟩
    have HL6 : Hid (w6.heap[LB]? = some (.cells #[.iface xt xy, .slice (some ⟨b + 2, 0, none⟩) n n] 57 (0, 0))) := blkB HL5.out a4
    have HZ6 : Hid (w6.heap.size = WB + 1) := show _ = _ by omega
    have x5 := (one_at HC5.out).1
    have x5' : ∀ o, (w5.alloc o).cell? ⟨QM + 1, 0, none⟩ = some (.map (some QM)) := fun o => ((below_alloc w5 o).cell (p := ⟨QM + 1, 0, none⟩) (blk_lt HC5.out)).trans x5
    have hmm := @run_makeMap Tryz.prog
    have HWL : Hid (LM + 1 = WB) := show _ = _ by omega
    clear a1 a2 a3 a4 hqs
    go_wp2_with fail
    rw [HWL.out, ← hw6]
    clear hw6 hmm x5 x5' hWB hLM
    refine wp_region_held_drew (S := fun w' => w'.heap[LB]? = some (.cells #[.iface xt xy, .slice (some ⟨b + 2, 0, none⟩) n n] 57 (0, 0))) (by kernel_rfl) HL6.out (fun hHeld => ?_)
    refine wpT (i := 0) (v := .pointer (some ⟨WB, 0, none⟩)) rfl (fun w hSw => ?_) hHeld ?_
    · first | rfl | go_simp
    simp only [Act.put, pz]
    refine wpT (i := 2) (v := .pointer (some ⟨LB, 0, none⟩)) rfl (fun w hSw => ?_) hHeld ?_
    · first | rfl | go_simp
    simp only [Act.put, pz]
    refine wpT (i := 3) (v := .iface xt xy) rfl (fun w hSw => ?_) hHeld ?_
    · have s1 := (two_at hSw).1
      first | rfl | go_simp
    simp only [Act.put, pz]
    refine wpAnyH_ready (rs := [1]) (by kernel_rfl) (by simp) ?_
    refine AllReadyH.cons rfl (fun K' hK' => ?_) AllReadyH.nil
    have hcv := wVisitor_any WB w6.drew
    go_simp
    refine hcv.mono ?_
    clear hcv
    rintro e w7 ⟨rfl, hb7⟩
    have HB7 : Hid (Below w6.drew.heap.size w6.drew w7) := hb7
    have HWt7 : Hid (WtW w5 w7 WB QM LM (WB + 1) n (tT b) (order n u L X) (cntAll n u L X) ft0 (.slice none 0 0)) := HWt6.out.below ((Below.refl _ _).drew.trans hb7)
    have HL7 : Hid (w7.heap[LB]? = some (.cells #[.iface xt xy, .slice (some ⟨b + 2, 0, none⟩) n n] 57 (0, 0))) := blkB (w := w6.drew) HL6.out hb7
    refine hK'.out _ _ HL7.out (fun hHeld => ?_)
    clear hK' hb7
    refine wpAnyH_ready (rs := [4]) (by kernel_rfl) (by simp) ?_
    refine AllReadyH.cons rfl (fun K' hK' => ?_) AllReadyH.nil
    have hz7 : WB + 1 ≤ w7.heap.size := by have := HB7.out.size; have h2 := HZ6.out; have h3 : w6.drew.heap.size = w6.heap.size := rfl; omega
    have hcall := wVisit_any w5 n (tT b) (tM b) (fun j => (j : Nat)) L K X WB QM LM (WB + 1) (order n u L X) (cntAll n u L X) HEnv (n + 1) [] (fun _ => 0) ft0 u w7 (.slice none 0 0) (wat0 HG.out.root) ⟨short_of HG.out.root, HR.out.1⟩ (wrAll_len HG.out HR.out) hz7 HWt7
    rw [HXV.out] at hcall
    go_simp
    refine hcall.mono ?_
    clear hcall
    rintro e w8 ⟨rfl, b8, hW8, hF8⟩
    have HL8 : Hid (w8.heap[LB]? = some (.cells #[.iface xt xy, .slice (some ⟨b + 2, 0, none⟩) n n] 57 (0, 0))) := hF8.blk HL7.out (by have := HQS.out; have := HZ5.out; have := HWL.out; have := HCt5.out.map.lt; have := HWrB.out.wb; omega) (by have := HQS.out; have := HZ5.out; have := HWrB.out.lm; omega) (by simp [Value.ownBlock])
    refine hK'.out _ _ HL8.out (fun hHeld => ?_)
    clear hK' hHeld
    refine wpAnyH_done (by kernel_rfl) ?_ _
    obtain ⟨o, ho1, ho2, ho3, ho4⟩ := hW8.st
    have HO1 : Hid (WrS w8 WB QM LM (WB + 1) b8 o) := ho1
    have HO2 : Hid (Below w5.heap.size w5 w8) := ho2
    have HB8 : Hid (Below w.heap.size w w8) := HB5.out.trans (ho2.mono HB5.out.size)
    have htl := tooLong_any WB QM LM (WB + 1) b8 o w8 HO1
    have ho3' : o.length ≤ (wrAll n u L K X).out.length := ho3
    clear hW8 hF8 ho1 ho2 ho3
    by_cases hlong : 20000 < o.length
    · rw [decide_eq_true hlong] at htl
      have HFin : Hid (FrzIs (.returned (.string ⟨#[]⟩)) n u L K X) := by
        refine Or.inl ⟨HG.out, ?_⟩
        unfold frzS
        rw [if_pos (by omega)]
      clear hlong ho4 ho3'
      go_wp2_with (go_at_call 27; refine htl.mono ?_; rintro e w' ⟨rfl, rfl⟩)
      go_ret
      exact ⟨HFin.out, HB8.out⟩
    · rw [decide_eq_false hlong] at htl
      have hoe : o = (wrAll n u L K X).out := (ho4.resolve_left hlong).2
      have hne : o ≠ [] := fun e => by
        have := frz_pos (Q := cntAll n u L X) (L := L) (K := K) (X := X) n ft0 u
        have h2 : 0 < (wrAll n u L K X).out.length := this
        rw [← hoe, e] at h2
        simp at h2
      have HFin : Hid (FrzIs (.returned (.string ⟨o.toArray⟩)) n u L K X) := by
        refine Or.inl ⟨HG.out, ?_⟩
        unfold frzS
        rw [if_neg (by rw [← hoe]; exact hlong), ← hoe]
      have hst := bString_any WB QM LM (WB + 1) b8 o hne w8 w HB8.out (by have := HB5.out.size; have := HWrB.out.wb; omega) HO1
      clear hlong ho4 ho3' hoe hne
      go_wp2_with (first | (go_at_call 27; refine htl.mono ?_; rintro e w' ⟨rfl, rfl⟩) | (go_at_call 28; refine hst.mono ?_; rintro e w' ⟨rfl, hb'⟩))
      have HBF : Hid _ := hb'
      clear hst htl hb'
      go_wp2
      go_ret
      exact ⟨HFin.out, HBF.out⟩
  · have HN : Hid (¬ OkG n u L K X) := hN
    clear hN
    have HB2 : Hid (Below w.heap.size w (w1.alloc (.cells #[.nilIface, .slice none 0 0] 57))) := H1.out.trans ((below_alloc _ _).mono H1.out.size)
    go_wp2
    go_ret
    exact ⟨Or.inr ⟨HN.out, rfl⟩, HB2.out⟩

end Go.Proofs.YtgflalfiopnmnaaGreatDoor

namespace Go.Proofs.YtgflalfiopnmnaaGreatDoor
open Vl

section
variable {LA LB : Nat → Nat} {KA XA KB_ XB : Nat → Nat → V} {R : Nat → Nat → Prop}
theorem cnt_sim (h1 : ∀ i j j', R i j → R i j' → j = j') (h2 : ∀ i i' j, R i j → R i' j → i = i') (hp : ∀ i j, R i j → LA i = LB j ∧ ∀ c, c < LA i → relV R (XA i c) (XB j c)) :
    ∀ (f : Nat) (Q Q' : Nat → Nat) (v v' : V), (∀ i j, R i j → Q i = Q' j) → relV R v v' → ∀ i j, R i j → cnt LA XA f Q v i = cnt LB XB f Q' v' j := by
  intro f
  induction f with
  | zero => intro Q Q' v v' h _; exact h
  | succ f ih =>
    intro Q Q' v v' h hv
    by_cases h4 : v.k = 4
    · have h4' : v'.k = 4 := hv.1.symm.trans h4
      have hr := hv.2.1 h4
      have hb : ∀ i j, R i j → bump Q v.a.toNat i = bump Q' v'.a.toNat j := by
        intro i j hij
        unfold bump
        by_cases e : i = v.a.toNat
        · rw [if_pos e, if_pos (h1 _ _ _ (e ▸ hij) hr), h _ _ hr]
        · rw [if_neg e, if_neg (fun e' => e (h2 _ _ _ hij (by rw [e']; exact hr))), h _ _ hij]
      by_cases h0 : Q v.a.toNat = 0
      · have h0' : Q' v'.a.toNat = 0 := (h _ _ hr).symm.trans h0
        rw [cnt_new h4 h0, cnt_new h4' h0']
        obtain ⟨hl, hx⟩ := hp _ _ hr
        rw [← hl]
        have loop : ∀ c, c ≤ LA v.a.toNat → ∀ i j, R i j → cnts LA XA f (bump Q v.a.toNat) (XA v.a.toNat) c i = cnts LB XB f (bump Q' v'.a.toNat) (XB v'.a.toNat) c j := by
          intro c
          induction c with
          | zero => intro _; exact hb
          | succ c ihc =>
            intro hc
            rw [cnts_succ, cnts_succ]
            exact ih _ _ _ _ (ihc (by omega)) (hx c (by omega))
        exact loop _ (Nat.le_refl _)
      · have h0' : Q' v'.a.toNat ≠ 0 := fun e => h0 ((h _ _ hr).trans e)
        rw [cnt_old h4 h0, cnt_old h4' h0']
        exact hb
    · have h4' : v'.k ≠ 4 := fun e => h4 (hv.1.trans e)
      rw [cnt_no h4, cnt_no h4']
      exact h

structure FtR (R : Nat → Nat → Prop) (t t' : Ft) : Prop where
  N : t.N = t'.N
  out : t.out = t'.out
  lab : ∀ i j, R i j → t.lab i = t'.lab j
theorem FtR.say {t t' : Ft} (h : FtR R t t') (l : List UInt8) : FtR R (t.say l) (t'.say l) := ⟨h.N, by show _ ++ _ = _ ++ _; rw [h.out], h.lab⟩
theorem FtR.head {t t' : Ft} {Q Q' : Nat → Nat} (h1 : ∀ i j j', R i j → R i j' → j = j') (h2 : ∀ i i' j, R i j → R i' j → i = i') (h : FtR R t t') {r r' : Nat} (hr : R r r') (hq : Q r = Q' r') : FtR R (t.head Q r) (t'.head Q' r') := by
  unfold Ft.head
  rw [hq]
  split
  · refine ⟨by show _ + 1 = _ + 1; rw [h.N], by show _ ++ _ ++ _ = _ ++ _ ++ _; rw [h.out, h.N], fun i j hij => ?_⟩
    show (if i = r then _ else _) = (if j = r' then _ else _)
    by_cases e : i = r
    · rw [if_pos e, if_pos (h1 _ _ _ (e ▸ hij) hr), h.N]
    · rw [if_neg e, if_neg (fun e' => e (h2 _ _ _ hij (by rw [e']; exact hr))), h.lab _ _ hij]
  · exact h.say _

theorem frz_sim {Q Q' : Nat → Nat} (h1 : ∀ i j j', R i j → R i j' → j = j') (h2 : ∀ i i' j, R i j → R i' j → i = i') (hq : ∀ i j, R i j → Q i = Q' j) (hp : ∀ i j, R i j → LA i = LB j ∧ ∀ c, c < LA i → KA i c = KB_ j c ∧ relV R (XA i c) (XB j c)) :
    ∀ (f : Nat) (t t' : Ft) (v v' : V), FtR R t t' → relV R v v' → FtR R (frz Q LA KA XA f t v) (frz Q' LB KB_ XB f t' v') := by
  intro f
  induction f with
  | zero => intro t t' v v' h _; exact h
  | succ f ih =>
    intro t t' v v' h hv
    by_cases h4 : v.k = 4
    · have h4' : v'.k = 4 := hv.1.symm.trans h4
      have hr := hv.2.1 h4
      have hlab := h.lab _ _ hr
      by_cases h0 : t.lab v.a.toNat = 0
      · have h0' : t'.lab v'.a.toNat = 0 := hlab.symm.trans h0
        rw [wr_new h4 h0, wr_new h4' h0']
        obtain ⟨hl, hx⟩ := hp _ _ hr
        rw [← hl]
        have loop : ∀ c, c ≤ LA v.a.toNat → FtR R (wrs Q LA KA XA f (t.head Q v.a.toNat) v.a.toNat c) (wrs Q' LB KB_ XB f (t'.head Q' v'.a.toNat) v'.a.toNat c) := by
          intro c
          induction c with
          | zero => intro _; exact h.head h1 h2 hr (hq _ _ hr)
          | succ c ihc =>
            intro hc
            have ek : keyT (KA v.a.toNat) c = keyT (KB_ v'.a.toNat) c := by unfold keyT; rw [(hx c (by omega)).1]
            rw [wrs_succ, wrs_succ, ek]
            exact ih _ _ _ _ ((ihc (by omega)).say _) (hx c (by omega)).2
        exact (loop _ (Nat.le_refl _)).say _
      · rw [wr_old h4 (by omega), wr_old h4' (by omega), hlab]
        exact h.say _
    · have h4' : v'.k ≠ 4 := fun e => h4 (hv.1.trans e)
      rw [wr_no h4, wr_no h4', hv.2.2 h4]
      exact h.say _
end

section
variable {n : Nat} {u : V} {L : Nat → Nat} {K X : Nat → Nat → V} {Q : Nat → Nat}
theorem cnt_fuel (hg : Good n L X) : ∀ (f : Nat) {S : List Nat} {Q0 : Nat → Nat} {v : V}, Fit n S → Led S Q0 → isV n v = true → n - S.length < f → cnt L X (f + 1) Q0 v = cnt L X f Q0 v := by
  intro f
  induction f with
  | zero => intro S Q0 v _ _ _ h; omega
  | succ f ih =>
    intro S Q0 v hS hQ hv hf
    by_cases h4 : v.k = 4
    · by_cases hm : v.a.toNat ∈ S
      · have h0 : Q0 v.a.toNat ≠ 0 := fun e => ((hQ _).1 e) hm
        rw [cnt_old h4 h0, cnt_old h4 h0]
      · have h0 := (hQ _).2 hm
        rw [cnt_new h4 h0, cnt_new h4 h0]
        obtain ⟨a0, a1⟩ := isV_tab hv h4
        have hr : v.a.toNat < n := by omega
        have hl := hS.less hr hm
        have h1 := hS.add hr hm
        have loop : ∀ c, c ≤ L v.a.toNat → Grows n (S ++ [v.a.toNat]) (mets L X f (S ++ [v.a.toNat]) (X v.a.toNat) c) ∧ cnts L X (f + 1) (bump Q0 v.a.toNat) (X v.a.toNat) c = cnts L X f (bump Q0 v.a.toNat) (X v.a.toNat) c := by
          intro c
          induction c with
          | zero => intro _; exact ⟨h1.fit.refl, rfl⟩
          | succ c ihc =>
            intro hc
            obtain ⟨g1, g2⟩ := ihc (by omega)
            have hlen := g1.len
            simp only [List.length_append, List.length_cons, List.length_nil] at hlen
            have hlt : n - (mets L X f (S ++ [v.a.toNat]) (X v.a.toNat) c).length < f := by omega
            have hvc := hg _ hr c (by omega)
            refine ⟨by rw [mets_succ]; exact g1.trans (met_all hg f _ _ g1.fit hvc hlt).1, ?_⟩
            rw [cnts_succ, cnts_succ, g2]
            exact ih g1.fit (led_cnts f (X v.a.toNat) (led_add hQ v.a.toNat) c) hvc hlt
        exact (loop _ (Nat.le_refl _)).2
    · rw [cnt_no h4, cnt_no h4]
theorem cnt_fuels (hg : Good n L X) (hu : isV n u = true) (d : Nat) : cnt L X (n + 1 + d) (fun _ => 0) u = cntAll n u L X := by
  induction d with
  | zero => rfl
  | succ d ih => rw [← ih]; exact cnt_fuel hg (n + 1 + d) (Fit.nil n) led_nil hu (by simp; omega)

theorem frz_fuel (hg : Good n L X) : ∀ (f : Nat) {S : List Nat} {Q0 : Nat → Nat} {t : Ft} {v : V}, Wat n Q L X f S Q0 t v → frz Q L K X (f + 1) t v = frz Q L K X f t v := by
  intro f
  induction f with
  | zero => intro S Q0 t v h; have := h.fuel; omega
  | succ f ih =>
    intro S Q0 t v h
    by_cases h4 : v.k = 4
    · by_cases hm : v.a.toNat ∈ S
      · rw [wr_old h4 (h.old h4 hm), wr_old h4 (h.old h4 hm)]
      · rw [wr_new h4 (h.none hm), wr_new h4 (h.none hm)]
        obtain ⟨a0, a1⟩ := isV_tab h.val h4
        have hr : v.a.toNat < n := by omega
        have loop : ∀ c, c ≤ L v.a.toNat → Wmid n Q L X f (S ++ [v.a.toNat]) (bump Q0 v.a.toNat) (wrs Q L K X f (t.head Q v.a.toNat) v.a.toNat c) v.a.toNat c ∧ wrs Q L K X (f + 1) (t.head Q v.a.toNat) v.a.toNat c = wrs Q L K X f (t.head Q v.a.toNat) v.a.toNat c := by
          intro c
          induction c with
          | zero => intro _; exact ⟨h.into h4 hm, rfl⟩
          | succ c ihc =>
            intro hc
            obtain ⟨hw, e⟩ := ihc (by omega)
            refine ⟨by rw [wrs_succ]; exact hw.next hg hr (by omega) _, ?_⟩
            rw [wrs_succ, wrs_succ, e]
            exact ih (hw.at hg hr (by omega) _)
        rw [(loop _ (Nat.le_refl _)).2]
    · rw [wr_no h4, wr_no h4]
theorem frz_fuels (hg : Good n L X) (hu : isV n u = true) (d : Nat) : frz (cntAll n u L X) L K X (n + 1 + d) ft0 u = wrAll n u L K X := by
  induction d with
  | zero => rfl
  | succ d ih =>
    rw [← ih]
    exact frz_fuel hg (n + 1 + d) (S := []) (Q0 := fun _ => 0) ⟨Fit.nil n, led_nil, (wat0 hu).ok, fun i => by rw [cnt_fuels hg hu d]; exact Nat.le_refl _, by simp; omega, hu⟩

theorem wrAll_canon (h : OkG n u L K X) : (wrAll (order n u L X).length (renum (order n u L X) u) (cL (order n u L X) L) (cK (order n u L X) K) (cX (order n u L X) X)).out = (wrAll n u L K X).out := by
  have hok := okG_canon h
  obtain ⟨h1, h2, h3⟩ := order_all h
  have hlen := h1.len
  obtain ⟨S, hS⟩ : ∃ S, order n u L X = S := ⟨_, rfl⟩
  rw [hS] at h1 h2 h3 hok hlen ⊢
  have rel : ∀ {v : V}, (v.k = 4 → v.a.toNat ∈ S) → relV (fun i j => S[j]? = some i) v (renum S v) := fun {v} hm => by
    refine ⟨(renum_k S v).symm, fun h4 => ?_, fun h4 => ?_⟩
    · unfold renum
      rw [if_pos h4]
      show S[((S.idxOf v.a.toNat : Nat) : Int).toNat]? = _
      rw [Int.toNat_natCast]
      exact ord_idx (hm h4)
    · unfold renum
      rw [if_neg h4]
  have b1 : ∀ i j j' : Nat, S[j]? = some i → S[j']? = some i → j = j' := fun i j j' a b => ord_inj h1.nd a b
  have b2 : ∀ i i' j : Nat, S[j]? = some i → S[j]? = some i' → i = i' := fun i i' j a b => Option.some.inj (a.symm.trans b)
  have hp : ∀ i j : Nat, S[j]? = some i → L i = cL S L j ∧ ∀ c, c < L i → K i c = cK S K j c ∧ relV (fun i j => S[j]? = some i) (X i c) (cX S X j c) := fun i j hij => by
    have e : S.getD j 0 = i := by rw [List.getD_eq_getElem?_getD, hij]; rfl
    refine ⟨by unfold cL; rw [e], fun c hc => ⟨by unfold cK; rw [e], ?_⟩⟩
    unfold cX
    rw [e]
    exact rel (h2 i (List.mem_of_getElem? hij) c hc)
  have ed : n + 1 = S.length + 1 + (n - S.length) := by omega
  have hq := cnt_sim (LA := L) (XA := X) (LB := cL S L) (XB := cX S X) b1 b2 (fun i j hij => ⟨(hp i j hij).1, fun c hc => ((hp i j hij).2 c hc).2⟩) (n + 1) (fun _ => 0) (fun _ => 0) u (renum S u) (fun _ _ _ => rfl) (rel h3)
  have e1 : cnt (cL S L) (cX S X) (n + 1) (fun _ => 0) (renum S u) = cntAll S.length (renum S u) (cL S L) (cX S X) := by
    rw [ed]; exact cnt_fuels (good_of hok) hok.root _
  rw [e1] at hq
  have hf := frz_sim (LA := L) (KA := K) (XA := X) (LB := cL S L) (KB_ := cK S K) (XB := cX S X) b1 b2 hq hp (n + 1) ft0 ft0 u (renum S u) ⟨rfl, rfl, fun _ _ _ => rfl⟩ (rel h3)
  have e2 : frz (cntAll S.length (renum S u) (cL S L) (cX S X)) (cL S L) (cK S K) (cX S X) (n + 1) ft0 (renum S u) = wrAll S.length (renum S u) (cL S L) (cK S K) (cX S X) := by
    rw [ed]; exact frz_fuels (good_of hok) hok.root _
  rw [e2] at hf
  exact hf.out.symm
theorem frzS_canon (h : OkG n u L K X) : frzS (order n u L X).length (renum (order n u L X) u) (cL (order n u L X) L) (cK (order n u L X) K) (cX (order n u L X) X) = frzS n u L K X := by
  unfold frzS
  rw [wrAll_canon h]
end

end Go.Proofs.YtgflalfiopnmnaaGreatDoor

namespace Go.Proofs.YtgflalfiopnmnaaGreatDoor
open Go.RowKit Vl

def dgs (u : Nat) : List UInt8 := if u = 0 then [] else Lib.decDigits u
theorem dgs_step {u : Nat} (h : 0 < u) : dgs u = dgs (u / 10) ++ [UInt8.ofNat (48 + u % 10)] := by
  unfold dgs
  rw [if_neg (by omega), Lib.decDigits]
  by_cases h10 : u < 10
  · rw [dif_pos h10, if_pos (by omega), show u % 10 = u by omega]; rfl
  · rw [dif_neg h10, if_neg (by omega)]
theorem dgs_len {u : Nat} (h : u ≤ 9223372036854775808) : (dgs u).length ≤ 19 := by
  unfold dgs
  split
  · simp
  · exact dec_len 18 u (by omega)

structure Dc (n m : Int) (D : List UInt8) : Prop where
  eq : dgs m.natAbs ++ D.reverse = dgs n.natAbs
  neg : n < 0 → m ≤ 0
  pos : 0 ≤ n → 0 ≤ m
  le : m.natAbs ≤ n.natAbs
theorem Dc.len {n m : Int} {D : List UInt8} (h : Dc n m D) (h0 : -9223372036854775808 ≤ n) (h1 : n ≤ 9223372036854775807) : D.length ≤ 19 := by
  have h2 := congrArg List.length h.eq
  rw [List.length_append, List.length_reverse] at h2
  have h3 := dgs_len (u := n.natAbs) (by omega)
  omega
theorem Dc.next {n m m' : Int} {D : List UInt8} (h : Dc n m D) (hm : m ≠ 0) (hm' : m'.natAbs = m.natAbs / 10) (s1 : m ≤ 0 → m' ≤ 0) (s2 : 0 ≤ m → 0 ≤ m') : Dc n m' (D ++ [UInt8.ofNat (48 + m.natAbs % 10)]) := by
  refine ⟨?_, fun h' => s1 (h.neg h'), fun h' => s2 (h.pos h'), by have := h.le; omega⟩
  rw [hm', List.reverse_append, ← h.eq, dgs_step (u := m.natAbs) (by omega)]
  simp
theorem itoa_eq {n : Int} (h : n ≠ 0) : Lib.itoa n = (if n < 0 then [45] else []) ++ dgs n.natAbs := by
  unfold Lib.itoa dgs
  rw [if_neg (show ¬ n.natAbs = 0 by omega)]
  split
  · rfl
  · rw [show n.toNat = n.natAbs by omega]; rfl

theorem add0 (g i : Nat) : (⟨g, 0, none⟩ : Addr).add i = ⟨g, i, none⟩ := by
  unfold Addr.add
  by_cases h : i = 0 <;> simp [h]
structure DcR (n m : Int) (D : List UInt8) (w wr : World) (dv : Value) : Prop where
  dc : Dc n m D
  sq : SqR w wr dv D

set_option maxHeartbeats 4000000 in
set_option maxRecDepth 100000 in
theorem l4decimal_any (n : Int) (h0 : -9223372036854775808 ≤ n) (h1 : n ≤ 9223372036854775807) (w : World) : Calls Tryz.prog 99 #[.int .i64 n] w fun e w' => e = .returned (.string ⟨(Lib.itoa n).toArray⟩) ∧ Below w.heap.size w w' := by
  by_cases hn : n = 0
  · subst hn
    have HE : Hid ((⟨(Lib.itoa 0).toArray⟩ : ByteArray) = ⟨#[48]⟩) := by
      have : Lib.itoa 0 = [48] := by unfold Lib.itoa; rw [if_neg (by omega), Lib.decDigits, dif_pos (by decide)]; rfl
      rw [this]
      exact rfl
    rw [HE.out]
    clear h0 h1
    go_enter Tryz.func99, Tryz.ntmps99
    go_wp2
    go_ret
    exact ⟨rfl, Below.refl _ _⟩
  · have hne : (n == 0) = false := by simpa using hn
    have HN : Hid (n ≠ 0) := hn
    have HR0 : Hid (DcR n n [] w w (.slice none 0 0)) := ⟨⟨by simp, fun h => by omega, fun h => h, Nat.le_refl _⟩, ⟨World.ownsRow_nil _ _ _ _, Below.refl _ _⟩⟩
    have H0 : Hid (-9223372036854775808 ≤ n) := h0
    have H1 : Hid (n ≤ 9223372036854775807) := h1
    obtain ⟨i0, hi, hz0, hz1, hz2⟩ := info_parts Tryz.infoU8
    obtain ⟨ng, hng⟩ : ∃ ng, decide (n < 0) = ng := ⟨_, rfl⟩
    have HNG : Hid (decide (n < 0) = ng) := hng
    clear h0 h1
    go_enter Tryz.func99, Tryz.ntmps99
    go_wp2
    go_loopw [0, 4] (fun nv dv wr => ∃ (m : Int) (D : List UInt8), nv = .int .i64 m ∧ Hid (DcR n m D w wr dv)) (fun nv _ _ => (intOf nv).natAbs)
    case atStart => exact ⟨n, [], rfl, HR0⟩
    case round =>
      obtain ⟨m, D, rfl, HR⟩ := hrel
      clear HR0
      obtain ⟨oa, oc, rfl, _⟩ := owns_form HR.out.sq.own
      have hDl := HR.out.dc.len H0.out H1.out
      have hsz : w.heap.size ≤ wr.heap.size := HR.out.sq.bel.size
      have hmr : -9223372036854775808 ≤ m ∧ m ≤ 9223372036854775807 := by
        have := HR.out.dc.le
        have := H0.out
        have := H1.out
        have := HR.out.dc.neg
        have := HR.out.dc.pos
        omega
      by_cases hm : m = 0
      · subst hm
        obtain ⟨wz, rfl⟩ : ∃ wz, wz = wr := ⟨_, rfl⟩
        have HDn : Hid (D.reverse = dgs n.natAbs) := by
          have h := HR.out.dc.eq
          rw [show dgs (0 : Int).natAbs = [] from rfl, List.nil_append] at h
          exact h
        have hk0 : 0 < D.length := by
          have h2 := congrArg List.length HDn.out
          have h3 : 0 < (dgs n.natAbs).length := by
            rw [dgs_step (u := n.natAbs) (by have := HN.out; omega)]
            simp
          rw [List.length_reverse] at h2
          omega
        have hown := HR.out.sq.own
        obtain ⟨g, hoa⟩ : ∃ g, oa = some ⟨g, 0, none⟩ := by
          rcases hown.2 with ⟨_, hz⟩ | ⟨g, cap, cur, hv, _⟩
          · omega
          · simp at hv; exact ⟨g, hv.1⟩
        subst hoa
        have HCell : Hid (∀ i x, D[i]? = some x → wz.cell? ⟨g, i, none⟩ = some (.int .u8 (x.toNat : Int))) := fun i x hx => by
          have := hown.cells (g := g) rfl i (.int .u8 (x.toNat : Int)) (by simp [Lib.byteCells, hx])
          rw [add0] at this
          exact this
        have hgl : g < wz.heap.size := by
          obtain ⟨_, _, _, h⟩ := owns_form hown
          exact (h g (by simp [Value.ownBlock])).2
        have hwk : wrap64 ((D.length : Int) - 1) = (D.length : Int) - 1 := by unfold wrap64; omega
        clear hown hng hne hi hz0 hz1 hz2
        by_cases hneg : n < 0
        · rw [decide_eq_true hneg] at HNG
          obtain rfl := HNG.out
          have HIT : Hid (Lib.itoa n = [45] ++ D.reverse) := by rw [HDn.out, itoa_eq HN.out, if_pos hneg]; exact rfl
          clear hneg
          go_wp2
          go_loopw [6, 7] (fun ov iv wq => ∃ (j : Nat) (s : ByteArray), j ≤ D.length ∧ iv = .int .i64 ((D.length : Int) - 1 - j) ∧ ov = .string s ∧ Hid (s.data.toList = [45] ++ D.reverse.take j) ∧ Hid (Below wz.heap.size wz wq)) (fun _ iv _ => (intOf iv + 1).toNat)
          case atStart => exact ⟨0, _, Nat.zero_le _, by first | rfl | simp, rfl, rfl, Below.refl _ _⟩
          case round =>
            obtain ⟨j, s, hj, rfl, rfl, HSd, HBq⟩ := hrel
            by_cases hlt : j < D.length
            · obtain ⟨ii, hii⟩ : ∃ ii : Nat, (D.length : Int) - 1 - j = ii := ⟨D.length - 1 - j, by omega⟩
              obtain ⟨x, hx⟩ : ∃ x, D[ii]? = some x := ⟨D[ii]'(by omega), List.getElem?_eq_getElem _⟩
              have hcell : wr.cell? ⟨g, ii, none⟩ = some (.int .u8 (x.toNat : Int)) := (HBq.out.cell (p := ⟨g, ii, none⟩) hgl).trans (HCell.out ii x hx)
              have HT : Hid (D.reverse.take (j + 1) = D.reverse.take j ++ [x]) := by
                show _ = _
                have hr : D.reverse[j]? = some x := by
                  rw [List.getElem?_reverse hlt, show D.length - 1 - j = ii by omega]
                  exact hx
                rw [List.take_add_one, hr]
                rfl
              have hss : s.size ≤ 25 := by
                have hpl : ([45] : List UInt8).length ≤ 1 := by decide
                rw [← str_len, HSd.out, List.length_append, List.length_take, List.length_reverse]
                omega
              obtain ⟨dg, hdg⟩ : ∃ dg : ByteArray, ⟨[x].toArray⟩ = dg := ⟨_, rfl⟩
              have hcv := own_string (w := wr.alloc (.cells #[.int .u8 (x.toNat : Int)] 5)) (base := 0) (v := .slice (some ⟨wr.heap.size, 0, none⟩) 1 1) (D := [x]) ⟨rfl, Or.inr ⟨wr.heap.size, 1, #[.int .u8 (x.toNat : Int)], rfl, Nat.zero_le _, heap_alloc_new _ _, Nat.le_refl 1, by unfold maxLen; omega, rfl, rfl⟩⟩ (by simp)
              rw [hdg] at hcv
              have hds : dg.size = 1 := by rw [← hdg]; rfl
              have HDG : Hid (dg.data.toList = [x]) := by rw [← hdg]; exact rfl
              rw [hii]
              have hge : (0 : Int) ≤ (ii : Int) := by omega
              have hbd : (ii : Int) < (D.length : Int) := by omega
              have hwi : wrap64 ((ii : Int) - 1) = (ii : Int) - 1 := by unfold wrap64; omega
              clear hdg hx
              go_wp2
              go_roundw
              case rel =>
                refine ⟨j + 1, s ++ dg, by omega, by first | (congr 1; omega) | (rw [hwi]; congr 1; omega), rfl, ?_, HBq.out.alloc HBq.out.size _⟩
                show _ = _
                rw [HT.out, ← List.append_assoc, ← HSd.out, ← HDG.out]
                simp
              case measure => simp [intOf] <;> omega
            · obtain rfl : j = D.length := by omega
              have HFin : Hid ((⟨(Lib.itoa n).toArray⟩ : ByteArray) = s) := by
                have h1 := HSd.out
                rw [List.take_of_length_le (by simp), ← HIT.out] at h1
                rw [← h1]
                exact rfl
              have hlo : ¬ ((0 : Int) ≤ (D.length : Int) - 1 - (D.length : Nat)) := by omega
              have HBE : Hid (Below w.heap.size w wr) := HR.out.sq.bel.trans (HBq.out.mono hsz)
              go_wp2
              go_ret
              exact ⟨by rw [HFin.out]; rfl, HBE.out⟩
        · rw [decide_eq_false hneg] at HNG
          obtain rfl := HNG.out
          have HIT : Hid (Lib.itoa n = [] ++ D.reverse) := by rw [HDn.out, itoa_eq HN.out, if_neg hneg]; exact rfl
          clear hneg
          go_wp2
          go_loopw [6, 7] (fun ov iv wq => ∃ (j : Nat) (s : ByteArray), j ≤ D.length ∧ iv = .int .i64 ((D.length : Int) - 1 - j) ∧ ov = .string s ∧ Hid (s.data.toList = [] ++ D.reverse.take j) ∧ Hid (Below wz.heap.size wz wq)) (fun _ iv _ => (intOf iv + 1).toNat)
          case atStart => exact ⟨0, _, Nat.zero_le _, by first | rfl | simp, rfl, rfl, Below.refl _ _⟩
          case round =>
            obtain ⟨j, s, hj, rfl, rfl, HSd, HBq⟩ := hrel
            by_cases hlt : j < D.length
            · obtain ⟨ii, hii⟩ : ∃ ii : Nat, (D.length : Int) - 1 - j = ii := ⟨D.length - 1 - j, by omega⟩
              obtain ⟨x, hx⟩ : ∃ x, D[ii]? = some x := ⟨D[ii]'(by omega), List.getElem?_eq_getElem _⟩
              have hcell : wr.cell? ⟨g, ii, none⟩ = some (.int .u8 (x.toNat : Int)) := (HBq.out.cell (p := ⟨g, ii, none⟩) hgl).trans (HCell.out ii x hx)
              have HT : Hid (D.reverse.take (j + 1) = D.reverse.take j ++ [x]) := by
                show _ = _
                have hr : D.reverse[j]? = some x := by
                  rw [List.getElem?_reverse hlt, show D.length - 1 - j = ii by omega]
                  exact hx
                rw [List.take_add_one, hr]
                rfl
              have hss : s.size ≤ 25 := by
                have hpl : ([] : List UInt8).length ≤ 1 := by decide
                rw [← str_len, HSd.out, List.length_append, List.length_take, List.length_reverse]
                omega
              obtain ⟨dg, hdg⟩ : ∃ dg : ByteArray, ⟨[x].toArray⟩ = dg := ⟨_, rfl⟩
              have hcv := own_string (w := wr.alloc (.cells #[.int .u8 (x.toNat : Int)] 5)) (base := 0) (v := .slice (some ⟨wr.heap.size, 0, none⟩) 1 1) (D := [x]) ⟨rfl, Or.inr ⟨wr.heap.size, 1, #[.int .u8 (x.toNat : Int)], rfl, Nat.zero_le _, heap_alloc_new _ _, Nat.le_refl 1, by unfold maxLen; omega, rfl, rfl⟩⟩ (by simp)
              rw [hdg] at hcv
              have hds : dg.size = 1 := by rw [← hdg]; rfl
              have HDG : Hid (dg.data.toList = [x]) := by rw [← hdg]; exact rfl
              rw [hii]
              have hge : (0 : Int) ≤ (ii : Int) := by omega
              have hbd : (ii : Int) < (D.length : Int) := by omega
              have hwi : wrap64 ((ii : Int) - 1) = (ii : Int) - 1 := by unfold wrap64; omega
              clear hdg hx
              go_wp2
              go_roundw
              case rel =>
                refine ⟨j + 1, s ++ dg, by omega, by first | (congr 1; omega) | (rw [hwi]; congr 1; omega), rfl, ?_, HBq.out.alloc HBq.out.size _⟩
                show _ = _
                rw [HT.out, ← List.append_assoc, ← HSd.out, ← HDG.out]
                simp
              case measure => simp [intOf] <;> omega
            · obtain rfl : j = D.length := by omega
              have HFin : Hid ((⟨(Lib.itoa n).toArray⟩ : ByteArray) = s) := by
                have h1 := HSd.out
                rw [List.take_of_length_le (by simp), ← HIT.out] at h1
                rw [← h1]
                exact rfl
              have hlo : ¬ ((0 : Int) ≤ (D.length : Int) - 1 - (D.length : Nat)) := by omega
              have HBE : Hid (Below w.heap.size w wr) := HR.out.sq.bel.trans (HBq.out.mono hsz)
              go_wp2
              go_ret
              exact ⟨by rw [HFin.out]; rfl, HBE.out⟩
      · have hm1 : (m != 0) = true := by simpa using hm
        have HM : Hid (m ≠ 0) := hm
        obtain ⟨d, hd⟩ : ∃ d : Int, m.tmod 10 = d := ⟨_, rfl⟩
        obtain ⟨m', hm'⟩ : ∃ m' : Int, m.tdiv 10 = m' := ⟨_, rfl⟩
        obtain ⟨ev, hev⟩ : ∃ ev : Nat, 48 + m.natAbs % 10 = ev := ⟨_, rfl⟩
        have hev2 : 48 ≤ ev ∧ ev < 58 := by omega
        have HEV : Hid ((UInt8.ofNat ev).toNat = ev) := by show _ = _; rw [UInt8.toNat_ofNat']; omega
        have key : m.natAbs % 10 = d.natAbs ∧ m'.natAbs = m.natAbs / 10 ∧ (m ≤ 0 → m' ≤ 0 ∧ d ≤ 0) ∧ (0 ≤ m → 0 ≤ m' ∧ 0 ≤ d) := by
          rcases Int.le_total 0 m with hs | hs
          · obtain ⟨u, rfl⟩ : ∃ u : Nat, m = u := ⟨m.toNat, by omega⟩
            have e1 : ((u : Int).tmod 10) = ((u % 10 : Nat) : Int) := (Int.ofNat_tmod u 10).symm
            have e2 : ((u : Int).tdiv 10) = ((u / 10 : Nat) : Int) := (Int.ofNat_tdiv u 10).symm
            omega
          · obtain ⟨u, rfl⟩ : ∃ u : Nat, m = -(u : Int) := ⟨m.natAbs, by omega⟩
            have e1 : ((-(u : Int)).tmod 10) = -((u % 10 : Nat) : Int) := by rw [Int.neg_tmod]; exact congrArg Neg.neg (Int.ofNat_tmod u 10).symm
            have e2 : ((-(u : Int)).tdiv 10) = -((u / 10 : Nat) : Int) := by rw [Int.neg_tdiv]; exact congrArg Neg.neg (Int.ofNat_tdiv u 10).symm
            omega
        have HNx : Hid (Dc n m' (D ++ [UInt8.ofNat ev])) := by rw [← hev]; exact HR.out.dc.next hm key.2.1 (fun h => (key.2.2.1 h).1) (fun h => (key.2.2.2 h).1)
        have hms : Hid (m'.natAbs < m.natAbs) := show _ < _ by omega
        have hdv : (d : Int).natAbs = ev - 48 := by omega
        have hmw : wrap64 m' = m' := by unfold wrap64; omega
        clear key hev
        by_cases hd0 : d < 0
        · have hw1 : IntKind.i64.wrap (-d) = (ev : Int) - 48 := by rw [IntKind.wrap_i64]; omega
          have hw2 : IntKind.i64.wrap (48 + ((ev : Int) - 48)) = (ev : Int) := by rw [IntKind.wrap_i64]; omega
          have hw3 : IntKind.u8.wrap (ev : Int) = (ev : Int) := wrapU8 (by omega) (by omega)
          go_wp2_with (at_builtin; refine wpList_append_lies _ (by rfl) _ _ 22 (by rfl) w.heap.size 5 i0 (.int .u8 0) 1 1 Tryz.underlying22 hi hz0 hz1 hz2 (by rfl) (by omega) (.slice oa D.length oc) D.length (Lib.byteCells D) (by rfl) (HR.out.sq.own.alloc _) ⟨wr.heap.size, 0, none⟩ 1 1 [.int .u8 (ev : Int)] (by rfl) (by rfl) (World.news_of_block (heap_alloc_new wr _)) (by intro u hu; simp at hu; subst hu; rfl) (by omega) (by unfold maxLen; omega) (by omega) (by simp; omega) (wr.heap.size + 1) (by simp) ?_)
          intro g cap w3 hown hgrow hat hlt3
          have hown' : w3.ownsRow w.heap.size 5 1 (.slice (some ⟨g, 0, none⟩) (D.length + 1) cap) (D.length + 1) (Lib.byteCells D ++ Lib.byteCells [UInt8.ofNat ev]) := by
            have e : Lib.byteCells [UInt8.ofNat ev] = [.int .u8 (ev : Int)] := by simp only [Lib.byteCells, List.map_cons, List.map_nil, HEV.out]
            rw [e]
            exact hown
          have HR3 : Hid (DcR n m' (D ++ [UInt8.ofNat ev]) w w3 _) := ⟨HNx.out, HR.out.sq.next (cs := [UInt8.ofNat ev]) (m := 1) rfl hgrow hown'⟩
          clear hown hown' hgrow hat
          go_wp2
          go_roundw
          case rel => exact ⟨m', _, by rw [hmw], HR3⟩
          case measure => show (wrap64 m').natAbs < m.natAbs; rw [hmw]; exact hms.out
        · have hw1 : d = (ev : Int) - 48 := by omega
          subst hw1
          have hw2 : IntKind.i64.wrap (48 + ((ev : Int) - 48)) = (ev : Int) := by rw [IntKind.wrap_i64]; omega
          have hw3 : IntKind.u8.wrap (ev : Int) = (ev : Int) := wrapU8 (by omega) (by omega)
          go_wp2_with (at_builtin; refine wpList_append_lies _ (by rfl) _ _ 22 (by rfl) w.heap.size 5 i0 (.int .u8 0) 1 1 Tryz.underlying22 hi hz0 hz1 hz2 (by rfl) (by omega) (.slice oa D.length oc) D.length (Lib.byteCells D) (by rfl) (HR.out.sq.own.alloc _) ⟨wr.heap.size, 0, none⟩ 1 1 [.int .u8 (ev : Int)] (by rfl) (by rfl) (World.news_of_block (heap_alloc_new wr _)) (by intro u hu; simp at hu; subst hu; rfl) (by omega) (by unfold maxLen; omega) (by omega) (by simp; omega) (wr.heap.size + 1) (by simp) ?_)
          intro g cap w3 hown hgrow hat hlt3
          have hown' : w3.ownsRow w.heap.size 5 1 (.slice (some ⟨g, 0, none⟩) (D.length + 1) cap) (D.length + 1) (Lib.byteCells D ++ Lib.byteCells [UInt8.ofNat ev]) := by
            have e : Lib.byteCells [UInt8.ofNat ev] = [.int .u8 (ev : Int)] := by simp only [Lib.byteCells, List.map_cons, List.map_nil, HEV.out]
            rw [e]
            exact hown
          have HR3 : Hid (DcR n m' (D ++ [UInt8.ofNat ev]) w w3 _) := ⟨HNx.out, HR.out.sq.next (cs := [UInt8.ofNat ev]) (m := 1) rfl hgrow hown'⟩
          clear hown hown' hgrow hat
          go_wp2
          go_roundw
          case rel => exact ⟨m', _, by rw [hmw], HR3⟩
          case measure => show (wrap64 m').natAbs < m.natAbs; rw [hmw]; exact hms.out

end Go.Proofs.YtgflalfiopnmnaaGreatDoor

namespace Go.Proofs.YtgflalfiopnmnaaGreatDoor
open Go.RowKit Vl

set_option maxHeartbeats 1000000 in
set_option maxRecDepth 100000 in
theorem l4plain_any (v : V) (w : World) (hv : shortV v) : Calls Tryz.prog 98 #[.agg #[.int .i64 v.k, .int .i64 v.n, .string v.s, .int .i64 v.a]] w fun e w' => e = .returned (.string ⟨(plT v).toArray⟩) ∧ Below w.heap.size w w' := by
  obtain ⟨k, m, s, a⟩ := v
  obtain ⟨hs, hm0, hm1⟩ := hv
  simp only at hs hm0 hm1 ⊢
  have HB1 : Hid (Below w.heap.size w (w.alloc (.cells #[.int .i64 k, .int .i64 m, .string s, .int .i64 a] 24))) := below_alloc _ _
  by_cases k1 : k = 1
  · subst k1
    by_cases h1 : m = 1
    · subst h1
      have HE : Hid ((⟨(plT ⟨1, 1, s, a⟩).toArray⟩ : ByteArray) = ⟨#[116, 114, 117, 101]⟩) := rfl
      rw [HE.out]
      go_enter Tryz.func98, Tryz.ntmps98
      go_wp2
      go_ret
      exact ⟨rfl, HB1.out⟩
    · have HE : Hid ((⟨(plT ⟨1, m, s, a⟩).toArray⟩ : ByteArray) = ⟨#[102, 97, 108, 115, 101]⟩) := by
        show _ = _
        unfold plT
        rw [if_pos rfl, if_neg h1]
        rfl
      rw [HE.out]
      have hne : (m == 1) = false := by simpa using h1
      go_enter Tryz.func98, Tryz.ntmps98
      go_wp2
      go_ret
      exact ⟨rfl, HB1.out⟩
  by_cases k2 : k = 2
  · subst k2
    have HE : Hid (plT ⟨2, m, s, a⟩ = Lib.itoa m) := by
      show _ = _
      simp [plT]
    rw [HE.out]
    have hd := l4decimal_any m hm0 hm1 (w.alloc (.cells #[.int .i64 2, .int .i64 m, .string s, .int .i64 a] 24))
    obtain ⟨str, hstr⟩ : ∃ str : ByteArray, ⟨(Lib.itoa m).toArray⟩ = str := ⟨_, rfl⟩
    rw [hstr] at hd ⊢
    clear hstr k1
    go_enter Tryz.func98, Tryz.ntmps98
    go_wp2_with (go_at_call 99; refine hd.mono ?_; rintro e w' ⟨rfl, hb⟩)
    have HBE : Hid (Below w.heap.size w w') := HB1.out.trans (hb.mono HB1.out.size)
    clear hb hd
    go_wp2
    go_ret
    exact ⟨rfl, HBE.out⟩
  by_cases k3 : k = 3
  · subst k3
    have HE : Hid (plT ⟨3, m, s, a⟩ = quT s) := rfl
    rw [HE.out]
    have hd := l4quote_any s (w.alloc (.cells #[.int .i64 3, .int .i64 m, .string s, .int .i64 a] 24)) (by omega)
    obtain ⟨str, hstr⟩ : ∃ str : ByteArray, ⟨(quT s).toArray⟩ = str := ⟨_, rfl⟩
    rw [hstr] at hd ⊢
    clear hstr k1 k2
    go_enter Tryz.func98, Tryz.ntmps98
    go_wp2_with (go_at_call 131; refine hd.mono ?_; rintro e w' ⟨rfl, hb⟩)
    have HBE : Hid (Below w.heap.size w w') := HB1.out.trans (hb.mono HB1.out.size)
    clear hb hd
    go_wp2
    go_ret
    exact ⟨rfl, HBE.out⟩
  · have HE : Hid ((⟨(plT ⟨k, m, s, a⟩).toArray⟩ : ByteArray) = ⟨#[110, 105, 108]⟩) := by
      show _ = _
      unfold plT
      rw [if_neg k1, if_neg k2, if_neg k3]
      rfl
    rw [HE.out]
    have e1 : (k == 1) = false := by simpa using k1
    have e2 : (k == 2) = false := by simpa using k2
    have e3 : (k == 3) = false := by simpa using k3
    go_enter Tryz.func98, Tryz.ntmps98
    go_wp2
    go_ret
    exact ⟨rfl, HB1.out⟩

structure SfW (w0 w : World) (FB LB XB base : Nat) (u : V) (ta : Option Addr) (n cp : Nat) (q : Nat → Nat) (t : Ft) (ov : Value) : Prop where
  blk : w.heap[FB]? = some (.cells #[.int .i64 u.k, .int .i64 u.n, .string u.s, .int .i64 u.a, .slice ta n cp, .slice (some ⟨LB, 0, none⟩) n n, .slice (some ⟨XB, 0, none⟩) n n, .int .i64 (t.N : Nat), ov] 137 (0, 0))
  led : w.rowIs LB 3 n (fun i => .int .i64 (q i : Nat))
  lab : w.rowIs XB 3 n (fun i => .int .i64 (t.lab i : Nat))
  own : w.ownsRow base 5 1 ov t.out.length (Lib.byteCells t.out)
  bel : Below w0.heap.size w0 w
structure SfB (w0 : World) (FB LB XB base : Nat) : Prop where
  fb : w0.heap.size ≤ FB
  lb : w0.heap.size ≤ LB
  xb : w0.heap.size ≤ XB
  fbb : FB < base
  lbb : LB < base
  xbb : XB < base
  n1 : FB ≠ LB
  n2 : FB ≠ XB
  n3 : LB ≠ XB
theorem nine_at {w : World} {B : Nat} {a b c d e f g h i : Value} {t : TypeId} (H : w.heap[B]? = some (.cells #[a, b, c, d, e, f, g, h, i] t (0, 0))) :
    w.cell? ⟨B, 4, none⟩ = some e ∧ w.cell? ⟨B, 5, none⟩ = some f ∧ w.cell? ⟨B, 6, none⟩ = some g ∧ w.cell? ⟨B, 7, none⟩ = some h ∧ w.cell? ⟨B, 8, none⟩ = some i ∧ ∀ j, w.frozen? ⟨B, j, none⟩ = false := by
  refine ⟨?_, ?_, ?_, ?_, ?_, fun j => ?_⟩ <;> simp [World.cell?, World.frozen?, H]
theorem SfW.below {w0 w w' : World} {FB LB XB base : Nat} {u : V} {ta : Option Addr} {n cp : Nat} {q : Nat → Nat} {t : Ft} {ov : Value} (h : SfW w0 w FB LB XB base u ta n cp q t ov) (hb : Below w.heap.size w w') : SfW w0 w' FB LB XB base u ta n cp q t ov :=
  ⟨blkB h.blk hb, h.led.of_block (hb.block _ h.led.lt), h.lab.of_block (hb.block _ h.lab.lt), (Only.below (P := fun _ => False) hb).owns h.own (fun _ _ _ h => h), h.bel.trans (hb.mono h.bel.size)⟩

theorem SfW.inc {w0 w : World} {FB LB XB base : Nat} {u : V} {ta : Option Addr} {n cp : Nat} {q : Nat → Nat} {t : Ft} {ov : Value} (h : SfW w0 w FB LB XB base u ta n cp q t ov) (hB : SfB w0 FB LB XB base) (r : Nat) :
    SfW w0 (w.setCell ⟨LB, r, none⟩ (.int .i64 (q r + 1 : Nat))) FB LB XB base u ta n cp (bump q r) t ov ∧ Only (fun k => k = LB) w (w.setCell ⟨LB, r, none⟩ (.int .i64 (q r + 1 : Nat))) := by
  refine ⟨⟨(Below.heap_setCell _ _ _ _ hB.n1).trans h.blk, ?_, h.lab.of_block (Below.heap_setCell _ _ _ _ (fun e => hB.n3 e.symm)), ?_, h.bel.setCell hB.lb _⟩, (Only.refl (fun k => k = LB) w).set (p := ⟨LB, r, none⟩) rfl _⟩
  · refine (h.led.set r _).congr (fun i _ => ?_)
    unfold bump
    by_cases e : i = r
    · rw [if_pos e, if_pos e]
    · rw [if_neg e, if_neg e]
  · refine ownsRow_setCell_other h.own (fun e => ?_) _
    obtain ⟨_, _, _, hk⟩ := owns_form h.own
    have := (hk _ e).1
    have := hB.lbb
    simp only at *
    omega

theorem SfW.put {w0 w w3 : World} {FB LB XB base : Nat} {u : V} {ta : Option Addr} {n cp : Nat} {q : Nat → Nat} {t : Ft} {ov ov' : Value} {l : List UInt8} (h : SfW w0 w FB LB XB base u ta n cp q t ov) (hB : SfB w0 FB LB XB base) (hgrow : w.grownBy w3 ov.ownBlock)
    (hown : w3.ownsRow base 5 1 ov' (t.out ++ l).length (Lib.byteCells (t.out ++ l))) (hat : ∀ k, ov'.ownBlock = some k → ov.ownBlock = some k ∨ w.heap.size ≤ k) :
    (w3.cell? ⟨FB, 8, none⟩ = some ov ∧ ∀ j, w3.frozen? ⟨FB, j, none⟩ = false) ∧ SfW w0 (w3.setCell ⟨FB, 8, none⟩ ov') FB LB XB base u ta n cp q (t.say l) ov' ∧ FrV FB FB ov ov' w (w3.setCell ⟨FB, 8, none⟩ ov') := by
  obtain ⟨_, _, _, hk⟩ := owns_form h.own
  have n1 : ov.ownBlock ≠ some FB := fun e => by have := (hk _ e).1; have := hB.fbb; omega
  have n2 : ov.ownBlock ≠ some LB := fun e => by have := (hk _ e).1; have := hB.lbb; omega
  have n3 : ov.ownBlock ≠ some XB := fun e => by have := (hk _ e).1; have := hB.xbb; omega
  have hblk := (hgrow.block FB (blk_lt h.blk) (fun e => n1 e.symm)).trans h.blk
  have hc := nine_at hblk
  have ho : Only (fun k => k = FB ∨ k = FB ∨ ov.ownBlock = some k) w w3 := ⟨hgrow.os, hgrow.tape, hgrow.output, hgrow.size, fun k hk hp => hgrow.block k hk (fun e => hp (Or.inr (Or.inr e.symm)))⟩
  refine ⟨⟨hc.2.2.2.2.1, hc.2.2.2.2.2⟩, ⟨?_, ?_, ?_, ?_, ?_⟩, ⟨ho.set (Or.inl rfl) _, fun k hk' e => ?_⟩⟩
  · simp [World.setCell, Array.getElem?_modify, hblk, Ft.say]
  · exact h.led.of_block ((Below.heap_setCell _ _ _ _ (fun e => hB.n1 e.symm)).trans (hgrow.block LB h.led.lt (fun e => n2 e.symm)))
  · exact h.lab.of_block ((Below.heap_setCell _ _ _ _ (fun e => hB.n2 e.symm)).trans (hgrow.block XB h.lab.lt (fun e => n3 e.symm)))
  · refine ownsRow_setCell_other (a := ⟨FB, 8, none⟩) hown (fun e => ?_) _
    obtain ⟨_, _, _, hk2⟩ := owns_form hown
    have := (hk2 _ e).1
    have := hB.fbb
    simp only at *
    omega
  · refine (h.bel.trans (ho.toBelow (base := w0.heap.size) (fun k hk' => ?_) h.bel.size)).setCell hB.fb _
    rcases hk' with rfl | rfl | e
    · exact hB.fb
    · exact hB.fb
    · have := (hk _ e).1; have := hB.fb; have := hB.fbb; omega
  · rcases hat k e with h' | h'
    · exact h'
    · omega

set_option maxHeartbeats 1000000 in
set_option maxRecDepth 100000 in
theorem say_any (w0 w : World) (FB LB XB base : Nat) (u : V) (ta : Option Addr) (n cp : Nat) (q : Nat → Nat) (t : Ft) (ov : Value) (s : ByteArray) (HB : Hid (SfB w0 FB LB XB base)) (hbw : base ≤ w.heap.size) (hlen : t.out.length + s.size ≤ 140737488355328) (H : Hid (SfW w0 w FB LB XB base u ta n cp q t ov)) :
    Calls Tryz.prog 97 #[.pointer (some ⟨FB, 0, none⟩), .string s] w fun e w' => e = .returned (.tuple #[]) ∧ ∃ ov', SfW w0 w' FB LB XB base u ta n cp q (t.say s.data.toList) ov' ∧ FrV FB FB ov ov' w w' := by
  obtain ⟨i0, hi, hz0, hz1, hz2⟩ := info_parts Tryz.infoU8
  obtain ⟨_, _, _, _, x8, xz⟩ := nine_at H.out.blk
  go_enter Tryz.func97, Tryz.ntmps97
  go_wp2_with (at_builtin; refine wpList_append_str (by rfl) _ _ 22 9 (by rfl) base 5 i0 Tryz.underlying22 Tryz.underlying9 hi hz0 hz1 hz2 ov t.out.length (Lib.byteCells t.out) (by rfl) H.out.own s (by rfl) hlen hbw ?_)
  intro ov' w2 hown hgrow hat
  obtain ⟨ao, cap, rfl, _⟩ := owns_form hown
  have hown' : w2.ownsRow base 5 1 (.slice ao (t.out.length + s.size) cap) (t.out ++ s.data.toList).length (Lib.byteCells (t.out ++ s.data.toList)) := by
    rw [List.length_append, str_len, show Lib.byteCells (t.out ++ s.data.toList) = Lib.byteCells t.out ++ Lib.strCells s by simp [Lib.byteCells, Lib.strCells]]
    exact hown
  obtain ⟨⟨d8, dz⟩, hW2, hF2⟩ := H.out.put HB.out hgrow hown' hat
  have HW2 : Hid _ := hW2
  have HF2 : Hid _ := hF2
  have f8 := dz 8
  clear x8 xz hW2 hF2 hown hown' hgrow hat dz
  go_wp2
  go_end0
  exact ⟨rfl, _, HW2.out, HF2.out⟩

end Go.Proofs.YtgflalfiopnmnaaGreatDoor
