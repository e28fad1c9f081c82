import Derived.Test.YtgflalfiopnmnaaGreatDoorM0
import Derived.Test.YtgflalfiopnmnaaGreatDoorM18
import Derived.Test.YtgflalfiopnmnaaGreatDoorM16
import Derived.Test.YtgflalfiopnmnaaGreatDoorM11
import Derived.Test.YtgflalfiopnmnaaGreatDoorM9
import Derived.Test.YtgflalfiopnmnaaGreatDoorM3
import Derived.Test.YtgflalfiopnmnaaGreatDoorM7
import Derived.Test.YtgflalfiopnmnaaGreatDoorM10
import Derived.Test.YtgflalfiopnmnaaGreatDoorVlKo
import Derived.Lib.AppendZeros
import Derived.Deep.AppendSrc
import Derived.Deep.Upon
namespace Go.Proofs.YtgflalfiopnmnaaGreatDoor
open Go.RowKit Vl

theorem short_of {n : Nat} {v : V} (h : isV n v = true) : v.s.size ≤ 500 := by
  obtain ⟨k, m, s, a⟩ := v
  have hz : s.toList = [] → s.size ≤ 500 := fun e => by rw [bytes_empty e]; decide
  by_cases k0 : k = 0
  · subst k0; simp [isV] at h; exact hz h.2.1
  by_cases k1 : k = 1
  · subst k1; simp [isV] at h; exact hz h.2.1
  by_cases k2 : k = 2
  · subst k2; simp [isV] at h; exact hz h.1
  by_cases k3 : k = 3
  · subst k3; simp [isV] at h; exact h.2.2
  by_cases k4 : k = 4
  · subst k4; simp [isV] at h; exact hz h.2.1
  · simp [isV, k0, k1, k2, k3, k4] at h

def Rg (v : V) : Prop := -9223372036854775808 ≤ v.n ∧ v.n ≤ 9223372036854775807
def Rgs (n : Nat) (u : V) (L : Nat → Nat) (K X : Nat → Nat → V) : Prop := Rg u ∧ ∀ r, r < n → ∀ c, c < L r → Rg (K r c) ∧ Rg (X r c)
theorem plain_of_ok {n : Nat} {u : V} {L : Nat → Nat} {K X : Nat → Nat → V} (h : OkG n u L K X) (hr : Rgs n u L K X) : Plain n L K X := by
  refine ⟨fun r hrn c hc => ?_, fun r hrn c hc => ⟨short_of ((h.all r hrn).all c hc).val, (hr.2 r hrn c hc).2⟩⟩
  have hk := ((h.all r hrn).all c hc).key
  unfold isK at hk
  simp only [Bool.and_eq_true, Bool.or_eq_true, beq_iff_eq] at hk
  refine ⟨⟨short_of hk.2, (hr.2 r hrn c hc).1⟩, ?_⟩
  rcases hk.1 with (h1 | h1) | h1
  · exact Or.inr (Or.inl h1)
  · exact Or.inr (Or.inr (Or.inl h1))
  · exact Or.inr (Or.inr (Or.inr h1))

theorem plT_pos (v : V) : 0 < (plT v).length := by
  unfold plT
  split
  · split <;> decide
  · split
    · unfold Lib.itoa
      split
      · simp
      · rw [Lib.decDigits]
        split
        · simp
        · simp
    · split
      · simp [quT]
      · decide
theorem frz_pos {Q : Nat → Nat} {L : Nat → Nat} {K X : Nat → Nat → V} (f : Nat) (t : Ft) (v : V) : 0 < (frz Q L K X (f + 1) t v).out.length := by
  by_cases h4 : v.k = 4
  · by_cases hl : t.lab v.a.toNat = 0
    · rw [wr_new h4 hl, say_len]; simp
    · rw [wr_old h4 (by omega), say_len, List.length_cons]; omega
  · rw [wr_no h4, say_len]; have := plT_pos v; omega

def frzS (n : Nat) (u : V) (L : Nat → Nat) (K X : Nat → Nat → V) : ByteArray := if 20000 < (wrAll n u L K X).out.length then ⟨#[]⟩ else ⟨(wrAll n u L K X).out.toArray⟩
def FrzIs (e : Ending) (n : Nat) (u : V) (L : Nat → Nat) (K X : Nat → Nat → V) : Prop := (OkG n u L K X ∧ e = .returned (.string (frzS n u L K X))) ∨ (¬ OkG n u L K X ∧ e = .returned (.string ⟨#[]⟩))

theorem wrAll_len {n : Nat} {u : V} {L : Nat → Nat} {K X : Nat → Nat → V} (h : OkG n u L K X) (hr : Rgs n u L K X) : (wrAll n u L K X).out.length ≤ 100000000 := by
  have hp := plain_of_ok h hr
  have h1 := wr_len (K := K) h.len (good_of h) (fun r hrn => (h.all r hrn).len) (fun r hrn c hc => (hp.key r hrn c hc).1) hp.val (n + 1) (wat0 (L := L) (X := X) h.root) ⟨short_of h.root, hr.1⟩
  have h2 := (order_all h).1.len
  unfold order at h2
  have h3 := h.len
  have h4 : (frz (cntAll n u L X) L K X (n + 1) ft0 u).out.length ≤ 0 + 1502 + 400000 * ((met L X (n + 1) [] u).length - 0) := h1
  show (frz (cntAll n u L X) L K X (n + 1) ft0 u).out.length ≤ 100000000
  have h5 : 400000 * ((met L X (n + 1) [] u).length - 0) ≤ 400000 * 200 := Nat.mul_le_mul_left _ (by omega)
  exact Nat.le_trans h4 (Nat.le_trans (Nat.add_le_add_left h5 _) (by decide))

set_option maxHeartbeats 4000000 in
set_option maxRecDepth 100000 in
theorem implFreeze_any (u : V) (ta : Option Addr) (n cp TB TO : Nat) (A : Nat → Option Addr) (L C RB RO : Nat → Nat) (K X : Nat → Nat → V) (w : World) (hn : n ≤ 1048576) (HS : Hid (Small 1048576 n L K X)) (HT : Hid (TabsAt w ta n TB TO A L C RB RO K X)) (HTab : Hid (Tab w)) (HR : Hid (Rgs n u L K X)) :
    Calls Tryz.prog 7 #[.agg #[.int .i64 u.k, .int .i64 u.n, .string u.s, .int .i64 u.a, .slice ta n cp]] w fun e w' => FrzIs e n u L K X ∧ Below w.heap.size w w' := by
  obtain ⟨w0, hw0⟩ : ∃ w0, w0 = w.alloc (.cells #[.int .i64 u.k, .int .i64 u.n, .string u.s, .int .i64 u.a, .slice ta n cp] 27) := ⟨_, rfl⟩
  have H0 : Hid (Below w.heap.size w w0) := by rw [hw0]; exact below_alloc _ _
  have hlk := link_any u ta n cp TB TO A L C RB RO K X w0 hn HS (HT.out.below H0.out)
  go_enter Tryz.func7, Tryz.ntmps7
  go_wp2_with fail
  rw [← hw0]
  refine hlk.mono ?_
  clear hlk hw0
  rintro e w1 ⟨hcase, hb1⟩
  have H1 : Hid (Below w.heap.size w w1) := H0.out.trans (hb1.mono H0.out.size)
  clear hb1 H0
  rcases hcase with ⟨hG, rfl, base0, hH⟩ | ⟨hN, rfl⟩
  · have HG : Hid (OkG n u L K X) := hG
    have HH : Hid (Half w1 w0.heap.size n n base0 L K X) := hH
    obtain ⟨b, hb⟩ : ∃ b, w0.heap.size = b := ⟨_, rfl⟩
    rw [hb] at HH ⊢
    clear hG hH hb
    obtain ⟨xt, xy, hxv⟩ := ifv_form (tT b) u
    have HXV : Hid (ifv (tT b) u = .iface xt xy) := hxv
    rw [hxv]
    clear hxv
    obtain ⟨w2, hw2⟩ : ∃ w2, w2 = w1.alloc (.cells #[.iface xt xy, .slice (some ⟨b + 2, 0, none⟩) n n] 57) := ⟨_, rfl⟩
    have hb2 : Below w1.heap.size w1 w2 := by rw [hw2]; exact below_alloc _ _
    have H2 : Hid (Below w.heap.size w w2) := H1.out.trans (hb2.mono H1.out.size)
    have HT2 : Hid (Tbs w2 n (tT b) (tM b) (fun j => (j : Nat)) L K X) := (HH.out.tbs HG.out).below hb2
    have HL2 : Hid (w2.heap[w1.heap.size]? = some (.cells #[.iface xt xy, .slice (some ⟨b + 2, 0, none⟩) n n] 57 (0, 0))) := by rw [hw2]; exact heap_alloc_new w1 _
    have hs2 : w2.heap.size = w1.heap.size + 1 := by rw [hw2]; simp
    obtain ⟨w3, hw3⟩ : ∃ w3, w3 = (w2.alloc (.map #[] 0)).alloc (.cells #[.map (some w2.heap.size)] 62) := ⟨_, rfl⟩
    have A3 := alloc2 w2 (.map #[] 0) (.cells #[.map (some w2.heap.size)] 62)
    rw [← hw3] at A3
    obtain ⟨a1, a2, a3, a4⟩ := A3
    have HM3 : Hid (w3.heap[w2.heap.size]? = some (.map #[] 0)) := a1
    have HC3 : Hid (w3.heap[w2.heap.size + 1]? = some (.cells #[.map (some w2.heap.size)] 62 (0, 0))) := a2
    have HB3 : Hid (Below w2.heap.size w2 w3) := a4
    have hs3 : w3.heap.size = w2.heap.size + 2 := a3
    have HL3 : Hid (w3.heap[w1.heap.size]? = some (.cells #[.iface xt xy, .slice (some ⟨b + 2, 0, none⟩) n n] 57 (0, 0))) := blkB HL2.out a4
    clear a1 a2 a3 a4
    obtain ⟨QM, hQM⟩ : ∃ QM, w2.heap.size = QM := ⟨_, rfl⟩
    obtain ⟨LB, hLB⟩ : ∃ LB, w1.heap.size = LB := ⟨_, rfl⟩
    have hQ0 : w2.heap.size ≤ QM := by omega
    have HCt : Hid (CtW w2 w3 QM (tT b) [] (fun _ => 0)) := by
      rw [← hQM]
      exact ⟨⟨#[], 0, HM3.out, rfl⟩, HB3.out⟩
    have hcat := cat0 HG.out.len (good_of HG.out) (fun r hr => (HG.out.all r hr).len) HG.out.root
    have HCat : Hid _ := hcat
    rw [hQM] at hw3 HC3 hs3
    rw [hLB] at HL3
    rw [hw2] at hw3
    clear hcat HH hb2 HM3
    have HQS : Hid (LB + 1 = QM) := show _ = _ by omega
    have hmm := @run_makeMap Tryz.prog
    go_wp2_with fail
    rw [HQS.out, ← hw3]
    clear hw3 hw2 hmm
    have HS3 : Hid (w3.heap.size = QM + 2) := hs3
    have HZ2 : Hid (w2.heap.size = QM) := hQM
    clear hs3 hQM hLB hs2
    refine wp_region_held_drew (S := fun w' => w'.heap[QM + 1]? = some (.cells #[.map (some QM)] 62 (0, 0)) ∧ w'.heap[LB]? = some (.cells #[.iface xt xy, .slice (some ⟨b + 2, 0, none⟩) n n] 57 (0, 0))) (by kernel_rfl) ⟨HC3.out, HL3.out⟩ (fun hHeld => ?_)
    refine wpT (i := 0) (v := .agg #[.map (some QM)]) rfl (fun w hSw => ?_) hHeld ?_
    · have s1 := (one_at hSw.1).1
      first | rfl | go_simp
    simp only [Act.put, pz]
    refine wpT (i := 2) (v := .pointer (some ⟨LB, 0, none⟩)) rfl (fun w hSw => ?_) hHeld ?_
    · first | rfl | go_simp
    simp only [Act.put, pz]
    refine wpT (i := 3) (v := .iface xt xy) rfl (fun w hSw => ?_) hHeld ?_
    · have s1 := (two_at hSw.2).1
      first | rfl | go_simp
    simp only [Act.put, pz]
    refine wpAnyH_ready (rs := [1]) (by kernel_rfl) (by simp) ?_
    refine AllReadyH.cons rfl (fun K' hK' => ?_) AllReadyH.nil
    have hcv := cVisitor_any QM w3.drew
    go_simp
    refine hcv.mono ?_
    clear hcv
    rintro e w4 ⟨rfl, hb4⟩
    have HB4 : Hid (Below w3.drew.heap.size w3.drew w4) := hb4
    have HCt4 : Hid (CtW w2 w4 QM (tT b) [] (fun _ => 0)) := HCt.out.below ((Below.refl _ _).drew.trans hb4)
    have HC4 : Hid (w4.heap[QM + 1]? = some (.cells #[.map (some QM)] 62 (0, 0))) := blkB (w := w3.drew) HC3.out hb4
    have HL4 : Hid (w4.heap[LB]? = some (.cells #[.iface xt xy, .slice (some ⟨b + 2, 0, none⟩) n n] 57 (0, 0))) := blkB (w := w3.drew) HL3.out hb4
    refine hK'.out _ _ ⟨HC4.out, HL4.out⟩ (fun hHeld => ?_)
    clear hK' hb4
    refine wpAnyH_ready (rs := [4]) (by kernel_rfl) (by simp) ?_
    refine AllReadyH.cons rfl (fun K' hK' => ?_) AllReadyH.nil
    have hcall := cVisit_any n (tT b) (tM b) _ L K X w2 QM (show ∀ r, _ from fun r hr => (HG.out.all r hr).len) (good_of HG.out) HT2 hQ0 (n + 1) [] (fun _ => 0) u w4 HCat HCt4
    rw [HXV.out] at hcall
    go_simp
    refine hcall.mono ?_
    clear hcall
    rintro e w5 ⟨rfl, hW5, hO5⟩
    have HCt5 : Hid (CtW w2 w5 QM (tT b) (order n u L X) (cntAll n u L X)) := hW5
    have hqs := HQS.out
    have HC5 : Hid (w5.heap[QM + 1]? = some (.cells #[.map (some QM)] 62 (0, 0))) := (hO5.block _ (blk_lt HC4.out) (by omega)).trans HC4.out
    have HL5 : Hid (w5.heap[LB]? = some (.cells #[.iface xt xy, .slice (some ⟨b + 2, 0, none⟩) n n] 57 (0, 0))) := (hO5.block _ (blk_lt HL4.out) (by omega)).trans HL4.out
    refine hK'.out _ _ ⟨HC5.out, HL5.out⟩ (fun hHeld => ?_)
    clear hK' hHeld
    refine wpAnyH_done (by kernel_rfl) ?_ _
    have HZ5 : Hid (QM + 2 ≤ w5.heap.size) := show _ ≤ _ by have := HB4.out.size; have h1 := hO5.size; have h2 := HS3.out; have h3 : w3.drew.heap.size = w3.heap.size := rfl; omega
    have HB5 : Hid (Below w.heap.size w w5) := H2.out.trans (HCt5.out.bel.mono H2.out.size)
    have HT5 : Hid (Tbs w5 n (tT b) (tM b) (fun j => (j : Nat)) L K X) := by
      have h1 : Only (fun k => k = QM) w2 w5 := ((Only.below HB3.out).trans ((Only.below (Below.refl _ _).drew).trans (Only.below HB4.out))).trans hO5
      exact HT2.out.only h1 (fun k hk e => by have := HZ2.out; omega)
    clear hW5 hO5
    obtain ⟨WB, hWB⟩ : ∃ WB, w5.heap.size + 1 = WB := ⟨_, rfl⟩
    obtain ⟨LM, hLM⟩ : ∃ LM, w5.heap.size = LM := ⟨_, rfl⟩
    obtain ⟨w6, hw6⟩ : ∃ w6, w6 = (w5.alloc (.map #[] 0)).alloc (.cells #[.map (some QM), .map (some LM), .pointer none, .slice none 0 0] 74) := ⟨_, rfl⟩
    have A6 := alloc2 w5 (.map #[] 0) (.cells #[.map (some QM), .map (some LM), .pointer none, .slice none 0 0] 74)
    rw [← hw6] at A6
    obtain ⟨a1, a2, a3, a4⟩ := A6
    rw [hWB] at a2
    rw [hLM] at a1
    have HB6 : Hid (Below w5.heap.size w5 w6) := a4
    have HWrB : Hid (WrB w5 WB QM LM (WB + 1)) := by have h1 := HZ5.out; exact ⟨by omega, by omega, by omega, by omega, by omega, by omega, by omega, by omega⟩
    have HEnv : Hid (Env w5 n (tT b) (tM b) (fun j => (j : Nat)) L K X WB QM LM (WB + 1) (order n u L X) (cntAll n u L X)) := ⟨HG.out.len, fun r hr => (HG.out.all r hr).len, good_of HG.out, HT5.out, HWrB.out, plain_of_ok HG.out HR.out, fun w' hb' => HTab.out w' (HB5.out.trans (hb'.mono HB5.out.size)), (order_all HG.out).1, led_cnt (n + 1) u led_nil, HCat.out.le⟩
    have HWt6 : Hid (WtW w5 w6 WB QM LM (WB + 1) n (tT b) (order n u L X) (cntAll n u L X) ft0 (.slice none 0 0)) :=
      ⟨⟨⟨.pointer none, Or.inl rfl, a2⟩, World.ownsRow_nil _ _ _ _⟩, HCt5.out.map.same (a4.block _ HCt5.out.map.lt), ⟨[], Fit.nil n, fun i => by simp [ft0], rfl, ⟨#[], 0, a1, rfl⟩⟩, a4⟩
    have HL6 : Hid (w6.heap[LB]? = some (.cells #[.iface xt xy, .slice (some ⟨b + 2, 0, none⟩) n n] 57 (0, 0))) := blkB HL5.out a4
    have HZ6 : Hid (w6.heap.size = WB + 1) := show _ = _ by omega
    have x5 := (one_at HC5.out).1
    have x5' : ∀ o, (w5.alloc o).cell? ⟨QM + 1, 0, none⟩ = some (.map (some QM)) := fun o => ((below_alloc w5 o).cell (p := ⟨QM + 1, 0, none⟩) (blk_lt HC5.out)).trans x5
    have hmm := @run_makeMap Tryz.prog
    have HWL : Hid (LM + 1 = WB) := show _ = _ by omega
    clear a1 a2 a3 a4 hqs
    go_wp2_with fail
    rw [HWL.out, ← hw6]
    clear hw6 hmm x5 x5' hWB hLM
    refine wp_region_held_drew (S := fun w' => w'.heap[LB]? = some (.cells #[.iface xt xy, .slice (some ⟨b + 2, 0, none⟩) n n] 57 (0, 0))) (by kernel_rfl) HL6.out (fun hHeld => ?_)
    refine wpT (i := 0) (v := .pointer (some ⟨WB, 0, none⟩)) rfl (fun w hSw => ?_) hHeld ?_
    · first | rfl | go_simp
    simp only [Act.put, pz]
    refine wpT (i := 2) (v := .pointer (some ⟨LB, 0, none⟩)) rfl (fun w hSw => ?_) hHeld ?_
    · first | rfl | go_simp
    simp only [Act.put, pz]
    refine wpT (i := 3) (v := .iface xt xy) rfl (fun w hSw => ?_) hHeld ?_
    · have s1 := (two_at hSw).1
      first | rfl | go_simp
    simp only [Act.put, pz]
    refine wpAnyH_ready (rs := [1]) (by kernel_rfl) (by simp) ?_
    refine AllReadyH.cons rfl (fun K' hK' => ?_) AllReadyH.nil
    have hcv := wVisitor_any WB w6.drew
    go_simp
    refine hcv.mono ?_
    clear hcv
    rintro e w7 ⟨rfl, hb7⟩
    have HB7 : Hid (Below w6.drew.heap.size w6.drew w7) := hb7
    have HWt7 : Hid (WtW w5 w7 WB QM LM (WB + 1) n (tT b) (order n u L X) (cntAll n u L X) ft0 (.slice none 0 0)) := HWt6.out.below ((Below.refl _ _).drew.trans hb7)
    have HL7 : Hid (w7.heap[LB]? = some (.cells #[.iface xt xy, .slice (some ⟨b + 2, 0, none⟩) n n] 57 (0, 0))) := blkB (w := w6.drew) HL6.out hb7
    refine hK'.out _ _ HL7.out (fun hHeld => ?_)
    clear hK' hb7
    refine wpAnyH_ready (rs := [4]) (by kernel_rfl) (by simp) ?_
    refine AllReadyH.cons rfl (fun K' hK' => ?_) AllReadyH.nil
    have hz7 : WB + 1 ≤ w7.heap.size := by have := HB7.out.size; have h2 := HZ6.out; have h3 : w6.drew.heap.size = w6.heap.size := rfl; omega
    have hcall := wVisit_any w5 n (tT b) (tM b) (fun j => (j : Nat)) L K X WB QM LM (WB + 1) (order n u L X) (cntAll n u L X) HEnv (n + 1) [] (fun _ => 0) ft0 u w7 (.slice none 0 0) (wat0 HG.out.root) ⟨short_of HG.out.root, HR.out.1⟩ (wrAll_len HG.out HR.out) hz7 HWt7
    rw [HXV.out] at hcall
    go_simp
    refine hcall.mono ?_
    clear hcall
    rintro e w8 ⟨rfl, b8, hW8, hF8⟩
    have HL8 : Hid (w8.heap[LB]? = some (.cells #[.iface xt xy, .slice (some ⟨b + 2, 0, none⟩) n n] 57 (0, 0))) := hF8.blk HL7.out (by have := HQS.out; have := HZ5.out; have := HWL.out; have := HCt5.out.map.lt; have := HWrB.out.wb; omega) (by have := HQS.out; have := HZ5.out; have := HWrB.out.lm; omega) (by simp [Value.ownBlock])
    refine hK'.out _ _ HL8.out (fun hHeld => ?_)
    clear hK' hHeld
    refine wpAnyH_done (by kernel_rfl) ?_ _
    obtain ⟨o, ho1, ho2, ho3, ho4⟩ := hW8.st
    have HO1 : Hid (WrS w8 WB QM LM (WB + 1) b8 o) := ho1
    have HO2 : Hid (Below w5.heap.size w5 w8) := ho2
    have HB8 : Hid (Below w.heap.size w w8) := HB5.out.trans (ho2.mono HB5.out.size)
    have htl := tooLong_any WB QM LM (WB + 1) b8 o w8 HO1
    have ho3' : o.length ≤ (wrAll n u L K X).out.length := ho3
    clear hW8 hF8 ho1 ho2 ho3
    by_cases hlong : 20000 < o.length
    · rw [decide_eq_true hlong] at htl
      have HFin : Hid (FrzIs (.returned (.string ⟨#[]⟩)) n u L K X) := by
        refine Or.inl ⟨HG.out, ?_⟩
        unfold frzS
        rw [if_pos (by omega)]
      clear hlong ho4 ho3'
      go_wp2_with (go_at_call 27; refine htl.mono ?_; rintro e w' ⟨rfl, rfl⟩)
      go_ret
      exact ⟨HFin.out, HB8.out⟩
    · rw [decide_eq_false hlong] at htl
      have hoe : o = (wrAll n u L K X).out := (ho4.resolve_left hlong).2
      have hne : o ≠ [] := fun e => by
        have := frz_pos (Q := cntAll n u L X) (L := L) (K := K) (X := X) n ft0 u
        have h2 : 0 < (wrAll n u L K X).out.length := this
        rw [← hoe, e] at h2
        simp at h2
      have HFin : Hid (FrzIs (.returned (.string ⟨o.toArray⟩)) n u L K X) := by
        refine Or.inl ⟨HG.out, ?_⟩
        unfold frzS
        rw [if_neg (by rw [← hoe]; exact hlong), ← hoe]
      have hst := bString_any WB QM LM (WB + 1) b8 o hne w8 w HB8.out (by have := HB5.out.size; have := HWrB.out.wb; omega) HO1
      clear hlong ho4 ho3' hoe hne
      go_wp2_with (first | (go_at_call 27; refine htl.mono ?_; rintro e w' ⟨rfl, rfl⟩) | (go_at_call 28; refine hst.mono ?_; rintro e w' ⟨rfl, hb'⟩))
      have HBF : Hid _ := hb'
      clear hst htl hb'
      go_wp2
      go_ret
      exact ⟨HFin.out, HBF.out⟩
  · have HN : Hid (¬ OkG n u L K X) := hN
    clear hN
    have HB2 : Hid (Below w.heap.size w (w1.alloc (.cells #[.nilIface, .slice none 0 0] 57))) := H1.out.trans ((below_alloc _ _).mono H1.out.size)
    go_wp2
    go_ret
    exact ⟨Or.inr ⟨HN.out, rfl⟩, HB2.out⟩

end Go.Proofs.YtgflalfiopnmnaaGreatDoor

namespace Go.Proofs.YtgflalfiopnmnaaGreatDoor
open Vl

section
variable {n : Nat} {L L' : Nat → Nat} {K X K' X' : Nat → Nat → V}
theorem cnt_same (hg : Good n L X) (hl : ∀ r, r < n → L r = L' r) (hx : ∀ r, r < n → ∀ c, c < L r → X r c = X' r c) : ∀ (f : Nat) (Q : Nat → Nat) (v : V), isV n v = true → cnt L X f Q v = cnt L' X' f Q v
  | 0, _, _, _ => rfl
  | f + 1, Q, v, hv => by
    by_cases h4 : v.k = 4
    · obtain ⟨a0, a1⟩ := isV_tab hv h4
      have hr : v.a.toNat < n := by omega
      by_cases h0 : Q v.a.toNat = 0
      · rw [cnt_new h4 h0, cnt_new h4 h0, ← hl _ hr]
        have key : ∀ c Q, c ≤ L v.a.toNat → cnts L X f Q (X v.a.toNat) c = cnts L' X' f Q (X' v.a.toNat) c := by
          intro c
          induction c with
          | zero => intro Q _; rfl
          | succ c ih =>
            intro Q hc
            rw [cnts_succ, cnts_succ, ih Q (by omega), ← hx _ hr c (by omega)]
            exact cnt_same hg hl hx f _ _ (hg _ hr c (by omega))
        exact key _ _ (Nat.le_refl _)
      · rw [cnt_old h4 h0, cnt_old h4 h0]
    · rw [cnt_no h4, cnt_no h4]

theorem frz_same {Q : Nat → Nat} (hg : Good n L X) (hl : ∀ r, r < n → L r = L' r) (hk : ∀ r, r < n → ∀ c, c < L r → K r c = K' r c) (hx : ∀ r, r < n → ∀ c, c < L r → X r c = X' r c) : ∀ (f : Nat) (t : Ft) (v : V), isV n v = true → frz Q L K X f t v = frz Q L' K' X' f t v
  | 0, _, _, _ => rfl
  | f + 1, t, v, hv => by
    by_cases h4 : v.k = 4
    · obtain ⟨a0, a1⟩ := isV_tab hv h4
      have hr : v.a.toNat < n := by omega
      by_cases h0 : t.lab v.a.toNat = 0
      · rw [wr_new h4 h0, wr_new h4 h0, ← hl _ hr]
        have key : ∀ c t, c ≤ L v.a.toNat → wrs Q L K X f t v.a.toNat c = wrs Q L' K' X' f t v.a.toNat c := by
          intro c
          induction c with
          | zero => intro t _; rfl
          | succ c ih =>
            intro t hc
            have ek : keyT (K v.a.toNat) c = keyT (K' v.a.toNat) c := by unfold keyT; rw [hk _ hr c (by omega)]
            rw [wrs_succ, wrs_succ, ih t (by omega), ← hx _ hr c (by omega), ek]
            exact frz_same hg hl hk hx f _ _ (hg _ hr c (by omega))
        rw [key _ _ (Nat.le_refl _)]
      · rw [wr_old h4 (by omega), wr_old h4 (by omega)]
    · rw [wr_no h4, wr_no h4]
end

theorem frzS_one {s t : Gr} (hs : Shk s) (ht : Shk t) (h : SameG s t) : frzS s.n s.u s.L s.K s.X = frzS t.n t.u t.L t.K t.X := by
  obtain ⟨e1, e2, e3⟩ := shk_one hs ht h
  have hl : ∀ r, r < s.n → s.L r = t.L r := fun r hr => (e3 r hr).1
  have hk : ∀ r, r < s.n → ∀ c, c < s.L r → s.K r c = t.K r c := fun r hr c hc => ((e3 r hr).2 c hc).1
  have hx : ∀ r, r < s.n → ∀ c, c < s.L r → s.X r c = t.X r c := fun r hr c hc => ((e3 r hr).2 c hc).2
  have ew : wrAll s.n s.u s.L s.K s.X = wrAll t.n t.u t.L t.K t.X := by
    unfold wrAll cntAll
    rw [cnt_same (good_of hs.ok) hl hx _ _ _ hs.ok.root, frz_same (good_of hs.ok) hl hk hx _ _ _ hs.ok.root, e1, e2]
  unfold frzS
  rw [ew]

theorem same_iff_text {s t : Gr} (hs : Shk s) (ht : Shk t) (h1 : (frzS s.n s.u s.L s.K s.X).toList ≠ []) (h2 : (frzS t.n t.u t.L t.K t.X).toList ≠ []) : SameG s t ↔ (frzS s.n s.u s.L s.K s.X).toList = (frzS t.n t.u t.L t.K t.X).toList := by
  constructor
  · intro h
    rw [frzS_one hs ht h]
  · intro h
    refine text_same hs ht ?_
    unfold frzS at h h1 h2
    split at h
    · rename_i hh
      rw [if_pos hh] at h1
      exact absurd (by simp) h1
    · split at h
      · rename_i hh
        rw [if_pos hh] at h2
        exact absurd (by simp) h2
      · simpa using h

end Go.Proofs.YtgflalfiopnmnaaGreatDoor

namespace Go.Proofs.YtgflalfiopnmnaaGreatDoor.Aw
open Vl

end Go.Proofs.YtgflalfiopnmnaaGreatDoor.Aw

namespace Go.Proofs.YtgflalfiopnmnaaGreatDoor
open Go.RowKit Vl

theorem keyCells_snoc (ks : List V) (v : V) : keyCells (ks ++ [v]) = keyCells ks ++ [.int .i64 v.k, .int .i64 v.n, .string v.s, .int .i64 v.a] := by simp [keyCells]
def lsF (ps : List V) (j : Nat) : V := ps.getD j zeroV
theorem keys_lsF (ps : List V) : keys (lsF ps) ps.length = ps :=
  List.ext_getElem (by simp [keys]) (fun i h1 h2 => by simp [keys, lsF, List.getD_eq_getElem?_getD, List.getElem?_eq_getElem h2])
def RowV (w : World) (v : Value) (ps : List V) : Prop := ∃ pa cp B, v = .slice pa ps.length cp ∧ ValsAt w pa ps.length B 0 (lsF ps)
theorem owns_rowV {w : World} {base n : Nat} {v : Value} {ps : List V} (hn : ps.length = n) (h : w.ownsRow base 24 4 v n (keyCells ps)) : RowV w v ps := by
  subst hn
  have h2 : w.ownsRow base 24 4 v ps.length (keyCells (keys (lsF ps) ps.length)) := by rw [keys_lsF]; exact h
  obtain ⟨e, hv⟩ := owns_keys h2
  exact ⟨_, _, _, e, hv⟩

end Go.Proofs.YtgflalfiopnmnaaGreatDoor

namespace Go.Proofs.YtgflalfiopnmnaaGreatDoor
open Go.RowKit Vl

structure BTab (w : World) (base : Nat) (tv : Value) (n i : Nat) (PV : Nat → Value) (L : Nat → Nat) (K X : Nat → Nat → V) : Prop where
  own : w.ownsRow base 37 1 tv (n + i) ((List.range (n + i)).map PV)
  rows : ∀ j, j < i → w.ownsRow base 39 8 (PV (n + j)) (L j) (pairCells (K j) (X j) (L j))

theorem BTab.below {w w' : World} {base : Nat} {tv : Value} {n i : Nat} {PV : Nat → Value} {L : Nat → Nat} {K X : Nat → Nat → V} (h : BTab w base tv n i PV L K X) (hb : Below w.heap.size w w') : BTab w' base tv n i PV L K X :=
  ⟨(Only.below (P := fun _ => False) hb).owns h.own (fun _ _ _ h => h), fun j hj => (Only.below (P := fun _ => False) hb).owns (h.rows j hj) (fun _ _ _ h => h)⟩

theorem BTab.more {w w1 : World} {base : Nat} {tv tv' pv : Value} {n i : Nat} {PV : Nat → Value} {L : Nat → Nat} {K X : Nat → Nat → V} (h : BTab w base tv n i PV L K X) (hp : w.ownsRow base 39 8 pv (L i) (pairCells (K i) (X i) (L i))) (o : Obj) (hbz : base ≤ w.heap.size)
    (ho : w1.ownsRow base 37 1 tv' (n + i + 1) (((List.range (n + i)).map PV) ++ [pv])) (hg : (w.alloc o).grownBy w1 tv.ownBlock) :
    BTab w1 base tv' n (i + 1) (fun j => if j = n + i then pv else PV j) L K X ∧ Below base w w1 := by
  have keep : ∀ v n xs, w.ownsRow base 39 8 v n xs → w1.ownsRow base 39 8 v n xs := fun v n xs hr => by
    refine ⟨hr.1, ?_⟩
    rcases hr.2 with h2 | ⟨g, cap, cur, hv, hge, hh, r⟩
    · exact Or.inl h2
    · refine Or.inr ⟨g, cap, cur, hv, hge, ?_, r⟩
      rw [hg.block g (by have := lt_of_block hh; simp; omega) (fun e => ?_), Below.heap_alloc _ _ _ (lt_of_block hh)]
      · exact hh
      · obtain ⟨_, cur', h'⟩ := owns_type h.own e.symm
        rw [hh] at h'
        cases h'
  refine ⟨⟨?_, fun j hj => ?_⟩, ?_⟩
  · have e : ((List.range (n + i + 1)).map fun j => if j = n + i then pv else PV j) = ((List.range (n + i)).map PV) ++ [pv] := by
      rw [List.range_succ, List.map_append]
      congr 1
      · apply List.map_congr_left
        intro j hj
        have := List.mem_range.1 hj
        simp [show ¬ j = n + i by omega]
      · simp
    show w1.ownsRow base _ 1 tv' (n + i + 1) ((List.range (n + i + 1)).map _)
    rw [e]; exact ho
  · by_cases e : j = i
    · subst e; simp only [if_true]; exact keep _ _ _ hp
    · simp only [show ¬ n + j = n + i by omega, if_false]; exact keep _ _ _ (h.rows j (by omega))
  · refine ⟨hg.os, hg.tape, hg.output, by have := hg.size; simp at this; omega, fun k hk => ?_⟩
    rw [hg.block k (by simp; omega) (fun e => ?_), Below.heap_alloc _ _ _ (by omega)]
    have := (owns_type h.own e.symm).1
    omega

theorem BTab.tabs {w : World} {base : Nat} {tv : Value} {ta : Option Addr} {n i TB TO : Nat} {PV : Nat → Value} {A : Nat → Option Addr} {L L' C RB RO : Nat → Nat} {K X K' X' : Nat → Nat → V} (h : BTab w base tv n i PV L' K' X') (hT : TabsAt w ta n TB TO A L C RB RO K X) (hP : ∀ j, j < n → PV j = .slice (A j) (L j) (C j)) :
    tv = .slice (slA tv) (n + i) (slC tv) ∧ TabsAt w (slA tv) (n + i) (slB tv) 0 (fun j => slA (PV j)) (jn n L L') (fun j => slC (PV j)) (jn n RB (fun j => slB (PV (n + j)))) (jn n RO (fun _ => 0)) (jn n K K') (jn n X X') := by
  have hrow : ∀ r, r < n + i → PV r = .slice (slA (PV r)) (jn n L L' r) (slC (PV r)) ∧ PairsAt w (slA (PV r)) (jn n L L' r) (jn n RB (fun j => slB (PV (n + j))) r) (jn n RO (fun _ => 0) r) (jn n K K' r) (jn n X X' r) := fun r hr => by
    by_cases e : r < n
    · simp only [jn_lt e]
      rw [hP r e]
      exact ⟨rfl, hT.row r e⟩
    · simp only [jn_ge e]
      have := owns_pairs (h.rows (r - n) (by omega))
      rw [show n + (r - n) = r by omega] at this ⊢
      exact this
  refine ⟨by obtain ⟨oa, oc, rfl, _⟩ := owns_form h.own; rfl, fun h0 => ?_, fun r hr => ?_, fun r hr => (hrow r hr).2⟩
  · obtain ⟨g, cap, rfl, _⟩ := owns_cell h.own (k := 0) (y := PV 0) (by simp [h0])
    rfl
  · obtain ⟨g, cap, rfl, hc⟩ := owns_cell h.own (k := r) (y := PV r) (by simp [hr])
    rw [Nat.zero_add]
    rw [← (hrow r hr).1]
    exact hc

end Go.Proofs.YtgflalfiopnmnaaGreatDoor

namespace Go.Proofs.YtgflalfiopnmnaaGreatDoor
open Go.RowKit Vl

structure InB (w2 wq : World) (xb : Nat) (pv : Value) (c : Nat) (K X : Nat → V) : Prop where
  out : wq.heap[xb]? = some (.cells #[pv] 37 (0, 0))
  row : wq.ownsRow w2.heap.size 39 8 pv c (pairCells K X c)
  only : Only (fun k => k = xb) w2 wq

theorem InB.more {w2 wq w6 : World} {xb g cap c : Nat} {pv : Value} {K X : Nat → V} {o1 o2 : Obj} (h : InB w2 wq xb pv c K X) (hx : xb < w2.heap.size) (hgrow : ((wq.alloc o1).alloc o2).grownBy w6 pv.ownBlock)
    (hown : w6.ownsRow w2.heap.size 39 8 (.slice (some ⟨g, 0, none⟩) (c + 1) cap) (c + 1) (pairCells K X c ++ [.int .i64 (K c).k, .int .i64 (K c).n, .string (K c).s, .int .i64 (K c).a, .int .i64 (X c).k, .int .i64 (X c).n, .string (X c).s, .int .i64 (X c).a])) :
    (w6.cell? ⟨xb, 0, none⟩ = some pv ∧ w6.frozen? ⟨xb, 0, none⟩ = false) ∧ InB w2 (w6.setCell ⟨xb, 0, none⟩ (.slice (some ⟨g, 0, none⟩) (c + 1) cap)) xb (.slice (some ⟨g, 0, none⟩) (c + 1) cap) (c + 1) K X := by
  obtain ⟨_, _, _, hk⟩ := owns_form h.row
  have hs := h.only.size
  have hbl : ∀ k, k < wq.heap.size → pv.ownBlock ≠ some k → w6.heap[k]? = wq.heap[k]? := fun k hk hne =>
    ((hgrow.block k (by simp; omega) (fun e => hne e.symm)).trans (Below.heap_alloc _ o2 k (by simp; omega))).trans (Below.heap_alloc wq o1 k hk)
  have n1 : pv.ownBlock ≠ some xb := fun e => by have := (hk _ e).1; omega
  have h6 : w6.heap[xb]? = some (.cells #[pv] 37 (0, 0)) := (hbl xb (by omega) n1).trans h.out
  have hsz : wq.heap.size ≤ w6.heap.size := by have := hgrow.size; simp at this; omega
  have ho : Only (fun k => k = xb) w2 w6 := ⟨hgrow.os.trans h.only.os, hgrow.tape.trans h.only.tape, hgrow.output.trans h.only.output, by omega, fun k hk' hp => (hbl k (by omega) (fun e => by have := (hk _ e).1; omega)).trans (h.only.block k hk' hp)⟩
  obtain ⟨c0, cz⟩ := one_at h6
  refine ⟨⟨c0, cz 0⟩, one_put h6 _, ?_, ho.set rfl _⟩
  rw [pairCells_succ]
  exact owns_setC hown (p := ⟨xb, 0, none⟩) hx _

end Go.Proofs.YtgflalfiopnmnaaGreatDoor

namespace Go.Proofs.YtgflalfiopnmnaaGreatDoor
open Go.RowKit Vl Aw

def e0 : Aw.E := ⟨zeroV, zeroV, []⟩
def lsE (l : List Aw.E) (j : Nat) : Aw.E := l.getD j e0
theorem lsE_at {l : List Aw.E} {j : Nat} (h : j < l.length) : l[j]? = some (lsE l j) := by
  unfold lsE
  rw [List.getD_eq_getElem?_getD, List.getElem?_eq_getElem h]
  rfl
theorem lsE_old {l : List Aw.E} {e : Aw.E} {j : Nat} (h : j < l.length) : lsE (l ++ [e]) j = lsE l j := by
  unfold lsE
  rw [List.getD_eq_getElem?_getD, List.getD_eq_getElem?_getD, List.getElem?_append_left h]
theorem lsE_new (l : List Aw.E) (e : Aw.E) : lsE (l ++ [e]) l.length = e := by
  unfold lsE
  simp [List.getD_eq_getElem?_getD]

end Go.Proofs.YtgflalfiopnmnaaGreatDoor

namespace Go.Proofs.YtgflalfiopnmnaaGreatDoor
open Go.RowKit Vl Aw

def pOf (T : Nat → Nat) (x : V) : Option Addr := if x.k = 4 then some ⟨T x.a.toNat, 0, none⟩ else none
theorem assert_any {n : Nat} {v : V} (hv : isV n v = true) (T : Nat → Nat) (w : World) : (Instr.typeAssert (ifv T v) 54 107 true).run Tryz.prog w = .ok (.tuple #[.pointer (pOf T v), .bool (v.k == 4)]) w := by
  by_cases h4 : v.k = 4
  · rw [ifv_tab h4, assert_yes]
    unfold pOf
    rw [if_pos h4]
    simp [h4]
  · rw [assert_no hv h4]
    unfold pOf
    rw [if_neg h4]
    simp [h4]

set_option maxHeartbeats 1000000 in
theorem coupleOf_any (T : Nat → Nat) {n : Nat} {x y : V} (hx : isV n x = true) (hy : isV n y = true) (w : World) :
    Calls Tryz.prog 74 #[ifv T x, ifv T y] w fun e w' => e = .returned (.tuple #[.agg #[.pointer (pOf T x), .pointer (pOf T y)], .bool (x.k == 4 && y.k == 4)]) ∧ Below w.heap.size w w' := by
  have a1 := assert_any hx T
  have a2 := assert_any hy T
  obtain ⟨xt, xv, hxv⟩ := ifv_form T x
  obtain ⟨yt, yv, hyv⟩ := ifv_form T y
  rw [hxv] at a1 ⊢
  rw [hyv] at a2 ⊢
  obtain ⟨px, hpx⟩ : ∃ p, pOf T x = p := ⟨_, rfl⟩
  obtain ⟨py, hpy⟩ : ∃ p, pOf T y = p := ⟨_, rfl⟩
  obtain ⟨bx, hbx⟩ : ∃ b, (x.k == 4) = b := ⟨_, rfl⟩
  obtain ⟨b2, hb2⟩ : ∃ b, (y.k == 4) = b := ⟨_, rfl⟩
  rw [hpx, hbx] at a1
  rw [hpy, hb2] at a2
  rw [hpx, hpy, hbx, hb2]
  clear hpx hpy hbx hb2 hxv hyv hx hy
  have HB : Hid (Below w.heap.size w (w.alloc (.cells #[.pointer px, .pointer py] 109))) := (Below.refl _ _).alloc (Nat.le_refl _) _
  obtain ⟨q0, q1, _⟩ := two_at (heap_alloc_new w (.cells #[.pointer px, .pointer py] 109))
  cases bx <;> cases b2
  all_goals
    go_enter Tryz.func74, Tryz.ntmps74
    go_wp2
    refine bodyPost_ret (v := .tuple #[.agg #[.pointer px, .pointer py], .bool _]) (by simp [results, Tryz.results74, go_sem, q0, q1]) rfl ⟨rfl, HB.out⟩

theorem neq_of_eql {P : Program} {t tx ty : TypeId} {vx vy : Value} {w : World} {b : Bool} (h : (binOp .eql t (.iface tx vx) (.iface ty vy)).run P w = .ok (.bool b) w) : (binOp .neq t (.iface tx vx) (.iface ty vy)).run P w = .ok (.bool (!b)) w := by
  have e1 : binOp .eql t (.iface tx vx) (.iface ty vy) = (do pure (.bool (← Op.equal t (.iface tx vx) (.iface ty vy)))) := rfl
  have e2 : binOp .neq t (.iface tx vx) (.iface ty vy) = (do pure (.bool (!(← Op.equal t (.iface tx vx) (.iface ty vy))))) := rfl
  rw [e1, Sem.run_bind] at h
  rw [e2, Sem.run_bind]
  generalize (Op.equal t (.iface tx vx) (.iface ty vy)).run P w = r at h ⊢
  cases r <;> simp [Result.andThen] at h ⊢
  exact h

theorem neq_ifv (T : Nat → Nat) {n : Nat} {x y : V} (hx : isV n x = true) (hy : isV n y = true) (w : World) (hT : ∀ j, j < n → ∃ cs t, w.heap[T j]? = some (.cells cs t (0, 0))) :
    (binOp .neq 54 (ifv T x) (ifv T y)).run Tryz.prog w = .ok (.bool (!(alike T x y))) w := by
  have h := eql_ifv T hx hy w hT
  obtain ⟨xt, xv, hxv⟩ := ifv_form T x
  obtain ⟨yt, yv, hyv⟩ := ifv_form T y
  rw [hxv, hyv] at h ⊢
  exact neq_of_eql h

set_option maxHeartbeats 1000000 in
theorem part_any (T : Nat → Nat) {n : Nat} {x y : V} (hx : isV n x = true) (hy : isV n y = true) (w : World) (hT : ∀ j, j < n → ∃ cs t, w.heap[T j]? = some (.cells cs t (0, 0))) :
    Calls Tryz.prog 78 #[ifv T x, ifv T y] w fun e w' => e = .returned (.bool (!(x.k == 4 && y.k == 4) && !(alike T x y))) ∧ Below w.heap.size w w' := by
  have hcp := coupleOf_any T hx hy w
  have HNQ : Hid (∀ w', Below w.heap.size w w' → (binOp .neq 54 (ifv T x) (ifv T y)).run Tryz.prog w' = .ok (.bool (!(alike T x y))) w') := show ∀ _, _ from fun w' hb => neq_ifv T hx hy w' (fun j hj => by
    obtain ⟨cs, t, h⟩ := hT j hj
    exact ⟨cs, t, (hb.block _ (blk_lt h)).trans h⟩)
  obtain ⟨xt, xv, hxv⟩ := ifv_form T x
  obtain ⟨yt, yv, hyv⟩ := ifv_form T y
  rw [hxv, hyv] at hcp HNQ ⊢
  obtain ⟨bb, hbb⟩ : ∃ b, (x.k == 4 && y.k == 4) = b := ⟨_, rfl⟩
  obtain ⟨ba, hba⟩ : ∃ b, alike T x y = b := ⟨_, rfl⟩
  obtain ⟨px, hpx⟩ : ∃ p, pOf T x = p := ⟨_, rfl⟩
  obtain ⟨py, hpy⟩ : ∃ p, pOf T y = p := ⟨_, rfl⟩
  rw [hpx, hpy, hbb] at hcp
  rw [hba] at HNQ
  rw [hbb, hba]
  clear hpx hpy hbb hba hxv hyv hx hy hT
  go_enter Tryz.func78, Tryz.ntmps78
  go_wp2_with fail
  refine hcp.mono ?_
  clear hcp
  rintro e w1 ⟨rfl, hb1⟩
  have HB1 : Hid (Below w.heap.size w (w1.alloc (.cells #[.pointer px, .pointer py] 109))) := hb1.alloc hb1.size _
  have hnq := HNQ.out _ HB1.out
  clear hb1
  cases bb <;> cases ba
  all_goals
    go_wp2
    go_ret
    exact ⟨rfl, HB1.out⟩

set_option maxHeartbeats 1000000 in
set_option maxRecDepth 100000 in
theorem valueAt_map (T M : Nat) (i : Int) (ord R : Value) (l : List (V × Value)) (k : V) (w : World) (HT : Hid (TabB w T M i ord)) (HM : Hid (MapIs w M l)) (HR : Hid ((findV k l).getD (.iface 180 (.agg #[])) = R)) :
    Calls Tryz.prog 79 #[.iface 107 (.pointer (some ⟨T, 0, none⟩)), .agg #[.int .i64 k.k, .int .i64 k.n, .string k.s, .int .i64 k.a]] w fun e w' => e = .returned R ∧ Below w.heap.size w w' := by
  obtain ⟨w0, hw0⟩ : ∃ w0, w0 = w.alloc (.cells #[.int .i64 k.k, .int .i64 k.n, .string k.s, .int .i64 k.a] 24) := ⟨_, rfl⟩
  have HB : Hid (Below w.heap.size w w0) := by rw [hw0]; exact (Below.refl _ _).alloc (Nat.le_refl _) _
  have HK : Hid (ValB w0 w.heap.size k) := by rw [hw0]; exact heap_alloc_new _ _
  have HT0 : Hid (TabB w0 T M i ord) := (HB.out.block T (blk_lt HT.out)).trans HT.out
  have HM0 : Hid (MapIs w0 M l) := HM.out.same (HB.out.block M HM.out.lt)
  have hta : ∀ w, (Instr.typeAssert (.iface 107 (.pointer (some ⟨T, 0, none⟩))) 54 107 true).run Tryz.prog w = .ok (.tuple #[.pointer (some ⟨T, 0, none⟩), .bool true]) w := fun _ => by kernel_rfl
  have hhk := hasKey_any T M i ord l k w0 HT0 HM0
  obtain ⟨c0, c1, c2, c3, _⟩ := cells4 HK.out
  rw [hw0] at c0 c1 c2 c3
  go_enter Tryz.func79, Tryz.ntmps79
  go_wp2_with fail
  rw [← hw0]
  refine hhk.mono ?_
  clear hhk hw0 c0 c1 c2 c3
  rintro e w1 ⟨rfl, hb1⟩
  have HT1 : Hid (TabB w1 T M i ord) := (hb1.block T (blk_lt HT0.out)).trans HT0.out
  have HM1 : Hid (MapIs w1 M l) := HM0.out.same (hb1.block M HM0.out.lt)
  have HK1 : Hid (ValB w1 w.heap.size k) := HK.out.below hb1
  have HB1 : Hid (Below w.heap.size w w1) := grw HB.out hb1
  clear hb1 HT0 HM0 HK HB HT HM
  cases hf : findV k l with
  | none =>
    rw [hf] at HR
    have HR' : Hid (R = .iface 180 (.agg #[])) := HR.out.symm
    clear HR hf
    go_wp2
    go_ret
    exact ⟨by rw [HR'.out]; rfl, HB1.out⟩
  | some x =>
    rw [hf] at HR
    have HR' : Hid (R = x) := HR.out.symm
    have m1 : (Instr.lookup 119 (.map (some M)) (.agg #[.int .i64 k.k, .int .i64 k.n, .string k.s, .int .i64 k.a]) false).run Tryz.prog w1.drew = .ok x w1.drew := by
      have := ((show MapIs w1.drew M l from HM1.out).lookup k).2
      rw [hf] at this
      exact this
    clear HR hf
    obtain ⟨_, t1, _, _⟩ := HT1.out.cells
    obtain ⟨c0, c1, c2, c3, _⟩ := cells4 HK1.out
    go_wp2
    go_region_held3 (fun w' => w'.cell? ⟨T, 1, none⟩ = some (.map (some M)) ∧ w'.cell? ⟨w.heap.size, 0, none⟩ = some (.int .i64 k.k) ∧ w'.cell? ⟨w.heap.size, 1, none⟩ = some (.int .i64 k.n) ∧ w'.cell? ⟨w.heap.size, 2, none⟩ = some (.string k.s) ∧ w'.cell? ⟨w.heap.size, 3, none⟩ = some (.int .i64 k.a) ∧ (Instr.lookup 119 (.map (some M)) (.agg #[.int .i64 k.k, .int .i64 k.n, .string k.s, .int .i64 k.a]) false).run Tryz.prog w' = .ok x w')
      (first | exact ⟨t1, c0, c1, c2, c3, m1⟩)
      (fail)
    clear m1 c0 c1 c2 c3 t1
    go_wp2
    go_ret
    exact ⟨by rw [HR'.out]; rfl, HB1.out.drew⟩

theorem valueAt_tbs {n : Nat} {T M : Nat → Nat} {at_ : Nat → Int} {L : Nat → Nat} {K X : Nat → Nat → V} {r : Nat} (hr : r < n) (hone : ∀ a b, a < L r → b < L r → a ≠ b → K r a ≠ K r b) (k : V) (w : World) (HT : Tbs w n T M at_ L K X) :
    Calls Tryz.prog 79 #[.iface 107 (.pointer (some ⟨T r, 0, none⟩)), .agg #[.int .i64 k.k, .int .i64 k.n, .string k.s, .int .i64 k.a]] w fun e w' => e = .returned (ifv T (atKey (L r) (K r) (X r) k)) ∧ Below w.heap.size w w' := by
  obtain ⟨ord, h1, _⟩ := HT.tab r hr
  obtain ⟨l, h2, h3⟩ := HT.map r hr
  refine valueAt_map (T r) (M r) (at_ r) ord _ l k w h1 h2 ?_
  show _ = _
  by_cases hk : ∃ c, c < L r ∧ K r c = k
  · obtain ⟨c, hc, rfl⟩ := hk
    rw [h3 c hc, atKey_hit hc (eqV_iff.2 rfl) (fun i hi => by
      cases e : eqV (K r i) (K r c) with
      | false => rfl
      | true => exact absurd (eqV_iff.1 e) (hone i c (by omega) hc (by omega)))]
    rfl
  · rw [HT.gone r hr l h2 k (fun c hc e => hk ⟨c, hc, e⟩), atKey_none (fun j hj => by
      cases e : eqV (K r j) k with
      | false => rfl
      | true => exact absurd ⟨j, hj, eqV_iff.1 e⟩ hk)]
    rfl

end Go.Proofs.YtgflalfiopnmnaaGreatDoor

namespace Go.Proofs.YtgflalfiopnmnaaGreatDoor
open Go.RowKit Vl Aw

theorem ko_less {a b : V} (ha : isK a = true) (hb : isK b = true) : decide (ko a b < 0) = less a b := by
  unfold ko
  rw [ha, hb, if_pos (by rfl : (true && true) = true)]
  cases less a b
  · cases less b a <;> simp
  · simp

set_option maxHeartbeats 2000000 in
set_option maxRecDepth 100000 in
theorem minFunc_any (B L cp : Nat) (K : Nat → V) (w : World) (hL : L ≤ 1000) (h0 : 0 < L) (HK : Hid (∀ c, c < L → isK (K c) = true)) (HP : Hid (ValsAt w (some ⟨B, 0, none⟩) L B 0 K)) :
    Calls Tryz.prog 80 #[.slice (some ⟨B, 0, none⟩) L cp, .func (.func 72) #[] #[]] w fun e w' => (∃ k, e = .returned (vAgg k) ∧ (∃ j, j < L ∧ K j = k) ∧ ∀ j, j < L → less (K j) k = false) ∧ Below w.heap.size w w' := by
  obtain ⟨k0, HK0⟩ : ∃ k, Hid (K 0 = k) := ⟨_, rfl⟩
  have A2 := alloc2 w (.cells #[.int .i64 0, .int .i64 0, .string ⟨#[]⟩, .int .i64 0] 24) (.cells #[.int .i64 k0.k, .int .i64 k0.n, .string k0.s, .int .i64 k0.a] 24)
  obtain ⟨w1, hw1⟩ : ∃ w1, w1 = (w.alloc (.cells #[.int .i64 0, .int .i64 0, .string ⟨#[]⟩, .int .i64 0] 24)).alloc (.cells #[.int .i64 k0.k, .int .i64 k0.n, .string k0.s, .int .i64 k0.a] 24) := ⟨_, rfl⟩
  rw [← hw1] at A2
  have HR1 : Hid (ValB w1 w.heap.size zeroV) := A2.1
  have HM1 : Hid (ValB w1 (w.heap.size + 1) k0) := A2.2.1
  have HB1 : Hid (Below w.heap.size w w1) := A2.2.2.2
  clear A2
  obtain ⟨c0, c1, c2, c3⟩ := HP.out.cells (c := 0) h0
  rw [HK0.out] at c0 c1 c2 c3
  simp only [Nat.zero_add, Nat.zero_mul] at c0 c1 c2 c3
  have hBl : B < w.heap.size := World.block_lt_of_cell? _ _ c0
  have HA0 : Hid (∀ j, j < 1 → less (K j) k0 = false) := show ∀ j, _ from fun j hj => by
    have e : j = 0 := by omega
    rw [e, HK0.out]
    exact Aw.lt_irrefl _
  have hlt : ¬ ((L : Int) < 1) := by omega
  have hb0 : (0 : Int) ≤ 0 ∧ (0 : Int) < (L : Int) := by omega
  go_enter Tryz.func80, Tryz.ntmps80
  go_wp2
  rw [← hw1]
  clear hw1 c0 c1 c2 c3 hlt hb0 hBl
  go_loopw [6] (fun ii wr => ∃ (c : Nat) (k : V), 1 ≤ c ∧ c ≤ L ∧ ii = .int .i64 c ∧ Hid (∃ j, j < c ∧ K j = k) ∧ Hid (∀ j, j < c → less (K j) k = false) ∧ Hid (ValB wr w.heap.size zeroV) ∧ Hid (ValB wr (w.heap.size + 1) k) ∧ Hid (Below w.heap.size w wr)) (fun ii _ => L - (intOf ii).toNat)
  case atStart => exact ⟨1, k0, Nat.le_refl _, h0, rfl, ⟨0, by omega, HK0.out⟩, HA0, HR1, HM1, HB1⟩
  case round =>
    obtain ⟨c, k, hc1, hc, rfl, HE, HA, HR, HM, HB⟩ := hrel
    clear HR1 HM1 HB1
    obtain ⟨m0, m1, m2, m3, mz⟩ := cells4 HM.out
    by_cases hlc : c < L
    · obtain ⟨c0, c1, c2, c3⟩ := (HP.out.below HB.out).cells hlc
      obtain ⟨kc, HKC⟩ : ∃ kc, Hid (K c = kc) := ⟨_, rfl⟩
      rw [HKC.out] at c0 c1 c2 c3
      simp only [Nat.zero_add] at c0 c1 c2 c3
      have hbc : (0 : Int) ≤ (c : Int) ∧ (c : Int) < (L : Int) := by omega
      have hkc : isK kc = true := by rw [← HKC.out]; exact HK.out c hlc
      have hkk : isK k = true := by obtain ⟨j, hj, e⟩ := HE.out; rw [← e]; exact HK.out j (by omega)
      have hcall := implKo_any kc k wr.drew
      obtain ⟨kq, hkq⟩ : ∃ kq, ko kc k = kq := ⟨_, rfl⟩
      have hls := ko_less hkc hkk
      rw [hkq] at hcall hls
      obtain ⟨bl, hbl⟩ : ∃ bl, less kc k = bl := ⟨_, rfl⟩
      rw [hbl] at hls
      have HBL : Hid (less kc k = bl) := hbl
      have C4 : Hid (∀ w', Below wr.heap.size wr w' → w'.cell? ⟨B, c * 4, none⟩ = some (.int .i64 kc.k) ∧ w'.cell? ⟨B, c * 4 + 1, none⟩ = some (.int .i64 kc.n) ∧ w'.cell? ⟨B, c * 4 + 2, none⟩ = some (.string kc.s) ∧ w'.cell? ⟨B, c * 4 + 3, none⟩ = some (.int .i64 kc.a)) := show ∀ _, _ from fun w' hb => ⟨cellB c0 w' hb, cellB c1 w' hb, cellB c2 w' hb, cellB c3 w' hb⟩
      have M4 : Hid (∀ w', Below wr.heap.size wr w' → w'.cell? ⟨w.heap.size + 1, 0, none⟩ = some (.int .i64 k.k) ∧ w'.cell? ⟨w.heap.size + 1, 1, none⟩ = some (.int .i64 k.n) ∧ w'.cell? ⟨w.heap.size + 1, 2, none⟩ = some (.string k.s) ∧ w'.cell? ⟨w.heap.size + 1, 3, none⟩ = some (.int .i64 k.a)) := show ∀ _, _ from fun w' hb => ⟨cellB m0 w' hb, cellB m1 w' hb, cellB m2 w' hb, cellB m3 w' hb⟩
      clear hkq hbl c0 c1 c2 c3 m0 m1 m2 m3 mz hkc hkk
      go_wp2
      refine wp_region_held_drew (S := fun y => Below wr.heap.size wr y) (by kernel_rfl) (Below.refl _ _).drew (fun hHeld => ?_)
      refine wpT (i := 0) (v := .func (.func 72) #[] #[]) rfl (fun w hSw => ?_) hHeld ?_
      · first | rfl | go_simp
      simp only [Act.put, pz]
      refine wpT (i := 1) (v := .slice (some ⟨B, 0, none⟩) L cp) rfl (fun w hSw => ?_) hHeld ?_
      · first | rfl | go_simp
      simp only [Act.put, pz]
      refine wpT (i := 2) (v := .int .i64 (c : Nat)) rfl (fun w hSw => ?_) hHeld ?_
      · first | rfl | go_simp
      simp only [Act.put, pz]
      refine wpT (i := 3) (v := .pointer (some ⟨B, c * 4, none⟩)) rfl (fun w hSw => ?_) hHeld ?_
      · first | rfl | go_simp
      simp only [Act.put, pz]
      refine wpT (i := 4) (v := .agg #[.int .i64 kc.k, .int .i64 kc.n, .string kc.s, .int .i64 kc.a]) rfl (fun w hSw => ?_) hHeld ?_
      · obtain ⟨q0, q1, q2, q3⟩ := C4.out w hSw; first | rfl | go_simp
      simp only [Act.put, pz]
      refine wpT (i := 5) (v := .agg #[.int .i64 k.k, .int .i64 k.n, .string k.s, .int .i64 k.a]) rfl (fun w hSw => ?_) hHeld ?_
      · obtain ⟨q0, q1, q2, q3⟩ := M4.out w hSw; first | rfl | go_simp
      simp only [Act.put, pz]
      refine wpAnyH_ready (rs := [6]) (by kernel_rfl) (by simp) ?_
      refine AllReadyH.cons rfl (fun KK hK' => ?_) AllReadyH.nil
      go_simp
      refine hcall.mono ?_
      clear hcall
      rintro e w5 ⟨rfl, hb5⟩
      have hs5 : Below wr.heap.size wr w5 := grw hHeld hb5
      have HR5 : Hid (ValB w5 w.heap.size zeroV) := HR.out.below hs5
      have HM5 : Hid (ValB w5 (w.heap.size + 1) k) := HM.out.below hs5
      have HB5 : Hid (Below w.heap.size w w5) := grw HB.out hs5
      have HC5 : Hid _ := C4.out w5 hs5
      refine hK'.out _ _ hs5 (fun hHeld => ?_)
      clear hK' hb5
      refine wpT (i := 7) (v := .bool bl) rfl (fun w hSw => ?_) hHeld ?_
      · have hq := hls; first | rfl | go_simp
      simp only [Act.put, pz]
      refine wpAnyH_done (by kernel_rfl) ?_ _
      clear hHeld hs5 C4 M4 HR HM HB hls
      cases bl
      · have HA5 : Hid (∀ j, j < c + 1 → less (K j) k = false) := show ∀ j, _ from fun j hj => by
          by_cases e : j = c
          · rw [e, HKC.out]; exact HBL.out
          · exact HA.out j (by omega)
        have HE5 : Hid (∃ j, j < c + 1 ∧ K j = k) := by obtain ⟨j, hj, e⟩ := HE.out; exact ⟨j, by omega, e⟩
        go_wp2
        go_roundw
        case rel => exact ⟨c + 1, k, by omega, by omega, by go_num, HE5, HA5, HR5, HM5, HB5⟩
        case measure => simp [intOf]; omega
      · have HA5 : Hid (∀ j, j < c + 1 → less (K j) kc = false) := show ∀ j, _ from fun j hj => by
          by_cases e : j = c
          · rw [e, HKC.out]; exact Aw.lt_irrefl _
          · cases e2 : less (K j) kc with
            | false => rfl
            | true =>
              have h1 := Aw.lt_trans e2 HBL.out
              rw [HA.out j (by omega)] at h1
              cases h1
        have HE5 : Hid (∃ j, j < c + 1 ∧ K j = kc) := ⟨c, by omega, HKC.out⟩
        obtain ⟨q0, q1, q2, q3⟩ := HC5.out
        obtain ⟨m0, m1, m2, m3, mz⟩ := cells4 HM5.out
        go_wp2
        obtain ⟨w6, hw6⟩ : ∃ w6, w6 = (((w5.setCell ⟨w.heap.size + 1, 0, none⟩ (.int .i64 kc.k)).setCell ⟨w.heap.size + 1, 1, none⟩ (.int .i64 kc.n)).setCell ⟨w.heap.size + 1, 2, none⟩ (.string kc.s)).setCell ⟨w.heap.size + 1, 3, none⟩ (.int .i64 kc.a) := ⟨_, rfl⟩
        have HM6 : Hid (ValB w6 (w.heap.size + 1) kc) := by rw [hw6]; exact HM5.out.put kc
        have hs6 : Only (fun k => k = w.heap.size + 1) w5 w6 := by rw [hw6]; exact ((((Only.refl (fun k => k = w.heap.size + 1) w5).set (p := ⟨w.heap.size + 1, 0, none⟩) rfl _).set (p := ⟨w.heap.size + 1, 1, none⟩) rfl _).set (p := ⟨w.heap.size + 1, 2, none⟩) rfl _).set (p := ⟨w.heap.size + 1, 3, none⟩) rfl _
        have HR6 : Hid (ValB w6 w.heap.size zeroV) := (hs6.block _ (blk_lt HR5.out) (by omega)).trans HR5.out
        have HB6 : Hid (Below w.heap.size w w6) := HB5.out.trans (hs6.toBelow (fun k e => by omega) HB5.out.size)
        rw [← hw6]
        clear hw6 q0 q1 q2 q3 m0 m1 m2 m3 mz hs6
        go_roundw
        case rel => exact ⟨c + 1, kc, by omega, by omega, by go_num, HE5, HA5, HR6, HM6, HB6⟩
        case measure => simp [intOf]; omega
    · obtain rfl : L = c := by omega
      obtain ⟨r0, r1, r2, r3, rz⟩ := cells4 HR.out
      go_wp2
      obtain ⟨q0, q1, q2, q3, _⟩ := cells4 (HR.out.put k)
      refine bodyPost_ret (v := vAgg k) (by simp [results, Tryz.results80, go_sem, q0, q1, q2, q3]) rfl ⟨⟨k, rfl, HE.out, HA.out⟩, ?_⟩
      exact HB.out.trans (set4_below.mono (by omega))

set_option maxHeartbeats 2000000 in
set_option maxRecDepth 100000 in
theorem growV_any (n : Nat) (w : World) (hn : n ≤ 1000) :
    Calls Tryz.prog 122 #[.slice none 0 0, .int .i64 (n : Nat)] w fun e w' => (∃ v, e = .returned v ∧ w'.ownsRow w.heap.size 24 4 v 0 []) ∧ Below w.heap.size w w' := by
  by_cases h0 : n = 0
  · subst h0
    go_enter Tryz.func122, Tryz.ntmps122
    go_wp2
    go_ret
    exact ⟨⟨_, rfl, World.ownsRow_nil _ _ _ _⟩, Below.refl _ _⟩
  · obtain ⟨iv, hi, hz0, hz1, hz2⟩ := info_parts infoV
    have hint : Tryz.prog.underlying 3 = some (.int .i64) := by kernel_rfl
    have hrun := Lib.run_append_nil_zeros (P := Tryz.prog) w 42 3 42 24 iv _ .i64 .i64 Tryz.underlying42 hint hi hz0 n (by omega) (by omega) (by omega) (by rw [hz2]; omega)
    have hge := grownCap_ge w n 0 24
    have hle := grownCap_le_maxLen w n 0 24 (by unfold maxLen; omega)
    obtain ⟨gc, hgc⟩ : ∃ gc, grownCap w n 0 24 = gc := ⟨_, rfl⟩
    rw [hgc] at hrun hge hle
    obtain ⟨w1, hw1⟩ : ∃ w1, w1 = w.drew.alloc (.cells (Builtin.zeroCells (Value.agg #[.int .i64 0, .int .i64 0, .string ⟨#[]⟩, .int .i64 0]).cells n ++ Builtin.zeroCells (Value.agg #[.int .i64 0, .int .i64 0, .string ⟨#[]⟩, .int .i64 0]).cells (gc - n)) 24) := ⟨_, rfl⟩
    rw [← hw1] at hrun
    have HO : Hid (w1.ownsRow w.heap.size 24 4 (.slice (some ⟨w.heap.size, 0, none⟩) 0 gc) 0 []) := by
      refine ⟨rfl, Or.inr ⟨w.heap.size, gc, _, rfl, Nat.le_refl _, by rw [hw1]; exact heap_alloc_new w.drew _, Nat.zero_le _, hle, ?_, by simp⟩⟩
      simp only [Array.size_append, size_zeroCells]
      show n * 4 + (gc - n) * 4 = gc * 4
      omega
    have HB : Hid (Below w.heap.size w w1) := by rw [hw1]; exact (Below.refl _ _).drew.alloc (Nat.le_refl _) _
    have hpos : (0 : Int) < (n : Int) := by omega
    have hneg : ¬ ((n : Int) < 0) := by omega
    have hgl : gc ≤ 9223372036854775807 := by unfold maxLen at hle; omega
    clear hw1 hgc h0
    go_enter Tryz.func122, Tryz.ntmps122
    go_wp2_with (at_builtin; refine Lib.wpList_append_run _ rfl (.tmp 20) (.tmp 21) _ _ rfl _ _ rfl rfl _ _ hrun ?_)
    go_wp2
    go_ret
    exact ⟨⟨_, rfl, HO.out⟩, HB.out⟩

end Go.Proofs.YtgflalfiopnmnaaGreatDoor

namespace Go.Proofs.YtgflalfiopnmnaaGreatDoor
open Go.RowKit Vl Aw

theorem keyCells_one (ks : List V) : ∀ u ∈ keyCells ks, u.oneCell' = true := by
  intro u hu
  unfold keyCells at hu
  obtain ⟨v, _, hv⟩ := List.mem_flatMap.1 hu
  simp at hv
  rcases hv with rfl | rfl | rfl | rfl <;> rfl

theorem run_append_row {w : World} {base b0 n L : Nat} {v x : Value} {xs : List Value} {ks : List V} (ty : TypeId) (hown : w.ownsRow base 24 4 v n xs) (hx : w.ownsRow b0 24 4 x L (keyCells ks)) (h1 : n + L ≤ 100000) (hb : base ≤ w.heap.size) :
    ∃ v' w', (Builtin.append_ #[42, 42] ty #[v, x]).run Tryz.prog w = .ok v' w' ∧ w'.ownsRow base 24 4 v' (n + L) (xs ++ keyCells ks) ∧ w.grownBy w' v.ownBlock := by
  obtain ⟨iv, hi, hz0, hz1, hz2⟩ := info_parts infoV
  have hc : ∀ j u, (keyCells ks)[j]? = some u → ∃ g cap, x = .slice (some ⟨g, 0, none⟩) L cap ∧ w.cell? ⟨g, j, none⟩ = some u := fun j u hu => owns_cell hx hu
  rcases hx.2 with ⟨rfl, rfl⟩ | ⟨g, cap, cur, rfl, _⟩
  · have hk : keyCells ks = [] := List.eq_nil_of_length_eq_zero (by have := hx.1; omega)
    rw [hk, List.append_nil]
    rcases hown.2 with ⟨rfl, rfl⟩ | ⟨g, cap, cur, rfl, _, _, hle, _⟩
    · exact ⟨_, _, run_append_nothing w _ _ ty _ iv Tryz.underlying42 hi none 0 0 (Nat.le_refl _) _ (Src.ofNil w Tryz.underlying42 0), hown, ⟨rfl, rfl, rfl, Nat.le_refl _, fun _ _ _ => rfl⟩⟩
    · exact ⟨_, _, run_append_nothing w _ _ ty _ iv Tryz.underlying42 hi (some ⟨g, 0, none⟩) n cap hle _ (Src.ofNil w Tryz.underlying42 0), hown, ⟨rfl, rfl, rfl, Nat.le_refl _, fun _ _ _ => rfl⟩⟩
  · obtain ⟨v', w', hr, h2, h3, _⟩ := run_append_own_at (P := Tryz.prog) w base 42 ty 24 iv (.agg #[.int .i64 0, .int .i64 0, .string ⟨#[]⟩, .int .i64 0]) 4 40 Tryz.underlying42 hi hz0 hz1 hz2 (by rfl) (by omega) v n xs hown ⟨g, 0, none⟩ L cap (keyCells ks) hx.1 (fun j u hu => by
      obtain ⟨g', cap', e, h⟩ := hc j u hu
      cases e
      have hadd : (⟨g, 0, none⟩ : Addr).add j = ⟨g, j, none⟩ := by unfold Addr.add; split <;> simp_all
      rw [hadd]
      exact h) (keyCells_one ks) (by unfold maxLen; omega) (by omega) hb
    exact ⟨v', w', hr, h2, h3⟩

def cat (SL : Nat → Nat) (SK : Nat → Nat → V) : Nat → List V
  | 0 => []
  | q + 1 => cat SL SK q ++ keys (SK q) (SL q)
theorem keyCells_app (a b : List V) : keyCells (a ++ b) = keyCells a ++ keyCells b := by simp [keyCells]

set_option maxHeartbeats 2000000 in
set_option maxRecDepth 100000 in
theorem concat_any (m gb : Nat) (SV : Nat → Value) (SL : Nat → Nat) (SK : Nat → Nat → V) (w : World) (hm : m ≤ 2) (HL : Hid (∀ q, q < m → SL q ≤ 100)) (HC : Hid (∀ q, q < m → w.cell? ⟨gb, q, none⟩ = some (SV q))) (HO : Hid (∀ q, q < m → w.ownsRow 0 24 4 (SV q) (SL q) (keyCells (keys (SK q) (SL q))))) :
    Calls Tryz.prog 77 #[.slice (some ⟨gb, 0, none⟩) m m] w fun e w' => (∃ v, e = .returned v ∧ w'.ownsRow w.heap.size 24 4 v (cat SL SK m).length (keyCells (cat SL SK m))) ∧ Below w.heap.size w w' := by
  have HLen : Hid (∀ q, q ≤ m → (cat SL SK q).length ≤ q * 100) := show ∀ q, _ from fun q => by
    induction q with
    | zero => intro _; simp [cat]
    | succ q ih =>
      intro hq
      have h1 := ih (by omega)
      have h2 := HL.out q (by omega)
      simp only [cat, List.length_append, keys_len]
      omega
  go_enter Tryz.func77, Tryz.ntmps77
  go_wp2
  go_loopw [3, 11] (fun sv ii wr => ∃ q : Nat, q ≤ m ∧ ii = .int .i64 q ∧ sv = .int .i64 ((cat SL SK q).length : Nat) ∧ Hid (Below w.heap.size w wr)) (fun _ ii _ => m - (intOf ii).toNat)
  case atStart => exact ⟨0, Nat.zero_le _, rfl, rfl, Below.refl _ _⟩
  case round =>
    obtain ⟨q, hq, rfl, rfl, HB⟩ := hrel
    by_cases hlt : q < m
    · obtain ⟨sa, sc, hsv, _⟩ := owns_form (HO.out q hlt)
      have c0 := HC.out q hlt
      rw [hsv] at c0
      replace c0 := (HB.out.cell (World.block_lt_of_cell? _ _ c0)).trans c0
      have hln := HLen.out q hq
      have hl2 := HL.out q hlt
      obtain ⟨cl, hcl⟩ : ∃ cl, (cat SL SK q).length = cl := ⟨_, rfl⟩
      obtain ⟨sl, hsl⟩ : ∃ sl, SL q = sl := ⟨_, rfl⟩
      have HNX : Hid ((cat SL SK (q + 1)).length = cl + sl) := by show _ = _; simp only [cat, List.length_append, keys_len, hcl, hsl]
      rw [hcl] at hln
      rw [hsl] at hl2 c0
      rw [hcl]
      have hwr : IntKind.i64.wrap ((cl : Int) + (sl : Int)) = ((cl + sl : Nat) : Int) := by rw [IntKind.wrap_i64]; omega
      have hng : ¬ (((cl + sl : Nat) : Int) < 0) := by omega
      have hbq : (0 : Int) ≤ (q : Int) ∧ (q : Int) < (m : Int) := by omega
      clear hsv hcl hsl
      go_wp2
      go_roundw
      case rel => exact ⟨q + 1, by omega, by go_num, by rw [HNX.out]; first | rfl | simp, HB⟩
      case measure => simp [intOf]; omega
    · obtain rfl : m = q := by omega
      have hln := HLen.out m (Nat.le_refl _)
      obtain ⟨cl, hcl⟩ : ∃ cl, (cat SL SK m).length = cl := ⟨_, rfl⟩
      have HCL : Hid ((cat SL SK m).length = cl) := hcl
      rw [hcl] at hln
      rw [hcl]
      have hgr := growV_any cl wr (by omega)
      clear hcl
      go_wp2_with fail
      refine hgr.mono ?_
      clear hgr
      rintro e w1 ⟨⟨gv, rfl, hg1⟩, hb1⟩
      have HB1 : Hid (Below w.heap.size w w1) := grw HB.out hb1
      have HG1 : Hid (w1.ownsRow w.heap.size 24 4 gv (cat SL SK 0).length (keyCells (cat SL SK 0))) := owns_mono hg1 HB.out.size
      clear hb1 hg1 HB
      go_wp2
      go_loopw [6, 27] (fun ov ii wr => ∃ q : Nat, q ≤ m ∧ ii = .int .i64 q ∧ Hid (wr.ownsRow w.heap.size 24 4 ov (cat SL SK q).length (keyCells (cat SL SK q))) ∧ Hid (Below w.heap.size w wr)) (fun _ ii _ => m - (intOf ii).toNat)
      case atStart => exact ⟨0, Nat.zero_le _, rfl, HG1, HB1⟩
      case round =>
        obtain ⟨q, hq2, rfl, HO2, HB⟩ := hrel
        clear HG1 HB1
        by_cases hlt2 : q < m
        · obtain ⟨sa, sc, hsv, hsk⟩ := owns_form (HO.out q hlt2)
          have c0 := HC.out q hlt2
          have hrow := HO.out q hlt2
          replace hrow : wr.ownsRow 0 24 4 (SV q) (SL q) (keyCells (keys (SK q) (SL q))) := ⟨hrow.1, by
            rcases hrow.2 with h | ⟨g, cap, cur, h1, h2, h3, h4⟩
            · exact Or.inl h
            · exact Or.inr ⟨g, cap, cur, h1, h2, (HB.out.block _ (blk_lt h3)).trans h3, h4⟩⟩
          have hln := HLen.out q (by omega)
          have hl2 := HL.out q hlt2
          obtain ⟨v', w', hr, hown', hgr'⟩ := run_append_row 42 HO2.out hrow (by omega) HB.out.size
          rw [hsv] at c0 hr
          replace c0 := (HB.out.cell (World.block_lt_of_cell? _ _ c0)).trans c0
          have hbel : Below w.heap.size wr w' := below_grown HO2.out hgr' HB.out.size
          have HO3 : Hid (w'.ownsRow w.heap.size 24 4 v' (cat SL SK (q + 1)).length (keyCells (cat SL SK (q + 1)))) := by
            show World.ownsRow _ _ _ _ _ _ _
            simp only [cat, List.length_append, keys_len, keyCells_app]
            exact hown'
          have HB3 : Hid (Below w.heap.size w w') := HB.out.trans hbel
          obtain ⟨oa, oc, rfl, _⟩ := owns_form HO2.out
          obtain ⟨va, vc, hv', _⟩ := owns_form hown'
          have hbq : (0 : Int) ≤ (q : Int) ∧ (q : Int) < (m : Int) := by omega
          rw [hv'] at hr HO3
          clear hsv hsk hrow hown' hgr' hbel hv' HO2
          go_wp2_with (at_builtin; refine Lib.wpList_append_run _ rfl (.tmp 31) (.tmp 32) _ _ rfl _ _ rfl rfl _ _ hr ?_)
          clear hr c0
          go_wp2
          go_roundw
          case rel => exact ⟨q + 1, by omega, by go_num, HO3, HB3⟩
          case measure => simp [intOf]; omega
        · obtain rfl : m = q := by omega
          go_wp2
          go_ret
          exact ⟨⟨_, rfl, HO2.out⟩, HB.out⟩

end Go.Proofs.YtgflalfiopnmnaaGreatDoor
