import Derived.Test.YtgflalfiopnmnaaGreatDoorR24
import Derived.ProofKit
import Derived.OpenShut
import Derived.ShutString
import Derived.ChangeOld
import Derived.Test.YtgflalfiopnmnaaGreatDoorCards
import Derived.Test.YtgflalfiopnmnaaGreatDoorTie
import Derived.Lib.LaidTab
import Derived.ChangeVars
import Derived.MakeChecks
import Derived.Stop.LaidErr
import Derived.Stop.JoinedAt
import Derived.Deep.DeepHandedRow
import Derived.Deep.DeepLaidRun
import Derived.WalkSmall
/-
  The law on rings: what it walks.
-/
namespace Go.Proofs.YtgflalfiopnmnaaGreatDoor
open Go.RowKit Vl

theorem ByteR.below {w w' : World} {ca : Option Addr} {cl cb co : Nat} (h : ByteR w ca cl cb co) (hb : Below w.heap.size w w') : ByteR w' ca cl cb co := fun i hi => by
  obtain ⟨e, x, hx, hc⟩ := h i hi
  exact ⟨e, x, hx, (hb.cell (World.block_lt_of_cell? _ _ hc)).trans hc⟩

theorem keepA {w4 w w' : World} {ab : Nat} {x0 x1 x2 x3 x4 : Value} (h : w.cell? ⟨ab, 0, none⟩ = some x0 ∧ w.cell? ⟨ab, 1, none⟩ = some x1 ∧ w.cell? ⟨ab, 2, none⟩ = some x2 ∧ w.cell? ⟨ab, 3, none⟩ = some x3 ∧ w.cell? ⟨ab, 4, none⟩ = some x4 ∧ Hid (Below w4.heap.size w4 w)) (hb : Below w.heap.size w w') :
    w'.cell? ⟨ab, 0, none⟩ = some x0 ∧ w'.cell? ⟨ab, 1, none⟩ = some x1 ∧ w'.cell? ⟨ab, 2, none⟩ = some x2 ∧ w'.cell? ⟨ab, 3, none⟩ = some x3 ∧ w'.cell? ⟨ab, 4, none⟩ = some x4 ∧ Hid (Below w4.heap.size w4 w') := by
  obtain ⟨h0, h1, h2, h3, h4, h5⟩ := h
  have k : ∀ i x, w.cell? ⟨ab, i, none⟩ = some x → w'.cell? ⟨ab, i, none⟩ = some x := fun i x hx => (hb.cell (World.block_lt_of_cell? _ _ hx)).trans hx
  exact ⟨k _ _ h0, k _ _ h1, k _ _ h2, k _ _ h3, k _ _ h4, grw h5.out hb⟩

theorem field_tabs (k x a : Int) (s : ByteArray) (ta : Option Addr) (n c : Nat) (w : World) : (Instr.field 27 (.agg #[.int .i64 k, .int .i64 x, .string s, .int .i64 a, .slice ta n c]) 1).run Tryz.prog w = .ok (.slice ta n c) w := by
  simp [Instr.field, asAgg, go_sem]

/-- The way to where a ring and one with a pair more part. -/
def rgP (n i : Nat) : V := if i = n - 1 then rgT else rgK
theorem rgP_keys {n : Nat} (h0 : 0 < n) : List.replicate (n - 1) rgK ++ [rgT] = keys (rgP n) n := by
  obtain ⟨m, rfl⟩ : ∃ m, n = m + 1 := ⟨n - 1, by omega⟩
  rw [keys_succ]
  have e1 : rgP (m + 1) m = rgT := by unfold rgP; rw [if_pos (by omega)]
  have e2 : keys (rgP (m + 1)) m = List.replicate m rgK := by
    refine List.ext_getElem? fun i => ?_
    by_cases hi : i < m
    · simp [keys, hi, rgP, show ¬ i = m by omega]
    · simp [keys, hi]
  rw [e1, e2]
  rfl

set_option maxHeartbeats 4000000 in
set_option maxRecDepth 100000 in
/-- 'laws.FnRings'. -/
theorem ringsLaw (ca : Option Addr) (cl cc cb co : Nat) (w : World) (hB : ByteR w ca cl cb co) (hcl : cl ≤ 9223372036854775807) (HTab : Hid (Tab w)) :
    Calls Tryz.prog 5 #[.slice ca cl cc] w fun e w' => e = .returned (.bool true) ∧ Below w.heap.size w w' := by
  by_cases hl : 1048576 < cl
  · clear hB
    go_enter Tryz.func5, Tryz.ntmps5
    go_wp2
    go_ret
    exact ⟨rfl, Below.refl _ _⟩
  have hby := wByte_any ca cl cc cb co 0 w hB (by omega) (by omega)
  have HBy : Hid (ByteR w ca cl cb co) := hB
  clear hB
  go_enter Tryz.func5, Tryz.ntmps5
  go_wp2_with fail
  refine hby.mono ?_
  clear hby
  rintro e w1 ⟨⟨x, hx, rfl⟩, hb1⟩
  obtain ⟨n, hxn⟩ : ∃ n : Nat, n = 1 + x % 60 := ⟨_, rfl⟩
  have hxz : (1 : Int) + (x : Int) % 60 = (n : Int) := by omega
  have h0 : 0 < n := by omega
  have hn : n ≤ 60 := by omega
  have HB1 : Hid (Below w.heap.size w w1) := hb1
  have hby := wByte_any ca cl cc cb co 1 w1 (HBy.out.below hb1) (by omega) (by omega)
  clear hb1 hxn
  go_wp2_with fail
  refine hby.mono ?_
  clear hby
  rintro e w2 ⟨⟨y, hy, rfl⟩, hb2⟩
  obtain ⟨m, hym⟩ : ∃ m : Nat, m = 1 + y % 60 := ⟨_, rfl⟩
  have hyz : (1 : Int) + (y : Int) % 60 = (m : Int) := by omega
  have m0 : 0 < m := by omega
  have hm : m ≤ 60 := by omega
  have HB2 : Hid (Below w.heap.size w w2) := grw HB1.out hb2
  have hri := wRing_any n h0 hn w2
  clear hb2 hym HB1 HBy
  go_wp2_with fail
  refine hri.mono ?_
  clear hri
  rintro e w3 ⟨⟨tv, PV, rfl, hO3⟩, hb3⟩
  obtain ⟨ta, tc, rfl, _⟩ := owns_form hO3.own
  obtain ⟨w4, hw4⟩ : ∃ w4, w4 = w3.alloc (.cells #[.int .i64 4, .int .i64 0, .string ⟨#[]⟩, .int .i64 0, .slice ta n tc] 27) := ⟨_, rfl⟩
  have hb4 : Below w3.heap.size w3 w4 := by rw [hw4]; exact (Below.refl _ _).alloc (Nat.le_refl _) _
  have HU4 : Hid (OutB w4 w3.heap.size rgU (.slice ta n tc)) := by rw [hw4]; exact heap_alloc_new _ _
  have HO4 : Hid (OTab w4 (w2.heap.size + 2) (.slice ta n tc) n PV raL raK (raX n)) := hO3.below hb4
  have HB4 : Hid (Below w.heap.size w w4) := grw (grw HB2.out hb3) hb4
  obtain ⟨ab, hab⟩ : ∃ ab, w3.heap.size = ab := ⟨_, rfl⟩
  go_wp2
  rw [← hw4]
  rw [hab] at HU4
  clear hw4 hb3 hb4 hO3 HB2 hab
  obtain ⟨a0, a1, a2, a3, a4, _⟩ := cells5 HU4.out
  simp only [rgU, rgE] at a0 a1 a2 a3
  go_region_held3 (fun w' => w'.cell? ⟨ab, 0, none⟩ = some (.int .i64 4) ∧ w'.cell? ⟨ab, 1, none⟩ = some (.int .i64 0) ∧ w'.cell? ⟨ab, 2, none⟩ = some (.string ⟨#[]⟩) ∧ w'.cell? ⟨ab, 3, none⟩ = some (.int .i64 0) ∧ w'.cell? ⟨ab, 4, none⟩ = some (.slice ta n tc) ∧ Hid (Below w4.heap.size w4 w'))
    (first | exact keepA ‹_ ∧ _› hb8 | exact keepA ‹_ ∧ _› hb7 | exact keepA ‹_ ∧ _› hb6 | exact keepA ‹_ ∧ _› hb5 | exact ⟨a0, a1, a2, a3, a4, (Below.refl _ _).drew⟩)
    (first
      | (go_at_call 21; refine (wRing_any m m0 hm _).mono ?_; rintro e w5 ⟨⟨tv5, PV5, rfl, hO5⟩, hb5⟩; obtain ⟨ta5, tc5, rfl, _⟩ := owns_form hO5.own)
      | (go_at_call 14; refine (implSame_any rgU rgU ta ta5 n tc _ _ m tc5 _ _ _ _ raL _ _ _ raL _ _ _ raK (raX n) raK (raX m) _ (by omega) (by omega) (ra_small n) (ra_small m) ((HO4.out.below ((Below.refl _ _).drew)).below hb5).tabs.2 hO5.tabs.2).mono ?_; rintro e w6 ⟨hs6, hb6⟩; obtain rfl := same_rr h0 hn m0 hm hs6)
      | (go_at_call 19; refine (implShrink_any rgU ta n tc _ _ _ raL _ _ _ raK (raX n) _ (by omega) (ra_small n) (((HO4.out.below ((Below.refl _ _).drew)).below hb5).below hb6).tabs.2).mono ?_; rintro e w7 ⟨hs7, hb7⟩; obtain ⟨tv7, PV7, bs7, L7, K7, X7, _, rfl, hO7, hL7, hK7, hX7⟩ := shrink_a h0 hn hs7; obtain ⟨ta7, tc7, rfl, _⟩ := owns_form hO7.own)
      | (go_at_call 7; refine (implFreeze_any (rgV 0) ta7 1 tc7 _ _ _ L7 _ _ _ K7 X7 _ (by omega) (one_small hL7 hK7 hX7) hO7.tabs.2 (HTab.out.below (grw (grw (grw HB4.out.drew hb5) hb6) hb7)) (one_rgs hL7 hK7 hX7)).mono ?_; rintro e w8 ⟨hf8, hb8⟩; obtain rfl := freeze_one hL7 hK7 hX7 hf8))
  rename_i hS
  have HB8 : Hid (Below w4.heap.size w4 w8) := hS.2.2.2.2.2
  have HU8 : Hid (OutB w8 ab rgU (.slice ta n tc)) := blkB HU4.out HB8.out
  have HO8 : Hid (OTab w8 (w2.heap.size + 2) (.slice ta n tc) n PV raL raK (raX n)) := HO4.out.below HB8.out
  have HW8 : Hid (Below w.heap.size w w8) := grw HB4.out HB8.out
  clear hS hb5 hb6 hb7 hb8 hO5 hO7 hL7 hK7 hX7 hs6 hs7 hf8 HB8 HU4 HO4 HB4 a0 a1 a2 a3 a4
  have hri := wRing_any n h0 hn w8
  go_wp2_with fail
  refine hri.mono ?_
  clear hri
  rintro e w9 ⟨⟨tv9, PV9, rfl, hO9⟩, hb9⟩
  obtain ⟨tg, tcb, rfl, _⟩ := owns_cell hO9.own (k := n - 1) (y := PV9 (n - 1)) (by simp [show n - 1 < n by omega])
  obtain ⟨oa, oc, hpv, _⟩ := owns_form (hO9.rows (n - 1) (by omega))
  have A2 := alloc2 w9 (.cells #[.int .i64 4, .int .i64 0, .string ⟨#[]⟩, .int .i64 0, .slice (some ⟨tg, 0, none⟩) n tcb] 27) (.cells #[.int .i64 2, .int .i64 2, .string ⟨#[]⟩, .int .i64 0] 24)
  obtain ⟨w10, hw10⟩ : ∃ w10, w10 = (w9.alloc (.cells #[.int .i64 4, .int .i64 0, .string ⟨#[]⟩, .int .i64 0, .slice (some ⟨tg, 0, none⟩) n tcb] 27)).alloc (.cells #[.int .i64 2, .int .i64 2, .string ⟨#[]⟩, .int .i64 0] 24) := ⟨_, rfl⟩
  rw [← hw10] at A2
  have HG10 : Hid (OutB w10 w9.heap.size rgU (.slice (some ⟨tg, 0, none⟩) n tcb)) := A2.1
  have HV10 : Hid (ValB w10 (w9.heap.size + 1) rgT) := A2.2.1
  have HB10 : Hid (Below w9.heap.size w9 w10) := A2.2.2.2
  have hs10 : w10.heap.size = w9.heap.size + 2 := A2.2.2.1
  have HO10 : Hid (OTab w10 (w8.heap.size + 2) (.slice (some ⟨tg, 0, none⟩) n tcb) n PV9 raL raK (raX n)) := hO9.below A2.2.2.2
  have hs89 : w8.heap.size ≤ w9.heap.size := hb9.size
  have htgl : w8.heap.size + 2 ≤ tg ∧ tg < w9.heap.size := by
    obtain ⟨_, _, _, h2⟩ := owns_form hO9.own
    exact h2 tg rfl
  have habl : ab < w8.heap.size := blk_lt HU8.out
  obtain ⟨bb, hbb⟩ : ∃ bb, w9.heap.size = bb := ⟨_, rfl⟩
  obtain ⟨tw, htw⟩ : ∃ tw, bb + 1 = tw := ⟨_, rfl⟩
  clear A2
  go_wp2
  rw [← hw10]
  rw [hbb] at HG10 HV10 hs10 htgl hs89
  rw [htw] at HV10
  try rw [hbb]
  try rw [htw]
  have HB9 : Hid (Below w8.heap.size w8 w9) := hb9
  have hlp : ∀ g, (PV9 (n - 1)).ownBlock = some g → w8.heap.size + 2 ≤ g ∧ g < bb := by
    obtain ⟨_, _, _, h2⟩ := owns_form (hO9.rows (n - 1) (by omega))
    rw [hbb] at h2
    exact h2
  have HLP : Hid (∀ g, (PV9 (n - 1)).ownBlock = some g → w8.heap.size + 2 ≤ g ∧ g < bb) := hlp
  rw [hbb] at HB10
  clear hw10 hO9 hb9 hlp
  obtain ⟨ip, hpi, hp0, hp1, hp2⟩ := info_parts Tryz.info39
  have hwr : IntKind.i64.wrap ((n : Int) - 1) = (n : Int) - 1 := by rw [IntKind.wrap_i64]; omega
  obtain ⟨r, hr⟩ : ∃ r, n = r + 1 := ⟨n - 1, by omega⟩
  have hri : (n : Int) - 1 = (r : Int) := by omega
  have hix : (0 : Int) ≤ (r : Int) ∧ (r : Int) < (n : Int) := by omega
  have hrw : IntKind.i64.wrap (r : Int) = (r : Int) := by rw [IntKind.wrap_i64]; omega
  have HRn : Hid (n = r + 1) := hr
  have ltg : tg < w10.heap.size := by omega
  have ltg2 : tg < bb + 2 := by omega
  rw [show n - 1 = r by omega] at hpv HLP
  have htc : w10.cell? ⟨tg, r, none⟩ = some (.slice oa 1 oc) := by
    obtain ⟨g2, c2, e2, h2⟩ := owns_cell HO10.out.own (k := r) (y := PV9 r) (by simp [show r < n by omega])
    cases e2
    rw [h2, hpv]
    rfl
  clear hr
  refine wp_region_held_drew (S := fun w' => OutB w' bb rgU (.slice (some ⟨tg, 0, none⟩) n tcb) ∧ ValB w' tw rgT) (by kernel_rfl) ⟨HG10.out, HV10.out⟩ (fun hHeld => ?_)
  refine wpAnyH_take (i := 0) (v := .pointer (some ⟨bb, 4, none⟩)) rfl (by kernel_rfl) (by kernel_rfl) (by kernel_rfl) (fun _ _ _ h => h) (Or.inl ⟨by rfl, fun w hSw => ?_⟩) hHeld ?_
  · first | rfl | go_simp
  simp only [Act.put, List.setIfInBounds_toArray, List.set_cons_zero, List.set_cons_succ, List.getElem_toArray, List.getElem_cons_zero]
  refine wpAnyH_take (i := 1) (v := .slice (some ⟨tg, 0, none⟩) n tcb) rfl (by kernel_rfl) (by kernel_rfl) (by kernel_rfl) (fun _ _ _ h => h) (Or.inl ⟨by rfl, fun w hSw => ?_⟩) hHeld ?_
  · obtain ⟨k0, k1, k2, k3, k4, _⟩ := cells5 hSw.1
    first | rfl | go_simp
  simp only [Act.put, List.setIfInBounds_toArray, List.set_cons_zero, List.set_cons_succ, List.getElem_toArray, List.getElem_cons_zero, List.getElem_cons_succ]
  refine wpAnyH_take (i := 2) (v := .int .i64 (n : Int)) rfl (by kernel_rfl) (by kernel_rfl) (by kernel_rfl) (fun _ _ _ h => h) (Or.inl ⟨by rfl, fun w hSw => ?_⟩) hHeld ?_
  · first | rfl | go_simp
  simp only [Act.put, List.setIfInBounds_toArray, List.set_cons_zero, List.set_cons_succ, List.getElem_toArray, List.getElem_cons_zero, List.getElem_cons_succ]
  refine wpAnyH_take (i := 3) (v := .int .i64 (r : Int)) rfl (by kernel_rfl) (by kernel_rfl) (by kernel_rfl) (fun _ _ _ h => h) (Or.inl ⟨by rfl, fun w hSw => ?_⟩) hHeld ?_
  · go_simp
  simp only [Act.put, List.setIfInBounds_toArray, List.set_cons_zero, List.set_cons_succ, List.getElem_toArray, List.getElem_cons_zero, List.getElem_cons_succ]
  refine wpAnyH_take (i := 4) (v := .pointer (some ⟨bb, 4, none⟩)) rfl (by kernel_rfl) (by kernel_rfl) (by kernel_rfl) (fun _ _ _ h => h) (Or.inl ⟨by rfl, fun w hSw => ?_⟩) hHeld ?_
  · first | rfl | go_simp
  simp only [Act.put, List.setIfInBounds_toArray, List.set_cons_zero, List.set_cons_succ, List.getElem_toArray, List.getElem_cons_zero, List.getElem_cons_succ]
  refine wpAnyH_take (i := 5) (v := .slice (some ⟨tg, 0, none⟩) n tcb) rfl (by kernel_rfl) (by kernel_rfl) (by kernel_rfl) (fun _ _ _ h => h) (Or.inl ⟨by rfl, fun w hSw => ?_⟩) hHeld ?_
  · obtain ⟨k0, k1, k2, k3, k4, _⟩ := cells5 hSw.1
    first | rfl | go_simp
  simp only [Act.put, List.setIfInBounds_toArray, List.set_cons_zero, List.set_cons_succ, List.getElem_toArray, List.getElem_cons_zero, List.getElem_cons_succ]
  refine wpAnyH_take (i := 6) (v := .int .i64 (n : Int)) rfl (by kernel_rfl) (by kernel_rfl) (by kernel_rfl) (fun _ _ _ h => h) (Or.inl ⟨by rfl, fun w hSw => ?_⟩) hHeld ?_
  · first | rfl | go_simp
  simp only [Act.put, List.setIfInBounds_toArray, List.set_cons_zero, List.set_cons_succ, List.getElem_toArray, List.getElem_cons_zero, List.getElem_cons_succ]
  refine wpAnyH_take (i := 7) (v := .int .i64 (r : Int)) rfl (by kernel_rfl) (by kernel_rfl) (by kernel_rfl) (fun _ _ _ h => h) (Or.inl ⟨by rfl, fun w hSw => ?_⟩) hHeld ?_
  · go_simp
  simp only [Act.put, List.setIfInBounds_toArray, List.set_cons_zero, List.set_cons_succ, List.getElem_toArray, List.getElem_cons_zero, List.getElem_cons_succ]
  refine wpAnyH_take (i := 8) (v := .pointer (some ⟨tg, r, none⟩)) rfl (by kernel_rfl) (by kernel_rfl) (by kernel_rfl) (fun _ _ _ h => h) (Or.inl ⟨by rfl, fun w hSw => ?_⟩) hHeld ?_
  · go_simp
  simp only [Act.put, List.setIfInBounds_toArray, List.set_cons_zero, List.set_cons_succ, List.getElem_toArray, List.getElem_cons_zero, List.getElem_cons_succ]
  refine wpAnyH_take (i := 9) (v := .pointer (some ⟨tg, r, none⟩)) rfl (by kernel_rfl) (by kernel_rfl) (by kernel_rfl) (fun _ _ _ h => h) (Or.inl ⟨by rfl, fun w hSw => ?_⟩) hHeld ?_
  · first | rfl | go_simp
  simp only [Act.put, List.setIfInBounds_toArray, List.set_cons_zero, List.set_cons_succ, List.getElem_toArray, List.getElem_cons_zero, List.getElem_cons_succ]
  refine wpAnyH_take (i := 11) (v := .agg #[.int .i64 2, .int .i64 2, .string ⟨#[]⟩, .int .i64 0]) rfl (by kernel_rfl) (by kernel_rfl) (by kernel_rfl) (fun _ _ _ h => h) (Or.inl ⟨by rfl, fun w hSw => ?_⟩) hHeld ?_
  · obtain ⟨t0, t1, t2, t3, _⟩ := cells4 hSw.2
    simp only [rgT, rgE] at t0 t1 t2 t3
    first | rfl | go_simp
  simp only [Act.put, List.setIfInBounds_toArray, List.set_cons_zero, List.set_cons_succ, List.getElem_toArray, List.getElem_cons_zero, List.getElem_cons_succ]
  refine wpAnyH_take (i := 12) (v := .agg #[.int .i64 2, .int .i64 2, .string ⟨#[]⟩, .int .i64 0]) rfl (by kernel_rfl) (by kernel_rfl) (by kernel_rfl) (fun _ _ _ h => h) (Or.inl ⟨by rfl, fun w hSw => ?_⟩) hHeld ?_
  · obtain ⟨t0, t1, t2, t3, _⟩ := cells4 hSw.2
    simp only [rgT, rgE] at t0 t1 t2 t3
    first | rfl | go_simp
  simp only [Act.put, List.setIfInBounds_toArray, List.set_cons_zero, List.set_cons_succ, List.getElem_toArray, List.getElem_cons_zero, List.getElem_cons_succ]
  refine wpAnyH_take (i := 13) (v := .agg #[.int .i64 2, .int .i64 2, .string ⟨#[]⟩, .int .i64 0, .int .i64 2, .int .i64 2, .string ⟨#[]⟩, .int .i64 0]) rfl (by kernel_rfl) (by kernel_rfl) (by kernel_rfl) (fun _ _ _ h => h) (Or.inl ⟨by rfl, fun w hSw => ?_⟩) hHeld ?_
  · first | rfl | go_simp
  simp only [Act.put, List.setIfInBounds_toArray, List.set_cons_zero, List.set_cons_succ, List.getElem_toArray, List.getElem_cons_zero, List.getElem_cons_succ]
  have hal : ∀ w' : World, OutB w' bb rgU (.slice (some ⟨tg, 0, none⟩) n tcb) ∧ ValB w' tw rgT → OutB (w'.alloc (.cells #[.int .i64 2, .int .i64 2, .string ⟨#[]⟩, .int .i64 0, .int .i64 2, .int .i64 2, .string ⟨#[]⟩, .int .i64 0] 39)) bb rgU (.slice (some ⟨tg, 0, none⟩) n tcb) ∧ ValB (w'.alloc (.cells #[.int .i64 2, .int .i64 2, .string ⟨#[]⟩, .int .i64 0, .int .i64 2, .int .i64 2, .string ⟨#[]⟩, .int .i64 0] 39)) tw rgT := fun w' h => ⟨blkB h.1 ((Below.refl _ _).alloc (Nat.le_refl _) _), blkB h.2 ((Below.refl _ _).alloc (Nat.le_refl _) _)⟩
  apply share0
  · intro hG
    refine wpAnyH_ready (rs := [10, 14]) (by kernel_rfl) (by simp) ?_
    refine AllReadyH.cons rfl (fun K' hK' => ?_) (AllReadyH.cons rfl (fun K' hK' => ?_) AllReadyH.nil)
    · go_simp
      refine hK'.out _ _ ⟨HG10.out, HV10.out⟩ (fun hHeld => ?_)
      clear hK'
      try simp only [Act.put, List.setIfInBounds_toArray, List.set_cons_zero, List.set_cons_succ, List.getElem_toArray, List.getElem_cons_zero, List.getElem_cons_succ]
      refine wpAnyH_ready (rs := [14]) (by kernel_rfl) (by simp) ?_
      refine AllReadyH.cons rfl (fun K' hK' => ?_) AllReadyH.nil
      go_simp
      refine hK'.out _ _ (hal _ ⟨HG10.out, HV10.out⟩) (fun hHeld => ?_)
      clear hK'
      try simp only [Act.put, List.setIfInBounds_toArray, List.set_cons_zero, List.set_cons_succ, List.getElem_toArray, List.getElem_cons_zero, List.getElem_cons_succ]
      exact hG.out
    · go_simp
      refine hK'.out _ _ (hal _ ⟨HG10.out, HV10.out⟩) (fun hHeld => ?_)
      clear hK'
      try simp only [Act.put, List.setIfInBounds_toArray, List.set_cons_zero, List.set_cons_succ, List.getElem_toArray, List.getElem_cons_zero, List.getElem_cons_succ]
      refine wpAnyH_ready (rs := [10]) (by kernel_rfl) (by simp) ?_
      refine AllReadyH.cons rfl (fun K' hK' => ?_) AllReadyH.nil
      go_simp
      refine hK'.out _ _ (hal _ ⟨HG10.out, HV10.out⟩) (fun hHeld => ?_)
      clear hK'
      try simp only [Act.put, List.setIfInBounds_toArray, List.set_cons_zero, List.set_cons_succ, List.getElem_toArray, List.getElem_cons_zero, List.getElem_cons_succ]
      exact hG.out
  · obtain ⟨w11, hw11⟩ : ∃ w11, w11 = (w10.alloc (.cells #[.int .i64 2, .int .i64 2, .string ⟨#[]⟩, .int .i64 0, .int .i64 2, .int .i64 2, .string ⟨#[]⟩, .int .i64 0] 39)).drew := ⟨_, rfl⟩
    have HB11 : Hid (Below w10.heap.size w10 w11) := by rw [hw11]; exact ((Below.refl _ _).alloc (Nat.le_refl _) _).drew
    have HN11 : Hid (w11.heap[bb + 2]? = some (.cells #[.int .i64 2, .int .i64 2, .string ⟨#[]⟩, .int .i64 0, .int .i64 2, .int .i64 2, .string ⟨#[]⟩, .int .i64 0] 39 (0, 0))) := by rw [hw11, ← hs10]; exact heap_alloc_new w10 _
    have hs11 : w11.heap.size = bb + 3 := by rw [hw11]; show (w10.alloc _).heap.size = _; rw [World.size_alloc]; omega
    rw [← hw11]
    clear hw11
    have HG11 : Hid (OutB w11 bb rgU (.slice (some ⟨tg, 0, none⟩) n tcb)) := blkB HG10.out HB11.out
    have HV11 : Hid (ValB w11 tw rgT) := blkB HV10.out HB11.out
    have HO11 : Hid (OTab w11 (w8.heap.size + 2) (.slice (some ⟨tg, 0, none⟩) n tcb) n PV9 raL raK (raX n)) := HO10.out.below HB11.out
    have hrow : w11.ownsRow (w8.heap.size + 2) 39 8 (.slice oa 1 oc) 1 (pairCells (raK r) (raX n r) 1) := by
      have := HO11.out.rows r (by omega)
      rw [hpv] at this
      exact this
    have hl8 : w8.heap.size + 2 ≤ bb := by omega
    refine wpAnyH_ready (rs := [15]) (by kernel_rfl) (by simp) ?_
    refine AllReadyH.cons rfl (fun K' hK' => ?_) AllReadyH.nil
    refine step_append_lies _ (by rfl) (.tmp 49) (.tmp 53) 35 (by rfl) (w8.heap.size + 2) 39 ip (.agg #[.int .i64 0, .int .i64 0, .string ⟨#[]⟩, .int .i64 0, .int .i64 0, .int .i64 0, .string ⟨#[]⟩, .int .i64 0]) 8 80 Tryz.underlying35 hpi hp0 hp1 hp2 (by rfl) (by omega) (.slice oa 1 oc) 1 (pairCells (raK r) (raX n r) 1) (by rfl) hrow ⟨bb + 2, 0, none⟩ 1 1 [.int .i64 2, .int .i64 2, .string ⟨#[]⟩, .int .i64 0, .int .i64 2, .int .i64 2, .string ⟨#[]⟩, .int .i64 0] (by rfl) (by rfl) (World.news_of_block HN11.out) (by intro u hu; simp at hu; rcases hu with rfl | rfl | rfl | rfl | rfl | rfl | rfl | rfl <;> rfl) (by omega) (by unfold maxLen; omega) (by omega) (by omega) (bb + 3) hs11 ?_
    intro g cap w12 hown12 hgrow12 hat12 hlt12
    have hgr : w11.grownBy w12 (PV9 r).ownBlock := by rw [hpv]; exact hgrow12
    have own12 := HO11.out.own.kept hgr (Or.inr (fun e => types_apart HO11.out.own (HO11.out.rows r (by omega)) (tg := tg) rfl e.symm))
    have htc12 : w12.cell? ⟨tg, r, none⟩ = some (.slice oa 1 oc) := by
      obtain ⟨g2, c2, e2, h2⟩ := owns_cell own12 (k := r) (y := PV9 r) (by simp [show r < n by omega])
      cases e2
      rw [h2, hpv]
      rfl
    have hfz12 : w12.frozen? ⟨tg, r, none⟩ = false := by
      obtain ⟨_, cur, hc⟩ := owns_type own12 (g := tg) rfl
      simp [World.frozen?, hc]
    have HG12 : Hid (OutB w12 bb rgU (.slice (some ⟨tg, 0, none⟩) n tcb)) := (hgr.block bb (by omega) (fun e => by have := HLP.out bb e.symm; omega)).trans HG11.out
    have HV12 : Hid (ValB w12 tw rgT) := (hgr.block tw (by omega) (fun e => by have := HLP.out tw e.symm; omega)).trans HV11.out
    have hsw := HO11.out.swap (r := r) (by omega) (pv := .slice (some ⟨g, 0, none⟩) 2 cap) (l := 2) (k := rbK r) (x := rbX n r) (by rw [pairCells_succ]; exact hown12) hgr (fun g' e => by
      have e' : g = g' := Option.some.inj e
      subst e'
      rcases hat12 with h | h
      · exact Or.inl (by rw [hpv]; exact h)
      · exact Or.inr (by omega))
    have HO13 : Hid (OTab (w12.setCell ⟨tg, r, none⟩ (.slice (some ⟨g, 0, none⟩) 2 cap)) (w8.heap.size + 2) (.slice (some ⟨tg, 0, none⟩) n tcb) n (fun j => if j = r then .slice (some ⟨g, 0, none⟩) 2 cap else PV9 j) (rbL n) rbK (rbX n)) := hsw.congr (fun j hj => by
        by_cases e : j = r
        · simp only [e, if_true]; unfold rbL; rw [if_pos (by omega)]
        · simp only [e, if_false]; unfold rbL; rw [if_neg (by omega)]; rfl) (fun j hj c hc => by
        by_cases e : j = r
        · simp only [e, if_true]; exact ⟨trivial, trivial⟩
        · simp only [e, if_false] at hc ⊢
          have hc0 : c = 0 := by unfold rbL at hc; rw [if_neg (by omega)] at hc; omega
          subst hc0
          exact ⟨rfl, rfl⟩)
    have hbel : Below (w8.heap.size + 2) w11 w12 := below_grown hrow hgrow12 (by omega)
    have HB8 : Hid (Below w8.heap.size w8 (w12.setCell ⟨tg, r, none⟩ (.slice (some ⟨g, 0, none⟩) 2 cap))) := by
      have h1 := grw (grw HB9.out (hbb ▸ HB10.out)) HB11.out
      exact (h1.trans (hbel.mono (by omega))).setCell (p := ⟨tg, r, none⟩) (show w8.heap.size ≤ tg by omega) _
    have HG13 : Hid (OutB (w12.setCell ⟨tg, r, none⟩ (.slice (some ⟨g, 0, none⟩) 2 cap)) bb rgU (.slice (some ⟨tg, 0, none⟩) n tcb)) := (Below.heap_setCell _ _ _ _ (show bb ≠ tg by omega)).trans HG12.out
    have HV13 : Hid (ValB (w12.setCell ⟨tg, r, none⟩ (.slice (some ⟨g, 0, none⟩) 2 cap)) tw rgT) := (Below.heap_setCell _ _ _ _ (show tw ≠ tg by omega)).trans HV12.out
    refine hK'.out _ _ ⟨HG12.out, HV12.out⟩ (fun hHeld => ?_)
    clear hK' hsw hbel hgr own12 hown12 hgrow12 hat12 hlt12 hrow
    try simp only [Act.put, List.setIfInBounds_toArray, List.set_cons_zero, List.set_cons_succ, List.getElem_toArray, List.getElem_cons_zero, List.getElem_cons_succ]
    refine wpAnyH_take (i := 16) (v := .pointer (some ⟨tg, r, none⟩)) rfl (by kernel_rfl) (by kernel_rfl) (by kernel_rfl) (fun _ _ _ h => h) (Or.inl ⟨by rfl, fun w hSw => ?_⟩) hHeld ?_
    · go_simp
    simp only [Act.put, List.setIfInBounds_toArray, List.set_cons_zero, List.set_cons_succ, List.getElem_toArray, List.getElem_cons_zero, List.getElem_cons_succ]
    refine wpAnyH_take (i := 17) (v := .pointer (some ⟨tg, r, none⟩)) rfl (by kernel_rfl) (by kernel_rfl) (by kernel_rfl) (fun _ _ _ h => h) (Or.inl ⟨by rfl, fun w hSw => ?_⟩) hHeld ?_
    · first | rfl | go_simp
    simp only [Act.put, List.setIfInBounds_toArray, List.set_cons_zero, List.set_cons_succ, List.getElem_toArray, List.getElem_cons_zero, List.getElem_cons_succ]
    refine wpAnyH_ready (rs := [18]) (by kernel_rfl) (by simp) ?_
    refine AllReadyH.cons rfl (fun K' hK' => ?_) AllReadyH.nil
    go_simp
    refine hK'.out _ _ ⟨HG13.out, HV13.out⟩ (fun hHeld => ?_)
    clear hK' hHeld
    obtain ⟨w13, hw13⟩ : ∃ w13, w13 = w12.setCell ⟨tg, r, none⟩ (.slice (some ⟨g, 0, none⟩) 2 cap) := ⟨_, rfl⟩
    rw [← hw13] at HO13 HB8 HG13 HV13 ⊢
    have HUa : Hid (OutB w13 ab rgU (.slice ta n tc)) := blkB HU8.out HB8.out
    have HOa : Hid (OTab w13 (w2.heap.size + 2) (.slice ta n tc) n PV raL raK (raX n)) := HO8.out.below HB8.out
    have HW13 : Hid (Below w.heap.size w w13) := grw HW8.out HB8.out
    clear hw13 HG12 HV12 HG11 HV11 HG10 HV10 HO10 HO11 HN11 HB11 HB10 HB9 HB8 HU8 HO8 HW8 htc12 hfz12 htc
    refine wpAnyH_done (by kernel_rfl) ?_ _
    obtain ⟨a0, a1, a2, a3, a4, _⟩ := cells5 HUa.out
    obtain ⟨b0, b1, b2, b3, b4, _⟩ := cells5 HG13.out
    simp only [rgU, rgE] at a0 a1 a2 a3 b0 b1 b2 b3
    have hap := implApart_any rgU rgU ta (some ⟨tg, 0, none⟩) n tc _ _ n tcb _ _ _ _ raL _ _ _ (rbL n) _ _ _ raK (raX n) rbK (rbX n) w13 (by omega) (by omega) (ra_small n) (rb_small n) HOa.out.tabs.2 HO13.out.tabs.2
    go_wp2_with fail
    refine hap.mono ?_
    clear hap
    rintro e w14 ⟨hs14, hb14⟩
    obtain ⟨pv, rfl, hown⟩ := apart_ab h0 hn hs14
    obtain ⟨pa, pc, rfl, _⟩ := owns_form hown
    rw [rgP_keys h0] at hown
    have HVs : Hid (ValsAt w14 pa n (slB (.slice pa n pc)) 0 (rgP n)) := (owns_keys hown).2
    obtain ⟨qb, hqb⟩ : ∃ qb, slB (.slice pa n pc) = qb := ⟨_, rfl⟩
    rw [hqb] at HVs
    have HUa4 : Hid (OutB w14 ab rgU (.slice ta n tc)) := blkB HUa.out hb14
    have HG14 : Hid (OutB w14 bb rgU (.slice (some ⟨tg, 0, none⟩) n tcb)) := blkB HG13.out hb14
    have HV14 : Hid (ValB w14 tw rgT) := blkB HV13.out hb14
    have HOa4 : Hid (OTab w14 (w2.heap.size + 2) (.slice ta n tc) n PV raL raK (raX n)) := HOa.out.below hb14
    have HOb4 : Hid (OTab w14 (w8.heap.size + 2) (.slice (some ⟨tg, 0, none⟩) n tcb) n (fun j => if j = r then .slice (some ⟨g, 0, none⟩) 2 cap else PV9 j) (rbL n) rbK (rbX n)) := HO13.out.below hb14
    have HW14 : Hid (Below w.heap.size w w14) := grw HW13.out hb14
    clear hb14 hs14 hown hqb HUa HG13 HV13 HOa HO13 HW13 a0 a1 a2 a3 a4 b0 b1 b2 b3 b4
    obtain ⟨a0, a1, a2, a3, a4, _⟩ := cells5 HUa4.out
    obtain ⟨b0, b1, b2, b3, b4, _⟩ := cells5 HG14.out
    simp only [rgU, rgE] at a0 a1 a2 a3 b0 b1 b2 b3
    have hsm := implSame_any rgU rgU ta (some ⟨tg, 0, none⟩) n tc _ _ n tcb _ _ _ _ raL _ _ _ (rbL n) _ _ _ raK (raX n) rbK (rbX n) w14 (by omega) (by omega) (ra_small n) (rb_small n) HOa4.out.tabs.2 HOb4.out.tabs.2
    go_wp2_with fail
    refine hsm.mono ?_
    clear hsm
    rintro e w15 ⟨hs15, hb15⟩
    obtain rfl := same_ab h0 hn hs15
    have HG15 : Hid (OutB w15 bb rgU (.slice (some ⟨tg, 0, none⟩) n tcb)) := blkB HG14.out hb15
    have HV15 : Hid (ValB w15 tw rgT) := blkB HV14.out hb15
    have HOb5 : Hid (OTab w15 (w8.heap.size + 2) (.slice (some ⟨tg, 0, none⟩) n tcb) n (fun j => if j = r then .slice (some ⟨g, 0, none⟩) 2 cap else PV9 j) (rbL n) rbK (rbX n)) := HOb4.out.below hb15
    have HV5s : Hid (ValsAt w15 pa n qb 0 (rgP n)) := HVs.out.below hb15
    have HW15 : Hid (Below w.heap.size w w15) := grw HW14.out hb15
    clear hb15 hs15 HUa4 HG14 HV14 HOa4 HOb4 HVs HW14 a0 a1 a2 a3 a4 b0 b1 b2 b3 b4
    obtain ⟨b0, b1, b2, b3, b4, _⟩ := cells5 HG15.out
    simp only [rgU, rgE] at b0 b1 b2 b3
    have hsh := implShrink_any rgU (some ⟨tg, 0, none⟩) n tcb _ _ _ (rbL n) _ _ _ rbK (rbX n) w15 (by omega) (rb_small n) HOb5.out.tabs.2
    go_wp2_with fail
    refine hsh.mono ?_
    clear hsh
    rintro e w16 ⟨hs16, hb16⟩
    obtain ⟨k', a', x', s', ta', cp', rfl⟩ := shrink_b h0 hn hs16
    have HV16 : Hid (ValB w16 tw rgT) := blkB HV15.out hb16
    have HV6s : Hid (ValsAt w16 pa n qb 0 (rgP n)) := HV5s.out.below hb16
    have HW16 : Hid (Below w.heap.size w w16) := grw HW15.out hb16
    clear hb16 hs16 HG15 HV15 HOb5 HV5s HW15 b0 b1 b2 b3 b4
    have hfd := field_tabs k' x' a' s' ta' n cp' w16
    go_wp2
    go_loopw [79] (fun ii wr => ∃ i : Nat, i ≤ n ∧ ii = .int .i64 i ∧ Hid (Below w16.heap.size w16 wr)) (fun ii _ => n - (intOf ii).toNat)
    case atStart => exact ⟨0, Nat.zero_le _, rfl, Below.refl _ _⟩
    case round =>
      obtain ⟨i, hi, rfl, HBr⟩ := hrel
      by_cases hlt : i < n
      · obtain rfl := HV6s.out.top (by omega)
        obtain ⟨k0, k1, k2, k3⟩ := (HV6s.out.below HBr.out).cells hlt
        simp only [Nat.zero_add] at k0 k1 k2 k3
        have HVr : Hid (ValB wr tw rgT) := blkB HV16.out HBr.out
        have lw : tw < wr.heap.size := blk_lt HVr.out
        obtain ⟨t0, t1, t2, t3, _⟩ := cells4 HVr.out
        simp only [rgT, rgE] at t0 t1 t2 t3
        have il : (0 : Int) ≤ (i : Int) ∧ (i : Int) < (n : Int) := by omega
        by_cases er : i = r
        · have ek : rgP n i = ⟨2, 2, ⟨#[]⟩, 0⟩ := by unfold rgP; rw [if_pos (by have := HRn.out; omega)]; rfl
          rw [ek] at k0 k1 k2 k3
          have eb : ((i : Int) == (r : Int)) = true := by simp [er]
          clear er ek
          go_wp2
          go_roundw
          case rel => exact ⟨i + 1, by omega, by go_num, grw HBr.out (((Below.refl _ _).alloc (Nat.le_refl _) _).alloc (by simp) _)⟩
          case measure => simp [intOf]; omega
        · have ek : rgP n i = ⟨2, 1, ⟨#[]⟩, 0⟩ := by unfold rgP; rw [if_neg (by have := HRn.out; omega)]; rfl
          rw [ek] at k0 k1 k2 k3
          have eb : ((i : Int) == (r : Int)) = false := by simp; omega
          clear er ek
          go_wp2
          go_roundw
          case rel => exact ⟨i + 1, by omega, by go_num, grw HBr.out (((Below.refl _ _).alloc (Nat.le_refl _) _).alloc (by simp) _)⟩
          case measure => simp [intOf]; omega
      · obtain rfl : i = n := by omega
        go_wp2
        go_ret
        exact ⟨rfl, grw HW16.out HBr.out⟩

end Go.Proofs.YtgflalfiopnmnaaGreatDoor

/-
  What a law is told of the bytes that come in.
-/
namespace Go.Proofs.YtgflalfiopnmnaaGreatDoor
open Go.RowKit Vl
open Go.ChangeShapes Go.WideShapes Go.ChangeAt

theorem laidOutK : laidOutB Tryz.prog = true := by kernel_rfl
theorem ownK : ownKnob Tryz.prog.godebug = none := by kernel_rfl
theorem Tryz.cellsU8 : Tryz.prog.cellsOf 5 = 1 := by kernel_rfl

theorem addr_plus (b o i : Nat) : Addr.add ⟨b, o, none⟩ i = ⟨b, o + i, none⟩ := by
  unfold Addr.add
  by_cases h : i = 0 <;> simp [h]

/-- What a law is told of its bytes. -/
theorem byteR_of {w : World} {x : Addr} {len cap : Nat} {zs : List Int} (hl : len ≤ cap) (hm : cap ≤ maxLen) (hz : zs.length = cap) (hcell : ∀ i, i < zs.length → w.cell? (x.add i) = some (.int .u8 (zs.getD i 0))) (hw : ∀ n ∈ zs, (Lit.int .u8 n).wf = true) :
    ∃ b off, ByteR w (some x) len b off ∧ len ≤ 9223372036854775807 := by
  unfold maxLen at hm
  by_cases h1 : 0 < len
  · have hc := hcell 0 (by omega)
    have hx : x = ⟨x.block, x.off, none⟩ := by
      obtain ⟨b, off, spot⟩ := x
      have hspot : spot = none := by simpa [Addr.add] using World.cell?_spot hc
      subst hspot
      rfl
    refine ⟨x.block, x.off, fun i hi => ⟨by rw [← hx], ?_⟩, by omega⟩
    have hmem : zs.getD i 0 ∈ zs := by
      have : i < zs.length := by omega
      simp [List.getD, List.getElem?_eq_getElem this]
    have hb : 0 ≤ zs.getD i 0 ∧ zs.getD i 0 ≤ 255 := by simpa [Lit.wf, IntKind.min, IntKind.max, IntKind.signed, IntKind.bits] using hw _ hmem
    refine ⟨(zs.getD i 0).toNat, by omega, ?_⟩
    have e : ((zs.getD i 0).toNat : Int) = zs.getD i 0 := Int.toNat_of_nonneg hb.1
    have hci := hcell i (by omega)
    rw [hx, addr_plus] at hci
    rw [e]
    exact hci
  · exact ⟨0, 0, fun i hi => by omega, by omega⟩

end Go.Proofs.YtgflalfiopnmnaaGreatDoor

namespace Go.Proofs.YtgflalfiopnmnaaGreatDoor
open Go.RowKit Vl
open Go.ChangeShapes Go.WideShapes Go.ChangeAt Go.Joins

theorem gPow : Tryz.prog.globalNamed "internal/strconv.uint64pow10" = some 1 := by kernel_rfl
theorem gPowType : (Tryz.prog.globals[1]?).map (·.type) = some 278 := by kernel_rfl
theorem cellsU64 : Tryz.prog.cellsOf 49 = 1 := by kernel_rfl
theorem cellsPow : Tryz.prog.cellsOf 278 = 20 := by kernel_rfl
theorem powData : (Rows.laid_internal_strconv_uint64pow10 : DataW Unit) = Lib.tabData .u64 Lib.pow10Tab := by rfl

/-- The powers stand in their table, now and later. -/
theorem tab_of {W : World} (h : laidMetH Tryz.prog Rows.fnRingsRow.laid W) : Tab W := by
  rw [MakeChecks.laidMetH_plain _ _ _ (by kernel_rfl)] at h
  have h3 : laidMet Tryz.prog (("internal/strconv.uint64pow10", Lib.tabData .u64 Lib.pow10Tab) :: []) W := by
    have h2 : laidMet Tryz.prog [("internal/strconv.uint64pow10", Rows.laid_internal_strconv_uint64pow10)] W := (laidMet.tail (laidMet.tail h))
    rw [powData] at h2
    exact h2
  have hT : Lib.TabIs Tryz.prog W "internal/strconv.uint64pow10" .u64 Lib.pow10Tab := Lib.tabIs_of_head gPow gPowType Tryz.underlying278 Tryz.underlying49 cellsU64 cellsPow h3
  intro W' hb
  unfold Lib.TabIs at hT ⊢
  have hc := World.var?_cell gPow hT 0
  have hlt : 1 < W.heap.size := by
    have h0 : W.cell? ⟨1, 0, none⟩ = some (.int .u64 1) := by rw [hc]; rfl
    simpa using World.block_lt_of_cell? _ _ h0
  exact var?_below hb gPow hlt hT

/-- One start that fits: the tables as their initialisers lay them. -/
def numsOf : DataW Unit → List Int
  | .agg ps => ps.filterMap fun | .lit (.int _ z) => some z | _ => none
  | _ => []
def putTab (k : IntKind) (zs : List Int) : Obj → Obj
  | .cells _ t frozen => .cells (zs.map fun z => Value.int k z).toArray t frozen
  | o => o
def laidTabs (W : World) : World := { W with heap := ((W.heap.modify 2 (putTab .u8 (numsOf Rows.laid_math_bits_deBruijn32tab))).modify 3 (putTab .u8 (numsOf Rows.laid_math_bits_deBruijn64tab))).modify 1 (putTab .u64 (numsOf Rows.laid_internal_strconv_uint64pow10)) }
theorem laid_tabs (os : Os) (args : Array Value) : laidMet Tryz.prog Rows.fnRingsRow.laid ((laidTabs (World.holding Tryz.prog os ⟨#[], #[], []⟩)).forCall (fun _ _ => 0) ⟨#[], args, []⟩).memory :=
  laidMet_of_run3 8 (by kernel_rfl) (by kernel_rfl) (by kernel_rfl)

set_option maxRecDepth 100000 in
theorem ringsContract (H : Type) (enc : TypeId × Value → H) (W : World) (base : Nat) (args : Array Value) (ds gs : List (DataW H)) (before : List MemPlace)
    (hval : ∀ (j : Nat) t v, Tryz.f5.params[j]? = some t → args[j]? = some v → Value.okWide Tryz.prog W .any base t v)
    (hW : DataW.Whole enc Tryz.prog Tryz.f5.params.toList Rows.fnRingsSpec.vars false W args.toList ds gs before) (hL : laidMetH Tryz.prog Rows.fnRingsRow.laid W) :
    Calls Tryz.prog 5 args W fun e W' => ∃ v, e = .returned v ∧ Rows.fnRingsSpec.post enc Tryz.prog Tryz.f5 false true false false W args v W' := by
  have hW' := hW
  obtain ⟨p, q, hA0, hV, rfl, hfz, hnd⟩ := hW
  have hA : DataW.TrodAll enc Tryz.prog W 0 (fun _ => true) true Tryz.f5.params.toList args.toList ds p := hA0
  rw [Tryz.params5] at hA hval
  obtain ⟨v0, vs0, d0, ds0, p0, q0, hargs, rfl, rfl, h0, r0⟩ := trodAll_cons hA
  obtain ⟨rfl, rfl, rfl⟩ := trodAll_nil r0
  obtain rfl : args = #[v0] := by cases args; simp_all
  obtain ⟨rfl, rfl⟩ := trodVars_none hV
  have k0 := h0
  have lt0 : ∀ x ∈ p0, x.block < W.heap.size := by obtain ⟨m, hm⟩ := k0; exact DataW.trod_lt m _ _ _ hm
  obtain ⟨a0, len0, cap0, rfl⟩ := okWide_slice Tryz.underlying22 (hval 0 22 v0 rfl rfl)
  obtain ⟨b, off, hB⟩ : ∃ b off, ByteR W a0 len0 b off ∧ len0 ≤ 9223372036854775807 := by
    obtain ⟨fuel, hf⟩ := h0
    rcases open_ints Tryz.underlying22 Tryz.underlying5 Tryz.cellsU8 hf with ⟨hcs, _⟩ | ⟨x, l, c, zs, hcs, _, hl, hm, hz, _, hcell, hwz⟩
    · simp [Value.cells] at hcs
      obtain ⟨rfl, rfl, rfl⟩ := hcs
      exact ⟨0, 0, fun i hi => by omega, by omega⟩
    · simp [Value.cells] at hcs
      obtain ⟨rfl, rfl, rfl⟩ := hcs
      exact byteR_of hl hm (by simpa using hz) hcell hwz
  clear hA0
  refine (ringsLaw a0 len0 cap0 b off W hB.1 hB.2 (tab_of hL)).mono fun e W' ⟨he, bel⟩ => ?_
  subst he
  exact ⟨_, rfl, _, _, _, [], _, [], hW', trodAll_mk1 (shut_bool Tryz.underlying4 _), (trodAll_cons_mk (Below.trod laidOutK (by kernel_rfl) (of_decide_eq_true (by kernel_rfl)) k0 bel lt0) trodAll_mk0), rfl, bel.frame _, fun h => by cases h⟩

set_option maxRecDepth 100000 in
theorem ringsLifted (os : Os) (started : os.Started) (H : Type) (enc : TypeId × Value → H) (F : Stop.Interp) :
    ReturnsInHanded {} Tryz.checked os 5 .any ((OpenSpec.ofChange Rows.fnRingsSpec).preRow enc Tryz.prog Tryz.f5 Rows.fnRingsRow.domain false Rows.fnRingsRow.laid) (((OpenSpec.ofChange Rows.fnRingsSpec).at F).post enc Tryz.prog Tryz.f5 false true false false) := by
  refine returnsInHanded_of_row (C := Tryz.checked) (s := OpenSpec.ofChange Rows.fnRingsSpec) ownK started (by kernel_rfl) Tryz.func5
    (witness_row_at (enc := enc) (C := Tryz.checked) false (laidTabs (World.holding Tryz.prog os ⟨#[], #[], []⟩)) #[.slice none 0 0] rfl (by kernel_rfl) (by kernel_rfl) (by kernel_rfl)
      (OpenSpec.preRow_of_B rfl 8 (by kernel_rfl) (by kernel_rfl) (laid_tabs os _))) ?_
  intro W base args ds gs before hval hW _ _ _ hL _ _
  exact ringsContract H enc W base args ds gs before hval hW hL

theorem ringsSaid : Rows.FnRingsSaid :=
  OpenClaim.holds_of_cond 5 Tryz.f5 rfl rfl rfl rfl rfl rfl rfl ⟨rfl, rfl, rfl, rfl, rfl⟩ rfl rfl rfl rfl rfl (by kernel_rfl) Tryz.func5 (by kernel_rfl)
    (of_decide_eq_true (by kernel_rfl)) (by unfold Func.isWrapper; first | (rw [if_pos (by decide +kernel)]; kernel_rfl) | (rw [if_neg (by decide +kernel)]; exact ⟨rfl, rfl⟩))
    (fun os started H enc _ F => by rw [OpenClaim.pre_eq_preRow]; exact ringsLifted os started H enc F)

/-- No parameter wants a stand-in; the program's own looks: what the card asks. -/
theorem ringsPlain (f : FuncId) (fn : Func) (hf : Tryz.pinned.checked.prog.funcNamed "loop.example/cloth/laws.FnRings" = some f) (hfn : Tryz.pinned.checked.prog.funcs[f]? = some fn) :
    true = Tryz.pinned.checked.prog.looks [] ∧ ∀ (j : Nat) t, fn.params[j]? = some t → Tryz.pinned.checked.prog.wantsStandIn t = false := by
  obtain rfl : f = 5 := Option.some.inj ((show Tryz.prog.funcNamed "loop.example/cloth/laws.FnRings" = some 5 by kernel_rfl).symm.trans hf) |>.symm
  obtain rfl : fn = Tryz.f5 := (Option.some.inj (Tryz.func5.symm.trans hfn)).symm
  refine ⟨by kernel_rfl, fun j t ht => ?_⟩
  rw [Tryz.params5] at ht
  obtain rfl : t = 22 := by simpa using Array.mem_of_getElem? ht
  exact (show Tryz.prog.wantsStandIn 22 = false by kernel_rfl)

theorem rings_card : Rows.FnRingsCardSaid :=
  Claim7.holds_tied_plain_at .later [] _ _ _ _ ringsSaid (fun _ h => by cases h) (by kernel_rfl) (fun _ h => by cases h) fnRings_row_tie rfl ⟨rfl, rfl⟩ (by kernel_rfl) rfl ringsPlain (by kernel_rfl)
#print axioms rings_card
end Go.Proofs.YtgflalfiopnmnaaGreatDoor
