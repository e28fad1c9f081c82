import Derived.Test.YtgflalfiopnmnabCnPairs
import Derived.Test.YtgflalfiopnmnabCnMeet
namespace Go.Proofs.Ytgflalfiopnmnab
open Go.RowKit Vl

theorem share3 {F : Option Addr → Nat → World → Prop} {G : Option Addr → Nat → World → Prop} {P : Prop} (h : Hid (∀ a c w, F a c w → G a c w) → P) (g : ∀ a c w, F a c w → G a c w) : P := h g

theorem atV_renum {at_ : Nat → Int} {S : List Nat} (h : ∀ j, j < S.length → at_ (S.getD j 0) = j) {v : V} (hv : v.k = 4 → v.a.toNat ∈ S) : atV at_ v = renum S v := by
  unfold atV renum
  by_cases h4 : v.k = 4
  · rw [if_pos h4, if_pos h4]
    have hm := hv h4
    have hi := List.idxOf_lt_length_of_mem hm
    have := h _ hi
    rw [List.getD_eq_getElem?_getD, List.getElem?_eq_getElem hi] at this
    simp only [List.getElem_idxOf, Option.getD_some] at this
    rw [this]
  · rw [if_neg h4, if_neg h4]

set_option maxHeartbeats 4000000 in
set_option maxRecDepth 100000 in
/-- 'canonical'. -/
theorem canonical_any (n : Nat) (T M : Nat → Nat) (at_ : Nat → Int) (L : Nat → Nat) (K X : Nat → Nat → V) (u : V) (w : World) (hn : n ≤ 400) (HL : Hid (∀ r, r < n → L r ≤ 100)) (HG : Hid (Good n L X)) (hu : isV n u = true) (HT : Hid (Tbs w n T M at_ L K X)) (S : List Nat) (HS : Hid (order n u L X = S)) :
    Calls Try.prog 56 #[ifv T u] w fun e w' => (∃ (tv : Value) (PV : Nat → Value) (base : Nat), w.heap.size ≤ base ∧ e = .returned (.agg #[.int .i64 (renum S u).k, .int .i64 (renum S u).n, .string (renum S u).s, .int .i64 (renum S u).a, tv]) ∧ OTab w' base tv S.length PV (cL S L) (cK S K) (cX S X)) ∧ Only (fun k => ∃ j, j < n ∧ k = T j) w w' := by
  obtain ⟨ru, HRU⟩ : ∃ ru, Hid (renum S u = ru) := ⟨_, rfl⟩
  rw [HRU.out]
  obtain ⟨xt, xy, hxv⟩ := ifv_form T u
  have HXV : Hid (ifv T u = .iface xt xy) := hxv
  rw [hxv]
  clear hxv
  have A3 : Hid _ := alloc3 w (.cells #[.int .i64 0, .int .i64 0, .string ⟨#[]⟩, .int .i64 0, .slice none 0 0] 32) (.map #[] 0) (.cells #[.slice none 0 0, .map (some (w.heap.size + 1))] 147)
  obtain ⟨w1, hw1⟩ : ∃ w1, w1 = ((w.alloc (.cells #[.int .i64 0, .int .i64 0, .string ⟨#[]⟩, .int .i64 0, .slice none 0 0] 32)).alloc (.map #[] 0)).alloc (.cells #[.slice none 0 0, .map (some (w.heap.size + 1))] 147) := ⟨_, rfl⟩
  have HR1 : Hid (OutB w1 w.heap.size zeroV (.slice none 0 0)) := by rw [hw1]; exact A3.out.1
  have HSB : Hid (SpB w (w.heap.size + 2) (w.heap.size + 1) (w.heap.size + 3)) := show SpB _ _ _ _ from ⟨by omega, by omega, by omega, by omega, by omega⟩
  have HM1 : Hid (MtW w w1 (w.heap.size + 2) (w.heap.size + 1) (w.heap.size + 3) T (.slice none 0 0) [] []) := by
    rw [hw1]
    exact ⟨A3.out.2.2.1, ⟨#[], 0, A3.out.2.1, rfl⟩, World.ownsRow_nil _ _ _ _, A3.out.2.2.2.2⟩
  have Z1 : w1.heap.size = w.heap.size + 3 := by rw [hw1]; exact A3.out.2.2.2.1
  have hcall := meet_any n T M at_ L K X w (w.heap.size + 2) (w.heap.size + 1) (w.heap.size + 3) hn HL HG HT HSB (n + 1) [] u w1 (.slice none 0 0) (Fit.nil n) hu (by simp) (by omega) HM1
  rw [show met L X (n + 1) [] u = S from HS.out, HXV.out] at hcall
  have hmm := @run_makeMap Try.prog
  clear A3
  go_enter Try.func56, Try.ntmps56
  go_wp2_with fail
  rw [← hw1]
  refine hcall.mono ?_
  clear hcall hw1 hmm
  rintro e w2 ⟨rfl, mv, hW2, hF2⟩
  have HW2 : Hid (MtW w w2 (w.heap.size + 2) (w.heap.size + 1) (w.heap.size + 3) T mv S S) := hW2
  have HR2 : Hid (OutB w2 w.heap.size zeroV (.slice none 0 0)) := hF2.blk HR1.out (by omega) (by omega) (by simp [Value.ownBlock])
  have hs2 : w.heap.size + 3 ≤ w2.heap.size := by have := hF2.only.size; omega
  clear hW2 hF2 HM1 HR1 Z1
  have HOA : Hid (Fit n S ∧ (∀ r ∈ S, ∀ c, c < L r → (X r c).k = 4 → (X r c).a.toNat ∈ S) ∧ (u.k = 4 → u.a.toNat ∈ S)) := by
    obtain ⟨a, b, c⟩ := met_all HG.out (n + 1) [] u (Fit.nil n) hu (by simp)
    rw [show met L X (n + 1) [] u = S from HS.out] at a b c
    exact ⟨a.fit, fun r hr => b r hr (by simp), c⟩
  have hSl : S.length ≤ 400 := Nat.le_trans HOA.out.1.len hn
  obtain ⟨ma, mc, rfl, hmk⟩ := owns_form HW2.out.own
  have HMK : Hid (∀ k, (Value.slice ma S.length mc).ownBlock = some k → w.heap.size + 3 ≤ k ∧ k < w2.heap.size) := hmk
  clear hmk
  have HT2 : Hid (Tbs w2 n T M at_ L K X) := HT.out.below HW2.out.bel
  have HTl : Hid (∀ j, j < n → T j < w.heap.size) := show ∀ j, _ from fun j hj => HT.out.lt hj
  obtain ⟨x0, x1, xz⟩ := two_at HW2.out.blk
  go_wp2
  clear x0 x1 xz
  go_loopw [20] (fun ii wr => ∃ (i : Nat) (at' : Nat → Int), i ≤ S.length ∧ ii = .int .i64 i ∧ Hid (Tbs wr n T M at' L K X) ∧ Hid (∀ j, j < i → at' (S.getD j 0) = j) ∧ Hid (Only (fun k => ∃ j, j < n ∧ k = T j) w2 wr)) (fun ii _ => S.length - (intOf ii).toNat)
  case atStart => exact ⟨0, at_, Nat.zero_le _, rfl, HT2, fun j hj => absurd hj (Nat.not_lt_zero _), Only.refl _ _⟩
  case round =>
    obtain ⟨i, at', hi, rfl, HTr, HAr, HLr⟩ := hrel
    have HOr : Hid (wr.ownsRow (w.heap.size + 3) 92 1 (.slice ma S.length mc) S.length (ptrs T S)) := HLr.out.ownsB HW2.out.own (fun g hg ⟨j, hj, e⟩ => by have := (HMK.out g hg).1; have := HTl.out j hj; omega)
    by_cases hlt : i < S.length
    · obtain ⟨s, hs⟩ : ∃ s, S[i]? = some s := ⟨S[i], by simp [hlt]⟩
      have hsS : s ∈ S := List.mem_of_getElem? hs
      have hsn : s < n := HOA.out.1.lt s hsS
      have HD : Hid (S.getD i 0 = s) := by show _ = _; simp [hs]
      obtain ⟨og, oc', he, hog⟩ := owns_cell HOr.out (k := i) (y := ptr (T s)) (by simp [ptrs, hs])
      cases he
      obtain ⟨ord, hTb, _⟩ := HTr.out.tab s hsn
      obtain ⟨t0, _, _, tz⟩ := hTb.cells
      have hbi : (0 : Int) ≤ (i : Int) ∧ (i : Int) < (S.length : Int) := by omega
      clear hTb
      go_wp2
      go_roundw
      case rel =>
        refine ⟨i + 1, _, by omega, by go_num, HTr.out.setAt hsn _, fun j hj => ?_, HLr.out.set ⟨s, hsn, rfl⟩ _⟩
        by_cases e : j = i
        · subst e
          show (if S.getD j 0 = s then _ else _) = _
          rw [if_pos HD.out]
        · show (if S.getD j 0 = s then _ else _) = _
          have hjl : j < S.length := by omega
          rw [if_neg (fun e' => e ?_)]
          · exact HAr.out j (by omega)
          · rw [← HD.out] at e'
            rw [List.getD_eq_getElem?_getD, List.getD_eq_getElem?_getD, List.getElem?_eq_getElem hjl, List.getElem?_eq_getElem hlt] at e'
            simp only [Option.getD_some] at e'
            exact (List.getElem_inj HOA.out.1.nd).1 e'
      case measure => simp [intOf]; omega
    · obtain rfl : i = S.length := by omega
      have HBx : Hid (OutB wr w.heap.size zeroV (.slice none 0 0)) := (HLr.out.block _ (blk_lt HR2.out) (fun ⟨j, hj, e⟩ => by have := HTl.out j hj; omega)).trans HR2.out
      have HWx : Hid (wr.heap[w.heap.size + 2]? = some (.cells #[.slice ma S.length mc, .map (some (w.heap.size + 1))] 147 (0, 0))) := (HLr.out.block _ (blk_lt HW2.out.blk) (fun ⟨j, hj, e⟩ => by have := HTl.out j hj; omega)).trans HW2.out.blk
      have HLx : Hid (Only (fun k => ∃ j, j < n ∧ k = T j) w wr) := (Only.mono (Only.below HW2.out.bel) (fun k _ h => h)).trans HLr.out
      have HRN : Hid (∀ v : V, (v.k = 4 → v.a.toNat ∈ S) → atV at' v = renum S v) := show ∀ v, _ from fun v hv => atV_renum HAr.out hv
      have hsr := HLr.out.size
      obtain ⟨xt', xy', F, hty, hmeth, hcf, hcl⟩ := as_at hu T at'
      have hxx := HXV.out
      rw [hty] at hxx
      cases hxx
      have hcall := hcl wr HTr.out.at0
      rw [HRN.out u HOA.out.2.2] at hcall
      clear hcl hty HR2 HT2 HW2 HLr
      rw [HRU.out] at hcall
      go_wp2_with fail
      refine hcall.mono ?_
      clear hcall hmeth hcf
      rintro e w3 ⟨rfl, hb3⟩
      have HT3 : Hid (Tbs w3 n T M at' L K X) := HTr.out.below hb3
      have HB3 : Hid (OutB w3 w.heap.size zeroV (.slice none 0 0)) := blkB HBx.out hb3
      have HW3 : Hid (w3.heap[w.heap.size + 2]? = some (.cells #[.slice ma S.length mc, .map (some (w.heap.size + 1))] 147 (0, 0))) := blkB HWx.out hb3
      have HO3 : Hid (w3.ownsRow (w.heap.size + 3) 92 1 (.slice ma S.length mc) S.length (ptrs T S)) := (Only.below (P := fun _ => False) hb3).owns HOr.out (fun _ _ _ h => h)
      have HL3 : Hid (Only (fun k => ∃ j, j < n ∧ k = T j) w w3) := HLx.out.trans (Only.below hb3)
      have hs3 : w.heap.size + 3 ≤ w3.heap.size := by have := hb3.size; omega
      clear hb3 HTr HBx HWx HOr HLx HAr hsr
      obtain ⟨w4, hw4⟩ : ∃ w4, w4 = w3.alloc (.cells #[.int .i64 ru.k, .int .i64 ru.n, .string ru.s, .int .i64 ru.a, .slice none 0 0] 32) := ⟨_, rfl⟩
      have hb4 : Below w3.heap.size w3 w4 := by rw [hw4]; exact (Below.refl _ _).alloc (Nat.le_refl _) _
      have HU4 : Hid (OutB w4 w3.heap.size ru (.slice none 0 0)) := by rw [hw4]; exact heap_alloc_new _ _
      have hs4 : w4.heap.size = w3.heap.size + 1 := by rw [hw4]; simp
      have HT4 : Hid (Tbs w4 n T M at' L K X) := HT3.out.below hb4
      have HB4 : Hid (OutB w4 w.heap.size zeroV (.slice none 0 0)) := blkB HB3.out hb4
      have HW4 : Hid (w4.heap[w.heap.size + 2]? = some (.cells #[.slice ma S.length mc, .map (some (w.heap.size + 1))] 147 (0, 0))) := blkB HW3.out hb4
      have HO4 : Hid (w4.ownsRow (w.heap.size + 3) 92 1 (.slice ma S.length mc) S.length (ptrs T S)) := (Only.below (P := fun _ => False) hb4).owns HO3.out (fun _ _ _ h => h)
      have HL4 : Hid (Only (fun k => ∃ j, j < n ∧ k = T j) w w4) := HL3.out.trans (Only.below hb4)
      have HMK4 : Hid (∀ k, (Value.slice ma S.length mc).ownBlock = some k → w.heap.size + 3 ≤ k ∧ k < w3.heap.size) := show ∀ k, _ from fun k hk => by obtain ⟨_, _, _, h⟩ := owns_form HO3.out; exact h k hk
      obtain ⟨ob, hob⟩ : ∃ ob, w3.heap.size = ob := ⟨_, rfl⟩
      have x0 : w4.cell? ⟨w.heap.size + 1 + 1, 0, none⟩ = some (.slice ma S.length mc) := (two_at HW4.out).1
      rw [hw4] at x0
      have l3 : w.heap.size + 1 + 1 < w3.heap.size := by omega
      unfold vAgg
      go_wp2
      rw [← hw4]
      rw [hob] at HU4 HMK4 hs4 hs3
      clear x0 hw4 hb4 HT3 HB3 HW3 HO3 HL3 hob l3
      obtain ⟨it, hti, ht0, ht1, ht2⟩ := info_parts Try.info61
      go_loopw [38] (fun ii wr => ∃ (i : Nat) (tv : Value) (PV : Nat → Value), i ≤ S.length ∧ ii = .int .i64 i ∧ Hid (OutB wr ob ru tv) ∧ Hid (OTab wr w4.heap.size tv i PV (cL S L) (cK S K) (cX S X)) ∧ Hid (Only (fun k => k = ob) w4 wr)) (fun ii _ => S.length - (intOf ii).toNat)
      case atStart => exact ⟨0, _, fun _ => .nilIface, Nat.zero_le _, rfl, HU4, OTab.nil _ _ _ _ _ _, Only.refl _ _⟩
      case round =>
        obtain ⟨i, tv, PV, hi, rfl, HOr, HTr, HLr⟩ := hrel
        have hsr := HLr.out.size
        by_cases hlt : i < S.length
        · obtain ⟨s, hs⟩ : ∃ s, S[i]? = some s := ⟨S[i], by simp [hlt]⟩
          have hsS : s ∈ S := List.mem_of_getElem? hs
          have hsn : s < n := HOA.out.1.lt s hsS
          have HD : Hid (S.getD i 0 = s) := by show _ = _; simp [hs]
          have HRr : Hid (wr.ownsRow (w.heap.size + 3) 92 1 (.slice ma S.length mc) S.length (ptrs T S)) := HLr.out.ownsB HO4.out (fun g hg e => by have := (HMK4.out g hg).2; omega)
          obtain ⟨og, oc', he, hog⟩ := owns_cell HRr.out (k := i) (y := ptr (T s)) (by simp [ptrs, hs])
          cases he
          have HTb : Hid (Tbs wr n T M at' L K X) := HT4.out.only' HLr.out HU4.out (by decide) (by decide)
          have hbi : (0 : Int) ≤ (i : Int) ∧ (i : Int) < (S.length : Int) := by omega
          have hLs := HL.out s hsn
          have hpairs := pairs_any n T M at' L K X s wr.drew hsn hLs HG (HTb.out.below ((Below.refl _ _).drew))
          obtain ⟨ta', tc', rfl, htk⟩ := owns_form HTr.out.own
          obtain ⟨c0, c1, c2, c3, c4, z0⟩ := cells5 HOr.out
          have HN1 : Hid (∀ g, (Value.slice ta' i tc').ownBlock = some g → g < wr.heap.size) := show ∀ g, _ from fun g hg => (htk g hg).2
          have lob : ob < wr.heap.size := by omega
          clear htk
          go_wp2
          refine wp_region_held_drew (S := fun _ => True) (by kernel_rfl) trivial (fun hHeld => ?_)
          refine wpAnyH_take (i := 0) (v := .pointer (some ⟨ob, 4, none⟩)) rfl (by kernel_rfl) (by kernel_rfl) (by kernel_rfl) (fun _ _ _ h => h) (Or.inl ⟨by rfl, fun w hSw => ?_⟩) hHeld ?_
          · first | rfl | go_simp
          simp only [Act.put, List.setIfInBounds_toArray, List.set_cons_zero, List.set_cons_succ, List.getElem_toArray, List.getElem_cons_zero]
          refine wpAnyH_take (i := 2) (v := .pointer (some ⟨T s, 0, none⟩)) rfl (by kernel_rfl) (by kernel_rfl) (by kernel_rfl) (fun _ _ _ h => h) (Or.inl ⟨by rfl, fun w hSw => ?_⟩) hHeld ?_
          · first | rfl | go_simp
          simp only [Act.put, List.setIfInBounds_toArray, List.set_cons_zero, List.set_cons_succ, List.getElem_toArray, List.getElem_cons_zero, List.getElem_cons_succ]
          apply share3 (F := fun pa pc w5 => w5.ownsRow wr.heap.size 63 8 (.slice pa (L s) pc) (L s) (pairCells (K s) (fun c => atV at' (X s c)) (L s)) ∧ Below wr.heap.size wr.drew w5)
          · intro hG
            refine wpAnyH_ready (rs := [1, 3]) (by kernel_rfl) (by simp) ?_
            refine AllReadyH.cons rfl (fun K' hK' => ?_) (AllReadyH.cons rfl (fun K' hK' => ?_) AllReadyH.nil)
            · go_simp
              refine hK'.out _ _ trivial (fun hHeld => ?_)
              clear hK'
              refine wpAnyH_ready (rs := [3]) (by kernel_rfl) (by simp) ?_
              refine AllReadyH.cons rfl (fun K' hK' => ?_) AllReadyH.nil
              go_simp
              refine hpairs.mono ?_
              rintro e w5 ⟨⟨pv, rfl, hown⟩, hb5⟩
              obtain ⟨pa, pc, rfl, _⟩ := owns_form hown
              refine hK'.out _ _ trivial (fun hHeld => ?_)
              clear hK'
              refine wpAnyH_take (i := 4) (v := .agg #[.slice pa (L s) pc]) rfl (by kernel_rfl) (by kernel_rfl) (by kernel_rfl) (fun _ _ _ h => h) (Or.inl ⟨by rfl, fun w hSw => ?_⟩) hHeld ?_
              · first | rfl | go_simp
              simp only [Act.put, List.setIfInBounds_toArray, List.set_cons_zero, List.set_cons_succ, List.getElem_toArray, List.getElem_cons_zero, List.getElem_cons_succ]
              refine wpAnyH_ready (rs := [5]) (by kernel_rfl) (by simp) ?_
              refine AllReadyH.cons rfl (fun K' hK' => ?_) AllReadyH.nil
              go_simp
              refine hK'.out _ _ trivial (fun hHeld => ?_)
              clear hK'
              exact hG.out pa pc w5 ⟨hown, hb5⟩
            · go_simp
              refine hpairs.mono ?_
              rintro e w5 ⟨⟨pv, rfl, hown⟩, hb5⟩
              obtain ⟨pa, pc, rfl, _⟩ := owns_form hown
              refine hK'.out _ _ trivial (fun hHeld => ?_)
              clear hK'
              have c45 : w5.cell? ⟨ob, 4, none⟩ = some (.slice ta' i tc') := (hb5.cell (p := ⟨ob, 4, none⟩) lob).trans c4
              have l5 : ob < w5.heap.size := Nat.lt_of_lt_of_le lob hb5.size
              refine wpAnyH_take (i := 4) (v := .agg #[.slice pa (L s) pc]) rfl (by kernel_rfl) (by kernel_rfl) (by kernel_rfl) (fun _ _ _ h => h) (Or.inl ⟨by rfl, fun w hSw => ?_⟩) hHeld ?_
              · first | rfl | go_simp
              simp only [Act.put, List.setIfInBounds_toArray, List.set_cons_zero, List.set_cons_succ, List.getElem_toArray, List.getElem_cons_zero, List.getElem_cons_succ]
              refine wpAnyH_ready (rs := [1, 5]) (by kernel_rfl) (by simp) ?_
              refine AllReadyH.cons rfl (fun K' hK' => ?_) (AllReadyH.cons rfl (fun K' hK' => ?_) AllReadyH.nil)
              · go_simp
                refine hK'.out _ _ trivial (fun hHeld => ?_)
                clear hK'
                refine wpAnyH_ready (rs := [5]) (by kernel_rfl) (by simp) ?_
                refine AllReadyH.cons rfl (fun K' hK' => ?_) AllReadyH.nil
                go_simp
                refine hK'.out _ _ trivial (fun hHeld => ?_)
                clear hK'
                exact hG.out pa pc w5 ⟨hown, hb5⟩
              · go_simp
                refine hK'.out _ _ trivial (fun hHeld => ?_)
                clear hK'
                refine wpAnyH_ready (rs := [1]) (by kernel_rfl) (by simp) ?_
                refine AllReadyH.cons rfl (fun K' hK' => ?_) AllReadyH.nil
                go_simp
                refine hK'.out _ _ trivial (fun hHeld => ?_)
                clear hK'
                exact hG.out pa pc w5 ⟨hown, hb5⟩
          · rintro pa pc w5 ⟨hown5, hb5⟩
            have HB5 : Hid (Below wr.heap.size wr w5) := ⟨hb5.os, hb5.tape, hb5.output, hb5.size, hb5.block⟩
            have HU5 : Hid (OutB w5 ob ru (.slice ta' i tc')) := blkB HOr.out HB5.out
            have HT5 : Hid (OTab w5 w4.heap.size (.slice ta' i tc') i PV (cL S L) (cK S K) (cX S X)) := HTr.out.below HB5.out
            have HL5 : Hid (Only (fun k => k = ob) w4 w5) := HLr.out.trans (Only.below HB5.out)
            have HP5 : Hid (w5.ownsRow wr.heap.size 63 8 (.slice pa (L s) pc) (L s) (pairCells (K s) (fun c => renum S (X s c)) (L s))) := by
              have e : pairCells (K s) (fun c => atV at' (X s c)) (L s) = pairCells (K s) (fun c => renum S (X s c)) (L s) := pairCells_congr (fun c hc => ⟨rfl, HRN.out _ (HOA.out.2.1 s hsS c hc)⟩)
              rw [← e]; exact hown5
            have hs5 := HB5.out.size
            clear hown5 hb5 hpairs c0 c1 c2 c3 c4 z0
            refine wpAnyH_ready (rs := [6]) (by kernel_rfl) (by simp) ?_
            refine AllReadyH.cons rfl (fun K' hK' => ?_) AllReadyH.nil
            refine step_append_lies _ (by rfl) (.tmp 43) (.tmp 47) 30 (by rfl) w4.heap.size 61 it (.agg #[.slice none 0 0]) 1 24 Try.underlying30 hti ht0 ht1 ht2 (by rfl) (by omega) (.slice ta' i tc') i ((List.range i).map PV) (by rfl) (HT5.out.own.alloc _) ⟨w5.heap.size, 0, none⟩ 1 1 [.slice pa (L s) pc] (by rfl) (by rfl) (World.news_of_block (heap_alloc_new w5 _)) (by intro u hu; simp at hu; subst hu; rfl) (by omega) (by unfold maxLen; omega) (by omega) (by simp; omega) (w5.heap.size + 1) (by simp) ?_
            intro g cap w7 hown7 hgrow7 hat7 hlt7
            obtain ⟨hT7, hB7⟩ := HT5.out.more (owns_mono HP5.out (by omega)) (fun j hj g hg e => by
              obtain ⟨_, _, _, h⟩ := owns_form HP5.out
              have h1 := (h g e).1
              obtain ⟨_, _, _, h'⟩ := owns_form (HTr.out.rows j hj)
              have h2 := (h' g hg).2
              omega) _ (by omega) hown7 hgrow7
            have HT7 : Hid (OTab w7 w4.heap.size (.slice (some ⟨g, 0, none⟩) (i + 1) cap) (i + 1) (fun j => if j = i then .slice pa (L s) pc else PV j) (cL S L) (cK S K) (cX S X)) := hT7.congr (fun j hj => by
                by_cases e : j = i
                · subst e; simp only [if_true, cL]; rw [HD.out]
                · simp only [e, if_false]) (fun j hj c' hc' => by
                by_cases e : j = i
                · subst e
                  show (if j = j then K s else cK S K j) c' = cK S K j c' ∧ (if j = j then (fun c => renum S (X s c)) else cX S X j) c' = cX S X j c'
                  rw [if_pos rfl, if_pos rfl]
                  unfold cK cX
                  rw [HD.out]
                  exact ⟨rfl, rfl⟩
                · show (if j = i then K s else cK S K j) c' = cK S K j c' ∧ (if j = i then (fun c => renum S (X s c)) else cX S X j) c' = cX S X j c'
                  rw [if_neg e, if_neg e]
                  exact ⟨rfl, rfl⟩)
            have HU7 : Hid (OutB w7 ob ru (.slice ta' i tc')) := (hB7.block _ (by omega)).trans HU5.out
            have HL7 : Hid (Only (fun k => k = ob) w4 w7) := HL5.out.thenBelow hB7 (Nat.le_refl _)
            refine hK'.out _ _ trivial (fun hHeld => ?_)
            clear hK' hT7 hB7 hown7 hgrow7 hat7 hlt7 HT5 HU5 HL5 HP5 HB5 HOr HTr HLr
            obtain ⟨c0, c1, c2, c3, c4, z0⟩ := cells5 HU7.out
            simp only [Act.put, List.setIfInBounds_toArray, List.set_cons_zero, List.set_cons_succ, List.getElem_toArray, List.getElem_cons_zero, List.getElem_cons_succ]
            refine wpAnyH_take (i := 7) (v := .pointer (some ⟨ob, 4, none⟩)) rfl (by kernel_rfl) (by kernel_rfl) (by kernel_rfl) (fun _ _ _ h => h) (Or.inl ⟨by rfl, fun w hSw => ?_⟩) hHeld ?_
            · first | rfl | go_simp
            simp only [Act.put, List.setIfInBounds_toArray, List.set_cons_zero, List.set_cons_succ, List.getElem_toArray, List.getElem_cons_zero, List.getElem_cons_succ]
            refine wpAnyH_ready (rs := [8]) (by kernel_rfl) (by simp) ?_
            refine AllReadyH.cons rfl (fun K' hK' => ?_) AllReadyH.nil
            go_simp
            refine hK'.out _ _ trivial (fun hHeld => ?_)
            clear hK' hHeld
            refine wpAnyH_done (by kernel_rfl) ?_ _
            go_wp2
            go_roundw
            case rel =>
              refine ⟨i + 1, .slice (some ⟨g, 0, none⟩) (i + 1) cap, _, by omega, by go_num, put5hi HU7.out _, HT7.out.only ((Only.refl (fun k => k = ob) w7).set (p := ⟨ob, 4, none⟩) rfl _) (fun k hk e => by omega), HL7.out.set rfl _⟩
            case measure => simp [intOf]; omega
        · obtain rfl : i = S.length := by omega
          obtain ⟨ta', tc', rfl, _⟩ := owns_form HTr.out.own
          have HBr : Hid (OutB wr w.heap.size zeroV (.slice none 0 0)) := (HLr.out.block _ (blk_lt HB4.out) (by omega)).trans HB4.out
          obtain ⟨c0, c1, c2, c3, c4, z0⟩ := cells5 HOr.out
          obtain ⟨r0, r1, r2, r3, r4, r5⟩ := cells5 HBr.out
          simp only [zeroV] at r0 r1 r2 r3
          go_wp2
          have F := put5hi (put5lo HBr.out (.int .i64 ru.k) (.int .i64 ru.n) (.string ru.s) (.int .i64 ru.a)) (.slice ta' S.length tc')
          obtain ⟨wf, hwf⟩ : ∃ wf, wf = ((((wr.setCell ⟨w.heap.size, 0, none⟩ (.int .i64 ru.k)).setCell ⟨w.heap.size, 1, none⟩ (.int .i64 ru.n)).setCell ⟨w.heap.size, 2, none⟩ (.string ru.s)).setCell ⟨w.heap.size, 3, none⟩ (.int .i64 ru.a)).setCell ⟨w.heap.size, 4, none⟩ (.slice ta' S.length tc') := ⟨_, rfl⟩
          have ho : Only (fun k => k = w.heap.size) wr wf := by rw [hwf]; exact set4_only.set (p := ⟨w.heap.size, 4, none⟩) rfl _
          rw [← hwf] at F ⊢
          clear hwf
          obtain ⟨q0, q1, q2, q3, q4, _⟩ := cells5 F
          refine bodyPost_ret (v := .agg #[.int .i64 ru.k, .int .i64 ru.n, .string ru.s, .int .i64 ru.a, .slice ta' S.length tc']) (by simp [results, Try.results56, go_sem, q0, q1, q2, q3, q4]) rfl ⟨⟨_, PV, w4.heap.size, by omega, rfl, HTr.out.only ho (fun k hk e => by omega)⟩, ?_⟩
          refine HL4.out.thenBelow ((HLr.out.toBelow (base := w.heap.size) (fun k hk => by omega) (by omega)).trans (ho.toBelow (fun k hk => by omega) (by omega))) (Nat.le_refl _)

end Go.Proofs.Ytgflalfiopnmnab
