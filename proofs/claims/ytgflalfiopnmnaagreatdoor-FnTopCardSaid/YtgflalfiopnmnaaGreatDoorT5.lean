import Derived.Test.YtgflalfiopnmnaaGreatDoorT0
import Derived.Test.YtgflalfiopnmnaaGreatDoorT4
import Derived.Test.YtgflalfiopnmnaaGreatDoorT1
import Derived.Deep.CutRange
namespace Go.Proofs.YtgflalfiopnmnaaGreatDoor
open Go.RowKit Vl

theorem share3 {F : Option Addr → Nat → World → Prop} {G : Option Addr → Nat → World → Prop} {P : Prop} (h : Hid (∀ a c w, F a c w → G a c w) → P) (g : ∀ a c w, F a c w → G a c w) : P := h g

theorem atV_renum {at_ : Nat → Int} {S : List Nat} (h : ∀ j, j < S.length → at_ (S.getD j 0) = j) {v : V} (hv : v.k = 4 → v.a.toNat ∈ S) : atV at_ v = renum S v := by
  unfold atV renum
  by_cases h4 : v.k = 4
  · rw [if_pos h4, if_pos h4]
    have hm := hv h4
    have hi := List.idxOf_lt_length_of_mem hm
    have := h _ hi
    rw [List.getD_eq_getElem?_getD, List.getElem?_eq_getElem hi] at this
    simp only [List.getElem_idxOf, Option.getD_some] at this
    rw [this]
  · rw [if_neg h4, if_neg h4]

set_option maxHeartbeats 4000000 in
set_option maxRecDepth 100000 in
theorem canonical_any (n : Nat) (T M : Nat → Nat) (at_ : Nat → Int) (L : Nat → Nat) (K X : Nat → Nat → V) (u : V) (w : World) (hn : n ≤ 400) (HL : Hid (∀ r, r < n → L r ≤ 100)) (HG : Hid (Good n L X)) (hu : isV n u = true) (HT : Hid (Tbs w n T M at_ L K X)) (S : List Nat) (HS : Hid (order n u L X = S)) :
    Calls Tryz.prog 30 #[ifv T u] w fun e w' => (∃ (tv : Value) (PV : Nat → Value) (base : Nat), w.heap.size ≤ base ∧ e = .returned (.agg #[.int .i64 (renum S u).k, .int .i64 (renum S u).n, .string (renum S u).s, .int .i64 (renum S u).a, tv]) ∧ OTab w' base tv S.length PV (cL S L) (cK S K) (cX S X)) ∧ Only (fun k => ∃ j, j < n ∧ k = T j) w w' := by
  obtain ⟨ru, HRU⟩ : ∃ ru, Hid (renum S u = ru) := ⟨_, rfl⟩
  rw [HRU.out]
  obtain ⟨xt, xy, hxv⟩ := ifv_form T u
  have HXV : Hid (ifv T u = .iface xt xy) := hxv
  rw [hxv]
  clear hxv
  have A3 : Hid _ := alloc3 w (.cells #[.int .i64 0, .int .i64 0, .string ⟨#[]⟩, .int .i64 0, .slice none 0 0] 27) (.map #[] 0) (.cells #[.slice none 0 0, .map (some (w.heap.size + 1))] 141)
  obtain ⟨w1, hw1⟩ : ∃ w1, w1 = ((w.alloc (.cells #[.int .i64 0, .int .i64 0, .string ⟨#[]⟩, .int .i64 0, .slice none 0 0] 27)).alloc (.map #[] 0)).alloc (.cells #[.slice none 0 0, .map (some (w.heap.size + 1))] 141) := ⟨_, rfl⟩
  have HR1 : Hid (OutB w1 w.heap.size zeroV (.slice none 0 0)) := by rw [hw1]; exact A3.out.1
  have HSB : Hid (SpB w (w.heap.size + 2) (w.heap.size + 1) (w.heap.size + 3)) := show SpB _ _ _ _ from ⟨by omega, by omega, by omega, by omega, by omega⟩
  have HM1 : Hid (MtW w w1 (w.heap.size + 2) (w.heap.size + 1) (w.heap.size + 3) T (.slice none 0 0) [] []) := by
    rw [hw1]
    exact ⟨A3.out.2.2.1, ⟨#[], 0, A3.out.2.1, rfl⟩, World.ownsRow_nil _ _ _ _, A3.out.2.2.2.2⟩
  have Z1 : w1.heap.size = w.heap.size + 3 := by rw [hw1]; exact A3.out.2.2.2.1
  have hcall := meet_any n T M at_ L K X w (w.heap.size + 2) (w.heap.size + 1) (w.heap.size + 3) hn HL HG HT HSB (n + 1) [] u w1 (.slice none 0 0) (Fit.nil n) hu (by simp) (by omega) HM1
  rw [show met L X (n + 1) [] u = S from HS.out, HXV.out] at hcall
  have hmm := @run_makeMap Tryz.prog
  clear A3
  go_enter Tryz.func30, Tryz.ntmps30
  go_wp2_with fail
  rw [← hw1]
  refine hcall.mono ?_
  clear hcall hw1 hmm
  rintro e w2 ⟨rfl, mv, hW2, hF2⟩
  have HW2 : Hid (MtW w w2 (w.heap.size + 2) (w.heap.size + 1) (w.heap.size + 3) T mv S S) := hW2
  have HR2 : Hid (OutB w2 w.heap.size zeroV (.slice none 0 0)) := hF2.blk HR1.out (by omega) (by omega) (by simp [Value.ownBlock])
  have hs2 : w.heap.size + 3 ≤ w2.heap.size := by have := hF2.only.size; omega
  clear hW2 hF2 HM1 HR1 Z1
  have HOA : Hid (Fit n S ∧ (∀ r ∈ S, ∀ c, c < L r → (X r c).k = 4 → (X r c).a.toNat ∈ S) ∧ (u.k = 4 → u.a.toNat ∈ S)) := by
    obtain ⟨a, b, c⟩ := met_all HG.out (n + 1) [] u (Fit.nil n) hu (by simp)
    rw [show met L X (n + 1) [] u = S from HS.out] at a b c
    exact ⟨a.fit, fun r hr => b r hr (by simp), c⟩
  have hSl : S.length ≤ 400 := Nat.le_trans HOA.out.1.len hn
  obtain ⟨ma, mc, rfl, hmk⟩ := owns_form HW2.out.own
  have HMK : Hid (∀ k, (Value.slice ma S.length mc).ownBlock = some k → w.heap.size + 3 ≤ k ∧ k < w2.heap.size) := hmk
  clear hmk
  have HT2 : Hid (Tbs w2 n T M at_ L K X) := HT.out.below HW2.out.bel
  have HTl : Hid (∀ j, j < n → T j < w.heap.size) := show ∀ j, _ from fun j hj => HT.out.lt hj
  obtain ⟨x0, x1, xz⟩ := two_at HW2.out.blk
  go_wp2
  clear x0 x1 xz
  go_loopw [20] (fun ii wr => ∃ (i : Nat) (at' : Nat → Int), i ≤ S.length ∧ ii = .int .i64 i ∧ Hid (Tbs wr n T M at' L K X) ∧ Hid (∀ j, j < i → at' (S.getD j 0) = j) ∧ Hid (Only (fun k => ∃ j, j < n ∧ k = T j) w2 wr)) (fun ii _ => S.length - (intOf ii).toNat)
  case atStart => exact ⟨0, at_, Nat.zero_le _, rfl, HT2, fun j hj => absurd hj (Nat.not_lt_zero _), Only.refl _ _⟩
  case round =>
    obtain ⟨i, at', hi, rfl, HTr, HAr, HLr⟩ := hrel
    have HOr : Hid (wr.ownsRow (w.heap.size + 3) 107 1 (.slice ma S.length mc) S.length (ptrs T S)) := HLr.out.ownsB HW2.out.own (fun g hg ⟨j, hj, e⟩ => by have := (HMK.out g hg).1; have := HTl.out j hj; omega)
    by_cases hlt : i < S.length
    · obtain ⟨s, hs⟩ : ∃ s, S[i]? = some s := ⟨S[i], by simp [hlt]⟩
      have hsS : s ∈ S := List.mem_of_getElem? hs
      have hsn : s < n := HOA.out.1.lt s hsS
      have HD : Hid (S.getD i 0 = s) := by show _ = _; simp [hs]
      obtain ⟨og, oc', he, hog⟩ := owns_cell HOr.out (k := i) (y := ptr (T s)) (by simp [ptrs, hs])
      cases he
      obtain ⟨ord, hTb, _⟩ := HTr.out.tab s hsn
      obtain ⟨t0, _, _, tz⟩ := hTb.cells
      have hbi : (0 : Int) ≤ (i : Int) ∧ (i : Int) < (S.length : Int) := by omega
      clear hTb
      go_wp2
      go_roundw
      case rel =>
        refine ⟨i + 1, _, by omega, by go_num, HTr.out.setAt hsn _, fun j hj => ?_, HLr.out.set ⟨s, hsn, rfl⟩ _⟩
        by_cases e : j = i
        · subst e
          show (if S.getD j 0 = s then _ else _) = _
          rw [if_pos HD.out]
        · show (if S.getD j 0 = s then _ else _) = _
          have hjl : j < S.length := by omega
          rw [if_neg (fun e' => e ?_)]
          · exact HAr.out j (by omega)
          · rw [← HD.out] at e'
            rw [List.getD_eq_getElem?_getD, List.getD_eq_getElem?_getD, List.getElem?_eq_getElem hjl, List.getElem?_eq_getElem hlt] at e'
            simp only [Option.getD_some] at e'
            exact (List.getElem_inj HOA.out.1.nd).1 e'
      case measure => simp [intOf]; omega
    · obtain rfl : i = S.length := by omega
      have HBx : Hid (OutB wr w.heap.size zeroV (.slice none 0 0)) := (HLr.out.block _ (blk_lt HR2.out) (fun ⟨j, hj, e⟩ => by have := HTl.out j hj; omega)).trans HR2.out
      have HWx : Hid (wr.heap[w.heap.size + 2]? = some (.cells #[.slice ma S.length mc, .map (some (w.heap.size + 1))] 141 (0, 0))) := (HLr.out.block _ (blk_lt HW2.out.blk) (fun ⟨j, hj, e⟩ => by have := HTl.out j hj; omega)).trans HW2.out.blk
      have HLx : Hid (Only (fun k => ∃ j, j < n ∧ k = T j) w wr) := (Only.mono (Only.below HW2.out.bel) (fun k _ h => h)).trans HLr.out
      have HRN : Hid (∀ v : V, (v.k = 4 → v.a.toNat ∈ S) → atV at' v = renum S v) := show ∀ v, _ from fun v hv => atV_renum HAr.out hv
      have hsr := HLr.out.size
      obtain ⟨xt', xy', F, hty, hmeth, hcf, hcl⟩ := as_at hu T at'
      have hxx := HXV.out
      rw [hty] at hxx
      cases hxx
      have hcall := hcl wr HTr.out.at0
      rw [HRN.out u HOA.out.2.2] at hcall
      clear hcl hty HR2 HT2 HW2 HLr
      rw [HRU.out] at hcall
      go_wp2_with fail
      refine hcall.mono ?_
      clear hcall hmeth hcf
      rintro e w3 ⟨rfl, hb3⟩
      have HT3 : Hid (Tbs w3 n T M at' L K X) := HTr.out.below hb3
      have HB3 : Hid (OutB w3 w.heap.size zeroV (.slice none 0 0)) := blkB HBx.out hb3
      have HW3 : Hid (w3.heap[w.heap.size + 2]? = some (.cells #[.slice ma S.length mc, .map (some (w.heap.size + 1))] 141 (0, 0))) := blkB HWx.out hb3
      have HO3 : Hid (w3.ownsRow (w.heap.size + 3) 107 1 (.slice ma S.length mc) S.length (ptrs T S)) := (Only.below (P := fun _ => False) hb3).owns HOr.out (fun _ _ _ h => h)
      have HL3 : Hid (Only (fun k => ∃ j, j < n ∧ k = T j) w w3) := HLx.out.trans (Only.below hb3)
      have hs3 : w.heap.size + 3 ≤ w3.heap.size := by have := hb3.size; omega
      clear hb3 HTr HBx HWx HOr HLx HAr hsr
      obtain ⟨w4, hw4⟩ : ∃ w4, w4 = w3.alloc (.cells #[.int .i64 ru.k, .int .i64 ru.n, .string ru.s, .int .i64 ru.a, .slice none 0 0] 27) := ⟨_, rfl⟩
      have hb4 : Below w3.heap.size w3 w4 := by rw [hw4]; exact (Below.refl _ _).alloc (Nat.le_refl _) _
      have HU4 : Hid (OutB w4 w3.heap.size ru (.slice none 0 0)) := by rw [hw4]; exact heap_alloc_new _ _
      have hs4 : w4.heap.size = w3.heap.size + 1 := by rw [hw4]; simp
      have HT4 : Hid (Tbs w4 n T M at' L K X) := HT3.out.below hb4
      have HB4 : Hid (OutB w4 w.heap.size zeroV (.slice none 0 0)) := blkB HB3.out hb4
      have HW4 : Hid (w4.heap[w.heap.size + 2]? = some (.cells #[.slice ma S.length mc, .map (some (w.heap.size + 1))] 141 (0, 0))) := blkB HW3.out hb4
      have HO4 : Hid (w4.ownsRow (w.heap.size + 3) 107 1 (.slice ma S.length mc) S.length (ptrs T S)) := (Only.below (P := fun _ => False) hb4).owns HO3.out (fun _ _ _ h => h)
      have HL4 : Hid (Only (fun k => ∃ j, j < n ∧ k = T j) w w4) := HL3.out.trans (Only.below hb4)
      have HMK4 : Hid (∀ k, (Value.slice ma S.length mc).ownBlock = some k → w.heap.size + 3 ≤ k ∧ k < w3.heap.size) := show ∀ k, _ from fun k hk => by obtain ⟨_, _, _, h⟩ := owns_form HO3.out; exact h k hk
      obtain ⟨ob, hob⟩ : ∃ ob, w3.heap.size = ob := ⟨_, rfl⟩
      have x0 : w4.cell? ⟨w.heap.size + 1 + 1, 0, none⟩ = some (.slice ma S.length mc) := (two_at HW4.out).1
      rw [hw4] at x0
      have l3 : w.heap.size + 1 + 1 < w3.heap.size := by omega
      unfold vAgg
      go_wp2
      rw [← hw4]
      rw [hob] at HU4 HMK4 hs4 hs3
      clear x0 hw4 hb4 HT3 HB3 HW3 HO3 HL3 hob l3
      obtain ⟨it, hti, ht0, ht1, ht2⟩ := info_parts Tryz.info37
      go_loopw [38] (fun ii wr => ∃ (i : Nat) (tv : Value) (PV : Nat → Value), i ≤ S.length ∧ ii = .int .i64 i ∧ Hid (OutB wr ob ru tv) ∧ Hid (OTab wr w4.heap.size tv i PV (cL S L) (cK S K) (cX S X)) ∧ Hid (Only (fun k => k = ob) w4 wr)) (fun ii _ => S.length - (intOf ii).toNat)
      case atStart => exact ⟨0, _, fun _ => .nilIface, Nat.zero_le _, rfl, HU4, OTab.nil _ _ _ _ _ _, Only.refl _ _⟩
      case round =>
        obtain ⟨i, tv, PV, hi, rfl, HOr, HTr, HLr⟩ := hrel
        have hsr := HLr.out.size
        by_cases hlt : i < S.length
        · obtain ⟨s, hs⟩ : ∃ s, S[i]? = some s := ⟨S[i], by simp [hlt]⟩
          have hsS : s ∈ S := List.mem_of_getElem? hs
          have hsn : s < n := HOA.out.1.lt s hsS
          have HD : Hid (S.getD i 0 = s) := by show _ = _; simp [hs]
          have HRr : Hid (wr.ownsRow (w.heap.size + 3) 107 1 (.slice ma S.length mc) S.length (ptrs T S)) := HLr.out.ownsB HO4.out (fun g hg e => by have := (HMK4.out g hg).2; omega)
          obtain ⟨og, oc', he, hog⟩ := owns_cell HRr.out (k := i) (y := ptr (T s)) (by simp [ptrs, hs])
          cases he
          have HTb : Hid (Tbs wr n T M at' L K X) := HT4.out.only' HLr.out HU4.out (by decide) (by decide)
          have hbi : (0 : Int) ≤ (i : Int) ∧ (i : Int) < (S.length : Int) := by omega
          have hLs := HL.out s hsn
          have hpairs := pairs_any n T M at' L K X s wr.drew hsn hLs HG (HTb.out.below ((Below.refl _ _).drew))
          obtain ⟨ta', tc', rfl, htk⟩ := owns_form HTr.out.own
          obtain ⟨c0, c1, c2, c3, c4, z0⟩ := cells5 HOr.out
          have HN1 : Hid (∀ g, (Value.slice ta' i tc').ownBlock = some g → g < wr.heap.size) := show ∀ g, _ from fun g hg => (htk g hg).2
          have lob : ob < wr.heap.size := by omega
          clear htk
          go_wp2
          refine wp_region_held_drew (S := fun _ => True) (by kernel_rfl) trivial (fun hHeld => ?_)
          refine wpT (i := 0) (v := .pointer (some ⟨ob, 4, none⟩)) rfl (fun w hSw => ?_) hHeld ?_
          · first | rfl | go_simp
          simp only [Act.put, pz]
          refine wpT (i := 2) (v := .pointer (some ⟨T s, 0, none⟩)) rfl (fun w hSw => ?_) hHeld ?_
          · first | rfl | go_simp
          simp only [Act.put, pz]
          apply share3 (F := fun pa pc w5 => w5.ownsRow wr.heap.size 39 8 (.slice pa (L s) pc) (L s) (pairCells (K s) (fun c => atV at' (X s c)) (L s)) ∧ Below wr.heap.size wr.drew w5)
          · intro hG
            refine wpAnyH_ready (rs := [1, 3]) (by kernel_rfl) (by simp) ?_
            refine AllReadyH.cons rfl (fun K' hK' => ?_) (AllReadyH.cons rfl (fun K' hK' => ?_) AllReadyH.nil)
            · go_simp
              refine hK'.out _ _ trivial (fun hHeld => ?_)
              clear hK'
              refine wpAnyH_ready (rs := [3]) (by kernel_rfl) (by simp) ?_
              refine AllReadyH.cons rfl (fun K' hK' => ?_) AllReadyH.nil
              go_simp
              refine hpairs.mono ?_
              rintro e w5 ⟨⟨pv, rfl, hown⟩, hb5⟩
              obtain ⟨pa, pc, rfl, _⟩ := owns_form hown
              refine hK'.out _ _ trivial (fun hHeld => ?_)
              clear hK'
              refine wpT (i := 4) (v := .agg #[.slice pa (L s) pc]) rfl (fun w hSw => ?_) hHeld ?_
              · first | rfl | go_simp
              simp only [Act.put, pz]
              refine wpAnyH_ready (rs := [5]) (by kernel_rfl) (by simp) ?_
              refine AllReadyH.cons rfl (fun K' hK' => ?_) AllReadyH.nil
              go_simp
              refine hK'.out _ _ trivial (fun hHeld => ?_)
              clear hK'
              exact hG.out pa pc w5 ⟨hown, hb5⟩
            · go_simp
              refine hpairs.mono ?_
              rintro e w5 ⟨⟨pv, rfl, hown⟩, hb5⟩
              obtain ⟨pa, pc, rfl, _⟩ := owns_form hown
              refine hK'.out _ _ trivial (fun hHeld => ?_)
              clear hK'
              have c45 : w5.cell? ⟨ob, 4, none⟩ = some (.slice ta' i tc') := (hb5.cell (p := ⟨ob, 4, none⟩) lob).trans c4
              have l5 : ob < w5.heap.size := Nat.lt_of_lt_of_le lob hb5.size
              refine wpT (i := 4) (v := .agg #[.slice pa (L s) pc]) rfl (fun w hSw => ?_) hHeld ?_
              · first | rfl | go_simp
              simp only [Act.put, pz]
              refine wpAnyH_ready (rs := [1, 5]) (by kernel_rfl) (by simp) ?_
              refine AllReadyH.cons rfl (fun K' hK' => ?_) (AllReadyH.cons rfl (fun K' hK' => ?_) AllReadyH.nil)
              · go_simp
                refine hK'.out _ _ trivial (fun hHeld => ?_)
                clear hK'
                refine wpAnyH_ready (rs := [5]) (by kernel_rfl) (by simp) ?_
                refine AllReadyH.cons rfl (fun K' hK' => ?_) AllReadyH.nil
                go_simp
                refine hK'.out _ _ trivial (fun hHeld => ?_)
                clear hK'
                exact hG.out pa pc w5 ⟨hown, hb5⟩
              · go_simp
                refine hK'.out _ _ trivial (fun hHeld => ?_)
                clear hK'
                refine wpAnyH_ready (rs := [1]) (by kernel_rfl) (by simp) ?_
                refine AllReadyH.cons rfl (fun K' hK' => ?_) AllReadyH.nil
                go_simp
                refine hK'.out _ _ trivial (fun hHeld => ?_)
                clear hK'
                exact hG.out pa pc w5 ⟨hown, hb5⟩
          · rintro pa pc w5 ⟨hown5, hb5⟩
            have HB5 : Hid (Below wr.heap.size wr w5) := ⟨hb5.os, hb5.tape, hb5.output, hb5.size, hb5.block⟩
            have HU5 : Hid (OutB w5 ob ru (.slice ta' i tc')) := blkB HOr.out HB5.out
            have HT5 : Hid (OTab w5 w4.heap.size (.slice ta' i tc') i PV (cL S L) (cK S K) (cX S X)) := HTr.out.below HB5.out
            have HL5 : Hid (Only (fun k => k = ob) w4 w5) := HLr.out.trans (Only.below HB5.out)
            have HP5 : Hid (w5.ownsRow wr.heap.size 39 8 (.slice pa (L s) pc) (L s) (pairCells (K s) (fun c => renum S (X s c)) (L s))) := by
              have e : pairCells (K s) (fun c => atV at' (X s c)) (L s) = pairCells (K s) (fun c => renum S (X s c)) (L s) := pairCells_congr (fun c hc => ⟨rfl, HRN.out _ (HOA.out.2.1 s hsS c hc)⟩)
              rw [← e]; exact hown5
            have hs5 := HB5.out.size
            clear hown5 hb5 hpairs c0 c1 c2 c3 c4 z0
            refine wpAnyH_ready (rs := [6]) (by kernel_rfl) (by simp) ?_
            refine AllReadyH.cons rfl (fun K' hK' => ?_) AllReadyH.nil
            refine step_append_lies _ (by rfl) (.tmp 43) (.tmp 47) 25 (by rfl) w4.heap.size 37 it (.agg #[.slice none 0 0]) 1 24 Tryz.underlying25 hti ht0 ht1 ht2 (by rfl) (by omega) (.slice ta' i tc') i ((List.range i).map PV) (by rfl) (HT5.out.own.alloc _) ⟨w5.heap.size, 0, none⟩ 1 1 [.slice pa (L s) pc] (by rfl) (by rfl) (World.news_of_block (heap_alloc_new w5 _)) (by intro u hu; simp at hu; subst hu; rfl) (by omega) (by unfold maxLen; omega) (by omega) (by simp; omega) (w5.heap.size + 1) (by simp) ?_
            intro g cap w7 hown7 hgrow7 hat7 hlt7
            obtain ⟨hT7, hB7⟩ := HT5.out.more (owns_mono HP5.out (by omega)) (fun j hj g hg e => by
              obtain ⟨_, _, _, h⟩ := owns_form HP5.out
              have h1 := (h g e).1
              obtain ⟨_, _, _, h'⟩ := owns_form (HTr.out.rows j hj)
              have h2 := (h' g hg).2
              omega) _ (by omega) hown7 hgrow7
            have HT7 : Hid (OTab w7 w4.heap.size (.slice (some ⟨g, 0, none⟩) (i + 1) cap) (i + 1) (fun j => if j = i then .slice pa (L s) pc else PV j) (cL S L) (cK S K) (cX S X)) := hT7.congr (fun j hj => by
                by_cases e : j = i
                · subst e; simp only [if_true, cL]; rw [HD.out]
                · simp only [e, if_false]) (fun j hj c' hc' => by
                by_cases e : j = i
                · subst e
                  show (if j = j then K s else cK S K j) c' = cK S K j c' ∧ (if j = j then (fun c => renum S (X s c)) else cX S X j) c' = cX S X j c'
                  rw [if_pos rfl, if_pos rfl]
                  unfold cK cX
                  rw [HD.out]
                  exact ⟨rfl, rfl⟩
                · show (if j = i then K s else cK S K j) c' = cK S K j c' ∧ (if j = i then (fun c => renum S (X s c)) else cX S X j) c' = cX S X j c'
                  rw [if_neg e, if_neg e]
                  exact ⟨rfl, rfl⟩)
            have HU7 : Hid (OutB w7 ob ru (.slice ta' i tc')) := (hB7.block _ (by omega)).trans HU5.out
            have HL7 : Hid (Only (fun k => k = ob) w4 w7) := HL5.out.thenBelow hB7 (Nat.le_refl _)
            refine hK'.out _ _ trivial (fun hHeld => ?_)
            clear hK' hT7 hB7 hown7 hgrow7 hat7 hlt7 HT5 HU5 HL5 HP5 HB5 HOr HTr HLr
            obtain ⟨c0, c1, c2, c3, c4, z0⟩ := cells5 HU7.out
            simp only [Act.put, pz]
            refine wpT (i := 7) (v := .pointer (some ⟨ob, 4, none⟩)) rfl (fun w hSw => ?_) hHeld ?_
            · first | rfl | go_simp
            simp only [Act.put, pz]
            refine wpAnyH_ready (rs := [8]) (by kernel_rfl) (by simp) ?_
            refine AllReadyH.cons rfl (fun K' hK' => ?_) AllReadyH.nil
            go_simp
            refine hK'.out _ _ trivial (fun hHeld => ?_)
            clear hK' hHeld
            refine wpAnyH_done (by kernel_rfl) ?_ _
            go_wp2
            go_roundw
            case rel =>
              refine ⟨i + 1, .slice (some ⟨g, 0, none⟩) (i + 1) cap, _, by omega, by go_num, put5hi HU7.out _, HT7.out.only ((Only.refl (fun k => k = ob) w7).set (p := ⟨ob, 4, none⟩) rfl _) (fun k hk e => by omega), HL7.out.set rfl _⟩
            case measure => simp [intOf]; omega
        · obtain rfl : i = S.length := by omega
          obtain ⟨ta', tc', rfl, _⟩ := owns_form HTr.out.own
          have HBr : Hid (OutB wr w.heap.size zeroV (.slice none 0 0)) := (HLr.out.block _ (blk_lt HB4.out) (by omega)).trans HB4.out
          obtain ⟨c0, c1, c2, c3, c4, z0⟩ := cells5 HOr.out
          obtain ⟨r0, r1, r2, r3, r4, r5⟩ := cells5 HBr.out
          simp only [zeroV] at r0 r1 r2 r3
          go_wp2
          have F := put5hi (put5lo HBr.out (.int .i64 ru.k) (.int .i64 ru.n) (.string ru.s) (.int .i64 ru.a)) (.slice ta' S.length tc')
          obtain ⟨wf, hwf⟩ : ∃ wf, wf = ((((wr.setCell ⟨w.heap.size, 0, none⟩ (.int .i64 ru.k)).setCell ⟨w.heap.size, 1, none⟩ (.int .i64 ru.n)).setCell ⟨w.heap.size, 2, none⟩ (.string ru.s)).setCell ⟨w.heap.size, 3, none⟩ (.int .i64 ru.a)).setCell ⟨w.heap.size, 4, none⟩ (.slice ta' S.length tc') := ⟨_, rfl⟩
          have ho : Only (fun k => k = w.heap.size) wr wf := by rw [hwf]; exact set4_only.set (p := ⟨w.heap.size, 4, none⟩) rfl _
          rw [← hwf] at F ⊢
          clear hwf
          obtain ⟨q0, q1, q2, q3, q4, _⟩ := cells5 F
          refine bodyPost_ret (v := .agg #[.int .i64 ru.k, .int .i64 ru.n, .string ru.s, .int .i64 ru.a, .slice ta' S.length tc']) (by simp [results, Tryz.results30, go_sem, q0, q1, q2, q3, q4]) rfl ⟨⟨_, PV, w4.heap.size, by omega, rfl, HTr.out.only ho (fun k hk e => by omega)⟩, ?_⟩
          refine HL4.out.thenBelow ((HLr.out.toBelow (base := w.heap.size) (fun k hk => by omega) (by omega)).trans (ho.toBelow (fun k hk => by omega) (by omega))) (Nat.le_refl _)

end Go.Proofs.YtgflalfiopnmnaaGreatDoor

namespace Go.Proofs.YtgflalfiopnmnaaGreatDoor
open Go.RowKit Vl

theorem owns_setK {w : World} {base t s n : Nat} {v : Value} {xs : List Value} (h : w.ownsRow base t s v n xs) {p : Addr} (hp : p.block < base) (x : Value) : (w.setCell p x).ownsRow base t s v n xs :=
  ownsRow_setCell_other h (fun e => by
    obtain ⟨_, _, _, hk⟩ := owns_form h
    have := (hk _ e).1
    omega) _

structure DrT (w0 w : World) (CB xb : Nat) (ca : Option Addr) (cl cc cb co t : Nat) (pv : Value) (l : Nat) (k x : Nat → V) : Prop where
  out : w.heap[xb]? = some (.cells #[pv] 37 (0, 0))
  row : w.ownsRow w0.heap.size 39 8 pv l (pairCells k x l)
  rd : Rd w CB ca cl cc cb co t
  only : Only (fun j => j = xb ∨ j = CB) w0 w

structure DrL (w0 : World) (CB xb cl cb : Nat) : Prop where
  cur : CB < xb
  byt : 0 < cl → cb < xb
  tab : xb < w0.heap.size

structure DrP (n l : Nat) (k x : Nat → V) : Prop where
  key : ∀ c, c < l → keyP (k c)
  val : ∀ c, c < l → valP n (x c)
  once : ∀ c, c < l → ∀ j, j < c → eqV (k j) (k c) = false
theorem DrP.nil (n : Nat) (k x : Nat → V) : DrP n 0 k x := ⟨fun _ h => absurd h (Nat.not_lt_zero _), fun _ h => absurd h (Nat.not_lt_zero _), fun _ h => absurd h (Nat.not_lt_zero _)⟩
theorem DrP.more {n l : Nat} {k x : Nat → V} (h : DrP n l k x) {kk xx : V} (hk : keyP kk) (hx : valP n xx) (hn : ∀ j, j < l → eqV (k j) kk = false) : DrP n (l + 1) (fun c => if c = l then kk else k c) (fun c => if c = l then xx else x c) := by
  refine ⟨fun c hc => ?_, fun c hc => ?_, fun c hc j hj => ?_⟩
  · by_cases e : c = l
    · simp only [e, if_true]; exact hk
    · simp only [e, if_false]; exact h.key c (by omega)
  · by_cases e : c = l
    · simp only [e, if_true]; exact hx
    · simp only [e, if_false]; exact h.val c (by omega)
  · have ej : ¬ j = l := by omega
    by_cases e : c = l
    · simp only [e, ej, if_true, if_false]; exact hn j (by omega)
    · simp only [e, ej, if_false]; exact h.once c (by omega) j hj

section
variable {w0 w w' w6 : World} {CB xb : Nat} {ca : Option Addr} {cl cc cb co t l : Nat} {pv : Value} {k x : Nat → V}
theorem DrT.below (h : DrT w0 w CB xb ca cl cc cb co t pv l k x) (hb : Below w.heap.size w w') : DrT w0 w' CB xb ca cl cc cb co t pv l k x :=
  ⟨blkB h.out hb, (Only.below (P := fun _ => False) hb).owns h.row (fun _ _ _ h => h), h.rd.below hb, h.only.trans (Only.below hb)⟩
theorem DrT.mono {t' : Nat} (h : DrT w0 w CB xb ca cl cc cb co t pv l k x) (ht : t ≤ t') : DrT w0 w CB xb ca cl cc cb co t' pv l k x := ⟨h.out, h.row, h.rd.mono ht, h.only⟩
theorem DrT.more {g cap : Nat} {o1 : Obj} (h : DrT w0 w CB xb ca cl cc cb co t pv l k x) (hl : DrL w0 CB xb cl cb) {kk xx : V} (hgrow : (w.alloc o1).grownBy w6 pv.ownBlock)
    (hown : w6.ownsRow w0.heap.size 39 8 (.slice (some ⟨g, 0, none⟩) (l + 1) cap) (l + 1) (pairCells k x l ++ [.int .i64 kk.k, .int .i64 kk.n, .string kk.s, .int .i64 kk.a, .int .i64 xx.k, .int .i64 xx.n, .string xx.s, .int .i64 xx.a])) :
    (w6.cell? ⟨xb, 0, none⟩ = some pv ∧ w6.frozen? ⟨xb, 0, none⟩ = false) ∧ DrT w0 (w6.setCell ⟨xb, 0, none⟩ (.slice (some ⟨g, 0, none⟩) (l + 1) cap)) CB xb ca cl cc cb co t (.slice (some ⟨g, 0, none⟩) (l + 1) cap) (l + 1) (fun c => if c = l then kk else k c) (fun c => if c = l then xx else x c) := by
  obtain ⟨_, _, _, hk⟩ := owns_form h.row
  have hs := h.only.size
  have hx := hl.tab
  have hbl : ∀ k, k < w.heap.size → pv.ownBlock ≠ some k → w6.heap[k]? = w.heap[k]? := fun k hk hne =>
    (hgrow.block k (by simp; omega) (fun e => hne e.symm)).trans (Below.heap_alloc w o1 k hk)
  have n1 : ∀ k, k < w0.heap.size → pv.ownBlock ≠ some k := fun k hk' e => by have := (hk _ e).1; omega
  have h6 : w6.heap[xb]? = some (.cells #[pv] 37 (0, 0)) := (hbl xb (by omega) (n1 xb hx)).trans h.out
  have hsz : w.heap.size ≤ w6.heap.size := by have := hgrow.size; simp at this; omega
  have ho : Only (fun j => j = xb ∨ j = CB) w0 w6 := ⟨hgrow.os.trans h.only.os, hgrow.tape.trans h.only.tape, hgrow.output.trans h.only.output, by omega, fun k hk' hp => (hbl k (by omega) (n1 k hk')).trans (h.only.block k hk' hp)⟩
  have hb0 : Below xb w w6 := ⟨hgrow.os, hgrow.tape, hgrow.output, hsz, fun k hk' => hbl k (by omega) (n1 k (by omega))⟩
  have hb6 : Below xb w (w6.setCell ⟨xb, 0, none⟩ (.slice (some ⟨g, 0, none⟩) (l + 1) cap)) := hb0.setCell (p := ⟨xb, 0, none⟩) (Nat.le_refl _) _
  obtain ⟨c0, cz⟩ := one_at h6
  refine ⟨⟨c0, cz 0⟩, one_put h6 _, ?_, h.rd.keep hb6 hl.cur hl.byt, ho.set (p := ⟨xb, 0, none⟩) (Or.inl rfl) _⟩
  rw [pairCells_succ]
  simp only [if_true]
  rw [pairCells_congr (K := fun c => if c = l then kk else k c) (X := fun c => if c = l then xx else x c) (K' := k) (X' := x) (fun j hj => ⟨by simp only [show ¬ j = l by omega, if_false], by simp only [show ¬ j = l by omega, if_false]⟩)]
  exact owns_setK hown (p := ⟨xb, 0, none⟩) hx _
end

end Go.Proofs.YtgflalfiopnmnaaGreatDoor

namespace Go.Proofs.YtgflalfiopnmnaaGreatDoor
open Go.RowKit Vl

structure DrG (w' : World) (base : Nat) (tv : Value) (n : Nat) (PV : Nat → Value) (L : Nat → Nat) (K X : Nat → Nat → V) (i : Nat) : Prop where
  tab : OTab w' base tv i PV L K X
  all : ∀ j, j < i → L j ≤ 100 ∧ DrP n (L j) (K j) (X j)

theorem put4_in8 {w : World} {B : Nat} {a b c d e f g i : Value} {t : TypeId} (h : w.heap[B]? = some (.cells #[a, b, c, d, e, f, g, i] t (0, 0))) (a' b' c' d' : Value) :
    ((((w.setCell ⟨B, 0, none⟩ a').setCell ⟨B, 1, none⟩ b').setCell ⟨B, 2, none⟩ c').setCell ⟨B, 3, none⟩ d').heap[B]? = some (.cells #[a', b', c', d', e, f, g, i] t (0, 0)) := by
  simp [World.setCell, Array.getElem?_modify, h]

theorem Only.then {P Q : Nat → Prop} {a b c : World} (h : Only P a b) (k : Only Q b c) (hq : ∀ j, j < a.heap.size → Q j → P j) : Only P a c :=
  ⟨k.os.trans h.os, k.tape.trans h.tape, k.output.trans h.output, Nat.le_trans h.size k.size, fun j hj hp => (k.block j (Nat.lt_of_lt_of_le hj h.size) (fun x => hp (hq j hj x))).trans (h.block j hj hp)⟩

end Go.Proofs.YtgflalfiopnmnaaGreatDoor

namespace Go.Proofs.YtgflalfiopnmnaaGreatDoor
open Go.RowKit Vl

structure Sd where
  a : Nat
  sd : Int

section
variable (B : Nat → Nat) (cl : Nat)
def seedB (sd : Int) (x : Nat) : Int := IntKind.u64.wrap (IntKind.u64.wrap (IntKind.u64.wrap (sd * 6364136223846793005) + (x : Int)) + 1442695040888963407)
def seedE (sd : Int) : Int := IntKind.u64.wrap (IntKind.u64.wrap (sd * 6364136223846793005) + 1442695040888963407)
def outE (sd : Int) : Nat := (wrap64 (bits .and .u64 (seedE sd / 1099511627776) 255)).toNat
def nextF (σ : Sd) : Nat × Sd := if σ.a < cl then (B σ.a, ⟨σ.a + 1, seedB σ.sd (B σ.a)⟩) else (outE σ.sd, ⟨σ.a + 1, seedE σ.sd⟩)
def pickF (m : Nat) (σ : Sd) : Nat × Sd := if m ≤ 1 then (0, σ) else if m ≤ 200 then ((nextF B cl σ).1 % m, (nextF B cl σ).2) else (((nextF B cl σ).1 * 256 + (nextF B cl (nextF B cl σ).2).1) % m, (nextF B cl (nextF B cl σ).2).2)
def wholeF (σ : Sd) : Int × Sd :=
  if (pickF B cl 6 σ).1 = 0 then (9223372036854775807 - ((pickF B cl 3 (pickF B cl 6 σ).2).1 : Int), (pickF B cl 3 (pickF B cl 6 σ).2).2)
  else if (pickF B cl 6 σ).1 = 1 then (-9223372036854775808 + ((pickF B cl 3 (pickF B cl 6 σ).2).1 : Int), (pickF B cl 3 (pickF B cl 6 σ).2).2)
  else if (pickF B cl 6 σ).1 = 2 then (((pickF B cl 70000 (pickF B cl 6 σ).2).1 : Int) - 35000, (pickF B cl 70000 (pickF B cl 6 σ).2).2)
  else (((pickF B cl 12 (pickF B cl 6 σ).2).1 : Int) - 3, (pickF B cl 12 (pickF B cl 6 σ).2).2)
def dbl : Nat → ByteArray
  | 0 => ⟨#[48, 49, 50, 51, 52, 53, 54, 55, 56, 57]⟩
  | j + 1 => dbl j ++ dbl j
theorem dbl_size : ∀ j, (dbl j).size = 10 * 2 ^ j
  | 0 => rfl
  | j + 1 => by
    show (dbl j ++ dbl j).size = _
    rw [ByteArray.size_append, dbl_size j, Nat.pow_succ]
    omega
def nextsF : Nat → Sd → List Int × Sd
  | 0, σ => ([], σ)
  | j + 1, σ => ((nextsF j σ).1 ++ [((nextF B cl (nextsF j σ).2).1 : Int)], (nextF B cl (nextsF j σ).2).2)
def textG (m : Nat) (σ : Sd) : ByteArray × Sd := (strOfNums (nextsF B cl m σ).1, (nextsF B cl m σ).2)
def textH (z : Nat) (σ : Sd) : ByteArray × Sd :=
  if z = 0 then (⟨#[]⟩, σ)
  else if z = 1 then textG B cl (pickF B cl 4 σ).1 (pickF B cl 4 σ).2
  else (strOfNums [97 + ((pickF B cl 3 σ).1 : Int)], (pickF B cl 3 σ).2)
def textF (σ : Sd) : ByteArray × Sd :=
  if (pickF B cl 30 σ).1 = 0 then ((dbl 6).extract 0 (500 - (pickF B cl 2 (pickF B cl 30 σ).2).1), (pickF B cl 2 (pickF B cl 30 σ).2).2)
  else textH B cl (pickF B cl 4 (pickF B cl 30 σ).2).1 (pickF B cl 4 (pickF B cl 30 σ).2).2
def keyG (σ : Sd) : V × Sd := (⟨2, ((pickF B cl 4 σ).1 : Int), ⟨#[]⟩, 0⟩, (pickF B cl 4 σ).2)
def keyF (σ : Sd) : V × Sd :=
  if (pickF B cl 4 σ).1 = 0 then (⟨1, ((pickF B cl 2 (pickF B cl 4 σ).2).1 : Int), ⟨#[]⟩, 0⟩, (pickF B cl 2 (pickF B cl 4 σ).2).2)
  else if (pickF B cl 4 σ).1 = 1 then (⟨3, 0, (textF B cl (pickF B cl 4 σ).2).1, 0⟩, (textF B cl (pickF B cl 4 σ).2).2)
  else if (pickF B cl 4 σ).1 = 2 then
    (if (pickF B cl 6 (pickF B cl 4 σ).2).1 = 0 then (⟨2, (wholeF B cl (pickF B cl 6 (pickF B cl 4 σ).2).2).1, ⟨#[]⟩, 0⟩, (wholeF B cl (pickF B cl 6 (pickF B cl 4 σ).2).2).2)
     else keyG B cl (pickF B cl 6 (pickF B cl 4 σ).2).2)
  else keyG B cl (pickF B cl 4 σ).2
def valF (n : Nat) (σ : Sd) : V × Sd :=
  if n = 0 then keyF B cl σ
  else if (pickF B cl 3 σ).1 = 0 then keyF B cl (pickF B cl 3 σ).2
  else (⟨4, 0, ⟨#[]⟩, ((pickF B cl n (pickF B cl 3 σ).2).1 : Int)⟩, (pickF B cl n (pickF B cl 3 σ).2).2)
def pairKF (P k : Nat) (kv : V) : V := if P = 100 then ⟨2, (k : Int), ⟨#[]⟩, 0⟩ else kv
def pairsF (n P : Nat) : Nat → Sd → List (V × V) × Sd
  | 0, σ => ([], σ)
  | k + 1, σ => ((if (pairsF n P k σ).1.any (fun q => eqV q.1 (pairKF P k (keyF B cl (pairsF n P k σ).2).1)) then (pairsF n P k σ).1 else (pairsF n P k σ).1 ++ [(pairKF P k (keyF B cl (pairsF n P k σ).2).1, (valF B cl n (keyF B cl (pairsF n P k σ).2).2).1)]), (valF B cl n (keyF B cl (pairsF n P k σ).2).2).2)
def tabF (n y z : Nat) (σ : Sd) : List (V × V) × Sd := pairsF B cl n (if z = 0 then 100 else y) (if z = 0 then 100 else y) σ
def tabsF (n : Nat) : Nat → Sd → List (List (V × V)) × Sd
  | 0, σ => ([], σ)
  | i + 1, σ => ((tabsF n i σ).1 ++ [(tabF B cl n (pickF B cl 4 (tabsF n i σ).2).1 (pickF B cl 60 (pickF B cl 4 (tabsF n i σ).2).2).1 (pickF B cl 60 (pickF B cl 4 (tabsF n i σ).2).2).2).1], (tabF B cl n (pickF B cl 4 (tabsF n i σ).2).1 (pickF B cl 60 (pickF B cl 4 (tabsF n i σ).2).2).1 (pickF B cl 60 (pickF B cl 4 (tabsF n i σ).2).2).2).2)
def rootF (n : Nat) (σ : Sd) : V := if 0 < n ∧ 0 < (pickF B cl 8 (valF B cl n σ).2).1 then ⟨4, 0, ⟨#[]⟩, 0⟩ else (valF B cl n σ).1
def numF (σ : Sd) : Nat := if (pickF B cl 25 (pickF B cl 9 σ).2).1 = 0 then 200 else (pickF B cl 9 σ).1
def graphF (σ : Sd) : Nat × V × List (List (V × V)) :=
  (numF B cl σ, rootF B cl (numF B cl σ) (tabsF B cl (numF B cl σ) (numF B cl σ) (pickF B cl 25 (pickF B cl 9 σ).2).2).2, (tabsF B cl (numF B cl σ) (numF B cl σ) (pickF B cl 25 (pickF B cl 9 σ).2).2).1)
end

def prL (l : Nat) (k x : Nat → V) : List (V × V) := (List.range l).map fun c => (k c, x c)
def tbL (i : Nat) (L : Nat → Nat) (K X : Nat → Nat → V) : List (List (V × V)) := (List.range i).map fun j => prL (L j) (K j) (X j)
theorem prL_more (l : Nat) (k x : Nat → V) (kk xx : V) : prL (l + 1) (fun c => if c = l then kk else k c) (fun c => if c = l then xx else x c) = prL l k x ++ [(kk, xx)] := by
  unfold prL
  rw [List.range_succ, List.map_append]
  congr 1
  · refine List.map_congr_left fun c hc => ?_
    have := List.mem_range.1 hc
    simp only [show ¬ c = l by omega, if_false]
  · simp
theorem tbL_more (i : Nat) (L : Nat → Nat) (K X : Nat → Nat → V) (l : Nat) (k x : Nat → V) : tbL (i + 1) (fun j => if j = i then l else L j) (fun j => if j = i then k else K j) (fun j => if j = i then x else X j) = tbL i L K X ++ [prL l k x] := by
  unfold tbL
  rw [List.range_succ, List.map_append]
  congr 1
  · refine List.map_congr_left fun c hc => ?_
    have := List.mem_range.1 hc
    simp only [show ¬ c = i by omega, if_false]
  · simp
theorem prL_inj {l l' : Nat} {k x k' x' : Nat → V} (h : prL l k x = prL l' k' x') : l = l' ∧ ∀ c, c < l → k c = k' c ∧ x c = x' c := by
  have hl : l = l' := by have := congrArg List.length h; simpa [prL] using this
  subst hl
  refine ⟨rfl, fun c hc => ?_⟩
  have := congrArg (fun q => q[c]?) h
  simp only [prL, List.getElem?_map, List.getElem?_range hc, Option.map_some, Option.some.injEq, Prod.mk.injEq] at this
  exact this
theorem tbL_inj {i : Nat} {L L' : Nat → Nat} {K X K' X' : Nat → Nat → V} (h : tbL i L K X = tbL i L' K' X') : ∀ j, j < i → L j = L' j ∧ ∀ c, c < L j → K j c = K' j c ∧ X j c = X' j c := by
  intro j hj
  have := congrArg (fun q => q[j]?) h
  simp only [tbL, List.getElem?_map, List.getElem?_range hj, Option.map_some, Option.some.injEq] at this
  exact prL_inj this
theorem prL_any {l : Nat} {k x : Nat → V} {p : V} : (prL l k x).any (fun q => eqV q.1 p) = true ↔ ∃ i, i < l ∧ eqV (k i) p = true := by
  unfold prL
  rw [List.any_map, List.any_eq_true]
  constructor
  · rintro ⟨i, hi, h⟩; exact ⟨i, List.mem_range.1 hi, h⟩
  · rintro ⟨i, hi, h⟩; exact ⟨i, List.mem_range.2 hi, h⟩

end Go.Proofs.YtgflalfiopnmnaaGreatDoor

namespace Go.Proofs.YtgflalfiopnmnaaGreatDoor
open Go.RowKit Vl

def ByteD (w : World) (ca : Option Addr) (cl cb co : Nat) (B : Nat → Nat) : Prop := ∀ i, i < cl → ca = some ⟨cb, co, none⟩ ∧ B i ≤ 255 ∧ w.cell? ⟨cb, co + i, none⟩ = some (.int .u8 (B i : Nat))
theorem ByteR.these {w : World} {ca : Option Addr} {cl cb co : Nat} (h : ByteR w ca cl cb co) : ∃ B, ByteD w ca cl cb co B := by
  refine ⟨fun i => if hi : i < cl then Classical.choose (h i hi).2 else 0, fun i hi => ?_⟩
  have := Classical.choose_spec (h i hi).2
  simp only [dif_pos hi]
  exact ⟨(h i hi).1, this.1, this.2⟩

structure RdD (B : Nat → Nat) (w : World) (CB : Nat) (ca : Option Addr) (cl cc cb co t : Nat) (σ : Sd) : Prop where
  cur : w.heap[CB]? = some (.cells #[.slice ca cl cc, .int .i64 (σ.a : Nat), .int .u64 σ.sd] 51 (0, 0))
  few : σ.a ≤ t
  byt : ByteD w ca cl cb co B
  ne : 0 < cl → cb ≠ CB
  len : cl ≤ 1048576

section
variable {B : Nat → Nat} {w w' : World} {CB : Nat} {ca : Option Addr} {cl cc cb co t : Nat} {σ τ : Sd}
theorem RdD.mono (h : RdD B w CB ca cl cc cb co t σ) {t' : Nat} (ht : t ≤ t') : RdD B w CB ca cl cc cb co t' σ := ⟨h.cur, Nat.le_trans h.few ht, h.byt, h.ne, h.len⟩
theorem RdD.next (h : RdD B w CB ca cl cc cb co t σ) (hc : w'.heap[CB]? = some (.cells #[.slice ca cl cc, .int .i64 (τ.a : Nat), .int .u64 τ.sd] 51 (0, 0))) {t' : Nat} (ht : τ.a ≤ t') (ho : Only (fun j => j = CB) w w') : RdD B w' CB ca cl cc cb co t' τ :=
  ⟨hc, ht, fun i hi => by obtain ⟨e, hx, hcl⟩ := h.byt i hi; exact ⟨e, hx, ho.cell hcl (h.ne (by omega))⟩, h.ne, h.len⟩
theorem RdD.below (h : RdD B w CB ca cl cc cb co t σ) (hb : Below w.heap.size w w') : RdD B w' CB ca cl cc cb co t σ :=
  ⟨by rw [hb.block CB (lt_of_block h.cur)]; exact h.cur, h.few, fun i hi => by obtain ⟨e, hx, hcl⟩ := h.byt i hi; exact ⟨e, hx, (hb.cell (World.block_lt_of_cell? _ _ hcl)).trans hcl⟩, h.ne, h.len⟩
theorem RdD.alloc (h : RdD B w CB ca cl cc cb co t σ) (o : Obj) : RdD B (w.alloc o) CB ca cl cc cb co t σ := h.below ((Below.refl _ _).alloc (Nat.le_refl _) _)
theorem RdD.keep (h : RdD B w CB ca cl cc cb co t σ) {base : Nat} (hb : Below base w w') (h1 : CB < base) (h2 : 0 < cl → cb < base) : RdD B w' CB ca cl cc cb co t σ :=
  ⟨by rw [hb.block CB h1]; exact h.cur, h.few, fun i hi => by obtain ⟨e, hx, hcl⟩ := h.byt i hi; exact ⟨e, hx, (hb.cell (p := ⟨cb, co + i, none⟩) (h2 (by omega))).trans hcl⟩, h.ne, h.len⟩
theorem RdD.blocks (h : RdD B w CB ca cl cc cb co t σ) : CB < w.heap.size ∧ (0 < cl → cb < w.heap.size) :=
  ⟨lt_of_block h.cur, fun hc => by obtain ⟨_, _, hcl⟩ := h.byt 0 hc; exact World.block_lt_of_cell? _ _ hcl⟩

theorem outE_is (sd : Int) : outE sd ≤ 255 ∧ wrap64 (bits .and .u64 (seedE sd / 1099511627776) 255) = (outE sd : Int) := by
  obtain ⟨y, hy, e⟩ := eight (IntKind.u64.wrap (sd * 6364136223846793005) + 1442695040888963407)
  have e' : wrap64 (bits .and .u64 (seedE sd / 1099511627776) 255) = (y : Int) := e
  unfold outE
  rw [e']
  simp only [Int.toNat_natCast]
  exact ⟨hy, trivial⟩

set_option maxHeartbeats 1000000 in
theorem nextD_r (h : RdD B w CB ca cl cc cb co t σ) (ht : t ≤ 90000000) :
    Calls Tryz.prog 84 #[.pointer (some ⟨CB, 0, none⟩)] w fun e w' => ∃ (y : Nat) (τ : Sd), y ≤ 255 ∧ Hid (nextF B cl σ = (y, τ)) ∧ e = .returned (.int .i64 y) ∧ Hid (RdD B w' CB ca cl cc cb co (t + 2) τ) ∧ Hid (Only (fun k => k = CB) w w') := by
  have Hh : Hid _ := h
  obtain ⟨a, sd⟩ := σ
  have hb := h.cur
  have ha := h.few
  simp only at hb ha
  have c0 : w.cell? ⟨CB, 0, none⟩ = some (.slice ca cl cc) := by simp [World.cell?, hb]
  have c1 : w.cell? ⟨CB, 1, none⟩ = some (.int .i64 a) := by simp [World.cell?, hb]
  have c2 : w.cell? ⟨CB, 2, none⟩ = some (.int .u64 sd) := by simp [World.cell?, hb]
  have z : ∀ i, w.frozen? ⟨CB, i, none⟩ = false := fun i => by simp [World.frozen?, hb]
  have Hb : Hid _ := hb
  have hB := h.byt
  clear hb h
  by_cases hlt : a < cl
  · obtain ⟨rfl, hx, hc⟩ := hB a hlt
    have il : (a : Int) < (cl : Int) := by omega
    obtain ⟨x, hxx⟩ : ∃ x, B a = x := ⟨_, rfl⟩
    have HF : Hid (nextF B cl ⟨a, sd⟩ = (x, ⟨a + 1, seedB sd x⟩)) := by show _ = _; unfold nextF; rw [if_pos hlt, hxx]
    rw [hxx] at hx hc
    clear hB hxx
    go_enter Tryz.func84, Tryz.ntmps84
    go_wp2_with fail
    go_quiet (fail)
    go_wp2_with fail
    go_quiet (fail)
    go_wp2
    go_ret
    refine ⟨x, _, hx, HF.out, rfl, ?_⟩
    obtain ⟨q1, q2⟩ := (cur_next Hb.out (Nat.le_refl a) _ (seedB sd x)).1
    obtain ⟨a', sd', ha', hc'⟩ := q1.ex
    exact ⟨Hh.out.next (τ := ⟨a + 1, seedB sd x⟩) (by simp [World.setCell, Array.getElem?_modify, World.drewN, Hb.out]; rfl) (by show a + 1 ≤ _; omega) q2, q2⟩
  · clear hB
    have il : ¬ (a : Int) < (cl : Int) := by omega
    have HF : Hid (nextF B cl ⟨a, sd⟩ = (outE sd, ⟨a + 1, seedE sd⟩)) := by show _ = _; unfold nextF; rw [if_neg hlt]
    go_enter Tryz.func84, Tryz.ntmps84
    go_wp2_with fail
    go_quiet (fail)
    go_wp2
    go_ret
    obtain ⟨q1, q2⟩ := (cur_next Hb.out (Nat.le_refl a) _ (seedE sd)).2
    exact ⟨outE sd, _, (outE_is sd).1, HF.out, by show Ending.returned (Value.int .i64 (wrap64 (bits .and .u64 (seedE sd / 1099511627776) 255))) = _; rw [(outE_is sd).2], Hh.out.next (τ := ⟨a + 1, seedE sd⟩) (by simp [World.setCell, Array.getElem?_modify, World.drewN, Hb.out]; rfl) (by show a + 1 ≤ _; omega) q2, q2⟩
end

end Go.Proofs.YtgflalfiopnmnaaGreatDoor

namespace Go.Proofs.YtgflalfiopnmnaaGreatDoor
open Go.RowKit Vl

section
variable {B : Nat → Nat} {w w' : World} {CB : Nat} {ca : Option Addr} {cl cc cb co t : Nat} {σ : Sd}

set_option maxHeartbeats 1000000 in
theorem pickD_r (m : Nat) (h : RdD B w CB ca cl cc cb co t σ) (hm0 : 0 < m) (hm : m ≤ 70000) (ht : t ≤ 80000000) :
    Calls Tryz.prog 47 #[.pointer (some ⟨CB, 0, none⟩), .int .i64 m] w fun e w' => ∃ (y : Nat) (τ : Sd), y < m ∧ Hid (pickF B cl m σ = (y, τ)) ∧ e = .returned (.int .i64 y) ∧ Hid (RdD B w' CB ca cl cc cb co (t + 4) τ) ∧ Hid (Only (fun k => k = CB) w w') := by
  by_cases h1 : m ≤ 1
  · have HC : Hid _ := h
    have HF : Hid (pickF B cl m σ = (0, σ)) := by show _ = _; unfold pickF; rw [if_pos h1]
    clear h
    go_enter Tryz.func47, Tryz.ntmps47
    go_wp2
    go_ret
    exact ⟨0, σ, by omega, HF, rfl, HC.out.mono (by omega), Only.refl _ _⟩
  · have hnx := nextD_r h (by omega)
    have hne : ¬ (m : Int) = 0 := by omega
    have hneb : ((m : Int) == 0) = false := by simp; omega
    clear h
    by_cases h2 : m ≤ 200
    · go_enter Tryz.func47, Tryz.ntmps47
      go_wp2_with fail
      refine hnx.mono ?_
      clear hnx
      rintro e w1 ⟨y, τ, hy, E1, rfl, HC1, HO1⟩
      have HF : Hid (pickF B cl m σ = (y % m, τ)) := by show _ = _; unfold pickF; rw [if_neg h1, if_pos h2, E1.out]
      go_wp2
      go_ret
      refine ⟨y % m, τ, Nat.mod_lt _ hm0, HF, ?_, HC1.out.mono (by omega), HO1⟩
      show Ending.returned (Value.int .i64 ((y : Int) % (m : Int))) = _
      rw [Int.natCast_emod]
    · go_enter Tryz.func47, Tryz.ntmps47
      go_wp2_with fail
      refine hnx.mono ?_
      clear hnx
      rintro e w1 ⟨y, τ, hy, E1, rfl, HC1, HO1⟩
      have hnx := nextD_r HC1.out (by omega)
      clear HC1
      go_wp2_with fail
      refine hnx.mono ?_
      clear hnx
      rintro e w2 ⟨z, τ2, hz, E2, rfl, HC2, HO2⟩
      have HF : Hid (pickF B cl m σ = ((y * 256 + z) % m, τ2)) := by show _ = _; unfold pickF; rw [if_neg h1, if_neg h2, E1.out]; simp only [E2.out]
      go_wp2
      go_ret
      refine ⟨(y * 256 + z) % m, τ2, Nat.mod_lt _ (by omega), HF, ?_, HC2, HO1.out.trans HO2.out⟩
      show Ending.returned (Value.int .i64 (((y : Int) * 256 + (z : Int)) % (m : Int))) = _
      rw [Int.natCast_emod]
      rfl

set_option maxHeartbeats 1000000 in
theorem wholeD_r (h : RdD B w CB ca cl cc cb co t σ) (ht : t ≤ 70000000) :
    Calls Tryz.prog 86 #[.pointer (some ⟨CB, 0, none⟩)] w fun e w' => ∃ (y : Int) (τ : Sd), Hid (wholeF B cl σ = (y, τ)) ∧ e = .returned (.int .i64 y) ∧ (-9223372036854775808 ≤ y ∧ y ≤ 9223372036854775807) ∧ Hid (RdD B w' CB ca cl cc cb co (t + 8) τ) ∧ Hid (Only (fun k => k = CB) w w') := by
  have hp := pickD_r 6 h (by omega) (by omega) (by omega)
  clear h
  go_enter Tryz.func86, Tryz.ntmps86
  go_wp2_with fail
  refine hp.mono ?_
  clear hp
  rintro e w1 ⟨y, τ, hy, E1, rfl, HR, HO⟩
  by_cases y0 : y = 0
  · subst y0
    have hp := pickD_r 3 HR.out (by omega) (by omega) (by omega)
    go_wp2_with fail
    refine hp.mono ?_
    clear hp
    rintro e w2 ⟨z, τ2, hz, E2, rfl, HR2, HO2⟩
    have HF : Hid (wholeF B cl σ = (9223372036854775807 - (z : Int), τ2)) := by show _ = _; simp [wholeF, E1.out, E2.out]
    go_wp2
    go_ret
    exact ⟨_, _, HF, rfl, ⟨by omega, by omega⟩, HR2.out.mono (by omega), HO.out.trans HO2.out⟩
  have h0 : ((y : Int) == 0) = false := by simpa using y0
  by_cases y1 : y = 1
  · subst y1
    have hp := pickD_r 3 HR.out (by omega) (by omega) (by omega)
    clear h0
    go_wp2_with fail
    refine hp.mono ?_
    clear hp
    rintro e w2 ⟨z, τ2, hz, E2, rfl, HR2, HO2⟩
    have HF : Hid (wholeF B cl σ = (-9223372036854775808 + (z : Int), τ2)) := by show _ = _; simp [wholeF, E1.out, E2.out]
    go_wp2
    go_ret
    exact ⟨_, _, HF, rfl, ⟨by omega, by omega⟩, HR2.out.mono (by omega), HO.out.trans HO2.out⟩
  have h1 : ((y : Int) == 1) = false := by simp; omega
  by_cases y2 : y = 2
  · subst y2
    have hp := pickD_r 70000 HR.out (by omega) (by omega) (by omega)
    clear h0 h1
    go_wp2_with fail
    refine hp.mono ?_
    clear hp
    rintro e w2 ⟨z, τ2, hz, E2, rfl, HR2, HO2⟩
    have HF : Hid (wholeF B cl σ = ((z : Int) - 35000, τ2)) := by show _ = _; simp [wholeF, E1.out, E2.out]
    go_wp2
    go_ret
    exact ⟨_, _, HF, rfl, ⟨by omega, by omega⟩, HR2.out.mono (by omega), HO.out.trans HO2.out⟩
  have h2 : ((y : Int) == 2) = false := by simp; omega
  have hp := pickD_r 12 HR.out (by omega) (by omega) (by omega)
  have HN : Hid (y ≠ 0 ∧ y ≠ 1 ∧ y ≠ 2) := ⟨y0, y1, y2⟩
  clear y0 y1 y2
  go_wp2_with fail
  refine hp.mono ?_
  clear hp
  rintro e w2 ⟨z, τ2, hz, E2, rfl, HR2, HO2⟩
  have HF : Hid (wholeF B cl σ = ((z : Int) - 3, τ2)) := by show _ = _; simp [wholeF, E1.out, E2.out, HN.out.1, HN.out.2.1, HN.out.2.2]
  go_wp2
  go_ret
  exact ⟨_, _, HF, rfl, ⟨by omega, by omega⟩, HR2.out.mono (by omega), HO.out.trans HO2.out⟩
end

end Go.Proofs.YtgflalfiopnmnaaGreatDoor

namespace Go.Proofs.YtgflalfiopnmnaaGreatDoor
open Go.RowKit Vl

section
variable {B : Nat → Nat} {w w' : World} {CB : Nat} {ca : Option Addr} {cl cc cb co t : Nat} {σ : Sd}

theorem bytes_textD {base n : Nat} {v : Value} {zs : List Int} (ho : w.ownsRow base 5 1 v n (zs.map (Value.int .u8))) (hn : zs.length = n) : ∀ dst, Tryz.prog.underlying dst = some .string → (convert 22 dst v).run Tryz.prog w = .ok (.string (strOfNums zs)) w := by
  rcases id ho.2 with ⟨rfl, h0⟩ | ⟨g, cap, cur, rfl, hg, hh, r⟩
  · obtain rfl : zs = [] := List.eq_nil_of_length_eq_zero (by omega)
    exact run_convert_bytes_nil w _ _ Tryz.underlying22 Tryz.underlying5 0 0
  · refine run_convert_bytes_arg w _ _ Tryz.underlying22 Tryz.underlying5 g 0 n cap zs hn (fun i hi => ?_)
    have := ho.cellAt i (by omega)
    rw [Nat.zero_add, this]
    simp [List.getElem?_eq_getElem (show i < zs.length by omega), List.getD]

set_option maxHeartbeats 1000000 in
set_option maxRecDepth 100000 in
theorem textD_r (h : RdD B w CB ca cl cc cb co t σ) (ht : t ≤ 70000000) :
    Calls Tryz.prog 85 #[.pointer (some ⟨CB, 0, none⟩)] w fun e w' => ∃ (s : ByteArray) (τ : Sd), s.size ≤ 500 ∧ Hid (textF B cl σ = (s, τ)) ∧ e = .returned (.string s) ∧ Hid (RdD B w' CB ca cl cc cb co (t + 20) τ) ∧ Hid (Only (fun k => k = CB) w w') := by
  have hp := pickD_r 30 h (by omega) (by omega) (by omega)
  clear h
  go_enter Tryz.func85, Tryz.ntmps85
  go_wp2_with fail
  refine hp.mono ?_
  clear hp
  rintro e w1 ⟨y, τ1, hy, E1, rfl, HR, HO⟩
  by_cases y0 : y = 0
  · subst y0
    clear hy
    go_wp2
    go_loop [3] (fun x => ∃ (j : Nat) (s : ByteArray), x = .string s ∧ j ≤ 6 ∧ Hid (s = dbl j) ∧ 0 < s.size ∧ s.size ≤ 1000) (fun x => 1000 - strLen x)
    case atStart => exact ⟨0, _, rfl, by omega, rfl, by decide, by decide⟩
    case round =>
      obtain ⟨j, s, rfl, hj, HJ, hs0, hs1⟩ := hrel
      have HJs : Hid (s.size = 10 * 2 ^ j) := by show _ = _; rw [HJ.out]; exact dbl_size j
      by_cases hs : s.size < 500
      · have hsz : (s ++ s).size = s.size + s.size := ByteArray.size_append
        have hj6 : j < 6 := Nat.lt_of_le_of_ne hj (fun e => by have := HJs.out; rw [e] at this; simp at this; omega)
        have HJ2 : Hid (s ++ s = dbl (j + 1)) := by show _ = dbl j ++ dbl j; rw [HJ.out]
        go_wp2
        exact ⟨⟨j + 1, _, rfl, by omega, HJ2, by omega, by omega⟩, by simp only [strLen]; omega⟩
      · have hp := pickD_r 2 HR.out (by omega) (by omega) (by omega)
        go_wp2_with fail
        refine hp.mono ?_
        clear hp
        rintro e w2 ⟨z, τ2, hz, E2, rfl, HR2, HO2⟩
        have HF : Hid (textF B cl σ = (s.extract 0 (500 - z), τ2)) := by
          have hj6 : j = 6 := Nat.le_antisymm hj (Nat.le_of_not_lt fun h => by
            have h1 : 2 ^ j ≤ 2 ^ 5 := Nat.pow_le_pow_right (by omega) (by omega)
            have := HJs.out
            omega)
          show _ = _
          rw [HJ.out, hj6]
          simp [textF, E1.out, E2.out]
        go_wp2
        go_ret
        refine ⟨s.extract 0 (500 - z), τ2, ?_, HF, rfl, HR2.out.mono (by omega), HO.out.trans HO2.out⟩
        rw [ByteArray.size_extract]
        omega
  · have hy0 : ((y : Int) == 0) = false := by simpa using y0
    have hp := pickD_r 4 HR.out (by omega) (by omega) (by omega)
    go_wp2_with fail
    refine hp.mono ?_
    clear hp
    rintro e w2 ⟨z, τ2, hz, E2, rfl, HR2, HO2⟩
    have HT0 : Hid (textF B cl σ = textH B cl z τ2) := by show _ = _; simp [textF, E1.out, E2.out, y0]
    have HOa : Hid (Only (fun k => k = CB) w w2) := HO.out.trans HO2.out
    clear HO HO2 HR hy hy0
    by_cases z0 : z = 0
    · subst z0
      clear hz
      go_wp2
      go_ret
      exact ⟨_, τ2, by decide, by rw [HT0.out]; rfl, rfl, HR2.out.mono (by omega), HOa.out⟩
    have hz0 : ((z : Int) == 0) = false := by simpa using z0
    by_cases z1 : z = 1
    · subst z1
      clear hz hz0 z0
      have hp := pickD_r 4 HR2.out (by omega) (by omega) (by omega)
      obtain ⟨i0, hi, hiz0, hiz1, hiz2⟩ := info_parts Tryz.info5
      go_wp2_with fail
      refine hp.mono ?_
      clear hp
      rintro e w3 ⟨m, τ3, hm, E3, rfl, HR3, HO3⟩
      have HT1 : Hid (textF B cl σ = textG B cl m τ3) := by show _ = _; rw [HT0.out]; simp [textH, E3.out]
      have HOb : Hid (Only (fun k => k = CB) w w3) := HOa.out.trans HO3.out
      have hbl := HR3.out.blocks
      have hws : w.heap.size ≤ w3.heap.size := HOb.out.size
      clear HOa HO3 HR2
      go_wp2
      go_loopw [4, 5] (fun out nn wr => ∃ (k : Nat) (zs : List Int) (v : Value) (τ : Sd), zs.length + k = m ∧ Hid (nextsF B cl zs.length τ3 = (zs, τ)) ∧ nn = .int .i64 k ∧ v = out ∧ Hid (wr.ownsRow w3.heap.size 5 1 v zs.length (zs.map (Value.int .u8))) ∧ Hid (RdD B wr CB ca cl cc cb co (t + 12 + 2 * zs.length) τ) ∧ Hid (Only (fun k => k = CB) w wr) ∧ w3.heap.size ≤ wr.heap.size) (fun _ nn _ => (intOf nn).toNat)
      case atStart => exact ⟨m, [], _, τ3, by simp, rfl, rfl, rfl, World.ownsRow_nil _ _ _ _, HR3.out, HOb.out, Nat.le_refl _⟩
      case round =>
        obtain ⟨k, zs, out, τ4, hzk, HZ, rfl, rfl, HW, HRr, HOr, hsz⟩ := hrel
        by_cases hk : 0 < k
        · have hp := nextD_r HRr.out (by omega)
          go_wp2_with fail
          refine hp.mono ?_
          clear hp
          rintro e w4 ⟨q, τ5, hq, E5, rfl, HR4, HO4⟩
          have HZ5 : Hid (nextsF B cl (zs ++ [(q : Int)]).length τ3 = (zs ++ [(q : Int)], τ5)) := by
            show _ = _
            rw [List.length_append]
            show (_, _) = _
            rw [HZ.out]
            simp only [E5.out]
          have HW4 : Hid (w4.ownsRow w3.heap.size 5 1 out zs.length (zs.map (Value.int .u8))) := HO4.out.owns HW.out (fun g hg _ e => by omega)
          have HO5 : Hid (Only (fun k => k = CB) w w4) := HOr.out.trans HO4.out
          have hs4 : w3.heap.size ≤ w4.heap.size := Nat.le_trans hsz HO4.out.size
          clear HO4 HOr HRr HW
          go_wp2_with (at_builtin; refine wpList_append_lies _ (by rfl) (.tmp 32) (.tmp 36) 22 (by rfl) w3.heap.size 5 i0 (.int .u8 0) 1 1 Tryz.underlying22 hi hiz0 hiz1 hiz2 (by rfl) (by omega) out zs.length (zs.map (Value.int .u8)) (by rfl) (HW4.out.alloc _) ⟨w4.heap.size, 0, none⟩ 1 1 [.int .u8 q] (by rfl) (by rfl) (World.news_of_block (heap_alloc_new w4 _)) (by intro u hu; simp at hu; subst hu; rfl) (by omega) (by unfold maxLen; omega) (by omega) (by simp; omega) (w4.heap.size + 1) (by simp) ?_; intro g cap w5 hown5 hgrow5 hat hlt)
          have hbel := below_grown (HW4.out.alloc _) hgrow5 (by simp; omega)
          have HR5 : Hid (RdD B w5 CB ca cl cc cb co (t + 12 + 2 * (zs ++ [(q : Int)]).length) τ5) := ((HR4.out.alloc _).keep hbel hbl.1 hbl.2).mono (by simp; omega)
          have HO6 : Hid (Only (fun k => k = CB) w w5) := (HO5.out.alloc _).thenBelow hbel hws
          have HW5 : Hid (w5.ownsRow w3.heap.size 5 1 (.slice (some ⟨g, 0, none⟩) (zs.length + 1) cap) (zs ++ [(q : Int)]).length ((zs ++ [(q : Int)]).map (Value.int .u8))) := by
            rw [List.map_append, List.length_append]; exact hown5
          have hs5 : w3.heap.size ≤ w5.heap.size := Nat.le_trans (by simp; omega) hbel.size
          clear hown5 hgrow5 hbel HW4 HO5 HR4 hat
          go_roundw
          case rel => exact ⟨k - 1, zs ++ [(q : Int)], _, τ5, by simp; omega, HZ5, by go_num, rfl, HW5, HR5, HO6, hs5⟩
          case measure => simp [intOf]; omega
        · obtain rfl : k = 0 := by omega
          have hcv' := bytes_textD HW.out rfl 9 Tryz.underlying9
          have HF : Hid (textF B cl σ = (strOfNums zs, τ4)) := by
            show _ = _
            rw [HT1.out, ← hzk, Nat.add_zero]
            unfold textG
            rw [HZ.out]
          go_wp2
          go_ret
          exact ⟨strOfNums zs, τ4, by rw [strOfNums_size]; omega, HF, rfl, HRr.out.mono (by omega), HOr.out⟩
    · have hz1 : ((z : Int) == 1) = false := by simp; omega
      have hp := pickD_r 3 HR2.out (by omega) (by omega) (by omega)
      have HN : Hid (z ≠ 0 ∧ z ≠ 1) := ⟨z0, z1⟩
      clear z0 z1
      go_wp2_with fail
      refine hp.mono ?_
      clear hp
      rintro e w3 ⟨m, τ3, hm, E3, rfl, HR3, HO3⟩
      have HF : Hid (textF B cl σ = (strOfNums [97 + (m : Int)], τ3)) := by show _ = _; rw [HT0.out]; simp [textH, E3.out, HN.out.1, HN.out.2]
      have hcell : ∀ (q : Int) (i : Nat), i < 1 → (w3.alloc (.cells #[.int .u8 q] 5)).cell? ⟨w3.heap.size, 0 + i, none⟩ = some (.int .u8 ([q].getD i 0)) := fun q i hi => by
        obtain rfl : i = 0 := by omega
        simp [World.cell?_alloc_new]
      have hcv := fun q => run_convert_bytes_arg (P := Tryz.prog) (w3.alloc (.cells #[.int .u8 q] 5)) 22 5 Tryz.underlying22 Tryz.underlying5 w3.heap.size 0 1 1 [q] rfl (hcell q) 9 Tryz.underlying9
      clear hcell
      go_wp2
      go_ret
      exact ⟨_, τ3, by rw [strOfNums_size]; simp, HF, rfl, (HR3.out.alloc _).mono (by omega), (HOa.out.trans HO3.out).alloc _⟩
end

end Go.Proofs.YtgflalfiopnmnaaGreatDoor
