import Derived.Test.YtgflalfiopnmnaaGreatDoorR3
import Derived.Test.YtgflalfiopnmnaaGreatDoorR6
import Derived.Deep.RegionHeld3
namespace Go.Proofs.YtgflalfiopnmnaaGreatDoor
open Go.RowKit Vl

abbrev ptrs (T : Nat → Nat) (S : List Nat) : List Value := S.map fun j => ptr (T j)

/-- The gatherer of 'canonical': S seen, U in the row. -/
structure MtW (w0 w : World) (WB WM base : Nat) (T : Nat → Nat) (mv : Value) (S U : List Nat) : Prop where
  blk : w.heap[WB]? = some (.cells #[mv, .map (some WM)] 141 (0, 0))
  map : MapG ptr w WM (S.map fun j => (T j, .agg #[]))
  own : w.ownsRow base 107 1 mv U.length (ptrs T U)
  bel : Below w0.heap.size w0 w

theorem MtW.below {w0 w w' : World} {WB WM base : Nat} {T : Nat → Nat} {mv : Value} {S U : List Nat} (h : MtW w0 w WB WM base T mv S U) (hb : Below w.heap.size w w') : MtW w0 w' WB WM base T mv S U :=
  ⟨blkB h.blk hb, h.map.same (hb.block _ h.map.lt), (Only.below (P := fun _ => False) hb).owns h.own (fun _ _ _ h => h), h.bel.trans (hb.mono h.bel.size)⟩

/-- A table is marked as seen. -/
theorem MtW.mark {w0 w w' : World} {WB WM base : Nat} {T : Nat → Nat} {mv : Value} {S : List Nat} {r : Nat} (h : MtW w0 w WB WM base T mv S S) (hB : SpB w0 WB WM base) (hm : MapG ptr w' WM ((S.map fun j => (T j, Value.agg #[])) ++ [(T r, .agg #[])])) (ho : Only (fun k => k = WM) w w') :
    MtW w0 w' WB WM base T mv (S ++ [r]) S ∧ FrV WB WM mv mv w w' := by
  have hne := hB.ne
  refine ⟨⟨(ho.block _ (blk_lt h.blk) hne).trans h.blk, ?_, ?_, h.bel.trans (ho.toBelow (fun k hk => by subst hk; exact hB.wh) h.bel.size)⟩, ⟨ho.mono (fun k _ e => Or.inr (Or.inl e)), fun _ _ h => h⟩⟩
  · rw [List.map_append]; exact hm
  · refine ho.ownsB h.own (fun g hg e => ?_)
    obtain ⟨_, _, _, hk⟩ := owns_form h.own
    have := (hk _ hg).1
    have := hB.whb
    omega

/-- A table is put behind the row. -/
theorem MtW.put {w0 w w3 : World} {WB WM base g cap : Nat} {T : Nat → Nat} {mv : Value} {S U : List Nat} {r : Nat} {o : Obj} (h : MtW w0 w WB WM base T mv S U) (hB : SpB w0 WB WM base) (hgrow : (w.alloc o).grownBy w3 mv.ownBlock)
    (hown : w3.ownsRow base 107 1 (.slice (some ⟨g, 0, none⟩) (U.length + 1) cap) (U.length + 1) (ptrs T U ++ [ptr (T r)])) (hat : w.heap.size ≤ g ∨ mv.ownBlock = some g) :
    (w3.cell? ⟨WB, 0, none⟩ = some mv ∧ ∀ j, w3.frozen? ⟨WB, j, none⟩ = false) ∧ MtW w0 (w3.setCell ⟨WB, 0, none⟩ (.slice (some ⟨g, 0, none⟩) (U.length + 1) cap)) WB WM base T (.slice (some ⟨g, 0, none⟩) (U.length + 1) cap) S (U ++ [r]) ∧
      FrV WB WM mv (.slice (some ⟨g, 0, none⟩) (U.length + 1) cap) w (w3.setCell ⟨WB, 0, none⟩ (.slice (some ⟨g, 0, none⟩) (U.length + 1) cap)) := by
  obtain ⟨_, _, _, hk⟩ := owns_form h.own
  have hwb : WB < w.heap.size := blk_lt h.blk
  have hwh : WM < w.heap.size := h.map.lt
  have hbl : ∀ k, k < w.heap.size → mv.ownBlock ≠ some k → w3.heap[k]? = w.heap[k]? := fun k hk hne =>
    (hgrow.block k (by simp; omega) (fun e => hne e.symm)).trans (Below.heap_alloc w o k hk)
  have n1 : mv.ownBlock ≠ some WB := fun e => by have := (hk _ e).1; have := hB.wbb; omega
  have n2 : mv.ownBlock ≠ some WM := fun e => by have := (hk _ e).1; have := hB.whb; omega
  have hblk := (hbl WB hwb n1).trans h.blk
  have hc := two_at hblk
  have hgb : base ≤ g := by
    obtain ⟨_, _, e, hk'⟩ := owns_form hown
    exact (hk' g (by simp [Value.ownBlock])).1
  have hsz : w.heap.size ≤ w3.heap.size := by have := hgrow.size; simp at this; omega
  have ho : Only (fun k => k = WB ∨ k = WM ∨ mv.ownBlock = some k) w w3 := ⟨hgrow.os, hgrow.tape, hgrow.output, hsz, fun k hk hp => hbl k hk (fun e => hp (Or.inr (Or.inr e)))⟩
  refine ⟨⟨hc.1, hc.2.2⟩, ⟨?_, ?_, ?_, ?_⟩, ⟨ho.set (Or.inl rfl) _, fun k hk' e => ?_⟩⟩
  · simp [World.setCell, Array.getElem?_modify, hblk]
  · exact h.map.same ((Below.heap_setCell _ _ _ _ (fun e => hB.ne e.symm)).trans (hbl WM hwh n2))
  · rw [show ptrs T (U ++ [r]) = ptrs T U ++ [ptr (T r)] by simp [ptrs], show (U ++ [r]).length = U.length + 1 by simp]
    exact ownsRow_setCell_other (a := ⟨WB, 0, none⟩) hown (by have := hB.wbb; simp only [Value.ownBlock, ne_eq, Option.some.injEq]; omega) _
  · refine (h.bel.trans (ho.toBelow (base := w0.heap.size) (fun k hk' => ?_) h.bel.size)).setCell hB.wb _
    rcases hk' with rfl | rfl | e
    · exact hB.wb
    · exact hB.wh
    · have := (hk _ e).1; have := hB.wb; have := hB.wbb; omega
  · simp only [Value.ownBlock, Option.some.injEq] at e
    subst e
    rcases hat with h' | h'
    · omega
    · exact h'

set_option maxHeartbeats 2000000 in
set_option maxRecDepth 100000 in
/-- '(*meeting).meet'. -/
theorem meet_any (n : Nat) (T M : Nat → Nat) (at_ : Nat → Int) (L : Nat → Nat) (K X : Nat → Nat → V) (w0 : World) (WB WM base : Nat) (hn : n ≤ 400) (HL : Hid (∀ r, r < n → L r ≤ 100)) (HG : Hid (Good n L X))
    (HT : Hid (Tbs w0 n T M at_ L K X)) (HB : Hid (SpB w0 WB WM base)) : ∀ (f : Nat) (S : List Nat) (v : V) (w : World) (mv : Value), Hid (Fit n S) → isV n v = true → n - S.length < f → base ≤ w.heap.size → Hid (MtW w0 w WB WM base T mv S S) →
    Calls Tryz.prog 59 #[.pointer (some ⟨WB, 0, none⟩), ifv T v] w fun e w' => e = .returned (.tuple #[]) ∧ ∃ mv', MtW w0 w' WB WM base T mv' (met L X f S v) (met L X f S v) ∧ FrV WB WM mv mv' w w' := by
  intro f
  induction f with
  | zero => intro S v w mv _ _ h; omega
  | succ f ih =>
    intro S v w mv HF hv hf hbase HW
    obtain ⟨x0, x1, xz⟩ := two_at HW.out.blk
    by_cases h4 : v.k = 4
    · obtain ⟨a0, a1⟩ := isV_tab hv h4
      obtain ⟨r, hr⟩ : ∃ r : Nat, v.a = r := ⟨v.a.toNat, by omega⟩
      have hrn : r < n := by omega
      rw [ifv_tab h4, hr, Int.toNat_natCast]
      have hta := assert_yes (T r)
      have hfm : (findG (fun a b => a == b) (T r) (S.map fun j => (T j, Value.agg #[]))).isSome = decide (r ∈ S) := findG_mem T (fun _ => .agg #[]) r S (fun i hi e => HT.out.inj i r (HF.out.lt i hi) hrn e)
      have hIsB : ∀ w' : World, Below w0.heap.size w0 w' → ∀ j, j < n → IsB w' (T j) := fun w' hb j hj => by
        obtain ⟨ord, h1, _⟩ := HT.out.tab j hj
        exact ⟨_, _, (hb.block _ (blk_lt h1)).trans h1⟩
      have hokS : ∀ w' : World, Below w0.heap.size w0 w' → ∀ p ∈ (S.map fun j => (T j, Value.agg #[])), IsB w' p.1 := fun w' hb p hp => by
        obtain ⟨j, hj, rfl⟩ := List.mem_map.1 hp
        exact hIsB w' hb j (HF.out.lt j hj)
      have hlk := (HW.out.map.lookup seen_keyed (T r) (hIsB w HW.out.bel r hrn) (hokS w HW.out.bel)).1
      rw [hfm] at hlk
      by_cases hm : r ∈ S
      · rw [decide_eq_true hm] at hlk
        have hE : Hid (met L X (f + 1) S v = S) := met_old (Or.inr (by rw [hr]; exact hm))
        rw [hE.out]
        rw [findG_const] at hlk
        have hb : Below w.heap.size w (w.alloc (.cells #[] 167)) := (Below.refl _ _).alloc (Nat.le_refl _) _
        clear hfm hm hIsB hokS
        go_enter Tryz.func59, Tryz.ntmps59
        go_wp2
        refine bodyPost_ret (results_none rfl _ _ _) rfl ?_
        exact ⟨rfl, mv, HW.out.below hb, FrV.first hb⟩
      · rw [decide_eq_false hm] at hlk hfm
        have hnone : findG (fun a b => a == b) (T r) (S.map fun j => (T j, Value.agg #[])) = none := by simpa using hfm
        rw [hnone] at hlk
        have hE : Hid (met L X (f + 1) S v = mets L X f (S ++ [r]) (X r) (L r)) := by
          have := met_new (L := L) (X := X) (f := f) (S := S) h4 (by rw [hr]; exact hm)
          rw [hr] at this
          exact this
        rw [hE.out]
        obtain ⟨ma, mc, rfl, hmk⟩ := owns_form HW.out.own
        have HMK : Hid (∀ k, (Value.slice ma S.length mc).ownBlock = some k → base ≤ k ∧ k < w.heap.size) := hmk
        obtain ⟨w1, hw1⟩ : ∃ w1, w1 = w.alloc (.cells #[] 167) := ⟨_, rfl⟩
        have hb1 : Below w.heap.size w w1 := by rw [hw1]; exact (Below.refl _ _).alloc (Nat.le_refl _) _
        have hs1 : w1.heap.size = w.heap.size + 1 := by rw [hw1]; simp
        have hW1 := HW.out.below hb1
        obtain ⟨w2, hu, hM2, hO2, hs2⟩ := hW1.map.update seen_keyed (T r) (.agg #[]) (hIsB _ hW1.bel r hrn) (hokS _ hW1.bel) hnone
        obtain ⟨hW2, hF2⟩ := hW1.mark HB.out hM2 hO2
        have HW2 : Hid (MtW w0 w2 WB WM base T (.slice ma S.length mc) (S ++ [r]) S) := hW2
        have HF2 : Hid (FrV WB WM (.slice ma S.length mc) (.slice ma S.length mc) w w2) := (FrV.first hb1).trans hF2
        have HZ2 : Hid (w2.heap.size = w.heap.size + 1) := show _ = _ by omega
        obtain ⟨y0, y1, yz⟩ := two_at HW2.out.blk
        have hb1' : w1.cell? ⟨WB, 1, none⟩ = some (.map (some WM)) := (two_at hW1.blk).2.1
        rw [hw1] at hu hb1'
        clear hIsB hokS hmk hfm hnone hM2 hO2 hW2 hF2 hs2 hb1 hs1 hW1 hw1 w1
        obtain ⟨i0, hi, hz0, hz1, hz2'⟩ := info_parts Tryz.info107
        have hSl : S.length ≤ 400 := Nat.le_trans HF.out.len hn
        go_enter Tryz.func59, Tryz.ntmps59
        go_wp2_with (at_builtin; (refine wpList_append_lies _ (by rfl) (.tmp 33) (.tmp 35) 55 (by rfl) base 107 i0 (.pointer none) 1 8 Tryz.underlying55 hi hz0 hz1 hz2' (by rfl) (by omega) (.slice ma S.length mc) S.length (ptrs T S) (by rfl) (HW2.out.own.alloc _) ⟨w2.heap.size, 0, none⟩ 1 1 [ptr (T r)] (by rfl) (by rfl) ?c1 ?c2 (by omega) ?c3 ?c4 ?c5 (w2.heap.size + 1) ?c6 ?_))
        case c1 => exact World.news_of_block (heap_alloc_new w2 _)
        case c2 => intro u hu; simp at hu; subst hu; rfl
        case c3 => unfold maxLen; omega
        case c4 => omega
        case c5 => have := HZ2.out; simp; omega
        case c6 => simp
        intro g cap w3 hown3 hgrow3 hat hlt3
        obtain ⟨⟨e0, ez⟩, hW4, hF4⟩ := HW2.out.put HB.out hgrow3 hown3 (by rcases hat with h | h; exact Or.inr h; exact Or.inl (by omega))
        have HW4 : Hid _ := hW4
        have HF4 : Hid _ := HF2.out.trans hF4
        clear hW4 hF4 hown3 hgrow3 hat hlt3 hu hlk y0 y1 yz x0 x1 xz hb1' hi hz0 hz1 hz2'
        obtain ⟨mv4, hm4⟩ : ∃ o, Value.slice (some ⟨g, 0, none⟩) (S.length + 1) cap = o := ⟨_, rfl⟩
        obtain ⟨w4, hw4⟩ : ∃ w4, w4 = w3.setCell ⟨WB, 0, none⟩ (.slice (some ⟨g, 0, none⟩) (S.length + 1) cap) := ⟨_, rfl⟩
        rw [← hw4] at HW4 HF4
        rw [hm4] at HW4 HF4
        clear hm4
        obtain ⟨ord, hTb, hOr⟩ := HT.out.tab r hrn
        obtain ⟨l, hM, hfind⟩ := HT.out.map r hrn
        obtain ⟨hform, hVals⟩ := owns_keys hOr
        have HTb : Hid (TabB w0 (T r) (M r) (at_ r) ord) := hTb
        have HM : Hid (MapIs w0 (M r) l) := hM
        have HFd : Hid (∀ c, c < L r → findV (K r c) l = some (ifv T (X r c))) := hfind
        obtain ⟨ka, hka⟩ : ∃ ka, slA ord = ka := ⟨_, rfl⟩
        obtain ⟨kb, hkb⟩ : ∃ kb, slB ord = kb := ⟨_, rfl⟩
        obtain ⟨kc, hkc⟩ : ∃ kc, slC ord = kc := ⟨_, rfl⟩
        rw [hka, hkc] at hform
        rw [hka, hkb] at hVals
        have HV : Hid (ValsAt w0 ka (L r) kb 0 (K r)) := hVals
        rw [hform] at HTb
        clear hTb hM hfind hVals hOr hform hka hkb hkc
        have t2 : w4.cell? ⟨T r, 2, none⟩ = some (.slice ka (L r) kc) := (HW4.out.bel.cell (p := ⟨T r, 2, none⟩) (HT.out.lt hrn)).trans HTb.out.cells.2.2.1
        rw [hw4] at t2
        go_wp2
        rw [← hw4]
        clear t2 hw4 e0 ez
        have hLr := HL.out r hrn
        have HA : Hid (Grows n S (S ++ [r])) := HF.out.add hrn hm
        have hszS : n - (S ++ [r]).length < f := by
          have := HF.out.less hrn hm
          simp
          omega
        go_loopw [44] (fun ii wr => ∃ (c : Nat) (mc' : Value), c ≤ L r ∧ ii = .int .i64 c ∧ Hid (Grows n (S ++ [r]) (mets L X f (S ++ [r]) (X r) c)) ∧ Hid (MtW w0 wr WB WM base T mc' (mets L X f (S ++ [r]) (X r) c) (mets L X f (S ++ [r]) (X r) c)) ∧ Hid (FrV WB WM (.slice ma S.length mc) mc' w wr)) (fun ii _ => L r - (intOf ii).toNat)
        case atStart => exact ⟨0, mv4, Nat.zero_le _, rfl, HA.out.fit.refl, HW4, HF4⟩
        case round =>
          obtain ⟨c, m5, hc, rfl, HGr, HWr, HFr⟩ := hrel
          clear HW4 HF4
          have hsr : w.heap.size ≤ wr.heap.size := HFr.out.only.size
          by_cases hlt : c < L r
          · obtain rfl := HV.out.top (by omega)
            obtain ⟨k0, k1, k2, k3⟩ := (HV.out.below HWr.out.bel).cells hlt
            simp only [Nat.zero_add] at k0 k1 k2 k3
            obtain ⟨kk, HKK⟩ : ∃ kk, Hid (K r c = kk) := ⟨_, rfl⟩
            rw [HKK.out] at k0 k1 k2 k3
            obtain ⟨Sc, HSc⟩ : ∃ Sc, Hid (mets L X f (S ++ [r]) (X r) c = Sc) := ⟨_, rfl⟩
            rw [HSc.out] at HGr HWr
            have HSn : Hid (mets L X f (S ++ [r]) (X r) (c + 1) = met L X f Sc (X r c)) := by rw [mets_succ, HSc.out]; exact rfl
            go_wp2
            obtain ⟨wk, hwk⟩ : ∃ wk, wk = wr.alloc (.cells #[.int .i64 kk.k, .int .i64 kk.n, .string kk.s, .int .i64 kk.a] 24) := ⟨_, rfl⟩
            have HBk : Hid (Below wr.heap.size wr wk) := by rw [hwk]; exact (Below.refl _ _).alloc (Nat.le_refl _) _
            have HKb : Hid (ValB wk wr.heap.size kk) := by rw [hwk]; exact heap_alloc_new _ _
            rw [← hwk]
            have hszk : wk.heap.size = wr.heap.size + 1 := by rw [hwk]; simp
            obtain ⟨qb, hqb⟩ : ∃ qb, wr.heap.size = qb := ⟨_, rfl⟩
            have hq1 : WB < qb := by rw [← hqb]; exact blk_lt HWr.out.blk
            have hq2 : WM < qb := by rw [← hqb]; exact HWr.out.map.lt
            have HQ3 : Hid (m5.ownBlock ≠ some qb) := show _ ≠ _ from fun e => by
              obtain ⟨_, _, _, h⟩ := owns_form HWr.out.own
              have := (h _ e).2
              omega
            rw [hqb] at HKb ⊢
            have HWk : Hid (MtW w0 wk.drew WB WM base T m5 Sc Sc) := HWr.out.below HBk.out.drew
            have HFk : Hid (FrV WB WM (.slice ma S.length mc) m5 w wk.drew) := HFr.out.below HBk.out.drew
            clear hwk k0 k1 k2 k3 HBk HWr HFr
            have hiv := HG.out r hrn c hlt
            have hlen := HGr.out.len
            have hcall := ih Sc (X r c) wk.drew m5 HGr.out.fit hiv (by omega) (by show base ≤ wk.heap.size; omega) HWk
            have hall := met_all HG.out f Sc (X r c) HGr.out.fit hiv (by omega)
            have HGn : Hid (Grows n (S ++ [r]) (met L X f Sc (X r c))) := HGr.out.trans hall.1
            have hfc := HFd.out c hlt
            obtain ⟨xt, xy, hxv⟩ := ifv_form T (X r c)
            rw [hxv] at hcall hfc
            rw [HKK.out] at hfc
            have hS : ∀ w' : World, Below w0.heap.size w0 w' → w'.cell? ⟨T r, 1, none⟩ = some (.map (some (M r))) ∧ (Instr.lookup 119 (.map (some (M r))) (.agg #[.int .i64 kk.k, .int .i64 kk.n, .string kk.s, .int .i64 kk.a]) false).run Tryz.prog w' = .ok (.iface xt xy) w' := fun w' hb => by
              refine ⟨(hb.cell (p := ⟨T r, 1, none⟩) (HT.out.lt hrn)).trans HTb.out.cells.2.1, ?_⟩
              have := ((HM.out.same (hb.block _ HM.out.lt)).lookup kk).2
              rw [hfc] at this
              exact this
            have HS : Hid _ := hS
            clear hS hfc hxv hall hlen hiv
            refine wp_region_held_drew (S := fun w' => Below w0.heap.size w0 w' ∧ ValB w' qb kk) (by kernel_rfl) ⟨HWk.out.bel, HKb.out⟩ (fun hHeld => ?_)
            refine wpAnyH_take (i := 0) (v := .pointer (some ⟨WB, 0, none⟩)) rfl (by kernel_rfl) (by kernel_rfl) (by kernel_rfl) (fun _ _ _ h => h) (Or.inl ⟨by rfl, fun w hSw => ?_⟩) hHeld ?_
            · first | rfl | go_simp
            simp only [Act.put, List.setIfInBounds_toArray, List.set_cons_zero, List.set_cons_succ, List.getElem_toArray, List.getElem_cons_zero]
            refine wpAnyH_take (i := 1) (v := .pointer (some ⟨T r, 0, none⟩)) rfl (by kernel_rfl) (by kernel_rfl) (by kernel_rfl) (fun _ _ _ h => h) (Or.inl ⟨by rfl, fun w hSw => ?_⟩) hHeld ?_
            · first | rfl | go_simp
            simp only [Act.put, List.setIfInBounds_toArray, List.set_cons_zero, List.set_cons_succ, List.getElem_toArray, List.getElem_cons_zero, List.getElem_cons_succ]
            refine wpAnyH_take (i := 2) (v := .pointer (some ⟨T r, 0, none⟩)) rfl (by kernel_rfl) (by kernel_rfl) (by kernel_rfl) (fun _ _ _ h => h) (Or.inl ⟨by rfl, fun w hSw => ?_⟩) hHeld ?_
            · first | rfl | go_simp
            simp only [Act.put, List.setIfInBounds_toArray, List.set_cons_zero, List.set_cons_succ, List.getElem_toArray, List.getElem_cons_zero, List.getElem_cons_succ]
            refine wpAnyH_take (i := 3) (v := .pointer (some ⟨T r, 1, none⟩)) rfl (by kernel_rfl) (by kernel_rfl) (by kernel_rfl) (fun _ _ _ h => h) (Or.inl ⟨by rfl, fun w hSw => ?_⟩) hHeld ?_
            · first | rfl | go_simp
            simp only [Act.put, List.setIfInBounds_toArray, List.set_cons_zero, List.set_cons_succ, List.getElem_toArray, List.getElem_cons_zero, List.getElem_cons_succ]
            refine wpAnyH_take (i := 4) (v := .map (some (M r))) rfl (by kernel_rfl) (by kernel_rfl) (by kernel_rfl) (fun _ _ _ h => h) (Or.inl ⟨by rfl, fun w hSw => ?_⟩) hHeld ?_
            · have s1 := (HS.out w hSw.1).1
              first | rfl | go_simp
            simp only [Act.put, List.setIfInBounds_toArray, List.set_cons_zero, List.set_cons_succ, List.getElem_toArray, List.getElem_cons_zero, List.getElem_cons_succ]
            refine wpAnyH_take (i := 5) (v := .agg #[.int .i64 kk.k, .int .i64 kk.n, .string kk.s, .int .i64 kk.a]) rfl (by kernel_rfl) (by kernel_rfl) (by kernel_rfl) (fun _ _ _ h => h) (Or.inl ⟨by rfl, fun w hSw => ?_⟩) hHeld ?_
            · obtain ⟨s0, s1, s2, s3, _⟩ := cells4 hSw.2
              first | rfl | go_simp
            simp only [Act.put, List.setIfInBounds_toArray, List.set_cons_zero, List.set_cons_succ, List.getElem_toArray, List.getElem_cons_zero, List.getElem_cons_succ]
            refine wpAnyH_take (i := 6) (v := .iface xt xy) rfl (by kernel_rfl) (by kernel_rfl) (by kernel_rfl) (fun _ _ _ h => h) (Or.inl ⟨by rfl, fun w hSw => ?_⟩) hHeld ?_
            · have s1 := (HS.out w hSw.1).2
              first | rfl | go_simp
            simp only [Act.put, List.setIfInBounds_toArray, List.set_cons_zero, List.set_cons_succ, List.getElem_toArray, List.getElem_cons_zero, List.getElem_cons_succ]
            refine wpAnyH_ready (rs := [7]) (by kernel_rfl) (by simp) ?_
            refine AllReadyH.cons rfl (fun K' hK' => ?_) AllReadyH.nil
            go_simp
            refine hcall.mono ?_
            clear hcall
            rintro e w5 ⟨rfl, m6, hW6, hF6⟩
            have HW6 : Hid (MtW w0 w5 WB WM base T m6 (met L X f Sc (X r c)) (met L X f Sc (X r c))) := hW6
            have HF6 : Hid (FrV WB WM (.slice ma S.length mc) m6 w w5) := HFk.out.trans hF6
            have HK6 : Hid (ValB w5 qb kk) := hF6.blk (a := wk.drew) HKb.out (by omega) (by omega) HQ3.out
            refine hK'.out _ _ ⟨HW6.out.bel, HK6.out⟩ (fun hHeld => ?_)
            clear hK' hHeld hW6 hF6 HWk HFk
            refine wpAnyH_done (by kernel_rfl) ?_ _
            go_wp2
            go_roundw
            case rel => exact ⟨c + 1, m6, by omega, by go_num, by rw [HSn.out]; exact HGn, by rw [HSn.out]; exact HW6, HF6⟩
            case measure => simp [intOf]; omega
          · obtain rfl : c = L r := by omega
            go_wp2
            go_end0
            exact ⟨rfl, m5, HWr.out, HFr.out⟩
    · have hta := assert_no hv h4 T
      have hE : Hid (met L X (f + 1) S v = S) := met_old (Or.inl h4)
      rw [hE.out]
      obtain ⟨xt, xy, hxv⟩ := ifv_form T v
      rw [hxv] at hta ⊢
      clear x0 x1 xz
      go_enter Tryz.func59, Tryz.ntmps59
      go_wp2
      go_end0
      exact ⟨rfl, mv, HW.out, FrV.refl _ _ _ _⟩

end Go.Proofs.YtgflalfiopnmnaaGreatDoor

namespace Go.Proofs.YtgflalfiopnmnaaGreatDoor
open Go.RowKit Vl

theorem share3 {F : Option Addr → Nat → World → Prop} {G : Option Addr → Nat → World → Prop} {P : Prop} (h : Hid (∀ a c w, F a c w → G a c w) → P) (g : ∀ a c w, F a c w → G a c w) : P := h g

theorem atV_renum {at_ : Nat → Int} {S : List Nat} (h : ∀ j, j < S.length → at_ (S.getD j 0) = j) {v : V} (hv : v.k = 4 → v.a.toNat ∈ S) : atV at_ v = renum S v := by
  unfold atV renum
  by_cases h4 : v.k = 4
  · rw [if_pos h4, if_pos h4]
    have hm := hv h4
    have hi := List.idxOf_lt_length_of_mem hm
    have := h _ hi
    rw [List.getD_eq_getElem?_getD, List.getElem?_eq_getElem hi] at this
    simp only [List.getElem_idxOf, Option.getD_some] at this
    rw [this]
  · rw [if_neg h4, if_neg h4]

set_option maxHeartbeats 4000000 in
set_option maxRecDepth 100000 in
/-- 'canonical'. -/
theorem canonical_any (n : Nat) (T M : Nat → Nat) (at_ : Nat → Int) (L : Nat → Nat) (K X : Nat → Nat → V) (u : V) (w : World) (hn : n ≤ 400) (HL : Hid (∀ r, r < n → L r ≤ 100)) (HG : Hid (Good n L X)) (hu : isV n u = true) (HT : Hid (Tbs w n T M at_ L K X)) (S : List Nat) (HS : Hid (order n u L X = S)) :
    Calls Tryz.prog 30 #[ifv T u] w fun e w' => (∃ (tv : Value) (PV : Nat → Value) (base : Nat), w.heap.size ≤ base ∧ e = .returned (.agg #[.int .i64 (renum S u).k, .int .i64 (renum S u).n, .string (renum S u).s, .int .i64 (renum S u).a, tv]) ∧ OTab w' base tv S.length PV (cL S L) (cK S K) (cX S X)) ∧ Only (fun k => ∃ j, j < n ∧ k = T j) w w' := by
  obtain ⟨ru, HRU⟩ : ∃ ru, Hid (renum S u = ru) := ⟨_, rfl⟩
  rw [HRU.out]
  obtain ⟨xt, xy, hxv⟩ := ifv_form T u
  have HXV : Hid (ifv T u = .iface xt xy) := hxv
  rw [hxv]
  clear hxv
  have A3 : Hid _ := alloc3 w (.cells #[.int .i64 0, .int .i64 0, .string ⟨#[]⟩, .int .i64 0, .slice none 0 0] 27) (.map #[] 0) (.cells #[.slice none 0 0, .map (some (w.heap.size + 1))] 141)
  obtain ⟨w1, hw1⟩ : ∃ w1, w1 = ((w.alloc (.cells #[.int .i64 0, .int .i64 0, .string ⟨#[]⟩, .int .i64 0, .slice none 0 0] 27)).alloc (.map #[] 0)).alloc (.cells #[.slice none 0 0, .map (some (w.heap.size + 1))] 141) := ⟨_, rfl⟩
  have HR1 : Hid (OutB w1 w.heap.size zeroV (.slice none 0 0)) := by rw [hw1]; exact A3.out.1
  have HSB : Hid (SpB w (w.heap.size + 2) (w.heap.size + 1) (w.heap.size + 3)) := show SpB _ _ _ _ from ⟨by omega, by omega, by omega, by omega, by omega⟩
  have HM1 : Hid (MtW w w1 (w.heap.size + 2) (w.heap.size + 1) (w.heap.size + 3) T (.slice none 0 0) [] []) := by
    rw [hw1]
    exact ⟨A3.out.2.2.1, ⟨#[], 0, A3.out.2.1, rfl⟩, World.ownsRow_nil _ _ _ _, A3.out.2.2.2.2⟩
  have Z1 : w1.heap.size = w.heap.size + 3 := by rw [hw1]; exact A3.out.2.2.2.1
  have hcall := meet_any n T M at_ L K X w (w.heap.size + 2) (w.heap.size + 1) (w.heap.size + 3) hn HL HG HT HSB (n + 1) [] u w1 (.slice none 0 0) (Fit.nil n) hu (by simp) (by omega) HM1
  rw [show met L X (n + 1) [] u = S from HS.out, HXV.out] at hcall
  have hmm := @run_makeMap Tryz.prog
  clear A3
  go_enter Tryz.func30, Tryz.ntmps30
  go_wp2_with fail
  rw [← hw1]
  refine hcall.mono ?_
  clear hcall hw1 hmm
  rintro e w2 ⟨rfl, mv, hW2, hF2⟩
  have HW2 : Hid (MtW w w2 (w.heap.size + 2) (w.heap.size + 1) (w.heap.size + 3) T mv S S) := hW2
  have HR2 : Hid (OutB w2 w.heap.size zeroV (.slice none 0 0)) := hF2.blk HR1.out (by omega) (by omega) (by simp [Value.ownBlock])
  have hs2 : w.heap.size + 3 ≤ w2.heap.size := by have := hF2.only.size; omega
  clear hW2 hF2 HM1 HR1 Z1
  have HOA : Hid (Fit n S ∧ (∀ r ∈ S, ∀ c, c < L r → (X r c).k = 4 → (X r c).a.toNat ∈ S) ∧ (u.k = 4 → u.a.toNat ∈ S)) := by
    obtain ⟨a, b, c⟩ := met_all HG.out (n + 1) [] u (Fit.nil n) hu (by simp)
    rw [show met L X (n + 1) [] u = S from HS.out] at a b c
    exact ⟨a.fit, fun r hr => b r hr (by simp), c⟩
  have hSl : S.length ≤ 400 := Nat.le_trans HOA.out.1.len hn
  obtain ⟨ma, mc, rfl, hmk⟩ := owns_form HW2.out.own
  have HMK : Hid (∀ k, (Value.slice ma S.length mc).ownBlock = some k → w.heap.size + 3 ≤ k ∧ k < w2.heap.size) := hmk
  clear hmk
  have HT2 : Hid (Tbs w2 n T M at_ L K X) := HT.out.below HW2.out.bel
  have HTl : Hid (∀ j, j < n → T j < w.heap.size) := show ∀ j, _ from fun j hj => HT.out.lt hj
  obtain ⟨x0, x1, xz⟩ := two_at HW2.out.blk
  go_wp2
  clear x0 x1 xz
  go_loopw [20] (fun ii wr => ∃ (i : Nat) (at' : Nat → Int), i ≤ S.length ∧ ii = .int .i64 i ∧ Hid (Tbs wr n T M at' L K X) ∧ Hid (∀ j, j < i → at' (S.getD j 0) = j) ∧ Hid (Only (fun k => ∃ j, j < n ∧ k = T j) w2 wr)) (fun ii _ => S.length - (intOf ii).toNat)
  case atStart => exact ⟨0, at_, Nat.zero_le _, rfl, HT2, fun j hj => absurd hj (Nat.not_lt_zero _), Only.refl _ _⟩
  case round =>
    obtain ⟨i, at', hi, rfl, HTr, HAr, HLr⟩ := hrel
    have HOr : Hid (wr.ownsRow (w.heap.size + 3) 107 1 (.slice ma S.length mc) S.length (ptrs T S)) := HLr.out.ownsB HW2.out.own (fun g hg ⟨j, hj, e⟩ => by have := (HMK.out g hg).1; have := HTl.out j hj; omega)
    by_cases hlt : i < S.length
    · obtain ⟨s, hs⟩ : ∃ s, S[i]? = some s := ⟨S[i], by simp [hlt]⟩
      have hsS : s ∈ S := List.mem_of_getElem? hs
      have hsn : s < n := HOA.out.1.lt s hsS
      have HD : Hid (S.getD i 0 = s) := by show _ = _; simp [hs]
      obtain ⟨og, oc', he, hog⟩ := owns_cell HOr.out (k := i) (y := ptr (T s)) (by simp [ptrs, hs])
      cases he
      obtain ⟨ord, hTb, _⟩ := HTr.out.tab s hsn
      obtain ⟨t0, _, _, tz⟩ := hTb.cells
      have hbi : (0 : Int) ≤ (i : Int) ∧ (i : Int) < (S.length : Int) := by omega
      clear hTb
      go_wp2
      go_roundw
      case rel =>
        refine ⟨i + 1, _, by omega, by go_num, HTr.out.setAt hsn _, fun j hj => ?_, HLr.out.set ⟨s, hsn, rfl⟩ _⟩
        by_cases e : j = i
        · subst e
          show (if S.getD j 0 = s then _ else _) = _
          rw [if_pos HD.out]
        · show (if S.getD j 0 = s then _ else _) = _
          have hjl : j < S.length := by omega
          rw [if_neg (fun e' => e ?_)]
          · exact HAr.out j (by omega)
          · rw [← HD.out] at e'
            rw [List.getD_eq_getElem?_getD, List.getD_eq_getElem?_getD, List.getElem?_eq_getElem hjl, List.getElem?_eq_getElem hlt] at e'
            simp only [Option.getD_some] at e'
            exact (List.getElem_inj HOA.out.1.nd).1 e'
      case measure => simp [intOf]; omega
    · obtain rfl : i = S.length := by omega
      have HBx : Hid (OutB wr w.heap.size zeroV (.slice none 0 0)) := (HLr.out.block _ (blk_lt HR2.out) (fun ⟨j, hj, e⟩ => by have := HTl.out j hj; omega)).trans HR2.out
      have HWx : Hid (wr.heap[w.heap.size + 2]? = some (.cells #[.slice ma S.length mc, .map (some (w.heap.size + 1))] 141 (0, 0))) := (HLr.out.block _ (blk_lt HW2.out.blk) (fun ⟨j, hj, e⟩ => by have := HTl.out j hj; omega)).trans HW2.out.blk
      have HLx : Hid (Only (fun k => ∃ j, j < n ∧ k = T j) w wr) := (Only.mono (Only.below HW2.out.bel) (fun k _ h => h)).trans HLr.out
      have HRN : Hid (∀ v : V, (v.k = 4 → v.a.toNat ∈ S) → atV at' v = renum S v) := show ∀ v, _ from fun v hv => atV_renum HAr.out hv
      have hsr := HLr.out.size
      obtain ⟨xt', xy', F, hty, hmeth, hcf, hcl⟩ := as_at hu T at'
      have hxx := HXV.out
      rw [hty] at hxx
      cases hxx
      have hcall := hcl wr HTr.out.at0
      rw [HRN.out u HOA.out.2.2] at hcall
      clear hcl hty HR2 HT2 HW2 HLr
      rw [HRU.out] at hcall
      go_wp2_with fail
      refine hcall.mono ?_
      clear hcall hmeth hcf
      rintro e w3 ⟨rfl, hb3⟩
      have HT3 : Hid (Tbs w3 n T M at' L K X) := HTr.out.below hb3
      have HB3 : Hid (OutB w3 w.heap.size zeroV (.slice none 0 0)) := blkB HBx.out hb3
      have HW3 : Hid (w3.heap[w.heap.size + 2]? = some (.cells #[.slice ma S.length mc, .map (some (w.heap.size + 1))] 141 (0, 0))) := blkB HWx.out hb3
      have HO3 : Hid (w3.ownsRow (w.heap.size + 3) 107 1 (.slice ma S.length mc) S.length (ptrs T S)) := (Only.below (P := fun _ => False) hb3).owns HOr.out (fun _ _ _ h => h)
      have HL3 : Hid (Only (fun k => ∃ j, j < n ∧ k = T j) w w3) := HLx.out.trans (Only.below hb3)
      have hs3 : w.heap.size + 3 ≤ w3.heap.size := by have := hb3.size; omega
      clear hb3 HTr HBx HWx HOr HLx HAr hsr
      obtain ⟨w4, hw4⟩ : ∃ w4, w4 = w3.alloc (.cells #[.int .i64 ru.k, .int .i64 ru.n, .string ru.s, .int .i64 ru.a, .slice none 0 0] 27) := ⟨_, rfl⟩
      have hb4 : Below w3.heap.size w3 w4 := by rw [hw4]; exact (Below.refl _ _).alloc (Nat.le_refl _) _
      have HU4 : Hid (OutB w4 w3.heap.size ru (.slice none 0 0)) := by rw [hw4]; exact heap_alloc_new _ _
      have hs4 : w4.heap.size = w3.heap.size + 1 := by rw [hw4]; simp
      have HT4 : Hid (Tbs w4 n T M at' L K X) := HT3.out.below hb4
      have HB4 : Hid (OutB w4 w.heap.size zeroV (.slice none 0 0)) := blkB HB3.out hb4
      have HW4 : Hid (w4.heap[w.heap.size + 2]? = some (.cells #[.slice ma S.length mc, .map (some (w.heap.size + 1))] 141 (0, 0))) := blkB HW3.out hb4
      have HO4 : Hid (w4.ownsRow (w.heap.size + 3) 107 1 (.slice ma S.length mc) S.length (ptrs T S)) := (Only.below (P := fun _ => False) hb4).owns HO3.out (fun _ _ _ h => h)
      have HL4 : Hid (Only (fun k => ∃ j, j < n ∧ k = T j) w w4) := HL3.out.trans (Only.below hb4)
      have HMK4 : Hid (∀ k, (Value.slice ma S.length mc).ownBlock = some k → w.heap.size + 3 ≤ k ∧ k < w3.heap.size) := show ∀ k, _ from fun k hk => by obtain ⟨_, _, _, h⟩ := owns_form HO3.out; exact h k hk
      obtain ⟨ob, hob⟩ : ∃ ob, w3.heap.size = ob := ⟨_, rfl⟩
      have x0 : w4.cell? ⟨w.heap.size + 1 + 1, 0, none⟩ = some (.slice ma S.length mc) := (two_at HW4.out).1
      rw [hw4] at x0
      have l3 : w.heap.size + 1 + 1 < w3.heap.size := by omega
      unfold vAgg
      go_wp2
      rw [← hw4]
      rw [hob] at HU4 HMK4 hs4 hs3
      clear x0 hw4 hb4 HT3 HB3 HW3 HO3 HL3 hob l3
      obtain ⟨it, hti, ht0, ht1, ht2⟩ := info_parts Tryz.info37
      go_loopw [38] (fun ii wr => ∃ (i : Nat) (tv : Value) (PV : Nat → Value), i ≤ S.length ∧ ii = .int .i64 i ∧ Hid (OutB wr ob ru tv) ∧ Hid (OTab wr w4.heap.size tv i PV (cL S L) (cK S K) (cX S X)) ∧ Hid (Only (fun k => k = ob) w4 wr)) (fun ii _ => S.length - (intOf ii).toNat)
      case atStart => exact ⟨0, _, fun _ => .nilIface, Nat.zero_le _, rfl, HU4, OTab.nil _ _ _ _ _ _, Only.refl _ _⟩
      case round =>
        obtain ⟨i, tv, PV, hi, rfl, HOr, HTr, HLr⟩ := hrel
        have hsr := HLr.out.size
        by_cases hlt : i < S.length
        · obtain ⟨s, hs⟩ : ∃ s, S[i]? = some s := ⟨S[i], by simp [hlt]⟩
          have hsS : s ∈ S := List.mem_of_getElem? hs
          have hsn : s < n := HOA.out.1.lt s hsS
          have HD : Hid (S.getD i 0 = s) := by show _ = _; simp [hs]
          have HRr : Hid (wr.ownsRow (w.heap.size + 3) 107 1 (.slice ma S.length mc) S.length (ptrs T S)) := HLr.out.ownsB HO4.out (fun g hg e => by have := (HMK4.out g hg).2; omega)
          obtain ⟨og, oc', he, hog⟩ := owns_cell HRr.out (k := i) (y := ptr (T s)) (by simp [ptrs, hs])
          cases he
          have HTb : Hid (Tbs wr n T M at' L K X) := HT4.out.only' HLr.out HU4.out (by decide) (by decide)
          have hbi : (0 : Int) ≤ (i : Int) ∧ (i : Int) < (S.length : Int) := by omega
          have hLs := HL.out s hsn
          have hpairs := pairs_any n T M at' L K X s wr.drew hsn hLs HG (HTb.out.below ((Below.refl _ _).drew))
          obtain ⟨ta', tc', rfl, htk⟩ := owns_form HTr.out.own
          obtain ⟨c0, c1, c2, c3, c4, z0⟩ := cells5 HOr.out
          have HN1 : Hid (∀ g, (Value.slice ta' i tc').ownBlock = some g → g < wr.heap.size) := show ∀ g, _ from fun g hg => (htk g hg).2
          have lob : ob < wr.heap.size := by omega
          clear htk
          go_wp2
          refine wp_region_held_drew (S := fun _ => True) (by kernel_rfl) trivial (fun hHeld => ?_)
          refine wpAnyH_take (i := 0) (v := .pointer (some ⟨ob, 4, none⟩)) rfl (by kernel_rfl) (by kernel_rfl) (by kernel_rfl) (fun _ _ _ h => h) (Or.inl ⟨by rfl, fun w hSw => ?_⟩) hHeld ?_
          · first | rfl | go_simp
          simp only [Act.put, List.setIfInBounds_toArray, List.set_cons_zero, List.set_cons_succ, List.getElem_toArray, List.getElem_cons_zero]
          refine wpAnyH_take (i := 2) (v := .pointer (some ⟨T s, 0, none⟩)) rfl (by kernel_rfl) (by kernel_rfl) (by kernel_rfl) (fun _ _ _ h => h) (Or.inl ⟨by rfl, fun w hSw => ?_⟩) hHeld ?_
          · first | rfl | go_simp
          simp only [Act.put, List.setIfInBounds_toArray, List.set_cons_zero, List.set_cons_succ, List.getElem_toArray, List.getElem_cons_zero, List.getElem_cons_succ]
          apply share3 (F := fun pa pc w5 => w5.ownsRow wr.heap.size 39 8 (.slice pa (L s) pc) (L s) (pairCells (K s) (fun c => atV at' (X s c)) (L s)) ∧ Below wr.heap.size wr.drew w5)
          · intro hG
            refine wpAnyH_ready (rs := [1, 3]) (by kernel_rfl) (by simp) ?_
            refine AllReadyH.cons rfl (fun K' hK' => ?_) (AllReadyH.cons rfl (fun K' hK' => ?_) AllReadyH.nil)
            · go_simp
              refine hK'.out _ _ trivial (fun hHeld => ?_)
              clear hK'
              refine wpAnyH_ready (rs := [3]) (by kernel_rfl) (by simp) ?_
              refine AllReadyH.cons rfl (fun K' hK' => ?_) AllReadyH.nil
              go_simp
              refine hpairs.mono ?_
              rintro e w5 ⟨⟨pv, rfl, hown⟩, hb5⟩
              obtain ⟨pa, pc, rfl, _⟩ := owns_form hown
              refine hK'.out _ _ trivial (fun hHeld => ?_)
              clear hK'
              refine wpAnyH_take (i := 4) (v := .agg #[.slice pa (L s) pc]) rfl (by kernel_rfl) (by kernel_rfl) (by kernel_rfl) (fun _ _ _ h => h) (Or.inl ⟨by rfl, fun w hSw => ?_⟩) hHeld ?_
              · first | rfl | go_simp
              simp only [Act.put, List.setIfInBounds_toArray, List.set_cons_zero, List.set_cons_succ, List.getElem_toArray, List.getElem_cons_zero, List.getElem_cons_succ]
              refine wpAnyH_ready (rs := [5]) (by kernel_rfl) (by simp) ?_
              refine AllReadyH.cons rfl (fun K' hK' => ?_) AllReadyH.nil
              go_simp
              refine hK'.out _ _ trivial (fun hHeld => ?_)
              clear hK'
              exact hG.out pa pc w5 ⟨hown, hb5⟩
            · go_simp
              refine hpairs.mono ?_
              rintro e w5 ⟨⟨pv, rfl, hown⟩, hb5⟩
              obtain ⟨pa, pc, rfl, _⟩ := owns_form hown
              refine hK'.out _ _ trivial (fun hHeld => ?_)
              clear hK'
              have c45 : w5.cell? ⟨ob, 4, none⟩ = some (.slice ta' i tc') := (hb5.cell (p := ⟨ob, 4, none⟩) lob).trans c4
              have l5 : ob < w5.heap.size := Nat.lt_of_lt_of_le lob hb5.size
              refine wpAnyH_take (i := 4) (v := .agg #[.slice pa (L s) pc]) rfl (by kernel_rfl) (by kernel_rfl) (by kernel_rfl) (fun _ _ _ h => h) (Or.inl ⟨by rfl, fun w hSw => ?_⟩) hHeld ?_
              · first | rfl | go_simp
              simp only [Act.put, List.setIfInBounds_toArray, List.set_cons_zero, List.set_cons_succ, List.getElem_toArray, List.getElem_cons_zero, List.getElem_cons_succ]
              refine wpAnyH_ready (rs := [1, 5]) (by kernel_rfl) (by simp) ?_
              refine AllReadyH.cons rfl (fun K' hK' => ?_) (AllReadyH.cons rfl (fun K' hK' => ?_) AllReadyH.nil)
              · go_simp
                refine hK'.out _ _ trivial (fun hHeld => ?_)
                clear hK'
                refine wpAnyH_ready (rs := [5]) (by kernel_rfl) (by simp) ?_
                refine AllReadyH.cons rfl (fun K' hK' => ?_) AllReadyH.nil
                go_simp
                refine hK'.out _ _ trivial (fun hHeld => ?_)
                clear hK'
                exact hG.out pa pc w5 ⟨hown, hb5⟩
              · go_simp
                refine hK'.out _ _ trivial (fun hHeld => ?_)
                clear hK'
                refine wpAnyH_ready (rs := [1]) (by kernel_rfl) (by simp) ?_
                refine AllReadyH.cons rfl (fun K' hK' => ?_) AllReadyH.nil
                go_simp
                refine hK'.out _ _ trivial (fun hHeld => ?_)
                clear hK'
                exact hG.out pa pc w5 ⟨hown, hb5⟩
          · rintro pa pc w5 ⟨hown5, hb5⟩
            have HB5 : Hid (Below wr.heap.size wr w5) := ⟨hb5.os, hb5.tape, hb5.output, hb5.size, hb5.block⟩
            have HU5 : Hid (OutB w5 ob ru (.slice ta' i tc')) := blkB HOr.out HB5.out
            have HT5 : Hid (OTab w5 w4.heap.size (.slice ta' i tc') i PV (cL S L) (cK S K) (cX S X)) := HTr.out.below HB5.out
            have HL5 : Hid (Only (fun k => k = ob) w4 w5) := HLr.out.trans (Only.below HB5.out)
            have HP5 : Hid (w5.ownsRow wr.heap.size 39 8 (.slice pa (L s) pc) (L s) (pairCells (K s) (fun c => renum S (X s c)) (L s))) := by
              have e : pairCells (K s) (fun c => atV at' (X s c)) (L s) = pairCells (K s) (fun c => renum S (X s c)) (L s) := pairCells_congr (fun c hc => ⟨rfl, HRN.out _ (HOA.out.2.1 s hsS c hc)⟩)
              rw [← e]; exact hown5
            have hs5 := HB5.out.size
            clear hown5 hb5 hpairs c0 c1 c2 c3 c4 z0
            refine wpAnyH_ready (rs := [6]) (by kernel_rfl) (by simp) ?_
            refine AllReadyH.cons rfl (fun K' hK' => ?_) AllReadyH.nil
            refine step_append_lies _ (by rfl) (.tmp 43) (.tmp 47) 25 (by rfl) w4.heap.size 37 it (.agg #[.slice none 0 0]) 1 24 Tryz.underlying25 hti ht0 ht1 ht2 (by rfl) (by omega) (.slice ta' i tc') i ((List.range i).map PV) (by rfl) (HT5.out.own.alloc _) ⟨w5.heap.size, 0, none⟩ 1 1 [.slice pa (L s) pc] (by rfl) (by rfl) (World.news_of_block (heap_alloc_new w5 _)) (by intro u hu; simp at hu; subst hu; rfl) (by omega) (by unfold maxLen; omega) (by omega) (by simp; omega) (w5.heap.size + 1) (by simp) ?_
            intro g cap w7 hown7 hgrow7 hat7 hlt7
            obtain ⟨hT7, hB7⟩ := HT5.out.more (owns_mono HP5.out (by omega)) (fun j hj g hg e => by
              obtain ⟨_, _, _, h⟩ := owns_form HP5.out
              have h1 := (h g e).1
              obtain ⟨_, _, _, h'⟩ := owns_form (HTr.out.rows j hj)
              have h2 := (h' g hg).2
              omega) _ (by omega) hown7 hgrow7
            have HT7 : Hid (OTab w7 w4.heap.size (.slice (some ⟨g, 0, none⟩) (i + 1) cap) (i + 1) (fun j => if j = i then .slice pa (L s) pc else PV j) (cL S L) (cK S K) (cX S X)) := hT7.congr (fun j hj => by
                by_cases e : j = i
                · subst e; simp only [if_true, cL]; rw [HD.out]
                · simp only [e, if_false]) (fun j hj c' hc' => by
                by_cases e : j = i
                · subst e
                  show (if j = j then K s else cK S K j) c' = cK S K j c' ∧ (if j = j then (fun c => renum S (X s c)) else cX S X j) c' = cX S X j c'
                  rw [if_pos rfl, if_pos rfl]
                  unfold cK cX
                  rw [HD.out]
                  exact ⟨rfl, rfl⟩
                · show (if j = i then K s else cK S K j) c' = cK S K j c' ∧ (if j = i then (fun c => renum S (X s c)) else cX S X j) c' = cX S X j c'
                  rw [if_neg e, if_neg e]
                  exact ⟨rfl, rfl⟩)
            have HU7 : Hid (OutB w7 ob ru (.slice ta' i tc')) := (hB7.block _ (by omega)).trans HU5.out
            have HL7 : Hid (Only (fun k => k = ob) w4 w7) := HL5.out.thenBelow hB7 (Nat.le_refl _)
            refine hK'.out _ _ trivial (fun hHeld => ?_)
            clear hK' hT7 hB7 hown7 hgrow7 hat7 hlt7 HT5 HU5 HL5 HP5 HB5 HOr HTr HLr
            obtain ⟨c0, c1, c2, c3, c4, z0⟩ := cells5 HU7.out
            simp only [Act.put, List.setIfInBounds_toArray, List.set_cons_zero, List.set_cons_succ, List.getElem_toArray, List.getElem_cons_zero, List.getElem_cons_succ]
            refine wpAnyH_take (i := 7) (v := .pointer (some ⟨ob, 4, none⟩)) rfl (by kernel_rfl) (by kernel_rfl) (by kernel_rfl) (fun _ _ _ h => h) (Or.inl ⟨by rfl, fun w hSw => ?_⟩) hHeld ?_
            · first | rfl | go_simp
            simp only [Act.put, List.setIfInBounds_toArray, List.set_cons_zero, List.set_cons_succ, List.getElem_toArray, List.getElem_cons_zero, List.getElem_cons_succ]
            refine wpAnyH_ready (rs := [8]) (by kernel_rfl) (by simp) ?_
            refine AllReadyH.cons rfl (fun K' hK' => ?_) AllReadyH.nil
            go_simp
            refine hK'.out _ _ trivial (fun hHeld => ?_)
            clear hK' hHeld
            refine wpAnyH_done (by kernel_rfl) ?_ _
            go_wp2
            go_roundw
            case rel =>
              refine ⟨i + 1, .slice (some ⟨g, 0, none⟩) (i + 1) cap, _, by omega, by go_num, put5hi HU7.out _, HT7.out.only ((Only.refl (fun k => k = ob) w7).set (p := ⟨ob, 4, none⟩) rfl _) (fun k hk e => by omega), HL7.out.set rfl _⟩
            case measure => simp [intOf]; omega
        · obtain rfl : i = S.length := by omega
          obtain ⟨ta', tc', rfl, _⟩ := owns_form HTr.out.own
          have HBr : Hid (OutB wr w.heap.size zeroV (.slice none 0 0)) := (HLr.out.block _ (blk_lt HB4.out) (by omega)).trans HB4.out
          obtain ⟨c0, c1, c2, c3, c4, z0⟩ := cells5 HOr.out
          obtain ⟨r0, r1, r2, r3, r4, r5⟩ := cells5 HBr.out
          simp only [zeroV] at r0 r1 r2 r3
          go_wp2
          have F := put5hi (put5lo HBr.out (.int .i64 ru.k) (.int .i64 ru.n) (.string ru.s) (.int .i64 ru.a)) (.slice ta' S.length tc')
          obtain ⟨wf, hwf⟩ : ∃ wf, wf = ((((wr.setCell ⟨w.heap.size, 0, none⟩ (.int .i64 ru.k)).setCell ⟨w.heap.size, 1, none⟩ (.int .i64 ru.n)).setCell ⟨w.heap.size, 2, none⟩ (.string ru.s)).setCell ⟨w.heap.size, 3, none⟩ (.int .i64 ru.a)).setCell ⟨w.heap.size, 4, none⟩ (.slice ta' S.length tc') := ⟨_, rfl⟩
          have ho : Only (fun k => k = w.heap.size) wr wf := by rw [hwf]; exact set4_only.set (p := ⟨w.heap.size, 4, none⟩) rfl _
          rw [← hwf] at F ⊢
          clear hwf
          obtain ⟨q0, q1, q2, q3, q4, _⟩ := cells5 F
          refine bodyPost_ret (v := .agg #[.int .i64 ru.k, .int .i64 ru.n, .string ru.s, .int .i64 ru.a, .slice ta' S.length tc']) (by simp [results, Tryz.results30, go_sem, q0, q1, q2, q3, q4]) rfl ⟨⟨_, PV, w4.heap.size, by omega, rfl, HTr.out.only ho (fun k hk e => by omega)⟩, ?_⟩
          refine HL4.out.thenBelow ((HLr.out.toBelow (base := w.heap.size) (fun k hk => by omega) (by omega)).trans (ho.toBelow (fun k hk => by omega) (by omega))) (Nat.le_refl _)

end Go.Proofs.YtgflalfiopnmnaaGreatDoor

namespace Go.Proofs.YtgflalfiopnmnaaGreatDoor
open Go.RowKit Vl

set_option maxHeartbeats 1000000 in
set_option maxRecDepth 100000 in
/-- 'impl.Canon'. -/
theorem implCanon_any (u : V) (ta : Option Addr) (n cp TB TO : Nat) (A : Nat → Option Addr) (L C RB RO : Nat → Nat) (K X : Nat → Nat → V) (w : World) (hn : n ≤ 1048576) (HS : Hid (Small 1048576 n L K X)) (HT : Hid (TabsAt w ta n TB TO A L C RB RO K X)) :
    Calls Tryz.prog 10 #[.agg #[.int .i64 u.k, .int .i64 u.n, .string u.s, .int .i64 u.a, .slice ta n cp]] w fun e w' => CanonIs w w' e n u L K X ∧ Below w.heap.size w w' := by
  have A2 : Hid _ := alloc2 w (.cells #[.int .i64 u.k, .int .i64 u.n, .string u.s, .int .i64 u.a, .slice ta n cp] 27) (.cells #[.int .i64 0, .int .i64 0, .string ⟨#[]⟩, .int .i64 0, .slice none 0 0] 27)
  obtain ⟨w0, hw0⟩ : ∃ w0, w0 = (w.alloc (.cells #[.int .i64 u.k, .int .i64 u.n, .string u.s, .int .i64 u.a, .slice ta n cp] 27)).alloc (.cells #[.int .i64 0, .int .i64 0, .string ⟨#[]⟩, .int .i64 0, .slice none 0 0] 27) := ⟨_, rfl⟩
  have H0 : Hid (CanW w w0 u ta n cp) := by rw [hw0]; exact ⟨A2.out.1, A2.out.2.1, A2.out.2.2.2⟩
  have HS0 : Hid (w0.heap.size = w.heap.size + 2) := by rw [hw0]; exact A2.out.2.2.1
  clear A2
  have hlk := link_any u ta n cp TB TO A L C RB RO K X w0 hn HS (HT.out.below H0.out.bel)
  go_enter Tryz.func10, Tryz.ntmps10
  go_wp2_with fail
  rw [← hw0]
  refine hlk.mono ?_
  clear hlk hw0
  rintro e w1 ⟨hcase, hb1⟩
  have H1 : Hid (CanW w w1 u ta n cp) := H0.out.below hb1
  clear hb1 H0
  rcases hcase with ⟨hG, rfl, base, hH⟩ | ⟨hN, rfl⟩
  · have HG : Hid (OkG n u L K X) := hG
    have HH : Hid (Half w1 w0.heap.size n n base L K X) := hH
    obtain ⟨b, hb⟩ : ∃ b, w0.heap.size = b := ⟨_, rfl⟩
    rw [hb] at HH HS0 ⊢
    clear hG hH hb
    obtain ⟨xt, xy, hxv⟩ := ifv_form (tT b) u
    have HXV : Hid (ifv (tT b) u = .iface xt xy) := hxv
    rw [hxv]
    clear hxv
    obtain ⟨w2, hw2⟩ : ∃ w2, w2 = w1.alloc (.cells #[.iface xt xy, .slice (some ⟨b + 2, 0, none⟩) n n] 57) := ⟨_, rfl⟩
    have hb2 : Below w1.heap.size w1 w2 := by rw [hw2]; exact (Below.refl _ _).alloc (Nat.le_refl _) _
    have H2 : Hid (CanW w w2 u ta n cp) := H1.out.below hb2
    have HT2 : Hid (Tbs w2 n (tT b) (tM b) (fun j => (j : Nat)) L K X) := (HH.out.tbs HG.out).below hb2
    obtain ⟨S, HSo⟩ : ∃ S, Hid (order n u L X = S) := ⟨_, rfl⟩
    have hcan := canonical_any n (tT b) (tM b) _ L K X u w2 (by have := HG.out.len; omega) (show ∀ r, _ from fun r hr => (HG.out.all r hr).len) (good_of HG.out) HG.out.root HT2 S HSo
    rw [HXV.out] at hcan
    obtain ⟨ru, HRU⟩ : ∃ ru, Hid (renum S u = ru) := ⟨_, rfl⟩
    rw [HRU.out] at hcan
    clear HH H1 hb2
    go_wp2_with fail
    rw [← hw2]
    refine hcan.mono ?_
    clear hcan hw2
    rintro e w3 ⟨⟨tv, PV, bs, hbs, rfl, hO⟩, hL⟩
    have H3 : Hid (CanW w w3 u ta n cp) := H2.out.only hL (fun k ⟨j, hj, e⟩ => by have := HS0.out; rw [e]; unfold tT; omega)
    have HO : Hid (OTab w3 bs tv S.length PV (cL S L) (cK S K) (cX S X)) := hO
    have hs2 : w.heap.size + 1 < w2.heap.size := blk_lt H2.out.res
    clear hO hL H2 HT2
    obtain ⟨ta', tc', rfl, _⟩ := owns_form HO.out.own
    obtain ⟨r0, r1, r2, r3, r4, r5⟩ := cells5 H3.out.res
    simp only [zeroV] at r0 r1 r2 r3
    go_wp2
    have F := put5hi (put5lo H3.out.res (.int .i64 ru.k) (.int .i64 ru.n) (.string ru.s) (.int .i64 ru.a)) (.slice ta' S.length tc')
    obtain ⟨wf, hwf⟩ : ∃ wf, wf = ((((w3.setCell ⟨w.heap.size + 1, 0, none⟩ (.int .i64 ru.k)).setCell ⟨w.heap.size + 1, 1, none⟩ (.int .i64 ru.n)).setCell ⟨w.heap.size + 1, 2, none⟩ (.string ru.s)).setCell ⟨w.heap.size + 1, 3, none⟩ (.int .i64 ru.a)).setCell ⟨w.heap.size + 1, 4, none⟩ (.slice ta' S.length tc') := ⟨_, rfl⟩
    have ho : Only (fun k => k = w.heap.size + 1) w3 wf := by rw [hwf]; exact set4_only.set (p := ⟨w.heap.size + 1, 4, none⟩) rfl _
    rw [← hwf] at F ⊢
    clear hwf
    obtain ⟨q0, q1, q2, q3, q4, _⟩ := cells5 F
    refine bodyPost_ret (v := .agg #[.int .i64 ru.k, .int .i64 ru.n, .string ru.s, .int .i64 ru.a, .slice ta' S.length tc']) (by simp [results, Tryz.results10, go_sem, q0, q1, q2, q3, q4]) rfl ⟨Or.inl ⟨HG.out, ?_⟩, H3.out.bel.trans (ho.toBelow (fun k hk => by omega) (by have := H3.out.bel.size; omega))⟩
    rw [HSo.out, HRU.out]
    exact ⟨_, PV, bs, by omega, rfl, HO.out.only ho (fun k hk e => by omega)⟩
  · have HN : Hid (¬ OkG n u L K X) := hN
    clear hN
    have hb2 : Below w1.heap.size w1 (w1.alloc (.cells #[.nilIface, .slice none 0 0] 57)) := (Below.refl _ _).alloc (Nat.le_refl _) _
    have H2 : Hid (CanW w (w1.alloc (.cells #[.nilIface, .slice none 0 0] 57)) u ta n cp) := H1.out.below hb2
    obtain ⟨r0, r1, r2, r3, r4, r5⟩ := cells5 H2.out.res
    simp only [zeroV] at r0 r1 r2 r3
    obtain ⟨s0, s1, s2, s3, s4, s5⟩ := cells5 H1.out.res
    simp only [zeroV] at s0 s1 s2 s3
    have hlt : w.heap.size + 1 < w1.heap.size := blk_lt H1.out.res
    go_wp2
    have F := put5hi (put5lo H1.out.res (.int .i64 0) (.int .i64 0) (.string ⟨#[]⟩) (.int .i64 0)) (.slice none 0 0)
    obtain ⟨q0, q1, q2, q3, q4, _⟩ := cells5 (blkB F ((Below.refl _ _).alloc (Nat.le_refl _) (.cells #[.nilIface, .slice none 0 0] 57)))
    refine bodyPost_ret (v := .agg #[.int .i64 0, .int .i64 0, .string ⟨#[]⟩, .int .i64 0, .slice none 0 0]) (by simp [results, Tryz.results10, go_sem, q0, q1, q2, q3, q4]) rfl ⟨Or.inr ⟨HN.out, rfl⟩, ?_⟩
    have hfin := (H1.out.bel.trans (set4_below (B := w.heap.size + 1) (i := 0) (j := 1) (k := 2) (l := 3) (a' := .int .i64 0) (b' := .int .i64 0) (c' := .string ⟨#[]⟩) (d' := .int .i64 0) |>.mono (show w.heap.size ≤ w.heap.size + 1 by omega))).setCell (p := ⟨w.heap.size + 1, 4, none⟩) (by show w.heap.size ≤ w.heap.size + 1; omega) (.slice none 0 0)
    exact hfin.alloc hfin.size _

end Go.Proofs.YtgflalfiopnmnaaGreatDoor

namespace Go.Proofs.YtgflalfiopnmnaaGreatDoor
open Go.RowKit Vl

/-- The digits of k ahead of out. -/
def digs (k : Nat) (out : ByteArray) : ByteArray := if k = 0 then out else digs (k / 10) (strOfNums [48 + (k : Int) % 10] ++ out)
termination_by k
decreasing_by omega
theorem digs_zero (out : ByteArray) : digs 0 out = out := by rw [digs]; simp
theorem digs_pos {k : Nat} (h : ¬ k = 0) (out : ByteArray) : digs k out = digs (k / 10) (strOfNums [48 + (k : Int) % 10] ++ out) := by rw [digs]; simp [h]
/-- The text of a mark. -/
def markT (k : Nat) : ByteArray := ⟨#[109]⟩ ++ digs k ⟨#[]⟩

end Go.Proofs.YtgflalfiopnmnaaGreatDoor

namespace Go.Proofs.YtgflalfiopnmnaaGreatDoor
open Go.RowKit Vl

/-- Cell i of marked pairs. -/
def mkc (k i : Nat) : Value := if i % 8 = 2 ∨ i % 8 = 6 then .string (markT (k + i)) else .int .i64 ((k + i : Nat) : Int)
theorem mkc_int {k c d : Nat} {q : Int} (hd : d < 8) (h2 : d ≠ 2) (h6 : d ≠ 6) (hq : q = k + c * 8 + d) : mkc k (c * 8 + d) = .int .i64 q := by
  unfold mkc
  rw [if_neg (by omega), hq]
  congr 1
  omega
theorem mkc_text {k c d q : Nat} (hd : d = 2 ∨ d = 6) (hq : q = k + c * 8 + d) : mkc k (c * 8 + d) = .string (markT q) := by
  unfold mkc
  rw [if_pos (by omega), hq, Nat.add_assoc]

/-- The first p cells are marked. -/
def Mk (w : World) (B cap k p : Nat) (f : Nat → Value) : Prop := w.rowIs B 39 cap (fun i => if i < p then mkc k i else f i)
theorem Mk.step {w : World} {B cap k p : Nat} {f : Nat → Value} {v : Value} (h : Mk w B cap k p f) (hv : mkc k p = v) : Mk (w.setCell ⟨B, p, none⟩ v) B cap k (p + 1) f := by
  refine ((show w.rowIs B _ _ _ from h).set p v).congr (fun i _ => ?_)
  by_cases e : i = p
  · subst e; rw [if_pos rfl, if_pos (by omega), hv]
  · rw [if_neg e]
    by_cases h' : i < p
    · rw [if_pos h', if_pos (by omega)]
    · rw [if_neg h', if_neg (by omega)]
theorem Mk.below {w w' : World} {B cap k p : Nat} {f : Nat → Value} (h : Mk w B cap k p f) (hb : Below w.heap.size w w') : Mk w' B cap k p f := h.of_block (hb.block B h.lt)
theorem Mk.cell {w : World} {B cap k p : Nat} {f : Nat → Value} (h : Mk w B cap k p f) {i : Nat} (hi : i < cap) (hp : p ≤ i) : w.cell? ⟨B, i, none⟩ = some (f i) := by
  have := (show w.rowIs B _ _ _ from h).cell hi
  rw [if_neg (by omega)] at this
  exact this

end Go.Proofs.YtgflalfiopnmnaaGreatDoor

namespace Go.Proofs.YtgflalfiopnmnaaGreatDoor
open Go.RowKit Vl

/-- Marked pairs, as they are read. -/
def MkAt (w : World) (B k L : Nat) : Prop := ∀ i, i < L * 8 → w.cell? ⟨B, i, none⟩ = some (mkc k i)
theorem Mk.at {w : World} {B cap k L : Nat} {f : Nat → Value} (h : Mk w B cap k (L * 8) f) (hc : L * 8 ≤ cap) : MkAt w B k L := fun i hi => by
  have := (show w.rowIs B _ _ _ from h).cell (i := i) (by omega)
  rw [if_pos hi] at this
  exact this
theorem MkAt.below {w w' : World} {B k L : Nat} (h : MkAt w B k L) (hb : Below w.heap.size w w') : MkAt w' B k L := fun i hi => (hb.cell (p := ⟨B, i, none⟩) (World.block_lt_of_cell? _ _ (h i hi))).trans (h i hi)

theorem MkAt.cells {w : World} {B k L c q : Nat} (h : MkAt w B k L) (hc : c < L) (hq : q = k + c * 8) :
    w.cell? ⟨B, c * 8, none⟩ = some (.int .i64 (q : Int)) ∧ w.cell? ⟨B, c * 8 + 1, none⟩ = some (.int .i64 ((q : Int) + 1)) ∧ w.cell? ⟨B, c * 8 + 2, none⟩ = some (.string (markT (q + 2))) ∧ w.cell? ⟨B, c * 8 + 3, none⟩ = some (.int .i64 ((q : Int) + 1 + 1 + 1)) ∧ w.cell? ⟨B, c * 8 + 4, none⟩ = some (.int .i64 ((q : Int) + 1 + 1 + 1 + 1)) ∧ w.cell? ⟨B, c * 8 + 5, none⟩ = some (.int .i64 ((q : Int) + 1 + 1 + 1 + 1 + 1)) ∧ w.cell? ⟨B, c * 8 + 6, none⟩ = some (.string (markT (q + 6))) ∧ w.cell? ⟨B, c * 8 + 7, none⟩ = some (.int .i64 ((q : Int) + 1 + 1 + 1 + 1 + 1 + 1 + 1)) := by
  have g : ∀ d, d < 8 → w.cell? ⟨B, c * 8 + d, none⟩ = some (mkc k (c * 8 + d)) := fun d hd => h _ (by omega)
  refine ⟨?_, ?_, ?_, ?_, ?_, ?_, ?_, ?_⟩
  · rw [← mkc_int (k := k) (c := c) (d := 0) (by omega) (by omega) (by omega) (by omega)]; exact g 0 (by omega)
  · rw [← mkc_int (k := k) (c := c) (d := 1) (by omega) (by omega) (by omega) (by omega)]; exact g 1 (by omega)
  · rw [← mkc_text (k := k) (c := c) (d := 2) (Or.inl rfl) (by omega)]; exact g 2 (by omega)
  · rw [← mkc_int (k := k) (c := c) (d := 3) (by omega) (by omega) (by omega) (by omega)]; exact g 3 (by omega)
  · rw [← mkc_int (k := k) (c := c) (d := 4) (by omega) (by omega) (by omega) (by omega)]; exact g 4 (by omega)
  · rw [← mkc_int (k := k) (c := c) (d := 5) (by omega) (by omega) (by omega) (by omega)]; exact g 5 (by omega)
  · rw [← mkc_text (k := k) (c := c) (d := 6) (Or.inr rfl) (by omega)]; exact g 6 (by omega)
  · rw [← mkc_int (k := k) (c := c) (d := 7) (by omega) (by omega) (by omega) (by omega)]; exact g 7 (by omega)

theorem keep1m {w0 w w' : World} {a : Addr} {x : Value} (h : w.cell? a = some x ∧ Hid (Below w0.heap.size w0 w)) (hb : Below w.heap.size w w') : w'.cell? a = some x ∧ Hid (Below w0.heap.size w0 w') :=
  ⟨(hb.cell (World.block_lt_of_cell? _ _ h.1)).trans h.1, grw h.2.out hb⟩

end Go.Proofs.YtgflalfiopnmnaaGreatDoor

namespace Go.Proofs.YtgflalfiopnmnaaGreatDoor
open Go.RowKit Vl

/-- The first mark of table r. -/
def koff (k : Nat) (L : Nat → Nat) : Nat → Nat
  | 0 => k
  | r + 1 => koff k L r + L r * 8
theorem koff_le {k n b : Nat} {L : Nat → Nat} (h : ∀ r, r < n → L r ≤ b) : ∀ r, r ≤ n → koff k L r ≤ k + r * (b * 8)
  | 0, _ => by simp [koff]
  | r + 1, hr => by
    have h1 := koff_le (k := k) h r (by omega)
    have h2 := h r (by omega)
    show koff k L r + L r * 8 ≤ _
    have : L r * 8 ≤ b * 8 := Nat.mul_le_mul_right 8 h2
    have e : (r + 1) * (b * 8) = r * (b * 8) + b * 8 := Nat.succ_mul _ _
    omega
theorem koff_pos {k : Nat} {L : Nat → Nat} (h : 0 < k) : ∀ r, 0 < koff k L r
  | 0 => h
  | r + 1 => by have := koff_pos (L := L) h r; show 0 < koff k L r + L r * 8; omega

/-- Tables whose pairs may be written. -/
structure MTabs (w : World) (ta : Option Addr) (n TB : Nat) (A : Nat → Option Addr) (L C RB cap : Nat → Nat) (f : Nat → Nat → Value) : Prop where
  top : 0 < n → ta = some ⟨TB, 0, none⟩
  tab : ∀ r, r < n → w.cell? ⟨TB, r, none⟩ = some (.slice (A r) (L r) (C r))
  adr : ∀ r, r < n → 0 < L r → A r = some ⟨RB r, 0, none⟩
  row : ∀ r, r < n → 0 < L r → w.rowIs (RB r) 39 (cap r) (f r)
  fit : ∀ r, r < n → 0 < L r → L r * 8 ≤ cap r
  ne : ∀ r, r < n → 0 < L r → RB r ≠ TB
  dis : ∀ r s, r < s → s < n → 0 < L r → 0 < L s → RB r ≠ RB s

/-- Marked tables, as they are read. -/
structure HTabs (w : World) (ta : Option Addr) (n TB k : Nat) (A : Nat → Option Addr) (L C RB : Nat → Nat) : Prop where
  top : 0 < n → ta = some ⟨TB, 0, none⟩
  tab : ∀ r, r < n → w.cell? ⟨TB, r, none⟩ = some (.slice (A r) (L r) (C r))
  adr : ∀ r, r < n → 0 < L r → A r = some ⟨RB r, 0, none⟩
  row : ∀ r, r < n → 0 < L r → MkAt w (RB r) (koff k L r) (L r)
theorem HTabs.below {w w' : World} {ta : Option Addr} {n TB k : Nat} {A : Nat → Option Addr} {L C RB : Nat → Nat} (h : HTabs w ta n TB k A L C RB) (hb : Below w.heap.size w w') : HTabs w' ta n TB k A L C RB :=
  ⟨h.top, fun r hr => (hb.cell (p := ⟨TB, r, none⟩) (World.block_lt_of_cell? _ _ (h.tab r hr))).trans (h.tab r hr), h.adr, fun r hr h0 => (h.row r hr h0).below hb⟩

end Go.Proofs.YtgflalfiopnmnaaGreatDoor

namespace Go.Proofs.YtgflalfiopnmnaaGreatDoor
open Go.RowKit Vl

theorem MTabs.below {w w' : World} {ta : Option Addr} {n TB : Nat} {A : Nat → Option Addr} {L C RB cap : Nat → Nat} {f : Nat → Nat → Value} (h : MTabs w ta n TB A L C RB cap f) (hb : Below w.heap.size w w') : MTabs w' ta n TB A L C RB cap f :=
  ⟨h.top, fun r hr => (hb.cell (p := ⟨TB, r, none⟩) (World.block_lt_of_cell? _ _ (h.tab r hr))).trans (h.tab r hr), h.adr, fun r hr h0 => (h.row r hr h0).of_block (hb.block _ (h.row r hr h0).lt), h.fit, h.ne, h.dis⟩

end Go.Proofs.YtgflalfiopnmnaaGreatDoor
