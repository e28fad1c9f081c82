import Derived.Test.YtgflalfiopnmnabCnTb
namespace Go.Proofs.Ytgflalfiopnmnab
open Go.RowKit Vl

abbrev ptrs (T : Nat → Nat) (S : List Nat) : List Value := S.map fun j => ptr (T j)

/-- The gatherer of 'canonical': S seen, U in the row. -/
structure MtW (w0 w : World) (WB WM base : Nat) (T : Nat → Nat) (mv : Value) (S U : List Nat) : Prop where
  blk : w.heap[WB]? = some (.cells #[mv, .map (some WM)] 147 (0, 0))
  map : MapG ptr w WM (S.map fun j => (T j, .agg #[]))
  own : w.ownsRow base 92 1 mv U.length (ptrs T U)
  bel : Below w0.heap.size w0 w

theorem MtW.below {w0 w w' : World} {WB WM base : Nat} {T : Nat → Nat} {mv : Value} {S U : List Nat} (h : MtW w0 w WB WM base T mv S U) (hb : Below w.heap.size w w') : MtW w0 w' WB WM base T mv S U :=
  ⟨blkB h.blk hb, h.map.same (hb.block _ h.map.lt), (Only.below (P := fun _ => False) hb).owns h.own (fun _ _ _ h => h), h.bel.trans (hb.mono h.bel.size)⟩

/-- A table is marked as seen. -/
theorem MtW.mark {w0 w w' : World} {WB WM base : Nat} {T : Nat → Nat} {mv : Value} {S : List Nat} {r : Nat} (h : MtW w0 w WB WM base T mv S S) (hB : SpB w0 WB WM base) (hm : MapG ptr w' WM ((S.map fun j => (T j, Value.agg #[])) ++ [(T r, .agg #[])])) (ho : Only (fun k => k = WM) w w') :
    MtW w0 w' WB WM base T mv (S ++ [r]) S ∧ FrV WB WM mv mv w w' := by
  have hne := hB.ne
  refine ⟨⟨(ho.block _ (blk_lt h.blk) hne).trans h.blk, ?_, ?_, h.bel.trans (ho.toBelow (fun k hk => by subst hk; exact hB.wh) h.bel.size)⟩, ⟨ho.mono (fun k _ e => Or.inr (Or.inl e)), fun _ _ h => h⟩⟩
  · rw [List.map_append]; exact hm
  · refine ho.ownsB h.own (fun g hg e => ?_)
    obtain ⟨_, _, _, hk⟩ := owns_form h.own
    have := (hk _ hg).1
    have := hB.whb
    omega

/-- A table is put behind the row. -/
theorem MtW.put {w0 w w3 : World} {WB WM base g cap : Nat} {T : Nat → Nat} {mv : Value} {S U : List Nat} {r : Nat} {o : Obj} (h : MtW w0 w WB WM base T mv S U) (hB : SpB w0 WB WM base) (hgrow : (w.alloc o).grownBy w3 mv.ownBlock)
    (hown : w3.ownsRow base 92 1 (.slice (some ⟨g, 0, none⟩) (U.length + 1) cap) (U.length + 1) (ptrs T U ++ [ptr (T r)])) (hat : w.heap.size ≤ g ∨ mv.ownBlock = some g) :
    (w3.cell? ⟨WB, 0, none⟩ = some mv ∧ ∀ j, w3.frozen? ⟨WB, j, none⟩ = false) ∧ MtW w0 (w3.setCell ⟨WB, 0, none⟩ (.slice (some ⟨g, 0, none⟩) (U.length + 1) cap)) WB WM base T (.slice (some ⟨g, 0, none⟩) (U.length + 1) cap) S (U ++ [r]) ∧
      FrV WB WM mv (.slice (some ⟨g, 0, none⟩) (U.length + 1) cap) w (w3.setCell ⟨WB, 0, none⟩ (.slice (some ⟨g, 0, none⟩) (U.length + 1) cap)) := by
  obtain ⟨_, _, _, hk⟩ := owns_form h.own
  have hwb : WB < w.heap.size := blk_lt h.blk
  have hwh : WM < w.heap.size := h.map.lt
  have hbl : ∀ k, k < w.heap.size → mv.ownBlock ≠ some k → w3.heap[k]? = w.heap[k]? := fun k hk hne =>
    (hgrow.block k (by simp; omega) (fun e => hne e.symm)).trans (Below.heap_alloc w o k hk)
  have n1 : mv.ownBlock ≠ some WB := fun e => by have := (hk _ e).1; have := hB.wbb; omega
  have n2 : mv.ownBlock ≠ some WM := fun e => by have := (hk _ e).1; have := hB.whb; omega
  have hblk := (hbl WB hwb n1).trans h.blk
  have hc := two_at hblk
  have hgb : base ≤ g := by
    obtain ⟨_, _, e, hk'⟩ := owns_form hown
    exact (hk' g (by simp [Value.ownBlock])).1
  have hsz : w.heap.size ≤ w3.heap.size := by have := hgrow.size; simp at this; omega
  have ho : Only (fun k => k = WB ∨ k = WM ∨ mv.ownBlock = some k) w w3 := ⟨hgrow.os, hgrow.tape, hgrow.output, hsz, fun k hk hp => hbl k hk (fun e => hp (Or.inr (Or.inr e)))⟩
  refine ⟨⟨hc.1, hc.2.2⟩, ⟨?_, ?_, ?_, ?_⟩, ⟨ho.set (Or.inl rfl) _, fun k hk' e => ?_⟩⟩
  · simp [World.setCell, Array.getElem?_modify, hblk]
  · exact h.map.same ((Below.heap_setCell _ _ _ _ (fun e => hB.ne e.symm)).trans (hbl WM hwh n2))
  · rw [show ptrs T (U ++ [r]) = ptrs T U ++ [ptr (T r)] by simp [ptrs], show (U ++ [r]).length = U.length + 1 by simp]
    exact ownsRow_setCell_other (a := ⟨WB, 0, none⟩) hown (by have := hB.wbb; simp only [Value.ownBlock, ne_eq, Option.some.injEq]; omega) _
  · refine (h.bel.trans (ho.toBelow (base := w0.heap.size) (fun k hk' => ?_) h.bel.size)).setCell hB.wb _
    rcases hk' with rfl | rfl | e
    · exact hB.wb
    · exact hB.wh
    · have := (hk _ e).1; have := hB.wb; have := hB.wbb; omega
  · simp only [Value.ownBlock, Option.some.injEq] at e
    subst e
    rcases hat with h' | h'
    · omega
    · exact h'

set_option maxHeartbeats 2000000 in
set_option maxRecDepth 100000 in
/-- '(*meeting).meet'. -/
theorem meet_any (n : Nat) (T M : Nat → Nat) (at_ : Nat → Int) (L : Nat → Nat) (K X : Nat → Nat → V) (w0 : World) (WB WM base : Nat) (hn : n ≤ 400) (HL : Hid (∀ r, r < n → L r ≤ 100)) (HG : Hid (Good n L X))
    (HT : Hid (Tbs w0 n T M at_ L K X)) (HB : Hid (SpB w0 WB WM base)) : ∀ (f : Nat) (S : List Nat) (v : V) (w : World) (mv : Value), Hid (Fit n S) → isV n v = true → n - S.length < f → base ≤ w.heap.size → Hid (MtW w0 w WB WM base T mv S S) →
    Calls Try.prog 84 #[.pointer (some ⟨WB, 0, none⟩), ifv T v] w fun e w' => e = .returned (.tuple #[]) ∧ ∃ mv', MtW w0 w' WB WM base T mv' (met L X f S v) (met L X f S v) ∧ FrV WB WM mv mv' w w' := by
  intro f
  induction f with
  | zero => intro S v w mv _ _ h; omega
  | succ f ih =>
    intro S v w mv HF hv hf hbase HW
    obtain ⟨x0, x1, xz⟩ := two_at HW.out.blk
    by_cases h4 : v.k = 4
    · obtain ⟨a0, a1⟩ := isV_tab hv h4
      obtain ⟨r, hr⟩ : ∃ r : Nat, v.a = r := ⟨v.a.toNat, by omega⟩
      have hrn : r < n := by omega
      rw [ifv_tab h4, hr, Int.toNat_natCast]
      have hta := assert_yes (T r)
      have hfm : (findG (fun a b => a == b) (T r) (S.map fun j => (T j, Value.agg #[]))).isSome = decide (r ∈ S) := findG_mem T (fun _ => .agg #[]) r S (fun i hi e => HT.out.inj i r (HF.out.lt i hi) hrn e)
      have hIsB : ∀ w' : World, Below w0.heap.size w0 w' → ∀ j, j < n → IsB w' (T j) := fun w' hb j hj => by
        obtain ⟨ord, h1, _⟩ := HT.out.tab j hj
        exact ⟨_, _, (hb.block _ (blk_lt h1)).trans h1⟩
      have hokS : ∀ w' : World, Below w0.heap.size w0 w' → ∀ p ∈ (S.map fun j => (T j, Value.agg #[])), IsB w' p.1 := fun w' hb p hp => by
        obtain ⟨j, hj, rfl⟩ := List.mem_map.1 hp
        exact hIsB w' hb j (HF.out.lt j hj)
      have hlk := (HW.out.map.lookup seen_keyed (T r) (hIsB w HW.out.bel r hrn) (hokS w HW.out.bel)).1
      rw [hfm] at hlk
      by_cases hm : r ∈ S
      · rw [decide_eq_true hm] at hlk
        have hE : Hid (met L X (f + 1) S v = S) := met_old (Or.inr (by rw [hr]; exact hm))
        rw [hE.out]
        rw [findG_const] at hlk
        have hb : Below w.heap.size w (w.alloc (.cells #[] 151)) := (Below.refl _ _).alloc (Nat.le_refl _) _
        clear hfm hm hIsB hokS
        go_enter Try.func84, Try.ntmps84
        go_wp2
        refine bodyPost_ret (results_none rfl _ _ _) rfl ?_
        exact ⟨rfl, mv, HW.out.below hb, FrV.first hb⟩
      · rw [decide_eq_false hm] at hlk hfm
        have hnone : findG (fun a b => a == b) (T r) (S.map fun j => (T j, Value.agg #[])) = none := by simpa using hfm
        rw [hnone] at hlk
        have hE : Hid (met L X (f + 1) S v = mets L X f (S ++ [r]) (X r) (L r)) := by
          have := met_new (L := L) (X := X) (f := f) (S := S) h4 (by rw [hr]; exact hm)
          rw [hr] at this
          exact this
        rw [hE.out]
        obtain ⟨ma, mc, rfl, hmk⟩ := owns_form HW.out.own
        have HMK : Hid (∀ k, (Value.slice ma S.length mc).ownBlock = some k → base ≤ k ∧ k < w.heap.size) := hmk
        obtain ⟨w1, hw1⟩ : ∃ w1, w1 = w.alloc (.cells #[] 151) := ⟨_, rfl⟩
        have hb1 : Below w.heap.size w w1 := by rw [hw1]; exact (Below.refl _ _).alloc (Nat.le_refl _) _
        have hs1 : w1.heap.size = w.heap.size + 1 := by rw [hw1]; simp
        have hW1 := HW.out.below hb1
        obtain ⟨w2, hu, hM2, hO2, hs2⟩ := hW1.map.update seen_keyed (T r) (.agg #[]) (hIsB _ hW1.bel r hrn) (hokS _ hW1.bel) hnone
        obtain ⟨hW2, hF2⟩ := hW1.mark HB.out hM2 hO2
        have HW2 : Hid (MtW w0 w2 WB WM base T (.slice ma S.length mc) (S ++ [r]) S) := hW2
        have HF2 : Hid (FrV WB WM (.slice ma S.length mc) (.slice ma S.length mc) w w2) := (FrV.first hb1).trans hF2
        have HZ2 : Hid (w2.heap.size = w.heap.size + 1) := show _ = _ by omega
        obtain ⟨y0, y1, yz⟩ := two_at HW2.out.blk
        have hb1' : w1.cell? ⟨WB, 1, none⟩ = some (.map (some WM)) := (two_at hW1.blk).2.1
        rw [hw1] at hu hb1'
        clear hIsB hokS hmk hfm hnone hM2 hO2 hW2 hF2 hs2 hb1 hs1 hW1 hw1 w1
        obtain ⟨i0, hi, hz0, hz1, hz2'⟩ := info_parts Try.info92
        have hSl : S.length ≤ 400 := Nat.le_trans HF.out.len hn
        go_enter Try.func84, Try.ntmps84
        go_wp2_with (at_builtin; (refine wpList_append_lies _ (by rfl) (.tmp 33) (.tmp 35) 68 (by rfl) base 92 i0 (.pointer none) 1 8 Try.underlying68 hi hz0 hz1 hz2' (by rfl) (by omega) (.slice ma S.length mc) S.length (ptrs T S) (by rfl) (HW2.out.own.alloc _) ⟨w2.heap.size, 0, none⟩ 1 1 [ptr (T r)] (by rfl) (by rfl) ?c1 ?c2 (by omega) ?c3 ?c4 ?c5 (w2.heap.size + 1) ?c6 ?_))
        case c1 => exact World.news_of_block (heap_alloc_new w2 _)
        case c2 => intro u hu; simp at hu; subst hu; rfl
        case c3 => unfold maxLen; omega
        case c4 => omega
        case c5 => have := HZ2.out; simp; omega
        case c6 => simp
        intro g cap w3 hown3 hgrow3 hat hlt3
        obtain ⟨⟨e0, ez⟩, hW4, hF4⟩ := HW2.out.put HB.out hgrow3 hown3 (by rcases hat with h | h; exact Or.inr h; exact Or.inl (by omega))
        have HW4 : Hid _ := hW4
        have HF4 : Hid _ := HF2.out.trans hF4
        clear hW4 hF4 hown3 hgrow3 hat hlt3 hu hlk y0 y1 yz x0 x1 xz hb1' hi hz0 hz1 hz2'
        obtain ⟨mv4, hm4⟩ : ∃ o, Value.slice (some ⟨g, 0, none⟩) (S.length + 1) cap = o := ⟨_, rfl⟩
        obtain ⟨w4, hw4⟩ : ∃ w4, w4 = w3.setCell ⟨WB, 0, none⟩ (.slice (some ⟨g, 0, none⟩) (S.length + 1) cap) := ⟨_, rfl⟩
        rw [← hw4] at HW4 HF4
        rw [hm4] at HW4 HF4
        clear hm4
        obtain ⟨ord, hTb, hOr⟩ := HT.out.tab r hrn
        obtain ⟨l, hM, hfind⟩ := HT.out.map r hrn
        obtain ⟨hform, hVals⟩ := owns_keys hOr
        have HTb : Hid (TabB w0 (T r) (M r) (at_ r) ord) := hTb
        have HM : Hid (MapIs w0 (M r) l) := hM
        have HFd : Hid (∀ c, c < L r → findV (K r c) l = some (ifv T (X r c))) := hfind
        obtain ⟨ka, hka⟩ : ∃ ka, slA ord = ka := ⟨_, rfl⟩
        obtain ⟨kb, hkb⟩ : ∃ kb, slB ord = kb := ⟨_, rfl⟩
        obtain ⟨kc, hkc⟩ : ∃ kc, slC ord = kc := ⟨_, rfl⟩
        rw [hka, hkc] at hform
        rw [hka, hkb] at hVals
        have HV : Hid (ValsAt w0 ka (L r) kb 0 (K r)) := hVals
        rw [hform] at HTb
        clear hTb hM hfind hVals hOr hform hka hkb hkc
        have t2 : w4.cell? ⟨T r, 2, none⟩ = some (.slice ka (L r) kc) := (HW4.out.bel.cell (p := ⟨T r, 2, none⟩) (HT.out.lt hrn)).trans HTb.out.cells.2.2.1
        rw [hw4] at t2
        go_wp2
        rw [← hw4]
        clear t2 hw4 e0 ez
        have hLr := HL.out r hrn
        have HA : Hid (Grows n S (S ++ [r])) := HF.out.add hrn hm
        have hszS : n - (S ++ [r]).length < f := by
          have := HF.out.less hrn hm
          simp
          omega
        go_loopw [44] (fun ii wr => ∃ (c : Nat) (mc' : Value), c ≤ L r ∧ ii = .int .i64 c ∧ Hid (Grows n (S ++ [r]) (mets L X f (S ++ [r]) (X r) c)) ∧ Hid (MtW w0 wr WB WM base T mc' (mets L X f (S ++ [r]) (X r) c) (mets L X f (S ++ [r]) (X r) c)) ∧ Hid (FrV WB WM (.slice ma S.length mc) mc' w wr)) (fun ii _ => L r - (intOf ii).toNat)
        case atStart => exact ⟨0, mv4, Nat.zero_le _, rfl, HA.out.fit.refl, HW4, HF4⟩
        case round =>
          obtain ⟨c, m5, hc, rfl, HGr, HWr, HFr⟩ := hrel
          clear HW4 HF4
          have hsr : w.heap.size ≤ wr.heap.size := HFr.out.only.size
          by_cases hlt : c < L r
          · obtain rfl := HV.out.top (by omega)
            obtain ⟨k0, k1, k2, k3⟩ := (HV.out.below HWr.out.bel).cells hlt
            simp only [Nat.zero_add] at k0 k1 k2 k3
            obtain ⟨kk, HKK⟩ : ∃ kk, Hid (K r c = kk) := ⟨_, rfl⟩
            rw [HKK.out] at k0 k1 k2 k3
            obtain ⟨Sc, HSc⟩ : ∃ Sc, Hid (mets L X f (S ++ [r]) (X r) c = Sc) := ⟨_, rfl⟩
            rw [HSc.out] at HGr HWr
            have HSn : Hid (mets L X f (S ++ [r]) (X r) (c + 1) = met L X f Sc (X r c)) := by rw [mets_succ, HSc.out]; exact rfl
            go_wp2
            obtain ⟨wk, hwk⟩ : ∃ wk, wk = wr.alloc (.cells #[.int .i64 kk.k, .int .i64 kk.n, .string kk.s, .int .i64 kk.a] 29) := ⟨_, rfl⟩
            have HBk : Hid (Below wr.heap.size wr wk) := by rw [hwk]; exact (Below.refl _ _).alloc (Nat.le_refl _) _
            have HKb : Hid (ValB wk wr.heap.size kk) := by rw [hwk]; exact heap_alloc_new _ _
            rw [← hwk]
            have hszk : wk.heap.size = wr.heap.size + 1 := by rw [hwk]; simp
            obtain ⟨qb, hqb⟩ : ∃ qb, wr.heap.size = qb := ⟨_, rfl⟩
            have hq1 : WB < qb := by rw [← hqb]; exact blk_lt HWr.out.blk
            have hq2 : WM < qb := by rw [← hqb]; exact HWr.out.map.lt
            have HQ3 : Hid (m5.ownBlock ≠ some qb) := show _ ≠ _ from fun e => by
              obtain ⟨_, _, _, h⟩ := owns_form HWr.out.own
              have := (h _ e).2
              omega
            rw [hqb] at HKb ⊢
            have HWk : Hid (MtW w0 wk.drew WB WM base T m5 Sc Sc) := HWr.out.below HBk.out.drew
            have HFk : Hid (FrV WB WM (.slice ma S.length mc) m5 w wk.drew) := HFr.out.below HBk.out.drew
            clear hwk k0 k1 k2 k3 HBk HWr HFr
            have hiv := HG.out r hrn c hlt
            have hlen := HGr.out.len
            have hcall := ih Sc (X r c) wk.drew m5 HGr.out.fit hiv (by omega) (by show base ≤ wk.heap.size; omega) HWk
            have hall := met_all HG.out f Sc (X r c) HGr.out.fit hiv (by omega)
            have HGn : Hid (Grows n (S ++ [r]) (met L X f Sc (X r c))) := HGr.out.trans hall.1
            have hfc := HFd.out c hlt
            obtain ⟨xt, xy, hxv⟩ := ifv_form T (X r c)
            rw [hxv] at hcall hfc
            rw [HKK.out] at hfc
            have hS : ∀ w' : World, Below w0.heap.size w0 w' → w'.cell? ⟨T r, 1, none⟩ = some (.map (some (M r))) ∧ (Instr.lookup 93 (.map (some (M r))) (.agg #[.int .i64 kk.k, .int .i64 kk.n, .string kk.s, .int .i64 kk.a]) false).run Try.prog w' = .ok (.iface xt xy) w' := fun w' hb => by
              refine ⟨(hb.cell (p := ⟨T r, 1, none⟩) (HT.out.lt hrn)).trans HTb.out.cells.2.1, ?_⟩
              have := ((HM.out.same (hb.block _ HM.out.lt)).lookup kk).2
              rw [hfc] at this
              exact this
            have HS : Hid _ := hS
            clear hS hfc hxv hall hlen hiv
            refine wp_region_held_drew (S := fun w' => Below w0.heap.size w0 w' ∧ ValB w' qb kk) (by kernel_rfl) ⟨HWk.out.bel, HKb.out⟩ (fun hHeld => ?_)
            refine wpAnyH_take (i := 0) (v := .pointer (some ⟨WB, 0, none⟩)) rfl (by kernel_rfl) (by kernel_rfl) (by kernel_rfl) (fun _ _ _ h => h) (Or.inl ⟨by rfl, fun w hSw => ?_⟩) hHeld ?_
            · first | rfl | go_simp
            simp only [Act.put, List.setIfInBounds_toArray, List.set_cons_zero, List.set_cons_succ, List.getElem_toArray, List.getElem_cons_zero]
            refine wpAnyH_take (i := 1) (v := .pointer (some ⟨T r, 0, none⟩)) rfl (by kernel_rfl) (by kernel_rfl) (by kernel_rfl) (fun _ _ _ h => h) (Or.inl ⟨by rfl, fun w hSw => ?_⟩) hHeld ?_
            · first | rfl | go_simp
            simp only [Act.put, List.setIfInBounds_toArray, List.set_cons_zero, List.set_cons_succ, List.getElem_toArray, List.getElem_cons_zero, List.getElem_cons_succ]
            refine wpAnyH_take (i := 2) (v := .pointer (some ⟨T r, 0, none⟩)) rfl (by kernel_rfl) (by kernel_rfl) (by kernel_rfl) (fun _ _ _ h => h) (Or.inl ⟨by rfl, fun w hSw => ?_⟩) hHeld ?_
            · first | rfl | go_simp
            simp only [Act.put, List.setIfInBounds_toArray, List.set_cons_zero, List.set_cons_succ, List.getElem_toArray, List.getElem_cons_zero, List.getElem_cons_succ]
            refine wpAnyH_take (i := 3) (v := .pointer (some ⟨T r, 1, none⟩)) rfl (by kernel_rfl) (by kernel_rfl) (by kernel_rfl) (fun _ _ _ h => h) (Or.inl ⟨by rfl, fun w hSw => ?_⟩) hHeld ?_
            · first | rfl | go_simp
            simp only [Act.put, List.setIfInBounds_toArray, List.set_cons_zero, List.set_cons_succ, List.getElem_toArray, List.getElem_cons_zero, List.getElem_cons_succ]
            refine wpAnyH_take (i := 4) (v := .map (some (M r))) rfl (by kernel_rfl) (by kernel_rfl) (by kernel_rfl) (fun _ _ _ h => h) (Or.inl ⟨by rfl, fun w hSw => ?_⟩) hHeld ?_
            · have s1 := (HS.out w hSw.1).1
              first | rfl | go_simp
            simp only [Act.put, List.setIfInBounds_toArray, List.set_cons_zero, List.set_cons_succ, List.getElem_toArray, List.getElem_cons_zero, List.getElem_cons_succ]
            refine wpAnyH_take (i := 5) (v := .agg #[.int .i64 kk.k, .int .i64 kk.n, .string kk.s, .int .i64 kk.a]) rfl (by kernel_rfl) (by kernel_rfl) (by kernel_rfl) (fun _ _ _ h => h) (Or.inl ⟨by rfl, fun w hSw => ?_⟩) hHeld ?_
            · obtain ⟨s0, s1, s2, s3, _⟩ := cells4 hSw.2
              first | rfl | go_simp
            simp only [Act.put, List.setIfInBounds_toArray, List.set_cons_zero, List.set_cons_succ, List.getElem_toArray, List.getElem_cons_zero, List.getElem_cons_succ]
            refine wpAnyH_take (i := 6) (v := .iface xt xy) rfl (by kernel_rfl) (by kernel_rfl) (by kernel_rfl) (fun _ _ _ h => h) (Or.inl ⟨by rfl, fun w hSw => ?_⟩) hHeld ?_
            · have s1 := (HS.out w hSw.1).2
              first | rfl | go_simp
            simp only [Act.put, List.setIfInBounds_toArray, List.set_cons_zero, List.set_cons_succ, List.getElem_toArray, List.getElem_cons_zero, List.getElem_cons_succ]
            refine wpAnyH_ready (rs := [7]) (by kernel_rfl) (by simp) ?_
            refine AllReadyH.cons rfl (fun K' hK' => ?_) AllReadyH.nil
            go_simp
            refine hcall.mono ?_
            clear hcall
            rintro e w5 ⟨rfl, m6, hW6, hF6⟩
            have HW6 : Hid (MtW w0 w5 WB WM base T m6 (met L X f Sc (X r c)) (met L X f Sc (X r c))) := hW6
            have HF6 : Hid (FrV WB WM (.slice ma S.length mc) m6 w w5) := HFk.out.trans hF6
            have HK6 : Hid (ValB w5 qb kk) := hF6.blk (a := wk.drew) HKb.out (by omega) (by omega) HQ3.out
            refine hK'.out _ _ ⟨HW6.out.bel, HK6.out⟩ (fun hHeld => ?_)
            clear hK' hHeld hW6 hF6 HWk HFk
            refine wpAnyH_done (by kernel_rfl) ?_ _
            go_wp2
            go_roundw
            case rel => exact ⟨c + 1, m6, by omega, by go_num, by rw [HSn.out]; exact HGn, by rw [HSn.out]; exact HW6, HF6⟩
            case measure => simp [intOf]; omega
          · obtain rfl : c = L r := by omega
            go_wp2
            go_end0
            exact ⟨rfl, m5, HWr.out, HFr.out⟩
    · have hta := assert_no hv h4 T
      have hE : Hid (met L X (f + 1) S v = S) := met_old (Or.inl h4)
      rw [hE.out]
      obtain ⟨xt, xy, hxv⟩ := ifv_form T v
      rw [hxv] at hta ⊢
      clear x0 x1 xz
      go_enter Try.func84, Try.ntmps84
      go_wp2
      go_end0
      exact ⟨rfl, mv, HW.out, FrV.refl _ _ _ _⟩

end Go.Proofs.Ytgflalfiopnmnab
