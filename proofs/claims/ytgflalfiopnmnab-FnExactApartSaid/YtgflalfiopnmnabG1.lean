import Derived.Test.YtgflalfiopnmnabCnTb
import Derived.Test.YtgflalfiopnmnabCnSpec
import Derived.Deep.RegionHeld3
import Derived.Test.YtgflalfiopnmnabGkLaw
namespace Go.Proofs.Ytgflalfiopnmnab
open Go.RowKit Vl

set_option maxHeartbeats 2000000 in
set_option maxRecDepth 100000 in
/-- '(*table).pairs'. -/
theorem pairs_any (n : Nat) (T M : Nat → Nat) (at_ : Nat → Int) (L : Nat → Nat) (K X : Nat → Nat → V) (r : Nat) (w : World) (hr : r < n) (hL : L r ≤ 100) (HG : Hid (Good n L X)) (HT : Hid (Tbs w n T M at_ L K X)) :
    Calls Try.prog 85 #[.pointer (some ⟨T r, 0, none⟩)] w fun e w' => (∃ pv, e = .returned pv ∧ w'.ownsRow w.heap.size 63 8 pv (L r) (pairCells (K r) (fun c => atV at_ (X r c)) (L r))) ∧ Below w.heap.size w w' := by
  obtain ⟨ord, hTb, hOr⟩ := HT.out.tab r hr
  obtain ⟨l, hM, hfind⟩ := HT.out.map r hr
  obtain ⟨hform, hVals⟩ := owns_keys hOr
  have HTb : Hid (TabB w (T r) (M r) (at_ r) ord) := hTb
  have HM : Hid (MapIs w (M r) l) := hM
  have HF : Hid (∀ c, c < L r → findV (K r c) l = some (ifv T (X r c))) := hfind
  obtain ⟨ka, hka⟩ : ∃ ka, slA ord = ka := ⟨_, rfl⟩
  obtain ⟨kb, hkb⟩ : ∃ kb, slB ord = kb := ⟨_, rfl⟩
  obtain ⟨kc, hkc⟩ : ∃ kc, slC ord = kc := ⟨_, rfl⟩
  rw [hka, hkc] at hform
  rw [hka, hkb] at hVals
  have HV : Hid (ValsAt w ka (L r) kb 0 (K r)) := hVals
  rw [hform] at HTb
  clear hTb hM hfind hVals hOr hform hka hkb hkc
  obtain ⟨ip, hpi, hp0, hp1, hp2⟩ := info_parts Try.info63
  obtain ⟨t0, t1, t2, _⟩ := HTb.out.cells
  go_enter Try.func85, Try.ntmps85
  go_wp2
  clear t0 t1 t2
  go_loopw [3, 11] (fun pv ii wr => ∃ c : Nat, c ≤ L r ∧ ii = .int .i64 c ∧ Hid (wr.ownsRow w.heap.size 63 8 pv c (pairCells (K r) (fun c => atV at_ (X r c)) c)) ∧ Hid (Below w.heap.size w wr)) (fun _ ii _ => L r - (intOf ii).toNat)
  case atStart => exact ⟨0, Nat.zero_le _, rfl, World.ownsRow_nil _ _ _ _, Below.refl _ _⟩
  case round =>
    obtain ⟨c, hc, rfl, HO, HB⟩ := hrel
    obtain ⟨pa, pc, rfl, hpk⟩ := owns_form HO.out
    have HPK : Hid (∀ k, (Value.slice pa c pc).ownBlock = some k → w.heap.size ≤ k ∧ k < wr.heap.size) := hpk
    clear hpk
    by_cases hlt : c < L r
    · obtain rfl := HV.out.top (by omega)
      obtain ⟨k0, k1, k2, k3⟩ := (HV.out.below HB.out).cells hlt
      simp only [Nat.zero_add] at k0 k1 k2 k3
      obtain ⟨kk, HKK⟩ : ∃ kk, Hid (K r c = kk) := ⟨_, rfl⟩
      rw [HKK.out] at k0 k1 k2 k3
      go_wp2
      obtain ⟨wk, hwk⟩ : ∃ wk, wk = wr.alloc (.cells #[.int .i64 kk.k, .int .i64 kk.n, .string kk.s, .int .i64 kk.a] 29) := ⟨_, rfl⟩
      have HBk : Hid (Below wr.heap.size wr wk) := by rw [hwk]; exact (Below.refl _ _).alloc (Nat.le_refl _) _
      have HKb : Hid (ValB wk wr.heap.size kk) := by rw [hwk]; exact heap_alloc_new _ _
      rw [← hwk]
      have hszk : wk.heap.size = wr.heap.size + 1 := by rw [hwk]; simp
      obtain ⟨qb, hqb⟩ : ∃ qb, wr.heap.size = qb := ⟨_, rfl⟩
      have hqw : w.heap.size ≤ qb := by rw [← hqb]; exact HB.out.size
      rw [hqb] at HKb ⊢
      clear hwk k0 k1 k2 k3
      have HBw : Hid (Below w.heap.size w wk) := HB.out.trans (HBk.out.mono HB.out.size)
      have HOk : Hid (wk.ownsRow w.heap.size 63 8 (.slice pa c pc) c (pairCells (K r) (fun c => atV at_ (X r c)) c)) := (Only.below (P := fun _ => False) HBk.out).owns HO.out (fun _ _ _ h => h)
      clear HBk HO HB
      have hiv := HG.out r hr c hlt
      obtain ⟨xt, xy, F, hty, hmeth, hcf, hcall⟩ := as_at hiv T at_
      obtain ⟨y, HY⟩ : ∃ y, Hid (atV at_ (X r c) = y) := ⟨_, rfl⟩
      rw [HY.out] at hcall
      have hfc := HF.out c hlt
      rw [hty, HKK.out] at hfc
      have hS : ∀ w' : World, Below w.heap.size w w' → w'.cell? ⟨T r, 1, none⟩ = some (.map (some (M r))) ∧ (Instr.lookup 93 (.map (some (M r))) (.agg #[.int .i64 kk.k, .int .i64 kk.n, .string kk.s, .int .i64 kk.a]) false).run Try.prog w' = .ok (.iface xt xy) w' ∧ (∀ j, j < n → w'.cell? ⟨T j, 0, none⟩ = some (.int .i64 (at_ j))) := fun w' hb => by
        refine ⟨(hb.cell (p := ⟨T r, 1, none⟩) (HT.out.lt hr)).trans HTb.out.cells.2.1, ?_, fun j hj => (hb.cell (p := ⟨T j, 0, none⟩) (HT.out.lt hj)).trans (HT.out.at0 j hj)⟩
        have := ((HM.out.same (hb.block _ HM.out.lt)).lookup kk).2
        rw [hfc] at this
        exact this
      have HS : Hid _ := hS
      clear hS hfc hty
      have hnb : qb < wk.heap.size := by omega
      refine wp_region_held_drew (S := fun w' => Below w.heap.size w w' ∧ ValB w' qb kk) (by kernel_rfl) ⟨HBw.out.drew, HKb.out⟩ (fun hHeld => ?_)
      refine wpAnyH_take (i := 0) (v := .slice pa c pc) rfl (by kernel_rfl) (by kernel_rfl) (by kernel_rfl) (fun _ _ _ h => h) (Or.inl ⟨by rfl, fun w hSw => ?_⟩) hHeld ?_
      · first | rfl | go_simp
      simp only [Act.put, List.setIfInBounds_toArray, List.set_cons_zero, List.set_cons_succ, List.getElem_toArray, List.getElem_cons_zero]
      refine wpAnyH_take (i := 1) (v := .agg #[.int .i64 kk.k, .int .i64 kk.n, .string kk.s, .int .i64 kk.a]) rfl (by kernel_rfl) (by kernel_rfl) (by kernel_rfl) (fun _ _ _ h => h) (Or.inl ⟨by rfl, fun w hSw => ?_⟩) hHeld ?_
      · obtain ⟨s0, s1, s2, s3, _⟩ := cells4 hSw.2
        first | rfl | go_simp
      simp only [Act.put, List.setIfInBounds_toArray, List.set_cons_zero, List.set_cons_succ, List.getElem_toArray, List.getElem_cons_zero, List.getElem_cons_succ]
      refine wpAnyH_take (i := 2) (v := .pointer (some ⟨T r, 0, none⟩)) rfl (by kernel_rfl) (by kernel_rfl) (by kernel_rfl) (fun _ _ _ h => h) (Or.inl ⟨by rfl, fun w hSw => ?_⟩) hHeld ?_
      · first | rfl | go_simp
      simp only [Act.put, List.setIfInBounds_toArray, List.set_cons_zero, List.set_cons_succ, List.getElem_toArray, List.getElem_cons_zero, List.getElem_cons_succ]
      refine wpAnyH_take (i := 3) (v := .pointer (some ⟨T r, 0, none⟩)) rfl (by kernel_rfl) (by kernel_rfl) (by kernel_rfl) (fun _ _ _ h => h) (Or.inl ⟨by rfl, fun w hSw => ?_⟩) hHeld ?_
      · first | rfl | go_simp
      simp only [Act.put, List.setIfInBounds_toArray, List.set_cons_zero, List.set_cons_succ, List.getElem_toArray, List.getElem_cons_zero, List.getElem_cons_succ]
      refine wpAnyH_take (i := 4) (v := .pointer (some ⟨T r, 1, none⟩)) rfl (by kernel_rfl) (by kernel_rfl) (by kernel_rfl) (fun _ _ _ h => h) (Or.inl ⟨by rfl, fun w hSw => ?_⟩) hHeld ?_
      · first | rfl | go_simp
      simp only [Act.put, List.setIfInBounds_toArray, List.set_cons_zero, List.set_cons_succ, List.getElem_toArray, List.getElem_cons_zero, List.getElem_cons_succ]
      refine wpAnyH_take (i := 5) (v := .map (some (M r))) rfl (by kernel_rfl) (by kernel_rfl) (by kernel_rfl) (fun _ _ _ h => h) (Or.inl ⟨by rfl, fun w hSw => ?_⟩) hHeld ?_
      · have s1 := (HS.out w hSw.1).1
        first | rfl | go_simp
      simp only [Act.put, List.setIfInBounds_toArray, List.set_cons_zero, List.set_cons_succ, List.getElem_toArray, List.getElem_cons_zero, List.getElem_cons_succ]
      refine wpAnyH_take (i := 6) (v := .agg #[.int .i64 kk.k, .int .i64 kk.n, .string kk.s, .int .i64 kk.a]) rfl (by kernel_rfl) (by kernel_rfl) (by kernel_rfl) (fun _ _ _ h => h) (Or.inl ⟨by rfl, fun w hSw => ?_⟩) hHeld ?_
      · obtain ⟨s0, s1, s2, s3, _⟩ := cells4 hSw.2
        first | rfl | go_simp
      simp only [Act.put, List.setIfInBounds_toArray, List.set_cons_zero, List.set_cons_succ, List.getElem_toArray, List.getElem_cons_zero, List.getElem_cons_succ]
      refine wpAnyH_take (i := 7) (v := .iface xt xy) rfl (by kernel_rfl) (by kernel_rfl) (by kernel_rfl) (fun _ _ _ h => h) (Or.inl ⟨by rfl, fun w hSw => ?_⟩) hHeld ?_
      · have s1 := (HS.out w hSw.1).2.1
        first | rfl | go_simp
      simp only [Act.put, List.setIfInBounds_toArray, List.set_cons_zero, List.set_cons_succ, List.getElem_toArray, List.getElem_cons_zero, List.getElem_cons_succ]
      refine wpAnyH_ready (rs := [8]) (by kernel_rfl) (by simp) ?_
      refine AllReadyH.cons rfl (fun K' hK' => ?_) AllReadyH.nil
      have hcl := hcall wk.drew (HS.out _ HBw.out.drew).2.2
      clear hcall
      go_simp
      refine hcl.mono ?_
      clear hcl
      rintro e w5 ⟨rfl, hb5⟩
      have HB5 : Hid (Below w.heap.size w w5) := HBw.out.drew.trans (hb5.mono HBw.out.size)
      have HK5 : Hid (ValB w5 qb kk) := (show ValB wk.drew qb kk from HKb.out).below hb5
      have HO5 : Hid (w5.ownsRow w.heap.size 63 8 (.slice pa c pc) c (pairCells (K r) (fun c => atV at_ (X r c)) c)) := (Only.below (P := fun _ => False) hb5).owns (a := wk.drew) HOk.out (fun _ _ _ h => h)
      refine hK'.out _ _ ⟨HB5.out, HK5.out⟩ (fun hHeld => ?_)
      clear hK' hb5
      refine wpAnyH_take (i := 9) (v := .agg #[.int .i64 kk.k, .int .i64 kk.n, .string kk.s, .int .i64 kk.a, .int .i64 y.k, .int .i64 y.n, .string y.s, .int .i64 y.a]) rfl (by kernel_rfl) (by kernel_rfl) (by kernel_rfl) (fun _ _ _ h => h) (Or.inl ⟨by rfl, fun w hSw => ?_⟩) hHeld ?_
      · first | rfl | go_simp
      simp only [Act.put, List.setIfInBounds_toArray, List.set_cons_zero, List.set_cons_succ, List.getElem_toArray, List.getElem_cons_zero, List.getElem_cons_succ]
      refine wpAnyH_ready (rs := [10]) (by kernel_rfl) (by simp) ?_
      refine AllReadyH.cons rfl (fun K' hK' => ?_) AllReadyH.nil
      go_simp
      have hb6 : Below w5.heap.size w5 (w5.alloc (.cells #[.int .i64 kk.k, .int .i64 kk.n, .string kk.s, .int .i64 kk.a, .int .i64 y.k, .int .i64 y.n, .string y.s, .int .i64 y.a] 63)) := (Below.refl _ _).alloc (Nat.le_refl _) _
      refine hK'.out _ _ ⟨HB5.out.trans (hb6.mono HB5.out.size), HK5.out.below hb6⟩ (fun hHeld => ?_)
      clear hK'
      have l5 : qb < w5.heap.size := blk_lt HK5.out
      have hs5 := HB5.out.size
      refine wpAnyH_ready (rs := [11]) (by kernel_rfl) (by simp) ?_
      refine AllReadyH.cons rfl (fun K' hK' => ?_) AllReadyH.nil
      refine step_append_lies _ (by rfl) (.tmp 15) (.tmp 25) 59 (by rfl) w.heap.size 63 ip (.agg #[.int .i64 0, .int .i64 0, .string ⟨#[]⟩, .int .i64 0, .int .i64 0, .int .i64 0, .string ⟨#[]⟩, .int .i64 0]) 8 80 Try.underlying59 hpi hp0 hp1 hp2 (by rfl) (by omega) (.slice pa c pc) c (pairCells (K r) (fun c => atV at_ (X r c)) c) (by rfl) (HO5.out.alloc _) ⟨w5.heap.size, 0, none⟩ 1 1 [.int .i64 kk.k, .int .i64 kk.n, .string kk.s, .int .i64 kk.a, .int .i64 y.k, .int .i64 y.n, .string y.s, .int .i64 y.a] (by rfl) (by rfl) (World.news_of_block (heap_alloc_new w5 _)) (by intro u hu; simp at hu; rcases hu with rfl | rfl | rfl | rfl | rfl | rfl | rfl | rfl <;> rfl) (by omega) (by unfold maxLen; omega) (by omega) (by simp; omega) (w5.heap.size + 1) (by simp) ?_
      intro g cap w6 hown6 hgrow6 hat6 hlt6
      have hbel6 : Below w.heap.size (w5.alloc (.cells #[.int .i64 kk.k, .int .i64 kk.n, .string kk.s, .int .i64 kk.a, .int .i64 y.k, .int .i64 y.n, .string y.s, .int .i64 y.a] 63)) w6 := below_grown (HO5.out.alloc _) hgrow6 (by simp; omega)
      have HB6 : Hid (Below w.heap.size w w6) := (HB5.out.trans (hb6.mono HB5.out.size)).trans hbel6
      have HK6 : Hid (ValB w6 qb kk) := (hgrow6.block qb (by simp; omega) (fun e => by have := (HPK.out _ e.symm).2; omega)).trans (HK5.out.below hb6)
      have HO6 : Hid (w6.ownsRow w.heap.size 63 8 (.slice (some ⟨g, 0, none⟩) (c + 1) cap) (c + 1) (pairCells (K r) (fun c => atV at_ (X r c)) (c + 1))) := by
        show World.ownsRow _ _ _ _ _ _ _
        rw [pairCells_succ]
        simp only [HY.out, HKK.out]
        exact hown6
      refine hK'.out _ _ ⟨HB6.out, HK6.out⟩ (fun hHeld => ?_)
      clear hK' hown6 hgrow6 hat6 hlt6 hb6 hbel6 HB5 HK5 HO5
      simp only [Act.put, List.setIfInBounds_toArray, List.set_cons_zero, List.set_cons_succ, List.getElem_toArray, List.getElem_cons_zero, List.getElem_cons_succ]
      refine wpAnyH_ready (rs := [12]) (by kernel_rfl) (by simp) ?_
      refine AllReadyH.cons rfl (fun K' hK' => ?_) AllReadyH.nil
      go_simp
      refine hK'.out _ _ ⟨HB6.out, HK6.out⟩ (fun hHeld => ?_)
      clear hK' hHeld
      refine wpAnyH_done (by kernel_rfl) ?_ _
      go_wp2
      go_roundw
      case rel => exact ⟨c + 1, by omega, by go_num, HO6, HB6⟩
      case measure => simp [intOf]; omega
    · obtain rfl : c = L r := by omega
      go_wp2
      go_ret
      exact ⟨⟨_, rfl, HO.out⟩, HB.out⟩

end Go.Proofs.Ytgflalfiopnmnab

namespace Go.Proofs.Ytgflalfiopnmnab
open Go.RowKit Vl

abbrev ptrs (T : Nat → Nat) (S : List Nat) : List Value := S.map fun j => ptr (T j)

/-- The gatherer of 'canonical': S seen, U in the row. -/
structure MtW (w0 w : World) (WB WM base : Nat) (T : Nat → Nat) (mv : Value) (S U : List Nat) : Prop where
  blk : w.heap[WB]? = some (.cells #[mv, .map (some WM)] 147 (0, 0))
  map : MapG ptr w WM (S.map fun j => (T j, .agg #[]))
  own : w.ownsRow base 92 1 mv U.length (ptrs T U)
  bel : Below w0.heap.size w0 w

theorem MtW.below {w0 w w' : World} {WB WM base : Nat} {T : Nat → Nat} {mv : Value} {S U : List Nat} (h : MtW w0 w WB WM base T mv S U) (hb : Below w.heap.size w w') : MtW w0 w' WB WM base T mv S U :=
  ⟨blkB h.blk hb, h.map.same (hb.block _ h.map.lt), (Only.below (P := fun _ => False) hb).owns h.own (fun _ _ _ h => h), h.bel.trans (hb.mono h.bel.size)⟩

/-- A table is marked as seen. -/
theorem MtW.mark {w0 w w' : World} {WB WM base : Nat} {T : Nat → Nat} {mv : Value} {S : List Nat} {r : Nat} (h : MtW w0 w WB WM base T mv S S) (hB : SpB w0 WB WM base) (hm : MapG ptr w' WM ((S.map fun j => (T j, Value.agg #[])) ++ [(T r, .agg #[])])) (ho : Only (fun k => k = WM) w w') :
    MtW w0 w' WB WM base T mv (S ++ [r]) S ∧ FrV WB WM mv mv w w' := by
  have hne := hB.ne
  refine ⟨⟨(ho.block _ (blk_lt h.blk) hne).trans h.blk, ?_, ?_, h.bel.trans (ho.toBelow (fun k hk => by subst hk; exact hB.wh) h.bel.size)⟩, ⟨ho.mono (fun k _ e => Or.inr (Or.inl e)), fun _ _ h => h⟩⟩
  · rw [List.map_append]; exact hm
  · refine ho.ownsB h.own (fun g hg e => ?_)
    obtain ⟨_, _, _, hk⟩ := owns_form h.own
    have := (hk _ hg).1
    have := hB.whb
    omega

/-- A table is put behind the row. -/
theorem MtW.put {w0 w w3 : World} {WB WM base g cap : Nat} {T : Nat → Nat} {mv : Value} {S U : List Nat} {r : Nat} {o : Obj} (h : MtW w0 w WB WM base T mv S U) (hB : SpB w0 WB WM base) (hgrow : (w.alloc o).grownBy w3 mv.ownBlock)
    (hown : w3.ownsRow base 92 1 (.slice (some ⟨g, 0, none⟩) (U.length + 1) cap) (U.length + 1) (ptrs T U ++ [ptr (T r)])) (hat : w.heap.size ≤ g ∨ mv.ownBlock = some g) :
    (w3.cell? ⟨WB, 0, none⟩ = some mv ∧ ∀ j, w3.frozen? ⟨WB, j, none⟩ = false) ∧ MtW w0 (w3.setCell ⟨WB, 0, none⟩ (.slice (some ⟨g, 0, none⟩) (U.length + 1) cap)) WB WM base T (.slice (some ⟨g, 0, none⟩) (U.length + 1) cap) S (U ++ [r]) ∧
      FrV WB WM mv (.slice (some ⟨g, 0, none⟩) (U.length + 1) cap) w (w3.setCell ⟨WB, 0, none⟩ (.slice (some ⟨g, 0, none⟩) (U.length + 1) cap)) := by
  obtain ⟨_, _, _, hk⟩ := owns_form h.own
  have hwb : WB < w.heap.size := blk_lt h.blk
  have hwh : WM < w.heap.size := h.map.lt
  have hbl : ∀ k, k < w.heap.size → mv.ownBlock ≠ some k → w3.heap[k]? = w.heap[k]? := fun k hk hne =>
    (hgrow.block k (by simp; omega) (fun e => hne e.symm)).trans (Below.heap_alloc w o k hk)
  have n1 : mv.ownBlock ≠ some WB := fun e => by have := (hk _ e).1; have := hB.wbb; omega
  have n2 : mv.ownBlock ≠ some WM := fun e => by have := (hk _ e).1; have := hB.whb; omega
  have hblk := (hbl WB hwb n1).trans h.blk
  have hc := two_at hblk
  have hgb : base ≤ g := by
    obtain ⟨_, _, e, hk'⟩ := owns_form hown
    exact (hk' g (by simp [Value.ownBlock])).1
  have hsz : w.heap.size ≤ w3.heap.size := by have := hgrow.size; simp at this; omega
  have ho : Only (fun k => k = WB ∨ k = WM ∨ mv.ownBlock = some k) w w3 := ⟨hgrow.os, hgrow.tape, hgrow.output, hsz, fun k hk hp => hbl k hk (fun e => hp (Or.inr (Or.inr e)))⟩
  refine ⟨⟨hc.1, hc.2.2⟩, ⟨?_, ?_, ?_, ?_⟩, ⟨ho.set (Or.inl rfl) _, fun k hk' e => ?_⟩⟩
  · simp [World.setCell, Array.getElem?_modify, hblk]
  · exact h.map.same ((Below.heap_setCell _ _ _ _ (fun e => hB.ne e.symm)).trans (hbl WM hwh n2))
  · rw [show ptrs T (U ++ [r]) = ptrs T U ++ [ptr (T r)] by simp [ptrs], show (U ++ [r]).length = U.length + 1 by simp]
    exact ownsRow_setCell_other (a := ⟨WB, 0, none⟩) hown (by have := hB.wbb; simp only [Value.ownBlock, ne_eq, Option.some.injEq]; omega) _
  · refine (h.bel.trans (ho.toBelow (base := w0.heap.size) (fun k hk' => ?_) h.bel.size)).setCell hB.wb _
    rcases hk' with rfl | rfl | e
    · exact hB.wb
    · exact hB.wh
    · have := (hk _ e).1; have := hB.wb; have := hB.wbb; omega
  · simp only [Value.ownBlock, Option.some.injEq] at e
    subst e
    rcases hat with h' | h'
    · omega
    · exact h'

set_option maxHeartbeats 2000000 in
set_option maxRecDepth 100000 in
/-- '(*meeting).meet'. -/
theorem meet_any (n : Nat) (T M : Nat → Nat) (at_ : Nat → Int) (L : Nat → Nat) (K X : Nat → Nat → V) (w0 : World) (WB WM base : Nat) (hn : n ≤ 400) (HL : Hid (∀ r, r < n → L r ≤ 100)) (HG : Hid (Good n L X))
    (HT : Hid (Tbs w0 n T M at_ L K X)) (HB : Hid (SpB w0 WB WM base)) : ∀ (f : Nat) (S : List Nat) (v : V) (w : World) (mv : Value), Hid (Fit n S) → isV n v = true → n - S.length < f → base ≤ w.heap.size → Hid (MtW w0 w WB WM base T mv S S) →
    Calls Try.prog 84 #[.pointer (some ⟨WB, 0, none⟩), ifv T v] w fun e w' => e = .returned (.tuple #[]) ∧ ∃ mv', MtW w0 w' WB WM base T mv' (met L X f S v) (met L X f S v) ∧ FrV WB WM mv mv' w w' := by
  intro f
  induction f with
  | zero => intro S v w mv _ _ h; omega
  | succ f ih =>
    intro S v w mv HF hv hf hbase HW
    obtain ⟨x0, x1, xz⟩ := two_at HW.out.blk
    by_cases h4 : v.k = 4
    · obtain ⟨a0, a1⟩ := isV_tab hv h4
      obtain ⟨r, hr⟩ : ∃ r : Nat, v.a = r := ⟨v.a.toNat, by omega⟩
      have hrn : r < n := by omega
      rw [ifv_tab h4, hr, Int.toNat_natCast]
      have hta := assert_yes (T r)
      have hfm : (findG (fun a b => a == b) (T r) (S.map fun j => (T j, Value.agg #[]))).isSome = decide (r ∈ S) := findG_mem T (fun _ => .agg #[]) r S (fun i hi e => HT.out.inj i r (HF.out.lt i hi) hrn e)
      have hIsB : ∀ w' : World, Below w0.heap.size w0 w' → ∀ j, j < n → IsB w' (T j) := fun w' hb j hj => by
        obtain ⟨ord, h1, _⟩ := HT.out.tab j hj
        exact ⟨_, _, (hb.block _ (blk_lt h1)).trans h1⟩
      have hokS : ∀ w' : World, Below w0.heap.size w0 w' → ∀ p ∈ (S.map fun j => (T j, Value.agg #[])), IsB w' p.1 := fun w' hb p hp => by
        obtain ⟨j, hj, rfl⟩ := List.mem_map.1 hp
        exact hIsB w' hb j (HF.out.lt j hj)
      have hlk := (HW.out.map.lookup seen_keyed (T r) (hIsB w HW.out.bel r hrn) (hokS w HW.out.bel)).1
      rw [hfm] at hlk
      by_cases hm : r ∈ S
      · rw [decide_eq_true hm] at hlk
        have hE : Hid (met L X (f + 1) S v = S) := met_old (Or.inr (by rw [hr]; exact hm))
        rw [hE.out]
        rw [findG_const] at hlk
        have hb : Below w.heap.size w (w.alloc (.cells #[] 151)) := (Below.refl _ _).alloc (Nat.le_refl _) _
        clear hfm hm hIsB hokS
        go_enter Try.func84, Try.ntmps84
        go_wp2
        refine bodyPost_ret (results_none rfl _ _ _) rfl ?_
        exact ⟨rfl, mv, HW.out.below hb, FrV.first hb⟩
      · rw [decide_eq_false hm] at hlk hfm
        have hnone : findG (fun a b => a == b) (T r) (S.map fun j => (T j, Value.agg #[])) = none := by simpa using hfm
        rw [hnone] at hlk
        have hE : Hid (met L X (f + 1) S v = mets L X f (S ++ [r]) (X r) (L r)) := by
          have := met_new (L := L) (X := X) (f := f) (S := S) h4 (by rw [hr]; exact hm)
          rw [hr] at this
          exact this
        rw [hE.out]
        obtain ⟨ma, mc, rfl, hmk⟩ := owns_form HW.out.own
        have HMK : Hid (∀ k, (Value.slice ma S.length mc).ownBlock = some k → base ≤ k ∧ k < w.heap.size) := hmk
        obtain ⟨w1, hw1⟩ : ∃ w1, w1 = w.alloc (.cells #[] 151) := ⟨_, rfl⟩
        have hb1 : Below w.heap.size w w1 := by rw [hw1]; exact (Below.refl _ _).alloc (Nat.le_refl _) _
        have hs1 : w1.heap.size = w.heap.size + 1 := by rw [hw1]; simp
        have hW1 := HW.out.below hb1
        obtain ⟨w2, hu, hM2, hO2, hs2⟩ := hW1.map.update seen_keyed (T r) (.agg #[]) (hIsB _ hW1.bel r hrn) (hokS _ hW1.bel) hnone
        obtain ⟨hW2, hF2⟩ := hW1.mark HB.out hM2 hO2
        have HW2 : Hid (MtW w0 w2 WB WM base T (.slice ma S.length mc) (S ++ [r]) S) := hW2
        have HF2 : Hid (FrV WB WM (.slice ma S.length mc) (.slice ma S.length mc) w w2) := (FrV.first hb1).trans hF2
        have HZ2 : Hid (w2.heap.size = w.heap.size + 1) := show _ = _ by omega
        obtain ⟨y0, y1, yz⟩ := two_at HW2.out.blk
        have hb1' : w1.cell? ⟨WB, 1, none⟩ = some (.map (some WM)) := (two_at hW1.blk).2.1
        rw [hw1] at hu hb1'
        clear hIsB hokS hmk hfm hnone hM2 hO2 hW2 hF2 hs2 hb1 hs1 hW1 hw1 w1
        obtain ⟨i0, hi, hz0, hz1, hz2'⟩ := info_parts Try.info92
        have hSl : S.length ≤ 400 := Nat.le_trans HF.out.len hn
        go_enter Try.func84, Try.ntmps84
        go_wp2_with (at_builtin; (refine wpList_append_lies _ (by rfl) (.tmp 33) (.tmp 35) 68 (by rfl) base 92 i0 (.pointer none) 1 8 Try.underlying68 hi hz0 hz1 hz2' (by rfl) (by omega) (.slice ma S.length mc) S.length (ptrs T S) (by rfl) (HW2.out.own.alloc _) ⟨w2.heap.size, 0, none⟩ 1 1 [ptr (T r)] (by rfl) (by rfl) ?c1 ?c2 (by omega) ?c3 ?c4 ?c5 (w2.heap.size + 1) ?c6 ?_))
        case c1 => exact World.news_of_block (heap_alloc_new w2 _)
        case c2 => intro u hu; simp at hu; subst hu; rfl
        case c3 => unfold maxLen; omega
        case c4 => omega
        case c5 => have := HZ2.out; simp; omega
        case c6 => simp
        intro g cap w3 hown3 hgrow3 hat hlt3
        obtain ⟨⟨e0, ez⟩, hW4, hF4⟩ := HW2.out.put HB.out hgrow3 hown3 (by rcases hat with h | h; exact Or.inr h; exact Or.inl (by omega))
        have HW4 : Hid _ := hW4
        have HF4 : Hid _ := HF2.out.trans hF4
        clear hW4 hF4 hown3 hgrow3 hat hlt3 hu hlk y0 y1 yz x0 x1 xz hb1' hi hz0 hz1 hz2'
        obtain ⟨mv4, hm4⟩ : ∃ o, Value.slice (some ⟨g, 0, none⟩) (S.length + 1) cap = o := ⟨_, rfl⟩
        obtain ⟨w4, hw4⟩ : ∃ w4, w4 = w3.setCell ⟨WB, 0, none⟩ (.slice (some ⟨g, 0, none⟩) (S.length + 1) cap) := ⟨_, rfl⟩
        rw [← hw4] at HW4 HF4
        rw [hm4] at HW4 HF4
        clear hm4
        obtain ⟨ord, hTb, hOr⟩ := HT.out.tab r hrn
        obtain ⟨l, hM, hfind⟩ := HT.out.map r hrn
        obtain ⟨hform, hVals⟩ := owns_keys hOr
        have HTb : Hid (TabB w0 (T r) (M r) (at_ r) ord) := hTb
        have HM : Hid (MapIs w0 (M r) l) := hM
        have HFd : Hid (∀ c, c < L r → findV (K r c) l = some (ifv T (X r c))) := hfind
        obtain ⟨ka, hka⟩ : ∃ ka, slA ord = ka := ⟨_, rfl⟩
        obtain ⟨kb, hkb⟩ : ∃ kb, slB ord = kb := ⟨_, rfl⟩
        obtain ⟨kc, hkc⟩ : ∃ kc, slC ord = kc := ⟨_, rfl⟩
        rw [hka, hkc] at hform
        rw [hka, hkb] at hVals
        have HV : Hid (ValsAt w0 ka (L r) kb 0 (K r)) := hVals
        rw [hform] at HTb
        clear hTb hM hfind hVals hOr hform hka hkb hkc
        have t2 : w4.cell? ⟨T r, 2, none⟩ = some (.slice ka (L r) kc) := (HW4.out.bel.cell (p := ⟨T r, 2, none⟩) (HT.out.lt hrn)).trans HTb.out.cells.2.2.1
        rw [hw4] at t2
        go_wp2
        rw [← hw4]
        clear t2 hw4 e0 ez
        have hLr := HL.out r hrn
        have HA : Hid (Grows n S (S ++ [r])) := HF.out.add hrn hm
        have hszS : n - (S ++ [r]).length < f := by
          have := HF.out.less hrn hm
          simp
          omega
        go_loopw [44] (fun ii wr => ∃ (c : Nat) (mc' : Value), c ≤ L r ∧ ii = .int .i64 c ∧ Hid (Grows n (S ++ [r]) (mets L X f (S ++ [r]) (X r) c)) ∧ Hid (MtW w0 wr WB WM base T mc' (mets L X f (S ++ [r]) (X r) c) (mets L X f (S ++ [r]) (X r) c)) ∧ Hid (FrV WB WM (.slice ma S.length mc) mc' w wr)) (fun ii _ => L r - (intOf ii).toNat)
        case atStart => exact ⟨0, mv4, Nat.zero_le _, rfl, HA.out.fit.refl, HW4, HF4⟩
        case round =>
          obtain ⟨c, m5, hc, rfl, HGr, HWr, HFr⟩ := hrel
          clear HW4 HF4
          have hsr : w.heap.size ≤ wr.heap.size := HFr.out.only.size
          by_cases hlt : c < L r
          · obtain rfl := HV.out.top (by omega)
            obtain ⟨k0, k1, k2, k3⟩ := (HV.out.below HWr.out.bel).cells hlt
            simp only [Nat.zero_add] at k0 k1 k2 k3
            obtain ⟨kk, HKK⟩ : ∃ kk, Hid (K r c = kk) := ⟨_, rfl⟩
            rw [HKK.out] at k0 k1 k2 k3
            obtain ⟨Sc, HSc⟩ : ∃ Sc, Hid (mets L X f (S ++ [r]) (X r) c = Sc) := ⟨_, rfl⟩
            rw [HSc.out] at HGr HWr
            have HSn : Hid (mets L X f (S ++ [r]) (X r) (c + 1) = met L X f Sc (X r c)) := by rw [mets_succ, HSc.out]; exact rfl
            go_wp2
            obtain ⟨wk, hwk⟩ : ∃ wk, wk = wr.alloc (.cells #[.int .i64 kk.k, .int .i64 kk.n, .string kk.s, .int .i64 kk.a] 29) := ⟨_, rfl⟩
            have HBk : Hid (Below wr.heap.size wr wk) := by rw [hwk]; exact (Below.refl _ _).alloc (Nat.le_refl _) _
            have HKb : Hid (ValB wk wr.heap.size kk) := by rw [hwk]; exact heap_alloc_new _ _
            rw [← hwk]
            have hszk : wk.heap.size = wr.heap.size + 1 := by rw [hwk]; simp
            obtain ⟨qb, hqb⟩ : ∃ qb, wr.heap.size = qb := ⟨_, rfl⟩
            have hq1 : WB < qb := by rw [← hqb]; exact blk_lt HWr.out.blk
            have hq2 : WM < qb := by rw [← hqb]; exact HWr.out.map.lt
            have HQ3 : Hid (m5.ownBlock ≠ some qb) := show _ ≠ _ from fun e => by
              obtain ⟨_, _, _, h⟩ := owns_form HWr.out.own
              have := (h _ e).2
              omega
            rw [hqb] at HKb ⊢
            have HWk : Hid (MtW w0 wk.drew WB WM base T m5 Sc Sc) := HWr.out.below HBk.out.drew
            have HFk : Hid (FrV WB WM (.slice ma S.length mc) m5 w wk.drew) := HFr.out.below HBk.out.drew
            clear hwk k0 k1 k2 k3 HBk HWr HFr
            have hiv := HG.out r hrn c hlt
            have hlen := HGr.out.len
            have hcall := ih Sc (X r c) wk.drew m5 HGr.out.fit hiv (by omega) (by show base ≤ wk.heap.size; omega) HWk
            have hall := met_all HG.out f Sc (X r c) HGr.out.fit hiv (by omega)
            have HGn : Hid (Grows n (S ++ [r]) (met L X f Sc (X r c))) := HGr.out.trans hall.1
            have hfc := HFd.out c hlt
            obtain ⟨xt, xy, hxv⟩ := ifv_form T (X r c)
            rw [hxv] at hcall hfc
            rw [HKK.out] at hfc
            have hS : ∀ w' : World, Below w0.heap.size w0 w' → w'.cell? ⟨T r, 1, none⟩ = some (.map (some (M r))) ∧ (Instr.lookup 93 (.map (some (M r))) (.agg #[.int .i64 kk.k, .int .i64 kk.n, .string kk.s, .int .i64 kk.a]) false).run Try.prog w' = .ok (.iface xt xy) w' := fun w' hb => by
              refine ⟨(hb.cell (p := ⟨T r, 1, none⟩) (HT.out.lt hrn)).trans HTb.out.cells.2.1, ?_⟩
              have := ((HM.out.same (hb.block _ HM.out.lt)).lookup kk).2
              rw [hfc] at this
              exact this
            have HS : Hid _ := hS
            clear hS hfc hxv hall hlen hiv
            refine wp_region_held_drew (S := fun w' => Below w0.heap.size w0 w' ∧ ValB w' qb kk) (by kernel_rfl) ⟨HWk.out.bel, HKb.out⟩ (fun hHeld => ?_)
            refine wpAnyH_take (i := 0) (v := .pointer (some ⟨WB, 0, none⟩)) rfl (by kernel_rfl) (by kernel_rfl) (by kernel_rfl) (fun _ _ _ h => h) (Or.inl ⟨by rfl, fun w hSw => ?_⟩) hHeld ?_
            · first | rfl | go_simp
            simp only [Act.put, List.setIfInBounds_toArray, List.set_cons_zero, List.set_cons_succ, List.getElem_toArray, List.getElem_cons_zero]
            refine wpAnyH_take (i := 1) (v := .pointer (some ⟨T r, 0, none⟩)) rfl (by kernel_rfl) (by kernel_rfl) (by kernel_rfl) (fun _ _ _ h => h) (Or.inl ⟨by rfl, fun w hSw => ?_⟩) hHeld ?_
            · first | rfl | go_simp
            simp only [Act.put, List.setIfInBounds_toArray, List.set_cons_zero, List.set_cons_succ, List.getElem_toArray, List.getElem_cons_zero, List.getElem_cons_succ]
            refine wpAnyH_take (i := 2) (v := .pointer (some ⟨T r, 0, none⟩)) rfl (by kernel_rfl) (by kernel_rfl) (by kernel_rfl) (fun _ _ _ h => h) (Or.inl ⟨by rfl, fun w hSw => ?_⟩) hHeld ?_
            · first | rfl | go_simp
            simp only [Act.put, List.setIfInBounds_toArray, List.set_cons_zero, List.set_cons_succ, List.getElem_toArray, List.getElem_cons_zero, List.getElem_cons_succ]
            refine wpAnyH_take (i := 3) (v := .pointer (some ⟨T r, 1, none⟩)) rfl (by kernel_rfl) (by kernel_rfl) (by kernel_rfl) (fun _ _ _ h => h) (Or.inl ⟨by rfl, fun w hSw => ?_⟩) hHeld ?_
            · first | rfl | go_simp
            simp only [Act.put, List.setIfInBounds_toArray, List.set_cons_zero, List.set_cons_succ, List.getElem_toArray, List.getElem_cons_zero, List.getElem_cons_succ]
            refine wpAnyH_take (i := 4) (v := .map (some (M r))) rfl (by kernel_rfl) (by kernel_rfl) (by kernel_rfl) (fun _ _ _ h => h) (Or.inl ⟨by rfl, fun w hSw => ?_⟩) hHeld ?_
            · have s1 := (HS.out w hSw.1).1
              first | rfl | go_simp
            simp only [Act.put, List.setIfInBounds_toArray, List.set_cons_zero, List.set_cons_succ, List.getElem_toArray, List.getElem_cons_zero, List.getElem_cons_succ]
            refine wpAnyH_take (i := 5) (v := .agg #[.int .i64 kk.k, .int .i64 kk.n, .string kk.s, .int .i64 kk.a]) rfl (by kernel_rfl) (by kernel_rfl) (by kernel_rfl) (fun _ _ _ h => h) (Or.inl ⟨by rfl, fun w hSw => ?_⟩) hHeld ?_
            · obtain ⟨s0, s1, s2, s3, _⟩ := cells4 hSw.2
              first | rfl | go_simp
            simp only [Act.put, List.setIfInBounds_toArray, List.set_cons_zero, List.set_cons_succ, List.getElem_toArray, List.getElem_cons_zero, List.getElem_cons_succ]
            refine wpAnyH_take (i := 6) (v := .iface xt xy) rfl (by kernel_rfl) (by kernel_rfl) (by kernel_rfl) (fun _ _ _ h => h) (Or.inl ⟨by rfl, fun w hSw => ?_⟩) hHeld ?_
            · have s1 := (HS.out w hSw.1).2
              first | rfl | go_simp
            simp only [Act.put, List.setIfInBounds_toArray, List.set_cons_zero, List.set_cons_succ, List.getElem_toArray, List.getElem_cons_zero, List.getElem_cons_succ]
            refine wpAnyH_ready (rs := [7]) (by kernel_rfl) (by simp) ?_
            refine AllReadyH.cons rfl (fun K' hK' => ?_) AllReadyH.nil
            go_simp
            refine hcall.mono ?_
            clear hcall
            rintro e w5 ⟨rfl, m6, hW6, hF6⟩
            have HW6 : Hid (MtW w0 w5 WB WM base T m6 (met L X f Sc (X r c)) (met L X f Sc (X r c))) := hW6
            have HF6 : Hid (FrV WB WM (.slice ma S.length mc) m6 w w5) := HFk.out.trans hF6
            have HK6 : Hid (ValB w5 qb kk) := hF6.blk (a := wk.drew) HKb.out (by omega) (by omega) HQ3.out
            refine hK'.out _ _ ⟨HW6.out.bel, HK6.out⟩ (fun hHeld => ?_)
            clear hK' hHeld hW6 hF6 HWk HFk
            refine wpAnyH_done (by kernel_rfl) ?_ _
            go_wp2
            go_roundw
            case rel => exact ⟨c + 1, m6, by omega, by go_num, by rw [HSn.out]; exact HGn, by rw [HSn.out]; exact HW6, HF6⟩
            case measure => simp [intOf]; omega
          · obtain rfl : c = L r := by omega
            go_wp2
            go_end0
            exact ⟨rfl, m5, HWr.out, HFr.out⟩
    · have hta := assert_no hv h4 T
      have hE : Hid (met L X (f + 1) S v = S) := met_old (Or.inl h4)
      rw [hE.out]
      obtain ⟨xt, xy, hxv⟩ := ifv_form T v
      rw [hxv] at hta ⊢
      clear x0 x1 xz
      go_enter Try.func84, Try.ntmps84
      go_wp2
      go_end0
      exact ⟨rfl, mv, HW.out, FrV.refl _ _ _ _⟩

end Go.Proofs.Ytgflalfiopnmnab

namespace Go.Proofs.Ytgflalfiopnmnab
open Go.RowKit Vl

theorem share3 {F : Option Addr → Nat → World → Prop} {G : Option Addr → Nat → World → Prop} {P : Prop} (h : Hid (∀ a c w, F a c w → G a c w) → P) (g : ∀ a c w, F a c w → G a c w) : P := h g

theorem atV_renum {at_ : Nat → Int} {S : List Nat} (h : ∀ j, j < S.length → at_ (S.getD j 0) = j) {v : V} (hv : v.k = 4 → v.a.toNat ∈ S) : atV at_ v = renum S v := by
  unfold atV renum
  by_cases h4 : v.k = 4
  · rw [if_pos h4, if_pos h4]
    have hm := hv h4
    have hi := List.idxOf_lt_length_of_mem hm
    have := h _ hi
    rw [List.getD_eq_getElem?_getD, List.getElem?_eq_getElem hi] at this
    simp only [List.getElem_idxOf, Option.getD_some] at this
    rw [this]
  · rw [if_neg h4, if_neg h4]

set_option maxHeartbeats 4000000 in
set_option maxRecDepth 100000 in
/-- 'canonical'. -/
theorem canonical_any (n : Nat) (T M : Nat → Nat) (at_ : Nat → Int) (L : Nat → Nat) (K X : Nat → Nat → V) (u : V) (w : World) (hn : n ≤ 400) (HL : Hid (∀ r, r < n → L r ≤ 100)) (HG : Hid (Good n L X)) (hu : isV n u = true) (HT : Hid (Tbs w n T M at_ L K X)) (S : List Nat) (HS : Hid (order n u L X = S)) :
    Calls Try.prog 56 #[ifv T u] w fun e w' => (∃ (tv : Value) (PV : Nat → Value) (base : Nat), w.heap.size ≤ base ∧ e = .returned (.agg #[.int .i64 (renum S u).k, .int .i64 (renum S u).n, .string (renum S u).s, .int .i64 (renum S u).a, tv]) ∧ OTab w' base tv S.length PV (cL S L) (cK S K) (cX S X)) ∧ Only (fun k => ∃ j, j < n ∧ k = T j) w w' := by
  obtain ⟨ru, HRU⟩ : ∃ ru, Hid (renum S u = ru) := ⟨_, rfl⟩
  rw [HRU.out]
  obtain ⟨xt, xy, hxv⟩ := ifv_form T u
  have HXV : Hid (ifv T u = .iface xt xy) := hxv
  rw [hxv]
  clear hxv
  have A3 : Hid _ := alloc3 w (.cells #[.int .i64 0, .int .i64 0, .string ⟨#[]⟩, .int .i64 0, .slice none 0 0] 32) (.map #[] 0) (.cells #[.slice none 0 0, .map (some (w.heap.size + 1))] 147)
  obtain ⟨w1, hw1⟩ : ∃ w1, w1 = ((w.alloc (.cells #[.int .i64 0, .int .i64 0, .string ⟨#[]⟩, .int .i64 0, .slice none 0 0] 32)).alloc (.map #[] 0)).alloc (.cells #[.slice none 0 0, .map (some (w.heap.size + 1))] 147) := ⟨_, rfl⟩
  have HR1 : Hid (OutB w1 w.heap.size zeroV (.slice none 0 0)) := by rw [hw1]; exact A3.out.1
  have HSB : Hid (SpB w (w.heap.size + 2) (w.heap.size + 1) (w.heap.size + 3)) := show SpB _ _ _ _ from ⟨by omega, by omega, by omega, by omega, by omega⟩
  have HM1 : Hid (MtW w w1 (w.heap.size + 2) (w.heap.size + 1) (w.heap.size + 3) T (.slice none 0 0) [] []) := by
    rw [hw1]
    exact ⟨A3.out.2.2.1, ⟨#[], 0, A3.out.2.1, rfl⟩, World.ownsRow_nil _ _ _ _, A3.out.2.2.2.2⟩
  have Z1 : w1.heap.size = w.heap.size + 3 := by rw [hw1]; exact A3.out.2.2.2.1
  have hcall := meet_any n T M at_ L K X w (w.heap.size + 2) (w.heap.size + 1) (w.heap.size + 3) hn HL HG HT HSB (n + 1) [] u w1 (.slice none 0 0) (Fit.nil n) hu (by simp) (by omega) HM1
  rw [show met L X (n + 1) [] u = S from HS.out, HXV.out] at hcall
  have hmm := @run_makeMap Try.prog
  clear A3
  go_enter Try.func56, Try.ntmps56
  go_wp2_with fail
  rw [← hw1]
  refine hcall.mono ?_
  clear hcall hw1 hmm
  rintro e w2 ⟨rfl, mv, hW2, hF2⟩
  have HW2 : Hid (MtW w w2 (w.heap.size + 2) (w.heap.size + 1) (w.heap.size + 3) T mv S S) := hW2
  have HR2 : Hid (OutB w2 w.heap.size zeroV (.slice none 0 0)) := hF2.blk HR1.out (by omega) (by omega) (by simp [Value.ownBlock])
  have hs2 : w.heap.size + 3 ≤ w2.heap.size := by have := hF2.only.size; omega
  clear hW2 hF2 HM1 HR1 Z1
  have HOA : Hid (Fit n S ∧ (∀ r ∈ S, ∀ c, c < L r → (X r c).k = 4 → (X r c).a.toNat ∈ S) ∧ (u.k = 4 → u.a.toNat ∈ S)) := by
    obtain ⟨a, b, c⟩ := met_all HG.out (n + 1) [] u (Fit.nil n) hu (by simp)
    rw [show met L X (n + 1) [] u = S from HS.out] at a b c
    exact ⟨a.fit, fun r hr => b r hr (by simp), c⟩
  have hSl : S.length ≤ 400 := Nat.le_trans HOA.out.1.len hn
  obtain ⟨ma, mc, rfl, hmk⟩ := owns_form HW2.out.own
  have HMK : Hid (∀ k, (Value.slice ma S.length mc).ownBlock = some k → w.heap.size + 3 ≤ k ∧ k < w2.heap.size) := hmk
  clear hmk
  have HT2 : Hid (Tbs w2 n T M at_ L K X) := HT.out.below HW2.out.bel
  have HTl : Hid (∀ j, j < n → T j < w.heap.size) := show ∀ j, _ from fun j hj => HT.out.lt hj
  obtain ⟨x0, x1, xz⟩ := two_at HW2.out.blk
  go_wp2
  clear x0 x1 xz
  go_loopw [20] (fun ii wr => ∃ (i : Nat) (at' : Nat → Int), i ≤ S.length ∧ ii = .int .i64 i ∧ Hid (Tbs wr n T M at' L K X) ∧ Hid (∀ j, j < i → at' (S.getD j 0) = j) ∧ Hid (Only (fun k => ∃ j, j < n ∧ k = T j) w2 wr)) (fun ii _ => S.length - (intOf ii).toNat)
  case atStart => exact ⟨0, at_, Nat.zero_le _, rfl, HT2, fun j hj => absurd hj (Nat.not_lt_zero _), Only.refl _ _⟩
  case round =>
    obtain ⟨i, at', hi, rfl, HTr, HAr, HLr⟩ := hrel
    have HOr : Hid (wr.ownsRow (w.heap.size + 3) 92 1 (.slice ma S.length mc) S.length (ptrs T S)) := HLr.out.ownsB HW2.out.own (fun g hg ⟨j, hj, e⟩ => by have := (HMK.out g hg).1; have := HTl.out j hj; omega)
    by_cases hlt : i < S.length
    · obtain ⟨s, hs⟩ : ∃ s, S[i]? = some s := ⟨S[i], by simp [hlt]⟩
      have hsS : s ∈ S := List.mem_of_getElem? hs
      have hsn : s < n := HOA.out.1.lt s hsS
      have HD : Hid (S.getD i 0 = s) := by show _ = _; simp [hs]
      obtain ⟨og, oc', he, hog⟩ := owns_cell HOr.out (k := i) (y := ptr (T s)) (by simp [ptrs, hs])
      cases he
      obtain ⟨ord, hTb, _⟩ := HTr.out.tab s hsn
      obtain ⟨t0, _, _, tz⟩ := hTb.cells
      have hbi : (0 : Int) ≤ (i : Int) ∧ (i : Int) < (S.length : Int) := by omega
      clear hTb
      go_wp2
      go_roundw
      case rel =>
        refine ⟨i + 1, _, by omega, by go_num, HTr.out.setAt hsn _, fun j hj => ?_, HLr.out.set ⟨s, hsn, rfl⟩ _⟩
        by_cases e : j = i
        · subst e
          show (if S.getD j 0 = s then _ else _) = _
          rw [if_pos HD.out]
        · show (if S.getD j 0 = s then _ else _) = _
          have hjl : j < S.length := by omega
          rw [if_neg (fun e' => e ?_)]
          · exact HAr.out j (by omega)
          · rw [← HD.out] at e'
            rw [List.getD_eq_getElem?_getD, List.getD_eq_getElem?_getD, List.getElem?_eq_getElem hjl, List.getElem?_eq_getElem hlt] at e'
            simp only [Option.getD_some] at e'
            exact (List.getElem_inj HOA.out.1.nd).1 e'
      case measure => simp [intOf]; omega
    · obtain rfl : i = S.length := by omega
      have HBx : Hid (OutB wr w.heap.size zeroV (.slice none 0 0)) := (HLr.out.block _ (blk_lt HR2.out) (fun ⟨j, hj, e⟩ => by have := HTl.out j hj; omega)).trans HR2.out
      have HWx : Hid (wr.heap[w.heap.size + 2]? = some (.cells #[.slice ma S.length mc, .map (some (w.heap.size + 1))] 147 (0, 0))) := (HLr.out.block _ (blk_lt HW2.out.blk) (fun ⟨j, hj, e⟩ => by have := HTl.out j hj; omega)).trans HW2.out.blk
      have HLx : Hid (Only (fun k => ∃ j, j < n ∧ k = T j) w wr) := (Only.mono (Only.below HW2.out.bel) (fun k _ h => h)).trans HLr.out
      have HRN : Hid (∀ v : V, (v.k = 4 → v.a.toNat ∈ S) → atV at' v = renum S v) := show ∀ v, _ from fun v hv => atV_renum HAr.out hv
      have hsr := HLr.out.size
      obtain ⟨xt', xy', F, hty, hmeth, hcf, hcl⟩ := as_at hu T at'
      have hxx := HXV.out
      rw [hty] at hxx
      cases hxx
      have hcall := hcl wr HTr.out.at0
      rw [HRN.out u HOA.out.2.2] at hcall
      clear hcl hty HR2 HT2 HW2 HLr
      rw [HRU.out] at hcall
      go_wp2_with fail
      refine hcall.mono ?_
      clear hcall hmeth hcf
      rintro e w3 ⟨rfl, hb3⟩
      have HT3 : Hid (Tbs w3 n T M at' L K X) := HTr.out.below hb3
      have HB3 : Hid (OutB w3 w.heap.size zeroV (.slice none 0 0)) := blkB HBx.out hb3
      have HW3 : Hid (w3.heap[w.heap.size + 2]? = some (.cells #[.slice ma S.length mc, .map (some (w.heap.size + 1))] 147 (0, 0))) := blkB HWx.out hb3
      have HO3 : Hid (w3.ownsRow (w.heap.size + 3) 92 1 (.slice ma S.length mc) S.length (ptrs T S)) := (Only.below (P := fun _ => False) hb3).owns HOr.out (fun _ _ _ h => h)
      have HL3 : Hid (Only (fun k => ∃ j, j < n ∧ k = T j) w w3) := HLx.out.trans (Only.below hb3)
      have hs3 : w.heap.size + 3 ≤ w3.heap.size := by have := hb3.size; omega
      clear hb3 HTr HBx HWx HOr HLx HAr hsr
      obtain ⟨w4, hw4⟩ : ∃ w4, w4 = w3.alloc (.cells #[.int .i64 ru.k, .int .i64 ru.n, .string ru.s, .int .i64 ru.a, .slice none 0 0] 32) := ⟨_, rfl⟩
      have hb4 : Below w3.heap.size w3 w4 := by rw [hw4]; exact (Below.refl _ _).alloc (Nat.le_refl _) _
      have HU4 : Hid (OutB w4 w3.heap.size ru (.slice none 0 0)) := by rw [hw4]; exact heap_alloc_new _ _
      have hs4 : w4.heap.size = w3.heap.size + 1 := by rw [hw4]; simp
      have HT4 : Hid (Tbs w4 n T M at' L K X) := HT3.out.below hb4
      have HB4 : Hid (OutB w4 w.heap.size zeroV (.slice none 0 0)) := blkB HB3.out hb4
      have HW4 : Hid (w4.heap[w.heap.size + 2]? = some (.cells #[.slice ma S.length mc, .map (some (w.heap.size + 1))] 147 (0, 0))) := blkB HW3.out hb4
      have HO4 : Hid (w4.ownsRow (w.heap.size + 3) 92 1 (.slice ma S.length mc) S.length (ptrs T S)) := (Only.below (P := fun _ => False) hb4).owns HO3.out (fun _ _ _ h => h)
      have HL4 : Hid (Only (fun k => ∃ j, j < n ∧ k = T j) w w4) := HL3.out.trans (Only.below hb4)
      have HMK4 : Hid (∀ k, (Value.slice ma S.length mc).ownBlock = some k → w.heap.size + 3 ≤ k ∧ k < w3.heap.size) := show ∀ k, _ from fun k hk => by obtain ⟨_, _, _, h⟩ := owns_form HO3.out; exact h k hk
      obtain ⟨ob, hob⟩ : ∃ ob, w3.heap.size = ob := ⟨_, rfl⟩
      have x0 : w4.cell? ⟨w.heap.size + 1 + 1, 0, none⟩ = some (.slice ma S.length mc) := (two_at HW4.out).1
      rw [hw4] at x0
      have l3 : w.heap.size + 1 + 1 < w3.heap.size := by omega
      unfold vAgg
      go_wp2
      rw [← hw4]
      rw [hob] at HU4 HMK4 hs4 hs3
      clear x0 hw4 hb4 HT3 HB3 HW3 HO3 HL3 hob l3
      obtain ⟨it, hti, ht0, ht1, ht2⟩ := info_parts Try.info61
      go_loopw [38] (fun ii wr => ∃ (i : Nat) (tv : Value) (PV : Nat → Value), i ≤ S.length ∧ ii = .int .i64 i ∧ Hid (OutB wr ob ru tv) ∧ Hid (OTab wr w4.heap.size tv i PV (cL S L) (cK S K) (cX S X)) ∧ Hid (Only (fun k => k = ob) w4 wr)) (fun ii _ => S.length - (intOf ii).toNat)
      case atStart => exact ⟨0, _, fun _ => .nilIface, Nat.zero_le _, rfl, HU4, OTab.nil _ _ _ _ _ _, Only.refl _ _⟩
      case round =>
        obtain ⟨i, tv, PV, hi, rfl, HOr, HTr, HLr⟩ := hrel
        have hsr := HLr.out.size
        by_cases hlt : i < S.length
        · obtain ⟨s, hs⟩ : ∃ s, S[i]? = some s := ⟨S[i], by simp [hlt]⟩
          have hsS : s ∈ S := List.mem_of_getElem? hs
          have hsn : s < n := HOA.out.1.lt s hsS
          have HD : Hid (S.getD i 0 = s) := by show _ = _; simp [hs]
          have HRr : Hid (wr.ownsRow (w.heap.size + 3) 92 1 (.slice ma S.length mc) S.length (ptrs T S)) := HLr.out.ownsB HO4.out (fun g hg e => by have := (HMK4.out g hg).2; omega)
          obtain ⟨og, oc', he, hog⟩ := owns_cell HRr.out (k := i) (y := ptr (T s)) (by simp [ptrs, hs])
          cases he
          have HTb : Hid (Tbs wr n T M at' L K X) := HT4.out.only' HLr.out HU4.out (by decide) (by decide)
          have hbi : (0 : Int) ≤ (i : Int) ∧ (i : Int) < (S.length : Int) := by omega
          have hLs := HL.out s hsn
          have hpairs := pairs_any n T M at' L K X s wr.drew hsn hLs HG (HTb.out.below ((Below.refl _ _).drew))
          obtain ⟨ta', tc', rfl, htk⟩ := owns_form HTr.out.own
          obtain ⟨c0, c1, c2, c3, c4, z0⟩ := cells5 HOr.out
          have HN1 : Hid (∀ g, (Value.slice ta' i tc').ownBlock = some g → g < wr.heap.size) := show ∀ g, _ from fun g hg => (htk g hg).2
          have lob : ob < wr.heap.size := by omega
          clear htk
          go_wp2
          refine wp_region_held_drew (S := fun _ => True) (by kernel_rfl) trivial (fun hHeld => ?_)
          refine wpAnyH_take (i := 0) (v := .pointer (some ⟨ob, 4, none⟩)) rfl (by kernel_rfl) (by kernel_rfl) (by kernel_rfl) (fun _ _ _ h => h) (Or.inl ⟨by rfl, fun w hSw => ?_⟩) hHeld ?_
          · first | rfl | go_simp
          simp only [Act.put, List.setIfInBounds_toArray, List.set_cons_zero, List.set_cons_succ, List.getElem_toArray, List.getElem_cons_zero]
          refine wpAnyH_take (i := 2) (v := .pointer (some ⟨T s, 0, none⟩)) rfl (by kernel_rfl) (by kernel_rfl) (by kernel_rfl) (fun _ _ _ h => h) (Or.inl ⟨by rfl, fun w hSw => ?_⟩) hHeld ?_
          · first | rfl | go_simp
          simp only [Act.put, List.setIfInBounds_toArray, List.set_cons_zero, List.set_cons_succ, List.getElem_toArray, List.getElem_cons_zero, List.getElem_cons_succ]
          apply share3 (F := fun pa pc w5 => w5.ownsRow wr.heap.size 63 8 (.slice pa (L s) pc) (L s) (pairCells (K s) (fun c => atV at' (X s c)) (L s)) ∧ Below wr.heap.size wr.drew w5)
          · intro hG
            refine wpAnyH_ready (rs := [1, 3]) (by kernel_rfl) (by simp) ?_
            refine AllReadyH.cons rfl (fun K' hK' => ?_) (AllReadyH.cons rfl (fun K' hK' => ?_) AllReadyH.nil)
            · go_simp
              refine hK'.out _ _ trivial (fun hHeld => ?_)
              clear hK'
              refine wpAnyH_ready (rs := [3]) (by kernel_rfl) (by simp) ?_
              refine AllReadyH.cons rfl (fun K' hK' => ?_) AllReadyH.nil
              go_simp
              refine hpairs.mono ?_
              rintro e w5 ⟨⟨pv, rfl, hown⟩, hb5⟩
              obtain ⟨pa, pc, rfl, _⟩ := owns_form hown
              refine hK'.out _ _ trivial (fun hHeld => ?_)
              clear hK'
              refine wpAnyH_take (i := 4) (v := .agg #[.slice pa (L s) pc]) rfl (by kernel_rfl) (by kernel_rfl) (by kernel_rfl) (fun _ _ _ h => h) (Or.inl ⟨by rfl, fun w hSw => ?_⟩) hHeld ?_
              · first | rfl | go_simp
              simp only [Act.put, List.setIfInBounds_toArray, List.set_cons_zero, List.set_cons_succ, List.getElem_toArray, List.getElem_cons_zero, List.getElem_cons_succ]
              refine wpAnyH_ready (rs := [5]) (by kernel_rfl) (by simp) ?_
              refine AllReadyH.cons rfl (fun K' hK' => ?_) AllReadyH.nil
              go_simp
              refine hK'.out _ _ trivial (fun hHeld => ?_)
              clear hK'
              exact hG.out pa pc w5 ⟨hown, hb5⟩
            · go_simp
              refine hpairs.mono ?_
              rintro e w5 ⟨⟨pv, rfl, hown⟩, hb5⟩
              obtain ⟨pa, pc, rfl, _⟩ := owns_form hown
              refine hK'.out _ _ trivial (fun hHeld => ?_)
              clear hK'
              have c45 : w5.cell? ⟨ob, 4, none⟩ = some (.slice ta' i tc') := (hb5.cell (p := ⟨ob, 4, none⟩) lob).trans c4
              have l5 : ob < w5.heap.size := Nat.lt_of_lt_of_le lob hb5.size
              refine wpAnyH_take (i := 4) (v := .agg #[.slice pa (L s) pc]) rfl (by kernel_rfl) (by kernel_rfl) (by kernel_rfl) (fun _ _ _ h => h) (Or.inl ⟨by rfl, fun w hSw => ?_⟩) hHeld ?_
              · first | rfl | go_simp
              simp only [Act.put, List.setIfInBounds_toArray, List.set_cons_zero, List.set_cons_succ, List.getElem_toArray, List.getElem_cons_zero, List.getElem_cons_succ]
              refine wpAnyH_ready (rs := [1, 5]) (by kernel_rfl) (by simp) ?_
              refine AllReadyH.cons rfl (fun K' hK' => ?_) (AllReadyH.cons rfl (fun K' hK' => ?_) AllReadyH.nil)
              · go_simp
                refine hK'.out _ _ trivial (fun hHeld => ?_)
                clear hK'
                refine wpAnyH_ready (rs := [5]) (by kernel_rfl) (by simp) ?_
                refine AllReadyH.cons rfl (fun K' hK' => ?_) AllReadyH.nil
                go_simp
                refine hK'.out _ _ trivial (fun hHeld => ?_)
                clear hK'
                exact hG.out pa pc w5 ⟨hown, hb5⟩
              · go_simp
                refine hK'.out _ _ trivial (fun hHeld => ?_)
                clear hK'
                refine wpAnyH_ready (rs := [1]) (by kernel_rfl) (by simp) ?_
                refine AllReadyH.cons rfl (fun K' hK' => ?_) AllReadyH.nil
                go_simp
                refine hK'.out _ _ trivial (fun hHeld => ?_)
                clear hK'
                exact hG.out pa pc w5 ⟨hown, hb5⟩
          · rintro pa pc w5 ⟨hown5, hb5⟩
            have HB5 : Hid (Below wr.heap.size wr w5) := ⟨hb5.os, hb5.tape, hb5.output, hb5.size, hb5.block⟩
            have HU5 : Hid (OutB w5 ob ru (.slice ta' i tc')) := blkB HOr.out HB5.out
            have HT5 : Hid (OTab w5 w4.heap.size (.slice ta' i tc') i PV (cL S L) (cK S K) (cX S X)) := HTr.out.below HB5.out
            have HL5 : Hid (Only (fun k => k = ob) w4 w5) := HLr.out.trans (Only.below HB5.out)
            have HP5 : Hid (w5.ownsRow wr.heap.size 63 8 (.slice pa (L s) pc) (L s) (pairCells (K s) (fun c => renum S (X s c)) (L s))) := by
              have e : pairCells (K s) (fun c => atV at' (X s c)) (L s) = pairCells (K s) (fun c => renum S (X s c)) (L s) := pairCells_congr (fun c hc => ⟨rfl, HRN.out _ (HOA.out.2.1 s hsS c hc)⟩)
              rw [← e]; exact hown5
            have hs5 := HB5.out.size
            clear hown5 hb5 hpairs c0 c1 c2 c3 c4 z0
            refine wpAnyH_ready (rs := [6]) (by kernel_rfl) (by simp) ?_
            refine AllReadyH.cons rfl (fun K' hK' => ?_) AllReadyH.nil
            refine step_append_lies _ (by rfl) (.tmp 43) (.tmp 47) 30 (by rfl) w4.heap.size 61 it (.agg #[.slice none 0 0]) 1 24 Try.underlying30 hti ht0 ht1 ht2 (by rfl) (by omega) (.slice ta' i tc') i ((List.range i).map PV) (by rfl) (HT5.out.own.alloc _) ⟨w5.heap.size, 0, none⟩ 1 1 [.slice pa (L s) pc] (by rfl) (by rfl) (World.news_of_block (heap_alloc_new w5 _)) (by intro u hu; simp at hu; subst hu; rfl) (by omega) (by unfold maxLen; omega) (by omega) (by simp; omega) (w5.heap.size + 1) (by simp) ?_
            intro g cap w7 hown7 hgrow7 hat7 hlt7
            obtain ⟨hT7, hB7⟩ := HT5.out.more (owns_mono HP5.out (by omega)) (fun j hj g hg e => by
              obtain ⟨_, _, _, h⟩ := owns_form HP5.out
              have h1 := (h g e).1
              obtain ⟨_, _, _, h'⟩ := owns_form (HTr.out.rows j hj)
              have h2 := (h' g hg).2
              omega) _ (by omega) hown7 hgrow7
            have HT7 : Hid (OTab w7 w4.heap.size (.slice (some ⟨g, 0, none⟩) (i + 1) cap) (i + 1) (fun j => if j = i then .slice pa (L s) pc else PV j) (cL S L) (cK S K) (cX S X)) := hT7.congr (fun j hj => by
                by_cases e : j = i
                · subst e; simp only [if_true, cL]; rw [HD.out]
                · simp only [e, if_false]) (fun j hj c' hc' => by
                by_cases e : j = i
                · subst e
                  show (if j = j then K s else cK S K j) c' = cK S K j c' ∧ (if j = j then (fun c => renum S (X s c)) else cX S X j) c' = cX S X j c'
                  rw [if_pos rfl, if_pos rfl]
                  unfold cK cX
                  rw [HD.out]
                  exact ⟨rfl, rfl⟩
                · show (if j = i then K s else cK S K j) c' = cK S K j c' ∧ (if j = i then (fun c => renum S (X s c)) else cX S X j) c' = cX S X j c'
                  rw [if_neg e, if_neg e]
                  exact ⟨rfl, rfl⟩)
            have HU7 : Hid (OutB w7 ob ru (.slice ta' i tc')) := (hB7.block _ (by omega)).trans HU5.out
            have HL7 : Hid (Only (fun k => k = ob) w4 w7) := HL5.out.thenBelow hB7 (Nat.le_refl _)
            refine hK'.out _ _ trivial (fun hHeld => ?_)
            clear hK' hT7 hB7 hown7 hgrow7 hat7 hlt7 HT5 HU5 HL5 HP5 HB5 HOr HTr HLr
            obtain ⟨c0, c1, c2, c3, c4, z0⟩ := cells5 HU7.out
            simp only [Act.put, List.setIfInBounds_toArray, List.set_cons_zero, List.set_cons_succ, List.getElem_toArray, List.getElem_cons_zero, List.getElem_cons_succ]
            refine wpAnyH_take (i := 7) (v := .pointer (some ⟨ob, 4, none⟩)) rfl (by kernel_rfl) (by kernel_rfl) (by kernel_rfl) (fun _ _ _ h => h) (Or.inl ⟨by rfl, fun w hSw => ?_⟩) hHeld ?_
            · first | rfl | go_simp
            simp only [Act.put, List.setIfInBounds_toArray, List.set_cons_zero, List.set_cons_succ, List.getElem_toArray, List.getElem_cons_zero, List.getElem_cons_succ]
            refine wpAnyH_ready (rs := [8]) (by kernel_rfl) (by simp) ?_
            refine AllReadyH.cons rfl (fun K' hK' => ?_) AllReadyH.nil
            go_simp
            refine hK'.out _ _ trivial (fun hHeld => ?_)
            clear hK' hHeld
            refine wpAnyH_done (by kernel_rfl) ?_ _
            go_wp2
            go_roundw
            case rel =>
              refine ⟨i + 1, .slice (some ⟨g, 0, none⟩) (i + 1) cap, _, by omega, by go_num, put5hi HU7.out _, HT7.out.only ((Only.refl (fun k => k = ob) w7).set (p := ⟨ob, 4, none⟩) rfl _) (fun k hk e => by omega), HL7.out.set rfl _⟩
            case measure => simp [intOf]; omega
        · obtain rfl : i = S.length := by omega
          obtain ⟨ta', tc', rfl, _⟩ := owns_form HTr.out.own
          have HBr : Hid (OutB wr w.heap.size zeroV (.slice none 0 0)) := (HLr.out.block _ (blk_lt HB4.out) (by omega)).trans HB4.out
          obtain ⟨c0, c1, c2, c3, c4, z0⟩ := cells5 HOr.out
          obtain ⟨r0, r1, r2, r3, r4, r5⟩ := cells5 HBr.out
          simp only [zeroV] at r0 r1 r2 r3
          go_wp2
          have F := put5hi (put5lo HBr.out (.int .i64 ru.k) (.int .i64 ru.n) (.string ru.s) (.int .i64 ru.a)) (.slice ta' S.length tc')
          obtain ⟨wf, hwf⟩ : ∃ wf, wf = ((((wr.setCell ⟨w.heap.size, 0, none⟩ (.int .i64 ru.k)).setCell ⟨w.heap.size, 1, none⟩ (.int .i64 ru.n)).setCell ⟨w.heap.size, 2, none⟩ (.string ru.s)).setCell ⟨w.heap.size, 3, none⟩ (.int .i64 ru.a)).setCell ⟨w.heap.size, 4, none⟩ (.slice ta' S.length tc') := ⟨_, rfl⟩
          have ho : Only (fun k => k = w.heap.size) wr wf := by rw [hwf]; exact set4_only.set (p := ⟨w.heap.size, 4, none⟩) rfl _
          rw [← hwf] at F ⊢
          clear hwf
          obtain ⟨q0, q1, q2, q3, q4, _⟩ := cells5 F
          refine bodyPost_ret (v := .agg #[.int .i64 ru.k, .int .i64 ru.n, .string ru.s, .int .i64 ru.a, .slice ta' S.length tc']) (by simp [results, Try.results56, go_sem, q0, q1, q2, q3, q4]) rfl ⟨⟨_, PV, w4.heap.size, by omega, rfl, HTr.out.only ho (fun k hk e => by omega)⟩, ?_⟩
          refine HL4.out.thenBelow ((HLr.out.toBelow (base := w.heap.size) (fun k hk => by omega) (by omega)).trans (ho.toBelow (fun k hk => by omega) (by omega))) (Nat.le_refl _)

end Go.Proofs.Ytgflalfiopnmnab

namespace Go.Proofs.Ytgflalfiopnmnab
open Go.RowKit Vl

set_option maxHeartbeats 1000000 in
set_option maxRecDepth 100000 in
/-- 'impl.Canon'. -/
theorem implCanon_any (u : V) (ta : Option Addr) (n cp TB TO : Nat) (A : Nat → Option Addr) (L C RB RO : Nat → Nat) (K X : Nat → Nat → V) (w : World) (hn : n ≤ 1048576) (HS : Hid (Small 1048576 n L K X)) (HT : Hid (TabsAt w ta n TB TO A L C RB RO K X)) :
    Calls Try.prog 21 #[.agg #[.int .i64 u.k, .int .i64 u.n, .string u.s, .int .i64 u.a, .slice ta n cp]] w fun e w' => CanonIs w w' e n u L K X ∧ Below w.heap.size w w' := by
  have A2 : Hid _ := alloc2 w (.cells #[.int .i64 u.k, .int .i64 u.n, .string u.s, .int .i64 u.a, .slice ta n cp] 32) (.cells #[.int .i64 0, .int .i64 0, .string ⟨#[]⟩, .int .i64 0, .slice none 0 0] 32)
  obtain ⟨w0, hw0⟩ : ∃ w0, w0 = (w.alloc (.cells #[.int .i64 u.k, .int .i64 u.n, .string u.s, .int .i64 u.a, .slice ta n cp] 32)).alloc (.cells #[.int .i64 0, .int .i64 0, .string ⟨#[]⟩, .int .i64 0, .slice none 0 0] 32) := ⟨_, rfl⟩
  have H0 : Hid (CanW w w0 u ta n cp) := by rw [hw0]; exact ⟨A2.out.1, A2.out.2.1, A2.out.2.2.2⟩
  have HS0 : Hid (w0.heap.size = w.heap.size + 2) := by rw [hw0]; exact A2.out.2.2.1
  clear A2
  have hlk := link_any u ta n cp TB TO A L C RB RO K X w0 hn HS (HT.out.below H0.out.bel)
  go_enter Try.func21, Try.ntmps21
  go_wp2_with fail
  rw [← hw0]
  refine hlk.mono ?_
  clear hlk hw0
  rintro e w1 ⟨hcase, hb1⟩
  have H1 : Hid (CanW w w1 u ta n cp) := H0.out.below hb1
  clear hb1 H0
  rcases hcase with ⟨hG, rfl, base, hH⟩ | ⟨hN, rfl⟩
  · have HG : Hid (OkG n u L K X) := hG
    have HH : Hid (Half w1 w0.heap.size n n base L K X) := hH
    obtain ⟨b, hb⟩ : ∃ b, w0.heap.size = b := ⟨_, rfl⟩
    rw [hb] at HH HS0 ⊢
    clear hG hH hb
    obtain ⟨xt, xy, hxv⟩ := ifv_form (tT b) u
    have HXV : Hid (ifv (tT b) u = .iface xt xy) := hxv
    rw [hxv]
    clear hxv
    obtain ⟨w2, hw2⟩ : ∃ w2, w2 = w1.alloc (.cells #[.iface xt xy, .slice (some ⟨b + 2, 0, none⟩) n n] 70) := ⟨_, rfl⟩
    have hb2 : Below w1.heap.size w1 w2 := by rw [hw2]; exact (Below.refl _ _).alloc (Nat.le_refl _) _
    have H2 : Hid (CanW w w2 u ta n cp) := H1.out.below hb2
    have HT2 : Hid (Tbs w2 n (tT b) (tM b) (fun j => (j : Nat)) L K X) := (HH.out.tbs HG.out).below hb2
    obtain ⟨S, HSo⟩ : ∃ S, Hid (order n u L X = S) := ⟨_, rfl⟩
    have hcan := canonical_any n (tT b) (tM b) _ L K X u w2 (by have := HG.out.len; omega) (show ∀ r, _ from fun r hr => (HG.out.all r hr).len) (good_of HG.out) HG.out.root HT2 S HSo
    rw [HXV.out] at hcan
    obtain ⟨ru, HRU⟩ : ∃ ru, Hid (renum S u = ru) := ⟨_, rfl⟩
    rw [HRU.out] at hcan
    clear HH H1 hb2
    go_wp2_with fail
    rw [← hw2]
    refine hcan.mono ?_
    clear hcan hw2
    rintro e w3 ⟨⟨tv, PV, bs, hbs, rfl, hO⟩, hL⟩
    have H3 : Hid (CanW w w3 u ta n cp) := H2.out.only hL (fun k ⟨j, hj, e⟩ => by have := HS0.out; rw [e]; unfold tT; omega)
    have HO : Hid (OTab w3 bs tv S.length PV (cL S L) (cK S K) (cX S X)) := hO
    have hs2 : w.heap.size + 1 < w2.heap.size := blk_lt H2.out.res
    clear hO hL H2 HT2
    obtain ⟨ta', tc', rfl, _⟩ := owns_form HO.out.own
    obtain ⟨r0, r1, r2, r3, r4, r5⟩ := cells5 H3.out.res
    simp only [zeroV] at r0 r1 r2 r3
    go_wp2
    have F := put5hi (put5lo H3.out.res (.int .i64 ru.k) (.int .i64 ru.n) (.string ru.s) (.int .i64 ru.a)) (.slice ta' S.length tc')
    obtain ⟨wf, hwf⟩ : ∃ wf, wf = ((((w3.setCell ⟨w.heap.size + 1, 0, none⟩ (.int .i64 ru.k)).setCell ⟨w.heap.size + 1, 1, none⟩ (.int .i64 ru.n)).setCell ⟨w.heap.size + 1, 2, none⟩ (.string ru.s)).setCell ⟨w.heap.size + 1, 3, none⟩ (.int .i64 ru.a)).setCell ⟨w.heap.size + 1, 4, none⟩ (.slice ta' S.length tc') := ⟨_, rfl⟩
    have ho : Only (fun k => k = w.heap.size + 1) w3 wf := by rw [hwf]; exact set4_only.set (p := ⟨w.heap.size + 1, 4, none⟩) rfl _
    rw [← hwf] at F ⊢
    clear hwf
    obtain ⟨q0, q1, q2, q3, q4, _⟩ := cells5 F
    refine bodyPost_ret (v := .agg #[.int .i64 ru.k, .int .i64 ru.n, .string ru.s, .int .i64 ru.a, .slice ta' S.length tc']) (by simp [results, Try.results21, go_sem, q0, q1, q2, q3, q4]) rfl ⟨Or.inl ⟨HG.out, ?_⟩, H3.out.bel.trans (ho.toBelow (fun k hk => by omega) (by have := H3.out.bel.size; omega))⟩
    rw [HSo.out, HRU.out]
    exact ⟨_, PV, bs, by omega, rfl, HO.out.only ho (fun k hk e => by omega)⟩
  · have HN : Hid (¬ OkG n u L K X) := hN
    clear hN
    have hb2 : Below w1.heap.size w1 (w1.alloc (.cells #[.nilIface, .slice none 0 0] 70)) := (Below.refl _ _).alloc (Nat.le_refl _) _
    have H2 : Hid (CanW w (w1.alloc (.cells #[.nilIface, .slice none 0 0] 70)) u ta n cp) := H1.out.below hb2
    obtain ⟨r0, r1, r2, r3, r4, r5⟩ := cells5 H2.out.res
    simp only [zeroV] at r0 r1 r2 r3
    obtain ⟨s0, s1, s2, s3, s4, s5⟩ := cells5 H1.out.res
    simp only [zeroV] at s0 s1 s2 s3
    have hlt : w.heap.size + 1 < w1.heap.size := blk_lt H1.out.res
    go_wp2
    have F := put5hi (put5lo H1.out.res (.int .i64 0) (.int .i64 0) (.string ⟨#[]⟩) (.int .i64 0)) (.slice none 0 0)
    obtain ⟨q0, q1, q2, q3, q4, _⟩ := cells5 (blkB F ((Below.refl _ _).alloc (Nat.le_refl _) (.cells #[.nilIface, .slice none 0 0] 70)))
    refine bodyPost_ret (v := .agg #[.int .i64 0, .int .i64 0, .string ⟨#[]⟩, .int .i64 0, .slice none 0 0]) (by simp [results, Try.results21, go_sem, q0, q1, q2, q3, q4]) rfl ⟨Or.inr ⟨HN.out, rfl⟩, ?_⟩
    have hfin := (H1.out.bel.trans (set4_below (B := w.heap.size + 1) (i := 0) (j := 1) (k := 2) (l := 3) (a' := .int .i64 0) (b' := .int .i64 0) (c' := .string ⟨#[]⟩) (d' := .int .i64 0) |>.mono (show w.heap.size ≤ w.heap.size + 1 by omega))).setCell (p := ⟨w.heap.size + 1, 4, none⟩) (by show w.heap.size ≤ w.heap.size + 1; omega) (.slice none 0 0)
    exact hfin.alloc hfin.size _

end Go.Proofs.Ytgflalfiopnmnab

namespace Go.Proofs.Ytgflalfiopnmnab
open Go.RowKit Vl

/-- The digits of k ahead of out. -/
def digs (k : Nat) (out : ByteArray) : ByteArray := if k = 0 then out else digs (k / 10) (strOfNums [48 + (k : Int) % 10] ++ out)
termination_by k
decreasing_by omega
theorem digs_zero (out : ByteArray) : digs 0 out = out := by rw [digs]; simp
theorem digs_pos {k : Nat} (h : ¬ k = 0) (out : ByteArray) : digs k out = digs (k / 10) (strOfNums [48 + (k : Int) % 10] ++ out) := by rw [digs]; simp [h]
/-- The text of a mark. -/
def markT (k : Nat) : ByteArray := ⟨#[109]⟩ ++ digs k ⟨#[]⟩

set_option maxHeartbeats 1000000 in
set_option maxRecDepth 100000 in
/-- 'markText'. -/
theorem markText_any (k : Nat) (w : World) (hk0 : 0 < k) (hk1 : k ≤ 1125899906842624) :
    Calls Try.prog 74 #[.int .i64 k] w fun e w' => e = .returned (.string (markT k)) ∧ Below w.heap.size w w' := by
  have hk : ¬ ((k : Int) ≤ 0) := by omega
  go_enter Try.func74, Try.ntmps74
  go_wp2
  go_loopw [0, 3] (fun kk oo wr => ∃ (j : Nat) (out : ByteArray), j ≤ k ∧ kk = .int .i64 j ∧ oo = .string out ∧ digs j out = digs k ⟨#[]⟩ ∧ out.size + j ≤ k ∧ Hid (Below w.heap.size w wr)) (fun kk _ _ => (intOf kk).toNat)
  case atStart => exact ⟨k, ⟨#[]⟩, Nat.le_refl _, rfl, rfl, rfl, by simp [ByteArray.size], Below.refl _ _⟩
  case round =>
    obtain ⟨j, out, hj, rfl, rfl, hd, hos, HW⟩ := hrel
    by_cases h0 : j = 0
    · subst h0
      rw [digs_zero] at hd
      have HD : Hid (out = digs k ⟨#[]⟩) := hd
      clear hd
      obtain rfl := HD.out
      go_wp2
      refine bodyPost_ret (v := .string (markT k)) (by simp [results, Try.results74, go_sem, markT]) rfl ⟨rfl, HW.out⟩
    · have hpos : (0 : Int) < (j : Int) := by omega
      have HD : Hid (digs (j / 10) (strOfNums [48 + (j : Int) % 10] ++ out) = digs k ⟨#[]⟩) := by rw [← hd, digs_pos h0]; exact rfl
      clear hd
      have hcv := run_convert_bytes_arg (P := Try.prog) (wr.alloc (.cells #[.int .u8 (48 + (j : Int) % 10)] 5)) 167 5 Try.underlying167 Try.underlying5 wr.heap.size 0 1 1 [48 + (j : Int) % 10] rfl (fun i hi => by
        obtain rfl : i = 0 := by omega
        rw [Nat.zero_add]
        exact (one_at (heap_alloc_new wr (.cells #[.int .u8 (48 + (j : Int) % 10)] 5))).1) 9 Try.underlying9
      obtain ⟨dg, hdg⟩ : ∃ dg, strOfNums [48 + (j : Int) % 10] = dg := ⟨_, rfl⟩
      have hds : dg.size = 1 := by rw [← hdg]; rfl
      rw [hdg] at hcv HD
      clear hdg
      go_wp2
      go_roundw
      case rel => exact ⟨j / 10, dg ++ out, by omega, by go_num, rfl, HD.out, by rw [ByteArray.size_append, hds]; omega, HW.out.alloc HW.out.size _⟩
      case measure => simp [intOf]; omega

end Go.Proofs.Ytgflalfiopnmnab

namespace Go.Proofs.Ytgflalfiopnmnab
open Go.RowKit Vl

/-- Cell i of marked pairs. -/
def mkc (k i : Nat) : Value := if i % 8 = 2 ∨ i % 8 = 6 then .string (markT (k + i)) else .int .i64 ((k + i : Nat) : Int)
theorem mkc_int {k c d : Nat} {q : Int} (hd : d < 8) (h2 : d ≠ 2) (h6 : d ≠ 6) (hq : q = k + c * 8 + d) : mkc k (c * 8 + d) = .int .i64 q := by
  unfold mkc
  rw [if_neg (by omega), hq]
  congr 1
  omega
theorem mkc_text {k c d q : Nat} (hd : d = 2 ∨ d = 6) (hq : q = k + c * 8 + d) : mkc k (c * 8 + d) = .string (markT q) := by
  unfold mkc
  rw [if_pos (by omega), hq, Nat.add_assoc]

/-- The first p cells are marked. -/
def Mk (w : World) (B cap k p : Nat) (f : Nat → Value) : Prop := w.rowIs B 63 cap (fun i => if i < p then mkc k i else f i)
theorem Mk.step {w : World} {B cap k p : Nat} {f : Nat → Value} {v : Value} (h : Mk w B cap k p f) (hv : mkc k p = v) : Mk (w.setCell ⟨B, p, none⟩ v) B cap k (p + 1) f := by
  refine ((show w.rowIs B _ _ _ from h).set p v).congr (fun i _ => ?_)
  by_cases e : i = p
  · subst e; rw [if_pos rfl, if_pos (by omega), hv]
  · rw [if_neg e]
    by_cases h' : i < p
    · rw [if_pos h', if_pos (by omega)]
    · rw [if_neg h', if_neg (by omega)]
theorem Mk.below {w w' : World} {B cap k p : Nat} {f : Nat → Value} (h : Mk w B cap k p f) (hb : Below w.heap.size w w') : Mk w' B cap k p f := h.of_block (hb.block B h.lt)
theorem Mk.cell {w : World} {B cap k p : Nat} {f : Nat → Value} (h : Mk w B cap k p f) {i : Nat} (hi : i < cap) (hp : p ≤ i) : w.cell? ⟨B, i, none⟩ = some (f i) := by
  have := (show w.rowIs B _ _ _ from h).cell hi
  rw [if_neg (by omega)] at this
  exact this

set_option maxHeartbeats 2000000 in
set_option maxRecDepth 100000 in
/-- 'markPairS'. -/
theorem markPairS_any (pa : Option Addr) (L C B cap k : Nat) (f : Nat → Value) (w : World) (hL : L ≤ 1048576) (hk0 : 0 < k) (hk1 : k ≤ 562949953421312) (hA : 0 < L → pa = some ⟨B, 0, none⟩) (hc : L * 8 ≤ cap) (HR : Hid (0 < L → w.rowIs B 63 cap f)) :
    Calls Try.prog 86 #[.slice pa L C, .int .i64 k] w fun e w' => e = .returned (.int .i64 ((k + L * 8 : Nat) : Int)) ∧ (0 < L → Mk w' B cap k (L * 8) f) ∧ Only (fun x => x = B ∧ 0 < L) w w' := by
  go_enter Try.func86, Try.ntmps86
  go_wp2
  go_loopw [1, 5] (fun kk ii wr => ∃ (c q : Nat), c ≤ L ∧ q = k + c * 8 ∧ kk = .int .i64 (q : Nat) ∧ ii = .int .i64 c ∧ Hid (0 < L → Mk wr B cap k (c * 8) f) ∧ Hid (Only (fun x => x = B ∧ 0 < L) w wr)) (fun _ ii _ => L - (intOf ii).toNat)
  case atStart => exact ⟨0, k, Nat.zero_le _, by omega, rfl, rfl, show _ → _ from fun h => (HR.out h).congr (fun i _ => by rw [if_neg (by omega)]), Only.refl _ _⟩
  case round =>
    obtain ⟨c, q, hcl, hq, rfl, rfl, HM, HO⟩ := hrel
    have HQ : Hid (q = k + c * 8) := hq
    have hq0 : 0 < q := by omega
    by_cases hlt : c < L
    · have hL0 : 0 < L := by omega
      have hq1 : q ≤ 562949961809920 := by omega
      obtain rfl := hA hL0
      have HM0 : Hid (Mk wr B cap k (c * 8) f) := HM.out hL0
      have c0 := HM0.out.cell (i := c * 8) (by omega) (by omega)
      have c1 := HM0.out.cell (i := c * 8 + 1) (by omega) (by omega)
      have z0 := (show wr.rowIs B _ _ _ from HM0.out).frozen
      obtain ⟨wa, hwa⟩ : ∃ wa, wa = (wr.setCell ⟨B, c * 8, none⟩ (.int .i64 (q : Nat))).setCell ⟨B, c * 8 + 1, none⟩ (.int .i64 ((q : Int) + 1)) := ⟨_, rfl⟩
      have HMa : Hid (Mk wa B cap k (c * 8 + 2) f) := by
        rw [hwa]
        exact (HM0.out.step (mkc_int (d := 0) (by omega) (by omega) (by omega) (by omega))).step (mkc_int (d := 1) (by omega) (by omega) (by omega) (by omega))
      have HOa : Hid (Only (fun x => x = B ∧ 0 < L) w wa) := by rw [hwa]; exact (HO.out.set ⟨rfl, hL0⟩ _).set ⟨rfl, hL0⟩ _
      have hm := markText_any (q + 2) wa (by omega) (by omega)
      rw [show ((q + 2 : Nat) : Int) = (q : Int) + 1 + 1 by omega] at hm
      obtain ⟨t1, ht1⟩ : ∃ t, markT (q + 2) = t := ⟨_, rfl⟩
      rw [ht1] at hm
      have HT1 : Hid (mkc k (c * 8 + 2) = .string t1) := by rw [← ht1]; exact mkc_text (Or.inl rfl) (by omega)
      obtain ⟨t2, ht2⟩ : ∃ t, markT (q + 6) = t := ⟨_, rfl⟩
      have HT2 : Hid (mkc k (c * 8 + 6) = .string t2) := by rw [← ht2]; exact mkc_text (Or.inr rfl) (by omega)
      clear ht1 hq HM0 HM HO
      go_wp2_with fail
      rw [← hwa]
      refine hm.mono ?_
      clear hm hwa c0 c1 z0
      rintro e w1 ⟨rfl, hb1⟩
      have HM1 : Hid (Mk w1 B cap k (c * 8 + 2) f) := HMa.out.below hb1
      have HO1 : Hid (Only (fun x => x = B ∧ 0 < L) w w1) := HOa.out.trans (Only.below hb1)
      clear hb1 HMa HOa
      have c2 := HM1.out.cell (i := c * 8 + 2) (by omega) (by omega)
      have c3 := HM1.out.cell (i := c * 8 + 3) (by omega) (by omega)
      have c4 := HM1.out.cell (i := c * 8 + 4) (by omega) (by omega)
      have c5 := HM1.out.cell (i := c * 8 + 5) (by omega) (by omega)
      have z0 := (show w1.rowIs B _ _ _ from HM1.out).frozen
      obtain ⟨wb, hwb⟩ : ∃ wb, wb = (((w1.setCell ⟨B, c * 8 + 2, none⟩ (.string t1)).setCell ⟨B, c * 8 + 3, none⟩ (.int .i64 ((q : Int) + 1 + 1 + 1))).setCell ⟨B, c * 8 + 4, none⟩ (.int .i64 ((q : Int) + 1 + 1 + 1 + 1))).setCell ⟨B, c * 8 + 5, none⟩ (.int .i64 ((q : Int) + 1 + 1 + 1 + 1 + 1)) := ⟨_, rfl⟩
      have hQ := HQ.out
      have HMb : Hid (Mk wb B cap k (c * 8 + 6) f) := by
        rw [hwb]
        exact (((HM1.out.step HT1.out).step (mkc_int (d := 3) (by omega) (by omega) (by omega) (by omega))).step (mkc_int (d := 4) (by omega) (by omega) (by omega) (by omega))).step (mkc_int (d := 5) (by omega) (by omega) (by omega) (by omega))
      have HOb : Hid (Only (fun x => x = B ∧ 0 < L) w wb) := by rw [hwb]; exact (((HO1.out.set ⟨rfl, hL0⟩ _).set ⟨rfl, hL0⟩ _).set ⟨rfl, hL0⟩ _).set ⟨rfl, hL0⟩ _
      have hm := markText_any (q + 6) wb (by omega) (by omega)
      rw [show ((q + 6 : Nat) : Int) = (q : Int) + 1 + 1 + 1 + 1 + 1 + 1 by omega, ht2] at hm
      clear ht2 hQ HM1 HO1
      go_wp2_with fail
      rw [← hwb]
      refine hm.mono ?_
      clear hm hwb c2 c3 c4 c5 z0
      rintro e w2 ⟨rfl, hb2⟩
      have HM2 : Hid (Mk w2 B cap k (c * 8 + 6) f) := HMb.out.below hb2
      have HO2 : Hid (Only (fun x => x = B ∧ 0 < L) w w2) := HOb.out.trans (Only.below hb2)
      clear hb2 HMb HOb
      have c6 := HM2.out.cell (i := c * 8 + 6) (by omega) (by omega)
      have c7 := HM2.out.cell (i := c * 8 + 7) (by omega) (by omega)
      have z0 := (show w2.rowIs B _ _ _ from HM2.out).frozen
      go_wp2
      have hQ := HQ.out
      go_roundw
      case rel =>
        refine ⟨c + 1, q + 8, by omega, by omega, by go_num, by go_num, show _ → _ from fun _ => ?_, (HO2.out.set ⟨rfl, hL0⟩ _).set ⟨rfl, hL0⟩ _⟩
        have := (HM2.out.step HT2.out).step (mkc_int (d := 7) (q := (q : Int) + 1 + 1 + 1 + 1 + 1 + 1 + 1) (by omega) (by omega) (by omega) (by omega))
        rw [show c * 8 + 7 + 1 = (c + 1) * 8 by omega] at this
        exact this
      case measure => simp [intOf]; omega
    · obtain rfl : c = L := by omega
      subst hq
      clear HQ
      go_wp2
      go_ret
      exact ⟨rfl, HM.out, HO.out⟩

end Go.Proofs.Ytgflalfiopnmnab

namespace Go.Proofs.Ytgflalfiopnmnab
open Go.RowKit Vl

/-- Marked pairs, as they are read. -/
def MkAt (w : World) (B k L : Nat) : Prop := ∀ i, i < L * 8 → w.cell? ⟨B, i, none⟩ = some (mkc k i)
theorem Mk.at {w : World} {B cap k L : Nat} {f : Nat → Value} (h : Mk w B cap k (L * 8) f) (hc : L * 8 ≤ cap) : MkAt w B k L := fun i hi => by
  have := (show w.rowIs B _ _ _ from h).cell (i := i) (by omega)
  rw [if_pos hi] at this
  exact this
theorem MkAt.below {w w' : World} {B k L : Nat} (h : MkAt w B k L) (hb : Below w.heap.size w w') : MkAt w' B k L := fun i hi => (hb.cell (p := ⟨B, i, none⟩) (World.block_lt_of_cell? _ _ (h i hi))).trans (h i hi)

theorem MkAt.cells {w : World} {B k L c q : Nat} (h : MkAt w B k L) (hc : c < L) (hq : q = k + c * 8) :
    w.cell? ⟨B, c * 8, none⟩ = some (.int .i64 (q : Int)) ∧ w.cell? ⟨B, c * 8 + 1, none⟩ = some (.int .i64 ((q : Int) + 1)) ∧ w.cell? ⟨B, c * 8 + 2, none⟩ = some (.string (markT (q + 2))) ∧ w.cell? ⟨B, c * 8 + 3, none⟩ = some (.int .i64 ((q : Int) + 1 + 1 + 1)) ∧ w.cell? ⟨B, c * 8 + 4, none⟩ = some (.int .i64 ((q : Int) + 1 + 1 + 1 + 1)) ∧ w.cell? ⟨B, c * 8 + 5, none⟩ = some (.int .i64 ((q : Int) + 1 + 1 + 1 + 1 + 1)) ∧ w.cell? ⟨B, c * 8 + 6, none⟩ = some (.string (markT (q + 6))) ∧ w.cell? ⟨B, c * 8 + 7, none⟩ = some (.int .i64 ((q : Int) + 1 + 1 + 1 + 1 + 1 + 1 + 1)) := by
  have g : ∀ d, d < 8 → w.cell? ⟨B, c * 8 + d, none⟩ = some (mkc k (c * 8 + d)) := fun d hd => h _ (by omega)
  refine ⟨?_, ?_, ?_, ?_, ?_, ?_, ?_, ?_⟩
  · rw [← mkc_int (k := k) (c := c) (d := 0) (by omega) (by omega) (by omega) (by omega)]; exact g 0 (by omega)
  · rw [← mkc_int (k := k) (c := c) (d := 1) (by omega) (by omega) (by omega) (by omega)]; exact g 1 (by omega)
  · rw [← mkc_text (k := k) (c := c) (d := 2) (Or.inl rfl) (by omega)]; exact g 2 (by omega)
  · rw [← mkc_int (k := k) (c := c) (d := 3) (by omega) (by omega) (by omega) (by omega)]; exact g 3 (by omega)
  · rw [← mkc_int (k := k) (c := c) (d := 4) (by omega) (by omega) (by omega) (by omega)]; exact g 4 (by omega)
  · rw [← mkc_int (k := k) (c := c) (d := 5) (by omega) (by omega) (by omega) (by omega)]; exact g 5 (by omega)
  · rw [← mkc_text (k := k) (c := c) (d := 6) (Or.inr rfl) (by omega)]; exact g 6 (by omega)
  · rw [← mkc_int (k := k) (c := c) (d := 7) (by omega) (by omega) (by omega) (by omega)]; exact g 7 (by omega)

theorem keep1m {w0 w w' : World} {a : Addr} {x : Value} (h : w.cell? a = some x ∧ Hid (Below w0.heap.size w0 w)) (hb : Below w.heap.size w w') : w'.cell? a = some x ∧ Hid (Below w0.heap.size w0 w') :=
  ⟨(hb.cell (World.block_lt_of_cell? _ _ h.1)).trans h.1, grw h.2.out hb⟩

set_option maxHeartbeats 2000000 in
set_option maxRecDepth 100000 in
/-- 'heldPairS'. -/
theorem heldPairS_any (pa : Option Addr) (L C B k : Nat) (w : World) (hL : L ≤ 1048576) (hk0 : 0 < k) (hk1 : k ≤ 562949953421312) (hA : 0 < L → pa = some ⟨B, 0, none⟩) (HM : Hid (MkAt w B k L)) :
    Calls Try.prog 87 #[.slice pa L C, .int .i64 k] w fun e w' => e = .returned (.int .i64 ((k + L * 8 : Nat) : Int)) ∧ Below w.heap.size w w' := by
  go_enter Try.func87, Try.ntmps87
  go_wp2
  go_loopw [1, 5] (fun kk ii wr => ∃ (c q : Nat), c ≤ L ∧ q = k + c * 8 ∧ kk = .int .i64 (q : Nat) ∧ ii = .int .i64 c ∧ Hid (Below w.heap.size w wr)) (fun _ ii _ => L - (intOf ii).toNat)
  case atStart => exact ⟨0, k, Nat.zero_le _, by omega, rfl, rfl, Below.refl _ _⟩
  case round =>
    obtain ⟨c, q, hcl, hq, rfl, rfl, HW⟩ := hrel
    have HQ : Hid (q = k + c * 8) := hq
    have hq0 : 0 < q := by omega
    by_cases hlt : c < L
    · have hL0 : 0 < L := by omega
      have hq1 : q ≤ 562949961809920 := by omega
      obtain rfl := hA hL0
      obtain ⟨c0, c1, c2, c3, c4, c5, c6, c7⟩ := (HM.out.below HW.out).cells hlt hq
      have hbc : (0 : Int) ≤ (c : Int) ∧ (c : Int) < (L : Int) := by omega
      have hm1 := fun w1 => markText_any (q + 2) w1 (by omega) (by omega)
      rw [show ((q + 2 : Nat) : Int) = (q : Int) + 1 + 1 by omega] at hm1
      have hm2 := fun w1 => markText_any (q + 6) w1 (by omega) (by omega)
      rw [show ((q + 6 : Nat) : Int) = (q : Int) + 1 + 1 + 1 + 1 + 1 + 1 by omega] at hm2
      obtain ⟨t1, ht1⟩ : ∃ t, markT (q + 2) = t := ⟨_, rfl⟩
      rw [ht1] at hm1 c2
      obtain ⟨t2, ht2⟩ : ∃ t, markT (q + 6) = t := ⟨_, rfl⟩
      rw [ht2] at hm2 c6
      have HT2 : Hid (markT (q + 6) = t2) := ht2
      clear ht1 ht2 hq c4 c5 c6 c7 c3
      have C2 : Hid _ := c2
      go_wp2
      go_region_held3 (fun w' => w'.cell? ⟨B, c * 8 + 2, none⟩ = some (.string t1) ∧ Hid (Below w.heap.size w w'))
        (first | exact keep1m ‹_ ∧ _› hb1 | exact ⟨C2.out, HW.out.drew⟩)
        ((go_at_call 74; refine (hm1 _).mono ?_; rintro e w1 ⟨rfl, hb1⟩))
      rename_i hS
      have HW1 := hS.2
      have hQ := HQ.out
      clear hS hb1 c0 c1 c2 C2 HW hm1
      obtain ⟨_, _, _, c3, c4, c5, c6, c7⟩ := (HM.out.below HW1.out).cells hlt hQ
      rw [HT2.out] at c6
      have C6 : Hid _ := c6
      clear hQ c7
      go_wp2
      go_region_held3 (fun w' => w'.cell? ⟨B, c * 8 + 6, none⟩ = some (.string t2) ∧ Hid (Below w.heap.size w w'))
        (first | exact keep1m ‹_ ∧ _› hb2 | exact ⟨C6.out, HW1.out.drew⟩)
        ((go_at_call 74; refine (hm2 _).mono ?_; rintro e w2 ⟨rfl, hb2⟩))
      rename_i hS
      have HW2 := hS.2
      have hQ := HQ.out
      clear hS hb2 c3 c4 c5 c6 C6 HW1 hm2
      obtain ⟨_, _, _, _, _, _, _, c7⟩ := (HM.out.below HW2.out).cells hlt hQ
      clear hQ
      go_wp2
      have hQ := HQ.out
      go_roundw
      case rel => exact ⟨c + 1, q + 8, by omega, by omega, by go_num, by go_num, HW2⟩
      case measure => simp [intOf]; omega
    · obtain rfl : c = L := by omega
      subst hq
      clear HQ
      go_wp2
      go_ret
      exact ⟨rfl, HW.out⟩

end Go.Proofs.Ytgflalfiopnmnab

namespace Go.Proofs.Ytgflalfiopnmnab
open Go.RowKit Vl

/-- The first mark of table r. -/
def koff (k : Nat) (L : Nat → Nat) : Nat → Nat
  | 0 => k
  | r + 1 => koff k L r + L r * 8
theorem koff_le {k n b : Nat} {L : Nat → Nat} (h : ∀ r, r < n → L r ≤ b) : ∀ r, r ≤ n → koff k L r ≤ k + r * (b * 8)
  | 0, _ => by simp [koff]
  | r + 1, hr => by
    have h1 := koff_le (k := k) h r (by omega)
    have h2 := h r (by omega)
    show koff k L r + L r * 8 ≤ _
    have : L r * 8 ≤ b * 8 := Nat.mul_le_mul_right 8 h2
    have e : (r + 1) * (b * 8) = r * (b * 8) + b * 8 := Nat.succ_mul _ _
    omega
theorem koff_pos {k : Nat} {L : Nat → Nat} (h : 0 < k) : ∀ r, 0 < koff k L r
  | 0 => h
  | r + 1 => by have := koff_pos (L := L) h r; show 0 < koff k L r + L r * 8; omega

/-- Tables whose pairs may be written. -/
structure MTabs (w : World) (ta : Option Addr) (n TB : Nat) (A : Nat → Option Addr) (L C RB cap : Nat → Nat) (f : Nat → Nat → Value) : Prop where
  top : 0 < n → ta = some ⟨TB, 0, none⟩
  tab : ∀ r, r < n → w.cell? ⟨TB, r, none⟩ = some (.slice (A r) (L r) (C r))
  adr : ∀ r, r < n → 0 < L r → A r = some ⟨RB r, 0, none⟩
  row : ∀ r, r < n → 0 < L r → w.rowIs (RB r) 63 (cap r) (f r)
  fit : ∀ r, r < n → 0 < L r → L r * 8 ≤ cap r
  ne : ∀ r, r < n → 0 < L r → RB r ≠ TB
  dis : ∀ r s, r < s → s < n → 0 < L r → 0 < L s → RB r ≠ RB s

set_option maxHeartbeats 1000000 in
set_option maxRecDepth 100000 in
/-- 'markTableS'. -/
theorem markTableS_any (ta : Option Addr) (n cp TB k : Nat) (A : Nat → Option Addr) (L C RB cap : Nat → Nat) (f : Nat → Nat → Value) (w : World) (hn : n ≤ 1048576) (HL : Hid (∀ r, r < n → L r ≤ 1048576)) (hk0 : 0 < k) (hk1 : k ≤ 17592186044416) (HT : Hid (MTabs w ta n TB A L C RB cap f)) :
    Calls Try.prog 57 #[.slice ta n cp, .int .i64 k] w fun e w' => e = .returned (.int .i64 ((koff k L n : Nat) : Int)) ∧ (∀ r, r < n → 0 < L r → Mk w' (RB r) (cap r) (koff k L r) (L r * 8) (f r)) ∧ Only (fun x => ∃ j, j < n ∧ x = RB j ∧ 0 < L j) w w' := by
  have HK : Hid (∀ r, r ≤ n → koff k L r ≤ k + r * (1048576 * 8)) := fun r hr => koff_le HL.out r hr
  go_enter Try.func57, Try.ntmps57
  go_wp2
  go_loopw [1, 5] (fun kk ii wr => ∃ (r q : Nat), r ≤ n ∧ Hid (koff k L r = q) ∧ kk = .int .i64 (q : Nat) ∧ ii = .int .i64 r ∧ Hid (∀ j, j < r → 0 < L j → Mk wr (RB j) (cap j) (koff k L j) (L j * 8) (f j)) ∧ Hid (Only (fun x => ∃ j, j < r ∧ x = RB j ∧ 0 < L j) w wr)) (fun _ ii _ => n - (intOf ii).toNat)
  case atStart => exact ⟨0, k, Nat.zero_le _, (show koff k L 0 = k from rfl), rfl, rfl, (show ∀ j, _ from fun j hj => by omega), Only.refl _ _⟩
  case round =>
    obtain ⟨r, q, hr, HQ, rfl, rfl, HM, HO⟩ := hrel
    by_cases hlt : r < n
    · obtain rfl := HT.out.top (by omega)
      have t0 : wr.cell? ⟨TB, r, none⟩ = some (.slice (A r) (L r) (C r)) := HO.out.cell (HT.out.tab r hlt) (by rintro ⟨j, hj, e, h0⟩; exact HT.out.ne j (by omega) h0 e.symm)
      have hq1 : q ≤ k + r * (1048576 * 8) := by have := HK.out r hr; rw [HQ.out] at this; exact this
      have hq0 : 0 < q := by rw [← HQ.out]; exact koff_pos hk0 r
      have hLr := HL.out r hlt
      obtain ⟨a, ha⟩ : ∃ a, A r = a := ⟨_, rfl⟩
      rw [ha] at t0
      have hm := markPairS_any a (L r) (C r) (RB r) (cap r) q (f r) wr hLr hq0 (by omega) (fun h => ha ▸ HT.out.adr r hlt h) (by
          rcases Nat.eq_zero_or_pos (L r) with h | h
          · omega
          · exact HT.out.fit r hlt h) (show _ → _ from fun h => HO.out.rowIs (HT.out.row r hlt h) (by rintro ⟨j, hj, e, h0⟩; exact HT.out.dis j r hj hlt h0 h e.symm))
      have hbr : (0 : Int) ≤ (r : Int) ∧ (r : Int) < (n : Int) := by omega
      clear hq1
      go_wp2_with fail
      refine hm.mono ?_
      clear hm t0
      rintro e w1 ⟨rfl, hM1, hO1⟩
      have HM1 : Hid (∀ j, j < r + 1 → 0 < L j → Mk w1 (RB j) (cap j) (koff k L j) (L j * 8) (f j)) := show ∀ j, _ from fun j hj h0 => by
        by_cases e : j = r
        · subst e; rw [HQ.out]; exact hM1 h0
        · exact hO1.rowIs (HM.out j (by omega) h0) (by rintro ⟨e', h0'⟩; exact HT.out.dis j r (by omega) hlt h0 h0' e')
      have HO1 : Hid (Only (fun x => ∃ j, j < r + 1 ∧ x = RB j ∧ 0 < L j) w w1) := (HO.out.mono (fun x _ ⟨j, h1, h2⟩ => ⟨j, by omega, h2⟩)).trans (hO1.mono (fun x _ h => ⟨r, by omega, h⟩))
      clear hM1 hO1 HM HO
      go_wp2
      go_roundw
      case rel => exact ⟨r + 1, q + L r * 8, by omega, (show koff k L r + L r * 8 = _ by rw [HQ.out]), rfl, by go_num, HM1, HO1⟩
      case measure => simp [intOf]; omega
    · obtain rfl : r = n := by omega
      go_wp2
      go_ret
      refine ⟨?_, HM.out, HO.out⟩
      have := HQ.out
      subst this
      rfl

/-- Marked tables, as they are read. -/
structure HTabs (w : World) (ta : Option Addr) (n TB k : Nat) (A : Nat → Option Addr) (L C RB : Nat → Nat) : Prop where
  top : 0 < n → ta = some ⟨TB, 0, none⟩
  tab : ∀ r, r < n → w.cell? ⟨TB, r, none⟩ = some (.slice (A r) (L r) (C r))
  adr : ∀ r, r < n → 0 < L r → A r = some ⟨RB r, 0, none⟩
  row : ∀ r, r < n → 0 < L r → MkAt w (RB r) (koff k L r) (L r)
theorem HTabs.below {w w' : World} {ta : Option Addr} {n TB k : Nat} {A : Nat → Option Addr} {L C RB : Nat → Nat} (h : HTabs w ta n TB k A L C RB) (hb : Below w.heap.size w w') : HTabs w' ta n TB k A L C RB :=
  ⟨h.top, fun r hr => (hb.cell (p := ⟨TB, r, none⟩) (World.block_lt_of_cell? _ _ (h.tab r hr))).trans (h.tab r hr), h.adr, fun r hr h0 => (h.row r hr h0).below hb⟩

set_option maxHeartbeats 1000000 in
set_option maxRecDepth 100000 in
/-- 'heldTableS'. -/
theorem heldTableS_any (ta : Option Addr) (n cp TB k : Nat) (A : Nat → Option Addr) (L C RB : Nat → Nat) (w : World) (hn : n ≤ 1048576) (HL : Hid (∀ r, r < n → L r ≤ 1048576)) (hk0 : 0 < k) (hk1 : k ≤ 1048576) (HT : Hid (HTabs w ta n TB k A L C RB)) :
    Calls Try.prog 58 #[.slice ta n cp, .int .i64 k] w fun e w' => e = .returned (.int .i64 ((koff k L n : Nat) : Int)) ∧ Below w.heap.size w w' := by
  have HK : Hid (∀ r, r ≤ n → koff k L r ≤ k + r * (1048576 * 8)) := fun r hr => koff_le HL.out r hr
  go_enter Try.func58, Try.ntmps58
  go_wp2
  go_loopw [1, 5] (fun kk ii wr => ∃ (r q : Nat), r ≤ n ∧ Hid (koff k L r = q) ∧ kk = .int .i64 (q : Nat) ∧ ii = .int .i64 r ∧ Hid (Below w.heap.size w wr)) (fun _ ii _ => n - (intOf ii).toNat)
  case atStart => exact ⟨0, k, Nat.zero_le _, (show koff k L 0 = k from rfl), rfl, rfl, Below.refl _ _⟩
  case round =>
    obtain ⟨r, q, hr, HQ, rfl, rfl, HW⟩ := hrel
    by_cases hlt : r < n
    · obtain rfl := HT.out.top (by omega)
      have t0 := (HT.out.below HW.out).tab r hlt
      have hq1 : q ≤ k + r * (1048576 * 8) := by have := HK.out r hr; rw [HQ.out] at this; exact this
      have hq0 : 0 < q := by rw [← HQ.out]; exact koff_pos hk0 r
      have hLr := HL.out r hlt
      obtain ⟨a, ha⟩ : ∃ a, A r = a := ⟨_, rfl⟩
      rw [ha] at t0
      have hm := heldPairS_any a (L r) (C r) (RB r) q wr hLr hq0 (by omega) (fun h => ha ▸ HT.out.adr r hlt h) (show MkAt _ _ _ _ from fun i hi => by
        have := (HT.out.below HW.out).row r hlt (by omega)
        rw [HQ.out] at this
        exact this i hi)
      have hbr : (0 : Int) ≤ (r : Int) ∧ (r : Int) < (n : Int) := by omega
      have hq2 : q ≤ 8796094070784 := by omega
      clear hq1
      go_wp2_with fail
      refine hm.mono ?_
      clear hm t0
      rintro e w1 ⟨rfl, hb1⟩
      have HW1 : Hid (Below w.heap.size w w1) := grw HW.out hb1
      clear hb1 HW
      obtain ⟨q', hq'⟩ : ∃ q', q + L r * 8 = q' := ⟨_, rfl⟩
      have HQ' : Hid (koff k L (r + 1) = q') := show koff k L r + L r * 8 = q' by rw [HQ.out]; exact hq'
      rw [hq']
      have hnn : ¬ ((q' : Int) < 0) := by omega
      clear hq'
      go_wp2
      go_roundw
      case rel => exact ⟨r + 1, q', by omega, HQ', rfl, by go_num, HW1⟩
      case measure => simp [intOf]; omega
    · obtain rfl : r = n := by omega
      go_wp2
      go_ret
      refine ⟨?_, HW.out⟩
      have := HQ.out
      subst this
      rfl

end Go.Proofs.Ytgflalfiopnmnab

namespace Go.Proofs.Ytgflalfiopnmnab
open Go.RowKit Vl

theorem MTabs.below {w w' : World} {ta : Option Addr} {n TB : Nat} {A : Nat → Option Addr} {L C RB cap : Nat → Nat} {f : Nat → Nat → Value} (h : MTabs w ta n TB A L C RB cap f) (hb : Below w.heap.size w w') : MTabs w' ta n TB A L C RB cap f :=
  ⟨h.top, fun r hr => (hb.cell (p := ⟨TB, r, none⟩) (World.block_lt_of_cell? _ _ (h.tab r hr))).trans (h.tab r hr), h.adr, fun r hr h0 => (h.row r hr h0).of_block (hb.block _ (h.row r hr h0).lt), h.fit, h.ne, h.dis⟩

set_option maxHeartbeats 1000000 in
set_option maxRecDepth 100000 in
/-- 'markGraph'. -/
theorem markGraph_any (u : V) (ta : Option Addr) (n cp TB k : Nat) (A : Nat → Option Addr) (L C RB cap : Nat → Nat) (f : Nat → Nat → Value) (w : World) (hn : n ≤ 1048576) (HL : Hid (∀ r, r < n → L r ≤ 1048576)) (hk0 : 0 < k) (hk1 : k ≤ 17592186044416) (HT : Hid (MTabs w ta n TB A L C RB cap f)) :
    Calls Try.prog 22 #[.agg #[.int .i64 u.k, .int .i64 u.n, .string u.s, .int .i64 u.a, .slice ta n cp], .int .i64 k] w fun e w' => e = .returned (.int .i64 ((koff k L n : Nat) : Int)) ∧ (∀ r, r < n → 0 < L r → Mk w' (RB r) (cap r) (koff k L r) (L r * 8) (f r)) ∧ Only (fun x => ∃ j, j < n ∧ x = RB j ∧ 0 < L j) w w' := by
  obtain ⟨w0, hw0⟩ : ∃ w0, w0 = w.alloc (.cells #[.int .i64 u.k, .int .i64 u.n, .string u.s, .int .i64 u.a, .slice ta n cp] 32) := ⟨_, rfl⟩
  have hb0 : Below w.heap.size w w0 := by rw [hw0]; exact (Below.refl _ _).alloc (Nat.le_refl _) _
  have HB0 : Hid _ := hb0
  have hm := markTableS_any ta n cp TB k A L C RB cap f w0 hn HL hk0 hk1 (HT.out.below hb0)
  obtain ⟨q, hq⟩ : ∃ q, koff k L n = q := ⟨_, rfl⟩
  rw [hq] at hm ⊢
  clear hq hb0
  go_enter Try.func22, Try.ntmps22
  go_wp2_with fail
  rw [← hw0]
  refine hm.mono ?_
  clear hm hw0
  rintro e w1 ⟨rfl, hM, hO⟩
  have HM : Hid _ := hM
  have HO : Hid (Only (fun x => ∃ j, j < n ∧ x = RB j ∧ 0 < L j) w w1) := (Only.below HB0.out).trans hO
  clear hM hO
  go_wp2
  go_ret
  exact ⟨rfl, HM.out, HO.out⟩

set_option maxHeartbeats 1000000 in
set_option maxRecDepth 100000 in
/-- 'heldGraph'. -/
theorem heldGraph_any (u : V) (ta : Option Addr) (n cp TB k : Nat) (A : Nat → Option Addr) (L C RB : Nat → Nat) (w : World) (hn : n ≤ 1048576) (HL : Hid (∀ r, r < n → L r ≤ 1048576)) (hk0 : 0 < k) (hk1 : k ≤ 1048576) (HT : Hid (HTabs w ta n TB k A L C RB)) :
    Calls Try.prog 23 #[.agg #[.int .i64 u.k, .int .i64 u.n, .string u.s, .int .i64 u.a, .slice ta n cp], .int .i64 k] w fun e w' => e = .returned (.int .i64 ((koff k L n : Nat) : Int)) ∧ Below w.heap.size w w' := by
  obtain ⟨w0, hw0⟩ : ∃ w0, w0 = w.alloc (.cells #[.int .i64 u.k, .int .i64 u.n, .string u.s, .int .i64 u.a, .slice ta n cp] 32) := ⟨_, rfl⟩
  have hb0 : Below w.heap.size w w0 := by rw [hw0]; exact (Below.refl _ _).alloc (Nat.le_refl _) _
  have HB0 : Hid _ := hb0
  have hm := heldTableS_any ta n cp TB k A L C RB w0 hn HL hk0 hk1 (HT.out.below hb0)
  obtain ⟨q, hq⟩ : ∃ q, koff k L n = q := ⟨_, rfl⟩
  rw [hq] at hm ⊢
  clear hq hb0
  have hnn : ¬ ((q : Int) < 0) := by omega
  go_enter Try.func23, Try.ntmps23
  go_wp2_with fail
  rw [← hw0]
  refine hm.mono ?_
  clear hm hw0
  rintro e w1 ⟨rfl, hb1⟩
  have HW : Hid (Below w.heap.size w w1) := grw HB0.out hb1
  clear hb1
  go_wp2
  go_ret
  exact ⟨rfl, HW.out⟩

end Go.Proofs.Ytgflalfiopnmnab

namespace Go.Proofs.Ytgflalfiopnmnab
open Go.RowKit Vl

open Classical in
/-- The canonical graph, or the empty one. -/
noncomputable def cnN (n : Nat) (u : V) (L : Nat → Nat) (K X : Nat → Nat → V) : Nat := if OkG n u L K X then (order n u L X).length else 0
open Classical in
noncomputable def cnU (n : Nat) (u : V) (L : Nat → Nat) (K X : Nat → Nat → V) : V := if OkG n u L K X then renum (order n u L X) u else zeroV

theorem CanonIs.all {w w' : World} {e : Ending} {n : Nat} {u : V} {L : Nat → Nat} {K X : Nat → Nat → V} (h : CanonIs w w' e n u L K X) : ∃ (tv : Value) (PV : Nat → Value) (base : Nat), w.heap.size ≤ base ∧ e = .returned (.agg #[.int .i64 (cnU n u L K X).k, .int .i64 (cnU n u L K X).n, .string (cnU n u L K X).s, .int .i64 (cnU n u L K X).a, tv]) ∧ OTab w' base tv (cnN n u L K X) PV (cL (order n u L X) L) (cK (order n u L X) K) (cX (order n u L X) X) := by
  unfold cnU cnN
  rcases h with ⟨hG, tv, PV, base, h1, h2, h3⟩ | ⟨hN, h2⟩
  · rw [if_pos hG, if_pos hG]
    exact ⟨tv, PV, base, h1, h2, h3⟩
  · rw [if_neg hN, if_neg hN]
    exact ⟨.slice none 0 0, fun _ => .nilIface, w.heap.size, Nat.le_refl _, h2, OTab.nil _ _ _ _ _ _⟩

theorem renum_s (S : List Nat) (v : V) : (renum S v).s = v.s := by
  unfold renum
  split <;> rfl
theorem small_can {n : Nat} {u : V} {L : Nat → Nat} {K X : Nat → Nat → V} (h : Small 1048576 n L K X) : cnN n u L K X ≤ 1048576 ∧ Small 1048576 (cnN n u L K X) (cL (order n u L X) L) (cK (order n u L X) K) (cX (order n u L X) X) := by
  unfold cnN
  by_cases hG : OkG n u L K X
  · rw [if_pos hG]
    have hf := (order_all hG).1
    refine ⟨by have := hf.len; have := hG.len; omega, fun r hr => ?_⟩
    have hm : (order n u L X).getD r 0 < n := by
      rw [List.getD_eq_getElem?_getD, List.getElem?_eq_getElem hr]
      exact hf.lt _ (List.getElem_mem hr)
    obtain ⟨h1, h2⟩ := h _ hm
    exact ⟨h1, fun c hc => ⟨(h2 c hc).1, by unfold cX; rw [renum_s]; exact (h2 c hc).2⟩⟩
  · rw [if_neg hG]
    exact ⟨by omega, fun r hr => by omega⟩

/-- Whatever stands in a row. -/
theorem rowIs_any {w : World} {b t : Nat} {cur : Array Value} (h : w.heap[b]? = some (.cells cur t (0, 0))) : w.rowIs b t cur.size (fun i => (cur[i]?).getD .nilIface) :=
  ⟨cur, h, rfl, fun i hi => by simp [hi]⟩

/-- Tables that a call made may be marked. -/
theorem OTab.marks {w : World} {base : Nat} {tv : Value} {i : Nat} {PV : Nat → Value} {L : Nat → Nat} {K X : Nat → Nat → V} (h : OTab w base tv i PV L K X) :
    ∃ (cap : Nat → Nat) (f : Nat → Nat → Value), MTabs w (slA tv) i (slB tv) (fun j => slA (PV j)) L (fun j => slC (PV j)) (fun j => slB (PV j)) cap f ∧ ∀ j, j < i → 0 < L j → base ≤ slB (PV j) := by
  have each : ∀ j, ∃ (c : Nat) (f : Nat → Value), j < i → 0 < L j → slA (PV j) = some ⟨slB (PV j), 0, none⟩ ∧ w.rowIs (slB (PV j)) 63 c f ∧ L j * 8 ≤ c ∧ base ≤ slB (PV j) ∧ (PV j).ownBlock = some (slB (PV j)) := by
    intro j
    by_cases hj : j < i ∧ 0 < L j
    · rcases (h.rows j hj.1).2 with ⟨_, h0⟩ | ⟨g, cap, cur, hv, hge, hh, hl, _, hs, _⟩
      · omega
      · refine ⟨cur.size, (fun i => (cur[i]?).getD .nilIface), fun _ _ => ?_⟩
        have e1 : slB (PV j) = g := by rw [hv]; rfl
        rw [e1]
        refine ⟨by rw [hv]; rfl, rowIs_any hh, ?_, hge, by rw [hv]; rfl⟩
        rw [hs]
        exact Nat.mul_le_mul_right 8 hl
    · exact ⟨0, fun _ => .nilIface, fun a b => absurd ⟨a, b⟩ hj⟩
  refine ⟨fun j => (each j).choose, fun j => (each j).choose_spec.choose, ⟨fun h0 => ?_, fun r hr => ?_, fun r hr h0 => ((each r).choose_spec.choose_spec hr h0).1, fun r hr h0 => ((each r).choose_spec.choose_spec hr h0).2.1, fun r hr h0 => ((each r).choose_spec.choose_spec hr h0).2.2.1, fun r hr h0 e => ?_, fun r s hrs hs h0 h1 e => ?_⟩, fun j hj h0 => ((each j).choose_spec.choose_spec hj h0).2.2.2.1⟩
  · have := h.tabs.2.top h0
    exact this
  · have := h.tabs.2.tab r hr
    rw [Nat.zero_add] at this
    exact this
  · obtain ⟨c, hc, _⟩ := ((each r).choose_spec.choose_spec hr h0).2.1
    rcases h.own.2 with ⟨_, hn⟩ | ⟨g, cap, cur, hv, _, hh, _⟩
    · omega
    · have e1 : slB tv = g := by rw [hv]; rfl
      rw [e, e1, hh] at hc
      cases hc
  · have h2 := ((each r).choose_spec.choose_spec (by omega) h0).2.2.2.2
    have h3 := ((each s).choose_spec.choose_spec hs h1).2.2.2.2
    rw [← e] at h3
    exact h.dis r s hrs hs _ h2 h3

/-- A copy may be marked. -/
theorem Copied.marks {w0 w : World} {n : Nat} {G L : Nat → Nat} {K X : Nat → Nat → V} {B : Nat} (h : Copied w0 w n G L K X) (hB : w0.heap.size = B) (hr : w.rowIs B 61 n (fun i => .slice (some ⟨G i, 0, none⟩) (L i) (L i))) :
    ∃ f : Nat → Nat → Value, MTabs w (some ⟨B, 0, none⟩) n B (fun r => some ⟨G r, 0, none⟩) L L G (fun r => L r * 8) f := by
  have each : ∀ r, ∃ f, r < n → w.rowIs (G r) 63 (L r * 8) f := fun r => by
    by_cases hr : r < n
    · obtain ⟨f, hf⟩ := h.blk r hr
      exact ⟨f, fun _ => hf⟩
    · exact ⟨fun _ => .nilIface, fun x => absurd x hr⟩
  exact ⟨fun r => (each r).choose, fun _ => rfl, fun r hr' => hr.cell hr', fun r _ _ => rfl, fun r hr' _ => (each r).choose_spec hr', fun r _ _ => Nat.le_refl _, fun r hr' _ e => by have := (h.new r hr').1; omega, fun r s hrs hs _ _ e => by have := h.inc r s hrs hs; omega⟩

/-- What was marked is held. -/
theorem MTabs.held {w w' : World} {ta : Option Addr} {n TB k : Nat} {A : Nat → Option Addr} {L C RB cap : Nat → Nat} {f : Nat → Nat → Value} (h : MTabs w ta n TB A L C RB cap f) (hm : ∀ r, r < n → 0 < L r → Mk w' (RB r) (cap r) (koff k L r) (L r * 8) (f r)) (ho : Only (fun x => ∃ j, j < n ∧ x = RB j ∧ 0 < L j) w w') : HTabs w' ta n TB k A L C RB := by
  refine ⟨h.top, fun r hr => ho.cell (h.tab r hr) (fun ⟨j, hj, e, h0⟩ => h.ne j hj h0 e.symm), h.adr, fun r hr h0 i hi => ?_⟩
  have := (show World.rowIs _ _ _ _ _ from hm r hr h0).cell (Nat.lt_of_lt_of_le hi (h.fit r hr h0))
  rw [if_pos hi] at this
  exact this

end Go.Proofs.Ytgflalfiopnmnab

namespace Go.Proofs.Ytgflalfiopnmnab
open Go.RowKit Vl
open Go.ChangeShapes Go.WideShapes Go.ChangeAt Go.Joins

/-- A call's answer is a graph in memory of its own. -/
def GrRes (w w' : World) (e : Ending) (N : Nat) (U : V) (L : Nat → Nat) (K X : Nat → Nat → V) : Prop :=
  ∃ (ta : Option Addr) (tc : Nat) (PV : Nat → Value) (base : Nat), w.heap.size ≤ base ∧ e = .returned (.agg #[.int .i64 U.k, .int .i64 U.n, .string U.s, .int .i64 U.a, .slice ta N tc]) ∧ OTab w' base (.slice ta N tc) N PV L K X

theorem CanonIs.res {w w' : World} {e : Ending} {n : Nat} {u : V} {L : Nat → Nat} {K X : Nat → Nat → V} (h : CanonIs w w' e n u L K X) : GrRes w w' e (cnN n u L K X) (cnU n u L K X) (cL (order n u L X) L) (cK (order n u L X) K) (cX (order n u L X) X) := by
  obtain ⟨tv, PV, base, h1, h2, h3⟩ := h.all
  obtain ⟨ta, tc, rfl, _⟩ := owns_form h3.own
  exact ⟨ta, tc, PV, base, h1, h2, h3⟩

set_option maxHeartbeats 4000000 in
set_option maxRecDepth 100000 in
theorem canonLaw (u : V) (ta : Option Addr) (n cp TB TO : Nat) (A : Nat → Option Addr) (L C RB RO : Nat → Nat) (K X : Nat → Nat → V) (w : World) (hu : u.s.size ≤ 9223372036854775807) (hn : n ≤ 9223372036854775807)
    (HS : Hid (Small 9223372036854775807 n L K X)) (HT : Hid (TabsAt w ta n TB TO A L C RB RO K X)) :
    Calls Try.prog 5 #[.agg #[.int .i64 u.k, .int .i64 u.n, .string u.s, .int .i64 u.a, .slice ta n cp]] w fun e w' => e = .returned (.bool true) ∧ Below w.heap.size w w' := by
  obtain ⟨w0, hw0⟩ : ∃ w0, w0 = w.alloc (.cells #[.int .i64 u.k, .int .i64 u.n, .string u.s, .int .i64 u.a, .slice ta n cp] 26) := ⟨_, rfl⟩
  have HB0 : Hid (Below w.heap.size w w0) := by rw [hw0]; exact (Below.refl _ _).alloc (Nat.le_refl _) _
  have G0 : Hid (w0.heap[w.heap.size]? = some (.cells #[.int .i64 u.k, .int .i64 u.n, .string u.s, .int .i64 u.a, .slice ta n cp] 26 (0, 0))) := by rw [hw0]; exact heap_alloc_new _ _
  have hsz := szGraph_any u ta n cp TB TO A L C RB RO K X 1048576 w0 (by omega) (by omega) hu hn HS (HT.out.below HB0.out)
  go_enter Try.func5, Try.ntmps5
  go_wp2_with fail
  rw [← hw0]
  refine hsz.mono ?_
  clear hsz hw0
  rintro e w1 ⟨⟨q, rfl, hq1, hq2⟩, hb1⟩
  have G1 : Hid (w1.heap[w.heap.size]? = some (.cells #[.int .i64 u.k, .int .i64 u.n, .string u.s, .int .i64 u.a, .slice ta n cp] 26 (0, 0))) := blk_below G0.out hb1
  have HB1 : Hid (Below w.heap.size w w1) := grw HB0.out hb1
  clear hb1 G0 HB0
  by_cases hq : q < 0
  · clear hq2
    go_wp2
    go_ret
    exact ⟨rfl, HB1.out⟩
  obtain ⟨_, hn1, hsm⟩ := hq2 (by omega)
  have HSm : Hid (Small 1048576 n L K X) := hsm
  clear hq2 hsm HS
  obtain ⟨N, U, L', K', X', HN, HSN, HSP, HIM⟩ : ∃ (N : Nat) (U : V) (L' : Nat → Nat) (K' X' : Nat → Nat → V), N ≤ 1048576 ∧ Hid (Small 1048576 N L' K' X') ∧
      Hid (∀ (ta : Option Addr) (cp TB TO : Nat) (A : Nat → Option Addr) (C RB RO : Nat → Nat) (w : World), TabsAt w ta n TB TO A L C RB RO K X → Calls Try.prog 20 #[.agg #[.int .i64 u.k, .int .i64 u.n, .string u.s, .int .i64 u.a, .slice ta n cp]] w fun e w' => GrRes w w' e N U L' K' X' ∧ Below w.heap.size w w') ∧
      Hid (∀ (ta : Option Addr) (cp TB TO : Nat) (A : Nat → Option Addr) (C RB RO : Nat → Nat) (w : World), TabsAt w ta n TB TO A L C RB RO K X → Calls Try.prog 21 #[.agg #[.int .i64 u.k, .int .i64 u.n, .string u.s, .int .i64 u.a, .slice ta n cp]] w fun e w' => GrRes w w' e N U L' K' X' ∧ Below w.heap.size w w') :=
    ⟨_, _, _, _, _, (small_can HSm.out).1, (small_can HSm.out).2, show ∀ _, _ from fun ta cp TB TO A C RB RO w hT => (specCanon_any u ta n cp TB TO A L C RB RO K X w hn1 HSm hT).mono (fun e w' h => ⟨h.1.res, h.2⟩),
      show ∀ _, _ from fun ta cp TB TO A C RB RO w hT => (implCanon_any u ta n cp TB TO A L C RB RO K X w hn1 HSm hT).mono (fun e w' h => ⟨h.1.res, h.2⟩)⟩
  have HLn : Hid (∀ r, r < n → L r ≤ 1048576) := show ∀ r, _ from fun r hr => (HSm.out r hr).1
  have HLN : Hid (∀ r, r < N → L' r ≤ 1048576) := show ∀ r, _ from fun r hr => (HSN.out r hr).1
  obtain ⟨g0, g1, g2, g3, g4, _⟩ := cells5 G1.out
  have hto := toGraph_any u ta n cp TB TO A L C RB RO K X w1 hn1 HSm (HT.out.below HB1.out)
  go_wp2_with fail
  refine hto.mono ?_
  clear hto
  rintro e w2 ⟨⟨B2, rfl, _, w02, H2, _, hC2, hR2⟩, hb2⟩
  have HT2 : Hid (TabsAt w2 (some ⟨B2, 0, none⟩) n B2 0 (fun r => some ⟨H2 r, 0, none⟩) L L H2 (fun _ => 0) K X) := hC2.tabs hR2
  have G2 : Hid (w2.heap[w.heap.size]? = some (.cells #[.int .i64 u.k, .int .i64 u.n, .string u.s, .int .i64 u.a, .slice ta n cp] 26 (0, 0))) := blk_below G1.out hb2
  have HB2 : Hid (Below w.heap.size w w2) := grw HB1.out hb2
  clear hb2 G1 HB1 hC2 hR2 g0 g1 g2 g3 g4
  have hsp := HSP.out (some ⟨B2, 0, none⟩) n B2 0 _ _ _ _ w2 HT2.out
  go_wp2_with fail
  refine hsp.mono ?_
  clear hsp HSP
  rintro e w3 ⟨⟨ta3, tc3, PV3, bs3, _, rfl, hO3⟩, hb3⟩
  obtain ⟨w4, hw4⟩ : ∃ w4, w4 = w3.alloc (.cells #[.int .i64 U.k, .int .i64 U.n, .string U.s, .int .i64 U.a, .slice ta3 N tc3] 32) := ⟨_, rfl⟩
  have HB34 : Hid (Below w3.heap.size w3 w4) := by rw [hw4]; exact (Below.refl _ _).alloc (Nat.le_refl _) _
  have W4 : Hid (w4.heap[w3.heap.size]? = some (.cells #[.int .i64 U.k, .int .i64 U.n, .string U.s, .int .i64 U.a, .slice ta3 N tc3] 32 (0, 0))) := by rw [hw4]; exact heap_alloc_new _ _
  have O4 : Hid (OTab w4 bs3 (.slice ta3 N tc3) N PV3 L' K' X') := hO3.below HB34.out
  have G4 : Hid (w4.heap[w.heap.size]? = some (.cells #[.int .i64 u.k, .int .i64 u.n, .string u.s, .int .i64 u.a, .slice ta n cp] 26 (0, 0))) := blk_below (blk_below G2.out hb3) HB34.out
  have HBw4 : Hid (Below w.heap.size w w4) := grw (grw HB2.out hb3) HB34.out
  have hs4 : Hid (w4.heap.size = w3.heap.size + 1) := by rw [hw4]; exact (by simp : (w3.alloc _).heap.size = w3.heap.size + 1)
  obtain ⟨b4, hb4⟩ : ∃ b4, w3.heap.size = b4 := ⟨_, rfl⟩
  rw [hb4] at W4 hs4
  obtain ⟨g0, g1, g2, g3, g4, _⟩ := cells5 G4.out
  rw [hw4] at g0 g1 g2 g3 g4
  have hto := toGraph_any u ta n cp TB TO A L C RB RO K X w4 hn1 HSm (HT.out.below HBw4.out)
  clear hb3 HB34 hO3 HT2 G2 HB2
  go_wp2_with fail
  rw [← hw4]
  refine hto.mono ?_
  clear hto hw4 hb4 g0 g1 g2 g3 g4
  rintro e w5 ⟨⟨B5, rfl, hB5, w05, H5, hw05, hC5, hR5⟩, hb5⟩
  obtain ⟨w6, hw6⟩ : ∃ w6, w6 = w5.alloc (.cells #[.int .i64 u.k, .int .i64 u.n, .string u.s, .int .i64 u.a, .slice (some ⟨B5, 0, none⟩) n n] 32) := ⟨_, rfl⟩
  have HB56 : Hid (Below w5.heap.size w5 w6) := by rw [hw6]; exact (Below.refl _ _).alloc (Nat.le_refl _) _
  have X6 : Hid (w6.heap[w5.heap.size]? = some (.cells #[.int .i64 u.k, .int .i64 u.n, .string u.s, .int .i64 u.a, .slice (some ⟨B5, 0, none⟩) n n] 32 (0, 0))) := by rw [hw6]; exact heap_alloc_new _ _
  have C6 : Hid (Copied w05 w6 n H5 L K X) := hC5.below HB56.out
  have R6 : Hid (w6.rowIs B5 61 n (fun i => .slice (some ⟨H5 i, 0, none⟩) (L i) (L i))) := hR5.of_block (HB56.out.block _ hR5.lt)
  have HB46 : Hid (Below w4.heap.size w4 w6) := grw hb5 HB56.out
  have hs46 : w4.heap.size ≤ w6.heap.size := HB46.out.size
  have HNew : Hid (∀ j, j < n → w4.heap.size < H5 j ∧ H5 j < w6.heap.size) := show ∀ j, _ from fun j hj => by have := C6.out.new j hj; omega
  obtain ⟨b6, hb6⟩ : ∃ b6, w5.heap.size = b6 := ⟨_, rfl⟩
  rw [hb6] at X6
  have him := HIM.out (some ⟨B5, 0, none⟩) n B5 0 _ _ _ _ w6 (C6.out.tabs R6.out)
  clear hb5 hC5 hR5 HB56
  go_wp2_with fail
  rw [← hw6]
  refine him.mono ?_
  clear him hw6 hb6
  rintro e w7 ⟨⟨ta7, tc7, PV7, bs7, hbs7, rfl, hO7⟩, hb7⟩
  obtain ⟨w8, hw8⟩ : ∃ w8, w8 = w7.alloc (.cells #[.int .i64 U.k, .int .i64 U.n, .string U.s, .int .i64 U.a, .slice ta7 N tc7] 32) := ⟨_, rfl⟩
  have HB78 : Hid (Below w7.heap.size w7 w8) := by rw [hw8]; exact (Below.refl _ _).alloc (Nat.le_refl _) _
  have Y8 : Hid (w8.heap[w7.heap.size]? = some (.cells #[.int .i64 U.k, .int .i64 U.n, .string U.s, .int .i64 U.a, .slice ta7 N tc7] 32 (0, 0))) := by rw [hw8]; exact heap_alloc_new _ _
  have HB68 : Hid (Below w6.heap.size w6 w8) := grw hb7 HB78.out
  have O8 : Hid (OTab w8 bs7 (.slice ta7 N tc7) N PV7 L' K' X') := hO7.below HB78.out
  have X8 : Hid (w8.heap[b6]? = some (.cells #[.int .i64 u.k, .int .i64 u.n, .string u.s, .int .i64 u.a, .slice (some ⟨B5, 0, none⟩) n n] 32 (0, 0))) := blk_below X6.out HB68.out
  have C8 : Hid (Copied w05 w8 n H5 L K X) := C6.out.below HB68.out
  have R8 : Hid (w8.rowIs B5 61 n (fun i => .slice (some ⟨H5 i, 0, none⟩) (L i) (L i))) := R6.out.of_block (HB68.out.block _ R6.out.lt)
  have HB48 : Hid (Below w4.heap.size w4 w8) := grw HB46.out HB68.out
  have hs67 : w6.heap.size ≤ w7.heap.size := hb7.size
  have hbx6 : b6 < w6.heap.size := blk_lt X6.out
  obtain ⟨b8, hb8⟩ : ∃ b8, w7.heap.size = b8 := ⟨_, rfl⟩
  rw [hb8] at Y8 hs67
  obtain ⟨y0, y1, y2, y3, y4, _⟩ := cells5 Y8.out
  obtain ⟨v0, v1, v2, v3, v4, _⟩ := cells5 (blk_below W4.out HB48.out)
  rw [hw8] at y0 y1 y2 y3 y4 v0 v1 v2 v3 v4
  have heq := eqGraph_same U ta7 ta3 N tc7 tc3 _ _ _ _ _ _ L' _ _ _ _ _ _ K' X' w8 HN HSN O8.out.tabs.2 (O4.out.below HB48.out).tabs.2
  have hlt4 : b4 < w7.heap.size := by have := HB46.out.size; have := hb7.size; have := hs4.out; omega
  clear hb7 HB78 hO7 C6 R6 X6 HB46 HB68
  go_wp2_with fail
  rw [← hw8]
  refine heq.mono ?_
  clear heq hw8 y0 y1 y2 y3 y4 v0 v1 v2 v3 v4 hlt4 hb8
  rintro e w9 ⟨rfl, hb9⟩
  have O9 : Hid (OTab w9 bs7 (.slice ta7 N tc7) N PV7 L' K' X') := O8.out.below hb9
  have Y9 : Hid (w9.heap[b8]? = some (.cells #[.int .i64 U.k, .int .i64 U.n, .string U.s, .int .i64 U.a, .slice ta7 N tc7] 32 (0, 0))) := blk_below Y8.out hb9
  have X9 : Hid (w9.heap[b6]? = some (.cells #[.int .i64 u.k, .int .i64 u.n, .string u.s, .int .i64 u.a, .slice (some ⟨B5, 0, none⟩) n n] 32 (0, 0))) := blk_below X8.out hb9
  have C9 : Hid (Copied w05 w9 n H5 L K X) := C8.out.below hb9
  have R9 : Hid (w9.rowIs B5 61 n (fun i => .slice (some ⟨H5 i, 0, none⟩) (L i) (L i))) := R8.out.of_block (hb9.block _ R8.out.lt)
  have HB49 : Hid (Below w4.heap.size w4 w9) := grw HB48.out hb9
  have HBw9 : Hid (Below w.heap.size w w9) := grw HBw4.out HB49.out
  clear hb9 O8 Y8 X8 C8 R8 HB48
  have HT9 : Hid (TabsAt w9 (some ⟨B5, 0, none⟩) n B5 0 (fun r => some ⟨H5 r, 0, none⟩) L L H5 (fun _ => 0) K X) := C9.out.tabs R9.out
  obtain ⟨g0, g1, g2, g3, g4, _⟩ := cells5 (blk_below G4.out HB49.out)
  obtain ⟨x0, x1, x2, x3, x4, _⟩ := cells5 X9.out
  have hto := toGraph_any u ta n cp TB TO A L C RB RO K X w9.drew hn1 HSm (HT.out.below HBw9.out.drew)
  go_wp2
  go_region_held3 (fun w' => (w'.cell? ⟨b6, 0, none⟩ = some (.int .i64 u.k) ∧ w'.cell? ⟨b6, 1, none⟩ = some (.int .i64 u.n) ∧ w'.cell? ⟨b6, 2, none⟩ = some (.string u.s) ∧ w'.cell? ⟨b6, 3, none⟩ = some (.int .i64 u.a) ∧ w'.cell? ⟨b6, 4, none⟩ = some (.slice (some ⟨B5, 0, none⟩) n n)) ∧ (w'.cell? ⟨w.heap.size, 0, none⟩ = some (.int .i64 u.k) ∧ w'.cell? ⟨w.heap.size, 1, none⟩ = some (.int .i64 u.n) ∧ w'.cell? ⟨w.heap.size, 2, none⟩ = some (.string u.s) ∧ w'.cell? ⟨w.heap.size, 3, none⟩ = some (.int .i64 u.a) ∧ w'.cell? ⟨w.heap.size, 4, none⟩ = some (.slice ta n cp)) ∧ Hid (Below w.heap.size w w'))
    (first | exact keep55 ‹_ ∧ _› hbD | exact keep55 ‹_ ∧ _› hbC | exact ⟨⟨x0, x1, x2, x3, x4⟩, ⟨g0, g1, g2, g3, g4⟩, HBw9.out.drew⟩)
    (first
      | (go_at_call 13; refine hto.mono ?_; rintro e wC ⟨⟨BC, rfl, _, w0C, HC, _, hCC, hRC⟩, hbC⟩)
      | (go_at_call 15; refine (eqGraph_same u (some ⟨B5, 0, none⟩) (some ⟨BC, 0, none⟩) n n n B5 0 BC 0 _ _ L _ _ _ _ _ _ K X _ hn1 HSm ((HT9.out.below ((Below.refl _ _).drew)).below hbC) (hCC.tabs hRC)).mono ?_; rintro e wD ⟨rfl, hbD⟩))
  rename_i hS
  clear hS hCC hRC g0 g1 g2 g3 g4 x0 x1 x2 x3 x4 hto HT9
  have hb9D : Below w9.heap.size w9 wD := (((Below.refl _ _).drew (w := w9)).trans (show Below w9.heap.size w9.drew wC from hbC)).trans (hbD.mono hbC.size)
  have OD : Hid (OTab wD bs7 (.slice ta7 N tc7) N PV7 L' K' X') := O9.out.below hb9D
  have YD : Hid (wD.heap[b8]? = some (.cells #[.int .i64 U.k, .int .i64 U.n, .string U.s, .int .i64 U.a, .slice ta7 N tc7] 32 (0, 0))) := blk_below Y9.out hb9D
  have XD : Hid (wD.heap[b6]? = some (.cells #[.int .i64 u.k, .int .i64 u.n, .string u.s, .int .i64 u.a, .slice (some ⟨B5, 0, none⟩) n n] 32 (0, 0))) := blk_below X9.out hb9D
  have CD : Hid (Copied w05 wD n H5 L K X) := C9.out.below hb9D
  have RD : Hid (wD.rowIs B5 61 n (fun i => .slice (some ⟨H5 i, 0, none⟩) (L i) (L i))) := R9.out.of_block (hb9D.block _ R9.out.lt)
  have HB4D : Hid (Below w4.heap.size w4 wD) := grw HB49.out hb9D
  clear hb9D hbC hbD O9 Y9 X9 C9 R9 HB49 HBw9
  obtain ⟨f5, hM5⟩ := CD.out.marks hw05 RD.out
  have hmk := markGraph_any u (some ⟨B5, 0, none⟩) n n B5 1 _ L _ _ _ _ wD hn1 HLn (by omega) (by omega) hM5
  obtain ⟨kx, hkx⟩ : ∃ kx, koff 1 L n = kx := ⟨_, rfl⟩
  rw [hkx] at hmk
  obtain ⟨x0, x1, x2, x3, x4, _⟩ := cells5 XD.out
  clear hkx hM5
  go_wp2_with fail
  refine hmk.mono ?_
  clear hmk x0 x1 x2 x3 x4
  rintro e wE ⟨rfl, _, hoE⟩
  have OE : Hid (OTab wE bs7 (.slice ta7 N tc7) N PV7 L' K' X') := OD.out.only hoE (fun k hk ⟨j, hj, e, _⟩ => by have := (HNew.out j hj).2; omega)
  have YE : Hid (wE.heap[b8]? = some (.cells #[.int .i64 U.k, .int .i64 U.n, .string U.s, .int .i64 U.a, .slice ta7 N tc7] 32 (0, 0))) := (hoE.block _ (blk_lt YD.out) (fun ⟨j, hj, e, _⟩ => by have := (HNew.out j hj).2; omega)).trans YD.out
  have HB4E : Hid (Below w4.heap.size w4 wE) := HB4D.out.trans (hoE.toBelow (fun k ⟨j, hj, e, _⟩ => by have := (HNew.out j hj).1; omega) HB4D.out.size)
  clear hoE OD YD XD CD RD HB4D
  have hk0 : ¬ ((kx : Int) < 0) := by omega
  obtain ⟨y0, y1, y2, y3, y4, _⟩ := cells5 YE.out
  obtain ⟨v0, v1, v2, v3, v4, _⟩ := cells5 (blk_below W4.out HB4E.out)
  have heq := eqGraph_same U ta7 ta3 N tc7 tc3 _ _ _ _ _ _ L' _ _ _ _ _ _ K' X' wE HN HSN OE.out.tabs.2 (O4.out.below HB4E.out).tabs.2
  go_wp2_with fail
  refine heq.mono ?_
  clear heq y0 y1 y2 y3 y4 v0 v1 v2 v3 v4
  rintro e wF ⟨rfl, hbF⟩
  have OF : Hid (OTab wF bs7 (.slice ta7 N tc7) N PV7 L' K' X') := OE.out.below hbF
  have YF : Hid (wF.heap[b8]? = some (.cells #[.int .i64 U.k, .int .i64 U.n, .string U.s, .int .i64 U.a, .slice ta7 N tc7] 32 (0, 0))) := blk_below YE.out hbF
  have HB4F : Hid (Below w4.heap.size w4 wF) := grw HB4E.out hbF
  clear hbF OE YE HB4E
  obtain ⟨cp7, f7, hM7, hlow7⟩ := OF.out.marks
  have HM7 : Hid _ := hM7
  have HLO7 : Hid _ := hlow7
  have hmk := markGraph_any U ta7 N tc7 _ 1 _ L' _ _ _ _ wF HN HLN (by omega) (by omega) hM7
  obtain ⟨kq, hkq⟩ : ∃ kq, koff 1 L' N = kq := ⟨_, rfl⟩
  rw [hkq] at hmk
  obtain ⟨y0, y1, y2, y3, y4, _⟩ := cells5 YF.out
  clear hM7 hlow7
  have HKQ : Hid (koff 1 L' N = kq) := hkq
  clear hkq
  go_wp2_with fail
  refine hmk.mono ?_
  clear hmk y0 y1 y2 y3 y4
  rintro e wG ⟨rfl, hmG, hoG⟩
  have HHG : Hid _ := HM7.out.held hmG hoG
  have YG : Hid (wG.heap[b8]? = some (.cells #[.int .i64 U.k, .int .i64 U.n, .string U.s, .int .i64 U.a, .slice ta7 N tc7] 32 (0, 0))) := (hoG.block _ (blk_lt YF.out) (fun ⟨j, hj, e, h0⟩ => by
      obtain ⟨c, hc, _⟩ := HM7.out.row j hj h0
      rw [← e, YF.out] at hc
      cases hc)).trans YF.out
  have HB4G : Hid (Below w4.heap.size w4 wG) := HB4F.out.trans (hoG.toBelow (fun k ⟨j, hj, e, h0⟩ => by have := HLO7.out j hj h0; rw [e]; omega) HB4F.out.size)
  clear hmG hoG HM7 HLO7 YF OF HB4F
  have hq0 : ¬ ((kq : Int) < 0) := by omega
  have hqm : ((kq : Int) != (kq : Int)) = false := by simp
  have hhd := heldGraph_any U ta7 N tc7 _ 1 _ L' _ _ wG HN HLN (by omega) (by omega) HHG.out
  rw [HKQ.out] at hhd
  obtain ⟨y0, y1, y2, y3, y4, _⟩ := cells5 YG.out
  go_wp2_with fail
  refine hhd.mono ?_
  clear hhd y0 y1 y2 y3 y4
  rintro e wH ⟨rfl, hbH⟩
  have HHH : Hid _ := HHG.out.below hbH
  have YH : Hid (wH.heap[b8]? = some (.cells #[.int .i64 U.k, .int .i64 U.n, .string U.s, .int .i64 U.a, .slice ta7 N tc7] 32 (0, 0))) := blk_below YG.out hbH
  have HB4H : Hid (Below w4.heap.size w4 wH) := grw HB4G.out hbH
  clear hbH HHG YG HB4G
  have HBwH : Hid (Below w.heap.size w wH) := grw HBw4.out HB4H.out
  obtain ⟨g0, g1, g2, g3, g4, _⟩ := cells5 (blk_below G4.out HB4H.out)
  have hto := toGraph_any u ta n cp TB TO A L C RB RO K X wH hn1 HSm (HT.out.below HBwH.out)
  go_wp2_with fail
  refine hto.mono ?_
  clear hto g0 g1 g2 g3 g4
  rintro e wI ⟨⟨BI, rfl, _, w0I, HI, _, hCI, hRI⟩, hbI⟩
  have him := HIM.out (some ⟨BI, 0, none⟩) n BI 0 _ _ _ _ wI (hCI.tabs hRI)
  clear hCI hRI HIM
  go_wp2_with fail
  refine him.mono ?_
  clear him
  rintro e wJ ⟨⟨taJ, tcJ, PVJ, bsJ, _, rfl, hOJ⟩, hbJ⟩
  obtain ⟨wK, hwK⟩ : ∃ wK, wK = wJ.alloc (.cells #[.int .i64 U.k, .int .i64 U.n, .string U.s, .int .i64 U.a, .slice taJ N tcJ] 32) := ⟨_, rfl⟩
  have hbJK : Below wJ.heap.size wJ wK := by rw [hwK]; exact (Below.refl _ _).alloc (Nat.le_refl _) _
  have ZK : Hid (wK.heap[wJ.heap.size]? = some (.cells #[.int .i64 U.k, .int .i64 U.n, .string U.s, .int .i64 U.a, .slice taJ N tcJ] 32 (0, 0))) := by rw [hwK]; exact heap_alloc_new _ _
  have hbHK : Below wH.heap.size wH wK := grw (grw hbI hbJ) hbJK
  have OK' : Hid (OTab wK bsJ (.slice taJ N tcJ) N PVJ L' K' X') := hOJ.below hbJK
  have HHK : Hid _ := HHH.out.below hbHK
  have YK : Hid (wK.heap[b8]? = some (.cells #[.int .i64 U.k, .int .i64 U.n, .string U.s, .int .i64 U.a, .slice ta7 N tc7] 32 (0, 0))) := blk_below YH.out hbHK
  have HB4K : Hid (Below w4.heap.size w4 wK) := grw HB4H.out hbHK
  have hlt4 : b4 < wJ.heap.size := by have := HB4H.out.size; have := hbI.size; have := hbJ.size; have := hs4.out; omega
  obtain ⟨bk, hbk⟩ : ∃ bk, wJ.heap.size = bk := ⟨_, rfl⟩
  rw [hbk] at ZK
  obtain ⟨y0, y1, y2, y3, y4, _⟩ := cells5 ZK.out
  obtain ⟨v0, v1, v2, v3, v4, _⟩ := cells5 (blk_below W4.out HB4K.out)
  rw [hwK] at y0 y1 y2 y3 y4 v0 v1 v2 v3 v4
  have heq := eqGraph_same U taJ ta3 N tcJ tc3 _ _ _ _ _ _ L' _ _ _ _ _ _ K' X' wK HN HSN OK'.out.tabs.2 (O4.out.below HB4K.out).tabs.2
  clear hbI hbJ hOJ hbJK hbHK HHH YH HB4H HBwH
  go_wp2_with fail
  rw [← hwK]
  refine heq.mono ?_
  clear heq hwK y0 y1 y2 y3 y4 v0 v1 v2 v3 v4 hlt4 hbk
  rintro e wL ⟨rfl, hbL⟩
  have HHL : Hid _ := HHK.out.below hbL
  have YL : Hid (wL.heap[b8]? = some (.cells #[.int .i64 U.k, .int .i64 U.n, .string U.s, .int .i64 U.a, .slice ta7 N tc7] 32 (0, 0))) := blk_below YK.out hbL
  have HB4L : Hid (Below w4.heap.size w4 wL) := grw HB4K.out hbL
  clear hbL HHK YK HB4K OK' ZK
  have hhd := heldGraph_any U ta7 N tc7 _ 1 _ L' _ _ wL HN HLN (by omega) (by omega) HHL.out
  rw [HKQ.out] at hhd
  obtain ⟨y0, y1, y2, y3, y4, _⟩ := cells5 YL.out
  go_wp2_with fail
  refine hhd.mono ?_
  clear hhd y0 y1 y2 y3 y4
  rintro e wM ⟨rfl, hbM⟩
  have HBwM : Hid (Below w.heap.size w wM) := grw HBw4.out (grw HB4L.out hbM)
  clear hbM HHL YL HB4L
  go_wp2
  go_ret
  exact ⟨rfl, HBwM.out⟩

set_option maxRecDepth 100000 in
theorem canonLifted (os : Os) (started : os.Started) (H : Type) (enc : TypeId × Value → H) :
    ReturnsInHanded {} Try.checked os 5 .any (Rows.fnExactCanonSpec.pre6 enc Try.prog Try.f5 Rows.fnExactCanonRow.domain false) (Rows.fnExactCanonSpec.post enc Try.prog Try.f5 false true false false) := by
  refine returnsInHanded_of_change (C := Try.checked) ownG started (by kernel_rfl) Try.func5
    (ChangeSpec.witness6 (enc := enc) (C := Try.checked) false ⟨#[], #[.agg #[.int .i64 0, .int .i64 0, .string ⟨#[]⟩, .int .i64 0, .slice none 0 0]], []⟩ 8 (by kernel_rfl) (by kernel_rfl) (by kernel_rfl) (by kernel_rfl)) ?_
  intro W base args ds gs before hval0 hW hcnd _
  have hval : ∀ (j : Nat) t v, Try.f5.params[j]? = some t → args[j]? = some v → Value.okWide Try.prog W .any base t v := hval0
  have hW' := hW
  obtain ⟨p, q, hA0, hV, rfl, hfz, hnd⟩ := hW
  have hA : DataW.TrodAll enc Try.prog W 0 (fun _ => true) true Try.f5.params.toList args.toList ds p := hA0
  rw [Try.params5] at hA hval
  obtain ⟨v0, vs0, d0, ds0, p0, q0, hargs, rfl, rfl, h0, r0⟩ := trodAll_cons hA
  obtain ⟨rfl, rfl, rfl⟩ := trodAll_nil r0
  obtain rfl : args = #[v0] := by cases args; simp_all
  obtain ⟨rfl, rfl⟩ := trodVars_none hV
  have k0 := h0
  have lt0 : ∀ x ∈ p0, x.block < W.heap.size := by obtain ⟨m, hm⟩ := k0; exact DataW.trod_lt m _ _ _ hm
  obtain ⟨u, ta, n, cp, TB, TO, A, L, C, RB, RO, K, X, rfl, hu, hn, hT, hS⟩ := opens_graph (hval 0 26 v0 rfl rfl) h0
  clear hA0 hval0
  refine (canonLaw u ta n cp TB TO A L C RB RO K X W hu hn hS hT).mono fun e W' ⟨he, bel⟩ => ?_
  subst he
  exact ⟨_, rfl, _, _, _, [], _, [], hW', trodAll_mk1 (shut_bool Try.underlying4 _), (trodAll_cons_mk (Below.trod laidOutG (by kernel_rfl) (of_decide_eq_true (by kernel_rfl)) k0 bel lt0) trodAll_mk0), rfl, bel.frame _, fun h => by cases h⟩

theorem canon_holds : Rows.FnExactCanonSaid :=
  OpenClaim.holds_of_wide 5 Try.f5 rfl rfl rfl rfl rfl rfl rfl ⟨rfl, rfl, rfl, rfl, rfl⟩ rfl rfl rfl rfl rfl (by kernel_rfl) Try.func5 (by kernel_rfl)
    (of_decide_eq_true (by kernel_rfl)) (by unfold Func.isWrapper; first | (rw [if_pos (by decide +kernel)]; kernel_rfl) | (rw [if_neg (by decide +kernel)]; exact ⟨rfl, rfl⟩))
    (fun os started H enc _ => canonLifted os started H enc)
#print axioms canon_holds

end Go.Proofs.Ytgflalfiopnmnab
