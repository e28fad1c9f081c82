import Derived.Test.YtgflalfiopnmnabCnTb
namespace Go.Proofs.Ytgflalfiopnmnab
open Go.RowKit Vl

set_option maxHeartbeats 2000000 in
set_option maxRecDepth 100000 in
/-- '(*table).pairs'. -/
theorem pairs_any (n : Nat) (T M : Nat → Nat) (at_ : Nat → Int) (L : Nat → Nat) (K X : Nat → Nat → V) (r : Nat) (w : World) (hr : r < n) (hL : L r ≤ 100) (HG : Hid (Good n L X)) (HT : Hid (Tbs w n T M at_ L K X)) :
    Calls Try.prog 85 #[.pointer (some ⟨T r, 0, none⟩)] w fun e w' => (∃ pv, e = .returned pv ∧ w'.ownsRow w.heap.size 63 8 pv (L r) (pairCells (K r) (fun c => atV at_ (X r c)) (L r))) ∧ Below w.heap.size w w' := by
  obtain ⟨ord, hTb, hOr⟩ := HT.out.tab r hr
  obtain ⟨l, hM, hfind⟩ := HT.out.map r hr
  obtain ⟨hform, hVals⟩ := owns_keys hOr
  have HTb : Hid (TabB w (T r) (M r) (at_ r) ord) := hTb
  have HM : Hid (MapIs w (M r) l) := hM
  have HF : Hid (∀ c, c < L r → findV (K r c) l = some (ifv T (X r c))) := hfind
  obtain ⟨ka, hka⟩ : ∃ ka, slA ord = ka := ⟨_, rfl⟩
  obtain ⟨kb, hkb⟩ : ∃ kb, slB ord = kb := ⟨_, rfl⟩
  obtain ⟨kc, hkc⟩ : ∃ kc, slC ord = kc := ⟨_, rfl⟩
  rw [hka, hkc] at hform
  rw [hka, hkb] at hVals
  have HV : Hid (ValsAt w ka (L r) kb 0 (K r)) := hVals
  rw [hform] at HTb
  clear hTb hM hfind hVals hOr hform hka hkb hkc
  obtain ⟨ip, hpi, hp0, hp1, hp2⟩ := info_parts Try.info63
  obtain ⟨t0, t1, t2, _⟩ := HTb.out.cells
  go_enter Try.func85, Try.ntmps85
  go_wp2
  clear t0 t1 t2
  go_loopw [3, 11] (fun pv ii wr => ∃ c : Nat, c ≤ L r ∧ ii = .int .i64 c ∧ Hid (wr.ownsRow w.heap.size 63 8 pv c (pairCells (K r) (fun c => atV at_ (X r c)) c)) ∧ Hid (Below w.heap.size w wr)) (fun _ ii _ => L r - (intOf ii).toNat)
  case atStart => exact ⟨0, Nat.zero_le _, rfl, World.ownsRow_nil _ _ _ _, Below.refl _ _⟩
  case round =>
    obtain ⟨c, hc, rfl, HO, HB⟩ := hrel
    obtain ⟨pa, pc, rfl, hpk⟩ := owns_form HO.out
    have HPK : Hid (∀ k, (Value.slice pa c pc).ownBlock = some k → w.heap.size ≤ k ∧ k < wr.heap.size) := hpk
    clear hpk
    by_cases hlt : c < L r
    · obtain rfl := HV.out.top (by omega)
      obtain ⟨k0, k1, k2, k3⟩ := (HV.out.below HB.out).cells hlt
      simp only [Nat.zero_add] at k0 k1 k2 k3
      obtain ⟨kk, HKK⟩ : ∃ kk, Hid (K r c = kk) := ⟨_, rfl⟩
      rw [HKK.out] at k0 k1 k2 k3
      go_wp2
      obtain ⟨wk, hwk⟩ : ∃ wk, wk = wr.alloc (.cells #[.int .i64 kk.k, .int .i64 kk.n, .string kk.s, .int .i64 kk.a] 29) := ⟨_, rfl⟩
      have HBk : Hid (Below wr.heap.size wr wk) := by rw [hwk]; exact (Below.refl _ _).alloc (Nat.le_refl _) _
      have HKb : Hid (ValB wk wr.heap.size kk) := by rw [hwk]; exact heap_alloc_new _ _
      rw [← hwk]
      have hszk : wk.heap.size = wr.heap.size + 1 := by rw [hwk]; simp
      obtain ⟨qb, hqb⟩ : ∃ qb, wr.heap.size = qb := ⟨_, rfl⟩
      have hqw : w.heap.size ≤ qb := by rw [← hqb]; exact HB.out.size
      rw [hqb] at HKb ⊢
      clear hwk k0 k1 k2 k3
      have HBw : Hid (Below w.heap.size w wk) := HB.out.trans (HBk.out.mono HB.out.size)
      have HOk : Hid (wk.ownsRow w.heap.size 63 8 (.slice pa c pc) c (pairCells (K r) (fun c => atV at_ (X r c)) c)) := (Only.below (P := fun _ => False) HBk.out).owns HO.out (fun _ _ _ h => h)
      clear HBk HO HB
      have hiv := HG.out r hr c hlt
      obtain ⟨xt, xy, F, hty, hmeth, hcf, hcall⟩ := as_at hiv T at_
      obtain ⟨y, HY⟩ : ∃ y, Hid (atV at_ (X r c) = y) := ⟨_, rfl⟩
      rw [HY.out] at hcall
      have hfc := HF.out c hlt
      rw [hty, HKK.out] at hfc
      have hS : ∀ w' : World, Below w.heap.size w w' → w'.cell? ⟨T r, 1, none⟩ = some (.map (some (M r))) ∧ (Instr.lookup 93 (.map (some (M r))) (.agg #[.int .i64 kk.k, .int .i64 kk.n, .string kk.s, .int .i64 kk.a]) false).run Try.prog w' = .ok (.iface xt xy) w' ∧ (∀ j, j < n → w'.cell? ⟨T j, 0, none⟩ = some (.int .i64 (at_ j))) := fun w' hb => by
        refine ⟨(hb.cell (p := ⟨T r, 1, none⟩) (HT.out.lt hr)).trans HTb.out.cells.2.1, ?_, fun j hj => (hb.cell (p := ⟨T j, 0, none⟩) (HT.out.lt hj)).trans (HT.out.at0 j hj)⟩
        have := ((HM.out.same (hb.block _ HM.out.lt)).lookup kk).2
        rw [hfc] at this
        exact this
      have HS : Hid _ := hS
      clear hS hfc hty
      have hnb : qb < wk.heap.size := by omega
      refine wp_region_held_drew (S := fun w' => Below w.heap.size w w' ∧ ValB w' qb kk) (by kernel_rfl) ⟨HBw.out.drew, HKb.out⟩ (fun hHeld => ?_)
      refine wpAnyH_take (i := 0) (v := .slice pa c pc) rfl (by kernel_rfl) (by kernel_rfl) (by kernel_rfl) (fun _ _ _ h => h) (Or.inl ⟨by rfl, fun w hSw => ?_⟩) hHeld ?_
      · first | rfl | go_simp
      simp only [Act.put, List.setIfInBounds_toArray, List.set_cons_zero, List.set_cons_succ, List.getElem_toArray, List.getElem_cons_zero]
      refine wpAnyH_take (i := 1) (v := .agg #[.int .i64 kk.k, .int .i64 kk.n, .string kk.s, .int .i64 kk.a]) rfl (by kernel_rfl) (by kernel_rfl) (by kernel_rfl) (fun _ _ _ h => h) (Or.inl ⟨by rfl, fun w hSw => ?_⟩) hHeld ?_
      · obtain ⟨s0, s1, s2, s3, _⟩ := cells4 hSw.2
        first | rfl | go_simp
      simp only [Act.put, List.setIfInBounds_toArray, List.set_cons_zero, List.set_cons_succ, List.getElem_toArray, List.getElem_cons_zero, List.getElem_cons_succ]
      refine wpAnyH_take (i := 2) (v := .pointer (some ⟨T r, 0, none⟩)) rfl (by kernel_rfl) (by kernel_rfl) (by kernel_rfl) (fun _ _ _ h => h) (Or.inl ⟨by rfl, fun w hSw => ?_⟩) hHeld ?_
      · first | rfl | go_simp
      simp only [Act.put, List.setIfInBounds_toArray, List.set_cons_zero, List.set_cons_succ, List.getElem_toArray, List.getElem_cons_zero, List.getElem_cons_succ]
      refine wpAnyH_take (i := 3) (v := .pointer (some ⟨T r, 0, none⟩)) rfl (by kernel_rfl) (by kernel_rfl) (by kernel_rfl) (fun _ _ _ h => h) (Or.inl ⟨by rfl, fun w hSw => ?_⟩) hHeld ?_
      · first | rfl | go_simp
      simp only [Act.put, List.setIfInBounds_toArray, List.set_cons_zero, List.set_cons_succ, List.getElem_toArray, List.getElem_cons_zero, List.getElem_cons_succ]
      refine wpAnyH_take (i := 4) (v := .pointer (some ⟨T r, 1, none⟩)) rfl (by kernel_rfl) (by kernel_rfl) (by kernel_rfl) (fun _ _ _ h => h) (Or.inl ⟨by rfl, fun w hSw => ?_⟩) hHeld ?_
      · first | rfl | go_simp
      simp only [Act.put, List.setIfInBounds_toArray, List.set_cons_zero, List.set_cons_succ, List.getElem_toArray, List.getElem_cons_zero, List.getElem_cons_succ]
      refine wpAnyH_take (i := 5) (v := .map (some (M r))) rfl (by kernel_rfl) (by kernel_rfl) (by kernel_rfl) (fun _ _ _ h => h) (Or.inl ⟨by rfl, fun w hSw => ?_⟩) hHeld ?_
      · have s1 := (HS.out w hSw.1).1
        first | rfl | go_simp
      simp only [Act.put, List.setIfInBounds_toArray, List.set_cons_zero, List.set_cons_succ, List.getElem_toArray, List.getElem_cons_zero, List.getElem_cons_succ]
      refine wpAnyH_take (i := 6) (v := .agg #[.int .i64 kk.k, .int .i64 kk.n, .string kk.s, .int .i64 kk.a]) rfl (by kernel_rfl) (by kernel_rfl) (by kernel_rfl) (fun _ _ _ h => h) (Or.inl ⟨by rfl, fun w hSw => ?_⟩) hHeld ?_
      · obtain ⟨s0, s1, s2, s3, _⟩ := cells4 hSw.2
        first | rfl | go_simp
      simp only [Act.put, List.setIfInBounds_toArray, List.set_cons_zero, List.set_cons_succ, List.getElem_toArray, List.getElem_cons_zero, List.getElem_cons_succ]
      refine wpAnyH_take (i := 7) (v := .iface xt xy) rfl (by kernel_rfl) (by kernel_rfl) (by kernel_rfl) (fun _ _ _ h => h) (Or.inl ⟨by rfl, fun w hSw => ?_⟩) hHeld ?_
      · have s1 := (HS.out w hSw.1).2.1
        first | rfl | go_simp
      simp only [Act.put, List.setIfInBounds_toArray, List.set_cons_zero, List.set_cons_succ, List.getElem_toArray, List.getElem_cons_zero, List.getElem_cons_succ]
      refine wpAnyH_ready (rs := [8]) (by kernel_rfl) (by simp) ?_
      refine AllReadyH.cons rfl (fun K' hK' => ?_) AllReadyH.nil
      have hcl := hcall wk.drew (HS.out _ HBw.out.drew).2.2
      clear hcall
      go_simp
      refine hcl.mono ?_
      clear hcl
      rintro e w5 ⟨rfl, hb5⟩
      have HB5 : Hid (Below w.heap.size w w5) := HBw.out.drew.trans (hb5.mono HBw.out.size)
      have HK5 : Hid (ValB w5 qb kk) := (show ValB wk.drew qb kk from HKb.out).below hb5
      have HO5 : Hid (w5.ownsRow w.heap.size 63 8 (.slice pa c pc) c (pairCells (K r) (fun c => atV at_ (X r c)) c)) := (Only.below (P := fun _ => False) hb5).owns (a := wk.drew) HOk.out (fun _ _ _ h => h)
      refine hK'.out _ _ ⟨HB5.out, HK5.out⟩ (fun hHeld => ?_)
      clear hK' hb5
      refine wpAnyH_take (i := 9) (v := .agg #[.int .i64 kk.k, .int .i64 kk.n, .string kk.s, .int .i64 kk.a, .int .i64 y.k, .int .i64 y.n, .string y.s, .int .i64 y.a]) rfl (by kernel_rfl) (by kernel_rfl) (by kernel_rfl) (fun _ _ _ h => h) (Or.inl ⟨by rfl, fun w hSw => ?_⟩) hHeld ?_
      · first | rfl | go_simp
      simp only [Act.put, List.setIfInBounds_toArray, List.set_cons_zero, List.set_cons_succ, List.getElem_toArray, List.getElem_cons_zero, List.getElem_cons_succ]
      refine wpAnyH_ready (rs := [10]) (by kernel_rfl) (by simp) ?_
      refine AllReadyH.cons rfl (fun K' hK' => ?_) AllReadyH.nil
      go_simp
      have hb6 : Below w5.heap.size w5 (w5.alloc (.cells #[.int .i64 kk.k, .int .i64 kk.n, .string kk.s, .int .i64 kk.a, .int .i64 y.k, .int .i64 y.n, .string y.s, .int .i64 y.a] 63)) := (Below.refl _ _).alloc (Nat.le_refl _) _
      refine hK'.out _ _ ⟨HB5.out.trans (hb6.mono HB5.out.size), HK5.out.below hb6⟩ (fun hHeld => ?_)
      clear hK'
      have l5 : qb < w5.heap.size := blk_lt HK5.out
      have hs5 := HB5.out.size
      refine wpAnyH_ready (rs := [11]) (by kernel_rfl) (by simp) ?_
      refine AllReadyH.cons rfl (fun K' hK' => ?_) AllReadyH.nil
      refine step_append_lies _ (by rfl) (.tmp 15) (.tmp 25) 59 (by rfl) w.heap.size 63 ip (.agg #[.int .i64 0, .int .i64 0, .string ⟨#[]⟩, .int .i64 0, .int .i64 0, .int .i64 0, .string ⟨#[]⟩, .int .i64 0]) 8 80 Try.underlying59 hpi hp0 hp1 hp2 (by rfl) (by omega) (.slice pa c pc) c (pairCells (K r) (fun c => atV at_ (X r c)) c) (by rfl) (HO5.out.alloc _) ⟨w5.heap.size, 0, none⟩ 1 1 [.int .i64 kk.k, .int .i64 kk.n, .string kk.s, .int .i64 kk.a, .int .i64 y.k, .int .i64 y.n, .string y.s, .int .i64 y.a] (by rfl) (by rfl) (World.news_of_block (heap_alloc_new w5 _)) (by intro u hu; simp at hu; rcases hu with rfl | rfl | rfl | rfl | rfl | rfl | rfl | rfl <;> rfl) (by omega) (by unfold maxLen; omega) (by omega) (by simp; omega) (w5.heap.size + 1) (by simp) ?_
      intro g cap w6 hown6 hgrow6 hat6 hlt6
      have hbel6 : Below w.heap.size (w5.alloc (.cells #[.int .i64 kk.k, .int .i64 kk.n, .string kk.s, .int .i64 kk.a, .int .i64 y.k, .int .i64 y.n, .string y.s, .int .i64 y.a] 63)) w6 := below_grown (HO5.out.alloc _) hgrow6 (by simp; omega)
      have HB6 : Hid (Below w.heap.size w w6) := (HB5.out.trans (hb6.mono HB5.out.size)).trans hbel6
      have HK6 : Hid (ValB w6 qb kk) := (hgrow6.block qb (by simp; omega) (fun e => by have := (HPK.out _ e.symm).2; omega)).trans (HK5.out.below hb6)
      have HO6 : Hid (w6.ownsRow w.heap.size 63 8 (.slice (some ⟨g, 0, none⟩) (c + 1) cap) (c + 1) (pairCells (K r) (fun c => atV at_ (X r c)) (c + 1))) := by
        show World.ownsRow _ _ _ _ _ _ _
        rw [pairCells_succ]
        simp only [HY.out, HKK.out]
        exact hown6
      refine hK'.out _ _ ⟨HB6.out, HK6.out⟩ (fun hHeld => ?_)
      clear hK' hown6 hgrow6 hat6 hlt6 hb6 hbel6 HB5 HK5 HO5
      simp only [Act.put, List.setIfInBounds_toArray, List.set_cons_zero, List.set_cons_succ, List.getElem_toArray, List.getElem_cons_zero, List.getElem_cons_succ]
      refine wpAnyH_ready (rs := [12]) (by kernel_rfl) (by simp) ?_
      refine AllReadyH.cons rfl (fun K' hK' => ?_) AllReadyH.nil
      go_simp
      refine hK'.out _ _ ⟨HB6.out, HK6.out⟩ (fun hHeld => ?_)
      clear hK' hHeld
      refine wpAnyH_done (by kernel_rfl) ?_ _
      go_wp2
      go_roundw
      case rel => exact ⟨c + 1, by omega, by go_num, HO6, HB6⟩
      case measure => simp [intOf]; omega
    · obtain rfl : c = L r := by omega
      go_wp2
      go_ret
      exact ⟨⟨_, rfl, HO.out⟩, HB.out⟩

end Go.Proofs.Ytgflalfiopnmnab
