import Derived.Test.YtgflalfiopnmnaaGreatDoorM0
import Derived.Test.YtgflalfiopnmnaaGreatDoorM3
import Derived.Test.YtgflalfiopnmnaaGreatDoorM1
import Derived.Deep.CutRange
namespace Go.Proofs.YtgflalfiopnmnaaGreatDoor
open Go.RowKit Vl

set_option maxHeartbeats 2000000 in
set_option maxRecDepth 100000 in
theorem pairs_any (n : Nat) (T M : Nat → Nat) (at_ : Nat → Int) (L : Nat → Nat) (K X : Nat → Nat → V) (r : Nat) (w : World) (hr : r < n) (hL : L r ≤ 100) (HG : Hid (Good n L X)) (HT : Hid (Tbs w n T M at_ L K X)) :
    Calls Tryz.prog 60 #[.pointer (some ⟨T r, 0, none⟩)] w fun e w' => (∃ pv, e = .returned pv ∧ w'.ownsRow w.heap.size 39 8 pv (L r) (pairCells (K r) (fun c => atV at_ (X r c)) (L r))) ∧ Below w.heap.size w w' := by
  obtain ⟨ord, hTb, hOr⟩ := HT.out.tab r hr
  obtain ⟨l, hM, hfind⟩ := HT.out.map r hr
  obtain ⟨hform, hVals⟩ := owns_keys hOr
  have HTb : Hid (TabB w (T r) (M r) (at_ r) ord) := hTb
  have HM : Hid (MapIs w (M r) l) := hM
  have HF : Hid (∀ c, c < L r → findV (K r c) l = some (ifv T (X r c))) := hfind
  obtain ⟨ka, hka⟩ : ∃ ka, slA ord = ka := ⟨_, rfl⟩
  obtain ⟨kb, hkb⟩ : ∃ kb, slB ord = kb := ⟨_, rfl⟩
  obtain ⟨kc, hkc⟩ : ∃ kc, slC ord = kc := ⟨_, rfl⟩
  rw [hka, hkc] at hform
  rw [hka, hkb] at hVals
  have HV : Hid (ValsAt w ka (L r) kb 0 (K r)) := hVals
  rw [hform] at HTb
  clear hTb hM hfind hVals hOr hform hka hkb hkc
  obtain ⟨ip, hpi, hp0, hp1, hp2⟩ := info_parts Tryz.info39
  obtain ⟨t0, t1, t2, _⟩ := HTb.out.cells
  go_enter Tryz.func60, Tryz.ntmps60
  go_wp2
  clear t0 t1 t2
  go_loopw [3, 11] (fun pv ii wr => ∃ c : Nat, c ≤ L r ∧ ii = .int .i64 c ∧ Hid (wr.ownsRow w.heap.size 39 8 pv c (pairCells (K r) (fun c => atV at_ (X r c)) c)) ∧ Hid (Below w.heap.size w wr)) (fun _ ii _ => L r - (intOf ii).toNat)
  case atStart => exact ⟨0, Nat.zero_le _, rfl, World.ownsRow_nil _ _ _ _, Below.refl _ _⟩
  case round =>
    obtain ⟨c, hc, rfl, HO, HB⟩ := hrel
    obtain ⟨pa, pc, rfl, hpk⟩ := owns_form HO.out
    have HPK : Hid (∀ k, (Value.slice pa c pc).ownBlock = some k → w.heap.size ≤ k ∧ k < wr.heap.size) := hpk
    clear hpk
    by_cases hlt : c < L r
    · obtain rfl := HV.out.top (by omega)
      obtain ⟨k0, k1, k2, k3⟩ := (HV.out.below HB.out).cells hlt
      simp only [Nat.zero_add] at k0 k1 k2 k3
      obtain ⟨kk, HKK⟩ : ∃ kk, Hid (K r c = kk) := ⟨_, rfl⟩
      rw [HKK.out] at k0 k1 k2 k3
      go_wp2
      obtain ⟨wk, hwk⟩ : ∃ wk, wk = wr.alloc (.cells #[.int .i64 kk.k, .int .i64 kk.n, .string kk.s, .int .i64 kk.a] 24) := ⟨_, rfl⟩
      have HBk : Hid (Below wr.heap.size wr wk) := by rw [hwk]; exact (Below.refl _ _).alloc (Nat.le_refl _) _
      have HKb : Hid (ValB wk wr.heap.size kk) := by rw [hwk]; exact heap_alloc_new _ _
      rw [← hwk]
      have hszk : wk.heap.size = wr.heap.size + 1 := by rw [hwk]; simp
      obtain ⟨qb, hqb⟩ : ∃ qb, wr.heap.size = qb := ⟨_, rfl⟩
      have hqw : w.heap.size ≤ qb := by rw [← hqb]; exact HB.out.size
      rw [hqb] at HKb ⊢
      clear hwk k0 k1 k2 k3
      have HBw : Hid (Below w.heap.size w wk) := HB.out.trans (HBk.out.mono HB.out.size)
      have HOk : Hid (wk.ownsRow w.heap.size 39 8 (.slice pa c pc) c (pairCells (K r) (fun c => atV at_ (X r c)) c)) := (Only.below (P := fun _ => False) HBk.out).owns HO.out (fun _ _ _ h => h)
      clear HBk HO HB
      have hiv := HG.out r hr c hlt
      obtain ⟨xt, xy, F, hty, hmeth, hcf, hcall⟩ := as_at hiv T at_
      obtain ⟨y, HY⟩ : ∃ y, Hid (atV at_ (X r c) = y) := ⟨_, rfl⟩
      rw [HY.out] at hcall
      have hfc := HF.out c hlt
      rw [hty, HKK.out] at hfc
      have hS : ∀ w' : World, Below w.heap.size w w' → w'.cell? ⟨T r, 1, none⟩ = some (.map (some (M r))) ∧ (Instr.lookup 119 (.map (some (M r))) (.agg #[.int .i64 kk.k, .int .i64 kk.n, .string kk.s, .int .i64 kk.a]) false).run Tryz.prog w' = .ok (.iface xt xy) w' ∧ (∀ j, j < n → w'.cell? ⟨T j, 0, none⟩ = some (.int .i64 (at_ j))) := fun w' hb => by
        refine ⟨(hb.cell (p := ⟨T r, 1, none⟩) (HT.out.lt hr)).trans HTb.out.cells.2.1, ?_, fun j hj => (hb.cell (p := ⟨T j, 0, none⟩) (HT.out.lt hj)).trans (HT.out.at0 j hj)⟩
        have := ((HM.out.same (hb.block _ HM.out.lt)).lookup kk).2
        rw [hfc] at this
        exact this
      have HS : Hid _ := hS
      clear hS hfc hty
      have hnb : qb < wk.heap.size := by omega
      refine wp_region_held_drew (S := fun w' => Below w.heap.size w w' ∧ ValB w' qb kk) (by kernel_rfl) ⟨HBw.out.drew, HKb.out⟩ (fun hHeld => ?_)
      refine wpT (i := 0) (v := .slice pa c pc) rfl (fun w hSw => ?_) hHeld ?_
      · first | rfl | go_simp
      simp only [Act.put, pz]
      refine wpT (i := 1) (v := .agg #[.int .i64 kk.k, .int .i64 kk.n, .string kk.s, .int .i64 kk.a]) rfl (fun w hSw => ?_) hHeld ?_
      · obtain ⟨s0, s1, s2, s3, _⟩ := cells4 hSw.2
        first | rfl | go_simp
      simp only [Act.put, pz]
      refine wpT (i := 2) (v := .pointer (some ⟨T r, 0, none⟩)) rfl (fun w hSw => ?_) hHeld ?_
      · first | rfl | go_simp
      simp only [Act.put, pz]
      refine wpT (i := 3) (v := .pointer (some ⟨T r, 0, none⟩)) rfl (fun w hSw => ?_) hHeld ?_
      · first | rfl | go_simp
      simp only [Act.put, pz]
      refine wpT (i := 4) (v := .pointer (some ⟨T r, 1, none⟩)) rfl (fun w hSw => ?_) hHeld ?_
      · first | rfl | go_simp
      simp only [Act.put, pz]
      refine wpT (i := 5) (v := .map (some (M r))) rfl (fun w hSw => ?_) hHeld ?_
      · have s1 := (HS.out w hSw.1).1
        first | rfl | go_simp
      simp only [Act.put, pz]
      refine wpT (i := 6) (v := .agg #[.int .i64 kk.k, .int .i64 kk.n, .string kk.s, .int .i64 kk.a]) rfl (fun w hSw => ?_) hHeld ?_
      · obtain ⟨s0, s1, s2, s3, _⟩ := cells4 hSw.2
        first | rfl | go_simp
      simp only [Act.put, pz]
      refine wpT (i := 7) (v := .iface xt xy) rfl (fun w hSw => ?_) hHeld ?_
      · have s1 := (HS.out w hSw.1).2.1
        first | rfl | go_simp
      simp only [Act.put, pz]
      refine wpAnyH_ready (rs := [8]) (by kernel_rfl) (by simp) ?_
      refine AllReadyH.cons rfl (fun K' hK' => ?_) AllReadyH.nil
      have hcl := hcall wk.drew (HS.out _ HBw.out.drew).2.2
      clear hcall
      go_simp
      refine hcl.mono ?_
      clear hcl
      rintro e w5 ⟨rfl, hb5⟩
      have HB5 : Hid (Below w.heap.size w w5) := HBw.out.drew.trans (hb5.mono HBw.out.size)
      have HK5 : Hid (ValB w5 qb kk) := (show ValB wk.drew qb kk from HKb.out).below hb5
      have HO5 : Hid (w5.ownsRow w.heap.size 39 8 (.slice pa c pc) c (pairCells (K r) (fun c => atV at_ (X r c)) c)) := (Only.below (P := fun _ => False) hb5).owns (a := wk.drew) HOk.out (fun _ _ _ h => h)
      refine hK'.out _ _ ⟨HB5.out, HK5.out⟩ (fun hHeld => ?_)
      clear hK' hb5
      refine wpT (i := 9) (v := .agg #[.int .i64 kk.k, .int .i64 kk.n, .string kk.s, .int .i64 kk.a, .int .i64 y.k, .int .i64 y.n, .string y.s, .int .i64 y.a]) rfl (fun w hSw => ?_) hHeld ?_
      · first | rfl | go_simp
      simp only [Act.put, pz]
      refine wpAnyH_ready (rs := [10]) (by kernel_rfl) (by simp) ?_
      refine AllReadyH.cons rfl (fun K' hK' => ?_) AllReadyH.nil
      go_simp
      have hb6 : Below w5.heap.size w5 (w5.alloc (.cells #[.int .i64 kk.k, .int .i64 kk.n, .string kk.s, .int .i64 kk.a, .int .i64 y.k, .int .i64 y.n, .string y.s, .int .i64 y.a] 39)) := (Below.refl _ _).alloc (Nat.le_refl _) _
      refine hK'.out _ _ ⟨HB5.out.trans (hb6.mono HB5.out.size), HK5.out.below hb6⟩ (fun hHeld => ?_)
      clear hK'
      have l5 : qb < w5.heap.size := blk_lt HK5.out
      have hs5 := HB5.out.size
      refine wpAnyH_ready (rs := [11]) (by kernel_rfl) (by simp) ?_
      refine AllReadyH.cons rfl (fun K' hK' => ?_) AllReadyH.nil
      refine step_append_lies _ (by rfl) (.tmp 15) (.tmp 25) 35 (by rfl) w.heap.size 39 ip (.agg #[.int .i64 0, .int .i64 0, .string ⟨#[]⟩, .int .i64 0, .int .i64 0, .int .i64 0, .string ⟨#[]⟩, .int .i64 0]) 8 80 Tryz.underlying35 hpi hp0 hp1 hp2 (by rfl) (by omega) (.slice pa c pc) c (pairCells (K r) (fun c => atV at_ (X r c)) c) (by rfl) (HO5.out.alloc _) ⟨w5.heap.size, 0, none⟩ 1 1 [.int .i64 kk.k, .int .i64 kk.n, .string kk.s, .int .i64 kk.a, .int .i64 y.k, .int .i64 y.n, .string y.s, .int .i64 y.a] (by rfl) (by rfl) (World.news_of_block (heap_alloc_new w5 _)) (by intro u hu; simp at hu; rcases hu with rfl | rfl | rfl | rfl | rfl | rfl | rfl | rfl <;> rfl) (by omega) (by unfold maxLen; omega) (by omega) (by simp; omega) (w5.heap.size + 1) (by simp) ?_
      intro g cap w6 hown6 hgrow6 hat6 hlt6
      have hbel6 : Below w.heap.size (w5.alloc (.cells #[.int .i64 kk.k, .int .i64 kk.n, .string kk.s, .int .i64 kk.a, .int .i64 y.k, .int .i64 y.n, .string y.s, .int .i64 y.a] 39)) w6 := below_grown (HO5.out.alloc _) hgrow6 (by simp; omega)
      have HB6 : Hid (Below w.heap.size w w6) := (HB5.out.trans (hb6.mono HB5.out.size)).trans hbel6
      have HK6 : Hid (ValB w6 qb kk) := (hgrow6.block qb (by simp; omega) (fun e => by have := (HPK.out _ e.symm).2; omega)).trans (HK5.out.below hb6)
      have HO6 : Hid (w6.ownsRow w.heap.size 39 8 (.slice (some ⟨g, 0, none⟩) (c + 1) cap) (c + 1) (pairCells (K r) (fun c => atV at_ (X r c)) (c + 1))) := by
        show World.ownsRow _ _ _ _ _ _ _
        rw [pairCells_succ]
        simp only [HY.out, HKK.out]
        exact hown6
      refine hK'.out _ _ ⟨HB6.out, HK6.out⟩ (fun hHeld => ?_)
      clear hK' hown6 hgrow6 hat6 hlt6 hb6 hbel6 HB5 HK5 HO5
      simp only [Act.put, pz]
      refine wpAnyH_ready (rs := [12]) (by kernel_rfl) (by simp) ?_
      refine AllReadyH.cons rfl (fun K' hK' => ?_) AllReadyH.nil
      go_simp
      refine hK'.out _ _ ⟨HB6.out, HK6.out⟩ (fun hHeld => ?_)
      clear hK' hHeld
      refine wpAnyH_done (by kernel_rfl) ?_ _
      go_wp2
      go_roundw
      case rel => exact ⟨c + 1, by omega, by go_num, HO6, HB6⟩
      case measure => simp [intOf]; omega
    · obtain rfl : c = L r := by omega
      go_wp2
      go_ret
      exact ⟨⟨_, rfl, HO.out⟩, HB.out⟩

end Go.Proofs.YtgflalfiopnmnaaGreatDoor

namespace Go.Proofs.YtgflalfiopnmnaaGreatDoor
open Go.RowKit Vl

abbrev ptrs (T : Nat → Nat) (S : List Nat) : List Value := S.map fun j => ptr (T j)

structure MtW (w0 w : World) (WB WM base : Nat) (T : Nat → Nat) (mv : Value) (S U : List Nat) : Prop where
  blk : w.heap[WB]? = some (.cells #[mv, .map (some WM)] 141 (0, 0))
  map : MapG ptr w WM (S.map fun j => (T j, .agg #[]))
  own : w.ownsRow base 107 1 mv U.length (ptrs T U)
  bel : Below w0.heap.size w0 w

theorem MtW.below {w0 w w' : World} {WB WM base : Nat} {T : Nat → Nat} {mv : Value} {S U : List Nat} (h : MtW w0 w WB WM base T mv S U) (hb : Below w.heap.size w w') : MtW w0 w' WB WM base T mv S U :=
  ⟨blkB h.blk hb, h.map.same (hb.block _ h.map.lt), (Only.below (P := fun _ => False) hb).owns h.own (fun _ _ _ h => h), h.bel.trans (hb.mono h.bel.size)⟩

theorem MtW.mark {w0 w w' : World} {WB WM base : Nat} {T : Nat → Nat} {mv : Value} {S : List Nat} {r : Nat} (h : MtW w0 w WB WM base T mv S S) (hB : SpB w0 WB WM base) (hm : MapG ptr w' WM ((S.map fun j => (T j, Value.agg #[])) ++ [(T r, .agg #[])])) (ho : Only (fun k => k = WM) w w') :
    MtW w0 w' WB WM base T mv (S ++ [r]) S ∧ FrV WB WM mv mv w w' := by
  have hne := hB.ne
  refine ⟨⟨(ho.block _ (blk_lt h.blk) hne).trans h.blk, ?_, ?_, h.bel.trans (ho.toBelow (fun k hk => by subst hk; exact hB.wh) h.bel.size)⟩, ⟨ho.mono (fun k _ e => Or.inr (Or.inl e)), fun _ _ h => h⟩⟩
  · rw [List.map_append]; exact hm
  · refine ho.ownsB h.own (fun g hg e => ?_)
    obtain ⟨_, _, _, hk⟩ := owns_form h.own
    have := (hk _ hg).1
    have := hB.whb
    omega

theorem MtW.put {w0 w w3 : World} {WB WM base g cap : Nat} {T : Nat → Nat} {mv : Value} {S U : List Nat} {r : Nat} {o : Obj} (h : MtW w0 w WB WM base T mv S U) (hB : SpB w0 WB WM base) (hgrow : (w.alloc o).grownBy w3 mv.ownBlock)
    (hown : w3.ownsRow base 107 1 (.slice (some ⟨g, 0, none⟩) (U.length + 1) cap) (U.length + 1) (ptrs T U ++ [ptr (T r)])) (hat : w.heap.size ≤ g ∨ mv.ownBlock = some g) :
    (w3.cell? ⟨WB, 0, none⟩ = some mv ∧ ∀ j, w3.frozen? ⟨WB, j, none⟩ = false) ∧ MtW w0 (w3.setCell ⟨WB, 0, none⟩ (.slice (some ⟨g, 0, none⟩) (U.length + 1) cap)) WB WM base T (.slice (some ⟨g, 0, none⟩) (U.length + 1) cap) S (U ++ [r]) ∧
      FrV WB WM mv (.slice (some ⟨g, 0, none⟩) (U.length + 1) cap) w (w3.setCell ⟨WB, 0, none⟩ (.slice (some ⟨g, 0, none⟩) (U.length + 1) cap)) := by
  obtain ⟨_, _, _, hk⟩ := owns_form h.own
  have hwb : WB < w.heap.size := blk_lt h.blk
  have hwh : WM < w.heap.size := h.map.lt
  have hbl : ∀ k, k < w.heap.size → mv.ownBlock ≠ some k → w3.heap[k]? = w.heap[k]? := fun k hk hne =>
    (hgrow.block k (by simp; omega) (fun e => hne e.symm)).trans (Below.heap_alloc w o k hk)
  have n1 : mv.ownBlock ≠ some WB := fun e => by have := (hk _ e).1; have := hB.wbb; omega
  have n2 : mv.ownBlock ≠ some WM := fun e => by have := (hk _ e).1; have := hB.whb; omega
  have hblk := (hbl WB hwb n1).trans h.blk
  have hc := two_at hblk
  have hgb : base ≤ g := by
    obtain ⟨_, _, e, hk'⟩ := owns_form hown
    exact (hk' g (by simp [Value.ownBlock])).1
  have hsz : w.heap.size ≤ w3.heap.size := by have := hgrow.size; simp at this; omega
  have ho : Only (fun k => k = WB ∨ k = WM ∨ mv.ownBlock = some k) w w3 := ⟨hgrow.os, hgrow.tape, hgrow.output, hsz, fun k hk hp => hbl k hk (fun e => hp (Or.inr (Or.inr e)))⟩
  refine ⟨⟨hc.1, hc.2.2⟩, ⟨?_, ?_, ?_, ?_⟩, ⟨ho.set (Or.inl rfl) _, fun k hk' e => ?_⟩⟩
  · simp [World.setCell, Array.getElem?_modify, hblk]
  · exact h.map.same ((Below.heap_setCell _ _ _ _ (fun e => hB.ne e.symm)).trans (hbl WM hwh n2))
  · rw [show ptrs T (U ++ [r]) = ptrs T U ++ [ptr (T r)] by simp [ptrs], show (U ++ [r]).length = U.length + 1 by simp]
    exact ownsRow_setCell_other (a := ⟨WB, 0, none⟩) hown (by have := hB.wbb; simp only [Value.ownBlock, ne_eq, Option.some.injEq]; omega) _
  · refine (h.bel.trans (ho.toBelow (base := w0.heap.size) (fun k hk' => ?_) h.bel.size)).setCell hB.wb _
    rcases hk' with rfl | rfl | e
    · exact hB.wb
    · exact hB.wh
    · have := (hk _ e).1; have := hB.wb; have := hB.wbb; omega
  · simp only [Value.ownBlock, Option.some.injEq] at e
    subst e
    rcases hat with h' | h'
    · omega
    · exact h'

set_option maxHeartbeats 2000000 in
set_option maxRecDepth 100000 in
theorem meet_any (n : Nat) (T M : Nat → Nat) (at_ : Nat → Int) (L : Nat → Nat) (K X : Nat → Nat → V) (w0 : World) (WB WM base : Nat) (hn : n ≤ 400) (HL : Hid (∀ r, r < n → L r ≤ 100)) (HG : Hid (Good n L X))
    (HT : Hid (Tbs w0 n T M at_ L K X)) (HB : Hid (SpB w0 WB WM base)) : ∀ (f : Nat) (S : List Nat) (v : V) (w : World) (mv : Value), Hid (Fit n S) → isV n v = true → n - S.length < f → base ≤ w.heap.size → Hid (MtW w0 w WB WM base T mv S S) →
    Calls Tryz.prog 59 #[.pointer (some ⟨WB, 0, none⟩), ifv T v] w fun e w' => e = .returned (.tuple #[]) ∧ ∃ mv', MtW w0 w' WB WM base T mv' (met L X f S v) (met L X f S v) ∧ FrV WB WM mv mv' w w' := by
  intro f
  induction f with
  | zero => intro S v w mv _ _ h; omega
  | succ f ih =>
    intro S v w mv HF hv hf hbase HW
    obtain ⟨x0, x1, xz⟩ := two_at HW.out.blk
    by_cases h4 : v.k = 4
    · obtain ⟨a0, a1⟩ := isV_tab hv h4
      obtain ⟨r, hr⟩ : ∃ r : Nat, v.a = r := ⟨v.a.toNat, by omega⟩
      have hrn : r < n := by omega
      rw [ifv_tab h4, hr, Int.toNat_natCast]
      have hta := assert_yes (T r)
      have hfm : (findG (fun a b => a == b) (T r) (S.map fun j => (T j, Value.agg #[]))).isSome = decide (r ∈ S) := findG_mem T (fun _ => .agg #[]) r S (fun i hi e => HT.out.inj i r (HF.out.lt i hi) hrn e)
      have hIsB : ∀ w' : World, Below w0.heap.size w0 w' → ∀ j, j < n → IsB w' (T j) := fun w' hb j hj => by
        obtain ⟨ord, h1, _⟩ := HT.out.tab j hj
        exact ⟨_, _, (hb.block _ (blk_lt h1)).trans h1⟩
      have hokS : ∀ w' : World, Below w0.heap.size w0 w' → ∀ p ∈ (S.map fun j => (T j, Value.agg #[])), IsB w' p.1 := fun w' hb p hp => by
        obtain ⟨j, hj, rfl⟩ := List.mem_map.1 hp
        exact hIsB w' hb j (HF.out.lt j hj)
      have hlk := (HW.out.map.lookup seen_keyed (T r) (hIsB w HW.out.bel r hrn) (hokS w HW.out.bel)).1
      rw [hfm] at hlk
      by_cases hm : r ∈ S
      · rw [decide_eq_true hm] at hlk
        have hE : Hid (met L X (f + 1) S v = S) := met_old (Or.inr (by rw [hr]; exact hm))
        rw [hE.out]
        rw [findG_const] at hlk
        have hb : Below w.heap.size w (w.alloc (.cells #[] 167)) := (Below.refl _ _).alloc (Nat.le_refl _) _
        clear hfm hm hIsB hokS
        go_enter Tryz.func59, Tryz.ntmps59
        go_wp2
        refine bodyPost_ret (results_none rfl _ _ _) rfl ?_
        exact ⟨rfl, mv, HW.out.below hb, FrV.first hb⟩
      · rw [decide_eq_false hm] at hlk hfm
        have hnone : findG (fun a b => a == b) (T r) (S.map fun j => (T j, Value.agg #[])) = none := by simpa using hfm
        rw [hnone] at hlk
        have hE : Hid (met L X (f + 1) S v = mets L X f (S ++ [r]) (X r) (L r)) := by
          have := met_new (L := L) (X := X) (f := f) (S := S) h4 (by rw [hr]; exact hm)
          rw [hr] at this
          exact this
        rw [hE.out]
        obtain ⟨ma, mc, rfl, hmk⟩ := owns_form HW.out.own
        have HMK : Hid (∀ k, (Value.slice ma S.length mc).ownBlock = some k → base ≤ k ∧ k < w.heap.size) := hmk
        obtain ⟨w1, hw1⟩ : ∃ w1, w1 = w.alloc (.cells #[] 167) := ⟨_, rfl⟩
        have hb1 : Below w.heap.size w w1 := by rw [hw1]; exact (Below.refl _ _).alloc (Nat.le_refl _) _
        have hs1 : w1.heap.size = w.heap.size + 1 := by rw [hw1]; simp
        have hW1 := HW.out.below hb1
        obtain ⟨w2, hu, hM2, hO2, hs2⟩ := hW1.map.update seen_keyed (T r) (.agg #[]) (hIsB _ hW1.bel r hrn) (hokS _ hW1.bel) hnone
        obtain ⟨hW2, hF2⟩ := hW1.mark HB.out hM2 hO2
        have HW2 : Hid (MtW w0 w2 WB WM base T (.slice ma S.length mc) (S ++ [r]) S) := hW2
        have HF2 : Hid (FrV WB WM (.slice ma S.length mc) (.slice ma S.length mc) w w2) := (FrV.first hb1).trans hF2
        have HZ2 : Hid (w2.heap.size = w.heap.size + 1) := show _ = _ by omega
        obtain ⟨y0, y1, yz⟩ := two_at HW2.out.blk
        have hb1' : w1.cell? ⟨WB, 1, none⟩ = some (.map (some WM)) := (two_at hW1.blk).2.1
        rw [hw1] at hu hb1'
        clear hIsB hokS hmk hfm hnone hM2 hO2 hW2 hF2 hs2 hb1 hs1 hW1 hw1 w1
        obtain ⟨i0, hi, hz0, hz1, hz2'⟩ := info_parts Tryz.info107
        have hSl : S.length ≤ 400 := Nat.le_trans HF.out.len hn
        go_enter Tryz.func59, Tryz.ntmps59
        go_wp2_with (at_builtin; (refine wpList_append_lies _ (by rfl) (.tmp 33) (.tmp 35) 55 (by rfl) base 107 i0 (.pointer none) 1 8 Tryz.underlying55 hi hz0 hz1 hz2' (by rfl) (by omega) (.slice ma S.length mc) S.length (ptrs T S) (by rfl) (HW2.out.own.alloc _) ⟨w2.heap.size, 0, none⟩ 1 1 [ptr (T r)] (by rfl) (by rfl) ?c1 ?c2 (by omega) ?c3 ?c4 ?c5 (w2.heap.size + 1) ?c6 ?_))
        case c1 => exact World.news_of_block (heap_alloc_new w2 _)
        case c2 => intro u hu; simp at hu; subst hu; rfl
        case c3 => unfold maxLen; omega
        case c4 => omega
        case c5 => have := HZ2.out; simp; omega
        case c6 => simp
        intro g cap w3 hown3 hgrow3 hat hlt3
        obtain ⟨⟨e0, ez⟩, hW4, hF4⟩ := HW2.out.put HB.out hgrow3 hown3 (by rcases hat with h | h; exact Or.inr h; exact Or.inl (by omega))
        have HW4 : Hid _ := hW4
        have HF4 : Hid _ := HF2.out.trans hF4
        clear hW4 hF4 hown3 hgrow3 hat hlt3 hu hlk y0 y1 yz x0 x1 xz hb1' hi hz0 hz1 hz2'
        obtain ⟨mv4, hm4⟩ : ∃ o, Value.slice (some ⟨g, 0, none⟩) (S.length + 1) cap = o := ⟨_, rfl⟩
        obtain ⟨w4, hw4⟩ : ∃ w4, w4 = w3.setCell ⟨WB, 0, none⟩ (.slice (some ⟨g, 0, none⟩) (S.length + 1) cap) := ⟨_, rfl⟩
        rw [← hw4] at HW4 HF4
        rw [hm4] at HW4 HF4
        clear hm4
        obtain ⟨ord, hTb, hOr⟩ := HT.out.tab r hrn
        obtain ⟨l, hM, hfind⟩ := HT.out.map r hrn
        obtain ⟨hform, hVals⟩ := owns_keys hOr
        have HTb : Hid (TabB w0 (T r) (M r) (at_ r) ord) := hTb
        have HM : Hid (MapIs w0 (M r) l) := hM
        have HFd : Hid (∀ c, c < L r → findV (K r c) l = some (ifv T (X r c))) := hfind
        obtain ⟨ka, hka⟩ : ∃ ka, slA ord = ka := ⟨_, rfl⟩
        obtain ⟨kb, hkb⟩ : ∃ kb, slB ord = kb := ⟨_, rfl⟩
        obtain ⟨kc, hkc⟩ : ∃ kc, slC ord = kc := ⟨_, rfl⟩
        rw [hka, hkc] at hform
        rw [hka, hkb] at hVals
        have HV : Hid (ValsAt w0 ka (L r) kb 0 (K r)) := hVals
        rw [hform] at HTb
        clear hTb hM hfind hVals hOr hform hka hkb hkc
        have t2 : w4.cell? ⟨T r, 2, none⟩ = some (.slice ka (L r) kc) := (HW4.out.bel.cell (p := ⟨T r, 2, none⟩) (HT.out.lt hrn)).trans HTb.out.cells.2.2.1
        rw [hw4] at t2
        go_wp2
        rw [← hw4]
        clear t2 hw4 e0 ez
        have hLr := HL.out r hrn
        have HA : Hid (Grows n S (S ++ [r])) := HF.out.add hrn hm
        have hszS : n - (S ++ [r]).length < f := by
          have := HF.out.less hrn hm
          simp
          omega
        go_loopw [44] (fun ii wr => ∃ (c : Nat) (mc' : Value), c ≤ L r ∧ ii = .int .i64 c ∧ Hid (Grows n (S ++ [r]) (mets L X f (S ++ [r]) (X r) c)) ∧ Hid (MtW w0 wr WB WM base T mc' (mets L X f (S ++ [r]) (X r) c) (mets L X f (S ++ [r]) (X r) c)) ∧ Hid (FrV WB WM (.slice ma S.length mc) mc' w wr)) (fun ii _ => L r - (intOf ii).toNat)
        case atStart => exact ⟨0, mv4, Nat.zero_le _, rfl, HA.out.fit.refl, HW4, HF4⟩
        case round =>
          obtain ⟨c, m5, hc, rfl, HGr, HWr, HFr⟩ := hrel
          clear HW4 HF4
          have hsr : w.heap.size ≤ wr.heap.size := HFr.out.only.size
          by_cases hlt : c < L r
          · obtain rfl := HV.out.top (by omega)
            obtain ⟨k0, k1, k2, k3⟩ := (HV.out.below HWr.out.bel).cells hlt
            simp only [Nat.zero_add] at k0 k1 k2 k3
            obtain ⟨kk, HKK⟩ : ∃ kk, Hid (K r c = kk) := ⟨_, rfl⟩
            rw [HKK.out] at k0 k1 k2 k3
            obtain ⟨Sc, HSc⟩ : ∃ Sc, Hid (mets L X f (S ++ [r]) (X r) c = Sc) := ⟨_, rfl⟩
            rw [HSc.out] at HGr HWr
            have HSn : Hid (mets L X f (S ++ [r]) (X r) (c + 1) = met L X f Sc (X r c)) := by rw [mets_succ, HSc.out]; exact rfl
            go_wp2
            obtain ⟨wk, hwk⟩ : ∃ wk, wk = wr.alloc (.cells #[.int .i64 kk.k, .int .i64 kk.n, .string kk.s, .int .i64 kk.a] 24) := ⟨_, rfl⟩
            have HBk : Hid (Below wr.heap.size wr wk) := by rw [hwk]; exact (Below.refl _ _).alloc (Nat.le_refl _) _
            have HKb : Hid (ValB wk wr.heap.size kk) := by rw [hwk]; exact heap_alloc_new _ _
            rw [← hwk]
            have hszk : wk.heap.size = wr.heap.size + 1 := by rw [hwk]; simp
            obtain ⟨qb, hqb⟩ : ∃ qb, wr.heap.size = qb := ⟨_, rfl⟩
            have hq1 : WB < qb := by rw [← hqb]; exact blk_lt HWr.out.blk
            have hq2 : WM < qb := by rw [← hqb]; exact HWr.out.map.lt
            have HQ3 : Hid (m5.ownBlock ≠ some qb) := show _ ≠ _ from fun e => by
              obtain ⟨_, _, _, h⟩ := owns_form HWr.out.own
              have := (h _ e).2
              omega
            rw [hqb] at HKb ⊢
            have HWk : Hid (MtW w0 wk.drew WB WM base T m5 Sc Sc) := HWr.out.below HBk.out.drew
            have HFk : Hid (FrV WB WM (.slice ma S.length mc) m5 w wk.drew) := HFr.out.below HBk.out.drew
            clear hwk k0 k1 k2 k3 HBk HWr HFr
            have hiv := HG.out r hrn c hlt
            have hlen := HGr.out.len
            have hcall := ih Sc (X r c) wk.drew m5 HGr.out.fit hiv (by omega) (by show base ≤ wk.heap.size; omega) HWk
            have hall := met_all HG.out f Sc (X r c) HGr.out.fit hiv (by omega)
            have HGn : Hid (Grows n (S ++ [r]) (met L X f Sc (X r c))) := HGr.out.trans hall.1
            have hfc := HFd.out c hlt
            obtain ⟨xt, xy, hxv⟩ := ifv_form T (X r c)
            rw [hxv] at hcall hfc
            rw [HKK.out] at hfc
            have hS : ∀ w' : World, Below w0.heap.size w0 w' → w'.cell? ⟨T r, 1, none⟩ = some (.map (some (M r))) ∧ (Instr.lookup 119 (.map (some (M r))) (.agg #[.int .i64 kk.k, .int .i64 kk.n, .string kk.s, .int .i64 kk.a]) false).run Tryz.prog w' = .ok (.iface xt xy) w' := fun w' hb => by
              refine ⟨(hb.cell (p := ⟨T r, 1, none⟩) (HT.out.lt hrn)).trans HTb.out.cells.2.1, ?_⟩
              have := ((HM.out.same (hb.block _ HM.out.lt)).lookup kk).2
              rw [hfc] at this
              exact this
            have HS : Hid _ := hS
            clear hS hfc hxv hall hlen hiv
            refine wp_region_held_drew (S := fun w' => Below w0.heap.size w0 w' ∧ ValB w' qb kk) (by kernel_rfl) ⟨HWk.out.bel, HKb.out⟩ (fun hHeld => ?_)
            refine wpT (i := 0) (v := .pointer (some ⟨WB, 0, none⟩)) rfl (fun w hSw => ?_) hHeld ?_
            · first | rfl | go_simp
            simp only [Act.put, pz]
            refine wpT (i := 1) (v := .pointer (some ⟨T r, 0, none⟩)) rfl (fun w hSw => ?_) hHeld ?_
            · first | rfl | go_simp
            simp only [Act.put, pz]
            refine wpT (i := 2) (v := .pointer (some ⟨T r, 0, none⟩)) rfl (fun w hSw => ?_) hHeld ?_
            · first | rfl | go_simp
            simp only [Act.put, pz]
            refine wpT (i := 3) (v := .pointer (some ⟨T r, 1, none⟩)) rfl (fun w hSw => ?_) hHeld ?_
            · first | rfl | go_simp
            simp only [Act.put, pz]
            refine wpT (i := 4) (v := .map (some (M r))) rfl (fun w hSw => ?_) hHeld ?_
            · have s1 := (HS.out w hSw.1).1
              first | rfl | go_simp
            simp only [Act.put, pz]
            refine wpT (i := 5) (v := .agg #[.int .i64 kk.k, .int .i64 kk.n, .string kk.s, .int .i64 kk.a]) rfl (fun w hSw => ?_) hHeld ?_
            · obtain ⟨s0, s1, s2, s3, _⟩ := cells4 hSw.2
              first | rfl | go_simp
            simp only [Act.put, pz]
            refine wpT (i := 6) (v := .iface xt xy) rfl (fun w hSw => ?_) hHeld ?_
            · have s1 := (HS.out w hSw.1).2
              first | rfl | go_simp
            simp only [Act.put, pz]
            refine wpAnyH_ready (rs := [7]) (by kernel_rfl) (by simp) ?_
            refine AllReadyH.cons rfl (fun K' hK' => ?_) AllReadyH.nil
            go_simp
            refine hcall.mono ?_
            clear hcall
            rintro e w5 ⟨rfl, m6, hW6, hF6⟩
            have HW6 : Hid (MtW w0 w5 WB WM base T m6 (met L X f Sc (X r c)) (met L X f Sc (X r c))) := hW6
            have HF6 : Hid (FrV WB WM (.slice ma S.length mc) m6 w w5) := HFk.out.trans hF6
            have HK6 : Hid (ValB w5 qb kk) := hF6.blk (a := wk.drew) HKb.out (by omega) (by omega) HQ3.out
            refine hK'.out _ _ ⟨HW6.out.bel, HK6.out⟩ (fun hHeld => ?_)
            clear hK' hHeld hW6 hF6 HWk HFk
            refine wpAnyH_done (by kernel_rfl) ?_ _
            go_wp2
            go_roundw
            case rel => exact ⟨c + 1, m6, by omega, by go_num, by rw [HSn.out]; exact HGn, by rw [HSn.out]; exact HW6, HF6⟩
            case measure => simp [intOf]; omega
          · obtain rfl : c = L r := by omega
            go_wp2
            go_end0
            exact ⟨rfl, m5, HWr.out, HFr.out⟩
    · have hta := assert_no hv h4 T
      have hE : Hid (met L X (f + 1) S v = S) := met_old (Or.inl h4)
      rw [hE.out]
      obtain ⟨xt, xy, hxv⟩ := ifv_form T v
      rw [hxv] at hta ⊢
      clear x0 x1 xz
      go_enter Tryz.func59, Tryz.ntmps59
      go_wp2
      go_end0
      exact ⟨rfl, mv, HW.out, FrV.refl _ _ _ _⟩

end Go.Proofs.YtgflalfiopnmnaaGreatDoor

namespace Go.Proofs.YtgflalfiopnmnaaGreatDoor
open Go.RowKit Vl

theorem share3 {F : Option Addr → Nat → World → Prop} {G : Option Addr → Nat → World → Prop} {P : Prop} (h : Hid (∀ a c w, F a c w → G a c w) → P) (g : ∀ a c w, F a c w → G a c w) : P := h g

theorem atV_renum {at_ : Nat → Int} {S : List Nat} (h : ∀ j, j < S.length → at_ (S.getD j 0) = j) {v : V} (hv : v.k = 4 → v.a.toNat ∈ S) : atV at_ v = renum S v := by
  unfold atV renum
  by_cases h4 : v.k = 4
  · rw [if_pos h4, if_pos h4]
    have hm := hv h4
    have hi := List.idxOf_lt_length_of_mem hm
    have := h _ hi
    rw [List.getD_eq_getElem?_getD, List.getElem?_eq_getElem hi] at this
    simp only [List.getElem_idxOf, Option.getD_some] at this
    rw [this]
  · rw [if_neg h4, if_neg h4]

set_option maxHeartbeats 4000000 in
set_option maxRecDepth 100000 in
theorem canonical_any (n : Nat) (T M : Nat → Nat) (at_ : Nat → Int) (L : Nat → Nat) (K X : Nat → Nat → V) (u : V) (w : World) (hn : n ≤ 400) (HL : Hid (∀ r, r < n → L r ≤ 100)) (HG : Hid (Good n L X)) (hu : isV n u = true) (HT : Hid (Tbs w n T M at_ L K X)) (S : List Nat) (HS : Hid (order n u L X = S)) :
    Calls Tryz.prog 30 #[ifv T u] w fun e w' => (∃ (tv : Value) (PV : Nat → Value) (base : Nat), w.heap.size ≤ base ∧ e = .returned (.agg #[.int .i64 (renum S u).k, .int .i64 (renum S u).n, .string (renum S u).s, .int .i64 (renum S u).a, tv]) ∧ OTab w' base tv S.length PV (cL S L) (cK S K) (cX S X)) ∧ Only (fun k => ∃ j, j < n ∧ k = T j) w w' := by
  obtain ⟨ru, HRU⟩ : ∃ ru, Hid (renum S u = ru) := ⟨_, rfl⟩
  rw [HRU.out]
  obtain ⟨xt, xy, hxv⟩ := ifv_form T u
  have HXV : Hid (ifv T u = .iface xt xy) := hxv
  rw [hxv]
  clear hxv
  have A3 : Hid _ := alloc3 w (.cells #[.int .i64 0, .int .i64 0, .string ⟨#[]⟩, .int .i64 0, .slice none 0 0] 27) (.map #[] 0) (.cells #[.slice none 0 0, .map (some (w.heap.size + 1))] 141)
  obtain ⟨w1, hw1⟩ : ∃ w1, w1 = ((w.alloc (.cells #[.int .i64 0, .int .i64 0, .string ⟨#[]⟩, .int .i64 0, .slice none 0 0] 27)).alloc (.map #[] 0)).alloc (.cells #[.slice none 0 0, .map (some (w.heap.size + 1))] 141) := ⟨_, rfl⟩
  have HR1 : Hid (OutB w1 w.heap.size zeroV (.slice none 0 0)) := by rw [hw1]; exact A3.out.1
  have HSB : Hid (SpB w (w.heap.size + 2) (w.heap.size + 1) (w.heap.size + 3)) := show SpB _ _ _ _ from ⟨by omega, by omega, by omega, by omega, by omega⟩
  have HM1 : Hid (MtW w w1 (w.heap.size + 2) (w.heap.size + 1) (w.heap.size + 3) T (.slice none 0 0) [] []) := by
    rw [hw1]
    exact ⟨A3.out.2.2.1, ⟨#[], 0, A3.out.2.1, rfl⟩, World.ownsRow_nil _ _ _ _, A3.out.2.2.2.2⟩
  have Z1 : w1.heap.size = w.heap.size + 3 := by rw [hw1]; exact A3.out.2.2.2.1
  have hcall := meet_any n T M at_ L K X w (w.heap.size + 2) (w.heap.size + 1) (w.heap.size + 3) hn HL HG HT HSB (n + 1) [] u w1 (.slice none 0 0) (Fit.nil n) hu (by simp) (by omega) HM1
  rw [show met L X (n + 1) [] u = S from HS.out, HXV.out] at hcall
  have hmm := @run_makeMap Tryz.prog
  clear A3
  go_enter Tryz.func30, Tryz.ntmps30
  go_wp2_with fail
  rw [← hw1]
  refine hcall.mono ?_
  clear hcall hw1 hmm
  rintro e w2 ⟨rfl, mv, hW2, hF2⟩
  have HW2 : Hid (MtW w w2 (w.heap.size + 2) (w.heap.size + 1) (w.heap.size + 3) T mv S S) := hW2
  have HR2 : Hid (OutB w2 w.heap.size zeroV (.slice none 0 0)) := hF2.blk HR1.out (by omega) (by omega) (by simp [Value.ownBlock])
  have hs2 : w.heap.size + 3 ≤ w2.heap.size := by have := hF2.only.size; omega
  clear hW2 hF2 HM1 HR1 Z1
  have HOA : Hid (Fit n S ∧ (∀ r ∈ S, ∀ c, c < L r → (X r c).k = 4 → (X r c).a.toNat ∈ S) ∧ (u.k = 4 → u.a.toNat ∈ S)) := by
    obtain ⟨a, b, c⟩ := met_all HG.out (n + 1) [] u (Fit.nil n) hu (by simp)
    rw [show met L X (n + 1) [] u = S from HS.out] at a b c
    exact ⟨a.fit, fun r hr => b r hr (by simp), c⟩
  have hSl : S.length ≤ 400 := Nat.le_trans HOA.out.1.len hn
  obtain ⟨ma, mc, rfl, hmk⟩ := owns_form HW2.out.own
  have HMK : Hid (∀ k, (Value.slice ma S.length mc).ownBlock = some k → w.heap.size + 3 ≤ k ∧ k < w2.heap.size) := hmk
  clear hmk
  have HT2 : Hid (Tbs w2 n T M at_ L K X) := HT.out.below HW2.out.bel
  have HTl : Hid (∀ j, j < n → T j < w.heap.size) := show ∀ j, _ from fun j hj => HT.out.lt hj
  obtain ⟨x0, x1, xz⟩ := two_at HW2.out.blk
  go_wp2
  clear x0 x1 xz
  go_loopw [20] (fun ii wr => ∃ (i : Nat) (at' : Nat → Int), i ≤ S.length ∧ ii = .int .i64 i ∧ Hid (Tbs wr n T M at' L K X) ∧ Hid (∀ j, j < i → at' (S.getD j 0) = j) ∧ Hid (Only (fun k => ∃ j, j < n ∧ k = T j) w2 wr)) (fun ii _ => S.length - (intOf ii).toNat)
  case atStart => exact ⟨0, at_, Nat.zero_le _, rfl, HT2, fun j hj => absurd hj (Nat.not_lt_zero _), Only.refl _ _⟩
  case round =>
    obtain ⟨i, at', hi, rfl, HTr, HAr, HLr⟩ := hrel
    have HOr : Hid (wr.ownsRow (w.heap.size + 3) 107 1 (.slice ma S.length mc) S.length (ptrs T S)) := HLr.out.ownsB HW2.out.own (fun g hg ⟨j, hj, e⟩ => by have := (HMK.out g hg).1; have := HTl.out j hj; omega)
    by_cases hlt : i < S.length
    · obtain ⟨s, hs⟩ : ∃ s, S[i]? = some s := ⟨S[i], by simp [hlt]⟩
      have hsS : s ∈ S := List.mem_of_getElem? hs
      have hsn : s < n := HOA.out.1.lt s hsS
      have HD : Hid (S.getD i 0 = s) := by show _ = _; simp [hs]
      obtain ⟨og, oc', he, hog⟩ := owns_cell HOr.out (k := i) (y := ptr (T s)) (by simp [ptrs, hs])
      cases he
      obtain ⟨ord, hTb, _⟩ := HTr.out.tab s hsn
      obtain ⟨t0, _, _, tz⟩ := hTb.cells
      have hbi : (0 : Int) ≤ (i : Int) ∧ (i : Int) < (S.length : Int) := by omega
      clear hTb
      go_wp2
      go_roundw
      case rel =>
        refine ⟨i + 1, _, by omega, by go_num, HTr.out.setAt hsn _, fun j hj => ?_, HLr.out.set ⟨s, hsn, rfl⟩ _⟩
        by_cases e : j = i
        · subst e
          show (if S.getD j 0 = s then _ else _) = _
          rw [if_pos HD.out]
        · show (if S.getD j 0 = s then _ else _) = _
          have hjl : j < S.length := by omega
          rw [if_neg (fun e' => e ?_)]
          · exact HAr.out j (by omega)
          · rw [← HD.out] at e'
            rw [List.getD_eq_getElem?_getD, List.getD_eq_getElem?_getD, List.getElem?_eq_getElem hjl, List.getElem?_eq_getElem hlt] at e'
            simp only [Option.getD_some] at e'
            exact (List.getElem_inj HOA.out.1.nd).1 e'
      case measure => simp [intOf]; omega
    · obtain rfl : i = S.length := by omega
      have HBx : Hid (OutB wr w.heap.size zeroV (.slice none 0 0)) := (HLr.out.block _ (blk_lt HR2.out) (fun ⟨j, hj, e⟩ => by have := HTl.out j hj; omega)).trans HR2.out
      have HWx : Hid (wr.heap[w.heap.size + 2]? = some (.cells #[.slice ma S.length mc, .map (some (w.heap.size + 1))] 141 (0, 0))) := (HLr.out.block _ (blk_lt HW2.out.blk) (fun ⟨j, hj, e⟩ => by have := HTl.out j hj; omega)).trans HW2.out.blk
      have HLx : Hid (Only (fun k => ∃ j, j < n ∧ k = T j) w wr) := (Only.mono (Only.below HW2.out.bel) (fun k _ h => h)).trans HLr.out
      have HRN : Hid (∀ v : V, (v.k = 4 → v.a.toNat ∈ S) → atV at' v = renum S v) := show ∀ v, _ from fun v hv => atV_renum HAr.out hv
      have hsr := HLr.out.size
      obtain ⟨xt', xy', F, hty, hmeth, hcf, hcl⟩ := as_at hu T at'
      have hxx := HXV.out
      rw [hty] at hxx
      cases hxx
      have hcall := hcl wr HTr.out.at0
      rw [HRN.out u HOA.out.2.2] at hcall
      clear hcl hty HR2 HT2 HW2 HLr
      rw [HRU.out] at hcall
      go_wp2_with fail
      refine hcall.mono ?_
      clear hcall hmeth hcf
      rintro e w3 ⟨rfl, hb3⟩
      have HT3 : Hid (Tbs w3 n T M at' L K X) := HTr.out.below hb3
      have HB3 : Hid (OutB w3 w.heap.size zeroV (.slice none 0 0)) := blkB HBx.out hb3
      have HW3 : Hid (w3.heap[w.heap.size + 2]? = some (.cells #[.slice ma S.length mc, .map (some (w.heap.size + 1))] 141 (0, 0))) := blkB HWx.out hb3
      have HO3 : Hid (w3.ownsRow (w.heap.size + 3) 107 1 (.slice ma S.length mc) S.length (ptrs T S)) := (Only.below (P := fun _ => False) hb3).owns HOr.out (fun _ _ _ h => h)
      have HL3 : Hid (Only (fun k => ∃ j, j < n ∧ k = T j) w w3) := HLx.out.trans (Only.below hb3)
      have hs3 : w.heap.size + 3 ≤ w3.heap.size := by have := hb3.size; omega
      clear hb3 HTr HBx HWx HOr HLx HAr hsr
      obtain ⟨w4, hw4⟩ : ∃ w4, w4 = w3.alloc (.cells #[.int .i64 ru.k, .int .i64 ru.n, .string ru.s, .int .i64 ru.a, .slice none 0 0] 27) := ⟨_, rfl⟩
      have hb4 : Below w3.heap.size w3 w4 := by rw [hw4]; exact (Below.refl _ _).alloc (Nat.le_refl _) _
      have HU4 : Hid (OutB w4 w3.heap.size ru (.slice none 0 0)) := by rw [hw4]; exact heap_alloc_new _ _
      have hs4 : w4.heap.size = w3.heap.size + 1 := by rw [hw4]; simp
      have HT4 : Hid (Tbs w4 n T M at' L K X) := HT3.out.below hb4
      have HB4 : Hid (OutB w4 w.heap.size zeroV (.slice none 0 0)) := blkB HB3.out hb4
      have HW4 : Hid (w4.heap[w.heap.size + 2]? = some (.cells #[.slice ma S.length mc, .map (some (w.heap.size + 1))] 141 (0, 0))) := blkB HW3.out hb4
      have HO4 : Hid (w4.ownsRow (w.heap.size + 3) 107 1 (.slice ma S.length mc) S.length (ptrs T S)) := (Only.below (P := fun _ => False) hb4).owns HO3.out (fun _ _ _ h => h)
      have HL4 : Hid (Only (fun k => ∃ j, j < n ∧ k = T j) w w4) := HL3.out.trans (Only.below hb4)
      have HMK4 : Hid (∀ k, (Value.slice ma S.length mc).ownBlock = some k → w.heap.size + 3 ≤ k ∧ k < w3.heap.size) := show ∀ k, _ from fun k hk => by obtain ⟨_, _, _, h⟩ := owns_form HO3.out; exact h k hk
      obtain ⟨ob, hob⟩ : ∃ ob, w3.heap.size = ob := ⟨_, rfl⟩
      have x0 : w4.cell? ⟨w.heap.size + 1 + 1, 0, none⟩ = some (.slice ma S.length mc) := (two_at HW4.out).1
      rw [hw4] at x0
      have l3 : w.heap.size + 1 + 1 < w3.heap.size := by omega
      unfold vAgg
      go_wp2
      rw [← hw4]
      rw [hob] at HU4 HMK4 hs4 hs3
      clear x0 hw4 hb4 HT3 HB3 HW3 HO3 HL3 hob l3
      obtain ⟨it, hti, ht0, ht1, ht2⟩ := info_parts Tryz.info37
      go_loopw [38] (fun ii wr => ∃ (i : Nat) (tv : Value) (PV : Nat → Value), i ≤ S.length ∧ ii = .int .i64 i ∧ Hid (OutB wr ob ru tv) ∧ Hid (OTab wr w4.heap.size tv i PV (cL S L) (cK S K) (cX S X)) ∧ Hid (Only (fun k => k = ob) w4 wr)) (fun ii _ => S.length - (intOf ii).toNat)
      case atStart => exact ⟨0, _, fun _ => .nilIface, Nat.zero_le _, rfl, HU4, OTab.nil _ _ _ _ _ _, Only.refl _ _⟩
      case round =>
        obtain ⟨i, tv, PV, hi, rfl, HOr, HTr, HLr⟩ := hrel
        have hsr := HLr.out.size
        by_cases hlt : i < S.length
        · obtain ⟨s, hs⟩ : ∃ s, S[i]? = some s := ⟨S[i], by simp [hlt]⟩
          have hsS : s ∈ S := List.mem_of_getElem? hs
          have hsn : s < n := HOA.out.1.lt s hsS
          have HD : Hid (S.getD i 0 = s) := by show _ = _; simp [hs]
          have HRr : Hid (wr.ownsRow (w.heap.size + 3) 107 1 (.slice ma S.length mc) S.length (ptrs T S)) := HLr.out.ownsB HO4.out (fun g hg e => by have := (HMK4.out g hg).2; omega)
          obtain ⟨og, oc', he, hog⟩ := owns_cell HRr.out (k := i) (y := ptr (T s)) (by simp [ptrs, hs])
          cases he
          have HTb : Hid (Tbs wr n T M at' L K X) := HT4.out.only' HLr.out HU4.out (by decide) (by decide)
          have hbi : (0 : Int) ≤ (i : Int) ∧ (i : Int) < (S.length : Int) := by omega
          have hLs := HL.out s hsn
          have hpairs := pairs_any n T M at' L K X s wr.drew hsn hLs HG (HTb.out.below ((Below.refl _ _).drew))
          obtain ⟨ta', tc', rfl, htk⟩ := owns_form HTr.out.own
          obtain ⟨c0, c1, c2, c3, c4, z0⟩ := cells5 HOr.out
          have HN1 : Hid (∀ g, (Value.slice ta' i tc').ownBlock = some g → g < wr.heap.size) := show ∀ g, _ from fun g hg => (htk g hg).2
          have lob : ob < wr.heap.size := by omega
          clear htk
          go_wp2
          refine wp_region_held_drew (S := fun _ => True) (by kernel_rfl) trivial (fun hHeld => ?_)
          refine wpT (i := 0) (v := .pointer (some ⟨ob, 4, none⟩)) rfl (fun w hSw => ?_) hHeld ?_
          · first | rfl | go_simp
          simp only [Act.put, pz]
          refine wpT (i := 2) (v := .pointer (some ⟨T s, 0, none⟩)) rfl (fun w hSw => ?_) hHeld ?_
          · first | rfl | go_simp
          simp only [Act.put, pz]
          apply share3 (F := fun pa pc w5 => w5.ownsRow wr.heap.size 39 8 (.slice pa (L s) pc) (L s) (pairCells (K s) (fun c => atV at' (X s c)) (L s)) ∧ Below wr.heap.size wr.drew w5)
          · intro hG
            refine wpAnyH_ready (rs := [1, 3]) (by kernel_rfl) (by simp) ?_
            refine AllReadyH.cons rfl (fun K' hK' => ?_) (AllReadyH.cons rfl (fun K' hK' => ?_) AllReadyH.nil)
            · go_simp
              refine hK'.out _ _ trivial (fun hHeld => ?_)
              clear hK'
              refine wpAnyH_ready (rs := [3]) (by kernel_rfl) (by simp) ?_
              refine AllReadyH.cons rfl (fun K' hK' => ?_) AllReadyH.nil
              go_simp
              refine hpairs.mono ?_
              rintro e w5 ⟨⟨pv, rfl, hown⟩, hb5⟩
              obtain ⟨pa, pc, rfl, _⟩ := owns_form hown
              refine hK'.out _ _ trivial (fun hHeld => ?_)
              clear hK'
              refine wpT (i := 4) (v := .agg #[.slice pa (L s) pc]) rfl (fun w hSw => ?_) hHeld ?_
              · first | rfl | go_simp
              simp only [Act.put, pz]
              refine wpAnyH_ready (rs := [5]) (by kernel_rfl) (by simp) ?_
              refine AllReadyH.cons rfl (fun K' hK' => ?_) AllReadyH.nil
              go_simp
              refine hK'.out _ _ trivial (fun hHeld => ?_)
              clear hK'
              exact hG.out pa pc w5 ⟨hown, hb5⟩
            · go_simp
              refine hpairs.mono ?_
              rintro e w5 ⟨⟨pv, rfl, hown⟩, hb5⟩
              obtain ⟨pa, pc, rfl, _⟩ := owns_form hown
              refine hK'.out _ _ trivial (fun hHeld => ?_)
              clear hK'
              have c45 : w5.cell? ⟨ob, 4, none⟩ = some (.slice ta' i tc') := (hb5.cell (p := ⟨ob, 4, none⟩) lob).trans c4
              have l5 : ob < w5.heap.size := Nat.lt_of_lt_of_le lob hb5.size
              refine wpT (i := 4) (v := .agg #[.slice pa (L s) pc]) rfl (fun w hSw => ?_) hHeld ?_
              · first | rfl | go_simp
              simp only [Act.put, pz]
              refine wpAnyH_ready (rs := [1, 5]) (by kernel_rfl) (by simp) ?_
              refine AllReadyH.cons rfl (fun K' hK' => ?_) (AllReadyH.cons rfl (fun K' hK' => ?_) AllReadyH.nil)
              · go_simp
                refine hK'.out _ _ trivial (fun hHeld => ?_)
                clear hK'
                refine wpAnyH_ready (rs := [5]) (by kernel_rfl) (by simp) ?_
                refine AllReadyH.cons rfl (fun K' hK' => ?_) AllReadyH.nil
                go_simp
                refine hK'.out _ _ trivial (fun hHeld => ?_)
                clear hK'
                exact hG.out pa pc w5 ⟨hown, hb5⟩
              · go_simp
                refine hK'.out _ _ trivial (fun hHeld => ?_)
                clear hK'
                refine wpAnyH_ready (rs := [1]) (by kernel_rfl) (by simp) ?_
                refine AllReadyH.cons rfl (fun K' hK' => ?_) AllReadyH.nil
                go_simp
                refine hK'.out _ _ trivial (fun hHeld => ?_)
                clear hK'
                exact hG.out pa pc w5 ⟨hown, hb5⟩
          · rintro pa pc w5 ⟨hown5, hb5⟩
            have HB5 : Hid (Below wr.heap.size wr w5) := ⟨hb5.os, hb5.tape, hb5.output, hb5.size, hb5.block⟩
            have HU5 : Hid (OutB w5 ob ru (.slice ta' i tc')) := blkB HOr.out HB5.out
            have HT5 : Hid (OTab w5 w4.heap.size (.slice ta' i tc') i PV (cL S L) (cK S K) (cX S X)) := HTr.out.below HB5.out
            have HL5 : Hid (Only (fun k => k = ob) w4 w5) := HLr.out.trans (Only.below HB5.out)
            have HP5 : Hid (w5.ownsRow wr.heap.size 39 8 (.slice pa (L s) pc) (L s) (pairCells (K s) (fun c => renum S (X s c)) (L s))) := by
              have e : pairCells (K s) (fun c => atV at' (X s c)) (L s) = pairCells (K s) (fun c => renum S (X s c)) (L s) := pairCells_congr (fun c hc => ⟨rfl, HRN.out _ (HOA.out.2.1 s hsS c hc)⟩)
              rw [← e]; exact hown5
            have hs5 := HB5.out.size
            clear hown5 hb5 hpairs c0 c1 c2 c3 c4 z0
            refine wpAnyH_ready (rs := [6]) (by kernel_rfl) (by simp) ?_
            refine AllReadyH.cons rfl (fun K' hK' => ?_) AllReadyH.nil
            refine step_append_lies _ (by rfl) (.tmp 43) (.tmp 47) 25 (by rfl) w4.heap.size 37 it (.agg #[.slice none 0 0]) 1 24 Tryz.underlying25 hti ht0 ht1 ht2 (by rfl) (by omega) (.slice ta' i tc') i ((List.range i).map PV) (by rfl) (HT5.out.own.alloc _) ⟨w5.heap.size, 0, none⟩ 1 1 [.slice pa (L s) pc] (by rfl) (by rfl) (World.news_of_block (heap_alloc_new w5 _)) (by intro u hu; simp at hu; subst hu; rfl) (by omega) (by unfold maxLen; omega) (by omega) (by simp; omega) (w5.heap.size + 1) (by simp) ?_
            intro g cap w7 hown7 hgrow7 hat7 hlt7
            obtain ⟨hT7, hB7⟩ := HT5.out.more (owns_mono HP5.out (by omega)) (fun j hj g hg e => by
              obtain ⟨_, _, _, h⟩ := owns_form HP5.out
              have h1 := (h g e).1
              obtain ⟨_, _, _, h'⟩ := owns_form (HTr.out.rows j hj)
              have h2 := (h' g hg).2
              omega) _ (by omega) hown7 hgrow7
            have HT7 : Hid (OTab w7 w4.heap.size (.slice (some ⟨g, 0, none⟩) (i + 1) cap) (i + 1) (fun j => if j = i then .slice pa (L s) pc else PV j) (cL S L) (cK S K) (cX S X)) := hT7.congr (fun j hj => by
                by_cases e : j = i
                · subst e; simp only [if_true, cL]; rw [HD.out]
                · simp only [e, if_false]) (fun j hj c' hc' => by
                by_cases e : j = i
                · subst e
                  show (if j = j then K s else cK S K j) c' = cK S K j c' ∧ (if j = j then (fun c => renum S (X s c)) else cX S X j) c' = cX S X j c'
                  rw [if_pos rfl, if_pos rfl]
                  unfold cK cX
                  rw [HD.out]
                  exact ⟨rfl, rfl⟩
                · show (if j = i then K s else cK S K j) c' = cK S K j c' ∧ (if j = i then (fun c => renum S (X s c)) else cX S X j) c' = cX S X j c'
                  rw [if_neg e, if_neg e]
                  exact ⟨rfl, rfl⟩)
            have HU7 : Hid (OutB w7 ob ru (.slice ta' i tc')) := (hB7.block _ (by omega)).trans HU5.out
            have HL7 : Hid (Only (fun k => k = ob) w4 w7) := HL5.out.thenBelow hB7 (Nat.le_refl _)
            refine hK'.out _ _ trivial (fun hHeld => ?_)
            clear hK' hT7 hB7 hown7 hgrow7 hat7 hlt7 HT5 HU5 HL5 HP5 HB5 HOr HTr HLr
            obtain ⟨c0, c1, c2, c3, c4, z0⟩ := cells5 HU7.out
            simp only [Act.put, pz]
            refine wpT (i := 7) (v := .pointer (some ⟨ob, 4, none⟩)) rfl (fun w hSw => ?_) hHeld ?_
            · first | rfl | go_simp
            simp only [Act.put, pz]
            refine wpAnyH_ready (rs := [8]) (by kernel_rfl) (by simp) ?_
            refine AllReadyH.cons rfl (fun K' hK' => ?_) AllReadyH.nil
            go_simp
            refine hK'.out _ _ trivial (fun hHeld => ?_)
            clear hK' hHeld
            refine wpAnyH_done (by kernel_rfl) ?_ _
            go_wp2
            go_roundw
            case rel =>
              refine ⟨i + 1, .slice (some ⟨g, 0, none⟩) (i + 1) cap, _, by omega, by go_num, put5hi HU7.out _, HT7.out.only ((Only.refl (fun k => k = ob) w7).set (p := ⟨ob, 4, none⟩) rfl _) (fun k hk e => by omega), HL7.out.set rfl _⟩
            case measure => simp [intOf]; omega
        · obtain rfl : i = S.length := by omega
          obtain ⟨ta', tc', rfl, _⟩ := owns_form HTr.out.own
          have HBr : Hid (OutB wr w.heap.size zeroV (.slice none 0 0)) := (HLr.out.block _ (blk_lt HB4.out) (by omega)).trans HB4.out
          obtain ⟨c0, c1, c2, c3, c4, z0⟩ := cells5 HOr.out
          obtain ⟨r0, r1, r2, r3, r4, r5⟩ := cells5 HBr.out
          simp only [zeroV] at r0 r1 r2 r3
          go_wp2
          have F := put5hi (put5lo HBr.out (.int .i64 ru.k) (.int .i64 ru.n) (.string ru.s) (.int .i64 ru.a)) (.slice ta' S.length tc')
          obtain ⟨wf, hwf⟩ : ∃ wf, wf = ((((wr.setCell ⟨w.heap.size, 0, none⟩ (.int .i64 ru.k)).setCell ⟨w.heap.size, 1, none⟩ (.int .i64 ru.n)).setCell ⟨w.heap.size, 2, none⟩ (.string ru.s)).setCell ⟨w.heap.size, 3, none⟩ (.int .i64 ru.a)).setCell ⟨w.heap.size, 4, none⟩ (.slice ta' S.length tc') := ⟨_, rfl⟩
          have ho : Only (fun k => k = w.heap.size) wr wf := by rw [hwf]; exact set4_only.set (p := ⟨w.heap.size, 4, none⟩) rfl _
          rw [← hwf] at F ⊢
          clear hwf
          obtain ⟨q0, q1, q2, q3, q4, _⟩ := cells5 F
          refine bodyPost_ret (v := .agg #[.int .i64 ru.k, .int .i64 ru.n, .string ru.s, .int .i64 ru.a, .slice ta' S.length tc']) (by simp [results, Tryz.results30, go_sem, q0, q1, q2, q3, q4]) rfl ⟨⟨_, PV, w4.heap.size, by omega, rfl, HTr.out.only ho (fun k hk e => by omega)⟩, ?_⟩
          refine HL4.out.thenBelow ((HLr.out.toBelow (base := w.heap.size) (fun k hk => by omega) (by omega)).trans (ho.toBelow (fun k hk => by omega) (by omega))) (Nat.le_refl _)

end Go.Proofs.YtgflalfiopnmnaaGreatDoor

namespace Go.Proofs.YtgflalfiopnmnaaGreatDoor
open Go.RowKit Vl

theorem owns_setK {w : World} {base t s n : Nat} {v : Value} {xs : List Value} (h : w.ownsRow base t s v n xs) {p : Addr} (hp : p.block < base) (x : Value) : (w.setCell p x).ownsRow base t s v n xs :=
  ownsRow_setCell_other h (fun e => by
    obtain ⟨_, _, _, hk⟩ := owns_form h
    have := (hk _ e).1
    omega) _

structure DrT (w0 w : World) (CB xb : Nat) (ca : Option Addr) (cl cc cb co t : Nat) (pv : Value) (l : Nat) (k x : Nat → V) : Prop where
  out : w.heap[xb]? = some (.cells #[pv] 37 (0, 0))
  row : w.ownsRow w0.heap.size 39 8 pv l (pairCells k x l)
  rd : Rd w CB ca cl cc cb co t
  only : Only (fun j => j = xb ∨ j = CB) w0 w

structure DrL (w0 : World) (CB xb cl cb : Nat) : Prop where
  cur : CB < xb
  byt : 0 < cl → cb < xb
  tab : xb < w0.heap.size

structure DrP (n l : Nat) (k x : Nat → V) : Prop where
  key : ∀ c, c < l → keyP (k c)
  val : ∀ c, c < l → valP n (x c)
  once : ∀ c, c < l → ∀ j, j < c → eqV (k j) (k c) = false
theorem DrP.nil (n : Nat) (k x : Nat → V) : DrP n 0 k x := ⟨fun _ h => absurd h (Nat.not_lt_zero _), fun _ h => absurd h (Nat.not_lt_zero _), fun _ h => absurd h (Nat.not_lt_zero _)⟩
theorem DrP.more {n l : Nat} {k x : Nat → V} (h : DrP n l k x) {kk xx : V} (hk : keyP kk) (hx : valP n xx) (hn : ∀ j, j < l → eqV (k j) kk = false) : DrP n (l + 1) (fun c => if c = l then kk else k c) (fun c => if c = l then xx else x c) := by
  refine ⟨fun c hc => ?_, fun c hc => ?_, fun c hc j hj => ?_⟩
  · by_cases e : c = l
    · simp only [e, if_true]; exact hk
    · simp only [e, if_false]; exact h.key c (by omega)
  · by_cases e : c = l
    · simp only [e, if_true]; exact hx
    · simp only [e, if_false]; exact h.val c (by omega)
  · have ej : ¬ j = l := by omega
    by_cases e : c = l
    · simp only [e, ej, if_true, if_false]; exact hn j (by omega)
    · simp only [e, ej, if_false]; exact h.once c (by omega) j hj

section
variable {w0 w w' w6 : World} {CB xb : Nat} {ca : Option Addr} {cl cc cb co t l : Nat} {pv : Value} {k x : Nat → V}
theorem DrT.below (h : DrT w0 w CB xb ca cl cc cb co t pv l k x) (hb : Below w.heap.size w w') : DrT w0 w' CB xb ca cl cc cb co t pv l k x :=
  ⟨blkB h.out hb, (Only.below (P := fun _ => False) hb).owns h.row (fun _ _ _ h => h), h.rd.below hb, h.only.trans (Only.below hb)⟩
theorem DrT.mono {t' : Nat} (h : DrT w0 w CB xb ca cl cc cb co t pv l k x) (ht : t ≤ t') : DrT w0 w CB xb ca cl cc cb co t' pv l k x := ⟨h.out, h.row, h.rd.mono ht, h.only⟩
theorem DrT.next {s : Nat} (h : DrT w0 w CB xb ca cl cc cb co t pv l k x) (hl : DrL w0 CB xb cl cb) (ho : Only (fun j => j = CB) w w') (hr : Rd w' CB ca cl cc cb co s) : DrT w0 w' CB xb ca cl cc cb co s pv l k x :=
  ⟨(ho.block xb (blk_lt h.out) (by have := hl.cur; omega)).trans h.out, ho.owns h.row (fun g hg _ e => by have := hl.cur; have := hl.tab; omega), hr, h.only.trans (ho.mono (fun _ _ e => Or.inr e))⟩
theorem DrT.far (h : DrT w0 w CB xb ca cl cc cb co t pv l k x) (hl : DrL w0 CB xb cl cb) {p : Addr} (hp : w0.heap.size ≤ p.block) (hne : pv.ownBlock ≠ some p.block) (v : Value) : DrT w0 (w.setCell p v) CB xb ca cl cc cb co t pv l k x := by
  have hx := hl.tab
  refine ⟨?_, ownsRow_setCell_other (a := p) h.row hne v, h.rd.keep ((Below.refl w0.heap.size w).setCell hp v) (by have := hl.cur; omega) (fun h => by have := hl.byt h; omega), only_set h.only hp v⟩
  rw [Below.heap_setCell _ _ _ _ (by omega)]
  exact h.out
theorem DrT.more {g cap : Nat} {o1 : Obj} (h : DrT w0 w CB xb ca cl cc cb co t pv l k x) (hl : DrL w0 CB xb cl cb) {kk xx : V} (hgrow : (w.alloc o1).grownBy w6 pv.ownBlock)
    (hown : w6.ownsRow w0.heap.size 39 8 (.slice (some ⟨g, 0, none⟩) (l + 1) cap) (l + 1) (pairCells k x l ++ [.int .i64 kk.k, .int .i64 kk.n, .string kk.s, .int .i64 kk.a, .int .i64 xx.k, .int .i64 xx.n, .string xx.s, .int .i64 xx.a])) :
    (w6.cell? ⟨xb, 0, none⟩ = some pv ∧ w6.frozen? ⟨xb, 0, none⟩ = false) ∧ DrT w0 (w6.setCell ⟨xb, 0, none⟩ (.slice (some ⟨g, 0, none⟩) (l + 1) cap)) CB xb ca cl cc cb co t (.slice (some ⟨g, 0, none⟩) (l + 1) cap) (l + 1) (fun c => if c = l then kk else k c) (fun c => if c = l then xx else x c) := by
  obtain ⟨_, _, _, hk⟩ := owns_form h.row
  have hs := h.only.size
  have hx := hl.tab
  have hbl : ∀ k, k < w.heap.size → pv.ownBlock ≠ some k → w6.heap[k]? = w.heap[k]? := fun k hk hne =>
    (hgrow.block k (by simp; omega) (fun e => hne e.symm)).trans (Below.heap_alloc w o1 k hk)
  have n1 : ∀ k, k < w0.heap.size → pv.ownBlock ≠ some k := fun k hk' e => by have := (hk _ e).1; omega
  have h6 : w6.heap[xb]? = some (.cells #[pv] 37 (0, 0)) := (hbl xb (by omega) (n1 xb hx)).trans h.out
  have hsz : w.heap.size ≤ w6.heap.size := by have := hgrow.size; simp at this; omega
  have ho : Only (fun j => j = xb ∨ j = CB) w0 w6 := ⟨hgrow.os.trans h.only.os, hgrow.tape.trans h.only.tape, hgrow.output.trans h.only.output, by omega, fun k hk' hp => (hbl k (by omega) (n1 k hk')).trans (h.only.block k hk' hp)⟩
  have hb0 : Below xb w w6 := ⟨hgrow.os, hgrow.tape, hgrow.output, hsz, fun k hk' => hbl k (by omega) (n1 k (by omega))⟩
  have hb6 : Below xb w (w6.setCell ⟨xb, 0, none⟩ (.slice (some ⟨g, 0, none⟩) (l + 1) cap)) := hb0.setCell (p := ⟨xb, 0, none⟩) (Nat.le_refl _) _
  obtain ⟨c0, cz⟩ := one_at h6
  refine ⟨⟨c0, cz 0⟩, one_put h6 _, ?_, h.rd.keep hb6 hl.cur hl.byt, ho.set (p := ⟨xb, 0, none⟩) (Or.inl rfl) _⟩
  rw [pairCells_succ]
  simp only [if_true]
  rw [pairCells_congr (K := fun c => if c = l then kk else k c) (X := fun c => if c = l then xx else x c) (K' := k) (X' := x) (fun j hj => ⟨by simp only [show ¬ j = l by omega, if_false], by simp only [show ¬ j = l by omega, if_false]⟩)]
  exact owns_setK hown (p := ⟨xb, 0, none⟩) hx _
end

end Go.Proofs.YtgflalfiopnmnaaGreatDoor
