import Derived.Test.YtgflalfiopnmnaaGreatDoorR5
import Derived.Laws.Tables
import Derived.Deep.MidRow
import Derived.Laws.Rows
import Derived.Test.YtgflalfiopnmnaaGreatDoorR3
namespace Go.Proofs.YtgflalfiopnmnaaGreatDoor
open Go.RowKit Vl

/-- The cells of a look. -/
def lkc (l : Lk) (i : Nat) : Value := if i = 0 then .int .i64 (l.was : Nat) else .int .u16 (l.parts (i - 1) : Nat)
theorem lkCells_map (l : Lk) : lkCells l = (List.range 101).map (lkc l) := by
  unfold lkCells
  rw [List.range_succ_eq_map]
  simp only [List.map_cons, List.map_map]
  rfl

/-- A block that is a look. -/
def LkB (w : World) (b : Nat) (l : Lk) : Prop := w.heap[b]? = some (.cells (lkCells l).toArray 220 (0, 0))
theorem LkB.below {w w' : World} {b : Nat} {l : Lk} (h : LkB w b l) (hb : Below w.heap.size w w') : LkB w' b l := (hb.block b (blk_lt h)).trans h
theorem LkB.lt {w : World} {b : Nat} {l : Lk} (h : LkB w b l) : b < w.heap.size := blk_lt h
theorem lk_one (l : Lk) : ∀ v ∈ lkCells l, v.oneCell' = true := by
  intro v hv
  rw [lkCells_map] at hv
  obtain ⟨i, _, rfl⟩ := List.mem_map.1 hv
  unfold lkc
  split <;> rfl
theorem LkB.load {w : World} {b : Nat} {l : Lk} (h : LkB w b l) : (loadCells ⟨b, 0, none⟩ 101).run Tryz.prog w = .ok (lkCells l).toArray w := by
  have := run_loadCells_list (P := Tryz.prog) w ⟨b, 0, none⟩ (lkCells l) (fun j v hv => by
    have hadd : (⟨b, 0, none⟩ : Addr).add j = ⟨b, j, none⟩ := by unfold Addr.add; split <;> simp_all
    rw [hadd]
    unfold LkB at h
    simp [World.cell?, h]
    simpa using hv)
  rw [lkCells_len] at this
  exact this
theorem LkB.store {w : World} {b : Nat} {cur : Array Value} (l : Lk) (h : w.heap[b]? = some (.cells cur 220 (0, 0))) (hs : cur.size = 101) : ∃ w', (storeCells ⟨b, 0, none⟩ (lkCells l)).run Tryz.prog w = .ok () w' ∧ LkB w' b l ∧ Only (fun k => k = b) w w' ∧ w'.heap.size = w.heap.size := by
  have := run_storeCells_from (P := Tryz.prog) b 220 (lkCells l) 0 cur w h (by rw [lkCells_len, hs]) (lk_one l)
  simp only [List.take_zero, List.nil_append] at this
  refine ⟨_, this, ?_, ?_, ?_⟩
  · unfold LkB World.setRow
    simp [Array.getElem?_modify, h]
  · refine ⟨rfl, rfl, rfl, ?_, fun k _ hk => ?_⟩
    · simp [World.setRow]
    · unfold World.setRow
      simp [Array.getElem?_modify]
      intro e
      exact absurd e.symm hk
  · simp [World.setRow]
theorem LkB.cell {w : World} {b : Nat} {l : Lk} (h : LkB w b l) {i : Nat} (hi : i < 101) : w.cell? ⟨b, i, none⟩ = some (lkc l i) ∧ ∀ j, w.frozen? ⟨b, j, none⟩ = false := by
  unfold LkB at h
  refine ⟨?_, fun j => by simp [World.frozen?, h]⟩
  simp [World.cell?, h, lkCells_map, hi]
theorem LkB.set {w : World} {b : Nat} {l : Lk} (h : LkB w b l) (i v : Nat) (hi : i < 100) : LkB (w.setCell ⟨b, 1 + i, none⟩ (.int .u16 (v : Nat))) b ⟨l.was, fun j => if j = i then v else l.parts j⟩ := by
  unfold LkB at h ⊢
  simp only [World.setCell, Array.getElem?_modify, h, if_true, Option.map_some, Option.isSome_none, Bool.false_eq_true, if_false]
  congr 2
  apply Array.ext_getElem?
  intro j
  simp only [Array.getElem?_setIfInBounds, List.size_toArray, List.getElem?_toArray, lkCells_map, List.getElem?_map, List.length_map, List.length_range]
  by_cases hj : j < 101
  · rw [List.getElem?_range hj]
    by_cases e : 1 + i = j
    · subst e
      rw [if_pos rfl, if_pos (by omega)]
      simp [lkc]
    · rw [if_neg e]
      simp only [Option.map_some, lkc]
      by_cases e0 : j = 0
      · subst e0; simp
      · rw [if_neg e0, if_neg e0, if_neg (by omega)]
  · rw [List.getElem?_eq_none (by simp; omega)]
    rw [if_neg (by omega)]
    rfl

theorem LkB.range {w : World} {b : Nat} {l : Lk} (h : LkB w b l) : w.rangeAt b 0 (lkCells l) := fun j v hv => by
  unfold LkB at h
  rw [Nat.zero_add]
  simp [World.cell?, h]
  simpa using hv
theorem size_look (l : Lk) : (Tryz.prog.info? 220).map (·.size) = some (lkCells l).length := by
  rw [lkCells_len]
  kernel_rfl
theorem row_look : ∃ d, Tryz.prog.underlying 220 = some d ∧ d.isRow = true := ⟨_, Tryz.underlying220, rfl⟩
theorem LkB.loadVar {w : World} {b : Nat} {l : Lk} (h : LkB w b l) : (loadVar 220 ⟨b, 0, none⟩).run Tryz.prog w = .ok (lkV l) w := by
  obtain ⟨d, hd, hr⟩ := row_look
  exact run_loadVar_mid w b 0 220 (lkCells l) d h.range hd hr (size_look l)
theorem zero_look : Tryz.zeroCells220 = (lkCells ⟨0, fun _ => 0⟩).toArray := by kernel_rfl
theorem zero_set (u : Nat) : Tryz.zeroCells220.toList.set 0 (.int .i64 (u : Nat)) = lkCells ⟨u, fun _ => 0⟩ := by kernel_rfl
theorem LkB.new (w : World) : LkB (w.alloc (.cells Tryz.zeroCells220 220)) w.heap.size ⟨0, fun _ => 0⟩ := by
  unfold LkB
  rw [zero_look]
  exact heap_alloc_new _ _

/-- What a table looks like whose leads are of these classes. -/
def lkOf (u : Nat) (cl ld : Nat → Nat) (c : Nat) : Lk := ⟨u, fun i => if i < c then cl (ld i) else 0⟩

set_option maxHeartbeats 2000000 in
set_option maxRecDepth 100000 in
/-- 'lookOf'. -/
theorem lookOf_any (u L C n cp : Nat) (la : Option Addr) (lb g : Nat) (cl ld : Nat → Nat) (w : World) (hL : L ≤ 100) (HLd : Hid (∀ i, i < L → ld i < n)) (HCl : Hid (∀ i, i < n → cl i < 1000))
    (hla : 0 < L → la = some ⟨lb, 0, none⟩) (HL : Hid (ClsAt w lb L ld)) (HC : Hid (ClsAt w g n cl)) :
    Calls Tryz.prog 120 #[.int .i64 u, .slice la L C, .slice (some ⟨g, 0, none⟩) n cp] w fun e w' => e = .returned (lkV (lkOf u cl ld L)) ∧ Below w.heap.size w w' := by
  have hz := zero_set u
  have H1 : Hid (LkB ((w.alloc (.cells Tryz.zeroCells220 220)).alloc (.cells Tryz.zeroCells220 220)) (w.heap.size + 1) ⟨0, fun _ => 0⟩) := by
    have := LkB.new (w.alloc (.cells Tryz.zeroCells220 220))
    show LkB _ _ _
    simpa using this
  obtain ⟨w1, hst, hB1, hO1, hs1⟩ := LkB.store ⟨u, fun _ => 0⟩ H1.out (by simp [lkCells_len])
  have hbe : Below w.heap.size w ((w.alloc (.cells Tryz.zeroCells220 220)).alloc (.cells Tryz.zeroCells220 220)) := (alloc2 w _ _).2.2.2
  have HB1 : Hid (LkB w1 (w.heap.size + 1) ⟨u, fun _ => 0⟩) := hB1
  have HR1 : Hid (LkB w1 w.heap.size ⟨0, fun _ => 0⟩) := by
    have := (alloc2 w (.cells Tryz.zeroCells220 220) (.cells Tryz.zeroCells220 220)).1
    rw [zero_look] at this
    exact (hO1.block _ (by simp; omega) (by omega)).trans (by rw [zero_look]; exact this)
  have HW1 : Hid (Below w.heap.size w w1) := hbe.trans (hO1.toBelow (fun k hk => by omega) hbe.size)
  clear hB1 hO1 hs1 hbe H1
  go_enter Tryz.func120, Tryz.ntmps120
  go_wp2
  clear hz hst
  go_loopw [14] (fun ii wr => ∃ c : Nat, c ≤ L ∧ ii = .int .i64 c ∧ Hid (LkB wr (w.heap.size + 1) (lkOf u cl ld c)) ∧ Hid (Only (fun k => k = w.heap.size + 1) w1 wr)) (fun ii _ => L - (intOf ii).toNat)
  case atStart =>
    refine ⟨0, Nat.zero_le _, rfl, ?_, Only.refl _ _⟩
    have e : lkOf u cl ld 0 = ⟨u, fun _ => 0⟩ := by unfold lkOf; simp
    rw [e]
    exact HB1
  case round =>
    obtain ⟨c, hc, rfl, HBc, HOc⟩ := hrel
    have HWr : Hid (Below w.heap.size w wr) := HW1.out.trans (HOc.out.toBelow (fun k hk => by omega) HW1.out.size)
    by_cases hlt : c < L
    · obtain rfl := hla (by omega)
      have l0 := HL.out.below HWr.out c hlt
      have hd := HLd.out c hlt
      obtain ⟨d, HD⟩ : ∃ d, Hid (ld c = d) := ⟨_, rfl⟩
      rw [HD.out] at l0 hd
      have c0 := HC.out.below HWr.out d hd
      have hcl := HCl.out d hd
      obtain ⟨x, HX⟩ : ∃ x, Hid (cl d = x) := ⟨_, rfl⟩
      rw [HX.out] at c0 hcl
      have hwx : IntKind.u16.wrap (x : Int) = (x : Int) := by unfold IntKind.wrap; simp [IntKind.bits, IntKind.signed]; omega
      have hbc : (0 : Int) ≤ (c : Int) ∧ (c : Int) < (L : Int) := by omega
      have hbc' : (0 : Int) ≤ (c : Int) ∧ (c : Int) < 100 := by omega
      have hbd : (0 : Int) ≤ (d : Int) ∧ (d : Int) < (n : Int) := by omega
      obtain ⟨p0, pz⟩ := HBc.out.cell (i := 1 + c) (by omega)
      have HB2 : Hid (LkB (wr.setCell ⟨w.heap.size + 1, 1 + c, none⟩ (.int .u16 (x : Nat))) (w.heap.size + 1) (lkOf u cl ld (c + 1))) := by
        have := HBc.out.set c x (by omega)
        have e : (⟨(lkOf u cl ld c).was, fun j => if j = c then x else (lkOf u cl ld c).parts j⟩ : Lk) = lkOf u cl ld (c + 1) := by
          unfold lkOf
          congr 1
          funext j
          simp only
          by_cases e : j = c
          · rw [if_pos e, if_pos (by omega), e, HD.out, HX.out]
          · rw [if_neg e]
            by_cases h' : j < c
            · rw [if_pos h', if_pos (by omega)]
            · rw [if_neg h', if_neg (by omega)]
        rw [e] at this
        exact this
      have HO2 : Hid (Only (fun k => k = w.heap.size + 1) w1 (wr.setCell ⟨w.heap.size + 1, 1 + c, none⟩ (.int .u16 (x : Nat)))) := HOc.out.set rfl _
      clear HBc HOc
      go_wp2
      go_roundw
      case rel => exact ⟨c + 1, by omega, by go_num, HB2, HO2⟩
      case measure => simp [intOf]; omega
    · obtain rfl : c = L := by omega
      have hld := HBc.out.load
      have HRc : Hid (LkB wr w.heap.size ⟨0, fun _ => 0⟩) := (HOc.out.block _ HR1.out.lt (by omega)).trans HR1.out
      obtain ⟨w2, hst, hB2, hO2, hs2⟩ := LkB.store (lkOf u cl ld c) HRc.out (by simp [lkCells_len])
      have HB2 : Hid (LkB w2 w.heap.size (lkOf u cl ld c)) := hB2
      have HW2 : Hid (Below w.heap.size w w2) := HWr.out.trans (hO2.toBelow (fun k hk => by omega) HWr.out.size)
      clear hB2 hO2 hs2
      obtain ⟨lk, hlk⟩ : ∃ lk, lkOf u cl ld c = lk := ⟨_, rfl⟩
      rw [hlk] at hld hst HB2
      have HLK : Hid (lkOf u cl ld c = lk) := hlk
      clear hlk hld
      have HRG : Hid (wr.rangeAt (w.heap.size + 1) 0 (lkCells lk)) := by rw [← HLK.out]; exact HBc.out.range
      obtain ⟨d, hd, hr⟩ := row_look
      go_wp2
      refine wp_load_mid 220 (.tmp 7) rfl (w.heap.size + 1) 0 rfl (lkCells lk) d HRG.out hd hr (size_look lk) ?_
      clear hd hr
      go_wp2
      refine bodyPost_ret (v := lkV lk) (results_cell_row Tryz.results120 _ _ w.heap.size 220 _ (0, 0) _ rfl HB2.out Tryz.underlying220 rfl (by rw [List.size_toArray]; exact size_look lk)) rfl ⟨by rw [HLK.out], HW2.out⟩

end Go.Proofs.YtgflalfiopnmnaaGreatDoor

namespace Go.Proofs.YtgflalfiopnmnaaGreatDoor
open Go.RowKit Vl

set_option maxHeartbeats 2000000 in
set_option maxRecDepth 100000 in
/-- '(*table).pairs'. -/
theorem pairs_any (n : Nat) (T M : Nat → Nat) (at_ : Nat → Int) (L : Nat → Nat) (K X : Nat → Nat → V) (r : Nat) (w : World) (hr : r < n) (hL : L r ≤ 100) (HG : Hid (Good n L X)) (HT : Hid (Tbs w n T M at_ L K X)) :
    Calls Tryz.prog 60 #[.pointer (some ⟨T r, 0, none⟩)] w fun e w' => (∃ pv, e = .returned pv ∧ w'.ownsRow w.heap.size 39 8 pv (L r) (pairCells (K r) (fun c => atV at_ (X r c)) (L r))) ∧ Below w.heap.size w w' := by
  obtain ⟨ord, hTb, hOr⟩ := HT.out.tab r hr
  obtain ⟨l, hM, hfind⟩ := HT.out.map r hr
  obtain ⟨hform, hVals⟩ := owns_keys hOr
  have HTb : Hid (TabB w (T r) (M r) (at_ r) ord) := hTb
  have HM : Hid (MapIs w (M r) l) := hM
  have HF : Hid (∀ c, c < L r → findV (K r c) l = some (ifv T (X r c))) := hfind
  obtain ⟨ka, hka⟩ : ∃ ka, slA ord = ka := ⟨_, rfl⟩
  obtain ⟨kb, hkb⟩ : ∃ kb, slB ord = kb := ⟨_, rfl⟩
  obtain ⟨kc, hkc⟩ : ∃ kc, slC ord = kc := ⟨_, rfl⟩
  rw [hka, hkc] at hform
  rw [hka, hkb] at hVals
  have HV : Hid (ValsAt w ka (L r) kb 0 (K r)) := hVals
  rw [hform] at HTb
  clear hTb hM hfind hVals hOr hform hka hkb hkc
  obtain ⟨ip, hpi, hp0, hp1, hp2⟩ := info_parts Tryz.info39
  obtain ⟨t0, t1, t2, _⟩ := HTb.out.cells
  go_enter Tryz.func60, Tryz.ntmps60
  go_wp2
  clear t0 t1 t2
  go_loopw [3, 11] (fun pv ii wr => ∃ c : Nat, c ≤ L r ∧ ii = .int .i64 c ∧ Hid (wr.ownsRow w.heap.size 39 8 pv c (pairCells (K r) (fun c => atV at_ (X r c)) c)) ∧ Hid (Below w.heap.size w wr)) (fun _ ii _ => L r - (intOf ii).toNat)
  case atStart => exact ⟨0, Nat.zero_le _, rfl, World.ownsRow_nil _ _ _ _, Below.refl _ _⟩
  case round =>
    obtain ⟨c, hc, rfl, HO, HB⟩ := hrel
    obtain ⟨pa, pc, rfl, hpk⟩ := owns_form HO.out
    have HPK : Hid (∀ k, (Value.slice pa c pc).ownBlock = some k → w.heap.size ≤ k ∧ k < wr.heap.size) := hpk
    clear hpk
    by_cases hlt : c < L r
    · obtain rfl := HV.out.top (by omega)
      obtain ⟨k0, k1, k2, k3⟩ := (HV.out.below HB.out).cells hlt
      simp only [Nat.zero_add] at k0 k1 k2 k3
      obtain ⟨kk, HKK⟩ : ∃ kk, Hid (K r c = kk) := ⟨_, rfl⟩
      rw [HKK.out] at k0 k1 k2 k3
      go_wp2
      obtain ⟨wk, hwk⟩ : ∃ wk, wk = wr.alloc (.cells #[.int .i64 kk.k, .int .i64 kk.n, .string kk.s, .int .i64 kk.a] 24) := ⟨_, rfl⟩
      have HBk : Hid (Below wr.heap.size wr wk) := by rw [hwk]; exact (Below.refl _ _).alloc (Nat.le_refl _) _
      have HKb : Hid (ValB wk wr.heap.size kk) := by rw [hwk]; exact heap_alloc_new _ _
      rw [← hwk]
      have hszk : wk.heap.size = wr.heap.size + 1 := by rw [hwk]; simp
      obtain ⟨qb, hqb⟩ : ∃ qb, wr.heap.size = qb := ⟨_, rfl⟩
      have hqw : w.heap.size ≤ qb := by rw [← hqb]; exact HB.out.size
      rw [hqb] at HKb ⊢
      clear hwk k0 k1 k2 k3
      have HBw : Hid (Below w.heap.size w wk) := HB.out.trans (HBk.out.mono HB.out.size)
      have HOk : Hid (wk.ownsRow w.heap.size 39 8 (.slice pa c pc) c (pairCells (K r) (fun c => atV at_ (X r c)) c)) := (Only.below (P := fun _ => False) HBk.out).owns HO.out (fun _ _ _ h => h)
      clear HBk HO HB
      have hiv := HG.out r hr c hlt
      obtain ⟨xt, xy, F, hty, hmeth, hcf, hcall⟩ := as_at hiv T at_
      obtain ⟨y, HY⟩ : ∃ y, Hid (atV at_ (X r c) = y) := ⟨_, rfl⟩
      rw [HY.out] at hcall
      have hfc := HF.out c hlt
      rw [hty, HKK.out] at hfc
      have hS : ∀ w' : World, Below w.heap.size w w' → w'.cell? ⟨T r, 1, none⟩ = some (.map (some (M r))) ∧ (Instr.lookup 119 (.map (some (M r))) (.agg #[.int .i64 kk.k, .int .i64 kk.n, .string kk.s, .int .i64 kk.a]) false).run Tryz.prog w' = .ok (.iface xt xy) w' ∧ (∀ j, j < n → w'.cell? ⟨T j, 0, none⟩ = some (.int .i64 (at_ j))) := fun w' hb => by
        refine ⟨(hb.cell (p := ⟨T r, 1, none⟩) (HT.out.lt hr)).trans HTb.out.cells.2.1, ?_, fun j hj => (hb.cell (p := ⟨T j, 0, none⟩) (HT.out.lt hj)).trans (HT.out.at0 j hj)⟩
        have := ((HM.out.same (hb.block _ HM.out.lt)).lookup kk).2
        rw [hfc] at this
        exact this
      have HS : Hid _ := hS
      clear hS hfc hty
      have hnb : qb < wk.heap.size := by omega
      refine wp_region_held_drew (S := fun w' => Below w.heap.size w w' ∧ ValB w' qb kk) (by kernel_rfl) ⟨HBw.out.drew, HKb.out⟩ (fun hHeld => ?_)
      refine wpAnyH_take (i := 0) (v := .slice pa c pc) rfl (by kernel_rfl) (by kernel_rfl) (by kernel_rfl) (fun _ _ _ h => h) (Or.inl ⟨by rfl, fun w hSw => ?_⟩) hHeld ?_
      · first | rfl | go_simp
      simp only [Act.put, List.setIfInBounds_toArray, List.set_cons_zero, List.set_cons_succ, List.getElem_toArray, List.getElem_cons_zero]
      refine wpAnyH_take (i := 1) (v := .agg #[.int .i64 kk.k, .int .i64 kk.n, .string kk.s, .int .i64 kk.a]) rfl (by kernel_rfl) (by kernel_rfl) (by kernel_rfl) (fun _ _ _ h => h) (Or.inl ⟨by rfl, fun w hSw => ?_⟩) hHeld ?_
      · obtain ⟨s0, s1, s2, s3, _⟩ := cells4 hSw.2
        first | rfl | go_simp
      simp only [Act.put, List.setIfInBounds_toArray, List.set_cons_zero, List.set_cons_succ, List.getElem_toArray, List.getElem_cons_zero, List.getElem_cons_succ]
      refine wpAnyH_take (i := 2) (v := .pointer (some ⟨T r, 0, none⟩)) rfl (by kernel_rfl) (by kernel_rfl) (by kernel_rfl) (fun _ _ _ h => h) (Or.inl ⟨by rfl, fun w hSw => ?_⟩) hHeld ?_
      · first | rfl | go_simp
      simp only [Act.put, List.setIfInBounds_toArray, List.set_cons_zero, List.set_cons_succ, List.getElem_toArray, List.getElem_cons_zero, List.getElem_cons_succ]
      refine wpAnyH_take (i := 3) (v := .pointer (some ⟨T r, 0, none⟩)) rfl (by kernel_rfl) (by kernel_rfl) (by kernel_rfl) (fun _ _ _ h => h) (Or.inl ⟨by rfl, fun w hSw => ?_⟩) hHeld ?_
      · first | rfl | go_simp
      simp only [Act.put, List.setIfInBounds_toArray, List.set_cons_zero, List.set_cons_succ, List.getElem_toArray, List.getElem_cons_zero, List.getElem_cons_succ]
      refine wpAnyH_take (i := 4) (v := .pointer (some ⟨T r, 1, none⟩)) rfl (by kernel_rfl) (by kernel_rfl) (by kernel_rfl) (fun _ _ _ h => h) (Or.inl ⟨by rfl, fun w hSw => ?_⟩) hHeld ?_
      · first | rfl | go_simp
      simp only [Act.put, List.setIfInBounds_toArray, List.set_cons_zero, List.set_cons_succ, List.getElem_toArray, List.getElem_cons_zero, List.getElem_cons_succ]
      refine wpAnyH_take (i := 5) (v := .map (some (M r))) rfl (by kernel_rfl) (by kernel_rfl) (by kernel_rfl) (fun _ _ _ h => h) (Or.inl ⟨by rfl, fun w hSw => ?_⟩) hHeld ?_
      · have s1 := (HS.out w hSw.1).1
        first | rfl | go_simp
      simp only [Act.put, List.setIfInBounds_toArray, List.set_cons_zero, List.set_cons_succ, List.getElem_toArray, List.getElem_cons_zero, List.getElem_cons_succ]
      refine wpAnyH_take (i := 6) (v := .agg #[.int .i64 kk.k, .int .i64 kk.n, .string kk.s, .int .i64 kk.a]) rfl (by kernel_rfl) (by kernel_rfl) (by kernel_rfl) (fun _ _ _ h => h) (Or.inl ⟨by rfl, fun w hSw => ?_⟩) hHeld ?_
      · obtain ⟨s0, s1, s2, s3, _⟩ := cells4 hSw.2
        first | rfl | go_simp
      simp only [Act.put, List.setIfInBounds_toArray, List.set_cons_zero, List.set_cons_succ, List.getElem_toArray, List.getElem_cons_zero, List.getElem_cons_succ]
      refine wpAnyH_take (i := 7) (v := .iface xt xy) rfl (by kernel_rfl) (by kernel_rfl) (by kernel_rfl) (fun _ _ _ h => h) (Or.inl ⟨by rfl, fun w hSw => ?_⟩) hHeld ?_
      · have s1 := (HS.out w hSw.1).2.1
        first | rfl | go_simp
      simp only [Act.put, List.setIfInBounds_toArray, List.set_cons_zero, List.set_cons_succ, List.getElem_toArray, List.getElem_cons_zero, List.getElem_cons_succ]
      refine wpAnyH_ready (rs := [8]) (by kernel_rfl) (by simp) ?_
      refine AllReadyH.cons rfl (fun K' hK' => ?_) AllReadyH.nil
      have hcl := hcall wk.drew (HS.out _ HBw.out.drew).2.2
      clear hcall
      go_simp
      refine hcl.mono ?_
      clear hcl
      rintro e w5 ⟨rfl, hb5⟩
      have HB5 : Hid (Below w.heap.size w w5) := HBw.out.drew.trans (hb5.mono HBw.out.size)
      have HK5 : Hid (ValB w5 qb kk) := (show ValB wk.drew qb kk from HKb.out).below hb5
      have HO5 : Hid (w5.ownsRow w.heap.size 39 8 (.slice pa c pc) c (pairCells (K r) (fun c => atV at_ (X r c)) c)) := (Only.below (P := fun _ => False) hb5).owns (a := wk.drew) HOk.out (fun _ _ _ h => h)
      refine hK'.out _ _ ⟨HB5.out, HK5.out⟩ (fun hHeld => ?_)
      clear hK' hb5
      refine wpAnyH_take (i := 9) (v := .agg #[.int .i64 kk.k, .int .i64 kk.n, .string kk.s, .int .i64 kk.a, .int .i64 y.k, .int .i64 y.n, .string y.s, .int .i64 y.a]) rfl (by kernel_rfl) (by kernel_rfl) (by kernel_rfl) (fun _ _ _ h => h) (Or.inl ⟨by rfl, fun w hSw => ?_⟩) hHeld ?_
      · first | rfl | go_simp
      simp only [Act.put, List.setIfInBounds_toArray, List.set_cons_zero, List.set_cons_succ, List.getElem_toArray, List.getElem_cons_zero, List.getElem_cons_succ]
      refine wpAnyH_ready (rs := [10]) (by kernel_rfl) (by simp) ?_
      refine AllReadyH.cons rfl (fun K' hK' => ?_) AllReadyH.nil
      go_simp
      have hb6 : Below w5.heap.size w5 (w5.alloc (.cells #[.int .i64 kk.k, .int .i64 kk.n, .string kk.s, .int .i64 kk.a, .int .i64 y.k, .int .i64 y.n, .string y.s, .int .i64 y.a] 39)) := (Below.refl _ _).alloc (Nat.le_refl _) _
      refine hK'.out _ _ ⟨HB5.out.trans (hb6.mono HB5.out.size), HK5.out.below hb6⟩ (fun hHeld => ?_)
      clear hK'
      have l5 : qb < w5.heap.size := blk_lt HK5.out
      have hs5 := HB5.out.size
      refine wpAnyH_ready (rs := [11]) (by kernel_rfl) (by simp) ?_
      refine AllReadyH.cons rfl (fun K' hK' => ?_) AllReadyH.nil
      refine step_append_lies _ (by rfl) (.tmp 15) (.tmp 25) 35 (by rfl) w.heap.size 39 ip (.agg #[.int .i64 0, .int .i64 0, .string ⟨#[]⟩, .int .i64 0, .int .i64 0, .int .i64 0, .string ⟨#[]⟩, .int .i64 0]) 8 80 Tryz.underlying35 hpi hp0 hp1 hp2 (by rfl) (by omega) (.slice pa c pc) c (pairCells (K r) (fun c => atV at_ (X r c)) c) (by rfl) (HO5.out.alloc _) ⟨w5.heap.size, 0, none⟩ 1 1 [.int .i64 kk.k, .int .i64 kk.n, .string kk.s, .int .i64 kk.a, .int .i64 y.k, .int .i64 y.n, .string y.s, .int .i64 y.a] (by rfl) (by rfl) (World.news_of_block (heap_alloc_new w5 _)) (by intro u hu; simp at hu; rcases hu with rfl | rfl | rfl | rfl | rfl | rfl | rfl | rfl <;> rfl) (by omega) (by unfold maxLen; omega) (by omega) (by simp; omega) (w5.heap.size + 1) (by simp) ?_
      intro g cap w6 hown6 hgrow6 hat6 hlt6
      have hbel6 : Below w.heap.size (w5.alloc (.cells #[.int .i64 kk.k, .int .i64 kk.n, .string kk.s, .int .i64 kk.a, .int .i64 y.k, .int .i64 y.n, .string y.s, .int .i64 y.a] 39)) w6 := below_grown (HO5.out.alloc _) hgrow6 (by simp; omega)
      have HB6 : Hid (Below w.heap.size w w6) := (HB5.out.trans (hb6.mono HB5.out.size)).trans hbel6
      have HK6 : Hid (ValB w6 qb kk) := (hgrow6.block qb (by simp; omega) (fun e => by have := (HPK.out _ e.symm).2; omega)).trans (HK5.out.below hb6)
      have HO6 : Hid (w6.ownsRow w.heap.size 39 8 (.slice (some ⟨g, 0, none⟩) (c + 1) cap) (c + 1) (pairCells (K r) (fun c => atV at_ (X r c)) (c + 1))) := by
        show World.ownsRow _ _ _ _ _ _ _
        rw [pairCells_succ]
        simp only [HY.out, HKK.out]
        exact hown6
      refine hK'.out _ _ ⟨HB6.out, HK6.out⟩ (fun hHeld => ?_)
      clear hK' hown6 hgrow6 hat6 hlt6 hb6 hbel6 HB5 HK5 HO5
      simp only [Act.put, List.setIfInBounds_toArray, List.set_cons_zero, List.set_cons_succ, List.getElem_toArray, List.getElem_cons_zero, List.getElem_cons_succ]
      refine wpAnyH_ready (rs := [12]) (by kernel_rfl) (by simp) ?_
      refine AllReadyH.cons rfl (fun K' hK' => ?_) AllReadyH.nil
      go_simp
      refine hK'.out _ _ ⟨HB6.out, HK6.out⟩ (fun hHeld => ?_)
      clear hK' hHeld
      refine wpAnyH_done (by kernel_rfl) ?_ _
      go_wp2
      go_roundw
      case rel => exact ⟨c + 1, by omega, by go_num, HO6, HB6⟩
      case measure => simp [intOf]; omega
    · obtain rfl : c = L r := by omega
      go_wp2
      go_ret
      exact ⟨⟨_, rfl, HO.out⟩, HB.out⟩

end Go.Proofs.YtgflalfiopnmnaaGreatDoor

namespace Go.Proofs.YtgflalfiopnmnaaGreatDoor
open Go.RowKit Vl

/-- A pair as it is looked at: no number of a table. -/
def zAt (v : V) : V := ⟨v.k, v.n, v.s, 0⟩
def prOf (K X : Nat → Nat → V) (r c : Nat) : PV2 := (K r c, zAt (X r c))
/-- What a table's face is. -/
def faceLk (kn : List PV2) (pr : Nat → PV2) (c : Nat) : Lk := ⟨0, fun i => if i < c then kn.idxOf (pr i) + 1 else 0⟩

theorem map_len {w : World} {M clk : Nat} {es : Array MapEntry} (h : w.heap[M]? = some (.map es clk)) : (Builtin.len_ #[215] 3 #[.map (some M)]).run Tryz.prog w = .ok (.int .i64 (es.size : Nat)) w := by
  simp [Builtin.len_, run_underlying Tryz.underlying215, MapKept.run_getObj_map h]
  rfl

set_option maxHeartbeats 2000000 in
set_option maxRecDepth 100000 in
/-- '(*table).face'. -/
theorem face_any (n : Nat) (T M : Nat → Nat) (L : Nat → Nat) (K X : Nat → Nat → V) (r km : Nat) (kn : List PV2) (w : World) (hr : r < n) (hL : L r ≤ 100) (hkn : kn.length ≤ 50000) (HG : Hid (Good n L X)) (HT : Hid (Tbs w n T M (fun j => (j : Nat)) L K X)) (HM : Hid (MapG pAgg w km (knM kn 0))) :
    Calls Tryz.prog 117 #[.pointer (some ⟨T r, 0, none⟩), .map (some km)] w fun e w' => e = .returned (lkV (faceLk (kns kn (prOf K X r) (L r)) (prOf K X r) (L r))) ∧ MapG pAgg w' km (knM (kns kn (prOf K X r) (L r)) 0) ∧ Only (fun k => k = km) w w' := by
  have A2 := alloc2 w (.cells Tryz.zeroCells220 220) (.cells Tryz.zeroCells220 220)
  obtain ⟨w1, hw1⟩ : ∃ w1, w1 = (w.alloc (.cells Tryz.zeroCells220 220)).alloc (.cells Tryz.zeroCells220 220) := ⟨_, rfl⟩
  have HR1 : Hid (LkB w1 w.heap.size ⟨0, fun _ => 0⟩) := by rw [hw1]; show LkB _ _ _; unfold LkB; rw [← zero_look]; exact A2.1
  have HB1 : Hid (LkB w1 (w.heap.size + 1) ⟨0, fun _ => 0⟩) := by rw [hw1]; show LkB _ _ _; unfold LkB; rw [← zero_look]; exact A2.2.1
  have HW1 : Hid (Below w.heap.size w w1) := by rw [hw1]; exact A2.2.2.2
  clear A2
  have hcall := pairs_any n T M (fun j => (j : Nat)) L K X r w1 hr hL HG (HT.out.below HW1.out)
  go_enter Tryz.func117, Tryz.ntmps117
  go_wp2_with fail
  rw [← hw1]
  refine hcall.mono ?_
  clear hcall hw1
  rintro e w2 ⟨⟨pv, rfl, hown⟩, hb2⟩
  obtain ⟨hform, hP⟩ := owns_pairs hown
  have HP : Hid (PairsAt w2 (slA pv) (L r) (slB pv) 0 (K r) (fun c => atV (fun j => (j : Nat)) (X r c))) := hP
  have HPB : Hid (0 < L r → w1.heap.size ≤ slB pv) := show _ → _ from fun h0 => by
    obtain ⟨g, cap, hv, _⟩ := owns_cell hown (k := 0) (y := .int .i64 (K r 0).k) (by have := pairCells_at (K r) (fun c => atV (fun j => (j : Nat)) (X r c)) (L r) 0 0 h0 (by omega); simpa using this)
    obtain ⟨_, _, _, hk⟩ := owns_form hown
    rw [hv]
    have := (hk g (by rw [hv]; rfl)).1
    exact this
  obtain ⟨pa, hpa⟩ : ∃ a, slA pv = a := ⟨_, rfl⟩
  obtain ⟨pb, hpb⟩ : ∃ a, slB pv = a := ⟨_, rfl⟩
  obtain ⟨pc, hpc⟩ : ∃ a, slC pv = a := ⟨_, rfl⟩
  rw [hpa, hpc] at hform
  rw [hpa, hpb] at HP
  rw [hpb] at HPB
  rw [hform]
  have HR2 : Hid (LkB w2 w.heap.size ⟨0, fun _ => 0⟩) := HR1.out.below hb2
  have HB2 : Hid (LkB w2 (w.heap.size + 1) ⟨0, fun _ => 0⟩) := HB1.out.below hb2
  have HW2 : Hid (Below w.heap.size w w2) := grw HW1.out hb2
  have HM2 : Hid (MapG pAgg w2 km (knM kn 0)) := HM.out.same (HW2.out.block _ HM.out.lt)
  have hkm : km < w.heap.size := HM.out.lt
  have hs1 : w.heap.size + 1 < w1.heap.size := HB1.out.lt
  clear hown hP hb2 hpa hpb hpc hform HR1 HB1
  go_wp2
  go_loopw [13] (fun ii wr => ∃ c : Nat, c ≤ L r ∧ ii = .int .i64 c ∧ Hid (LkB wr (w.heap.size + 1) (faceLk (kns kn (prOf K X r) (L r)) (prOf K X r) c)) ∧ Hid (MapG pAgg wr km (knM (kns kn (prOf K X r) c) 0)) ∧ Hid (Only (fun k => k = km ∨ k = w.heap.size + 1) w2 wr)) (fun ii _ => L r - (intOf ii).toNat)
  case atStart =>
    refine ⟨0, Nat.zero_le _, rfl, ?_, HM2, Only.refl _ _⟩
    have e : faceLk (kns kn (prOf K X r) (L r)) (prOf K X r) 0 = ⟨0, fun _ => 0⟩ := by unfold faceLk; simp
    rw [e]
    exact HB2
  case round =>
    obtain ⟨c, hc, rfl, HBc, HMc, HOc⟩ := hrel
    by_cases hlt : c < L r
    · obtain rfl := HP.out.top (by omega)
      have hpb := HPB.out (by omega)
      have HPr : Hid (PairsAt wr (some ⟨pb, 0, none⟩) (L r) pb 0 (K r) (fun c => atV (fun j => (j : Nat)) (X r c))) := HP.out.only HOc.out (fun _ => by omega)
      obtain ⟨⟨k0, k1, k2, k3⟩, ⟨v0, v1, v2, v3⟩⟩ := HPr.out.cells hlt
      simp only [Nat.zero_add] at k0 k1 k2 k3 v0 v1 v2 v3
      obtain ⟨kk, HKK⟩ : ∃ kk, Hid (K r c = kk) := ⟨_, rfl⟩
      obtain ⟨xx, HXX⟩ : ∃ xx, Hid (atV (fun j => (j : Nat)) (X r c) = xx) := ⟨_, rfl⟩
      rw [HKK.out] at k0 k1 k2 k3
      rw [HXX.out] at v0 v1 v2 v3
      obtain ⟨p, HPP⟩ : ∃ p, Hid (prOf K X r c = p) := ⟨_, rfl⟩
      have hp : p = (kk, ⟨xx.k, xx.n, xx.s, 0⟩) := by
        rw [← HPP.out, ← HKK.out, ← HXX.out]
        unfold prOf zAt atV
        by_cases h4 : (X r c).k = 4
        · rw [if_pos h4]
        · rw [if_neg h4]
      have hpv : pAgg p = .agg #[.int .i64 kk.k, .int .i64 kk.n, .string kk.s, .int .i64 kk.a, .int .i64 xx.k, .int .i64 xx.n, .string xx.s, .int .i64 0] := by rw [hp]
      obtain ⟨kc, HKC⟩ : ∃ kc, Hid (kns kn (prOf K X r) c = kc) := ⟨_, rfl⟩
      have hlen : kc.length ≤ 50100 := by rw [← HKC.out]; have := kns_len kn (prOf K X r) c; omega
      rw [HKC.out] at HMc
      obtain ⟨wa, hwa⟩ : ∃ wa, wa = wr.alloc (.cells #[.int .i64 kk.k, .int .i64 kk.n, .string kk.s, .int .i64 kk.a, .int .i64 xx.k, .int .i64 xx.n, .string xx.s, .int .i64 0] 39) := ⟨_, rfl⟩
      have hba : Below wr.heap.size wr wa := by rw [hwa]; exact (Below.refl _ _).alloc (Nat.le_refl _) _
      have HBa : Hid (LkB wa (w.heap.size + 1) (faceLk (kns kn (prOf K X r) (L r)) (prOf K X r) c)) := HBc.out.below hba
      have HMa : Hid (MapG pAgg wa km (knM kc 0)) := HMc.out.same (hba.block _ HMc.out.lt)
      have HOa : Hid (Only (fun k => k = km ∨ k = w.heap.size + 1) w2 wa) := HOc.out.trans (Only.below hba)
      have HPa : Hid (wa.heap[wr.heap.size]? = some (.cells #[.int .i64 kk.k, .int .i64 kk.n, .string kk.s, .int .i64 kk.a, .int .i64 xx.k, .int .i64 xx.n, .string xx.s, .int .i64 0] 39 (0, 0))) := by rw [hwa]; exact heap_alloc_new _ _
      have hbr : w.heap.size + 1 < wr.heap.size := HBc.out.lt
      have hkr : km < wr.heap.size := HMc.out.lt
      have hbc : (0 : Int) ≤ (c : Int) ∧ (c : Int) < 100 := by omega
      have hfin : ∀ (wz : World) (x : Nat), LkB wz (w.heap.size + 1) (faceLk (kns kn (prOf K X r) (L r)) (prOf K X r) c) → (kns kn (prOf K X r) (L r)).idxOf p + 1 = x → LkB (wz.setCell ⟨w.heap.size + 1, 1 + c, none⟩ (.int .u16 (x : Nat))) (w.heap.size + 1) (faceLk (kns kn (prOf K X r) (L r)) (prOf K X r) (c + 1)) := fun wz x hz hx => by
        have := hz.set c x (by omega)
        have e : (⟨(faceLk (kns kn (prOf K X r) (L r)) (prOf K X r) c).was, fun j => if j = c then x else (faceLk (kns kn (prOf K X r) (L r)) (prOf K X r) c).parts j⟩ : Lk) = faceLk (kns kn (prOf K X r) (L r)) (prOf K X r) (c + 1) := by
          unfold faceLk
          congr 1
          funext j
          simp only
          by_cases e : j = c
          · rw [if_pos e, if_pos (by omega), e, HPP.out, hx]
          · rw [if_neg e]
            by_cases h' : j < c
            · rw [if_pos h', if_pos (by omega)]
            · rw [if_neg h', if_neg (by omega)]
        rw [e] at this
        exact this
      have HFin : Hid _ := hfin
      clear hfin hba HPr
      have hpre := kns_pre kn (prOf K X r) (show c + 1 ≤ L r from hlt)
      have hsucc : kns kn (prOf K X r) (c + 1) = addTo kc p := by show addTo (kns kn (prOf K X r) c) (prOf K X r c) = _; rw [HKC.out, HPP.out]
      by_cases hm : p ∈ kc
      · have hadd : addTo kc p = kc := by unfold addTo; rw [if_pos hm]
        rw [hadd] at hsucc
        have HSu : Hid (kns kn (prOf K X r) (c + 1) = kc) := hsucc
        rw [hsucc] at hpre
        have hx := idx_pre hpre hm
        obtain ⟨x, HX⟩ : ∃ x : Nat, Hid (kc.idxOf p + 1 = x) := ⟨_, rfl⟩
        have hl1 := (HMa.out.lookup pair_keyed p trivial (fun _ _ => trivial)).1
        have hl2 := (HMa.out.lookup pair_keyed p trivial (fun _ _ => trivial)).2
        rw [knM_find, if_pos hm, Nat.zero_add, HX.out, hpv] at hl1 hl2
        have hbo : ∀ o, Below (wr.setCell ⟨w.heap.size + 1, 1 + c, none⟩ (.int .u16 (x : Nat))).heap.size (wr.setCell ⟨w.heap.size + 1, 1 + c, none⟩ (.int .u16 (x : Nat))) ((wr.setCell ⟨w.heap.size + 1, 1 + c, none⟩ (.int .u16 (x : Nat))).alloc o) := fun o => (Below.refl _ _).alloc (Nat.le_refl _) _
        have HB5 : Hid (∀ o, LkB ((wr.setCell ⟨w.heap.size + 1, 1 + c, none⟩ (.int .u16 (x : Nat))).alloc o) (w.heap.size + 1) (faceLk (kns kn (prOf K X r) (L r)) (prOf K X r) (c + 1))) := show ∀ o, _ from fun o => (HFin.out wr x HBc.out (by rw [hx]; exact HX.out)).below (hbo o)
        have HM5 : Hid (∀ o, MapG pAgg ((wr.setCell ⟨w.heap.size + 1, 1 + c, none⟩ (.int .u16 (x : Nat))).alloc o) km (knM kc 0)) := show ∀ o, _ from fun o => HMc.out.same (((hbo o).block _ (by simp [World.setCell]; exact hkr)).trans (Below.heap_setCell _ _ _ _ (show km ≠ w.heap.size + 1 by omega)))
        have HO5 : Hid (∀ o, Only (fun k => k = km ∨ k = w.heap.size + 1) w2 ((wr.setCell ⟨w.heap.size + 1, 1 + c, none⟩ (.int .u16 (x : Nat))).alloc o)) := show ∀ o, _ from fun o => (HOc.out.set (Or.inr rfl) _).trans (Only.below (hbo o))
        clear hbo
        obtain ⟨q0, qz⟩ := HBa.out.cell (i := 1 + c) (by omega)
        obtain ⟨r0, r1, r2, r3, r4, r5, r6, r7, _⟩ := cells8 HPa.out
        rw [hwa] at hl1 hl2 q0 r0 r1 r2 r3 r4 r5 r6 r7 qz
        clear hp hpv hx hpre hsucc hadd hm
        clear HBc HMc HOc
        go_wp2
        go_roundw
        case rel => exact ⟨c + 1, by omega, by go_num, HB5.out _, by rw [HSu.out]; exact HM5.out _, HO5.out _⟩
        case measure => simp [intOf]; omega
      · have hadd : addTo kc p = kc ++ [p] := by unfold addTo; rw [if_neg hm]
        rw [hadd] at hsucc
        have HSu : Hid (kns kn (prOf K X r) (c + 1) = kc ++ [p]) := hsucc
        rw [hsucc] at hpre
        have hx := idx_pre hpre (p := p) (by simp)
        have hxl : (kc ++ [p]).idxOf p = kc.length := by rw [List.idxOf_append, if_neg hm]; simp
        have hl1 := (HMa.out.lookup pair_keyed p trivial (fun _ _ => trivial)).1
        rw [knM_find, if_neg hm, hpv] at hl1
        obtain ⟨es, clk, hes, hel⟩ := HMa.out.len
        rw [knM_len] at hel
        obtain ⟨wb, hu, hMb, hOb, hsb⟩ := HMa.out.update pair_keyed p (.int .u16 ((kc.length + 1 : Nat) : Int)) trivial (fun _ _ => trivial) (by rw [knM_find, if_neg hm])
        rw [hpv] at hu
        have hMb' : MapG pAgg wb km (knM (kc ++ [p]) 0) := by rw [knM_snoc, Nat.zero_add]; exact hMb
        have hl2 := (hMb'.lookup pair_keyed p trivial (fun _ _ => trivial)).2
        rw [knM_find, if_pos (by simp), hxl, Nat.zero_add, hpv] at hl2
        have HBb : Hid (LkB wb (w.heap.size + 1) (faceLk (kns kn (prOf K X r) (L r)) (prOf K X r) c)) := (hOb.block _ HBa.out.lt (by omega)).trans HBa.out
        have HPb : Hid (wb.heap[wr.heap.size]? = some (.cells #[.int .i64 kk.k, .int .i64 kk.n, .string kk.s, .int .i64 kk.a, .int .i64 xx.k, .int .i64 xx.n, .string xx.s, .int .i64 0] 39 (0, 0))) := (hOb.block _ (blk_lt HPa.out) (by omega)).trans HPa.out
        have HOb : Hid (Only (fun k => k = km ∨ k = w.heap.size + 1) w2 wb) := HOa.out.trans (hOb.mono (fun k _ e => Or.inl e))
        obtain ⟨q0, qz⟩ := HBb.out.cell (i := 1 + c) (by omega)
        obtain ⟨r0, r1, r2, r3, r4, r5, r6, r7, _⟩ := cells8 HPa.out
        obtain ⟨s0, s1, s2, s3, s4, s5, s6, s7, _⟩ := cells8 HPb.out
        obtain ⟨x, hxe⟩ : ∃ x : Nat, kc.length + 1 = x := ⟨_, rfl⟩
        have HB5 : Hid (LkB (wb.setCell ⟨w.heap.size + 1, 1 + c, none⟩ (.int .u16 (x : Nat))) (w.heap.size + 1) (faceLk (kns kn (prOf K X r) (L r)) (prOf K X r) (c + 1))) := HFin.out wb x HBb.out (by rw [hx, hxl]; exact hxe)
        have HM5 : Hid (MapG pAgg (wb.setCell ⟨w.heap.size + 1, 1 + c, none⟩ (.int .u16 (x : Nat))) km (knM (kc ++ [p]) 0)) := hMb'.same (Below.heap_setCell _ _ _ _ (show km ≠ w.heap.size + 1 by omega))
        have HO5 : Hid (Only (fun k => k = km ∨ k = w.heap.size + 1) w2 (wb.setCell ⟨w.heap.size + 1, 1 + c, none⟩ (.int .u16 (x : Nat)))) := HOb.out.set (Or.inr rfl) _
        have hwx : IntKind.u16.wrap ((kc.length : Int) + 1) = ((x : Nat) : Int) := by unfold IntKind.wrap; simp [IntKind.bits, IntKind.signed]; omega
        have hwi : IntKind.i64.wrap ((kc.length : Int) + 1) = (kc.length : Int) + 1 := by rw [IntKind.wrap_i64]; omega
        rw [hxe] at hu hl2
        have hln := map_len hes
        rw [hel] at hln
        rw [hwa] at hl1 hu hln r0 r1 r2 r3 r4 r5 r6 r7
        clear hes hel
        clear hp hpv hx hxl hpre hsucc hadd hm hxe hMb hMb' hOb hsb HBc HMc HOc
        go_wp2
        go_roundw
        case rel => exact ⟨c + 1, by omega, by go_num, HB5, by rw [HSu.out]; exact HM5, HO5⟩
        case measure => simp [intOf]; omega
    · obtain rfl : c = L r := by omega
      have HRc : Hid (LkB wr w.heap.size ⟨0, fun _ => 0⟩) := (HOc.out.block _ HR2.out.lt (by omega)).trans HR2.out
      obtain ⟨lk, HLK⟩ : ∃ lk, Hid (faceLk (kns kn (prOf K X r) (L r)) (prOf K X r) (L r) = lk) := ⟨_, rfl⟩
      rw [HLK.out] at HBc
      obtain ⟨w3, hst, hB3, hO3, hs3⟩ := LkB.store lk HRc.out (by simp [lkCells_len])
      have HB3 : Hid (LkB w3 w.heap.size lk) := hB3
      have HM3 : Hid (MapG pAgg w3 km (knM (kns kn (prOf K X r) (L r)) 0)) := HMc.out.same (hO3.block _ HMc.out.lt (by omega))
      have HO3 : Hid (Only (fun k => k = km) w w3) := show Only _ _ _ from ⟨hO3.os.trans (HOc.out.os.trans HW2.out.os), hO3.tape.trans (HOc.out.tape.trans HW2.out.tape), hO3.output.trans (HOc.out.output.trans HW2.out.output), Nat.le_trans HW2.out.size (Nat.le_trans HOc.out.size hO3.size), fun k hk hne => by
        have h2 := HW2.out.size
        have h3 := HOc.out.size
        rw [hO3.block k (by omega) (by omega), HOc.out.block k (by omega) (by omega), HW2.out.block k hk]⟩
      have HRG : Hid (wr.rangeAt (w.heap.size + 1) 0 (lkCells lk)) := HBc.out.range
      obtain ⟨d, hd, hr'⟩ := row_look
      have hcl := lkCells_len lk
      clear hB3 hO3 hs3
      go_wp2
      refine wp_load_mid 220 (.tmp 5) rfl (w.heap.size + 1) 0 rfl (lkCells lk) d HRG.out hd hr' (size_look lk) ?_
      clear hd hr'
      go_wp2
      refine bodyPost_ret (v := lkV lk) (results_cell_row Tryz.results117 _ _ w.heap.size 220 _ (0, 0) _ rfl HB3.out Tryz.underlying220 rfl (by rw [List.size_toArray]; exact size_look lk)) rfl ⟨by rw [HLK.out], HM3.out, HO3.out⟩

end Go.Proofs.YtgflalfiopnmnaaGreatDoor

namespace Go.Proofs.YtgflalfiopnmnaaGreatDoor
open Go.RowKit Vl

/-- The places of the tables that the first c values lead to. -/
def ldsTo (x : Nat → V) (c : Nat) : List Nat := (List.range c).filterMap fun i => if (x i).k = 4 then some (x i).a.toNat else none
theorem ldsTo_succ (x : Nat → V) (c : Nat) : ldsTo x (c + 1) = if (x c).k = 4 then ldsTo x c ++ [(x c).a.toNat] else ldsTo x c := by
  unfold ldsTo
  rw [List.range_succ, List.filterMap_append]
  by_cases h : (x c).k = 4 <;> simp [h]
theorem ldsTo_len (x : Nat → V) (c : Nat) : (ldsTo x c).length ≤ c := by
  have := List.length_filterMap_le (fun i => if (x i).k = 4 then some (x i).a.toNat else none) (List.range c)
  simpa [ldsTo] using this

set_option maxHeartbeats 2000000 in
set_option maxRecDepth 100000 in
/-- '(*table).leads'. -/
theorem leads_any (n : Nat) (T M : Nat → Nat) (L : Nat → Nat) (K X : Nat → Nat → V) (r : Nat) (w : World) (hr : r < n) (hL : L r ≤ 100) (HG : Hid (Good n L X)) (HT : Hid (Tbs w n T M (fun j => (j : Nat)) L K X)) :
    Calls Tryz.prog 118 #[.pointer (some ⟨T r, 0, none⟩)] w fun e w' => (∃ lv, e = .returned lv ∧ w'.ownsRow w.heap.size 3 1 lv (ldsTo (X r) (L r)).length (natCells (ldsTo (X r) (L r)))) ∧ Below w.heap.size w w' := by
  obtain ⟨ord, hTb, hOr⟩ := HT.out.tab r hr
  obtain ⟨l, hM, hfind⟩ := HT.out.map r hr
  obtain ⟨hform, hVals⟩ := owns_keys hOr
  have HTb : Hid (TabB w (T r) (M r) ((fun j : Nat => (j : Int)) r) ord) := hTb
  have HM : Hid (MapIs w (M r) l) := hM
  have HF : Hid (∀ c, c < L r → findV (K r c) l = some (ifv T (X r c))) := hfind
  obtain ⟨ka, hka⟩ : ∃ ka, slA ord = ka := ⟨_, rfl⟩
  obtain ⟨kb, hkb⟩ : ∃ kb, slB ord = kb := ⟨_, rfl⟩
  obtain ⟨kc, hkc⟩ : ∃ kc, slC ord = kc := ⟨_, rfl⟩
  rw [hka, hkc] at hform
  rw [hka, hkb] at hVals
  have HV : Hid (ValsAt w ka (L r) kb 0 (K r)) := hVals
  rw [hform] at HTb
  clear hTb hM hfind hVals hOr hform hka hkb hkc
  obtain ⟨i0, hi, hz0, hz1, hz2⟩ := info_parts Tryz.infoN
  obtain ⟨t0, t1, t2, _⟩ := HTb.out.cells
  go_enter Tryz.func118, Tryz.ntmps118
  go_wp2
  clear t0 t1 t2
  go_loopw [3, 12] (fun lv ii wr => ∃ c : Nat, c ≤ L r ∧ ii = .int .i64 c ∧ Hid (wr.ownsRow w.heap.size 3 1 lv (ldsTo (X r) c).length (natCells (ldsTo (X r) c))) ∧ Hid (Below w.heap.size w wr)) (fun _ ii _ => L r - (intOf ii).toNat)
  case atStart => exact ⟨0, Nat.zero_le _, rfl, World.ownsRow_nil _ _ _ _, Below.refl _ _⟩
  case round =>
    obtain ⟨c, hc, rfl, HO, HB⟩ := hrel
    obtain ⟨pa, pc, rfl, _⟩ := owns_form HO.out
    by_cases hlt : c < L r
    · obtain rfl := HV.out.top (by omega)
      obtain ⟨k0, k1, k2, k3⟩ := (HV.out.below HB.out).cells hlt
      simp only [Nat.zero_add] at k0 k1 k2 k3
      obtain ⟨kk, HKK⟩ : ∃ kk, Hid (K r c = kk) := ⟨_, rfl⟩
      rw [HKK.out] at k0 k1 k2 k3
      go_wp2
      obtain ⟨wk, hwk⟩ : ∃ wk, wk = wr.alloc (.cells #[.int .i64 kk.k, .int .i64 kk.n, .string kk.s, .int .i64 kk.a] 24) := ⟨_, rfl⟩
      have HBk : Hid (Below wr.heap.size wr wk) := by rw [hwk]; exact (Below.refl _ _).alloc (Nat.le_refl _) _
      have HKb : Hid (ValB wk wr.heap.size kk) := by rw [hwk]; exact heap_alloc_new _ _
      rw [← hwk]
      clear hwk k0 k1 k2 k3
      have HBw : Hid (Below w.heap.size w wk) := HB.out.trans (HBk.out.mono HB.out.size)
      have HOk : Hid (wk.ownsRow w.heap.size 3 1 (.slice pa (ldsTo (X r) c).length pc) (ldsTo (X r) c).length (natCells (ldsTo (X r) c))) := (Only.below (P := fun _ => False) HBk.out).owns HO.out (fun _ _ _ h => h)
      obtain ⟨qb, hqb⟩ : ∃ qb, wr.heap.size = qb := ⟨_, rfl⟩
      rw [hqb] at HKb ⊢
      clear HBk HO HB hqb
      have hiv := HG.out r hr c hlt
      have hfc := HF.out c hlt
      obtain ⟨xt, xy, hxv⟩ := ifv_form T (X r c)
      rw [hxv, HKK.out] at hfc
      obtain ⟨c0, c1, c2, c3, _⟩ := cells4 HKb.out
      replace c0 := cellB c0
      replace c1 := cellB c1
      replace c2 := cellB c2
      replace c3 := cellB c3
      have t1 : ∀ w', Below wk.heap.size wk w' → w'.cell? ⟨T r, 1, none⟩ = some (.map (some (M r))) := cellB ((HBw.out.cell (p := ⟨T r, 1, none⟩) (HT.out.lt hr)).trans HTb.out.cells.2.1)
      have hlk : ∀ w', Below wk.heap.size wk w' → (Instr.lookup 119 (.map (some (M r))) (.agg #[.int .i64 kk.k, .int .i64 kk.n, .string kk.s, .int .i64 kk.a]) false).run Tryz.prog w' = .ok (.iface xt xy) w' := fun w' hb => by
        have := ((HM.out.same ((hb.block _ (Nat.lt_of_lt_of_le HM.out.lt HBw.out.size)).trans (HBw.out.block _ HM.out.lt))).lookup kk).2
        rw [hfc] at this
        exact this
      go_region_held3 (fun w' => Below wk.heap.size wk w') (first | exact (Below.refl _ _).drew) (fail)
      clear c0 c1 c2 c3 t1 hlk hfc
      have HBd : Hid (Below w.heap.size w wk.drew) := HBw.out.drew
      have HOd : Hid (wk.drew.ownsRow w.heap.size 3 1 (.slice pa (ldsTo (X r) c).length pc) (ldsTo (X r) c).length (natCells (ldsTo (X r) c))) := HOk.out
      obtain ⟨wd, hwd⟩ : ∃ wd, wd = wk.drew := ⟨_, rfl⟩
      rw [← hwd] at HBd HOd ⊢
      clear hwd HBw HOk HKb
      have hll := ldsTo_len (X r) c
      by_cases h4 : (X r c).k = 4
      · have hE : Hid (ldsTo (X r) (c + 1) = ldsTo (X r) c ++ [(X r c).a.toNat]) := by show _ = _; rw [ldsTo_succ, if_pos h4]
        rw [ifv_tab h4] at hxv
        cases hxv
        obtain ⟨a0, a1⟩ := isV_tab hiv h4
        obtain ⟨q, HQ⟩ : ∃ q, Hid ((X r c).a.toNat = q) := ⟨_, rfl⟩
        have hq : q < n := by rw [← HQ.out]; omega
        rw [HQ.out] at hE ⊢
        have hta := assert_yes (T q)
        have a2 : wd.cell? ⟨T q, 0, none⟩ = some (.int .i64 (q : Nat)) := (HBd.out.cell (p := ⟨T q, 0, none⟩) (HT.out.lt hq)).trans (HT.out.at0 q hq)
        obtain ⟨ml, HML⟩ : ∃ ml, Hid ((ldsTo (X r) c).length = ml) := ⟨_, rfl⟩
        rw [HML.out] at HOd hll ⊢
        have hsd := HBd.out.size
        go_wp2_with (at_builtin; refine wpList_append_lies _ (by rfl) (.tmp 25) (.tmp 30) 93 (by rfl) w.heap.size 3 i0 (.int .i64 0) 1 8 Tryz.underlying93 hi hz0 hz1 hz2 (by rfl) (by omega) (.slice pa ml pc) ml (natCells (ldsTo (X r) c)) (by rfl) (HOd.out.alloc _) ⟨wd.heap.size, 0, none⟩ 1 1 [.int .i64 (q : Nat)] (by rfl) (by rfl) ?c1 ?c2 (by omega) ?c3 ?c4 ?c5 (wd.heap.size + 1) ?c6 ?_)
        case c1 => exact World.news_of_block (heap_alloc_new wd _)
        case c2 => intro u hu; simp at hu; subst hu; rfl
        case c3 => unfold maxLen; omega
        case c4 => omega
        case c5 => simp; omega
        case c6 => simp
        intro g cap w7 hown7 hgrow7 hat7 hlt7
        have hb7 : Below w.heap.size (wd.alloc (.cells #[.int .i64 (q : Nat)] 3)) w7 := below_grown (HOd.out.alloc _) hgrow7 (by simp; omega)
        have HB7 : Hid (Below w.heap.size w w7) := (HBd.out.alloc HBd.out.size _).trans hb7
        have HO7 : Hid (w7.ownsRow w.heap.size 3 1 (.slice (some ⟨g, 0, none⟩) (ml + 1) cap) (ldsTo (X r) (c + 1)).length (natCells (ldsTo (X r) (c + 1)))) := by
          rw [hE.out, natCells_snoc, List.length_append, HML.out]
          exact hown7
        clear hown7 hgrow7 hat7 hlt7 hb7 a2 hta
        go_wp2
        go_roundw
        case rel => exact ⟨c + 1, by omega, by go_num, HO7, HB7⟩
        case measure => simp [intOf]; omega
      · have hE : Hid (ldsTo (X r) (c + 1) = ldsTo (X r) c) := by show _ = _; rw [ldsTo_succ, if_neg h4]
        have hta := assert_no hiv h4 T
        rw [hxv] at hta
        clear hxv
        go_wp2
        go_roundw
        case rel => exact ⟨c + 1, by omega, by go_num, by rw [hE.out]; exact HOd, HBd⟩
        case measure => simp [intOf]; omega
    · obtain rfl : c = L r := by omega
      go_wp2
      go_ret
      exact ⟨⟨_, rfl, HO.out⟩, HB.out⟩

end Go.Proofs.YtgflalfiopnmnaaGreatDoor

namespace Go.Proofs.YtgflalfiopnmnaaGreatDoor
open Go.RowKit Vl

theorem Tbs.onlyM {w w' : World} {n : Nat} {T M : Nat → Nat} {at_ : Nat → Int} {L : Nat → Nat} {K X : Nat → Nat → V} {km : Nat} {l : List (PV2 × Value)} (h : Tbs w n T M at_ L K X) (ho : Only (fun k => k = km) w w') (hm : MapG pAgg w km l) (hM : ∀ j, j < n → M j ≠ km) : Tbs w' n T M at_ L K X := by
  obtain ⟨es, clk, hk, _⟩ := hm
  refine ⟨fun j hj => ?_, fun j hj => ?_, h.inj, h.noneB (fun j hj => ?_)⟩
  rotate_left 2
  · obtain ⟨l, a1, _⟩ := h.map j hj
    exact ho.block _ a1.lt (hM j hj)
  · obtain ⟨ord, a1, a2⟩ := h.tab j hj
    refine ⟨ord, (ho.block _ (blk_lt a1) (fun e => ?_)).trans a1, ho.ownsB a2 (fun g hg e => ?_)⟩
    · unfold TabB at a1
      rw [e, hk] at a1
      cases a1
    · obtain ⟨_, cur, hc⟩ := owns_type a2 hg
      rw [e, hk] at hc
      cases hc
  · obtain ⟨l, a1, a2⟩ := h.map j hj
    exact ⟨l, a1.same (ho.block _ a1.lt (hM j hj)), a2⟩

/-- The pairs of the first i tables. -/
def knAll (L : Nat → Nat) (K X : Nat → Nat → V) : Nat → List PV2
  | 0 => []
  | i + 1 => kns (knAll L K X i) (prOf K X i) (L i)
theorem knAll_len {n : Nat} {L : Nat → Nat} (K X : Nat → Nat → V) (hL : ∀ r, r < n → L r ≤ 100) : ∀ i, i ≤ n → (knAll L K X i).length ≤ i * 100
  | 0, _ => by simp [knAll]
  | i + 1, hi => by
    have h1 := knAll_len K X hL i (by omega)
    have h2 := kns_len (knAll L K X i) (prOf K X i) (L i)
    have h3 := hL i (by omega)
    show (kns (knAll L K X i) (prOf K X i) (L i)).length ≤ _
    omega

/-- The variables of 'classesOf' that the first closure reads. -/
structure Cl1 (w : World) (p1 p2 : Nat) (ta : Option Addr) (tb n cp km : Nat) (T : Nat → Nat) : Prop where
  top : 0 < n → ta = some ⟨tb, 0, none⟩
  tv : w.heap[p1]? = some (.cells #[.slice ta n cp] 55 (0, 0))
  kv : w.heap[p2]? = some (.cells #[.map (some km)] 215 (0, 0))
  row : ∀ j, j < n → w.cell? ⟨tb, j, none⟩ = some (ptr (T j))
  n1 : p1 ≠ km
  n2 : p2 ≠ km
  n3 : 0 < n → tb ≠ km
theorem Cl1.only {w w' : World} {p1 p2 : Nat} {ta : Option Addr} {tb n cp km : Nat} {T : Nat → Nat} {P : Nat → Prop} (h : Cl1 w p1 p2 ta tb n cp km T) (ho : Only P w w') (hP : ∀ k, k < w.heap.size → k ≠ km → ¬ P k) : Cl1 w' p1 p2 ta tb n cp km T :=
  ⟨h.top, (ho.block _ (blk_lt h.tv) (hP _ (blk_lt h.tv) h.n1)).trans h.tv, (ho.block _ (blk_lt h.kv) (hP _ (blk_lt h.kv) h.n2)).trans h.kv, fun j hj => ho.cell (h.row j hj) (hP _ (World.block_lt_of_cell? _ _ (h.row j hj)) (h.n3 (by omega))), h.n1, h.n2, h.n3⟩

set_option maxHeartbeats 2000000 in
set_option maxRecDepth 100000 in
/-- The first closure: a table's face. -/
theorem clos1_any (n : Nat) (T M : Nat → Nat) (L : Nat → Nat) (K X : Nat → Nat → V) (i p1 p2 : Nat) (ta : Option Addr) (tb cp km : Nat) (kn : List PV2) (w : World) (hi : i < n) (hL : L i ≤ 100) (hkn : kn.length ≤ 50000) (HG : Hid (Good n L X)) (HT : Hid (Tbs w n T M (fun j => (j : Nat)) L K X)) (HM : Hid (MapG pAgg w km (knM kn 0))) (HC : Hid (Cl1 w p1 p2 ta tb n cp km T)) :
    Calls Tryz.prog 116 #[.int .i64 (i : Nat), ptr p1, ptr p2] w fun e w' => e = .returned (lkV (faceLk (kns kn (prOf K X i) (L i)) (prOf K X i) (L i))) ∧ MapG pAgg w' km (knM (kns kn (prOf K X i) (L i)) 0) ∧ Only (fun k => k = km) w w' := by
  obtain rfl := HC.out.top (by omega)
  obtain ⟨w1, hw1⟩ : ∃ w1, w1 = w.alloc (.cells Tryz.zeroCells220 220) := ⟨_, rfl⟩
  have HR1 : Hid (LkB w1 w.heap.size ⟨0, fun _ => 0⟩) := by rw [hw1]; exact LkB.new w
  have HB1 : Hid (Below w.heap.size w w1) := by rw [hw1]; exact (Below.refl _ _).alloc (Nat.le_refl _) _
  have HC1 : Hid (Cl1 w1 p1 p2 (some ⟨tb, 0, none⟩) tb n cp km T) := HC.out.only (Only.below (P := fun _ => False) HB1.out) (fun _ _ _ h => h)
  have HM1 : Hid (MapG pAgg w1.drew km (knM kn 0)) := HM.out.same (HB1.out.block _ HM.out.lt)
  have hkm : km < w.heap.size := HM.out.lt
  have hcall := face_any n T M L K X i km kn w1.drew hi hL hkn HG ((HT.out.below HB1.out).below (Below.refl _ _).drew) HM1
  have HS : Hid (∀ x : World, Only (fun k => k = km ∨ k = w.heap.size) w1 x → x.cell? ⟨p1, 0, none⟩ = some (.slice (some ⟨tb, 0, none⟩) n cp) ∧ x.cell? ⟨p2, 0, none⟩ = some (.map (some km)) ∧ x.cell? ⟨tb, i, none⟩ = some (ptr (T i))) := show ∀ x, _ from fun x ho => by
    have l1 : p1 < w.heap.size := blk_lt HC.out.tv
    have l2 : p2 < w.heap.size := blk_lt HC.out.kv
    have l3 : tb < w.heap.size := World.block_lt_of_cell? _ _ (HC.out.row i hi)
    have n1 := HC.out.n1
    have n2 := HC.out.n2
    have n3 := HC.out.n3 (by omega)
    exact ⟨ho.cell (one_at HC1.out.tv).1 (by show ¬ (p1 = km ∨ p1 = w.heap.size); omega), ho.cell (one_at HC1.out.kv).1 (by show ¬ (p2 = km ∨ p2 = w.heap.size); omega), ho.cell (HC1.out.row i hi) (by show ¬ (tb = km ∨ tb = w.heap.size); omega)⟩
  have hbi : (0 : Int) ≤ (i : Int) ∧ (i : Int) < (n : Int) := by omega
  obtain ⟨lk, HLK⟩ : ∃ lk, Hid (faceLk (kns kn (prOf K X i) (L i)) (prOf K X i) (L i) = lk) := ⟨_, rfl⟩
  rw [HLK.out] at hcall
  rw [HLK.out]
  go_enter Tryz.func116, Tryz.ntmps116
  go_wp2
  rw [← hw1]
  clear hw1
  refine wp_region_held_drew (S := fun x => Only (fun k => k = km ∨ k = w.heap.size) w1 x) (by kernel_rfl) (Only.below ((Below.refl _ _).drew)) (fun hHeld => ?_)
  refine wpAnyH_take (i := 0) (v := .slice (some ⟨tb, 0, none⟩) n cp) rfl (by kernel_rfl) (by kernel_rfl) (by kernel_rfl) (fun _ _ _ h => h) (Or.inl ⟨by rfl, fun w hSw => ?_⟩) hHeld ?_
  · have s1 := (HS.out w hSw).1
    first | rfl | go_simp
  simp only [Act.put, List.setIfInBounds_toArray, List.set_cons_zero, List.set_cons_succ, List.getElem_toArray, List.getElem_cons_zero]
  refine wpAnyH_take (i := 1) (v := .int .i64 (i : Nat)) rfl (by kernel_rfl) (by kernel_rfl) (by kernel_rfl) (fun _ _ _ h => h) (Or.inl ⟨by rfl, fun w hSw => ?_⟩) hHeld ?_
  · first | rfl | go_simp
  simp only [Act.put, List.setIfInBounds_toArray, List.set_cons_zero, List.set_cons_succ, List.getElem_toArray, List.getElem_cons_zero, List.getElem_cons_succ]
  refine wpAnyH_take (i := 2) (v := .pointer (some ⟨tb, i, none⟩)) rfl (by kernel_rfl) (by kernel_rfl) (by kernel_rfl) (fun _ _ _ h => h) (Or.inl ⟨by rfl, fun w hSw => ?_⟩) hHeld ?_
  · first | rfl | go_simp
  simp only [Act.put, List.setIfInBounds_toArray, List.set_cons_zero, List.set_cons_succ, List.getElem_toArray, List.getElem_cons_zero, List.getElem_cons_succ]
  refine wpAnyH_take (i := 3) (v := ptr (T i)) rfl (by kernel_rfl) (by kernel_rfl) (by kernel_rfl) (fun _ _ _ h => h) (Or.inl ⟨by rfl, fun w hSw => ?_⟩) hHeld ?_
  · have s1 := (HS.out w hSw).2.2
    first | rfl | go_simp
  simp only [Act.put, List.setIfInBounds_toArray, List.set_cons_zero, List.set_cons_succ, List.getElem_toArray, List.getElem_cons_zero, List.getElem_cons_succ]
  refine wpAnyH_take (i := 4) (v := .map (some km)) rfl (by kernel_rfl) (by kernel_rfl) (by kernel_rfl) (fun _ _ _ h => h) (Or.inl ⟨by rfl, fun w hSw => ?_⟩) hHeld ?_
  · have s1 := (HS.out w hSw).2.1
    first | rfl | go_simp
  simp only [Act.put, List.setIfInBounds_toArray, List.set_cons_zero, List.set_cons_succ, List.getElem_toArray, List.getElem_cons_zero, List.getElem_cons_succ]
  refine wpAnyH_ready (rs := [5]) (by kernel_rfl) (by simp) ?_
  refine AllReadyH.cons rfl (fun K' hK' => ?_) AllReadyH.nil
  go_simp
  refine hcall.mono ?_
  clear hcall
  rintro e w2 ⟨rfl, hM2, hO2⟩
  have HR2 : Hid (LkB w2 w.heap.size ⟨0, fun _ => 0⟩) := (hO2.block _ HR1.out.lt (by omega)).trans HR1.out
  have HO2 : Hid (Only (fun k => k = km) w w2) := ((Only.below HB1.out).trans (Only.below ((Below.refl _ _).drew))).trans hO2
  have hS2 : Only (fun k => k = km ∨ k = w.heap.size) w1 w2 := (Only.below ((Below.refl _ _).drew)).trans (hO2.mono (fun k _ e => Or.inl e))
  refine hK'.out _ _ hS2 (fun hHeld => ?_)
  clear hK'
  obtain ⟨w3, hst, hB3, hO3, hs3⟩ := LkB.store lk HR2.out (by simp [lkCells_len])
  have HM3 : Hid (MapG pAgg w3 km (knM (kns kn (prOf K X i) (L i)) 0)) := hM2.same (hO3.block _ hM2.lt (by omega))
  have HO3 : Hid (Only (fun k => k = km) w w3) := HO2.out.thenBelow (base := w.heap.size) (hO3.toBelow (fun k e => by omega) HO2.out.size) (Nat.le_refl _)
  have hS3 : Only (fun k => k = km ∨ k = w.heap.size) w1 w3 := hS2.trans (hO3.mono (fun k _ e => Or.inr e))
  have HB3 : Hid (LkB w3 w.heap.size lk) := hB3
  have hcl := lkCells_len lk
  refine wpAnyH_ready (rs := [6]) (by kernel_rfl) (by simp) ?_
  refine AllReadyH.cons rfl (fun K' hK' => ?_) AllReadyH.nil
  go_simp
  refine hK'.out _ _ hS3 (fun hHeld => ?_)
  clear hK' hHeld
  refine wpAnyH_done (by kernel_rfl) ?_ _
  go_wp2
  refine bodyPost_ret (v := lkV lk) (results_cell_row Tryz.results116 _ _ w.heap.size 220 _ (0, 0) _ rfl HB3.out Tryz.underlying220 rfl (by rw [List.size_toArray]; exact size_look lk)) rfl ⟨rfl, HM3.out, HO3.out⟩

end Go.Proofs.YtgflalfiopnmnaaGreatDoor
