import Derived.Test.YtgflalfiopnmnaaGreatDoorM0
import Derived.Test.YtgflalfiopnmnaaGreatDoorM7
import Derived.Test.YtgflalfiopnmnaaGreatDoorM4
import Derived.Test.YtgflalfiopnmnaaGreatDoorM3
namespace Go.Proofs.YtgflalfiopnmnaaGreatDoor
open Go.RowKit Vl

def zAt (v : V) : V := ⟨v.k, v.n, v.s, 0⟩
def prOf (K X : Nat → Nat → V) (r c : Nat) : PV2 := (K r c, zAt (X r c))
def faceLk (kn : List PV2) (pr : Nat → PV2) (c : Nat) : Lk := ⟨0, fun i => if i < c then kn.idxOf (pr i) + 1 else 0⟩

theorem map_len {w : World} {M clk : Nat} {es : Array MapEntry} (h : w.heap[M]? = some (.map es clk)) : (Builtin.len_ #[215] 3 #[.map (some M)]).run Tryz.prog w = .ok (.int .i64 (es.size : Nat)) w := by
  simp [Builtin.len_, run_underlying Tryz.underlying215, MapKept.run_getObj_map h]
  rfl

set_option maxHeartbeats 2000000 in
set_option maxRecDepth 100000 in
theorem face_any (n : Nat) (T M : Nat → Nat) (L : Nat → Nat) (K X : Nat → Nat → V) (r km : Nat) (kn : List PV2) (w : World) (hr : r < n) (hL : L r ≤ 100) (hkn : kn.length ≤ 50000) (HG : Hid (Good n L X)) (HT : Hid (Tbs w n T M (fun j => (j : Nat)) L K X)) (HM : Hid (MapG pAgg w km (knM kn 0))) :
    Calls Tryz.prog 117 #[.pointer (some ⟨T r, 0, none⟩), .map (some km)] w fun e w' => e = .returned (lkV (faceLk (kns kn (prOf K X r) (L r)) (prOf K X r) (L r))) ∧ MapG pAgg w' km (knM (kns kn (prOf K X r) (L r)) 0) ∧ Only (fun k => k = km) w w' := by
  have A2 := alloc2 w (.cells Tryz.zeroCells220 220) (.cells Tryz.zeroCells220 220)
  obtain ⟨w1, hw1⟩ : ∃ w1, w1 = (w.alloc (.cells Tryz.zeroCells220 220)).alloc (.cells Tryz.zeroCells220 220) := ⟨_, rfl⟩
  have HR1 : Hid (LkB w1 w.heap.size ⟨0, fun _ => 0⟩) := by rw [hw1]; show LkB _ _ _; unfold LkB; rw [← zero_look]; exact A2.1
  have HB1 : Hid (LkB w1 (w.heap.size + 1) ⟨0, fun _ => 0⟩) := by rw [hw1]; show LkB _ _ _; unfold LkB; rw [← zero_look]; exact A2.2.1
  have HW1 : Hid (Below w.heap.size w w1) := by rw [hw1]; exact A2.2.2.2
  clear A2
  have hcall := pairs_any n T M (fun j => (j : Nat)) L K X r w1 hr hL HG (HT.out.below HW1.out)
  go_enter Tryz.func117, Tryz.ntmps117
  go_wp2_with fail
  rw [← hw1]
  refine hcall.mono ?_
  clear hcall hw1
  rintro e w2 ⟨⟨pv, rfl, hown⟩, hb2⟩
  obtain ⟨hform, hP⟩ := owns_pairs hown
  have HP : Hid (PairsAt w2 (slA pv) (L r) (slB pv) 0 (K r) (fun c => atV (fun j => (j : Nat)) (X r c))) := hP
  have HPB : Hid (0 < L r → w1.heap.size ≤ slB pv) := show _ → _ from fun h0 => by
    obtain ⟨g, cap, hv, _⟩ := owns_cell hown (k := 0) (y := .int .i64 (K r 0).k) (by have := pairCells_at (K r) (fun c => atV (fun j => (j : Nat)) (X r c)) (L r) 0 0 h0 (by omega); simpa using this)
    obtain ⟨_, _, _, hk⟩ := owns_form hown
    rw [hv]
    have := (hk g (by rw [hv]; rfl)).1
    exact this
  obtain ⟨pa, hpa⟩ : ∃ a, slA pv = a := ⟨_, rfl⟩
  obtain ⟨pb, hpb⟩ : ∃ a, slB pv = a := ⟨_, rfl⟩
  obtain ⟨pc, hpc⟩ : ∃ a, slC pv = a := ⟨_, rfl⟩
  rw [hpa, hpc] at hform
  rw [hpa, hpb] at HP
  rw [hpb] at HPB
  rw [hform]
  have HR2 : Hid (LkB w2 w.heap.size ⟨0, fun _ => 0⟩) := HR1.out.below hb2
  have HB2 : Hid (LkB w2 (w.heap.size + 1) ⟨0, fun _ => 0⟩) := HB1.out.below hb2
  have HW2 : Hid (Below w.heap.size w w2) := grw HW1.out hb2
  have HM2 : Hid (MapG pAgg w2 km (knM kn 0)) := HM.out.same (HW2.out.block _ HM.out.lt)
  have hkm : km < w.heap.size := HM.out.lt
  have hs1 : w.heap.size + 1 < w1.heap.size := HB1.out.lt
  clear hown hP hb2 hpa hpb hpc hform HR1 HB1
  go_wp2
  go_loopw [13] (fun ii wr => ∃ c : Nat, c ≤ L r ∧ ii = .int .i64 c ∧ Hid (LkB wr (w.heap.size + 1) (faceLk (kns kn (prOf K X r) (L r)) (prOf K X r) c)) ∧ Hid (MapG pAgg wr km (knM (kns kn (prOf K X r) c) 0)) ∧ Hid (Only (fun k => k = km ∨ k = w.heap.size + 1) w2 wr)) (fun ii _ => L r - (intOf ii).toNat)
  case atStart =>
    refine ⟨0, Nat.zero_le _, rfl, ?_, HM2, Only.refl _ _⟩
    have e : faceLk (kns kn (prOf K X r) (L r)) (prOf K X r) 0 = ⟨0, fun _ => 0⟩ := by unfold faceLk; simp
    rw [e]
    exact HB2
  case round =>
    obtain ⟨c, hc, rfl, HBc, HMc, HOc⟩ := hrel
    by_cases hlt : c < L r
    · obtain rfl := HP.out.top (by omega)
      have hpb := HPB.out (by omega)
      have HPr : Hid (PairsAt wr (some ⟨pb, 0, none⟩) (L r) pb 0 (K r) (fun c => atV (fun j => (j : Nat)) (X r c))) := HP.out.only HOc.out (fun _ => by omega)
      obtain ⟨⟨k0, k1, k2, k3⟩, ⟨v0, v1, v2, v3⟩⟩ := HPr.out.cells hlt
      simp only [Nat.zero_add] at k0 k1 k2 k3 v0 v1 v2 v3
      obtain ⟨kk, HKK⟩ : ∃ kk, Hid (K r c = kk) := ⟨_, rfl⟩
      obtain ⟨xx, HXX⟩ : ∃ xx, Hid (atV (fun j => (j : Nat)) (X r c) = xx) := ⟨_, rfl⟩
      rw [HKK.out] at k0 k1 k2 k3
      rw [HXX.out] at v0 v1 v2 v3
      obtain ⟨p, HPP⟩ : ∃ p, Hid (prOf K X r c = p) := ⟨_, rfl⟩
      have hp : p = (kk, ⟨xx.k, xx.n, xx.s, 0⟩) := by
        rw [← HPP.out, ← HKK.out, ← HXX.out]
        unfold prOf zAt atV
        by_cases h4 : (X r c).k = 4
        · rw [if_pos h4]
        · rw [if_neg h4]
      have hpv : pAgg p = .agg #[.int .i64 kk.k, .int .i64 kk.n, .string kk.s, .int .i64 kk.a, .int .i64 xx.k, .int .i64 xx.n, .string xx.s, .int .i64 0] := by rw [hp]
      obtain ⟨kc, HKC⟩ : ∃ kc, Hid (kns kn (prOf K X r) c = kc) := ⟨_, rfl⟩
      have hlen : kc.length ≤ 50100 := by rw [← HKC.out]; have := kns_len kn (prOf K X r) c; omega
      rw [HKC.out] at HMc
      obtain ⟨wa, hwa⟩ : ∃ wa, wa = wr.alloc (.cells #[.int .i64 kk.k, .int .i64 kk.n, .string kk.s, .int .i64 kk.a, .int .i64 xx.k, .int .i64 xx.n, .string xx.s, .int .i64 0] 39) := ⟨_, rfl⟩
      have hba : Below wr.heap.size wr wa := by rw [hwa]; exact (Below.refl _ _).alloc (Nat.le_refl _) _
      have HBa : Hid (LkB wa (w.heap.size + 1) (faceLk (kns kn (prOf K X r) (L r)) (prOf K X r) c)) := HBc.out.below hba
      have HMa : Hid (MapG pAgg wa km (knM kc 0)) := HMc.out.same (hba.block _ HMc.out.lt)
      have HOa : Hid (Only (fun k => k = km ∨ k = w.heap.size + 1) w2 wa) := HOc.out.trans (Only.below hba)
      have HPa : Hid (wa.heap[wr.heap.size]? = some (.cells #[.int .i64 kk.k, .int .i64 kk.n, .string kk.s, .int .i64 kk.a, .int .i64 xx.k, .int .i64 xx.n, .string xx.s, .int .i64 0] 39 (0, 0))) := by rw [hwa]; exact heap_alloc_new _ _
      have hbr : w.heap.size + 1 < wr.heap.size := HBc.out.lt
      have hkr : km < wr.heap.size := HMc.out.lt
      have hbc : (0 : Int) ≤ (c : Int) ∧ (c : Int) < 100 := by omega
      have hfin : ∀ (wz : World) (x : Nat), LkB wz (w.heap.size + 1) (faceLk (kns kn (prOf K X r) (L r)) (prOf K X r) c) → (kns kn (prOf K X r) (L r)).idxOf p + 1 = x → LkB (wz.setCell ⟨w.heap.size + 1, 1 + c, none⟩ (.int .u16 (x : Nat))) (w.heap.size + 1) (faceLk (kns kn (prOf K X r) (L r)) (prOf K X r) (c + 1)) := fun wz x hz hx => by
        have := hz.set c x (by omega)
        have e : (⟨(faceLk (kns kn (prOf K X r) (L r)) (prOf K X r) c).was, fun j => if j = c then x else (faceLk (kns kn (prOf K X r) (L r)) (prOf K X r) c).parts j⟩ : Lk) = faceLk (kns kn (prOf K X r) (L r)) (prOf K X r) (c + 1) := by
          unfold faceLk
          congr 1
          funext j
          simp only
          by_cases e : j = c
          · rw [if_pos e, if_pos (by omega), e, HPP.out, hx]
          · rw [if_neg e]
            by_cases h' : j < c
            · rw [if_pos h', if_pos (by omega)]
            · rw [if_neg h', if_neg (by omega)]
        rw [e] at this
        exact this
      have HFin : Hid _ := hfin
      clear hfin hba HPr
      have hpre := kns_pre kn (prOf K X r) (show c + 1 ≤ L r from hlt)
      have hsucc : kns kn (prOf K X r) (c + 1) = addTo kc p := by show addTo (kns kn (prOf K X r) c) (prOf K X r c) = _; rw [HKC.out, HPP.out]
      by_cases hm : p ∈ kc
      · have hadd : addTo kc p = kc := by unfold addTo; rw [if_pos hm]
        rw [hadd] at hsucc
        have HSu : Hid (kns kn (prOf K X r) (c + 1) = kc) := hsucc
        rw [hsucc] at hpre
        have hx := idx_pre hpre hm
        obtain ⟨x, HX⟩ : ∃ x : Nat, Hid (kc.idxOf p + 1 = x) := ⟨_, rfl⟩
        have hl1 := (HMa.out.lookup pair_keyed p trivial (fun _ _ => trivial)).1
        have hl2 := (HMa.out.lookup pair_keyed p trivial (fun _ _ => trivial)).2
        rw [knM_find, if_pos hm, Nat.zero_add, HX.out, hpv] at hl1 hl2
        have hbo : ∀ o, Below (wr.setCell ⟨w.heap.size + 1, 1 + c, none⟩ (.int .u16 (x : Nat))).heap.size (wr.setCell ⟨w.heap.size + 1, 1 + c, none⟩ (.int .u16 (x : Nat))) ((wr.setCell ⟨w.heap.size + 1, 1 + c, none⟩ (.int .u16 (x : Nat))).alloc o) := fun o => (Below.refl _ _).alloc (Nat.le_refl _) _
        have HB5 : Hid (∀ o, LkB ((wr.setCell ⟨w.heap.size + 1, 1 + c, none⟩ (.int .u16 (x : Nat))).alloc o) (w.heap.size + 1) (faceLk (kns kn (prOf K X r) (L r)) (prOf K X r) (c + 1))) := show ∀ o, _ from fun o => (HFin.out wr x HBc.out (by rw [hx]; exact HX.out)).below (hbo o)
        have HM5 : Hid (∀ o, MapG pAgg ((wr.setCell ⟨w.heap.size + 1, 1 + c, none⟩ (.int .u16 (x : Nat))).alloc o) km (knM kc 0)) := show ∀ o, _ from fun o => HMc.out.same (((hbo o).block _ (by simp [World.setCell]; exact hkr)).trans (Below.heap_setCell _ _ _ _ (show km ≠ w.heap.size + 1 by omega)))
        have HO5 : Hid (∀ o, Only (fun k => k = km ∨ k = w.heap.size + 1) w2 ((wr.setCell ⟨w.heap.size + 1, 1 + c, none⟩ (.int .u16 (x : Nat))).alloc o)) := show ∀ o, _ from fun o => (HOc.out.set (Or.inr rfl) _).trans (Only.below (hbo o))
        clear hbo
        obtain ⟨q0, qz⟩ := HBa.out.cell (i := 1 + c) (by omega)
        obtain ⟨r0, r1, r2, r3, r4, r5, r6, r7, _⟩ := cells8 HPa.out
        rw [hwa] at hl1 hl2 q0 r0 r1 r2 r3 r4 r5 r6 r7 qz
        clear hp hpv hx hpre hsucc hadd hm
        clear HBc HMc HOc
        go_wp2
        go_roundw
        case rel => exact ⟨c + 1, by omega, by go_num, HB5.out _, by rw [HSu.out]; exact HM5.out _, HO5.out _⟩
        case measure => simp [intOf]; omega
      · have hadd : addTo kc p = kc ++ [p] := by unfold addTo; rw [if_neg hm]
        rw [hadd] at hsucc
        have HSu : Hid (kns kn (prOf K X r) (c + 1) = kc ++ [p]) := hsucc
        rw [hsucc] at hpre
        have hx := idx_pre hpre (p := p) (by simp)
        have hxl : (kc ++ [p]).idxOf p = kc.length := by rw [List.idxOf_append, if_neg hm]; simp
        have hl1 := (HMa.out.lookup pair_keyed p trivial (fun _ _ => trivial)).1
        rw [knM_find, if_neg hm, hpv] at hl1
        obtain ⟨es, clk, hes, hel⟩ := HMa.out.len
        rw [knM_len] at hel
        obtain ⟨wb, hu, hMb, hOb, hsb⟩ := HMa.out.update pair_keyed p (.int .u16 ((kc.length + 1 : Nat) : Int)) trivial (fun _ _ => trivial) (by rw [knM_find, if_neg hm])
        rw [hpv] at hu
        have hMb' : MapG pAgg wb km (knM (kc ++ [p]) 0) := by rw [knM_snoc, Nat.zero_add]; exact hMb
        have hl2 := (hMb'.lookup pair_keyed p trivial (fun _ _ => trivial)).2
        rw [knM_find, if_pos (by simp), hxl, Nat.zero_add, hpv] at hl2
        have HBb : Hid (LkB wb (w.heap.size + 1) (faceLk (kns kn (prOf K X r) (L r)) (prOf K X r) c)) := (hOb.block _ HBa.out.lt (by omega)).trans HBa.out
        have HPb : Hid (wb.heap[wr.heap.size]? = some (.cells #[.int .i64 kk.k, .int .i64 kk.n, .string kk.s, .int .i64 kk.a, .int .i64 xx.k, .int .i64 xx.n, .string xx.s, .int .i64 0] 39 (0, 0))) := (hOb.block _ (blk_lt HPa.out) (by omega)).trans HPa.out
        have HOb : Hid (Only (fun k => k = km ∨ k = w.heap.size + 1) w2 wb) := HOa.out.trans (hOb.mono (fun k _ e => Or.inl e))
        obtain ⟨q0, qz⟩ := HBb.out.cell (i := 1 + c) (by omega)
        obtain ⟨r0, r1, r2, r3, r4, r5, r6, r7, _⟩ := cells8 HPa.out
        obtain ⟨s0, s1, s2, s3, s4, s5, s6, s7, _⟩ := cells8 HPb.out
        obtain ⟨x, hxe⟩ : ∃ x : Nat, kc.length + 1 = x := ⟨_, rfl⟩
        have HB5 : Hid (LkB (wb.setCell ⟨w.heap.size + 1, 1 + c, none⟩ (.int .u16 (x : Nat))) (w.heap.size + 1) (faceLk (kns kn (prOf K X r) (L r)) (prOf K X r) (c + 1))) := HFin.out wb x HBb.out (by rw [hx, hxl]; exact hxe)
        have HM5 : Hid (MapG pAgg (wb.setCell ⟨w.heap.size + 1, 1 + c, none⟩ (.int .u16 (x : Nat))) km (knM (kc ++ [p]) 0)) := hMb'.same (Below.heap_setCell _ _ _ _ (show km ≠ w.heap.size + 1 by omega))
        have HO5 : Hid (Only (fun k => k = km ∨ k = w.heap.size + 1) w2 (wb.setCell ⟨w.heap.size + 1, 1 + c, none⟩ (.int .u16 (x : Nat)))) := HOb.out.set (Or.inr rfl) _
        have hwx : IntKind.u16.wrap ((kc.length : Int) + 1) = ((x : Nat) : Int) := by unfold IntKind.wrap; simp [IntKind.bits, IntKind.signed]; omega
        have hwi : IntKind.i64.wrap ((kc.length : Int) + 1) = (kc.length : Int) + 1 := by rw [IntKind.wrap_i64]; omega
        rw [hxe] at hu hl2
        have hln := map_len hes
        rw [hel] at hln
        rw [hwa] at hl1 hu hln r0 r1 r2 r3 r4 r5 r6 r7
        clear hes hel
        clear hp hpv hx hxl hpre hsucc hadd hm hxe hMb hMb' hOb hsb HBc HMc HOc
        go_wp2
        go_roundw
        case rel => exact ⟨c + 1, by omega, by go_num, HB5, by rw [HSu.out]; exact HM5, HO5⟩
        case measure => simp [intOf]; omega
    · obtain rfl : c = L r := by omega
      have HRc : Hid (LkB wr w.heap.size ⟨0, fun _ => 0⟩) := (HOc.out.block _ HR2.out.lt (by omega)).trans HR2.out
      obtain ⟨lk, HLK⟩ : ∃ lk, Hid (faceLk (kns kn (prOf K X r) (L r)) (prOf K X r) (L r) = lk) := ⟨_, rfl⟩
      rw [HLK.out] at HBc
      obtain ⟨w3, hst, hB3, hO3, hs3⟩ := LkB.store lk HRc.out (by simp [lkCells_len])
      have HB3 : Hid (LkB w3 w.heap.size lk) := hB3
      have HM3 : Hid (MapG pAgg w3 km (knM (kns kn (prOf K X r) (L r)) 0)) := HMc.out.same (hO3.block _ HMc.out.lt (by omega))
      have HO3 : Hid (Only (fun k => k = km) w w3) := show Only _ _ _ from ⟨hO3.os.trans (HOc.out.os.trans HW2.out.os), hO3.tape.trans (HOc.out.tape.trans HW2.out.tape), hO3.output.trans (HOc.out.output.trans HW2.out.output), Nat.le_trans HW2.out.size (Nat.le_trans HOc.out.size hO3.size), fun k hk hne => by
        have h2 := HW2.out.size
        have h3 := HOc.out.size
        rw [hO3.block k (by omega) (by omega), HOc.out.block k (by omega) (by omega), HW2.out.block k hk]⟩
      have HRG : Hid (wr.rangeAt (w.heap.size + 1) 0 (lkCells lk)) := HBc.out.range
      obtain ⟨d, hd, hr'⟩ := row_look
      have hcl := lkCells_len lk
      clear hB3 hO3 hs3
      go_wp2
      refine wp_load_mid 220 (.tmp 5) rfl (w.heap.size + 1) 0 rfl (lkCells lk) d HRG.out hd hr' (size_look lk) ?_
      clear hd hr'
      go_wp2
      refine bodyPost_ret (v := lkV lk) (results_cell_row Tryz.results117 _ _ w.heap.size 220 _ (0, 0) _ rfl HB3.out Tryz.underlying220 rfl (by rw [List.size_toArray]; exact size_look lk)) rfl ⟨by rw [HLK.out], HM3.out, HO3.out⟩

end Go.Proofs.YtgflalfiopnmnaaGreatDoor

namespace Go.Proofs.YtgflalfiopnmnaaGreatDoor
open Go.RowKit Vl

def ldsTo (x : Nat → V) (c : Nat) : List Nat := (List.range c).filterMap fun i => if (x i).k = 4 then some (x i).a.toNat else none
theorem ldsTo_succ (x : Nat → V) (c : Nat) : ldsTo x (c + 1) = if (x c).k = 4 then ldsTo x c ++ [(x c).a.toNat] else ldsTo x c := by
  unfold ldsTo
  rw [List.range_succ, List.filterMap_append]
  by_cases h : (x c).k = 4 <;> simp [h]
theorem ldsTo_len (x : Nat → V) (c : Nat) : (ldsTo x c).length ≤ c := by
  have := List.length_filterMap_le (fun i => if (x i).k = 4 then some (x i).a.toNat else none) (List.range c)
  simpa [ldsTo] using this

set_option maxHeartbeats 2000000 in
set_option maxRecDepth 100000 in
theorem leads_any (n : Nat) (T M : Nat → Nat) (L : Nat → Nat) (K X : Nat → Nat → V) (r : Nat) (w : World) (hr : r < n) (hL : L r ≤ 100) (HG : Hid (Good n L X)) (HT : Hid (Tbs w n T M (fun j => (j : Nat)) L K X)) :
    Calls Tryz.prog 118 #[.pointer (some ⟨T r, 0, none⟩)] w fun e w' => (∃ lv, e = .returned lv ∧ w'.ownsRow w.heap.size 3 1 lv (ldsTo (X r) (L r)).length (natCells (ldsTo (X r) (L r)))) ∧ Below w.heap.size w w' := by
  obtain ⟨ord, hTb, hOr⟩ := HT.out.tab r hr
  obtain ⟨l, hM, hfind⟩ := HT.out.map r hr
  obtain ⟨hform, hVals⟩ := owns_keys hOr
  have HTb : Hid (TabB w (T r) (M r) ((fun j : Nat => (j : Int)) r) ord) := hTb
  have HM : Hid (MapIs w (M r) l) := hM
  have HF : Hid (∀ c, c < L r → findV (K r c) l = some (ifv T (X r c))) := hfind
  obtain ⟨ka, hka⟩ : ∃ ka, slA ord = ka := ⟨_, rfl⟩
  obtain ⟨kb, hkb⟩ : ∃ kb, slB ord = kb := ⟨_, rfl⟩
  obtain ⟨kc, hkc⟩ : ∃ kc, slC ord = kc := ⟨_, rfl⟩
  rw [hka, hkc] at hform
  rw [hka, hkb] at hVals
  have HV : Hid (ValsAt w ka (L r) kb 0 (K r)) := hVals
  rw [hform] at HTb
  clear hTb hM hfind hVals hOr hform hka hkb hkc
  obtain ⟨i0, hi, hz0, hz1, hz2⟩ := info_parts Tryz.infoN
  obtain ⟨t0, t1, t2, _⟩ := HTb.out.cells
  go_enter Tryz.func118, Tryz.ntmps118
  go_wp2
  clear t0 t1 t2
  go_loopw [3, 12] (fun lv ii wr => ∃ c : Nat, c ≤ L r ∧ ii = .int .i64 c ∧ Hid (wr.ownsRow w.heap.size 3 1 lv (ldsTo (X r) c).length (natCells (ldsTo (X r) c))) ∧ Hid (Below w.heap.size w wr)) (fun _ ii _ => L r - (intOf ii).toNat)
  case atStart => exact ⟨0, Nat.zero_le _, rfl, World.ownsRow_nil _ _ _ _, Below.refl _ _⟩
  case round =>
    obtain ⟨c, hc, rfl, HO, HB⟩ := hrel
    obtain ⟨pa, pc, rfl, _⟩ := owns_form HO.out
    by_cases hlt : c < L r
    · obtain rfl := HV.out.top (by omega)
      obtain ⟨k0, k1, k2, k3⟩ := (HV.out.below HB.out).cells hlt
      simp only [Nat.zero_add] at k0 k1 k2 k3
      obtain ⟨kk, HKK⟩ : ∃ kk, Hid (K r c = kk) := ⟨_, rfl⟩
      rw [HKK.out] at k0 k1 k2 k3
      go_wp2
      obtain ⟨wk, hwk⟩ : ∃ wk, wk = wr.alloc (.cells #[.int .i64 kk.k, .int .i64 kk.n, .string kk.s, .int .i64 kk.a] 24) := ⟨_, rfl⟩
      have HBk : Hid (Below wr.heap.size wr wk) := by rw [hwk]; exact (Below.refl _ _).alloc (Nat.le_refl _) _
      have HKb : Hid (ValB wk wr.heap.size kk) := by rw [hwk]; exact heap_alloc_new _ _
      rw [← hwk]
      clear hwk k0 k1 k2 k3
      have HBw : Hid (Below w.heap.size w wk) := HB.out.trans (HBk.out.mono HB.out.size)
      have HOk : Hid (wk.ownsRow w.heap.size 3 1 (.slice pa (ldsTo (X r) c).length pc) (ldsTo (X r) c).length (natCells (ldsTo (X r) c))) := (Only.below (P := fun _ => False) HBk.out).owns HO.out (fun _ _ _ h => h)
      obtain ⟨qb, hqb⟩ : ∃ qb, wr.heap.size = qb := ⟨_, rfl⟩
      rw [hqb] at HKb ⊢
      clear HBk HO HB hqb
      have hiv := HG.out r hr c hlt
      have hfc := HF.out c hlt
      obtain ⟨xt, xy, hxv⟩ := ifv_form T (X r c)
      rw [hxv, HKK.out] at hfc
      obtain ⟨c0, c1, c2, c3, _⟩ := cells4 HKb.out
      replace c0 := cellB c0
      replace c1 := cellB c1
      replace c2 := cellB c2
      replace c3 := cellB c3
      have t1 : ∀ w', Below wk.heap.size wk w' → w'.cell? ⟨T r, 1, none⟩ = some (.map (some (M r))) := cellB ((HBw.out.cell (p := ⟨T r, 1, none⟩) (HT.out.lt hr)).trans HTb.out.cells.2.1)
      have hlk : ∀ w', Below wk.heap.size wk w' → (Instr.lookup 119 (.map (some (M r))) (.agg #[.int .i64 kk.k, .int .i64 kk.n, .string kk.s, .int .i64 kk.a]) false).run Tryz.prog w' = .ok (.iface xt xy) w' := fun w' hb => by
        have := ((HM.out.same ((hb.block _ (Nat.lt_of_lt_of_le HM.out.lt HBw.out.size)).trans (HBw.out.block _ HM.out.lt))).lookup kk).2
        rw [hfc] at this
        exact this
      go_region_held3 (fun w' => Below wk.heap.size wk w') (first | exact (Below.refl _ _).drew) (fail)
      clear c0 c1 c2 c3 t1 hlk hfc
      have HBd : Hid (Below w.heap.size w wk.drew) := HBw.out.drew
      have HOd : Hid (wk.drew.ownsRow w.heap.size 3 1 (.slice pa (ldsTo (X r) c).length pc) (ldsTo (X r) c).length (natCells (ldsTo (X r) c))) := HOk.out
      obtain ⟨wd, hwd⟩ : ∃ wd, wd = wk.drew := ⟨_, rfl⟩
      rw [← hwd] at HBd HOd ⊢
      clear hwd HBw HOk HKb
      have hll := ldsTo_len (X r) c
      by_cases h4 : (X r c).k = 4
      · have hE : Hid (ldsTo (X r) (c + 1) = ldsTo (X r) c ++ [(X r c).a.toNat]) := by show _ = _; rw [ldsTo_succ, if_pos h4]
        rw [ifv_tab h4] at hxv
        cases hxv
        obtain ⟨a0, a1⟩ := isV_tab hiv h4
        obtain ⟨q, HQ⟩ : ∃ q, Hid ((X r c).a.toNat = q) := ⟨_, rfl⟩
        have hq : q < n := by rw [← HQ.out]; omega
        rw [HQ.out] at hE ⊢
        have hta := assert_yes (T q)
        have a2 : wd.cell? ⟨T q, 0, none⟩ = some (.int .i64 (q : Nat)) := (HBd.out.cell (p := ⟨T q, 0, none⟩) (HT.out.lt hq)).trans (HT.out.at0 q hq)
        obtain ⟨ml, HML⟩ : ∃ ml, Hid ((ldsTo (X r) c).length = ml) := ⟨_, rfl⟩
        rw [HML.out] at HOd hll ⊢
        have hsd := HBd.out.size
        go_wp2_with (at_builtin; refine wpList_append_lies _ (by rfl) (.tmp 25) (.tmp 30) 93 (by rfl) w.heap.size 3 i0 (.int .i64 0) 1 8 Tryz.underlying93 hi hz0 hz1 hz2 (by rfl) (by omega) (.slice pa ml pc) ml (natCells (ldsTo (X r) c)) (by rfl) (HOd.out.alloc _) ⟨wd.heap.size, 0, none⟩ 1 1 [.int .i64 (q : Nat)] (by rfl) (by rfl) ?c1 ?c2 (by omega) ?c3 ?c4 ?c5 (wd.heap.size + 1) ?c6 ?_)
        case c1 => exact World.news_of_block (heap_alloc_new wd _)
        case c2 => intro u hu; simp at hu; subst hu; rfl
        case c3 => unfold maxLen; omega
        case c4 => omega
        case c5 => simp; omega
        case c6 => simp
        intro g cap w7 hown7 hgrow7 hat7 hlt7
        have hb7 : Below w.heap.size (wd.alloc (.cells #[.int .i64 (q : Nat)] 3)) w7 := below_grown (HOd.out.alloc _) hgrow7 (by simp; omega)
        have HB7 : Hid (Below w.heap.size w w7) := (HBd.out.alloc HBd.out.size _).trans hb7
        have HO7 : Hid (w7.ownsRow w.heap.size 3 1 (.slice (some ⟨g, 0, none⟩) (ml + 1) cap) (ldsTo (X r) (c + 1)).length (natCells (ldsTo (X r) (c + 1)))) := by
          rw [hE.out, natCells_snoc, List.length_append, HML.out]
          exact hown7
        clear hown7 hgrow7 hat7 hlt7 hb7 a2 hta
        go_wp2
        go_roundw
        case rel => exact ⟨c + 1, by omega, by go_num, HO7, HB7⟩
        case measure => simp [intOf]; omega
      · have hE : Hid (ldsTo (X r) (c + 1) = ldsTo (X r) c) := by show _ = _; rw [ldsTo_succ, if_neg h4]
        have hta := assert_no hiv h4 T
        rw [hxv] at hta
        clear hxv
        go_wp2
        go_roundw
        case rel => exact ⟨c + 1, by omega, by go_num, by rw [hE.out]; exact HOd, HBd⟩
        case measure => simp [intOf]; omega
    · obtain rfl : c = L r := by omega
      go_wp2
      go_ret
      exact ⟨⟨_, rfl, HO.out⟩, HB.out⟩

end Go.Proofs.YtgflalfiopnmnaaGreatDoor

namespace Go.Proofs.YtgflalfiopnmnaaGreatDoor
open Go.RowKit Vl

theorem Tbs.onlyM {w w' : World} {n : Nat} {T M : Nat → Nat} {at_ : Nat → Int} {L : Nat → Nat} {K X : Nat → Nat → V} {km : Nat} {l : List (PV2 × Value)} (h : Tbs w n T M at_ L K X) (ho : Only (fun k => k = km) w w') (hm : MapG pAgg w km l) (hM : ∀ j, j < n → M j ≠ km) : Tbs w' n T M at_ L K X := by
  obtain ⟨es, clk, hk, _⟩ := hm
  refine ⟨fun j hj => ?_, fun j hj => ?_, h.inj, h.noneB (fun j hj => ?_)⟩
  rotate_left 2
  · obtain ⟨l, a1, _⟩ := h.map j hj
    exact ho.block _ a1.lt (hM j hj)
  · obtain ⟨ord, a1, a2⟩ := h.tab j hj
    refine ⟨ord, (ho.block _ (blk_lt a1) (fun e => ?_)).trans a1, ho.ownsB a2 (fun g hg e => ?_)⟩
    · unfold TabB at a1
      rw [e, hk] at a1
      cases a1
    · obtain ⟨_, cur, hc⟩ := owns_type a2 hg
      rw [e, hk] at hc
      cases hc
  · obtain ⟨l, a1, a2⟩ := h.map j hj
    exact ⟨l, a1.same (ho.block _ a1.lt (hM j hj)), a2⟩

def knAll (L : Nat → Nat) (K X : Nat → Nat → V) : Nat → List PV2
  | 0 => []
  | i + 1 => kns (knAll L K X i) (prOf K X i) (L i)
theorem knAll_len {n : Nat} {L : Nat → Nat} (K X : Nat → Nat → V) (hL : ∀ r, r < n → L r ≤ 100) : ∀ i, i ≤ n → (knAll L K X i).length ≤ i * 100
  | 0, _ => by simp [knAll]
  | i + 1, hi => by
    have h1 := knAll_len K X hL i (by omega)
    have h2 := kns_len (knAll L K X i) (prOf K X i) (L i)
    have h3 := hL i (by omega)
    show (kns (knAll L K X i) (prOf K X i) (L i)).length ≤ _
    omega

structure Cl1 (w : World) (p1 p2 : Nat) (ta : Option Addr) (tb n cp km : Nat) (T : Nat → Nat) : Prop where
  top : 0 < n → ta = some ⟨tb, 0, none⟩
  tv : w.heap[p1]? = some (.cells #[.slice ta n cp] 55 (0, 0))
  kv : w.heap[p2]? = some (.cells #[.map (some km)] 215 (0, 0))
  row : ∀ j, j < n → w.cell? ⟨tb, j, none⟩ = some (ptr (T j))
  n1 : p1 ≠ km
  n2 : p2 ≠ km
  n3 : 0 < n → tb ≠ km
theorem Cl1.only {w w' : World} {p1 p2 : Nat} {ta : Option Addr} {tb n cp km : Nat} {T : Nat → Nat} {P : Nat → Prop} (h : Cl1 w p1 p2 ta tb n cp km T) (ho : Only P w w') (hP : ∀ k, k < w.heap.size → k ≠ km → ¬ P k) : Cl1 w' p1 p2 ta tb n cp km T :=
  ⟨h.top, (ho.block _ (blk_lt h.tv) (hP _ (blk_lt h.tv) h.n1)).trans h.tv, (ho.block _ (blk_lt h.kv) (hP _ (blk_lt h.kv) h.n2)).trans h.kv, fun j hj => ho.cell (h.row j hj) (hP _ (World.block_lt_of_cell? _ _ (h.row j hj)) (h.n3 (by omega))), h.n1, h.n2, h.n3⟩

set_option maxHeartbeats 2000000 in
set_option maxRecDepth 100000 in
theorem clos1_any (n : Nat) (T M : Nat → Nat) (L : Nat → Nat) (K X : Nat → Nat → V) (i p1 p2 : Nat) (ta : Option Addr) (tb cp km : Nat) (kn : List PV2) (w : World) (hi : i < n) (hL : L i ≤ 100) (hkn : kn.length ≤ 50000) (HG : Hid (Good n L X)) (HT : Hid (Tbs w n T M (fun j => (j : Nat)) L K X)) (HM : Hid (MapG pAgg w km (knM kn 0))) (HC : Hid (Cl1 w p1 p2 ta tb n cp km T)) :
    Calls Tryz.prog 116 #[.int .i64 (i : Nat), ptr p1, ptr p2] w fun e w' => e = .returned (lkV (faceLk (kns kn (prOf K X i) (L i)) (prOf K X i) (L i))) ∧ MapG pAgg w' km (knM (kns kn (prOf K X i) (L i)) 0) ∧ Only (fun k => k = km) w w' := by
  obtain rfl := HC.out.top (by omega)
  obtain ⟨w1, hw1⟩ : ∃ w1, w1 = w.alloc (.cells Tryz.zeroCells220 220) := ⟨_, rfl⟩
  have HR1 : Hid (LkB w1 w.heap.size ⟨0, fun _ => 0⟩) := by rw [hw1]; exact LkB.new w
  have HB1 : Hid (Below w.heap.size w w1) := by rw [hw1]; exact (Below.refl _ _).alloc (Nat.le_refl _) _
  have HC1 : Hid (Cl1 w1 p1 p2 (some ⟨tb, 0, none⟩) tb n cp km T) := HC.out.only (Only.below (P := fun _ => False) HB1.out) (fun _ _ _ h => h)
  have HM1 : Hid (MapG pAgg w1.drew km (knM kn 0)) := HM.out.same (HB1.out.block _ HM.out.lt)
  have hkm : km < w.heap.size := HM.out.lt
  have hcall := face_any n T M L K X i km kn w1.drew hi hL hkn HG ((HT.out.below HB1.out).below (Below.refl _ _).drew) HM1
  have HS : Hid (∀ x : World, Only (fun k => k = km ∨ k = w.heap.size) w1 x → x.cell? ⟨p1, 0, none⟩ = some (.slice (some ⟨tb, 0, none⟩) n cp) ∧ x.cell? ⟨p2, 0, none⟩ = some (.map (some km)) ∧ x.cell? ⟨tb, i, none⟩ = some (ptr (T i))) := show ∀ x, _ from fun x ho => by
    have l1 : p1 < w.heap.size := blk_lt HC.out.tv
    have l2 : p2 < w.heap.size := blk_lt HC.out.kv
    have l3 : tb < w.heap.size := World.block_lt_of_cell? _ _ (HC.out.row i hi)
    have n1 := HC.out.n1
    have n2 := HC.out.n2
    have n3 := HC.out.n3 (by omega)
    exact ⟨ho.cell (one_at HC1.out.tv).1 (by show ¬ (p1 = km ∨ p1 = w.heap.size); omega), ho.cell (one_at HC1.out.kv).1 (by show ¬ (p2 = km ∨ p2 = w.heap.size); omega), ho.cell (HC1.out.row i hi) (by show ¬ (tb = km ∨ tb = w.heap.size); omega)⟩
  have hbi : (0 : Int) ≤ (i : Int) ∧ (i : Int) < (n : Int) := by omega
  obtain ⟨lk, HLK⟩ : ∃ lk, Hid (faceLk (kns kn (prOf K X i) (L i)) (prOf K X i) (L i) = lk) := ⟨_, rfl⟩
  rw [HLK.out] at hcall
  rw [HLK.out]
  go_enter Tryz.func116, Tryz.ntmps116
  go_wp2
  rw [← hw1]
  clear hw1
  refine wp_region_held_drew (S := fun x => Only (fun k => k = km ∨ k = w.heap.size) w1 x) (by kernel_rfl) (Only.below ((Below.refl _ _).drew)) (fun hHeld => ?_)
  refine wpT (i := 0) (v := .slice (some ⟨tb, 0, none⟩) n cp) rfl (fun w hSw => ?_) hHeld ?_
  · have s1 := (HS.out w hSw).1
    first | rfl | go_simp
  simp only [Act.put, pz]
  refine wpT (i := 1) (v := .int .i64 (i : Nat)) rfl (fun w hSw => ?_) hHeld ?_
  · first | rfl | go_simp
  simp only [Act.put, pz]
  refine wpT (i := 2) (v := .pointer (some ⟨tb, i, none⟩)) rfl (fun w hSw => ?_) hHeld ?_
  · first | rfl | go_simp
  simp only [Act.put, pz]
  refine wpT (i := 3) (v := ptr (T i)) rfl (fun w hSw => ?_) hHeld ?_
  · have s1 := (HS.out w hSw).2.2
    first | rfl | go_simp
  simp only [Act.put, pz]
  refine wpT (i := 4) (v := .map (some km)) rfl (fun w hSw => ?_) hHeld ?_
  · have s1 := (HS.out w hSw).2.1
    first | rfl | go_simp
  simp only [Act.put, pz]
  refine wpAnyH_ready (rs := [5]) (by kernel_rfl) (by simp) ?_
  refine AllReadyH.cons rfl (fun K' hK' => ?_) AllReadyH.nil
  go_simp
  refine hcall.mono ?_
  clear hcall
  rintro e w2 ⟨rfl, hM2, hO2⟩
  have HR2 : Hid (LkB w2 w.heap.size ⟨0, fun _ => 0⟩) := (hO2.block _ HR1.out.lt (by omega)).trans HR1.out
  have HO2 : Hid (Only (fun k => k = km) w w2) := ((Only.below HB1.out).trans (Only.below ((Below.refl _ _).drew))).trans hO2
  have hS2 : Only (fun k => k = km ∨ k = w.heap.size) w1 w2 := (Only.below ((Below.refl _ _).drew)).trans (hO2.mono (fun k _ e => Or.inl e))
  refine hK'.out _ _ hS2 (fun hHeld => ?_)
  clear hK'
  obtain ⟨w3, hst, hB3, hO3, hs3⟩ := LkB.store lk HR2.out (by simp [lkCells_len])
  have HM3 : Hid (MapG pAgg w3 km (knM (kns kn (prOf K X i) (L i)) 0)) := hM2.same (hO3.block _ hM2.lt (by omega))
  have HO3 : Hid (Only (fun k => k = km) w w3) := HO2.out.thenBelow (base := w.heap.size) (hO3.toBelow (fun k e => by omega) HO2.out.size) (Nat.le_refl _)
  have hS3 : Only (fun k => k = km ∨ k = w.heap.size) w1 w3 := hS2.trans (hO3.mono (fun k _ e => Or.inr e))
  have HB3 : Hid (LkB w3 w.heap.size lk) := hB3
  have hcl := lkCells_len lk
  refine wpAnyH_ready (rs := [6]) (by kernel_rfl) (by simp) ?_
  refine AllReadyH.cons rfl (fun K' hK' => ?_) AllReadyH.nil
  go_simp
  refine hK'.out _ _ hS3 (fun hHeld => ?_)
  clear hK' hHeld
  refine wpAnyH_done (by kernel_rfl) ?_ _
  go_wp2
  refine bodyPost_ret (v := lkV lk) (results_cell_row Tryz.results116 _ _ w.heap.size 220 _ (0, 0) _ rfl HB3.out Tryz.underlying220 rfl (by rw [List.size_toArray]; exact size_look lk)) rfl ⟨rfl, HM3.out, HO3.out⟩

end Go.Proofs.YtgflalfiopnmnaaGreatDoor

namespace Go.Proofs.YtgflalfiopnmnaaGreatDoor
open Go.RowKit Vl

structure Cl2 (w : World) (p1 p2 cg lb n : Nat) (cl : Nat → Nat) (lv : Nat → Value) (lds : Nat → List Nat) : Prop where
  cv : w.heap[p1]? = some (.cells #[.slice (some ⟨cg, 0, none⟩) n n] 93 (0, 0))
  lvr : w.heap[p2]? = some (.cells #[.slice (some ⟨lb, 0, none⟩) n n] 223 (0, 0))
  cls : ClsAt w cg n cl
  row : ∀ j, j < n → w.cell? ⟨lb, j, none⟩ = some (lv j)
  own : ∀ j, j < n → w.ownsRow 0 3 1 (lv j) (lds j).length (natCells (lds j))
theorem Cl2.below {w w' : World} {p1 p2 cg lb n : Nat} {cl : Nat → Nat} {lv : Nat → Value} {lds : Nat → List Nat} (h : Cl2 w p1 p2 cg lb n cl lv lds) (hb : Below w.heap.size w w') : Cl2 w' p1 p2 cg lb n cl lv lds :=
  ⟨blkB h.cv hb, blkB h.lvr hb, h.cls.below hb, fun j hj => (hb.cell (p := ⟨lb, j, none⟩) (World.block_lt_of_cell? _ _ (h.row j hj))).trans (h.row j hj), fun j hj => (Only.below (P := fun _ => False) hb).owns (h.own j hj) (fun _ _ _ h => h)⟩

set_option maxHeartbeats 2000000 in
set_option maxRecDepth 100000 in
theorem clos2_any (i p1 p2 cg lb n : Nat) (cl : Nat → Nat) (lv : Nat → Value) (lds : Nat → List Nat) (w : World) (hi : i < n) (HLl : Hid ((lds i).length ≤ 100)) (HLd : Hid (∀ q ∈ lds i, q < n)) (HCl : Hid (∀ i, i < n → cl i < 1000)) (HC : Hid (Cl2 w p1 p2 cg lb n cl lv lds)) :
    Calls Tryz.prog 119 #[.int .i64 (i : Nat), ptr p1, ptr p2] w fun e w' => e = .returned (lkV (lkOf (cl i) cl (fun j => (lds i).getD j 0) (lds i).length)) ∧ Below w.heap.size w w' := by
  obtain ⟨w1, hw1⟩ : ∃ w1, w1 = w.alloc (.cells Tryz.zeroCells220 220) := ⟨_, rfl⟩
  have HR1 : Hid (LkB w1 w.heap.size ⟨0, fun _ => 0⟩) := by rw [hw1]; exact LkB.new w
  have HB1 : Hid (Below w.heap.size w w1) := by rw [hw1]; exact (Below.refl _ _).alloc (Nat.le_refl _) _
  have HC1 : Hid (Cl2 w1 p1 p2 cg lb n cl lv lds) := HC.out.below HB1.out
  obtain ⟨oa, oc, hlv, _⟩ := owns_form (HC.out.own i hi)
  obtain ⟨ml, HML⟩ : ∃ ml, Hid ((lds i).length = ml) := ⟨_, rfl⟩
  have hml : ml ≤ 100 := by rw [← HML.out]; exact HLl.out
  rw [HML.out] at hlv
  obtain ⟨ob, hob⟩ : ∃ ob, 0 < ml → oa = some ⟨ob, 0, none⟩ ∧ ClsAt w1.drew ob ml (fun j => (lds i).getD j 0) := by
    by_cases h0 : 0 < ml
    · obtain ⟨g, cap, hv, _⟩ := owns_cell (HC1.out.own i hi) (k := 0) (y := .int .i64 ((lds i).getD 0 0 : Nat)) (by simp [natCells]; refine ⟨_, List.getElem?_eq_getElem (by rw [HML.out]; exact h0), ?_⟩; simp [HML.out, h0])
      refine ⟨g, fun _ => ⟨?_, fun j hj => ?_⟩⟩
      · rw [hlv] at hv; cases hv; rfl
      · obtain ⟨g', cap', hv', hc⟩ := owns_cell (HC1.out.own i hi) (k := j) (y := .int .i64 ((lds i).getD j 0 : Nat)) (by simp [natCells]; refine ⟨_, List.getElem?_eq_getElem (by rw [HML.out]; exact hj), ?_⟩; simp [HML.out, hj])
        rw [hv] at hv'
        cases hv'
        exact hc
    · exact ⟨0, fun h => absurd h h0⟩
  have HLD : Hid (∀ j, j < ml → (fun j => (lds i).getD j 0) j < n) := show ∀ j, _ from fun j hj => by
    have : (lds i).getD j 0 ∈ lds i := by
      rw [List.getD_eq_getElem?_getD, List.getElem?_eq_getElem (by rw [HML.out]; exact hj)]
      exact List.getElem_mem _
    exact HLd.out _ this
  have HCA : Hid (ClsAt w1.drew ob ml (fun j => (lds i).getD j 0)) := show ClsAt _ _ _ _ from fun j hj => (hob (by omega)).2 j hj
  have hcall := lookOf_any (cl i) ml oc n n oa ob cg cl (fun j => (lds i).getD j 0) w1.drew hml HLD HCl (fun h => (hob h).1) HCA (show ClsAt _ _ _ _ from fun j hj => HC1.out.cls j hj)
  have HS : Hid (∀ x : World, Only (fun k => k = w.heap.size) w1 x → x.cell? ⟨p1, 0, none⟩ = some (.slice (some ⟨cg, 0, none⟩) n n) ∧ x.cell? ⟨p2, 0, none⟩ = some (.slice (some ⟨lb, 0, none⟩) n n) ∧ x.cell? ⟨cg, i, none⟩ = some (.int .i64 (cl i : Nat)) ∧ x.cell? ⟨lb, i, none⟩ = some (.slice oa ml oc)) := show ∀ x, _ from fun x ho => by
    have l1 : p1 < w.heap.size := blk_lt HC.out.cv
    have l2 : p2 < w.heap.size := blk_lt HC.out.lvr
    have l3 : cg < w.heap.size := World.block_lt_of_cell? _ _ (HC.out.cls i hi)
    have l4 : lb < w.heap.size := World.block_lt_of_cell? _ _ (HC.out.row i hi)
    have hrow := HC1.out.row i hi
    rw [hlv] at hrow
    exact ⟨ho.cell (one_at HC1.out.cv).1 (by show ¬ (p1 = w.heap.size); omega), ho.cell (one_at HC1.out.lvr).1 (by show ¬ (p2 = w.heap.size); omega), ho.cell (HC1.out.cls i hi) (by show ¬ (cg = w.heap.size); omega), ho.cell hrow (by show ¬ (lb = w.heap.size); omega)⟩
  have hbi : (0 : Int) ≤ (i : Int) ∧ (i : Int) < (n : Int) := by omega
  obtain ⟨lk, HLK⟩ : ∃ lk, Hid (lkOf (cl i) cl (fun j => (lds i).getD j 0) ml = lk) := ⟨_, rfl⟩
  rw [HLK.out] at hcall
  rw [HML.out, HLK.out]
  obtain ⟨ci, hci⟩ : ∃ ci, cl i = ci := ⟨_, rfl⟩
  rw [hci] at hcall HS
  clear hlv hob hci
  go_enter Tryz.func119, Tryz.ntmps119
  go_wp2
  rw [← hw1]
  clear hw1
  refine wp_region_held_drew (S := fun x => Only (fun k => k = w.heap.size) w1 x) (by kernel_rfl) (Only.below ((Below.refl _ _).drew)) (fun hHeld => ?_)
  refine wpT (i := 0) (v := .slice (some ⟨cg, 0, none⟩) n n) rfl (fun w hSw => ?_) hHeld ?_
  · have s1 := (HS.out w hSw).1
    first | rfl | go_simp
  simp only [Act.put, pz]
  refine wpT (i := 1) (v := .int .i64 (i : Nat)) rfl (fun w hSw => ?_) hHeld ?_
  · first | rfl | go_simp
  simp only [Act.put, pz]
  refine wpT (i := 2) (v := .pointer (some ⟨cg, i, none⟩)) rfl (fun w hSw => ?_) hHeld ?_
  · first | rfl | go_simp
  simp only [Act.put, pz]
  refine wpT (i := 3) (v := .int .i64 (ci : Nat)) rfl (fun w hSw => ?_) hHeld ?_
  · have s1 := (HS.out w hSw).2.2.1
    first | rfl | go_simp
  simp only [Act.put, pz]
  refine wpT (i := 4) (v := .slice (some ⟨lb, 0, none⟩) n n) rfl (fun w hSw => ?_) hHeld ?_
  · have s1 := (HS.out w hSw).2.1
    first | rfl | go_simp
  simp only [Act.put, pz]
  refine wpT (i := 5) (v := .int .i64 (i : Nat)) rfl (fun w hSw => ?_) hHeld ?_
  · first | rfl | go_simp
  simp only [Act.put, pz]
  refine wpT (i := 6) (v := .pointer (some ⟨lb, i, none⟩)) rfl (fun w hSw => ?_) hHeld ?_
  · first | rfl | go_simp
  simp only [Act.put, pz]
  refine wpT (i := 7) (v := .slice oa ml oc) rfl (fun w hSw => ?_) hHeld ?_
  · have s1 := (HS.out w hSw).2.2.2
    first | rfl | go_simp
  simp only [Act.put, pz]
  refine wpT (i := 8) (v := .slice (some ⟨cg, 0, none⟩) n n) rfl (fun w hSw => ?_) hHeld ?_
  · have s1 := (HS.out w hSw).1
    first | rfl | go_simp
  simp only [Act.put, pz]
  refine wpAnyH_ready (rs := [9]) (by kernel_rfl) (by simp) ?_
  refine AllReadyH.cons rfl (fun K' hK' => ?_) AllReadyH.nil
  go_simp
  refine hcall.mono ?_
  clear hcall
  rintro e w2 ⟨rfl, hb2⟩
  have HR2 : Hid (LkB w2 w.heap.size ⟨0, fun _ => 0⟩) := (show LkB w1.drew w.heap.size ⟨0, fun _ => 0⟩ from HR1.out).below hb2
  have HB2 : Hid (Below w.heap.size w w2) := (HB1.out.drew).trans (hb2.mono HB1.out.size)
  have hS2 : Only (fun k => k = w.heap.size) w1 w2 := (Only.below ((Below.refl _ _).drew)).trans (Only.below hb2)
  refine hK'.out _ _ hS2 (fun hHeld => ?_)
  clear hK'
  obtain ⟨w3, hst, hB3, hO3, hs3⟩ := LkB.store lk HR2.out (by simp [lkCells_len])
  have HB3' : Hid (Below w.heap.size w w3) := HB2.out.trans (hO3.toBelow (fun k e => by omega) HB2.out.size)
  have hS3 : Only (fun k => k = w.heap.size) w1 w3 := hS2.trans hO3
  have HB3 : Hid (LkB w3 w.heap.size lk) := hB3
  have hcl := lkCells_len lk
  refine wpAnyH_ready (rs := [10]) (by kernel_rfl) (by simp) ?_
  refine AllReadyH.cons rfl (fun K' hK' => ?_) AllReadyH.nil
  go_simp
  refine hK'.out _ _ hS3 (fun hHeld => ?_)
  clear hK' hHeld
  refine wpAnyH_done (by kernel_rfl) ?_ _
  go_wp2
  refine bodyPost_ret (v := lkV lk) (results_cell_row Tryz.results119 _ _ w.heap.size 220 _ (0, 0) _ rfl HB3.out Tryz.underlying220 rfl (by rw [List.size_toArray]; exact size_look lk)) rfl ⟨rfl, HB3'.out⟩

end Go.Proofs.YtgflalfiopnmnaaGreatDoor

namespace Go.Proofs.YtgflalfiopnmnaaGreatDoor
open Go.RowKit Vl

structure Least (lk : Nat → Lk) (i k : Nat) : Prop where
  le : k ≤ i
  eq : lkEq (lk k) (lk i) = true
  least : ∀ q, q < k → lkEq (lk q) (lk i) = false

theorem lkEq_refl (a : Lk) : lkEq a a = true := lkEq_iff.2 ⟨rfl, fun _ _ => rfl⟩
theorem lkEq_symm (a b : Lk) : lkEq a b = lkEq b a := by
  rw [Bool.eq_iff_iff, lkEq_iff, lkEq_iff]
  exact ⟨fun h => ⟨h.1.symm, fun i hi => (h.2 i hi).symm⟩, fun h => ⟨h.1.symm, fun i hi => (h.2 i hi).symm⟩⟩
theorem lkEq_trans {a b c : Lk} (h : lkEq a b = true) (k : lkEq b c = true) : lkEq a c = true := by
  rw [lkEq_iff] at *
  exact ⟨h.1.trans k.1, fun i hi => (h.2 i hi).trans (k.2 i hi)⟩

structure LkM (lk : Nat → Lk) (i : Nat) (l : List (Lk × Value)) : Prop where
  no : ∀ x, findG lkEq x l = none → ∀ q, q < i → lkEq x (lk q) = false
  yes : ∀ x v, findG lkEq x l = some v → ∃ k : Nat, k < i ∧ v = .int .i64 (k : Nat) ∧ lkEq x (lk k) = true ∧ ∀ q, q < k → lkEq x (lk q) = false

theorem findG_snoc {α : Type} {eqb : α → α → Bool} {x k : α} {v : Value} : ∀ l : List (α × Value), findG eqb x (l ++ [(k, v)]) = match findG eqb x l with
    | some u => some u
    | none => if eqb x k = true then some v else none
  | [] => rfl
  | (a, b) :: l => by
    simp only [List.cons_append, findG]
    by_cases h : eqb x a = true
    · rw [if_pos h, if_pos h]
    · rw [if_neg h, if_neg h]
      exact findG_snoc l

theorem LkM.start (lk : Nat → Lk) : LkM lk 0 [] := ⟨fun _ _ q hq => by omega, fun x v h => by cases h⟩
theorem LkM.known {lk : Nat → Lk} {i : Nat} {l : List (Lk × Value)} (h : LkM lk i l) {v : Value} (hf : findG lkEq (lk i) l = some v) : LkM lk (i + 1) l := by
  obtain ⟨k, h1, _, h3, _⟩ := h.yes _ _ hf
  refine ⟨fun x hx q hq => ?_, fun x v hx => ?_⟩
  · by_cases e : q = i
    · subst e
      have hk := h.no x hx k h1
      cases hq' : lkEq x (lk q)
      · rfl
      · rw [lkEq_trans hq' h3] at hk
        cases hk
    · exact h.no x hx q (by omega)
  · obtain ⟨k, a, b⟩ := h.yes x v hx
    exact ⟨k, by omega, b⟩
theorem LkM.added {lk : Nat → Lk} {i : Nat} {l : List (Lk × Value)} (h : LkM lk i l) : LkM lk (i + 1) (l ++ [(lk i, .int .i64 (i : Nat))]) := by
  refine ⟨fun x hx q hq => ?_, fun x v hx => ?_⟩
  · rw [findG_snoc] at hx
    cases hf : findG lkEq x l with
    | some u => rw [hf] at hx; cases hx
    | none =>
      rw [hf] at hx
      by_cases e : q = i
      · subst e
        cases hq' : lkEq x (lk q)
        · rfl
        · simp [hq'] at hx
      · exact h.no x hf q (by omega)
  · rw [findG_snoc] at hx
    cases hf : findG lkEq x l with
    | some u =>
      rw [hf] at hx
      cases hx
      obtain ⟨k, a, b⟩ := h.yes x v hf
      exact ⟨k, by omega, b⟩
    | none =>
      rw [hf] at hx
      by_cases he : lkEq x (lk i) = true
      · simp [he] at hx
        exact ⟨i, by omega, hx.symm, he, fun q hq => h.no x hf q hq⟩
      · simp [he] at hx

set_option maxHeartbeats 4000000 in
set_option maxRecDepth 100000 in
theorem grouped_any (F p1 p2 n : Nat) (hn : n ≤ 400) (lk : Nat → Lk) (I : Nat → World → Prop) (Q : Nat → Prop) (w : World) (hcf : ∀ args w, (callFunc F args).run Tryz.prog w = .ok (.enter F args) w) (HI : Hid (I 0 w)) (HQ : Hid (∀ k, Q k → k < w.heap.size))
    (HK : Hid (∀ i w' w'', I i w' → Only (fun k => w.heap.size ≤ k) w' w'' → I i w'')) (HC : Hid (∀ i w', i < n → I i w' → Calls Tryz.prog F #[.int .i64 (i : Nat), ptr p1, ptr p2] w' fun e w'' => e = .returned (lkV (lk i)) ∧ I (i + 1) w'' ∧ Only Q w' w'')) :
    Calls Tryz.prog 115 #[.int .i64 n, .func (.func F) #[] #[ptr p1, ptr p2]] w fun e w' => (∃ (gb : Nat) (gr : Nat → Nat), e = .returned (.slice (some ⟨gb, 0, none⟩) n n) ∧ w.heap.size ≤ gb ∧ w'.rowIs gb 3 n (fun i => .int .i64 (gr i : Nat)) ∧ ∀ i, i < n → Least lk i (gr i)) ∧ I n w' ∧ Only Q w w' := by
  have hmk := run_make_n 93 3 _ 1 8 Tryz.underlying93 Tryz.infoN n (by omega) (by omega)
  simp only [Nat.mul_one] at hmk
  have hmm := @run_makeMap Tryz.prog
  have A2 := alloc2 w (.map #[] 0) (.cells (madeCells #[.int .i64 0] n) 3)
  obtain ⟨w1, hw1⟩ : ∃ w1, w1 = (w.alloc (.map #[] 0)).alloc (.cells (madeCells #[.int .i64 0] n) 3) := ⟨_, rfl⟩
  have HM1 : Hid (MapG lkV w1 w.heap.size []) := by rw [hw1]; exact ⟨#[], 0, A2.1, rfl⟩
  have HR1 : Hid (w1.rowIs (w.heap.size + 1) 3 n (fun _ => .int .i64 ((0 : Nat) : Int))) := by
    rw [hw1]
    have := row_made (w.alloc (.map #[] 0)) #[.int .i64 0] n 3
    rw [show (w.alloc (.map #[] 0)).heap.size = w.heap.size + 1 by simp] at this
    exact this.congr (fun j _ => by simp [Nat.mod_one])
  have HB1 : Hid (Below w.heap.size w w1) := by rw [hw1]; exact A2.2.2.2
  have HI1 : Hid (I 0 w1) := HK.out 0 w w1 HI.out (Only.below HB1.out)
  clear A2
  go_enter Tryz.func115, Tryz.ntmps115
  go_wp2
  rw [← hw1]
  clear hw1 hmk hmm
  go_loopw [16] (fun ii wr => ∃ (i : Nat) (l : List (Lk × Value)) (gr : Nat → Nat), i ≤ n ∧ ii = .int .i64 i ∧ Hid (MapG lkV wr w.heap.size l) ∧ Hid (LkM lk i l) ∧ Hid (wr.rowIs (w.heap.size + 1) 3 n (fun q => if q < i then .int .i64 (gr q : Nat) else .int .i64 ((0 : Nat) : Int))) ∧ Hid (∀ q, q < i → Least lk q (gr q)) ∧ Hid (I i wr) ∧ Hid (Only Q w wr)) (fun ii _ => n - (intOf ii).toNat)
  case atStart => exact ⟨0, [], fun _ => 0, Nat.zero_le _, rfl, HM1, LkM.start lk, HR1.out.congr (fun q _ => by rw [if_neg (by omega)]), fun q hq => absurd hq (Nat.not_lt_zero _), HI1, Only.below HB1.out⟩
  case round =>
    obtain ⟨i, l, gr, hi, rfl, HM, HL, HR, HG, HIi, HO⟩ := hrel
    clear HM1 HR1 HI1 HB1
    by_cases hlt : i < n
    · have hcall := HC.out i wr hlt HIi.out
      go_wp2_with fail
      refine hcall.mono ?_
      clear hcall
      rintro e w2 ⟨rfl, hI2, hO2⟩
      have hnq : ∀ k, w.heap.size ≤ k → ¬ Q k := fun k hk h => by have := HQ.out k h; omega
      have HM2 : Hid (MapG lkV w2 w.heap.size l) := HM.out.same (hO2.block _ HM.out.lt (hnq _ (Nat.le_refl _)))
      have HR2 : Hid (w2.rowIs (w.heap.size + 1) 3 n (fun q => if q < i then .int .i64 (gr q : Nat) else .int .i64 ((0 : Nat) : Int))) := hO2.rowIs HR.out (hnq _ (by omega))
      have HO2 : Hid (Only Q w w2) := HO.out.trans hO2
      have hB := LkB.new w2
      obtain ⟨w3, hst, hB3, hO3, hs3⟩ := LkB.store (lk i) hB (by simp [lkCells_len])
      have hBel3 : Below w2.heap.size w2 w3 := ((Below.refl w2.heap.size w2).alloc (Nat.le_refl _) _).trans (hO3.toBelow (fun k hk => by omega) (by simp))
      have HI3 : Hid (I (i + 1) w3) := HK.out _ _ _ hI2 (Only.below hBel3)
      have HB3 : Hid (LkB w3 w2.heap.size (lk i)) := hB3
      have HM3 : Hid (MapG lkV w3 w.heap.size l) := HM2.out.same (hBel3.block _ HM2.out.lt)
      have HR3 : Hid (w3.rowIs (w.heap.size + 1) 3 n (fun q => if q < i then .int .i64 (gr q : Nat) else .int .i64 ((0 : Nat) : Int))) := HR2.out.of_block (hBel3.block _ HR2.out.lt)
      have HO3 : Hid (Only Q w w3) := HO2.out.trans (Only.below hBel3)
      have hlb : w.heap.size + 1 < w2.heap.size := HR2.out.lt
      clear hI2 hO2 hB hB3 hO3 hs3 hBel3 HM2 HR2 HO2 HM HR HIi HO
      obtain ⟨cs, hcs⟩ : ∃ cs, lkCells (lk i) = cs := ⟨_, rfl⟩
      have HCS : Hid (lkCells (lk i) = cs) := hcs
      have HRG : Hid (w3.rangeAt w2.heap.size 0 cs) := by rw [← hcs]; exact HB3.out.range
      have hcl : cs.length = 101 := by rw [← hcs]; exact lkCells_len _
      have HSZ : Hid ((Tryz.prog.info? 220).map (·.size) = some cs.length) := by rw [← hcs]; exact size_look (lk i)
      have hlk := (HM3.out.lookup look_keyed (lk i) trivial (fun _ _ => trivial)).1
      have hkv : lkV (lk i) = .agg cs.toArray := by rw [← hcs]
      rw [hkv] at hlk
      rw [hcs] at hst
      rw [hkv]
      clear hcs
      obtain ⟨qb, hqb⟩ : ∃ qb, w2.heap.size = qb := ⟨_, rfl⟩
      rw [hqb] at HRG hlb HB3 hst
      obtain ⟨d, hd, hr⟩ := row_look
      go_wp2
      refine wp_load_mid 220 (.tmp 8) rfl qb 0 rfl cs d HRG.out hd hr HSZ.out ?_
      clear hst
      cases hf : findG lkEq (lk i) l with
      | some v =>
        rw [hf] at hlk
        obtain ⟨k, hk1, rfl, hk3, hk4⟩ := HL.out.yes _ _ hf
        have HL' : Hid (LkM lk (i + 1) l) := HL.out.known hf
        have HG' : Hid (∀ q, q < i + 1 → Least lk q (if q = i then k else gr q)) := show ∀ q, _ from fun q hq => by
          by_cases e : q = i
          · subst e; rw [if_pos rfl]; exact ⟨by omega, by rw [lkEq_symm]; exact hk3, fun p hp => by rw [lkEq_symm]; exact hk4 p hp⟩
          · rw [if_neg e]; exact HG.out q (by omega)
        have n0 := HR3.out.cell hlt
        have nz := HR3.out.frozen
        have hbi : (0 : Int) ≤ (i : Int) ∧ (i : Int) < (n : Int) := by omega
        have HR4 : Hid ((w3.setCell ⟨w.heap.size + 1, i, none⟩ (.int .i64 (k : Nat))).rowIs (w.heap.size + 1) 3 n (fun q => if q < i + 1 then .int .i64 ((if q = i then k else gr q : Nat) : Int) else .int .i64 ((0 : Nat) : Int))) := (HR3.out.set i _).congr (fun q _ => by
          by_cases e : q = i
          · rw [if_pos e, if_pos (by omega), if_pos e]
          · rw [if_neg e, if_neg e]
            by_cases h' : q < i
            · rw [if_pos h', if_pos (by omega)]
            · rw [if_neg h', if_neg (by omega)])
        have hO4 : Only (fun k => w.heap.size ≤ k) w3 (w3.setCell ⟨w.heap.size + 1, i, none⟩ (.int .i64 (k : Nat))) := (Only.refl _ _).set (p := ⟨w.heap.size + 1, i, none⟩) (show w.heap.size ≤ w.heap.size + 1 by omega) _
        have HI4 : Hid (I (i + 1) (w3.setCell ⟨w.heap.size + 1, i, none⟩ (.int .i64 (k : Nat)))) := HK.out _ _ _ HI3.out hO4
        have HM4 : Hid (MapG lkV (w3.setCell ⟨w.heap.size + 1, i, none⟩ (.int .i64 (k : Nat))) w.heap.size l) := HM3.out.same (Below.heap_setCell _ _ _ _ (show w.heap.size ≠ w.heap.size + 1 by omega))
        have HO4 : Hid (Only Q w (w3.setCell ⟨w.heap.size + 1, i, none⟩ (.int .i64 (k : Nat)))) := HO3.out.thenBelow (base := w.heap.size) ((Below.refl _ _).setCell (show w.heap.size ≤ w.heap.size + 1 by omega) _) (Nat.le_refl _)
        clear hf hO4 hd hr hk3 hk4
        go_wp2
        go_roundw
        case rel => exact ⟨i + 1, l, _, by omega, by go_num, HM4, HL', HR4, HG', HI4, HO4⟩
        case measure => simp [intOf]; omega
      | none =>
        rw [hf] at hlk
        have HL' : Hid (LkM lk (i + 1) (l ++ [(lk i, .int .i64 (i : Nat))])) := HL.out.added
        have HG' : Hid (∀ q, q < i + 1 → Least lk q (if q = i then i else gr q)) := show ∀ q, _ from fun q hq => by
          by_cases e : q = i
          · subst e; rw [if_pos rfl]; exact ⟨Nat.le_refl _, lkEq_refl _, fun p hp => by rw [lkEq_symm]; exact HL.out.no _ hf p hp⟩
          · rw [if_neg e]; exact HG.out q (by omega)
        obtain ⟨w4, hu, hM4, hO4, hs4⟩ := (show MapG lkV w3.drew w.heap.size l from HM3.out).update look_keyed (lk i) (.int .i64 (i : Nat)) trivial (fun _ _ => trivial) hf
        rw [hkv] at hu
        have HM4 : Hid (MapG lkV w4 w.heap.size (l ++ [(lk i, .int .i64 (i : Nat))])) := hM4
        have HR4 : Hid (w4.rowIs (w.heap.size + 1) 3 n (fun q => if q < i then .int .i64 (gr q : Nat) else .int .i64 ((0 : Nat) : Int))) := hO4.rowIs (HR3.out.of_block rfl) (by omega)
        have HI4 : Hid (I (i + 1) w4) := HK.out _ _ _ HI3.out ((Only.below ((Below.refl _ _).drew)).trans (hO4.mono (fun k _ e => by omega)))
        have HO4 : Hid (Only Q w w4) := HO3.out.thenBelow (base := w.heap.size) (((Below.refl _ _).drew).trans (hO4.toBelow (fun k e => by omega) (by have := HO3.out.size; show w.heap.size ≤ w3.heap.size; omega))) (Nat.le_refl _)
        have HRG4 : Hid (w4.rangeAt qb 0 cs) := show World.rangeAt _ _ _ _ from fun j v hv => by
          have := HRG.out j v hv
          exact hO4.cell (p := ⟨qb, 0 + j, none⟩) this (by show ¬ (qb = w.heap.size); omega)
        clear hf hM4 hO4 hs4
        go_wp2
        refine wp_region_held_drew (S := fun w' => w'.rangeAt qb 0 cs) (by kernel_rfl) HRG.out (fun hHeld => ?_)
        refine wpT (i := 0) (v := .map (some w.heap.size)) rfl (fun w hSw => ?_) hHeld ?_
        · first | rfl | go_simp
        simp only [Act.put, pz]
        refine wpAnyH_take (i := 1) (v := .agg cs.toArray) rfl (by kernel_rfl) (by kernel_rfl) (by kernel_rfl) (fun _ _ _ h => h) (yieldsIf_load_mid (by rfl) _ _ rfl qb 0 rfl cs d (fun w hSw => hSw) hd hr HSZ.out) hHeld ?_
        simp only [Act.put, pz]
        refine wpT (i := 2) (v := .int .i64 (i : Nat)) rfl (fun w hSw => ?_) hHeld ?_
        · first | rfl | go_simp
        simp only [Act.put, pz]
        refine wpT (i := 3) (v := .int .i64 (i : Nat)) rfl (fun w hSw => ?_) hHeld ?_
        · first | rfl | go_simp
        simp only [Act.put, pz]
        refine wpT (i := 4) (v := .int .i64 (i : Nat)) rfl (fun w hSw => ?_) hHeld ?_
        · first | rfl | go_simp
        simp only [Act.put, pz]
        refine wpAnyH_ready (rs := [5]) (by kernel_rfl) (by simp) ?_
        refine AllReadyH.cons rfl (fun K' hK' => ?_) AllReadyH.nil
        go_simp
        refine hK'.out _ _ HRG4.out (fun hHeld => ?_)
        clear hK' hHeld hu hlk
        refine wpAnyH_done (by kernel_rfl) ?_ _
        have n0 := HR4.out.cell hlt
        have nz := HR4.out.frozen
        have hbi : (0 : Int) ≤ (i : Int) ∧ (i : Int) < (n : Int) := by omega
        have HR5 : Hid ((w4.setCell ⟨w.heap.size + 1, i, none⟩ (.int .i64 (i : Nat))).rowIs (w.heap.size + 1) 3 n (fun q => if q < i + 1 then .int .i64 ((if q = i then i else gr q : Nat) : Int) else .int .i64 ((0 : Nat) : Int))) := (HR4.out.set i _).congr (fun q _ => by
          by_cases e : q = i
          · rw [if_pos e, if_pos (by omega), if_pos e]
          · rw [if_neg e, if_neg e]
            by_cases h' : q < i
            · rw [if_pos h', if_pos (by omega)]
            · rw [if_neg h', if_neg (by omega)])
        have hO5 : Only (fun k => w.heap.size ≤ k) w4 (w4.setCell ⟨w.heap.size + 1, i, none⟩ (.int .i64 (i : Nat))) := (Only.refl _ _).set (p := ⟨w.heap.size + 1, i, none⟩) (show w.heap.size ≤ w.heap.size + 1 by omega) _
        have HI5 : Hid (I (i + 1) (w4.setCell ⟨w.heap.size + 1, i, none⟩ (.int .i64 (i : Nat)))) := HK.out _ _ _ HI4.out hO5
        have HM5 : Hid (MapG lkV (w4.setCell ⟨w.heap.size + 1, i, none⟩ (.int .i64 (i : Nat))) w.heap.size (l ++ [(lk i, .int .i64 (i : Nat))])) := HM4.out.same (Below.heap_setCell _ _ _ _ (show w.heap.size ≠ w.heap.size + 1 by omega))
        have HO5 : Hid (Only Q w (w4.setCell ⟨w.heap.size + 1, i, none⟩ (.int .i64 (i : Nat)))) := HO4.out.thenBelow (base := w.heap.size) ((Below.refl _ _).setCell (show w.heap.size ≤ w.heap.size + 1 by omega) _) (Nat.le_refl _)
        clear hO5 hd hr HRG HRG4
        go_wp2
        go_roundw
        case rel => exact ⟨i + 1, _, _, by omega, by go_num, HM5, HL', HR5, HG', HI5, HO5⟩
        case measure => simp [intOf]; omega
    · obtain rfl : i = n := by omega
      go_wp2
      go_ret
      exact ⟨⟨w.heap.size + 1, gr, rfl, by omega, HR.out.congr (fun q hq => by rw [if_pos hq]), HG.out⟩, HIi.out, HO.out⟩

end Go.Proofs.YtgflalfiopnmnaaGreatDoor
