import Derived.Test.YtgflalfiopnmnaaP17
import Derived.Test.YtgflalfiopnmnaaP4
import Derived.Test.YtgflalfiopnmnaaP18
namespace Go.Proofs.Ytgflalfiopnmnaa
open Go.RowKit Vl Aw

set_option maxHeartbeats 8000000 in
set_option maxRecDepth 100000 in
/-- 'spec.Apart'. -/
theorem specApart_any (f : Nat → Nat) (u u' : V) (ta ta' : Option Addr) (n cp TB TO m cp' TB' TO' : Nat) (A A' : Nat → Option Addr) (L C RB RO L' C' RB' RO' : Nat → Nat) (K X K' X' : Nat → Nat → V) (w : World) (hn : n ≤ 1048576) (hm : m ≤ 1048576) (HS : Hid (Small 1048576 n L K X)) (HS' : Hid (Small 1048576 m L' K' X')) (HT : Hid (TabsAt w ta n TB TO A L C RB RO K X)) (HT' : Hid (TabsAt w ta' m TB' TO' A' L' C' RB' RO' K' X')) :
    Calls Try.prog 20 #[.agg #[.int .i64 u.k, .int .i64 u.n, .string u.s, .int .i64 u.a, .slice ta n cp], .agg #[.int .i64 u'.k, .int .i64 u'.n, .string u'.s, .int .i64 u'.a, .slice ta' m cp']] w fun e w' => ApS w w' e f n m u u' L L' K X K' X' ∧ Below w.heap.size w w' := by
  have A2 := alloc2 w (.cells #[.int .i64 u.k, .int .i64 u.n, .string u.s, .int .i64 u.a, .slice ta n cp] 27) (.cells #[.int .i64 u'.k, .int .i64 u'.n, .string u'.s, .int .i64 u'.a, .slice ta' m cp'] 27)
  obtain ⟨w1, hw1⟩ : ∃ w1, w1 = (w.alloc (.cells #[.int .i64 u.k, .int .i64 u.n, .string u.s, .int .i64 u.a, .slice ta n cp] 27)).alloc (.cells #[.int .i64 u'.k, .int .i64 u'.n, .string u'.s, .int .i64 u'.a, .slice ta' m cp'] 27) := ⟨_, rfl⟩
  rw [← hw1] at A2
  have HB1 : Hid (Below w.heap.size w w1) := A2.2.2.2
  have G1 : Hid (w1.heap[w.heap.size]? = some (.cells #[.int .i64 u.k, .int .i64 u.n, .string u.s, .int .i64 u.a, .slice ta n cp] 27 (0, 0))) := A2.1
  have G2 : Hid (w1.heap[w.heap.size + 1]? = some (.cells #[.int .i64 u'.k, .int .i64 u'.n, .string u'.s, .int .i64 u'.a, .slice ta' m cp'] 27 (0, 0))) := A2.2.1
  clear A2
  have hok := specOk_any u ta n cp TB TO A L C RB RO K X w1 hn HS (HT.out.below HB1.out)
  go_enter Try.func20, Try.ntmps20
  go_wp2_with fail
  rw [← hw1]
  refine hok.mono ?_
  clear hok hw1
  rintro e w2 ⟨⟨b, rfl, hb⟩, hb2⟩
  have HB2 : Hid (Below w.heap.size w w2) := grw HB1.out hb2
  have H2 : Hid (w2.heap[w.heap.size]? = some (.cells #[.int .i64 u.k, .int .i64 u.n, .string u.s, .int .i64 u.a, .slice ta n cp] 27 (0, 0))) := blkB G1.out hb2
  have H2' : Hid (w2.heap[w.heap.size + 1]? = some (.cells #[.int .i64 u'.k, .int .i64 u'.n, .string u'.s, .int .i64 u'.a, .slice ta' m cp'] 27 (0, 0))) := blkB G2.out hb2
  clear hb2 G1 G2 HB1
  cases b
  · have HN : Hid (¬ (OkG n u L K X ∧ OkG m u' L' K' X')) := show ¬ _ from fun h => by have := hb.2 h.1; cases this
    clear hb
    go_wp2
    go_ret
    exact ⟨Or.inr ⟨HN.out, rfl⟩, HB2.out⟩
  have HO : Hid (OkG n u L K X) := hb.1 rfl
  clear hb
  have hok := specOk_any u' ta' m cp' TB' TO' A' L' C' RB' RO' K' X' w2 hm HS' (HT'.out.below HB2.out)
  obtain ⟨x0, x1, x2, x3, x4, _⟩ := cells5 H2'.out
  go_wp2_with fail
  refine hok.mono ?_
  clear hok x0 x1 x2 x3 x4
  rintro e w3 ⟨⟨b, rfl, hb⟩, hb3⟩
  have HB3 : Hid (Below w.heap.size w w3) := grw HB2.out hb3
  have H3 : Hid (w3.heap[w.heap.size]? = some (.cells #[.int .i64 u.k, .int .i64 u.n, .string u.s, .int .i64 u.a, .slice ta n cp] 27 (0, 0))) := blkB H2.out hb3
  have H3' : Hid (w3.heap[w.heap.size + 1]? = some (.cells #[.int .i64 u'.k, .int .i64 u'.n, .string u'.s, .int .i64 u'.a, .slice ta' m cp'] 27 (0, 0))) := blkB H2'.out hb3
  clear hb3 H2 H2' HB2
  cases b
  · have HN : Hid (¬ (OkG n u L K X ∧ OkG m u' L' K' X')) := show ¬ _ from fun h => by have := hb.2 h.2; cases this
    clear hb
    go_wp2
    go_ret
    exact ⟨Or.inr ⟨HN.out, rfl⟩, HB3.out⟩
  have HO' : Hid (OkG m u' L' K' X') := hb.1 rfl
  clear hb
  have HBND : Hid (∀ i l, Aw.SReach (Aw.sysOf n L K X L' K' X' f) ⟨u, u', []⟩ i l → l.length ≤ 8000001 ∧ (∀ e ∈ l, isV n e.a = true ∧ isV m e.b = true) ∧ (∀ e ∈ l, e.p.length ≤ i)) := show ∀ i l, _ from fun i l h => sys_bound HO.out HO'.out h
  obtain ⟨x0, x1, x2, x3, x4, _⟩ := cells5 H3'.out
  obtain ⟨g0, g1, g2, g3, g4, _⟩ := cells5 H3.out
  obtain ⟨w4, hw4⟩ : ∃ w4, w4 = w3.alloc (.cells #[.int .i64 u.k, .int .i64 u.n, .string u.s, .int .i64 u.a, .int .i64 u'.k, .int .i64 u'.n, .string u'.s, .int .i64 u'.a, .slice none 0 0] 98) := ⟨_, rfl⟩
  have hb4 : Below w3.heap.size w3 w4 := by rw [hw4]; exact (Below.refl _ _).alloc (Nat.le_refl _) _
  have HLT4 : Hid (LTab w4 w3.heap.size (.slice (some ⟨w3.heap.size, 0, none⟩) 1 1) ([⟨u, u', []⟩] : List Aw.E).length (lsE [⟨u, u', []⟩]) (fun _ => .slice none 0 0)) := by
    refine ⟨?_, fun j hj => ?_⟩
    · rw [hw4]
      exact World.ownsRow_lit w3 #[.int .i64 u.k, .int .i64 u.n, .string u.s, .int .i64 u.a, .int .i64 u'.k, .int .i64 u'.n, .string u'.s, .int .i64 u'.a, .slice none 0 0] 1 (Nat.le_refl _) (by unfold maxLen; omega) (by rfl)
    · have : j = 0 := by simp at hj; omega
      subst this
      exact World.ownsRow_nil _ _ _ _
  have HB4 : Hid (Below w3.heap.size w3 w4) := hb4
  have HGc : Hid (∀ w', Below w3.heap.size w3 w' → w'.cell? ⟨w.heap.size, 0, none⟩ = some (.int .i64 u.k) ∧ w'.cell? ⟨w.heap.size, 1, none⟩ = some (.int .i64 u.n) ∧ w'.cell? ⟨w.heap.size, 2, none⟩ = some (.string u.s) ∧ w'.cell? ⟨w.heap.size, 3, none⟩ = some (.int .i64 u.a) ∧ w'.cell? ⟨w.heap.size, 4, none⟩ = some (.slice ta n cp)) := show ∀ _, _ from fun w' hb => ⟨cellB g0 w' hb, cellB g1 w' hb, cellB g2 w' hb, cellB g3 w' hb, cellB g4 w' hb⟩
  have HXc : Hid (∀ w', Below w3.heap.size w3 w' → w'.cell? ⟨w.heap.size + 1, 0, none⟩ = some (.int .i64 u'.k) ∧ w'.cell? ⟨w.heap.size + 1, 1, none⟩ = some (.int .i64 u'.n) ∧ w'.cell? ⟨w.heap.size + 1, 2, none⟩ = some (.string u'.s) ∧ w'.cell? ⟨w.heap.size + 1, 3, none⟩ = some (.int .i64 u'.a) ∧ w'.cell? ⟨w.heap.size + 1, 4, none⟩ = some (.slice ta' m cp')) := show ∀ _, _ from fun w' hb => ⟨cellB x0 w' hb, cellB x1 w' hb, cellB x2 w' hb, cellB x3 w' hb, cellB x4 w' hb⟩
  have HT3 : Hid (TabsAt w3 ta n TB TO A L C RB RO K X) := HT.out.below HB3.out
  have HT3' : Hid (TabsAt w3 ta' m TB' TO' A' L' C' RB' RO' K' X') := HT'.out.below HB3.out
  have hgl : w.heap.size < w3.heap.size := blk_lt H3.out
  have hgl1 : w.heap.size + 1 < w3.heap.size := blk_lt H3'.out
  have HGL : Hid (w.heap.size < w3.heap.size ∧ w.heap.size + 1 < w3.heap.size) := ⟨hgl, hgl1⟩
  obtain ⟨i9, hi9, hz90, hz91, hz92⟩ := info_parts Try.infoTwo
  clear hb4
  go_wp2
  rw [← hw4]
  clear hw4 g0 g1 g2 g3 g4 x0 x1 x2 x3 x4 H3 H3' hgl hgl1 HT HT'
  obtain ⟨b3, HB3e⟩ : ∃ b3, Hid (w3.heap.size = b3) := ⟨_, rfl⟩
  go_loopw [5, 6] (fun lv ii wr => ∃ (i : Nat) (l : List Aw.E) (PV : Nat → Value), ii = .int .i64 i ∧ Hid (Aw.SReach (Aw.sysOf n L K X L' K' X' f) ⟨u, u', []⟩ i l) ∧ Hid (LTab wr w3.heap.size lv l.length (lsE l) PV) ∧ Hid (Below w3.heap.size w3 wr)) (fun _ ii _ => 8000002 - (intOf ii).toNat)
  case atStart => exact ⟨0, [⟨u, u', []⟩], _, rfl, Aw.SReach.start, HLT4, HB4⟩
  case round =>
    obtain ⟨i, l, PV, rfl, HR, HLT, HB⟩ := hrel
    clear HLT4 HB4
    obtain ⟨hll, hgood, hpath⟩ := HBND.out i l HR.out
    have HGD : Hid (∀ e ∈ l, isV n e.a = true ∧ isV m e.b = true) := hgood
    have HPT : Hid (∀ e ∈ l, e.p.length ≤ i) := hpath
    clear hgood hpath
    obtain ⟨la, lc, rfl, hlk⟩ := owns_form HLT.out.own
    have HLK : Hid (∀ k, (Value.slice la l.length lc).ownBlock = some k → w3.heap.size ≤ k ∧ k < wr.heap.size) := hlk
    clear hlk
    obtain ⟨ll, HLL⟩ : ∃ ll, Hid (l.length = ll) := ⟨_, rfl⟩
    rw [HLL.out] at hll HLT HLK ⊢
    have hs3 := HB.out.size
    by_cases hlt : i < ll
    · obtain ⟨g, cap, e, hcs⟩ := HLT.out.cells hlt
      cases e
      obtain ⟨x, HX⟩ : ∃ x, Hid (lsE l i = x) := ⟨_, rfl⟩
      have HXI : Hid (l[i]? = some x) := by rw [← HX.out]; exact lsE_at (by rw [HLL.out]; exact hlt)
      have hxl : x ∈ l := List.mem_of_getElem? HXI.out
      have HXV : Hid (isV n x.a = true ∧ isV m x.b = true) := HGD.out x hxl
      have hxp := HPT.out x hxl
      have hprow := HLT.out.rows i hlt
      rw [HX.out] at hcs hprow
      obtain ⟨pa, pc, hpv, _⟩ := owns_form hprow
      rw [hpv] at hcs hprow
      obtain ⟨pl, HPL⟩ : ∃ pl, Hid (x.p.length = pl) := ⟨_, rfl⟩
      rw [HPL.out] at hcs hprow hxp
      have HPR : Hid (wr.ownsRow w3.heap.size 24 4 (.slice pa pl pc) pl (keyCells x.p)) := hprow
      clear hprow hpv hxl
      obtain ⟨xa, HXA⟩ : ∃ xa, Hid (x.a = xa) := ⟨_, rfl⟩
      obtain ⟨xb, HXB⟩ : ∃ xb, Hid (x.b = xb) := ⟨_, rfl⟩
      unfold cell9 at hcs
      rw [HXA.out, HXB.out] at hcs HXV
      have k0 := hcs 0 _ rfl
      have k1 := hcs 1 _ rfl
      have k2 := hcs 2 _ rfl
      have k3 := hcs 3 _ rfl
      have k4 := hcs 4 _ rfl
      have k5 := hcs 5 _ rfl
      have k6 := hcs 6 _ rfl
      have k7 := hcs 7 _ rfl
      have k8 := hcs 8 _ rfl
      simp only [Nat.add_zero] at k0
      clear hcs
      have hbi : (0 : Int) ≤ (i : Int) ∧ (i : Int) < (ll : Int) := by omega
      by_cases hxa : xa.k = 4
      · by_cases hxb : xb.k = 4
        · skip
          obtain ⟨a0, a1⟩ := isV_tab HXV.out.1 hxa
          obtain ⟨b0, b1⟩ := isV_tab HXV.out.2 hxb
          obtain ⟨ia, hia⟩ : ∃ ia : Nat, xa.a = (ia : Int) := ⟨xa.a.toNat, by omega⟩
          obtain ⟨ib, hib⟩ : ∃ ib : Nat, xb.a = (ib : Int) := ⟨xb.a.toNat, by omega⟩
          have hian : ia < n := by omega
          have hibm : ib < m := by omega
          have HIA : Hid (x.a.a.toNat = ia) := by show _ = _; rw [HXA.out, hia]; rfl
          have HIB : Hid (x.b.a.toNat = ib) := by show _ = _; rw [HXB.out, hib]; rfl
          have HCP : Hid ((Aw.sysOf n L K X L' K' X' f).cp x = true) := by
            show ((x.a.k == 4) && (x.b.k == 4)) = true
            rw [HXA.out, HXB.out, hxa, hxb]
            rfl
          rw [hia] at k3
          rw [hib] at k7
          have hka : (xa.k != 4) = false := by simp [hxa]
          have hkb : (xb.k != 4) = false := by simp [hxb]
          obtain ⟨wx, hwx⟩ : ∃ wx, wx = wr.alloc (.cells #[.int .i64 xa.k, .int .i64 xa.n, .string xa.s, .int .i64 (ia : Nat), .int .i64 xb.k, .int .i64 xb.n, .string xb.s, .int .i64 (ib : Nat), .slice pa pl pc] 98) := ⟨_, rfl⟩
          have hbx : Below wr.heap.size wr wx := by rw [hwx]; exact (Below.refl _ _).alloc (Nat.le_refl _) _
          have HLTx : Hid (LTab wx w3.heap.size (.slice (some ⟨g, 0, none⟩) ll lc) ll (lsE l) PV) := HLT.out.below hbx
          have HBx : Hid (Below w3.heap.size w3 wx) := HB.out.trans (hbx.mono hs3)
          have HPRx : Hid (wx.ownsRow w3.heap.size 24 4 (.slice pa pl pc) pl (keyCells x.p)) := (Only.below (P := fun _ => False) hbx).owns HPR.out (fun _ _ _ h => h)
          obtain ⟨qx, hqx⟩ : ∃ qx, wr.heap.size = qx := ⟨_, rfl⟩
          have HQX : Hid (wx.heap[qx]? = some (.cells #[.int .i64 xa.k, .int .i64 xa.n, .string xa.s, .int .i64 (ia : Nat), .int .i64 xb.k, .int .i64 xb.n, .string xb.s, .int .i64 (ib : Nat), .slice pa pl pc] 98 (0, 0))) := by rw [hwx, ← hqx]; exact heap_alloc_new _ _
          have HQL : Hid (w3.heap.size ≤ qx ∧ g < qx) := ⟨by omega, by have := (HLK.out g rfl).2; omega⟩
          clear hbx hxa hxb a0 a1 b0 b1 hia hib
          go_wp2
          rw [← hwx]
          try rw [hqx]
          clear hwx hqx k0 k1 k2 k3 k4 k5 k6 k7 k8 HLT HPR HB hs3
          obtain rfl := HT3.out.top (by omega)
          obtain rfl := HT3'.out.top (by omega)
          have HTx : Hid (TabsAt wx (some ⟨TB, TO, none⟩) n TB TO A L C RB RO K X) := HT3.out.below HBx.out
          have HTx' : Hid (TabsAt wx (some ⟨TB', TO', none⟩) m TB' TO' A' L' C' RB' RO' K' X') := HT3'.out.below HBx.out
          obtain ⟨pA, hpA⟩ : ∃ a, A ia = a := ⟨_, rfl⟩
          obtain ⟨lA, hlA⟩ : ∃ a, L ia = a := ⟨_, rfl⟩
          obtain ⟨cA, hcA⟩ : ∃ a, C ia = a := ⟨_, rfl⟩
          obtain ⟨pB, hpB⟩ : ∃ a, A' ib = a := ⟨_, rfl⟩
          obtain ⟨lB, hlB⟩ : ∃ a, L' ib = a := ⟨_, rfl⟩
          obtain ⟨cB, hcB⟩ : ∃ a, C' ib = a := ⟨_, rfl⟩
          have t0 := HTx.out.tab ia hian
          have t1 := HTx'.out.tab ib hibm
          have hPA := HTx.out.row ia hian
          have hPB := HTx'.out.row ib hibm
          have hOA := HO.out.all ia hian
          have hOB := HO'.out.all ib hibm
          have HZA : Hid (∀ c, c < lA → (K ia c).s.size ≤ 9223372036854775807) := show ∀ c, _ from fun c hc => by
            rw [← hlA] at hc
            have := ((HS.out ia hian).2 c hc).1
            omega
          have HZB : Hid (∀ c, c < lB → (K' ib c).s.size ≤ 9223372036854775807) := show ∀ c, _ from fun c hc => by
            rw [← hlB] at hc
            have := ((HS'.out ib hibm).2 c hc).1
            omega
          rw [hpA, hlA, hcA] at t0
          rw [hpB, hlB, hcB] at t1
          rw [hpA, hlA] at hPA
          rw [hpB, hlB] at hPB
          rw [hlA] at hOA
          rw [hlB] at hOB
          have HPA : Hid (PairsAt wx pA lA (RB ia) (RO ia) (K ia) (X ia)) := hPA
          have HPB : Hid (PairsAt wx pB lB (RB' ib) (RO' ib) (K' ib) (X' ib)) := hPB
          have HOA : Hid (OkT n lA (K ia) (X ia)) := hOA
          have HOB : Hid (OkT m lB (K' ib) (X' ib)) := hOB
          have HLA : Hid (L ia = lA) := hlA
          have HLB : Hid (L' ib = lB) := hlB
          have T0 : Hid (∀ w', Below wx.heap.size wx w' → w'.cell? ⟨TB, TO + ia, none⟩ = some (.slice pA lA cA)) := cellB t0
          have T1 : Hid (∀ w', Below wx.heap.size wx w' → w'.cell? ⟨TB', TO' + ib, none⟩ = some (.slice pB lB cB)) := cellB t1
          clear t0 t1 hPA hPB hOA hOB hpA hcA hpB hcB hlA hlB
          obtain ⟨y0, y1, y2, y3, y4, y5, y6, y7, y8⟩ := cells9 HQX.out
          have Y3 : Hid (∀ w', Below wx.heap.size wx w' → w'.cell? ⟨qx, 3, none⟩ = some (.int .i64 (ia : Nat))) := cellB y3
          have Y7 : Hid (∀ w', Below wx.heap.size wx w' → w'.cell? ⟨qx, 7, none⟩ = some (.int .i64 (ib : Nat))) := cellB y7
          clear y0 y1 y2 y3 y4 y5 y6 y7 y8
          have hia0 : (0 : Int) ≤ (ia : Int) ∧ (ia : Int) < (n : Int) := by omega
          have hib0 : (0 : Int) ≤ (ib : Int) ∧ (ib : Int) < (m : Int) := by omega
          refine wp_region_held_drew (S := fun y => Below wx.heap.size wx y) (by kernel_rfl) (Below.refl _ _).drew (fun hHeld => ?_)
          refine wpAnyH_take (i := 0) (v := .pointer (some ⟨w.heap.size, 4, none⟩)) rfl (by kernel_rfl) (by kernel_rfl) (by kernel_rfl) (fun _ _ _ h => h) (Or.inl ⟨by rfl, fun w hSw => ?_⟩) hHeld ?_
          · first | rfl | go_simp
          simp only [Act.put, List.setIfInBounds_toArray, List.set_cons_zero, List.set_cons_succ, List.getElem_toArray, List.getElem_cons_zero]
          refine wpAnyH_take (i := 1) (v := .slice (some ⟨TB, TO, none⟩) n cp) rfl (by kernel_rfl) (by kernel_rfl) (by kernel_rfl) (fun _ _ _ h => h) (Or.inl ⟨by rfl, fun w hSw => ?_⟩) hHeld ?_
          · obtain ⟨_, _, _, _, q4⟩ := HGc.out w (grw HBx.out hSw); first | rfl | go_simp
          simp only [Act.put, List.setIfInBounds_toArray, List.set_cons_zero, List.set_cons_succ, List.getElem_toArray, List.getElem_cons_zero, List.getElem_cons_succ]
          refine wpAnyH_take (i := 2) (v := .pointer (some ⟨qx, 0, none⟩)) rfl (by kernel_rfl) (by kernel_rfl) (by kernel_rfl) (fun _ _ _ h => h) (Or.inl ⟨by rfl, fun w hSw => ?_⟩) hHeld ?_
          · first | rfl | go_simp
          simp only [Act.put, List.setIfInBounds_toArray, List.set_cons_zero, List.set_cons_succ, List.getElem_toArray, List.getElem_cons_zero, List.getElem_cons_succ]
          refine wpAnyH_take (i := 3) (v := .pointer (some ⟨qx, 3, none⟩)) rfl (by kernel_rfl) (by kernel_rfl) (by kernel_rfl) (fun _ _ _ h => h) (Or.inl ⟨by rfl, fun w hSw => ?_⟩) hHeld ?_
          · first | rfl | go_simp
          simp only [Act.put, List.setIfInBounds_toArray, List.set_cons_zero, List.set_cons_succ, List.getElem_toArray, List.getElem_cons_zero, List.getElem_cons_succ]
          refine wpAnyH_take (i := 4) (v := .int .i64 (ia : Nat)) rfl (by kernel_rfl) (by kernel_rfl) (by kernel_rfl) (fun _ _ _ h => h) (Or.inl ⟨by rfl, fun w hSw => ?_⟩) hHeld ?_
          · have q3 := Y3.out w hSw; first | rfl | go_simp
          simp only [Act.put, List.setIfInBounds_toArray, List.set_cons_zero, List.set_cons_succ, List.getElem_toArray, List.getElem_cons_zero, List.getElem_cons_succ]
          refine wpAnyH_take (i := 5) (v := .pointer (some ⟨TB, TO + ia, none⟩)) rfl (by kernel_rfl) (by kernel_rfl) (by kernel_rfl) (fun _ _ _ h => h) (Or.inl ⟨by rfl, fun w hSw => ?_⟩) hHeld ?_
          · first | rfl | go_simp
          simp only [Act.put, List.setIfInBounds_toArray, List.set_cons_zero, List.set_cons_succ, List.getElem_toArray, List.getElem_cons_zero, List.getElem_cons_succ]
          refine wpAnyH_take (i := 6) (v := .agg #[.slice pA lA cA]) rfl (by kernel_rfl) (by kernel_rfl) (by kernel_rfl) (fun _ _ _ h => h) (Or.inl ⟨by rfl, fun w hSw => ?_⟩) hHeld ?_
          · have q3 := T0.out w hSw; first | rfl | go_simp
          simp only [Act.put, List.setIfInBounds_toArray, List.set_cons_zero, List.set_cons_succ, List.getElem_toArray, List.getElem_cons_zero, List.getElem_cons_succ]
          refine wpAnyH_take (i := 7) (v := .pointer (some ⟨w.heap.size + 1, 4, none⟩)) rfl (by kernel_rfl) (by kernel_rfl) (by kernel_rfl) (fun _ _ _ h => h) (Or.inl ⟨by rfl, fun w hSw => ?_⟩) hHeld ?_
          · first | rfl | go_simp
          simp only [Act.put, List.setIfInBounds_toArray, List.set_cons_zero, List.set_cons_succ, List.getElem_toArray, List.getElem_cons_zero, List.getElem_cons_succ]
          refine wpAnyH_take (i := 8) (v := .slice (some ⟨TB', TO', none⟩) m cp') rfl (by kernel_rfl) (by kernel_rfl) (by kernel_rfl) (fun _ _ _ h => h) (Or.inl ⟨by rfl, fun w hSw => ?_⟩) hHeld ?_
          · obtain ⟨_, _, _, _, q4⟩ := HXc.out w (grw HBx.out hSw); first | rfl | go_simp
          simp only [Act.put, List.setIfInBounds_toArray, List.set_cons_zero, List.set_cons_succ, List.getElem_toArray, List.getElem_cons_zero, List.getElem_cons_succ]
          refine wpAnyH_take (i := 9) (v := .pointer (some ⟨qx, 4, none⟩)) rfl (by kernel_rfl) (by kernel_rfl) (by kernel_rfl) (fun _ _ _ h => h) (Or.inl ⟨by rfl, fun w hSw => ?_⟩) hHeld ?_
          · first | rfl | go_simp
          simp only [Act.put, List.setIfInBounds_toArray, List.set_cons_zero, List.set_cons_succ, List.getElem_toArray, List.getElem_cons_zero, List.getElem_cons_succ]
          refine wpAnyH_take (i := 10) (v := .pointer (some ⟨qx, 7, none⟩)) rfl (by kernel_rfl) (by kernel_rfl) (by kernel_rfl) (fun _ _ _ h => h) (Or.inl ⟨by rfl, fun w hSw => ?_⟩) hHeld ?_
          · first | rfl | go_simp
          simp only [Act.put, List.setIfInBounds_toArray, List.set_cons_zero, List.set_cons_succ, List.getElem_toArray, List.getElem_cons_zero, List.getElem_cons_succ]
          refine wpAnyH_take (i := 11) (v := .int .i64 (ib : Nat)) rfl (by kernel_rfl) (by kernel_rfl) (by kernel_rfl) (fun _ _ _ h => h) (Or.inl ⟨by rfl, fun w hSw => ?_⟩) hHeld ?_
          · have q3 := Y7.out w hSw; first | rfl | go_simp
          simp only [Act.put, List.setIfInBounds_toArray, List.set_cons_zero, List.set_cons_succ, List.getElem_toArray, List.getElem_cons_zero, List.getElem_cons_succ]
          refine wpAnyH_take (i := 12) (v := .pointer (some ⟨TB', TO' + ib, none⟩)) rfl (by kernel_rfl) (by kernel_rfl) (by kernel_rfl) (fun _ _ _ h => h) (Or.inl ⟨by rfl, fun w hSw => ?_⟩) hHeld ?_
          · first | rfl | go_simp
          simp only [Act.put, List.setIfInBounds_toArray, List.set_cons_zero, List.set_cons_succ, List.getElem_toArray, List.getElem_cons_zero, List.getElem_cons_succ]
          refine wpAnyH_take (i := 13) (v := .agg #[.slice pB lB cB]) rfl (by kernel_rfl) (by kernel_rfl) (by kernel_rfl) (fun _ _ _ h => h) (Or.inl ⟨by rfl, fun w hSw => ?_⟩) hHeld ?_
          · have q3 := T1.out w hSw; first | rfl | go_simp
          simp only [Act.put, List.setIfInBounds_toArray, List.set_cons_zero, List.set_cons_succ, List.getElem_toArray, List.getElem_cons_zero, List.getElem_cons_succ]
          refine wpAnyH_ready (rs := [14]) (by kernel_rfl) (by simp) ?_
          refine AllReadyH.cons rfl (fun KK hK' => ?_) AllReadyH.nil
          have hcall := l3keys_any pA pB lA cA (RB ia) (RO ia) lB cB (RB' ib) (RO' ib) n m (K ia) (X ia) (K' ib) (X' ib) wx.drew HOA HOB HZA HZB (HPA.out.below (Below.refl _ _).drew) (HPB.out.below (Below.refl _ _).drew)
          go_simp
          refine hcall.mono ?_
          clear hcall
          rintro e w5 ⟨⟨kv, rfl, hown5⟩, hb5⟩
          have hs5 : Below wx.heap.size wx w5 := grw hHeld hb5
          obtain ⟨ks, HKS⟩ : ∃ ks, Hid (Aw.kidsOf (keys (K ia) lA ++ keys (K' ib) lB) = ks) := ⟨_, rfl⟩
          rw [HKS.out] at hown5
          have HKD : Hid (∀ c, (Aw.sysOf n L K X L' K' X' f).kids x.a x.b = ks) := show ∀ _ : Nat, _ from fun _ => by
            rw [← HKS.out, ← HLA.out, ← HLB.out, ← HIA.out, ← HIB.out]
            rfl
          have hkl : ks.length ≤ 200 := by
            have h1 := Aw.kidsOf_len (keys (K ia) lA ++ keys (K' ib) lB)
            rw [HKS.out, List.length_append, keys_len, keys_len] at h1
            have := HOA.out.len
            have := HOB.out.len
            omega
          obtain ⟨ka, kcp, rfl, _⟩ := owns_form hown5
          obtain ⟨kl, HKL⟩ : ∃ kl, Hid (ks.length = kl) := ⟨_, rfl⟩
          rw [HKL.out] at hown5 hkl ⊢
          have HKO : Hid (w5.ownsRow w3.heap.size 24 4 (.slice ka kl kcp) kl (keyCells ks)) := owns_mono hown5 HBx.out.size
          have HLT5 : Hid (LTab w5 w3.heap.size (.slice (some ⟨g, 0, none⟩) ll lc) ll (lsE l) PV) := HLTx.out.below hs5
          have HB5 : Hid (Below w3.heap.size w3 w5) := grw HBx.out hs5
          have HQ5 : Hid (w5.heap[qx]? = some (.cells #[.int .i64 xa.k, .int .i64 xa.n, .string xa.s, .int .i64 (ia : Nat), .int .i64 xb.k, .int .i64 xb.n, .string xb.s, .int .i64 (ib : Nat), .slice pa pl pc] 98 (0, 0))) := blkB HQX.out hs5
          have HP5 : Hid (w5.ownsRow w3.heap.size 24 4 (.slice pa pl pc) pl (keyCells x.p)) := (Only.below (P := fun _ => False) hs5).owns HPRx.out (fun _ _ _ h => h)
          refine hK'.out _ _ hs5 (fun hHeld => ?_)
          clear hK' hb5 hown5
          refine wpAnyH_take (i := 15) (v := .slice ka kl kcp) rfl (by kernel_rfl) (by kernel_rfl) (by kernel_rfl) (fun _ _ _ h => h) (Or.inl ⟨by rfl, fun w hSw => ?_⟩) hHeld ?_
          · first | rfl | go_simp
          simp only [Act.put, List.setIfInBounds_toArray, List.set_cons_zero, List.set_cons_succ, List.getElem_toArray, List.getElem_cons_zero, List.getElem_cons_succ]
          refine wpAnyH_done (by kernel_rfl) ?_ _
          clear hHeld hs5 HPRx HLTx HBx HQX Y3 Y7 T0 T1 HPA HPB HZA HZB HTx HTx'
          go_wp2
          go_loopw [5, 73] (fun lv ii wq => ∃ (c : Nat) (l2 : List Aw.E) (PV2 : Nat → Value), c ≤ kl ∧ ii = .int .i64 c ∧ Hid (l2 = (ks.take c).foldl (fun l k => (Aw.sysOf n L K X L' K' X' f).add l ((Aw.sysOf n L K X L' K' X' f).child x k)) l) ∧ Hid (LTab wq w3.heap.size lv l2.length (lsE l2) PV2) ∧ Hid (Below w3.heap.size w3 wq) ∧ Hid (wq.heap[qx]? = some (.cells #[.int .i64 xa.k, .int .i64 xa.n, .string xa.s, .int .i64 (ia : Nat), .int .i64 xb.k, .int .i64 xb.n, .string xb.s, .int .i64 (ib : Nat), .slice pa pl pc] 98 (0, 0))) ∧ Hid (wq.ownsRow w3.heap.size 24 4 (.slice pa pl pc) pl (keyCells x.p)) ∧ Hid (wq.ownsRow w3.heap.size 24 4 (.slice ka kl kcp) kl (keyCells ks)) ∧ Hid (∀ g, lv.ownBlock = some g → g ≠ qx)) (fun _ ii _ => kl - (intOf ii).toNat)
          case atStart => exact ⟨0, l, PV, Nat.zero_le _, rfl, rfl, by rw [HLL.out]; exact HLT5, HB5, HQ5, HP5, HKO, (show ∀ g', _ from fun g' hg' => by have e : g = g' := Option.some.inj hg'; have := HQL.out.2; omega)⟩
          case round =>
            obtain ⟨c, l2, PV2, hc, rfl, HF2, HLT2, HBq, HQq, HPq, HKq, HNE⟩ := hrel
            clear HLT5 HB5 HQ5 HP5 HKO
            obtain ⟨la2, lc2, rfl, hlk2⟩ := owns_form HLT2.out.own
            have HLK2 : Hid (∀ k, (Value.slice la2 l2.length lc2).ownBlock = some k → w3.heap.size ≤ k ∧ k < wr.heap.size) := hlk2
            clear hlk2
            have hq3 := HBq.out.size
            have hl2 : l2.length ≤ 8000001 + 200 := by
              rw [HF2.out]
              have h1 := Aw.fold_len (S := (Aw.sysOf n L K X L' K' X' f)) x (ks.take c) l
              have h2 : (ks.take c).length ≤ 200 := by rw [List.length_take, HKL.out]; omega
              rw [HLL.out] at h1
              omega
            obtain ⟨ll2, HLL2⟩ : ∃ ll2, Hid (l2.length = ll2) := ⟨_, rfl⟩
            rw [HLL2.out] at HLT2 HLK2 HNE hl2 ⊢
            by_cases hck : c < kl
            · obtain ⟨k, HK⟩ : ∃ k, Hid (lsF ks c = k) := ⟨_, rfl⟩
              obtain ⟨ra, rc, rB, er, hvr⟩ := owns_rowV HKL.out HKq.out
              rw [HKL.out] at er hvr
              cases er
              obtain rfl := hvr.top (by omega)
              obtain ⟨e0', e1', e2', e3'⟩ := hvr.cells hck
              rw [HK.out] at e0' e1' e2' e3'
              simp only [Nat.zero_add] at e0' e1' e2' e3'
              clear hvr
              have hbc : (0 : Int) ≤ (c : Int) ∧ (c : Int) < (kl : Int) := by omega
              go_wp2
              obtain ⟨wk, hwk⟩ : ∃ wk, wk = wr.alloc (.cells #[.int .i64 k.k, .int .i64 k.n, .string k.s, .int .i64 k.a] 24) := ⟨_, rfl⟩
              have hbk : Below wr.heap.size wr wk := by rw [hwk]; exact (Below.refl _ _).alloc (Nat.le_refl _) _
              have HKb : Hid (ValB wk wr.heap.size k) := by rw [hwk]; exact heap_alloc_new _ _
              rw [← hwk]
              obtain ⟨qk, hqk⟩ : ∃ qk, wr.heap.size = qk := ⟨_, rfl⟩
              rw [hqk] at HKb ⊢
              have HLTk : Hid (LTab wk w3.heap.size (.slice la2 ll2 lc2) ll2 (lsE l2) PV2) := HLT2.out.below hbk
              have HBk : Hid (Below w3.heap.size w3 wk) := HBq.out.trans (hbk.mono hq3)
              have HQk : Hid (wk.heap[qx]? = some (.cells #[.int .i64 xa.k, .int .i64 xa.n, .string xa.s, .int .i64 (ia : Nat), .int .i64 xb.k, .int .i64 xb.n, .string xb.s, .int .i64 (ib : Nat), .slice pa pl pc] 98 (0, 0))) := blkB HQq.out hbk
              have HPk : Hid (wk.ownsRow w3.heap.size 24 4 (.slice pa pl pc) pl (keyCells x.p)) := (Only.below (P := fun _ => False) hbk).owns HPq.out (fun _ _ _ h => h)
              have HKk : Hid (wk.ownsRow w3.heap.size 24 4 (.slice (some ⟨rB, 0, none⟩) kl kcp) kl (keyCells ks)) := (Only.below (P := fun _ => False) hbk).owns HKq.out (fun _ _ _ h => h)
              have HSk : Hid (wk.heap.size = qk + 1 ∧ w3.heap.size ≤ qk) := ⟨by rw [hwk, ← hqk]; simp, by omega⟩
              clear hwk hbk e0' e1' e2' e3' HLT2 HBq HQq HPq HKq
              have HTk : Hid (TabsAt wk (some ⟨TB, TO, none⟩) n TB TO A L C RB RO K X) := HT3.out.below HBk.out
              have HTk' : Hid (TabsAt wk (some ⟨TB', TO', none⟩) m TB' TO' A' L' C' RB' RO' K' X') := HT3'.out.below HBk.out
              obtain ⟨na, HNA⟩ : ∃ na, Hid (atKey (L ia) (K ia) (X ia) k = na) := ⟨_, rfl⟩
              obtain ⟨nb, HNB⟩ : ∃ nb, Hid (atKey (L' ib) (K' ib) (X' ib) k = nb) := ⟨_, rfl⟩
              have HCA : Hid (∀ w', Below wk.heap.size wk w' → Calls Try.prog 48 #[.agg #[.int .i64 u.k, .int .i64 u.n, .string u.s, .int .i64 u.a, .slice (some ⟨TB, TO, none⟩) n cp], .int .i64 (ia : Nat), .agg #[.int .i64 k.k, .int .i64 k.n, .string k.s, .int .i64 k.a]] w' fun e w'' => e = .returned (.agg #[.int .i64 na.k, .int .i64 na.n, .string na.s, .int .i64 na.a]) ∧ Below w'.heap.size w' w'') := show ∀ _, _ from fun w' hb => by
                have h := l2at_any u k ia (some ⟨TB, TO, none⟩) n cp TB TO A L C RB RO K X w' hian (by have := (HO.out.all ia hian).len; omega) hn (HTk.out.below hb)
                rw [HNA.out] at h
                exact h
              have HCB : Hid (∀ w', Below wk.heap.size wk w' → Calls Try.prog 48 #[.agg #[.int .i64 u'.k, .int .i64 u'.n, .string u'.s, .int .i64 u'.a, .slice (some ⟨TB', TO', none⟩) m cp'], .int .i64 (ib : Nat), .agg #[.int .i64 k.k, .int .i64 k.n, .string k.s, .int .i64 k.a]] w' fun e w'' => e = .returned (.agg #[.int .i64 nb.k, .int .i64 nb.n, .string nb.s, .int .i64 nb.a]) ∧ Below w'.heap.size w' w'') := show ∀ _, _ from fun w' hb => by
                have h := l2at_any u' k ib (some ⟨TB', TO', none⟩) m cp' TB' TO' A' L' C' RB' RO' K' X' w' hibm (by have := (HO'.out.all ib hibm).len; omega) hm (HTk'.out.below hb)
                rw [HNB.out] at h
                exact h
              have HCP2 : Hid (∀ w', Below wk.heap.size wk w' → Calls Try.prog 49 #[.slice pa pl pc, .agg #[.int .i64 k.k, .int .i64 k.n, .string k.s, .int .i64 k.a]] w' fun e w'' => (∃ v, e = .returned v ∧ w''.ownsRow w'.heap.size 24 4 v (pl + 1) (keyCells (x.p ++ [k]))) ∧ Below w'.heap.size w' w'') := show ∀ _, _ from fun w' hb => by
                obtain ⟨pa2, pc2, pB2, ep, hvp⟩ := owns_rowV HPL.out HPk.out
                rw [HPL.out] at ep
                cases ep
                have h := l3path_any pa pc pB2 0 x.p k w' (by rw [HPL.out]; omega) (hvp.below hb)
                rw [HPL.out] at h
                exact h
              obtain ⟨y0, y1, y2, y3, y4, y5, y6, y7, y8⟩ := cells9 HQk.out
              have Y3 : Hid (∀ w', Below wk.heap.size wk w' → w'.cell? ⟨qx, 3, none⟩ = some (.int .i64 (ia : Nat))) := cellB y3
              have Y7 : Hid (∀ w', Below wk.heap.size wk w' → w'.cell? ⟨qx, 7, none⟩ = some (.int .i64 (ib : Nat))) := cellB y7
              have Y8 : Hid (∀ w', Below wk.heap.size wk w' → w'.cell? ⟨qx, 8, none⟩ = some (.slice pa pl pc)) := cellB y8
              clear y0 y1 y2 y3 y4 y5 y6 y7 y8
              obtain ⟨f0, f1, f2, f3, _⟩ := cells4 HKb.out
              have KC : Hid (∀ w', Below wk.heap.size wk w' → w'.cell? ⟨qk, 0, none⟩ = some (.int .i64 k.k) ∧ w'.cell? ⟨qk, 1, none⟩ = some (.int .i64 k.n) ∧ w'.cell? ⟨qk, 2, none⟩ = some (.string k.s) ∧ w'.cell? ⟨qk, 3, none⟩ = some (.int .i64 k.a)) := show ∀ _, _ from fun w' hb => ⟨cellB f0 w' hb, cellB f1 w' hb, cellB f2 w' hb, cellB f3 w' hb⟩
              clear f0 f1 f2 f3 HKb hqk
              refine wp_region_held_drew (S := fun y => Below wk.heap.size wk y) (by kernel_rfl) (Below.refl _ _).drew (fun hHeld => ?_)
              generalize wk.drew = wd at hHeld ⊢
              refine wpAnyH_take (i := 0) (v := .agg #[.int .i64 u.k, .int .i64 u.n, .string u.s, .int .i64 u.a, .slice (some ⟨TB, TO, none⟩) n cp]) rfl (by kernel_rfl) (by kernel_rfl) (by kernel_rfl) (fun _ _ _ h => h) (Or.inl ⟨by rfl, fun w hSw => ?_⟩) hHeld ?_
              · obtain ⟨q0, q1, q2, q3, q4⟩ := HGc.out w (grw HBk.out hSw); first | rfl | go_simp
              simp only [Act.put, List.setIfInBounds_toArray, List.set_cons_zero, List.set_cons_succ, List.getElem_toArray, List.getElem_cons_zero]
              refine wpAnyH_take (i := 1) (v := .pointer (some ⟨qx, 0, none⟩)) rfl (by kernel_rfl) (by kernel_rfl) (by kernel_rfl) (fun _ _ _ h => h) (Or.inl ⟨by rfl, fun w hSw => ?_⟩) hHeld ?_
              · first | rfl | go_simp
              simp only [Act.put, List.setIfInBounds_toArray, List.set_cons_zero, List.set_cons_succ, List.getElem_toArray, List.getElem_cons_zero, List.getElem_cons_succ]
              refine wpAnyH_take (i := 2) (v := .pointer (some ⟨qx, 3, none⟩)) rfl (by kernel_rfl) (by kernel_rfl) (by kernel_rfl) (fun _ _ _ h => h) (Or.inl ⟨by rfl, fun w hSw => ?_⟩) hHeld ?_
              · first | rfl | go_simp
              simp only [Act.put, List.setIfInBounds_toArray, List.set_cons_zero, List.set_cons_succ, List.getElem_toArray, List.getElem_cons_zero, List.getElem_cons_succ]
              refine wpAnyH_take (i := 3) (v := .int .i64 (ia : Nat)) rfl (by kernel_rfl) (by kernel_rfl) (by kernel_rfl) (fun _ _ _ h => h) (Or.inl ⟨by rfl, fun w hSw => ?_⟩) hHeld ?_
              · have q3 := Y3.out w hSw; first | rfl | go_simp
              simp only [Act.put, List.setIfInBounds_toArray, List.set_cons_zero, List.set_cons_succ, List.getElem_toArray, List.getElem_cons_zero, List.getElem_cons_succ]
              refine wpAnyH_take (i := 4) (v := .agg #[.int .i64 k.k, .int .i64 k.n, .string k.s, .int .i64 k.a]) rfl (by kernel_rfl) (by kernel_rfl) (by kernel_rfl) (fun _ _ _ h => h) (Or.inl ⟨by rfl, fun w hSw => ?_⟩) hHeld ?_
              · obtain ⟨q0, q1, q2, q3⟩ := KC.out w hSw; first | rfl | go_simp
              simp only [Act.put, List.setIfInBounds_toArray, List.set_cons_zero, List.set_cons_succ, List.getElem_toArray, List.getElem_cons_zero, List.getElem_cons_succ]
              refine wpAnyH_take (i := 6) (v := .agg #[.int .i64 u'.k, .int .i64 u'.n, .string u'.s, .int .i64 u'.a, .slice (some ⟨TB', TO', none⟩) m cp']) rfl (by kernel_rfl) (by kernel_rfl) (by kernel_rfl) (fun _ _ _ h => h) (Or.inl ⟨by rfl, fun w hSw => ?_⟩) hHeld ?_
              · obtain ⟨q0, q1, q2, q3, q4⟩ := HXc.out w (grw HBk.out hSw); first | rfl | go_simp
              simp only [Act.put, List.setIfInBounds_toArray, List.set_cons_zero, List.set_cons_succ, List.getElem_toArray, List.getElem_cons_zero, List.getElem_cons_succ]
              refine wpAnyH_take (i := 7) (v := .pointer (some ⟨qx, 4, none⟩)) rfl (by kernel_rfl) (by kernel_rfl) (by kernel_rfl) (fun _ _ _ h => h) (Or.inl ⟨by rfl, fun w hSw => ?_⟩) hHeld ?_
              · first | rfl | go_simp
              simp only [Act.put, List.setIfInBounds_toArray, List.set_cons_zero, List.set_cons_succ, List.getElem_toArray, List.getElem_cons_zero, List.getElem_cons_succ]
              refine wpAnyH_take (i := 8) (v := .pointer (some ⟨qx, 7, none⟩)) rfl (by kernel_rfl) (by kernel_rfl) (by kernel_rfl) (fun _ _ _ h => h) (Or.inl ⟨by rfl, fun w hSw => ?_⟩) hHeld ?_
              · first | rfl | go_simp
              simp only [Act.put, List.setIfInBounds_toArray, List.set_cons_zero, List.set_cons_succ, List.getElem_toArray, List.getElem_cons_zero, List.getElem_cons_succ]
              refine wpAnyH_take (i := 9) (v := .int .i64 (ib : Nat)) rfl (by kernel_rfl) (by kernel_rfl) (by kernel_rfl) (fun _ _ _ h => h) (Or.inl ⟨by rfl, fun w hSw => ?_⟩) hHeld ?_
              · have q3 := Y7.out w hSw; first | rfl | go_simp
              simp only [Act.put, List.setIfInBounds_toArray, List.set_cons_zero, List.set_cons_succ, List.getElem_toArray, List.getElem_cons_zero, List.getElem_cons_succ]
              refine wpAnyH_take (i := 10) (v := .agg #[.int .i64 k.k, .int .i64 k.n, .string k.s, .int .i64 k.a]) rfl (by kernel_rfl) (by kernel_rfl) (by kernel_rfl) (fun _ _ _ h => h) (Or.inl ⟨by rfl, fun w hSw => ?_⟩) hHeld ?_
              · obtain ⟨q0, q1, q2, q3⟩ := KC.out w hSw; first | rfl | go_simp
              simp only [Act.put, List.setIfInBounds_toArray, List.set_cons_zero, List.set_cons_succ, List.getElem_toArray, List.getElem_cons_zero, List.getElem_cons_succ]
              refine wpAnyH_take (i := 12) (v := .pointer (some ⟨qx, 8, none⟩)) rfl (by kernel_rfl) (by kernel_rfl) (by kernel_rfl) (fun _ _ _ h => h) (Or.inl ⟨by rfl, fun w hSw => ?_⟩) hHeld ?_
              · first | rfl | go_simp
              simp only [Act.put, List.setIfInBounds_toArray, List.set_cons_zero, List.set_cons_succ, List.getElem_toArray, List.getElem_cons_zero, List.getElem_cons_succ]
              refine wpAnyH_take (i := 13) (v := .slice pa pl pc) rfl (by kernel_rfl) (by kernel_rfl) (by kernel_rfl) (fun _ _ _ h => h) (Or.inl ⟨by rfl, fun w hSw => ?_⟩) hHeld ?_
              · have q3 := Y8.out w hSw; first | rfl | go_simp
              simp only [Act.put, List.setIfInBounds_toArray, List.set_cons_zero, List.set_cons_succ, List.getElem_toArray, List.getElem_cons_zero, List.getElem_cons_succ]
              refine wpAnyH_take (i := 14) (v := .agg #[.int .i64 k.k, .int .i64 k.n, .string k.s, .int .i64 k.a]) rfl (by kernel_rfl) (by kernel_rfl) (by kernel_rfl) (fun _ _ _ h => h) (Or.inl ⟨by rfl, fun w hSw => ?_⟩) hHeld ?_
              · obtain ⟨q0, q1, q2, q3⟩ := KC.out w hSw; first | rfl | go_simp
              simp only [Act.put, List.setIfInBounds_toArray, List.set_cons_zero, List.set_cons_succ, List.getElem_toArray, List.getElem_cons_zero, List.getElem_cons_succ]
              apply share4 (F := fun q a c w' => w'.heap[q]? = some (.cells #[.int .i64 na.k, .int .i64 na.n, .string na.s, .int .i64 na.a, .int .i64 nb.k, .int .i64 nb.n, .string nb.s, .int .i64 nb.a, .slice a (pl + 1) c] 98 (0, 0)) ∧ w'.ownsRow w3.heap.size 24 4 (.slice a (pl + 1) c) (pl + 1) (keyCells (x.p ++ [k])) ∧ Below wk.heap.size wk w')
              · intro hG
                refine wpAnyH_ready (rs := [5, 17]) (by kernel_rfl) (by simp) ?_
                refine AllReadyH.cons rfl (fun KK hK' => ?_) (AllReadyH.cons rfl (fun KK hK' => ?_) AllReadyH.nil)
                · have hcall := HCA.out _ hHeld
                  go_simp
                  refine hcall.mono ?_
                  clear hcall
                  rintro e wC1 ⟨rfl, hbc⟩
                  have hsc : Below wk.heap.size wk wC1 := grw hHeld hbc
                  refine hK'.out _ _ hsc (fun hHeld => ?_)
                  clear hK'
                  refine wpAnyH_ready (rs := [11, 17]) (by kernel_rfl) (by simp) ?_
                  refine AllReadyH.cons rfl (fun KK hK' => ?_) (AllReadyH.cons rfl (fun KK hK' => ?_) AllReadyH.nil)
                  · have hcall := HCB.out _ hHeld
                    go_simp
                    refine hcall.mono ?_
                    clear hcall
                    rintro e wC2 ⟨rfl, hbc⟩
                    have hsc : Below wk.heap.size wk wC2 := grw hHeld hbc
                    refine hK'.out _ _ hsc (fun hHeld => ?_)
                    clear hK'
                    refine wpAnyH_ready (rs := [15, 17]) (by kernel_rfl) (by simp) ?_
                    refine AllReadyH.cons rfl (fun KK hK' => ?_) (AllReadyH.cons rfl (fun KK hK' => ?_) AllReadyH.nil)
                    · have hcall := HCP2.out _ hHeld
                      go_simp
                      refine hcall.mono ?_
                      clear hcall
                      rintro e wC3 ⟨⟨rv, rfl, hrow⟩, hbc⟩
                      obtain ⟨ra2, rc2, rfl, _⟩ := owns_form hrow
                      have HRo : Hid (wC3.ownsRow w3.heap.size 24 4 (.slice ra2 (pl + 1) rc2) (pl + 1) (keyCells (x.p ++ [k]))) := owns_mono hrow (Nat.le_trans HBk.out.size hHeld.size)
                      have hsc : Below wk.heap.size wk wC3 := grw hHeld hbc
                      refine hK'.out _ _ hsc (fun hHeld => ?_)
                      clear hK'
                      refine wpAnyH_take (i := 16) (v := .agg #[.int .i64 na.k, .int .i64 na.n, .string na.s, .int .i64 na.a, .int .i64 nb.k, .int .i64 nb.n, .string nb.s, .int .i64 nb.a, .slice ra2 (pl + 1) rc2]) rfl (by kernel_rfl) (by kernel_rfl) (by kernel_rfl) (fun _ _ _ h => h) (Or.inl ⟨by rfl, fun w hSw => ?_⟩) hHeld ?_
                      · first | rfl | go_simp
                      simp only [Act.put, List.setIfInBounds_toArray, List.set_cons_zero, List.set_cons_succ, List.getElem_toArray, List.getElem_cons_zero, List.getElem_cons_succ]
                      refine wpAnyH_ready (rs := [17]) (by kernel_rfl) (by simp) ?_
                      refine AllReadyH.cons rfl (fun KK hK' => ?_) AllReadyH.nil
                      go_simp
                      obtain ⟨wD3, hwa⟩ : ∃ wa, wa = wC3.alloc (.cells #[.int .i64 0, .int .i64 0, .string ⟨#[]⟩, .int .i64 0, .int .i64 0, .int .i64 0, .string ⟨#[]⟩, .int .i64 0, .slice none 0 0] 98) := ⟨_, rfl⟩
                      have hba : Below wC3.heap.size wC3 wD3 := by rw [hwa]; exact (Below.refl _ _).alloc (Nat.le_refl _) _
                      obtain ⟨qn, hqn⟩ : ∃ qn, wC3.heap.size = qn := ⟨_, rfl⟩
                      have HAl : Hid (wD3.heap[qn]? = some (.cells #[.int .i64 0, .int .i64 0, .string ⟨#[]⟩, .int .i64 0, .int .i64 0, .int .i64 0, .string ⟨#[]⟩, .int .i64 0, .slice none 0 0] 98 (0, 0))) := by rw [hwa, ← hqn]; exact heap_alloc_new _ _
                      have HAq : Hid (wk.heap.size ≤ qn) := show _ ≤ _ by have := hHeld.size; omega
                      have HRo : Hid (wD3.ownsRow w3.heap.size 24 4 (.slice ra2 (pl + 1) rc2) (pl + 1) (keyCells (x.p ++ [k]))) := (Only.below (P := fun _ => False) hba).owns HRo.out (fun _ _ _ h => h)
                      have hsa : Below wk.heap.size wk wD3 := grw hHeld hba
                      rw [← hwa]
                      try rw [hqn]
                      refine hK'.out _ _ hsa (fun hHeld => ?_)
                      clear hK' hwa hqn
                      refine wpAnyH_ready (rs := [18]) (by kernel_rfl) (by simp) ?_
                      refine AllReadyH.cons rfl (fun KK hK' => ?_) AllReadyH.nil
                      obtain ⟨z0, z1, z2, z3, z4, z5, z6, z7, z8⟩ := cells9 HAl.out
                      have zf : ∀ j, wD3.frozen? ⟨qn, j, none⟩ = false := fun j => by have h := HAl.out; simp [World.frozen?, h]
                      go_simp
                      obtain ⟨wz, hwz⟩ : ∃ wz, wz = ((((((((wD3.setCell ⟨qn, 0, none⟩ (.int .i64 na.k)).setCell ⟨qn, 1, none⟩ (.int .i64 na.n)).setCell ⟨qn, 2, none⟩ (.string na.s)).setCell ⟨qn, 3, none⟩ (.int .i64 na.a)).setCell ⟨qn, 4, none⟩ (.int .i64 nb.k)).setCell ⟨qn, 5, none⟩ (.int .i64 nb.n)).setCell ⟨qn, 6, none⟩ (.string nb.s)).setCell ⟨qn, 7, none⟩ (.int .i64 nb.a)).setCell ⟨qn, 8, none⟩ (.slice ra2 (pl + 1) rc2) := ⟨_, rfl⟩
                      have hz1 : wz.heap[qn]? = some (.cells #[.int .i64 na.k, .int .i64 na.n, .string na.s, .int .i64 na.a, .int .i64 nb.k, .int .i64 nb.n, .string nb.s, .int .i64 nb.a, .slice ra2 (pl + 1) rc2] 98 (0, 0)) := by rw [hwz]; exact put9 HAl.out _ _ _ _ _ _ _ _ _
                      have hz2 : Below wk.heap.size wD3 wz := by rw [hwz]; exact below9 HAq.out _ _ _ _ _ _ _ _ _
                      have hz3 : Below wk.heap.size wk wz := hHeld.trans hz2
                      have hz4 : wz.ownsRow w3.heap.size 24 4 (.slice ra2 (pl + 1) rc2) (pl + 1) (keyCells (x.p ++ [k])) := by
                        rw [hwz]
                        exact own9 HRo.out HAl.out _ _ _ _ _ _ _ _ _
                      rw [← hwz]
                      refine hK'.out _ _ hz3 (fun hHeld => ?_)
                      clear hK'
                      refine wpAnyH_done (by kernel_rfl) ?_ _
                      exact hG.out qn ra2 rc2 wz ⟨hz1, hz4, hz3⟩
                    · go_simp
                      obtain ⟨wE2, hwa⟩ : ∃ wa, wa = wC2.alloc (.cells #[.int .i64 0, .int .i64 0, .string ⟨#[]⟩, .int .i64 0, .int .i64 0, .int .i64 0, .string ⟨#[]⟩, .int .i64 0, .slice none 0 0] 98) := ⟨_, rfl⟩
                      have hba : Below wC2.heap.size wC2 wE2 := by rw [hwa]; exact (Below.refl _ _).alloc (Nat.le_refl _) _
                      obtain ⟨qn, hqn⟩ : ∃ qn, wC2.heap.size = qn := ⟨_, rfl⟩
                      have HAl : Hid (wE2.heap[qn]? = some (.cells #[.int .i64 0, .int .i64 0, .string ⟨#[]⟩, .int .i64 0, .int .i64 0, .int .i64 0, .string ⟨#[]⟩, .int .i64 0, .slice none 0 0] 98 (0, 0))) := by rw [hwa, ← hqn]; exact heap_alloc_new _ _
                      have HAq : Hid (wk.heap.size ≤ qn) := show _ ≤ _ by have := hHeld.size; omega
                      have hsa : Below wk.heap.size wk wE2 := grw hHeld hba
                      rw [← hwa]
                      try rw [hqn]
                      refine hK'.out _ _ hsa (fun hHeld => ?_)
                      clear hK' hwa hqn
                      refine wpAnyH_ready (rs := [15]) (by kernel_rfl) (by simp) ?_
                      refine AllReadyH.cons rfl (fun KK hK' => ?_) AllReadyH.nil
                      have hcall := HCP2.out _ hHeld
                      go_simp
                      refine hcall.mono ?_
                      clear hcall
                      rintro e wE3 ⟨⟨rv, rfl, hrow⟩, hbc⟩
                      obtain ⟨ra2, rc2, rfl, _⟩ := owns_form hrow
                      have HRo : Hid (wE3.ownsRow w3.heap.size 24 4 (.slice ra2 (pl + 1) rc2) (pl + 1) (keyCells (x.p ++ [k]))) := owns_mono hrow (Nat.le_trans HBk.out.size hHeld.size)
                      have hsc : Below wk.heap.size wk wE3 := grw hHeld hbc
                      have HAl : Hid (wE3.heap[qn]? = some (.cells #[.int .i64 0, .int .i64 0, .string ⟨#[]⟩, .int .i64 0, .int .i64 0, .int .i64 0, .string ⟨#[]⟩, .int .i64 0, .slice none 0 0] 98 (0, 0))) := blkB HAl.out hbc
                      refine hK'.out _ _ hsc (fun hHeld => ?_)
                      clear hK'
                      refine wpAnyH_take (i := 16) (v := .agg #[.int .i64 na.k, .int .i64 na.n, .string na.s, .int .i64 na.a, .int .i64 nb.k, .int .i64 nb.n, .string nb.s, .int .i64 nb.a, .slice ra2 (pl + 1) rc2]) rfl (by kernel_rfl) (by kernel_rfl) (by kernel_rfl) (fun _ _ _ h => h) (Or.inl ⟨by rfl, fun w hSw => ?_⟩) hHeld ?_
                      · first | rfl | go_simp
                      simp only [Act.put, List.setIfInBounds_toArray, List.set_cons_zero, List.set_cons_succ, List.getElem_toArray, List.getElem_cons_zero, List.getElem_cons_succ]
                      refine wpAnyH_ready (rs := [18]) (by kernel_rfl) (by simp) ?_
                      refine AllReadyH.cons rfl (fun KK hK' => ?_) AllReadyH.nil
                      obtain ⟨z0, z1, z2, z3, z4, z5, z6, z7, z8⟩ := cells9 HAl.out
                      have zf : ∀ j, wE3.frozen? ⟨qn, j, none⟩ = false := fun j => by have h := HAl.out; simp [World.frozen?, h]
                      go_simp
                      obtain ⟨wz, hwz⟩ : ∃ wz, wz = ((((((((wE3.setCell ⟨qn, 0, none⟩ (.int .i64 na.k)).setCell ⟨qn, 1, none⟩ (.int .i64 na.n)).setCell ⟨qn, 2, none⟩ (.string na.s)).setCell ⟨qn, 3, none⟩ (.int .i64 na.a)).setCell ⟨qn, 4, none⟩ (.int .i64 nb.k)).setCell ⟨qn, 5, none⟩ (.int .i64 nb.n)).setCell ⟨qn, 6, none⟩ (.string nb.s)).setCell ⟨qn, 7, none⟩ (.int .i64 nb.a)).setCell ⟨qn, 8, none⟩ (.slice ra2 (pl + 1) rc2) := ⟨_, rfl⟩
                      have hz1 : wz.heap[qn]? = some (.cells #[.int .i64 na.k, .int .i64 na.n, .string na.s, .int .i64 na.a, .int .i64 nb.k, .int .i64 nb.n, .string nb.s, .int .i64 nb.a, .slice ra2 (pl + 1) rc2] 98 (0, 0)) := by rw [hwz]; exact put9 HAl.out _ _ _ _ _ _ _ _ _
                      have hz2 : Below wk.heap.size wE3 wz := by rw [hwz]; exact below9 HAq.out _ _ _ _ _ _ _ _ _
                      have hz3 : Below wk.heap.size wk wz := hHeld.trans hz2
                      have hz4 : wz.ownsRow w3.heap.size 24 4 (.slice ra2 (pl + 1) rc2) (pl + 1) (keyCells (x.p ++ [k])) := by
                        rw [hwz]
                        exact own9 HRo.out HAl.out _ _ _ _ _ _ _ _ _
                      rw [← hwz]
                      refine hK'.out _ _ hz3 (fun hHeld => ?_)
                      clear hK'
                      refine wpAnyH_done (by kernel_rfl) ?_ _
                      exact hG.out qn ra2 rc2 wz ⟨hz1, hz4, hz3⟩
                  · go_simp
                    obtain ⟨wF1, hwa⟩ : ∃ wa, wa = wC1.alloc (.cells #[.int .i64 0, .int .i64 0, .string ⟨#[]⟩, .int .i64 0, .int .i64 0, .int .i64 0, .string ⟨#[]⟩, .int .i64 0, .slice none 0 0] 98) := ⟨_, rfl⟩
                    have hba : Below wC1.heap.size wC1 wF1 := by rw [hwa]; exact (Below.refl _ _).alloc (Nat.le_refl _) _
                    obtain ⟨qn, hqn⟩ : ∃ qn, wC1.heap.size = qn := ⟨_, rfl⟩
                    have HAl : Hid (wF1.heap[qn]? = some (.cells #[.int .i64 0, .int .i64 0, .string ⟨#[]⟩, .int .i64 0, .int .i64 0, .int .i64 0, .string ⟨#[]⟩, .int .i64 0, .slice none 0 0] 98 (0, 0))) := by rw [hwa, ← hqn]; exact heap_alloc_new _ _
                    have HAq : Hid (wk.heap.size ≤ qn) := show _ ≤ _ by have := hHeld.size; omega
                    have hsa : Below wk.heap.size wk wF1 := grw hHeld hba
                    rw [← hwa]
                    try rw [hqn]
                    refine hK'.out _ _ hsa (fun hHeld => ?_)
                    clear hK' hwa hqn
                    refine wpAnyH_ready (rs := [11]) (by kernel_rfl) (by simp) ?_
                    refine AllReadyH.cons rfl (fun KK hK' => ?_) AllReadyH.nil
                    have hcall := HCB.out _ hHeld
                    go_simp
                    refine hcall.mono ?_
                    clear hcall
                    rintro e wF2 ⟨rfl, hbc⟩
                    have hsc : Below wk.heap.size wk wF2 := grw hHeld hbc
                    have HAl : Hid (wF2.heap[qn]? = some (.cells #[.int .i64 0, .int .i64 0, .string ⟨#[]⟩, .int .i64 0, .int .i64 0, .int .i64 0, .string ⟨#[]⟩, .int .i64 0, .slice none 0 0] 98 (0, 0))) := blkB HAl.out hbc
                    refine hK'.out _ _ hsc (fun hHeld => ?_)
                    clear hK'
                    refine wpAnyH_ready (rs := [15]) (by kernel_rfl) (by simp) ?_
                    refine AllReadyH.cons rfl (fun KK hK' => ?_) AllReadyH.nil
                    have hcall := HCP2.out _ hHeld
                    go_simp
                    refine hcall.mono ?_
                    clear hcall
                    rintro e wF3 ⟨⟨rv, rfl, hrow⟩, hbc⟩
                    obtain ⟨ra2, rc2, rfl, _⟩ := owns_form hrow
                    have HRo : Hid (wF3.ownsRow w3.heap.size 24 4 (.slice ra2 (pl + 1) rc2) (pl + 1) (keyCells (x.p ++ [k]))) := owns_mono hrow (Nat.le_trans HBk.out.size hHeld.size)
                    have hsc : Below wk.heap.size wk wF3 := grw hHeld hbc
                    have HAl : Hid (wF3.heap[qn]? = some (.cells #[.int .i64 0, .int .i64 0, .string ⟨#[]⟩, .int .i64 0, .int .i64 0, .int .i64 0, .string ⟨#[]⟩, .int .i64 0, .slice none 0 0] 98 (0, 0))) := blkB HAl.out hbc
                    refine hK'.out _ _ hsc (fun hHeld => ?_)
                    clear hK'
                    refine wpAnyH_take (i := 16) (v := .agg #[.int .i64 na.k, .int .i64 na.n, .string na.s, .int .i64 na.a, .int .i64 nb.k, .int .i64 nb.n, .string nb.s, .int .i64 nb.a, .slice ra2 (pl + 1) rc2]) rfl (by kernel_rfl) (by kernel_rfl) (by kernel_rfl) (fun _ _ _ h => h) (Or.inl ⟨by rfl, fun w hSw => ?_⟩) hHeld ?_
                    · first | rfl | go_simp
                    simp only [Act.put, List.setIfInBounds_toArray, List.set_cons_zero, List.set_cons_succ, List.getElem_toArray, List.getElem_cons_zero, List.getElem_cons_succ]
                    refine wpAnyH_ready (rs := [18]) (by kernel_rfl) (by simp) ?_
                    refine AllReadyH.cons rfl (fun KK hK' => ?_) AllReadyH.nil
                    obtain ⟨z0, z1, z2, z3, z4, z5, z6, z7, z8⟩ := cells9 HAl.out
                    have zf : ∀ j, wF3.frozen? ⟨qn, j, none⟩ = false := fun j => by have h := HAl.out; simp [World.frozen?, h]
                    go_simp
                    obtain ⟨wz, hwz⟩ : ∃ wz, wz = ((((((((wF3.setCell ⟨qn, 0, none⟩ (.int .i64 na.k)).setCell ⟨qn, 1, none⟩ (.int .i64 na.n)).setCell ⟨qn, 2, none⟩ (.string na.s)).setCell ⟨qn, 3, none⟩ (.int .i64 na.a)).setCell ⟨qn, 4, none⟩ (.int .i64 nb.k)).setCell ⟨qn, 5, none⟩ (.int .i64 nb.n)).setCell ⟨qn, 6, none⟩ (.string nb.s)).setCell ⟨qn, 7, none⟩ (.int .i64 nb.a)).setCell ⟨qn, 8, none⟩ (.slice ra2 (pl + 1) rc2) := ⟨_, rfl⟩
                    have hz1 : wz.heap[qn]? = some (.cells #[.int .i64 na.k, .int .i64 na.n, .string na.s, .int .i64 na.a, .int .i64 nb.k, .int .i64 nb.n, .string nb.s, .int .i64 nb.a, .slice ra2 (pl + 1) rc2] 98 (0, 0)) := by rw [hwz]; exact put9 HAl.out _ _ _ _ _ _ _ _ _
                    have hz2 : Below wk.heap.size wF3 wz := by rw [hwz]; exact below9 HAq.out _ _ _ _ _ _ _ _ _
                    have hz3 : Below wk.heap.size wk wz := hHeld.trans hz2
                    have hz4 : wz.ownsRow w3.heap.size 24 4 (.slice ra2 (pl + 1) rc2) (pl + 1) (keyCells (x.p ++ [k])) := by
                      rw [hwz]
                      exact own9 HRo.out HAl.out _ _ _ _ _ _ _ _ _
                    rw [← hwz]
                    refine hK'.out _ _ hz3 (fun hHeld => ?_)
                    clear hK'
                    refine wpAnyH_done (by kernel_rfl) ?_ _
                    exact hG.out qn ra2 rc2 wz ⟨hz1, hz4, hz3⟩
                · go_simp
                  obtain ⟨wG0, hwa⟩ : ∃ wa, wa = wd.alloc (.cells #[.int .i64 0, .int .i64 0, .string ⟨#[]⟩, .int .i64 0, .int .i64 0, .int .i64 0, .string ⟨#[]⟩, .int .i64 0, .slice none 0 0] 98) := ⟨_, rfl⟩
                  have hba : Below wd.heap.size wd wG0 := by rw [hwa]; exact (Below.refl _ _).alloc (Nat.le_refl _) _
                  obtain ⟨qn, hqn⟩ : ∃ qn, wd.heap.size = qn := ⟨_, rfl⟩
                  have HAl : Hid (wG0.heap[qn]? = some (.cells #[.int .i64 0, .int .i64 0, .string ⟨#[]⟩, .int .i64 0, .int .i64 0, .int .i64 0, .string ⟨#[]⟩, .int .i64 0, .slice none 0 0] 98 (0, 0))) := by rw [hwa, ← hqn]; exact heap_alloc_new _ _
                  have HAq : Hid (wk.heap.size ≤ qn) := show _ ≤ _ by have := hHeld.size; omega
                  have hsa : Below wk.heap.size wk wG0 := grw hHeld hba
                  rw [← hwa]
                  try rw [hqn]
                  refine hK'.out _ _ hsa (fun hHeld => ?_)
                  clear hK' hwa hqn
                  refine wpAnyH_ready (rs := [5]) (by kernel_rfl) (by simp) ?_
                  refine AllReadyH.cons rfl (fun KK hK' => ?_) AllReadyH.nil
                  have hcall := HCA.out _ hHeld
                  go_simp
                  refine hcall.mono ?_
                  clear hcall
                  rintro e wG1 ⟨rfl, hbc⟩
                  have hsc : Below wk.heap.size wk wG1 := grw hHeld hbc
                  have HAl : Hid (wG1.heap[qn]? = some (.cells #[.int .i64 0, .int .i64 0, .string ⟨#[]⟩, .int .i64 0, .int .i64 0, .int .i64 0, .string ⟨#[]⟩, .int .i64 0, .slice none 0 0] 98 (0, 0))) := blkB HAl.out hbc
                  refine hK'.out _ _ hsc (fun hHeld => ?_)
                  clear hK'
                  refine wpAnyH_ready (rs := [11]) (by kernel_rfl) (by simp) ?_
                  refine AllReadyH.cons rfl (fun KK hK' => ?_) AllReadyH.nil
                  have hcall := HCB.out _ hHeld
                  go_simp
                  refine hcall.mono ?_
                  clear hcall
                  rintro e wG2 ⟨rfl, hbc⟩
                  have hsc : Below wk.heap.size wk wG2 := grw hHeld hbc
                  have HAl : Hid (wG2.heap[qn]? = some (.cells #[.int .i64 0, .int .i64 0, .string ⟨#[]⟩, .int .i64 0, .int .i64 0, .int .i64 0, .string ⟨#[]⟩, .int .i64 0, .slice none 0 0] 98 (0, 0))) := blkB HAl.out hbc
                  refine hK'.out _ _ hsc (fun hHeld => ?_)
                  clear hK'
                  refine wpAnyH_ready (rs := [15]) (by kernel_rfl) (by simp) ?_
                  refine AllReadyH.cons rfl (fun KK hK' => ?_) AllReadyH.nil
                  have hcall := HCP2.out _ hHeld
                  go_simp
                  refine hcall.mono ?_
                  clear hcall
                  rintro e wG3 ⟨⟨rv, rfl, hrow⟩, hbc⟩
                  obtain ⟨ra2, rc2, rfl, _⟩ := owns_form hrow
                  have HRo : Hid (wG3.ownsRow w3.heap.size 24 4 (.slice ra2 (pl + 1) rc2) (pl + 1) (keyCells (x.p ++ [k]))) := owns_mono hrow (Nat.le_trans HBk.out.size hHeld.size)
                  have hsc : Below wk.heap.size wk wG3 := grw hHeld hbc
                  have HAl : Hid (wG3.heap[qn]? = some (.cells #[.int .i64 0, .int .i64 0, .string ⟨#[]⟩, .int .i64 0, .int .i64 0, .int .i64 0, .string ⟨#[]⟩, .int .i64 0, .slice none 0 0] 98 (0, 0))) := blkB HAl.out hbc
                  refine hK'.out _ _ hsc (fun hHeld => ?_)
                  clear hK'
                  refine wpAnyH_take (i := 16) (v := .agg #[.int .i64 na.k, .int .i64 na.n, .string na.s, .int .i64 na.a, .int .i64 nb.k, .int .i64 nb.n, .string nb.s, .int .i64 nb.a, .slice ra2 (pl + 1) rc2]) rfl (by kernel_rfl) (by kernel_rfl) (by kernel_rfl) (fun _ _ _ h => h) (Or.inl ⟨by rfl, fun w hSw => ?_⟩) hHeld ?_
                  · first | rfl | go_simp
                  simp only [Act.put, List.setIfInBounds_toArray, List.set_cons_zero, List.set_cons_succ, List.getElem_toArray, List.getElem_cons_zero, List.getElem_cons_succ]
                  refine wpAnyH_ready (rs := [18]) (by kernel_rfl) (by simp) ?_
                  refine AllReadyH.cons rfl (fun KK hK' => ?_) AllReadyH.nil
                  obtain ⟨z0, z1, z2, z3, z4, z5, z6, z7, z8⟩ := cells9 HAl.out
                  have zf : ∀ j, wG3.frozen? ⟨qn, j, none⟩ = false := fun j => by have h := HAl.out; simp [World.frozen?, h]
                  go_simp
                  obtain ⟨wz, hwz⟩ : ∃ wz, wz = ((((((((wG3.setCell ⟨qn, 0, none⟩ (.int .i64 na.k)).setCell ⟨qn, 1, none⟩ (.int .i64 na.n)).setCell ⟨qn, 2, none⟩ (.string na.s)).setCell ⟨qn, 3, none⟩ (.int .i64 na.a)).setCell ⟨qn, 4, none⟩ (.int .i64 nb.k)).setCell ⟨qn, 5, none⟩ (.int .i64 nb.n)).setCell ⟨qn, 6, none⟩ (.string nb.s)).setCell ⟨qn, 7, none⟩ (.int .i64 nb.a)).setCell ⟨qn, 8, none⟩ (.slice ra2 (pl + 1) rc2) := ⟨_, rfl⟩
                  have hz1 : wz.heap[qn]? = some (.cells #[.int .i64 na.k, .int .i64 na.n, .string na.s, .int .i64 na.a, .int .i64 nb.k, .int .i64 nb.n, .string nb.s, .int .i64 nb.a, .slice ra2 (pl + 1) rc2] 98 (0, 0)) := by rw [hwz]; exact put9 HAl.out _ _ _ _ _ _ _ _ _
                  have hz2 : Below wk.heap.size wG3 wz := by rw [hwz]; exact below9 HAq.out _ _ _ _ _ _ _ _ _
                  have hz3 : Below wk.heap.size wk wz := hHeld.trans hz2
                  have hz4 : wz.ownsRow w3.heap.size 24 4 (.slice ra2 (pl + 1) rc2) (pl + 1) (keyCells (x.p ++ [k])) := by
                    rw [hwz]
                    exact own9 HRo.out HAl.out _ _ _ _ _ _ _ _ _
                  rw [← hwz]
                  refine hK'.out _ _ hz3 (fun hHeld => ?_)
                  clear hK'
                  refine wpAnyH_done (by kernel_rfl) ?_ _
                  exact hG.out qn ra2 rc2 wz ⟨hz1, hz4, hz3⟩
              · rintro qn pa2 pc2 wn ⟨hn1, hn2, hn3⟩
                clear HCA HCB HCP2 Y3 Y7 Y8 KC
                have HN9 : Hid (wn.heap[qn]? = some (.cells #[.int .i64 na.k, .int .i64 na.n, .string na.s, .int .i64 na.a, .int .i64 nb.k, .int .i64 nb.n, .string nb.s, .int .i64 nb.a, .slice pa2 (pl + 1) pc2] 98 (0, 0))) := hn1
                have HNR : Hid (wn.ownsRow w3.heap.size 24 4 (.slice pa2 (pl + 1) pc2) (pl + 1) (keyCells (x.p ++ [k]))) := hn2
                have HLTn : Hid (LTab wn w3.heap.size (.slice la2 ll2 lc2) ll2 (lsE l2) PV2) := HLTk.out.below hn3
                have HBn : Hid (Below w3.heap.size w3 wn) := grw HBk.out hn3
                have HQn : Hid (wn.heap[qx]? = some (.cells #[.int .i64 xa.k, .int .i64 xa.n, .string xa.s, .int .i64 (ia : Nat), .int .i64 xb.k, .int .i64 xb.n, .string xb.s, .int .i64 (ib : Nat), .slice pa pl pc] 98 (0, 0))) := blkB HQk.out hn3
                have HPn : Hid (wn.ownsRow w3.heap.size 24 4 (.slice pa pl pc) pl (keyCells x.p)) := (Only.below (P := fun _ => False) hn3).owns HPk.out (fun _ _ _ h => h)
                have HKn : Hid (wn.ownsRow w3.heap.size 24 4 (.slice (some ⟨rB, 0, none⟩) kl kcp) kl (keyCells ks)) := (Only.below (P := fun _ => False) hn3).owns HKk.out (fun _ _ _ h => h)
                have HCH : Hid ((Aw.sysOf n L K X L' K' X' f).child x k = ⟨na, nb, x.p ++ [k]⟩) := by
                  show (⟨atKey (L x.a.a.toNat) (K x.a.a.toNat) (X x.a.a.toNat) k, atKey (L' x.b.a.toNat) (K' x.b.a.toNat) (X' x.b.a.toNat) k, x.p ++ [k]⟩ : Aw.E) = _
                  rw [HIA.out, HIB.out, HNA.out, HNB.out]
                have HFN : Hid ((ks.take (c + 1)).foldl (fun l k => (Aw.sysOf n L K X L' K' X' f).add l ((Aw.sysOf n L K X L' K' X' f).child x k)) l = (Aw.sysOf n L K X L' K' X' f).add l2 ⟨na, nb, x.p ++ [k]⟩) := by
                  have e1 : ks.take (c + 1) = ks.take c ++ [k] := by
                    rw [List.take_add_one]
                    have hcl : c < ks.length := by rw [HKL.out]; exact hck
                    have e2 : ks[c]? = some k := by
                      rw [← HK.out]
                      unfold lsF
                      rw [List.getD_eq_getElem?_getD, List.getElem?_eq_getElem hcl]
                      rfl
                    rw [e2]
                    rfl
                  show _ = _
                  rw [e1, List.foldl_append, ← HF2.out]
                  show (Aw.sysOf n L K X L' K' X' f).add l2 ((Aw.sysOf n L K X L' K' X' f).child x k) = _
                  rw [HCH.out]
                clear hn1 hn2 hn3 HLTk HBk HQk HPk HKk HTk HTk'
                obtain ⟨y0, y1, y2, y3, y4, y5, y6, y7, y8⟩ := cells9 HN9.out
                by_cases hna : na.k = 4
                · by_cases hnb : nb.k = 4
                  · skip
                    have hna' : (na.k == 4) = true := by simp [hna]
                    have hnb' : (nb.k == 4) = true := by simp [hnb]
                    have HCC : Hid ((Aw.sysOf n L K X L' K' X' f).cp ⟨na, nb, x.p ++ [k]⟩ = true) := by
                      show ((na.k == 4) && (nb.k == 4)) = true
                      rw [hna', hnb']
                      rfl
                    clear hna hnb
                    go_wp2
                    clear y0 y1 y2 y3 y4 y5 y6 y7 y8 hna' hnb'
                    go_loopw [12, 107] (fun mv ii wz => ∃ q : Nat, q ≤ ll2 ∧ ii = .int .i64 q ∧ MetIs mv l2 q ⟨na, nb, x.p ++ [k]⟩ ∧ Hid (Below wn.heap.size wn wz)) (fun _ ii _ => ll2 - (intOf ii).toNat)
                    case atStart => exact ⟨0, Nat.zero_le _, rfl, ⟨false, rfl, rfl⟩, Below.refl _ _⟩
                    case round =>
                      obtain ⟨q, hq, rfl, ⟨bm, rfl, hbm⟩, HZ⟩ := hrel
                      have HBM : Hid ((l2.take q).any (Aw.same ⟨na, nb, x.p ++ [k]⟩) = bm) := hbm
                      clear hbm
                      by_cases hql : q < ll2
                      · obtain ⟨g3, cap3, e3, hcs3⟩ := (HLTn.out.below HZ.out).cells hql
                        have HAT : Hid ((l2.take (q + 1)).any (Aw.same ⟨na, nb, x.p ++ [k]⟩) = (bm || Aw.same ⟨na, nb, x.p ++ [k]⟩ (lsE l2 q))) := by
                          show _ = _
                          rw [any_take _ (by rw [HLL2.out]; exact hql), HBM.out]
                        obtain ⟨y, HY⟩ : ∃ y, Hid (lsE l2 q = y) := ⟨_, rfl⟩
                        have hyrow := HLTn.out.rows q hql
                        obtain ⟨ya2, yc2, hyv, _⟩ := owns_form hyrow
                        rw [HY.out] at hcs3 HAT
                        rw [hyv] at hcs3
                        obtain ⟨yl, hyl⟩ : ∃ yl, (lsE l2 q).p.length = yl := ⟨_, rfl⟩
                        rw [hyl] at hcs3
                        clear hyrow hyv hyl
                        cases e3
                        obtain ⟨ya, hya⟩ : ∃ ya, y.a = ya := ⟨_, rfl⟩
                        obtain ⟨yb, hyb⟩ : ∃ yb, y.b = yb := ⟨_, rfl⟩
                        have HSM : Hid (Aw.same ⟨na, nb, x.p ++ [k]⟩ y = (eqV ya na && eqV yb nb)) := by show (eqV y.a na && eqV y.b nb) = _; rw [hya, hyb]
                        unfold cell9 at hcs3
                        rw [hya, hyb] at hcs3
                        clear hya hyb
                        have k0 := hcs3 0 _ rfl
                        have k1 := hcs3 1 _ rfl
                        have k2 := hcs3 2 _ rfl
                        have k3 := hcs3 3 _ rfl
                        have k4 := hcs3 4 _ rfl
                        have k5 := hcs3 5 _ rfl
                        have k6 := hcs3 6 _ rfl
                        have k7 := hcs3 7 _ rfl
                        have k8 := hcs3 8 _ rfl
                        simp only [Nat.add_zero] at k0
                        clear hcs3
                        have hbq : (0 : Int) ≤ (q : Int) ∧ (q : Int) < (ll2 : Int) := by omega
                        have HN9z : Hid (wr.heap[qn]? = some (.cells #[.int .i64 na.k, .int .i64 na.n, .string na.s, .int .i64 na.a, .int .i64 nb.k, .int .i64 nb.n, .string nb.s, .int .i64 nb.a, .slice pa2 (pl + 1) pc2] 98 (0, 0))) := blkB HN9.out HZ.out
                        obtain ⟨y0, y1, y2, y3, y4, y5, y6, y7, y8⟩ := cells9 HN9z.out
                        have hnl : qn < wr.heap.size := blk_lt HN9z.out
                        have HZy : Hid (Below wn.heap.size wn (wr.alloc (.cells #[.int .i64 ya.k, .int .i64 ya.n, .string ya.s, .int .i64 ya.a, .int .i64 yb.k, .int .i64 yb.n, .string yb.s, .int .i64 yb.a, .slice ya2 yl yc2] 98))) := grw HZ.out ((Below.refl _ _).alloc (Nat.le_refl _) _)
                        have e1 := eqlV ya na
                        have e2 := eqlV yb nb
                        cases bm
                        · cases hc1 : eqV ya na
                          · rw [hc1] at e1
                            have HMN : MetIs (.bool false) l2 (q + 1) ⟨na, nb, x.p ++ [k]⟩ := ⟨false, rfl, by rw [HAT.out, HSM.out, hc1]; rfl⟩
                            clear hc1
                            go_wp2
                            go_roundw
                            case rel => exact ⟨q + 1, by omega, by go_num, HMN, HZy⟩
                            case measure => simp [intOf]; omega
                          · rw [hc1] at e1
                            cases hc2 : eqV yb nb
                            · rw [hc2] at e2
                              have HMN : MetIs (.bool false) l2 (q + 1) ⟨na, nb, x.p ++ [k]⟩ := ⟨false, rfl, by rw [HAT.out, HSM.out, hc1, hc2]; rfl⟩
                              clear hc1 hc2
                              go_wp2
                              go_roundw
                              case rel => exact ⟨q + 1, by omega, by go_num, HMN, HZy⟩
                              case measure => simp [intOf]; omega
                            · rw [hc2] at e2
                              have HMN : MetIs (.bool true) l2 (q + 1) ⟨na, nb, x.p ++ [k]⟩ := ⟨true, rfl, by rw [HAT.out, HSM.out, hc1, hc2]; rfl⟩
                              clear hc1 hc2
                              go_wp2
                              go_roundw
                              case rel => exact ⟨q + 1, by omega, by go_num, HMN, HZy⟩
                              case measure => simp [intOf]; omega
                        · have HMN : MetIs (.bool true) l2 (q + 1) ⟨na, nb, x.p ++ [k]⟩ := ⟨true, rfl, by rw [HAT.out]; rfl⟩
                          go_wp2
                          go_roundw
                          case rel => exact ⟨q + 1, by omega, by go_num, HMN, HZy⟩
                          case measure => simp [intOf]; omega
                      · obtain rfl : ll2 = q := by omega
                        have HMT : Hid (l2.any (Aw.same ⟨na, nb, x.p ++ [k]⟩) = bm) := by
                          have h := HBM.out
                          rw [List.take_of_length_le (by rw [HLL2.out]; exact Nat.le_refl _)] at h
                          exact h
                        have HLTz : Hid (LTab wr w3.heap.size (.slice la2 ll2 lc2) ll2 (lsE l2) PV2) := HLTn.out.below HZ.out
                        have HBz : Hid (Below w3.heap.size w3 wr) := grw HBn.out HZ.out
                        have HQz : Hid (wr.heap[qx]? = some (.cells #[.int .i64 xa.k, .int .i64 xa.n, .string xa.s, .int .i64 (ia : Nat), .int .i64 xb.k, .int .i64 xb.n, .string xb.s, .int .i64 (ib : Nat), .slice pa pl pc] 98 (0, 0))) := blkB HQn.out HZ.out
                        have HPz : Hid (wr.ownsRow w3.heap.size 24 4 (.slice pa pl pc) pl (keyCells x.p)) := (Only.below (P := fun _ => False) HZ.out).owns HPn.out (fun _ _ _ h => h)
                        have HKz : Hid (wr.ownsRow w3.heap.size 24 4 (.slice (some ⟨rB, 0, none⟩) kl kcp) kl (keyCells ks)) := (Only.below (P := fun _ => False) HZ.out).owns HKn.out (fun _ _ _ h => h)
                        have HN9z : Hid (wr.heap[qn]? = some (.cells #[.int .i64 na.k, .int .i64 na.n, .string na.s, .int .i64 na.a, .int .i64 nb.k, .int .i64 nb.n, .string nb.s, .int .i64 nb.a, .slice pa2 (pl + 1) pc2] 98 (0, 0))) := blkB HN9.out HZ.out
                        have HNRz : Hid (wr.ownsRow w3.heap.size 24 4 (.slice pa2 (pl + 1) pc2) (pl + 1) (keyCells (x.p ++ [k]))) := (Only.below (P := fun _ => False) HZ.out).owns HNR.out (fun _ _ _ h => h)
                        cases bm
                        · have HNM : Hid (((Aw.sysOf n L K X L' K' X' f).cp ⟨na, nb, x.p ++ [k]⟩ && l2.any (Aw.same ⟨na, nb, x.p ++ [k]⟩)) = false) := by show _ = _; rw [HMT.out]; simp
                          have HFE : Hid ((Aw.sysOf n L K X L' K' X' f).add l2 ⟨na, nb, x.p ++ [k]⟩ = l2 ++ [⟨na, nb, x.p ++ [k]⟩]) := by
                            show (if ((Aw.sysOf n L K X L' K' X' f).cp ⟨na, nb, x.p ++ [k]⟩ && l2.any (Aw.same ⟨na, nb, x.p ++ [k]⟩)) = true then l2 else _) = _
                            rw [if_neg (by rw [HNM.out]; simp)]
                          obtain ⟨y0, y1, y2, y3, y4, y5, y6, y7, y8⟩ := cells9 HN9z.out
                          go_wp2_with (at_builtin; refine wpList_append_lies _ (by rfl) (.tmp 129) (.tmp 131) 99 (by rfl) w3.heap.size 98 i9 (.agg #[.int .i64 0, .int .i64 0, .string ⟨#[]⟩, .int .i64 0, .int .i64 0, .int .i64 0, .string ⟨#[]⟩, .int .i64 0, .slice none 0 0]) 9 104 Try.underlying99 hi9 hz90 hz91 hz92 (by rfl) (by omega) (.slice la2 ll2 lc2) ll2 (twoCells (lsE l2) PV2 ll2) (by rfl) (HLTz.out.own.alloc _) ⟨wr.heap.size, 0, none⟩ 1 1 [.int .i64 na.k, .int .i64 na.n, .string na.s, .int .i64 na.a, .int .i64 nb.k, .int .i64 nb.n, .string nb.s, .int .i64 nb.a, .slice pa2 (pl + 1) pc2] (by rfl) (by rfl) ?c1 ?c2 (by omega) ?c3 ?c4 ?c5 (wr.heap.size + 1) ?c6 ?_)
                          case c1 => exact World.news_of_block (heap_alloc_new wr _)
                          case c2 => intro v hv; simp at hv; rcases hv with rfl | rfl | rfl | rfl | rfl | rfl | rfl | rfl | rfl <;> rfl
                          case c3 => unfold maxLen; omega
                          case c4 => omega
                          case c5 => have := HBz.out.size; simp; omega
                          case c6 => simp
                          intro g2 cap2 w7 hown7 hgrow7 hat7 hlt7
                          obtain ⟨hT7, hB7, hk7, hblk7⟩ := HLTz.out.more (e := ⟨na, nb, x.p ++ [k]⟩) (f' := lsE (l2 ++ [⟨na, nb, x.p ++ [k]⟩])) (fun j hj => lsE_old (by rw [HLL2.out]; exact hj)) (by rw [← HLL2.out]; exact lsE_new l2 _) (by rw [List.length_append, HPL.out]; exact HNRz.out) _ HBz.out.size hown7 hgrow7
                          have HT7 : Hid (LTab w7 w3.heap.size (.slice (some ⟨g2, 0, none⟩) (ll2 + 1) cap2) (l2 ++ [(⟨na, nb, x.p ++ [k]⟩ : Aw.E)]).length (lsE (l2 ++ [⟨na, nb, x.p ++ [k]⟩])) (fun j => if j = ll2 then .slice pa2 (pl + 1) pc2 else PV2 j)) := by rw [List.length_append, HLL2.out]; exact hT7
                          have HB7 : Hid (Below w3.heap.size w3 w7) := HBz.out.trans hB7
                          have HQ7 : Hid (w7.heap[qx]? = some (.cells #[.int .i64 xa.k, .int .i64 xa.n, .string xa.s, .int .i64 (ia : Nat), .int .i64 xb.k, .int .i64 xb.n, .string xb.s, .int .i64 (ib : Nat), .slice pa pl pc] 98 (0, 0))) := (hblk7 qx (blk_lt HQz.out) (fun e => HNE.out _ e rfl)).trans HQz.out
                          have HP7 : Hid (w7.ownsRow w3.heap.size 24 4 (.slice pa pl pc) pl (keyCells x.p)) := hk7 _ _ _ HPz.out
                          have HK7 : Hid (w7.ownsRow w3.heap.size 24 4 (.slice (some ⟨rB, 0, none⟩) kl kcp) kl (keyCells ks)) := hk7 _ _ _ HKz.out
                          have HN7 : Hid (∀ g, (Value.slice (some ⟨g2, 0, none⟩) (ll2 + 1) cap2).ownBlock = some g → g ≠ qx) := show ∀ g, _ from fun g hg => by
                            have e : g2 = g := Option.some.inj hg
                            subst e
                            rcases hat7 with h | h
                            · exact HNE.out _ h
                            · have := blk_lt HQz.out; omega
                          clear hown7 hgrow7 hat7 hlt7 hT7 hB7 hk7 hblk7 y0 y1 y2 y3 y4 y5 y6 y7 y8
                          go_wp2
                          go_roundw
                          case rel => exact ⟨c + 1, _, _, by omega, by go_num, show l2 ++ _ = _ by rw [HFN.out, HFE.out], HT7, HB7, HQ7, HP7, HK7, HN7⟩
                          case measure => simp [intOf]; omega
                        · skip
                          have HFE : Hid ((Aw.sysOf n L K X L' K' X' f).add l2 ⟨na, nb, x.p ++ [k]⟩ = l2) := by
                            show (if ((Aw.sysOf n L K X L' K' X' f).cp ⟨na, nb, x.p ++ [k]⟩ && l2.any (Aw.same ⟨na, nb, x.p ++ [k]⟩)) = true then l2 else _) = l2
                            rw [if_pos (by rw [HCC.out, HMT.out]; rfl)]
                          go_wp2
                          go_roundw
                          case rel => exact ⟨c + 1, l2, PV2, by omega, by go_num, show l2 = _ by rw [HFN.out, HFE.out], by rw [HLL2.out]; exact HLTz, HBz, HQz, HPz, HKz, HNE⟩
                          case measure => simp [intOf]; omega
                  · have hna' : (na.k == 4) = true := by simp [hna]
                    have hnb' : (nb.k == 4) = false := by simp [hnb]
                    have HNM : Hid (((Aw.sysOf n L K X L' K' X' f).cp ⟨na, nb, x.p ++ [k]⟩ && l2.any (Aw.same ⟨na, nb, x.p ++ [k]⟩)) = false) := by
                      have h : (Aw.sysOf n L K X L' K' X' f).cp ⟨na, nb, x.p ++ [k]⟩ = false := by
                        show ((na.k == 4) && (nb.k == 4)) = false
                        simp [hna, hnb]
                      show _ = _
                      rw [h]
                      rfl
                    clear hna hnb
                    have HLTz : Hid (LTab wn w3.heap.size (.slice la2 ll2 lc2) ll2 (lsE l2) PV2) := HLTn.out
                    have HBz : Hid (Below w3.heap.size w3 wn) := HBn.out
                    have HQz : Hid (wn.heap[qx]? = some (.cells #[.int .i64 xa.k, .int .i64 xa.n, .string xa.s, .int .i64 (ia : Nat), .int .i64 xb.k, .int .i64 xb.n, .string xb.s, .int .i64 (ib : Nat), .slice pa pl pc] 98 (0, 0))) := HQn.out
                    have HPz : Hid (wn.ownsRow w3.heap.size 24 4 (.slice pa pl pc) pl (keyCells x.p)) := HPn.out
                    have HKz : Hid (wn.ownsRow w3.heap.size 24 4 (.slice (some ⟨rB, 0, none⟩) kl kcp) kl (keyCells ks)) := HKn.out
                    have HN9z : Hid (wn.heap[qn]? = some (.cells #[.int .i64 na.k, .int .i64 na.n, .string na.s, .int .i64 na.a, .int .i64 nb.k, .int .i64 nb.n, .string nb.s, .int .i64 nb.a, .slice pa2 (pl + 1) pc2] 98 (0, 0))) := HN9.out
                    have HNRz : Hid (wn.ownsRow w3.heap.size 24 4 (.slice pa2 (pl + 1) pc2) (pl + 1) (keyCells (x.p ++ [k]))) := HNR.out
                    have HFE : Hid ((Aw.sysOf n L K X L' K' X' f).add l2 ⟨na, nb, x.p ++ [k]⟩ = l2 ++ [⟨na, nb, x.p ++ [k]⟩]) := by
                      show (if ((Aw.sysOf n L K X L' K' X' f).cp ⟨na, nb, x.p ++ [k]⟩ && l2.any (Aw.same ⟨na, nb, x.p ++ [k]⟩)) = true then l2 else _) = _
                      rw [if_neg (by rw [HNM.out]; simp)]
                    obtain ⟨y0, y1, y2, y3, y4, y5, y6, y7, y8⟩ := cells9 HN9z.out
                    go_wp2_with (at_builtin; refine wpList_append_lies _ (by rfl) (.tmp 129) (.tmp 131) 99 (by rfl) w3.heap.size 98 i9 (.agg #[.int .i64 0, .int .i64 0, .string ⟨#[]⟩, .int .i64 0, .int .i64 0, .int .i64 0, .string ⟨#[]⟩, .int .i64 0, .slice none 0 0]) 9 104 Try.underlying99 hi9 hz90 hz91 hz92 (by rfl) (by omega) (.slice la2 ll2 lc2) ll2 (twoCells (lsE l2) PV2 ll2) (by rfl) (HLTz.out.own.alloc _) ⟨wn.heap.size, 0, none⟩ 1 1 [.int .i64 na.k, .int .i64 na.n, .string na.s, .int .i64 na.a, .int .i64 nb.k, .int .i64 nb.n, .string nb.s, .int .i64 nb.a, .slice pa2 (pl + 1) pc2] (by rfl) (by rfl) ?c1 ?c2 (by omega) ?c3 ?c4 ?c5 (wn.heap.size + 1) ?c6 ?_)
                    case c1 => exact World.news_of_block (heap_alloc_new wn _)
                    case c2 => intro v hv; simp at hv; rcases hv with rfl | rfl | rfl | rfl | rfl | rfl | rfl | rfl | rfl <;> rfl
                    case c3 => unfold maxLen; omega
                    case c4 => omega
                    case c5 => have := HBz.out.size; simp; omega
                    case c6 => simp
                    intro g2 cap2 w7 hown7 hgrow7 hat7 hlt7
                    obtain ⟨hT7, hB7, hk7, hblk7⟩ := HLTz.out.more (e := ⟨na, nb, x.p ++ [k]⟩) (f' := lsE (l2 ++ [⟨na, nb, x.p ++ [k]⟩])) (fun j hj => lsE_old (by rw [HLL2.out]; exact hj)) (by rw [← HLL2.out]; exact lsE_new l2 _) (by rw [List.length_append, HPL.out]; exact HNRz.out) _ HBz.out.size hown7 hgrow7
                    have HT7 : Hid (LTab w7 w3.heap.size (.slice (some ⟨g2, 0, none⟩) (ll2 + 1) cap2) (l2 ++ [(⟨na, nb, x.p ++ [k]⟩ : Aw.E)]).length (lsE (l2 ++ [⟨na, nb, x.p ++ [k]⟩])) (fun j => if j = ll2 then .slice pa2 (pl + 1) pc2 else PV2 j)) := by rw [List.length_append, HLL2.out]; exact hT7
                    have HB7 : Hid (Below w3.heap.size w3 w7) := HBz.out.trans hB7
                    have HQ7 : Hid (w7.heap[qx]? = some (.cells #[.int .i64 xa.k, .int .i64 xa.n, .string xa.s, .int .i64 (ia : Nat), .int .i64 xb.k, .int .i64 xb.n, .string xb.s, .int .i64 (ib : Nat), .slice pa pl pc] 98 (0, 0))) := (hblk7 qx (blk_lt HQz.out) (fun e => HNE.out _ e rfl)).trans HQz.out
                    have HP7 : Hid (w7.ownsRow w3.heap.size 24 4 (.slice pa pl pc) pl (keyCells x.p)) := hk7 _ _ _ HPz.out
                    have HK7 : Hid (w7.ownsRow w3.heap.size 24 4 (.slice (some ⟨rB, 0, none⟩) kl kcp) kl (keyCells ks)) := hk7 _ _ _ HKz.out
                    have HN7 : Hid (∀ g, (Value.slice (some ⟨g2, 0, none⟩) (ll2 + 1) cap2).ownBlock = some g → g ≠ qx) := show ∀ g, _ from fun g hg => by
                      have e : g2 = g := Option.some.inj hg
                      subst e
                      rcases hat7 with h | h
                      · exact HNE.out _ h
                      · have := blk_lt HQz.out; omega
                    clear hown7 hgrow7 hat7 hlt7 hT7 hB7 hk7 hblk7 y0 y1 y2 y3 y4 y5 y6 y7 y8
                    go_wp2
                    go_roundw
                    case rel => exact ⟨c + 1, _, _, by omega, by go_num, show l2 ++ _ = _ by rw [HFN.out, HFE.out], HT7, HB7, HQ7, HP7, HK7, HN7⟩
                    case measure => simp [intOf]; omega
                · have hna' : (na.k == 4) = false := by simp [hna]
                  have hnb : True := trivial
                  have HNM : Hid (((Aw.sysOf n L K X L' K' X' f).cp ⟨na, nb, x.p ++ [k]⟩ && l2.any (Aw.same ⟨na, nb, x.p ++ [k]⟩)) = false) := by
                    have h : (Aw.sysOf n L K X L' K' X' f).cp ⟨na, nb, x.p ++ [k]⟩ = false := by
                      show ((na.k == 4) && (nb.k == 4)) = false
                      simp [hna]
                    show _ = _
                    rw [h]
                    rfl
                  clear hna hnb
                  have HLTz : Hid (LTab wn w3.heap.size (.slice la2 ll2 lc2) ll2 (lsE l2) PV2) := HLTn.out
                  have HBz : Hid (Below w3.heap.size w3 wn) := HBn.out
                  have HQz : Hid (wn.heap[qx]? = some (.cells #[.int .i64 xa.k, .int .i64 xa.n, .string xa.s, .int .i64 (ia : Nat), .int .i64 xb.k, .int .i64 xb.n, .string xb.s, .int .i64 (ib : Nat), .slice pa pl pc] 98 (0, 0))) := HQn.out
                  have HPz : Hid (wn.ownsRow w3.heap.size 24 4 (.slice pa pl pc) pl (keyCells x.p)) := HPn.out
                  have HKz : Hid (wn.ownsRow w3.heap.size 24 4 (.slice (some ⟨rB, 0, none⟩) kl kcp) kl (keyCells ks)) := HKn.out
                  have HN9z : Hid (wn.heap[qn]? = some (.cells #[.int .i64 na.k, .int .i64 na.n, .string na.s, .int .i64 na.a, .int .i64 nb.k, .int .i64 nb.n, .string nb.s, .int .i64 nb.a, .slice pa2 (pl + 1) pc2] 98 (0, 0))) := HN9.out
                  have HNRz : Hid (wn.ownsRow w3.heap.size 24 4 (.slice pa2 (pl + 1) pc2) (pl + 1) (keyCells (x.p ++ [k]))) := HNR.out
                  have HFE : Hid ((Aw.sysOf n L K X L' K' X' f).add l2 ⟨na, nb, x.p ++ [k]⟩ = l2 ++ [⟨na, nb, x.p ++ [k]⟩]) := by
                    show (if ((Aw.sysOf n L K X L' K' X' f).cp ⟨na, nb, x.p ++ [k]⟩ && l2.any (Aw.same ⟨na, nb, x.p ++ [k]⟩)) = true then l2 else _) = _
                    rw [if_neg (by rw [HNM.out]; simp)]
                  obtain ⟨y0, y1, y2, y3, y4, y5, y6, y7, y8⟩ := cells9 HN9z.out
                  go_wp2_with (at_builtin; refine wpList_append_lies _ (by rfl) (.tmp 129) (.tmp 131) 99 (by rfl) w3.heap.size 98 i9 (.agg #[.int .i64 0, .int .i64 0, .string ⟨#[]⟩, .int .i64 0, .int .i64 0, .int .i64 0, .string ⟨#[]⟩, .int .i64 0, .slice none 0 0]) 9 104 Try.underlying99 hi9 hz90 hz91 hz92 (by rfl) (by omega) (.slice la2 ll2 lc2) ll2 (twoCells (lsE l2) PV2 ll2) (by rfl) (HLTz.out.own.alloc _) ⟨wn.heap.size, 0, none⟩ 1 1 [.int .i64 na.k, .int .i64 na.n, .string na.s, .int .i64 na.a, .int .i64 nb.k, .int .i64 nb.n, .string nb.s, .int .i64 nb.a, .slice pa2 (pl + 1) pc2] (by rfl) (by rfl) ?c1 ?c2 (by omega) ?c3 ?c4 ?c5 (wn.heap.size + 1) ?c6 ?_)
                  case c1 => exact World.news_of_block (heap_alloc_new wn _)
                  case c2 => intro v hv; simp at hv; rcases hv with rfl | rfl | rfl | rfl | rfl | rfl | rfl | rfl | rfl <;> rfl
                  case c3 => unfold maxLen; omega
                  case c4 => omega
                  case c5 => have := HBz.out.size; simp; omega
                  case c6 => simp
                  intro g2 cap2 w7 hown7 hgrow7 hat7 hlt7
                  obtain ⟨hT7, hB7, hk7, hblk7⟩ := HLTz.out.more (e := ⟨na, nb, x.p ++ [k]⟩) (f' := lsE (l2 ++ [⟨na, nb, x.p ++ [k]⟩])) (fun j hj => lsE_old (by rw [HLL2.out]; exact hj)) (by rw [← HLL2.out]; exact lsE_new l2 _) (by rw [List.length_append, HPL.out]; exact HNRz.out) _ HBz.out.size hown7 hgrow7
                  have HT7 : Hid (LTab w7 w3.heap.size (.slice (some ⟨g2, 0, none⟩) (ll2 + 1) cap2) (l2 ++ [(⟨na, nb, x.p ++ [k]⟩ : Aw.E)]).length (lsE (l2 ++ [⟨na, nb, x.p ++ [k]⟩])) (fun j => if j = ll2 then .slice pa2 (pl + 1) pc2 else PV2 j)) := by rw [List.length_append, HLL2.out]; exact hT7
                  have HB7 : Hid (Below w3.heap.size w3 w7) := HBz.out.trans hB7
                  have HQ7 : Hid (w7.heap[qx]? = some (.cells #[.int .i64 xa.k, .int .i64 xa.n, .string xa.s, .int .i64 (ia : Nat), .int .i64 xb.k, .int .i64 xb.n, .string xb.s, .int .i64 (ib : Nat), .slice pa pl pc] 98 (0, 0))) := (hblk7 qx (blk_lt HQz.out) (fun e => HNE.out _ e rfl)).trans HQz.out
                  have HP7 : Hid (w7.ownsRow w3.heap.size 24 4 (.slice pa pl pc) pl (keyCells x.p)) := hk7 _ _ _ HPz.out
                  have HK7 : Hid (w7.ownsRow w3.heap.size 24 4 (.slice (some ⟨rB, 0, none⟩) kl kcp) kl (keyCells ks)) := hk7 _ _ _ HKz.out
                  have HN7 : Hid (∀ g, (Value.slice (some ⟨g2, 0, none⟩) (ll2 + 1) cap2).ownBlock = some g → g ≠ qx) := show ∀ g, _ from fun g hg => by
                    have e : g2 = g := Option.some.inj hg
                    subst e
                    rcases hat7 with h | h
                    · exact HNE.out _ h
                    · have := blk_lt HQz.out; omega
                  clear hown7 hgrow7 hat7 hlt7 hT7 hB7 hk7 hblk7 y0 y1 y2 y3 y4 y5 y6 y7 y8
                  go_wp2
                  go_roundw
                  case rel => exact ⟨c + 1, _, _, by omega, by go_num, show l2 ++ _ = _ by rw [HFN.out, HFE.out], HT7, HB7, HQ7, HP7, HK7, HN7⟩
                  case measure => simp [intOf]; omega
            · obtain rfl : kl = c := by omega
              have HSR : Hid (Aw.SReach (Aw.sysOf n L K X L' K' X' f) ⟨u, u', []⟩ (i + 1) l2) := by
                have e : l2 = (Aw.sysOf n L K X L' K' X' f).grow l x := by
                  rw [HF2.out, List.take_of_length_le (by rw [HKL.out]; exact Nat.le_refl _)]
                  unfold Aw.Sys.grow
                  rw [HKD.out 0]
                rw [e]
                exact Aw.SReach.couple HR.out HXI.out HCP.out
              go_wp2
              go_roundw
              case rel => exact ⟨i + 1, l2, PV2, by go_num, HSR, by rw [HLL2.out]; exact HLT2, HBq⟩
              case measure => simp [intOf]; omega
        · have hka : (xa.k != 4) = false := by simp [hxa]
          have hkb : (xb.k != 4) = true := by simp [hxb]
          have HCP : Hid ((Aw.sysOf n L K X L' K' X' f).cp x = false) := by
            show ((x.a.k == 4) && (x.b.k == 4)) = false
            rw [HXA.out, HXB.out]
            simp [hxb]
          clear hxa hxb
          obtain ⟨wx, hwx⟩ : ∃ wx, wx = wr.alloc (.cells #[.int .i64 xa.k, .int .i64 xa.n, .string xa.s, .int .i64 xa.a, .int .i64 xb.k, .int .i64 xb.n, .string xb.s, .int .i64 xb.a, .slice pa pl pc] 98) := ⟨_, rfl⟩
          have hbx : Below wr.heap.size wr wx := by rw [hwx]; exact (Below.refl _ _).alloc (Nat.le_refl _) _
          have HLTx : Hid (LTab wx w3.heap.size (.slice (some ⟨g, 0, none⟩) ll lc) ll (lsE l) PV) := HLT.out.below hbx
          have HBx : Hid (Below w3.heap.size w3 wx) := HB.out.trans (hbx.mono hs3)
          have HPRx : Hid (wx.ownsRow w3.heap.size 24 4 (.slice pa pl pc) pl (keyCells x.p)) := (Only.below (P := fun _ => False) hbx).owns HPR.out (fun _ _ _ h => h)
          have hne := neqV xa xb
          clear hbx
          cases hbe : eqV xa xb with
          | true =>
            rw [hbe] at hne
            have HPA : Hid ((Aw.sysOf n L K X L' K' X' f).part x = false) := by
              show (!((x.a.k == 4) && (x.b.k == 4)) && !(eqV x.a x.b)) = false
              rw [HXA.out, HXB.out, hbe]
              simp
            clear hbe
            go_wp2
            rw [← hwx]
            clear hwx
            go_roundw
            case rel => exact ⟨i + 1, l, PV, by go_num, Aw.SReach.plain HR.out HXI.out HCP.out HPA.out, by rw [HLL.out]; exact HLTx, HBx⟩
            case measure => simp [intOf]; omega
          | false =>
            rw [hbe] at hne
            have HPA : Hid ((Aw.sysOf n L K X L' K' X' f).part x = true) := by
              show (!((x.a.k == 4) && (x.b.k == 4)) && !(eqV x.a x.b)) = true
              have hc : ((x.a.k == 4) && (x.b.k == 4)) = false := HCP.out
              rw [hc, HXA.out, HXB.out, hbe]
              rfl
            clear hbe
            go_wp2
            rw [← hwx]
            clear hwx
            go_ret
            exact ⟨Or.inl ⟨⟨HO.out, HO'.out⟩, _, _, rfl, Or.inl ⟨i, l, x, HR.out, HXI.out, HPA.out, rfl⟩, by rw [HPL.out]; exact owns_mono HPRx.out HB3.out.size⟩, grw HB3.out HBx.out⟩
      · have hka : (xa.k != 4) = true := by simp [hxa]
        have HCP : Hid ((Aw.sysOf n L K X L' K' X' f).cp x = false) := by
          show ((x.a.k == 4) && (x.b.k == 4)) = false
          rw [HXA.out, HXB.out]
          simp [hxa]
        clear hxa
        obtain ⟨wx, hwx⟩ : ∃ wx, wx = wr.alloc (.cells #[.int .i64 xa.k, .int .i64 xa.n, .string xa.s, .int .i64 xa.a, .int .i64 xb.k, .int .i64 xb.n, .string xb.s, .int .i64 xb.a, .slice pa pl pc] 98) := ⟨_, rfl⟩
        have hbx : Below wr.heap.size wr wx := by rw [hwx]; exact (Below.refl _ _).alloc (Nat.le_refl _) _
        have HLTx : Hid (LTab wx w3.heap.size (.slice (some ⟨g, 0, none⟩) ll lc) ll (lsE l) PV) := HLT.out.below hbx
        have HBx : Hid (Below w3.heap.size w3 wx) := HB.out.trans (hbx.mono hs3)
        have HPRx : Hid (wx.ownsRow w3.heap.size 24 4 (.slice pa pl pc) pl (keyCells x.p)) := (Only.below (P := fun _ => False) hbx).owns HPR.out (fun _ _ _ h => h)
        have hne := neqV xa xb
        clear hbx
        cases hbe : eqV xa xb with
        | true =>
          rw [hbe] at hne
          have HPA : Hid ((Aw.sysOf n L K X L' K' X' f).part x = false) := by
            show (!((x.a.k == 4) && (x.b.k == 4)) && !(eqV x.a x.b)) = false
            rw [HXA.out, HXB.out, hbe]
            simp
          clear hbe
          go_wp2
          rw [← hwx]
          clear hwx
          go_roundw
          case rel => exact ⟨i + 1, l, PV, by go_num, Aw.SReach.plain HR.out HXI.out HCP.out HPA.out, by rw [HLL.out]; exact HLTx, HBx⟩
          case measure => simp [intOf]; omega
        | false =>
          rw [hbe] at hne
          have HPA : Hid ((Aw.sysOf n L K X L' K' X' f).part x = true) := by
            show (!((x.a.k == 4) && (x.b.k == 4)) && !(eqV x.a x.b)) = true
            have hc : ((x.a.k == 4) && (x.b.k == 4)) = false := HCP.out
            rw [hc, HXA.out, HXB.out, hbe]
            rfl
          clear hbe
          go_wp2
          rw [← hwx]
          clear hwx
          go_ret
          exact ⟨Or.inl ⟨⟨HO.out, HO'.out⟩, _, _, rfl, Or.inl ⟨i, l, x, HR.out, HXI.out, HPA.out, rfl⟩, by rw [HPL.out]; exact owns_mono HPRx.out HB3.out.size⟩, grw HB3.out HBx.out⟩
    · go_wp2
      go_ret
      exact ⟨Or.inl ⟨⟨HO.out, HO'.out⟩, _, _, rfl, Or.inr ⟨i, l, HR.out, by rw [HLL.out]; omega, rfl⟩, World.ownsRow_nil _ _ _ _⟩, grw HB3.out HB.out⟩

end Go.Proofs.Ytgflalfiopnmnaa
