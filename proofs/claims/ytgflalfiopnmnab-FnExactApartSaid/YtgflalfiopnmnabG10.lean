import Derived.Test.YtgflalfiopnmnabG9
import Derived.Test.YtgflalfiopnmnabGtLaw
namespace Go.Proofs.Ytgflalfiopnmnab
open Go.RowKit Vl Aw
open Go.ChangeShapes Go.WideShapes Go.ChangeAt Go.Joins

/-- The answer, told. -/
def FixA (f : Nat → Nat) (n m : Nat) (u u' : V) (L L' : Nat → Nat) (K X K' X' : Nat → Nat → V) (ans : List V) : Prop :=
  ((OkG n u L K X ∧ OkG m u' L' K' X') ∧ Aw.SDone (Aw.sysOf n L K X L' K' X' f) ⟨u, u', []⟩ ans) ∨ (¬ (OkG n u L K X ∧ OkG m u' L' K' X') ∧ ans = [])
/-- A call's answer is a row of values in memory of its own. -/
def ValRes (w w' : World) (e : Ending) (ans : List V) : Prop := ∃ v, e = .returned v ∧ w'.ownsRow w.heap.size 29 4 v ans.length (keyCells ans)
noncomputable def theF (n m : Nat) (L L' : Nat → Nat) (K X K' X' : Nat → Nat → V) : Nat → Nat :=
  Classical.epsilon (fun f => ClsAre (n + m) (jn n L L') (jn n K K') (jn n X (fun j c => sh n (X' j c))) f ∧ ∀ i, n + m ≤ i → f i = 0)

theorem apS_res {w w' : World} {e : Ending} {f : Nat → Nat} {n m : Nat} {u u' : V} {L L' : Nat → Nat} {K X K' X' : Nat → Nat → V} (h : ApS w w' e f n m u u' L L' K X K' X') : ∃ ans, ValRes w w' e ans ∧ FixA f n m u u' L L' K X K' X' ans := by
  rcases h with ⟨hok, v, ans, h1, h2, h3⟩ | ⟨hno, h1⟩
  · exact ⟨ans, ⟨v, h1, h3⟩, Or.inl ⟨hok, h2⟩⟩
  · exact ⟨[], ⟨_, h1, World.ownsRow_nil _ _ _ _⟩, Or.inr ⟨hno, rfl⟩⟩
theorem apI_res {n m : Nat} {u u' : V} {L L' : Nat → Nat} {K X K' X' : Nat → Nat → V} {ans : List V} (hF : FixA (theF n m L L' K X K' X') n m u u' L L' K X K' X' ans) {w w' : World} {e : Ending} (h : ApI w w' e n m u u' L L' K X K' X') : ValRes w w' e ans ∧ ans.length ≤ 50000 := by
  rcases h with ⟨hok, f, v, ans', hcls, hz, h1, h2, h3⟩ | ⟨hno, h1⟩
  · rcases hF with ⟨_, hS⟩ | ⟨hno, _⟩
    · have he := Classical.epsilon_spec (p := fun f => ClsAre (n + m) (jn n L L') (jn n K K') (jn n X (fun j c => sh n (X' j c))) f ∧ ∀ i, n + m ≤ i → f i = 0) ⟨f, hcls, hz⟩
      have ef : theF n m L L' K X K' X' = f := funext fun i => by
        by_cases hi : i < n + m
        · exact he.1.uniqT (okT_join hok.1 hok.2) hcls hi
        · exact (he.2 i (by omega)).trans (hz i (by omega)).symm
      rw [ef] at hS
      have ea : ans = ans' := Aw.meet (Aw.sys_fits hok.1 hok.2 hcls) ⟨hok.1.root, hok.2.root⟩ rfl hS h2
      subst ea
      refine ⟨⟨v, h1, h3⟩, ?_⟩
      rcases h2 with ⟨j, q, e', pre, k, post, hr, hq, _, _, _, e2⟩ | ⟨_, _, _, _, e2⟩
      · have hw := hr.wide (Aw.sys_next hok.1 hok.2) (Aw.sys_ix n m L K X L' K' X' f) ⟨hok.1.root, hok.2.root⟩ rfl
        have hp := hw.wide.path e' (List.mem_of_getElem? hq)
        have hl := hw.len (Aw.sys_ix n m L K X L' K' X' f)
        have hj : j < q.length := (List.getElem?_eq_some_iff.1 hq).1
        have h3 : n * m ≤ 200 * 200 := Nat.mul_le_mul hok.1.len hok.2.len
        rw [e2, List.length_append]
        simp
        omega
      · rw [e2]; simp
    · exact absurd hok hno
  · rcases hF with ⟨hok, _⟩ | ⟨_, rfl⟩
    · exact absurd hok hno
    · exact ⟨⟨_, h1, World.ownsRow_nil _ _ _ _⟩, by simp⟩

/-- A row in memory of its own, to be marked. -/
structure ARow (w : World) (base : Nat) (pa : Option Addr) (B cap : Nat) (f : Nat → Value) (ans : List V) : Prop where
  top : 0 < ans.length → pa = some ⟨B, 0, none⟩
  lo : 0 < ans.length → base ≤ B
  row : 0 < ans.length → w.rowIs B 29 cap f
  fit : ans.length * 4 ≤ cap
  val : ValsAt w pa ans.length B 0 (lsF ans)
theorem ValRes.vrow {w w' : World} {e : Ending} {ans : List V} (h : ValRes w w' e ans) : ∃ pa pc B cap f, e = .returned (.slice pa ans.length pc) ∧ ARow w' w.heap.size pa B cap f ans := by
  obtain ⟨v, rfl, ho⟩ := h
  have ho2 : w'.ownsRow w.heap.size 29 4 v ans.length (keyCells (keys (lsF ans) ans.length)) := by rw [keys_lsF]; exact ho
  rcases ho.2 with ⟨rfl, h0⟩ | ⟨g, cap, cur, rfl, hg, hh, hle, _, hs, _⟩
  · refine ⟨none, 0, 0, 0, fun _ => .bool false, by rw [h0], ⟨fun h => by omega, fun h => by omega, fun h => by omega, by omega, ⟨fun h => by omega, fun c hc => by omega⟩⟩⟩
  · have h3 := (owns_keys ho2).2
    exact ⟨_, _, g, cap * 4, fun i => cur.getD i (.bool false), rfl, ⟨fun _ => rfl, fun _ => hg, fun _ => ⟨cur, hh, hs, fun i hi => by simp [Array.getD, show i < cur.size by omega]⟩, by omega, h3⟩⟩
theorem ARow.below {w w' : World} {base : Nat} {pa : Option Addr} {B cap : Nat} {f : Nat → Value} {ans : List V} (h : ARow w base pa B cap f ans) (hb : Below w.heap.size w w') : ARow w' base pa B cap f ans :=
  ⟨h.top, h.lo, fun h0 => (h.row h0).of_block (hb.block _ (h.row h0).lt), h.fit, h.val.below hb⟩
theorem ARow.only {P : Nat → Prop} {w w' : World} {base : Nat} {pa : Option Addr} {B cap : Nat} {f : Nat → Value} {ans : List V} (h : ARow w base pa B cap f ans) (ho : Only P w w') (hP : 0 < ans.length → ¬ P B) : ARow w' base pa B cap f ans := by
  refine ⟨h.top, h.lo, fun h0 => ho.rowIs (h.row h0) (hP h0), h.fit, ⟨h.val.top, fun c hc => ?_⟩⟩
  have h0 : 0 < ans.length := by omega
  obtain ⟨a, b, c', d⟩ := h.val.val c hc
  exact ⟨ho.cell a (hP h0), ho.cell b (hP h0), ho.cell c' (hP h0), ho.cell d (hP h0)⟩
theorem MTabs.onlyM {P : Nat → Prop} {w w' : World} {ta : Option Addr} {n TB : Nat} {A : Nat → Option Addr} {L C RB cap : Nat → Nat} {f : Nat → Nat → Value} (h : MTabs w ta n TB A L C RB cap f) (ho : Only P w w') (hT : ¬ P TB) (hR : ∀ r, r < n → ¬ P (RB r)) : MTabs w' ta n TB A L C RB cap f :=
  ⟨h.top, fun r hr => ho.cell (h.tab r hr) hT, h.adr, fun r hr h0 => ho.rowIs (h.row r hr h0) (hR r hr), h.fit, h.ne, h.dis⟩


set_option maxHeartbeats 8000000 in
set_option maxRecDepth 100000 in
theorem apartLaw (u u' : V) (ta ta' : Option Addr) (n cp TB TO m cp' TB' TO' : Nat) (A A' : Nat → Option Addr) (L C RB RO L' C' RB' RO' : Nat → Nat) (K X K' X' : Nat → Nat → V) (w : World) (hu : u.s.size ≤ 9223372036854775807) (hn : n ≤ 9223372036854775807) (hu' : u'.s.size ≤ 9223372036854775807) (hm : m ≤ 9223372036854775807)
    (HS : Hid (Small 9223372036854775807 n L K X)) (HT : Hid (TabsAt w ta n TB TO A L C RB RO K X)) (HS' : Hid (Small 9223372036854775807 m L' K' X')) (HT' : Hid (TabsAt w ta' m TB' TO' A' L' C' RB' RO' K' X')) :
    Calls Try.prog 10 #[.agg #[.int .i64 u.k, .int .i64 u.n, .string u.s, .int .i64 u.a, .slice ta n cp], .agg #[.int .i64 u'.k, .int .i64 u'.n, .string u'.s, .int .i64 u'.a, .slice ta' m cp']] w fun e w' => e = .returned (.bool true) ∧ Below w.heap.size w w' := by
  have A2 := alloc2 w (.cells #[.int .i64 u.k, .int .i64 u.n, .string u.s, .int .i64 u.a, .slice ta n cp] 26) (.cells #[.int .i64 u'.k, .int .i64 u'.n, .string u'.s, .int .i64 u'.a, .slice ta' m cp'] 26)
  obtain ⟨w0, hw0⟩ : ∃ w0, w0 = (w.alloc (.cells #[.int .i64 u.k, .int .i64 u.n, .string u.s, .int .i64 u.a, .slice ta n cp] 26)).alloc (.cells #[.int .i64 u'.k, .int .i64 u'.n, .string u'.s, .int .i64 u'.a, .slice ta' m cp'] 26) := ⟨_, rfl⟩
  rw [← hw0] at A2
  have HB0 : Hid (Below w.heap.size w w0) := A2.2.2.2
  have G0 : Hid (w0.heap[w.heap.size]? = some (.cells #[.int .i64 u.k, .int .i64 u.n, .string u.s, .int .i64 u.a, .slice ta n cp] 26 (0, 0))) := A2.1
  have J0 : Hid (w0.heap[w.heap.size + 1]? = some (.cells #[.int .i64 u'.k, .int .i64 u'.n, .string u'.s, .int .i64 u'.a, .slice ta' m cp'] 26 (0, 0))) := A2.2.1
  clear A2
  have hsz := szGraph_any u ta n cp TB TO A L C RB RO K X 1048576 w0 (by omega) (by omega) hu hn HS (HT.out.below HB0.out)
  go_enter Try.func10, Try.ntmps10
  go_wp2_with fail
  rw [← hw0]
  refine hsz.mono ?_
  clear hsz hw0
  rintro e w1 ⟨⟨q, rfl, hq1, hq2⟩, hb1⟩
  have G1 : Hid (w1.heap[w.heap.size]? = some (.cells #[.int .i64 u.k, .int .i64 u.n, .string u.s, .int .i64 u.a, .slice ta n cp] 26 (0, 0))) := blkB G0.out hb1
  have J1 : Hid (w1.heap[w.heap.size + 1]? = some (.cells #[.int .i64 u'.k, .int .i64 u'.n, .string u'.s, .int .i64 u'.a, .slice ta' m cp'] 26 (0, 0))) := blkB J0.out hb1
  have HB1 : Hid (Below w.heap.size w w1) := grw HB0.out hb1
  clear hb1 G0 J0 HB0
  by_cases hq : q < 0
  · clear hq2
    go_wp2
    go_ret
    exact ⟨rfl, HB1.out⟩
  obtain ⟨_, hn1, hsm⟩ := hq2 (by omega)
  have HSm : Hid (Small 1048576 n L K X) := hsm
  clear hq2 hsm HS
  have hsz := szGraph_any u' ta' m cp' TB' TO' A' L' C' RB' RO' K' X' q w1 (by omega) (by omega) hu' hm HS' (HT'.out.below HB1.out)
  obtain ⟨x0, x1, x2, x3, x4, _⟩ := cells5 J1.out
  go_wp2_with fail
  refine hsz.mono ?_
  clear hsz x0 x1 x2 x3 x4
  rintro e w2 ⟨⟨q', rfl, hq1', hq2'⟩, hb2⟩
  have G2 : Hid (w2.heap[w.heap.size]? = some (.cells #[.int .i64 u.k, .int .i64 u.n, .string u.s, .int .i64 u.a, .slice ta n cp] 26 (0, 0))) := blkB G1.out hb2
  have J2 : Hid (w2.heap[w.heap.size + 1]? = some (.cells #[.int .i64 u'.k, .int .i64 u'.n, .string u'.s, .int .i64 u'.a, .slice ta' m cp'] 26 (0, 0))) := blkB J1.out hb2
  have HB2 : Hid (Below w.heap.size w w2) := grw HB1.out hb2
  clear hb2 G1 J1 HB1
  by_cases hqq : q' < 0
  · clear hq2'
    go_wp2
    go_ret
    exact ⟨rfl, HB2.out⟩
  obtain ⟨_, hm1, hsm⟩ := hq2' (by omega)
  have HSm' : Hid (Small 1048576 m L' K' X') := hsm
  clear hq2' hsm HS'
  obtain ⟨g0, g1, g2, g3, g4, _⟩ := cells5 G2.out
  obtain ⟨x0, x1, x2, x3, x4, _⟩ := cells5 J2.out
  have HGc : Hid (∀ w', Below w2.heap.size w2 w' → w'.cell? ⟨w.heap.size, 0, none⟩ = some (.int .i64 u.k) ∧ w'.cell? ⟨w.heap.size, 1, none⟩ = some (.int .i64 u.n) ∧ w'.cell? ⟨w.heap.size, 2, none⟩ = some (.string u.s) ∧ w'.cell? ⟨w.heap.size, 3, none⟩ = some (.int .i64 u.a) ∧ w'.cell? ⟨w.heap.size, 4, none⟩ = some (.slice ta n cp)) := show ∀ _, _ from fun w' hb => ⟨cellB g0 w' hb, cellB g1 w' hb, cellB g2 w' hb, cellB g3 w' hb, cellB g4 w' hb⟩
  have HXc : Hid (∀ w', Below w2.heap.size w2 w' → w'.cell? ⟨w.heap.size + 1, 0, none⟩ = some (.int .i64 u'.k) ∧ w'.cell? ⟨w.heap.size + 1, 1, none⟩ = some (.int .i64 u'.n) ∧ w'.cell? ⟨w.heap.size + 1, 2, none⟩ = some (.string u'.s) ∧ w'.cell? ⟨w.heap.size + 1, 3, none⟩ = some (.int .i64 u'.a) ∧ w'.cell? ⟨w.heap.size + 1, 4, none⟩ = some (.slice ta' m cp')) := show ∀ _, _ from fun w' hb => ⟨cellB x0 w' hb, cellB x1 w' hb, cellB x2 w' hb, cellB x3 w' hb, cellB x4 w' hb⟩
  clear g0 g1 g2 g3 g4 x0 x1 x2 x3 x4
  have hto := toGraph_any u ta n cp TB TO A L C RB RO K X w2.drew hn1 HSm (HT.out.below (HB2.out.drew))
  go_wp2
  refine wp_region_held_drew (S := fun x => Below w2.heap.size w2 x) (by kernel_rfl) (Below.refl _ _).drew (fun hHeld => ?_)
  refine wpAnyH_take (i := 0) (v := .agg #[.int .i64 u.k, .int .i64 u.n, .string u.s, .int .i64 u.a, .slice ta n cp]) rfl (by kernel_rfl) (by kernel_rfl) (by kernel_rfl) (fun _ _ _ h => h) (Or.inl ⟨by rfl, fun w hSw => ?_⟩) hHeld ?_
  · obtain ⟨q0, q1, q2, q3, q4⟩ := HGc.out w hSw; first | rfl | go_simp
  simp only [Act.put, List.setIfInBounds_toArray, List.set_cons_zero, List.set_cons_succ, List.getElem_toArray, List.getElem_cons_zero]
  refine wpAnyH_take (i := 2) (v := .agg #[.int .i64 u'.k, .int .i64 u'.n, .string u'.s, .int .i64 u'.a, .slice ta' m cp']) rfl (by kernel_rfl) (by kernel_rfl) (by kernel_rfl) (fun _ _ _ h => h) (Or.inl ⟨by rfl, fun w hSw => ?_⟩) hHeld ?_
  · obtain ⟨q0, q1, q2, q3, q4⟩ := HXc.out w hSw; first | rfl | go_simp
  simp only [Act.put, List.setIfInBounds_toArray, List.set_cons_zero, List.set_cons_succ, List.getElem_toArray, List.getElem_cons_zero, List.getElem_cons_succ]
  refine wpAnyH_ready (rs := [1]) (by kernel_rfl) (by simp) ?_
  refine AllReadyH.cons rfl (fun KK hK' => ?_) AllReadyH.nil
  have hcall := hto
  go_simp
  refine hcall.mono ?_
  clear hcall
  rintro e w3 ⟨⟨B3, rfl, _, w03, H3, _, hC3, hR3⟩, hb3⟩
  have hs3 : Below w2.heap.size w2 w3 := grw hHeld hb3
  have HT3 : Hid (TabsAt w3 (some ⟨B3, 0, none⟩) n B3 0 (fun r => some ⟨H3 r, 0, none⟩) L L H3 (fun _ => 0) K X) := hC3.tabs hR3
  have HBw3 : Hid (Below w.heap.size w w3) := grw HB2.out hs3
  clear hto hC3 hR3 hb3
  refine hK'.out _ _ hs3 (fun hHeld => ?_)
  clear hK'
  refine wpAnyH_ready (rs := [3]) (by kernel_rfl) (by simp) ?_
  refine AllReadyH.cons rfl (fun KK hK' => ?_) AllReadyH.nil
  have hcall := toGraph_any u' ta' m cp' TB' TO' A' L' C' RB' RO' K' X' w3 hm1 HSm' (HT'.out.below HBw3.out)
  go_simp
  refine hcall.mono ?_
  clear hcall
  rintro e w4 ⟨⟨B4, rfl, _, w04, H4, _, hC4, hR4⟩, hb4⟩
  have hs4 : Below w2.heap.size w2 w4 := grw hHeld hb4
  have HT4 : Hid (TabsAt w4 (some ⟨B4, 0, none⟩) m B4 0 (fun r => some ⟨H4 r, 0, none⟩) L' L' H4 (fun _ => 0) K' X') := hC4.tabs hR4
  have HT34 : Hid (TabsAt w4 (some ⟨B3, 0, none⟩) n B3 0 (fun r => some ⟨H3 r, 0, none⟩) L L H3 (fun _ => 0) K X) := HT3.out.below hb4
  clear hC4 hR4 hb4 HT3 hs3 HBw3
  refine hK'.out _ _ hs4 (fun hHeld => ?_)
  clear hK'
  refine wpAnyH_ready (rs := [4]) (by kernel_rfl) (by simp) ?_
  refine AllReadyH.cons rfl (fun KK hK' => ?_) AllReadyH.nil
  have hcall := specApart_any (theF n m L L' K X K' X') u u' (some ⟨B3, 0, none⟩) (some ⟨B4, 0, none⟩) n n B3 0 m m B4 0 _ _ L _ _ _ L' _ _ _ K X K' X' w4 hn1 hm1 HSm HSm' HT34 HT4
  go_simp
  refine hcall.mono ?_
  clear hcall
  rintro e w5 ⟨hres, hb5⟩
  have hs5 : Below w2.heap.size w2 w5 := grw hHeld hb5
  obtain ⟨ans, hvr, hfx⟩ := apS_res hres
  obtain ⟨pa5, pc5, r5, cap5, f5, rfl, hv5⟩ := hvr.vrow
  have HFix : Hid (FixA (theF n m L L' K X K' X') n m u u' L L' K X K' X' ans) := hfx
  have HV5 : Hid (ARow w5 w4.heap.size pa5 r5 cap5 f5 ans) := hv5
  have HL5 : Hid (0 < ans.length → r5 < w5.heap.size) := show _ → _ from fun h => (hv5.row h).lt
  have HB5 : Hid (Below w.heap.size w w5) := grw HB2.out hs5
  have G5 : Hid (w5.heap[w.heap.size]? = some (.cells #[.int .i64 u.k, .int .i64 u.n, .string u.s, .int .i64 u.a, .slice ta n cp] 26 (0, 0))) := blkB G2.out hs5
  have J5 : Hid (w5.heap[w.heap.size + 1]? = some (.cells #[.int .i64 u'.k, .int .i64 u'.n, .string u'.s, .int .i64 u'.a, .slice ta' m cp'] 26 (0, 0))) := blkB J2.out hs5
  clear hres hb5 HT34 HT4 hs4 hvr hfx hv5
  refine hK'.out _ _ hs5 (fun hHeld => ?_)
  clear hK'
  refine wpAnyH_take (i := 5) (v := .slice pa5 ans.length pc5) rfl (by kernel_rfl) (by kernel_rfl) (by kernel_rfl) (fun _ _ _ h => h) (Or.inl ⟨by rfl, fun w hSw => ?_⟩) hHeld ?_
  · first | rfl | go_simp
  simp only [Act.put, List.setIfInBounds_toArray, List.set_cons_zero, List.set_cons_succ, List.getElem_toArray, List.getElem_cons_zero, List.getElem_cons_succ]
  refine wpAnyH_done (by kernel_rfl) ?_ _
  clear hHeld hs5 HGc HXc G2 J2 HB2
  obtain ⟨g0, g1, g2, g3, g4, _⟩ := cells5 G5.out
  have hto := toGraph_any u ta n cp TB TO A L C RB RO K X w5 hn1 HSm (HT.out.below HB5.out)
  go_wp2_with fail
  refine hto.mono ?_
  clear hto g0 g1 g2 g3 g4
  rintro e w6 ⟨⟨B6, rfl, hB6, w06, H6, hw06, hC6, hR6⟩, hb6⟩
  obtain ⟨w7, hw7⟩ : ∃ w7, w7 = w6.alloc (.cells #[.int .i64 u.k, .int .i64 u.n, .string u.s, .int .i64 u.a, .slice (some ⟨B6, 0, none⟩) n n] 32) := ⟨_, rfl⟩
  have HB67 : Hid (Below w6.heap.size w6 w7) := by rw [hw7]; exact (Below.refl _ _).alloc (Nat.le_refl _) _
  have Y7 : Hid (w7.heap[w6.heap.size]? = some (.cells #[.int .i64 u.k, .int .i64 u.n, .string u.s, .int .i64 u.a, .slice (some ⟨B6, 0, none⟩) n n] 32 (0, 0))) := by rw [hw7]; exact heap_alloc_new _ _
  have C7 : Hid (Copied w06 w7 n H6 L K X) := hC6.below HB67.out
  have R7 : Hid (w7.rowIs B6 61 n (fun i => .slice (some ⟨H6 i, 0, none⟩) (L i) (L i))) := hR6.of_block (HB67.out.block _ hR6.lt)
  have E7 : Hid (Below w5.heap.size w5 w7) := grw hb6 HB67.out
  have HB7 : Hid (Below w.heap.size w w7) := grw HB5.out E7.out
  have HN57 : Hid (w5.heap.size ≤ w7.heap.size) := E7.out.size
  have HN6 : Hid (∀ j, j < n → w5.heap.size ≤ H6 j ∧ H6 j < w7.heap.size) := show ∀ j, _ from fun j hj => by have := C7.out.new j hj; omega
  have HW06 : Hid (w06.heap.size = B6) := hw06
  have J7 : Hid (w7.heap[w.heap.size + 1]? = some (.cells #[.int .i64 u'.k, .int .i64 u'.n, .string u'.s, .int .i64 u'.a, .slice ta' m cp'] 26 (0, 0))) := blkB J5.out E7.out
  obtain ⟨yb, hyb⟩ : ∃ yb, w6.heap.size = yb := ⟨_, rfl⟩
  rw [hyb] at Y7
  obtain ⟨x0, x1, x2, x3, x4, _⟩ := cells5 J7.out
  rw [hw7] at x0 x1 x2 x3 x4
  have hto := toGraph_any u' ta' m cp' TB' TO' A' L' C' RB' RO' K' X' w7 hm1 HSm' (HT'.out.below HB7.out)
  clear hb6 hC6 hR6 HB67 hB6 hw06
  go_wp2_with fail
  rw [← hw7]
  refine hto.mono ?_
  clear hto hw7 hyb x0 x1 x2 x3 x4 J7
  rintro e w8 ⟨⟨B8, rfl, hB8, w08, H8, hw08, hC8, hR8⟩, hb8⟩
  obtain ⟨w9, hw9⟩ : ∃ w9, w9 = w8.alloc (.cells #[.int .i64 u'.k, .int .i64 u'.n, .string u'.s, .int .i64 u'.a, .slice (some ⟨B8, 0, none⟩) m m] 32) := ⟨_, rfl⟩
  have HB89 : Hid (Below w8.heap.size w8 w9) := by rw [hw9]; exact (Below.refl _ _).alloc (Nat.le_refl _) _
  have hb79 : Below w7.heap.size w7 w9 := grw hb8 HB89.out
  have Z9 : Hid (w9.heap[w8.heap.size]? = some (.cells #[.int .i64 u'.k, .int .i64 u'.n, .string u'.s, .int .i64 u'.a, .slice (some ⟨B8, 0, none⟩) m m] 32 (0, 0))) := by rw [hw9]; exact heap_alloc_new _ _
  have C9 : Hid (Copied w06 w9 n H6 L K X) := C7.out.below hb79
  have R9 : Hid (w9.rowIs B6 61 n (fun i => .slice (some ⟨H6 i, 0, none⟩) (L i) (L i))) := R7.out.of_block (hb79.block _ R7.out.lt)
  have D9 : Hid (Copied w08 w9 m H8 L' K' X') := hC8.below HB89.out
  have S9 : Hid (w9.rowIs B8 61 m (fun i => .slice (some ⟨H8 i, 0, none⟩) (L' i) (L' i))) := hR8.of_block (HB89.out.block _ hR8.lt)
  have E9 : Hid (Below w5.heap.size w5 w9) := grw E7.out hb79
  have Y9 : Hid (w9.heap[yb]? = some (.cells #[.int .i64 u.k, .int .i64 u.n, .string u.s, .int .i64 u.a, .slice (some ⟨B6, 0, none⟩) n n] 32 (0, 0))) := blkB Y7.out hb79
  have HN8 : Hid (w7.heap.size ≤ B8 ∧ ∀ j, j < m → w7.heap.size ≤ H8 j ∧ H8 j < w9.heap.size) := ⟨hB8, fun j hj => by have := D9.out.new j hj; omega⟩
  have HW08 : Hid (w08.heap.size = B8) := hw08
  have HS79 : Hid (w7.heap.size ≤ w9.heap.size) := hb79.size
  have hyl : yb < w8.heap.size := Nat.lt_of_lt_of_le (blk_lt Y7.out) hb8.size
  obtain ⟨zb, hzb⟩ : ∃ zb, w8.heap.size = zb := ⟨_, rfl⟩
  have HZ7 : Hid (w7.heap.size ≤ zb) := by rw [← hzb]; exact hb8.size
  rw [hzb] at Z9
  obtain ⟨y0, y1, y2, y3, y4, _⟩ := cells5 Y9.out
  obtain ⟨z0, z1, z2, z3, z4, _⟩ := cells5 Z9.out
  rw [hw9] at y0 y1 y2 y3 y4 z0 z1 z2 z3 z4
  have him := implApart_any u u' (some ⟨B6, 0, none⟩) (some ⟨B8, 0, none⟩) n n B6 0 m m B8 0 _ _ L _ _ _ L' _ _ _ K X K' X' w9 hn1 hm1 HSm HSm' (C9.out.tabs R9.out) (D9.out.tabs S9.out)
  clear hb8 hC8 hR8 HB7 HB89 Y7 C7 R7 E7 hb79 hB8 hw08
  go_wp2_with fail
  rw [← hw9]
  refine him.mono ?_
  clear him hw9 hzb y0 y1 y2 y3 y4 z0 z1 z2 z3 z4 hyl
  rintro e wa ⟨hres, hba⟩
  obtain ⟨hvr, hlen⟩ := apI_res HFix.out hres
  obtain ⟨pa7, pc7, r7, cap7, f7, rfl, hv7⟩ := hvr.vrow
  have HV7 : Hid (ARow wa w9.heap.size pa7 r7 cap7 f7 ans) := hv7
  have heq := eqValS_same pa7 pa5 ans.length pc7 pc5 r7 0 r5 0 (lsF ans) wa (by omega) hv7.val (HV5.out.val.below (grw E9.out hba))
  clear hres hvr hv7
  go_wp2_with fail
  refine heq.mono ?_
  clear heq
  rintro e wA ⟨rfl, hba2⟩
  have hbA : Below w9.heap.size w9 wA := grw hba hba2
  have VA : Hid (ARow wA w9.heap.size pa7 r7 cap7 f7 ans) := HV7.out.below hba2
  have CA : Hid (Copied w06 wA n H6 L K X) := C9.out.below hbA
  have RA : Hid (wA.rowIs B6 61 n (fun i => .slice (some ⟨H6 i, 0, none⟩) (L i) (L i))) := R9.out.of_block (hbA.block _ R9.out.lt)
  have DA : Hid (Copied w08 wA m H8 L' K' X') := D9.out.below hbA
  have SA : Hid (wA.rowIs B8 61 m (fun i => .slice (some ⟨H8 i, 0, none⟩) (L' i) (L' i))) := S9.out.of_block (hbA.block _ S9.out.lt)
  have EA : Hid (Below w5.heap.size w5 wA) := grw E9.out hbA
  have HBA : Hid (Below w.heap.size w wA) := grw HB5.out EA.out
  have GA : Hid (wA.heap[w.heap.size]? = some (.cells #[.int .i64 u.k, .int .i64 u.n, .string u.s, .int .i64 u.a, .slice ta n cp] 26 (0, 0))) := blkB G5.out EA.out
  have JA : Hid (wA.heap[w.heap.size + 1]? = some (.cells #[.int .i64 u'.k, .int .i64 u'.n, .string u'.s, .int .i64 u'.a, .slice ta' m cp'] 26 (0, 0))) := blkB J5.out EA.out
  have YA : Hid (wA.heap[yb]? = some (.cells #[.int .i64 u.k, .int .i64 u.n, .string u.s, .int .i64 u.a, .slice (some ⟨B6, 0, none⟩) n n] 32 (0, 0))) := blkB Y9.out hbA
  have ZA : Hid (wA.heap[zb]? = some (.cells #[.int .i64 u'.k, .int .i64 u'.n, .string u'.s, .int .i64 u'.a, .slice (some ⟨B8, 0, none⟩) m m] 32 (0, 0))) := blkB Z9.out hbA
  have HTA : Hid (TabsAt wA (some ⟨B6, 0, none⟩) n B6 0 (fun r => some ⟨H6 r, 0, none⟩) L L H6 (fun _ => 0) K X) := CA.out.tabs RA.out
  clear hba hba2 hbA HV7 C9 R9 D9 S9 E9 Y9 Z9
  obtain ⟨g0, g1, g2, g3, g4, _⟩ := cells5 GA.out
  obtain ⟨x0, x1, x2, x3, x4, _⟩ := cells5 YA.out
  have hto := toGraph_any u ta n cp TB TO A L C RB RO K X wA.drew hn1 HSm (HT.out.below HBA.out.drew)
  go_wp2
  go_region_held3 (fun w' => (w'.cell? ⟨yb, 0, none⟩ = some (.int .i64 u.k) ∧ w'.cell? ⟨yb, 1, none⟩ = some (.int .i64 u.n) ∧ w'.cell? ⟨yb, 2, none⟩ = some (.string u.s) ∧ w'.cell? ⟨yb, 3, none⟩ = some (.int .i64 u.a) ∧ w'.cell? ⟨yb, 4, none⟩ = some (.slice (some ⟨B6, 0, none⟩) n n)) ∧ (w'.cell? ⟨w.heap.size, 0, none⟩ = some (.int .i64 u.k) ∧ w'.cell? ⟨w.heap.size, 1, none⟩ = some (.int .i64 u.n) ∧ w'.cell? ⟨w.heap.size, 2, none⟩ = some (.string u.s) ∧ w'.cell? ⟨w.heap.size, 3, none⟩ = some (.int .i64 u.a) ∧ w'.cell? ⟨w.heap.size, 4, none⟩ = some (.slice ta n cp)) ∧ Hid (Below w.heap.size w w'))
    (first | exact keep55 ‹_ ∧ _› hbD | exact keep55 ‹_ ∧ _› hbC | exact ⟨⟨x0, x1, x2, x3, x4⟩, ⟨g0, g1, g2, g3, g4⟩, HBA.out.drew⟩)
    (first
      | (go_at_call 13; refine hto.mono ?_; rintro e wC ⟨⟨BC, rfl, _, w0C, HC, _, hCC, hRC⟩, hbC⟩)
      | (go_at_call 15; refine (eqGraph_same u (some ⟨B6, 0, none⟩) (some ⟨BC, 0, none⟩) n n n B6 0 BC 0 _ _ L _ _ _ _ _ _ K X _ hn1 HSm ((HTA.out.below ((Below.refl _ _).drew)).below hbC) (hCC.tabs hRC)).mono ?_; rintro e wD ⟨rfl, hbD⟩))
  rename_i hS
  clear hS hCC hRC g0 g1 g2 g3 g4 x0 x1 x2 x3 x4 hto HTA GA
  have hbAD : Below wA.heap.size wA wD := (((Below.refl _ _).drew (w := wA)).trans (show Below wA.heap.size wA.drew wC from hbC)).trans (hbD.mono hbC.size)
  have VD : Hid (ARow wD w9.heap.size pa7 r7 cap7 f7 ans) := VA.out.below hbAD
  have CD : Hid (Copied w06 wD n H6 L K X) := CA.out.below hbAD
  have RD : Hid (wD.rowIs B6 61 n (fun i => .slice (some ⟨H6 i, 0, none⟩) (L i) (L i))) := RA.out.of_block (hbAD.block _ RA.out.lt)
  have DD : Hid (Copied w08 wD m H8 L' K' X') := DA.out.below hbAD
  have SD : Hid (wD.rowIs B8 61 m (fun i => .slice (some ⟨H8 i, 0, none⟩) (L' i) (L' i))) := SA.out.of_block (hbAD.block _ SA.out.lt)
  have ED : Hid (Below w5.heap.size w5 wD) := grw EA.out hbAD
  have HBD : Hid (Below w.heap.size w wD) := grw HBA.out hbAD
  have JD : Hid (wD.heap[w.heap.size + 1]? = some (.cells #[.int .i64 u'.k, .int .i64 u'.n, .string u'.s, .int .i64 u'.a, .slice ta' m cp'] 26 (0, 0))) := blkB JA.out hbAD
  have YD : Hid (wD.heap[yb]? = some (.cells #[.int .i64 u.k, .int .i64 u.n, .string u.s, .int .i64 u.a, .slice (some ⟨B6, 0, none⟩) n n] 32 (0, 0))) := blkB YA.out hbAD
  have ZD : Hid (wD.heap[zb]? = some (.cells #[.int .i64 u'.k, .int .i64 u'.n, .string u'.s, .int .i64 u'.a, .slice (some ⟨B8, 0, none⟩) m m] 32 (0, 0))) := blkB ZA.out hbAD
  have HTD : Hid (TabsAt wD (some ⟨B8, 0, none⟩) m B8 0 (fun r => some ⟨H8 r, 0, none⟩) L' L' H8 (fun _ => 0) K' X') := DD.out.tabs SD.out
  clear hbAD hbC hbD HBA JA YA ZA VA CA RA DA SA EA
  obtain ⟨g0, g1, g2, g3, g4, _⟩ := cells5 JD.out
  obtain ⟨x0, x1, x2, x3, x4, _⟩ := cells5 ZD.out
  have hto := toGraph_any u' ta' m cp' TB' TO' A' L' C' RB' RO' K' X' wD.drew hm1 HSm' (HT'.out.below HBD.out.drew)
  go_wp2
  go_region_held3 (fun w' => (w'.cell? ⟨zb, 0, none⟩ = some (.int .i64 u'.k) ∧ w'.cell? ⟨zb, 1, none⟩ = some (.int .i64 u'.n) ∧ w'.cell? ⟨zb, 2, none⟩ = some (.string u'.s) ∧ w'.cell? ⟨zb, 3, none⟩ = some (.int .i64 u'.a) ∧ w'.cell? ⟨zb, 4, none⟩ = some (.slice (some ⟨B8, 0, none⟩) m m)) ∧ (w'.cell? ⟨w.heap.size + 1, 0, none⟩ = some (.int .i64 u'.k) ∧ w'.cell? ⟨w.heap.size + 1, 1, none⟩ = some (.int .i64 u'.n) ∧ w'.cell? ⟨w.heap.size + 1, 2, none⟩ = some (.string u'.s) ∧ w'.cell? ⟨w.heap.size + 1, 3, none⟩ = some (.int .i64 u'.a) ∧ w'.cell? ⟨w.heap.size + 1, 4, none⟩ = some (.slice ta' m cp')) ∧ Hid (Below w.heap.size w w'))
    (first | exact keep55 ‹_ ∧ _› hbF | exact keep55 ‹_ ∧ _› hbE | exact ⟨⟨x0, x1, x2, x3, x4⟩, ⟨g0, g1, g2, g3, g4⟩, HBD.out.drew⟩)
    (first
      | (go_at_call 13; refine hto.mono ?_; rintro e wE ⟨⟨BE, rfl, _, w0E, HE, _, hCE, hRE⟩, hbE⟩)
      | (go_at_call 15; refine (eqGraph_same u' (some ⟨B8, 0, none⟩) (some ⟨BE, 0, none⟩) m m m B8 0 BE 0 _ _ L' _ _ _ _ _ _ K' X' _ hm1 HSm' ((HTD.out.below ((Below.refl _ _).drew)).below hbE) (hCE.tabs hRE)).mono ?_; rintro e wF ⟨rfl, hbF⟩))
  rename_i hS
  clear hS hCE hRE g0 g1 g2 g3 g4 x0 x1 x2 x3 x4 hto HTD JD
  have hbDF : Below wD.heap.size wD wF := (((Below.refl _ _).drew (w := wD)).trans (show Below wD.heap.size wD.drew wE from hbE)).trans (hbF.mono hbE.size)
  have VF : Hid (ARow wF w9.heap.size pa7 r7 cap7 f7 ans) := VD.out.below hbDF
  have CF : Hid (Copied w06 wF n H6 L K X) := CD.out.below hbDF
  have RF : Hid (wF.rowIs B6 61 n (fun i => .slice (some ⟨H6 i, 0, none⟩) (L i) (L i))) := RD.out.of_block (hbDF.block _ RD.out.lt)
  have DF : Hid (Copied w08 wF m H8 L' K' X') := DD.out.below hbDF
  have SF : Hid (wF.rowIs B8 61 m (fun i => .slice (some ⟨H8 i, 0, none⟩) (L' i) (L' i))) := SD.out.of_block (hbDF.block _ SD.out.lt)
  have EF : Hid (Below w5.heap.size w5 wF) := grw ED.out hbDF
  have YF : Hid (wF.heap[yb]? = some (.cells #[.int .i64 u.k, .int .i64 u.n, .string u.s, .int .i64 u.a, .slice (some ⟨B6, 0, none⟩) n n] 32 (0, 0))) := blkB YD.out hbDF
  have ZF : Hid (wF.heap[zb]? = some (.cells #[.int .i64 u'.k, .int .i64 u'.n, .string u'.s, .int .i64 u'.a, .slice (some ⟨B8, 0, none⟩) m m] 32 (0, 0))) := blkB ZD.out hbDF
  clear hbDF hbE hbF HBD YD ZD VD CD RD DD SD ED
  have HLn : Hid (∀ r, r < n → L r ≤ 1048576) := show ∀ r, _ from fun r hr => (HSm.out r hr).1
  have HLm : Hid (∀ r, r < m → L' r ≤ 1048576) := show ∀ r, _ from fun r hr => (HSm'.out r hr).1
  obtain ⟨f6, hM6⟩ := CF.out.marks HW06.out RF.out
  obtain ⟨f8, hM8⟩ := DF.out.marks HW08.out SF.out
  have HM8 : Hid _ := hM8
  have hmk := markGraph_any u (some ⟨B6, 0, none⟩) n n B6 1 _ L _ _ _ _ wF hn1 HLn (by omega) (by omega) hM6
  obtain ⟨kx, hkx⟩ : ∃ kx, koff 1 L n = kx := ⟨_, rfl⟩
  have hkx1 : kx ≤ 1 + n * (1048576 * 8) := by rw [← hkx]; exact koff_le HLn.out n (Nat.le_refl _)
  have hkx0 : 0 < kx := by rw [← hkx]; exact koff_pos (by omega) n
  have hkx2 : kx ≤ 17592186044416 := by omega
  rw [hkx] at hmk
  obtain ⟨x0, x1, x2, x3, x4, _⟩ := cells5 YF.out
  clear hkx hM6 hM8 hkx1
  go_wp2_with fail
  refine hmk.mono ?_
  clear hmk x0 x1 x2 x3 x4
  rintro e wG ⟨rfl, _, hoG⟩
  have HOG : Hid _ := hoG
  have VG : Hid (ARow wG w9.heap.size pa7 r7 cap7 f7 ans) := VF.out.only hoG (fun h ⟨j, hj, e, _⟩ => by have := HN6.out j hj; have := VF.out.lo h; have := HS79.out; omega)
  have W5G : Hid (ARow wG w4.heap.size pa5 r5 cap5 f5 ans) := (HV5.out.below EF.out).only hoG (fun h ⟨j, hj, e, _⟩ => by have := HN6.out j hj; have := HL5.out h; omega)
  have EG : Hid (Below w5.heap.size w5 wG) := EF.out.trans (hoG.toBelow (fun k ⟨j, hj, e, _⟩ => by have := HN6.out j hj; omega) EF.out.size)
  have ZG : Hid (wG.heap[zb]? = some (.cells #[.int .i64 u'.k, .int .i64 u'.n, .string u'.s, .int .i64 u'.a, .slice (some ⟨B8, 0, none⟩) m m] 32 (0, 0))) := (hoG.block _ (blk_lt ZF.out) (fun ⟨j, hj, e, _⟩ => by have := HN6.out j hj; have := HZ7.out; omega)).trans ZF.out
  have hMG := HM8.out.onlyM hoG (fun ⟨j, hj, e, _⟩ => by have := HN6.out j hj; have := HN8.out.1; omega) (fun r hr ⟨j, hj, e, _⟩ => by have := HN6.out j hj; have := HN8.out.2 r hr; omega)
  clear hoG HOG VF EF YF ZF CF RF DF SF HM8
  have hmk := markGraph_any u' (some ⟨B8, 0, none⟩) m m B8 kx _ L' _ _ _ _ wG hm1 HLm hkx0 hkx2 hMG
  obtain ⟨ky, hky⟩ : ∃ ky, koff kx L' m = ky := ⟨_, rfl⟩
  rw [hky] at hmk
  obtain ⟨x0, x1, x2, x3, x4, _⟩ := cells5 ZG.out
  clear hky hMG
  go_wp2_with fail
  refine hmk.mono ?_
  clear hmk x0 x1 x2 x3 x4
  rintro e wH ⟨rfl, _, hoH⟩
  have VH : Hid (ARow wH w9.heap.size pa7 r7 cap7 f7 ans) := VG.out.only hoH (fun h ⟨j, hj, e, _⟩ => by have := HN8.out.2 j hj; have := VG.out.lo h; omega)
  have W5H : Hid (ARow wH w4.heap.size pa5 r5 cap5 f5 ans) := W5G.out.only hoH (fun h ⟨j, hj, e, _⟩ => by have := HN8.out.2 j hj; have := HL5.out h; have := HN57.out; omega)
  have EH : Hid (Below w5.heap.size w5 wH) := EG.out.trans (hoH.toBelow (fun k ⟨j, hj, e, _⟩ => by have := HN8.out.2 j hj; have := HN57.out; omega) EG.out.size)
  clear hoH VG W5G EG ZG
  have hk0 : ¬ ((ky : Int) < 0) := by omega
  have heq := eqValS_same pa7 pa5 ans.length pc7 pc5 r7 0 r5 0 (lsF ans) wH (by omega) VH.out.val W5H.out.val
  go_wp2_with fail
  refine heq.mono ?_
  clear heq
  rintro e wI ⟨rfl, hbI⟩
  have VI : Hid (ARow wI w9.heap.size pa7 r7 cap7 f7 ans) := VH.out.below hbI
  have W5I : Hid (ARow wI w4.heap.size pa5 r5 cap5 f5 ans) := W5H.out.below hbI
  have EI : Hid (Below w5.heap.size w5 wI) := grw EH.out hbI
  clear hbI VH W5H EH
  have hmk := markValS_any pa7 ans.length pc7 r7 cap7 1 f7 wI (by omega) (by omega) (by omega) VI.out.top VI.out.fit VI.out.row
  go_wp2_with fail
  refine hmk.mono ?_
  clear hmk
  rintro e wJ ⟨rfl, hmJ, hoJ⟩
  have MJ : Hid (MvAt wJ r7 1 ans.length) := show MvAt _ _ _ _ from fun i hi => (hmJ (by omega)).at VI.out.fit i hi
  have W5J : Hid (ARow wJ w4.heap.size pa5 r5 cap5 f5 ans) := W5I.out.only hoJ (fun h ⟨e, _⟩ => by have := VI.out.lo h; have := HL5.out h; have := HN57.out; have := HS79.out; omega)
  have EJ : Hid (Below w5.heap.size w5 wJ) := EI.out.trans (hoJ.toBelow (fun k ⟨e, h⟩ => by have := VI.out.lo h; have := HN57.out; have := HS79.out; omega) EI.out.size)
  have HTop : Hid (0 < ans.length → pa7 = some ⟨r7, 0, none⟩) := VI.out.top
  clear hoJ hmJ VI W5I EI
  have hq0 : ¬ ((((1 + ans.length * 4 : Nat) : Int)) < 0) := by omega
  have hqm : ((((1 + ans.length * 4 : Nat) : Int)) != (((1 + ans.length * 4 : Nat) : Int))) = false := by simp
  obtain ⟨mm, hmm⟩ : ∃ mm, 1 + ans.length * 4 = mm := ⟨_, rfl⟩
  have hhd := heldValS_any pa7 ans.length pc7 r7 1 wJ (by omega) (by omega) (by omega) HTop.out MJ
  rw [hmm] at hhd hq0 hqm ⊢
  have HMM : Hid (1 + ans.length * 4 = mm) := hmm
  clear hmm
  go_wp2_with fail
  refine hhd.mono ?_
  clear hhd
  rintro e wK ⟨rfl, hbK⟩
  have MK : Hid (MvAt wK r7 1 ans.length) := MJ.out.below hbK
  have W5K : Hid (ARow wK w4.heap.size pa5 r5 cap5 f5 ans) := W5J.out.below hbK
  have EK : Hid (Below w5.heap.size w5 wK) := grw EJ.out hbK
  have HBK : Hid (Below w.heap.size w wK) := grw HB5.out EK.out
  have GK : Hid (wK.heap[w.heap.size]? = some (.cells #[.int .i64 u.k, .int .i64 u.n, .string u.s, .int .i64 u.a, .slice ta n cp] 26 (0, 0))) := blkB G5.out EK.out
  have JK : Hid (wK.heap[w.heap.size + 1]? = some (.cells #[.int .i64 u'.k, .int .i64 u'.n, .string u'.s, .int .i64 u'.a, .slice ta' m cp'] 26 (0, 0))) := blkB J5.out EK.out
  clear hbK MJ W5J EJ
  obtain ⟨g0, g1, g2, g3, g4, _⟩ := cells5 GK.out
  obtain ⟨x0, x1, x2, x3, x4, _⟩ := cells5 JK.out
  have HGc : Hid (∀ w', Below wK.heap.size wK w' → w'.cell? ⟨w.heap.size, 0, none⟩ = some (.int .i64 u.k) ∧ w'.cell? ⟨w.heap.size, 1, none⟩ = some (.int .i64 u.n) ∧ w'.cell? ⟨w.heap.size, 2, none⟩ = some (.string u.s) ∧ w'.cell? ⟨w.heap.size, 3, none⟩ = some (.int .i64 u.a) ∧ w'.cell? ⟨w.heap.size, 4, none⟩ = some (.slice ta n cp)) := show ∀ _, _ from fun w' hb => ⟨cellB g0 w' hb, cellB g1 w' hb, cellB g2 w' hb, cellB g3 w' hb, cellB g4 w' hb⟩
  have HXc : Hid (∀ w', Below wK.heap.size wK w' → w'.cell? ⟨w.heap.size + 1, 0, none⟩ = some (.int .i64 u'.k) ∧ w'.cell? ⟨w.heap.size + 1, 1, none⟩ = some (.int .i64 u'.n) ∧ w'.cell? ⟨w.heap.size + 1, 2, none⟩ = some (.string u'.s) ∧ w'.cell? ⟨w.heap.size + 1, 3, none⟩ = some (.int .i64 u'.a) ∧ w'.cell? ⟨w.heap.size + 1, 4, none⟩ = some (.slice ta' m cp')) := show ∀ _, _ from fun w' hb => ⟨cellB x0 w' hb, cellB x1 w' hb, cellB x2 w' hb, cellB x3 w' hb, cellB x4 w' hb⟩
  clear g0 g1 g2 g3 g4 x0 x1 x2 x3 x4
  have hto := toGraph_any u ta n cp TB TO A L C RB RO K X wK.drew hn1 HSm (HT.out.below (HBK.out.drew))
  go_wp2
  refine wp_region_held_drew (S := fun x => Below wK.heap.size wK x) (by kernel_rfl) (Below.refl _ _).drew (fun hHeld => ?_)
  refine wpAnyH_take (i := 0) (v := .agg #[.int .i64 u.k, .int .i64 u.n, .string u.s, .int .i64 u.a, .slice ta n cp]) rfl (by kernel_rfl) (by kernel_rfl) (by kernel_rfl) (fun _ _ _ h => h) (Or.inl ⟨by rfl, fun w hSw => ?_⟩) hHeld ?_
  · obtain ⟨q0, q1, q2, q3, q4⟩ := HGc.out w hSw; first | rfl | go_simp
  simp only [Act.put, List.setIfInBounds_toArray, List.set_cons_zero, List.set_cons_succ, List.getElem_toArray, List.getElem_cons_zero]
  refine wpAnyH_take (i := 2) (v := .agg #[.int .i64 u'.k, .int .i64 u'.n, .string u'.s, .int .i64 u'.a, .slice ta' m cp']) rfl (by kernel_rfl) (by kernel_rfl) (by kernel_rfl) (fun _ _ _ h => h) (Or.inl ⟨by rfl, fun w hSw => ?_⟩) hHeld ?_
  · obtain ⟨q0, q1, q2, q3, q4⟩ := HXc.out w hSw; first | rfl | go_simp
  simp only [Act.put, List.setIfInBounds_toArray, List.set_cons_zero, List.set_cons_succ, List.getElem_toArray, List.getElem_cons_zero, List.getElem_cons_succ]
  refine wpAnyH_ready (rs := [1]) (by kernel_rfl) (by simp) ?_
  refine AllReadyH.cons rfl (fun KK hK' => ?_) AllReadyH.nil
  have hcall := hto
  go_simp
  refine hcall.mono ?_
  clear hcall
  rintro e wL ⟨⟨BL, rfl, _, w0L, HL, _, hCL, hRL⟩, hbL⟩
  have hsL : Below wK.heap.size wK wL := grw hHeld hbL
  have HTL : Hid (TabsAt wL (some ⟨BL, 0, none⟩) n BL 0 (fun r => some ⟨HL r, 0, none⟩) L L HL (fun _ => 0) K X) := hCL.tabs hRL
  have HBwL : Hid (Below w.heap.size w wL) := grw HBK.out hsL
  clear hto hCL hRL hbL
  refine hK'.out _ _ hsL (fun hHeld => ?_)
  clear hK'
  refine wpAnyH_ready (rs := [3]) (by kernel_rfl) (by simp) ?_
  refine AllReadyH.cons rfl (fun KK hK' => ?_) AllReadyH.nil
  have hcall := toGraph_any u' ta' m cp' TB' TO' A' L' C' RB' RO' K' X' wL hm1 HSm' (HT'.out.below HBwL.out)
  go_simp
  refine hcall.mono ?_
  clear hcall
  rintro e wM ⟨⟨BM, rfl, _, w0M, HM, _, hCM, hRM⟩, hbM⟩
  have hsM : Below wK.heap.size wK wM := grw hHeld hbM
  have HTM : Hid (TabsAt wM (some ⟨BM, 0, none⟩) m BM 0 (fun r => some ⟨HM r, 0, none⟩) L' L' HM (fun _ => 0) K' X') := hCM.tabs hRM
  have HTLM : Hid (TabsAt wM (some ⟨BL, 0, none⟩) n BL 0 (fun r => some ⟨HL r, 0, none⟩) L L HL (fun _ => 0) K X) := HTL.out.below hbM
  clear hCM hRM hbM HTL hsL HBwL
  refine hK'.out _ _ hsM (fun hHeld => ?_)
  clear hK'
  refine wpAnyH_ready (rs := [4]) (by kernel_rfl) (by simp) ?_
  refine AllReadyH.cons rfl (fun KK hK' => ?_) AllReadyH.nil
  have hcall := implApart_any u u' (some ⟨BL, 0, none⟩) (some ⟨BM, 0, none⟩) n n BL 0 m m BM 0 _ _ L _ _ _ L' _ _ _ K X K' X' wM hn1 hm1 HSm HSm' HTLM HTM
  go_simp
  refine hcall.mono ?_
  clear hcall
  rintro e wN ⟨hres, hbN⟩
  have hsN : Below wK.heap.size wK wN := grw hHeld hbN
  obtain ⟨hvr, _⟩ := apI_res HFix.out hres
  obtain ⟨paN, pcN, rN, capN, fN, rfl, hvN⟩ := hvr.vrow
  have HVN : Hid (ValsAt wN paN ans.length rN 0 (lsF ans)) := hvN.val
  have MN : Hid (MvAt wN r7 1 ans.length) := MK.out.below hsN
  have W5N : Hid (ARow wN w4.heap.size pa5 r5 cap5 f5 ans) := W5K.out.below hsN
  have EN : Hid (Below w5.heap.size w5 wN) := grw EK.out hsN
  clear hres hbN HTLM HTM hsM hvr hvN
  refine hK'.out _ _ hsN (fun hHeld => ?_)
  clear hK'
  refine wpAnyH_take (i := 5) (v := .slice paN ans.length pcN) rfl (by kernel_rfl) (by kernel_rfl) (by kernel_rfl) (fun _ _ _ h => h) (Or.inl ⟨by rfl, fun w hSw => ?_⟩) hHeld ?_
  · first | rfl | go_simp
  simp only [Act.put, List.setIfInBounds_toArray, List.set_cons_zero, List.set_cons_succ, List.getElem_toArray, List.getElem_cons_zero, List.getElem_cons_succ]
  refine wpAnyH_done (by kernel_rfl) ?_ _
  clear hHeld hsN HGc HXc GK JK HBK MK W5K EK
  have heq := eqValS_same paN pa5 ans.length pcN pc5 rN 0 r5 0 (lsF ans) wN (by omega) HVN W5N.out.val
  go_wp2_with fail
  refine heq.mono ?_
  clear heq
  rintro e wO ⟨rfl, hbO⟩
  have MO : Hid (MvAt wO r7 1 ans.length) := MN.out.below hbO
  have EO : Hid (Below w5.heap.size w5 wO) := grw EN.out hbO
  clear hbO MN EN W5N HVN
  have hhd := heldValS_any pa7 ans.length pc7 r7 1 wO (by omega) (by omega) (by omega) HTop.out MO
  rw [HMM.out] at hhd
  go_wp2_with fail
  refine hhd.mono ?_
  clear hhd
  rintro e wP ⟨rfl, hbP⟩
  have HBP : Hid (Below w.heap.size w wP) := grw HB5.out (grw EO.out hbP)
  go_wp2
  go_ret
  exact ⟨rfl, HBP.out⟩

set_option maxHeartbeats 2000000 in
set_option maxRecDepth 100000 in
theorem apartLifted (os : Os) (started : os.Started) (H : Type) (enc : TypeId × Value → H) :
    ReturnsInHanded {} Try.checked os 10 .any (Rows.fnExactApartSpec.pre6 enc Try.prog Try.f10 Rows.fnExactApartRow.domain false) (Rows.fnExactApartSpec.post enc Try.prog Try.f10 false true false false) := by
  refine returnsInHanded_of_change (C := Try.checked) ownG started (by kernel_rfl) Try.func10
    (ChangeSpec.witness6 (enc := enc) (C := Try.checked) false ⟨#[], #[.agg #[.int .i64 0, .int .i64 0, .string ⟨#[]⟩, .int .i64 0, .slice none 0 0], .agg #[.int .i64 0, .int .i64 0, .string ⟨#[]⟩, .int .i64 0, .slice none 0 0]], []⟩ 8 (by kernel_rfl) (by kernel_rfl) (by kernel_rfl) (by kernel_rfl)) ?_
  intro W base args ds gs before hval0 hW hcnd _
  have hval : ∀ (j : Nat) t v, Try.f10.params[j]? = some t → args[j]? = some v → Value.okWide Try.prog W .any base t v := hval0
  have hW' := hW
  obtain ⟨p, q, hA0, hV, rfl, hfz, hnd⟩ := hW
  have hA : DataW.TrodAll enc Try.prog W 0 (fun _ => true) true Try.f10.params.toList args.toList ds p := hA0
  rw [Try.params10] at hA hval
  obtain ⟨v0, vs0, d0, ds0, p0, q0, hargs, rfl, rfl, h0, r0⟩ := trodAll_cons hA
  obtain ⟨v1, vs1, d1, ds1, p1, q1, hargs1, rfl, rfl, h1, r1⟩ := trodAll_cons r0
  obtain ⟨rfl, rfl, rfl⟩ := trodAll_nil r1
  subst hargs1
  obtain rfl : args = #[v0, v1] := by cases args; simp_all
  obtain ⟨rfl, rfl⟩ := trodVars_none hV
  have k0 := h0
  have k1 := h1
  have lt0 : ∀ x ∈ p0, x.block < W.heap.size := by obtain ⟨m, hm⟩ := k0; exact DataW.trod_lt m _ _ _ hm
  have lt1 : ∀ x ∈ p1, x.block < W.heap.size := by obtain ⟨m, hm⟩ := k1; exact DataW.trod_lt m _ _ _ hm
  obtain ⟨u, ta, n, cp, TB, TO, A, L, C, RB, RO, K, X, rfl, hu, hn, hT, hS⟩ := opens_graph (hval 0 26 v0 rfl rfl) h0
  obtain ⟨u', ta', m, cp', TB', TO', A', L', C', RB', RO', K', X', rfl, hu', hm, hT', hS'⟩ := opens_graph (hval 1 26 v1 rfl rfl) h1
  clear hA0 hval0
  refine (apartLaw u u' ta ta' n cp TB TO m cp' TB' TO' A A' L C RB RO L' C' RB' RO' K X K' X' W hu hn hu' hm hS hT hS' hT').mono fun e W' ⟨he, bel⟩ => ?_
  subst he
  exact ⟨_, rfl, _, _, _, [], _, [], hW', trodAll_mk1 (shut_bool Try.underlying4 _), (trodAll_cons_mk (Below.trod laidOutG (by kernel_rfl) (of_decide_eq_true (by kernel_rfl)) k0 bel lt0) (trodAll_cons_mk (Below.trod laidOutG (by kernel_rfl) (of_decide_eq_true (by kernel_rfl)) k1 bel lt1) trodAll_mk0)), rfl, bel.frame _, fun h => by cases h⟩

theorem apart_holds : Rows.FnExactApartSaid :=
  OpenClaim.holds_of_wide 10 Try.f10 rfl rfl rfl rfl rfl rfl rfl ⟨rfl, rfl, rfl, rfl, rfl⟩ rfl rfl rfl rfl rfl (by kernel_rfl) Try.func10 (by kernel_rfl)
    (of_decide_eq_true (by kernel_rfl)) (by unfold Func.isWrapper; first | (rw [if_pos (by decide +kernel)]; kernel_rfl) | (rw [if_neg (by decide +kernel)]; exact ⟨rfl, rfl⟩))
    (fun os started H enc _ => apartLifted os started H enc)
#print axioms apart_holds

end Go.Proofs.Ytgflalfiopnmnab
