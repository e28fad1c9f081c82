import Derived.Test.YtgflalfiopnmnaaGreatDoorR10
import Derived.Test.YtgflalfiopnmnaaGreatDoorR8
import Derived.Test.YtgflalfiopnmnaaGreatDoorR3
import Derived.Test.YtgflalfiopnmnaaGreatDoorR1
namespace Go.Proofs.YtgflalfiopnmnaaGreatDoor
open Go.RowKit Vl

set_option maxHeartbeats 4000000 in
set_option maxRecDepth 100000 in
/-- 'impl.Same'. -/
theorem implSame_any (u u' : V) (ta ta' : Option Addr) (n cp TB TO m cp' TB' TO' : Nat) (A A' : Nat → Option Addr) (L C RB RO L' C' RB' RO' : Nat → Nat) (K X K' X' : Nat → Nat → V) (w : World) (hn : n ≤ 1048576) (hm : m ≤ 1048576) (HS : Hid (Small 1048576 n L K X)) (HS' : Hid (Small 1048576 m L' K' X')) (HT : Hid (TabsAt w ta n TB TO A L C RB RO K X)) (HT' : Hid (TabsAt w ta' m TB' TO' A' L' C' RB' RO' K' X')) :
    Calls Tryz.prog 14 #[.agg #[.int .i64 u.k, .int .i64 u.n, .string u.s, .int .i64 u.a, .slice ta n cp], .agg #[.int .i64 u'.k, .int .i64 u'.n, .string u'.s, .int .i64 u'.a, .slice ta' m cp']] w fun e w' => SameRes e n m u u' L L' K X K' X' ∧ Below w.heap.size w w' := by
  have A3 := alloc3 w (.cells #[.int .i64 u.k, .int .i64 u.n, .string u.s, .int .i64 u.a, .slice ta n cp] 27) (.cells #[.int .i64 u'.k, .int .i64 u'.n, .string u'.s, .int .i64 u'.a, .slice ta' m cp'] 27) (.cells #[.int .i64 u.k, .int .i64 u.n, .string u.s, .int .i64 u.a, .slice ta n cp, .int .i64 u'.k, .int .i64 u'.n, .string u'.s, .int .i64 u'.a, .slice ta' m cp'] 27)
  obtain ⟨w0, hw0⟩ : ∃ w0, w0 = ((w.alloc (.cells #[.int .i64 u.k, .int .i64 u.n, .string u.s, .int .i64 u.a, .slice ta n cp] 27)).alloc (.cells #[.int .i64 u'.k, .int .i64 u'.n, .string u'.s, .int .i64 u'.a, .slice ta' m cp'] 27)).alloc (.cells #[.int .i64 u.k, .int .i64 u.n, .string u.s, .int .i64 u.a, .slice ta n cp, .int .i64 u'.k, .int .i64 u'.n, .string u'.s, .int .i64 u'.a, .slice ta' m cp'] 27) := ⟨_, rfl⟩
  rw [← hw0] at A3
  have HB0 : Hid (Below w.heap.size w w0) := A3.2.2.2.2
  have hblk := A3.2.2.1
  obtain ⟨G, HGd⟩ : ∃ G : GrS, Hid (G = ⟨two u u', two n m, two L L', two K K', two X X'⟩) := ⟨_, rfl⟩
  have HGs : Hid (GsAt w0 2 (w.heap.size + 2) G (two ta ta') (two cp cp') (two TB TB') (two TO TO') (two A A') (two C C') (two RB RB') (two RO RO')) := by
    rw [HGd.out]
    refine ⟨fun q hq => ?_, fun q hq => ?_, fun q hq => ?_, fun q hq => ?_, fun q hq => ?_, fun q hq => ?_, fun q hq => ?_⟩ <;> rcases (show q = 0 ∨ q = 1 by omega) with rfl | rfl
    iterate 10 (simp [two, World.cell?, hblk])
    · exact ⟨hn, HS.out⟩
    · exact ⟨hm, HS'.out⟩
    · exact HT.out.below HB0.out
    · exact HT'.out.below HB0.out
  have hcf := classify_any 2 (by omega) (by omega) (w.heap.size + 2) G _ _ _ _ _ _ _ _ w0 HGs
  have hoff : G.off 2 = n + m := by rw [HGd.out]; simp [GrS.off, two]
  clear A3 hblk
  go_enter Tryz.func14, Tryz.ntmps14
  go_wp2_with fail
  rw [← hw0]
  refine hcf.mono ?_
  clear hcf hw0
  rintro e w1 ⟨hcase, hb1⟩
  have HB1 : Hid (Below w.heap.size w w1) := grw HB0.out hb1
  rcases hcase with ⟨T, M, Lc, Kc, Xc, ls, f, rv, tv, cb, rfl, hd⟩ | ⟨⟨q, hq, hno⟩, rfl⟩
  · have hok0 : OkG n u L K X := by have := hd.cmb.ok 0 (by omega); rw [HGd.out] at this; exact this
    have hok1 : OkG m u' L' K' X' := by have := hd.cmb.ok 1 (by omega); rw [HGd.out] at this; exact this
    have e0 : sh (G.off 0) (G.U 0) = u := by rw [HGd.out]; exact sh_zero u
    have e1 : sh (G.off 1) (G.U 1) = sh n u' := by rw [HGd.out]; simp [GrS.off, two]
    obtain ⟨rb, rc, rfl, hr0⟩ := owns_cell hd.roots (k := 0) (y := ifv T (sh (G.off 0) (G.U 0))) (by simp)
    obtain ⟨rb', rc', e', hr1⟩ := owns_cell hd.roots (k := 1) (y := ifv T (sh (G.off 1) (G.U 1))) (by simp)
    cases e'
    obtain ⟨va, vc, rfl, _⟩ := owns_form hd.tabs
    rw [e0] at hr0
    rw [e1] at hr1
    have hN : G.off 2 ≤ 400 := by have := hok0.len; have := hok1.len; omega
    have hx : isV (G.off 2) u = true := by rw [hoff]; exact isV_more hok0.root
    have hy : isV (G.off 2) (sh n u') = true := by rw [hoff]; exact sh_isV hok1.root
    have HR : Hid (∀ b, b = alike T (fstV f u) (fstV f (sh n u')) → SameRes (.returned (.bool b)) n m u u' L L' K X K' X') := show ∀ b, _ from fun b hb => by
      subst hb
      refine Or.inl ⟨⟨hok0, hok1⟩, f, ?_, by rw [alike_fst hd.tbs.inj hd.is.low hx hy]⟩
      have h2 := hd.srt
      have h3 := hd.is
      have t0 := hd.cmb.tab 0 (by omega)
      have t1 := hd.cmb.tab 1 (by omega)
      rw [HGd.out] at t0 t1
      rw [hoff] at h2 h3
      simp only [GrS.off, two, Nat.zero_add, sh_zero, if_true, Nat.one_ne_zero, if_false] at t0 t1
      have hL : ∀ j, j < n + m → Lc j = jn n L L' j := fun j hj => by
        by_cases e : j < n
        · rw [jn_lt e]; exact (t0 j e).1
        · rw [jn_ge e]; have := (t1 (j - n) (by omega)).1; rw [show n + (j - n) = j by omega] at this; exact this
      have hK : ∀ j, j < n + m → Kc j = jn n K K' j := fun j hj => by
        by_cases e : j < n
        · rw [jn_lt e]; exact (t0 j e).2.1
        · rw [jn_ge e]; have := (t1 (j - n) (by omega)).2.1; rw [show n + (j - n) = j by omega] at this; exact this
      have hX : ∀ j, j < n + m → Xc j = jn n X (fun j c => sh n (X' j c)) j := fun j hj => by
        by_cases e : j < n
        · rw [jn_lt e]; exact funext (t0 j e).2.2
        · rw [jn_ge e]; have := funext (t1 (j - n) (by omega)).2.2; rw [show n + (j - n) = j by omega] at this; exact this
      exact ⟨ls, fun r hr => by rw [← hK r hr, ← hL r hr]; exact h2 r hr, h3.agree hL (fun j hj => by unfold sK; rw [hK j hj]) (fun j hj => by unfold sK; rw [hX j hj])⟩
    obtain ⟨w2, hw2⟩ : ∃ w2, w2 = w1.alloc (.cells #[.slice (some ⟨rb, 0, none⟩) 2 rc, .slice va (G.off 2) vc, .slice (some ⟨cb, 0, none⟩) (G.off 2) (G.off 2)] 95) := ⟨_, rfl⟩
    have hb2 : Below w1.heap.size w1 w2 := by rw [hw2]; exact (Below.refl _ _).alloc (Nat.le_refl _) _
    have HB2 : Hid (Below w.heap.size w w2) := grw HB1.out hb2
    have H2 : w2.heap[w1.heap.size]? = some (.cells #[.slice (some ⟨rb, 0, none⟩) 2 rc, .slice va (G.off 2) vc, .slice (some ⟨cb, 0, none⟩) (G.off 2) (G.off 2)] 95 (0, 0)) := by rw [hw2]; exact heap_alloc_new _ _
    obtain ⟨cc, hcc⟩ : ∃ cc, w1.heap.size = cc := ⟨_, rfl⟩
    rw [hcc] at H2
    obtain ⟨c0, c1, c2, _⟩ := three_at H2
    have HF1 : Hid (∀ w', Below w2.heap.size w2 w' → Calls Tryz.prog 36 #[.agg #[.slice (some ⟨rb, 0, none⟩) 2 rc, .slice va (G.off 2) vc, .slice (some ⟨cb, 0, none⟩) (G.off 2) (G.off 2)], ifv T u] w' fun e w'' => e = .returned (ifv T (fstV f u)) ∧ Below w'.heap.size w' w'') := show ∀ _, _ from fun w' hb => hd.first hN u w' hx (grw hb2 hb)
    have HF2 : Hid (∀ w', Below w2.heap.size w2 w' → Calls Tryz.prog 36 #[.agg #[.slice (some ⟨rb, 0, none⟩) 2 rc, .slice va (G.off 2) vc, .slice (some ⟨cb, 0, none⟩) (G.off 2) (G.off 2)], ifv T (sh n u')] w' fun e w'' => e = .returned (ifv T (fstV f (sh n u'))) ∧ Below w'.heap.size w' w'') := show ∀ _, _ from fun w' hb => hd.first hN (sh n u') w' hy (grw hb2 hb)
    have HEQ : Hid (∀ w', Below w2.heap.size w2 w' → (binOp .eql 54 (ifv T (fstV f u)) (ifv T (fstV f (sh n u')))).run Tryz.prog w' = .ok (.bool (alike T (fstV f u) (fstV f (sh n u')))) w') := show ∀ _, _ from fun w' hb => eql_ifv T (fstV_isV hd.is.low hx) (fstV_isV hd.is.low hy) w' (fun j hj => by
      obtain ⟨ord, a1, _⟩ := hd.tbs.tab j hj
      unfold TabB at a1
      exact ⟨_, _, ((grw hb2 hb).block _ (blk_lt a1)).trans a1⟩)
    have r0 : w2.cell? ⟨rb, 0, none⟩ = some (ifv T u) := (hb2.cell (World.block_lt_of_cell? _ _ hr0)).trans hr0
    have r1 : w2.cell? ⟨rb, 1, none⟩ = some (ifv T (sh n u')) := (hb2.cell (World.block_lt_of_cell? _ _ hr1)).trans hr1
    obtain ⟨bq, hbq⟩ : ∃ bq, alike T (fstV f u) (fstV f (sh n u')) = bq := ⟨_, rfl⟩
    rw [hbq] at HEQ HR
    obtain ⟨ut, uy, hxv⟩ := ifv_form T u
    obtain ⟨vt, vy, hyv⟩ := ifv_form T (sh n u')
    obtain ⟨pt, py, hpv⟩ := ifv_form T (fstV f u)
    obtain ⟨st, sy, hsv⟩ := ifv_form T (fstV f (sh n u'))
    rw [hxv] at r0 HF1
    rw [hyv] at r1 HF2
    rw [hpv] at HF1 HEQ
    rw [hsv] at HF2 HEQ
    replace c0 := cellB c0
    replace c1 := cellB c1
    replace c2 := cellB c2
    replace r0 := cellB r0
    replace r1 := cellB r1
    obtain ⟨NN, hNN⟩ : ∃ NN, G.off 2 = NN := ⟨_, rfl⟩
    rw [hNN] at c1 c2 HF1 HF2 hw2 ⊢
    clear hd hr0 hr1 e0 e1 hN hx hy hb2 hxv hyv hpv hsv hbq H2 hok0 hok1 hoff hNN HGs HGd hb1
    go_wp2
    try rw [hcc] at hw2
    try rw [hcc]
    rw [← hw2]
    clear hw2 hcc
    refine wp_region_held_drew (S := fun x => Below w2.heap.size w2 x) (by kernel_rfl) (Below.refl _ _).drew (fun hHeld => ?_)
    refine wpAnyH_take (i := 0) (v := .bool true) rfl (by kernel_rfl) (by kernel_rfl) (by kernel_rfl) (fun _ _ _ h => h) (Or.inl ⟨by rfl, fun w hSw => ?_⟩) hHeld ?_
    · first | rfl | go_simp
    simp only [Act.put, List.setIfInBounds_toArray, List.set_cons_zero, List.set_cons_succ, List.getElem_toArray, List.getElem_cons_zero]
    refine wpAnyH_take (i := 1) (v := .bool true) rfl (by kernel_rfl) (by kernel_rfl) (by kernel_rfl) (fun _ _ _ h => h) (Or.inl ⟨by rfl, fun w hSw => ?_⟩) hHeld ?_
    · first | rfl | go_simp
    simp only [Act.put, List.setIfInBounds_toArray, List.set_cons_zero, List.set_cons_succ, List.getElem_toArray, List.getElem_cons_zero, List.getElem_cons_succ]
    refine wpAnyH_take (i := 2) (v := .agg #[.slice (some ⟨rb, 0, none⟩) 2 rc, .slice va NN vc, .slice (some ⟨cb, 0, none⟩) NN NN]) rfl (by kernel_rfl) (by kernel_rfl) (by kernel_rfl) (fun _ _ _ h => h) (Or.inl ⟨by rfl, fun w hSw => ?_⟩) hHeld ?_
    · have q0 := c0 w hSw; have q1 := c1 w hSw; have q2 := c2 w hSw; first | rfl | go_simp
    simp only [Act.put, List.setIfInBounds_toArray, List.set_cons_zero, List.set_cons_succ, List.getElem_toArray, List.getElem_cons_zero, List.getElem_cons_succ]
    refine wpAnyH_take (i := 3) (v := .pointer (some ⟨cc, 0, none⟩)) rfl (by kernel_rfl) (by kernel_rfl) (by kernel_rfl) (fun _ _ _ h => h) (Or.inl ⟨by rfl, fun w hSw => ?_⟩) hHeld ?_
    · first | rfl | go_simp
    simp only [Act.put, List.setIfInBounds_toArray, List.set_cons_zero, List.set_cons_succ, List.getElem_toArray, List.getElem_cons_zero, List.getElem_cons_succ]
    refine wpAnyH_take (i := 4) (v := .slice (some ⟨rb, 0, none⟩) 2 rc) rfl (by kernel_rfl) (by kernel_rfl) (by kernel_rfl) (fun _ _ _ h => h) (Or.inl ⟨by rfl, fun w hSw => ?_⟩) hHeld ?_
    · have q0 := c0 w hSw; first | rfl | go_simp
    simp only [Act.put, List.setIfInBounds_toArray, List.set_cons_zero, List.set_cons_succ, List.getElem_toArray, List.getElem_cons_zero, List.getElem_cons_succ]
    refine wpAnyH_take (i := 5) (v := .pointer (some ⟨rb, 0, none⟩)) rfl (by kernel_rfl) (by kernel_rfl) (by kernel_rfl) (fun _ _ _ h => h) (Or.inl ⟨by rfl, fun w hSw => ?_⟩) hHeld ?_
    · first | rfl | go_simp
    simp only [Act.put, List.setIfInBounds_toArray, List.set_cons_zero, List.set_cons_succ, List.getElem_toArray, List.getElem_cons_zero, List.getElem_cons_succ]
    refine wpAnyH_take (i := 6) (v := .iface ut uy) rfl (by kernel_rfl) (by kernel_rfl) (by kernel_rfl) (fun _ _ _ h => h) (Or.inl ⟨by rfl, fun w hSw => ?_⟩) hHeld ?_
    · have q0 := r0 w hSw; first | rfl | go_simp
    simp only [Act.put, List.setIfInBounds_toArray, List.set_cons_zero, List.set_cons_succ, List.getElem_toArray, List.getElem_cons_zero, List.getElem_cons_succ]
    refine wpAnyH_take (i := 8) (v := .agg #[.slice (some ⟨rb, 0, none⟩) 2 rc, .slice va NN vc, .slice (some ⟨cb, 0, none⟩) NN NN]) rfl (by kernel_rfl) (by kernel_rfl) (by kernel_rfl) (fun _ _ _ h => h) (Or.inl ⟨by rfl, fun w hSw => ?_⟩) hHeld ?_
    · have q0 := c0 w hSw; have q1 := c1 w hSw; have q2 := c2 w hSw; first | rfl | go_simp
    simp only [Act.put, List.setIfInBounds_toArray, List.set_cons_zero, List.set_cons_succ, List.getElem_toArray, List.getElem_cons_zero, List.getElem_cons_succ]
    refine wpAnyH_take (i := 9) (v := .pointer (some ⟨cc, 0, none⟩)) rfl (by kernel_rfl) (by kernel_rfl) (by kernel_rfl) (fun _ _ _ h => h) (Or.inl ⟨by rfl, fun w hSw => ?_⟩) hHeld ?_
    · first | rfl | go_simp
    simp only [Act.put, List.setIfInBounds_toArray, List.set_cons_zero, List.set_cons_succ, List.getElem_toArray, List.getElem_cons_zero, List.getElem_cons_succ]
    refine wpAnyH_take (i := 10) (v := .slice (some ⟨rb, 0, none⟩) 2 rc) rfl (by kernel_rfl) (by kernel_rfl) (by kernel_rfl) (fun _ _ _ h => h) (Or.inl ⟨by rfl, fun w hSw => ?_⟩) hHeld ?_
    · have q0 := c0 w hSw; first | rfl | go_simp
    simp only [Act.put, List.setIfInBounds_toArray, List.set_cons_zero, List.set_cons_succ, List.getElem_toArray, List.getElem_cons_zero, List.getElem_cons_succ]
    refine wpAnyH_take (i := 11) (v := .pointer (some ⟨rb, 1, none⟩)) rfl (by kernel_rfl) (by kernel_rfl) (by kernel_rfl) (fun _ _ _ h => h) (Or.inl ⟨by rfl, fun w hSw => ?_⟩) hHeld ?_
    · first | rfl | go_simp
    simp only [Act.put, List.setIfInBounds_toArray, List.set_cons_zero, List.set_cons_succ, List.getElem_toArray, List.getElem_cons_zero, List.getElem_cons_succ]
    refine wpAnyH_take (i := 12) (v := .iface vt vy) rfl (by kernel_rfl) (by kernel_rfl) (by kernel_rfl) (fun _ _ _ h => h) (Or.inl ⟨by rfl, fun w hSw => ?_⟩) hHeld ?_
    · have q0 := r1 w hSw; first | rfl | go_simp
    simp only [Act.put, List.setIfInBounds_toArray, List.set_cons_zero, List.set_cons_succ, List.getElem_toArray, List.getElem_cons_zero, List.getElem_cons_succ]
    refine wpAnyH_ready (rs := [7]) (by kernel_rfl) (by simp) ?_
    refine AllReadyH.cons rfl (fun K' hK' => ?_) AllReadyH.nil
    have hcall := HF1.out _ hHeld
    go_simp
    refine hcall.mono ?_
    clear hcall
    rintro e w3 ⟨rfl, hb3⟩
    have hs3 : Below w2.heap.size w2 w3 := grw hHeld hb3
    refine hK'.out _ _ hs3 (fun hHeld => ?_)
    clear hK' hb3
    refine wpAnyH_ready (rs := [13]) (by kernel_rfl) (by simp) ?_
    refine AllReadyH.cons rfl (fun K' hK' => ?_) AllReadyH.nil
    have hcall := HF2.out _ hHeld
    go_simp
    refine hcall.mono ?_
    clear hcall
    rintro e w4 ⟨rfl, hb4⟩
    have hs4 : Below w2.heap.size w2 w4 := grw hHeld hb4
    refine hK'.out _ _ hs4 (fun hHeld => ?_)
    clear hK' hb4
    refine wpAnyH_take (i := 14) (v := .bool bq) rfl (by kernel_rfl) (by kernel_rfl) (by kernel_rfl) (fun _ _ _ h => h) (Or.inl ⟨by rfl, fun w hSw => ?_⟩) hHeld ?_
    · have q0 := HEQ.out w hSw; first | rfl | go_simp
    simp only [Act.put, List.setIfInBounds_toArray, List.set_cons_zero, List.set_cons_succ, List.getElem_toArray, List.getElem_cons_zero, List.getElem_cons_succ]
    refine wpAnyH_take (i := 15) (v := .bool bq) rfl (by kernel_rfl) (by kernel_rfl) (by kernel_rfl) (fun _ _ _ h => h) (Or.inl ⟨by rfl, fun w hSw => ?_⟩) hHeld ?_
    · first | rfl | go_simp
    simp only [Act.put, List.setIfInBounds_toArray, List.set_cons_zero, List.set_cons_succ, List.getElem_toArray, List.getElem_cons_zero, List.getElem_cons_succ]
    refine wpAnyH_take (i := 16) (v := .bool bq) rfl (by kernel_rfl) (by kernel_rfl) (by kernel_rfl) (fun _ _ _ h => h) (Or.inl ⟨by rfl, fun w hSw => ?_⟩) hHeld ?_
    · first | rfl | go_simp
    simp only [Act.put, List.setIfInBounds_toArray, List.set_cons_zero, List.set_cons_succ, List.getElem_toArray, List.getElem_cons_zero, List.getElem_cons_succ]
    refine wpAnyH_done (by kernel_rfl) ?_ _
    go_wp2
    go_ret
    exact ⟨HR.out _ rfl, grw HB2.out hs4⟩
  · have HN : Hid (¬ (OkG n u L K X ∧ OkG m u' L' K' X')) := by
      rw [HGd.out] at hno
      rcases (show q = 0 ∨ q = 1 by omega) with rfl | rfl
      · exact (show ¬ (OkG n u L K X ∧ OkG m u' L' K' X') from fun h => hno h.1)
      · exact (show ¬ (OkG n u L K X ∧ OkG m u' L' K' X') from fun h => hno h.2)
    obtain ⟨w2, hw2⟩ : ∃ w2, w2 = w1.alloc (.cells #[.slice none 0 0, .slice none 0 0, .slice none 0 0] 95) := ⟨_, rfl⟩
    have hb2 : Below w1.heap.size w1 w2 := by rw [hw2]; exact (Below.refl _ _).alloc (Nat.le_refl _) _
    have HB2 : Hid (Below w.heap.size w w2) := grw HB1.out hb2
    go_wp2
    rw [← hw2]
    go_quiet (fail)
    go_wp2
    go_ret
    exact ⟨Or.inr ⟨HN.out, rfl⟩, below_drewN HB2.out _⟩

end Go.Proofs.YtgflalfiopnmnaaGreatDoor

namespace Go.Proofs.YtgflalfiopnmnaaGreatDoor
open Go.RowKit Vl

/-- What is there when the value at a key is put anew. -/
def putG {α : Type} (eqb : α → α → Bool) (v : α) (x : Value) : List (α × Value) → List (α × Value)
  | [] => []
  | (k, y) :: l => if eqb v k = true then (k, x) :: l else (k, y) :: putG eqb v x l

theorem find_gat {α : Type} {mt kt et : TypeId} {enc : α → Value} {ok : World → α → Prop} {eqb : α → α → Bool} {z : Value} (hK : Keyed mt kt et enc ok eqb z) (v : α) (w : World) (hv : ok w v) : ∀ (es : List MapEntry) (l : List (α × Value)) (i : Nat), (∀ p ∈ l, ok w p.1) → es.map (fun e => (e.key, e.val)) = l.map (fun p => (enc p.1, p.2)) →
    ∀ y, findG eqb v l = some y → ∃ j k, (Instr.findAsking kt (enc v) es i).run Tryz.prog w = .ok (some (i + j, y)) w ∧ l[j]? = some (k, y) ∧ eqb v k = true ∧ ∀ x, putG eqb v x l = l.set j (k, x)
  | [], [], i, _, _ => fun y h => by cases h
  | [], _ :: _, i, _, h => by simp at h
  | _ :: _, [], i, _, h => by simp at h
  | e :: es, (k, x) :: l, i, hl, h => by
    simp only [List.map_cons, List.cons.injEq, Prod.mk.injEq] at h
    obtain ⟨⟨h1, h2⟩, h3⟩ := h
    have ih := find_gat hK v w hv es l (i + 1) (fun p hp => hl p (List.mem_cons_of_mem _ hp)) h3
    have e1 : (Instr.findAsking kt (enc v) (e :: es) i).run Tryz.prog w = if eqb v k = true then .ok (some (i, e.val)) w else (Instr.findAsking kt (enc v) es (i + 1)).run Tryz.prog w := by
      conv => lhs; unfold Instr.findAsking
      rw [Sem.run_bind, h1, hK.eq _ _ _ hv (hl (k, x) (by simp))]
      simp only [Result.andThen_ok]
      cases eqb v k <;> simp
    rw [e1]
    unfold findG
    by_cases he : eqb v k = true
    · rw [if_pos he, if_pos he, h2]
      intro y hy
      cases hy
      exact ⟨0, k, rfl, rfl, he, fun x' => by unfold putG; rw [if_pos he]; rfl⟩
    · rw [if_neg he, if_neg he]
      intro y hy
      obtain ⟨j, k', a1, a2, a3, a4⟩ := ih y hy
      exact ⟨j + 1, k', by rw [a1, show i + 1 + j = i + (j + 1) by omega], by simpa using a2, a3, fun x' => by unfold putG; rw [if_neg he, a4 x']; rfl⟩

theorem findKey_gat {α : Type} {mt kt et : TypeId} {enc : α → Value} {ok : World → α → Prop} {eqb : α → α → Bool} {z : Value} (hK : Keyed mt kt et enc ok eqb z) (v : α) (w : World) (hv : ok w v) (es : List MapEntry) (l : List (α × Value)) (hl : ∀ p ∈ l, ok w p.1) (h : es.map (fun e => (e.key, e.val)) = l.map (fun p => (enc p.1, p.2))) :
    ∀ y, findG eqb v l = some y → ∃ j k, (Instr.findKey kt (enc v) es).run Tryz.prog w = .ok (some (j, y)) w ∧ l[j]? = some (k, y) ∧ eqb v k = true ∧ ∀ x, putG eqb v x l = l.set j (k, x) := by
  have hf := find_gat hK v w hv es l 0 hl h
  obtain ⟨d, hd, hn⟩ := hK.now
  have e1 : (Instr.findKey kt (enc v) es).run Tryz.prog w = (Instr.findAsking kt (enc v) es 0).run Tryz.prog w := by
    unfold Instr.findKey
    rw [Sem.run_bind, run_underlying hd]
    simp only [Result.andThen_ok]
    cases es with
    | nil => rfl
    | cons e es =>
      cases l with
      | nil => simp at h
      | cons p l =>
        simp only [List.map_cons, List.cons.injEq, Prod.mk.injEq] at h
        have : Instr.findNow d (enc v) (e :: es) 0 = none := by
          unfold Instr.findNow
          rw [h.1.1, hn]
        rw [this]
  rw [e1]
  intro y hy
  obtain ⟨j, k, a1, a2⟩ := hf y hy
  rw [Nat.zero_add] at a1
  exact ⟨j, k, a1, a2⟩

/-- The value at a key that is there is put anew. -/
theorem MapG.replace {α : Type} {mt kt et : TypeId} {enc : α → Value} {ok : World → α → Prop} {eqb : α → α → Bool} {z : Value} (hK : Keyed mt kt et enc ok eqb z) {w : World} {M : Nat} {l : List (α × Value)} (h : MapG enc w M l) (v : α) (y x : Value) (hv : ok w v) (hok : ∀ p ∈ l, ok w p.1) (hf : findG eqb v l = some y) (heq : ∀ k, eqb v k = true → enc k = enc v) (hsb : Instr.sameBits 10000 (enc v) (enc v) = true) :
    ∃ w', (Instr.mapUpdate mt (.map (some M)) (enc v) x).run Tryz.prog w = .ok () w' ∧ MapG enc w' M (putG eqb v x l) ∧ Only (fun k => k = M) w w' ∧ w'.heap.size = w.heap.size := by
  obtain ⟨es, clk, hb, hl⟩ := h
  obtain ⟨j, k, a1, a2, a3, a4⟩ := findKey_gat hK v w hv es.toList l hok hl y hf
  have hkey : (es[j]?).map (fun e => (e.key, e.val)) = some (enc v, y) := by
    have := congrArg (fun l => l[j]?) hl
    simp only [List.getElem?_map, a2, Option.map_some, Array.getElem?_toList] at this
    rw [this, heq k a3]
  obtain ⟨en, hen, hek⟩ : ∃ en, es[j]? = some en ∧ en.key = enc v := by
    cases h : es[j]? with
    | none => rw [h] at hkey; cases hkey
    | some en => rw [h] at hkey; simp at hkey; exact ⟨en, rfl, hkey.1⟩
  refine ⟨{ w with heap := w.heap.setIfInBounds M (.map (es.modify j fun e => { e with key := enc v, val := x }) clk) }, ?_, ?_, ?_, by simp⟩
  · simp [Instr.mapUpdate, run_underlying hK.und, MapKept.run_getObj_map hb, hK.chk, a1, Result.andThen, hen, hek, Instr.keyThatStays, hsb, MapKept.run_setObj_map _ hb]
  · refine ⟨_, _, by rw [Array.getElem?_setIfInBounds_self_of_lt (blk_lt hb)], ?_⟩
    rw [a4 x]
    apply List.ext_getElem?
    intro m
    have hm := congrArg (fun l => l[m]?) hl
    simp only [List.getElem?_map, Array.getElem?_toList] at hm
    simp only [List.getElem?_map, Array.getElem?_toList, Array.getElem?_modify, List.getElem?_set]
    by_cases e : j = m
    · subst e
      have hlt : j < l.length := (List.getElem?_eq_some_iff.1 a2).1
      simp [hen, hlt, heq k a3]
    · simp only [e, if_false]
      exact hm
  · refine ⟨rfl, rfl, rfl, by simp, fun k _ hk => ?_⟩
    show (w.heap.setIfInBounds M _)[k]? = w.heap[k]?
    rw [Array.getElem?_setIfInBounds_ne (fun e => hk e.symm)]

theorem findG_put {α : Type} {eqb : α → α → Bool} (hE : ∀ a b, eqb a b = true ↔ a = b) (v : α) (x : Value) : ∀ (l : List (α × Value)) (y : Value), findG eqb v l = some y → findG eqb v (putG eqb v x l) = some x
  | [], y, h => by cases h
  | (k, z) :: l, y, h => by
    unfold findG at h
    by_cases he : eqb v k = true
    · unfold putG
      rw [if_pos he]
      unfold findG
      rw [if_pos he]
    · rw [if_neg he] at h
      unfold putG
      rw [if_neg he]
      unfold findG
      rw [if_neg he]
      exact findG_put hE v x l y h
theorem findG_put_ne {α : Type} {eqb : α → α → Bool} (hE : ∀ a b, eqb a b = true ↔ a = b) {u v : α} (hne : u ≠ v) (x : Value) : ∀ (l : List (α × Value)), findG eqb u (putG eqb v x l) = findG eqb u l
  | [] => rfl
  | (k, z) :: l => by
    unfold putG
    by_cases he : eqb v k = true
    · have hk := (hE v k).1 he
      subst hk
      have hu : ¬ eqb u v = true := fun h => hne ((hE u v).1 h)
      rw [if_pos he]
      unfold findG
      rw [if_neg hu, if_neg hu]
    · rw [if_neg he]
      unfold findG
      rw [findG_put_ne hE hne x l]
theorem putG_keys {α : Type} {eqb : α → α → Bool} (v : α) (x : Value) : ∀ (l : List (α × Value)), (putG eqb v x l).map (·.1) = l.map (·.1)
  | [] => rfl
  | (k, z) :: l => by
    unfold putG
    by_cases he : eqb v k = true
    · rw [if_pos he]; rfl
    · rw [if_neg he]
      simp only [List.map_cons]
      rw [putG_keys v x l]

theorem findG_eq (v : V) : ∀ l, findG eqV v l = findV v l
  | [] => rfl
  | (k, x) :: l => by unfold findG findV; rw [findG_eq v l]

theorem val_keyed : Keyed 119 24 54 vAgg (fun _ _ => True) eqV .nilIface :=
  ⟨Tryz.underlying119, fun u v w _ _ => equal_val u v w, check_val, ⟨_, Tryz.underlying24, fun _ _ => rfl⟩, fun w => by kernel_rfl⟩

theorem same_val (v : V) : Instr.sameBits 10000 (vAgg v) (vAgg v) = true := by
  have e : ∀ b : ByteArray, (b == b) = true := fun b => by
    cases b with
    | mk d => first | (show (d == d) = true; simp) | simp [BEq.beq] | rfl
  simp [Instr.sameBits, e]

theorem MapIs.replace {w : World} {M : Nat} {l : List (V × Value)} (h : MapIs w M l) (v : V) (y x : Value) (hf : findV v l = some y) :
    ∃ w' l', (Instr.mapUpdate 119 (.map (some M)) (vAgg v) x).run Tryz.prog w = .ok () w' ∧ MapIs w' M l' ∧ findV v l' = some x ∧ (∀ u, u ≠ v → findV u l' = findV u l) ∧ Only (fun k => k = M) w w' ∧ w'.heap.size = w.heap.size := by
  obtain ⟨w', h1, h2, h3, h4⟩ := MapG.replace val_keyed (show MapG vAgg w M l from h) v y x trivial (fun _ _ => trivial) (by rw [findG_eq]; exact hf) (fun k hk => by rw [eqV_iff.1 hk]) (same_val v)
  exact ⟨w', _, h1, h2, by rw [← findG_eq]; exact findG_put (fun a b => eqV_iff) v x l y (by rw [findG_eq]; exact hf), fun u hu => by rw [← findG_eq, ← findG_eq]; exact findG_put_ne (fun a b => eqV_iff) hu x l, h3, h4⟩

end Go.Proofs.YtgflalfiopnmnaaGreatDoor
