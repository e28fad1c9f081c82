import Derived.Test.YtgflalfiopnmnaaP12
import Derived.Test.YtgflalfiopnmnaaP10
import Derived.Test.YtgflalfiopnmnaaP4
import Derived.Test.YtgflalfiopnmnaaP7
namespace Go.Proofs.Ytgflalfiopnmnaa
open Go.RowKit Vl

set_option maxHeartbeats 4000000 in
set_option maxRecDepth 100000 in
/-- 'impl.Same'. -/
theorem implSame_any (u u' : V) (ta ta' : Option Addr) (n cp TB TO m cp' TB' TO' : Nat) (A A' : Nat → Option Addr) (L C RB RO L' C' RB' RO' : Nat → Nat) (K X K' X' : Nat → Nat → V) (w : World) (hn : n ≤ 1048576) (hm : m ≤ 1048576) (HS : Hid (Small 1048576 n L K X)) (HS' : Hid (Small 1048576 m L' K' X')) (HT : Hid (TabsAt w ta n TB TO A L C RB RO K X)) (HT' : Hid (TabsAt w ta' m TB' TO' A' L' C' RB' RO' K' X')) :
    Calls Try.prog 12 #[.agg #[.int .i64 u.k, .int .i64 u.n, .string u.s, .int .i64 u.a, .slice ta n cp], .agg #[.int .i64 u'.k, .int .i64 u'.n, .string u'.s, .int .i64 u'.a, .slice ta' m cp']] w fun e w' => SameRes e n m u u' L L' K X K' X' ∧ Below w.heap.size w w' := by
  have A3 := alloc3 w (.cells #[.int .i64 u.k, .int .i64 u.n, .string u.s, .int .i64 u.a, .slice ta n cp] 27) (.cells #[.int .i64 u'.k, .int .i64 u'.n, .string u'.s, .int .i64 u'.a, .slice ta' m cp'] 27) (.cells #[.int .i64 u.k, .int .i64 u.n, .string u.s, .int .i64 u.a, .slice ta n cp, .int .i64 u'.k, .int .i64 u'.n, .string u'.s, .int .i64 u'.a, .slice ta' m cp'] 27)
  obtain ⟨w0, hw0⟩ : ∃ w0, w0 = ((w.alloc (.cells #[.int .i64 u.k, .int .i64 u.n, .string u.s, .int .i64 u.a, .slice ta n cp] 27)).alloc (.cells #[.int .i64 u'.k, .int .i64 u'.n, .string u'.s, .int .i64 u'.a, .slice ta' m cp'] 27)).alloc (.cells #[.int .i64 u.k, .int .i64 u.n, .string u.s, .int .i64 u.a, .slice ta n cp, .int .i64 u'.k, .int .i64 u'.n, .string u'.s, .int .i64 u'.a, .slice ta' m cp'] 27) := ⟨_, rfl⟩
  rw [← hw0] at A3
  have HB0 : Hid (Below w.heap.size w w0) := A3.2.2.2.2
  have hblk := A3.2.2.1
  obtain ⟨G, HGd⟩ : ∃ G : GrS, Hid (G = ⟨two u u', two n m, two L L', two K K', two X X'⟩) := ⟨_, rfl⟩
  have HGs : Hid (GsAt w0 2 (w.heap.size + 2) G (two ta ta') (two cp cp') (two TB TB') (two TO TO') (two A A') (two C C') (two RB RB') (two RO RO')) := by
    rw [HGd.out]
    refine ⟨fun q hq => ?_, fun q hq => ?_, fun q hq => ?_, fun q hq => ?_, fun q hq => ?_, fun q hq => ?_, fun q hq => ?_⟩ <;> rcases (show q = 0 ∨ q = 1 by omega) with rfl | rfl
    iterate 10 (simp [two, World.cell?, hblk])
    · exact ⟨hn, HS.out⟩
    · exact ⟨hm, HS'.out⟩
    · exact HT.out.below HB0.out
    · exact HT'.out.below HB0.out
  have hcf := classify_any 2 (by omega) (by omega) (w.heap.size + 2) G _ _ _ _ _ _ _ _ w0 HGs
  have hoff : G.off 2 = n + m := by rw [HGd.out]; simp [GrS.off, two]
  clear A3 hblk
  go_enter Try.func12, Try.ntmps12
  go_wp2_with fail
  rw [← hw0]
  refine hcf.mono ?_
  clear hcf hw0
  rintro e w1 ⟨hcase, hb1⟩
  have HB1 : Hid (Below w.heap.size w w1) := grw HB0.out hb1
  rcases hcase with ⟨T, M, Lc, Kc, Xc, ls, f, rv, tv, cb, rfl, hd⟩ | ⟨⟨q, hq, hno⟩, rfl⟩
  · have hok0 : OkG n u L K X := by have := hd.cmb.ok 0 (by omega); rw [HGd.out] at this; exact this
    have hok1 : OkG m u' L' K' X' := by have := hd.cmb.ok 1 (by omega); rw [HGd.out] at this; exact this
    have e0 : sh (G.off 0) (G.U 0) = u := by rw [HGd.out]; exact sh_zero u
    have e1 : sh (G.off 1) (G.U 1) = sh n u' := by rw [HGd.out]; simp [GrS.off, two]
    obtain ⟨rb, rc, rfl, hr0⟩ := owns_cell hd.roots (k := 0) (y := ifv T (sh (G.off 0) (G.U 0))) (by simp)
    obtain ⟨rb', rc', e', hr1⟩ := owns_cell hd.roots (k := 1) (y := ifv T (sh (G.off 1) (G.U 1))) (by simp)
    cases e'
    obtain ⟨va, vc, rfl, _⟩ := owns_form hd.tabs
    rw [e0] at hr0
    rw [e1] at hr1
    have hN : G.off 2 ≤ 400 := by have := hok0.len; have := hok1.len; omega
    have hx : isV (G.off 2) u = true := by rw [hoff]; exact isV_more hok0.root
    have hy : isV (G.off 2) (sh n u') = true := by rw [hoff]; exact sh_isV hok1.root
    have HR : Hid (∀ b, b = alike T (fstV f u) (fstV f (sh n u')) → SameRes (.returned (.bool b)) n m u u' L L' K X K' X') := show ∀ b, _ from fun b hb => by
      subst hb
      refine Or.inl ⟨⟨hok0, hok1⟩, f, ?_, by rw [alike_fst hd.tbs.inj hd.is.low hx hy]⟩
      have h2 := hd.srt
      have h3 := hd.is
      have t0 := hd.cmb.tab 0 (by omega)
      have t1 := hd.cmb.tab 1 (by omega)
      rw [HGd.out] at t0 t1
      rw [hoff] at h2 h3
      simp only [GrS.off, two, Nat.zero_add, sh_zero, if_true, Nat.one_ne_zero, if_false] at t0 t1
      have hL : ∀ j, j < n + m → Lc j = jn n L L' j := fun j hj => by
        by_cases e : j < n
        · rw [jn_lt e]; exact (t0 j e).1
        · rw [jn_ge e]; have := (t1 (j - n) (by omega)).1; rw [show n + (j - n) = j by omega] at this; exact this
      have hK : ∀ j, j < n + m → Kc j = jn n K K' j := fun j hj => by
        by_cases e : j < n
        · rw [jn_lt e]; exact (t0 j e).2.1
        · rw [jn_ge e]; have := (t1 (j - n) (by omega)).2.1; rw [show n + (j - n) = j by omega] at this; exact this
      have hX : ∀ j, j < n + m → Xc j = jn n X (fun j c => sh n (X' j c)) j := fun j hj => by
        by_cases e : j < n
        · rw [jn_lt e]; exact funext (t0 j e).2.2
        · rw [jn_ge e]; have := funext (t1 (j - n) (by omega)).2.2; rw [show n + (j - n) = j by omega] at this; exact this
      exact ⟨ls, fun r hr => by rw [← hK r hr, ← hL r hr]; exact h2 r hr, h3.agree hL (fun j hj => by unfold sK; rw [hK j hj]) (fun j hj => by unfold sK; rw [hX j hj])⟩
    obtain ⟨w2, hw2⟩ : ∃ w2, w2 = w1.alloc (.cells #[.slice (some ⟨rb, 0, none⟩) 2 rc, .slice va (G.off 2) vc, .slice (some ⟨cb, 0, none⟩) (G.off 2) (G.off 2)] 60) := ⟨_, rfl⟩
    have hb2 : Below w1.heap.size w1 w2 := by rw [hw2]; exact (Below.refl _ _).alloc (Nat.le_refl _) _
    have HB2 : Hid (Below w.heap.size w w2) := grw HB1.out hb2
    have H2 : w2.heap[w1.heap.size]? = some (.cells #[.slice (some ⟨rb, 0, none⟩) 2 rc, .slice va (G.off 2) vc, .slice (some ⟨cb, 0, none⟩) (G.off 2) (G.off 2)] 60 (0, 0)) := by rw [hw2]; exact heap_alloc_new _ _
    obtain ⟨cc, hcc⟩ : ∃ cc, w1.heap.size = cc := ⟨_, rfl⟩
    rw [hcc] at H2
    obtain ⟨c0, c1, c2, _⟩ := three_at H2
    have HF1 : Hid (∀ w', Below w2.heap.size w2 w' → Calls Try.prog 36 #[.agg #[.slice (some ⟨rb, 0, none⟩) 2 rc, .slice va (G.off 2) vc, .slice (some ⟨cb, 0, none⟩) (G.off 2) (G.off 2)], ifv T u] w' fun e w'' => e = .returned (ifv T (fstV f u)) ∧ Below w'.heap.size w' w'') := show ∀ _, _ from fun w' hb => hd.first hN u w' hx (grw hb2 hb)
    have HF2 : Hid (∀ w', Below w2.heap.size w2 w' → Calls Try.prog 36 #[.agg #[.slice (some ⟨rb, 0, none⟩) 2 rc, .slice va (G.off 2) vc, .slice (some ⟨cb, 0, none⟩) (G.off 2) (G.off 2)], ifv T (sh n u')] w' fun e w'' => e = .returned (ifv T (fstV f (sh n u'))) ∧ Below w'.heap.size w' w'') := show ∀ _, _ from fun w' hb => hd.first hN (sh n u') w' hy (grw hb2 hb)
    have HEQ : Hid (∀ w', Below w2.heap.size w2 w' → (binOp .eql 68 (ifv T (fstV f u)) (ifv T (fstV f (sh n u')))).run Try.prog w' = .ok (.bool (alike T (fstV f u) (fstV f (sh n u')))) w') := show ∀ _, _ from fun w' hb => eql_ifv T (fstV_isV hd.is.low hx) (fstV_isV hd.is.low hy) w' (fun j hj => by
      obtain ⟨ord, a1, _⟩ := hd.tbs.tab j hj
      unfold TabB at a1
      exact ⟨_, _, ((grw hb2 hb).block _ (blk_lt a1)).trans a1⟩)
    have r0 : w2.cell? ⟨rb, 0, none⟩ = some (ifv T u) := (hb2.cell (World.block_lt_of_cell? _ _ hr0)).trans hr0
    have r1 : w2.cell? ⟨rb, 1, none⟩ = some (ifv T (sh n u')) := (hb2.cell (World.block_lt_of_cell? _ _ hr1)).trans hr1
    obtain ⟨bq, hbq⟩ : ∃ bq, alike T (fstV f u) (fstV f (sh n u')) = bq := ⟨_, rfl⟩
    rw [hbq] at HEQ HR
    obtain ⟨ut, uy, hxv⟩ := ifv_form T u
    obtain ⟨vt, vy, hyv⟩ := ifv_form T (sh n u')
    obtain ⟨pt, py, hpv⟩ := ifv_form T (fstV f u)
    obtain ⟨st, sy, hsv⟩ := ifv_form T (fstV f (sh n u'))
    rw [hxv] at r0 HF1
    rw [hyv] at r1 HF2
    rw [hpv] at HF1 HEQ
    rw [hsv] at HF2 HEQ
    replace c0 := cellB c0
    replace c1 := cellB c1
    replace c2 := cellB c2
    replace r0 := cellB r0
    replace r1 := cellB r1
    obtain ⟨NN, hNN⟩ : ∃ NN, G.off 2 = NN := ⟨_, rfl⟩
    rw [hNN] at c1 c2 HF1 HF2 hw2 ⊢
    clear hd hr0 hr1 e0 e1 hN hx hy hb2 hxv hyv hpv hsv hbq H2 hok0 hok1 hoff hNN HGs HGd hb1
    go_wp2
    try rw [hcc] at hw2
    try rw [hcc]
    rw [← hw2]
    clear hw2 hcc
    refine wp_region_held_drew (S := fun x => Below w2.heap.size w2 x) (by kernel_rfl) (Below.refl _ _).drew (fun hHeld => ?_)
    refine wpAnyH_take (i := 0) (v := .bool true) rfl (by kernel_rfl) (by kernel_rfl) (by kernel_rfl) (fun _ _ _ h => h) (Or.inl ⟨by rfl, fun w hSw => ?_⟩) hHeld ?_
    · first | rfl | go_simp
    simp only [Act.put, List.setIfInBounds_toArray, List.set_cons_zero, List.set_cons_succ, List.getElem_toArray, List.getElem_cons_zero]
    refine wpAnyH_take (i := 1) (v := .bool true) rfl (by kernel_rfl) (by kernel_rfl) (by kernel_rfl) (fun _ _ _ h => h) (Or.inl ⟨by rfl, fun w hSw => ?_⟩) hHeld ?_
    · first | rfl | go_simp
    simp only [Act.put, List.setIfInBounds_toArray, List.set_cons_zero, List.set_cons_succ, List.getElem_toArray, List.getElem_cons_zero, List.getElem_cons_succ]
    refine wpAnyH_take (i := 2) (v := .agg #[.slice (some ⟨rb, 0, none⟩) 2 rc, .slice va NN vc, .slice (some ⟨cb, 0, none⟩) NN NN]) rfl (by kernel_rfl) (by kernel_rfl) (by kernel_rfl) (fun _ _ _ h => h) (Or.inl ⟨by rfl, fun w hSw => ?_⟩) hHeld ?_
    · have q0 := c0 w hSw; have q1 := c1 w hSw; have q2 := c2 w hSw; first | rfl | go_simp
    simp only [Act.put, List.setIfInBounds_toArray, List.set_cons_zero, List.set_cons_succ, List.getElem_toArray, List.getElem_cons_zero, List.getElem_cons_succ]
    refine wpAnyH_take (i := 3) (v := .pointer (some ⟨cc, 0, none⟩)) rfl (by kernel_rfl) (by kernel_rfl) (by kernel_rfl) (fun _ _ _ h => h) (Or.inl ⟨by rfl, fun w hSw => ?_⟩) hHeld ?_
    · first | rfl | go_simp
    simp only [Act.put, List.setIfInBounds_toArray, List.set_cons_zero, List.set_cons_succ, List.getElem_toArray, List.getElem_cons_zero, List.getElem_cons_succ]
    refine wpAnyH_take (i := 4) (v := .slice (some ⟨rb, 0, none⟩) 2 rc) rfl (by kernel_rfl) (by kernel_rfl) (by kernel_rfl) (fun _ _ _ h => h) (Or.inl ⟨by rfl, fun w hSw => ?_⟩) hHeld ?_
    · have q0 := c0 w hSw; first | rfl | go_simp
    simp only [Act.put, List.setIfInBounds_toArray, List.set_cons_zero, List.set_cons_succ, List.getElem_toArray, List.getElem_cons_zero, List.getElem_cons_succ]
    refine wpAnyH_take (i := 5) (v := .pointer (some ⟨rb, 0, none⟩)) rfl (by kernel_rfl) (by kernel_rfl) (by kernel_rfl) (fun _ _ _ h => h) (Or.inl ⟨by rfl, fun w hSw => ?_⟩) hHeld ?_
    · first | rfl | go_simp
    simp only [Act.put, List.setIfInBounds_toArray, List.set_cons_zero, List.set_cons_succ, List.getElem_toArray, List.getElem_cons_zero, List.getElem_cons_succ]
    refine wpAnyH_take (i := 6) (v := .iface ut uy) rfl (by kernel_rfl) (by kernel_rfl) (by kernel_rfl) (fun _ _ _ h => h) (Or.inl ⟨by rfl, fun w hSw => ?_⟩) hHeld ?_
    · have q0 := r0 w hSw; first | rfl | go_simp
    simp only [Act.put, List.setIfInBounds_toArray, List.set_cons_zero, List.set_cons_succ, List.getElem_toArray, List.getElem_cons_zero, List.getElem_cons_succ]
    refine wpAnyH_take (i := 8) (v := .agg #[.slice (some ⟨rb, 0, none⟩) 2 rc, .slice va NN vc, .slice (some ⟨cb, 0, none⟩) NN NN]) rfl (by kernel_rfl) (by kernel_rfl) (by kernel_rfl) (fun _ _ _ h => h) (Or.inl ⟨by rfl, fun w hSw => ?_⟩) hHeld ?_
    · have q0 := c0 w hSw; have q1 := c1 w hSw; have q2 := c2 w hSw; first | rfl | go_simp
    simp only [Act.put, List.setIfInBounds_toArray, List.set_cons_zero, List.set_cons_succ, List.getElem_toArray, List.getElem_cons_zero, List.getElem_cons_succ]
    refine wpAnyH_take (i := 9) (v := .pointer (some ⟨cc, 0, none⟩)) rfl (by kernel_rfl) (by kernel_rfl) (by kernel_rfl) (fun _ _ _ h => h) (Or.inl ⟨by rfl, fun w hSw => ?_⟩) hHeld ?_
    · first | rfl | go_simp
    simp only [Act.put, List.setIfInBounds_toArray, List.set_cons_zero, List.set_cons_succ, List.getElem_toArray, List.getElem_cons_zero, List.getElem_cons_succ]
    refine wpAnyH_take (i := 10) (v := .slice (some ⟨rb, 0, none⟩) 2 rc) rfl (by kernel_rfl) (by kernel_rfl) (by kernel_rfl) (fun _ _ _ h => h) (Or.inl ⟨by rfl, fun w hSw => ?_⟩) hHeld ?_
    · have q0 := c0 w hSw; first | rfl | go_simp
    simp only [Act.put, List.setIfInBounds_toArray, List.set_cons_zero, List.set_cons_succ, List.getElem_toArray, List.getElem_cons_zero, List.getElem_cons_succ]
    refine wpAnyH_take (i := 11) (v := .pointer (some ⟨rb, 1, none⟩)) rfl (by kernel_rfl) (by kernel_rfl) (by kernel_rfl) (fun _ _ _ h => h) (Or.inl ⟨by rfl, fun w hSw => ?_⟩) hHeld ?_
    · first | rfl | go_simp
    simp only [Act.put, List.setIfInBounds_toArray, List.set_cons_zero, List.set_cons_succ, List.getElem_toArray, List.getElem_cons_zero, List.getElem_cons_succ]
    refine wpAnyH_take (i := 12) (v := .iface vt vy) rfl (by kernel_rfl) (by kernel_rfl) (by kernel_rfl) (fun _ _ _ h => h) (Or.inl ⟨by rfl, fun w hSw => ?_⟩) hHeld ?_
    · have q0 := r1 w hSw; first | rfl | go_simp
    simp only [Act.put, List.setIfInBounds_toArray, List.set_cons_zero, List.set_cons_succ, List.getElem_toArray, List.getElem_cons_zero, List.getElem_cons_succ]
    refine wpAnyH_ready (rs := [7]) (by kernel_rfl) (by simp) ?_
    refine AllReadyH.cons rfl (fun K' hK' => ?_) AllReadyH.nil
    have hcall := HF1.out _ hHeld
    go_simp
    refine hcall.mono ?_
    clear hcall
    rintro e w3 ⟨rfl, hb3⟩
    have hs3 : Below w2.heap.size w2 w3 := grw hHeld hb3
    refine hK'.out _ _ hs3 (fun hHeld => ?_)
    clear hK' hb3
    refine wpAnyH_ready (rs := [13]) (by kernel_rfl) (by simp) ?_
    refine AllReadyH.cons rfl (fun K' hK' => ?_) AllReadyH.nil
    have hcall := HF2.out _ hHeld
    go_simp
    refine hcall.mono ?_
    clear hcall
    rintro e w4 ⟨rfl, hb4⟩
    have hs4 : Below w2.heap.size w2 w4 := grw hHeld hb4
    refine hK'.out _ _ hs4 (fun hHeld => ?_)
    clear hK' hb4
    refine wpAnyH_take (i := 14) (v := .bool bq) rfl (by kernel_rfl) (by kernel_rfl) (by kernel_rfl) (fun _ _ _ h => h) (Or.inl ⟨by rfl, fun w hSw => ?_⟩) hHeld ?_
    · have q0 := HEQ.out w hSw; first | rfl | go_simp
    simp only [Act.put, List.setIfInBounds_toArray, List.set_cons_zero, List.set_cons_succ, List.getElem_toArray, List.getElem_cons_zero, List.getElem_cons_succ]
    refine wpAnyH_take (i := 15) (v := .bool bq) rfl (by kernel_rfl) (by kernel_rfl) (by kernel_rfl) (fun _ _ _ h => h) (Or.inl ⟨by rfl, fun w hSw => ?_⟩) hHeld ?_
    · first | rfl | go_simp
    simp only [Act.put, List.setIfInBounds_toArray, List.set_cons_zero, List.set_cons_succ, List.getElem_toArray, List.getElem_cons_zero, List.getElem_cons_succ]
    refine wpAnyH_take (i := 16) (v := .bool bq) rfl (by kernel_rfl) (by kernel_rfl) (by kernel_rfl) (fun _ _ _ h => h) (Or.inl ⟨by rfl, fun w hSw => ?_⟩) hHeld ?_
    · first | rfl | go_simp
    simp only [Act.put, List.setIfInBounds_toArray, List.set_cons_zero, List.set_cons_succ, List.getElem_toArray, List.getElem_cons_zero, List.getElem_cons_succ]
    refine wpAnyH_done (by kernel_rfl) ?_ _
    go_wp2
    go_ret
    exact ⟨HR.out _ rfl, grw HB2.out hs4⟩
  · have HN : Hid (¬ (OkG n u L K X ∧ OkG m u' L' K' X')) := by
      rw [HGd.out] at hno
      rcases (show q = 0 ∨ q = 1 by omega) with rfl | rfl
      · exact (show ¬ (OkG n u L K X ∧ OkG m u' L' K' X') from fun h => hno h.1)
      · exact (show ¬ (OkG n u L K X ∧ OkG m u' L' K' X') from fun h => hno h.2)
    obtain ⟨w2, hw2⟩ : ∃ w2, w2 = w1.alloc (.cells #[.slice none 0 0, .slice none 0 0, .slice none 0 0] 60) := ⟨_, rfl⟩
    have hb2 : Below w1.heap.size w1 w2 := by rw [hw2]; exact (Below.refl _ _).alloc (Nat.le_refl _) _
    have HB2 : Hid (Below w.heap.size w w2) := grw HB1.out hb2
    go_wp2
    rw [← hw2]
    go_quiet (fail)
    go_wp2
    go_ret
    exact ⟨Or.inr ⟨HN.out, rfl⟩, below_drewN HB2.out _⟩

end Go.Proofs.Ytgflalfiopnmnaa

namespace Go.Proofs.Ytgflalfiopnmnaa
open Go.RowKit Vl

theorem types_apart {w : World} {base base' n m tg : Nat} {v v' : Value} {xs ys : List Value} (h : w.ownsRow base 73 1 v n xs) (h' : w.ownsRow base' 75 8 v' m ys) (e : v.ownBlock = some tg) : v'.ownBlock ≠ some tg := fun e' => by
  obtain ⟨_, c, hc⟩ := owns_type h e
  obtain ⟨_, c', hc'⟩ := owns_type h' e'
  rw [hc] at hc'
  cases hc'

theorem OTab.swap {w w1 : World} {base tg tc : Nat} {pv : Value} {n r : Nat} {PV : Nat → Value} {L : Nat → Nat} {K X : Nat → Nat → V} (h : OTab w base (.slice (some ⟨tg, 0, none⟩) n tc) n PV L K X) (hr : r < n) {l : Nat} {k x : Nat → V}
    (hp : w1.ownsRow base 75 8 pv l (pairCells k x l)) (hg : w.grownBy w1 (PV r).ownBlock) (hnew : ∀ g, pv.ownBlock = some g → (PV r).ownBlock = some g ∨ w.heap.size ≤ g) :
    OTab (w1.setCell ⟨tg, r, none⟩ pv) base (.slice (some ⟨tg, 0, none⟩) n tc) n (fun j => if j = r then pv else PV j) (fun j => if j = r then l else L j) (fun j => if j = r then k else K j) (fun j => if j = r then x else X j) := by
  have own1 : w1.ownsRow base 73 1 (.slice (some ⟨tg, 0, none⟩) n tc) n ((List.range n).map PV) := h.own.kept hg (Or.inr (fun e => types_apart h.own (h.rows r hr) (tg := tg) rfl e.symm))
  have hlt : ∀ j, j < n → ∀ g, (PV j).ownBlock = some g → g < w.heap.size := fun j hj g e => by
    obtain ⟨_, _, _, h2⟩ := owns_form (h.rows j hj)
    exact (h2 g e).2
  have hdis : ∀ a b, a < n → b < n → a ≠ b → ∀ g, (PV a).ownBlock = some g → (PV b).ownBlock ≠ some g := fun a b ha hb hne g e e' => by
    rcases Nat.lt_or_gt_of_ne hne with hl | hl
    · exact h.dis a b hl hb g e e'
    · exact h.dis b a hl ha g e' e
  refine ⟨?_, fun j hj => ?_, fun a b hab hb g hga => ?_⟩
  · have h2 := owns_set own1 r pv
    have e : ((List.range n).map PV).set r pv = (List.range n).map (fun j => if j = r then pv else PV j) := by
      refine List.ext_getElem? fun i => ?_
      rw [List.getElem?_set]
      by_cases hir : r = i
      · subst hir
        simp [hr]
      · by_cases hi : i < n
        · simp [hir, hi, Ne.symm hir]
        · simp [hir, hi]
    rw [e] at h2
    exact h2
  · by_cases e : j = r
    · subst e
      simp only [if_true]
      exact ownsRow_setCell_other (a := ⟨tg, j, none⟩) hp (types_apart own1 hp rfl) _
    · simp only [e, if_false]
      have hk : w1.ownsRow base 75 8 (PV j) (L j) (pairCells (K j) (X j) (L j)) := (h.rows j hj).kept hg (by
        cases hb : (PV j).ownBlock with
        | none => exact Or.inl rfl
        | some g => exact Or.inr (fun e2 => hdis j r hj hr e g hb e2.symm))
      exact ownsRow_setCell_other (a := ⟨tg, r, none⟩) hk (types_apart own1 hk rfl) _
  · by_cases ea : a = r
    · subst ea
      simp only [if_true] at hga
      simp only [show ¬ b = a by omega, if_false]
      rcases hnew g hga with h2 | h2
      · exact hdis a b hr hb (by omega) g h2
      · intro e2
        have := hlt b hb g e2
        omega
    · simp only [ea, if_false] at hga
      by_cases eb : b = r
      · subst eb
        simp only [if_true]
        intro e2
        rcases hnew g e2 with h2 | h2
        · exact hdis a b (by omega) hr ea g hga h2
        · have := hlt a (by omega) g hga
          omega
      · simp only [eb, if_false]
        exact h.dis a b hab hb g hga

end Go.Proofs.Ytgflalfiopnmnaa
