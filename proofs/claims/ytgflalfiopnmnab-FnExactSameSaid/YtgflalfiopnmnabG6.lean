import Derived.Test.YtgflalfiopnmnabG5
import Derived.Test.YtgflalfiopnmnabGtLaw
namespace Go.Proofs.Ytgflalfiopnmnab
open Go.RowKit Vl

set_option maxHeartbeats 4000000 in
set_option maxRecDepth 100000 in
/-- 'impl.Same'. -/
theorem implSame_any (u u' : V) (ta ta' : Option Addr) (n cp TB TO m cp' TB' TO' : Nat) (A A' : Nat → Option Addr) (L C RB RO L' C' RB' RO' : Nat → Nat) (K X K' X' : Nat → Nat → V) (w : World) (hn : n ≤ 1048576) (hm : m ≤ 1048576) (HS : Hid (Small 1048576 n L K X)) (HS' : Hid (Small 1048576 m L' K' X')) (HT : Hid (TabsAt w ta n TB TO A L C RB RO K X)) (HT' : Hid (TabsAt w ta' m TB' TO' A' L' C' RB' RO' K' X')) :
    Calls Try.prog 31 #[.agg #[.int .i64 u.k, .int .i64 u.n, .string u.s, .int .i64 u.a, .slice ta n cp], .agg #[.int .i64 u'.k, .int .i64 u'.n, .string u'.s, .int .i64 u'.a, .slice ta' m cp']] w fun e w' => SameRes e n m u u' L L' K X K' X' ∧ Below w.heap.size w w' := by
  have A3 := alloc3 w (.cells #[.int .i64 u.k, .int .i64 u.n, .string u.s, .int .i64 u.a, .slice ta n cp] 32) (.cells #[.int .i64 u'.k, .int .i64 u'.n, .string u'.s, .int .i64 u'.a, .slice ta' m cp'] 32) (.cells #[.int .i64 u.k, .int .i64 u.n, .string u.s, .int .i64 u.a, .slice ta n cp, .int .i64 u'.k, .int .i64 u'.n, .string u'.s, .int .i64 u'.a, .slice ta' m cp'] 32)
  obtain ⟨w0, hw0⟩ : ∃ w0, w0 = ((w.alloc (.cells #[.int .i64 u.k, .int .i64 u.n, .string u.s, .int .i64 u.a, .slice ta n cp] 32)).alloc (.cells #[.int .i64 u'.k, .int .i64 u'.n, .string u'.s, .int .i64 u'.a, .slice ta' m cp'] 32)).alloc (.cells #[.int .i64 u.k, .int .i64 u.n, .string u.s, .int .i64 u.a, .slice ta n cp, .int .i64 u'.k, .int .i64 u'.n, .string u'.s, .int .i64 u'.a, .slice ta' m cp'] 32) := ⟨_, rfl⟩
  rw [← hw0] at A3
  have HB0 : Hid (Below w.heap.size w w0) := A3.2.2.2.2
  have hblk := A3.2.2.1
  obtain ⟨G, HGd⟩ : ∃ G : GrS, Hid (G = ⟨two u u', two n m, two L L', two K K', two X X'⟩) := ⟨_, rfl⟩
  have HGs : Hid (GsAt w0 2 (w.heap.size + 2) G (two ta ta') (two cp cp') (two TB TB') (two TO TO') (two A A') (two C C') (two RB RB') (two RO RO')) := by
    rw [HGd.out]
    refine ⟨fun q hq => ?_, fun q hq => ?_, fun q hq => ?_, fun q hq => ?_, fun q hq => ?_, fun q hq => ?_, fun q hq => ?_⟩ <;> rcases (show q = 0 ∨ q = 1 by omega) with rfl | rfl
    iterate 10 (simp [two, World.cell?, hblk])
    · exact ⟨hn, HS.out⟩
    · exact ⟨hm, HS'.out⟩
    · exact HT.out.below HB0.out
    · exact HT'.out.below HB0.out
  have hcf := classify_any 2 (by omega) (by omega) (w.heap.size + 2) G _ _ _ _ _ _ _ _ w0 HGs
  have hoff : G.off 2 = n + m := by rw [HGd.out]; simp [GrS.off, two]
  clear A3 hblk
  go_enter Try.func31, Try.ntmps31
  go_wp2_with fail
  rw [← hw0]
  refine hcf.mono ?_
  clear hcf hw0
  rintro e w1 ⟨hcase, hb1⟩
  have HB1 : Hid (Below w.heap.size w w1) := grw HB0.out hb1
  rcases hcase with ⟨T, M, Lc, Kc, Xc, ls, f, rv, tv, cb, rfl, hd⟩ | ⟨⟨q, hq, hno⟩, rfl⟩
  · have hok0 : OkG n u L K X := by have := hd.cmb.ok 0 (by omega); rw [HGd.out] at this; exact this
    have hok1 : OkG m u' L' K' X' := by have := hd.cmb.ok 1 (by omega); rw [HGd.out] at this; exact this
    have e0 : sh (G.off 0) (G.U 0) = u := by rw [HGd.out]; exact sh_zero u
    have e1 : sh (G.off 1) (G.U 1) = sh n u' := by rw [HGd.out]; simp [GrS.off, two]
    obtain ⟨rb, rc, rfl, hr0⟩ := owns_cell hd.roots (k := 0) (y := ifv T (sh (G.off 0) (G.U 0))) (by simp)
    obtain ⟨rb', rc', e', hr1⟩ := owns_cell hd.roots (k := 1) (y := ifv T (sh (G.off 1) (G.U 1))) (by simp)
    cases e'
    obtain ⟨va, vc, rfl, _⟩ := owns_form hd.tabs
    rw [e0] at hr0
    rw [e1] at hr1
    have hN : G.off 2 ≤ 400 := by have := hok0.len; have := hok1.len; omega
    have hx : isV (G.off 2) u = true := by rw [hoff]; exact isV_more hok0.root
    have hy : isV (G.off 2) (sh n u') = true := by rw [hoff]; exact sh_isV hok1.root
    have HR : Hid (∀ b, b = alike T (fstV f u) (fstV f (sh n u')) → SameRes (.returned (.bool b)) n m u u' L L' K X K' X') := show ∀ b, _ from fun b hb => by
      subst hb
      refine Or.inl ⟨⟨hok0, hok1⟩, f, ?_, by rw [alike_fst hd.tbs.inj hd.is.low hx hy]⟩
      have h2 := hd.srt
      have h3 := hd.is
      have t0 := hd.cmb.tab 0 (by omega)
      have t1 := hd.cmb.tab 1 (by omega)
      rw [HGd.out] at t0 t1
      rw [hoff] at h2 h3
      simp only [GrS.off, two, Nat.zero_add, sh_zero, if_true, Nat.one_ne_zero, if_false] at t0 t1
      have hL : ∀ j, j < n + m → Lc j = jn n L L' j := fun j hj => by
        by_cases e : j < n
        · rw [jn_lt e]; exact (t0 j e).1
        · rw [jn_ge e]; have := (t1 (j - n) (by omega)).1; rw [show n + (j - n) = j by omega] at this; exact this
      have hK : ∀ j, j < n + m → Kc j = jn n K K' j := fun j hj => by
        by_cases e : j < n
        · rw [jn_lt e]; exact (t0 j e).2.1
        · rw [jn_ge e]; have := (t1 (j - n) (by omega)).2.1; rw [show n + (j - n) = j by omega] at this; exact this
      have hX : ∀ j, j < n + m → Xc j = jn n X (fun j c => sh n (X' j c)) j := fun j hj => by
        by_cases e : j < n
        · rw [jn_lt e]; exact funext (t0 j e).2.2
        · rw [jn_ge e]; have := funext (t1 (j - n) (by omega)).2.2; rw [show n + (j - n) = j by omega] at this; exact this
      exact ⟨ls, fun r hr => by rw [← hK r hr, ← hL r hr]; exact h2 r hr, h3.agree hL (fun j hj => by unfold sK; rw [hK j hj]) (fun j hj => by unfold sK; rw [hX j hj])⟩
    obtain ⟨w2, hw2⟩ : ∃ w2, w2 = w1.alloc (.cells #[.slice (some ⟨rb, 0, none⟩) 2 rc, .slice va (G.off 2) vc, .slice (some ⟨cb, 0, none⟩) (G.off 2) (G.off 2)] 87) := ⟨_, rfl⟩
    have hb2 : Below w1.heap.size w1 w2 := by rw [hw2]; exact (Below.refl _ _).alloc (Nat.le_refl _) _
    have HB2 : Hid (Below w.heap.size w w2) := grw HB1.out hb2
    have H2 : w2.heap[w1.heap.size]? = some (.cells #[.slice (some ⟨rb, 0, none⟩) 2 rc, .slice va (G.off 2) vc, .slice (some ⟨cb, 0, none⟩) (G.off 2) (G.off 2)] 87 (0, 0)) := by rw [hw2]; exact heap_alloc_new _ _
    obtain ⟨cc, hcc⟩ : ∃ cc, w1.heap.size = cc := ⟨_, rfl⟩
    rw [hcc] at H2
    obtain ⟨c0, c1, c2, _⟩ := three_at H2
    have HF1 : Hid (∀ w', Below w2.heap.size w2 w' → Calls Try.prog 65 #[.agg #[.slice (some ⟨rb, 0, none⟩) 2 rc, .slice va (G.off 2) vc, .slice (some ⟨cb, 0, none⟩) (G.off 2) (G.off 2)], ifv T u] w' fun e w'' => e = .returned (ifv T (fstV f u)) ∧ Below w'.heap.size w' w'') := show ∀ _, _ from fun w' hb => hd.first hN u w' hx (grw hb2 hb)
    have HF2 : Hid (∀ w', Below w2.heap.size w2 w' → Calls Try.prog 65 #[.agg #[.slice (some ⟨rb, 0, none⟩) 2 rc, .slice va (G.off 2) vc, .slice (some ⟨cb, 0, none⟩) (G.off 2) (G.off 2)], ifv T (sh n u')] w' fun e w'' => e = .returned (ifv T (fstV f (sh n u'))) ∧ Below w'.heap.size w' w'') := show ∀ _, _ from fun w' hb => hd.first hN (sh n u') w' hy (grw hb2 hb)
    have HEQ : Hid (∀ w', Below w2.heap.size w2 w' → (binOp .eql 67 (ifv T (fstV f u)) (ifv T (fstV f (sh n u')))).run Try.prog w' = .ok (.bool (alike T (fstV f u) (fstV f (sh n u')))) w') := show ∀ _, _ from fun w' hb => eql_ifv T (fstV_isV hd.is.low hx) (fstV_isV hd.is.low hy) w' (fun j hj => by
      obtain ⟨ord, a1, _⟩ := hd.tbs.tab j hj
      unfold TabB at a1
      exact ⟨_, _, ((grw hb2 hb).block _ (blk_lt a1)).trans a1⟩)
    have r0 : w2.cell? ⟨rb, 0, none⟩ = some (ifv T u) := (hb2.cell (World.block_lt_of_cell? _ _ hr0)).trans hr0
    have r1 : w2.cell? ⟨rb, 1, none⟩ = some (ifv T (sh n u')) := (hb2.cell (World.block_lt_of_cell? _ _ hr1)).trans hr1
    obtain ⟨bq, hbq⟩ : ∃ bq, alike T (fstV f u) (fstV f (sh n u')) = bq := ⟨_, rfl⟩
    rw [hbq] at HEQ HR
    obtain ⟨ut, uy, hxv⟩ := ifv_form T u
    obtain ⟨vt, vy, hyv⟩ := ifv_form T (sh n u')
    obtain ⟨pt, py, hpv⟩ := ifv_form T (fstV f u)
    obtain ⟨st, sy, hsv⟩ := ifv_form T (fstV f (sh n u'))
    rw [hxv] at r0 HF1
    rw [hyv] at r1 HF2
    rw [hpv] at HF1 HEQ
    rw [hsv] at HF2 HEQ
    replace c0 := cellB c0
    replace c1 := cellB c1
    replace c2 := cellB c2
    replace r0 := cellB r0
    replace r1 := cellB r1
    obtain ⟨NN, hNN⟩ : ∃ NN, G.off 2 = NN := ⟨_, rfl⟩
    rw [hNN] at c1 c2 HF1 HF2 hw2 ⊢
    clear hd hr0 hr1 e0 e1 hN hx hy hb2 hxv hyv hpv hsv hbq H2 hok0 hok1 hoff hNN HGs HGd hb1
    go_wp2
    try rw [hcc] at hw2
    try rw [hcc]
    rw [← hw2]
    clear hw2 hcc
    refine wp_region_held_drew (S := fun x => Below w2.heap.size w2 x) (by kernel_rfl) (Below.refl _ _).drew (fun hHeld => ?_)
    refine wpAnyH_take (i := 0) (v := .bool true) rfl (by kernel_rfl) (by kernel_rfl) (by kernel_rfl) (fun _ _ _ h => h) (Or.inl ⟨by rfl, fun w hSw => ?_⟩) hHeld ?_
    · first | rfl | go_simp
    simp only [Act.put, List.setIfInBounds_toArray, List.set_cons_zero, List.set_cons_succ, List.getElem_toArray, List.getElem_cons_zero]
    refine wpAnyH_take (i := 1) (v := .bool true) rfl (by kernel_rfl) (by kernel_rfl) (by kernel_rfl) (fun _ _ _ h => h) (Or.inl ⟨by rfl, fun w hSw => ?_⟩) hHeld ?_
    · first | rfl | go_simp
    simp only [Act.put, List.setIfInBounds_toArray, List.set_cons_zero, List.set_cons_succ, List.getElem_toArray, List.getElem_cons_zero, List.getElem_cons_succ]
    refine wpAnyH_take (i := 2) (v := .agg #[.slice (some ⟨rb, 0, none⟩) 2 rc, .slice va NN vc, .slice (some ⟨cb, 0, none⟩) NN NN]) rfl (by kernel_rfl) (by kernel_rfl) (by kernel_rfl) (fun _ _ _ h => h) (Or.inl ⟨by rfl, fun w hSw => ?_⟩) hHeld ?_
    · have q0 := c0 w hSw; have q1 := c1 w hSw; have q2 := c2 w hSw; first | rfl | go_simp
    simp only [Act.put, List.setIfInBounds_toArray, List.set_cons_zero, List.set_cons_succ, List.getElem_toArray, List.getElem_cons_zero, List.getElem_cons_succ]
    refine wpAnyH_take (i := 3) (v := .pointer (some ⟨cc, 0, none⟩)) rfl (by kernel_rfl) (by kernel_rfl) (by kernel_rfl) (fun _ _ _ h => h) (Or.inl ⟨by rfl, fun w hSw => ?_⟩) hHeld ?_
    · first | rfl | go_simp
    simp only [Act.put, List.setIfInBounds_toArray, List.set_cons_zero, List.set_cons_succ, List.getElem_toArray, List.getElem_cons_zero, List.getElem_cons_succ]
    refine wpAnyH_take (i := 4) (v := .slice (some ⟨rb, 0, none⟩) 2 rc) rfl (by kernel_rfl) (by kernel_rfl) (by kernel_rfl) (fun _ _ _ h => h) (Or.inl ⟨by rfl, fun w hSw => ?_⟩) hHeld ?_
    · have q0 := c0 w hSw; first | rfl | go_simp
    simp only [Act.put, List.setIfInBounds_toArray, List.set_cons_zero, List.set_cons_succ, List.getElem_toArray, List.getElem_cons_zero, List.getElem_cons_succ]
    refine wpAnyH_take (i := 5) (v := .pointer (some ⟨rb, 0, none⟩)) rfl (by kernel_rfl) (by kernel_rfl) (by kernel_rfl) (fun _ _ _ h => h) (Or.inl ⟨by rfl, fun w hSw => ?_⟩) hHeld ?_
    · first | rfl | go_simp
    simp only [Act.put, List.setIfInBounds_toArray, List.set_cons_zero, List.set_cons_succ, List.getElem_toArray, List.getElem_cons_zero, List.getElem_cons_succ]
    refine wpAnyH_take (i := 6) (v := .iface ut uy) rfl (by kernel_rfl) (by kernel_rfl) (by kernel_rfl) (fun _ _ _ h => h) (Or.inl ⟨by rfl, fun w hSw => ?_⟩) hHeld ?_
    · have q0 := r0 w hSw; first | rfl | go_simp
    simp only [Act.put, List.setIfInBounds_toArray, List.set_cons_zero, List.set_cons_succ, List.getElem_toArray, List.getElem_cons_zero, List.getElem_cons_succ]
    refine wpAnyH_take (i := 8) (v := .agg #[.slice (some ⟨rb, 0, none⟩) 2 rc, .slice va NN vc, .slice (some ⟨cb, 0, none⟩) NN NN]) rfl (by kernel_rfl) (by kernel_rfl) (by kernel_rfl) (fun _ _ _ h => h) (Or.inl ⟨by rfl, fun w hSw => ?_⟩) hHeld ?_
    · have q0 := c0 w hSw; have q1 := c1 w hSw; have q2 := c2 w hSw; first | rfl | go_simp
    simp only [Act.put, List.setIfInBounds_toArray, List.set_cons_zero, List.set_cons_succ, List.getElem_toArray, List.getElem_cons_zero, List.getElem_cons_succ]
    refine wpAnyH_take (i := 9) (v := .pointer (some ⟨cc, 0, none⟩)) rfl (by kernel_rfl) (by kernel_rfl) (by kernel_rfl) (fun _ _ _ h => h) (Or.inl ⟨by rfl, fun w hSw => ?_⟩) hHeld ?_
    · first | rfl | go_simp
    simp only [Act.put, List.setIfInBounds_toArray, List.set_cons_zero, List.set_cons_succ, List.getElem_toArray, List.getElem_cons_zero, List.getElem_cons_succ]
    refine wpAnyH_take (i := 10) (v := .slice (some ⟨rb, 0, none⟩) 2 rc) rfl (by kernel_rfl) (by kernel_rfl) (by kernel_rfl) (fun _ _ _ h => h) (Or.inl ⟨by rfl, fun w hSw => ?_⟩) hHeld ?_
    · have q0 := c0 w hSw; first | rfl | go_simp
    simp only [Act.put, List.setIfInBounds_toArray, List.set_cons_zero, List.set_cons_succ, List.getElem_toArray, List.getElem_cons_zero, List.getElem_cons_succ]
    refine wpAnyH_take (i := 11) (v := .pointer (some ⟨rb, 1, none⟩)) rfl (by kernel_rfl) (by kernel_rfl) (by kernel_rfl) (fun _ _ _ h => h) (Or.inl ⟨by rfl, fun w hSw => ?_⟩) hHeld ?_
    · first | rfl | go_simp
    simp only [Act.put, List.setIfInBounds_toArray, List.set_cons_zero, List.set_cons_succ, List.getElem_toArray, List.getElem_cons_zero, List.getElem_cons_succ]
    refine wpAnyH_take (i := 12) (v := .iface vt vy) rfl (by kernel_rfl) (by kernel_rfl) (by kernel_rfl) (fun _ _ _ h => h) (Or.inl ⟨by rfl, fun w hSw => ?_⟩) hHeld ?_
    · have q0 := r1 w hSw; first | rfl | go_simp
    simp only [Act.put, List.setIfInBounds_toArray, List.set_cons_zero, List.set_cons_succ, List.getElem_toArray, List.getElem_cons_zero, List.getElem_cons_succ]
    refine wpAnyH_ready (rs := [7]) (by kernel_rfl) (by simp) ?_
    refine AllReadyH.cons rfl (fun K' hK' => ?_) AllReadyH.nil
    have hcall := HF1.out _ hHeld
    go_simp
    refine hcall.mono ?_
    clear hcall
    rintro e w3 ⟨rfl, hb3⟩
    have hs3 : Below w2.heap.size w2 w3 := grw hHeld hb3
    refine hK'.out _ _ hs3 (fun hHeld => ?_)
    clear hK' hb3
    refine wpAnyH_ready (rs := [13]) (by kernel_rfl) (by simp) ?_
    refine AllReadyH.cons rfl (fun K' hK' => ?_) AllReadyH.nil
    have hcall := HF2.out _ hHeld
    go_simp
    refine hcall.mono ?_
    clear hcall
    rintro e w4 ⟨rfl, hb4⟩
    have hs4 : Below w2.heap.size w2 w4 := grw hHeld hb4
    refine hK'.out _ _ hs4 (fun hHeld => ?_)
    clear hK' hb4
    refine wpAnyH_take (i := 14) (v := .bool bq) rfl (by kernel_rfl) (by kernel_rfl) (by kernel_rfl) (fun _ _ _ h => h) (Or.inl ⟨by rfl, fun w hSw => ?_⟩) hHeld ?_
    · have q0 := HEQ.out w hSw; first | rfl | go_simp
    simp only [Act.put, List.setIfInBounds_toArray, List.set_cons_zero, List.set_cons_succ, List.getElem_toArray, List.getElem_cons_zero, List.getElem_cons_succ]
    refine wpAnyH_take (i := 15) (v := .bool bq) rfl (by kernel_rfl) (by kernel_rfl) (by kernel_rfl) (fun _ _ _ h => h) (Or.inl ⟨by rfl, fun w hSw => ?_⟩) hHeld ?_
    · first | rfl | go_simp
    simp only [Act.put, List.setIfInBounds_toArray, List.set_cons_zero, List.set_cons_succ, List.getElem_toArray, List.getElem_cons_zero, List.getElem_cons_succ]
    refine wpAnyH_take (i := 16) (v := .bool bq) rfl (by kernel_rfl) (by kernel_rfl) (by kernel_rfl) (fun _ _ _ h => h) (Or.inl ⟨by rfl, fun w hSw => ?_⟩) hHeld ?_
    · first | rfl | go_simp
    simp only [Act.put, List.setIfInBounds_toArray, List.set_cons_zero, List.set_cons_succ, List.getElem_toArray, List.getElem_cons_zero, List.getElem_cons_succ]
    refine wpAnyH_done (by kernel_rfl) ?_ _
    go_wp2
    go_ret
    exact ⟨HR.out _ rfl, grw HB2.out hs4⟩
  · have HN : Hid (¬ (OkG n u L K X ∧ OkG m u' L' K' X')) := by
      rw [HGd.out] at hno
      rcases (show q = 0 ∨ q = 1 by omega) with rfl | rfl
      · exact (show ¬ (OkG n u L K X ∧ OkG m u' L' K' X') from fun h => hno h.1)
      · exact (show ¬ (OkG n u L K X ∧ OkG m u' L' K' X') from fun h => hno h.2)
    obtain ⟨w2, hw2⟩ : ∃ w2, w2 = w1.alloc (.cells #[.slice none 0 0, .slice none 0 0, .slice none 0 0] 87) := ⟨_, rfl⟩
    have hb2 : Below w1.heap.size w1 w2 := by rw [hw2]; exact (Below.refl _ _).alloc (Nat.le_refl _) _
    have HB2 : Hid (Below w.heap.size w w2) := grw HB1.out hb2
    go_wp2
    rw [← hw2]
    go_quiet (fail)
    go_wp2
    go_ret
    exact ⟨Or.inr ⟨HN.out, rfl⟩, below_drewN HB2.out _⟩

end Go.Proofs.Ytgflalfiopnmnab

namespace Go.Proofs.Ytgflalfiopnmnab
open Go.RowKit Vl
open Go.ChangeShapes Go.WideShapes Go.ChangeAt Go.Joins

set_option maxHeartbeats 4000000 in
set_option maxRecDepth 100000 in
theorem sameLaw (u u' : V) (ta ta' : Option Addr) (n cp TB TO m cp' TB' TO' : Nat) (A A' : Nat → Option Addr) (L C RB RO L' C' RB' RO' : Nat → Nat) (K X K' X' : Nat → Nat → V) (w : World) (hu : u.s.size ≤ 9223372036854775807) (hn : n ≤ 9223372036854775807) (hu' : u'.s.size ≤ 9223372036854775807) (hm : m ≤ 9223372036854775807)
    (HS : Hid (Small 9223372036854775807 n L K X)) (HT : Hid (TabsAt w ta n TB TO A L C RB RO K X)) (HS' : Hid (Small 9223372036854775807 m L' K' X')) (HT' : Hid (TabsAt w ta' m TB' TO' A' L' C' RB' RO' K' X')) :
    Calls Try.prog 7 #[.agg #[.int .i64 u.k, .int .i64 u.n, .string u.s, .int .i64 u.a, .slice ta n cp], .agg #[.int .i64 u'.k, .int .i64 u'.n, .string u'.s, .int .i64 u'.a, .slice ta' m cp']] w fun e w' => e = .returned (.bool true) ∧ Below w.heap.size w w' := by
  have A2 := alloc2 w (.cells #[.int .i64 u.k, .int .i64 u.n, .string u.s, .int .i64 u.a, .slice ta n cp] 26) (.cells #[.int .i64 u'.k, .int .i64 u'.n, .string u'.s, .int .i64 u'.a, .slice ta' m cp'] 26)
  obtain ⟨w0, hw0⟩ : ∃ w0, w0 = (w.alloc (.cells #[.int .i64 u.k, .int .i64 u.n, .string u.s, .int .i64 u.a, .slice ta n cp] 26)).alloc (.cells #[.int .i64 u'.k, .int .i64 u'.n, .string u'.s, .int .i64 u'.a, .slice ta' m cp'] 26) := ⟨_, rfl⟩
  rw [← hw0] at A2
  have HB0 : Hid (Below w.heap.size w w0) := A2.2.2.2
  have G0 : Hid (w0.heap[w.heap.size]? = some (.cells #[.int .i64 u.k, .int .i64 u.n, .string u.s, .int .i64 u.a, .slice ta n cp] 26 (0, 0))) := A2.1
  have J0 : Hid (w0.heap[w.heap.size + 1]? = some (.cells #[.int .i64 u'.k, .int .i64 u'.n, .string u'.s, .int .i64 u'.a, .slice ta' m cp'] 26 (0, 0))) := A2.2.1
  clear A2
  have hsz := szGraph_any u ta n cp TB TO A L C RB RO K X 1048576 w0 (by omega) (by omega) hu hn HS (HT.out.below HB0.out)
  go_enter Try.func7, Try.ntmps7
  go_wp2_with fail
  rw [← hw0]
  refine hsz.mono ?_
  clear hsz hw0
  rintro e w1 ⟨⟨q, rfl, hq1, hq2⟩, hb1⟩
  have G1 : Hid (w1.heap[w.heap.size]? = some (.cells #[.int .i64 u.k, .int .i64 u.n, .string u.s, .int .i64 u.a, .slice ta n cp] 26 (0, 0))) := blkB G0.out hb1
  have J1 : Hid (w1.heap[w.heap.size + 1]? = some (.cells #[.int .i64 u'.k, .int .i64 u'.n, .string u'.s, .int .i64 u'.a, .slice ta' m cp'] 26 (0, 0))) := blkB J0.out hb1
  have HB1 : Hid (Below w.heap.size w w1) := grw HB0.out hb1
  clear hb1 G0 J0 HB0
  by_cases hq : q < 0
  · clear hq2
    go_wp2
    go_ret
    exact ⟨rfl, HB1.out⟩
  obtain ⟨_, hn1, hsm⟩ := hq2 (by omega)
  have HSm : Hid (Small 1048576 n L K X) := hsm
  clear hq2 hsm HS
  have hsz := szGraph_any u' ta' m cp' TB' TO' A' L' C' RB' RO' K' X' q w1 (by omega) (by omega) hu' hm HS' (HT'.out.below HB1.out)
  obtain ⟨x0, x1, x2, x3, x4, _⟩ := cells5 J1.out
  go_wp2_with fail
  refine hsz.mono ?_
  clear hsz x0 x1 x2 x3 x4
  rintro e w2 ⟨⟨q', rfl, hq1', hq2'⟩, hb2⟩
  have G2 : Hid (w2.heap[w.heap.size]? = some (.cells #[.int .i64 u.k, .int .i64 u.n, .string u.s, .int .i64 u.a, .slice ta n cp] 26 (0, 0))) := blkB G1.out hb2
  have J2 : Hid (w2.heap[w.heap.size + 1]? = some (.cells #[.int .i64 u'.k, .int .i64 u'.n, .string u'.s, .int .i64 u'.a, .slice ta' m cp'] 26 (0, 0))) := blkB J1.out hb2
  have HB2 : Hid (Below w.heap.size w w2) := grw HB1.out hb2
  clear hb2 G1 J1 HB1
  by_cases hqq : q' < 0
  · clear hq2'
    go_wp2
    go_ret
    exact ⟨rfl, HB2.out⟩
  obtain ⟨_, hm1, hsm⟩ := hq2' (by omega)
  have HSm' : Hid (Small 1048576 m L' K' X') := hsm
  clear hq2' hsm HS'
  obtain ⟨b, hfix⟩ := same_fixed n m u u' L L' K X K' X'
  have HFX : Hid (∀ e, SameRes e n m u u' L L' K X K' X' → e = .returned (.bool b)) := hfix
  clear hfix
  obtain ⟨g0, g1, g2, g3, g4, _⟩ := cells5 G2.out
  obtain ⟨x0, x1, x2, x3, x4, _⟩ := cells5 J2.out
  have HGc : Hid (∀ w', Below w2.heap.size w2 w' → w'.cell? ⟨w.heap.size, 0, none⟩ = some (.int .i64 u.k) ∧ w'.cell? ⟨w.heap.size, 1, none⟩ = some (.int .i64 u.n) ∧ w'.cell? ⟨w.heap.size, 2, none⟩ = some (.string u.s) ∧ w'.cell? ⟨w.heap.size, 3, none⟩ = some (.int .i64 u.a) ∧ w'.cell? ⟨w.heap.size, 4, none⟩ = some (.slice ta n cp)) := show ∀ _, _ from fun w' hb => ⟨cellB g0 w' hb, cellB g1 w' hb, cellB g2 w' hb, cellB g3 w' hb, cellB g4 w' hb⟩
  have HXc : Hid (∀ w', Below w2.heap.size w2 w' → w'.cell? ⟨w.heap.size + 1, 0, none⟩ = some (.int .i64 u'.k) ∧ w'.cell? ⟨w.heap.size + 1, 1, none⟩ = some (.int .i64 u'.n) ∧ w'.cell? ⟨w.heap.size + 1, 2, none⟩ = some (.string u'.s) ∧ w'.cell? ⟨w.heap.size + 1, 3, none⟩ = some (.int .i64 u'.a) ∧ w'.cell? ⟨w.heap.size + 1, 4, none⟩ = some (.slice ta' m cp')) := show ∀ _, _ from fun w' hb => ⟨cellB x0 w' hb, cellB x1 w' hb, cellB x2 w' hb, cellB x3 w' hb, cellB x4 w' hb⟩
  clear g0 g1 g2 g3 g4 x0 x1 x2 x3 x4
  have hto := toGraph_any u ta n cp TB TO A L C RB RO K X w2.drew hn1 HSm (HT.out.below (HB2.out.drew))
  go_wp2
  refine wp_region_held_drew (S := fun x => Below w2.heap.size w2 x) (by kernel_rfl) (Below.refl _ _).drew (fun hHeld => ?_)
  refine wpAnyH_take (i := 0) (v := .agg #[.int .i64 u.k, .int .i64 u.n, .string u.s, .int .i64 u.a, .slice ta n cp]) rfl (by kernel_rfl) (by kernel_rfl) (by kernel_rfl) (fun _ _ _ h => h) (Or.inl ⟨by rfl, fun w hSw => ?_⟩) hHeld ?_
  · obtain ⟨q0, q1, q2, q3, q4⟩ := HGc.out w hSw; first | rfl | go_simp
  simp only [Act.put, List.setIfInBounds_toArray, List.set_cons_zero, List.set_cons_succ, List.getElem_toArray, List.getElem_cons_zero]
  refine wpAnyH_take (i := 2) (v := .agg #[.int .i64 u'.k, .int .i64 u'.n, .string u'.s, .int .i64 u'.a, .slice ta' m cp']) rfl (by kernel_rfl) (by kernel_rfl) (by kernel_rfl) (fun _ _ _ h => h) (Or.inl ⟨by rfl, fun w hSw => ?_⟩) hHeld ?_
  · obtain ⟨q0, q1, q2, q3, q4⟩ := HXc.out w hSw; first | rfl | go_simp
  simp only [Act.put, List.setIfInBounds_toArray, List.set_cons_zero, List.set_cons_succ, List.getElem_toArray, List.getElem_cons_zero, List.getElem_cons_succ]
  refine wpAnyH_ready (rs := [1]) (by kernel_rfl) (by simp) ?_
  refine AllReadyH.cons rfl (fun KK hK' => ?_) AllReadyH.nil
  have hcall := hto
  go_simp
  refine hcall.mono ?_
  clear hcall
  rintro e w3 ⟨⟨B3, rfl, _, w03, H3, _, hC3, hR3⟩, hb3⟩
  have hs3 : Below w2.heap.size w2 w3 := grw hHeld hb3
  have HT3 : Hid (TabsAt w3 (some ⟨B3, 0, none⟩) n B3 0 (fun r => some ⟨H3 r, 0, none⟩) L L H3 (fun _ => 0) K X) := hC3.tabs hR3
  have HBw3 : Hid (Below w.heap.size w w3) := grw HB2.out hs3
  clear hto hC3 hR3 hb3
  refine hK'.out _ _ hs3 (fun hHeld => ?_)
  clear hK'
  refine wpAnyH_ready (rs := [3]) (by kernel_rfl) (by simp) ?_
  refine AllReadyH.cons rfl (fun KK hK' => ?_) AllReadyH.nil
  have hcall := toGraph_any u' ta' m cp' TB' TO' A' L' C' RB' RO' K' X' w3 hm1 HSm' (HT'.out.below HBw3.out)
  go_simp
  refine hcall.mono ?_
  clear hcall
  rintro e w4 ⟨⟨B4, rfl, _, w04, H4, _, hC4, hR4⟩, hb4⟩
  have hs4 : Below w2.heap.size w2 w4 := grw hHeld hb4
  have HT4 : Hid (TabsAt w4 (some ⟨B4, 0, none⟩) m B4 0 (fun r => some ⟨H4 r, 0, none⟩) L' L' H4 (fun _ => 0) K' X') := hC4.tabs hR4
  have HT34 : Hid (TabsAt w4 (some ⟨B3, 0, none⟩) n B3 0 (fun r => some ⟨H3 r, 0, none⟩) L L H3 (fun _ => 0) K X) := HT3.out.below hb4
  clear hC4 hR4 hb4 HT3 hs3 HBw3
  refine hK'.out _ _ hs4 (fun hHeld => ?_)
  clear hK'
  refine wpAnyH_ready (rs := [4]) (by kernel_rfl) (by simp) ?_
  refine AllReadyH.cons rfl (fun KK hK' => ?_) AllReadyH.nil
  have hcall := specSame_any u u' (some ⟨B3, 0, none⟩) (some ⟨B4, 0, none⟩) n n B3 0 m m B4 0 _ _ L _ _ _ L' _ _ _ K X K' X' w4 hn1 hm1 HSm HSm' HT34 HT4
  go_simp
  refine hcall.mono ?_
  clear hcall
  rintro e w5 ⟨hres, hb5⟩
  have hs5 : Below w2.heap.size w2 w5 := grw hHeld hb5
  obtain rfl := HFX.out _ hres
  have HB5 : Hid (Below w.heap.size w w5) := grw HB2.out hs5
  have G5 : Hid (w5.heap[w.heap.size]? = some (.cells #[.int .i64 u.k, .int .i64 u.n, .string u.s, .int .i64 u.a, .slice ta n cp] 26 (0, 0))) := blkB G2.out hs5
  have J5 : Hid (w5.heap[w.heap.size + 1]? = some (.cells #[.int .i64 u'.k, .int .i64 u'.n, .string u'.s, .int .i64 u'.a, .slice ta' m cp'] 26 (0, 0))) := blkB J2.out hs5
  clear hres hb5 HT34 HT4 hs4
  refine hK'.out _ _ hs5 (fun hHeld => ?_)
  clear hK'
  refine wpAnyH_take (i := 5) (v := .bool b) rfl (by kernel_rfl) (by kernel_rfl) (by kernel_rfl) (fun _ _ _ h => h) (Or.inl ⟨by rfl, fun w hSw => ?_⟩) hHeld ?_
  · first | rfl | go_simp
  simp only [Act.put, List.setIfInBounds_toArray, List.set_cons_zero, List.set_cons_succ, List.getElem_toArray, List.getElem_cons_zero, List.getElem_cons_succ]
  refine wpAnyH_done (by kernel_rfl) ?_ _
  clear hHeld hs5 HGc HXc G2 J2 HB2
  obtain ⟨g0, g1, g2, g3, g4, _⟩ := cells5 G5.out
  have hto := toGraph_any u ta n cp TB TO A L C RB RO K X w5 hn1 HSm (HT.out.below HB5.out)
  go_wp2_with fail
  refine hto.mono ?_
  clear hto g0 g1 g2 g3 g4
  rintro e w6 ⟨⟨B6, rfl, _, w06, H6, _, hC6, hR6⟩, hb6⟩
  obtain ⟨w7, hw7⟩ : ∃ w7, w7 = w6.alloc (.cells #[.int .i64 u.k, .int .i64 u.n, .string u.s, .int .i64 u.a, .slice (some ⟨B6, 0, none⟩) n n] 32) := ⟨_, rfl⟩
  have HB67 : Hid (Below w6.heap.size w6 w7) := by rw [hw7]; exact (Below.refl _ _).alloc (Nat.le_refl _) _
  have Y7 : Hid (w7.heap[w6.heap.size]? = some (.cells #[.int .i64 u.k, .int .i64 u.n, .string u.s, .int .i64 u.a, .slice (some ⟨B6, 0, none⟩) n n] 32 (0, 0))) := by rw [hw7]; exact heap_alloc_new _ _
  have HT7 : Hid (TabsAt w7 (some ⟨B6, 0, none⟩) n B6 0 (fun r => some ⟨H6 r, 0, none⟩) L L H6 (fun _ => 0) K X) := (hC6.tabs hR6).below HB67.out
  have HB7 : Hid (Below w.heap.size w w7) := grw (grw HB5.out hb6) HB67.out
  have G7 : Hid (w7.heap[w.heap.size]? = some (.cells #[.int .i64 u.k, .int .i64 u.n, .string u.s, .int .i64 u.a, .slice ta n cp] 26 (0, 0))) := blkB (blkB G5.out hb6) HB67.out
  have J7 : Hid (w7.heap[w.heap.size + 1]? = some (.cells #[.int .i64 u'.k, .int .i64 u'.n, .string u'.s, .int .i64 u'.a, .slice ta' m cp'] 26 (0, 0))) := blkB (blkB J5.out hb6) HB67.out
  obtain ⟨yb, hyb⟩ : ∃ yb, w6.heap.size = yb := ⟨_, rfl⟩
  rw [hyb] at Y7
  obtain ⟨x0, x1, x2, x3, x4, _⟩ := cells5 J7.out
  rw [hw7] at x0 x1 x2 x3 x4
  have hto := toGraph_any u' ta' m cp' TB' TO' A' L' C' RB' RO' K' X' w7 hm1 HSm' (HT'.out.below HB7.out)
  clear hb6 hC6 hR6 G5 J5 HB5 HB67
  go_wp2_with fail
  rw [← hw7]
  refine hto.mono ?_
  clear hto hw7 hyb x0 x1 x2 x3 x4
  rintro e w8 ⟨⟨B8, rfl, _, w08, H8, _, hC8, hR8⟩, hb8⟩
  obtain ⟨w9, hw9⟩ : ∃ w9, w9 = w8.alloc (.cells #[.int .i64 u'.k, .int .i64 u'.n, .string u'.s, .int .i64 u'.a, .slice (some ⟨B8, 0, none⟩) m m] 32) := ⟨_, rfl⟩
  have HB89 : Hid (Below w8.heap.size w8 w9) := by rw [hw9]; exact (Below.refl _ _).alloc (Nat.le_refl _) _
  have Z9 : Hid (w9.heap[w8.heap.size]? = some (.cells #[.int .i64 u'.k, .int .i64 u'.n, .string u'.s, .int .i64 u'.a, .slice (some ⟨B8, 0, none⟩) m m] 32 (0, 0))) := by rw [hw9]; exact heap_alloc_new _ _
  have HT9 : Hid (TabsAt w9 (some ⟨B6, 0, none⟩) n B6 0 (fun r => some ⟨H6 r, 0, none⟩) L L H6 (fun _ => 0) K X) := (HT7.out.below hb8).below HB89.out
  have HT9' : Hid (TabsAt w9 (some ⟨B8, 0, none⟩) m B8 0 (fun r => some ⟨H8 r, 0, none⟩) L' L' H8 (fun _ => 0) K' X') := (hC8.tabs hR8).below HB89.out
  have HB9 : Hid (Below w.heap.size w w9) := grw (grw HB7.out hb8) HB89.out
  have G9 : Hid (w9.heap[w.heap.size]? = some (.cells #[.int .i64 u.k, .int .i64 u.n, .string u.s, .int .i64 u.a, .slice ta n cp] 26 (0, 0))) := blkB (blkB G7.out hb8) HB89.out
  have J9 : Hid (w9.heap[w.heap.size + 1]? = some (.cells #[.int .i64 u'.k, .int .i64 u'.n, .string u'.s, .int .i64 u'.a, .slice ta' m cp'] 26 (0, 0))) := blkB (blkB J7.out hb8) HB89.out
  have Y9 : Hid (w9.heap[yb]? = some (.cells #[.int .i64 u.k, .int .i64 u.n, .string u.s, .int .i64 u.a, .slice (some ⟨B6, 0, none⟩) n n] 32 (0, 0))) := blkB (blkB Y7.out hb8) HB89.out
  have hyl : yb < w8.heap.size := Nat.lt_of_lt_of_le (blk_lt Y7.out) hb8.size
  obtain ⟨zb, hzb⟩ : ∃ zb, w8.heap.size = zb := ⟨_, rfl⟩
  rw [hzb] at Z9
  obtain ⟨y0, y1, y2, y3, y4, _⟩ := cells5 Y9.out
  obtain ⟨z0, z1, z2, z3, z4, _⟩ := cells5 Z9.out
  rw [hw9] at y0 y1 y2 y3 y4 z0 z1 z2 z3 z4
  have him := implSame_any u u' (some ⟨B6, 0, none⟩) (some ⟨B8, 0, none⟩) n n B6 0 m m B8 0 _ _ L _ _ _ L' _ _ _ K X K' X' w9 hn1 hm1 HSm HSm' HT9 HT9'
  clear hb8 hC8 hR8 G7 J7 HB7 HB89 Y7 HT7
  go_wp2_with fail
  rw [← hw9]
  refine him.mono ?_
  clear him hw9 hzb y0 y1 y2 y3 y4 z0 z1 z2 z3 z4 hyl
  rintro e wA ⟨hres, hbA⟩
  obtain rfl := HFX.out _ hres
  have HTA : Hid (TabsAt wA (some ⟨B6, 0, none⟩) n B6 0 (fun r => some ⟨H6 r, 0, none⟩) L L H6 (fun _ => 0) K X) := HT9.out.below hbA
  have HTA' : Hid (TabsAt wA (some ⟨B8, 0, none⟩) m B8 0 (fun r => some ⟨H8 r, 0, none⟩) L' L' H8 (fun _ => 0) K' X') := HT9'.out.below hbA
  have HBA : Hid (Below w.heap.size w wA) := grw HB9.out hbA
  have GA : Hid (wA.heap[w.heap.size]? = some (.cells #[.int .i64 u.k, .int .i64 u.n, .string u.s, .int .i64 u.a, .slice ta n cp] 26 (0, 0))) := blkB G9.out hbA
  have JA : Hid (wA.heap[w.heap.size + 1]? = some (.cells #[.int .i64 u'.k, .int .i64 u'.n, .string u'.s, .int .i64 u'.a, .slice ta' m cp'] 26 (0, 0))) := blkB J9.out hbA
  have YA : Hid (wA.heap[yb]? = some (.cells #[.int .i64 u.k, .int .i64 u.n, .string u.s, .int .i64 u.a, .slice (some ⟨B6, 0, none⟩) n n] 32 (0, 0))) := blkB Y9.out hbA
  have ZA : Hid (wA.heap[zb]? = some (.cells #[.int .i64 u'.k, .int .i64 u'.n, .string u'.s, .int .i64 u'.a, .slice (some ⟨B8, 0, none⟩) m m] 32 (0, 0))) := blkB Z9.out hbA
  clear hres hbA HT9 HT9' HB9 G9 J9 Y9 Z9 HFX
  have hbb : (b != b) = false := by simp
  obtain ⟨g0, g1, g2, g3, g4, _⟩ := cells5 GA.out
  obtain ⟨x0, x1, x2, x3, x4, _⟩ := cells5 YA.out
  have hto := toGraph_any u ta n cp TB TO A L C RB RO K X wA.drew hn1 HSm (HT.out.below HBA.out.drew)
  go_wp2
  go_region_held3 (fun w' => (w'.cell? ⟨yb, 0, none⟩ = some (.int .i64 u.k) ∧ w'.cell? ⟨yb, 1, none⟩ = some (.int .i64 u.n) ∧ w'.cell? ⟨yb, 2, none⟩ = some (.string u.s) ∧ w'.cell? ⟨yb, 3, none⟩ = some (.int .i64 u.a) ∧ w'.cell? ⟨yb, 4, none⟩ = some (.slice (some ⟨B6, 0, none⟩) n n)) ∧ (w'.cell? ⟨w.heap.size, 0, none⟩ = some (.int .i64 u.k) ∧ w'.cell? ⟨w.heap.size, 1, none⟩ = some (.int .i64 u.n) ∧ w'.cell? ⟨w.heap.size, 2, none⟩ = some (.string u.s) ∧ w'.cell? ⟨w.heap.size, 3, none⟩ = some (.int .i64 u.a) ∧ w'.cell? ⟨w.heap.size, 4, none⟩ = some (.slice ta n cp)) ∧ Hid (Below w.heap.size w w'))
    (first | exact keep55 ‹_ ∧ _› hbD | exact keep55 ‹_ ∧ _› hbC | exact ⟨⟨x0, x1, x2, x3, x4⟩, ⟨g0, g1, g2, g3, g4⟩, HBA.out.drew⟩)
    (first
      | (go_at_call 13; refine hto.mono ?_; rintro e wC ⟨⟨BC, rfl, _, w0C, HC, _, hCC, hRC⟩, hbC⟩)
      | (go_at_call 15; refine (eqGraph_same u (some ⟨B6, 0, none⟩) (some ⟨BC, 0, none⟩) n n n B6 0 BC 0 _ _ L _ _ _ _ _ _ K X _ hn1 HSm ((HTA.out.below ((Below.refl _ _).drew)).below hbC) (hCC.tabs hRC)).mono ?_; rintro e wD ⟨rfl, hbD⟩))
  rename_i hS
  clear hS hCC hRC g0 g1 g2 g3 g4 x0 x1 x2 x3 x4 hto HTA GA YA
  have hbAD : Below wA.heap.size wA wD := (((Below.refl _ _).drew (w := wA)).trans (show Below wA.heap.size wA.drew wC from hbC)).trans (hbD.mono hbC.size)
  have HTD : Hid (TabsAt wD (some ⟨B8, 0, none⟩) m B8 0 (fun r => some ⟨H8 r, 0, none⟩) L' L' H8 (fun _ => 0) K' X') := HTA'.out.below hbAD
  have HBD : Hid (Below w.heap.size w wD) := grw HBA.out hbAD
  have JD : Hid (wD.heap[w.heap.size + 1]? = some (.cells #[.int .i64 u'.k, .int .i64 u'.n, .string u'.s, .int .i64 u'.a, .slice ta' m cp'] 26 (0, 0))) := blkB JA.out hbAD
  have ZD : Hid (wD.heap[zb]? = some (.cells #[.int .i64 u'.k, .int .i64 u'.n, .string u'.s, .int .i64 u'.a, .slice (some ⟨B8, 0, none⟩) m m] 32 (0, 0))) := blkB ZA.out hbAD
  clear hbAD hbC hbD HTA' HBA JA ZA
  obtain ⟨g0, g1, g2, g3, g4, _⟩ := cells5 JD.out
  obtain ⟨x0, x1, x2, x3, x4, _⟩ := cells5 ZD.out
  have hto := toGraph_any u' ta' m cp' TB' TO' A' L' C' RB' RO' K' X' wD.drew hm1 HSm' (HT'.out.below HBD.out.drew)
  go_wp2
  go_region_held3 (fun w' => (w'.cell? ⟨zb, 0, none⟩ = some (.int .i64 u'.k) ∧ w'.cell? ⟨zb, 1, none⟩ = some (.int .i64 u'.n) ∧ w'.cell? ⟨zb, 2, none⟩ = some (.string u'.s) ∧ w'.cell? ⟨zb, 3, none⟩ = some (.int .i64 u'.a) ∧ w'.cell? ⟨zb, 4, none⟩ = some (.slice (some ⟨B8, 0, none⟩) m m)) ∧ (w'.cell? ⟨w.heap.size + 1, 0, none⟩ = some (.int .i64 u'.k) ∧ w'.cell? ⟨w.heap.size + 1, 1, none⟩ = some (.int .i64 u'.n) ∧ w'.cell? ⟨w.heap.size + 1, 2, none⟩ = some (.string u'.s) ∧ w'.cell? ⟨w.heap.size + 1, 3, none⟩ = some (.int .i64 u'.a) ∧ w'.cell? ⟨w.heap.size + 1, 4, none⟩ = some (.slice ta' m cp')) ∧ Hid (Below w.heap.size w w'))
    (first | exact keep55 ‹_ ∧ _› hbF | exact keep55 ‹_ ∧ _› hbE | exact ⟨⟨x0, x1, x2, x3, x4⟩, ⟨g0, g1, g2, g3, g4⟩, HBD.out.drew⟩)
    (first
      | (go_at_call 13; refine hto.mono ?_; rintro e wE ⟨⟨BE, rfl, _, w0E, HE, _, hCE, hRE⟩, hbE⟩)
      | (go_at_call 15; refine (eqGraph_same u' (some ⟨B8, 0, none⟩) (some ⟨BE, 0, none⟩) m m m B8 0 BE 0 _ _ L' _ _ _ _ _ _ K' X' _ hm1 HSm' ((HTD.out.below ((Below.refl _ _).drew)).below hbE) (hCE.tabs hRE)).mono ?_; rintro e wF ⟨rfl, hbF⟩))
  rename_i hS
  have HBF := hS.2.2
  clear hS hCE hRE g0 g1 g2 g3 g4 x0 x1 x2 x3 x4 hto hbE hbF
  go_wp2
  go_ret
  exact ⟨rfl, HBF.out⟩

set_option maxHeartbeats 2000000 in
set_option maxRecDepth 100000 in
theorem sameLifted (os : Os) (started : os.Started) (H : Type) (enc : TypeId × Value → H) :
    ReturnsInHanded {} Try.checked os 7 .any (Rows.fnExactSameSpec.pre6 enc Try.prog Try.f7 Rows.fnExactSameRow.domain false) (Rows.fnExactSameSpec.post enc Try.prog Try.f7 false true false false) := by
  refine returnsInHanded_of_change (C := Try.checked) ownG started (by kernel_rfl) Try.func7
    (ChangeSpec.witness6 (enc := enc) (C := Try.checked) false ⟨#[], #[.agg #[.int .i64 0, .int .i64 0, .string ⟨#[]⟩, .int .i64 0, .slice none 0 0], .agg #[.int .i64 0, .int .i64 0, .string ⟨#[]⟩, .int .i64 0, .slice none 0 0]], []⟩ 8 (by kernel_rfl) (by kernel_rfl) (by kernel_rfl) (by kernel_rfl)) ?_
  intro W base args ds gs before hval0 hW hcnd _
  have hval : ∀ (j : Nat) t v, Try.f7.params[j]? = some t → args[j]? = some v → Value.okWide Try.prog W .any base t v := hval0
  have hW' := hW
  obtain ⟨p, q, hA0, hV, rfl, hfz, hnd⟩ := hW
  have hA : DataW.TrodAll enc Try.prog W 0 (fun _ => true) true Try.f7.params.toList args.toList ds p := hA0
  rw [Try.params7] at hA hval
  obtain ⟨v0, vs0, d0, ds0, p0, q0, hargs, rfl, rfl, h0, r0⟩ := trodAll_cons hA
  obtain ⟨v1, vs1, d1, ds1, p1, q1, hargs1, rfl, rfl, h1, r1⟩ := trodAll_cons r0
  obtain ⟨rfl, rfl, rfl⟩ := trodAll_nil r1
  subst hargs1
  obtain rfl : args = #[v0, v1] := by cases args; simp_all
  obtain ⟨rfl, rfl⟩ := trodVars_none hV
  have k0 := h0
  have k1 := h1
  have lt0 : ∀ x ∈ p0, x.block < W.heap.size := by obtain ⟨m, hm⟩ := k0; exact DataW.trod_lt m _ _ _ hm
  have lt1 : ∀ x ∈ p1, x.block < W.heap.size := by obtain ⟨m, hm⟩ := k1; exact DataW.trod_lt m _ _ _ hm
  obtain ⟨u, ta, n, cp, TB, TO, A, L, C, RB, RO, K, X, rfl, hu, hn, hT, hS⟩ := opens_graph (hval 0 26 v0 rfl rfl) h0
  obtain ⟨u', ta', m, cp', TB', TO', A', L', C', RB', RO', K', X', rfl, hu', hm, hT', hS'⟩ := opens_graph (hval 1 26 v1 rfl rfl) h1
  clear hA0 hval0
  refine (sameLaw u u' ta ta' n cp TB TO m cp' TB' TO' A A' L C RB RO L' C' RB' RO' K X K' X' W hu hn hu' hm hS hT hS' hT').mono fun e W' ⟨he, bel⟩ => ?_
  subst he
  exact ⟨_, rfl, _, _, _, [], _, [], hW', trodAll_mk1 (shut_bool Try.underlying4 _), (trodAll_cons_mk (Below.trod laidOutG (by kernel_rfl) (of_decide_eq_true (by kernel_rfl)) k0 bel lt0) (trodAll_cons_mk (Below.trod laidOutG (by kernel_rfl) (of_decide_eq_true (by kernel_rfl)) k1 bel lt1) trodAll_mk0)), rfl, bel.frame _, fun h => by cases h⟩

theorem same_holds : Rows.FnExactSameSaid :=
  OpenClaim.holds_of_wide 7 Try.f7 rfl rfl rfl rfl rfl rfl rfl ⟨rfl, rfl, rfl, rfl, rfl⟩ rfl rfl rfl rfl rfl (by kernel_rfl) Try.func7 (by kernel_rfl)
    (of_decide_eq_true (by kernel_rfl)) (by unfold Func.isWrapper; first | (rw [if_pos (by decide +kernel)]; kernel_rfl) | (rw [if_neg (by decide +kernel)]; exact ⟨rfl, rfl⟩))
    (fun os started H enc _ => sameLifted os started H enc)
#print axioms same_holds

end Go.Proofs.Ytgflalfiopnmnab
