import Derived.Test.YtgflalfiopnmnaaS13
import Derived.Test.YtgflalfiopnmnaaS10
import Derived.Test.YtgflalfiopnmnaaS12
import Derived.Test.YtgflalfiopnmnaaS11
namespace Go.Proofs.Ytgflalfiopnmnaa
open Go.RowKit Vl

/-- The last number of a pair is written. -/
theorem pairCells_setA {K X : Nat → V} {c j : Nat} (hj : j < c) (a : Int) : (pairCells K X c).set (j * 8 + 7) (.int .i64 a) = pairCells K (fun i => if i = j then ⟨(X j).k, (X j).n, (X j).s, a⟩ else X i) c := by
  apply List.ext_getElem?
  intro m
  by_cases hm : m < c * 8
  · obtain ⟨q, i, hi, rfl⟩ : ∃ q i, i < 8 ∧ m = q * 8 + i := ⟨m / 8, m % 8, by omega, by omega⟩
    have hq : q < c := by omega
    rw [pairCells_at _ _ _ _ _ hq hi]
    simp only [List.getElem?_set, pairCells_len]
    by_cases e : q = j
    · subst e
      simp only [if_true]
      by_cases e7 : i = 7
      · subst e7
        rw [if_pos rfl, if_pos (by omega)]
        rfl
      · rw [if_neg (by omega), pairCells_at K X c q i hq hi]
        rcases (show i = 0 ∨ i = 1 ∨ i = 2 ∨ i = 3 ∨ i = 4 ∨ i = 5 ∨ i = 6 by omega) with rfl | rfl | rfl | rfl | rfl | rfl | rfl <;> rfl
    · simp only [e, if_false]
      rw [if_neg (by omega)]
      exact pairCells_at K X c q i hq hi
  · rw [List.getElem?_eq_none (by simp only [List.length_set, pairCells_len]; omega), List.getElem?_eq_none (by rw [pairCells_len]; omega)]

/-- The first k values turned to the first of their class. -/
def fTo (f : Nat → Nat) (X : Nat → V) (k c : Nat) : V := if c < k then fstV f (X c) else X c
theorem fTo_tab {w : World} {b g cap l k a : Nat} {K X : Nat → V} {f : Nat → Nat} (h : w.ownsRow b 75 8 (.slice (some ⟨g, 0, none⟩) l cap) l (pairCells K (fTo f X k) l)) (hk : k < l) (h4 : (X k).k = 4) (ha : (X k).a.toNat = a) :
    (w.setCell ⟨g, k * 8 + 7, none⟩ (.int .i64 (f a : Nat))).ownsRow b 75 8 (.slice (some ⟨g, 0, none⟩) l cap) l (pairCells K (fTo f X (k + 1)) l) := by
  have e := owns_set h (k * 8 + 7) (.int .i64 (f a : Nat))
  rw [pairCells_setA hk, pairCells_congr (K' := K) (X' := fTo f X (k + 1)) (fun j hj => ⟨rfl, ?_⟩)] at e
  · exact e
  · unfold fTo
    by_cases e : j = k
    · subst e
      rw [if_pos rfl, if_neg (Nat.lt_irrefl _), if_pos (Nat.lt_succ_self _)]
      unfold fstV
      rw [if_pos h4, ha]
    · rw [if_neg e]
      by_cases h' : j < k
      · rw [if_pos h', if_pos (by omega)]
      · rw [if_neg h', if_neg (by omega)]
theorem fTo_ne {f : Nat → Nat} {X : Nat → V} {k l : Nat} {K : Nat → V} (h4 : (X k).k ≠ 4) : pairCells K (fTo f X (k + 1)) l = pairCells K (fTo f X k) l := by
  refine pairCells_congr (fun j _ => ⟨rfl, ?_⟩)
  unfold fTo
  by_cases e : j = k
  · subst e
    rw [if_pos (Nat.lt_succ_self _), if_neg (Nat.lt_irrefl _), fstV_ne h4]
  · by_cases h' : j < k
    · rw [if_pos h', if_pos (by omega)]
    · rw [if_neg h', if_neg (by omega)]

set_option maxHeartbeats 8000000 in
set_option maxRecDepth 100000 in
/-- 'spec.Shrink'. -/
theorem specShrink_any (u : V) (ta : Option Addr) (n cp TB TO : Nat) (A : Nat → Option Addr) (L C RB RO : Nat → Nat) (K X : Nat → Nat → V) (w : World) (hn : n ≤ 1048576) (HS : Hid (Small 1048576 n L K X)) (HT : Hid (TabsAt w ta n TB TO A L C RB RO K X)) :
    Calls Try.prog 11 #[.agg #[.int .i64 u.k, .int .i64 u.n, .string u.s, .int .i64 u.a, .slice ta n cp]] w fun e w' => ShrIs w w' e n u L K X ∧ Below w.heap.size w w' := by
  have A2 : Hid _ := alloc2 w (.cells #[.int .i64 u.k, .int .i64 u.n, .string u.s, .int .i64 u.a, .slice ta n cp] 27) (.cells #[.int .i64 0, .int .i64 0, .string ⟨#[]⟩, .int .i64 0, .slice none 0 0] 27)
  obtain ⟨w0, hw0⟩ : ∃ w0, w0 = (w.alloc (.cells #[.int .i64 u.k, .int .i64 u.n, .string u.s, .int .i64 u.a, .slice ta n cp] 27)).alloc (.cells #[.int .i64 0, .int .i64 0, .string ⟨#[]⟩, .int .i64 0, .slice none 0 0] 27) := ⟨_, rfl⟩
  have H0 : Hid (CanW w w0 u ta n cp) := by rw [hw0]; exact ⟨A2.out.1, A2.out.2.1, A2.out.2.2.2⟩
  clear A2
  have hsp := specOk_any u ta n cp TB TO A L C RB RO K X w0 hn HS (HT.out.below H0.out.bel)
  go_enter Try.func11, Try.ntmps11
  go_wp2_with fail
  rw [← hw0]
  refine hsp.mono ?_
  clear hsp hw0
  rintro e w1 ⟨⟨bs, rfl, hbs⟩, hb1⟩
  have H1 : Hid (CanW w w1 u ta n cp) := H0.out.below hb1
  clear hb1 H0
  cases bs
  · have HN : Hid (¬ OkG n u L K X) := show ¬ OkG n u L K X from fun h => by have := hbs.2 h; cases this
    clear hbs
    obtain ⟨r0, r1, r2, r3, r4, r5⟩ := cells5 H1.out.res
    simp only [zeroV] at r0 r1 r2 r3
    go_wp2
    have F := put5hi (put5lo H1.out.res (.int .i64 0) (.int .i64 0) (.string ⟨#[]⟩) (.int .i64 0)) (.slice none 0 0)
    obtain ⟨q0, q1, q2, q3, q4, _⟩ := cells5 F
    refine bodyPost_ret (v := .agg #[.int .i64 0, .int .i64 0, .string ⟨#[]⟩, .int .i64 0, .slice none 0 0]) (by simp [results, Try.results11, go_sem, q0, q1, q2, q3, q4]) rfl ⟨Or.inr ⟨HN.out, rfl⟩, ?_⟩
    exact (H1.out.bel.trans (set4_below.mono (by omega))).setCell (by show w.heap.size ≤ w.heap.size + 1; omega) _
  have HG : Hid (OkG n u L K X) := hbs.1 rfl
  clear hbs
  have hcl := l3classes_any ta n cp TB TO A L C RB RO K X w1 (by have := HG.out.len; omega) (show ∀ r, _ from fun r hr => (HG.out.all r hr).len) (show ∀ r, _ from fun r hr c hc => by have := ((HS.out r hr).2 c hc).1; omega) (good_of HG.out) (HT.out.below H1.out.bel)
  obtain ⟨g0, g1, g2, g3, g4, _⟩ := cells5 H1.out.graph
  go_wp2_with fail
  refine hcl.mono ?_
  clear hcl g0 g1 g2 g3 g4
  rintro e w2 ⟨⟨cg, f, ls0, rfl, hcg, hrow, hsrt, hcls⟩, hb2⟩
  have H2 : Hid (CanW w w2 u ta n cp) := H1.out.below hb2
  have HC2 : Hid (w2.rowIs cg 3 n (fun i => .int .i64 (f i : Nat))) := hrow
  have HCS : Hid ((∀ r, r < n → SortI (K r) (L r) (ls0 r)) ∧ IsCls n L (sK K ls0) (sK X ls0) f) := ⟨hsrt, hcls⟩
  clear hb2 H1 hrow hcg hsrt hcls
  have hcgl : cg < w2.heap.size := HC2.out.lt
  have hur := HG.out.root
  obtain ⟨g0, g1, g2, g3, g4, _⟩ := cells5 H2.out.graph
  have hgl : w.heap.size < w2.heap.size := blk_lt H2.out.graph
  by_cases h4 : u.k = 4
  · obtain ⟨a0, a1⟩ := isV_tab hur h4
    obtain ⟨a, ha⟩ : ∃ a : Nat, u.a = a := ⟨u.a.toNat, by omega⟩
    have hc := HC2.out.cell (i := a) (by omega)
    obtain ⟨fa, hfa⟩ : ∃ fa, f a = fa := ⟨_, rfl⟩
    rw [hfa] at hc
    obtain ⟨ya, hya⟩ : ∃ ya : Int, (fa : Int) = ya := ⟨_, rfl⟩
    rw [hya] at hc
    have hk4 : (u.k == 4) = true := by simp [h4]
    have hbd : (0 : Int) ≤ (a : Int) ∧ (a : Int) < (n : Int) := by omega
    have HSH : Hid (fstV f u = ⟨u.k, u.n, u.s, ya⟩) := by show fstV f u = _; unfold fstV; rw [if_pos h4, ha, Int.toNat_natCast, hfa, hya]
    rw [ha] at g3
    clear h4 hya a0 a1 hur hfa
    obtain ⟨w3, hw3⟩ : ∃ w3, w3 = w2.alloc (.cells #[.int .i64 u.k, .int .i64 u.n, .string u.s, .int .i64 ya, .slice none 0 0] 27) := ⟨_, rfl⟩
    have hb3 : Below w2.heap.size w2 w3 := by rw [hw3]; exact (Below.refl _ _).alloc (Nat.le_refl _) _
    have H3 : Hid (CanW w w3 u ta n cp) := H2.out.below hb3
    have HO3 : Hid (w3.heap[w2.heap.size]? = some (.cells #[.int .i64 u.k, .int .i64 u.n, .string u.s, .int .i64 ya, .slice none 0 0] 27 (0, 0))) := by rw [hw3]; exact heap_alloc_new _ _
    have HC3 : Hid (w3.rowIs cg 3 n (fun i => .int .i64 (f i : Nat))) := HC2.out.of_block (hb3.block _ HC2.out.lt)
    have hs3 : w3.heap.size = w2.heap.size + 1 := by rw [hw3]; simp
    obtain ⟨ob, hob⟩ : ∃ ob, w2.heap.size = ob := ⟨_, rfl⟩
    obtain ⟨b3, hb3'⟩ : ∃ b3, w3.heap.size = b3 := ⟨_, rfl⟩
    have HOB : Hid (b3 = ob + 1 ∧ w.heap.size + 2 ≤ ob ∧ cg < ob ∧ w3.heap.size = b3) := ⟨by omega, by have := blk_lt H2.out.res; omega, by omega, hb3'⟩
    rw [hob] at HO3 hgl hcgl
    clear hb3 hs3 HC2
    go_wp2
    rw [← hw3]
    try rw [hob]
    clear hw3 hc hob hcgl hgl H2 g0 g1 g2 g3 g4 hb3'
    obtain ⟨it, hti, ht0, ht1, ht2⟩ := info_parts Try.info73
    go_loopw [34] (fun ii wr => ∃ (i : Nat) (tv : Value) (PV : Nat → Value) (ls : Nat → List Nat), i ≤ n ∧ ii = .int .i64 i ∧ Hid (∀ r, r < i → SortI (K r) (L r) (ls r)) ∧ Hid (wr.heap[ob]? = some (.cells #[.int .i64 u.k, .int .i64 u.n, .string u.s, .int .i64 ya, tv] 27 (0, 0))) ∧ Hid (OTab wr b3 tv i PV L (sK K ls) (fX X ls f)) ∧ Hid (Only (fun k => k = ob) w3 wr)) (fun ii _ => n - (intOf ii).toNat)
    case atStart => exact ⟨0, _, fun _ => .nilIface, fun _ => [], Nat.zero_le _, rfl, fun r hr => absurd hr (Nat.not_lt_zero _), HO3, OTab.nil _ _ _ _ _ _, Only.refl _ _⟩
    case round =>
      obtain ⟨i, tv, PV, ls, hi, rfl, HLs, HOb, HOT, HON⟩ := hrel
      have HCr : Hid (CanW w wr u ta n cp) := H3.out.only HON.out (fun k hk => by have := HOB.out; omega)
      have HRr : Hid (wr.rowIs cg 3 n (fun i => .int .i64 (f i : Nat))) := HON.out.rowIs HC3.out (by have := HOB.out; omega)
      obtain ⟨sa, sc, rfl, hsk⟩ := owns_form HOT.out.own
      have hwr3 : Hid (b3 ≤ wr.heap.size) := show _ ≤ _ by have := HON.out.size; have := HOB.out; omega
      have HSK : Hid (∀ k, (Value.slice sa i sc).ownBlock = some k → b3 ≤ k ∧ k < wr.heap.size) := hsk
      have HNP : Hid (∀ j, j < i → ∀ g, (PV j).ownBlock = some g → g < wr.heap.size) := show ∀ j, _ from fun j hj g hg => by obtain ⟨_, _, _, h⟩ := owns_form (HOT.out.rows j hj); exact (h g hg).2
      clear hsk
      by_cases hlt : i < n
      · have hta := HT.out.top (by omega)
        subst hta
        have t0 := (HT.out.below HCr.out.bel).tab i hlt
        obtain ⟨pa, hpa⟩ : ∃ a, A i = a := ⟨_, rfl⟩
        obtain ⟨l, hl⟩ : ∃ a, L i = a := ⟨_, rfl⟩
        obtain ⟨pc, hpc⟩ : ∃ a, C i = a := ⟨_, rfl⟩
        rw [hpa, hl, hpc] at t0
        have HP : Hid (PairsAt w pa l (RB i) (RO i) (K i) (X i)) := by rw [← hpa, ← hl]; exact HT.out.row i hlt
        have hl100 : l ≤ 100 := by rw [← hl]; exact (HG.out.all i hlt).len
        have HGi : Hid (∀ c, c < l → isV n (X i c) = true) := show ∀ c, _ from fun c hc => good_of HG.out i hlt c (by rw [hl]; exact hc)
        have HZi : Hid (∀ c, c < l → (K i c).s.size ≤ 9223372036854775807) := show ∀ c, _ from fun c hc => by have := ((HS.out i hlt).2 c (by rw [hl]; exact hc)).1; omega
        obtain ⟨wt, hwt⟩ : ∃ wt, wt = wr.alloc (.cells #[.slice pa l pc] 73) := ⟨_, rfl⟩
        have hbt : Below wr.heap.size wr wt := by rw [hwt]; exact (Below.refl _ _).alloc (Nat.le_refl _) _
        have HBt : Hid (Below wr.heap.size wr wt) := hbt
        have HWS : Hid (wt.heap.size = wr.heap.size + 1) := by rw [hwt]; show (wr.alloc _).heap.size = wr.heap.size + 1; simp
        have hcall := l3sorted_any pa l pc (RB i) (RO i) (K i) (X i) wt (by omega) HZi (HP.out.below (grw HCr.out.bel hbt))
        clear hbt
        go_wp2_with fail
        rw [← hwt]
        refine hcall.mono ?_
        clear hcall hwt t0
        rintro e w5 ⟨⟨pa', pc', lr, rfl, hsr, hown⟩, hb5⟩
        have HSR : Hid (SortI (K i) l lr) := hsr
        obtain ⟨w6, hw6⟩ : ∃ w6, w6 = w5.alloc (.cells #[.slice pa' l pc'] 73) := ⟨_, rfl⟩
        have hb6 : Below w5.heap.size w5 w6 := by rw [hw6]; exact (Below.refl _ _).alloc (Nat.le_refl _) _
        have HBr6 : Hid (Below wr.heap.size wr w6) := grw HBt.out (grw hb5 hb6)
        have HX6 : Hid (w6.heap[w5.heap.size]? = some (.cells #[.slice pa' l pc'] 73 (0, 0))) := by rw [hw6]; exact heap_alloc_new _ _
        have HR6 : Hid (w6.ownsRow wr.heap.size 75 8 (.slice pa' l pc') l (pairCells (byI (K i) lr) (fTo f (byI (X i) lr) 0) l)) := by
          have e1 := owns_mono ((Only.below (P := fun _ => False) hb6).owns hown (fun _ _ _ h => h)) HBt.out.size
          rw [pairCells_congr (X' := fTo f (byI (X i) lr) 0) (fun j hj => ⟨rfl, by unfold fTo; rw [if_neg (Nat.not_lt_zero _)]⟩)] at e1
          exact e1
        obtain ⟨xb, hxb⟩ : ∃ xb, w5.heap.size = xb := ⟨_, rfl⟩
        rw [hxb] at HX6
        have HXb : Hid (wr.heap.size < xb ∧ xb < w6.heap.size) := ⟨by have h1 := HBt.out.size; have h2 := hb5.size; have h3 : wt.heap.size = wr.heap.size + 1 := HWS.out; omega, by rw [hw6]; simp; omega⟩
        have HXR : Hid ((Value.slice pa' l pc').ownBlock ≠ some xb) := show _ ≠ _ from fun e => by obtain ⟨_, _, _, h⟩ := owns_form hown; have := (h _ e).2; omega
        clear hown hsr hb5 hb6
        go_wp2
        rw [← hw6]
        try rw [hxb]
        clear hw6 hxb
        obtain ⟨wi, hwi⟩ : ∃ wi, wi = wr := ⟨_, rfl⟩
        rw [← hwi] at HCr HRr HOb HOT HON hwr3 HSK HNP HBt HBr6 HR6 HXb
        clear hwi
        go_loopw [43] (fun ii wq => ∃ k : Nat, k ≤ l ∧ ii = .int .i64 k ∧ Hid (wq.ownsRow wi.heap.size 75 8 (.slice pa' l pc') l (pairCells (byI (K i) lr) (fTo f (byI (X i) lr) k) l)) ∧ Hid (Only (fun k => (Value.slice pa' l pc').ownBlock = some k) w6 wq)) (fun ii _ => l - (intOf ii).toNat)
        case atStart => exact ⟨0, Nat.zero_le _, rfl, HR6, Only.refl _ _⟩
        case round =>
          obtain ⟨k, hk, rfl, HRq, HOq⟩ := hrel
          clear HR6
          have HXq : Hid (wr.heap[xb]? = some (.cells #[.slice pa' l pc'] 73 (0, 0))) := (HOq.out.block _ (blk_lt HX6.out) HXR.out).trans HX6.out
          obtain ⟨y0, y1⟩ := one_at HXq.out
          by_cases hlk : k < l
          · obtain ⟨g', cap', e', _⟩ := HRq.out.form (by omega)
            cases e'
            have hP := (owns_pairs HRq.out).2
            obtain ⟨_, ⟨v0, v1, v2, v3⟩⟩ := hP.cells (c := k) hlk
            obtain ⟨xc, HXC⟩ : ∃ xc, Hid (byI (X i) lr k = xc) := ⟨_, rfl⟩
            have ek : fTo f (byI (X i) lr) k k = xc := by unfold fTo; rw [if_neg (Nat.lt_irrefl _)]; exact HXC.out
            simp only [ek, Nat.zero_add, slB, slA] at v0 v1 v2 v3
            have hvx : isV n xc = true := by rw [← HXC.out]; exact HGi.out _ (HSR.out.lt hlk)
            have hbk : (0 : Int) ≤ (k : Int) ∧ (k : Int) < (l : Int) := by omega
            clear hP ek
            by_cases h4 : xc.k = 4
            · obtain ⟨a0, a1⟩ := isV_tab hvx h4
              obtain ⟨a, ha⟩ : ∃ a : Nat, xc.a = a := ⟨xc.a.toNat, by omega⟩
              have hcr : Hid (wr.rowIs cg 3 n (fun i => .int .i64 (f i : Nat))) := by
                have h1 := HRr.out.of_block (HBr6.out.block _ HRr.out.lt)
                exact HOq.out.rowIs h1 (fun e => by obtain ⟨_, _, _, h⟩ := owns_form HRq.out; have := (h _ e).1; have := HRr.out.lt; omega)
              have hc := hcr.out.cell (i := a) (by omega)
              have gz : ∀ j, wr.frozen? ⟨g', j, none⟩ = false := owns_frozen HRq.out
              have hk4 : (xc.k == 4) = true := by simp [h4]
              have hba : (0 : Int) ≤ (a : Int) ∧ (a : Int) < (n : Int) := by omega
              have HR7 : Hid ((wr.setCell ⟨g', k * 8 + 7, none⟩ (.int .i64 (f a : Nat))).ownsRow wi.heap.size 75 8 (.slice (some ⟨g', 0, none⟩) l pc') l (pairCells (byI (K i) lr) (fTo f (byI (X i) lr) (k + 1)) l)) := fTo_tab HRq.out hlk (by rw [HXC.out]; exact h4) (by rw [HXC.out, ha, Int.toNat_natCast])
              have HO7 : Hid (Only (fun k => (Value.slice (some ⟨g', 0, none⟩) l pc').ownBlock = some k) w6 (wr.setCell ⟨g', k * 8 + 7, none⟩ (.int .i64 (f a : Nat)))) := HOq.out.set (p := ⟨g', k * 8 + 7, none⟩) rfl _
              rw [ha] at v3
              obtain ⟨fa, hfa⟩ : ∃ fa, f a = fa := ⟨_, rfl⟩
              rw [hfa] at hc HR7 HO7
              clear h4 hvx a0 a1 ha hfa hcr HRq HOq
              go_wp2
              go_region
              go_wp2
              go_roundw
              case rel => exact ⟨k + 1, by omega, by go_num, HR7, HO7.out.thenBelow (Below.refl _ _).drew HO7.out.size⟩
              case measure => simp [intOf]; omega
            · have hk4 : (xc.k == 4) = false := by simp [h4]
              have HR7 : Hid (wr.ownsRow wi.heap.size 75 8 (.slice (some ⟨g', 0, none⟩) l pc') l (pairCells (byI (K i) lr) (fTo f (byI (X i) lr) (k + 1)) l)) := by
                show World.ownsRow _ _ _ _ _ _ _
                rw [fTo_ne (by rw [HXC.out]; exact h4)]
                exact HRq.out
              clear h4 hvx HRq
              go_wp2
              go_roundw
              case rel => exact ⟨k + 1, by omega, by go_num, HR7, HOq⟩
              case measure => simp [intOf]; omega
          · obtain rfl : k = l := by omega
            have HRk : Hid (wr.ownsRow b3 75 8 (.slice pa' k pc') k (pairCells (byI (K i) lr) (fun c => fstV f (byI (X i) lr c)) k)) := by
              have e1 := owns_mono HRq.out hwr3.out
              rw [pairCells_congr (K' := byI (K i) lr) (X' := fun c => fstV f (byI (X i) lr c)) (fun j hj => ⟨rfl, by unfold fTo; rw [if_pos hj]⟩)] at e1
              exact e1
            have HNr : Hid (∀ g, (Value.slice pa' k pc').ownBlock = some g → wi.heap.size ≤ g) := show ∀ g, _ from fun g hg => by obtain ⟨_, _, _, h⟩ := owns_form HRq.out; exact (h g hg).1
            have HOTk : Hid (OTab wr b3 (.slice sa i sc) i PV L (sK K ls) (fX X ls f)) := (HOT.out.below HBr6.out).onlyB HOq.out (fun g hg e => by have := HNr.out g e; have := (HSK.out g hg).2; omega) (fun j hj g hg e => by have := HNr.out g e; have := HNP.out j hj g hg; omega)
            have HObk : Hid (wr.heap[ob]? = some (.cells #[.int .i64 u.k, .int .i64 u.n, .string u.s, .int .i64 ya, .slice sa i sc] 27 (0, 0))) := by
              have h1 := (HBr6.out.block _ (blk_lt HOb.out)).trans HOb.out
              exact (HOq.out.block _ (blk_lt h1) (fun e => by have := HNr.out _ e; have := blk_lt HOb.out; omega)).trans h1
            have HONk : Hid (Only (fun k => k = ob) w3 wr) := (HON.out.trans (Only.below HBr6.out)).thenBelow (base := wi.heap.size) (HOq.out.toBelow (fun k hk => HNr.out k hk) HBr6.out.size) HON.out.size
            have hsk3 : b3 ≤ wr.heap.size := by have h1 := HONk.out.size; have := HOB.out; omega
            have hi200 : i ≤ 200 := by have := HG.out.len; omega
            obtain ⟨o0, o1, o2, o3, o4, oz⟩ := cells5 HObk.out
            have hol : ob < wr.heap.size := blk_lt HObk.out
            clear HOT HOb HON HRq HOq HBr6
            go_wp2_with (at_builtin; refine wpList_append_lies _ (by rfl) (.tmp 72) (.tmp 74) 25 (by rfl) b3 73 it (.agg #[.slice none 0 0]) 1 24 Try.underlying25 hti ht0 ht1 ht2 (by rfl) (by omega) (.slice sa i sc) i ((List.range i).map PV) (by rfl) (HOTk.out.own.alloc _) ⟨wr.heap.size, 0, none⟩ 1 1 [.slice pa' k pc'] (by rfl) (by rfl) ?c1 ?c2 (by omega) ?c3 ?c4 ?c5 (wr.heap.size + 1) ?c6 ?_)
            case c1 => exact World.news_of_block (heap_alloc_new wr _)
            case c2 => intro v hv; simp at hv; subst hv; rfl
            case c3 => unfold maxLen; omega
            case c4 => omega
            case c5 => simp; omega
            case c6 => simp
            intro g cap w7 hown7 hgrow7 hat7 hlt7
            obtain ⟨hT7, hB7⟩ := HOTk.out.more HRk.out (fun j hj g hg e => by have := HNr.out g e; have := HNP.out j hj g hg; omega) _ hsk3 hown7 hgrow7
            have HT7 : Hid (OTab w7 b3 (.slice (some ⟨g, 0, none⟩) (i + 1) cap) (i + 1) (fun j => if j = i then .slice pa' k pc' else PV j) L (sK K (fun j => if j = i then lr else ls j)) (fX X (fun j => if j = i then lr else ls j) f)) := hT7.congr (fun j hj => by
                by_cases e : j = i
                · subst e; simp only [if_true]; exact hl.symm
                · simp only [e, if_false]) (fun j hj c' hc' => by
                unfold fX sK
                by_cases e : j = i
                · subst e; simp only [if_true]; exact ⟨trivial, trivial⟩
                · simp only [e, if_false]; exact ⟨trivial, trivial⟩)
            have HOb7 : Hid (w7.heap[ob]? = some (.cells #[.int .i64 u.k, .int .i64 u.n, .string u.s, .int .i64 ya, .slice sa i sc] 27 (0, 0))) := (hB7.block _ (by have := HOB.out; omega)).trans HObk.out
            have HON7 : Hid (Only (fun k => k = ob) w3 w7) := HONk.out.thenBelow hB7 (by have := HOB.out; omega)
            have HLs' : Hid (∀ r, r < i + 1 → SortI (K r) (L r) ((fun j => if j = i then lr else ls j) r)) := show ∀ r, _ from fun r hr => by
              by_cases e : r = i
              · subst e; simp only [if_true]; rw [hl]; exact HSR.out
              · simp only [e, if_false]; exact HLs.out r (by omega)
            obtain ⟨q0, q1, q2, q3, q4, qz⟩ := cells5 HOb7.out
            have HO8 : Hid ((w7.setCell ⟨ob, 4, none⟩ (.slice (some ⟨g, 0, none⟩) (i + 1) cap)).heap[ob]? = some (.cells #[.int .i64 u.k, .int .i64 u.n, .string u.s, .int .i64 ya, .slice (some ⟨g, 0, none⟩) (i + 1) cap] 27 (0, 0))) := put5hi HOb7.out _
            have HT8 : Hid (OTab (w7.setCell ⟨ob, 4, none⟩ (.slice (some ⟨g, 0, none⟩) (i + 1) cap)) b3 (.slice (some ⟨g, 0, none⟩) (i + 1) cap) (i + 1) (fun j => if j = i then .slice pa' k pc' else PV j) L (sK K (fun j => if j = i then lr else ls j)) (fX X (fun j => if j = i then lr else ls j) f)) := HT7.out.only ((Only.refl (fun k => k = ob) _).set (p := ⟨ob, 4, none⟩) rfl _) (fun k hk e => by have := HOB.out; omega)
            have HON8 : Hid (Only (fun k => k = ob) w3 (w7.setCell ⟨ob, 4, none⟩ (.slice (some ⟨g, 0, none⟩) (i + 1) cap))) := HON7.out.set (p := ⟨ob, 4, none⟩) rfl _
            clear hT7 hB7 hown7 hgrow7 hat7 hlt7 HOTk HObk HONk HRk HT7 HOb7 HON7 o0 o1 o2 o3 o4
            go_wp2
            go_roundw
            case rel => exact ⟨i + 1, _, _, _, by omega, by go_num, HLs', HO8, HT8, HON8⟩
            case measure => simp [intOf]; omega
      · obtain rfl : i = n := by omega
        obtain ⟨o0, o1, o2, o3, o4, _⟩ := cells5 HOb.out
        have hTt := HOT.out.tabs
        have hls : ∀ r, r < i → ls r = ls0 r := fun r hr => SortI.one (HG.out.all r hr) (HLs.out r hr) (HCS.out.1 r hr)
        have hOk := okG_shr HG.out HLs.out HCS.out.2.low
        have HCS' : Hid ((∀ r, r < i → SortI (K r) (L r) (ls r)) ∧ IsCls i L (sK K ls) (sK X ls) f) := ⟨HLs.out, HCS.out.2.agree (fun _ _ => rfl) (fun j hj => by unfold sK; rw [hls j hj]) (fun j hj => by unfold sK; rw [hls j hj])⟩
        obtain ⟨S, HSo⟩ : ∃ S, Hid (order i (fstV f u) L (fX X ls f) = S) := ⟨_, rfl⟩
        have hcan := l2canon_any (fstV f u) sa i sc _ 0 _ L _ _ _ (sK K ls) (fX X ls f) wr hOk hTt.2 S HSo
        rw [HSH.out] at hcan
        have HOk : Hid (OkG i (fstV f u) L (sK K ls) (fX X ls f)) := hOk
        obtain ⟨ru, HRU⟩ : ∃ ru, Hid (renum S (⟨u.k, u.n, u.s, ya⟩ : V) = ru) := ⟨_, rfl⟩
        rw [HRU.out] at hcan
        have hs1 : w.heap.size + 1 < wr.heap.size := blk_lt HCr.out.res
        clear hTt hOk hls
        go_wp2_with fail
        refine hcan.mono ?_
        clear hcan o0 o1 o2 o3 o4
        rintro e w8 ⟨⟨tv, PV8, base, hbase, rfl, hT⟩, hb8⟩
        have H8 : Hid (CanW w w8 u ta i cp) := HCr.out.below hb8
        have HO : Hid (OTab w8 base tv S.length PV8 (cL S L) (cK S (sK K ls)) (cX S (fX X ls f))) := hT
        clear hb8 hT
        obtain ⟨ta', tc', rfl, _⟩ := owns_form HO.out.own
        obtain ⟨r0, r1, r2, r3, r4, r5⟩ := cells5 H8.out.res
        simp only [zeroV] at r0 r1 r2 r3
        go_wp2
        have F := put5hi (put5lo H8.out.res (.int .i64 ru.k) (.int .i64 ru.n) (.string ru.s) (.int .i64 ru.a)) (.slice ta' S.length tc')
        obtain ⟨wf, hwf⟩ : ∃ wf, wf = ((((w8.setCell ⟨w.heap.size + 1, 0, none⟩ (.int .i64 ru.k)).setCell ⟨w.heap.size + 1, 1, none⟩ (.int .i64 ru.n)).setCell ⟨w.heap.size + 1, 2, none⟩ (.string ru.s)).setCell ⟨w.heap.size + 1, 3, none⟩ (.int .i64 ru.a)).setCell ⟨w.heap.size + 1, 4, none⟩ (.slice ta' S.length tc') := ⟨_, rfl⟩
        have ho : Only (fun k => k = w.heap.size + 1) w8 wf := by rw [hwf]; exact set4_only.set (p := ⟨w.heap.size + 1, 4, none⟩) rfl _
        rw [← hwf] at F ⊢
        clear hwf
        obtain ⟨q0, q1, q2, q3, q4, _⟩ := cells5 F
        refine bodyPost_ret (v := .agg #[.int .i64 ru.k, .int .i64 ru.n, .string ru.s, .int .i64 ru.a, .slice ta' S.length tc']) (by simp [results, Try.results11, go_sem, q0, q1, q2, q3, q4]) rfl ⟨Or.inl ⟨HG.out, f, ls, HCS'.out, Or.inl ⟨HOk.out, ?_⟩⟩, H8.out.bel.trans (ho.toBelow (fun k hk => by omega) (by have := H8.out.bel.size; omega))⟩
        rw [HSo.out, HSH.out, HRU.out]
        exact ⟨_, PV8, base, by omega, rfl, HO.out.only ho (fun k hk e => by omega)⟩
  · have hk4 : (u.k == 4) = false := by simp [h4]
    obtain ⟨ya, hya⟩ : ∃ ya : Int, u.a = ya := ⟨_, rfl⟩
    have HSH : Hid (fstV f u = ⟨u.k, u.n, u.s, ya⟩) := by show fstV f u = _; unfold fstV; rw [if_neg h4, ← hya]
    rw [hya] at g3
    clear h4 hur
    obtain ⟨w3, hw3⟩ : ∃ w3, w3 = w2.alloc (.cells #[.int .i64 u.k, .int .i64 u.n, .string u.s, .int .i64 ya, .slice none 0 0] 27) := ⟨_, rfl⟩
    have hb3 : Below w2.heap.size w2 w3 := by rw [hw3]; exact (Below.refl _ _).alloc (Nat.le_refl _) _
    have H3 : Hid (CanW w w3 u ta n cp) := H2.out.below hb3
    have HO3 : Hid (w3.heap[w2.heap.size]? = some (.cells #[.int .i64 u.k, .int .i64 u.n, .string u.s, .int .i64 ya, .slice none 0 0] 27 (0, 0))) := by rw [hw3]; exact heap_alloc_new _ _
    have HC3 : Hid (w3.rowIs cg 3 n (fun i => .int .i64 (f i : Nat))) := HC2.out.of_block (hb3.block _ HC2.out.lt)
    have hs3 : w3.heap.size = w2.heap.size + 1 := by rw [hw3]; simp
    obtain ⟨ob, hob⟩ : ∃ ob, w2.heap.size = ob := ⟨_, rfl⟩
    obtain ⟨b3, hb3'⟩ : ∃ b3, w3.heap.size = b3 := ⟨_, rfl⟩
    have HOB : Hid (b3 = ob + 1 ∧ w.heap.size + 2 ≤ ob ∧ cg < ob ∧ w3.heap.size = b3) := ⟨by omega, by have := blk_lt H2.out.res; omega, by omega, hb3'⟩
    rw [hob] at HO3 hgl hcgl
    clear hb3 hs3 HC2
    go_wp2
    rw [← hw3]
    try rw [hob]
    clear hw3 hob hcgl hgl H2 g0 g1 g2 g3 g4 hb3'
    obtain ⟨it, hti, ht0, ht1, ht2⟩ := info_parts Try.info73
    go_loopw [34] (fun ii wr => ∃ (i : Nat) (tv : Value) (PV : Nat → Value) (ls : Nat → List Nat), i ≤ n ∧ ii = .int .i64 i ∧ Hid (∀ r, r < i → SortI (K r) (L r) (ls r)) ∧ Hid (wr.heap[ob]? = some (.cells #[.int .i64 u.k, .int .i64 u.n, .string u.s, .int .i64 ya, tv] 27 (0, 0))) ∧ Hid (OTab wr b3 tv i PV L (sK K ls) (fX X ls f)) ∧ Hid (Only (fun k => k = ob) w3 wr)) (fun ii _ => n - (intOf ii).toNat)
    case atStart => exact ⟨0, _, fun _ => .nilIface, fun _ => [], Nat.zero_le _, rfl, fun r hr => absurd hr (Nat.not_lt_zero _), HO3, OTab.nil _ _ _ _ _ _, Only.refl _ _⟩
    case round =>
      obtain ⟨i, tv, PV, ls, hi, rfl, HLs, HOb, HOT, HON⟩ := hrel
      have HCr : Hid (CanW w wr u ta n cp) := H3.out.only HON.out (fun k hk => by have := HOB.out; omega)
      have HRr : Hid (wr.rowIs cg 3 n (fun i => .int .i64 (f i : Nat))) := HON.out.rowIs HC3.out (by have := HOB.out; omega)
      obtain ⟨sa, sc, rfl, hsk⟩ := owns_form HOT.out.own
      have hwr3 : Hid (b3 ≤ wr.heap.size) := show _ ≤ _ by have := HON.out.size; have := HOB.out; omega
      have HSK : Hid (∀ k, (Value.slice sa i sc).ownBlock = some k → b3 ≤ k ∧ k < wr.heap.size) := hsk
      have HNP : Hid (∀ j, j < i → ∀ g, (PV j).ownBlock = some g → g < wr.heap.size) := show ∀ j, _ from fun j hj g hg => by obtain ⟨_, _, _, h⟩ := owns_form (HOT.out.rows j hj); exact (h g hg).2
      clear hsk
      by_cases hlt : i < n
      · have hta := HT.out.top (by omega)
        subst hta
        have t0 := (HT.out.below HCr.out.bel).tab i hlt
        obtain ⟨pa, hpa⟩ : ∃ a, A i = a := ⟨_, rfl⟩
        obtain ⟨l, hl⟩ : ∃ a, L i = a := ⟨_, rfl⟩
        obtain ⟨pc, hpc⟩ : ∃ a, C i = a := ⟨_, rfl⟩
        rw [hpa, hl, hpc] at t0
        have HP : Hid (PairsAt w pa l (RB i) (RO i) (K i) (X i)) := by rw [← hpa, ← hl]; exact HT.out.row i hlt
        have hl100 : l ≤ 100 := by rw [← hl]; exact (HG.out.all i hlt).len
        have HGi : Hid (∀ c, c < l → isV n (X i c) = true) := show ∀ c, _ from fun c hc => good_of HG.out i hlt c (by rw [hl]; exact hc)
        have HZi : Hid (∀ c, c < l → (K i c).s.size ≤ 9223372036854775807) := show ∀ c, _ from fun c hc => by have := ((HS.out i hlt).2 c (by rw [hl]; exact hc)).1; omega
        obtain ⟨wt, hwt⟩ : ∃ wt, wt = wr.alloc (.cells #[.slice pa l pc] 73) := ⟨_, rfl⟩
        have hbt : Below wr.heap.size wr wt := by rw [hwt]; exact (Below.refl _ _).alloc (Nat.le_refl _) _
        have HBt : Hid (Below wr.heap.size wr wt) := hbt
        have HWS : Hid (wt.heap.size = wr.heap.size + 1) := by rw [hwt]; show (wr.alloc _).heap.size = wr.heap.size + 1; simp
        have hcall := l3sorted_any pa l pc (RB i) (RO i) (K i) (X i) wt (by omega) HZi (HP.out.below (grw HCr.out.bel hbt))
        clear hbt
        go_wp2_with fail
        rw [← hwt]
        refine hcall.mono ?_
        clear hcall hwt t0
        rintro e w5 ⟨⟨pa', pc', lr, rfl, hsr, hown⟩, hb5⟩
        have HSR : Hid (SortI (K i) l lr) := hsr
        obtain ⟨w6, hw6⟩ : ∃ w6, w6 = w5.alloc (.cells #[.slice pa' l pc'] 73) := ⟨_, rfl⟩
        have hb6 : Below w5.heap.size w5 w6 := by rw [hw6]; exact (Below.refl _ _).alloc (Nat.le_refl _) _
        have HBr6 : Hid (Below wr.heap.size wr w6) := grw HBt.out (grw hb5 hb6)
        have HX6 : Hid (w6.heap[w5.heap.size]? = some (.cells #[.slice pa' l pc'] 73 (0, 0))) := by rw [hw6]; exact heap_alloc_new _ _
        have HR6 : Hid (w6.ownsRow wr.heap.size 75 8 (.slice pa' l pc') l (pairCells (byI (K i) lr) (fTo f (byI (X i) lr) 0) l)) := by
          have e1 := owns_mono ((Only.below (P := fun _ => False) hb6).owns hown (fun _ _ _ h => h)) HBt.out.size
          rw [pairCells_congr (X' := fTo f (byI (X i) lr) 0) (fun j hj => ⟨rfl, by unfold fTo; rw [if_neg (Nat.not_lt_zero _)]⟩)] at e1
          exact e1
        obtain ⟨xb, hxb⟩ : ∃ xb, w5.heap.size = xb := ⟨_, rfl⟩
        rw [hxb] at HX6
        have HXb : Hid (wr.heap.size < xb ∧ xb < w6.heap.size) := ⟨by have h1 := HBt.out.size; have h2 := hb5.size; have h3 : wt.heap.size = wr.heap.size + 1 := HWS.out; omega, by rw [hw6]; simp; omega⟩
        have HXR : Hid ((Value.slice pa' l pc').ownBlock ≠ some xb) := show _ ≠ _ from fun e => by obtain ⟨_, _, _, h⟩ := owns_form hown; have := (h _ e).2; omega
        clear hown hsr hb5 hb6
        go_wp2
        rw [← hw6]
        try rw [hxb]
        clear hw6 hxb
        obtain ⟨wi, hwi⟩ : ∃ wi, wi = wr := ⟨_, rfl⟩
        rw [← hwi] at HCr HRr HOb HOT HON hwr3 HSK HNP HBt HBr6 HR6 HXb
        clear hwi
        go_loopw [43] (fun ii wq => ∃ k : Nat, k ≤ l ∧ ii = .int .i64 k ∧ Hid (wq.ownsRow wi.heap.size 75 8 (.slice pa' l pc') l (pairCells (byI (K i) lr) (fTo f (byI (X i) lr) k) l)) ∧ Hid (Only (fun k => (Value.slice pa' l pc').ownBlock = some k) w6 wq)) (fun ii _ => l - (intOf ii).toNat)
        case atStart => exact ⟨0, Nat.zero_le _, rfl, HR6, Only.refl _ _⟩
        case round =>
          obtain ⟨k, hk, rfl, HRq, HOq⟩ := hrel
          clear HR6
          have HXq : Hid (wr.heap[xb]? = some (.cells #[.slice pa' l pc'] 73 (0, 0))) := (HOq.out.block _ (blk_lt HX6.out) HXR.out).trans HX6.out
          obtain ⟨y0, y1⟩ := one_at HXq.out
          by_cases hlk : k < l
          · obtain ⟨g', cap', e', _⟩ := HRq.out.form (by omega)
            cases e'
            have hP := (owns_pairs HRq.out).2
            obtain ⟨_, ⟨v0, v1, v2, v3⟩⟩ := hP.cells (c := k) hlk
            obtain ⟨xc, HXC⟩ : ∃ xc, Hid (byI (X i) lr k = xc) := ⟨_, rfl⟩
            have ek : fTo f (byI (X i) lr) k k = xc := by unfold fTo; rw [if_neg (Nat.lt_irrefl _)]; exact HXC.out
            simp only [ek, Nat.zero_add, slB, slA] at v0 v1 v2 v3
            have hvx : isV n xc = true := by rw [← HXC.out]; exact HGi.out _ (HSR.out.lt hlk)
            have hbk : (0 : Int) ≤ (k : Int) ∧ (k : Int) < (l : Int) := by omega
            clear hP ek
            by_cases h4 : xc.k = 4
            · obtain ⟨a0, a1⟩ := isV_tab hvx h4
              obtain ⟨a, ha⟩ : ∃ a : Nat, xc.a = a := ⟨xc.a.toNat, by omega⟩
              have hcr : Hid (wr.rowIs cg 3 n (fun i => .int .i64 (f i : Nat))) := by
                have h1 := HRr.out.of_block (HBr6.out.block _ HRr.out.lt)
                exact HOq.out.rowIs h1 (fun e => by obtain ⟨_, _, _, h⟩ := owns_form HRq.out; have := (h _ e).1; have := HRr.out.lt; omega)
              have hc := hcr.out.cell (i := a) (by omega)
              have gz : ∀ j, wr.frozen? ⟨g', j, none⟩ = false := owns_frozen HRq.out
              have hk4 : (xc.k == 4) = true := by simp [h4]
              have hba : (0 : Int) ≤ (a : Int) ∧ (a : Int) < (n : Int) := by omega
              have HR7 : Hid ((wr.setCell ⟨g', k * 8 + 7, none⟩ (.int .i64 (f a : Nat))).ownsRow wi.heap.size 75 8 (.slice (some ⟨g', 0, none⟩) l pc') l (pairCells (byI (K i) lr) (fTo f (byI (X i) lr) (k + 1)) l)) := fTo_tab HRq.out hlk (by rw [HXC.out]; exact h4) (by rw [HXC.out, ha, Int.toNat_natCast])
              have HO7 : Hid (Only (fun k => (Value.slice (some ⟨g', 0, none⟩) l pc').ownBlock = some k) w6 (wr.setCell ⟨g', k * 8 + 7, none⟩ (.int .i64 (f a : Nat)))) := HOq.out.set (p := ⟨g', k * 8 + 7, none⟩) rfl _
              rw [ha] at v3
              obtain ⟨fa, hfa⟩ : ∃ fa, f a = fa := ⟨_, rfl⟩
              rw [hfa] at hc HR7 HO7
              clear h4 hvx a0 a1 ha hfa hcr HRq HOq
              go_wp2
              go_region
              go_wp2
              go_roundw
              case rel => exact ⟨k + 1, by omega, by go_num, HR7, HO7.out.thenBelow (Below.refl _ _).drew HO7.out.size⟩
              case measure => simp [intOf]; omega
            · have hk4 : (xc.k == 4) = false := by simp [h4]
              have HR7 : Hid (wr.ownsRow wi.heap.size 75 8 (.slice (some ⟨g', 0, none⟩) l pc') l (pairCells (byI (K i) lr) (fTo f (byI (X i) lr) (k + 1)) l)) := by
                show World.ownsRow _ _ _ _ _ _ _
                rw [fTo_ne (by rw [HXC.out]; exact h4)]
                exact HRq.out
              clear h4 hvx HRq
              go_wp2
              go_roundw
              case rel => exact ⟨k + 1, by omega, by go_num, HR7, HOq⟩
              case measure => simp [intOf]; omega
          · obtain rfl : k = l := by omega
            have HRk : Hid (wr.ownsRow b3 75 8 (.slice pa' k pc') k (pairCells (byI (K i) lr) (fun c => fstV f (byI (X i) lr c)) k)) := by
              have e1 := owns_mono HRq.out hwr3.out
              rw [pairCells_congr (K' := byI (K i) lr) (X' := fun c => fstV f (byI (X i) lr c)) (fun j hj => ⟨rfl, by unfold fTo; rw [if_pos hj]⟩)] at e1
              exact e1
            have HNr : Hid (∀ g, (Value.slice pa' k pc').ownBlock = some g → wi.heap.size ≤ g) := show ∀ g, _ from fun g hg => by obtain ⟨_, _, _, h⟩ := owns_form HRq.out; exact (h g hg).1
            have HOTk : Hid (OTab wr b3 (.slice sa i sc) i PV L (sK K ls) (fX X ls f)) := (HOT.out.below HBr6.out).onlyB HOq.out (fun g hg e => by have := HNr.out g e; have := (HSK.out g hg).2; omega) (fun j hj g hg e => by have := HNr.out g e; have := HNP.out j hj g hg; omega)
            have HObk : Hid (wr.heap[ob]? = some (.cells #[.int .i64 u.k, .int .i64 u.n, .string u.s, .int .i64 ya, .slice sa i sc] 27 (0, 0))) := by
              have h1 := (HBr6.out.block _ (blk_lt HOb.out)).trans HOb.out
              exact (HOq.out.block _ (blk_lt h1) (fun e => by have := HNr.out _ e; have := blk_lt HOb.out; omega)).trans h1
            have HONk : Hid (Only (fun k => k = ob) w3 wr) := (HON.out.trans (Only.below HBr6.out)).thenBelow (base := wi.heap.size) (HOq.out.toBelow (fun k hk => HNr.out k hk) HBr6.out.size) HON.out.size
            have hsk3 : b3 ≤ wr.heap.size := by have h1 := HONk.out.size; have := HOB.out; omega
            have hi200 : i ≤ 200 := by have := HG.out.len; omega
            obtain ⟨o0, o1, o2, o3, o4, oz⟩ := cells5 HObk.out
            have hol : ob < wr.heap.size := blk_lt HObk.out
            clear HOT HOb HON HRq HOq HBr6
            go_wp2_with (at_builtin; refine wpList_append_lies _ (by rfl) (.tmp 72) (.tmp 74) 25 (by rfl) b3 73 it (.agg #[.slice none 0 0]) 1 24 Try.underlying25 hti ht0 ht1 ht2 (by rfl) (by omega) (.slice sa i sc) i ((List.range i).map PV) (by rfl) (HOTk.out.own.alloc _) ⟨wr.heap.size, 0, none⟩ 1 1 [.slice pa' k pc'] (by rfl) (by rfl) ?c1 ?c2 (by omega) ?c3 ?c4 ?c5 (wr.heap.size + 1) ?c6 ?_)
            case c1 => exact World.news_of_block (heap_alloc_new wr _)
            case c2 => intro v hv; simp at hv; subst hv; rfl
            case c3 => unfold maxLen; omega
            case c4 => omega
            case c5 => simp; omega
            case c6 => simp
            intro g cap w7 hown7 hgrow7 hat7 hlt7
            obtain ⟨hT7, hB7⟩ := HOTk.out.more HRk.out (fun j hj g hg e => by have := HNr.out g e; have := HNP.out j hj g hg; omega) _ hsk3 hown7 hgrow7
            have HT7 : Hid (OTab w7 b3 (.slice (some ⟨g, 0, none⟩) (i + 1) cap) (i + 1) (fun j => if j = i then .slice pa' k pc' else PV j) L (sK K (fun j => if j = i then lr else ls j)) (fX X (fun j => if j = i then lr else ls j) f)) := hT7.congr (fun j hj => by
                by_cases e : j = i
                · subst e; simp only [if_true]; exact hl.symm
                · simp only [e, if_false]) (fun j hj c' hc' => by
                unfold fX sK
                by_cases e : j = i
                · subst e; simp only [if_true]; exact ⟨trivial, trivial⟩
                · simp only [e, if_false]; exact ⟨trivial, trivial⟩)
            have HOb7 : Hid (w7.heap[ob]? = some (.cells #[.int .i64 u.k, .int .i64 u.n, .string u.s, .int .i64 ya, .slice sa i sc] 27 (0, 0))) := (hB7.block _ (by have := HOB.out; omega)).trans HObk.out
            have HON7 : Hid (Only (fun k => k = ob) w3 w7) := HONk.out.thenBelow hB7 (by have := HOB.out; omega)
            have HLs' : Hid (∀ r, r < i + 1 → SortI (K r) (L r) ((fun j => if j = i then lr else ls j) r)) := show ∀ r, _ from fun r hr => by
              by_cases e : r = i
              · subst e; simp only [if_true]; rw [hl]; exact HSR.out
              · simp only [e, if_false]; exact HLs.out r (by omega)
            obtain ⟨q0, q1, q2, q3, q4, qz⟩ := cells5 HOb7.out
            have HO8 : Hid ((w7.setCell ⟨ob, 4, none⟩ (.slice (some ⟨g, 0, none⟩) (i + 1) cap)).heap[ob]? = some (.cells #[.int .i64 u.k, .int .i64 u.n, .string u.s, .int .i64 ya, .slice (some ⟨g, 0, none⟩) (i + 1) cap] 27 (0, 0))) := put5hi HOb7.out _
            have HT8 : Hid (OTab (w7.setCell ⟨ob, 4, none⟩ (.slice (some ⟨g, 0, none⟩) (i + 1) cap)) b3 (.slice (some ⟨g, 0, none⟩) (i + 1) cap) (i + 1) (fun j => if j = i then .slice pa' k pc' else PV j) L (sK K (fun j => if j = i then lr else ls j)) (fX X (fun j => if j = i then lr else ls j) f)) := HT7.out.only ((Only.refl (fun k => k = ob) _).set (p := ⟨ob, 4, none⟩) rfl _) (fun k hk e => by have := HOB.out; omega)
            have HON8 : Hid (Only (fun k => k = ob) w3 (w7.setCell ⟨ob, 4, none⟩ (.slice (some ⟨g, 0, none⟩) (i + 1) cap))) := HON7.out.set (p := ⟨ob, 4, none⟩) rfl _
            clear hT7 hB7 hown7 hgrow7 hat7 hlt7 HOTk HObk HONk HRk HT7 HOb7 HON7 o0 o1 o2 o3 o4
            go_wp2
            go_roundw
            case rel => exact ⟨i + 1, _, _, _, by omega, by go_num, HLs', HO8, HT8, HON8⟩
            case measure => simp [intOf]; omega
      · obtain rfl : i = n := by omega
        obtain ⟨o0, o1, o2, o3, o4, _⟩ := cells5 HOb.out
        have hTt := HOT.out.tabs
        have hls : ∀ r, r < i → ls r = ls0 r := fun r hr => SortI.one (HG.out.all r hr) (HLs.out r hr) (HCS.out.1 r hr)
        have hOk := okG_shr HG.out HLs.out HCS.out.2.low
        have HCS' : Hid ((∀ r, r < i → SortI (K r) (L r) (ls r)) ∧ IsCls i L (sK K ls) (sK X ls) f) := ⟨HLs.out, HCS.out.2.agree (fun _ _ => rfl) (fun j hj => by unfold sK; rw [hls j hj]) (fun j hj => by unfold sK; rw [hls j hj])⟩
        obtain ⟨S, HSo⟩ : ∃ S, Hid (order i (fstV f u) L (fX X ls f) = S) := ⟨_, rfl⟩
        have hcan := l2canon_any (fstV f u) sa i sc _ 0 _ L _ _ _ (sK K ls) (fX X ls f) wr hOk hTt.2 S HSo
        rw [HSH.out] at hcan
        have HOk : Hid (OkG i (fstV f u) L (sK K ls) (fX X ls f)) := hOk
        obtain ⟨ru, HRU⟩ : ∃ ru, Hid (renum S (⟨u.k, u.n, u.s, ya⟩ : V) = ru) := ⟨_, rfl⟩
        rw [HRU.out] at hcan
        have hs1 : w.heap.size + 1 < wr.heap.size := blk_lt HCr.out.res
        clear hTt hOk hls
        go_wp2_with fail
        refine hcan.mono ?_
        clear hcan o0 o1 o2 o3 o4
        rintro e w8 ⟨⟨tv, PV8, base, hbase, rfl, hT⟩, hb8⟩
        have H8 : Hid (CanW w w8 u ta i cp) := HCr.out.below hb8
        have HO : Hid (OTab w8 base tv S.length PV8 (cL S L) (cK S (sK K ls)) (cX S (fX X ls f))) := hT
        clear hb8 hT
        obtain ⟨ta', tc', rfl, _⟩ := owns_form HO.out.own
        obtain ⟨r0, r1, r2, r3, r4, r5⟩ := cells5 H8.out.res
        simp only [zeroV] at r0 r1 r2 r3
        go_wp2
        have F := put5hi (put5lo H8.out.res (.int .i64 ru.k) (.int .i64 ru.n) (.string ru.s) (.int .i64 ru.a)) (.slice ta' S.length tc')
        obtain ⟨wf, hwf⟩ : ∃ wf, wf = ((((w8.setCell ⟨w.heap.size + 1, 0, none⟩ (.int .i64 ru.k)).setCell ⟨w.heap.size + 1, 1, none⟩ (.int .i64 ru.n)).setCell ⟨w.heap.size + 1, 2, none⟩ (.string ru.s)).setCell ⟨w.heap.size + 1, 3, none⟩ (.int .i64 ru.a)).setCell ⟨w.heap.size + 1, 4, none⟩ (.slice ta' S.length tc') := ⟨_, rfl⟩
        have ho : Only (fun k => k = w.heap.size + 1) w8 wf := by rw [hwf]; exact set4_only.set (p := ⟨w.heap.size + 1, 4, none⟩) rfl _
        rw [← hwf] at F ⊢
        clear hwf
        obtain ⟨q0, q1, q2, q3, q4, _⟩ := cells5 F
        refine bodyPost_ret (v := .agg #[.int .i64 ru.k, .int .i64 ru.n, .string ru.s, .int .i64 ru.a, .slice ta' S.length tc']) (by simp [results, Try.results11, go_sem, q0, q1, q2, q3, q4]) rfl ⟨Or.inl ⟨HG.out, f, ls, HCS'.out, Or.inl ⟨HOk.out, ?_⟩⟩, H8.out.bel.trans (ho.toBelow (fun k hk => by omega) (by have := H8.out.bel.size; omega))⟩
        rw [HSo.out, HSH.out, HRU.out]
        exact ⟨_, PV8, base, by omega, rfl, HO.out.only ho (fun k hk e => by omega)⟩

end Go.Proofs.Ytgflalfiopnmnaa

namespace Go.Proofs.Ytgflalfiopnmnaa
open Go.RowKit Vl

set_option maxHeartbeats 4000000 in
set_option maxRecDepth 100000 in
/-- 'impl.Same'. -/
theorem implSame_any (u u' : V) (ta ta' : Option Addr) (n cp TB TO m cp' TB' TO' : Nat) (A A' : Nat → Option Addr) (L C RB RO L' C' RB' RO' : Nat → Nat) (K X K' X' : Nat → Nat → V) (w : World) (hn : n ≤ 1048576) (hm : m ≤ 1048576) (HS : Hid (Small 1048576 n L K X)) (HS' : Hid (Small 1048576 m L' K' X')) (HT : Hid (TabsAt w ta n TB TO A L C RB RO K X)) (HT' : Hid (TabsAt w ta' m TB' TO' A' L' C' RB' RO' K' X')) :
    Calls Try.prog 12 #[.agg #[.int .i64 u.k, .int .i64 u.n, .string u.s, .int .i64 u.a, .slice ta n cp], .agg #[.int .i64 u'.k, .int .i64 u'.n, .string u'.s, .int .i64 u'.a, .slice ta' m cp']] w fun e w' => SameRes e n m u u' L L' K X K' X' ∧ Below w.heap.size w w' := by
  have A3 := alloc3 w (.cells #[.int .i64 u.k, .int .i64 u.n, .string u.s, .int .i64 u.a, .slice ta n cp] 27) (.cells #[.int .i64 u'.k, .int .i64 u'.n, .string u'.s, .int .i64 u'.a, .slice ta' m cp'] 27) (.cells #[.int .i64 u.k, .int .i64 u.n, .string u.s, .int .i64 u.a, .slice ta n cp, .int .i64 u'.k, .int .i64 u'.n, .string u'.s, .int .i64 u'.a, .slice ta' m cp'] 27)
  obtain ⟨w0, hw0⟩ : ∃ w0, w0 = ((w.alloc (.cells #[.int .i64 u.k, .int .i64 u.n, .string u.s, .int .i64 u.a, .slice ta n cp] 27)).alloc (.cells #[.int .i64 u'.k, .int .i64 u'.n, .string u'.s, .int .i64 u'.a, .slice ta' m cp'] 27)).alloc (.cells #[.int .i64 u.k, .int .i64 u.n, .string u.s, .int .i64 u.a, .slice ta n cp, .int .i64 u'.k, .int .i64 u'.n, .string u'.s, .int .i64 u'.a, .slice ta' m cp'] 27) := ⟨_, rfl⟩
  rw [← hw0] at A3
  have HB0 : Hid (Below w.heap.size w w0) := A3.2.2.2.2
  have hblk := A3.2.2.1
  obtain ⟨G, HGd⟩ : ∃ G : GrS, Hid (G = ⟨two u u', two n m, two L L', two K K', two X X'⟩) := ⟨_, rfl⟩
  have HGs : Hid (GsAt w0 2 (w.heap.size + 2) G (two ta ta') (two cp cp') (two TB TB') (two TO TO') (two A A') (two C C') (two RB RB') (two RO RO')) := by
    rw [HGd.out]
    refine ⟨fun q hq => ?_, fun q hq => ?_, fun q hq => ?_, fun q hq => ?_, fun q hq => ?_, fun q hq => ?_, fun q hq => ?_⟩ <;> rcases (show q = 0 ∨ q = 1 by omega) with rfl | rfl
    iterate 10 (simp [two, World.cell?, hblk])
    · exact ⟨hn, HS.out⟩
    · exact ⟨hm, HS'.out⟩
    · exact HT.out.below HB0.out
    · exact HT'.out.below HB0.out
  have hcf := classify_any 2 (by omega) (by omega) (w.heap.size + 2) G _ _ _ _ _ _ _ _ w0 HGs
  have hoff : G.off 2 = n + m := by rw [HGd.out]; simp [GrS.off, two]
  clear A3 hblk
  go_enter Try.func12, Try.ntmps12
  go_wp2_with fail
  rw [← hw0]
  refine hcf.mono ?_
  clear hcf hw0
  rintro e w1 ⟨hcase, hb1⟩
  have HB1 : Hid (Below w.heap.size w w1) := grw HB0.out hb1
  rcases hcase with ⟨T, M, Lc, Kc, Xc, ls, f, rv, tv, cb, rfl, hd⟩ | ⟨⟨q, hq, hno⟩, rfl⟩
  · have hok0 : OkG n u L K X := by have := hd.cmb.ok 0 (by omega); rw [HGd.out] at this; exact this
    have hok1 : OkG m u' L' K' X' := by have := hd.cmb.ok 1 (by omega); rw [HGd.out] at this; exact this
    have e0 : sh (G.off 0) (G.U 0) = u := by rw [HGd.out]; exact sh_zero u
    have e1 : sh (G.off 1) (G.U 1) = sh n u' := by rw [HGd.out]; simp [GrS.off, two]
    obtain ⟨rb, rc, rfl, hr0⟩ := owns_cell hd.roots (k := 0) (y := ifv T (sh (G.off 0) (G.U 0))) (by simp)
    obtain ⟨rb', rc', e', hr1⟩ := owns_cell hd.roots (k := 1) (y := ifv T (sh (G.off 1) (G.U 1))) (by simp)
    cases e'
    obtain ⟨va, vc, rfl, _⟩ := owns_form hd.tabs
    rw [e0] at hr0
    rw [e1] at hr1
    have hN : G.off 2 ≤ 400 := by have := hok0.len; have := hok1.len; omega
    have hx : isV (G.off 2) u = true := by rw [hoff]; exact isV_more hok0.root
    have hy : isV (G.off 2) (sh n u') = true := by rw [hoff]; exact sh_isV hok1.root
    have HR : Hid (∀ b, b = alike T (fstV f u) (fstV f (sh n u')) → SameRes (.returned (.bool b)) n m u u' L L' K X K' X') := show ∀ b, _ from fun b hb => by
      subst hb
      refine Or.inl ⟨⟨hok0, hok1⟩, f, ?_, by rw [alike_fst hd.tbs.inj hd.is.low hx hy]⟩
      have h2 := hd.srt
      have h3 := hd.is
      have t0 := hd.cmb.tab 0 (by omega)
      have t1 := hd.cmb.tab 1 (by omega)
      rw [HGd.out] at t0 t1
      rw [hoff] at h2 h3
      simp only [GrS.off, two, Nat.zero_add, sh_zero, if_true, Nat.one_ne_zero, if_false] at t0 t1
      have hL : ∀ j, j < n + m → Lc j = jn n L L' j := fun j hj => by
        by_cases e : j < n
        · rw [jn_lt e]; exact (t0 j e).1
        · rw [jn_ge e]; have := (t1 (j - n) (by omega)).1; rw [show n + (j - n) = j by omega] at this; exact this
      have hK : ∀ j, j < n + m → Kc j = jn n K K' j := fun j hj => by
        by_cases e : j < n
        · rw [jn_lt e]; exact (t0 j e).2.1
        · rw [jn_ge e]; have := (t1 (j - n) (by omega)).2.1; rw [show n + (j - n) = j by omega] at this; exact this
      have hX : ∀ j, j < n + m → Xc j = jn n X (fun j c => sh n (X' j c)) j := fun j hj => by
        by_cases e : j < n
        · rw [jn_lt e]; exact funext (t0 j e).2.2
        · rw [jn_ge e]; have := funext (t1 (j - n) (by omega)).2.2; rw [show n + (j - n) = j by omega] at this; exact this
      exact ⟨ls, fun r hr => by rw [← hK r hr, ← hL r hr]; exact h2 r hr, h3.agree hL (fun j hj => by unfold sK; rw [hK j hj]) (fun j hj => by unfold sK; rw [hX j hj])⟩
    obtain ⟨w2, hw2⟩ : ∃ w2, w2 = w1.alloc (.cells #[.slice (some ⟨rb, 0, none⟩) 2 rc, .slice va (G.off 2) vc, .slice (some ⟨cb, 0, none⟩) (G.off 2) (G.off 2)] 60) := ⟨_, rfl⟩
    have hb2 : Below w1.heap.size w1 w2 := by rw [hw2]; exact (Below.refl _ _).alloc (Nat.le_refl _) _
    have HB2 : Hid (Below w.heap.size w w2) := grw HB1.out hb2
    have H2 : w2.heap[w1.heap.size]? = some (.cells #[.slice (some ⟨rb, 0, none⟩) 2 rc, .slice va (G.off 2) vc, .slice (some ⟨cb, 0, none⟩) (G.off 2) (G.off 2)] 60 (0, 0)) := by rw [hw2]; exact heap_alloc_new _ _
    obtain ⟨cc, hcc⟩ : ∃ cc, w1.heap.size = cc := ⟨_, rfl⟩
    rw [hcc] at H2
    obtain ⟨c0, c1, c2, _⟩ := three_at H2
    have HF1 : Hid (∀ w', Below w2.heap.size w2 w' → Calls Try.prog 36 #[.agg #[.slice (some ⟨rb, 0, none⟩) 2 rc, .slice va (G.off 2) vc, .slice (some ⟨cb, 0, none⟩) (G.off 2) (G.off 2)], ifv T u] w' fun e w'' => e = .returned (ifv T (fstV f u)) ∧ Below w'.heap.size w' w'') := show ∀ _, _ from fun w' hb => hd.first hN u w' hx (grw hb2 hb)
    have HF2 : Hid (∀ w', Below w2.heap.size w2 w' → Calls Try.prog 36 #[.agg #[.slice (some ⟨rb, 0, none⟩) 2 rc, .slice va (G.off 2) vc, .slice (some ⟨cb, 0, none⟩) (G.off 2) (G.off 2)], ifv T (sh n u')] w' fun e w'' => e = .returned (ifv T (fstV f (sh n u'))) ∧ Below w'.heap.size w' w'') := show ∀ _, _ from fun w' hb => hd.first hN (sh n u') w' hy (grw hb2 hb)
    have HEQ : Hid (∀ w', Below w2.heap.size w2 w' → (binOp .eql 68 (ifv T (fstV f u)) (ifv T (fstV f (sh n u')))).run Try.prog w' = .ok (.bool (alike T (fstV f u) (fstV f (sh n u')))) w') := show ∀ _, _ from fun w' hb => eql_ifv T (fstV_isV hd.is.low hx) (fstV_isV hd.is.low hy) w' (fun j hj => by
      obtain ⟨ord, a1, _⟩ := hd.tbs.tab j hj
      unfold TabB at a1
      exact ⟨_, _, ((grw hb2 hb).block _ (blk_lt a1)).trans a1⟩)
    have r0 : w2.cell? ⟨rb, 0, none⟩ = some (ifv T u) := (hb2.cell (World.block_lt_of_cell? _ _ hr0)).trans hr0
    have r1 : w2.cell? ⟨rb, 1, none⟩ = some (ifv T (sh n u')) := (hb2.cell (World.block_lt_of_cell? _ _ hr1)).trans hr1
    obtain ⟨bq, hbq⟩ : ∃ bq, alike T (fstV f u) (fstV f (sh n u')) = bq := ⟨_, rfl⟩
    rw [hbq] at HEQ HR
    obtain ⟨ut, uy, hxv⟩ := ifv_form T u
    obtain ⟨vt, vy, hyv⟩ := ifv_form T (sh n u')
    obtain ⟨pt, py, hpv⟩ := ifv_form T (fstV f u)
    obtain ⟨st, sy, hsv⟩ := ifv_form T (fstV f (sh n u'))
    rw [hxv] at r0 HF1
    rw [hyv] at r1 HF2
    rw [hpv] at HF1 HEQ
    rw [hsv] at HF2 HEQ
    replace c0 := cellB c0
    replace c1 := cellB c1
    replace c2 := cellB c2
    replace r0 := cellB r0
    replace r1 := cellB r1
    obtain ⟨NN, hNN⟩ : ∃ NN, G.off 2 = NN := ⟨_, rfl⟩
    rw [hNN] at c1 c2 HF1 HF2 hw2 ⊢
    clear hd hr0 hr1 e0 e1 hN hx hy hb2 hxv hyv hpv hsv hbq H2 hok0 hok1 hoff hNN HGs HGd hb1
    go_wp2
    try rw [hcc] at hw2
    try rw [hcc]
    rw [← hw2]
    clear hw2 hcc
    refine wp_region_held_drew (S := fun x => Below w2.heap.size w2 x) (by kernel_rfl) (Below.refl _ _).drew (fun hHeld => ?_)
    refine wpAnyH_take (i := 0) (v := .bool true) rfl (by kernel_rfl) (by kernel_rfl) (by kernel_rfl) (fun _ _ _ h => h) (Or.inl ⟨by rfl, fun w hSw => ?_⟩) hHeld ?_
    · first | rfl | go_simp
    simp only [Act.put, List.setIfInBounds_toArray, List.set_cons_zero, List.set_cons_succ, List.getElem_toArray, List.getElem_cons_zero]
    refine wpAnyH_take (i := 1) (v := .bool true) rfl (by kernel_rfl) (by kernel_rfl) (by kernel_rfl) (fun _ _ _ h => h) (Or.inl ⟨by rfl, fun w hSw => ?_⟩) hHeld ?_
    · first | rfl | go_simp
    simp only [Act.put, List.setIfInBounds_toArray, List.set_cons_zero, List.set_cons_succ, List.getElem_toArray, List.getElem_cons_zero, List.getElem_cons_succ]
    refine wpAnyH_take (i := 2) (v := .agg #[.slice (some ⟨rb, 0, none⟩) 2 rc, .slice va NN vc, .slice (some ⟨cb, 0, none⟩) NN NN]) rfl (by kernel_rfl) (by kernel_rfl) (by kernel_rfl) (fun _ _ _ h => h) (Or.inl ⟨by rfl, fun w hSw => ?_⟩) hHeld ?_
    · have q0 := c0 w hSw; have q1 := c1 w hSw; have q2 := c2 w hSw; first | rfl | go_simp
    simp only [Act.put, List.setIfInBounds_toArray, List.set_cons_zero, List.set_cons_succ, List.getElem_toArray, List.getElem_cons_zero, List.getElem_cons_succ]
    refine wpAnyH_take (i := 3) (v := .pointer (some ⟨cc, 0, none⟩)) rfl (by kernel_rfl) (by kernel_rfl) (by kernel_rfl) (fun _ _ _ h => h) (Or.inl ⟨by rfl, fun w hSw => ?_⟩) hHeld ?_
    · first | rfl | go_simp
    simp only [Act.put, List.setIfInBounds_toArray, List.set_cons_zero, List.set_cons_succ, List.getElem_toArray, List.getElem_cons_zero, List.getElem_cons_succ]
    refine wpAnyH_take (i := 4) (v := .slice (some ⟨rb, 0, none⟩) 2 rc) rfl (by kernel_rfl) (by kernel_rfl) (by kernel_rfl) (fun _ _ _ h => h) (Or.inl ⟨by rfl, fun w hSw => ?_⟩) hHeld ?_
    · have q0 := c0 w hSw; first | rfl | go_simp
    simp only [Act.put, List.setIfInBounds_toArray, List.set_cons_zero, List.set_cons_succ, List.getElem_toArray, List.getElem_cons_zero, List.getElem_cons_succ]
    refine wpAnyH_take (i := 5) (v := .pointer (some ⟨rb, 0, none⟩)) rfl (by kernel_rfl) (by kernel_rfl) (by kernel_rfl) (fun _ _ _ h => h) (Or.inl ⟨by rfl, fun w hSw => ?_⟩) hHeld ?_
    · first | rfl | go_simp
    simp only [Act.put, List.setIfInBounds_toArray, List.set_cons_zero, List.set_cons_succ, List.getElem_toArray, List.getElem_cons_zero, List.getElem_cons_succ]
    refine wpAnyH_take (i := 6) (v := .iface ut uy) rfl (by kernel_rfl) (by kernel_rfl) (by kernel_rfl) (fun _ _ _ h => h) (Or.inl ⟨by rfl, fun w hSw => ?_⟩) hHeld ?_
    · have q0 := r0 w hSw; first | rfl | go_simp
    simp only [Act.put, List.setIfInBounds_toArray, List.set_cons_zero, List.set_cons_succ, List.getElem_toArray, List.getElem_cons_zero, List.getElem_cons_succ]
    refine wpAnyH_take (i := 8) (v := .agg #[.slice (some ⟨rb, 0, none⟩) 2 rc, .slice va NN vc, .slice (some ⟨cb, 0, none⟩) NN NN]) rfl (by kernel_rfl) (by kernel_rfl) (by kernel_rfl) (fun _ _ _ h => h) (Or.inl ⟨by rfl, fun w hSw => ?_⟩) hHeld ?_
    · have q0 := c0 w hSw; have q1 := c1 w hSw; have q2 := c2 w hSw; first | rfl | go_simp
    simp only [Act.put, List.setIfInBounds_toArray, List.set_cons_zero, List.set_cons_succ, List.getElem_toArray, List.getElem_cons_zero, List.getElem_cons_succ]
    refine wpAnyH_take (i := 9) (v := .pointer (some ⟨cc, 0, none⟩)) rfl (by kernel_rfl) (by kernel_rfl) (by kernel_rfl) (fun _ _ _ h => h) (Or.inl ⟨by rfl, fun w hSw => ?_⟩) hHeld ?_
    · first | rfl | go_simp
    simp only [Act.put, List.setIfInBounds_toArray, List.set_cons_zero, List.set_cons_succ, List.getElem_toArray, List.getElem_cons_zero, List.getElem_cons_succ]
    refine wpAnyH_take (i := 10) (v := .slice (some ⟨rb, 0, none⟩) 2 rc) rfl (by kernel_rfl) (by kernel_rfl) (by kernel_rfl) (fun _ _ _ h => h) (Or.inl ⟨by rfl, fun w hSw => ?_⟩) hHeld ?_
    · have q0 := c0 w hSw; first | rfl | go_simp
    simp only [Act.put, List.setIfInBounds_toArray, List.set_cons_zero, List.set_cons_succ, List.getElem_toArray, List.getElem_cons_zero, List.getElem_cons_succ]
    refine wpAnyH_take (i := 11) (v := .pointer (some ⟨rb, 1, none⟩)) rfl (by kernel_rfl) (by kernel_rfl) (by kernel_rfl) (fun _ _ _ h => h) (Or.inl ⟨by rfl, fun w hSw => ?_⟩) hHeld ?_
    · first | rfl | go_simp
    simp only [Act.put, List.setIfInBounds_toArray, List.set_cons_zero, List.set_cons_succ, List.getElem_toArray, List.getElem_cons_zero, List.getElem_cons_succ]
    refine wpAnyH_take (i := 12) (v := .iface vt vy) rfl (by kernel_rfl) (by kernel_rfl) (by kernel_rfl) (fun _ _ _ h => h) (Or.inl ⟨by rfl, fun w hSw => ?_⟩) hHeld ?_
    · have q0 := r1 w hSw; first | rfl | go_simp
    simp only [Act.put, List.setIfInBounds_toArray, List.set_cons_zero, List.set_cons_succ, List.getElem_toArray, List.getElem_cons_zero, List.getElem_cons_succ]
    refine wpAnyH_ready (rs := [7]) (by kernel_rfl) (by simp) ?_
    refine AllReadyH.cons rfl (fun K' hK' => ?_) AllReadyH.nil
    have hcall := HF1.out _ hHeld
    go_simp
    refine hcall.mono ?_
    clear hcall
    rintro e w3 ⟨rfl, hb3⟩
    have hs3 : Below w2.heap.size w2 w3 := grw hHeld hb3
    refine hK'.out _ _ hs3 (fun hHeld => ?_)
    clear hK' hb3
    refine wpAnyH_ready (rs := [13]) (by kernel_rfl) (by simp) ?_
    refine AllReadyH.cons rfl (fun K' hK' => ?_) AllReadyH.nil
    have hcall := HF2.out _ hHeld
    go_simp
    refine hcall.mono ?_
    clear hcall
    rintro e w4 ⟨rfl, hb4⟩
    have hs4 : Below w2.heap.size w2 w4 := grw hHeld hb4
    refine hK'.out _ _ hs4 (fun hHeld => ?_)
    clear hK' hb4
    refine wpAnyH_take (i := 14) (v := .bool bq) rfl (by kernel_rfl) (by kernel_rfl) (by kernel_rfl) (fun _ _ _ h => h) (Or.inl ⟨by rfl, fun w hSw => ?_⟩) hHeld ?_
    · have q0 := HEQ.out w hSw; first | rfl | go_simp
    simp only [Act.put, List.setIfInBounds_toArray, List.set_cons_zero, List.set_cons_succ, List.getElem_toArray, List.getElem_cons_zero, List.getElem_cons_succ]
    refine wpAnyH_take (i := 15) (v := .bool bq) rfl (by kernel_rfl) (by kernel_rfl) (by kernel_rfl) (fun _ _ _ h => h) (Or.inl ⟨by rfl, fun w hSw => ?_⟩) hHeld ?_
    · first | rfl | go_simp
    simp only [Act.put, List.setIfInBounds_toArray, List.set_cons_zero, List.set_cons_succ, List.getElem_toArray, List.getElem_cons_zero, List.getElem_cons_succ]
    refine wpAnyH_take (i := 16) (v := .bool bq) rfl (by kernel_rfl) (by kernel_rfl) (by kernel_rfl) (fun _ _ _ h => h) (Or.inl ⟨by rfl, fun w hSw => ?_⟩) hHeld ?_
    · first | rfl | go_simp
    simp only [Act.put, List.setIfInBounds_toArray, List.set_cons_zero, List.set_cons_succ, List.getElem_toArray, List.getElem_cons_zero, List.getElem_cons_succ]
    refine wpAnyH_done (by kernel_rfl) ?_ _
    go_wp2
    go_ret
    exact ⟨HR.out _ rfl, grw HB2.out hs4⟩
  · have HN : Hid (¬ (OkG n u L K X ∧ OkG m u' L' K' X')) := by
      rw [HGd.out] at hno
      rcases (show q = 0 ∨ q = 1 by omega) with rfl | rfl
      · exact (show ¬ (OkG n u L K X ∧ OkG m u' L' K' X') from fun h => hno h.1)
      · exact (show ¬ (OkG n u L K X ∧ OkG m u' L' K' X') from fun h => hno h.2)
    obtain ⟨w2, hw2⟩ : ∃ w2, w2 = w1.alloc (.cells #[.slice none 0 0, .slice none 0 0, .slice none 0 0] 60) := ⟨_, rfl⟩
    have hb2 : Below w1.heap.size w1 w2 := by rw [hw2]; exact (Below.refl _ _).alloc (Nat.le_refl _) _
    have HB2 : Hid (Below w.heap.size w w2) := grw HB1.out hb2
    go_wp2
    rw [← hw2]
    go_quiet (fail)
    go_wp2
    go_ret
    exact ⟨Or.inr ⟨HN.out, rfl⟩, below_drewN HB2.out _⟩

end Go.Proofs.Ytgflalfiopnmnaa
