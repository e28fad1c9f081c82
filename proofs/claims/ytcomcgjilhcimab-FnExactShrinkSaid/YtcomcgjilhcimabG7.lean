import Derived.Test.YtcomcgjilhcimabG6
namespace Go.Proofs.Ytcomcgjilhcimab
open Go.RowKit Vl

theorem Tbs.agree {w : World} {n : Nat} {T M : Nat → Nat} {at_ : Nat → Int} {L L' : Nat → Nat} {K X K' X' : Nat → Nat → V} (h : Tbs w n T M at_ L K X) (hL : ∀ j, j < n → L j = L' j) (hK : ∀ j, j < n → K j = K' j) (hX : ∀ j, j < n → ∀ c, c < L j → X j c = X' j c) : Tbs w n T M at_ L' K' X' := by
  refine ⟨fun j hj => ?_, fun j hj => ?_, h.inj⟩
  · rw [← hL j hj, ← hK j hj]; exact h.tab j hj
  · obtain ⟨l, h1, h2⟩ := h.map j hj
    exact ⟨l, h1, fun c hc => by rw [← hL j hj] at hc; rw [← hK j hj, ← hX j hj c hc]; exact h2 c hc⟩

/-- Maps of tables are changed alone. -/
abbrev Maps (n : Nat) (M : Nat → Nat) (w w' : World) : Prop := Only (fun k => ∃ j, j < n ∧ k = M j) w w'
theorem Tbs.cellM {w w' : World} {n : Nat} {T M : Nat → Nat} {at_ : Nat → Int} {L : Nat → Nat} {K X : Nat → Nat → V} (h : Tbs w n T M at_ L K X) (ho : Maps n M w w') {p : Addr} {v : Value} (hc : w.cell? p = some v) : w'.cell? p = some v := by
  refine ho.cell hc (fun ⟨j, hj, e⟩ => ?_)
  obtain ⟨l, ⟨es, clk, hb, _⟩, _⟩ := h.map j hj
  rw [← e] at hb
  simp [World.cell?, hb] at hc
theorem Tbs.blkM {w w' : World} {n : Nat} {T M : Nat → Nat} {at_ : Nat → Int} {L : Nat → Nat} {K X : Nat → Nat → V} (h : Tbs w n T M at_ L K X) (ho : Maps n M w w') {B : Nat} {cs : Array Value} {t : TypeId} {z : Nat × Nat} (hc : w.heap[B]? = some (.cells cs t z)) : w'.heap[B]? = some (.cells cs t z) := by
  rw [ho.block B (blk_lt hc) (fun ⟨j, hj, e⟩ => ?_)]
  · exact hc
  · obtain ⟨l, ⟨es, clk, hb, _⟩, _⟩ := h.map j hj
    rw [← e, hc] at hb
    cases hb

/-- The value at a key of a table is put anew. -/
theorem Tbs.putV {w w' : World} {n : Nat} {T M : Nat → Nat} {at_ : Nat → Int} {L : Nat → Nat} {K X : Nat → Nat → V} (h : Tbs w n T M at_ L K X) (hm : ∀ i j, i < n → j < n → M i = M j → i = j) {r c : Nat} (hr : r < n) (hk : ∀ b, b < L r → b ≠ c → K r b ≠ K r c) (x : V) {l l' : List (V × Value)} (hl : ∀ c, c < L r → findV (K r c) l = some (ifv T (X r c))) (hM : MapIs w' (M r) l') (hf : findV (K r c) l' = some (ifv T x)) (hfo : ∀ u, u ≠ K r c → findV u l' = findV u l) (ho : Only (fun k => k = M r) w w') :
    Tbs w' n T M at_ L K (fun j b => if j = r ∧ b = c then x else X j b) ∧ Maps n M w w' := by
  have hM' : Maps n M w w' := ho.mono (fun k _ e => ⟨r, hr, e⟩)
  refine ⟨⟨fun j hj => ?_, fun j hj => ?_, h.inj⟩, hM'⟩
  · obtain ⟨ord, h1, h2⟩ := h.tab j hj
    refine ⟨ord, h.blkM hM' h1, ho.ownsB h2 (fun g hg e => ?_)⟩
    obtain ⟨_, cur, hc⟩ := owns_type h2 hg
    obtain ⟨l, ⟨es, clk, hb, _⟩, _⟩ := h.map r hr
    rw [← e, hc] at hb
    cases hb
  · by_cases e : j = r
    · subst e
      refine ⟨l', hM, fun b hb => ?_⟩
      by_cases e2 : b = c
      · subst e2
        rw [if_pos ⟨rfl, rfl⟩]
        exact hf
      · rw [if_neg (fun h => e2 h.2), hfo _ (hk b hb e2)]
        exact hl b hb
    · obtain ⟨l2, h1, h2⟩ := h.map j hj
      refine ⟨l2, h1.same (ho.block _ h1.lt (fun e' => e (hm j r hj hr e'))), fun b hb => ?_⟩
      rw [if_neg (fun h => e h.1)]
      exact h2 b hb

/-- Tables' values, those ahead of the place turned to the first of their class. -/
def mX (f : Nat → Nat) (X : Nat → Nat → V) (i q j c : Nat) : V := if j < i ∨ (j = i ∧ c < q) then fstV f (X j c) else X j c
theorem mX_at (f : Nat → Nat) (X : Nat → Nat → V) (i q : Nat) : mX f X i q i q = X i q := by unfold mX; rw [if_neg (by omega)]
theorem mX_next (f : Nat → Nat) (X : Nat → Nat → V) (i q : Nat) : (fun j b => if j = i ∧ b = q then fstV f (X i q) else mX f X i q j b) = mX f X i (q + 1) := by
  funext j b
  unfold mX
  by_cases e : j = i ∧ b = q
  · obtain ⟨rfl, rfl⟩ := e
    rw [if_pos ⟨rfl, rfl⟩, if_pos (by omega)]
  · rw [if_neg e]
    by_cases h : j < i ∨ (j = i ∧ b < q)
    · rw [if_pos h, if_pos (by omega)]
    · rw [if_neg h, if_neg (by omega)]

set_option maxHeartbeats 8000000 in
set_option maxRecDepth 100000 in
/-- 'impl.Shrink'. -/
theorem implShrink_any (u : V) (ta : Option Addr) (n cp TB TO : Nat) (A : Nat → Option Addr) (L C RB RO : Nat → Nat) (K X : Nat → Nat → V) (w : World) (hn : n ≤ 1048576) (HS : Hid (Small 1048576 n L K X)) (HT : Hid (TabsAt w ta n TB TO A L C RB RO K X)) :
    Calls Try.prog 38 #[.agg #[.int .i64 u.k, .int .i64 u.n, .string u.s, .int .i64 u.a, .slice ta n cp]] w fun e w' => ShrIs w w' e n u L K X ∧ Below w.heap.size w w' := by
  have A3 := alloc3 w (.cells #[.int .i64 u.k, .int .i64 u.n, .string u.s, .int .i64 u.a, .slice ta n cp] 32) (.cells #[.int .i64 0, .int .i64 0, .string ⟨#[]⟩, .int .i64 0, .slice none 0 0] 32) (.cells #[.int .i64 u.k, .int .i64 u.n, .string u.s, .int .i64 u.a, .slice ta n cp] 32)
  obtain ⟨w0, hw0⟩ : ∃ w0, w0 = ((w.alloc (.cells #[.int .i64 u.k, .int .i64 u.n, .string u.s, .int .i64 u.a, .slice ta n cp] 32)).alloc (.cells #[.int .i64 0, .int .i64 0, .string ⟨#[]⟩, .int .i64 0, .slice none 0 0] 32)).alloc (.cells #[.int .i64 u.k, .int .i64 u.n, .string u.s, .int .i64 u.a, .slice ta n cp] 32) := ⟨_, rfl⟩
  rw [← hw0] at A3
  have H0 : Hid (CanW w w0 u ta n cp) := ⟨A3.1, A3.2.1, A3.2.2.2.2⟩
  have HB0 : Hid (Below w.heap.size w w0) := A3.2.2.2.2
  obtain ⟨k0, k1, k2, k3, k4, _⟩ := cells5 A3.2.2.1
  have HZ0 : Hid (w0.heap.size = w.heap.size + 3) := A3.2.2.2.1
  obtain ⟨G, HGd⟩ : ∃ G : GrS, Hid (G = ⟨fun _ => u, fun _ => n, fun _ => L, fun _ => K, fun _ => X⟩) := ⟨_, rfl⟩
  have HGs : Hid (GsAt w0 1 (w.heap.size + 2) G (fun _ => ta) (fun _ => cp) (fun _ => TB) (fun _ => TO) (fun _ => A) (fun _ => C) (fun _ => RB) (fun _ => RO)) := by
    rw [HGd.out]
    refine ⟨fun q hq => ?_, fun q hq => ?_, fun q hq => ?_, fun q hq => ?_, fun q hq => ?_, fun _ _ => ⟨hn, HS.out⟩, fun _ _ => HT.out.below HB0.out⟩ <;> (obtain rfl : q = 0 := by omega) <;> assumption
  have hcf := classify_any 1 (by omega) (by omega) (w.heap.size + 2) G _ _ _ _ _ _ _ _ w0 HGs
  have hoff : G.off 1 = n := by rw [HGd.out]; simp [GrS.off]
  clear k0 k1 k2 k3 k4 A3
  go_enter Try.func38, Try.ntmps38
  go_wp2_with fail
  rw [← hw0]
  refine hcf.mono ?_
  clear hcf hw0
  rintro e w1 ⟨hcase, hb1⟩
  have H1 : Hid (CanW w w1 u ta n cp) := H0.out.below hb1
  rcases hcase with ⟨T, M, Lc, Kc, Xc, ls, f, rv, tv, cb, rfl, hd⟩ | ⟨⟨q, hq, hno⟩, rfl⟩
  · have hok : OkG n u L K X := by have := hd.cmb.ok 0 (by omega); rw [HGd.out] at this; exact this
    have e0 : sh (G.off 0) (G.U 0) = u := by rw [HGd.out]; exact sh_zero u
    obtain ⟨rb, rc, rfl, hr0⟩ := owns_cell hd.roots (k := 0) (y := ifv T (sh (G.off 0) (G.U 0))) (by simp)
    obtain ⟨va, vc, rfl, _⟩ := owns_form hd.tabs
    rw [e0] at hr0
    have htab := hd.cmb.tab 0 (by omega)
    rw [HGd.out] at htab
    simp only [GrS.off, Nat.zero_add, sh_zero] at htab
    have hL : ∀ j, j < n → Lc j = L j := fun j hj => (htab j hj).1
    have hK : ∀ j, j < n → Kc j = K j := fun j hj => (htab j hj).2.1
    have hX : ∀ j, j < n → Xc j = X j := fun j hj => funext (htab j hj).2.2
    have h1 := hd.cls
    have h2 := hd.srt
    have h3 := hd.is
    have h4 := hd.tbs
    have h5 := hd.ap
    have h6 := hd.tabs
    rw [hoff] at h1 h2 h3 h4 h5 h6
    have HCS : Hid ((∀ r, r < n → SortI (K r) (L r) (ls r)) ∧ IsCls n L (sK K ls) (sK X ls) f) := ⟨fun r hr => by rw [← hK r hr, ← hL r hr]; exact h2 r hr, h3.agree hL (fun j hj => by unfold sK; rw [hK j hj]) (fun j hj => by unfold sK; rw [hX j hj])⟩
    have hT1 : Tbs w1 n T M (fun j => (j : Nat)) L (sK K ls) (sK X ls) := h4.agree hL (fun j hj => by unfold sK; rw [hK j hj]) (fun j hj c _ => by unfold sK; rw [hX j hj])
    have HAp : Hid (∀ j, j < n → w.heap.size + 2 ≤ T j ∧ w.heap.size + 2 ≤ M j) := show ∀ j, _ from fun j hj => ⟨by have := h5.lo j hj; have := HB0.out.size; omega, by have := h5.mlo j hj; have := HB0.out.size; omega⟩
    have HMi : Hid (∀ i j, i < n → j < n → M i = M j → i = j) := h5.mone
    have HOk : Hid (OkG n u L K X) := hok
    obtain ⟨tb, hva, hrow⟩ : ∃ tb, (0 < n → va = some ⟨tb, 0, none⟩) ∧ ∀ j, j < n → w1.cell? ⟨tb, j, none⟩ = some (ptr (T j)) := by
      by_cases h0 : 0 < n
      · obtain ⟨g, cap, e, _⟩ := h6.form h0
        cases e
        refine ⟨g, fun _ => rfl, fun j hj => ?_⟩
        obtain ⟨g', cap', e', h⟩ := owns_cell h6 (k := j) (y := ptr (T j)) (by simp [hj])
        cases e'
        exact h
      · exact ⟨0, fun h => absurd h h0, fun j hj => by omega⟩
    obtain ⟨w2, hw2⟩ : ∃ w2, w2 = w1.alloc (.cells #[.slice (some ⟨rb, 0, none⟩) 1 rc, .slice va n vc, .slice (some ⟨cb, 0, none⟩) n n] 87) := ⟨_, rfl⟩
    have hb2 : Below w1.heap.size w1 w2 := by rw [hw2]; exact (Below.refl _ _).alloc (Nat.le_refl _) _
    have H2 : Hid (CanW w w2 u ta n cp) := H1.out.below hb2
    have hblk2 : w2.heap[w1.heap.size]? = some (.cells #[.slice (some ⟨rb, 0, none⟩) 1 rc, .slice va n vc, .slice (some ⟨cb, 0, none⟩) n n] 87 (0, 0)) := by rw [hw2]; exact heap_alloc_new _ _
    obtain ⟨cc, hcc⟩ : ∃ cc, w1.heap.size = cc := ⟨_, rfl⟩
    rw [hcc] at hblk2
    have HT2 : Hid (Tbs w2 n T M (fun j => (j : Nat)) L (sK K ls) (sK X ls)) := hT1.below hb2
    have HCl : Hid (w2.heap[cc]? = some (.cells #[.slice (some ⟨rb, 0, none⟩) 1 rc, .slice va n vc, .slice (some ⟨cb, 0, none⟩) n n] 87 (0, 0))) := hblk2
    have HRt : Hid (∀ j, j < n → w2.cell? ⟨tb, j, none⟩ = some (ptr (T j))) := show ∀ j, _ from fun j hj => (hb2.cell (World.block_lt_of_cell? _ _ (hrow j hj))).trans (hrow j hj)
    have HRc : Hid (∀ j, j < n → w2.cell? ⟨cb, j, none⟩ = some (.int .i64 (f j : Nat))) := show ∀ j, _ from fun j hj => (hb2.cell (World.block_lt_of_cell? _ _ (h1.cell hj))).trans (h1.cell hj)
    have HR0 : Hid (w2.cell? ⟨rb, 0, none⟩ = some (ifv T u)) := (hb2.cell (World.block_lt_of_cell? _ _ hr0)).trans hr0
    have HVA : Hid (0 < n → va = some ⟨tb, 0, none⟩) := hva
    have hn2 : n ≤ 200 := hok.len
    rw [hoff]
    clear hd h1 h2 h3 h4 h5 h6 hT1 hrow hr0 htab hL hK hX e0 hb2 hblk2 HGs HGd hoff hva hok H0 H1 hb1
    obtain ⟨c0, c1, c2, _⟩ := three_at HCl.out
    go_wp2
    try rw [hcc] at hw2
    try rw [hcc]
    rw [← hw2]
    clear hw2 hcc c0 c1 c2
    go_loopw [21] (fun ii wr => ∃ i : Nat, i ≤ n ∧ ii = .int .i64 i ∧ Hid (Tbs wr n T M (fun j => (j : Nat)) L (sK K ls) (mX f (sK X ls) i 0)) ∧ Hid (Maps n M w2 wr)) (fun ii _ => n - (intOf ii).toNat)
    case atStart => exact ⟨0, Nat.zero_le _, rfl, HT2.out.agree (fun _ _ => rfl) (fun _ _ => rfl) (fun j _ c _ => by unfold mX; rw [if_neg (by omega)]), Only.refl _ _⟩
    case round =>
      obtain ⟨i, hi, rfl, HTr, HMr⟩ := hrel
      by_cases hlt : i < n
      · obtain rfl := HVA.out (by omega)
        have t0 := HT2.out.cellM HMr.out (HRt.out i hlt)
        obtain ⟨ord, hTb, hOr⟩ := HTr.out.tab i hlt
        obtain ⟨hform, hVals⟩ := owns_keys hOr
        obtain ⟨ka, hka⟩ : ∃ ka, slA ord = ka := ⟨_, rfl⟩
        obtain ⟨kb, hkb⟩ : ∃ kb, slB ord = kb := ⟨_, rfl⟩
        obtain ⟨kc, hkc⟩ : ∃ kc, slC ord = kc := ⟨_, rfl⟩
        rw [hka, hkc] at hform
        rw [hka, hkb] at hVals
        rw [hform] at hTb
        obtain ⟨l, hl⟩ : ∃ l, L i = l := ⟨_, rfl⟩
        have hl100 : l ≤ 100 := by rw [← hl]; exact (HOk.out.all i hlt).len
        obtain ⟨wi, hwi⟩ : ∃ wi, wi = wr := ⟨_, rfl⟩
        have HVi : Hid (ValsAt wi ka l kb 0 (sK K ls i)) := by rw [hwi, ← hl]; exact hVals
        have HTi : Hid (Tbs wi n T M (fun j => (j : Nat)) L (sK K ls) (mX f (sK X ls) i 0)) := by rw [hwi]; exact HTr.out
        have HMi0 : Hid (Maps n M w2 wi) := by rw [hwi]; exact HMr.out
        obtain ⟨x0, x1, x2, _⟩ := hTb.cells
        rw [hl] at x2
        clear hOr hVals hform hka hkb hkc HTr HMr hTb
        go_wp2
        rw [← hwi]
        clear hwi x0 x1 x2 t0
        go_loopw [30] (fun ii wq => ∃ c : Nat, c ≤ l ∧ ii = .int .i64 c ∧ Hid (Tbs wq n T M (fun j => (j : Nat)) L (sK K ls) (mX f (sK X ls) i c)) ∧ Hid (Maps n M wi wq)) (fun ii _ => l - (intOf ii).toNat)
        case atStart => exact ⟨0, Nat.zero_le _, rfl, HTi, Only.refl _ _⟩
        case round =>
          obtain ⟨c, hc, rfl, HTq, HMq⟩ := hrel
          have HMw : Hid (Maps n M w2 wr) := HMi0.out.trans HMq.out
          by_cases hlc : c < l
          · obtain rfl := HVi.out.top (by omega)
            obtain ⟨k0, k1, k2, k3⟩ := HVi.out.cells hlc
            simp only [Nat.zero_add] at k0 k1 k2 k3
            replace k0 := HTi.out.cellM HMq.out k0
            replace k1 := HTi.out.cellM HMq.out k1
            replace k2 := HTi.out.cellM HMq.out k2
            replace k3 := HTi.out.cellM HMq.out k3
            obtain ⟨kk, HKK⟩ : ∃ kk, Hid (sK K ls i c = kk) := ⟨_, rfl⟩
            rw [HKK.out] at k0 k1 k2 k3
            obtain ⟨wk, hwk⟩ : ∃ wk, wk = wr.alloc (.cells #[.int .i64 kk.k, .int .i64 kk.n, .string kk.s, .int .i64 kk.a] 29) := ⟨_, rfl⟩
            have hbk : Below wr.heap.size wr wk := by rw [hwk]; exact (Below.refl _ _).alloc (Nat.le_refl _) _
            have hKb : ValB wk wr.heap.size kk := by rw [hwk]; exact heap_alloc_new _ _
            obtain ⟨qb, hqb⟩ : ∃ qb, wr.heap.size = qb := ⟨_, rfl⟩
            rw [hqb] at hKb
            have HTk : Hid (Tbs wk n T M (fun j => (j : Nat)) L (sK K ls) (mX f (sK X ls) i c)) := HTq.out.below hbk
            have HMk : Hid (Maps n M wi wk) := HMq.out.trans (Only.below hbk)
            have HMwk : Hid (Maps n M w2 wk) := HMw.out.trans (Only.below hbk)
            go_wp2
            rw [← hwk]
            try rw [hqb]
            clear hwk k0 k1 k2 k3 hbk HTq HMq HMw hqb
            obtain ⟨m, hm⟩ : ∃ m, M i = m := ⟨_, rfl⟩
            obtain ⟨s0, s1, s2, s3, _⟩ := cells4 hKb
            obtain ⟨c0, c1, c2, _⟩ := three_at (HT2.out.blkM HMwk.out HCl.out)
            obtain ⟨ord', hTb', _⟩ := HTk.out.tab i hlt
            obtain ⟨_, x1, _, _⟩ := hTb'.cells
            obtain ⟨lm, hMp, hfind⟩ := HTk.out.map i hlt
            have hiv : isV n (sK X ls i c) = true := good_of HOk.out i hlt _ ((HCS.out.1 i hlt).lt (by omega))
            have hfc := hfind c (by omega)
            rw [mX_at, HKK.out] at hfc
            have HNM : Hid (qb ≠ m ∧ cc ≠ m ∧ T i ≠ m) := by
              rw [← hm]
              obtain ⟨es, clk, hb, _⟩ := hMp
              refine ⟨fun e => ?_, fun e => ?_, fun e => ?_⟩
              · unfold ValB at hKb; rw [e, hb] at hKb; cases hKb
              · have := HT2.out.blkM HMwk.out HCl.out; rw [e, hb] at this; cases this
              · unfold TabB at hTb'; rw [e, hb] at hTb'; cases hTb'
            rw [hm] at x1
            have hcell : ∀ {p : Addr} {v : Value}, wk.cell? p = some v → p.block ≠ m → ∀ x, Only (fun k => k = m) wk x → x.cell? p = some v := fun hc hp x ho => ho.cell hc hp
            replace s0 := hcell s0 HNM.out.1
            replace s1 := hcell s1 HNM.out.1
            replace s2 := hcell s2 HNM.out.1
            replace s3 := hcell s3 HNM.out.1
            replace c0 := hcell c0 HNM.out.2.1
            replace c1 := hcell c1 HNM.out.2.1
            replace c2 := hcell c2 HNM.out.2.1
            replace x1 := hcell x1 HNM.out.2.2
            obtain ⟨xt, xy, hxv⟩ := ifv_form T (sK X ls i c)
            rw [hxv] at hfc
            have HLK : Hid ((Instr.lookup 93 (.map (some m)) (.agg #[.int .i64 kk.k, .int .i64 kk.n, .string kk.s, .int .i64 kk.a]) false).run Try.prog wk.drew = .ok (.iface xt xy) wk.drew) := by
              have := ((hMp.same (w' := wk.drew) rfl).lookup kk).2
              rw [hfc, hm] at this
              exact this
            have HMP : Hid (MapIs wk (M i) lm) := hMp
            have HFD : Hid (∀ b, b < L i → findV (sK K ls i b) lm = some (ifv T (mX f (sK X ls) i c i b))) := hfind
            have HFC : Hid (findV kk lm = some (.iface xt xy)) := hfc
            have hcall := first_any n 1 rc vc tb cb T M L (sK K ls) (mX f (sK X ls) i c) f (some ⟨rb, 0, none⟩) (some ⟨tb, 0, none⟩) (sK X ls i c) wk.drew hiv (by omega) HCS.out.2.low (fun _ => rfl) (show ∀ j, _ from fun j hj => HT2.out.cellM HMwk.out (HRt.out j hj)) (show ∀ j, _ from fun j hj => HT2.out.cellM HMwk.out (HRc.out j hj)) (HTk.out.below (Below.refl _ _).drew)
            rw [hxv] at hcall
            obtain ⟨yt, yy, hyv⟩ := ifv_form T (fstV f (sK X ls i c))
            rw [hyv] at hcall
            have HYV : Hid (ifv T (fstV f (sK X ls i c)) = .iface yt yy) := hyv
            clear hKb hTb' hMp hfind hfc hxv hyv hcell hiv
            refine wp_region_held_drew (S := fun x => Only (fun k => k = m) wk x) (by kernel_rfl) (Only.below (Below.refl _ _).drew) (fun hHeld => ?_)
            refine wpAnyH_take (i := 0) (v := .pointer (some ⟨T i, 0, none⟩)) rfl (by kernel_rfl) (by kernel_rfl) (by kernel_rfl) (fun _ _ _ h => h) (Or.inl ⟨by rfl, fun w hSw => ?_⟩) hHeld ?_
            · first | rfl | go_simp
            simp only [Act.put, List.setIfInBounds_toArray, List.set_cons_zero, List.set_cons_succ, List.getElem_toArray, List.getElem_cons_zero]
            refine wpAnyH_take (i := 1) (v := .pointer (some ⟨T i, 0, none⟩)) rfl (by kernel_rfl) (by kernel_rfl) (by kernel_rfl) (fun _ _ _ h => h) (Or.inl ⟨by rfl, fun w hSw => ?_⟩) hHeld ?_
            · first | rfl | go_simp
            simp only [Act.put, List.setIfInBounds_toArray, List.set_cons_zero, List.set_cons_succ, List.getElem_toArray, List.getElem_cons_zero, List.getElem_cons_succ]
            refine wpAnyH_take (i := 2) (v := .pointer (some ⟨T i, 1, none⟩)) rfl (by kernel_rfl) (by kernel_rfl) (by kernel_rfl) (fun _ _ _ h => h) (Or.inl ⟨by rfl, fun w hSw => ?_⟩) hHeld ?_
            · first | rfl | go_simp
            simp only [Act.put, List.setIfInBounds_toArray, List.set_cons_zero, List.set_cons_succ, List.getElem_toArray, List.getElem_cons_zero, List.getElem_cons_succ]
            refine wpAnyH_take (i := 3) (v := .map (some m)) rfl (by kernel_rfl) (by kernel_rfl) (by kernel_rfl) (fun _ _ _ h => h) (Or.inl ⟨by rfl, fun w hSw => ?_⟩) hHeld ?_
            · have q0 := x1 w hSw; first | rfl | go_simp
            simp only [Act.put, List.setIfInBounds_toArray, List.set_cons_zero, List.set_cons_succ, List.getElem_toArray, List.getElem_cons_zero, List.getElem_cons_succ]
            refine wpAnyH_take (i := 4) (v := .agg #[.int .i64 kk.k, .int .i64 kk.n, .string kk.s, .int .i64 kk.a]) rfl (by kernel_rfl) (by kernel_rfl) (by kernel_rfl) (fun _ _ _ h => h) (Or.inl ⟨by rfl, fun w hSw => ?_⟩) hHeld ?_
            · have q0 := s0 w hSw; have q1 := s1 w hSw; have q2 := s2 w hSw; have q3 := s3 w hSw; first | rfl | go_simp
            simp only [Act.put, List.setIfInBounds_toArray, List.set_cons_zero, List.set_cons_succ, List.getElem_toArray, List.getElem_cons_zero, List.getElem_cons_succ]
            refine wpAnyH_take (i := 5) (v := .agg #[.slice (some ⟨rb, 0, none⟩) 1 rc, .slice (some ⟨tb, 0, none⟩) n vc, .slice (some ⟨cb, 0, none⟩) n n]) rfl (by kernel_rfl) (by kernel_rfl) (by kernel_rfl) (fun _ _ _ h => h) (Or.inl ⟨by rfl, fun w hSw => ?_⟩) hHeld ?_
            · have q0 := c0 w hSw; have q1 := c1 w hSw; have q2 := c2 w hSw; first | rfl | go_simp
            simp only [Act.put, List.setIfInBounds_toArray, List.set_cons_zero, List.set_cons_succ, List.getElem_toArray, List.getElem_cons_zero, List.getElem_cons_succ]
            refine wpAnyH_take (i := 6) (v := .pointer (some ⟨T i, 0, none⟩)) rfl (by kernel_rfl) (by kernel_rfl) (by kernel_rfl) (fun _ _ _ h => h) (Or.inl ⟨by rfl, fun w hSw => ?_⟩) hHeld ?_
            · first | rfl | go_simp
            simp only [Act.put, List.setIfInBounds_toArray, List.set_cons_zero, List.set_cons_succ, List.getElem_toArray, List.getElem_cons_zero, List.getElem_cons_succ]
            refine wpAnyH_take (i := 7) (v := .pointer (some ⟨T i, 0, none⟩)) rfl (by kernel_rfl) (by kernel_rfl) (by kernel_rfl) (fun _ _ _ h => h) (Or.inl ⟨by rfl, fun w hSw => ?_⟩) hHeld ?_
            · first | rfl | go_simp
            simp only [Act.put, List.setIfInBounds_toArray, List.set_cons_zero, List.set_cons_succ, List.getElem_toArray, List.getElem_cons_zero, List.getElem_cons_succ]
            refine wpAnyH_take (i := 8) (v := .pointer (some ⟨T i, 1, none⟩)) rfl (by kernel_rfl) (by kernel_rfl) (by kernel_rfl) (fun _ _ _ h => h) (Or.inl ⟨by rfl, fun w hSw => ?_⟩) hHeld ?_
            · first | rfl | go_simp
            simp only [Act.put, List.setIfInBounds_toArray, List.set_cons_zero, List.set_cons_succ, List.getElem_toArray, List.getElem_cons_zero, List.getElem_cons_succ]
            refine wpAnyH_take (i := 9) (v := .map (some m)) rfl (by kernel_rfl) (by kernel_rfl) (by kernel_rfl) (fun _ _ _ h => h) (Or.inl ⟨by rfl, fun w hSw => ?_⟩) hHeld ?_
            · have q0 := x1 w hSw; first | rfl | go_simp
            simp only [Act.put, List.setIfInBounds_toArray, List.set_cons_zero, List.set_cons_succ, List.getElem_toArray, List.getElem_cons_zero, List.getElem_cons_succ]
            refine wpAnyH_take (i := 10) (v := .agg #[.int .i64 kk.k, .int .i64 kk.n, .string kk.s, .int .i64 kk.a]) rfl (by kernel_rfl) (by kernel_rfl) (by kernel_rfl) (fun _ _ _ h => h) (Or.inl ⟨by rfl, fun w hSw => ?_⟩) hHeld ?_
            · have q0 := s0 w hSw; have q1 := s1 w hSw; have q2 := s2 w hSw; have q3 := s3 w hSw; first | rfl | go_simp
            simp only [Act.put, List.setIfInBounds_toArray, List.set_cons_zero, List.set_cons_succ, List.getElem_toArray, List.getElem_cons_zero, List.getElem_cons_succ]
            refine wpAnyH_ready (rs := [11]) (by kernel_rfl) (by simp) ?_
            refine AllReadyH.cons rfl (fun K' hK' => ?_) AllReadyH.nil
            have hlk := HLK.out
            go_simp
            refine hK'.out _ _ hHeld (fun hHeld => ?_)
            clear hK' hlk HLK
            refine wpAnyH_ready (rs := [12]) (by kernel_rfl) (by simp) ?_
            refine AllReadyH.cons rfl (fun K' hK' => ?_) AllReadyH.nil
            go_simp
            refine hcall.mono ?_
            clear hcall
            rintro e w5 ⟨rfl, hb5⟩
            have hb5' : Below wk.heap.size wk w5 := ⟨hb5.os, hb5.tape, hb5.output, hb5.size, hb5.block⟩
            refine hK'.out _ _ (Only.below hb5') (fun hHeld => ?_)
            clear hK' hb5 hHeld
            obtain ⟨w6, l6, hu6, hM6, hf6, hfo6, hO6, hs6⟩ := (HMP.out.same (hb5'.block _ HMP.out.lt)).replace kk (.iface xt xy) (.iface yt yy) HFC.out
            have hput := (HTk.out.below hb5').putV HMi.out (r := i) (c := c) hlt (fun b hb hne e => (HOk.out.all i hlt).once ((HCS.out.1 i hlt).lt hb) ((HCS.out.1 i hlt).lt (show c < L i by omega)) (fun e' => by
                rcases Nat.lt_or_gt_of_ne hne with h' | h'
                · exact (HCS.out.1 i hlt).ne h' (by omega) e'
                · exact (HCS.out.1 i hlt).ne h' hb e'.symm) e) (fstV f (sK X ls i c)) HFD.out hM6 (by rw [HKK.out, HYV.out]; exact hf6) (by rw [HKK.out]; exact hfo6) hO6
            rw [mX_next] at hput
            have HT6 : Hid (Tbs w6 n T M (fun j => (j : Nat)) L (sK K ls) (mX f (sK X ls) i (c + 1))) := hput.1
            have HM6 : Hid (Maps n M wi w6) := (HMk.out.trans (Only.below hb5')).trans hput.2
            have hS6 : Only (fun k => k = m) wk w6 := (Only.below hb5').trans (by rw [← hm]; exact hO6)
            rw [hm] at hu6
            clear hput hM6 hf6 hfo6 hO6 hs6 hb5'
            refine wpAnyH_ready (rs := [13]) (by kernel_rfl) (by simp) ?_
            refine AllReadyH.cons rfl (fun K' hK' => ?_) AllReadyH.nil
            go_simp
            refine hK'.out _ _ hS6 (fun hHeld => ?_)
            clear hK' hHeld hu6 hS6
            refine wpAnyH_done (by kernel_rfl) ?_ _
            go_wp2
            go_roundw
            case rel => exact ⟨c + 1, by omega, by go_num, HT6, HM6⟩
            case measure => simp [intOf]; omega
          · obtain rfl : c = l := by omega
            have HT' : Hid (Tbs wr n T M (fun j => (j : Nat)) L (sK K ls) (mX f (sK X ls) (i + 1) 0)) := HTq.out.agree (fun _ _ => rfl) (fun _ _ => rfl) (fun j hj b hb => by
              unfold mX
              by_cases e : j < i ∨ (j = i ∧ b < c)
              · rw [if_pos e, if_pos (by omega)]
              · rw [if_neg e, if_neg (fun h => e (by
                  rcases h with h | h
                  · by_cases e2 : j = i
                    · subst e2; right; exact ⟨rfl, by omega⟩
                    · left; omega
                  · omega))])
            go_wp2
            go_roundw
            case rel => exact ⟨i + 1, by omega, by go_num, HT', HMw⟩
            case measure => simp [intOf]; omega
      · obtain rfl : i = n := by omega
        have HTf : Hid (Tbs wr i T M (fun j => (j : Nat)) L (sK K ls) (fX X ls f)) := HTr.out.agree (fun _ _ => rfl) (fun _ _ => rfl) (fun j hj b hb => by unfold mX fX; rw [if_pos (Or.inl hj)])
        have HCr : Hid (CanW w wr u ta i cp) := H2.out.only HMr.out (fun k ⟨j, hj, e⟩ => by have := (HAp.out j hj).2; omega)
        obtain ⟨c0, c1, c2, _⟩ := three_at (HT2.out.blkM HMr.out HCl.out)
        have r0 := HT2.out.cellM HMr.out HR0.out
        obtain ⟨ut, uy, hxv⟩ := ifv_form T u
        rw [hxv] at r0
        have hcall := first_any i 1 rc vc tb cb T M L (sK K ls) (fX X ls f) f (some ⟨rb, 0, none⟩) va u wr.drew HOk.out.root (by omega) HCS.out.2.low HVA.out (show ∀ j, _ from fun j hj => HT2.out.cellM HMr.out (HRt.out j hj)) (show ∀ j, _ from fun j hj => HT2.out.cellM HMr.out (HRc.out j hj)) (HTf.out.below (Below.refl _ _).drew)
        rw [hxv] at hcall
        have HOs : Hid (OkG i (fstV f u) L (sK K ls) (fX X ls f)) := okG_shr HOk.out HCS.out.1 HCS.out.2.low
        obtain ⟨S, HSo⟩ : ∃ S, Hid (order i (fstV f u) L (fX X ls f) = S) := ⟨_, rfl⟩
        obtain ⟨ru, HRU⟩ : ∃ ru, Hid (renum S (fstV f u) = ru) := ⟨_, rfl⟩
        obtain ⟨yt, yy, hyv⟩ := ifv_form T (fstV f u)
        have HCAN : Hid (∀ w', Below wr.heap.size wr w' → Calls Try.prog 56 #[.iface yt yy] w' fun e w'' => (∃ (tv : Value) (PV : Nat → Value) (base : Nat), w'.heap.size ≤ base ∧ e = .returned (.agg #[.int .i64 ru.k, .int .i64 ru.n, .string ru.s, .int .i64 ru.a, tv]) ∧ OTab w'' base tv S.length PV (cL S L) (cK S (sK K ls)) (cX S (fX X ls f))) ∧ Only (fun k => ∃ j, j < i ∧ k = T j) w' w'') := show ∀ _, _ from fun w' hb => by
          have h := canonical_any i T M (fun j => (j : Nat)) L (sK K ls) (fX X ls f) (fstV f u) w' (by omega) (show ∀ r, _ from fun r hr => (HOk.out.all r hr).len) (good_of HOs.out) HOs.out.root (HTf.out.below hb) S HSo
          rw [HRU.out, hyv] at h
          exact h
        rw [hyv] at hcall
        have HNT : Hid (∀ j, j < i → T j ≠ cc ∧ T j ≠ rb ∧ w.heap.size + 2 ≤ T j) := show ∀ j, _ from fun j hj => by
          obtain ⟨ord, h1, _⟩ := HTf.out.tab j hj
          refine ⟨fun e => ?_, fun e => ?_, (HAp.out j hj).1⟩
          · have := HT2.out.blkM HMr.out HCl.out
            unfold TabB at h1
            rw [e, this] at h1
            cases h1
          · have h2 := h1.cells.1
            rw [e] at h2
            have h3 := HT2.out.cellM HMr.out HR0.out
            rw [h2, hxv] at h3
            cases h3
        have HRl : Hid (rb < wr.heap.size ∧ rb ≠ w.heap.size + 1 ∧ cc ≠ w.heap.size + 1 ∧ cc < wr.heap.size) := by
          have hres := HCr.out.res
          refine ⟨World.block_lt_of_cell? _ _ r0, fun e => ?_, fun e => ?_, blk_lt (HT2.out.blkM HMr.out HCl.out)⟩
          · have h5 := (cells5 hres).1
            have h6 := r0
            rw [e, h5] at h6
            cases h6
          · have := HT2.out.blkM HMr.out HCl.out
            rw [e] at this
            have hres' : wr.heap[w.heap.size + 1]? = _ := hres
            rw [hres'] at this
            cases this
        have hs1 : w.heap.size + 1 < wr.heap.size := blk_lt HCr.out.res
        clear hxv hyv HTr HMr HT2 HTf
        have c0d : wr.drew.cell? ⟨cc, 0, none⟩ = _ := c0
        have c1d : wr.drew.cell? ⟨cc, 1, none⟩ = _ := c1
        have c2d : wr.drew.cell? ⟨cc, 2, none⟩ = _ := c2
        have r0d : wr.drew.cell? ⟨rb, 0, none⟩ = _ := r0
        go_wp2
        refine wp_region_held_drew (S := fun x => x.cell? ⟨cc, 0, none⟩ = some (.slice (some ⟨rb, 0, none⟩) 1 rc) ∧ x.cell? ⟨cc, 1, none⟩ = some (.slice va i vc) ∧ x.cell? ⟨cc, 2, none⟩ = some (.slice (some ⟨cb, 0, none⟩) i i) ∧ x.cell? ⟨rb, 0, none⟩ = some (.iface ut uy)) (by kernel_rfl) ⟨c0d, c1d, c2d, r0d⟩ (fun hHeld => ?_)
        clear c0d c1d c2d r0d c0 c1 c2 r0
        refine wpAnyH_take (i := 0) (v := .agg #[.slice (some ⟨rb, 0, none⟩) 1 rc, .slice va i vc, .slice (some ⟨cb, 0, none⟩) i i]) rfl (by kernel_rfl) (by kernel_rfl) (by kernel_rfl) (fun _ _ _ h => h) (Or.inl ⟨by rfl, fun w hSw => ?_⟩) hHeld ?_
        · have q0 := hSw.1; have q1 := hSw.2.1; have q2 := hSw.2.2.1; first | rfl | go_simp
        simp only [Act.put, List.setIfInBounds_toArray, List.set_cons_zero, List.set_cons_succ, List.getElem_toArray, List.getElem_cons_zero]
        refine wpAnyH_take (i := 1) (v := .pointer (some ⟨cc, 0, none⟩)) rfl (by kernel_rfl) (by kernel_rfl) (by kernel_rfl) (fun _ _ _ h => h) (Or.inl ⟨by rfl, fun w hSw => ?_⟩) hHeld ?_
        · first | rfl | go_simp
        simp only [Act.put, List.setIfInBounds_toArray, List.set_cons_zero, List.set_cons_succ, List.getElem_toArray, List.getElem_cons_zero, List.getElem_cons_succ]
        refine wpAnyH_take (i := 2) (v := .slice (some ⟨rb, 0, none⟩) 1 rc) rfl (by kernel_rfl) (by kernel_rfl) (by kernel_rfl) (fun _ _ _ h => h) (Or.inl ⟨by rfl, fun w hSw => ?_⟩) hHeld ?_
        · have q0 := hSw.1; first | rfl | go_simp
        simp only [Act.put, List.setIfInBounds_toArray, List.set_cons_zero, List.set_cons_succ, List.getElem_toArray, List.getElem_cons_zero, List.getElem_cons_succ]
        refine wpAnyH_take (i := 3) (v := .pointer (some ⟨rb, 0, none⟩)) rfl (by kernel_rfl) (by kernel_rfl) (by kernel_rfl) (fun _ _ _ h => h) (Or.inl ⟨by rfl, fun w hSw => ?_⟩) hHeld ?_
        · first | rfl | go_simp
        simp only [Act.put, List.setIfInBounds_toArray, List.set_cons_zero, List.set_cons_succ, List.getElem_toArray, List.getElem_cons_zero, List.getElem_cons_succ]
        refine wpAnyH_take (i := 4) (v := .iface ut uy) rfl (by kernel_rfl) (by kernel_rfl) (by kernel_rfl) (fun _ _ _ h => h) (Or.inl ⟨by rfl, fun w hSw => ?_⟩) hHeld ?_
        · have q0 := hSw.2.2.2; first | rfl | go_simp
        simp only [Act.put, List.setIfInBounds_toArray, List.set_cons_zero, List.set_cons_succ, List.getElem_toArray, List.getElem_cons_zero, List.getElem_cons_succ]
        refine wpAnyH_ready (rs := [5]) (by kernel_rfl) (by simp) ?_
        refine AllReadyH.cons rfl (fun K' hK' => ?_) AllReadyH.nil
        go_simp
        refine hcall.mono ?_
        clear hcall
        rintro e w5 ⟨rfl, hb5⟩
        have hb5' : Below wr.heap.size wr w5 := ⟨hb5.os, hb5.tape, hb5.output, hb5.size, hb5.block⟩
        have hS5 : w5.cell? ⟨cc, 0, none⟩ = some (.slice (some ⟨rb, 0, none⟩) 1 rc) ∧ w5.cell? ⟨cc, 1, none⟩ = some (.slice va i vc) ∧ w5.cell? ⟨cc, 2, none⟩ = some (.slice (some ⟨cb, 0, none⟩) i i) ∧ w5.cell? ⟨rb, 0, none⟩ = some (.iface ut uy) := ⟨(hb5.cell (p := ⟨cc, 0, none⟩) HRl.out.2.2.2).trans hHeld.1, (hb5.cell (p := ⟨cc, 1, none⟩) HRl.out.2.2.2).trans hHeld.2.1, (hb5.cell (p := ⟨cc, 2, none⟩) HRl.out.2.2.2).trans hHeld.2.2.1, (hb5.cell (p := ⟨rb, 0, none⟩) HRl.out.1).trans hHeld.2.2.2⟩
        refine hK'.out _ _ hS5 (fun hHeld => ?_)
        have HC5 : Hid (CanW w w5 u ta i cp) := HCr.out.below hb5'
        have hcan := HCAN.out w5 hb5'
        have hs5 : w.heap.size + 1 < w5.heap.size := blk_lt HC5.out.res
        have HL5 : Hid (wr.heap.size ≤ w5.heap.size) := hb5'.size
        clear hK' hb5 hb5' hS5
        refine wpAnyH_ready (rs := [6]) (by kernel_rfl) (by simp) ?_
        refine AllReadyH.cons rfl (fun K' hK' => ?_) AllReadyH.nil
        go_simp
        refine hcan.mono ?_
        clear hcan
        rintro e w7 ⟨⟨tv, PV, base, hbase, rfl, hO⟩, hL7⟩
        have hS7 : w7.cell? ⟨cc, 0, none⟩ = some (.slice (some ⟨rb, 0, none⟩) 1 rc) ∧ w7.cell? ⟨cc, 1, none⟩ = some (.slice va i vc) ∧ w7.cell? ⟨cc, 2, none⟩ = some (.slice (some ⟨cb, 0, none⟩) i i) ∧ w7.cell? ⟨rb, 0, none⟩ = some (.iface ut uy) := ⟨hL7.cell hHeld.1 (fun ⟨j, hj, e⟩ => (HNT.out j hj).1 e.symm), hL7.cell hHeld.2.1 (fun ⟨j, hj, e⟩ => (HNT.out j hj).1 e.symm), hL7.cell hHeld.2.2.1 (fun ⟨j, hj, e⟩ => (HNT.out j hj).1 e.symm), hL7.cell hHeld.2.2.2 (fun ⟨j, hj, e⟩ => (HNT.out j hj).2.1 e.symm)⟩
        have HC7 : Hid (CanW w w7 u ta i cp) := HC5.out.only hL7 (fun k ⟨j, hj, e⟩ => by have := (HNT.out j hj).2.2; omega)
        have HO : Hid (OTab w7 base tv S.length PV (cL S L) (cK S (sK K ls)) (cX S (fX X ls f))) := hO
        refine hK'.out _ _ hS7 (fun hHeld => ?_)
        clear hK' hO hL7 hS7
        obtain ⟨ta', tc', rfl, _⟩ := owns_form HO.out.own
        obtain ⟨r0, r1, r2, r3, r4, r5⟩ := cells5 HC7.out.res
        simp only [zeroV] at r0 r1 r2 r3
        have F := put5hi (put5lo HC7.out.res (.int .i64 ru.k) (.int .i64 ru.n) (.string ru.s) (.int .i64 ru.a)) (.slice ta' S.length tc')
        obtain ⟨wf, hwf⟩ : ∃ wf, wf = ((((w7.setCell ⟨w.heap.size + 1, 0, none⟩ (.int .i64 ru.k)).setCell ⟨w.heap.size + 1, 1, none⟩ (.int .i64 ru.n)).setCell ⟨w.heap.size + 1, 2, none⟩ (.string ru.s)).setCell ⟨w.heap.size + 1, 3, none⟩ (.int .i64 ru.a)).setCell ⟨w.heap.size + 1, 4, none⟩ (.slice ta' S.length tc') := ⟨_, rfl⟩
        have ho : Only (fun k => k = w.heap.size + 1) w7 wf := by rw [hwf]; exact set4_only.set (p := ⟨w.heap.size + 1, 4, none⟩) rfl _
        rw [← hwf] at F
        have hSf : wf.cell? ⟨cc, 0, none⟩ = some (.slice (some ⟨rb, 0, none⟩) 1 rc) ∧ wf.cell? ⟨cc, 1, none⟩ = some (.slice va i vc) ∧ wf.cell? ⟨cc, 2, none⟩ = some (.slice (some ⟨cb, 0, none⟩) i i) ∧ wf.cell? ⟨rb, 0, none⟩ = some (.iface ut uy) := ⟨ho.cell hHeld.1 HRl.out.2.2.1, ho.cell hHeld.2.1 HRl.out.2.2.1, ho.cell hHeld.2.2.1 HRl.out.2.2.1, ho.cell hHeld.2.2.2 HRl.out.2.1⟩
        obtain ⟨q0, q1, q2, q3, q4, _⟩ := cells5 F
        refine wpAnyH_ready (rs := [7]) (by kernel_rfl) (by simp) ?_
        refine AllReadyH.cons rfl (fun K' hK' => ?_) AllReadyH.nil
        go_simp
        rw [← hwf]
        refine hK'.out _ _ hSf (fun hHeld => ?_)
        clear hK' hHeld hwf hSf r0 r1 r2 r3 r4 r5
        refine wpAnyH_done (by kernel_rfl) ?_ _
        go_wp2
        refine bodyPost_ret (v := .agg #[.int .i64 ru.k, .int .i64 ru.n, .string ru.s, .int .i64 ru.a, .slice ta' S.length tc']) (by simp [results, Try.results38, go_sem, q0, q1, q2, q3, q4]) rfl ⟨Or.inl ⟨HOk.out, f, ls, HCS.out, Or.inl ⟨HOs.out, ?_⟩⟩, HC7.out.bel.trans (ho.toBelow (fun k hk => by omega) (by have := HC7.out.bel.size; omega))⟩
        rw [HSo.out, HRU.out]
        have := HL5.out
        exact ⟨_, PV, base, by omega, rfl, HO.out.only ho (fun k hk e => by omega)⟩
  · have HN : Hid (¬ OkG n u L K X) := by rw [HGd.out] at hno; exact hno
    clear HGs HGd hoff
    obtain ⟨w2, hw2⟩ : ∃ w2, w2 = w1.alloc (.cells #[.slice none 0 0, .slice none 0 0, .slice none 0 0] 87) := ⟨_, rfl⟩
    have hb2 : Below w1.heap.size w1 w2 := by rw [hw2]; exact (Below.refl _ _).alloc (Nat.le_refl _) _
    have H2 : Hid (CanW w w2 u ta n cp) := H1.out.below hb2
    obtain ⟨r0, r1, r2, r3, r4, r5⟩ := cells5 H2.out.res
    simp only [zeroV] at r0 r1 r2 r3
    obtain ⟨s0, s1, s2, s3, s4, s5⟩ := cells5 H1.out.res
    simp only [zeroV] at s0 s1 s2 s3
    have hlt : w.heap.size + 1 < w1.heap.size := blk_lt H1.out.res
    rw [hw2] at r0 r1 r2 r3 r4 r5
    go_wp2
    have F := put5hi (put5lo H1.out.res (.int .i64 0) (.int .i64 0) (.string ⟨#[]⟩) (.int .i64 0)) (.slice none 0 0)
    obtain ⟨q0, q1, q2, q3, q4, _⟩ := cells5 (blkB F ((Below.refl _ _).alloc (Nat.le_refl _) (.cells #[.slice none 0 0, .slice none 0 0, .slice none 0 0] 87)))
    refine bodyPost_ret (v := .agg #[.int .i64 0, .int .i64 0, .string ⟨#[]⟩, .int .i64 0, .slice none 0 0]) (by simp [results, Try.results38, go_sem, q0, q1, q2, q3, q4]) rfl ⟨Or.inr ⟨HN.out, rfl⟩, ?_⟩
    have hfin := (H1.out.bel.trans (set4_below (B := w.heap.size + 1) (i := 0) (j := 1) (k := 2) (l := 3) (a' := .int .i64 0) (b' := .int .i64 0) (c' := .string ⟨#[]⟩) (d' := .int .i64 0) |>.mono (show w.heap.size ≤ w.heap.size + 1 by omega))).setCell (p := ⟨w.heap.size + 1, 4, none⟩) (by show w.heap.size ≤ w.heap.size + 1; omega) (.slice none 0 0)
    exact hfin.alloc hfin.size _

end Go.Proofs.Ytcomcgjilhcimab

namespace Go.Proofs.Ytcomcgjilhcimab
open Go.RowKit Vl
open Go.ChangeShapes Go.WideShapes Go.ChangeAt Go.Joins

set_option maxHeartbeats 4000000 in
set_option maxRecDepth 100000 in
theorem shrinkLaw (u : V) (ta : Option Addr) (n cp TB TO : Nat) (A : Nat → Option Addr) (L C RB RO : Nat → Nat) (K X : Nat → Nat → V) (w : World) (hu : u.s.size ≤ 9223372036854775807) (hn : n ≤ 9223372036854775807)
    (HS : Hid (Small 9223372036854775807 n L K X)) (HT : Hid (TabsAt w ta n TB TO A L C RB RO K X)) :
    Calls Try.prog 9 #[.agg #[.int .i64 u.k, .int .i64 u.n, .string u.s, .int .i64 u.a, .slice ta n cp]] w fun e w' => e = .returned (.bool true) ∧ Below w.heap.size w w' := by
  obtain ⟨w0, hw0⟩ : ∃ w0, w0 = w.alloc (.cells #[.int .i64 u.k, .int .i64 u.n, .string u.s, .int .i64 u.a, .slice ta n cp] 26) := ⟨_, rfl⟩
  have HB0 : Hid (Below w.heap.size w w0) := by rw [hw0]; exact (Below.refl _ _).alloc (Nat.le_refl _) _
  have G0 : Hid (w0.heap[w.heap.size]? = some (.cells #[.int .i64 u.k, .int .i64 u.n, .string u.s, .int .i64 u.a, .slice ta n cp] 26 (0, 0))) := by rw [hw0]; exact heap_alloc_new _ _
  have hsz := szGraph_any u ta n cp TB TO A L C RB RO K X 1048576 w0 (by omega) (by omega) hu hn HS (HT.out.below HB0.out)
  go_enter Try.func9, Try.ntmps9
  go_wp2_with fail
  rw [← hw0]
  refine hsz.mono ?_
  clear hsz hw0
  rintro e w1 ⟨⟨q, rfl, hq1, hq2⟩, hb1⟩
  have G1 : Hid (w1.heap[w.heap.size]? = some (.cells #[.int .i64 u.k, .int .i64 u.n, .string u.s, .int .i64 u.a, .slice ta n cp] 26 (0, 0))) := blk_below G0.out hb1
  have HB1 : Hid (Below w.heap.size w w1) := grw HB0.out hb1
  clear hb1 G0 HB0
  by_cases hq : q < 0
  · clear hq2
    go_wp2
    go_ret
    exact ⟨rfl, HB1.out⟩
  obtain ⟨_, hn1, hsm⟩ := hq2 (by omega)
  have HSm : Hid (Small 1048576 n L K X) := hsm
  clear hq2 hsm HS
  obtain ⟨N, U, L', K', X', HN, HSN, HSP, HIM⟩ : ∃ (N : Nat) (U : V) (L' : Nat → Nat) (K' X' : Nat → Nat → V), N ≤ 1048576 ∧ Hid (Small 1048576 N L' K' X') ∧
      Hid (∀ (ta : Option Addr) (cp TB TO : Nat) (A : Nat → Option Addr) (C RB RO : Nat → Nat) (w : World), TabsAt w ta n TB TO A L C RB RO K X → Calls Try.prog 37 #[.agg #[.int .i64 u.k, .int .i64 u.n, .string u.s, .int .i64 u.a, .slice ta n cp]] w fun e w' => GrRes w w' e N U L' K' X' ∧ Below w.heap.size w w') ∧
      Hid (∀ (ta : Option Addr) (cp TB TO : Nat) (A : Nat → Option Addr) (C RB RO : Nat → Nat) (w : World), TabsAt w ta n TB TO A L C RB RO K X → Calls Try.prog 38 #[.agg #[.int .i64 u.k, .int .i64 u.n, .string u.s, .int .i64 u.a, .slice ta n cp]] w fun e w' => GrRes w w' e N U L' K' X' ∧ Below w.heap.size w w') :=
    by
      obtain ⟨N, U, L', K', X', h1, h2, h3⟩ := shr_fixed u HSm.out
      exact ⟨N, U, L', K', X', h1, h2, show ∀ _, _ from fun ta cp TB TO A C RB RO w hT => (specShrink_any u ta n cp TB TO A L C RB RO K X w hn1 HSm hT).mono (fun e w' h => ⟨h3 w w' e h.1, h.2⟩),
        show ∀ _, _ from fun ta cp TB TO A C RB RO w hT => (implShrink_any u ta n cp TB TO A L C RB RO K X w hn1 HSm hT).mono (fun e w' h => ⟨h3 w w' e h.1, h.2⟩)⟩
  have HLn : Hid (∀ r, r < n → L r ≤ 1048576) := show ∀ r, _ from fun r hr => (HSm.out r hr).1
  have HLN : Hid (∀ r, r < N → L' r ≤ 1048576) := show ∀ r, _ from fun r hr => (HSN.out r hr).1
  obtain ⟨g0, g1, g2, g3, g4, _⟩ := cells5 G1.out
  have hto := toGraph_any u ta n cp TB TO A L C RB RO K X w1 hn1 HSm (HT.out.below HB1.out)
  go_wp2_with fail
  refine hto.mono ?_
  clear hto
  rintro e w2 ⟨⟨B2, rfl, _, w02, H2, _, hC2, hR2⟩, hb2⟩
  have HT2 : Hid (TabsAt w2 (some ⟨B2, 0, none⟩) n B2 0 (fun r => some ⟨H2 r, 0, none⟩) L L H2 (fun _ => 0) K X) := hC2.tabs hR2
  have G2 : Hid (w2.heap[w.heap.size]? = some (.cells #[.int .i64 u.k, .int .i64 u.n, .string u.s, .int .i64 u.a, .slice ta n cp] 26 (0, 0))) := blk_below G1.out hb2
  have HB2 : Hid (Below w.heap.size w w2) := grw HB1.out hb2
  clear hb2 G1 HB1 hC2 hR2 g0 g1 g2 g3 g4
  have hsp := HSP.out (some ⟨B2, 0, none⟩) n B2 0 _ _ _ _ w2 HT2.out
  go_wp2_with fail
  refine hsp.mono ?_
  clear hsp HSP
  rintro e w3 ⟨⟨ta3, tc3, PV3, bs3, _, rfl, hO3⟩, hb3⟩
  obtain ⟨w4, hw4⟩ : ∃ w4, w4 = w3.alloc (.cells #[.int .i64 U.k, .int .i64 U.n, .string U.s, .int .i64 U.a, .slice ta3 N tc3] 32) := ⟨_, rfl⟩
  have HB34 : Hid (Below w3.heap.size w3 w4) := by rw [hw4]; exact (Below.refl _ _).alloc (Nat.le_refl _) _
  have W4 : Hid (w4.heap[w3.heap.size]? = some (.cells #[.int .i64 U.k, .int .i64 U.n, .string U.s, .int .i64 U.a, .slice ta3 N tc3] 32 (0, 0))) := by rw [hw4]; exact heap_alloc_new _ _
  have O4 : Hid (OTab w4 bs3 (.slice ta3 N tc3) N PV3 L' K' X') := hO3.below HB34.out
  have G4 : Hid (w4.heap[w.heap.size]? = some (.cells #[.int .i64 u.k, .int .i64 u.n, .string u.s, .int .i64 u.a, .slice ta n cp] 26 (0, 0))) := blk_below (blk_below G2.out hb3) HB34.out
  have HBw4 : Hid (Below w.heap.size w w4) := grw (grw HB2.out hb3) HB34.out
  have hs4 : Hid (w4.heap.size = w3.heap.size + 1) := by rw [hw4]; exact (by simp : (w3.alloc _).heap.size = w3.heap.size + 1)
  obtain ⟨b4, hb4⟩ : ∃ b4, w3.heap.size = b4 := ⟨_, rfl⟩
  rw [hb4] at W4 hs4
  obtain ⟨g0, g1, g2, g3, g4, _⟩ := cells5 G4.out
  rw [hw4] at g0 g1 g2 g3 g4
  have hto := toGraph_any u ta n cp TB TO A L C RB RO K X w4 hn1 HSm (HT.out.below HBw4.out)
  clear hb3 HB34 hO3 HT2 G2 HB2
  go_wp2_with fail
  rw [← hw4]
  refine hto.mono ?_
  clear hto hw4 hb4 g0 g1 g2 g3 g4
  rintro e w5 ⟨⟨B5, rfl, hB5, w05, H5, hw05, hC5, hR5⟩, hb5⟩
  obtain ⟨w6, hw6⟩ : ∃ w6, w6 = w5.alloc (.cells #[.int .i64 u.k, .int .i64 u.n, .string u.s, .int .i64 u.a, .slice (some ⟨B5, 0, none⟩) n n] 32) := ⟨_, rfl⟩
  have HB56 : Hid (Below w5.heap.size w5 w6) := by rw [hw6]; exact (Below.refl _ _).alloc (Nat.le_refl _) _
  have X6 : Hid (w6.heap[w5.heap.size]? = some (.cells #[.int .i64 u.k, .int .i64 u.n, .string u.s, .int .i64 u.a, .slice (some ⟨B5, 0, none⟩) n n] 32 (0, 0))) := by rw [hw6]; exact heap_alloc_new _ _
  have C6 : Hid (Copied w05 w6 n H5 L K X) := hC5.below HB56.out
  have R6 : Hid (w6.rowIs B5 61 n (fun i => .slice (some ⟨H5 i, 0, none⟩) (L i) (L i))) := hR5.of_block (HB56.out.block _ hR5.lt)
  have HB46 : Hid (Below w4.heap.size w4 w6) := grw hb5 HB56.out
  have hs46 : w4.heap.size ≤ w6.heap.size := HB46.out.size
  have HNew : Hid (∀ j, j < n → w4.heap.size < H5 j ∧ H5 j < w6.heap.size) := show ∀ j, _ from fun j hj => by have := C6.out.new j hj; omega
  obtain ⟨b6, hb6⟩ : ∃ b6, w5.heap.size = b6 := ⟨_, rfl⟩
  rw [hb6] at X6
  have him := HIM.out (some ⟨B5, 0, none⟩) n B5 0 _ _ _ _ w6 (C6.out.tabs R6.out)
  clear hb5 hC5 hR5 HB56
  go_wp2_with fail
  rw [← hw6]
  refine him.mono ?_
  clear him hw6 hb6
  rintro e w7 ⟨⟨ta7, tc7, PV7, bs7, hbs7, rfl, hO7⟩, hb7⟩
  obtain ⟨w8, hw8⟩ : ∃ w8, w8 = w7.alloc (.cells #[.int .i64 U.k, .int .i64 U.n, .string U.s, .int .i64 U.a, .slice ta7 N tc7] 32) := ⟨_, rfl⟩
  have HB78 : Hid (Below w7.heap.size w7 w8) := by rw [hw8]; exact (Below.refl _ _).alloc (Nat.le_refl _) _
  have Y8 : Hid (w8.heap[w7.heap.size]? = some (.cells #[.int .i64 U.k, .int .i64 U.n, .string U.s, .int .i64 U.a, .slice ta7 N tc7] 32 (0, 0))) := by rw [hw8]; exact heap_alloc_new _ _
  have HB68 : Hid (Below w6.heap.size w6 w8) := grw hb7 HB78.out
  have O8 : Hid (OTab w8 bs7 (.slice ta7 N tc7) N PV7 L' K' X') := hO7.below HB78.out
  have X8 : Hid (w8.heap[b6]? = some (.cells #[.int .i64 u.k, .int .i64 u.n, .string u.s, .int .i64 u.a, .slice (some ⟨B5, 0, none⟩) n n] 32 (0, 0))) := blk_below X6.out HB68.out
  have C8 : Hid (Copied w05 w8 n H5 L K X) := C6.out.below HB68.out
  have R8 : Hid (w8.rowIs B5 61 n (fun i => .slice (some ⟨H5 i, 0, none⟩) (L i) (L i))) := R6.out.of_block (HB68.out.block _ R6.out.lt)
  have HB48 : Hid (Below w4.heap.size w4 w8) := grw HB46.out HB68.out
  have hs67 : w6.heap.size ≤ w7.heap.size := hb7.size
  have hbx6 : b6 < w6.heap.size := blk_lt X6.out
  obtain ⟨b8, hb8⟩ : ∃ b8, w7.heap.size = b8 := ⟨_, rfl⟩
  rw [hb8] at Y8 hs67
  obtain ⟨y0, y1, y2, y3, y4, _⟩ := cells5 Y8.out
  obtain ⟨v0, v1, v2, v3, v4, _⟩ := cells5 (blk_below W4.out HB48.out)
  rw [hw8] at y0 y1 y2 y3 y4 v0 v1 v2 v3 v4
  have heq := eqGraph_same U ta7 ta3 N tc7 tc3 _ _ _ _ _ _ L' _ _ _ _ _ _ K' X' w8 HN HSN O8.out.tabs.2 (O4.out.below HB48.out).tabs.2
  have hlt4 : b4 < w7.heap.size := by have := HB46.out.size; have := hb7.size; have := hs4.out; omega
  clear hb7 HB78 hO7 C6 R6 X6 HB46 HB68
  go_wp2_with fail
  rw [← hw8]
  refine heq.mono ?_
  clear heq hw8 y0 y1 y2 y3 y4 v0 v1 v2 v3 v4 hlt4 hb8
  rintro e w9 ⟨rfl, hb9⟩
  have O9 : Hid (OTab w9 bs7 (.slice ta7 N tc7) N PV7 L' K' X') := O8.out.below hb9
  have Y9 : Hid (w9.heap[b8]? = some (.cells #[.int .i64 U.k, .int .i64 U.n, .string U.s, .int .i64 U.a, .slice ta7 N tc7] 32 (0, 0))) := blk_below Y8.out hb9
  have X9 : Hid (w9.heap[b6]? = some (.cells #[.int .i64 u.k, .int .i64 u.n, .string u.s, .int .i64 u.a, .slice (some ⟨B5, 0, none⟩) n n] 32 (0, 0))) := blk_below X8.out hb9
  have C9 : Hid (Copied w05 w9 n H5 L K X) := C8.out.below hb9
  have R9 : Hid (w9.rowIs B5 61 n (fun i => .slice (some ⟨H5 i, 0, none⟩) (L i) (L i))) := R8.out.of_block (hb9.block _ R8.out.lt)
  have HB49 : Hid (Below w4.heap.size w4 w9) := grw HB48.out hb9
  have HBw9 : Hid (Below w.heap.size w w9) := grw HBw4.out HB49.out
  clear hb9 O8 Y8 X8 C8 R8 HB48
  have HT9 : Hid (TabsAt w9 (some ⟨B5, 0, none⟩) n B5 0 (fun r => some ⟨H5 r, 0, none⟩) L L H5 (fun _ => 0) K X) := C9.out.tabs R9.out
  obtain ⟨g0, g1, g2, g3, g4, _⟩ := cells5 (blk_below G4.out HB49.out)
  obtain ⟨x0, x1, x2, x3, x4, _⟩ := cells5 X9.out
  have hto := toGraph_any u ta n cp TB TO A L C RB RO K X w9.drew hn1 HSm (HT.out.below HBw9.out.drew)
  go_wp2
  go_region_held3 (fun w' => (w'.cell? ⟨b6, 0, none⟩ = some (.int .i64 u.k) ∧ w'.cell? ⟨b6, 1, none⟩ = some (.int .i64 u.n) ∧ w'.cell? ⟨b6, 2, none⟩ = some (.string u.s) ∧ w'.cell? ⟨b6, 3, none⟩ = some (.int .i64 u.a) ∧ w'.cell? ⟨b6, 4, none⟩ = some (.slice (some ⟨B5, 0, none⟩) n n)) ∧ (w'.cell? ⟨w.heap.size, 0, none⟩ = some (.int .i64 u.k) ∧ w'.cell? ⟨w.heap.size, 1, none⟩ = some (.int .i64 u.n) ∧ w'.cell? ⟨w.heap.size, 2, none⟩ = some (.string u.s) ∧ w'.cell? ⟨w.heap.size, 3, none⟩ = some (.int .i64 u.a) ∧ w'.cell? ⟨w.heap.size, 4, none⟩ = some (.slice ta n cp)) ∧ Hid (Below w.heap.size w w'))
    (first | exact keep55 ‹_ ∧ _› hbD | exact keep55 ‹_ ∧ _› hbC | exact ⟨⟨x0, x1, x2, x3, x4⟩, ⟨g0, g1, g2, g3, g4⟩, HBw9.out.drew⟩)
    (first
      | (go_at_call 13; refine hto.mono ?_; rintro e wC ⟨⟨BC, rfl, _, w0C, HC, _, hCC, hRC⟩, hbC⟩)
      | (go_at_call 15; refine (eqGraph_same u (some ⟨B5, 0, none⟩) (some ⟨BC, 0, none⟩) n n n B5 0 BC 0 _ _ L _ _ _ _ _ _ K X _ hn1 HSm ((HT9.out.below ((Below.refl _ _).drew)).below hbC) (hCC.tabs hRC)).mono ?_; rintro e wD ⟨rfl, hbD⟩))
  rename_i hS
  clear hS hCC hRC g0 g1 g2 g3 g4 x0 x1 x2 x3 x4 hto HT9
  have hb9D : Below w9.heap.size w9 wD := (((Below.refl _ _).drew (w := w9)).trans (show Below w9.heap.size w9.drew wC from hbC)).trans (hbD.mono hbC.size)
  have OD : Hid (OTab wD bs7 (.slice ta7 N tc7) N PV7 L' K' X') := O9.out.below hb9D
  have YD : Hid (wD.heap[b8]? = some (.cells #[.int .i64 U.k, .int .i64 U.n, .string U.s, .int .i64 U.a, .slice ta7 N tc7] 32 (0, 0))) := blk_below Y9.out hb9D
  have XD : Hid (wD.heap[b6]? = some (.cells #[.int .i64 u.k, .int .i64 u.n, .string u.s, .int .i64 u.a, .slice (some ⟨B5, 0, none⟩) n n] 32 (0, 0))) := blk_below X9.out hb9D
  have CD : Hid (Copied w05 wD n H5 L K X) := C9.out.below hb9D
  have RD : Hid (wD.rowIs B5 61 n (fun i => .slice (some ⟨H5 i, 0, none⟩) (L i) (L i))) := R9.out.of_block (hb9D.block _ R9.out.lt)
  have HB4D : Hid (Below w4.heap.size w4 wD) := grw HB49.out hb9D
  clear hb9D hbC hbD O9 Y9 X9 C9 R9 HB49 HBw9
  obtain ⟨f5, hM5⟩ := CD.out.marks hw05 RD.out
  have hmk := markGraph_any u (some ⟨B5, 0, none⟩) n n B5 1 _ L _ _ _ _ wD hn1 HLn (by omega) (by omega) hM5
  obtain ⟨kx, hkx⟩ : ∃ kx, koff 1 L n = kx := ⟨_, rfl⟩
  rw [hkx] at hmk
  obtain ⟨x0, x1, x2, x3, x4, _⟩ := cells5 XD.out
  clear hkx hM5
  go_wp2_with fail
  refine hmk.mono ?_
  clear hmk x0 x1 x2 x3 x4
  rintro e wE ⟨rfl, _, hoE⟩
  have OE : Hid (OTab wE bs7 (.slice ta7 N tc7) N PV7 L' K' X') := OD.out.only hoE (fun k hk ⟨j, hj, e, _⟩ => by have := (HNew.out j hj).2; omega)
  have YE : Hid (wE.heap[b8]? = some (.cells #[.int .i64 U.k, .int .i64 U.n, .string U.s, .int .i64 U.a, .slice ta7 N tc7] 32 (0, 0))) := (hoE.block _ (blk_lt YD.out) (fun ⟨j, hj, e, _⟩ => by have := (HNew.out j hj).2; omega)).trans YD.out
  have HB4E : Hid (Below w4.heap.size w4 wE) := HB4D.out.trans (hoE.toBelow (fun k ⟨j, hj, e, _⟩ => by have := (HNew.out j hj).1; omega) HB4D.out.size)
  clear hoE OD YD XD CD RD HB4D
  have hk0 : ¬ ((kx : Int) < 0) := by omega
  obtain ⟨y0, y1, y2, y3, y4, _⟩ := cells5 YE.out
  obtain ⟨v0, v1, v2, v3, v4, _⟩ := cells5 (blk_below W4.out HB4E.out)
  have heq := eqGraph_same U ta7 ta3 N tc7 tc3 _ _ _ _ _ _ L' _ _ _ _ _ _ K' X' wE HN HSN OE.out.tabs.2 (O4.out.below HB4E.out).tabs.2
  go_wp2_with fail
  refine heq.mono ?_
  clear heq y0 y1 y2 y3 y4 v0 v1 v2 v3 v4
  rintro e wF ⟨rfl, hbF⟩
  have OF : Hid (OTab wF bs7 (.slice ta7 N tc7) N PV7 L' K' X') := OE.out.below hbF
  have YF : Hid (wF.heap[b8]? = some (.cells #[.int .i64 U.k, .int .i64 U.n, .string U.s, .int .i64 U.a, .slice ta7 N tc7] 32 (0, 0))) := blk_below YE.out hbF
  have HB4F : Hid (Below w4.heap.size w4 wF) := grw HB4E.out hbF
  clear hbF OE YE HB4E
  obtain ⟨cp7, f7, hM7, hlow7⟩ := OF.out.marks
  have HM7 : Hid _ := hM7
  have HLO7 : Hid _ := hlow7
  have hmk := markGraph_any U ta7 N tc7 _ 1 _ L' _ _ _ _ wF HN HLN (by omega) (by omega) hM7
  obtain ⟨kq, hkq⟩ : ∃ kq, koff 1 L' N = kq := ⟨_, rfl⟩
  rw [hkq] at hmk
  obtain ⟨y0, y1, y2, y3, y4, _⟩ := cells5 YF.out
  clear hM7 hlow7
  have HKQ : Hid (koff 1 L' N = kq) := hkq
  clear hkq
  go_wp2_with fail
  refine hmk.mono ?_
  clear hmk y0 y1 y2 y3 y4
  rintro e wG ⟨rfl, hmG, hoG⟩
  have HHG : Hid _ := HM7.out.held hmG hoG
  have YG : Hid (wG.heap[b8]? = some (.cells #[.int .i64 U.k, .int .i64 U.n, .string U.s, .int .i64 U.a, .slice ta7 N tc7] 32 (0, 0))) := (hoG.block _ (blk_lt YF.out) (fun ⟨j, hj, e, h0⟩ => by
      obtain ⟨c, hc, _⟩ := HM7.out.row j hj h0
      rw [← e, YF.out] at hc
      cases hc)).trans YF.out
  have HB4G : Hid (Below w4.heap.size w4 wG) := HB4F.out.trans (hoG.toBelow (fun k ⟨j, hj, e, h0⟩ => by have := HLO7.out j hj h0; rw [e]; omega) HB4F.out.size)
  clear hmG hoG HM7 HLO7 YF OF HB4F
  have hq0 : ¬ ((kq : Int) < 0) := by omega
  have hqm : ((kq : Int) != (kq : Int)) = false := by simp
  have hhd := heldGraph_any U ta7 N tc7 _ 1 _ L' _ _ wG HN HLN (by omega) (by omega) HHG.out
  rw [HKQ.out] at hhd
  obtain ⟨y0, y1, y2, y3, y4, _⟩ := cells5 YG.out
  go_wp2_with fail
  refine hhd.mono ?_
  clear hhd y0 y1 y2 y3 y4
  rintro e wH ⟨rfl, hbH⟩
  have HHH : Hid _ := HHG.out.below hbH
  have YH : Hid (wH.heap[b8]? = some (.cells #[.int .i64 U.k, .int .i64 U.n, .string U.s, .int .i64 U.a, .slice ta7 N tc7] 32 (0, 0))) := blk_below YG.out hbH
  have HB4H : Hid (Below w4.heap.size w4 wH) := grw HB4G.out hbH
  clear hbH HHG YG HB4G
  have HBwH : Hid (Below w.heap.size w wH) := grw HBw4.out HB4H.out
  obtain ⟨g0, g1, g2, g3, g4, _⟩ := cells5 (blk_below G4.out HB4H.out)
  have hto := toGraph_any u ta n cp TB TO A L C RB RO K X wH hn1 HSm (HT.out.below HBwH.out)
  go_wp2_with fail
  refine hto.mono ?_
  clear hto g0 g1 g2 g3 g4
  rintro e wI ⟨⟨BI, rfl, _, w0I, HI, _, hCI, hRI⟩, hbI⟩
  have him := HIM.out (some ⟨BI, 0, none⟩) n BI 0 _ _ _ _ wI (hCI.tabs hRI)
  clear hCI hRI HIM
  go_wp2_with fail
  refine him.mono ?_
  clear him
  rintro e wJ ⟨⟨taJ, tcJ, PVJ, bsJ, _, rfl, hOJ⟩, hbJ⟩
  obtain ⟨wK, hwK⟩ : ∃ wK, wK = wJ.alloc (.cells #[.int .i64 U.k, .int .i64 U.n, .string U.s, .int .i64 U.a, .slice taJ N tcJ] 32) := ⟨_, rfl⟩
  have hbJK : Below wJ.heap.size wJ wK := by rw [hwK]; exact (Below.refl _ _).alloc (Nat.le_refl _) _
  have ZK : Hid (wK.heap[wJ.heap.size]? = some (.cells #[.int .i64 U.k, .int .i64 U.n, .string U.s, .int .i64 U.a, .slice taJ N tcJ] 32 (0, 0))) := by rw [hwK]; exact heap_alloc_new _ _
  have hbHK : Below wH.heap.size wH wK := grw (grw hbI hbJ) hbJK
  have OK' : Hid (OTab wK bsJ (.slice taJ N tcJ) N PVJ L' K' X') := hOJ.below hbJK
  have HHK : Hid _ := HHH.out.below hbHK
  have YK : Hid (wK.heap[b8]? = some (.cells #[.int .i64 U.k, .int .i64 U.n, .string U.s, .int .i64 U.a, .slice ta7 N tc7] 32 (0, 0))) := blk_below YH.out hbHK
  have HB4K : Hid (Below w4.heap.size w4 wK) := grw HB4H.out hbHK
  have hlt4 : b4 < wJ.heap.size := by have := HB4H.out.size; have := hbI.size; have := hbJ.size; have := hs4.out; omega
  obtain ⟨bk, hbk⟩ : ∃ bk, wJ.heap.size = bk := ⟨_, rfl⟩
  rw [hbk] at ZK
  obtain ⟨y0, y1, y2, y3, y4, _⟩ := cells5 ZK.out
  obtain ⟨v0, v1, v2, v3, v4, _⟩ := cells5 (blk_below W4.out HB4K.out)
  rw [hwK] at y0 y1 y2 y3 y4 v0 v1 v2 v3 v4
  have heq := eqGraph_same U taJ ta3 N tcJ tc3 _ _ _ _ _ _ L' _ _ _ _ _ _ K' X' wK HN HSN OK'.out.tabs.2 (O4.out.below HB4K.out).tabs.2
  clear hbI hbJ hOJ hbJK hbHK HHH YH HB4H HBwH
  go_wp2_with fail
  rw [← hwK]
  refine heq.mono ?_
  clear heq hwK y0 y1 y2 y3 y4 v0 v1 v2 v3 v4 hlt4 hbk
  rintro e wL ⟨rfl, hbL⟩
  have HHL : Hid _ := HHK.out.below hbL
  have YL : Hid (wL.heap[b8]? = some (.cells #[.int .i64 U.k, .int .i64 U.n, .string U.s, .int .i64 U.a, .slice ta7 N tc7] 32 (0, 0))) := blk_below YK.out hbL
  have HB4L : Hid (Below w4.heap.size w4 wL) := grw HB4K.out hbL
  clear hbL HHK YK HB4K OK' ZK
  have hhd := heldGraph_any U ta7 N tc7 _ 1 _ L' _ _ wL HN HLN (by omega) (by omega) HHL.out
  rw [HKQ.out] at hhd
  obtain ⟨y0, y1, y2, y3, y4, _⟩ := cells5 YL.out
  go_wp2_with fail
  refine hhd.mono ?_
  clear hhd y0 y1 y2 y3 y4
  rintro e wM ⟨rfl, hbM⟩
  have HBwM : Hid (Below w.heap.size w wM) := grw HBw4.out (grw HB4L.out hbM)
  clear hbM HHL YL HB4L
  go_wp2
  go_ret
  exact ⟨rfl, HBwM.out⟩

set_option maxRecDepth 100000 in
theorem shrinkLifted (os : Os) (started : os.Started) (H : Type) (enc : TypeId × Value → H) :
    ReturnsInHanded {} Try.checked os 9 .any (Rows.fnExactShrinkSpec.pre6 enc Try.prog Try.f9 Rows.fnExactShrinkRow.domain false) (Rows.fnExactShrinkSpec.post enc Try.prog Try.f9 false true false false) := by
  refine returnsInHanded_of_change (C := Try.checked) ownG started (by kernel_rfl) Try.func9
    (ChangeSpec.witness6 (enc := enc) (C := Try.checked) false ⟨#[], #[.agg #[.int .i64 0, .int .i64 0, .string ⟨#[]⟩, .int .i64 0, .slice none 0 0]], []⟩ 8 (by kernel_rfl) (by kernel_rfl) (by kernel_rfl) (by kernel_rfl)) ?_
  intro W base args ds gs before hval0 hW hcnd _
  have hval : ∀ (j : Nat) t v, Try.f9.params[j]? = some t → args[j]? = some v → Value.okWide Try.prog W .any base t v := hval0
  have hW' := hW
  obtain ⟨p, q, hA0, hV, rfl, hfz, hnd⟩ := hW
  have hA : DataW.TrodAll enc Try.prog W 0 (fun _ => true) true Try.f9.params.toList args.toList ds p := hA0
  rw [Try.params9] at hA hval
  obtain ⟨v0, vs0, d0, ds0, p0, q0, hargs, rfl, rfl, h0, r0⟩ := trodAll_cons hA
  obtain ⟨rfl, rfl, rfl⟩ := trodAll_nil r0
  obtain rfl : args = #[v0] := by cases args; simp_all
  obtain ⟨rfl, rfl⟩ := trodVars_none hV
  have k0 := h0
  have lt0 : ∀ x ∈ p0, x.block < W.heap.size := by obtain ⟨m, hm⟩ := k0; exact DataW.trod_lt m _ _ _ hm
  obtain ⟨u, ta, n, cp, TB, TO, A, L, C, RB, RO, K, X, rfl, hu, hn, hT, hS⟩ := opens_graph (hval 0 26 v0 rfl rfl) h0
  clear hA0 hval0
  refine (shrinkLaw u ta n cp TB TO A L C RB RO K X W hu hn hS hT).mono fun e W' ⟨he, bel⟩ => ?_
  subst he
  exact ⟨_, rfl, _, _, _, [], _, [], hW', trodAll_mk1 (shut_bool Try.underlying4 _), (trodAll_cons_mk (Below.trod laidOutG (by kernel_rfl) (of_decide_eq_true (by kernel_rfl)) k0 bel lt0) trodAll_mk0), rfl, bel.frame _, fun h => by cases h⟩

theorem shrink_holds : Rows.FnExactShrinkSaid :=
  OpenClaim.holds_of_wide 9 Try.f9 rfl rfl rfl rfl rfl rfl rfl ⟨rfl, rfl, rfl, rfl, rfl⟩ rfl rfl rfl rfl rfl (by kernel_rfl) Try.func9 (by kernel_rfl)
    (of_decide_eq_true (by kernel_rfl)) (by unfold Func.isWrapper; first | (rw [if_pos (by decide +kernel)]; kernel_rfl) | (rw [if_neg (by decide +kernel)]; exact ⟨rfl, rfl⟩))
    (fun os started H enc _ => shrinkLifted os started H enc)
#print axioms shrink_holds

end Go.Proofs.Ytcomcgjilhcimab
