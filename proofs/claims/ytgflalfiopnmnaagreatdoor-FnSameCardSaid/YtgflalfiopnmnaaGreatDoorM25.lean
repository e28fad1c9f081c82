import Derived.Test.YtgflalfiopnmnaaGreatDoorM0
import Derived.Test.YtgflalfiopnmnaaGreatDoorM11
import Derived.Test.YtgflalfiopnmnaaGreatDoorM24
import Derived.Test.YtgflalfiopnmnaaGreatDoorM9
import Derived.Test.YtgflalfiopnmnaaGreatDoorM13
import Derived.Test.YtgflalfiopnmnaaGreatDoorM15
import Derived.Test.YtgflalfiopnmnaaGreatDoorM19
import Derived.Test.YtgflalfiopnmnaaGreatDoorM23
import Derived.Test.YtgflalfiopnmnaaGreatDoorM1
import Derived.Test.YtgflalfiopnmnaaGreatDoorKyCur
import Derived.ProofKit
import Derived.OpenShut
import Derived.ShutString
import Derived.ChangeOld
namespace Go.Proofs.YtgflalfiopnmnaaGreatDoor
open Go.RowKit Vl

theorem Tbs.agree {w : World} {n : Nat} {T M : Nat → Nat} {at_ : Nat → Int} {L L' : Nat → Nat} {K X K' X' : Nat → Nat → V} (h : Tbs w n T M at_ L K X) (hL : ∀ j, j < n → L j = L' j) (hK : ∀ j, j < n → K j = K' j) (hX : ∀ j, j < n → ∀ c, c < L j → X j c = X' j c) : Tbs w n T M at_ L' K' X' := by
  refine ⟨fun j hj => ?_, fun j hj => ?_, h.inj, fun j hj l hl v hv => h.gone j hj l hl v (by rw [hL j hj, hK j hj]; exact hv)⟩
  · rw [← hL j hj, ← hK j hj]; exact h.tab j hj
  · obtain ⟨l, h1, h2⟩ := h.map j hj
    exact ⟨l, h1, fun c hc => by rw [← hL j hj] at hc; rw [← hK j hj, ← hX j hj c hc]; exact h2 c hc⟩

abbrev Maps (n : Nat) (M : Nat → Nat) (w w' : World) : Prop := Only (fun k => ∃ j, j < n ∧ k = M j) w w'
theorem Tbs.cellM {w w' : World} {n : Nat} {T M : Nat → Nat} {at_ : Nat → Int} {L : Nat → Nat} {K X : Nat → Nat → V} (h : Tbs w n T M at_ L K X) (ho : Maps n M w w') {p : Addr} {v : Value} (hc : w.cell? p = some v) : w'.cell? p = some v := by
  refine ho.cell hc (fun ⟨j, hj, e⟩ => ?_)
  obtain ⟨l, ⟨es, clk, hb, _⟩, _⟩ := h.map j hj
  rw [← e] at hb
  simp [World.cell?, hb] at hc
theorem Tbs.blkM {w w' : World} {n : Nat} {T M : Nat → Nat} {at_ : Nat → Int} {L : Nat → Nat} {K X : Nat → Nat → V} (h : Tbs w n T M at_ L K X) (ho : Maps n M w w') {B : Nat} {cs : Array Value} {t : TypeId} {z : Nat × Nat} (hc : w.heap[B]? = some (.cells cs t z)) : w'.heap[B]? = some (.cells cs t z) := by
  rw [ho.block B (blk_lt hc) (fun ⟨j, hj, e⟩ => ?_)]
  · exact hc
  · obtain ⟨l, ⟨es, clk, hb, _⟩, _⟩ := h.map j hj
    rw [← e, hc] at hb
    cases hb

theorem Tbs.putV {w w' : World} {n : Nat} {T M : Nat → Nat} {at_ : Nat → Int} {L : Nat → Nat} {K X : Nat → Nat → V} (h : Tbs w n T M at_ L K X) (hm : ∀ i j, i < n → j < n → M i = M j → i = j) {r c : Nat} (hr : r < n) (hk : ∀ b, b < L r → b ≠ c → K r b ≠ K r c) (x : V) {l l' : List (V × Value)} (hcl : c < L r) (hml : MapIs w (M r) l) (hl : ∀ c, c < L r → findV (K r c) l = some (ifv T (X r c))) (hM : MapIs w' (M r) l') (hf : findV (K r c) l' = some (ifv T x)) (hfo : ∀ u, u ≠ K r c → findV u l' = findV u l) (ho : Only (fun k => k = M r) w w') :
    Tbs w' n T M at_ L K (fun j b => if j = r ∧ b = c then x else X j b) ∧ Maps n M w w' := by
  have hM' : Maps n M w w' := ho.mono (fun k _ e => ⟨r, hr, e⟩)
  refine ⟨⟨fun j hj => ?_, fun j hj => ?_, h.inj, fun j hj l2 hl2 v hv => ?_⟩, hM'⟩
  rotate_left 2
  · by_cases e : j = r
    · subst e
      rw [hl2.uniq hM, hfo v (fun e => hv c hcl e.symm)]
      exact h.gone j hj l hml v hv
    · obtain ⟨l3, h1, _⟩ := h.map j hj
      exact h.gone j hj l2 (hl2.same (ho.block _ h1.lt (fun e' => e (hm j r hj hr e'))).symm) v hv
  · obtain ⟨ord, h1, h2⟩ := h.tab j hj
    refine ⟨ord, h.blkM hM' h1, ho.ownsB h2 (fun g hg e => ?_)⟩
    obtain ⟨_, cur, hc⟩ := owns_type h2 hg
    obtain ⟨l, ⟨es, clk, hb, _⟩, _⟩ := h.map r hr
    rw [← e, hc] at hb
    cases hb
  · by_cases e : j = r
    · subst e
      refine ⟨l', hM, fun b hb => ?_⟩
      by_cases e2 : b = c
      · subst e2
        rw [if_pos ⟨rfl, rfl⟩]
        exact hf
      · rw [if_neg (fun h => e2 h.2), hfo _ (hk b hb e2)]
        exact hl b hb
    · obtain ⟨l2, h1, h2⟩ := h.map j hj
      refine ⟨l2, h1.same (ho.block _ h1.lt (fun e' => e (hm j r hj hr e'))), fun b hb => ?_⟩
      rw [if_neg (fun h => e h.1)]
      exact h2 b hb

def mX (f : Nat → Nat) (X : Nat → Nat → V) (i q j c : Nat) : V := if j < i ∨ (j = i ∧ c < q) then fstV f (X j c) else X j c
theorem mX_at (f : Nat → Nat) (X : Nat → Nat → V) (i q : Nat) : mX f X i q i q = X i q := by unfold mX; rw [if_neg (by omega)]
theorem mX_next (f : Nat → Nat) (X : Nat → Nat → V) (i q : Nat) : (fun j b => if j = i ∧ b = q then fstV f (X i q) else mX f X i q j b) = mX f X i (q + 1) := by
  funext j b
  unfold mX
  by_cases e : j = i ∧ b = q
  · obtain ⟨rfl, rfl⟩ := e
    rw [if_pos ⟨rfl, rfl⟩, if_pos (by omega)]
  · rw [if_neg e]
    by_cases h : j < i ∨ (j = i ∧ b < q)
    · rw [if_pos h, if_pos (by omega)]
    · rw [if_neg h, if_neg (by omega)]

set_option maxHeartbeats 8000000 in
set_option maxRecDepth 100000 in
theorem implShrink_any (u : V) (ta : Option Addr) (n cp TB TO : Nat) (A : Nat → Option Addr) (L C RB RO : Nat → Nat) (K X : Nat → Nat → V) (w : World) (hn : n ≤ 1048576) (HS : Hid (Small 1048576 n L K X)) (HT : Hid (TabsAt w ta n TB TO A L C RB RO K X)) :
    Calls Tryz.prog 19 #[.agg #[.int .i64 u.k, .int .i64 u.n, .string u.s, .int .i64 u.a, .slice ta n cp]] w fun e w' => ShrIs w w' e n u L K X ∧ Below w.heap.size w w' := by
  have A3 := alloc3 w (.cells #[.int .i64 u.k, .int .i64 u.n, .string u.s, .int .i64 u.a, .slice ta n cp] 27) (.cells #[.int .i64 0, .int .i64 0, .string ⟨#[]⟩, .int .i64 0, .slice none 0 0] 27) (.cells #[.int .i64 u.k, .int .i64 u.n, .string u.s, .int .i64 u.a, .slice ta n cp] 27)
  obtain ⟨w0, hw0⟩ : ∃ w0, w0 = ((w.alloc (.cells #[.int .i64 u.k, .int .i64 u.n, .string u.s, .int .i64 u.a, .slice ta n cp] 27)).alloc (.cells #[.int .i64 0, .int .i64 0, .string ⟨#[]⟩, .int .i64 0, .slice none 0 0] 27)).alloc (.cells #[.int .i64 u.k, .int .i64 u.n, .string u.s, .int .i64 u.a, .slice ta n cp] 27) := ⟨_, rfl⟩
  rw [← hw0] at A3
  have H0 : Hid (CanW w w0 u ta n cp) := ⟨A3.1, A3.2.1, A3.2.2.2.2⟩
  have HB0 : Hid (Below w.heap.size w w0) := A3.2.2.2.2
  obtain ⟨k0, k1, k2, k3, k4, _⟩ := cells5 A3.2.2.1
  have HZ0 : Hid (w0.heap.size = w.heap.size + 3) := A3.2.2.2.1
  obtain ⟨G, HGd⟩ : ∃ G : GrS, Hid (G = ⟨fun _ => u, fun _ => n, fun _ => L, fun _ => K, fun _ => X⟩) := ⟨_, rfl⟩
  have HGs : Hid (GsAt w0 1 (w.heap.size + 2) G (fun _ => ta) (fun _ => cp) (fun _ => TB) (fun _ => TO) (fun _ => A) (fun _ => C) (fun _ => RB) (fun _ => RO)) := by
    rw [HGd.out]
    refine ⟨fun q hq => ?_, fun q hq => ?_, fun q hq => ?_, fun q hq => ?_, fun q hq => ?_, fun _ _ => ⟨hn, HS.out⟩, fun _ _ => HT.out.below HB0.out⟩ <;> (obtain rfl : q = 0 := by omega) <;> assumption
  have hcf := classify_any 1 (by omega) (by omega) (w.heap.size + 2) G _ _ _ _ _ _ _ _ w0 HGs
  have hoff : G.off 1 = n := by rw [HGd.out]; simp [GrS.off]
  clear k0 k1 k2 k3 k4 A3
  go_enter Tryz.func19, Tryz.ntmps19
  go_wp2_with fail
  rw [← hw0]
  refine hcf.mono ?_
  clear hcf hw0
  rintro e w1 ⟨hcase, hb1⟩
  have H1 : Hid (CanW w w1 u ta n cp) := H0.out.below hb1
  rcases hcase with ⟨T, M, Lc, Kc, Xc, ls, f, rv, tv, cb, rfl, hd⟩ | ⟨⟨q, hq, hno⟩, rfl⟩
  · have hok : OkG n u L K X := by have := hd.cmb.ok 0 (by omega); rw [HGd.out] at this; exact this
    have e0 : sh (G.off 0) (G.U 0) = u := by rw [HGd.out]; exact sh_zero u
    obtain ⟨rb, rc, rfl, hr0⟩ := owns_cell hd.roots (k := 0) (y := ifv T (sh (G.off 0) (G.U 0))) (by simp)
    obtain ⟨va, vc, rfl, _⟩ := owns_form hd.tabs
    rw [e0] at hr0
    have htab := hd.cmb.tab 0 (by omega)
    rw [HGd.out] at htab
    simp only [GrS.off, Nat.zero_add, sh_zero] at htab
    have hL : ∀ j, j < n → Lc j = L j := fun j hj => (htab j hj).1
    have hK : ∀ j, j < n → Kc j = K j := fun j hj => (htab j hj).2.1
    have hX : ∀ j, j < n → Xc j = X j := fun j hj => funext (htab j hj).2.2
    have h1 := hd.cls
    have h2 := hd.srt
    have h3 := hd.is
    have h4 := hd.tbs
    have h5 := hd.ap
    have h6 := hd.tabs
    rw [hoff] at h1 h2 h3 h4 h5 h6
    have HCS : Hid ((∀ r, r < n → SortI (K r) (L r) (ls r)) ∧ IsCls n L (sK K ls) (sK X ls) f) := ⟨fun r hr => by rw [← hK r hr, ← hL r hr]; exact h2 r hr, h3.agree hL (fun j hj => by unfold sK; rw [hK j hj]) (fun j hj => by unfold sK; rw [hX j hj])⟩
    have hT1 : Tbs w1 n T M (fun j => (j : Nat)) L (sK K ls) (sK X ls) := h4.agree hL (fun j hj => by unfold sK; rw [hK j hj]) (fun j hj c _ => by unfold sK; rw [hX j hj])
    have HAp : Hid (∀ j, j < n → w.heap.size + 2 ≤ T j ∧ w.heap.size + 2 ≤ M j) := show ∀ j, _ from fun j hj => ⟨by have := h5.lo j hj; have := HB0.out.size; omega, by have := h5.mlo j hj; have := HB0.out.size; omega⟩
    have HMi : Hid (∀ i j, i < n → j < n → M i = M j → i = j) := h5.mone
    have HOk : Hid (OkG n u L K X) := hok
    obtain ⟨tb, hva, hrow⟩ : ∃ tb, (0 < n → va = some ⟨tb, 0, none⟩) ∧ ∀ j, j < n → w1.cell? ⟨tb, j, none⟩ = some (ptr (T j)) := by
      by_cases h0 : 0 < n
      · obtain ⟨g, cap, e, _⟩ := h6.form h0
        cases e
        refine ⟨g, fun _ => rfl, fun j hj => ?_⟩
        obtain ⟨g', cap', e', h⟩ := owns_cell h6 (k := j) (y := ptr (T j)) (by simp [hj])
        cases e'
        exact h
      · exact ⟨0, fun h => absurd h h0, fun j hj => by omega⟩
    obtain ⟨w2, hw2⟩ : ∃ w2, w2 = w1.alloc (.cells #[.slice (some ⟨rb, 0, none⟩) 1 rc, .slice va n vc, .slice (some ⟨cb, 0, none⟩) n n] 95) := ⟨_, rfl⟩
    have hb2 : Below w1.heap.size w1 w2 := by rw [hw2]; exact (Below.refl _ _).alloc (Nat.le_refl _) _
    have H2 : Hid (CanW w w2 u ta n cp) := H1.out.below hb2
    have hblk2 : w2.heap[w1.heap.size]? = some (.cells #[.slice (some ⟨rb, 0, none⟩) 1 rc, .slice va n vc, .slice (some ⟨cb, 0, none⟩) n n] 95 (0, 0)) := by rw [hw2]; exact heap_alloc_new _ _
    obtain ⟨cc, hcc⟩ : ∃ cc, w1.heap.size = cc := ⟨_, rfl⟩
    rw [hcc] at hblk2
    have HT2 : Hid (Tbs w2 n T M (fun j => (j : Nat)) L (sK K ls) (sK X ls)) := hT1.below hb2
    have HCl : Hid (w2.heap[cc]? = some (.cells #[.slice (some ⟨rb, 0, none⟩) 1 rc, .slice va n vc, .slice (some ⟨cb, 0, none⟩) n n] 95 (0, 0))) := hblk2
    have HRt : Hid (∀ j, j < n → w2.cell? ⟨tb, j, none⟩ = some (ptr (T j))) := show ∀ j, _ from fun j hj => (hb2.cell (World.block_lt_of_cell? _ _ (hrow j hj))).trans (hrow j hj)
    have HRc : Hid (∀ j, j < n → w2.cell? ⟨cb, j, none⟩ = some (.int .i64 (f j : Nat))) := show ∀ j, _ from fun j hj => (hb2.cell (World.block_lt_of_cell? _ _ (h1.cell hj))).trans (h1.cell hj)
    have HR0 : Hid (w2.cell? ⟨rb, 0, none⟩ = some (ifv T u)) := (hb2.cell (World.block_lt_of_cell? _ _ hr0)).trans hr0
    have HVA : Hid (0 < n → va = some ⟨tb, 0, none⟩) := hva
    have hn2 : n ≤ 200 := hok.len
    rw [hoff]
    clear hd h1 h2 h3 h4 h5 h6 hT1 hrow hr0 htab hL hK hX e0 hb2 hblk2 HGs HGd hoff hva hok H0 H1 hb1
    obtain ⟨c0, c1, c2, _⟩ := three_at HCl.out
    go_wp2
    try rw [hcc] at hw2
    try rw [hcc]
    rw [← hw2]
    clear hw2 hcc c0 c1 c2
    go_loopw [21] (fun ii wr => ∃ i : Nat, i ≤ n ∧ ii = .int .i64 i ∧ Hid (Tbs wr n T M (fun j => (j : Nat)) L (sK K ls) (mX f (sK X ls) i 0)) ∧ Hid (Maps n M w2 wr)) (fun ii _ => n - (intOf ii).toNat)
    case atStart => exact ⟨0, Nat.zero_le _, rfl, HT2.out.agree (fun _ _ => rfl) (fun _ _ => rfl) (fun j _ c _ => by unfold mX; rw [if_neg (by omega)]), Only.refl _ _⟩
    case round =>
      obtain ⟨i, hi, rfl, HTr, HMr⟩ := hrel
      by_cases hlt : i < n
      · obtain rfl := HVA.out (by omega)
        have t0 := HT2.out.cellM HMr.out (HRt.out i hlt)
        obtain ⟨ord, hTb, hOr⟩ := HTr.out.tab i hlt
        obtain ⟨hform, hVals⟩ := owns_keys hOr
        obtain ⟨ka, hka⟩ : ∃ ka, slA ord = ka := ⟨_, rfl⟩
        obtain ⟨kb, hkb⟩ : ∃ kb, slB ord = kb := ⟨_, rfl⟩
        obtain ⟨kc, hkc⟩ : ∃ kc, slC ord = kc := ⟨_, rfl⟩
        rw [hka, hkc] at hform
        rw [hka, hkb] at hVals
        rw [hform] at hTb
        obtain ⟨l, hl⟩ : ∃ l, L i = l := ⟨_, rfl⟩
        have hl100 : l ≤ 100 := by rw [← hl]; exact (HOk.out.all i hlt).len
        obtain ⟨wi, hwi⟩ : ∃ wi, wi = wr := ⟨_, rfl⟩
        have HVi : Hid (ValsAt wi ka l kb 0 (sK K ls i)) := by rw [hwi, ← hl]; exact hVals
        have HTi : Hid (Tbs wi n T M (fun j => (j : Nat)) L (sK K ls) (mX f (sK X ls) i 0)) := by rw [hwi]; exact HTr.out
        have HMi0 : Hid (Maps n M w2 wi) := by rw [hwi]; exact HMr.out
        obtain ⟨x0, x1, x2, _⟩ := hTb.cells
        rw [hl] at x2
        clear hOr hVals hform hka hkb hkc HTr HMr hTb
        go_wp2
        rw [← hwi]
        clear hwi x0 x1 x2 t0
        go_loopw [30] (fun ii wq => ∃ c : Nat, c ≤ l ∧ ii = .int .i64 c ∧ Hid (Tbs wq n T M (fun j => (j : Nat)) L (sK K ls) (mX f (sK X ls) i c)) ∧ Hid (Maps n M wi wq)) (fun ii _ => l - (intOf ii).toNat)
        case atStart => exact ⟨0, Nat.zero_le _, rfl, HTi, Only.refl _ _⟩
        case round =>
          obtain ⟨c, hc, rfl, HTq, HMq⟩ := hrel
          have HMw : Hid (Maps n M w2 wr) := HMi0.out.trans HMq.out
          by_cases hlc : c < l
          · obtain rfl := HVi.out.top (by omega)
            obtain ⟨k0, k1, k2, k3⟩ := HVi.out.cells hlc
            simp only [Nat.zero_add] at k0 k1 k2 k3
            replace k0 := HTi.out.cellM HMq.out k0
            replace k1 := HTi.out.cellM HMq.out k1
            replace k2 := HTi.out.cellM HMq.out k2
            replace k3 := HTi.out.cellM HMq.out k3
            obtain ⟨kk, HKK⟩ : ∃ kk, Hid (sK K ls i c = kk) := ⟨_, rfl⟩
            rw [HKK.out] at k0 k1 k2 k3
            obtain ⟨wk, hwk⟩ : ∃ wk, wk = wr.alloc (.cells #[.int .i64 kk.k, .int .i64 kk.n, .string kk.s, .int .i64 kk.a] 24) := ⟨_, rfl⟩
            have hbk : Below wr.heap.size wr wk := by rw [hwk]; exact (Below.refl _ _).alloc (Nat.le_refl _) _
            have hKb : ValB wk wr.heap.size kk := by rw [hwk]; exact heap_alloc_new _ _
            obtain ⟨qb, hqb⟩ : ∃ qb, wr.heap.size = qb := ⟨_, rfl⟩
            rw [hqb] at hKb
            have HTk : Hid (Tbs wk n T M (fun j => (j : Nat)) L (sK K ls) (mX f (sK X ls) i c)) := HTq.out.below hbk
            have HMk : Hid (Maps n M wi wk) := HMq.out.trans (Only.below hbk)
            have HMwk : Hid (Maps n M w2 wk) := HMw.out.trans (Only.below hbk)
            go_wp2
            rw [← hwk]
            try rw [hqb]
            clear hwk k0 k1 k2 k3 hbk HTq HMq HMw hqb
            obtain ⟨m, hm⟩ : ∃ m, M i = m := ⟨_, rfl⟩
            obtain ⟨s0, s1, s2, s3, _⟩ := cells4 hKb
            obtain ⟨c0, c1, c2, _⟩ := three_at (HT2.out.blkM HMwk.out HCl.out)
            obtain ⟨ord', hTb', _⟩ := HTk.out.tab i hlt
            obtain ⟨_, x1, _, _⟩ := hTb'.cells
            obtain ⟨lm, hMp, hfind⟩ := HTk.out.map i hlt
            have hiv : isV n (sK X ls i c) = true := good_of HOk.out i hlt _ ((HCS.out.1 i hlt).lt (by omega))
            have hfc := hfind c (by omega)
            rw [mX_at, HKK.out] at hfc
            have HNM : Hid (qb ≠ m ∧ cc ≠ m ∧ T i ≠ m) := by
              rw [← hm]
              obtain ⟨es, clk, hb, _⟩ := hMp
              refine ⟨fun e => ?_, fun e => ?_, fun e => ?_⟩
              · unfold ValB at hKb; rw [e, hb] at hKb; cases hKb
              · have := HT2.out.blkM HMwk.out HCl.out; rw [e, hb] at this; cases this
              · unfold TabB at hTb'; rw [e, hb] at hTb'; cases hTb'
            rw [hm] at x1
            have hcell : ∀ {p : Addr} {v : Value}, wk.cell? p = some v → p.block ≠ m → ∀ x, Only (fun k => k = m) wk x → x.cell? p = some v := fun hc hp x ho => ho.cell hc hp
            replace s0 := hcell s0 HNM.out.1
            replace s1 := hcell s1 HNM.out.1
            replace s2 := hcell s2 HNM.out.1
            replace s3 := hcell s3 HNM.out.1
            replace c0 := hcell c0 HNM.out.2.1
            replace c1 := hcell c1 HNM.out.2.1
            replace c2 := hcell c2 HNM.out.2.1
            replace x1 := hcell x1 HNM.out.2.2
            obtain ⟨xt, xy, hxv⟩ := ifv_form T (sK X ls i c)
            rw [hxv] at hfc
            have HLK : Hid ((Instr.lookup 119 (.map (some m)) (.agg #[.int .i64 kk.k, .int .i64 kk.n, .string kk.s, .int .i64 kk.a]) false).run Tryz.prog wk.drew = .ok (.iface xt xy) wk.drew) := by
              have := ((hMp.same (w' := wk.drew) rfl).lookup kk).2
              rw [hfc, hm] at this
              exact this
            have HMP : Hid (MapIs wk (M i) lm) := hMp
            have HFD : Hid (∀ b, b < L i → findV (sK K ls i b) lm = some (ifv T (mX f (sK X ls) i c i b))) := hfind
            have HFC : Hid (findV kk lm = some (.iface xt xy)) := hfc
            have hcall := first_any n 1 rc vc tb cb T M L (sK K ls) (mX f (sK X ls) i c) f (some ⟨rb, 0, none⟩) (some ⟨tb, 0, none⟩) (sK X ls i c) wk.drew hiv (by omega) HCS.out.2.low (fun _ => rfl) (show ∀ j, _ from fun j hj => HT2.out.cellM HMwk.out (HRt.out j hj)) (show ∀ j, _ from fun j hj => HT2.out.cellM HMwk.out (HRc.out j hj)) (HTk.out.below (Below.refl _ _).drew)
            rw [hxv] at hcall
            obtain ⟨yt, yy, hyv⟩ := ifv_form T (fstV f (sK X ls i c))
            rw [hyv] at hcall
            have HYV : Hid (ifv T (fstV f (sK X ls i c)) = .iface yt yy) := hyv
            clear hKb hTb' hMp hfind hfc hxv hyv hcell hiv
            refine wp_region_held_drew (S := fun x => Only (fun k => k = m) wk x) (by kernel_rfl) (Only.below (Below.refl _ _).drew) (fun hHeld => ?_)
            refine wpT (i := 0) (v := .pointer (some ⟨T i, 0, none⟩)) rfl (fun w hSw => ?_) hHeld ?_
            · first | rfl | go_simp
            simp only [Act.put, pz]
            refine wpT (i := 1) (v := .pointer (some ⟨T i, 0, none⟩)) rfl (fun w hSw => ?_) hHeld ?_
            · first | rfl | go_simp
            simp only [Act.put, pz]
            refine wpT (i := 2) (v := .pointer (some ⟨T i, 1, none⟩)) rfl (fun w hSw => ?_) hHeld ?_
            · first | rfl | go_simp
            simp only [Act.put, pz]
            refine wpT (i := 3) (v := .map (some m)) rfl (fun w hSw => ?_) hHeld ?_
            · have q0 := x1 w hSw; first | rfl | go_simp
            simp only [Act.put, pz]
            refine wpT (i := 4) (v := .agg #[.int .i64 kk.k, .int .i64 kk.n, .string kk.s, .int .i64 kk.a]) rfl (fun w hSw => ?_) hHeld ?_
            · have q0 := s0 w hSw; have q1 := s1 w hSw; have q2 := s2 w hSw; have q3 := s3 w hSw; first | rfl | go_simp
            simp only [Act.put, pz]
            refine wpT (i := 5) (v := .agg #[.slice (some ⟨rb, 0, none⟩) 1 rc, .slice (some ⟨tb, 0, none⟩) n vc, .slice (some ⟨cb, 0, none⟩) n n]) rfl (fun w hSw => ?_) hHeld ?_
            · have q0 := c0 w hSw; have q1 := c1 w hSw; have q2 := c2 w hSw; first | rfl | go_simp
            simp only [Act.put, pz]
            refine wpT (i := 6) (v := .pointer (some ⟨T i, 0, none⟩)) rfl (fun w hSw => ?_) hHeld ?_
            · first | rfl | go_simp
            simp only [Act.put, pz]
            refine wpT (i := 7) (v := .pointer (some ⟨T i, 0, none⟩)) rfl (fun w hSw => ?_) hHeld ?_
            · first | rfl | go_simp
            simp only [Act.put, pz]
            refine wpT (i := 8) (v := .pointer (some ⟨T i, 1, none⟩)) rfl (fun w hSw => ?_) hHeld ?_
            · first | rfl | go_simp
            simp only [Act.put, pz]
            refine wpT (i := 9) (v := .map (some m)) rfl (fun w hSw => ?_) hHeld ?_
            · have q0 := x1 w hSw; first | rfl | go_simp
            simp only [Act.put, pz]
            refine wpT (i := 10) (v := .agg #[.int .i64 kk.k, .int .i64 kk.n, .string kk.s, .int .i64 kk.a]) rfl (fun w hSw => ?_) hHeld ?_
            · have q0 := s0 w hSw; have q1 := s1 w hSw; have q2 := s2 w hSw; have q3 := s3 w hSw; first | rfl | go_simp
            simp only [Act.put, pz]
            refine wpAnyH_ready (rs := [11]) (by kernel_rfl) (by simp) ?_
            refine AllReadyH.cons rfl (fun K' hK' => ?_) AllReadyH.nil
            have hlk := HLK.out
            go_simp
            refine hK'.out _ _ hHeld (fun hHeld => ?_)
            clear hK' hlk HLK
            refine wpAnyH_ready (rs := [12]) (by kernel_rfl) (by simp) ?_
            refine AllReadyH.cons rfl (fun K' hK' => ?_) AllReadyH.nil
            go_simp
            refine hcall.mono ?_
            clear hcall
            rintro e w5 ⟨rfl, hb5⟩
            have hb5' : Below wk.heap.size wk w5 := ⟨hb5.os, hb5.tape, hb5.output, hb5.size, hb5.block⟩
            refine hK'.out _ _ (Only.below hb5') (fun hHeld => ?_)
            clear hK' hb5 hHeld
            obtain ⟨w6, l6, hu6, hM6, hf6, hfo6, hO6, hs6⟩ := (HMP.out.same (hb5'.block _ HMP.out.lt)).replace kk (.iface xt xy) (.iface yt yy) HFC.out
            have hput := (HTk.out.below hb5').putV HMi.out (r := i) (c := c) hlt (fun b hb hne e => (HOk.out.all i hlt).once ((HCS.out.1 i hlt).lt hb) ((HCS.out.1 i hlt).lt (show c < L i by omega)) (fun e' => by
                rcases Nat.lt_or_gt_of_ne hne with h' | h'
                · exact (HCS.out.1 i hlt).ne h' (by omega) e'
                · exact (HCS.out.1 i hlt).ne h' hb e'.symm) e) (fstV f (sK X ls i c)) (show c < L i by omega) (HMP.out.same (hb5'.block _ HMP.out.lt)) HFD.out hM6 (by rw [HKK.out, HYV.out]; exact hf6) (by rw [HKK.out]; exact hfo6) hO6
            rw [mX_next] at hput
            have HT6 : Hid (Tbs w6 n T M (fun j => (j : Nat)) L (sK K ls) (mX f (sK X ls) i (c + 1))) := hput.1
            have HM6 : Hid (Maps n M wi w6) := (HMk.out.trans (Only.below hb5')).trans hput.2
            have hS6 : Only (fun k => k = m) wk w6 := (Only.below hb5').trans (by rw [← hm]; exact hO6)
            rw [hm] at hu6
            clear hput hM6 hf6 hfo6 hO6 hs6 hb5'
            refine wpAnyH_ready (rs := [13]) (by kernel_rfl) (by simp) ?_
            refine AllReadyH.cons rfl (fun K' hK' => ?_) AllReadyH.nil
            go_simp
            refine hK'.out _ _ hS6 (fun hHeld => ?_)
            clear hK' hHeld hu6 hS6
            refine wpAnyH_done (by kernel_rfl) ?_ _
            go_wp2
            go_roundw
            case rel => exact ⟨c + 1, by omega, by go_num, HT6, HM6⟩
            case measure => simp [intOf]; omega
          · obtain rfl : c = l := by omega
            have HT' : Hid (Tbs wr n T M (fun j => (j : Nat)) L (sK K ls) (mX f (sK X ls) (i + 1) 0)) := HTq.out.agree (fun _ _ => rfl) (fun _ _ => rfl) (fun j hj b hb => by
              unfold mX
              by_cases e : j < i ∨ (j = i ∧ b < c)
              · rw [if_pos e, if_pos (by omega)]
              · rw [if_neg e, if_neg (fun h => e (by
                  rcases h with h | h
                  · by_cases e2 : j = i
                    · subst e2; right; exact ⟨rfl, by omega⟩
                    · left; omega
                  · omega))])
            go_wp2
            go_roundw
            case rel => exact ⟨i + 1, by omega, by go_num, HT', HMw⟩
            case measure => simp [intOf]; omega
      · obtain rfl : i = n := by omega
        have HTf : Hid (Tbs wr i T M (fun j => (j : Nat)) L (sK K ls) (fX X ls f)) := HTr.out.agree (fun _ _ => rfl) (fun _ _ => rfl) (fun j hj b hb => by unfold mX fX; rw [if_pos (Or.inl hj)])
        have HCr : Hid (CanW w wr u ta i cp) := H2.out.only HMr.out (fun k ⟨j, hj, e⟩ => by have := (HAp.out j hj).2; omega)
        obtain ⟨c0, c1, c2, _⟩ := three_at (HT2.out.blkM HMr.out HCl.out)
        have r0 := HT2.out.cellM HMr.out HR0.out
        obtain ⟨ut, uy, hxv⟩ := ifv_form T u
        rw [hxv] at r0
        have hcall := first_any i 1 rc vc tb cb T M L (sK K ls) (fX X ls f) f (some ⟨rb, 0, none⟩) va u wr.drew HOk.out.root (by omega) HCS.out.2.low HVA.out (show ∀ j, _ from fun j hj => HT2.out.cellM HMr.out (HRt.out j hj)) (show ∀ j, _ from fun j hj => HT2.out.cellM HMr.out (HRc.out j hj)) (HTf.out.below (Below.refl _ _).drew)
        rw [hxv] at hcall
        have HOs : Hid (OkG i (fstV f u) L (sK K ls) (fX X ls f)) := okG_shr HOk.out HCS.out.1 HCS.out.2.low
        obtain ⟨S, HSo⟩ : ∃ S, Hid (order i (fstV f u) L (fX X ls f) = S) := ⟨_, rfl⟩
        obtain ⟨ru, HRU⟩ : ∃ ru, Hid (renum S (fstV f u) = ru) := ⟨_, rfl⟩
        obtain ⟨yt, yy, hyv⟩ := ifv_form T (fstV f u)
        have HCAN : Hid (∀ w', Below wr.heap.size wr w' → Calls Tryz.prog 30 #[.iface yt yy] w' fun e w'' => (∃ (tv : Value) (PV : Nat → Value) (base : Nat), w'.heap.size ≤ base ∧ e = .returned (.agg #[.int .i64 ru.k, .int .i64 ru.n, .string ru.s, .int .i64 ru.a, tv]) ∧ OTab w'' base tv S.length PV (cL S L) (cK S (sK K ls)) (cX S (fX X ls f))) ∧ Only (fun k => ∃ j, j < i ∧ k = T j) w' w'') := show ∀ _, _ from fun w' hb => by
          have h := canonical_any i T M (fun j => (j : Nat)) L (sK K ls) (fX X ls f) (fstV f u) w' (by omega) (show ∀ r, _ from fun r hr => (HOk.out.all r hr).len) (good_of HOs.out) HOs.out.root (HTf.out.below hb) S HSo
          rw [HRU.out, hyv] at h
          exact h
        rw [hyv] at hcall
        have HNT : Hid (∀ j, j < i → T j ≠ cc ∧ T j ≠ rb ∧ w.heap.size + 2 ≤ T j) := show ∀ j, _ from fun j hj => by
          obtain ⟨ord, h1, _⟩ := HTf.out.tab j hj
          refine ⟨fun e => ?_, fun e => ?_, (HAp.out j hj).1⟩
          · have := HT2.out.blkM HMr.out HCl.out
            unfold TabB at h1
            rw [e, this] at h1
            cases h1
          · have h2 := h1.cells.1
            rw [e] at h2
            have h3 := HT2.out.cellM HMr.out HR0.out
            rw [h2, hxv] at h3
            cases h3
        have HRl : Hid (rb < wr.heap.size ∧ rb ≠ w.heap.size + 1 ∧ cc ≠ w.heap.size + 1 ∧ cc < wr.heap.size) := by
          have hres := HCr.out.res
          refine ⟨World.block_lt_of_cell? _ _ r0, fun e => ?_, fun e => ?_, blk_lt (HT2.out.blkM HMr.out HCl.out)⟩
          · have h5 := (cells5 hres).1
            have h6 := r0
            rw [e, h5] at h6
            cases h6
          · have := HT2.out.blkM HMr.out HCl.out
            rw [e] at this
            have hres' : wr.heap[w.heap.size + 1]? = _ := hres
            rw [hres'] at this
            cases this
        have hs1 : w.heap.size + 1 < wr.heap.size := blk_lt HCr.out.res
        clear hxv hyv HTr HMr HT2 HTf
        have c0d : wr.drew.cell? ⟨cc, 0, none⟩ = _ := c0
        have c1d : wr.drew.cell? ⟨cc, 1, none⟩ = _ := c1
        have c2d : wr.drew.cell? ⟨cc, 2, none⟩ = _ := c2
        have r0d : wr.drew.cell? ⟨rb, 0, none⟩ = _ := r0
        go_wp2
        refine wp_region_held_drew (S := fun x => x.cell? ⟨cc, 0, none⟩ = some (.slice (some ⟨rb, 0, none⟩) 1 rc) ∧ x.cell? ⟨cc, 1, none⟩ = some (.slice va i vc) ∧ x.cell? ⟨cc, 2, none⟩ = some (.slice (some ⟨cb, 0, none⟩) i i) ∧ x.cell? ⟨rb, 0, none⟩ = some (.iface ut uy)) (by kernel_rfl) ⟨c0d, c1d, c2d, r0d⟩ (fun hHeld => ?_)
        clear c0d c1d c2d r0d c0 c1 c2 r0
        refine wpT (i := 0) (v := .agg #[.slice (some ⟨rb, 0, none⟩) 1 rc, .slice va i vc, .slice (some ⟨cb, 0, none⟩) i i]) rfl (fun w hSw => ?_) hHeld ?_
        · have q0 := hSw.1; have q1 := hSw.2.1; have q2 := hSw.2.2.1; first | rfl | go_simp
        simp only [Act.put, pz]
        refine wpT (i := 1) (v := .pointer (some ⟨cc, 0, none⟩)) rfl (fun w hSw => ?_) hHeld ?_
        · first | rfl | go_simp
        simp only [Act.put, pz]
        refine wpT (i := 2) (v := .slice (some ⟨rb, 0, none⟩) 1 rc) rfl (fun w hSw => ?_) hHeld ?_
        · have q0 := hSw.1; first | rfl | go_simp
        simp only [Act.put, pz]
        refine wpT (i := 3) (v := .pointer (some ⟨rb, 0, none⟩)) rfl (fun w hSw => ?_) hHeld ?_
        · first | rfl | go_simp
        simp only [Act.put, pz]
        refine wpT (i := 4) (v := .iface ut uy) rfl (fun w hSw => ?_) hHeld ?_
        · have q0 := hSw.2.2.2; first | rfl | go_simp
        simp only [Act.put, pz]
        refine wpAnyH_ready (rs := [5]) (by kernel_rfl) (by simp) ?_
        refine AllReadyH.cons rfl (fun K' hK' => ?_) AllReadyH.nil
        go_simp
        refine hcall.mono ?_
        clear hcall
        rintro e w5 ⟨rfl, hb5⟩
        have hb5' : Below wr.heap.size wr w5 := ⟨hb5.os, hb5.tape, hb5.output, hb5.size, hb5.block⟩
        have hS5 : w5.cell? ⟨cc, 0, none⟩ = some (.slice (some ⟨rb, 0, none⟩) 1 rc) ∧ w5.cell? ⟨cc, 1, none⟩ = some (.slice va i vc) ∧ w5.cell? ⟨cc, 2, none⟩ = some (.slice (some ⟨cb, 0, none⟩) i i) ∧ w5.cell? ⟨rb, 0, none⟩ = some (.iface ut uy) := ⟨(hb5.cell (p := ⟨cc, 0, none⟩) HRl.out.2.2.2).trans hHeld.1, (hb5.cell (p := ⟨cc, 1, none⟩) HRl.out.2.2.2).trans hHeld.2.1, (hb5.cell (p := ⟨cc, 2, none⟩) HRl.out.2.2.2).trans hHeld.2.2.1, (hb5.cell (p := ⟨rb, 0, none⟩) HRl.out.1).trans hHeld.2.2.2⟩
        refine hK'.out _ _ hS5 (fun hHeld => ?_)
        have HC5 : Hid (CanW w w5 u ta i cp) := HCr.out.below hb5'
        have hcan := HCAN.out w5 hb5'
        have hs5 : w.heap.size + 1 < w5.heap.size := blk_lt HC5.out.res
        have HL5 : Hid (wr.heap.size ≤ w5.heap.size) := hb5'.size
        clear hK' hb5 hb5' hS5
        refine wpAnyH_ready (rs := [6]) (by kernel_rfl) (by simp) ?_
        refine AllReadyH.cons rfl (fun K' hK' => ?_) AllReadyH.nil
        go_simp
        refine hcan.mono ?_
        clear hcan
        rintro e w7 ⟨⟨tv, PV, base, hbase, rfl, hO⟩, hL7⟩
        have hS7 : w7.cell? ⟨cc, 0, none⟩ = some (.slice (some ⟨rb, 0, none⟩) 1 rc) ∧ w7.cell? ⟨cc, 1, none⟩ = some (.slice va i vc) ∧ w7.cell? ⟨cc, 2, none⟩ = some (.slice (some ⟨cb, 0, none⟩) i i) ∧ w7.cell? ⟨rb, 0, none⟩ = some (.iface ut uy) := ⟨hL7.cell hHeld.1 (fun ⟨j, hj, e⟩ => (HNT.out j hj).1 e.symm), hL7.cell hHeld.2.1 (fun ⟨j, hj, e⟩ => (HNT.out j hj).1 e.symm), hL7.cell hHeld.2.2.1 (fun ⟨j, hj, e⟩ => (HNT.out j hj).1 e.symm), hL7.cell hHeld.2.2.2 (fun ⟨j, hj, e⟩ => (HNT.out j hj).2.1 e.symm)⟩
        have HC7 : Hid (CanW w w7 u ta i cp) := HC5.out.only hL7 (fun k ⟨j, hj, e⟩ => by have := (HNT.out j hj).2.2; omega)
        have HO : Hid (OTab w7 base tv S.length PV (cL S L) (cK S (sK K ls)) (cX S (fX X ls f))) := hO
        refine hK'.out _ _ hS7 (fun hHeld => ?_)
        clear hK' hO hL7 hS7
        obtain ⟨ta', tc', rfl, _⟩ := owns_form HO.out.own
        obtain ⟨r0, r1, r2, r3, r4, r5⟩ := cells5 HC7.out.res
        simp only [zeroV] at r0 r1 r2 r3
        have F := put5hi (put5lo HC7.out.res (.int .i64 ru.k) (.int .i64 ru.n) (.string ru.s) (.int .i64 ru.a)) (.slice ta' S.length tc')
        obtain ⟨wf, hwf⟩ : ∃ wf, wf = ((((w7.setCell ⟨w.heap.size + 1, 0, none⟩ (.int .i64 ru.k)).setCell ⟨w.heap.size + 1, 1, none⟩ (.int .i64 ru.n)).setCell ⟨w.heap.size + 1, 2, none⟩ (.string ru.s)).setCell ⟨w.heap.size + 1, 3, none⟩ (.int .i64 ru.a)).setCell ⟨w.heap.size + 1, 4, none⟩ (.slice ta' S.length tc') := ⟨_, rfl⟩
        have ho : Only (fun k => k = w.heap.size + 1) w7 wf := by rw [hwf]; exact set4_only.set (p := ⟨w.heap.size + 1, 4, none⟩) rfl _
        rw [← hwf] at F
        have hSf : wf.cell? ⟨cc, 0, none⟩ = some (.slice (some ⟨rb, 0, none⟩) 1 rc) ∧ wf.cell? ⟨cc, 1, none⟩ = some (.slice va i vc) ∧ wf.cell? ⟨cc, 2, none⟩ = some (.slice (some ⟨cb, 0, none⟩) i i) ∧ wf.cell? ⟨rb, 0, none⟩ = some (.iface ut uy) := ⟨ho.cell hHeld.1 HRl.out.2.2.1, ho.cell hHeld.2.1 HRl.out.2.2.1, ho.cell hHeld.2.2.1 HRl.out.2.2.1, ho.cell hHeld.2.2.2 HRl.out.2.1⟩
        obtain ⟨q0, q1, q2, q3, q4, _⟩ := cells5 F
        refine wpAnyH_ready (rs := [7]) (by kernel_rfl) (by simp) ?_
        refine AllReadyH.cons rfl (fun K' hK' => ?_) AllReadyH.nil
        go_simp
        rw [← hwf]
        refine hK'.out _ _ hSf (fun hHeld => ?_)
        clear hK' hHeld hwf hSf r0 r1 r2 r3 r4 r5
        refine wpAnyH_done (by kernel_rfl) ?_ _
        go_wp2
        refine bodyPost_ret (v := .agg #[.int .i64 ru.k, .int .i64 ru.n, .string ru.s, .int .i64 ru.a, .slice ta' S.length tc']) (by simp [results, Tryz.results19, go_sem, q0, q1, q2, q3, q4]) rfl ⟨Or.inl ⟨HOk.out, f, ls, HCS.out, Or.inl ⟨HOs.out, ?_⟩⟩, HC7.out.bel.trans (ho.toBelow (fun k hk => by omega) (by have := HC7.out.bel.size; omega))⟩
        rw [HSo.out, HRU.out]
        have := HL5.out
        exact ⟨_, PV, base, by omega, rfl, HO.out.only ho (fun k hk e => by omega)⟩
  · have HN : Hid (¬ OkG n u L K X) := by rw [HGd.out] at hno; exact hno
    clear HGs HGd hoff
    obtain ⟨w2, hw2⟩ : ∃ w2, w2 = w1.alloc (.cells #[.slice none 0 0, .slice none 0 0, .slice none 0 0] 95) := ⟨_, rfl⟩
    have hb2 : Below w1.heap.size w1 w2 := by rw [hw2]; exact (Below.refl _ _).alloc (Nat.le_refl _) _
    have H2 : Hid (CanW w w2 u ta n cp) := H1.out.below hb2
    obtain ⟨r0, r1, r2, r3, r4, r5⟩ := cells5 H2.out.res
    simp only [zeroV] at r0 r1 r2 r3
    obtain ⟨s0, s1, s2, s3, s4, s5⟩ := cells5 H1.out.res
    simp only [zeroV] at s0 s1 s2 s3
    have hlt : w.heap.size + 1 < w1.heap.size := blk_lt H1.out.res
    rw [hw2] at r0 r1 r2 r3 r4 r5
    go_wp2
    have F := put5hi (put5lo H1.out.res (.int .i64 0) (.int .i64 0) (.string ⟨#[]⟩) (.int .i64 0)) (.slice none 0 0)
    obtain ⟨q0, q1, q2, q3, q4, _⟩ := cells5 (blkB F ((Below.refl _ _).alloc (Nat.le_refl _) (.cells #[.slice none 0 0, .slice none 0 0, .slice none 0 0] 95)))
    refine bodyPost_ret (v := .agg #[.int .i64 0, .int .i64 0, .string ⟨#[]⟩, .int .i64 0, .slice none 0 0]) (by simp [results, Tryz.results19, go_sem, q0, q1, q2, q3, q4]) rfl ⟨Or.inr ⟨HN.out, rfl⟩, ?_⟩
    have hfin := (H1.out.bel.trans (set4_below (B := w.heap.size + 1) (i := 0) (j := 1) (k := 2) (l := 3) (a' := .int .i64 0) (b' := .int .i64 0) (c' := .string ⟨#[]⟩) (d' := .int .i64 0) |>.mono (show w.heap.size ≤ w.heap.size + 1 by omega))).setCell (p := ⟨w.heap.size + 1, 4, none⟩) (by show w.heap.size ≤ w.heap.size + 1; omega) (.slice none 0 0)
    exact hfin.alloc hfin.size _

end Go.Proofs.YtgflalfiopnmnaaGreatDoor

namespace Go.Proofs.YtgflalfiopnmnaaGreatDoor
open Go.RowKit Vl

theorem FineG.rgs {n : Nat} {u : V} {L : Nat → Nat} {K X : Nat → Nat → V} (h : FineG n u L K X) : Rgs n u L K X := ⟨h.root.2, fun r hr c hc => ⟨((h.all r hr).2 c hc).1.2, ((h.all r hr).2 c hc).2.2⟩⟩

theorem OTab.down {w : World} {base b0 : Nat} {tv : Value} {n : Nat} {PV : Nat → Value} {L : Nat → Nat} {K X : Nat → Nat → V} (h : OTab w base tv n PV L K X) (hb : b0 ≤ base) : OTab w b0 tv n PV L K X := ⟨owns_mono h.own hb, fun j hj => owns_mono (h.rows j hj) hb, h.dis⟩

theorem apart_same {w w' : World} {e : Ending} {n m : Nat} {u u' : V} {L L' : Nat → Nat} {K X K' X' : Nat → Nat → V} (hok : OkG n u L K X) (hok' : OkG m u' L' K' X') (hs : SameG ⟨n, u, L, K, X⟩ ⟨m, u', L', K', X'⟩) (h : ApI w w' e n m u u' L L' K X K' X') : ∃ (pa : Option Addr) (pc : Nat), e = .returned (.slice pa 0 pc) := by
  rcases h with ⟨_, f, v, ans, hcls, _, rfl, h2, h3⟩ | ⟨hno, _⟩
  · have ha := alike_of_same (g := ⟨n, u, L, K, X⟩) (h := ⟨m, u', L', K', X'⟩) hok hok' hcls hs
    have hans := Aw.IDone.same hok' h2 ha
    subst hans
    obtain ⟨pa, pc, rfl, _⟩ := owns_form h3
    exact ⟨pa, pc, rfl⟩
  · exact absurd ⟨hok, hok'⟩ hno

open Classical in
theorem same_tells {e : Ending} {n m : Nat} {u u' : V} {L L' : Nat → Nat} {K X K' X' : Nat → Nat → V} (hok : OkG n u L K X) (hok' : OkG m u' L' K' X') (h : SameRes e n m u u' L L' K X K' X') : e = .returned (.bool (decide (SameG ⟨n, u, L, K, X⟩ ⟨m, u', L', K', X'⟩))) := by
  rcases h with ⟨_, f, hcls, rfl⟩ | ⟨hno, _⟩
  · by_cases hs : SameG ⟨n, u, L, K, X⟩ ⟨m, u', L', K', X'⟩
    · rw [alike_of_same (g := ⟨n, u, L, K, X⟩) (h := ⟨m, u', L', K', X'⟩) hok hok' hcls hs, decide_eq_true hs]
    · have : alike f u (sh n u') = false := by
        cases ha : alike f u (sh n u') with
        | false => rfl
        | true => exact absurd (same_of_alike (g := ⟨n, u, L, K, X⟩) (h := ⟨m, u', L', K', X'⟩) hok hok' hcls ha) hs
      rw [this, decide_eq_false hs]
  · exact absurd ⟨hok, hok'⟩ hno

theorem frz_of {e : Ending} {s : Gr} (hs : s.Ok) (h : FrzIs e s.n s.u s.L s.K s.X) : e = .returned (.string (frzS s.n s.u s.L s.K s.X)) := by
  rcases h with ⟨_, rfl⟩ | ⟨hno, _⟩
  · rfl
  · exact absurd hs hno

set_option maxHeartbeats 8000000 in
set_option maxRecDepth 100000 in
open Classical in
theorem sameLaw2 (ca : Option Addr) (cl cc cb co : Nat) (da : Option Addr) (dl dc db do_ : Nat) (w : World) (hB : ByteR w ca cl cb co) (hcl : cl ≤ 9223372036854775807) (hB' : ByteR w da dl db do_) (hdl : dl ≤ 9223372036854775807) (HTab : Hid (Tab w)) :
    Calls Tryz.prog 4 #[.slice ca cl cc, .slice da dl dc] w fun e w' => e = .returned (.bool true) ∧ Below w.heap.size w w' := by
  by_cases hl : 1048576 < cl
  · clear hB hB'
    go_enter Tryz.func4, Tryz.ntmps4
    go_wp2
    go_ret
    exact ⟨rfl, Below.refl _ _⟩
  by_cases hl' : 1048576 < dl
  · clear hB hB'
    go_enter Tryz.func4, Tryz.ntmps4
    go_wp2
    go_ret
    exact ⟨rfl, Below.refl _ _⟩
  have hdr := drawn_any ca cl cc cb co w hB (by omega)
  have HB' : Hid (ByteR w da dl db do_) := hB'
  have hdb : 0 < dl → db < w.heap.size := fun h => by obtain ⟨_, x, _, hc⟩ := hB' 0 h; exact World.block_lt_of_cell? _ _ hc
  clear hB hB'
  go_enter Tryz.func4, Tryz.ntmps4
  go_wp2_with fail
  refine hdr.mono ?_
  clear hdr
  rintro e w1 ⟨⟨n, u, tv, PV, L, K, X, base, hb, rfl, hok, hfi, hO1⟩, hb1⟩
  obtain ⟨ta, tc, rfl, _⟩ := owns_form hO1.own
  have hn := hok.len
  have HOK : Hid (OkG n u L K X) := hok
  have HFI : Hid (FineG n u L K X) := hfi
  obtain ⟨w2, hw2⟩ : ∃ w2, w2 = w1.alloc (.cells #[.int .i64 u.k, .int .i64 u.n, .string u.s, .int .i64 u.a, .slice ta n tc] 27) := ⟨_, rfl⟩
  have hb2 : Below w1.heap.size w1 w2 := by rw [hw2]; exact (Below.refl _ _).alloc (Nat.le_refl _) _
  obtain ⟨gb, hgb⟩ : ∃ gb, w1.heap.size = gb := ⟨_, rfl⟩
  have HG2 : Hid (OutB w2 gb u (.slice ta n tc)) := by rw [hw2, ← hgb]; exact heap_alloc_new _ _
  have HOg2 : Hid (OTab w2 base (.slice ta n tc) n PV L K X) := hO1.below hb2
  have HW2 : Hid (Below w.heap.size w w2) := grw hb1 hb2
  have hsw2 : w.heap.size ≤ w2.heap.size := HW2.out.size
  have HGs := HG2
  have HOs := HOg2
  have HWs := HW2
  have htu := turnedW_any u ta n tc _ _ _ L _ _ _ K X da dl dc db do_ w2 HOK HFI HOg2.out.tabs.2 (HB'.out.belowH HW2.out) (by omega)
  clear hok hfi hO1 hb1 hb2 hb
  go_upto_region 4 with fail
  rw [← hw2]
  try rw [hgb]
  clear hw2
  obtain ⟨a0, a1, a2, a3, a4, _⟩ := cells5 HG2.out
  go_wp2_with fail
  refine htu.mono ?_
  clear htu a0 a1 a2 a3 a4
  rintro e w3 ⟨⟨tw, u', tv', PVt, Lt, Kt, Xt, bs', hbs, rfl, hTG, hFT, hO3⟩, hb3⟩
  have hnt := hTG.few
  obtain ⟨N, HN⟩ : ∃ N, Hid (n * tw = N) := ⟨_, rfl⟩
  rw [HN.out] at hFT hO3 hTG
  have hnt : N ≤ 200 := by rw [← HN.out]; exact hnt
  obtain ⟨ta3, tc3, rfl, _⟩ := owns_form hO3.own
  have HFT : Hid (FineG N u' Lt Kt Xt) := hFT
  have HOT : Hid (OkG N u' Lt Kt Xt) := turned_ok (g := ⟨n, u, L, K, X⟩) HOK.out hTG
  have HST : Hid (SameG ⟨n, u, L, K, X⟩ ⟨N, u', Lt, Kt, Xt⟩) := turned_same (g := ⟨n, u, L, K, X⟩) HOK.out hTG
  obtain ⟨w4, hw4⟩ : ∃ w4, w4 = w3.alloc (.cells #[.int .i64 u'.k, .int .i64 u'.n, .string u'.s, .int .i64 u'.a, .slice ta3 N tc3] 27) := ⟨_, rfl⟩
  have hb4 : Below w3.heap.size w3 w4 := by rw [hw4]; exact (Below.refl _ _).alloc (Nat.le_refl _) _
  obtain ⟨hb_, hhb⟩ : ∃ hb_, w3.heap.size = hb_ := ⟨_, rfl⟩
  have HH4 : Hid (OutB w4 hb_ u' (.slice ta3 N tc3)) := by rw [hw4, ← hhb]; exact heap_alloc_new _ _
  have HOh4 : Hid (OTab w4 w2.heap.size (.slice ta3 N tc3) N PVt Lt Kt Xt) := (OTab.down hO3 hbs).below hb4
  have hb24 := grw hb3 hb4
  have HB24 : Hid (Below w2.heap.size w2 w4) := hb24
  have hs24 := hb24.size
  have HG4 : Hid (OutB w4 gb u (.slice ta n tc)) := blkB HG2.out hb24
  have HOg4 : Hid (OTab w4 base (.slice ta n tc) n PV L K X) := HOg2.out.below hb24
  have HW4 : Hid (Below w.heap.size w w4) := grw HW2.out hb24
  clear HG2 HOg2 HW2 hb24 
  clear hTG hFT hO3 hb3 hb4 hbs HN
  go_upto_region 5 with fail
  rw [← hw4]
  try rw [hhb]
  clear hw4
  obtain ⟨a0, a1, a2, a3, a4, _⟩ := cells5 HG4.out
  obtain ⟨b0, b1, b2, b3, b4, _⟩ := cells5 HH4.out
  have hsm := implSame_any u u' ta ta3 n tc _ _ N tc3 _ _ _ _ L _ _ _ Lt _ _ _ K X Kt Xt w4 (by omega) (by omega) HFI.out.small HFT.out.small HOg4.out.tabs.2 HOh4.out.tabs.2
  go_wp2_with fail
  refine hsm.mono ?_
  clear hsm
  rintro e w5 ⟨hs5, hb5⟩
  obtain rfl := same_true (s := ⟨N, u', Lt, Kt, Xt⟩) HOK.out HOT.out HST.out hs5
  have HB25 : Hid (Below w2.heap.size w2 w5) := grw HB24.out hb5
  have HG5 : Hid (OutB w5 gb u (.slice ta n tc)) := blkB HG4.out hb5
  have HOg5 : Hid (OTab w5 base (.slice ta n tc) n PV L K X) := HOg4.out.below hb5
  have HW5 : Hid (Below w.heap.size w w5) := grw HW4.out hb5
  have HH5 : Hid (OutB w5 hb_ u' (.slice ta3 N tc3)) := blkB HH4.out hb5
  have HOh5 : Hid (OTab w5 w2.heap.size (.slice ta3 N tc3) N PVt Lt Kt Xt) := HOh4.out.below hb5
  clear HG4 HOg4 HW4 HH4 HOh4 hb5 hs5 a0 a1 a2 a3 a4 b0 b1 b2 b3 b4
  obtain ⟨a0, a1, a2, a3, a4, _⟩ := cells5 HG5.out
  obtain ⟨b0, b1, b2, b3, b4, _⟩ := cells5 HH5.out
  have hsm := implSame_any u' u ta3 ta N tc3 _ _ n tc _ _ _ _ Lt _ _ _ L _ _ _ Kt Xt K X w5 (by omega) (by omega) HFT.out.small HFI.out.small HOh5.out.tabs.2 HOg5.out.tabs.2
  go_wp2_with fail
  refine hsm.mono ?_
  clear hsm
  rintro e w6 ⟨hs6, hb6⟩
  obtain rfl := same_true (s := ⟨n, u, L, K, X⟩) HOT.out HOK.out HST.out.symm hs6
  have HB26 : Hid (Below w2.heap.size w2 w6) := grw HB25.out hb6
  have HG6 : Hid (OutB w6 gb u (.slice ta n tc)) := blkB HG5.out hb6
  have HOg6 : Hid (OTab w6 base (.slice ta n tc) n PV L K X) := HOg5.out.below hb6
  have HW6 : Hid (Below w.heap.size w w6) := grw HW5.out hb6
  have HH6 : Hid (OutB w6 hb_ u' (.slice ta3 N tc3)) := blkB HH5.out hb6
  have HOh6 : Hid (OTab w6 w2.heap.size (.slice ta3 N tc3) N PVt Lt Kt Xt) := HOh5.out.below hb6
  clear HG5 HOg5 HW5 HH5 HOh5 hb6 hs6 a0 a1 a2 a3 a4 b0 b1 b2 b3 b4
  obtain ⟨a0, a1, a2, a3, a4, _⟩ := cells5 HG6.out
  obtain ⟨b0, b1, b2, b3, b4, _⟩ := cells5 HH6.out
  have hap := implApart_any u u' ta ta3 n tc _ _ N tc3 _ _ _ _ L _ _ _ Lt _ _ _ K X Kt Xt w6 (by omega) (by omega) HFI.out.small HFT.out.small HOg6.out.tabs.2 HOh6.out.tabs.2
  go_wp2_with fail
  refine hap.mono ?_
  clear hap
  rintro e w7 ⟨hs7, hb7⟩
  obtain ⟨pa, pc, rfl⟩ := apart_same HOK.out HOT.out HST.out hs7
  have HB27 : Hid (Below w2.heap.size w2 w7) := grw HB26.out hb7
  have HG7 : Hid (OutB w7 gb u (.slice ta n tc)) := blkB HG6.out hb7
  have HOg7 : Hid (OTab w7 base (.slice ta n tc) n PV L K X) := HOg6.out.below hb7
  have HW7 : Hid (Below w.heap.size w w7) := grw HW6.out hb7
  have HH7 : Hid (OutB w7 hb_ u' (.slice ta3 N tc3)) := blkB HH6.out hb7
  have HOh7 : Hid (OTab w7 w2.heap.size (.slice ta3 N tc3) N PVt Lt Kt Xt) := HOh6.out.below hb7
  clear HG6 HOg6 HW6 HH6 HOh6 hb7 hs7 a0 a1 a2 a3 a4 b0 b1 b2 b3 b4
  obtain ⟨b0, b1, b2, b3, b4, _⟩ := cells5 HH7.out
  have hs27 := HB27.out.size
  have hsp := spoilt_any u' ta3 N tc3 w2.heap.size PVt Lt Kt Xt da dl dc db do_ w7 hnt HFT HOh7 hs27 (HB'.out.belowH HW7.out) (fun h => by have := hdb h; omega) (by omega)
  go_upto_region 7 with fail
  go_wp2_with fail
  refine hsp.mono ?_
  clear hsp
  rintro e w8 ⟨⟨x, PVh, Lh, Kh, Xh, rfl, hO8, hF8⟩, hb8, _⟩
  have HB28 : Hid (Below w2.heap.size w2 w8) := HB27.out.trans hb8
  have HFX : Hid (FineG N x Lh Kh Xh) := hF8
  obtain ⟨w9, hw9⟩ : ∃ w9, w9 = w8.alloc (.cells #[.int .i64 x.k, .int .i64 x.n, .string x.s, .int .i64 x.a, .slice ta3 N tc3] 27) := ⟨_, rfl⟩
  have hb9 : Below w8.heap.size w8 w9 := by rw [hw9]; exact (Below.refl _ _).alloc (Nat.le_refl _) _
  obtain ⟨xb, hxb⟩ : ∃ xb, w8.heap.size = xb := ⟨_, rfl⟩
  have HH9 : Hid (OutB w9 xb x (.slice ta3 N tc3)) := by rw [hw9, ← hxb]; exact heap_alloc_new _ _
  have HOh9 : Hid (OTab w9 w2.heap.size (.slice ta3 N tc3) N PVh Lh Kh Xh) := hO8.below hb9
  have hb29 := grw HB28.out hb9
  have HG9 : Hid (OutB w9 gb u (.slice ta n tc)) := blkB HGs.out hb29
  have HOg9 : Hid (OTab w9 base (.slice ta n tc) n PV L K X) := HOs.out.below hb29
  have HW9 : Hid (Below w.heap.size w w9) := grw HWs.out hb29
  clear hO8 hF8 hb8 hb9 hb29 HB24 HB25 HB26 HB27 HB28 HG7 HOg7 HW7 HH7 HOh7 HFT HOT HST HB' b0 b1 b2 b3 b4
  go_upto_region 8 with fail
  rw [← hw9]
  try rw [hxb]
  clear hw9
  obtain ⟨b0, b1, b2, b3, b4, _⟩ := cells5 HH9.out
  have hgo := specOk_any x ta3 N tc3 _ _ _ Lh _ _ _ Kh Xh w9 (by omega) HFX.out.small HOh9.out.tabs.2
  go_wp2_with fail
  refine hgo.mono ?_
  clear hgo
  rintro e w10 ⟨⟨b, rfl, hbo⟩, hb10⟩
  have HG10 : Hid (OutB w10 gb u (.slice ta n tc)) := blkB HG9.out hb10
  have HOg10 : Hid (OTab w10 base (.slice ta n tc) n PV L K X) := HOg9.out.below hb10
  have HW10 : Hid (Below w.heap.size w w10) := grw HW9.out hb10
  have HH10 : Hid (OutB w10 xb x (.slice ta3 N tc3)) := blkB HH9.out hb10
  have HOh10 : Hid (OTab w10 w2.heap.size (.slice ta3 N tc3) N PVh Lh Kh Xh) := HOh9.out.below hb10
  clear HG9 HOg9 HW9 HH9 HOh9 hb10 b0 b1 b2 b3 b4
  obtain ⟨a0, a1, a2, a3, a4, _⟩ := cells5 HG10.out
  obtain ⟨b0, b1, b2, b3, b4, _⟩ := cells5 HH10.out
  have hsm := implSame_any u x ta ta3 n tc _ _ N tc3 _ _ _ _ L _ _ _ Lh _ _ _ K X Kh Xh w10 (by omega) (by omega) HFI.out.small HFX.out.small HOg10.out.tabs.2 HOh10.out.tabs.2
  cases b
  · have hno : ¬ OkG N x Lh Kh Xh := fun h => by have := hbo.2 h; cases this
    have HNO : Hid (¬ OkG N x Lh Kh Xh) := hno
    clear hbo hno
    go_wp2_with fail
    refine hsm.mono ?_
    clear hsm
    rintro e w11 ⟨hs11, hb11⟩
    have he : e = .returned (.bool false) := by
      rcases hs11 with ⟨h, _⟩ | ⟨_, h⟩
      · exact absurd h.2 HNO.out
      · exact h
    subst he
    have HW11 : Hid (Below w.heap.size w w11) := grw HW10.out hb11
    clear hs11 hb11
    go_wp2
    go_ret
    exact ⟨rfl, HW11.out⟩
  have HOX : Hid (OkG N x Lh Kh Xh) := hbo.1 rfl
  clear hbo
  obtain ⟨sm, HSM⟩ : ∃ sm, Hid (decide (SameG ⟨n, u, L, K, X⟩ ⟨N, x, Lh, Kh, Xh⟩) = sm) := ⟨_, rfl⟩
  go_wp2_with fail
  refine hsm.mono ?_
  clear hsm
  rintro e w11 ⟨hs11, hb11⟩
  obtain rfl := same_tells HOK.out HOX.out hs11
  rw [HSM.out]
  have HG11 : Hid (OutB w11 gb u (.slice ta n tc)) := blkB HG10.out hb11
  have HOg11 : Hid (OTab w11 base (.slice ta n tc) n PV L K X) := HOg10.out.below hb11
  have HW11 : Hid (Below w.heap.size w w11) := grw HW10.out hb11
  have HH11 : Hid (OutB w11 xb x (.slice ta3 N tc3)) := blkB HH10.out hb11
  have HOh11 : Hid (OTab w11 w2.heap.size (.slice ta3 N tc3) N PVh Lh Kh Xh) := HOh10.out.below hb11
  clear HG10 HOg10 HW10 HH10 HOh10 hb11 hs11 a0 a1 a2 a3 a4 b0 b1 b2 b3 b4
  obtain ⟨a0, a1, a2, a3, a4, _⟩ := cells5 HG11.out
  obtain ⟨b0, b1, b2, b3, b4, _⟩ := cells5 HH11.out
  have hss := specSame_any u x ta ta3 n tc _ _ N tc3 _ _ _ _ L _ _ _ Lh _ _ _ K X Kh Xh w11 (by omega) (by omega) HFI.out.small HFX.out.small HOg11.out.tabs.2 HOh11.out.tabs.2
  go_wp2_with fail
  refine hss.mono ?_
  clear hss
  rintro e w12 ⟨hs12, hb12⟩
  obtain rfl := same_tells HOK.out HOX.out hs12
  rw [HSM.out]
  have HG12 : Hid (OutB w12 gb u (.slice ta n tc)) := blkB HG11.out hb12
  have HOg12 : Hid (OTab w12 base (.slice ta n tc) n PV L K X) := HOg11.out.below hb12
  have HW12 : Hid (Below w.heap.size w w12) := grw HW11.out hb12
  have HH12 : Hid (OutB w12 xb x (.slice ta3 N tc3)) := blkB HH11.out hb12
  have HOh12 : Hid (OTab w12 w2.heap.size (.slice ta3 N tc3) N PVh Lh Kh Xh) := HOh11.out.below hb12
  clear HG11 HOg11 HW11 HH11 HOh11 hb12 hs12 a0 a1 a2 a3 a4 b0 b1 b2 b3 b4
  obtain ⟨a0, a1, a2, a3, a4, _⟩ := cells5 HG12.out
  have hsh := implShrink_any u ta n tc _ _ _ L _ _ _ K X w12 (by omega) HFI.out.small HOg12.out.tabs.2
  have hmm : (sm != sm) = false := by simp
  go_wp2_with fail
  refine hsh.mono ?_
  clear hsh
  rintro e w13 ⟨hs13, hb13⟩
  obtain ⟨s, stv, SPV, sbase, _, rfl, hO13, hsame, hshk, hfs⟩ := shrunk_of HOK.out HFI.out hs13
  obtain ⟨sa, sc, rfl, _⟩ := owns_form hO13.own
  have hsn : s.n ≤ 200 := hshk.ok.len
  have HSG : Hid (SameG ⟨n, u, L, K, X⟩ s) := hsame
  have HSK : Hid (Shk s) := hshk
  have HG13 : Hid (OutB w13 gb u (.slice ta n tc)) := blkB HG12.out hb13
  have HOg13 : Hid (OTab w13 base (.slice ta n tc) n PV L K X) := HOg12.out.below hb13
  have HW13 : Hid (Below w.heap.size w w13) := grw HW12.out hb13
  have HH13 : Hid (OutB w13 xb x (.slice ta3 N tc3)) := blkB HH12.out hb13
  have HOh13 : Hid (OTab w13 w2.heap.size (.slice ta3 N tc3) N PVh Lh Kh Xh) := HOh12.out.below hb13
  clear HG12 HOg12 HW12 HH12 HOh12 hb13 a0 a1 a2 a3 a4
  have hfr := implFreeze_any s.u sa s.n sc _ _ _ s.L _ _ _ s.K s.X w13 (by omega) hfs.small hO13.tabs.2 (HTab.out.below HW13.out) hfs.rgs
  clear hs13 hO13 hsame hshk hfs
  go_wp2_with fail
  refine hfr.mono ?_
  clear hfr
  rintro e w14 ⟨hf14, hb14⟩
  obtain rfl := frz_of HSK.out.ok hf14
  obtain ⟨A, HA⟩ : ∃ A, Hid (frzS s.n s.u s.L s.K s.X = A) := ⟨_, rfl⟩
  rw [HA.out]
  clear hf14
  have HG14 : Hid (OutB w14 gb u (.slice ta n tc)) := blkB HG13.out hb14
  have HOg14 : Hid (OTab w14 base (.slice ta n tc) n PV L K X) := HOg13.out.below hb14
  have HW14 : Hid (Below w.heap.size w w14) := grw HW13.out hb14
  have HH14 : Hid (OutB w14 xb x (.slice ta3 N tc3)) := blkB HH13.out hb14
  have HOh14 : Hid (OTab w14 w2.heap.size (.slice ta3 N tc3) N PVh Lh Kh Xh) := HOh13.out.below hb14
  clear HG13 HOg13 HW13 HH13 HOh13 hb14 
  obtain ⟨b0, b1, b2, b3, b4, _⟩ := cells5 HH14.out
  have hsh := implShrink_any x ta3 N tc3 _ _ _ Lh _ _ _ Kh Xh w14 (by omega) HFX.out.small HOh14.out.tabs.2
  go_wp2_with fail
  refine hsh.mono ?_
  clear hsh
  rintro e w15 ⟨hs15, hb15⟩
  obtain ⟨t, ttv, TPV, tbase, _, rfl, hO15, hsame, hshk, hfs⟩ := shrunk_of HOX.out HFX.out hs15
  obtain ⟨tva, tvc, rfl, _⟩ := owns_form hO15.own
  have htn : t.n ≤ 200 := hshk.ok.len
  have HTG : Hid (SameG ⟨N, x, Lh, Kh, Xh⟩ t) := hsame
  have HTK : Hid (Shk t) := hshk
  have HG15 : Hid (OutB w15 gb u (.slice ta n tc)) := blkB HG14.out hb15
  have HOg15 : Hid (OTab w15 base (.slice ta n tc) n PV L K X) := HOg14.out.below hb15
  have HW15 : Hid (Below w.heap.size w w15) := grw HW14.out hb15
  have HH15 : Hid (OutB w15 xb x (.slice ta3 N tc3)) := blkB HH14.out hb15
  have HOh15 : Hid (OTab w15 w2.heap.size (.slice ta3 N tc3) N PVh Lh Kh Xh) := HOh14.out.below hb15
  clear HG14 HOg14 HW14 HH14 HOh14 hb15 b0 b1 b2 b3 b4
  have hfr := implFreeze_any t.u tva t.n tvc _ _ _ t.L _ _ _ t.K t.X w15 (by omega) hfs.small hO15.tabs.2 (HTab.out.below HW15.out) hfs.rgs
  clear hs15 hO15 hsame hshk hfs
  go_wp2_with fail
  refine hfr.mono ?_
  clear hfr
  rintro e w16 ⟨hf16, hb16⟩
  obtain rfl := frz_of HTK.out.ok hf16
  obtain ⟨B, HB⟩ : ∃ B, Hid (frzS t.n t.u t.L t.K t.X = B) := ⟨_, rfl⟩
  rw [HB.out]
  clear hf16
  have HG16 : Hid (OutB w16 gb u (.slice ta n tc)) := blkB HG15.out hb16
  have HOg16 : Hid (OTab w16 base (.slice ta n tc) n PV L K X) := HOg15.out.below hb16
  have HW16 : Hid (Below w.heap.size w w16) := grw HW15.out hb16
  have HH16 : Hid (OutB w16 xb x (.slice ta3 N tc3)) := blkB HH15.out hb16
  have HOh16 : Hid (OTab w16 w2.heap.size (.slice ta3 N tc3) N PVh Lh Kh Xh) := HOh15.out.below hb16
  clear HG15 HOg15 HW15 HH15 HOh15 hb16 
  have hst : SameG ⟨n, u, L, K, X⟩ ⟨N, x, Lh, Kh, Xh⟩ ↔ SameG s t := ⟨fun h => (HSG.out.symm.trans h).trans HTG.out, fun h => (HSG.out.trans h).trans HTG.out.symm⟩
  by_cases hA : A.toList = []
  · have hAb : (A.toList == []) = true := by simp [hA]
    clear hst hA
    go_wp2
    go_ret
    exact ⟨rfl, HW16.out⟩
  have hAb : (A.toList == []) = false := by simpa using hA
  by_cases hBt : B.toList = []
  · have hBb : (B.toList == []) = true := by simp [hBt]
    clear hst hA hBt
    go_wp2
    go_ret
    exact ⟨rfl, HW16.out⟩
  have hBb : (B.toList == []) = false := by simpa using hBt
  have hiff := same_iff_text HSK.out HTK.out (by rw [HA.out]; exact hA) (by rw [HB.out]; exact hBt)
  rw [HA.out, HB.out] at hiff
  have hfin : (A.toList == B.toList) = sm := by
    rw [← HSM.out]
    by_cases he : A.toList = B.toList
    · rw [decide_eq_true (hst.2 (hiff.2 he))]
      simpa using he
    · rw [decide_eq_false (fun h => he (hiff.1 (hst.1 h)))]
      simpa using he
  have hss : (sm == sm) = true := by simp
  clear hst hiff hA hBt
  go_wp2
  go_ret
  exact ⟨rfl, HW16.out⟩

end Go.Proofs.YtgflalfiopnmnaaGreatDoor

namespace Go.Proofs.YtgflalfiopnmnaaGreatDoor
open Go.RowKit Vl
open Go.ChangeShapes Go.WideShapes Go.ChangeAt

theorem laidOutK : laidOutB Tryz.prog = true := by kernel_rfl
theorem ownK : ownKnob Tryz.prog.godebug = none := by kernel_rfl
theorem Tryz.cellsU8 : Tryz.prog.cellsOf 5 = 1 := by kernel_rfl

theorem addr_plus (b o i : Nat) : Addr.add ⟨b, o, none⟩ i = ⟨b, o + i, none⟩ := by
  unfold Addr.add
  by_cases h : i = 0 <;> simp [h]

theorem byteR_of {w : World} {x : Addr} {len cap : Nat} {zs : List Int} (hl : len ≤ cap) (hm : cap ≤ maxLen) (hz : zs.length = cap) (hcell : ∀ i, i < zs.length → w.cell? (x.add i) = some (.int .u8 (zs.getD i 0))) (hw : ∀ n ∈ zs, (Lit.int .u8 n).wf = true) :
    ∃ b off, ByteR w (some x) len b off ∧ len ≤ 9223372036854775807 := by
  unfold maxLen at hm
  by_cases h1 : 0 < len
  · have hc := hcell 0 (by omega)
    have hx : x = ⟨x.block, x.off, none⟩ := by
      obtain ⟨b, off, spot⟩ := x
      have hspot : spot = none := by simpa [Addr.add] using World.cell?_spot hc
      subst hspot
      rfl
    refine ⟨x.block, x.off, fun i hi => ⟨by rw [← hx], ?_⟩, by omega⟩
    have hmem : zs.getD i 0 ∈ zs := by
      have : i < zs.length := by omega
      simp [List.getD, List.getElem?_eq_getElem this]
    have hb : 0 ≤ zs.getD i 0 ∧ zs.getD i 0 ≤ 255 := by simpa [Lit.wf, IntKind.min, IntKind.max, IntKind.signed, IntKind.bits] using hw _ hmem
    refine ⟨(zs.getD i 0).toNat, by omega, ?_⟩
    have e : ((zs.getD i 0).toNat : Int) = zs.getD i 0 := Int.toNat_of_nonneg hb.1
    have hci := hcell i (by omega)
    rw [hx, addr_plus] at hci
    rw [e]
    exact hci
  · exact ⟨0, 0, fun i hi => by omega, by omega⟩

end Go.Proofs.YtgflalfiopnmnaaGreatDoor
