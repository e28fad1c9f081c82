import Derived.Test.YtgflalfiopnmnaaGreatDoorM0
import Derived.Test.YtgflalfiopnmnaaGreatDoorM13
import Derived.Deep.CutBlock
namespace Go.Proofs.YtgflalfiopnmnaaGreatDoor
open Go.RowKit Vl

theorem OTab.apart {w w' : World} {base b : Nat} {tv : Value} {n : Nat} {PV : Nat → Value} {L : Nat → Nat} {K X : Nat → Nat → V} {cs : Array Value} {t : TypeId} {fr : Nat × Nat} (h : OTab w base tv n PV L K X) (hb : w.heap[b]? = some (.cells cs t fr)) (h1 : t ≠ 37) (h2 : t ≠ 39) (ho : Only (fun k => k = b) w w') : OTab w' base tv n PV L K X :=
  h.onlyB ho (fun g hg e => by
    obtain ⟨_, cur, hc⟩ := owns_type h.own hg
    subst e
    rw [hb] at hc
    injection hc with hc
    injection hc with _ hc
    exact h1 hc) (fun j hj g hg e => by
    obtain ⟨_, cur, hc⟩ := owns_type (h.rows j hj) hg
    subst e
    rw [hb] at hc
    injection hc with hc
    injection hc with _ hc
    exact h2 hc)

structure SpS (w wk : World) (CB pb rb base : Nat) (ca : Option Addr) (cl cc cb co t : Nat) (u : V) (tv : Value) (n : Nat) (PV : Nat → Value) (L : Nat → Nat) (K X : Nat → Nat → V) : Prop where
  par : OutB wk pb u tv
  res : OutB wk rb zeroV (.slice none 0 0)
  tab : OTab wk base tv n PV L K X
  rd : Rd wk CB ca cl cc cb co t
  bel : Below base w wk
  one : base ≤ CB ∧ base ≤ pb ∧ base ≤ rb ∧ pb ≠ rb ∧ (0 < cl → cb < base)
  new : w.heap.size ≤ pb ∧ w.heap.size ≤ rb
  oth : ∀ b x v, OutB w b x v → OutB wk b x v

section
variable {w wk wk' : World} {CB pb rb base : Nat} {ca : Option Addr} {cl cc cb co t : Nat} {u : V} {tv : Value} {n : Nat} {PV : Nat → Value} {L : Nat → Nat} {K X : Nat → Nat → V}
theorem Rd.block (h : Rd wk CB ca cl cc cb co t) : ∃ cs, wk.heap[CB]? = some (.cells cs 51 (0, 0)) := by
  obtain ⟨a, sd, _, hh⟩ := h.cur.ex
  exact ⟨_, hh⟩
theorem OutB.ne (h : OutB wk pb u tv) (hr : Rd wk CB ca cl cc cb co t) : pb ≠ CB := fun e => by
  obtain ⟨cs, hc⟩ := hr.block
  subst e
  unfold OutB at h
  rw [hc] at h
  injection h with h
  injection h with _ h
  exact absurd h (by decide)
theorem SpS.size (h : SpS w wk CB pb rb base ca cl cc cb co t u tv n PV L K X) : base ≤ wk.heap.size := Nat.le_trans h.one.1 (Nat.le_of_lt h.rd.blocks.1)
theorem SpS.next {s : Nat} (h : SpS w wk CB pb rb base ca cl cc cb co t u tv n PV L K X) (ho : Only (fun k => k = CB) wk wk') (hr : Rd wk' CB ca cl cc cb co s) : SpS w wk' CB pb rb base ca cl cc cb co s u tv n PV L K X := by
  obtain ⟨cs, hc⟩ := h.rd.block
  exact ⟨(ho.block _ (blk_lt h.par) (h.par.ne h.rd)).trans h.par, (ho.block _ (blk_lt h.res) (OutB.ne h.res h.rd)).trans h.res, h.tab.apart hc (by decide) (by decide) ho, hr, h.bel.trans (ho.toBelow (fun k e => by have := h.one.1; omega) h.size), h.one, h.new, fun b x v hb => (ho.block _ (blk_lt (h.oth b x v hb)) (OutB.ne (h.oth b x v hb) h.rd)).trans (h.oth b x v hb)⟩
theorem SpS.below (h : SpS w wk CB pb rb base ca cl cc cb co t u tv n PV L K X) (hb : Below wk.heap.size wk wk') : SpS w wk' CB pb rb base ca cl cc cb co t u tv n PV L K X :=
  ⟨blkB h.par hb, blkB h.res hb, h.tab.below hb, h.rd.below hb, h.bel.trans (hb.mono h.size), h.one, h.new, fun b x v hx => blkB (h.oth b x v hx) hb⟩
theorem SpS.mono {s : Nat} (h : SpS w wk CB pb rb base ca cl cc cb co t u tv n PV L K X) (hs : t ≤ s) : SpS w wk CB pb rb base ca cl cc cb co s u tv n PV L K X := ⟨h.par, h.res, h.tab, h.rd.mono hs, h.bel, h.one, h.new, h.oth⟩
theorem SpS.root (h : SpS w wk CB pb rb base ca cl cc cb co t u tv n PV L K X) (x : V) : SpS w ((((wk.setCell ⟨pb, 0, none⟩ (.int .i64 x.k)).setCell ⟨pb, 1, none⟩ (.int .i64 x.n)).setCell ⟨pb, 2, none⟩ (.string x.s)).setCell ⟨pb, 3, none⟩ (.int .i64 x.a)) CB pb rb base ca cl cc cb co t x tv n PV L K X := by
  have ho : Only (fun k => k = pb) wk ((((wk.setCell ⟨pb, 0, none⟩ (.int .i64 x.k)).setCell ⟨pb, 1, none⟩ (.int .i64 x.n)).setCell ⟨pb, 2, none⟩ (.string x.s)).setCell ⟨pb, 3, none⟩ (.int .i64 x.a)) := set4_only
  have hbe := ho.toBelow (base := base) (fun k e => by have := h.one.2.1; omega) h.size
  refine ⟨put5lo h.par _ _ _ _, (ho.block _ (blk_lt h.res) (fun e => h.one.2.2.2.1 e.symm)).trans h.res, h.tab.apart h.par (by decide) (by decide) ho, ?_, h.bel.trans hbe, h.one, h.new, fun b x v hb => (ho.block _ (blk_lt (h.oth b x v hb)) (by have := blk_lt hb; have := h.new; omega)).trans (h.oth b x v hb)⟩
  obtain ⟨a, sd, ha, hh⟩ := h.rd.cur.ex
  refine ⟨⟨a, sd, ha, (ho.block CB (blk_lt hh) (fun e => (h.par.ne h.rd) e.symm)).trans hh⟩, fun i hi => ?_, h.rd.ne, h.rd.len⟩
  obtain ⟨e, x, hx, hc⟩ := h.rd.byt i hi
  exact ⟨e, x, hx, (hbe.cell (p := ⟨cb, co + i, none⟩) (h.one.2.2.2.2 (by omega))).trans hc⟩
theorem SpS.last (h : SpS w wk CB pb rb base ca cl cc cb co t u tv n PV L K X) (ho : Only (fun k => k = rb) wk wk') : OTab wk' base tv n PV L K X ∧ Below base w wk' ∧ ∀ b x v, OutB w b x v → OutB wk' b x v :=
  ⟨h.tab.apart h.res (by decide) (by decide) ho, h.bel.trans (ho.toBelow (fun k e => by have := h.one.2.2.1; omega) h.size), fun b x v hb => (ho.block _ (blk_lt (h.oth b x v hb)) (by have := blk_lt hb; have := h.new; omega)).trans (h.oth b x v hb)⟩
end

theorem heap_set_ne {w : World} {ob o b : Nat} {v : Value} (hb : b ≠ ob) : (w.setCell ⟨ob, o, none⟩ v).heap[b]? = w.heap[b]? := Below.heap_setCell _ _ _ _ hb

section
variable {w wk wk' : World} {CB pb rb base : Nat} {ca : Option Addr} {cl cc cb co t : Nat} {u : V} {tv : Value} {n : Nat} {PV : Nat → Value} {L : Nat → Nat} {K X : Nat → Nat → V}
theorem SpS.far {qb : Nat} (h : SpS w wk CB pb rb base ca cl cc cb co t u tv n PV L K X) (hq : base ≤ qb ∧ qb ≠ pb ∧ qb ≠ rb ∧ qb ≠ CB ∧ w.heap.size ≤ qb) (h1 : ∀ g, tv.ownBlock = some g → g ≠ qb) (h2 : ∀ j, j < n → ∀ g, (PV j).ownBlock = some g → g ≠ qb) (ho : Only (fun k => k = qb) wk wk') : SpS w wk' CB pb rb base ca cl cc cb co t u tv n PV L K X := by
  have hbe := ho.toBelow (base := base) (fun k e => by omega) h.size
  refine ⟨(ho.block _ (blk_lt h.par) (by omega)).trans h.par, (ho.block _ (blk_lt h.res) (by omega)).trans h.res, h.tab.onlyB ho h1 h2, ?_, h.bel.trans hbe, h.one, h.new, fun b x v hb => (ho.block _ (blk_lt (h.oth b x v hb)) (by have := blk_lt hb; omega)).trans (h.oth b x v hb)⟩
  obtain ⟨a, sd, ha, hh⟩ := h.rd.cur.ex
  refine ⟨⟨a, sd, ha, (ho.block CB (blk_lt hh) (by omega)).trans hh⟩, fun i hi => ?_, h.rd.ne, h.rd.len⟩
  obtain ⟨e, x, hx, hc⟩ := h.rd.byt i hi
  exact ⟨e, x, hx, (hbe.cell (p := ⟨cb, co + i, none⟩) (h.one.2.2.2.2 (by omega))).trans hc⟩

theorem OutB.notPair {b g : Nat} {cs : Array Value} {fr : Nat × Nat} (h : OutB wk b u tv) (hg : wk.heap[g]? = some (.cells cs 39 fr)) : b ≠ g := fun e => by
  subst e
  unfold OutB at h
  rw [hg] at h
  injection h with h
  injection h with _ h
  exact absurd h (by decide)
theorem OutB.notTable {b g : Nat} {cs : Array Value} {fr : Nat × Nat} (h : OutB wk b u tv) (hg : wk.heap[g]? = some (.cells cs 37 fr)) : b ≠ g := fun e => by
  subst e
  unfold OutB at h
  rw [hg] at h
  injection h with h
  injection h with _ h
  exact absurd h (by decide)

theorem OTab.put {tg tc ob oc i k l : Nat} (h : OTab wk base (.slice (some ⟨tg, 0, none⟩) n tc) n PV L K X) (hi : i < n) (hpv : PV i = .slice (some ⟨ob, 0, none⟩) l oc) (hl : L i = l) (hk : k < l) (pk px : V) :
    OTab ((((((((wk.setCell ⟨ob, k * 8, none⟩ (.int .i64 pk.k)).setCell ⟨ob, k * 8 + 1, none⟩ (.int .i64 pk.n)).setCell ⟨ob, k * 8 + 2, none⟩ (.string pk.s)).setCell ⟨ob, k * 8 + 3, none⟩ (.int .i64 pk.a)).setCell ⟨ob, k * 8 + 4, none⟩ (.int .i64 px.k)).setCell ⟨ob, k * 8 + 5, none⟩ (.int .i64 px.n)).setCell ⟨ob, k * 8 + 6, none⟩ (.string px.s)).setCell ⟨ob, k * 8 + 7, none⟩ (.int .i64 px.a)) base (.slice (some ⟨tg, 0, none⟩) n tc) n PV L
      (fun j => if j = i then (fun c => if c = k then pk else K i c) else K j) (fun j => if j = i then (fun c => if c = k then px else X i c) else X j) := by
  have hob : (PV i).ownBlock = some ob := by rw [hpv]; rfl
  have hdis : ∀ j, j < n → j ≠ i → ∀ g, (PV j).ownBlock = some g → g ≠ ob := fun j hj hne g hg e => by
    subst e
    rcases Nat.lt_or_gt_of_ne hne with hlt | hlt
    · exact h.dis j i hlt hi g hg hob
    · exact h.dis i j hlt hj g hob hg
  refine ⟨only8.ownsB h.own (fun g hg e => ?_), fun j hj => ?_, h.dis⟩
  · subst e
    exact types_apart h.own (h.rows i hi) hg hob
  · by_cases e : j = i
    · subst e
      simp only [if_true]
      have hr := h.rows j hi
      rw [hpv, hl] at hr ⊢
      exact owns_put hr hk pk px
    · simp only [e, if_false]
      exact only8.ownsB (h.rows j hj) (hdis j hj e)

theorem SpS.put {tg tc ob oc i k l : Nat} (h : SpS w wk CB pb rb base ca cl cc cb co t u (.slice (some ⟨tg, 0, none⟩) n tc) n PV L K X) (hi : i < n) (hpv : PV i = .slice (some ⟨ob, 0, none⟩) l oc) (hl : L i = l) (hk : k < l) (pk px : V)
    (hw : wk' = (((((((wk.setCell ⟨ob, k * 8, none⟩ (.int .i64 pk.k)).setCell ⟨ob, k * 8 + 1, none⟩ (.int .i64 pk.n)).setCell ⟨ob, k * 8 + 2, none⟩ (.string pk.s)).setCell ⟨ob, k * 8 + 3, none⟩ (.int .i64 pk.a)).setCell ⟨ob, k * 8 + 4, none⟩ (.int .i64 px.k)).setCell ⟨ob, k * 8 + 5, none⟩ (.int .i64 px.n)).setCell ⟨ob, k * 8 + 6, none⟩ (.string px.s)).setCell ⟨ob, k * 8 + 7, none⟩ (.int .i64 px.a)) :
    SpS w wk' CB pb rb base ca cl cc cb co t u (.slice (some ⟨tg, 0, none⟩) n tc) n PV L (fun j => if j = i then (fun c => if c = k then pk else K i c) else K j) (fun j => if j = i then (fun c => if c = k then px else X i c) else X j) ∧ (∀ b, b ≠ ob → wk'.heap[b]? = wk.heap[b]?) := by
  have hob : (PV i).ownBlock = some ob := by rw [hpv]; rfl
  obtain ⟨hge, cur, hcur⟩ := owns_type (h.tab.rows i hi) hob
  have ho : Only (fun k => k = ob) wk wk' := by rw [hw]; exact only8
  have hbe := ho.toBelow (base := base) (fun k e => by omega) h.size
  have hall : ∀ b, b ≠ ob → wk'.heap[b]? = wk.heap[b]? := fun b hb => by
    rw [hw]
    simp only [heap_set_ne hb]
  refine ⟨⟨(hall _ (h.par.notPair hcur)).trans h.par, (hall _ (OutB.notPair h.res hcur)).trans h.res, by rw [hw]; exact h.tab.put hi hpv hl hk pk px, ?_, h.bel.trans hbe, h.one, h.new, fun b x v hb => (hall _ (OutB.notPair (h.oth b x v hb) hcur)).trans (h.oth b x v hb)⟩, hall⟩
  obtain ⟨a, sd, ha, hh⟩ := h.rd.cur.ex
  refine ⟨⟨a, sd, ha, (hall CB (fun e => ?_)).trans hh⟩, fun i hi => ?_, h.rd.ne, h.rd.len⟩
  · subst e
    rw [hh] at hcur
    injection hcur with hcur
    injection hcur with _ hcur
    exact absurd hcur (by decide)
  · obtain ⟨e, x, hx, hc⟩ := h.rd.byt i hi
    exact ⟨e, x, hx, (hbe.cell (p := ⟨cb, co + i, none⟩) (h.one.2.2.2.2 (by omega))).trans hc⟩

theorem SpS.swap {wg : World} {tg tc i g cap l : Nat} {k x : Nat → V} (h : SpS w wk CB pb rb base ca cl cc cb co t u (.slice (some ⟨tg, 0, none⟩) n tc) n PV L K X) (hi : i < n) (hp : wg.ownsRow base 39 8 (.slice (some ⟨g, 0, none⟩) l cap) l (pairCells k x l)) (hg : wk.grownBy wg (PV i).ownBlock) (hnew : (PV i).ownBlock = some g ∨ wk.heap.size ≤ g) :
    (wg.cell? ⟨tg, i, none⟩ = some (PV i) ∧ wg.frozen? ⟨tg, i, none⟩ = false ∧ OutB wg pb u (.slice (some ⟨tg, 0, none⟩) n tc)) ∧
    OutB (wg.setCell ⟨tg, i, none⟩ (.slice (some ⟨g, 0, none⟩) l cap)) pb u (.slice (some ⟨tg, 0, none⟩) n tc) ∧ OutB (wg.setCell ⟨tg, i, none⟩ (.slice (some ⟨g, 0, none⟩) l cap)) rb zeroV (.slice none 0 0) ∧
    OTab (wg.setCell ⟨tg, i, none⟩ (.slice (some ⟨g, 0, none⟩) l cap)) base (.slice (some ⟨tg, 0, none⟩) n tc) n (fun j => if j = i then .slice (some ⟨g, 0, none⟩) l cap else PV j) (fun j => if j = i then l else L j) (fun j => if j = i then k else K j) (fun j => if j = i then x else X j) ∧
    Below base w (wg.setCell ⟨tg, i, none⟩ (.slice (some ⟨g, 0, none⟩) l cap)) ∧ ∀ b x v, OutB w b x v → OutB (wg.setCell ⟨tg, i, none⟩ (.slice (some ⟨g, 0, none⟩) l cap)) b x v := by
  have own := h.tab.own.kept hg (Or.inr (fun e => types_apart h.tab.own (h.tab.rows i hi) (tg := tg) rfl e.symm))
  obtain ⟨htg, cur, hc⟩ := owns_type own (g := tg) rfl
  obtain ⟨_, cur0, hc0⟩ := owns_type h.tab.own (g := tg) rfl
  have hpn : ∀ b u' tv', OutB wk b u' tv' → OutB wg b u' tv' := fun b u' tv' hb => (hg.block b (blk_lt hb) (fun e => by
    obtain ⟨_, c2, h2⟩ := owns_type (h.tab.rows i hi) e.symm
    exact hb.notPair h2 rfl)).trans hb
  have h6 := hpn _ _ _ h.par
  have h7 := hpn _ _ _ h.res
  have hbe : Below base wk wg := below_grown (h.tab.rows i hi) hg h.size
  refine ⟨⟨?_, by simp [World.frozen?, hc], h6⟩, (Below.heap_setCell _ _ _ _ (h6.notTable hc)).trans h6, (Below.heap_setCell _ _ _ _ (OutB.notTable h7 hc)).trans h7, h.tab.swap hi hp hg (fun g' e => by
    have e' : g = g' := Option.some.inj e
    subst e'
    exact hnew), (h.bel.trans hbe).setCell (p := ⟨tg, i, none⟩) htg _, fun b x v hb => by
    have hb6 := hpn _ _ _ (h.oth b x v hb)
    exact (Below.heap_setCell _ _ _ _ (OutB.notTable hb6 hc)).trans hb6⟩
  obtain ⟨g2, c2, e2, h2⟩ := owns_cell own (k := i) (y := PV i) (by simp [hi])
  cases e2
  exact h2
end

theorem put1_in8 {w : World} {B : Nat} {a b c d e f g i : Value} {t : TypeId} (h : w.heap[B]? = some (.cells #[a, b, c, d, e, f, g, i] t (0, 0))) (c' : Value) :
    (w.setCell ⟨B, 2, none⟩ c').heap[B]? = some (.cells #[a, b, c', d, e, f, g, i] t (0, 0)) := by
  simp [World.setCell, Array.getElem?_modify, h]

def SpRes (w' : World) (e : Ending) (base : Nat) (tv : Value) (n : Nat) : Prop :=
  ∃ (u : V) (PV : Nat → Value) (L : Nat → Nat) (K X : Nat → Nat → V), e = .returned (.agg #[.int .i64 u.k, .int .i64 u.n, .string u.s, .int .i64 u.a, tv]) ∧ OTab w' base tv n PV L K X ∧ FineG n u L K X

set_option maxHeartbeats 8000000 in
set_option maxRecDepth 100000 in
theorem spoil_any (w : World) (CB : Nat) (ca : Option Addr) (cl cc cb co t : Nat) (u : V) (ta : Option Addr) (n tc base : Nat) (PV : Nat → Value) (L : Nat → Nat) (K X : Nat → Nat → V) (hn : n ≤ 200) (HF : Hid (FineG n u L K X)) (HO : Hid (OTab w base (.slice ta n tc) n PV L K X)) (hbz : base ≤ CB) (h : Rd w CB ca cl cc cb co t) (hcb : 0 < cl → cb < base) (ht : t ≤ 1000) :
    Calls Tryz.prog 41 #[.pointer (some ⟨CB, 0, none⟩), .agg #[.int .i64 u.k, .int .i64 u.n, .string u.s, .int .i64 u.a, .slice ta n tc]] w fun e w' => SpRes w' e base (.slice ta n tc) n ∧ Below base w w' ∧ ∀ b x v, OutB w b x v → OutB w' b x v := by
  have hbk := h.blocks
  have A2 := alloc2 w (.cells #[.int .i64 u.k, .int .i64 u.n, .string u.s, .int .i64 u.a, .slice ta n tc] 27) (.cells #[.int .i64 0, .int .i64 0, .string ⟨#[]⟩, .int .i64 0, .slice none 0 0] 27)
  obtain ⟨wa, hwa⟩ : ∃ wa, wa = (w.alloc (.cells #[.int .i64 u.k, .int .i64 u.n, .string u.s, .int .i64 u.a, .slice ta n tc] 27)).alloc (.cells #[.int .i64 0, .int .i64 0, .string ⟨#[]⟩, .int .i64 0, .slice none 0 0] 27) := ⟨_, rfl⟩
  rw [← hwa] at A2
  obtain ⟨pb, hpb⟩ : ∃ pb, w.heap.size = pb := ⟨_, rfl⟩
  obtain ⟨rb, hrb⟩ : ∃ rb, pb + 1 = rb := ⟨_, rfl⟩
  have HSa : Hid (SpS w wa CB pb rb base ca cl cc cb co t u (.slice ta n tc) n PV L K X) := ⟨by rw [← hpb]; exact A2.1, by rw [← hrb, ← hpb]; exact A2.2.1, HO.out.below A2.2.2.2, h.below A2.2.2.2, A2.2.2.2.mono (by omega), ⟨by omega, by omega, by omega, by omega, hcb⟩, ⟨by omega, by omega⟩, fun b x v hb => blkB hb A2.2.2.2⟩
  clear A2 h HO
  go_enter Tryz.func41, Tryz.ntmps41
  go_upto_region 1 with fail
  rw [← hwa]
  try rw [hpb]
  try rw [hrb]
  clear hwa
  obtain ⟨g0, g1, g2, g3, g4, _⟩ := cells5 HSa.out.par
  by_cases n0 : n = 0
  · have nb : ((n : Int) == 0) = true := by simp [n0]
    have HSx := HSa
    clear n0
    have hp := pick_r 7 HSx.out.rd (by omega) (by omega) (by omega)
    go_wp2_with fail
    refine hp.mono ?_
    clear hp
    rintro e wp1 ⟨⟨y1, hy1, rfl⟩, HRp1, HOp1⟩
    have HSp1 : Hid (SpS w wp1 CB pb rb base ca cl cc cb co (t + 2) u (.slice ta n tc) n PV L K X) := (HSx.out.next HOp1.out HRp1.out).mono (by omega)
    clear HRp1 HOp1
    have hp := pick_r 3 HSp1.out.rd (by omega) (by omega) (by omega)
    go_wp2_with fail
    refine hp.mono ?_
    clear hp
    rintro e wp2 ⟨⟨y2, hy2, rfl⟩, HRp2, HOp2⟩
    have HSp2 : Hid (SpS w wp2 CB pb rb base ca cl cc cb co (t + 4) u (.slice ta n tc) n PV L K X) := (HSp1.out.next HOp2.out HRp2.out).mono (by omega)
    clear HRp2 HOp2
    have hp := pick_r 3 HSp2.out.rd (by omega) (by omega) (by omega)
    go_wp2_with fail
    refine hp.mono ?_
    clear hp
    rintro e wp3 ⟨⟨y3, hy3, rfl⟩, HRp3, HOp3⟩
    have HSp3 : Hid (SpS w wp3 CB pb rb base ca cl cc cb co (t + 6) u (.slice ta n tc) n PV L K X) := (HSp2.out.next HOp3.out HRp3.out).mono (by omega)
    clear HRp3 HOp3
    obtain ⟨x, HX⟩ : ∃ x : V, Hid (x = ⟨(y1 : Int) - 1, y2, ⟨#[]⟩, (y3 : Int) - 1⟩) := ⟨_, rfl⟩
    obtain ⟨wr, hwr⟩ : ∃ wr, wr = (((wp3.setCell ⟨pb, 0, none⟩ (.int .i64 ((y1 : Int) - 1))).setCell ⟨pb, 1, none⟩ (.int .i64 (y2 : Nat))).setCell ⟨pb, 2, none⟩ (.string ⟨#[]⟩)).setCell ⟨pb, 3, none⟩ (.int .i64 ((y3 : Int) - 1)) := ⟨_, rfl⟩
    have HSr : Hid (SpS w wr CB pb rb base ca cl cc cb co (t + 6) x (.slice ta n tc) n PV L K X) := by
      have h := HSp3.out.root x
      rw [HX.out] at h
      rw [HX.out, hwr]
      exact h
    have HFx : Hid (FineG n x L K X) := ⟨by rw [HX.out]; exact ⟨Nat.zero_le _, by simp only; omega, by simp only; omega⟩, HF.out.all⟩
    obtain ⟨p0, p1, p2, p3, p4, pz⟩ := cells5 HSp3.out.par
    go_upto_region 3 with fail
    rw [← hwr]
    clear hwr p0 p1 p2 p3 p4 pz
    obtain ⟨p0, p1, p2, p3, p4, pz⟩ := cells5 HSr.out.par
    obtain ⟨r0, r1, r2, r3, r4, r5⟩ := cells5 HSr.out.res
    simp only [zeroV] at r0 r1 r2 r3
    go_wp2
    have F := put5hi (put5lo HSr.out.res (.int .i64 x.k) (.int .i64 x.n) (.string x.s) (.int .i64 x.a)) (.slice ta n tc)
    obtain ⟨wf, hwf⟩ : ∃ wf, wf = ((((wr.setCell ⟨rb, 0, none⟩ (.int .i64 x.k)).setCell ⟨rb, 1, none⟩ (.int .i64 x.n)).setCell ⟨rb, 2, none⟩ (.string x.s)).setCell ⟨rb, 3, none⟩ (.int .i64 x.a)).setCell ⟨rb, 4, none⟩ (.slice ta n tc) := ⟨_, rfl⟩
    have ho : Only (fun k => k = rb) wr wf := by rw [hwf]; exact set4_only.set (p := ⟨rb, 4, none⟩) rfl _
    rw [← hwf] at F ⊢
    clear hwf
    obtain ⟨q0, q1, q2, q3, q4, _⟩ := cells5 F
    refine bodyPost_ret (v := .agg #[.int .i64 x.k, .int .i64 x.n, .string x.s, .int .i64 x.a, .slice ta n tc]) (by simp [results, Tryz.results41, go_sem, q0, q1, q2, q3, q4]) rfl ⟨⟨x, PV, L, K, X, rfl, (HSr.out.last ho).1, HFx.out⟩, ?_⟩
    exact (HSr.out.last ho).2
  · have nb : ((n : Int) == 0) = false := by simp; omega
    have hp := pick_r 6 HSa.out.rd (by omega) (by omega) (by omega)
    go_wp2_with fail
    refine hp.mono ?_
    clear hp
    rintro e w1 ⟨⟨y, hy, rfl⟩, HR1, HO1⟩
    have HSx : Hid (SpS w w1 CB pb rb base ca cl cc cb co (t + 2) u (.slice ta n tc) n PV L K X) := HSa.out.next HO1.out HR1.out
    clear HSa HR1 HO1 g0 g1 g2 g3 g4
    by_cases y0 : y = 0
    · subst y0
      clear n0
      have hp := pick_r 7 HSx.out.rd (by omega) (by omega) (by omega)
      go_wp2_with fail
      refine hp.mono ?_
      clear hp
      rintro e wp1 ⟨⟨y1, hy1, rfl⟩, HRp1, HOp1⟩
      have HSp1 : Hid (SpS w wp1 CB pb rb base ca cl cc cb co (t + 2 + 2) u (.slice ta n tc) n PV L K X) := (HSx.out.next HOp1.out HRp1.out).mono (by omega)
      clear HRp1 HOp1
      have hp := pick_r 3 HSp1.out.rd (by omega) (by omega) (by omega)
      go_wp2_with fail
      refine hp.mono ?_
      clear hp
      rintro e wp2 ⟨⟨y2, hy2, rfl⟩, HRp2, HOp2⟩
      have HSp2 : Hid (SpS w wp2 CB pb rb base ca cl cc cb co (t + 2 + 4) u (.slice ta n tc) n PV L K X) := (HSp1.out.next HOp2.out HRp2.out).mono (by omega)
      clear HRp2 HOp2
      have hp := pick_r 3 HSp2.out.rd (by omega) (by omega) (by omega)
      go_wp2_with fail
      refine hp.mono ?_
      clear hp
      rintro e wp3 ⟨⟨y3, hy3, rfl⟩, HRp3, HOp3⟩
      have HSp3 : Hid (SpS w wp3 CB pb rb base ca cl cc cb co (t + 2 + 6) u (.slice ta n tc) n PV L K X) := (HSp2.out.next HOp3.out HRp3.out).mono (by omega)
      clear HRp3 HOp3
      obtain ⟨x, HX⟩ : ∃ x : V, Hid (x = ⟨(y1 : Int) - 1, y2, ⟨#[]⟩, (y3 : Int) - 1⟩) := ⟨_, rfl⟩
      obtain ⟨wr, hwr⟩ : ∃ wr, wr = (((wp3.setCell ⟨pb, 0, none⟩ (.int .i64 ((y1 : Int) - 1))).setCell ⟨pb, 1, none⟩ (.int .i64 (y2 : Nat))).setCell ⟨pb, 2, none⟩ (.string ⟨#[]⟩)).setCell ⟨pb, 3, none⟩ (.int .i64 ((y3 : Int) - 1)) := ⟨_, rfl⟩
      have HSr : Hid (SpS w wr CB pb rb base ca cl cc cb co (t + 2 + 6) x (.slice ta n tc) n PV L K X) := by
        have h := HSp3.out.root x
        rw [HX.out] at h
        rw [HX.out, hwr]
        exact h
      have HFx : Hid (FineG n x L K X) := ⟨by rw [HX.out]; exact ⟨Nat.zero_le _, by simp only; omega, by simp only; omega⟩, HF.out.all⟩
      obtain ⟨p0, p1, p2, p3, p4, pz⟩ := cells5 HSp3.out.par
      go_upto_region 3 with fail
      rw [← hwr]
      clear hwr p0 p1 p2 p3 p4 pz
      obtain ⟨p0, p1, p2, p3, p4, pz⟩ := cells5 HSr.out.par
      obtain ⟨r0, r1, r2, r3, r4, r5⟩ := cells5 HSr.out.res
      simp only [zeroV] at r0 r1 r2 r3
      go_wp2
      have F := put5hi (put5lo HSr.out.res (.int .i64 x.k) (.int .i64 x.n) (.string x.s) (.int .i64 x.a)) (.slice ta n tc)
      obtain ⟨wf, hwf⟩ : ∃ wf, wf = ((((wr.setCell ⟨rb, 0, none⟩ (.int .i64 x.k)).setCell ⟨rb, 1, none⟩ (.int .i64 x.n)).setCell ⟨rb, 2, none⟩ (.string x.s)).setCell ⟨rb, 3, none⟩ (.int .i64 x.a)).setCell ⟨rb, 4, none⟩ (.slice ta n tc) := ⟨_, rfl⟩
      have ho : Only (fun k => k = rb) wr wf := by rw [hwf]; exact set4_only.set (p := ⟨rb, 4, none⟩) rfl _
      rw [← hwf] at F ⊢
      clear hwf
      obtain ⟨q0, q1, q2, q3, q4, _⟩ := cells5 F
      refine bodyPost_ret (v := .agg #[.int .i64 x.k, .int .i64 x.n, .string x.s, .int .i64 x.a, .slice ta n tc]) (by simp [results, Tryz.results41, go_sem, q0, q1, q2, q3, q4]) rfl ⟨⟨x, PV, L, K, X, rfl, (HSr.out.last ho).1, HFx.out⟩, ?_⟩
      exact (HSr.out.last ho).2
    · have yb : ((y : Int) == 0) = false := by simpa using y0
      clear y0
      obtain ⟨g0, g1, g2, g3, g4, _⟩ := cells5 HSx.out.par
      have hp := pick_r n HSx.out.rd (by omega) hn (by omega)
      go_wp2_with fail
      refine hp.mono ?_
      clear hp
      rintro e w2 ⟨⟨i, hi, rfl⟩, HR2, HO2⟩
      have HS2 : Hid (SpS w w2 CB pb rb base ca cl cc cb co (t + 4) u (.slice ta n tc) n PV L K X) := HSx.out.next HO2.out HR2.out
      clear HSx HR2 HO2 g0 g1 g2 g3 g4 n0
      obtain ⟨tg, tc', etg, ht2⟩ := owns_cell HS2.out.tab.own (k := i) (y := PV i) (by simp [hi])
      injection etg with e1 e2 e3
      subst e1
      subst e3
      obtain ⟨oa, oc, hpv, hob⟩ := owns_form (HS2.out.tab.rows i hi)
      have HPV : Hid (PV i = .slice oa (L i) oc) := hpv
      have HOB : Hid (∀ k, (PV i).ownBlock = some k → base ≤ k ∧ k < w2.heap.size) := hob
      rw [hpv] at ht2
      obtain ⟨l, hl⟩ : ∃ l, L i = l := ⟨_, rfl⟩
      rw [hl] at ht2
      have HL : Hid (L i = l) := hl
      have hl2 : l ≤ 200 := by rw [← hl]; exact (HF.out.all i hi).1
      have il : (0 : Int) ≤ (i : Int) ∧ (i : Int) < (n : Int) := by omega
      clear hpv hob hl
      obtain ⟨g0, g1, g2, g3, g4, _⟩ := cells5 HS2.out.par
      by_cases l0 : l = 0
      · subst l0
        rw [HL.out] at HPV
        obtain ⟨ip, hpi, hp0, hp1, hp2⟩ := info_parts Tryz.info39
        have hcell : Hid (∀ {wk : World} {s : Nat}, SpS w wk CB pb rb base ca cl cc cb co s u (.slice (some ⟨tg, 0, none⟩) n tc) n PV L K X → wk.cell? ⟨tg, i, none⟩ = some (.slice oa 0 oc)) := by
          intro wk s hs
          obtain ⟨g2, c2, ee, h2⟩ := owns_cell hs.tab.own (k := i) (y := PV i) (by simp [hi])
          cases ee
          rw [h2, HPV.out]
        have HSd : Hid (SpS w w2.drew CB pb rb base ca cl cc cb co (t + 4) u (.slice (some ⟨tg, 0, none⟩) n tc) n PV L K X) := HS2.out.below ((Below.refl _ _).drew)
        go_upto_region 6 with fail
        refine wp_region_held_drew (S := fun w' => OutB w' pb u (.slice (some ⟨tg, 0, none⟩) n tc)) (by kernel_rfl) HSd.out.par (fun hHeld => ?_)
        clear g0 g1 g2 g3 g4
        refine wpT (i := 0) (v := .pointer (some ⟨pb, 4, none⟩)) rfl (fun w hSw => ?_) hHeld ?_
        · first | rfl | go_simp
        simp only [Act.put, pz]
        refine wpT (i := 1) (v := .slice (some ⟨tg, 0, none⟩) n tc) rfl (fun w hSw => ?_) hHeld ?_
        · obtain ⟨k0, k1, k2, k3, k4, _⟩ := cells5 hSw
          go_simp
        simp only [Act.put, pz]
        refine wpT (i := 2) (v := .int .i64 (i : Int)) rfl (fun w hSw => ?_) hHeld ?_
        · first | rfl | go_simp
        simp only [Act.put, pz]
        refine wpT (i := 3) (v := .pointer (some ⟨pb, 4, none⟩)) rfl (fun w hSw => ?_) hHeld ?_
        · first | rfl | go_simp
        simp only [Act.put, pz]
        refine wpT (i := 4) (v := .slice (some ⟨tg, 0, none⟩) n tc) rfl (fun w hSw => ?_) hHeld ?_
        · obtain ⟨k0, k1, k2, k3, k4, _⟩ := cells5 hSw
          go_simp
        simp only [Act.put, pz]
        refine wpT (i := 5) (v := .int .i64 (i : Int)) rfl (fun w hSw => ?_) hHeld ?_
        · first | rfl | go_simp
        simp only [Act.put, pz]
        refine wpT (i := 6) (v := .pointer (some ⟨tg, i, none⟩)) rfl (fun w hSw => ?_) hHeld ?_
        · go_simp
        simp only [Act.put, pz]
        refine wpT (i := 7) (v := .pointer (some ⟨tg, i, none⟩)) rfl (fun w hSw => ?_) hHeld ?_
        · first | rfl | go_simp
        simp only [Act.put, pz]
        refine wpT (i := 9) (v := .pointer (some ⟨CB, 0, none⟩)) rfl (fun w hSw => ?_) hHeld ?_
        · first | rfl | go_simp
        simp only [Act.put, pz]
        refine wpT (i := 11) (v := .pointer (some ⟨CB, 0, none⟩)) rfl (fun w hSw => ?_) hHeld ?_
        · first | rfl | go_simp
        simp only [Act.put, pz]
        refine wpAnyH_ready (rs := [8, 10]) (by kernel_rfl) (by simp) ?_
        refine AllReadyH.cons rfl (fun K' hK' => ?_) (AllReadyH.cons rfl (fun K' hK' => ?_) AllReadyH.nil)
        · have ct := hcell.out HS2.out
          go_simp
          refine hK'.out _ _ HSd.out.par (fun hHeld => ?_)
          clear hK' ct
          try simp only [Act.put, pz]
          refine wpAnyH_ready (rs := [10]) (by kernel_rfl) (by simp) ?_
          refine AllReadyH.cons rfl (fun K' hK' => ?_) AllReadyH.nil
          have hp := key_p HSd.out.rd (by omega)
          go_simp
          refine hp.mono ?_
          clear hp
          rintro e w3 ⟨kv, hkv, rfl, hR3, hO3⟩
          have HS3 : Hid (SpS w w3 CB pb rb base ca cl cc cb co (t + 4 + 30) u (.slice (some ⟨tg, 0, none⟩) n tc) n PV L K X) := HSd.out.next hO3 hR3
          have Hkv : Hid (fineV kv) := ⟨hkv.1, hkv.2.2⟩
          clear hR3 hO3 hkv
          refine hK'.out _ _ HS3.out.par (fun hHeld => ?_)
          clear hK'
          try simp only [Act.put, pz]
          refine wpAnyH_ready (rs := [12]) (by kernel_rfl) (by simp) ?_
          refine AllReadyH.cons rfl (fun K' hK' => ?_) AllReadyH.nil
          have hp := key_p HS3.out.rd (by omega)
          go_simp
          refine hp.mono ?_
          clear hp
          rintro e w4 ⟨xv, hxv, rfl, hR4, hO4⟩
          have HS4 : Hid (SpS w w4 CB pb rb base ca cl cc cb co (t + 4 + 30 + 30) u (.slice (some ⟨tg, 0, none⟩) n tc) n PV L K X) := HS3.out.next hO4 hR4
          have Hxv : Hid (fineV xv) := ⟨hxv.1, hxv.2.2⟩
          clear hR4 hO4 hxv
          refine hK'.out _ _ HS4.out.par (fun hHeld => ?_)
          clear hK'
          try simp only [Act.put, pz]
          refine wpT (i := 13) (v := .agg #[.int .i64 kv.k, .int .i64 kv.n, .string kv.s, .int .i64 kv.a, .int .i64 xv.k, .int .i64 xv.n, .string xv.s, .int .i64 xv.a]) rfl (fun w hSw => ?_) hHeld ?_
          · go_simp
          simp only [Act.put, pz]
          refine wpAnyH_ready (rs := [14]) (by kernel_rfl) (by simp) ?_
          refine AllReadyH.cons rfl (fun K' hK' => ?_) AllReadyH.nil
          have HS5 : Hid (SpS w (w4.alloc (.cells #[.int .i64 kv.k, .int .i64 kv.n, .string kv.s, .int .i64 kv.a, .int .i64 xv.k, .int .i64 xv.n, .string xv.s, .int .i64 xv.a] 39)) CB pb rb base ca cl cc cb co (t + 4 + 30 + 30) u (.slice (some ⟨tg, 0, none⟩) n tc) n PV L K X) := HS4.out.below ((Below.refl _ _).alloc (Nat.le_refl _) _)
          go_simp
          refine hK'.out _ _ HS5.out.par (fun hHeld => ?_)
          clear hK'
          try simp only [Act.put, pz]
          obtain ⟨w5, hw5⟩ : ∃ w5, w5 = w4.alloc (.cells #[.int .i64 kv.k, .int .i64 kv.n, .string kv.s, .int .i64 kv.a, .int .i64 xv.k, .int .i64 xv.n, .string xv.s, .int .i64 xv.a] 39) := ⟨_, rfl⟩
          have HN5 : Hid (w5.heap[w4.heap.size]? = some (.cells #[.int .i64 kv.k, .int .i64 kv.n, .string kv.s, .int .i64 kv.a, .int .i64 xv.k, .int .i64 xv.n, .string xv.s, .int .i64 xv.a] 39 (0, 0))) := by rw [hw5]; exact heap_alloc_new w4 _
          have hs5 : w5.heap.size = w4.heap.size + 1 := by rw [hw5]; exact World.size_alloc _ _
          rw [← hw5] at HS5
          rw [← hw5]
          clear hw5
          have hrow := HS5.out.tab.rows i hi
          rw [HPV.out, HL.out] at hrow
          refine wpAnyH_ready (rs := [15]) (by kernel_rfl) (by simp) ?_
          refine AllReadyH.cons rfl (fun K' hK' => ?_) AllReadyH.nil
          refine step_append_lies _ (by rfl) (.tmp 49) (.tmp 55) 35 (by rfl) base 39 ip (.agg #[.int .i64 0, .int .i64 0, .string ⟨#[]⟩, .int .i64 0, .int .i64 0, .int .i64 0, .string ⟨#[]⟩, .int .i64 0]) 8 80 Tryz.underlying35 hpi hp0 hp1 hp2 (by rfl) (by omega) (.slice oa 0 oc) 0 (pairCells (K i) (X i) 0) (by rfl) hrow ⟨w4.heap.size, 0, none⟩ 1 1 [.int .i64 kv.k, .int .i64 kv.n, .string kv.s, .int .i64 kv.a, .int .i64 xv.k, .int .i64 xv.n, .string xv.s, .int .i64 xv.a] (by rfl) (by rfl) (World.news_of_block HN5.out) (by intro u hu; simp at hu; rcases hu with rfl | rfl | rfl | rfl | rfl | rfl | rfl | rfl <;> rfl) (by omega) (by unfold maxLen; omega) (by omega) HS5.out.size (w4.heap.size + 1) hs5 ?_
          intro g cap w6 hown6 hgrow6 hat6 hlt6
          have hgr : w5.grownBy w6 (PV i).ownBlock := by rw [HPV.out]; exact hgrow6
          have hp1 : w6.ownsRow base 39 8 (.slice (some ⟨g, 0, none⟩) 1 cap) 1 (pairCells (fun _ => kv) (fun _ => xv) 1) := by rw [pairCells_succ]; exact hown6
          obtain ⟨⟨c6, f6, h6⟩, h7, h7r, hT7, hB7, hX7⟩ := HS5.out.swap hi hp1 hgr (by rw [HPV.out]; exact hat6.imp id (fun h => by omega))
          rw [HPV.out] at c6
          refine hK'.out _ _ h6 (fun hHeld => ?_)
          clear hK' hrow hown6 hgrow6 hat6 hlt6 hgr hp1
          try simp only [Act.put, pz]
          refine wpT (i := 16) (v := .pointer (some ⟨tg, i, none⟩)) rfl (fun w hSw => ?_) hHeld ?_
          · go_simp
          simp only [Act.put, pz]
          refine wpT (i := 17) (v := .pointer (some ⟨tg, i, none⟩)) rfl (fun w hSw => ?_) hHeld ?_
          · first | rfl | go_simp
          simp only [Act.put, pz]
          refine wpAnyH_ready (rs := [18]) (by kernel_rfl) (by simp) ?_
          refine AllReadyH.cons rfl (fun K' hK' => ?_) AllReadyH.nil
          go_simp
          refine hK'.out _ _ h7 (fun hHeld => ?_)
          clear hK' hHeld c6 f6 h6
          obtain ⟨w7, hw7⟩ : ∃ w7, w7 = w6.setCell ⟨tg, i, none⟩ (.slice (some ⟨g, 0, none⟩) 1 cap) := ⟨_, rfl⟩
          rw [← hw7] at h7 h7r hT7 hB7 hX7 ⊢
          clear hw7
          have HX7 : Hid (∀ b x v, OutB w b x v → OutB w7 b x v) := hX7
          have hnw := HS5.out.new
          have H7 : Hid (OutB w7 pb u (.slice (some ⟨tg, 0, none⟩) n tc)) := h7
          have H7r : Hid (OutB w7 rb zeroV (.slice none 0 0)) := h7r
          have HT7 : Hid (OTab w7 base (.slice (some ⟨tg, 0, none⟩) n tc) n (fun j => if j = i then .slice (some ⟨g, 0, none⟩) 1 cap else PV j) (fun j => if j = i then 1 else L j) (fun j => if j = i then (fun _ => kv) else K j) (fun j => if j = i then (fun _ => xv) else X j)) := hT7
          have HB7 : Hid (Below base w w7) := hB7
          have hon := HS5.out.one
          have HF7 : Hid (FineG n u (fun j => if j = i then 1 else L j) (fun j => if j = i then (fun _ => kv) else K j) (fun j => if j = i then (fun _ => xv) else X j)) := ⟨HF.out.root, fun r hr => by
            by_cases e : r = i
            · simp only [e, if_true]; exact ⟨by omega, fun c hc => ⟨Hkv.out, Hxv.out⟩⟩
            · simp only [e, if_false]; exact HF.out.all r hr⟩
          clear h7 h7r hT7 hB7 hX7 HN5
          refine wpAnyH_done (by kernel_rfl) ?_ _
          obtain ⟨p0, p1, p2, p3, p4, pz⟩ := cells5 H7.out
          obtain ⟨r0, r1, r2, r3, r4, r5⟩ := cells5 H7r.out
          simp only [zeroV] at r0 r1 r2 r3
          go_wp2
          have F := put5hi (put5lo H7r.out (.int .i64 u.k) (.int .i64 u.n) (.string u.s) (.int .i64 u.a)) (.slice (some ⟨tg, 0, none⟩) n tc)
          obtain ⟨wf, hwf⟩ : ∃ wf, wf = ((((w7.setCell ⟨rb, 0, none⟩ (.int .i64 u.k)).setCell ⟨rb, 1, none⟩ (.int .i64 u.n)).setCell ⟨rb, 2, none⟩ (.string u.s)).setCell ⟨rb, 3, none⟩ (.int .i64 u.a)).setCell ⟨rb, 4, none⟩ (.slice (some ⟨tg, 0, none⟩) n tc) := ⟨_, rfl⟩
          have ho : Only (fun k => k = rb) w7 wf := by rw [hwf]; exact set4_only.set (p := ⟨rb, 4, none⟩) rfl _
          rw [← hwf] at F ⊢
          clear hwf
          obtain ⟨q0, q1, q2, q3, q4, _⟩ := cells5 F
          refine bodyPost_ret (v := .agg #[.int .i64 u.k, .int .i64 u.n, .string u.s, .int .i64 u.a, .slice (some ⟨tg, 0, none⟩) n tc]) (by simp [results, Tryz.results41, go_sem, q0, q1, q2, q3, q4]) rfl ⟨⟨u, _, _, _, _, rfl, HT7.out.apart H7r.out (by decide) (by decide) ho, HF7.out⟩, ?_⟩
          exact ⟨HB7.out.trans (ho.toBelow (fun k e => by omega) (by have := blk_lt H7r.out; omega)), fun b x v hb => (ho.block _ (blk_lt (HX7.out b x v hb)) (by have := blk_lt hb; omega)).trans (HX7.out b x v hb)⟩
        · have hp := key_p HSd.out.rd (by omega)
          go_simp
          refine hp.mono ?_
          clear hp
          rintro e w3 ⟨kv, hkv, rfl, hR3, hO3⟩
          have HS3 : Hid (SpS w w3 CB pb rb base ca cl cc cb co (t + 4 + 30) u (.slice (some ⟨tg, 0, none⟩) n tc) n PV L K X) := HSd.out.next hO3 hR3
          have Hkv : Hid (fineV kv) := ⟨hkv.1, hkv.2.2⟩
          clear hR3 hO3 hkv
          refine hK'.out _ _ HS3.out.par (fun hHeld => ?_)
          clear hK'
          try simp only [Act.put, pz]
          refine wpAnyH_ready (rs := [8, 12]) (by kernel_rfl) (by simp) ?_
          refine AllReadyH.cons rfl (fun K' hK' => ?_) (AllReadyH.cons rfl (fun K' hK' => ?_) AllReadyH.nil)
          · have ct := hcell.out HS3.out
            go_simp
            refine hK'.out _ _ HS3.out.par (fun hHeld => ?_)
            clear hK' ct
            try simp only [Act.put, pz]
            refine wpAnyH_ready (rs := [12]) (by kernel_rfl) (by simp) ?_
            refine AllReadyH.cons rfl (fun K' hK' => ?_) AllReadyH.nil
            have hp := key_p HS3.out.rd (by omega)
            go_simp
            refine hp.mono ?_
            clear hp
            rintro e w4 ⟨xv, hxv, rfl, hR4, hO4⟩
            have HS4 : Hid (SpS w w4 CB pb rb base ca cl cc cb co (t + 4 + 30 + 30) u (.slice (some ⟨tg, 0, none⟩) n tc) n PV L K X) := HS3.out.next hO4 hR4
            have Hxv : Hid (fineV xv) := ⟨hxv.1, hxv.2.2⟩
            clear hR4 hO4 hxv
            refine hK'.out _ _ HS4.out.par (fun hHeld => ?_)
            clear hK'
            try simp only [Act.put, pz]
            refine wpT (i := 13) (v := .agg #[.int .i64 kv.k, .int .i64 kv.n, .string kv.s, .int .i64 kv.a, .int .i64 xv.k, .int .i64 xv.n, .string xv.s, .int .i64 xv.a]) rfl (fun w hSw => ?_) hHeld ?_
            · go_simp
            simp only [Act.put, pz]
            refine wpAnyH_ready (rs := [14]) (by kernel_rfl) (by simp) ?_
            refine AllReadyH.cons rfl (fun K' hK' => ?_) AllReadyH.nil
            have HS5 : Hid (SpS w (w4.alloc (.cells #[.int .i64 kv.k, .int .i64 kv.n, .string kv.s, .int .i64 kv.a, .int .i64 xv.k, .int .i64 xv.n, .string xv.s, .int .i64 xv.a] 39)) CB pb rb base ca cl cc cb co (t + 4 + 30 + 30) u (.slice (some ⟨tg, 0, none⟩) n tc) n PV L K X) := HS4.out.below ((Below.refl _ _).alloc (Nat.le_refl _) _)
            go_simp
            refine hK'.out _ _ HS5.out.par (fun hHeld => ?_)
            clear hK'
            try simp only [Act.put, pz]
            obtain ⟨w5, hw5⟩ : ∃ w5, w5 = w4.alloc (.cells #[.int .i64 kv.k, .int .i64 kv.n, .string kv.s, .int .i64 kv.a, .int .i64 xv.k, .int .i64 xv.n, .string xv.s, .int .i64 xv.a] 39) := ⟨_, rfl⟩
            have HN5 : Hid (w5.heap[w4.heap.size]? = some (.cells #[.int .i64 kv.k, .int .i64 kv.n, .string kv.s, .int .i64 kv.a, .int .i64 xv.k, .int .i64 xv.n, .string xv.s, .int .i64 xv.a] 39 (0, 0))) := by rw [hw5]; exact heap_alloc_new w4 _
            have hs5 : w5.heap.size = w4.heap.size + 1 := by rw [hw5]; exact World.size_alloc _ _
            rw [← hw5] at HS5
            rw [← hw5]
            clear hw5
            have hrow := HS5.out.tab.rows i hi
            rw [HPV.out, HL.out] at hrow
            refine wpAnyH_ready (rs := [15]) (by kernel_rfl) (by simp) ?_
            refine AllReadyH.cons rfl (fun K' hK' => ?_) AllReadyH.nil
            refine step_append_lies _ (by rfl) (.tmp 49) (.tmp 55) 35 (by rfl) base 39 ip (.agg #[.int .i64 0, .int .i64 0, .string ⟨#[]⟩, .int .i64 0, .int .i64 0, .int .i64 0, .string ⟨#[]⟩, .int .i64 0]) 8 80 Tryz.underlying35 hpi hp0 hp1 hp2 (by rfl) (by omega) (.slice oa 0 oc) 0 (pairCells (K i) (X i) 0) (by rfl) hrow ⟨w4.heap.size, 0, none⟩ 1 1 [.int .i64 kv.k, .int .i64 kv.n, .string kv.s, .int .i64 kv.a, .int .i64 xv.k, .int .i64 xv.n, .string xv.s, .int .i64 xv.a] (by rfl) (by rfl) (World.news_of_block HN5.out) (by intro u hu; simp at hu; rcases hu with rfl | rfl | rfl | rfl | rfl | rfl | rfl | rfl <;> rfl) (by omega) (by unfold maxLen; omega) (by omega) HS5.out.size (w4.heap.size + 1) hs5 ?_
            intro g cap w6 hown6 hgrow6 hat6 hlt6
            have hgr : w5.grownBy w6 (PV i).ownBlock := by rw [HPV.out]; exact hgrow6
            have hp1 : w6.ownsRow base 39 8 (.slice (some ⟨g, 0, none⟩) 1 cap) 1 (pairCells (fun _ => kv) (fun _ => xv) 1) := by rw [pairCells_succ]; exact hown6
            obtain ⟨⟨c6, f6, h6⟩, h7, h7r, hT7, hB7, hX7⟩ := HS5.out.swap hi hp1 hgr (by rw [HPV.out]; exact hat6.imp id (fun h => by omega))
            rw [HPV.out] at c6
            refine hK'.out _ _ h6 (fun hHeld => ?_)
            clear hK' hrow hown6 hgrow6 hat6 hlt6 hgr hp1
            try simp only [Act.put, pz]
            refine wpT (i := 16) (v := .pointer (some ⟨tg, i, none⟩)) rfl (fun w hSw => ?_) hHeld ?_
            · go_simp
            simp only [Act.put, pz]
            refine wpT (i := 17) (v := .pointer (some ⟨tg, i, none⟩)) rfl (fun w hSw => ?_) hHeld ?_
            · first | rfl | go_simp
            simp only [Act.put, pz]
            refine wpAnyH_ready (rs := [18]) (by kernel_rfl) (by simp) ?_
            refine AllReadyH.cons rfl (fun K' hK' => ?_) AllReadyH.nil
            go_simp
            refine hK'.out _ _ h7 (fun hHeld => ?_)
            clear hK' hHeld c6 f6 h6
            obtain ⟨w7, hw7⟩ : ∃ w7, w7 = w6.setCell ⟨tg, i, none⟩ (.slice (some ⟨g, 0, none⟩) 1 cap) := ⟨_, rfl⟩
            rw [← hw7] at h7 h7r hT7 hB7 hX7 ⊢
            clear hw7
            have HX7 : Hid (∀ b x v, OutB w b x v → OutB w7 b x v) := hX7
            have hnw := HS5.out.new
            have H7 : Hid (OutB w7 pb u (.slice (some ⟨tg, 0, none⟩) n tc)) := h7
            have H7r : Hid (OutB w7 rb zeroV (.slice none 0 0)) := h7r
            have HT7 : Hid (OTab w7 base (.slice (some ⟨tg, 0, none⟩) n tc) n (fun j => if j = i then .slice (some ⟨g, 0, none⟩) 1 cap else PV j) (fun j => if j = i then 1 else L j) (fun j => if j = i then (fun _ => kv) else K j) (fun j => if j = i then (fun _ => xv) else X j)) := hT7
            have HB7 : Hid (Below base w w7) := hB7
            have hon := HS5.out.one
            have HF7 : Hid (FineG n u (fun j => if j = i then 1 else L j) (fun j => if j = i then (fun _ => kv) else K j) (fun j => if j = i then (fun _ => xv) else X j)) := ⟨HF.out.root, fun r hr => by
              by_cases e : r = i
              · simp only [e, if_true]; exact ⟨by omega, fun c hc => ⟨Hkv.out, Hxv.out⟩⟩
              · simp only [e, if_false]; exact HF.out.all r hr⟩
            clear h7 h7r hT7 hB7 hX7 HN5
            refine wpAnyH_done (by kernel_rfl) ?_ _
            obtain ⟨p0, p1, p2, p3, p4, pz⟩ := cells5 H7.out
            obtain ⟨r0, r1, r2, r3, r4, r5⟩ := cells5 H7r.out
            simp only [zeroV] at r0 r1 r2 r3
            go_wp2
            have F := put5hi (put5lo H7r.out (.int .i64 u.k) (.int .i64 u.n) (.string u.s) (.int .i64 u.a)) (.slice (some ⟨tg, 0, none⟩) n tc)
            obtain ⟨wf, hwf⟩ : ∃ wf, wf = ((((w7.setCell ⟨rb, 0, none⟩ (.int .i64 u.k)).setCell ⟨rb, 1, none⟩ (.int .i64 u.n)).setCell ⟨rb, 2, none⟩ (.string u.s)).setCell ⟨rb, 3, none⟩ (.int .i64 u.a)).setCell ⟨rb, 4, none⟩ (.slice (some ⟨tg, 0, none⟩) n tc) := ⟨_, rfl⟩
            have ho : Only (fun k => k = rb) w7 wf := by rw [hwf]; exact set4_only.set (p := ⟨rb, 4, none⟩) rfl _
            rw [← hwf] at F ⊢
            clear hwf
            obtain ⟨q0, q1, q2, q3, q4, _⟩ := cells5 F
            refine bodyPost_ret (v := .agg #[.int .i64 u.k, .int .i64 u.n, .string u.s, .int .i64 u.a, .slice (some ⟨tg, 0, none⟩) n tc]) (by simp [results, Tryz.results41, go_sem, q0, q1, q2, q3, q4]) rfl ⟨⟨u, _, _, _, _, rfl, HT7.out.apart H7r.out (by decide) (by decide) ho, HF7.out⟩, ?_⟩
            exact ⟨HB7.out.trans (ho.toBelow (fun k e => by omega) (by have := blk_lt H7r.out; omega)), fun b x v hb => (ho.block _ (blk_lt (HX7.out b x v hb)) (by have := blk_lt hb; omega)).trans (HX7.out b x v hb)⟩
          · have hp := key_p HS3.out.rd (by omega)
            go_simp
            refine hp.mono ?_
            clear hp
            rintro e w4 ⟨xv, hxv, rfl, hR4, hO4⟩
            have HS4 : Hid (SpS w w4 CB pb rb base ca cl cc cb co (t + 4 + 30 + 30) u (.slice (some ⟨tg, 0, none⟩) n tc) n PV L K X) := HS3.out.next hO4 hR4
            have Hxv : Hid (fineV xv) := ⟨hxv.1, hxv.2.2⟩
            clear hR4 hO4 hxv
            refine hK'.out _ _ HS4.out.par (fun hHeld => ?_)
            clear hK'
            try simp only [Act.put, pz]
            refine wpT (i := 13) (v := .agg #[.int .i64 kv.k, .int .i64 kv.n, .string kv.s, .int .i64 kv.a, .int .i64 xv.k, .int .i64 xv.n, .string xv.s, .int .i64 xv.a]) rfl (fun w hSw => ?_) hHeld ?_
            · go_simp
            simp only [Act.put, pz]
            refine wpAnyH_ready (rs := [8, 14]) (by kernel_rfl) (by simp) ?_
            refine AllReadyH.cons rfl (fun K' hK' => ?_) (AllReadyH.cons rfl (fun K' hK' => ?_) AllReadyH.nil)
            · have ct := hcell.out HS4.out
              go_simp
              refine hK'.out _ _ HS4.out.par (fun hHeld => ?_)
              clear hK' ct
              try simp only [Act.put, pz]
              refine wpAnyH_ready (rs := [14]) (by kernel_rfl) (by simp) ?_
              refine AllReadyH.cons rfl (fun K' hK' => ?_) AllReadyH.nil
              have HS5 : Hid (SpS w (w4.alloc (.cells #[.int .i64 kv.k, .int .i64 kv.n, .string kv.s, .int .i64 kv.a, .int .i64 xv.k, .int .i64 xv.n, .string xv.s, .int .i64 xv.a] 39)) CB pb rb base ca cl cc cb co (t + 4 + 30 + 30) u (.slice (some ⟨tg, 0, none⟩) n tc) n PV L K X) := HS4.out.below ((Below.refl _ _).alloc (Nat.le_refl _) _)
              go_simp
              refine hK'.out _ _ HS5.out.par (fun hHeld => ?_)
              clear hK'
              try simp only [Act.put, pz]
              obtain ⟨w5, hw5⟩ : ∃ w5, w5 = w4.alloc (.cells #[.int .i64 kv.k, .int .i64 kv.n, .string kv.s, .int .i64 kv.a, .int .i64 xv.k, .int .i64 xv.n, .string xv.s, .int .i64 xv.a] 39) := ⟨_, rfl⟩
              have HN5 : Hid (w5.heap[w4.heap.size]? = some (.cells #[.int .i64 kv.k, .int .i64 kv.n, .string kv.s, .int .i64 kv.a, .int .i64 xv.k, .int .i64 xv.n, .string xv.s, .int .i64 xv.a] 39 (0, 0))) := by rw [hw5]; exact heap_alloc_new w4 _
              have hs5 : w5.heap.size = w4.heap.size + 1 := by rw [hw5]; exact World.size_alloc _ _
              rw [← hw5] at HS5
              rw [← hw5]
              clear hw5
              have hrow := HS5.out.tab.rows i hi
              rw [HPV.out, HL.out] at hrow
              refine wpAnyH_ready (rs := [15]) (by kernel_rfl) (by simp) ?_
              refine AllReadyH.cons rfl (fun K' hK' => ?_) AllReadyH.nil
              refine step_append_lies _ (by rfl) (.tmp 49) (.tmp 55) 35 (by rfl) base 39 ip (.agg #[.int .i64 0, .int .i64 0, .string ⟨#[]⟩, .int .i64 0, .int .i64 0, .int .i64 0, .string ⟨#[]⟩, .int .i64 0]) 8 80 Tryz.underlying35 hpi hp0 hp1 hp2 (by rfl) (by omega) (.slice oa 0 oc) 0 (pairCells (K i) (X i) 0) (by rfl) hrow ⟨w4.heap.size, 0, none⟩ 1 1 [.int .i64 kv.k, .int .i64 kv.n, .string kv.s, .int .i64 kv.a, .int .i64 xv.k, .int .i64 xv.n, .string xv.s, .int .i64 xv.a] (by rfl) (by rfl) (World.news_of_block HN5.out) (by intro u hu; simp at hu; rcases hu with rfl | rfl | rfl | rfl | rfl | rfl | rfl | rfl <;> rfl) (by omega) (by unfold maxLen; omega) (by omega) HS5.out.size (w4.heap.size + 1) hs5 ?_
              intro g cap w6 hown6 hgrow6 hat6 hlt6
              have hgr : w5.grownBy w6 (PV i).ownBlock := by rw [HPV.out]; exact hgrow6
              have hp1 : w6.ownsRow base 39 8 (.slice (some ⟨g, 0, none⟩) 1 cap) 1 (pairCells (fun _ => kv) (fun _ => xv) 1) := by rw [pairCells_succ]; exact hown6
              obtain ⟨⟨c6, f6, h6⟩, h7, h7r, hT7, hB7, hX7⟩ := HS5.out.swap hi hp1 hgr (by rw [HPV.out]; exact hat6.imp id (fun h => by omega))
              rw [HPV.out] at c6
              refine hK'.out _ _ h6 (fun hHeld => ?_)
              clear hK' hrow hown6 hgrow6 hat6 hlt6 hgr hp1
              try simp only [Act.put, pz]
              refine wpT (i := 16) (v := .pointer (some ⟨tg, i, none⟩)) rfl (fun w hSw => ?_) hHeld ?_
              · go_simp
              simp only [Act.put, pz]
              refine wpT (i := 17) (v := .pointer (some ⟨tg, i, none⟩)) rfl (fun w hSw => ?_) hHeld ?_
              · first | rfl | go_simp
              simp only [Act.put, pz]
              refine wpAnyH_ready (rs := [18]) (by kernel_rfl) (by simp) ?_
              refine AllReadyH.cons rfl (fun K' hK' => ?_) AllReadyH.nil
              go_simp
              refine hK'.out _ _ h7 (fun hHeld => ?_)
              clear hK' hHeld c6 f6 h6
              obtain ⟨w7, hw7⟩ : ∃ w7, w7 = w6.setCell ⟨tg, i, none⟩ (.slice (some ⟨g, 0, none⟩) 1 cap) := ⟨_, rfl⟩
              rw [← hw7] at h7 h7r hT7 hB7 hX7 ⊢
              clear hw7
              have HX7 : Hid (∀ b x v, OutB w b x v → OutB w7 b x v) := hX7
              have hnw := HS5.out.new
              have H7 : Hid (OutB w7 pb u (.slice (some ⟨tg, 0, none⟩) n tc)) := h7
              have H7r : Hid (OutB w7 rb zeroV (.slice none 0 0)) := h7r
              have HT7 : Hid (OTab w7 base (.slice (some ⟨tg, 0, none⟩) n tc) n (fun j => if j = i then .slice (some ⟨g, 0, none⟩) 1 cap else PV j) (fun j => if j = i then 1 else L j) (fun j => if j = i then (fun _ => kv) else K j) (fun j => if j = i then (fun _ => xv) else X j)) := hT7
              have HB7 : Hid (Below base w w7) := hB7
              have hon := HS5.out.one
              have HF7 : Hid (FineG n u (fun j => if j = i then 1 else L j) (fun j => if j = i then (fun _ => kv) else K j) (fun j => if j = i then (fun _ => xv) else X j)) := ⟨HF.out.root, fun r hr => by
                by_cases e : r = i
                · simp only [e, if_true]; exact ⟨by omega, fun c hc => ⟨Hkv.out, Hxv.out⟩⟩
                · simp only [e, if_false]; exact HF.out.all r hr⟩
              clear h7 h7r hT7 hB7 hX7 HN5
              refine wpAnyH_done (by kernel_rfl) ?_ _
              obtain ⟨p0, p1, p2, p3, p4, pz⟩ := cells5 H7.out
              obtain ⟨r0, r1, r2, r3, r4, r5⟩ := cells5 H7r.out
              simp only [zeroV] at r0 r1 r2 r3
              go_wp2
              have F := put5hi (put5lo H7r.out (.int .i64 u.k) (.int .i64 u.n) (.string u.s) (.int .i64 u.a)) (.slice (some ⟨tg, 0, none⟩) n tc)
              obtain ⟨wf, hwf⟩ : ∃ wf, wf = ((((w7.setCell ⟨rb, 0, none⟩ (.int .i64 u.k)).setCell ⟨rb, 1, none⟩ (.int .i64 u.n)).setCell ⟨rb, 2, none⟩ (.string u.s)).setCell ⟨rb, 3, none⟩ (.int .i64 u.a)).setCell ⟨rb, 4, none⟩ (.slice (some ⟨tg, 0, none⟩) n tc) := ⟨_, rfl⟩
              have ho : Only (fun k => k = rb) w7 wf := by rw [hwf]; exact set4_only.set (p := ⟨rb, 4, none⟩) rfl _
              rw [← hwf] at F ⊢
              clear hwf
              obtain ⟨q0, q1, q2, q3, q4, _⟩ := cells5 F
              refine bodyPost_ret (v := .agg #[.int .i64 u.k, .int .i64 u.n, .string u.s, .int .i64 u.a, .slice (some ⟨tg, 0, none⟩) n tc]) (by simp [results, Tryz.results41, go_sem, q0, q1, q2, q3, q4]) rfl ⟨⟨u, _, _, _, _, rfl, HT7.out.apart H7r.out (by decide) (by decide) ho, HF7.out⟩, ?_⟩
              exact ⟨HB7.out.trans (ho.toBelow (fun k e => by omega) (by have := blk_lt H7r.out; omega)), fun b x v hb => (ho.block _ (blk_lt (HX7.out b x v hb)) (by have := blk_lt hb; omega)).trans (HX7.out b x v hb)⟩
            · have HS5 : Hid (SpS w (w4.alloc (.cells #[.int .i64 kv.k, .int .i64 kv.n, .string kv.s, .int .i64 kv.a, .int .i64 xv.k, .int .i64 xv.n, .string xv.s, .int .i64 xv.a] 39)) CB pb rb base ca cl cc cb co (t + 4 + 30 + 30) u (.slice (some ⟨tg, 0, none⟩) n tc) n PV L K X) := HS4.out.below ((Below.refl _ _).alloc (Nat.le_refl _) _)
              go_simp
              refine hK'.out _ _ HS5.out.par (fun hHeld => ?_)
              clear hK'
              try simp only [Act.put, pz]
              refine wpAnyH_ready (rs := [8]) (by kernel_rfl) (by simp) ?_
              refine AllReadyH.cons rfl (fun K' hK' => ?_) AllReadyH.nil
              have ltg4 : tg < w4.heap.size := by obtain ⟨_, _, _, h2⟩ := owns_form HS4.out.tab.own; exact (h2 tg rfl).2
              have ct := hcell.out HS4.out
              go_simp
              refine hK'.out _ _ HS5.out.par (fun hHeld => ?_)
              clear hK' ct
              try simp only [Act.put, pz]
              obtain ⟨w5, hw5⟩ : ∃ w5, w5 = w4.alloc (.cells #[.int .i64 kv.k, .int .i64 kv.n, .string kv.s, .int .i64 kv.a, .int .i64 xv.k, .int .i64 xv.n, .string xv.s, .int .i64 xv.a] 39) := ⟨_, rfl⟩
              have HN5 : Hid (w5.heap[w4.heap.size]? = some (.cells #[.int .i64 kv.k, .int .i64 kv.n, .string kv.s, .int .i64 kv.a, .int .i64 xv.k, .int .i64 xv.n, .string xv.s, .int .i64 xv.a] 39 (0, 0))) := by rw [hw5]; exact heap_alloc_new w4 _
              have hs5 : w5.heap.size = w4.heap.size + 1 := by rw [hw5]; exact World.size_alloc _ _
              rw [← hw5] at HS5
              rw [← hw5]
              clear hw5
              have hrow := HS5.out.tab.rows i hi
              rw [HPV.out, HL.out] at hrow
              refine wpAnyH_ready (rs := [15]) (by kernel_rfl) (by simp) ?_
              refine AllReadyH.cons rfl (fun K' hK' => ?_) AllReadyH.nil
              refine step_append_lies _ (by rfl) (.tmp 49) (.tmp 55) 35 (by rfl) base 39 ip (.agg #[.int .i64 0, .int .i64 0, .string ⟨#[]⟩, .int .i64 0, .int .i64 0, .int .i64 0, .string ⟨#[]⟩, .int .i64 0]) 8 80 Tryz.underlying35 hpi hp0 hp1 hp2 (by rfl) (by omega) (.slice oa 0 oc) 0 (pairCells (K i) (X i) 0) (by rfl) hrow ⟨w4.heap.size, 0, none⟩ 1 1 [.int .i64 kv.k, .int .i64 kv.n, .string kv.s, .int .i64 kv.a, .int .i64 xv.k, .int .i64 xv.n, .string xv.s, .int .i64 xv.a] (by rfl) (by rfl) (World.news_of_block HN5.out) (by intro u hu; simp at hu; rcases hu with rfl | rfl | rfl | rfl | rfl | rfl | rfl | rfl <;> rfl) (by omega) (by unfold maxLen; omega) (by omega) HS5.out.size (w4.heap.size + 1) hs5 ?_
              intro g cap w6 hown6 hgrow6 hat6 hlt6
              have hgr : w5.grownBy w6 (PV i).ownBlock := by rw [HPV.out]; exact hgrow6
              have hp1 : w6.ownsRow base 39 8 (.slice (some ⟨g, 0, none⟩) 1 cap) 1 (pairCells (fun _ => kv) (fun _ => xv) 1) := by rw [pairCells_succ]; exact hown6
              obtain ⟨⟨c6, f6, h6⟩, h7, h7r, hT7, hB7, hX7⟩ := HS5.out.swap hi hp1 hgr (by rw [HPV.out]; exact hat6.imp id (fun h => by omega))
              rw [HPV.out] at c6
              refine hK'.out _ _ h6 (fun hHeld => ?_)
              clear hK' hrow hown6 hgrow6 hat6 hlt6 hgr hp1
              try simp only [Act.put, pz]
              refine wpT (i := 16) (v := .pointer (some ⟨tg, i, none⟩)) rfl (fun w hSw => ?_) hHeld ?_
              · go_simp
              simp only [Act.put, pz]
              refine wpT (i := 17) (v := .pointer (some ⟨tg, i, none⟩)) rfl (fun w hSw => ?_) hHeld ?_
              · first | rfl | go_simp
              simp only [Act.put, pz]
              refine wpAnyH_ready (rs := [18]) (by kernel_rfl) (by simp) ?_
              refine AllReadyH.cons rfl (fun K' hK' => ?_) AllReadyH.nil
              go_simp
              refine hK'.out _ _ h7 (fun hHeld => ?_)
              clear hK' hHeld c6 f6 h6
              obtain ⟨w7, hw7⟩ : ∃ w7, w7 = w6.setCell ⟨tg, i, none⟩ (.slice (some ⟨g, 0, none⟩) 1 cap) := ⟨_, rfl⟩
              rw [← hw7] at h7 h7r hT7 hB7 hX7 ⊢
              clear hw7
              have HX7 : Hid (∀ b x v, OutB w b x v → OutB w7 b x v) := hX7
              have hnw := HS5.out.new
              have H7 : Hid (OutB w7 pb u (.slice (some ⟨tg, 0, none⟩) n tc)) := h7
              have H7r : Hid (OutB w7 rb zeroV (.slice none 0 0)) := h7r
              have HT7 : Hid (OTab w7 base (.slice (some ⟨tg, 0, none⟩) n tc) n (fun j => if j = i then .slice (some ⟨g, 0, none⟩) 1 cap else PV j) (fun j => if j = i then 1 else L j) (fun j => if j = i then (fun _ => kv) else K j) (fun j => if j = i then (fun _ => xv) else X j)) := hT7
              have HB7 : Hid (Below base w w7) := hB7
              have hon := HS5.out.one
              have HF7 : Hid (FineG n u (fun j => if j = i then 1 else L j) (fun j => if j = i then (fun _ => kv) else K j) (fun j => if j = i then (fun _ => xv) else X j)) := ⟨HF.out.root, fun r hr => by
                by_cases e : r = i
                · simp only [e, if_true]; exact ⟨by omega, fun c hc => ⟨Hkv.out, Hxv.out⟩⟩
                · simp only [e, if_false]; exact HF.out.all r hr⟩
              clear h7 h7r hT7 hB7 hX7 HN5
              refine wpAnyH_done (by kernel_rfl) ?_ _
              obtain ⟨p0, p1, p2, p3, p4, pz⟩ := cells5 H7.out
              obtain ⟨r0, r1, r2, r3, r4, r5⟩ := cells5 H7r.out
              simp only [zeroV] at r0 r1 r2 r3
              go_wp2
              have F := put5hi (put5lo H7r.out (.int .i64 u.k) (.int .i64 u.n) (.string u.s) (.int .i64 u.a)) (.slice (some ⟨tg, 0, none⟩) n tc)
              obtain ⟨wf, hwf⟩ : ∃ wf, wf = ((((w7.setCell ⟨rb, 0, none⟩ (.int .i64 u.k)).setCell ⟨rb, 1, none⟩ (.int .i64 u.n)).setCell ⟨rb, 2, none⟩ (.string u.s)).setCell ⟨rb, 3, none⟩ (.int .i64 u.a)).setCell ⟨rb, 4, none⟩ (.slice (some ⟨tg, 0, none⟩) n tc) := ⟨_, rfl⟩
              have ho : Only (fun k => k = rb) w7 wf := by rw [hwf]; exact set4_only.set (p := ⟨rb, 4, none⟩) rfl _
              rw [← hwf] at F ⊢
              clear hwf
              obtain ⟨q0, q1, q2, q3, q4, _⟩ := cells5 F
              refine bodyPost_ret (v := .agg #[.int .i64 u.k, .int .i64 u.n, .string u.s, .int .i64 u.a, .slice (some ⟨tg, 0, none⟩) n tc]) (by simp [results, Tryz.results41, go_sem, q0, q1, q2, q3, q4]) rfl ⟨⟨u, _, _, _, _, rfl, HT7.out.apart H7r.out (by decide) (by decide) ho, HF7.out⟩, ?_⟩
              exact ⟨HB7.out.trans (ho.toBelow (fun k e => by omega) (by have := blk_lt H7r.out; omega)), fun b x v hb => (ho.block _ (blk_lt (HX7.out b x v hb)) (by have := blk_lt hb; omega)).trans (HX7.out b x v hb)⟩
      · have lb : ((l : Int) == 0) = false := by simp; omega
        have hp := pick_r l HS2.out.rd (by omega) (by omega) (by omega)
        go_wp2_with fail
        refine hp.mono ?_
        clear hp
        rintro e w3 ⟨⟨k, hk, rfl⟩, HR3, HO3⟩
        have HS3 : Hid (SpS w w3 CB pb rb base ca cl cc cb co (t + 6) u (.slice (some ⟨tg, 0, none⟩) n tc) n PV L K X) := (HS2.out.next HO3.out HR3.out).mono (by omega)
        have HOB3 : Hid (∀ j, j < n → ∀ g, (PV j).ownBlock = some g → g < w3.heap.size) := show ∀ j, _ from fun j hj g hg => by obtain ⟨_, _, _, h2⟩ := owns_form (HS3.out.tab.rows j hj); exact (h2 g hg).2
        have ltg : tg < w3.heap.size := by obtain ⟨_, _, _, h2⟩ := owns_form HS3.out.tab.own; exact (h2 tg rfl).2
        clear HS2 HR3 HO3 HOB ht2 g0 g1 g2 g3 g4
        obtain ⟨ob, oc', eob, _⟩ := owns_cell (HS3.out.tab.rows i hi) (k := 0) (y := .int .i64 (K i 0).k) (by
          have h := pairCells_at (K i) (X i) (L i) 0 0 (by rw [HL.out]; omega) (by omega)
          simpa using h)
        rw [HPV.out] at eob
        injection eob with e4 e5 e6
        subst e4
        subst e6
        have hrow := HS3.out.tab.rows i hi
        rw [HPV.out, HL.out] at hrow
        have HPP : Hid (PairsAt w3 (some ⟨ob, 0, none⟩) l ob 0 (K i) (X i)) := (owns_pairs hrow).2
        have ht3 : w3.cell? ⟨tg, i, none⟩ = some (.slice (some ⟨ob, 0, none⟩) l oc) := by
          obtain ⟨g2, c2, ee, h2⟩ := owns_cell HS3.out.tab.own (k := i) (y := PV i) (by simp [hi])
          cases ee
          rw [h2, HPV.out, HL.out]
        rw [HL.out] at HPV
        clear hrow e2 e5
        obtain ⟨kk, HKK⟩ : ∃ kk, Hid (K i k = kk) := ⟨_, rfl⟩
        obtain ⟨xx, HXX⟩ : ∃ xx, Hid (X i k = xx) := ⟨_, rfl⟩
        have hff := (HF.out.all i hi).2 k (by rw [HL.out]; exact hk)
        have HFk : Hid (fineV kk) := by show fineV kk; rw [← HKK.out]; exact hff.1
        have HFx : Hid (fineV xx) := by show fineV xx; rw [← HXX.out]; exact hff.2
        clear hff
        obtain ⟨⟨k0, k1, k2, k3⟩, ⟨x0, x1, x2, x3⟩⟩ := HPP.out.cells hk
        simp only [Nat.zero_add] at k0 k1 k2 k3 x0 x1 x2 x3
        rw [HKK.out] at k0 k1 k2 k3
        rw [HXX.out] at x0 x1 x2 x3
        have ik : (0 : Int) ≤ (k : Int) ∧ (k : Int) < (l : Int) := by omega
        obtain ⟨g0, g1, g2, g3, g4, _⟩ := cells5 HS3.out.par
        obtain ⟨w4, hw4⟩ : ∃ w4, w4 = w3.alloc (.cells #[.int .i64 kk.k, .int .i64 kk.n, .string kk.s, .int .i64 kk.a, .int .i64 xx.k, .int .i64 xx.n, .string xx.s, .int .i64 xx.a] 39) := ⟨_, rfl⟩
        have hb4 : Below w3.heap.size w3 w4 := by rw [hw4]; exact (Below.refl _ _).alloc (Nat.le_refl _) _
        obtain ⟨qb, hqb⟩ : ∃ qb, w3.heap.size = qb := ⟨_, rfl⟩
        have HQ4 : Hid (w4.heap[qb]? = some (.cells #[.int .i64 kk.k, .int .i64 kk.n, .string kk.s, .int .i64 kk.a, .int .i64 xx.k, .int .i64 xx.n, .string xx.s, .int .i64 xx.a] 39 (0, 0))) := by rw [hw4, ← hqb]; exact heap_alloc_new _ _
        have HS4 : Hid (SpS w w4 CB pb rb base ca cl cc cb co (t + 6) u (.slice (some ⟨tg, 0, none⟩) n tc) n PV L K X) := HS3.out.below hb4
        have hqq : base ≤ qb ∧ qb ≠ pb ∧ qb ≠ rb ∧ qb ≠ CB ∧ w.heap.size ≤ qb := by
          have h5 := HS3.out.bel.size
          have h1 := blk_lt HS3.out.par
          have h2 := blk_lt HS3.out.res
          have h3 := HS3.out.rd.blocks.1
          have h4 := HS3.out.size
          omega
        have HQ1 : Hid (∀ g, (Value.slice (some ⟨tg, 0, none⟩) n tc).ownBlock = some g → g ≠ qb) := show ∀ g, _ from fun g hg e => by
          have : tg = g := Option.some.inj hg
          omega
        have HQ2 : Hid (∀ j, j < n → ∀ g, (PV j).ownBlock = some g → g ≠ qb) := show ∀ j, _ from fun j hj g hg e => by have := HOB3.out j hj g hg; omega
        have hp := pick_r 6 HS4.out.rd (by omega) (by omega) (by omega)
        go_upto_region 10 with fail
        rw [← hw4]
        try rw [hqb]
        clear hw4 hb4 HS3 HOB3 ht3 k0 k1 k2 k3 x0 x1 x2 x3 g0 g1 g2 g3 g4 HPP
        go_wp2_with fail
        refine hp.mono ?_
        clear hp
        rintro e w5 ⟨⟨z, hz, rfl⟩, HR5, HO5⟩
        have HS5 : Hid (SpS w w5 CB pb rb base ca cl cc cb co (t + 8) u (.slice (some ⟨tg, 0, none⟩) n tc) n PV L K X) := HS4.out.next HO5.out HR5.out
        have HQ5 : Hid (w5.heap[qb]? = some (.cells #[.int .i64 kk.k, .int .i64 kk.n, .string kk.s, .int .i64 kk.a, .int .i64 xx.k, .int .i64 xx.n, .string xx.s, .int .i64 xx.a] 39 (0, 0))) := (HO5.out.block _ (blk_lt HQ4.out) (by omega)).trans HQ4.out
        clear HS4 HQ4 HR5 HO5
        go_upto_block 0 with fail
        go_cut [] from 8 (fun wx => ∃ (pk px : V), fineV pk ∧ fineV px ∧ Hid (wx.heap[qb]? = some (.cells #[.int .i64 pk.k, .int .i64 pk.n, .string pk.s, .int .i64 pk.a, .int .i64 px.k, .int .i64 px.n, .string px.s, .int .i64 px.a] 39 (0, 0))) ∧ Hid (SpS w wx CB pb rb base ca cl cc cb co (t + 100) u (.slice (some ⟨tg, 0, none⟩) n tc) n PV L K X))
        case first =>
          by_cases z0 : z = 0
          · subst z0
            have hp := pick_r 6 HS5.out.rd (by omega) (by omega) (by omega)
            go_wp2_with fail
            refine hp.mono ?_
            clear hp
            rintro e w6 ⟨⟨y1, hy1, rfl⟩, HR6, HO6⟩
            have HS6 : Hid (SpS w w6 CB pb rb base ca cl cc cb co (t + 8 + 2) u (.slice (some ⟨tg, 0, none⟩) n tc) n PV L K X) := HS5.out.next HO6.out HR6.out
            have HQ6 : Hid (w6.heap[qb]? = some (.cells #[.int .i64 kk.k, .int .i64 kk.n, .string kk.s, .int .i64 kk.a, .int .i64 xx.k, .int .i64 xx.n, .string xx.s, .int .i64 xx.a] 39 (0, 0))) := (HO6.out.block _ (blk_lt HQ5.out) (by omega)).trans HQ5.out
            clear HR6 HO6
            have hp := pick_r 3 HS6.out.rd (by omega) (by omega) (by omega)
            go_wp2_with fail
            refine hp.mono ?_
            clear hp
            rintro e w7 ⟨⟨y2, hy2, rfl⟩, HR7, HO7⟩
            have HS7 : Hid (SpS w w7 CB pb rb base ca cl cc cb co (t + 8 + 2 + 2) u (.slice (some ⟨tg, 0, none⟩) n tc) n PV L K X) := HS6.out.next HO7.out HR7.out
            have HQ7 : Hid (w7.heap[qb]? = some (.cells #[.int .i64 kk.k, .int .i64 kk.n, .string kk.s, .int .i64 kk.a, .int .i64 xx.k, .int .i64 xx.n, .string xx.s, .int .i64 xx.a] 39 (0, 0))) := (HO7.out.block _ (blk_lt HQ6.out) (by omega)).trans HQ6.out
            clear HR7 HO7
            obtain ⟨q0, q1, q2, q3, q4, q5, q6, q7, q8⟩ := cells8 HQ7.out
            go_wp2
            go_meet
            exact ⟨⟨y1, y2, ⟨#[]⟩, 0⟩, xx, ⟨Nat.zero_le _, by simp only; omega, by simp only; omega⟩, HFx.out, put4_in8 HQ7.out _ _ _ _, (HS7.out.far hqq HQ1.out HQ2.out set4_only).mono (by omega)⟩
          have zb0 : ((z : Int) == 0) = false := by simpa using z0
          by_cases z1 : z = 1
          · subst z1
            clear z0
            have hn1 : IntKind.i64.wrap ((n : Int) + 1) = (n : Int) + 1 := by rw [IntKind.wrap_i64]; omega
            go_upto_region 15 with fail
            refine wp_region_held_drew (S := fun w' => OutB w' pb u (.slice (some ⟨tg, 0, none⟩) n tc)) (by kernel_rfl) HS5.out.par (fun hHeld => ?_)
            refine wpT (i := 0) (v := .pointer (some ⟨CB, 0, none⟩)) rfl (fun w hSw => ?_) hHeld ?_
            · first | rfl | go_simp
            simp only [Act.put, pz]
            refine wpT (i := 2) (v := .pointer (some ⟨CB, 0, none⟩)) rfl (fun w hSw => ?_) hHeld ?_
            · first | rfl | go_simp
            simp only [Act.put, pz]
            refine wpT (i := 4) (v := .pointer (some ⟨CB, 0, none⟩)) rfl (fun w hSw => ?_) hHeld ?_
            · first | rfl | go_simp
            simp only [Act.put, pz]
            refine wpT (i := 5) (v := .pointer (some ⟨pb, 4, none⟩)) rfl (fun w hSw => ?_) hHeld ?_
            · first | rfl | go_simp
            simp only [Act.put, pz]
            refine wpT (i := 6) (v := .slice (some ⟨tg, 0, none⟩) n tc) rfl (fun w hSw => ?_) hHeld ?_
            · obtain ⟨k0, k1, k2, k3, k4, _⟩ := cells5 hSw
              go_simp
            simp only [Act.put, pz]
            refine wpT (i := 7) (v := .int .i64 (n : Int)) rfl (fun w hSw => ?_) hHeld ?_
            · go_simp
            simp only [Act.put, pz]
            refine wpT (i := 8) (v := .int .i64 ((n + 1 : Nat) : Int)) rfl (fun w hSw => ?_) hHeld ?_
            · go_simp
            simp only [Act.put, pz]
            have HSd : Hid (SpS w w5.drew CB pb rb base ca cl cc cb co (t + 8) u (.slice (some ⟨tg, 0, none⟩) n tc) n PV L K X) := HS5.out.below ((Below.refl _ _).drew)
            have HQd : Hid (w5.drew.heap[qb]? = some (.cells #[.int .i64 kk.k, .int .i64 kk.n, .string kk.s, .int .i64 kk.a, .int .i64 xx.k, .int .i64 xx.n, .string xx.s, .int .i64 xx.a] 39 (0, 0))) := HQ5.out
            refine wpAnyH_ready (rs := [1]) (by kernel_rfl) (by simp) ?_
            refine AllReadyH.cons rfl (fun K' hK' => ?_) AllReadyH.nil
            have hp := pick_r 6 HSd.out.rd (by omega) (by omega) (by omega)
            go_simp
            refine hp.mono ?_
            clear hp
            rintro e w6 ⟨⟨y1, hy1, rfl⟩, HR6, HO6⟩
            have HS6 : Hid (SpS w w6 CB pb rb base ca cl cc cb co (t + 8 + 2) u (.slice (some ⟨tg, 0, none⟩) n tc) n PV L K X) := HSd.out.next HO6.out HR6.out
            have HQ6 : Hid (w6.heap[qb]? = some (.cells #[.int .i64 kk.k, .int .i64 kk.n, .string kk.s, .int .i64 kk.a, .int .i64 xx.k, .int .i64 xx.n, .string xx.s, .int .i64 xx.a] 39 (0, 0))) := (HO6.out.block _ (blk_lt HQd.out) (by omega)).trans HQd.out
            clear HR6 HO6
            refine hK'.out _ _ HS6.out.par (fun hHeld => ?_)
            clear hK'
            try simp only [Act.put, pz]
            refine wpAnyH_ready (rs := [3]) (by kernel_rfl) (by simp) ?_
            refine AllReadyH.cons rfl (fun K' hK' => ?_) AllReadyH.nil
            have hp := pick_r 3 HS6.out.rd (by omega) (by omega) (by omega)
            go_simp
            refine hp.mono ?_
            clear hp
            rintro e w7 ⟨⟨y2, hy2, rfl⟩, HR7, HO7⟩
            have HS7 : Hid (SpS w w7 CB pb rb base ca cl cc cb co (t + 8 + 2 + 2) u (.slice (some ⟨tg, 0, none⟩) n tc) n PV L K X) := HS6.out.next HO7.out HR7.out
            have HQ7 : Hid (w7.heap[qb]? = some (.cells #[.int .i64 kk.k, .int .i64 kk.n, .string kk.s, .int .i64 kk.a, .int .i64 xx.k, .int .i64 xx.n, .string xx.s, .int .i64 xx.a] 39 (0, 0))) := (HO7.out.block _ (blk_lt HQ6.out) (by omega)).trans HQ6.out
            clear HR7 HO7
            refine hK'.out _ _ HS7.out.par (fun hHeld => ?_)
            clear hK'
            try simp only [Act.put, pz]
            refine wpAnyH_ready (rs := [9]) (by kernel_rfl) (by simp) ?_
            refine AllReadyH.cons rfl (fun K' hK' => ?_) AllReadyH.nil
            have hp := pickW_r (n + 1) HS7.out.rd (by omega) (by omega) (by omega)
            go_simp
            refine hp.mono ?_
            clear hp
            rintro e w8 ⟨⟨y3, hy3, rfl⟩, HR8, HO8⟩
            have HS8 : Hid (SpS w w8 CB pb rb base ca cl cc cb co (t + 8 + 2 + 2 + 2) u (.slice (some ⟨tg, 0, none⟩) n tc) n PV L K X) := HS7.out.next HO8.out HR8.out
            have HQ8 : Hid (w8.heap[qb]? = some (.cells #[.int .i64 kk.k, .int .i64 kk.n, .string kk.s, .int .i64 kk.a, .int .i64 xx.k, .int .i64 xx.n, .string xx.s, .int .i64 xx.a] 39 (0, 0))) := (HO8.out.block _ (blk_lt HQ7.out) (by omega)).trans HQ7.out
            clear HR8 HO8
            refine hK'.out _ _ HS8.out.par (fun hHeld => ?_)
            clear hK'
            try simp only [Act.put, pz]
            refine wpT (i := 10) (v := .agg #[.int .i64 (y1 : Nat), .int .i64 (y2 : Nat), .string ⟨#[]⟩, .int .i64 (y3 : Nat)]) rfl (fun w hSw => ?_) hHeld ?_
            · go_simp
            simp only [Act.put, pz]
            refine wpT (i := 11) (v := .pointer (some ⟨qb, 4, none⟩)) rfl (fun w hSw => ?_) hHeld ?_
            · first | rfl | go_simp
            simp only [Act.put, pz]
            obtain ⟨q0, q1, q2, q3, q4, q5, q6, q7, q8⟩ := cells8 HQ8.out
            have HSe : Hid (SpS w ((((w8.setCell ⟨qb, 4, none⟩ (.int .i64 (y1 : Nat))).setCell ⟨qb, 5, none⟩ (.int .i64 (y2 : Nat))).setCell ⟨qb, 6, none⟩ (.string ⟨#[]⟩)).setCell ⟨qb, 7, none⟩ (.int .i64 (y3 : Nat))) CB pb rb base ca cl cc cb co (t + 8 + 2 + 2 + 2) u (.slice (some ⟨tg, 0, none⟩) n tc) n PV L K X) := HS8.out.far hqq HQ1.out HQ2.out set4_only
            refine wpAnyH_ready (rs := [12]) (by kernel_rfl) (by simp) ?_
            refine AllReadyH.cons rfl (fun K' hK' => ?_) AllReadyH.nil
            go_simp
            refine hK'.out _ _ HSe.out.par (fun hHeld => ?_)
            clear hK' hHeld
            refine wpAnyH_done (by kernel_rfl) ?_ _
            go_wp2
            go_meet
            exact ⟨kk, ⟨y1, y2, ⟨#[]⟩, y3⟩, HFk.out, ⟨Nat.zero_le _, by simp only; omega, by simp only; omega⟩, put4_hi8 HQ8.out _ _ _ _, (HS8.out.far hqq HQ1.out HQ2.out set4_only).mono (by omega)⟩
          have zb1 : ((z : Int) == 1) = false := by simp; omega
          by_cases z2 : z = 2
          · subst z2
            clear z0 z1
            have hp := key_p HS5.out.rd (by omega)
            go_wp2_with fail
            refine hp.mono ?_
            clear hp
            rintro e w6 ⟨v, hv, rfl, hR6, hO6⟩
            have HS6 : Hid (SpS w w6 CB pb rb base ca cl cc cb co (t + 8 + 30) u (.slice (some ⟨tg, 0, none⟩) n tc) n PV L K X) := HS5.out.next hO6 hR6
            have HQ6 : Hid (w6.heap[qb]? = some (.cells #[.int .i64 kk.k, .int .i64 kk.n, .string kk.s, .int .i64 kk.a, .int .i64 xx.k, .int .i64 xx.n, .string xx.s, .int .i64 xx.a] 39 (0, 0))) := (hO6.block _ (blk_lt HQ5.out) (by omega)).trans HQ5.out
            have HV : Hid (fineV v) := ⟨hv.1, hv.2.2⟩
            clear hR6 hO6 hv
            obtain ⟨q0, q1, q2, q3, q4, q5, q6, q7, q8⟩ := cells8 HQ6.out
            go_wp2
            go_meet
            exact ⟨kk, v, HFk.out, HV.out, put4_hi8 HQ6.out _ _ _ _, (HS6.out.far hqq HQ1.out HQ2.out set4_only).mono (by omega)⟩
          have zb2 : ((z : Int) == 2) = false := by simp; omega
          by_cases z3 : z = 3
          · subst z3
            clear z0 z1 z2
            have ht5 : w5.cell? ⟨tg, i, none⟩ = some (.slice (some ⟨ob, 0, none⟩) l oc) := by
              obtain ⟨g2, c2, ee, h2⟩ := owns_cell HS5.out.tab.own (k := i) (y := PV i) (by simp [hi])
              cases ee
              rw [h2, HPV.out]
            have hrow := HS5.out.tab.rows i hi
            rw [HPV.out, HL.out] at hrow
            have hcc := (owns_pairs hrow).2.cells (c := 0) (by omega)
            obtain ⟨⟨k0, k1, k2, k3⟩, _⟩ := hcc
            have kb : slB (.slice (some ⟨ob, 0, none⟩) l oc) = ob := rfl
            rw [kb] at k0 k1 k2 k3
            simp only [Nat.zero_add, Nat.zero_mul] at k0 k1 k2 k3
            obtain ⟨k9, HK9⟩ : ∃ k9, Hid (K i 0 = k9) := ⟨_, rfl⟩
            rw [HK9.out] at k0 k1 k2 k3
            have HF9 : Hid (fineV k9) := by show fineV k9; rw [← HK9.out]; exact ((HF.out.all i hi).2 0 (by rw [HL.out]; omega)).1
            have lp0 : (0 : Int) < (l : Int) := by omega
            clear hrow
            obtain ⟨g0, g1, g2, g3, g4, _⟩ := cells5 HS5.out.par
            obtain ⟨q0, q1, q2, q3, q4, q5, q6, q7, q8⟩ := cells8 HQ5.out
            go_wp2
            go_meet
            exact ⟨k9, xx, HF9.out, HFx.out, put4_in8 HQ5.out _ _ _ _, (HS5.out.far hqq HQ1.out HQ2.out set4_only).mono (by omega)⟩
          have zb3 : ((z : Int) == 3) = false := by simp; omega
          by_cases z4 : z = 4
          · subst z4
            clear z0 z1 z2 z3
            obtain ⟨q0, q1, q2, q3, q4, q5, q6, q7, q8⟩ := cells8 HQ5.out
            go_wp2
            go_meet
            exact ⟨⟨kk.k, kk.n, ⟨#[116]⟩, kk.a⟩, xx, ⟨by simp only; decide, HFk.out.2⟩, HFx.out, put1_in8 HQ5.out _, (HS5.out.far hqq HQ1.out HQ2.out ((Only.refl (fun k => k = qb) w5).set (p := ⟨qb, 2, none⟩) rfl _)).mono (by omega)⟩
          have zb4 : ((z : Int) == 4) = false := by simp; omega
          clear z0 z1 z2 z3 z4
          obtain ⟨g0, g1, g2, g3, g4, _⟩ := cells5 HS5.out.par
          have hp := pick_r n HS5.out.rd (by omega) (hn) (by omega)
          go_wp2_with fail
          refine hp.mono ?_
          clear hp
          rintro e w6 ⟨⟨y1, hy1, rfl⟩, HR6, HO6⟩
          have HS6 : Hid (SpS w w6 CB pb rb base ca cl cc cb co (t + 8 + 2) u (.slice (some ⟨tg, 0, none⟩) n tc) n PV L K X) := HS5.out.next HO6.out HR6.out
          have HQ6 : Hid (w6.heap[qb]? = some (.cells #[.int .i64 kk.k, .int .i64 kk.n, .string kk.s, .int .i64 kk.a, .int .i64 xx.k, .int .i64 xx.n, .string xx.s, .int .i64 xx.a] 39 (0, 0))) := (HO6.out.block _ (blk_lt HQ5.out) (by omega)).trans HQ5.out
          clear HR6 HO6
          obtain ⟨q0, q1, q2, q3, q4, q5, q6, q7, q8⟩ := cells8 HQ6.out
          go_wp2
          go_meet
          exact ⟨kk, ⟨4, 0, ⟨#[]⟩, y1⟩, HFk.out, ⟨Nat.zero_le _, by simp, by simp⟩, put4_hi8 HQ6.out _ _ _ _, (HS6.out.far hqq HQ1.out HQ2.out set4_only).mono (by omega)⟩
        case rest =>
          obtain ⟨pk, px, hpk, hpx, HQc, HSc⟩ := hcut
          have HPK : Hid (fineV pk) := hpk
          have HPX : Hid (fineV px) := hpx
          have htc : wc.cell? ⟨tg, i, none⟩ = some (.slice (some ⟨ob, 0, none⟩) l oc) := by
            obtain ⟨g2, c2, ee, h2⟩ := owns_cell HSc.out.tab.own (k := i) (y := PV i) (by simp [hi])
            cases ee
            rw [h2, HPV.out]
          clear hpk hpx HS5 HQ5
          have hob : (PV i).ownBlock = some ob := by rw [HPV.out]; rfl
          obtain ⟨hobb, ocur, hocur⟩ := owns_type (HSc.out.tab.rows i hi) hob
          have hrow := HSc.out.tab.rows i hi
          rw [HPV.out, HL.out] at hrow
          obtain ⟨⟨k0, k1, k2, k3⟩, ⟨x0, x1, x2, x3⟩⟩ := (owns_pairs hrow).2.cells hk
          have kb : slB (.slice (some ⟨ob, 0, none⟩) l oc) = ob := rfl
          rw [kb] at k0 k1 k2 k3 x0 x1 x2 x3
          simp only [Nat.zero_add] at k0 k1 k2 k3 x0 x1 x2 x3
          have ocell : ∀ d, wc.frozen? ⟨ob, d, none⟩ = false := fun d => by simp [World.frozen?, hocur]
          clear hrow kb
          have hne1 : pb ≠ ob := HSc.out.par.notPair hocur
          have hne3 : tg ≠ ob := fun e => types_apart HSc.out.tab.own (HSc.out.tab.rows i hi) (tg := tg) rfl (by rw [hob, e])
          have hne4 : qb ≠ ob := fun e => HQ2.out i hi ob hob e.symm
          go_upto_region 22 with fail
          refine wp_region_held_drew (S := fun w' => OutB w' pb u (.slice (some ⟨tg, 0, none⟩) n tc) ∧ w'.cell? ⟨tg, i, none⟩ = some (.slice (some ⟨ob, 0, none⟩) l oc) ∧ w'.heap[qb]? = some (.cells #[.int .i64 pk.k, .int .i64 pk.n, .string pk.s, .int .i64 pk.a, .int .i64 px.k, .int .i64 px.n, .string px.s, .int .i64 px.a] 39 (0, 0))) (by kernel_rfl) ⟨HSc.out.par, htc, HQc.out⟩ (fun hHeld => ?_)
          refine wpT (i := 0) (v := .pointer (some ⟨pb, 4, none⟩)) rfl (fun w hSw => ?_) hHeld ?_
          · first | rfl | go_simp
          simp only [Act.put, pz]
          refine wpT (i := 1) (v := .slice (some ⟨tg, 0, none⟩) n tc) rfl (fun w hSw => ?_) hHeld ?_
          · obtain ⟨k0, k1, k2, k3, k4, _⟩ := cells5 hSw.1
            go_simp
          simp only [Act.put, pz]
          refine wpT (i := 2) (v := .int .i64 (i : Int)) rfl (fun w hSw => ?_) hHeld ?_
          · first | rfl | go_simp
          simp only [Act.put, pz]
          refine wpT (i := 3) (v := .pointer (some ⟨tg, i, none⟩)) rfl (fun w hSw => ?_) hHeld ?_
          · go_simp
          simp only [Act.put, pz]
          refine wpT (i := 4) (v := .pointer (some ⟨tg, i, none⟩)) rfl (fun w hSw => ?_) hHeld ?_
          · first | rfl | go_simp
          simp only [Act.put, pz]
          refine wpT (i := 5) (v := .slice (some ⟨ob, 0, none⟩) l oc) rfl (fun w hSw => ?_) hHeld ?_
          · have k0 := hSw.2.1
            go_simp
          simp only [Act.put, pz]
          refine wpT (i := 6) (v := .int .i64 (k : Int)) rfl (fun w hSw => ?_) hHeld ?_
          · first | rfl | go_simp
          simp only [Act.put, pz]
          refine wpT (i := 7) (v := .agg #[.int .i64 pk.k, .int .i64 pk.n, .string pk.s, .int .i64 pk.a, .int .i64 px.k, .int .i64 px.n, .string px.s, .int .i64 px.a]) rfl (fun w hSw => ?_) hHeld ?_
          · obtain ⟨q0, q1, q2, q3, q4, q5, q6, q7, q8⟩ := cells8 hSw.2.2
            go_simp
          simp only [Act.put, pz]
          refine wpT (i := 8) (v := .pointer (some ⟨ob, k * 8, none⟩)) rfl (fun w hSw => ?_) hHeld ?_
          · go_simp
          simp only [Act.put, pz]
          obtain ⟨wp, hwp⟩ : ∃ wp, wp = (((((((wc.setCell ⟨ob, k * 8, none⟩ (.int .i64 pk.k)).setCell ⟨ob, k * 8 + 1, none⟩ (.int .i64 pk.n)).setCell ⟨ob, k * 8 + 2, none⟩ (.string pk.s)).setCell ⟨ob, k * 8 + 3, none⟩ (.int .i64 pk.a)).setCell ⟨ob, k * 8 + 4, none⟩ (.int .i64 px.k)).setCell ⟨ob, k * 8 + 5, none⟩ (.int .i64 px.n)).setCell ⟨ob, k * 8 + 6, none⟩ (.string px.s)).setCell ⟨ob, k * 8 + 7, none⟩ (.int .i64 px.a) := ⟨_, rfl⟩
          obtain ⟨hSp, hall⟩ := HSc.out.put hi HPV.out HL.out hk pk px hwp
          have HSp : Hid (SpS w wp CB pb rb base ca cl cc cb co (t + 100) u (.slice (some ⟨tg, 0, none⟩) n tc) n PV L (fun j => if j = i then (fun c => if c = k then pk else K i c) else K j) (fun j => if j = i then (fun c => if c = k then px else X i c) else X j)) := hSp
          have HSq : Hid (OutB wp pb u (.slice (some ⟨tg, 0, none⟩) n tc) ∧ wp.cell? ⟨tg, i, none⟩ = some (.slice (some ⟨ob, 0, none⟩) l oc) ∧ wp.heap[qb]? = some (.cells #[.int .i64 pk.k, .int .i64 pk.n, .string pk.s, .int .i64 pk.a, .int .i64 px.k, .int .i64 px.n, .string px.s, .int .i64 px.a] 39 (0, 0))) := ⟨hSp.par, (World.cell?_of_block (hall tg hne3)).trans htc, (hall qb hne4).trans HQc.out⟩
          have HFp : Hid (FineG n u L (fun j => if j = i then (fun c => if c = k then pk else K i c) else K j) (fun j => if j = i then (fun c => if c = k then px else X i c) else X j)) := ⟨HF.out.root, fun r hr => ⟨(HF.out.all r hr).1, fun c hc => by
            by_cases e : r = i
            · subst e
              simp only [if_true]
              by_cases e' : c = k
              · subst e'
                simp only [if_true]
                exact ⟨HPK.out, HPX.out⟩
              · simp only [e', if_false]
                exact (HF.out.all r hr).2 c hc
            · simp only [e, if_false]
              exact (HF.out.all r hr).2 c hc⟩⟩
          clear hSp hall
          refine wpAnyH_ready (rs := [9]) (by kernel_rfl) (by simp) ?_
          refine AllReadyH.cons rfl (fun K' hK' => ?_) AllReadyH.nil
          go_simp
          rw [← hwp]
          refine hK'.out _ _ HSq.out (fun hHeld => ?_)
          clear hK' hHeld
          refine wpAnyH_done (by kernel_rfl) ?_ _
          obtain ⟨wd, hwd⟩ : ∃ wd, wd = wp.drew := ⟨_, rfl⟩
          have HSr : Hid (SpS w wd CB pb rb base ca cl cc cb co (t + 100) u (.slice (some ⟨tg, 0, none⟩) n tc) n PV L (fun j => if j = i then (fun c => if c = k then pk else K i c) else K j) (fun j => if j = i then (fun c => if c = k then px else X i c) else X j)) := by rw [hwd]; exact HSp.out.below ((Below.refl _ _).drew)
          rw [← hwd]
          clear hwd hwp k0 k1 k2 k3 x0 x1 x2 x3 ocell htc HSq HSp HSc HQc
          obtain ⟨p0, p1, p2, p3, p4, pz⟩ := cells5 HSr.out.par
          obtain ⟨r0, r1, r2, r3, r4, r5⟩ := cells5 HSr.out.res
          simp only [zeroV] at r0 r1 r2 r3
          go_wp2
          have F := put5hi (put5lo HSr.out.res (.int .i64 u.k) (.int .i64 u.n) (.string u.s) (.int .i64 u.a)) (.slice (some ⟨tg, 0, none⟩) n tc)
          obtain ⟨wf, hwf⟩ : ∃ wf, wf = ((((wd.setCell ⟨rb, 0, none⟩ (.int .i64 u.k)).setCell ⟨rb, 1, none⟩ (.int .i64 u.n)).setCell ⟨rb, 2, none⟩ (.string u.s)).setCell ⟨rb, 3, none⟩ (.int .i64 u.a)).setCell ⟨rb, 4, none⟩ (.slice (some ⟨tg, 0, none⟩) n tc) := ⟨_, rfl⟩
          have ho : Only (fun k => k = rb) wd wf := by rw [hwf]; exact set4_only.set (p := ⟨rb, 4, none⟩) rfl _
          rw [← hwf] at F ⊢
          clear hwf
          obtain ⟨q0, q1, q2, q3, q4, _⟩ := cells5 F
          refine bodyPost_ret (v := .agg #[.int .i64 u.k, .int .i64 u.n, .string u.s, .int .i64 u.a, .slice (some ⟨tg, 0, none⟩) n tc]) (by simp [results, Tryz.results41, go_sem, q0, q1, q2, q3, q4]) rfl ⟨⟨u, PV, L, _, _, rfl, (HSr.out.last ho).1, HFp.out⟩, ?_⟩
          exact (HSr.out.last ho).2

end Go.Proofs.YtgflalfiopnmnaaGreatDoor
