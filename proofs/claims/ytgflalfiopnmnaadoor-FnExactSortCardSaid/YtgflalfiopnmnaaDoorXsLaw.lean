import Derived.Test.YtgflalfiopnmnaaDoorXsRes
import Derived.Test.YtgflalfiopnmnaaDoorSpSort
namespace Go.Proofs.YtgflalfiopnmnaaDoor
open Go.RowKit Rk So

/-- 'eqSorted' of two answers that are held. -/
theorem Held.eq {w : World} {b u b1 u1 : Nat} {code : Int} {Co Cq Co1 Cq1 : Nat} {A A' A1 A1' : Option Addr} {B B' co cq B1 B1' co1 cq1 : Nat} {f g f1 g1 : Nat → Value} {o : List Nat} {q : List (Nat × Nat)}
    (h : Held w b u code o.length q.length Co Cq A A' B B' co cq f g) (h1 : Held w b1 u1 code o.length q.length Co1 Cq1 A1 A1' B1 B1' co1 cq1 f1 g1) (ho : o.length ≤ 1048576) (hq : q.length ≤ 1048576) (vo : ValsO o f) (vq : ValsQ q g) (vo1 : ValsO o f1) (vq1 : ValsQ q g1) :
    Calls Tryd.prog 18 #[.agg #[.int .i64 code, .slice A o.length Co, .slice A' q.length Cq], .agg #[.int .i64 code, .slice A1 o.length Co1, .slice A1' q.length Cq1]] w fun e w' => e = .returned (.bool true) ∧ Below w.heap.size w w' :=
  eqSorted_same code A A' A1 A1' _ Co Co1 _ Cq Cq1 B B' B1 B1' _ _ _ w ho hq (h.rowR vo) (h.askR vq) (h1.rowR vo1) (h1.askR vq1)

/-- 'markSorted' of an answer that is held. -/
theorem Held.mark {w : World} {b u : Nat} {code : Int} {Lo Lq Co Cq : Nat} {A A' : Option Addr} {B B' co cq : Nat} {f g : Nat → Value} (h : Held w b u code Lo Lq Co Cq A A' B B' co cq f g) (ho : Lo ≤ 1048576) (hq : Lq ≤ 1048576) :
    Calls Tryd.prog 21 #[.agg #[.int .i64 code, .slice A Lo Co, .slice A' Lq Cq], .int .i64 1] w fun e w' => e = .returned (.int .i64 (1 + Lo + Lq * 2)) ∧ Only (fun k => b ≤ k ∧ k < u) w w' ∧ Held w' b u code Lo Lq Co Cq A A' B B' co cq (marks 1 Lo f) (marks (1 + Lo) (Lq * 2) g) := by
  refine (markSorted_any code A A' Lo Co Lq Cq B B' co cq f g w ho hq h.hA h.hA' h.hco h.hcq (fun x => (h.row x).2.2) (fun x => (h.ask x).2.2) (fun x y e => ?_)).mono ?_
  · obtain ⟨c, hb, _⟩ := (h.row x).2.2
    obtain ⟨c', hb', _⟩ := (h.ask y).2.2
    exact ne_of_types hb hb' (by decide) e
  · rintro e w' ⟨he, hO, hr, hk⟩
    have hO' : Only (fun k => b ≤ k ∧ k < u) w w' := hO.mono (fun k _ x => by
      rcases x with ⟨rfl, x⟩ | ⟨rfl, x⟩
      · exact ⟨(h.row x).1, (h.row x).2.1⟩
      · exact ⟨(h.ask x).1, (h.ask x).2.1⟩)
    exact ⟨he, hO', by rw [hO'.block u (lt_of_block h.d) (by omega)]; exact h.d, h.hA, h.hA', h.hco, h.hcq, fun x => ⟨(h.row x).1, (h.row x).2.1, hr x⟩, fun x => ⟨(h.ask x).1, (h.ask x).2.1, hk x⟩, h.bu⟩

/-- 'heldSorted' of an answer that is marked. -/
theorem Held.marked {w : World} {b u : Nat} {code : Int} {Lo Lq Co Cq : Nat} {A A' : Option Addr} {B B' co cq : Nat} {f g : Nat → Value} (h : Held w b u code Lo Lq Co Cq A A' B B' co cq (marks 1 Lo f) (marks (1 + Lo) (Lq * 2) g)) (ho : Lo ≤ 1048576) (hq : Lq ≤ 1048576) :
    Calls Tryd.prog 22 #[.agg #[.int .i64 code, .slice A Lo Co, .slice A' Lq Cq], .int .i64 1] w fun e w' => e = .returned (.int .i64 (1 + Lo + Lq * 2)) ∧ Below w.heap.size w w' :=
  heldSorted_any code A A' Lo Co Lq Cq B B' w ho hq (h.rowR (fun c hc => by rw [marks, if_pos hc]))
    (h.askR (fun c hc => ⟨by rw [marks, if_pos (by omega)]; simp, by rw [marks, if_pos (by omega)]; simp; omega⟩))

theorem Held.c0 {w : World} {b u : Nat} {code : Int} {Lo Lq Co Cq : Nat} {A A' : Option Addr} {B B' co cq : Nat} {f g : Nat → Value} (h : Held w b u code Lo Lq Co Cq A A' B B' co cq f g) : w.cell? ⟨u, 0, none⟩ = some (.int .i64 code) := by rw [cell_at_block h.d]; rfl
theorem Held.c1 {w : World} {b u : Nat} {code : Int} {Lo Lq Co Cq : Nat} {A A' : Option Addr} {B B' co cq : Nat} {f g : Nat → Value} (h : Held w b u code Lo Lq Co Cq A A' B B' co cq f g) : w.cell? ⟨u, 1, none⟩ = some (.slice A Lo Co) := by rw [cell_at_block h.d]; rfl
theorem Held.c2 {w : World} {b u : Nat} {code : Int} {Lo Lq Co Cq : Nat} {A A' : Option Addr} {B B' co cq : Nat} {f g : Nat → Value} (h : Held w b u code Lo Lq Co Cq A A' B B' co cq f g) : w.cell? ⟨u, 2, none⟩ = some (.slice A' Lq Cq) := by rw [cell_at_block h.d]; rfl

/-- A copy of the answers, whole. -/
structure Cpy (w : World) (X n : Nat) (L : Nat → Nat) (M : Nat → Nat → Int) : Prop where
  top : w.rowIs X 25 n (fun j => .slice (some ⟨X + 1 + j, 0, none⟩) (L j) (L j))
  rows : ∀ j, j < n → w.rowIs (X + 1 + j) 3 (L j) (fun c => .int .i64 (M j c))
theorem Rows2.cpy {w wr : World} {n : Nat} {L : Nat → Nat} {M : Nat → Nat → Int} (h : Rows2 w wr n L n M) : Cpy wr w.heap.size n L M := ⟨h.top.congr (fun _ hj => if_pos hj), h.rows⟩
theorem rowIs_below {w w' : World} {b t n : Nat} {f : Nat → Value} (h : w.rowIs b t n f) (hb : Below w.heap.size w w') : w'.rowIs b t n f := (Only.below (P := fun _ => False) hb).rowIs h id
theorem Cpy.below {w w' : World} {X n : Nat} {L : Nat → Nat} {M : Nat → Nat → Int} (h : Cpy w X n L M) (hb : Below w.heap.size w w') : Cpy w' X n L M := ⟨rowIs_below h.top hb, fun j hj => rowIs_below (h.rows j hj) hb⟩
theorem Cpy.mat {w : World} {X n : Nat} {L : Nat → Nat} {M : Nat → Nat → Int} (h : Cpy w X n L M) : MatR w X 0 n (fun j => some ⟨X + 1 + j, 0, none⟩) L L (fun j => X + 1 + j) (fun _ => 0) M :=
  ⟨fun r hr => by rw [Nat.zero_add, h.top.cell hr], fun r hr c hc => ⟨rfl, by rw [Nat.zero_add]; exact (h.rows r hr).cell hc⟩⟩

set_option maxHeartbeats 4000000 in
theorem exactSortLaw (ga : Option Addr) (gb go n cp : Nat) (A : Nat → Option Addr) (L C RB RO : Nat → Nat) (M : Nat → Nat → Int) (ea : Addr) (w : World) (hga : 0 < n → ga = some ⟨gb, go, none⟩)
    (hn : n ≤ 9223372036854775807) (hL : ∀ r, r < n → L r ≤ 9223372036854775807) (HM : Hid (MatR w gb go n A L C RB RO M)) (HE : Hid (w.cell? ⟨0, 0, none⟩ = some (.iface 74 (.pointer (some ea))))) :
    Calls Tryd.prog 5 #[.slice ga n cp] w fun e w' => e = .returned (.bool true) ∧ Below w.heap.size w w' := by
  have HE' : ∀ {w'}, Below w.heap.size w w' → w'.cell? ⟨0, 0, none⟩ = some (.iface 74 (.pointer (some ea))) := fun hb => (hb.cell (p := ⟨0, 0, none⟩) (World.block_lt_of_cell? _ _ HE.out)).trans HE.out
  have HEs : Hid (∀ w', Below w.heap.size w w' → w'.cell? ⟨0, 0, none⟩ = some (.iface 74 (.pointer (some ea)))) := fun _ hb => HE' hb
  clear HE'
  go_enter Tryd.func5, Tryd.ntmps5
  go_wp2_with fail
  refine (szSS_any ga gb go n cp A L C RB RO M w hga hn hL HM.out).mono ?_
  rintro e w0 ⟨k, rfl, hw0, hk⟩
  subst hw0
  by_cases hk0 : k < 0
  · clear hk
    go_wp2
    go_ret
    exact ⟨rfl, Below.refl _ _⟩
  · obtain ⟨hn', hL'⟩ := hk (by omega)
    have HL : Hid (∀ r, r < n → L r ≤ 1048576) := hL'
    clear hk hL hn hL'
    go_wp2_with fail
    refine (toSS_any ga gb go n cp A L C RB RO M w0 hga hn' HL.out HM.out).mono ?_
    rintro e w1 ⟨rfl, h1⟩
    have H1 : Hid (Rows2 w0 w1 n L n M) := h1
    clear h1
    go_wp2_with fail
    refine (spSort_any w1 _ w0.heap.size 0 n n _ L L _ _ M (fun _ => rfl) hn' HL.out H1.out.mat).mono ?_
    rintro e w2 ⟨code, o, q, ov, av, HO, rfl, hR⟩
    have hb2 : Below w0.heap.size w0 w2 := H1.out.bel.trans (hR.bel.mono H1.out.bel.size)
    have H12 : Hid (w1.heap.size ≤ w2.heap.size) := hR.bel.size
    have H02 : Hid (w0.heap.size ≤ w2.heap.size) := hb2.size
    obtain ⟨Co, Cq, A1, A1', B1, B1', co, cq, f1, g1, rfl, rfl, vo1, vq1, hH⟩ := hR.held
    have hb2' := hb2.alloc hb2.size (.cells #[.int .i64 code, .slice A1 o.length Co, .slice A1' q.length Cq] 28)
    have HH : Hid _ := hH code
    have HB2 : Hid _ := hb2'
    have hol := HO.out.small.1
    have hql := HO.out.small.2
    have HV1 : Hid _ := vo1
    have HV1' : Hid _ := vq1
    clear hR hH H1 hb2 hb2' vo1 vq1
    go_wp2_with fail
    have hs2 : (w2.alloc (.cells #[.int .i64 code, .slice A1 o.length Co, .slice A1' q.length Cq] 28)).heap.size = w2.heap.size + 1 := by simp
    obtain ⟨w2a, hwa⟩ : ∃ x, w2.alloc (.cells #[.int .i64 code, .slice A1 o.length Co, .slice A1' q.length Cq] 28) = x := ⟨_, rfl⟩
    rw [hwa] at HH HB2 hs2 ⊢
    have Hs2 : Hid (w2a.heap.size = w2.heap.size + 1) := hs2
    clear hwa hs2
    refine (toSS_any ga gb go n cp A L C RB RO M w2a hga hn' HL.out (HM.out.below HB2.out)).mono ?_
    rintro e w3 ⟨rfl, h3⟩
    have Hs3 : Hid (w3.heap.size = w2a.heap.size + 1 + n) := h3.size
    have HB3 : Hid (Below w0.heap.size w0 w3) := HB2.out.trans (h3.bel.mono HB2.out.size)
    have HH3 : Hid _ := HH.out.below h3.bel
    have HC3 : Hid (Cpy w3 w2a.heap.size n L M) := h3.cpy
    clear h3 HH HB2
    go_wp2_with fail
    refine (implSort_any w3 _ w2a.heap.size 0 n n _ L L _ _ M ea (fun _ => rfl) hn' HL.out HC3.out.mat (HEs.out _ HB3.out)).mono ?_
    rintro e w4 ⟨code', o', q', ov, av, HO', rfl, hR⟩
    obtain ⟨e1, e2, e3⟩ := HO.out.same HO'.out
    subst e1 e2 e3
    clear HO'
    obtain ⟨Co2, Cq2, A2, A2', B2, B2', co2, cq2, f2, g2, rfl, rfl, vo2, vq2, hH2⟩ := hR.held
    have hb4 := HB3.out.trans (hR.bel.mono HB3.out.size)
    have hx4 : Below w3.heap.size w3 (w4.alloc (.cells #[.int .i64 code, .slice A2 o.length Co2, .slice A2' q.length Cq2] 28)) := hR.bel.alloc hR.bel.size _
    have HB4 : Hid (Below w0.heap.size w0 (w4.alloc (.cells #[.int .i64 code, .slice A2 o.length Co2, .slice A2' q.length Cq2] 28))) := hb4.alloc hb4.size _
    have HH4 : Hid _ := HH3.out.below hx4
    have HC4 : Hid _ := HC3.out.below hx4
    have HG4 : Hid _ := hH2 code
    have HV2 : Hid _ := vo2
    have HV2' : Hid _ := vq2
    have H34 : Hid (w3.heap.size ≤ w4.heap.size) := hR.bel.size
    clear hR hH2 hb4 hx4 vo2 vq2 HH3 HC3 HB3
    have a0 := HH4.out.c0
    have a1 := HH4.out.c1
    have a2 := HH4.out.c2
    go_wp2_with fail
    have hs4 : (w4.alloc (.cells #[.int .i64 code, .slice A2 o.length Co2, .slice A2' q.length Cq2] 28)).heap.size = w4.heap.size + 1 := by simp
    obtain ⟨w4a, hwa⟩ : ∃ x, w4.alloc (.cells #[.int .i64 code, .slice A2 o.length Co2, .slice A2' q.length Cq2] 28) = x := ⟨_, rfl⟩
    rw [hwa] at HB4 HH4 HC4 HG4 hs4 ⊢
    have Hs4 : Hid (w4a.heap.size = w4.heap.size + 1) := hs4
    clear hwa hs4 a0 a1 a2
    refine (HG4.out.eq HH4.out hol hql HV2.out HV2'.out HV1.out HV1'.out).mono ?_
    rintro e w5 ⟨rfl, hb5⟩
    have HB5 : Hid (Below w0.heap.size w0 w5) := HB4.out.trans (hb5.mono HB4.out.size)
    have HH5 : Hid _ := HH4.out.below hb5
    have HG5 : Hid _ := HG4.out.below hb5
    have HC5 : Hid _ := HC4.out.below hb5
    clear hb5 HB4 HH4 HC4 HG4
    go_wp2_with fail
    refine (toSS_any ga gb go n cp A L C RB RO M w5 hga hn' HL.out (HM.out.below HB5.out)).mono ?_
    rintro e w6 ⟨rfl, h6⟩
    have HB6 : Hid (Below w0.heap.size w0 w6) := HB5.out.trans (h6.bel.mono HB5.out.size)
    have HH6 : Hid _ := HH5.out.below h6.bel
    have HG6 : Hid _ := HG5.out.below h6.bel
    have HC6 : Hid _ := HC5.out.below h6.bel
    have HD6 : Hid _ := h6.mat
    clear h6 HB5 HH5 HG5 HC5
    go_wp2_with fail
    refine (eqSS_same _ _ _ 0 _ 0 n n n _ _ L _ _ _ _ _ _ M w6 (fun _ => rfl) (fun _ => rfl) hn' HL.out HC6.out.mat HD6.out).mono ?_
    rintro e w7 ⟨rfl, m, hw7⟩
    have hb7 : Below w6.heap.size w6 w7 := by rw [hw7]; exact below_drewN (Below.refl _ _) m
    clear hw7
    have HB7 : Hid (Below w0.heap.size w0 w7) := HB6.out.trans (hb7.mono HB6.out.size)
    have HH7 : Hid _ := HH6.out.below hb7
    have HG7 : Hid _ := HG6.out.below hb7
    have HC7 : Hid _ := HC6.out.below hb7
    clear hb7 HB6 HH6 HG6 HC6 HD6
    go_wp2_with fail
    refine (markSS_any w2a.heap.size n n L M w7 hn' HL HC7.out.top HC7.out.rows).mono ?_
    rintro e w8 ⟨⟨k2, hk2, rfl⟩, hO8⟩
    have HB8 : Hid (Below w0.heap.size w0 w8) := HB7.out.trans (hO8.toBelow (fun k h => by have := Hs2.out; have := H02.out; omega) HB7.out.size)
    have HH8 : Hid _ := HH7.out.only hO8 (fun k h1 h2 => by have := Hs2.out; omega)
    have HG8 : Hid _ := HG7.out.only hO8 (fun k h1 h2 => by have := Hs3.out; omega)
    clear hO8 HB7 HH7 HG7 HC7
    have a0 := HH8.out.c0
    have a1 := HH8.out.c1
    have a2 := HH8.out.c2
    have b0 := HG8.out.c0
    have b1 := HG8.out.c1
    have b2 := HG8.out.c2
    have hk3 : ¬ k2 < 0 := by omega
    go_wp2_with fail
    refine (HG8.out.eq HH8.out hol hql HV2.out HV2'.out HV1.out HV1'.out).mono ?_
    rintro e w9 ⟨rfl, hb9⟩
    have HB9 : Hid (Below w0.heap.size w0 w9) := HB8.out.trans (hb9.mono HB8.out.size)
    have HH9 : Hid _ := HH8.out.below hb9
    have HG9 : Hid _ := HG8.out.below hb9
    clear hb9 HB8 HH8 HG8 a0 a1 a2 b0 b1 b2
    have b0 := HG9.out.c0
    have b1 := HG9.out.c1
    have b2 := HG9.out.c2
    go_wp2_with fail
    refine (HG9.out.mark hol hql).mono ?_
    rintro e w10 ⟨rfl, hO10, hG10⟩
    have HB10 : Hid (Below w0.heap.size w0 w10) := HB9.out.trans (hO10.toBelow (fun k h => by have := Hs3.out; have := Hs2.out; have := H02.out; omega) HB9.out.size)
    have HH10 : Hid _ := HH9.out.only hO10 (fun k h1 h2 => by have := Hs3.out; have := Hs2.out; omega)
    have HG10 : Hid _ := hG10
    clear hO10 hG10 HB9 HH9 HG9 b0 b1 b2
    have b0 := HG10.out.c0
    have b1 := HG10.out.c1
    have b2 := HG10.out.c2
    go_wp2_with fail
    refine (HG10.out.marked hol hql).mono ?_
    rintro e w11 ⟨rfl, hb11⟩
    have HB11 : Hid (Below w0.heap.size w0 w11) := HB10.out.trans (hb11.mono HB10.out.size)
    have HH11 : Hid _ := HH10.out.below hb11
    have HG11 : Hid _ := HG10.out.below hb11
    clear hb11 HB10 HH10 HG10 b0 b1 b2
    have i2 : ¬ ((1 : Int) + o.length + q.length * 2 < 0) := by omega
    go_wp2_with fail
    refine (toSS_any ga gb go n cp A L C RB RO M w11 hga hn' HL.out (HM.out.below HB11.out)).mono ?_
    rintro e w12 ⟨rfl, h12⟩
    have HB12 : Hid (Below w0.heap.size w0 w12) := HB11.out.trans (h12.bel.mono HB11.out.size)
    have HH12 : Hid _ := HH11.out.below h12.bel
    have HG12 : Hid _ := HG11.out.below h12.bel
    have HC12 : Hid (Cpy w12 w11.heap.size n L M) := h12.cpy
    clear h12 HB11 HH11 HG11
    go_wp2_with fail
    refine (implSort_any w12 _ w11.heap.size 0 n n _ L L _ _ M ea (fun _ => rfl) hn' HL.out HC12.out.mat (HEs.out _ HB12.out)).mono ?_
    rintro e w13 ⟨code', o', q', ov, av, HO', rfl, hR⟩
    obtain ⟨e1, e2, e3⟩ := HO.out.same HO'.out
    subst e1 e2 e3
    clear HO'
    obtain ⟨Co3, Cq3, A3, A3', B3, B3', co3, cq3, f3, g3, rfl, rfl, vo3, vq3, hH3⟩ := hR.held
    have hx13 : Below w12.heap.size w12 (w13.alloc (.cells #[.int .i64 code, .slice A3 o.length Co3, .slice A3' q.length Cq3] 28)) := hR.bel.alloc hR.bel.size _
    have HB13 : Hid (Below w0.heap.size w0 (w13.alloc (.cells #[.int .i64 code, .slice A3 o.length Co3, .slice A3' q.length Cq3] 28))) := HB12.out.trans (hx13.mono HB12.out.size)
    have HH13 : Hid _ := HH12.out.below hx13
    have HG13 : Hid _ := HG12.out.below hx13
    have HF13 : Hid _ := hH3 code
    have HV3 : Hid _ := vo3
    have HV3' : Hid _ := vq3
    clear hR hH3 hx13 vo3 vq3 HH12 HG12 HC12 HB12
    have a0 := HH13.out.c0
    have a1 := HH13.out.c1
    have a2 := HH13.out.c2
    go_wp2_with fail
    obtain ⟨wb, hwb⟩ : ∃ x, w13.alloc (.cells #[.int .i64 code, .slice A3 o.length Co3, .slice A3' q.length Cq3] 28) = x := ⟨_, rfl⟩
    rw [hwb] at HB13 HH13 HG13 HF13 ⊢
    clear hwb a0 a1 a2
    refine (HF13.out.eq HH13.out hol hql HV3.out HV3'.out HV1.out HV1'.out).mono ?_
    rintro e w14 ⟨rfl, hb14⟩
    have HB14 : Hid (Below w0.heap.size w0 w14) := HB13.out.trans (hb14.mono HB13.out.size)
    have HG14 : Hid _ := HG13.out.below hb14
    clear hb14 HB13 HH13 HG13 HF13
    have b0 := HG14.out.c0
    have b1 := HG14.out.c1
    have b2 := HG14.out.c2
    go_wp2_with fail
    refine (HG14.out.marked hol hql).mono ?_
    rintro e w15 ⟨rfl, hb15⟩
    have HB15 : Hid (Below w0.heap.size w0 w15) := HB14.out.trans (hb15.mono HB14.out.size)
    clear hb15 HB14 HG14 b0 b1 b2
    go_wp2
    go_ret
    exact ⟨rfl, HB15.out⟩

end Go.Proofs.YtgflalfiopnmnaaDoor
