import Derived.Test.YtgflalfiopnmnaaGreatDoorR15
import Derived.Test.YtgflalfiopnmnaaGreatDoorR8
import Derived.Test.YtgflalfiopnmnaaGreatDoorR9
import Derived.Test.YtgflalfiopnmnaaGreatDoorR10
import Derived.Test.YtgflalfiopnmnaaGreatDoorR4
import Derived.Lib.AppendZeros
import Derived.Deep.AppendSrc
import Derived.Deep.Upon
namespace Go.Proofs.YtgflalfiopnmnaaGreatDoor
open Go.RowKit Vl

/-- A table's pairs are written one behind the other into a row that a block holds. -/
structure InB (w2 wq : World) (xb : Nat) (pv : Value) (c : Nat) (K X : Nat → V) : Prop where
  out : wq.heap[xb]? = some (.cells #[pv] 37 (0, 0))
  row : wq.ownsRow w2.heap.size 39 8 pv c (pairCells K X c)
  only : Only (fun k => k = xb) w2 wq

theorem InB.more {w2 wq w6 : World} {xb g cap c : Nat} {pv : Value} {K X : Nat → V} {o1 o2 : Obj} (h : InB w2 wq xb pv c K X) (hx : xb < w2.heap.size) (hgrow : ((wq.alloc o1).alloc o2).grownBy w6 pv.ownBlock)
    (hown : w6.ownsRow w2.heap.size 39 8 (.slice (some ⟨g, 0, none⟩) (c + 1) cap) (c + 1) (pairCells K X c ++ [.int .i64 (K c).k, .int .i64 (K c).n, .string (K c).s, .int .i64 (K c).a, .int .i64 (X c).k, .int .i64 (X c).n, .string (X c).s, .int .i64 (X c).a])) :
    (w6.cell? ⟨xb, 0, none⟩ = some pv ∧ w6.frozen? ⟨xb, 0, none⟩ = false) ∧ InB w2 (w6.setCell ⟨xb, 0, none⟩ (.slice (some ⟨g, 0, none⟩) (c + 1) cap)) xb (.slice (some ⟨g, 0, none⟩) (c + 1) cap) (c + 1) K X := by
  obtain ⟨_, _, _, hk⟩ := owns_form h.row
  have hs := h.only.size
  have hbl : ∀ k, k < wq.heap.size → pv.ownBlock ≠ some k → w6.heap[k]? = wq.heap[k]? := fun k hk hne =>
    ((hgrow.block k (by simp; omega) (fun e => hne e.symm)).trans (Below.heap_alloc _ o2 k (by simp; omega))).trans (Below.heap_alloc wq o1 k hk)
  have n1 : pv.ownBlock ≠ some xb := fun e => by have := (hk _ e).1; omega
  have h6 : w6.heap[xb]? = some (.cells #[pv] 37 (0, 0)) := (hbl xb (by omega) n1).trans h.out
  have hsz : wq.heap.size ≤ w6.heap.size := by have := hgrow.size; simp at this; omega
  have ho : Only (fun k => k = xb) w2 w6 := ⟨hgrow.os.trans h.only.os, hgrow.tape.trans h.only.tape, hgrow.output.trans h.only.output, by omega, fun k hk' hp => (hbl k (by omega) (fun e => by have := (hk _ e).1; omega)).trans (h.only.block k hk' hp)⟩
  obtain ⟨c0, cz⟩ := one_at h6
  refine ⟨⟨c0, cz 0⟩, one_put h6 _, ?_, ho.set rfl _⟩
  rw [pairCells_succ]
  exact owns_setC hown (p := ⟨xb, 0, none⟩) hx _

theorem sh_cells {n : Nat} {x : V} {ya : Int} (h : sh n x = ⟨x.k, x.n, x.s, ya⟩) : [Value.int .i64 x.k, .int .i64 x.n, .string x.s, .int .i64 ya] = [.int .i64 (sh n x).k, .int .i64 (sh n x).n, .string (sh n x).s, .int .i64 (sh n x).a] := by rw [h]

set_option maxHeartbeats 4000000 in
set_option maxRecDepth 100000 in
/-- 'l3both'. -/
theorem l3both_any (u u' : V) (ta ta' : Option Addr) (n cp TB TO m cp' TB' TO' : Nat) (A A' : Nat → Option Addr) (L C RB RO L' C' RB' RO' : Nat → Nat) (K X K' X' : Nat → Nat → V) (w : World) (hn : n ≤ 200) (hm : m ≤ 200) (HL' : Hid (∀ r, r < m → L' r ≤ 100)) (HG' : Hid (Good m L' X')) (HT : Hid (TabsAt w ta n TB TO A L C RB RO K X)) (HT' : Hid (TabsAt w ta' m TB' TO' A' L' C' RB' RO' K' X')) :
    Calls Tryz.prog 46 #[.agg #[.int .i64 u.k, .int .i64 u.n, .string u.s, .int .i64 u.a, .slice ta n cp], .agg #[.int .i64 u'.k, .int .i64 u'.n, .string u'.s, .int .i64 u'.a, .slice ta' m cp']] w fun e w' => (∃ (oa : Option Addr) (oc OB : Nat) (A2 : Nat → Option Addr) (C2 RB2 RO2 : Nat → Nat), e = .returned (.slice oa (n + m) oc) ∧ TabsAt w' oa (n + m) OB 0 A2 (jn n L L') C2 RB2 RO2 (jn n K K') (jn n X (fun j c => sh n (X' j c)))) ∧ Below w.heap.size w w' := by
  have A2 := alloc2 w (.cells #[.int .i64 u.k, .int .i64 u.n, .string u.s, .int .i64 u.a, .slice ta n cp] 27) (.cells #[.int .i64 u'.k, .int .i64 u'.n, .string u'.s, .int .i64 u'.a, .slice ta' m cp'] 27)
  obtain ⟨w1, hw1⟩ : ∃ w1, w1 = (w.alloc (.cells #[.int .i64 u.k, .int .i64 u.n, .string u.s, .int .i64 u.a, .slice ta n cp] 27)).alloc (.cells #[.int .i64 u'.k, .int .i64 u'.n, .string u'.s, .int .i64 u'.a, .slice ta' m cp'] 27) := ⟨_, rfl⟩
  rw [← hw1] at A2
  have HB1 : Hid (Below w.heap.size w w1) := A2.2.2.2
  have G1 : Hid (w1.heap[w.heap.size]? = some (.cells #[.int .i64 u.k, .int .i64 u.n, .string u.s, .int .i64 u.a, .slice ta n cp] 27 (0, 0))) := A2.1
  have G2 : Hid (w1.heap[w.heap.size + 1]? = some (.cells #[.int .i64 u'.k, .int .i64 u'.n, .string u'.s, .int .i64 u'.a, .slice ta' m cp'] 27 (0, 0))) := A2.2.1
  clear A2
  obtain ⟨it, hti, ht0, ht1, ht2⟩ := info_parts Tryz.info37
  obtain ⟨ip, hpi, hp0, hp1, hp2⟩ := info_parts Tryz.info39
  go_enter Tryz.func46, Tryz.ntmps46
  go_wp2
  rw [← hw1]
  clear hw1
  obtain ⟨b1, hb1⟩ : ∃ b, w1.heap.size = b := ⟨_, rfl⟩
  have HBS : Hid (w1.heap.size = b1) := hb1
  go_loopw [5, 16] (fun sv ii wr => ∃ i : Nat, i ≤ n ∧ ii = .int .i64 i ∧ Hid (wr.ownsRow b1 37 1 sv i ((List.range i).map fun r => .slice (A r) (L r) (C r))) ∧ Hid (Below b1 w1 wr)) (fun _ ii _ => n - (intOf ii).toNat)
  case atStart => exact ⟨0, Nat.zero_le _, rfl, World.ownsRow_nil _ _ _ _, Below.refl _ _⟩
  case round =>
    obtain ⟨i, hi, rfl, HO, HB⟩ := hrel
    have HBw : Hid (Below w.heap.size w wr) := HB1.out.trans (HB.out.mono (by have := HB1.out.size; omega))
    obtain ⟨sa, sc, rfl, hsk⟩ := owns_form HO.out
    have HSK : Hid (∀ k, (Value.slice sa i sc).ownBlock = some k → b1 ≤ k ∧ k < wr.heap.size) := hsk
    clear hsk
    have hsr : b1 ≤ wr.heap.size := by have := HB.out.size; omega
    by_cases hlt : i < n
    · have hta := HT.out.top (by omega)
      subst hta
      have t0 := (HT.out.below HBw.out).tab i hlt
      obtain ⟨pa, hpa⟩ : ∃ a, A i = a := ⟨_, rfl⟩
      obtain ⟨l, hl⟩ : ∃ a, L i = a := ⟨_, rfl⟩
      obtain ⟨pc, hpc⟩ : ∃ a, C i = a := ⟨_, rfl⟩
      rw [hpa, hl, hpc] at t0
      obtain ⟨wt, hwt⟩ : ∃ wt, wt = wr.alloc (.cells #[.slice pa l pc] 37) := ⟨_, rfl⟩
      have hbt : Below wr.heap.size wr wt := by rw [hwt]; exact (Below.refl _ _).alloc (Nat.le_refl _) _
      have hst : wt.heap.size = wr.heap.size + 1 := by rw [hwt]; simp
      have HST : Hid (wt.heap.size = wr.heap.size + 1) := hst
      have HOt : Hid (wt.ownsRow b1 37 1 (.slice sa i sc) i ((List.range i).map fun r => .slice (A r) (L r) (C r))) := (Only.below (P := fun _ => False) hbt).owns HO.out (fun _ _ _ h => h)
      have HBt : Hid (Below b1 w1 wt) := HB.out.trans (hbt.mono (by omega))
      clear hst hbt HO HB hpi hp0 hp1 hp2 hb1
      go_wp2_with (at_builtin; refine wpList_append_lies _ (by rfl) (.tmp 20) (.tmp 22) 25 (by rfl) b1 37 it (.agg #[.slice none 0 0]) 1 24 Tryz.underlying25 hti ht0 ht1 ht2 (by rfl) (by omega) (.slice sa i sc) i ((List.range i).map fun r => .slice (A r) (L r) (C r)) (by rfl) (by rw [← hwt]; exact HOt.out.alloc _) ⟨wr.heap.size + 1, 0, none⟩ 1 1 [.slice pa l pc] (by rfl) (by rfl) ?c1 ?c2 (by omega) ?c3 ?c4 ?c5 (wr.heap.size + 2) ?c6 ?_)
      case c1 => exact World.news_of_block (alloc2 wr _ _).2.1
      case c2 => intro v hv; simp at hv; subst hv; rfl
      case c3 => unfold maxLen; omega
      case c4 => omega
      case c5 => simp; omega
      case c6 => simp
      intro g cap w6 hown6 hgrow6 hat6 hlt6
      have hb6 : Below b1 (wt.alloc (.cells #[.slice pa l pc] 37)) w6 := below_grown (HOt.out.alloc _) (by rw [hwt]; exact hgrow6) (by have := HST.out; simp; omega)
      have HB6 : Hid (Below b1 w1 w6) := (HBt.out.trans ((Below.refl _ _).alloc (by have := HST.out; omega) _)).trans hb6
      have HO6 : Hid (w6.ownsRow b1 37 1 (.slice (some ⟨g, 0, none⟩) (i + 1) cap) (i + 1) ((List.range (i + 1)).map fun r => .slice (A r) (L r) (C r))) := by
        rw [List.range_succ, List.map_append]
        simp only [List.map_cons, List.map_nil, hpa, hl, hpc]
        exact hown6
      clear hown6 hgrow6 hat6 hlt6 hb6 HOt HBt hwt t0 HST
      go_wp2
      go_roundw
      case rel => exact ⟨i + 1, by omega, by go_num, HO6, HB6⟩
      case measure => simp [intOf]; omega
    · obtain rfl : i = n := by omega
      obtain ⟨x0, x1, x2, x3, x4, _⟩ := cells5 ((HB.out.block _ (by have := blk_lt G2.out; omega)).trans G2.out)
      obtain ⟨ws, hws⟩ : ∃ ws, ws = wr := ⟨_, rfl⟩
      rw [← hws] at HO HB
      have HBT : Hid (BTab ws b1 (.slice sa i sc) i 0 (fun r => .slice (A r) (L r) (C r)) L' K' (fun j c => sh i (X' j c))) := ⟨HO.out, fun j hj => absurd hj (Nat.not_lt_zero _)⟩
      clear HO
      go_wp2
      rw [← hws]
      clear hws x0 x1 x2 x3 x4
      go_loopw [5, 28] (fun sv ii wr => ∃ (q : Nat) (PV : Nat → Value), q ≤ m ∧ ii = .int .i64 q ∧ Hid (BTab wr b1 sv i q PV L' K' (fun j c => sh i (X' j c))) ∧ Hid (∀ j, j < i → PV j = .slice (A j) (L j) (C j)) ∧ Hid (Below b1 w1 wr)) (fun _ ii _ => m - (intOf ii).toNat)
      case atStart => exact ⟨0, _, Nat.zero_le _, rfl, HBT, fun j hj => rfl, HB⟩
      case round =>
        obtain ⟨q, PV, hq, rfl, HQ, HPV, HBr⟩ := hrel
        clear HBT HB HBw
        have HBw : Hid (Below w.heap.size w wr) := HB1.out.trans (HBr.out.mono (by have := HB1.out.size; omega))
        obtain ⟨va, vc, rfl, hvk⟩ := owns_form HQ.out.own
        have hsr' : b1 ≤ wr.heap.size := by have := HBr.out.size; omega
        by_cases hlq : q < m
        · have hta := HT'.out.top (by omega)
          subst hta
          have t0 := (HT'.out.below HBw.out).tab q hlq
          obtain ⟨pa, hpa⟩ : ∃ a, A' q = a := ⟨_, rfl⟩
          obtain ⟨l, hl⟩ : ∃ a, L' q = a := ⟨_, rfl⟩
          obtain ⟨pc, hpc⟩ : ∃ a, C' q = a := ⟨_, rfl⟩
          rw [hpa, hl, hpc] at t0
          have HP : Hid (PairsAt w pa l (RB' q) (RO' q) (K' q) (X' q)) := by rw [← hpa, ← hl]; exact HT'.out.row q hlq
          have hl100 : l ≤ 100 := by rw [← hl]; exact HL'.out q hlq
          have HGl : Hid (∀ c, c < l → isV m (X' q c) = true) := show ∀ c, _ from fun c hc => HG'.out q hlq c (by rw [hl]; exact hc)
          have A2 := alloc2 wr (.cells #[.slice pa l pc] 37) (.cells #[.slice none 0 0] 37)
          obtain ⟨w2, hw2⟩ : ∃ w2, w2 = (wr.alloc (.cells #[.slice pa l pc] 37)).alloc (.cells #[.slice none 0 0] 37) := ⟨_, rfl⟩
          rw [← hw2] at A2
          have HBw2 : Hid (Below w.heap.size w w2) := HBw.out.trans (A2.2.2.2.mono HBw.out.size)
          have HBb2 : Hid (Below b1 w1 w2) := HBr.out.trans (A2.2.2.2.mono hsr')
          have HQ2 : Hid (BTab w2 b1 (.slice va (i + q) vc) i q PV L' K' (fun j c => sh i (X' j c))) := HQ.out.below A2.2.2.2
          have hs2 : Hid (w2.heap.size = wr.heap.size + 2) := A2.2.2.1
          obtain ⟨xb, hxb⟩ : ∃ xb, wr.heap.size + 1 = xb := ⟨_, rfl⟩
          have HX2 : Hid (w2.heap[xb]? = some (.cells #[.slice none 0 0] 37 (0, 0))) := by rw [← hxb]; exact A2.2.1
          have HXl : Hid (xb < w2.heap.size ∧ b1 ≤ xb ∧ w.heap.size ≤ xb) := ⟨by rw [hs2.out]; omega, by omega, by have := HBw.out.size; omega⟩
          have HVK : Hid (∀ g, (Value.slice va (i + q) vc).ownBlock = some g → g ≠ xb) := show ∀ g, _ from fun g hg => by have := (hvk g hg).2; omega
          have HIN : Hid (InB w2 w2 xb (.slice none 0 0) 0 (K' q) (fun c => sh i (X' q c))) := ⟨HX2.out, World.ownsRow_nil _ _ _ _, Only.refl _ _⟩
          clear A2 HQ HBr hb1 hvk
          go_wp2
          rw [← hw2]
          try rw [hxb]
          clear hw2 t0 hxb
          go_loopw [35] (fun ii wq => ∃ (c : Nat) (pv : Value), c ≤ l ∧ ii = .int .i64 c ∧ Hid (InB w2 wq xb pv c (K' q) (fun c => sh i (X' q c)))) (fun ii _ => l - (intOf ii).toNat)
          case atStart => exact ⟨0, _, Nat.zero_le _, rfl, HIN⟩
          case round =>
            obtain ⟨c, pv, hc, rfl, HI⟩ := hrel
            clear HIN
            obtain ⟨qa, qc, rfl, hqk⟩ := owns_form HI.out.row
            clear hqk
            have HBq : Hid (Below w.heap.size w wr) := HBw2.out.trans (HI.out.only.toBelow (fun k hk => by have := HXl.out.2.2; omega) HBw2.out.size)
            by_cases hlc : c < l
            · obtain rfl := HP.out.top (by omega)
              obtain ⟨⟨k0, k1, k2, k3⟩, ⟨v0, v1, v2, v3⟩⟩ := (HP.out.below HBq.out).cells hlc
              obtain ⟨kc, HKC⟩ : ∃ kc, Hid (K' q c = kc) := ⟨_, rfl⟩
              obtain ⟨xc, HXC⟩ : ∃ xc, Hid (X' q c = xc) := ⟨_, rfl⟩
              rw [HKC.out] at k0 k1 k2 k3
              rw [HXC.out] at v0 v1 v2 v3
              have hvx : isV m xc = true := by rw [← HXC.out]; exact HGl.out c hlc
              have HG1 : Hid (wr.heap[w.heap.size]? = some (.cells #[.int .i64 u.k, .int .i64 u.n, .string u.s, .int .i64 u.a, .slice ta i cp] 27 (0, 0))) := by
                have h1 := (HBb2.out.block _ (by have := blk_lt G1.out; have := HBS.out; omega)).trans G1.out
                exact (HI.out.only.block _ (blk_lt h1) (by have := blk_lt G1.out; have := HXl.out.2.1; have := HBS.out; omega)).trans h1
              obtain ⟨g0, g1, g2, g3, g4, _⟩ := cells5 HG1.out
              obtain ⟨y0, y1⟩ := one_at HI.out.out
              have hxq : xb < wr.heap.size := by have := HXl.out.1; have := HI.out.only.size; omega
              have hxq' : xb < wr.heap.size + 1 := by omega
              have hgl : w.heap.size < wr.heap.size := blk_lt HG1.out
              have hgl' : w.heap.size < wr.heap.size + 1 := by omega
              by_cases h4 : xc.k = 4
              · obtain ⟨a0, a1⟩ := isV_tab hvx h4
                obtain ⟨ya, hya⟩ : ∃ ya : Int, xc.a + (i : Int) = ya := ⟨_, rfl⟩
                have HSH : Hid (sh i xc = ⟨xc.k, xc.n, xc.s, ya⟩) := by show sh i xc = _; unfold sh; rw [if_pos h4, hya]
                have hk4 : (xc.k == 4) = true := by simp [h4]
                have hwr : IntKind.i64.wrap (xc.a + (i : Int)) = ya := by rw [IntKind.wrap_i64]; omega
                clear h4 hya hvx a0 a1
                go_wp2_with (at_builtin; refine wpList_append_lies _ (by rfl) (.tmp 53) (.tmp 55) 35 (by rfl) w2.heap.size 39 ip (.agg #[.int .i64 0, .int .i64 0, .string ⟨#[]⟩, .int .i64 0, .int .i64 0, .int .i64 0, .string ⟨#[]⟩, .int .i64 0]) 8 80 Tryz.underlying35 hpi hp0 hp1 hp2 (by rfl) (by omega) (.slice qa c qc) c (pairCells (K' q) (fun c => sh i (X' q c)) c) (by rfl) ((HI.out.row.alloc _).alloc _) ⟨wr.heap.size + 1, 0, none⟩ 1 1 [.int .i64 kc.k, .int .i64 kc.n, .string kc.s, .int .i64 kc.a, .int .i64 xc.k, .int .i64 xc.n, .string xc.s, .int .i64 ya] (by rfl) (by rfl) ?c1 ?c2 (by omega) ?c3 ?c4 ?c5 (wr.heap.size + 2) ?c6 ?_)
                case c1 => exact World.news_of_block (alloc2 wr _ _).2.1
                case c2 => intro v hv; simp at hv; rcases hv with rfl | rfl | rfl | rfl | rfl | rfl | rfl | rfl <;> rfl
                case c3 => unfold maxLen; omega
                case c4 => omega
                case c5 => have := HI.out.only.size; simp; omega
                case c6 => simp
                intro g cap w6 hown6 hgrow6 hat6 hlt6
                obtain ⟨⟨z0, z1⟩, hI⟩ := HI.out.more HXl.out.1 hgrow6 (by
                  have e := HSH.out
                  simp only [HKC.out, HXC.out, e]
                  exact hown6)
                have HI6 : Hid (InB w2 (w6.setCell ⟨xb, 0, none⟩ (.slice (some ⟨g, 0, none⟩) (c + 1) cap)) xb (.slice (some ⟨g, 0, none⟩) (c + 1) cap) (c + 1) (K' q) (fun c => sh i (X' q c))) := hI
                clear hown6 hgrow6 hat6 hlt6 hI k0 k1 k2 k3 v0 v1 v2 v3 g0 g1 g2 g3 g4 y0 y1
                go_wp2
                go_roundw
                case rel => exact ⟨c + 1, _, by omega, by go_num, HI6⟩
                case measure => simp [intOf]; omega
              · have HSH : Hid (sh i xc = ⟨xc.k, xc.n, xc.s, xc.a⟩) := by show sh i xc = _; unfold sh; rw [if_neg h4]
                have hk4 : (xc.k == 4) = false := by simp [h4]
                clear h4 hvx
                go_wp2_with (at_builtin; refine wpList_append_lies _ (by rfl) (.tmp 53) (.tmp 55) 35 (by rfl) w2.heap.size 39 ip (.agg #[.int .i64 0, .int .i64 0, .string ⟨#[]⟩, .int .i64 0, .int .i64 0, .int .i64 0, .string ⟨#[]⟩, .int .i64 0]) 8 80 Tryz.underlying35 hpi hp0 hp1 hp2 (by rfl) (by omega) (.slice qa c qc) c (pairCells (K' q) (fun c => sh i (X' q c)) c) (by rfl) ((HI.out.row.alloc _).alloc _) ⟨wr.heap.size + 1, 0, none⟩ 1 1 [.int .i64 kc.k, .int .i64 kc.n, .string kc.s, .int .i64 kc.a, .int .i64 xc.k, .int .i64 xc.n, .string xc.s, .int .i64 xc.a] (by rfl) (by rfl) ?c1 ?c2 (by omega) ?c3 ?c4 ?c5 (wr.heap.size + 2) ?c6 ?_)
                case c1 => exact World.news_of_block (alloc2 wr _ _).2.1
                case c2 => intro v hv; simp at hv; rcases hv with rfl | rfl | rfl | rfl | rfl | rfl | rfl | rfl <;> rfl
                case c3 => unfold maxLen; omega
                case c4 => omega
                case c5 => have := HI.out.only.size; simp; omega
                case c6 => simp
                intro g cap w6 hown6 hgrow6 hat6 hlt6
                obtain ⟨⟨z0, z1⟩, hI⟩ := HI.out.more HXl.out.1 hgrow6 (by
                  have e := HSH.out
                  simp only [HKC.out, HXC.out, e]
                  exact hown6)
                have HI6 : Hid (InB w2 (w6.setCell ⟨xb, 0, none⟩ (.slice (some ⟨g, 0, none⟩) (c + 1) cap)) xb (.slice (some ⟨g, 0, none⟩) (c + 1) cap) (c + 1) (K' q) (fun c => sh i (X' q c))) := hI
                clear hown6 hgrow6 hat6 hlt6 hI k0 k1 k2 k3 v0 v1 v2 v3 g0 g1 g2 g3 g4 y0 y1
                go_wp2
                go_roundw
                case rel => exact ⟨c + 1, _, by omega, by go_num, HI6⟩
                case measure => simp [intOf]; omega
            · obtain rfl : c = l := by omega
              obtain ⟨y0, y1⟩ := one_at HI.out.out
              have HQ3 : Hid (BTab wr b1 (.slice va (i + q) vc) i q PV L' K' (fun j c => sh i (X' j c))) := by
                have hk := HXl.out
                refine ⟨HI.out.only.ownsB HQ2.out.own (fun g hg e => ?_), fun j hj => HI.out.only.ownsB (HQ2.out.rows j hj) (fun g hg e => ?_)⟩
                · exact HVK.out g hg e
                · obtain ⟨_, cur, hcur⟩ := owns_type (HQ2.out.rows j hj) hg
                  subst e
                  rw [HX2.out] at hcur
                  cases hcur
              have hs3 : b1 ≤ wr.heap.size := by have := HXl.out; have := HI.out.only.size; omega
              have HB3 : Hid (Below b1 w1 wr) := HBb2.out.trans (HI.out.only.toBelow (fun k hk => by have := HXl.out.2.1; omega) (by have := HBb2.out.size; have := HBS.out; omega))
              have HR3 : Hid (wr.ownsRow b1 39 8 (.slice qa c qc) (L' q) (pairCells (K' q) (fun c => sh i (X' q c)) (L' q))) := by rw [hl]; exact owns_mono HI.out.row (by have := HXl.out; omega)
              have hiq : i + q ≤ 400 := by omega
              go_wp2_with (at_builtin; refine wpList_append_lies _ (by rfl) (.tmp 59) (.tmp 61) 25 (by rfl) b1 37 it (.agg #[.slice none 0 0]) 1 24 Tryz.underlying25 hti ht0 ht1 ht2 (by rfl) (by omega) (.slice va (i + q) vc) (i + q) ((List.range (i + q)).map PV) (by rfl) (HQ3.out.own.alloc _) ⟨wr.heap.size, 0, none⟩ 1 1 [.slice qa c qc] (by rfl) (by rfl) ?c1 ?c2 (by omega) ?c3 ?c4 ?c5 (wr.heap.size + 1) ?c6 ?_)
              case c1 => exact World.news_of_block (heap_alloc_new wr _)
              case c2 => intro v hv; simp at hv; subst hv; rfl
              case c3 => unfold maxLen; omega
              case c4 => omega
              case c5 => simp; omega
              case c6 => simp
              intro g cap w7 hown7 hgrow7 hat7 hlt7
              obtain ⟨hT7, hB7⟩ := HQ3.out.more HR3.out _ hs3 hown7 hgrow7
              have HT7 : Hid (BTab w7 b1 (.slice (some ⟨g, 0, none⟩) (i + q + 1) cap) i (q + 1) (fun j => if j = i + q then .slice qa c qc else PV j) L' K' (fun j c => sh i (X' j c))) := hT7
              have HB7 : Hid (Below b1 w1 w7) := HB3.out.trans hB7
              have HPV' : Hid (∀ j, j < i → (fun j => if j = i + q then .slice qa c qc else PV j) j = .slice (A j) (L j) (C j)) := show ∀ j, _ from fun j hj => by
                show (if j = i + q then _ else PV j) = _
                rw [if_neg (by omega)]
                exact HPV.out j hj
              clear hT7 hB7 hown7 hgrow7 hat7 hlt7 HQ3 HB3 HR3 y0 y1 HI
              go_wp2
              go_roundw
              case rel => exact ⟨q + 1, _, by omega, by go_num, HT7, HPV', HB7⟩
              case measure => simp [intOf]; omega
        · clear hvk
          obtain rfl : q = m := by omega
          have hTt := HQ.out.tabs (HT.out.below HBw.out) HPV.out
          go_wp2
          go_ret
          exact ⟨⟨va, vc, _, _, _, _, _, rfl, hTt.2⟩, HBw.out⟩

end Go.Proofs.YtgflalfiopnmnaaGreatDoor

/-
  The line of couples of 'spec.Apart', in memory.
-/
namespace Go.Proofs.YtgflalfiopnmnaaGreatDoor
open Go.RowKit Vl Aw

def e0 : Aw.E := ⟨zeroV, zeroV, []⟩
def lsE (l : List Aw.E) (j : Nat) : Aw.E := l.getD j e0
theorem lsE_at {l : List Aw.E} {j : Nat} (h : j < l.length) : l[j]? = some (lsE l j) := by
  unfold lsE
  rw [List.getD_eq_getElem?_getD, List.getElem?_eq_getElem h]
  rfl
theorem lsE_old {l : List Aw.E} {e : Aw.E} {j : Nat} (h : j < l.length) : lsE (l ++ [e]) j = lsE l j := by
  unfold lsE
  rw [List.getD_eq_getElem?_getD, List.getD_eq_getElem?_getD, List.getElem?_append_left h]
theorem lsE_new (l : List Aw.E) (e : Aw.E) : lsE (l ++ [e]) l.length = e := by
  unfold lsE
  simp [List.getD_eq_getElem?_getD]

/-- The cells of one couple. -/
abbrev cell9 (e : Aw.E) (pv : Value) : List Value := [.int .i64 e.a.k, .int .i64 e.a.n, .string e.a.s, .int .i64 e.a.a, .int .i64 e.b.k, .int .i64 e.b.n, .string e.b.s, .int .i64 e.b.a, pv]
def twoCells (f : Nat → Aw.E) (PV : Nat → Value) (n : Nat) : List Value := (List.range n).flatMap fun j => cell9 (f j) (PV j)
theorem twoCells_succ (f : Nat → Aw.E) (PV : Nat → Value) (n : Nat) : twoCells f PV (n + 1) = twoCells f PV n ++ cell9 (f n) (PV n) := by simp [twoCells, List.range_succ]
theorem twoCells_len (f : Nat → Aw.E) (PV : Nat → Value) (n : Nat) : (twoCells f PV n).length = n * 9 := by
  induction n with
  | zero => rfl
  | succ n ih => rw [twoCells_succ, List.length_append, ih]; simp; omega
theorem twoCells_at (f : Nat → Aw.E) (PV : Nat → Value) (n j i : Nat) (hj : j < n) (hi : i < 9) : (twoCells f PV n)[j * 9 + i]? = (cell9 (f j) (PV j))[i]? := by
  induction n with
  | zero => omega
  | succ n ih =>
    rw [twoCells_succ]
    by_cases e : j = n
    · subst e
      rw [List.getElem?_append_right (by rw [twoCells_len]; omega), twoCells_len, show j * 9 + i - j * 9 = i by omega]
    · rw [List.getElem?_append_left (by rw [twoCells_len]; omega)]
      exact ih (by omega)
theorem twoCells_congr {f f' : Nat → Aw.E} {PV PV' : Nat → Value} {n : Nat} (h : ∀ j, j < n → f j = f' j ∧ PV j = PV' j) : twoCells f PV n = twoCells f' PV' n := by
  induction n with
  | zero => rfl
  | succ n ih => rw [twoCells_succ, twoCells_succ, ih (fun j hj => h j (by omega)), (h n (by omega)).1, (h n (by omega)).2]

theorem cells9 {w : World} {B : Nat} {c0 c1 c2 c3 c4 c5 c6 c7 c8 : Value} {t : TypeId} (H : w.heap[B]? = some (.cells #[c0, c1, c2, c3, c4, c5, c6, c7, c8] t (0, 0))) :
    w.cell? ⟨B, 0, none⟩ = some c0 ∧ w.cell? ⟨B, 1, none⟩ = some c1 ∧ w.cell? ⟨B, 2, none⟩ = some c2 ∧ w.cell? ⟨B, 3, none⟩ = some c3 ∧ w.cell? ⟨B, 4, none⟩ = some c4 ∧ w.cell? ⟨B, 5, none⟩ = some c5 ∧ w.cell? ⟨B, 6, none⟩ = some c6 ∧ w.cell? ⟨B, 7, none⟩ = some c7 ∧ w.cell? ⟨B, 8, none⟩ = some c8 := by
  refine ⟨?_, ?_, ?_, ?_, ?_, ?_, ?_, ?_, ?_⟩ <;> simp [World.cell?, H]

theorem put9 {w : World} {B : Nat} {c0 c1 c2 c3 c4 c5 c6 c7 c8 : Value} {t : TypeId} (H : w.heap[B]? = some (.cells #[c0, c1, c2, c3, c4, c5, c6, c7, c8] t (0, 0))) (d0 d1 d2 d3 d4 d5 d6 d7 d8 : Value) :
    (((((((((w.setCell ⟨B, 0, none⟩ d0).setCell ⟨B, 1, none⟩ d1).setCell ⟨B, 2, none⟩ d2).setCell ⟨B, 3, none⟩ d3).setCell ⟨B, 4, none⟩ d4).setCell ⟨B, 5, none⟩ d5).setCell ⟨B, 6, none⟩ d6).setCell ⟨B, 7, none⟩ d7).setCell ⟨B, 8, none⟩ d8).heap[B]? = some (.cells #[d0, d1, d2, d3, d4, d5, d6, d7, d8] t (0, 0)) := by
  have hlt := blk_lt H
  simp [World.setCell, Array.getElem?_modify, H]
theorem below9 {w : World} {b B : Nat} (h : b ≤ B) (d0 d1 d2 d3 d4 d5 d6 d7 d8 : Value) :
    Below b w (((((((((w.setCell ⟨B, 0, none⟩ d0).setCell ⟨B, 1, none⟩ d1).setCell ⟨B, 2, none⟩ d2).setCell ⟨B, 3, none⟩ d3).setCell ⟨B, 4, none⟩ d4).setCell ⟨B, 5, none⟩ d5).setCell ⟨B, 6, none⟩ d6).setCell ⟨B, 7, none⟩ d7).setCell ⟨B, 8, none⟩ d8) :=
  (((((((((Below.refl b w).setCell (p := ⟨B, 0, none⟩) h _).setCell (p := ⟨B, 1, none⟩) h _).setCell (p := ⟨B, 2, none⟩) h _).setCell (p := ⟨B, 3, none⟩) h _).setCell (p := ⟨B, 4, none⟩) h _).setCell (p := ⟨B, 5, none⟩) h _).setCell (p := ⟨B, 6, none⟩) h _).setCell (p := ⟨B, 7, none⟩) h _).setCell (p := ⟨B, 8, none⟩) h _

theorem share4 {F : Nat → Option Addr → Nat → World → Prop} {G : Nat → Option Addr → Nat → World → Prop} {P : Prop} (h : Hid (∀ q a c w, F q a c w → G q a c w) → P) (g : ∀ q a c w, F q a c w → G q a c w) : P := h g

theorem any_take {l : List Aw.E} {q : Nat} (p : Aw.E → Bool) (h : q < l.length) : (l.take (q + 1)).any p = ((l.take q).any p || p (lsE l q)) := by
  rw [Aw.take_next (lsE_at h), List.any_append]
  simp

/-- What 'met' says behind q couples. -/
def MetIs (mv : Value) (l : List Aw.E) (q : Nat) (c : Aw.E) : Prop := ∃ b, mv = .bool b ∧ (l.take q).any (Aw.same c) = b

/-- What 'spec.Apart' gives. -/
def ApS (w w' : World) (e : Ending) (f : Nat → Nat) (n m : Nat) (u u' : V) (L L' : Nat → Nat) (K X K' X' : Nat → Nat → V) : Prop :=
  ((OkG n u L K X ∧ OkG m u' L' K' X') ∧ ∃ v ans, e = .returned v ∧ Aw.SDone (Aw.sysOf n L K X L' K' X' f) ⟨u, u', []⟩ ans ∧ w'.ownsRow w.heap.size 24 4 v ans.length (keyCells ans)) ∨ (¬ (OkG n u L K X ∧ OkG m u' L' K' X') ∧ e = .returned (.slice none 0 0))

theorem sys_bound {f : Nat → Nat} {n m : Nat} {u u' : V} {L L' : Nat → Nat} {K X K' X' : Nat → Nat → V} (h : OkG n u L K X) (h' : OkG m u' L' K' X') {i : Nat} {l : List Aw.E} (hr : Aw.SReach (Aw.sysOf n L K X L' K' X' f) ⟨u, u', []⟩ i l) : l.length ≤ 8000001 ∧ (∀ e ∈ l, isV n e.a = true ∧ isV m e.b = true) ∧ (∀ e ∈ l, e.p.length ≤ i) := by
  have h1 := hr.len (Aw.sys_next h h') (Aw.sys_ix n m L K X L' K' X' f) (Aw.sys_few h h') ⟨h.root, h'.root⟩ rfl
  have h2 := (hr.wide (Aw.sys_next h h') (Aw.sys_ix n m L K X L' K' X' f) (Aw.sys_few h h') ⟨h.root, h'.root⟩ rfl).1
  have h3 : n * m ≤ 200 * 200 := Nat.mul_le_mul h.len h'.len
  exact ⟨by omega, h2.good, h2.path⟩

end Go.Proofs.YtgflalfiopnmnaaGreatDoor

namespace Go.Proofs.YtgflalfiopnmnaaGreatDoor
open Go.RowKit Vl Aw

/-- The table that a value is, or none. -/
def pOf (T : Nat → Nat) (x : V) : Option Addr := if x.k = 4 then some ⟨T x.a.toNat, 0, none⟩ else none
theorem assert_any {n : Nat} {v : V} (hv : isV n v = true) (T : Nat → Nat) (w : World) : (Instr.typeAssert (ifv T v) 54 107 true).run Tryz.prog w = .ok (.tuple #[.pointer (pOf T v), .bool (v.k == 4)]) w := by
  by_cases h4 : v.k = 4
  · rw [ifv_tab h4, assert_yes]
    unfold pOf
    rw [if_pos h4]
    simp [h4]
  · rw [assert_no hv h4]
    unfold pOf
    rw [if_neg h4]
    simp [h4]

set_option maxHeartbeats 1000000 in
/-- 'coupleOf'. -/
theorem coupleOf_any (T : Nat → Nat) {n : Nat} {x y : V} (hx : isV n x = true) (hy : isV n y = true) (w : World) :
    Calls Tryz.prog 74 #[ifv T x, ifv T y] w fun e w' => e = .returned (.tuple #[.agg #[.pointer (pOf T x), .pointer (pOf T y)], .bool (x.k == 4 && y.k == 4)]) ∧ Below w.heap.size w w' := by
  have a1 := assert_any hx T
  have a2 := assert_any hy T
  obtain ⟨xt, xv, hxv⟩ := ifv_form T x
  obtain ⟨yt, yv, hyv⟩ := ifv_form T y
  rw [hxv] at a1 ⊢
  rw [hyv] at a2 ⊢
  obtain ⟨px, hpx⟩ : ∃ p, pOf T x = p := ⟨_, rfl⟩
  obtain ⟨py, hpy⟩ : ∃ p, pOf T y = p := ⟨_, rfl⟩
  obtain ⟨bx, hbx⟩ : ∃ b, (x.k == 4) = b := ⟨_, rfl⟩
  obtain ⟨b2, hb2⟩ : ∃ b, (y.k == 4) = b := ⟨_, rfl⟩
  rw [hpx, hbx] at a1
  rw [hpy, hb2] at a2
  rw [hpx, hpy, hbx, hb2]
  clear hpx hpy hbx hb2 hxv hyv hx hy
  have HB : Hid (Below w.heap.size w (w.alloc (.cells #[.pointer px, .pointer py] 109))) := (Below.refl _ _).alloc (Nat.le_refl _) _
  obtain ⟨q0, q1, _⟩ := two_at (heap_alloc_new w (.cells #[.pointer px, .pointer py] 109))
  cases bx <;> cases b2
  all_goals
    go_enter Tryz.func74, Tryz.ntmps74
    go_wp2
    refine bodyPost_ret (v := .tuple #[.agg #[.pointer px, .pointer py], .bool _]) (by simp [results, Tryz.results74, go_sem, q0, q1]) rfl ⟨rfl, HB.out⟩

theorem neq_of_eql {P : Program} {t tx ty : TypeId} {vx vy : Value} {w : World} {b : Bool} (h : (binOp .eql t (.iface tx vx) (.iface ty vy)).run P w = .ok (.bool b) w) : (binOp .neq t (.iface tx vx) (.iface ty vy)).run P w = .ok (.bool (!b)) w := by
  have e1 : binOp .eql t (.iface tx vx) (.iface ty vy) = (do pure (.bool (← Op.equal t (.iface tx vx) (.iface ty vy)))) := rfl
  have e2 : binOp .neq t (.iface tx vx) (.iface ty vy) = (do pure (.bool (!(← Op.equal t (.iface tx vx) (.iface ty vy))))) := rfl
  rw [e1, Sem.run_bind] at h
  rw [e2, Sem.run_bind]
  generalize (Op.equal t (.iface tx vx) (.iface ty vy)).run P w = r at h ⊢
  cases r <;> simp [Result.andThen] at h ⊢
  exact h

theorem neq_ifv (T : Nat → Nat) {n : Nat} {x y : V} (hx : isV n x = true) (hy : isV n y = true) (w : World) (hT : ∀ j, j < n → ∃ cs t, w.heap[T j]? = some (.cells cs t (0, 0))) :
    (binOp .neq 54 (ifv T x) (ifv T y)).run Tryz.prog w = .ok (.bool (!(alike T x y))) w := by
  have h := eql_ifv T hx hy w hT
  obtain ⟨xt, xv, hxv⟩ := ifv_form T x
  obtain ⟨yt, yv, hyv⟩ := ifv_form T y
  rw [hxv, hyv] at h ⊢
  exact neq_of_eql h

set_option maxHeartbeats 1000000 in
/-- 'part'. -/
theorem part_any (T : Nat → Nat) {n : Nat} {x y : V} (hx : isV n x = true) (hy : isV n y = true) (w : World) (hT : ∀ j, j < n → ∃ cs t, w.heap[T j]? = some (.cells cs t (0, 0))) :
    Calls Tryz.prog 78 #[ifv T x, ifv T y] w fun e w' => e = .returned (.bool (!(x.k == 4 && y.k == 4) && !(alike T x y))) ∧ Below w.heap.size w w' := by
  have hcp := coupleOf_any T hx hy w
  have HNQ : Hid (∀ w', Below w.heap.size w w' → (binOp .neq 54 (ifv T x) (ifv T y)).run Tryz.prog w' = .ok (.bool (!(alike T x y))) w') := show ∀ _, _ from fun w' hb => neq_ifv T hx hy w' (fun j hj => by
    obtain ⟨cs, t, h⟩ := hT j hj
    exact ⟨cs, t, (hb.block _ (blk_lt h)).trans h⟩)
  obtain ⟨xt, xv, hxv⟩ := ifv_form T x
  obtain ⟨yt, yv, hyv⟩ := ifv_form T y
  rw [hxv, hyv] at hcp HNQ ⊢
  obtain ⟨bb, hbb⟩ : ∃ b, (x.k == 4 && y.k == 4) = b := ⟨_, rfl⟩
  obtain ⟨ba, hba⟩ : ∃ b, alike T x y = b := ⟨_, rfl⟩
  obtain ⟨px, hpx⟩ : ∃ p, pOf T x = p := ⟨_, rfl⟩
  obtain ⟨py, hpy⟩ : ∃ p, pOf T y = p := ⟨_, rfl⟩
  rw [hpx, hpy, hbb] at hcp
  rw [hba] at HNQ
  rw [hbb, hba]
  clear hpx hpy hbb hba hxv hyv hx hy hT
  go_enter Tryz.func78, Tryz.ntmps78
  go_wp2_with fail
  refine hcp.mono ?_
  clear hcp
  rintro e w1 ⟨rfl, hb1⟩
  have HB1 : Hid (Below w.heap.size w (w1.alloc (.cells #[.pointer px, .pointer py] 109))) := hb1.alloc hb1.size _
  have hnq := HNQ.out _ HB1.out
  clear hb1
  cases bb <;> cases ba
  all_goals
    go_wp2
    go_ret
    exact ⟨rfl, HB1.out⟩

set_option maxHeartbeats 1000000 in
set_option maxRecDepth 100000 in
/-- 'valueAt' of a table. -/
theorem valueAt_map (T M : Nat) (i : Int) (ord R : Value) (l : List (V × Value)) (k : V) (w : World) (HT : Hid (TabB w T M i ord)) (HM : Hid (MapIs w M l)) (HR : Hid ((findV k l).getD (.iface 180 (.agg #[])) = R)) :
    Calls Tryz.prog 79 #[.iface 107 (.pointer (some ⟨T, 0, none⟩)), .agg #[.int .i64 k.k, .int .i64 k.n, .string k.s, .int .i64 k.a]] w fun e w' => e = .returned R ∧ Below w.heap.size w w' := by
  obtain ⟨w0, hw0⟩ : ∃ w0, w0 = w.alloc (.cells #[.int .i64 k.k, .int .i64 k.n, .string k.s, .int .i64 k.a] 24) := ⟨_, rfl⟩
  have HB : Hid (Below w.heap.size w w0) := by rw [hw0]; exact (Below.refl _ _).alloc (Nat.le_refl _) _
  have HK : Hid (ValB w0 w.heap.size k) := by rw [hw0]; exact heap_alloc_new _ _
  have HT0 : Hid (TabB w0 T M i ord) := (HB.out.block T (blk_lt HT.out)).trans HT.out
  have HM0 : Hid (MapIs w0 M l) := HM.out.same (HB.out.block M HM.out.lt)
  have hta : ∀ w, (Instr.typeAssert (.iface 107 (.pointer (some ⟨T, 0, none⟩))) 54 107 true).run Tryz.prog w = .ok (.tuple #[.pointer (some ⟨T, 0, none⟩), .bool true]) w := fun _ => by kernel_rfl
  have hhk := hasKey_any T M i ord l k w0 HT0 HM0
  obtain ⟨c0, c1, c2, c3, _⟩ := cells4 HK.out
  rw [hw0] at c0 c1 c2 c3
  go_enter Tryz.func79, Tryz.ntmps79
  go_wp2_with fail
  rw [← hw0]
  refine hhk.mono ?_
  clear hhk hw0 c0 c1 c2 c3
  rintro e w1 ⟨rfl, hb1⟩
  have HT1 : Hid (TabB w1 T M i ord) := (hb1.block T (blk_lt HT0.out)).trans HT0.out
  have HM1 : Hid (MapIs w1 M l) := HM0.out.same (hb1.block M HM0.out.lt)
  have HK1 : Hid (ValB w1 w.heap.size k) := HK.out.below hb1
  have HB1 : Hid (Below w.heap.size w w1) := grw HB.out hb1
  clear hb1 HT0 HM0 HK HB HT HM
  cases hf : findV k l with
  | none =>
    rw [hf] at HR
    have HR' : Hid (R = .iface 180 (.agg #[])) := HR.out.symm
    clear HR hf
    go_wp2
    go_ret
    exact ⟨by rw [HR'.out]; rfl, HB1.out⟩
  | some x =>
    rw [hf] at HR
    have HR' : Hid (R = x) := HR.out.symm
    have m1 : (Instr.lookup 119 (.map (some M)) (.agg #[.int .i64 k.k, .int .i64 k.n, .string k.s, .int .i64 k.a]) false).run Tryz.prog w1.drew = .ok x w1.drew := by
      have := ((show MapIs w1.drew M l from HM1.out).lookup k).2
      rw [hf] at this
      exact this
    clear HR hf
    obtain ⟨_, t1, _, _⟩ := HT1.out.cells
    obtain ⟨c0, c1, c2, c3, _⟩ := cells4 HK1.out
    go_wp2
    go_region_held3 (fun w' => w'.cell? ⟨T, 1, none⟩ = some (.map (some M)) ∧ w'.cell? ⟨w.heap.size, 0, none⟩ = some (.int .i64 k.k) ∧ w'.cell? ⟨w.heap.size, 1, none⟩ = some (.int .i64 k.n) ∧ w'.cell? ⟨w.heap.size, 2, none⟩ = some (.string k.s) ∧ w'.cell? ⟨w.heap.size, 3, none⟩ = some (.int .i64 k.a) ∧ (Instr.lookup 119 (.map (some M)) (.agg #[.int .i64 k.k, .int .i64 k.n, .string k.s, .int .i64 k.a]) false).run Tryz.prog w' = .ok x w')
      (first | exact ⟨t1, c0, c1, c2, c3, m1⟩)
      (fail)
    clear m1 c0 c1 c2 c3 t1
    go_wp2
    go_ret
    exact ⟨by rw [HR'.out]; rfl, HB1.out.drew⟩

theorem ifv_zero (T : Nat → Nat) : ifv T zeroV = .iface 180 (.agg #[]) := rfl

/-- 'valueAt' of one of the tables. -/
theorem valueAt_tbs {n : Nat} {T M : Nat → Nat} {at_ : Nat → Int} {L : Nat → Nat} {K X : Nat → Nat → V} {r : Nat} (hr : r < n) (hone : ∀ a b, a < L r → b < L r → a ≠ b → K r a ≠ K r b) (k : V) (w : World) (HT : Tbs w n T M at_ L K X) :
    Calls Tryz.prog 79 #[.iface 107 (.pointer (some ⟨T r, 0, none⟩)), .agg #[.int .i64 k.k, .int .i64 k.n, .string k.s, .int .i64 k.a]] w fun e w' => e = .returned (ifv T (atKey (L r) (K r) (X r) k)) ∧ Below w.heap.size w w' := by
  obtain ⟨ord, h1, _⟩ := HT.tab r hr
  obtain ⟨l, h2, h3⟩ := HT.map r hr
  refine valueAt_map (T r) (M r) (at_ r) ord _ l k w h1 h2 ?_
  show _ = _
  by_cases hk : ∃ c, c < L r ∧ K r c = k
  · obtain ⟨c, hc, rfl⟩ := hk
    rw [h3 c hc, atKey_hit hc (eqV_iff.2 rfl) (fun i hi => by
      cases e : eqV (K r i) (K r c) with
      | false => rfl
      | true => exact absurd (eqV_iff.1 e) (hone i c (by omega) hc (by omega)))]
    rfl
  · rw [HT.gone r hr l h2 k (fun c hc e => hk ⟨c, hc, e⟩), atKey_none (fun j hj => by
      cases e : eqV (K r j) k with
      | false => rfl
      | true => exact absurd ⟨j, hj, eqV_iff.1 e⟩ hk)]
    rfl

end Go.Proofs.YtgflalfiopnmnaaGreatDoor

namespace Go.Proofs.YtgflalfiopnmnaaGreatDoor
open Go.RowKit Vl Aw

theorem ko_less {a b : V} (ha : isK a = true) (hb : isK b = true) : decide (ko a b < 0) = less a b := by
  unfold ko
  rw [ha, hb, if_pos (by rfl : (true && true) = true)]
  cases less a b
  · cases less b a <;> simp
  · simp

set_option maxHeartbeats 2000000 in
set_option maxRecDepth 100000 in
/-- 'slices.MinFunc' at keys. -/
theorem minFunc_any (B L cp : Nat) (K : Nat → V) (w : World) (hL : L ≤ 1000) (h0 : 0 < L) (HK : Hid (∀ c, c < L → isK (K c) = true)) (HP : Hid (ValsAt w (some ⟨B, 0, none⟩) L B 0 K)) :
    Calls Tryz.prog 80 #[.slice (some ⟨B, 0, none⟩) L cp, .func (.func 72) #[] #[]] w fun e w' => (∃ k, e = .returned (vAgg k) ∧ (∃ j, j < L ∧ K j = k) ∧ ∀ j, j < L → less (K j) k = false) ∧ Below w.heap.size w w' := by
  obtain ⟨k0, HK0⟩ : ∃ k, Hid (K 0 = k) := ⟨_, rfl⟩
  have A2 := alloc2 w (.cells #[.int .i64 0, .int .i64 0, .string ⟨#[]⟩, .int .i64 0] 24) (.cells #[.int .i64 k0.k, .int .i64 k0.n, .string k0.s, .int .i64 k0.a] 24)
  obtain ⟨w1, hw1⟩ : ∃ w1, w1 = (w.alloc (.cells #[.int .i64 0, .int .i64 0, .string ⟨#[]⟩, .int .i64 0] 24)).alloc (.cells #[.int .i64 k0.k, .int .i64 k0.n, .string k0.s, .int .i64 k0.a] 24) := ⟨_, rfl⟩
  rw [← hw1] at A2
  have HR1 : Hid (ValB w1 w.heap.size zeroV) := A2.1
  have HM1 : Hid (ValB w1 (w.heap.size + 1) k0) := A2.2.1
  have HB1 : Hid (Below w.heap.size w w1) := A2.2.2.2
  clear A2
  obtain ⟨c0, c1, c2, c3⟩ := HP.out.cells (c := 0) h0
  rw [HK0.out] at c0 c1 c2 c3
  simp only [Nat.zero_add, Nat.zero_mul] at c0 c1 c2 c3
  have hBl : B < w.heap.size := World.block_lt_of_cell? _ _ c0
  have HA0 : Hid (∀ j, j < 1 → less (K j) k0 = false) := show ∀ j, _ from fun j hj => by
    have e : j = 0 := by omega
    rw [e, HK0.out]
    exact Aw.lt_irrefl _
  have hlt : ¬ ((L : Int) < 1) := by omega
  have hb0 : (0 : Int) ≤ 0 ∧ (0 : Int) < (L : Int) := by omega
  go_enter Tryz.func80, Tryz.ntmps80
  go_wp2
  rw [← hw1]
  clear hw1 c0 c1 c2 c3 hlt hb0 hBl
  go_loopw [6] (fun ii wr => ∃ (c : Nat) (k : V), 1 ≤ c ∧ c ≤ L ∧ ii = .int .i64 c ∧ Hid (∃ j, j < c ∧ K j = k) ∧ Hid (∀ j, j < c → less (K j) k = false) ∧ Hid (ValB wr w.heap.size zeroV) ∧ Hid (ValB wr (w.heap.size + 1) k) ∧ Hid (Below w.heap.size w wr)) (fun ii _ => L - (intOf ii).toNat)
  case atStart => exact ⟨1, k0, Nat.le_refl _, h0, rfl, ⟨0, by omega, HK0.out⟩, HA0, HR1, HM1, HB1⟩
  case round =>
    obtain ⟨c, k, hc1, hc, rfl, HE, HA, HR, HM, HB⟩ := hrel
    clear HR1 HM1 HB1
    obtain ⟨m0, m1, m2, m3, mz⟩ := cells4 HM.out
    by_cases hlc : c < L
    · obtain ⟨c0, c1, c2, c3⟩ := (HP.out.below HB.out).cells hlc
      obtain ⟨kc, HKC⟩ : ∃ kc, Hid (K c = kc) := ⟨_, rfl⟩
      rw [HKC.out] at c0 c1 c2 c3
      simp only [Nat.zero_add] at c0 c1 c2 c3
      have hbc : (0 : Int) ≤ (c : Int) ∧ (c : Int) < (L : Int) := by omega
      have hkc : isK kc = true := by rw [← HKC.out]; exact HK.out c hlc
      have hkk : isK k = true := by obtain ⟨j, hj, e⟩ := HE.out; rw [← e]; exact HK.out j (by omega)
      have hcall := implKo_any kc k wr.drew
      obtain ⟨kq, hkq⟩ : ∃ kq, ko kc k = kq := ⟨_, rfl⟩
      have hls := ko_less hkc hkk
      rw [hkq] at hcall hls
      obtain ⟨bl, hbl⟩ : ∃ bl, less kc k = bl := ⟨_, rfl⟩
      rw [hbl] at hls
      have HBL : Hid (less kc k = bl) := hbl
      have C4 : Hid (∀ w', Below wr.heap.size wr w' → w'.cell? ⟨B, c * 4, none⟩ = some (.int .i64 kc.k) ∧ w'.cell? ⟨B, c * 4 + 1, none⟩ = some (.int .i64 kc.n) ∧ w'.cell? ⟨B, c * 4 + 2, none⟩ = some (.string kc.s) ∧ w'.cell? ⟨B, c * 4 + 3, none⟩ = some (.int .i64 kc.a)) := show ∀ _, _ from fun w' hb => ⟨cellB c0 w' hb, cellB c1 w' hb, cellB c2 w' hb, cellB c3 w' hb⟩
      have M4 : Hid (∀ w', Below wr.heap.size wr w' → w'.cell? ⟨w.heap.size + 1, 0, none⟩ = some (.int .i64 k.k) ∧ w'.cell? ⟨w.heap.size + 1, 1, none⟩ = some (.int .i64 k.n) ∧ w'.cell? ⟨w.heap.size + 1, 2, none⟩ = some (.string k.s) ∧ w'.cell? ⟨w.heap.size + 1, 3, none⟩ = some (.int .i64 k.a)) := show ∀ _, _ from fun w' hb => ⟨cellB m0 w' hb, cellB m1 w' hb, cellB m2 w' hb, cellB m3 w' hb⟩
      clear hkq hbl c0 c1 c2 c3 m0 m1 m2 m3 mz hkc hkk
      go_wp2
      refine wp_region_held_drew (S := fun y => Below wr.heap.size wr y) (by kernel_rfl) (Below.refl _ _).drew (fun hHeld => ?_)
      refine wpAnyH_take (i := 0) (v := .func (.func 72) #[] #[]) rfl (by kernel_rfl) (by kernel_rfl) (by kernel_rfl) (fun _ _ _ h => h) (Or.inl ⟨by rfl, fun w hSw => ?_⟩) hHeld ?_
      · first | rfl | go_simp
      simp only [Act.put, List.setIfInBounds_toArray, List.set_cons_zero, List.set_cons_succ, List.getElem_toArray, List.getElem_cons_zero]
      refine wpAnyH_take (i := 1) (v := .slice (some ⟨B, 0, none⟩) L cp) rfl (by kernel_rfl) (by kernel_rfl) (by kernel_rfl) (fun _ _ _ h => h) (Or.inl ⟨by rfl, fun w hSw => ?_⟩) hHeld ?_
      · first | rfl | go_simp
      simp only [Act.put, List.setIfInBounds_toArray, List.set_cons_zero, List.set_cons_succ, List.getElem_toArray, List.getElem_cons_zero, List.getElem_cons_succ]
      refine wpAnyH_take (i := 2) (v := .int .i64 (c : Nat)) rfl (by kernel_rfl) (by kernel_rfl) (by kernel_rfl) (fun _ _ _ h => h) (Or.inl ⟨by rfl, fun w hSw => ?_⟩) hHeld ?_
      · first | rfl | go_simp
      simp only [Act.put, List.setIfInBounds_toArray, List.set_cons_zero, List.set_cons_succ, List.getElem_toArray, List.getElem_cons_zero, List.getElem_cons_succ]
      refine wpAnyH_take (i := 3) (v := .pointer (some ⟨B, c * 4, none⟩)) rfl (by kernel_rfl) (by kernel_rfl) (by kernel_rfl) (fun _ _ _ h => h) (Or.inl ⟨by rfl, fun w hSw => ?_⟩) hHeld ?_
      · first | rfl | go_simp
      simp only [Act.put, List.setIfInBounds_toArray, List.set_cons_zero, List.set_cons_succ, List.getElem_toArray, List.getElem_cons_zero, List.getElem_cons_succ]
      refine wpAnyH_take (i := 4) (v := .agg #[.int .i64 kc.k, .int .i64 kc.n, .string kc.s, .int .i64 kc.a]) rfl (by kernel_rfl) (by kernel_rfl) (by kernel_rfl) (fun _ _ _ h => h) (Or.inl ⟨by rfl, fun w hSw => ?_⟩) hHeld ?_
      · obtain ⟨q0, q1, q2, q3⟩ := C4.out w hSw; first | rfl | go_simp
      simp only [Act.put, List.setIfInBounds_toArray, List.set_cons_zero, List.set_cons_succ, List.getElem_toArray, List.getElem_cons_zero, List.getElem_cons_succ]
      refine wpAnyH_take (i := 5) (v := .agg #[.int .i64 k.k, .int .i64 k.n, .string k.s, .int .i64 k.a]) rfl (by kernel_rfl) (by kernel_rfl) (by kernel_rfl) (fun _ _ _ h => h) (Or.inl ⟨by rfl, fun w hSw => ?_⟩) hHeld ?_
      · obtain ⟨q0, q1, q2, q3⟩ := M4.out w hSw; first | rfl | go_simp
      simp only [Act.put, List.setIfInBounds_toArray, List.set_cons_zero, List.set_cons_succ, List.getElem_toArray, List.getElem_cons_zero, List.getElem_cons_succ]
      refine wpAnyH_ready (rs := [6]) (by kernel_rfl) (by simp) ?_
      refine AllReadyH.cons rfl (fun KK hK' => ?_) AllReadyH.nil
      go_simp
      refine hcall.mono ?_
      clear hcall
      rintro e w5 ⟨rfl, hb5⟩
      have hs5 : Below wr.heap.size wr w5 := grw hHeld hb5
      have HR5 : Hid (ValB w5 w.heap.size zeroV) := HR.out.below hs5
      have HM5 : Hid (ValB w5 (w.heap.size + 1) k) := HM.out.below hs5
      have HB5 : Hid (Below w.heap.size w w5) := grw HB.out hs5
      have HC5 : Hid _ := C4.out w5 hs5
      refine hK'.out _ _ hs5 (fun hHeld => ?_)
      clear hK' hb5
      refine wpAnyH_take (i := 7) (v := .bool bl) rfl (by kernel_rfl) (by kernel_rfl) (by kernel_rfl) (fun _ _ _ h => h) (Or.inl ⟨by rfl, fun w hSw => ?_⟩) hHeld ?_
      · have hq := hls; first | rfl | go_simp
      simp only [Act.put, List.setIfInBounds_toArray, List.set_cons_zero, List.set_cons_succ, List.getElem_toArray, List.getElem_cons_zero, List.getElem_cons_succ]
      refine wpAnyH_done (by kernel_rfl) ?_ _
      clear hHeld hs5 C4 M4 HR HM HB hls
      cases bl
      · have HA5 : Hid (∀ j, j < c + 1 → less (K j) k = false) := show ∀ j, _ from fun j hj => by
          by_cases e : j = c
          · rw [e, HKC.out]; exact HBL.out
          · exact HA.out j (by omega)
        have HE5 : Hid (∃ j, j < c + 1 ∧ K j = k) := by obtain ⟨j, hj, e⟩ := HE.out; exact ⟨j, by omega, e⟩
        go_wp2
        go_roundw
        case rel => exact ⟨c + 1, k, by omega, by omega, by go_num, HE5, HA5, HR5, HM5, HB5⟩
        case measure => simp [intOf]; omega
      · have HA5 : Hid (∀ j, j < c + 1 → less (K j) kc = false) := show ∀ j, _ from fun j hj => by
          by_cases e : j = c
          · rw [e, HKC.out]; exact Aw.lt_irrefl _
          · cases e2 : less (K j) kc with
            | false => rfl
            | true =>
              have h1 := Aw.lt_trans e2 HBL.out
              rw [HA.out j (by omega)] at h1
              cases h1
        have HE5 : Hid (∃ j, j < c + 1 ∧ K j = kc) := ⟨c, by omega, HKC.out⟩
        obtain ⟨q0, q1, q2, q3⟩ := HC5.out
        obtain ⟨m0, m1, m2, m3, mz⟩ := cells4 HM5.out
        go_wp2
        obtain ⟨w6, hw6⟩ : ∃ w6, w6 = (((w5.setCell ⟨w.heap.size + 1, 0, none⟩ (.int .i64 kc.k)).setCell ⟨w.heap.size + 1, 1, none⟩ (.int .i64 kc.n)).setCell ⟨w.heap.size + 1, 2, none⟩ (.string kc.s)).setCell ⟨w.heap.size + 1, 3, none⟩ (.int .i64 kc.a) := ⟨_, rfl⟩
        have HM6 : Hid (ValB w6 (w.heap.size + 1) kc) := by rw [hw6]; exact HM5.out.put kc
        have hs6 : Only (fun k => k = w.heap.size + 1) w5 w6 := by rw [hw6]; exact ((((Only.refl (fun k => k = w.heap.size + 1) w5).set (p := ⟨w.heap.size + 1, 0, none⟩) rfl _).set (p := ⟨w.heap.size + 1, 1, none⟩) rfl _).set (p := ⟨w.heap.size + 1, 2, none⟩) rfl _).set (p := ⟨w.heap.size + 1, 3, none⟩) rfl _
        have HR6 : Hid (ValB w6 w.heap.size zeroV) := (hs6.block _ (blk_lt HR5.out) (by omega)).trans HR5.out
        have HB6 : Hid (Below w.heap.size w w6) := HB5.out.trans (hs6.toBelow (fun k e => by omega) HB5.out.size)
        rw [← hw6]
        clear hw6 q0 q1 q2 q3 m0 m1 m2 m3 mz hs6
        go_roundw
        case rel => exact ⟨c + 1, kc, by omega, by omega, by go_num, HE5, HA5, HR6, HM6, HB6⟩
        case measure => simp [intOf]; omega
    · obtain rfl : L = c := by omega
      obtain ⟨r0, r1, r2, r3, rz⟩ := cells4 HR.out
      go_wp2
      obtain ⟨q0, q1, q2, q3, _⟩ := cells4 (HR.out.put k)
      refine bodyPost_ret (v := vAgg k) (by simp [results, Tryz.results80, go_sem, q0, q1, q2, q3]) rfl ⟨⟨k, rfl, HE.out, HA.out⟩, ?_⟩
      exact HB.out.trans (set4_below.mono (by omega))

set_option maxHeartbeats 2000000 in
set_option maxRecDepth 100000 in
/-- 'slices.Grow' of nothing. -/
theorem growV_any (n : Nat) (w : World) (hn : n ≤ 1000) :
    Calls Tryz.prog 122 #[.slice none 0 0, .int .i64 (n : Nat)] w fun e w' => (∃ v, e = .returned v ∧ w'.ownsRow w.heap.size 24 4 v 0 []) ∧ Below w.heap.size w w' := by
  by_cases h0 : n = 0
  · subst h0
    go_enter Tryz.func122, Tryz.ntmps122
    go_wp2
    go_ret
    exact ⟨⟨_, rfl, World.ownsRow_nil _ _ _ _⟩, Below.refl _ _⟩
  · obtain ⟨iv, hi, hz0, hz1, hz2⟩ := info_parts infoV
    have hint : Tryz.prog.underlying 3 = some (.int .i64) := by kernel_rfl
    have hrun := Lib.run_append_nil_zeros (P := Tryz.prog) w 42 3 42 24 iv _ .i64 .i64 Tryz.underlying42 hint hi hz0 n (by omega) (by omega) (by omega) (by rw [hz2]; omega)
    have hge := grownCap_ge w n 0 24
    have hle := grownCap_le_maxLen w n 0 24 (by unfold maxLen; omega)
    obtain ⟨gc, hgc⟩ : ∃ gc, grownCap w n 0 24 = gc := ⟨_, rfl⟩
    rw [hgc] at hrun hge hle
    obtain ⟨w1, hw1⟩ : ∃ w1, w1 = w.drew.alloc (.cells (Builtin.zeroCells (Value.agg #[.int .i64 0, .int .i64 0, .string ⟨#[]⟩, .int .i64 0]).cells n ++ Builtin.zeroCells (Value.agg #[.int .i64 0, .int .i64 0, .string ⟨#[]⟩, .int .i64 0]).cells (gc - n)) 24) := ⟨_, rfl⟩
    rw [← hw1] at hrun
    have HO : Hid (w1.ownsRow w.heap.size 24 4 (.slice (some ⟨w.heap.size, 0, none⟩) 0 gc) 0 []) := by
      refine ⟨rfl, Or.inr ⟨w.heap.size, gc, _, rfl, Nat.le_refl _, by rw [hw1]; exact heap_alloc_new w.drew _, Nat.zero_le _, hle, ?_, by simp⟩⟩
      simp only [Array.size_append, size_zeroCells]
      show n * 4 + (gc - n) * 4 = gc * 4
      omega
    have HB : Hid (Below w.heap.size w w1) := by rw [hw1]; exact (Below.refl _ _).drew.alloc (Nat.le_refl _) _
    have hpos : (0 : Int) < (n : Int) := by omega
    have hneg : ¬ ((n : Int) < 0) := by omega
    have hgl : gc ≤ 9223372036854775807 := by unfold maxLen at hle; omega
    clear hw1 hgc h0
    go_enter Tryz.func122, Tryz.ntmps122
    go_wp2_with (at_builtin; refine Lib.wpList_append_run _ rfl (.tmp 20) (.tmp 21) _ _ rfl _ _ rfl rfl _ _ hrun ?_)
    go_wp2
    go_ret
    exact ⟨⟨_, rfl, HO.out⟩, HB.out⟩

end Go.Proofs.YtgflalfiopnmnaaGreatDoor

namespace Go.Proofs.YtgflalfiopnmnaaGreatDoor
open Go.RowKit Vl Aw

theorem keyCells_one (ks : List V) : ∀ u ∈ keyCells ks, u.oneCell' = true := by
  intro u hu
  unfold keyCells at hu
  obtain ⟨v, _, hv⟩ := List.mem_flatMap.1 hu
  simp at hv
  rcases hv with rfl | rfl | rfl | rfl <;> rfl

/-- A row of keys is put behind another. -/
theorem run_append_row {w : World} {base b0 n L : Nat} {v x : Value} {xs : List Value} {ks : List V} (ty : TypeId) (hown : w.ownsRow base 24 4 v n xs) (hx : w.ownsRow b0 24 4 x L (keyCells ks)) (h1 : n + L ≤ 100000) (hb : base ≤ w.heap.size) :
    ∃ v' w', (Builtin.append_ #[42, 42] ty #[v, x]).run Tryz.prog w = .ok v' w' ∧ w'.ownsRow base 24 4 v' (n + L) (xs ++ keyCells ks) ∧ w.grownBy w' v.ownBlock := by
  obtain ⟨iv, hi, hz0, hz1, hz2⟩ := info_parts infoV
  have hc : ∀ j u, (keyCells ks)[j]? = some u → ∃ g cap, x = .slice (some ⟨g, 0, none⟩) L cap ∧ w.cell? ⟨g, j, none⟩ = some u := fun j u hu => owns_cell hx hu
  rcases hx.2 with ⟨rfl, rfl⟩ | ⟨g, cap, cur, rfl, _⟩
  · have hk : keyCells ks = [] := List.eq_nil_of_length_eq_zero (by have := hx.1; omega)
    rw [hk, List.append_nil]
    rcases hown.2 with ⟨rfl, rfl⟩ | ⟨g, cap, cur, rfl, _, _, hle, _⟩
    · exact ⟨_, _, run_append_nothing w _ _ ty _ iv Tryz.underlying42 hi none 0 0 (Nat.le_refl _) _ (Src.ofNil w Tryz.underlying42 0), hown, ⟨rfl, rfl, rfl, Nat.le_refl _, fun _ _ _ => rfl⟩⟩
    · exact ⟨_, _, run_append_nothing w _ _ ty _ iv Tryz.underlying42 hi (some ⟨g, 0, none⟩) n cap hle _ (Src.ofNil w Tryz.underlying42 0), hown, ⟨rfl, rfl, rfl, Nat.le_refl _, fun _ _ _ => rfl⟩⟩
  · obtain ⟨v', w', hr, h2, h3, _⟩ := run_append_own_at (P := Tryz.prog) w base 42 ty 24 iv (.agg #[.int .i64 0, .int .i64 0, .string ⟨#[]⟩, .int .i64 0]) 4 40 Tryz.underlying42 hi hz0 hz1 hz2 (by rfl) (by omega) v n xs hown ⟨g, 0, none⟩ L cap (keyCells ks) hx.1 (fun j u hu => by
      obtain ⟨g', cap', e, h⟩ := hc j u hu
      cases e
      have hadd : (⟨g, 0, none⟩ : Addr).add j = ⟨g, j, none⟩ := by unfold Addr.add; split <;> simp_all
      rw [hadd]
      exact h) (keyCells_one ks) (by unfold maxLen; omega) (by omega) hb
    exact ⟨v', w', hr, h2, h3⟩

/-- Rows one behind the other. -/
def cat (SL : Nat → Nat) (SK : Nat → Nat → V) : Nat → List V
  | 0 => []
  | q + 1 => cat SL SK q ++ keys (SK q) (SL q)
theorem keyCells_app (a b : List V) : keyCells (a ++ b) = keyCells a ++ keyCells b := by simp [keyCells]

set_option maxHeartbeats 2000000 in
set_option maxRecDepth 100000 in
/-- 'slices.Concat' at keys. -/
theorem concat_any (m gb : Nat) (SV : Nat → Value) (SL : Nat → Nat) (SK : Nat → Nat → V) (w : World) (hm : m ≤ 2) (HL : Hid (∀ q, q < m → SL q ≤ 100)) (HC : Hid (∀ q, q < m → w.cell? ⟨gb, q, none⟩ = some (SV q))) (HO : Hid (∀ q, q < m → w.ownsRow 0 24 4 (SV q) (SL q) (keyCells (keys (SK q) (SL q))))) :
    Calls Tryz.prog 77 #[.slice (some ⟨gb, 0, none⟩) m m] w fun e w' => (∃ v, e = .returned v ∧ w'.ownsRow w.heap.size 24 4 v (cat SL SK m).length (keyCells (cat SL SK m))) ∧ Below w.heap.size w w' := by
  have HLen : Hid (∀ q, q ≤ m → (cat SL SK q).length ≤ q * 100) := show ∀ q, _ from fun q => by
    induction q with
    | zero => intro _; simp [cat]
    | succ q ih =>
      intro hq
      have h1 := ih (by omega)
      have h2 := HL.out q (by omega)
      simp only [cat, List.length_append, keys_len]
      omega
  go_enter Tryz.func77, Tryz.ntmps77
  go_wp2
  go_loopw [3, 11] (fun sv ii wr => ∃ q : Nat, q ≤ m ∧ ii = .int .i64 q ∧ sv = .int .i64 ((cat SL SK q).length : Nat) ∧ Hid (Below w.heap.size w wr)) (fun _ ii _ => m - (intOf ii).toNat)
  case atStart => exact ⟨0, Nat.zero_le _, rfl, rfl, Below.refl _ _⟩
  case round =>
    obtain ⟨q, hq, rfl, rfl, HB⟩ := hrel
    by_cases hlt : q < m
    · obtain ⟨sa, sc, hsv, _⟩ := owns_form (HO.out q hlt)
      have c0 := HC.out q hlt
      rw [hsv] at c0
      replace c0 := (HB.out.cell (World.block_lt_of_cell? _ _ c0)).trans c0
      have hln := HLen.out q hq
      have hl2 := HL.out q hlt
      obtain ⟨cl, hcl⟩ : ∃ cl, (cat SL SK q).length = cl := ⟨_, rfl⟩
      obtain ⟨sl, hsl⟩ : ∃ sl, SL q = sl := ⟨_, rfl⟩
      have HNX : Hid ((cat SL SK (q + 1)).length = cl + sl) := by show _ = _; simp only [cat, List.length_append, keys_len, hcl, hsl]
      rw [hcl] at hln
      rw [hsl] at hl2 c0
      rw [hcl]
      have hwr : IntKind.i64.wrap ((cl : Int) + (sl : Int)) = ((cl + sl : Nat) : Int) := by rw [IntKind.wrap_i64]; omega
      have hng : ¬ (((cl + sl : Nat) : Int) < 0) := by omega
      have hbq : (0 : Int) ≤ (q : Int) ∧ (q : Int) < (m : Int) := by omega
      clear hsv hcl hsl
      go_wp2
      go_roundw
      case rel => exact ⟨q + 1, by omega, by go_num, by rw [HNX.out]; first | rfl | simp, HB⟩
      case measure => simp [intOf]; omega
    · obtain rfl : m = q := by omega
      have hln := HLen.out m (Nat.le_refl _)
      obtain ⟨cl, hcl⟩ : ∃ cl, (cat SL SK m).length = cl := ⟨_, rfl⟩
      have HCL : Hid ((cat SL SK m).length = cl) := hcl
      rw [hcl] at hln
      rw [hcl]
      have hgr := growV_any cl wr (by omega)
      clear hcl
      go_wp2_with fail
      refine hgr.mono ?_
      clear hgr
      rintro e w1 ⟨⟨gv, rfl, hg1⟩, hb1⟩
      have HB1 : Hid (Below w.heap.size w w1) := grw HB.out hb1
      have HG1 : Hid (w1.ownsRow w.heap.size 24 4 gv (cat SL SK 0).length (keyCells (cat SL SK 0))) := owns_mono hg1 HB.out.size
      clear hb1 hg1 HB
      go_wp2
      go_loopw [6, 27] (fun ov ii wr => ∃ q : Nat, q ≤ m ∧ ii = .int .i64 q ∧ Hid (wr.ownsRow w.heap.size 24 4 ov (cat SL SK q).length (keyCells (cat SL SK q))) ∧ Hid (Below w.heap.size w wr)) (fun _ ii _ => m - (intOf ii).toNat)
      case atStart => exact ⟨0, Nat.zero_le _, rfl, HG1, HB1⟩
      case round =>
        obtain ⟨q, hq2, rfl, HO2, HB⟩ := hrel
        clear HG1 HB1
        by_cases hlt2 : q < m
        · obtain ⟨sa, sc, hsv, hsk⟩ := owns_form (HO.out q hlt2)
          have c0 := HC.out q hlt2
          have hrow := HO.out q hlt2
          replace hrow : wr.ownsRow 0 24 4 (SV q) (SL q) (keyCells (keys (SK q) (SL q))) := ⟨hrow.1, by
            rcases hrow.2 with h | ⟨g, cap, cur, h1, h2, h3, h4⟩
            · exact Or.inl h
            · exact Or.inr ⟨g, cap, cur, h1, h2, (HB.out.block _ (blk_lt h3)).trans h3, h4⟩⟩
          have hln := HLen.out q (by omega)
          have hl2 := HL.out q hlt2
          obtain ⟨v', w', hr, hown', hgr'⟩ := run_append_row 42 HO2.out hrow (by omega) HB.out.size
          rw [hsv] at c0 hr
          replace c0 := (HB.out.cell (World.block_lt_of_cell? _ _ c0)).trans c0
          have hbel : Below w.heap.size wr w' := below_grown HO2.out hgr' HB.out.size
          have HO3 : Hid (w'.ownsRow w.heap.size 24 4 v' (cat SL SK (q + 1)).length (keyCells (cat SL SK (q + 1)))) := by
            show World.ownsRow _ _ _ _ _ _ _
            simp only [cat, List.length_append, keys_len, keyCells_app]
            exact hown'
          have HB3 : Hid (Below w.heap.size w w') := HB.out.trans hbel
          obtain ⟨oa, oc, rfl, _⟩ := owns_form HO2.out
          obtain ⟨va, vc, hv', _⟩ := owns_form hown'
          have hbq : (0 : Int) ≤ (q : Int) ∧ (q : Int) < (m : Int) := by omega
          rw [hv'] at hr HO3
          clear hsv hsk hrow hown' hgr' hbel hv' HO2
          go_wp2_with (at_builtin; refine Lib.wpList_append_run _ rfl (.tmp 31) (.tmp 32) _ _ rfl _ _ rfl rfl _ _ hr ?_)
          clear hr c0
          go_wp2
          go_roundw
          case rel => exact ⟨q + 1, by omega, by go_num, HO3, HB3⟩
          case measure => simp [intOf]; omega
        · obtain rfl : m = q := by omega
          go_wp2
          go_ret
          exact ⟨⟨_, rfl, HO2.out⟩, HB.out⟩

end Go.Proofs.YtgflalfiopnmnaaGreatDoor
