import Derived.Test.YtgflalfiopnmnaaGreatDoorM0
import Derived.Test.YtgflalfiopnmnaaGreatDoorM19
import Derived.Test.YtgflalfiopnmnaaGreatDoorM9
import Derived.Test.YtgflalfiopnmnaaGreatDoorM10
import Derived.Test.YtgflalfiopnmnaaGreatDoorM23
import Derived.Test.YtgflalfiopnmnaaGreatDoorM11
import Derived.Test.YtgflalfiopnmnaaGreatDoorM3
namespace Go.Proofs.YtgflalfiopnmnaaGreatDoor
open Go.RowKit Vl

set_option maxHeartbeats 4000000 in
set_option maxRecDepth 100000 in
theorem l3both_any (u u' : V) (ta ta' : Option Addr) (n cp TB TO m cp' TB' TO' : Nat) (A A' : Nat → Option Addr) (L C RB RO L' C' RB' RO' : Nat → Nat) (K X K' X' : Nat → Nat → V) (w : World) (hn : n ≤ 200) (hm : m ≤ 200) (HL' : Hid (∀ r, r < m → L' r ≤ 100)) (HG' : Hid (Good m L' X')) (HT : Hid (TabsAt w ta n TB TO A L C RB RO K X)) (HT' : Hid (TabsAt w ta' m TB' TO' A' L' C' RB' RO' K' X')) :
    Calls Tryz.prog 46 #[.agg #[.int .i64 u.k, .int .i64 u.n, .string u.s, .int .i64 u.a, .slice ta n cp], .agg #[.int .i64 u'.k, .int .i64 u'.n, .string u'.s, .int .i64 u'.a, .slice ta' m cp']] w fun e w' => (∃ (oa : Option Addr) (oc OB : Nat) (A2 : Nat → Option Addr) (C2 RB2 RO2 : Nat → Nat), e = .returned (.slice oa (n + m) oc) ∧ TabsAt w' oa (n + m) OB 0 A2 (jn n L L') C2 RB2 RO2 (jn n K K') (jn n X (fun j c => sh n (X' j c)))) ∧ Below w.heap.size w w' := by
  have A2 := alloc2 w (.cells #[.int .i64 u.k, .int .i64 u.n, .string u.s, .int .i64 u.a, .slice ta n cp] 27) (.cells #[.int .i64 u'.k, .int .i64 u'.n, .string u'.s, .int .i64 u'.a, .slice ta' m cp'] 27)
  obtain ⟨w1, hw1⟩ : ∃ w1, w1 = (w.alloc (.cells #[.int .i64 u.k, .int .i64 u.n, .string u.s, .int .i64 u.a, .slice ta n cp] 27)).alloc (.cells #[.int .i64 u'.k, .int .i64 u'.n, .string u'.s, .int .i64 u'.a, .slice ta' m cp'] 27) := ⟨_, rfl⟩
  rw [← hw1] at A2
  have HB1 : Hid (Below w.heap.size w w1) := A2.2.2.2
  have G1 : Hid (w1.heap[w.heap.size]? = some (.cells #[.int .i64 u.k, .int .i64 u.n, .string u.s, .int .i64 u.a, .slice ta n cp] 27 (0, 0))) := A2.1
  have G2 : Hid (w1.heap[w.heap.size + 1]? = some (.cells #[.int .i64 u'.k, .int .i64 u'.n, .string u'.s, .int .i64 u'.a, .slice ta' m cp'] 27 (0, 0))) := A2.2.1
  clear A2
  obtain ⟨it, hti, ht0, ht1, ht2⟩ := info_parts Tryz.info37
  obtain ⟨ip, hpi, hp0, hp1, hp2⟩ := info_parts Tryz.info39
  go_enter Tryz.func46, Tryz.ntmps46
  go_wp2
  rw [← hw1]
  clear hw1
  obtain ⟨b1, hb1⟩ : ∃ b, w1.heap.size = b := ⟨_, rfl⟩
  have HBS : Hid (w1.heap.size = b1) := hb1
  go_loopw [5, 16] (fun sv ii wr => ∃ i : Nat, i ≤ n ∧ ii = .int .i64 i ∧ Hid (wr.ownsRow b1 37 1 sv i ((List.range i).map fun r => .slice (A r) (L r) (C r))) ∧ Hid (Below b1 w1 wr)) (fun _ ii _ => n - (intOf ii).toNat)
  case atStart => exact ⟨0, Nat.zero_le _, rfl, World.ownsRow_nil _ _ _ _, Below.refl _ _⟩
  case round =>
    obtain ⟨i, hi, rfl, HO, HB⟩ := hrel
    have HBw : Hid (Below w.heap.size w wr) := HB1.out.trans (HB.out.mono (by have := HB1.out.size; omega))
    obtain ⟨sa, sc, rfl, hsk⟩ := owns_form HO.out
    have HSK : Hid (∀ k, (Value.slice sa i sc).ownBlock = some k → b1 ≤ k ∧ k < wr.heap.size) := hsk
    clear hsk
    have hsr : b1 ≤ wr.heap.size := by have := HB.out.size; omega
    by_cases hlt : i < n
    · have hta := HT.out.top (by omega)
      subst hta
      have t0 := (HT.out.below HBw.out).tab i hlt
      obtain ⟨pa, hpa⟩ : ∃ a, A i = a := ⟨_, rfl⟩
      obtain ⟨l, hl⟩ : ∃ a, L i = a := ⟨_, rfl⟩
      obtain ⟨pc, hpc⟩ : ∃ a, C i = a := ⟨_, rfl⟩
      rw [hpa, hl, hpc] at t0
      obtain ⟨wt, hwt⟩ : ∃ wt, wt = wr.alloc (.cells #[.slice pa l pc] 37) := ⟨_, rfl⟩
      have hbt : Below wr.heap.size wr wt := by rw [hwt]; exact (Below.refl _ _).alloc (Nat.le_refl _) _
      have hst : wt.heap.size = wr.heap.size + 1 := by rw [hwt]; simp
      have HST : Hid (wt.heap.size = wr.heap.size + 1) := hst
      have HOt : Hid (wt.ownsRow b1 37 1 (.slice sa i sc) i ((List.range i).map fun r => .slice (A r) (L r) (C r))) := (Only.below (P := fun _ => False) hbt).owns HO.out (fun _ _ _ h => h)
      have HBt : Hid (Below b1 w1 wt) := HB.out.trans (hbt.mono (by omega))
      clear hst hbt HO HB hpi hp0 hp1 hp2 hb1
      go_wp2_with (at_builtin; refine wpList_append_lies _ (by rfl) (.tmp 20) (.tmp 22) 25 (by rfl) b1 37 it (.agg #[.slice none 0 0]) 1 24 Tryz.underlying25 hti ht0 ht1 ht2 (by rfl) (by omega) (.slice sa i sc) i ((List.range i).map fun r => .slice (A r) (L r) (C r)) (by rfl) (by rw [← hwt]; exact HOt.out.alloc _) ⟨wr.heap.size + 1, 0, none⟩ 1 1 [.slice pa l pc] (by rfl) (by rfl) ?c1 ?c2 (by omega) ?c3 ?c4 ?c5 (wr.heap.size + 2) ?c6 ?_)
      case c1 => exact World.news_of_block (alloc2 wr _ _).2.1
      case c2 => intro v hv; simp at hv; subst hv; rfl
      case c3 => unfold maxLen; omega
      case c4 => omega
      case c5 => simp; omega
      case c6 => simp
      intro g cap w6 hown6 hgrow6 hat6 hlt6
      have hb6 : Below b1 (wt.alloc (.cells #[.slice pa l pc] 37)) w6 := below_grown (HOt.out.alloc _) (by rw [hwt]; exact hgrow6) (by have := HST.out; simp; omega)
      have HB6 : Hid (Below b1 w1 w6) := (HBt.out.trans ((Below.refl _ _).alloc (by have := HST.out; omega) _)).trans hb6
      have HO6 : Hid (w6.ownsRow b1 37 1 (.slice (some ⟨g, 0, none⟩) (i + 1) cap) (i + 1) ((List.range (i + 1)).map fun r => .slice (A r) (L r) (C r))) := by
        rw [List.range_succ, List.map_append]
        simp only [List.map_cons, List.map_nil, hpa, hl, hpc]
        exact hown6
      clear hown6 hgrow6 hat6 hlt6 hb6 HOt HBt hwt t0 HST
      go_wp2
      go_roundw
      case rel => exact ⟨i + 1, by omega, by go_num, HO6, HB6⟩
      case measure => simp [intOf]; omega
    · obtain rfl : i = n := by omega
      obtain ⟨x0, x1, x2, x3, x4, _⟩ := cells5 ((HB.out.block _ (by have := blk_lt G2.out; omega)).trans G2.out)
      obtain ⟨ws, hws⟩ : ∃ ws, ws = wr := ⟨_, rfl⟩
      rw [← hws] at HO HB
      have HBT : Hid (BTab ws b1 (.slice sa i sc) i 0 (fun r => .slice (A r) (L r) (C r)) L' K' (fun j c => sh i (X' j c))) := ⟨HO.out, fun j hj => absurd hj (Nat.not_lt_zero _)⟩
      clear HO
      go_wp2
      rw [← hws]
      clear hws x0 x1 x2 x3 x4
      go_loopw [5, 28] (fun sv ii wr => ∃ (q : Nat) (PV : Nat → Value), q ≤ m ∧ ii = .int .i64 q ∧ Hid (BTab wr b1 sv i q PV L' K' (fun j c => sh i (X' j c))) ∧ Hid (∀ j, j < i → PV j = .slice (A j) (L j) (C j)) ∧ Hid (Below b1 w1 wr)) (fun _ ii _ => m - (intOf ii).toNat)
      case atStart => exact ⟨0, _, Nat.zero_le _, rfl, HBT, fun j hj => rfl, HB⟩
      case round =>
        obtain ⟨q, PV, hq, rfl, HQ, HPV, HBr⟩ := hrel
        clear HBT HB HBw
        have HBw : Hid (Below w.heap.size w wr) := HB1.out.trans (HBr.out.mono (by have := HB1.out.size; omega))
        obtain ⟨va, vc, rfl, hvk⟩ := owns_form HQ.out.own
        have hsr' : b1 ≤ wr.heap.size := by have := HBr.out.size; omega
        by_cases hlq : q < m
        · have hta := HT'.out.top (by omega)
          subst hta
          have t0 := (HT'.out.below HBw.out).tab q hlq
          obtain ⟨pa, hpa⟩ : ∃ a, A' q = a := ⟨_, rfl⟩
          obtain ⟨l, hl⟩ : ∃ a, L' q = a := ⟨_, rfl⟩
          obtain ⟨pc, hpc⟩ : ∃ a, C' q = a := ⟨_, rfl⟩
          rw [hpa, hl, hpc] at t0
          have HP : Hid (PairsAt w pa l (RB' q) (RO' q) (K' q) (X' q)) := by rw [← hpa, ← hl]; exact HT'.out.row q hlq
          have hl100 : l ≤ 100 := by rw [← hl]; exact HL'.out q hlq
          have HGl : Hid (∀ c, c < l → isV m (X' q c) = true) := show ∀ c, _ from fun c hc => HG'.out q hlq c (by rw [hl]; exact hc)
          have A2 := alloc2 wr (.cells #[.slice pa l pc] 37) (.cells #[.slice none 0 0] 37)
          obtain ⟨w2, hw2⟩ : ∃ w2, w2 = (wr.alloc (.cells #[.slice pa l pc] 37)).alloc (.cells #[.slice none 0 0] 37) := ⟨_, rfl⟩
          rw [← hw2] at A2
          have HBw2 : Hid (Below w.heap.size w w2) := HBw.out.trans (A2.2.2.2.mono HBw.out.size)
          have HBb2 : Hid (Below b1 w1 w2) := HBr.out.trans (A2.2.2.2.mono hsr')
          have HQ2 : Hid (BTab w2 b1 (.slice va (i + q) vc) i q PV L' K' (fun j c => sh i (X' j c))) := HQ.out.below A2.2.2.2
          have hs2 : Hid (w2.heap.size = wr.heap.size + 2) := A2.2.2.1
          obtain ⟨xb, hxb⟩ : ∃ xb, wr.heap.size + 1 = xb := ⟨_, rfl⟩
          have HX2 : Hid (w2.heap[xb]? = some (.cells #[.slice none 0 0] 37 (0, 0))) := by rw [← hxb]; exact A2.2.1
          have HXl : Hid (xb < w2.heap.size ∧ b1 ≤ xb ∧ w.heap.size ≤ xb) := ⟨by rw [hs2.out]; omega, by omega, by have := HBw.out.size; omega⟩
          have HVK : Hid (∀ g, (Value.slice va (i + q) vc).ownBlock = some g → g ≠ xb) := show ∀ g, _ from fun g hg => by have := (hvk g hg).2; omega
          have HIN : Hid (InB w2 w2 xb (.slice none 0 0) 0 (K' q) (fun c => sh i (X' q c))) := ⟨HX2.out, World.ownsRow_nil _ _ _ _, Only.refl _ _⟩
          clear A2 HQ HBr hb1 hvk
          go_wp2
          rw [← hw2]
          try rw [hxb]
          clear hw2 t0 hxb
          go_loopw [35] (fun ii wq => ∃ (c : Nat) (pv : Value), c ≤ l ∧ ii = .int .i64 c ∧ Hid (InB w2 wq xb pv c (K' q) (fun c => sh i (X' q c)))) (fun ii _ => l - (intOf ii).toNat)
          case atStart => exact ⟨0, _, Nat.zero_le _, rfl, HIN⟩
          case round =>
            obtain ⟨c, pv, hc, rfl, HI⟩ := hrel
            clear HIN
            obtain ⟨qa, qc, rfl, hqk⟩ := owns_form HI.out.row
            clear hqk
            have HBq : Hid (Below w.heap.size w wr) := HBw2.out.trans (HI.out.only.toBelow (fun k hk => by have := HXl.out.2.2; omega) HBw2.out.size)
            by_cases hlc : c < l
            · obtain rfl := HP.out.top (by omega)
              obtain ⟨⟨k0, k1, k2, k3⟩, ⟨v0, v1, v2, v3⟩⟩ := (HP.out.below HBq.out).cells hlc
              obtain ⟨kc, HKC⟩ : ∃ kc, Hid (K' q c = kc) := ⟨_, rfl⟩
              obtain ⟨xc, HXC⟩ : ∃ xc, Hid (X' q c = xc) := ⟨_, rfl⟩
              rw [HKC.out] at k0 k1 k2 k3
              rw [HXC.out] at v0 v1 v2 v3
              have hvx : isV m xc = true := by rw [← HXC.out]; exact HGl.out c hlc
              have HG1 : Hid (wr.heap[w.heap.size]? = some (.cells #[.int .i64 u.k, .int .i64 u.n, .string u.s, .int .i64 u.a, .slice ta i cp] 27 (0, 0))) := by
                have h1 := (HBb2.out.block _ (by have := blk_lt G1.out; have := HBS.out; omega)).trans G1.out
                exact (HI.out.only.block _ (blk_lt h1) (by have := blk_lt G1.out; have := HXl.out.2.1; have := HBS.out; omega)).trans h1
              obtain ⟨g0, g1, g2, g3, g4, _⟩ := cells5 HG1.out
              obtain ⟨y0, y1⟩ := one_at HI.out.out
              have hxq : xb < wr.heap.size := by have := HXl.out.1; have := HI.out.only.size; omega
              have hxq' : xb < wr.heap.size + 1 := by omega
              have hgl : w.heap.size < wr.heap.size := blk_lt HG1.out
              have hgl' : w.heap.size < wr.heap.size + 1 := by omega
              by_cases h4 : xc.k = 4
              · obtain ⟨a0, a1⟩ := isV_tab hvx h4
                obtain ⟨ya, hya⟩ : ∃ ya : Int, xc.a + (i : Int) = ya := ⟨_, rfl⟩
                have HSH : Hid (sh i xc = ⟨xc.k, xc.n, xc.s, ya⟩) := by show sh i xc = _; unfold sh; rw [if_pos h4, hya]
                have hk4 : (xc.k == 4) = true := by simp [h4]
                have hwr : IntKind.i64.wrap (xc.a + (i : Int)) = ya := by rw [IntKind.wrap_i64]; omega
                clear h4 hya hvx a0 a1
                go_wp2_with (at_builtin; refine wpList_append_lies _ (by rfl) (.tmp 53) (.tmp 55) 35 (by rfl) w2.heap.size 39 ip (.agg #[.int .i64 0, .int .i64 0, .string ⟨#[]⟩, .int .i64 0, .int .i64 0, .int .i64 0, .string ⟨#[]⟩, .int .i64 0]) 8 80 Tryz.underlying35 hpi hp0 hp1 hp2 (by rfl) (by omega) (.slice qa c qc) c (pairCells (K' q) (fun c => sh i (X' q c)) c) (by rfl) ((HI.out.row.alloc _).alloc _) ⟨wr.heap.size + 1, 0, none⟩ 1 1 [.int .i64 kc.k, .int .i64 kc.n, .string kc.s, .int .i64 kc.a, .int .i64 xc.k, .int .i64 xc.n, .string xc.s, .int .i64 ya] (by rfl) (by rfl) ?c1 ?c2 (by omega) ?c3 ?c4 ?c5 (wr.heap.size + 2) ?c6 ?_)
                case c1 => exact World.news_of_block (alloc2 wr _ _).2.1
                case c2 => intro v hv; simp at hv; rcases hv with rfl | rfl | rfl | rfl | rfl | rfl | rfl | rfl <;> rfl
                case c3 => unfold maxLen; omega
                case c4 => omega
                case c5 => have := HI.out.only.size; simp; omega
                case c6 => simp
                intro g cap w6 hown6 hgrow6 hat6 hlt6
                obtain ⟨⟨z0, z1⟩, hI⟩ := HI.out.more HXl.out.1 hgrow6 (by
                  have e := HSH.out
                  simp only [HKC.out, HXC.out, e]
                  exact hown6)
                have HI6 : Hid (InB w2 (w6.setCell ⟨xb, 0, none⟩ (.slice (some ⟨g, 0, none⟩) (c + 1) cap)) xb (.slice (some ⟨g, 0, none⟩) (c + 1) cap) (c + 1) (K' q) (fun c => sh i (X' q c))) := hI
                clear hown6 hgrow6 hat6 hlt6 hI k0 k1 k2 k3 v0 v1 v2 v3 g0 g1 g2 g3 g4 y0 y1
                go_wp2
                go_roundw
                case rel => exact ⟨c + 1, _, by omega, by go_num, HI6⟩
                case measure => simp [intOf]; omega
              · have HSH : Hid (sh i xc = ⟨xc.k, xc.n, xc.s, xc.a⟩) := by show sh i xc = _; unfold sh; rw [if_neg h4]
                have hk4 : (xc.k == 4) = false := by simp [h4]
                clear h4 hvx
                go_wp2_with (at_builtin; refine wpList_append_lies _ (by rfl) (.tmp 53) (.tmp 55) 35 (by rfl) w2.heap.size 39 ip (.agg #[.int .i64 0, .int .i64 0, .string ⟨#[]⟩, .int .i64 0, .int .i64 0, .int .i64 0, .string ⟨#[]⟩, .int .i64 0]) 8 80 Tryz.underlying35 hpi hp0 hp1 hp2 (by rfl) (by omega) (.slice qa c qc) c (pairCells (K' q) (fun c => sh i (X' q c)) c) (by rfl) ((HI.out.row.alloc _).alloc _) ⟨wr.heap.size + 1, 0, none⟩ 1 1 [.int .i64 kc.k, .int .i64 kc.n, .string kc.s, .int .i64 kc.a, .int .i64 xc.k, .int .i64 xc.n, .string xc.s, .int .i64 xc.a] (by rfl) (by rfl) ?c1 ?c2 (by omega) ?c3 ?c4 ?c5 (wr.heap.size + 2) ?c6 ?_)
                case c1 => exact World.news_of_block (alloc2 wr _ _).2.1
                case c2 => intro v hv; simp at hv; rcases hv with rfl | rfl | rfl | rfl | rfl | rfl | rfl | rfl <;> rfl
                case c3 => unfold maxLen; omega
                case c4 => omega
                case c5 => have := HI.out.only.size; simp; omega
                case c6 => simp
                intro g cap w6 hown6 hgrow6 hat6 hlt6
                obtain ⟨⟨z0, z1⟩, hI⟩ := HI.out.more HXl.out.1 hgrow6 (by
                  have e := HSH.out
                  simp only [HKC.out, HXC.out, e]
                  exact hown6)
                have HI6 : Hid (InB w2 (w6.setCell ⟨xb, 0, none⟩ (.slice (some ⟨g, 0, none⟩) (c + 1) cap)) xb (.slice (some ⟨g, 0, none⟩) (c + 1) cap) (c + 1) (K' q) (fun c => sh i (X' q c))) := hI
                clear hown6 hgrow6 hat6 hlt6 hI k0 k1 k2 k3 v0 v1 v2 v3 g0 g1 g2 g3 g4 y0 y1
                go_wp2
                go_roundw
                case rel => exact ⟨c + 1, _, by omega, by go_num, HI6⟩
                case measure => simp [intOf]; omega
            · obtain rfl : c = l := by omega
              obtain ⟨y0, y1⟩ := one_at HI.out.out
              have HQ3 : Hid (BTab wr b1 (.slice va (i + q) vc) i q PV L' K' (fun j c => sh i (X' j c))) := by
                have hk := HXl.out
                refine ⟨HI.out.only.ownsB HQ2.out.own (fun g hg e => ?_), fun j hj => HI.out.only.ownsB (HQ2.out.rows j hj) (fun g hg e => ?_)⟩
                · exact HVK.out g hg e
                · obtain ⟨_, cur, hcur⟩ := owns_type (HQ2.out.rows j hj) hg
                  subst e
                  rw [HX2.out] at hcur
                  cases hcur
              have hs3 : b1 ≤ wr.heap.size := by have := HXl.out; have := HI.out.only.size; omega
              have HB3 : Hid (Below b1 w1 wr) := HBb2.out.trans (HI.out.only.toBelow (fun k hk => by have := HXl.out.2.1; omega) (by have := HBb2.out.size; have := HBS.out; omega))
              have HR3 : Hid (wr.ownsRow b1 39 8 (.slice qa c qc) (L' q) (pairCells (K' q) (fun c => sh i (X' q c)) (L' q))) := by rw [hl]; exact owns_mono HI.out.row (by have := HXl.out; omega)
              have hiq : i + q ≤ 400 := by omega
              go_wp2_with (at_builtin; refine wpList_append_lies _ (by rfl) (.tmp 59) (.tmp 61) 25 (by rfl) b1 37 it (.agg #[.slice none 0 0]) 1 24 Tryz.underlying25 hti ht0 ht1 ht2 (by rfl) (by omega) (.slice va (i + q) vc) (i + q) ((List.range (i + q)).map PV) (by rfl) (HQ3.out.own.alloc _) ⟨wr.heap.size, 0, none⟩ 1 1 [.slice qa c qc] (by rfl) (by rfl) ?c1 ?c2 (by omega) ?c3 ?c4 ?c5 (wr.heap.size + 1) ?c6 ?_)
              case c1 => exact World.news_of_block (heap_alloc_new wr _)
              case c2 => intro v hv; simp at hv; subst hv; rfl
              case c3 => unfold maxLen; omega
              case c4 => omega
              case c5 => simp; omega
              case c6 => simp
              intro g cap w7 hown7 hgrow7 hat7 hlt7
              obtain ⟨hT7, hB7⟩ := HQ3.out.more HR3.out _ hs3 hown7 hgrow7
              have HT7 : Hid (BTab w7 b1 (.slice (some ⟨g, 0, none⟩) (i + q + 1) cap) i (q + 1) (fun j => if j = i + q then .slice qa c qc else PV j) L' K' (fun j c => sh i (X' j c))) := hT7
              have HB7 : Hid (Below b1 w1 w7) := HB3.out.trans hB7
              have HPV' : Hid (∀ j, j < i → (fun j => if j = i + q then .slice qa c qc else PV j) j = .slice (A j) (L j) (C j)) := show ∀ j, _ from fun j hj => by
                show (if j = i + q then _ else PV j) = _
                rw [if_neg (by omega)]
                exact HPV.out j hj
              clear hT7 hB7 hown7 hgrow7 hat7 hlt7 HQ3 HB3 HR3 y0 y1 HI
              go_wp2
              go_roundw
              case rel => exact ⟨q + 1, _, by omega, by go_num, HT7, HPV', HB7⟩
              case measure => simp [intOf]; omega
        · clear hvk
          obtain rfl : q = m := by omega
          have hTt := HQ.out.tabs (HT.out.below HBw.out) HPV.out
          go_wp2
          go_ret
          exact ⟨⟨va, vc, _, _, _, _, _, rfl, hTt.2⟩, HBw.out⟩

end Go.Proofs.YtgflalfiopnmnaaGreatDoor

namespace Go.Proofs.YtgflalfiopnmnaaGreatDoor
open Go.RowKit Vl

set_option maxHeartbeats 4000000 in
set_option maxRecDepth 100000 in
theorem specSame_any (u u' : V) (ta ta' : Option Addr) (n cp TB TO m cp' TB' TO' : Nat) (A A' : Nat → Option Addr) (L C RB RO L' C' RB' RO' : Nat → Nat) (K X K' X' : Nat → Nat → V) (w : World) (hn : n ≤ 1048576) (hm : m ≤ 1048576) (HS : Hid (Small 1048576 n L K X)) (HS' : Hid (Small 1048576 m L' K' X')) (HT : Hid (TabsAt w ta n TB TO A L C RB RO K X)) (HT' : Hid (TabsAt w ta' m TB' TO' A' L' C' RB' RO' K' X')) :
    Calls Tryz.prog 18 #[.agg #[.int .i64 u.k, .int .i64 u.n, .string u.s, .int .i64 u.a, .slice ta n cp], .agg #[.int .i64 u'.k, .int .i64 u'.n, .string u'.s, .int .i64 u'.a, .slice ta' m cp']] w fun e w' => SameRes e n m u u' L L' K X K' X' ∧ Below w.heap.size w w' := by
  have A2 := alloc2 w (.cells #[.int .i64 u.k, .int .i64 u.n, .string u.s, .int .i64 u.a, .slice ta n cp] 27) (.cells #[.int .i64 u'.k, .int .i64 u'.n, .string u'.s, .int .i64 u'.a, .slice ta' m cp'] 27)
  obtain ⟨w1, hw1⟩ : ∃ w1, w1 = (w.alloc (.cells #[.int .i64 u.k, .int .i64 u.n, .string u.s, .int .i64 u.a, .slice ta n cp] 27)).alloc (.cells #[.int .i64 u'.k, .int .i64 u'.n, .string u'.s, .int .i64 u'.a, .slice ta' m cp'] 27) := ⟨_, rfl⟩
  rw [← hw1] at A2
  have HB1 : Hid (Below w.heap.size w w1) := A2.2.2.2
  have G1 : Hid (w1.heap[w.heap.size]? = some (.cells #[.int .i64 u.k, .int .i64 u.n, .string u.s, .int .i64 u.a, .slice ta n cp] 27 (0, 0))) := A2.1
  have G2 : Hid (w1.heap[w.heap.size + 1]? = some (.cells #[.int .i64 u'.k, .int .i64 u'.n, .string u'.s, .int .i64 u'.a, .slice ta' m cp'] 27 (0, 0))) := A2.2.1
  clear A2
  have hok := specOk_any u ta n cp TB TO A L C RB RO K X w1 hn HS (HT.out.below HB1.out)
  go_enter Tryz.func18, Tryz.ntmps18
  go_wp2_with fail
  rw [← hw1]
  refine hok.mono ?_
  clear hok hw1
  rintro e w2 ⟨⟨b, rfl, hb⟩, hb2⟩
  have HB2 : Hid (Below w.heap.size w w2) := grw HB1.out hb2
  have H2 : Hid (w2.heap[w.heap.size]? = some (.cells #[.int .i64 u.k, .int .i64 u.n, .string u.s, .int .i64 u.a, .slice ta n cp] 27 (0, 0))) := blkB G1.out hb2
  have H2' : Hid (w2.heap[w.heap.size + 1]? = some (.cells #[.int .i64 u'.k, .int .i64 u'.n, .string u'.s, .int .i64 u'.a, .slice ta' m cp'] 27 (0, 0))) := blkB G2.out hb2
  clear hb2 G1 G2 HB1
  cases b
  · have HN : Hid (¬ (OkG n u L K X ∧ OkG m u' L' K' X')) := show ¬ _ from fun h => by have := hb.2 h.1; cases this
    clear hb
    go_wp2
    go_ret
    exact ⟨Or.inr ⟨HN.out, rfl⟩, HB2.out⟩
  have HO : Hid (OkG n u L K X) := hb.1 rfl
  clear hb
  have hok := specOk_any u' ta' m cp' TB' TO' A' L' C' RB' RO' K' X' w2 hm HS' (HT'.out.below HB2.out)
  obtain ⟨x0, x1, x2, x3, x4, _⟩ := cells5 H2'.out
  go_wp2_with fail
  refine hok.mono ?_
  clear hok x0 x1 x2 x3 x4
  rintro e w3 ⟨⟨b, rfl, hb⟩, hb3⟩
  have HB3 : Hid (Below w.heap.size w w3) := grw HB2.out hb3
  have H3 : Hid (w3.heap[w.heap.size]? = some (.cells #[.int .i64 u.k, .int .i64 u.n, .string u.s, .int .i64 u.a, .slice ta n cp] 27 (0, 0))) := blkB H2.out hb3
  have H3' : Hid (w3.heap[w.heap.size + 1]? = some (.cells #[.int .i64 u'.k, .int .i64 u'.n, .string u'.s, .int .i64 u'.a, .slice ta' m cp'] 27 (0, 0))) := blkB H2'.out hb3
  clear hb3 H2 H2' HB2
  cases b
  · have HN : Hid (¬ (OkG n u L K X ∧ OkG m u' L' K' X')) := show ¬ _ from fun h => by have := hb.2 h.2; cases this
    clear hb
    go_wp2
    go_ret
    exact ⟨Or.inr ⟨HN.out, rfl⟩, HB3.out⟩
  have HO' : Hid (OkG m u' L' K' X') := hb.1 rfl
  clear hb
  have HNM : Hid (n + m ≤ 400) := show _ ≤ _ by have := HO.out.len; have := HO'.out.len; omega
  have HLj : Hid (∀ r, r < n + m → jn n L L' r ≤ 100) := show ∀ r, _ from fun r hr => (okT_join HO.out HO'.out r hr).len
  have HGj : Hid (Good (n + m) (jn n L L') (jn n X (fun j c => sh n (X' j c)))) := (good_of HO.out).join (good_of HO'.out)
  have HZj : Hid (∀ r, r < n + m → ∀ c, c < jn n L L' r → (jn n K K' r c).s.size ≤ 9223372036854775807) := show ∀ r, _ from fun r hr c hc => by
    by_cases e : r < n
    · rw [jn_lt e] at hc ⊢
      have := ((HS.out r e).2 c hc).1
      omega
    · rw [jn_ge e] at hc ⊢
      have := ((HS'.out (r - n) (by omega)).2 c hc).1
      omega
  obtain ⟨x0, x1, x2, x3, x4, _⟩ := cells5 H3'.out
  obtain ⟨g0, g1, g2, g3, g4, _⟩ := cells5 H3.out
  have hgl : w.heap.size < w3.heap.size := blk_lt H3.out
  have hgl1 : w.heap.size + 1 < w3.heap.size := blk_lt H3'.out
  have hur := HO'.out.root
  by_cases h4 : u'.k = 4
  · obtain ⟨a0, a1⟩ := isV_tab hur h4
    obtain ⟨ya, hya⟩ : ∃ ya : Int, u'.a + (n : Int) = ya := ⟨_, rfl⟩
    have hk4 : (u'.k == 4) = true := by simp [h4]
    have hnn := HO.out.len
    have hmm := HO'.out.len
    have hwr : IntKind.i64.wrap (u'.a + (n : Int)) = ya := by rw [IntKind.wrap_i64]; omega
    have HSH : Hid (sh n u' = ⟨u'.k, u'.n, u'.s, ya⟩) := by show sh n u' = _; unfold sh; rw [if_pos h4, hya]
    clear h4 hya a0 a1 hnn hmm hur
    obtain ⟨w4, hw4⟩ : ∃ w4, w4 = w3.alloc (.cells #[.int .i64 u'.k, .int .i64 u'.n, .string u'.s, .int .i64 ya] 24) := ⟨_, rfl⟩
    have hb4 : Below w3.heap.size w3 w4 := by rw [hw4]; exact (Below.refl _ _).alloc (Nat.le_refl _) _
    have HB4 : Hid (Below w.heap.size w w4) := grw HB3.out hb4
    have H4 : Hid (w4.heap[w.heap.size]? = some (.cells #[.int .i64 u.k, .int .i64 u.n, .string u.s, .int .i64 u.a, .slice ta n cp] 27 (0, 0))) := blkB H3.out hb4
    have H4' : Hid (w4.heap[w.heap.size + 1]? = some (.cells #[.int .i64 u'.k, .int .i64 u'.n, .string u'.s, .int .i64 u'.a, .slice ta' m cp'] 27 (0, 0))) := blkB H3'.out hb4
    obtain ⟨rb, hrb⟩ : ∃ rb, w3.heap.size = rb := ⟨_, rfl⟩
    have R4 : Hid (w4.heap[rb]? = some (.cells #[.int .i64 u'.k, .int .i64 u'.n, .string u'.s, .int .i64 ya] 24 (0, 0))) := by rw [hw4, ← hrb]; exact heap_alloc_new _ _
    rw [hrb] at hgl hgl1
    have HAL : Hid (∀ (f : Nat → Nat) (g : Nat) (w' : World), ClsAt w' g (n + m) f → Calls Tryz.prog 44 #[.agg #[.int .i64 u.k, .int .i64 u.n, .string u.s, .int .i64 u.a], .agg #[.int .i64 u'.k, .int .i64 u'.n, .string u'.s, .int .i64 ya], .slice (some ⟨g, 0, none⟩) (n + m) (n + m)] w' fun e w'' => e = .returned (.bool (alike f u ⟨u'.k, u'.n, u'.s, ya⟩)) ∧ Below w'.heap.size w' w'') := show ∀ _, _ from fun f g w' hC => by
      have h := l3alike_any u (sh n u') (n + m) g (n + m) f w' (isV_more HO.out.root) (sh_isV HO'.out.root) hC
      rw [HSH.out] at h
      exact h
    clear hb4 H3 H3' HB3
    go_wp2
    rw [← hw4]
    try rw [hrb]
    clear hw4 hrb g0 g1 g2 g3 g4 x0 x1 x2 x3 x4
    have HT4 : Hid (TabsAt w4 ta n TB TO A L C RB RO K X) := HT.out.below HB4.out
    have HT4' : Hid (TabsAt w4 ta' m TB' TO' A' L' C' RB' RO' K' X') := HT'.out.below HB4.out
    have hboth := l3both_any u u' ta ta' n cp TB TO m cp' TB' TO' A A' L C RB RO L' C' RB' RO' K X K' X' w4.drew HO.out.len HO'.out.len (show ∀ r, _ from fun r hr => (HO'.out.all r hr).len) (good_of HO'.out) (HT4.out.below (Below.refl _ _).drew) (HT4'.out.below (Below.refl _ _).drew)
    obtain ⟨g0, g1, g2, g3, g4, _⟩ := cells5 H4.out
    obtain ⟨x0, x1, x2, x3, x4, _⟩ := cells5 H4'.out
    obtain ⟨r0, r1, r2, r3, _⟩ := cells4' R4.out
    have HGc : Hid (∀ w', Below w4.heap.size w4 w' → w'.cell? ⟨w.heap.size, 0, none⟩ = some (.int .i64 u.k) ∧ w'.cell? ⟨w.heap.size, 1, none⟩ = some (.int .i64 u.n) ∧ w'.cell? ⟨w.heap.size, 2, none⟩ = some (.string u.s) ∧ w'.cell? ⟨w.heap.size, 3, none⟩ = some (.int .i64 u.a) ∧ w'.cell? ⟨w.heap.size, 4, none⟩ = some (.slice ta n cp)) := show ∀ _, _ from fun w' hb => ⟨cellB g0 w' hb, cellB g1 w' hb, cellB g2 w' hb, cellB g3 w' hb, cellB g4 w' hb⟩
    have HXc : Hid (∀ w', Below w4.heap.size w4 w' → w'.cell? ⟨w.heap.size + 1, 0, none⟩ = some (.int .i64 u'.k) ∧ w'.cell? ⟨w.heap.size + 1, 1, none⟩ = some (.int .i64 u'.n) ∧ w'.cell? ⟨w.heap.size + 1, 2, none⟩ = some (.string u'.s) ∧ w'.cell? ⟨w.heap.size + 1, 3, none⟩ = some (.int .i64 u'.a) ∧ w'.cell? ⟨w.heap.size + 1, 4, none⟩ = some (.slice ta' m cp')) := show ∀ _, _ from fun w' hb => ⟨cellB x0 w' hb, cellB x1 w' hb, cellB x2 w' hb, cellB x3 w' hb, cellB x4 w' hb⟩
    have HRc : Hid (∀ w', Below w4.heap.size w4 w' → w'.cell? ⟨rb, 0, none⟩ = some (.int .i64 u'.k) ∧ w'.cell? ⟨rb, 1, none⟩ = some (.int .i64 u'.n) ∧ w'.cell? ⟨rb, 2, none⟩ = some (.string u'.s) ∧ w'.cell? ⟨rb, 3, none⟩ = some (.int .i64 ya)) := show ∀ _, _ from fun w' hb => ⟨cellB r0 w' hb, cellB r1 w' hb, cellB r2 w' hb, cellB r3 w' hb⟩
    clear g0 g1 g2 g3 g4 x0 x1 x2 x3 x4 r0 r1 r2 r3
    refine wp_region_held_drew (S := fun x => Below w4.heap.size w4 x) (by kernel_rfl) (Below.refl _ _).drew (fun hHeld => ?_)
    refine wpT (i := 0) (v := .pointer (some ⟨w.heap.size, 0, none⟩)) rfl (fun w hSw => ?_) hHeld ?_
    · first | rfl | go_simp
    simp only [Act.put, pz]
    refine wpT (i := 1) (v := .agg #[.int .i64 u.k, .int .i64 u.n, .string u.s, .int .i64 u.a]) rfl (fun w hSw => ?_) hHeld ?_
    · obtain ⟨q0, q1, q2, q3, _⟩ := HGc.out w hSw; first | rfl | go_simp
    simp only [Act.put, pz]
    refine wpT (i := 2) (v := .agg #[.int .i64 u'.k, .int .i64 u'.n, .string u'.s, .int .i64 ya]) rfl (fun w hSw => ?_) hHeld ?_
    · obtain ⟨q0, q1, q2, q3⟩ := HRc.out w hSw; first | rfl | go_simp
    simp only [Act.put, pz]
    refine wpT (i := 3) (v := .agg #[.int .i64 u.k, .int .i64 u.n, .string u.s, .int .i64 u.a, .slice ta n cp]) rfl (fun w hSw => ?_) hHeld ?_
    · obtain ⟨q0, q1, q2, q3, q4⟩ := HGc.out w hSw; first | rfl | go_simp
    simp only [Act.put, pz]
    refine wpT (i := 4) (v := .agg #[.int .i64 u'.k, .int .i64 u'.n, .string u'.s, .int .i64 u'.a, .slice ta' m cp']) rfl (fun w hSw => ?_) hHeld ?_
    · obtain ⟨q0, q1, q2, q3, q4⟩ := HXc.out w hSw; first | rfl | go_simp
    simp only [Act.put, pz]
    refine wpAnyH_ready (rs := [5]) (by kernel_rfl) (by simp) ?_
    refine AllReadyH.cons rfl (fun KK hK' => ?_) AllReadyH.nil
    have hcall := hboth
    clear hboth
    go_simp
    refine hcall.mono ?_
    clear hcall
    rintro e w5 ⟨⟨oa, oc, OB, A2, C2, RB2, RO2, rfl, hT5⟩, hb5⟩
    have hs5 : Below w4.heap.size w4 w5 := grw hHeld hb5
    have HT5 : Hid _ := hT5
    clear hT5 hb5
    refine hK'.out _ _ hs5 (fun hHeld => ?_)
    clear hK'
    refine wpAnyH_ready (rs := [6]) (by kernel_rfl) (by simp) ?_
    refine AllReadyH.cons rfl (fun KK hK' => ?_) AllReadyH.nil
    have hcall := l3classes_any oa (n + m) oc OB 0 A2 _ C2 RB2 RO2 _ _ w5 HNM.out HLj HZj HGj HT5
    go_simp
    refine hcall.mono ?_
    clear hcall
    rintro e w6 ⟨⟨g, f, ls, rfl, _, hrow, hsrt, hcls⟩, hb6⟩
    have hs6 : Below w4.heap.size w4 w6 := grw hHeld hb6
    have HRw : Hid (ClsAt w6 g (n + m) f) := show ClsAt w6 g (n + m) f from fun q hq => hrow.cell hq
    have HCL : Hid (ClsAre (n + m) (jn n L L') (jn n K K') (jn n X (fun j c => sh n (X' j c))) f) := ⟨ls, hsrt, hcls⟩
    clear hb6 hrow hsrt hcls HT5 hs5
    refine hK'.out _ _ hs6 (fun hHeld => ?_)
    clear hK'
    refine wpAnyH_ready (rs := [7]) (by kernel_rfl) (by simp) ?_
    refine AllReadyH.cons rfl (fun KK hK' => ?_) AllReadyH.nil
    have hcall := HAL.out f g w6 HRw.out
    go_simp
    refine hcall.mono ?_
    clear hcall
    rintro e w7 ⟨rfl, hb7⟩
    have hs7 : Below w4.heap.size w4 w7 := grw hHeld hb7
    have HS7 : Hid (Below w4.heap.size w4 w7) := hs7
    clear hb7 hs6 HRw
    refine hK'.out _ _ hs7 (fun hHeld => ?_)
    clear hK'
    obtain ⟨bq, hbq⟩ : ∃ bq, alike f u ⟨u'.k, u'.n, u'.s, ya⟩ = bq := ⟨_, rfl⟩
    have HBQ : Hid (alike f u ⟨u'.k, u'.n, u'.s, ya⟩ = bq) := hbq
    rw [hbq]
    clear hbq
    refine wpT (i := 8) (v := .bool bq) rfl (fun w hSw => ?_) hHeld ?_
    · first | rfl | go_simp
    simp only [Act.put, pz]
    refine wpAnyH_done (by kernel_rfl) ?_ _
    go_wp2
    go_ret
    refine ⟨?_, grw HB4.out HS7.out⟩
    have e : alike f u (sh n u') = bq := by rw [HSH.out]; exact HBQ.out
    rw [← e]
    exact Or.inl ⟨⟨HO.out, HO'.out⟩, f, HCL.out, rfl⟩
  · have hk4 : (u'.k == 4) = false := by simp [h4]
    obtain ⟨ya, hya⟩ : ∃ ya : Int, u'.a = ya := ⟨_, rfl⟩
    have HSH : Hid (sh n u' = ⟨u'.k, u'.n, u'.s, ya⟩) := by show sh n u' = _; unfold sh; rw [if_neg h4, ← hya]
    rw [hya] at x3
    clear h4 hur hya
    obtain ⟨w4, hw4⟩ : ∃ w4, w4 = w3.alloc (.cells #[.int .i64 u'.k, .int .i64 u'.n, .string u'.s, .int .i64 ya] 24) := ⟨_, rfl⟩
    have hb4 : Below w3.heap.size w3 w4 := by rw [hw4]; exact (Below.refl _ _).alloc (Nat.le_refl _) _
    have HB4 : Hid (Below w.heap.size w w4) := grw HB3.out hb4
    have H4 : Hid (w4.heap[w.heap.size]? = some (.cells #[.int .i64 u.k, .int .i64 u.n, .string u.s, .int .i64 u.a, .slice ta n cp] 27 (0, 0))) := blkB H3.out hb4
    have H4' : Hid (w4.heap[w.heap.size + 1]? = some (.cells #[.int .i64 u'.k, .int .i64 u'.n, .string u'.s, .int .i64 u'.a, .slice ta' m cp'] 27 (0, 0))) := blkB H3'.out hb4
    obtain ⟨rb, hrb⟩ : ∃ rb, w3.heap.size = rb := ⟨_, rfl⟩
    have R4 : Hid (w4.heap[rb]? = some (.cells #[.int .i64 u'.k, .int .i64 u'.n, .string u'.s, .int .i64 ya] 24 (0, 0))) := by rw [hw4, ← hrb]; exact heap_alloc_new _ _
    rw [hrb] at hgl hgl1
    have HAL : Hid (∀ (f : Nat → Nat) (g : Nat) (w' : World), ClsAt w' g (n + m) f → Calls Tryz.prog 44 #[.agg #[.int .i64 u.k, .int .i64 u.n, .string u.s, .int .i64 u.a], .agg #[.int .i64 u'.k, .int .i64 u'.n, .string u'.s, .int .i64 ya], .slice (some ⟨g, 0, none⟩) (n + m) (n + m)] w' fun e w'' => e = .returned (.bool (alike f u ⟨u'.k, u'.n, u'.s, ya⟩)) ∧ Below w'.heap.size w' w'') := show ∀ _, _ from fun f g w' hC => by
      have h := l3alike_any u (sh n u') (n + m) g (n + m) f w' (isV_more HO.out.root) (sh_isV HO'.out.root) hC
      rw [HSH.out] at h
      exact h
    clear hb4 H3 H3' HB3
    go_wp2
    rw [← hw4]
    try rw [hrb]
    clear hw4 hrb g0 g1 g2 g3 g4 x0 x1 x2 x3 x4
    have HT4 : Hid (TabsAt w4 ta n TB TO A L C RB RO K X) := HT.out.below HB4.out
    have HT4' : Hid (TabsAt w4 ta' m TB' TO' A' L' C' RB' RO' K' X') := HT'.out.below HB4.out
    have hboth := l3both_any u u' ta ta' n cp TB TO m cp' TB' TO' A A' L C RB RO L' C' RB' RO' K X K' X' w4.drew HO.out.len HO'.out.len (show ∀ r, _ from fun r hr => (HO'.out.all r hr).len) (good_of HO'.out) (HT4.out.below (Below.refl _ _).drew) (HT4'.out.below (Below.refl _ _).drew)
    obtain ⟨g0, g1, g2, g3, g4, _⟩ := cells5 H4.out
    obtain ⟨x0, x1, x2, x3, x4, _⟩ := cells5 H4'.out
    obtain ⟨r0, r1, r2, r3, _⟩ := cells4' R4.out
    have HGc : Hid (∀ w', Below w4.heap.size w4 w' → w'.cell? ⟨w.heap.size, 0, none⟩ = some (.int .i64 u.k) ∧ w'.cell? ⟨w.heap.size, 1, none⟩ = some (.int .i64 u.n) ∧ w'.cell? ⟨w.heap.size, 2, none⟩ = some (.string u.s) ∧ w'.cell? ⟨w.heap.size, 3, none⟩ = some (.int .i64 u.a) ∧ w'.cell? ⟨w.heap.size, 4, none⟩ = some (.slice ta n cp)) := show ∀ _, _ from fun w' hb => ⟨cellB g0 w' hb, cellB g1 w' hb, cellB g2 w' hb, cellB g3 w' hb, cellB g4 w' hb⟩
    have HXc : Hid (∀ w', Below w4.heap.size w4 w' → w'.cell? ⟨w.heap.size + 1, 0, none⟩ = some (.int .i64 u'.k) ∧ w'.cell? ⟨w.heap.size + 1, 1, none⟩ = some (.int .i64 u'.n) ∧ w'.cell? ⟨w.heap.size + 1, 2, none⟩ = some (.string u'.s) ∧ w'.cell? ⟨w.heap.size + 1, 3, none⟩ = some (.int .i64 u'.a) ∧ w'.cell? ⟨w.heap.size + 1, 4, none⟩ = some (.slice ta' m cp')) := show ∀ _, _ from fun w' hb => ⟨cellB x0 w' hb, cellB x1 w' hb, cellB x2 w' hb, cellB x3 w' hb, cellB x4 w' hb⟩
    have HRc : Hid (∀ w', Below w4.heap.size w4 w' → w'.cell? ⟨rb, 0, none⟩ = some (.int .i64 u'.k) ∧ w'.cell? ⟨rb, 1, none⟩ = some (.int .i64 u'.n) ∧ w'.cell? ⟨rb, 2, none⟩ = some (.string u'.s) ∧ w'.cell? ⟨rb, 3, none⟩ = some (.int .i64 ya)) := show ∀ _, _ from fun w' hb => ⟨cellB r0 w' hb, cellB r1 w' hb, cellB r2 w' hb, cellB r3 w' hb⟩
    clear g0 g1 g2 g3 g4 x0 x1 x2 x3 x4 r0 r1 r2 r3
    refine wp_region_held_drew (S := fun x => Below w4.heap.size w4 x) (by kernel_rfl) (Below.refl _ _).drew (fun hHeld => ?_)
    refine wpT (i := 0) (v := .pointer (some ⟨w.heap.size, 0, none⟩)) rfl (fun w hSw => ?_) hHeld ?_
    · first | rfl | go_simp
    simp only [Act.put, pz]
    refine wpT (i := 1) (v := .agg #[.int .i64 u.k, .int .i64 u.n, .string u.s, .int .i64 u.a]) rfl (fun w hSw => ?_) hHeld ?_
    · obtain ⟨q0, q1, q2, q3, _⟩ := HGc.out w hSw; first | rfl | go_simp
    simp only [Act.put, pz]
    refine wpT (i := 2) (v := .agg #[.int .i64 u'.k, .int .i64 u'.n, .string u'.s, .int .i64 ya]) rfl (fun w hSw => ?_) hHeld ?_
    · obtain ⟨q0, q1, q2, q3⟩ := HRc.out w hSw; first | rfl | go_simp
    simp only [Act.put, pz]
    refine wpT (i := 3) (v := .agg #[.int .i64 u.k, .int .i64 u.n, .string u.s, .int .i64 u.a, .slice ta n cp]) rfl (fun w hSw => ?_) hHeld ?_
    · obtain ⟨q0, q1, q2, q3, q4⟩ := HGc.out w hSw; first | rfl | go_simp
    simp only [Act.put, pz]
    refine wpT (i := 4) (v := .agg #[.int .i64 u'.k, .int .i64 u'.n, .string u'.s, .int .i64 u'.a, .slice ta' m cp']) rfl (fun w hSw => ?_) hHeld ?_
    · obtain ⟨q0, q1, q2, q3, q4⟩ := HXc.out w hSw; first | rfl | go_simp
    simp only [Act.put, pz]
    refine wpAnyH_ready (rs := [5]) (by kernel_rfl) (by simp) ?_
    refine AllReadyH.cons rfl (fun KK hK' => ?_) AllReadyH.nil
    have hcall := hboth
    clear hboth
    go_simp
    refine hcall.mono ?_
    clear hcall
    rintro e w5 ⟨⟨oa, oc, OB, A2, C2, RB2, RO2, rfl, hT5⟩, hb5⟩
    have hs5 : Below w4.heap.size w4 w5 := grw hHeld hb5
    have HT5 : Hid _ := hT5
    clear hT5 hb5
    refine hK'.out _ _ hs5 (fun hHeld => ?_)
    clear hK'
    refine wpAnyH_ready (rs := [6]) (by kernel_rfl) (by simp) ?_
    refine AllReadyH.cons rfl (fun KK hK' => ?_) AllReadyH.nil
    have hcall := l3classes_any oa (n + m) oc OB 0 A2 _ C2 RB2 RO2 _ _ w5 HNM.out HLj HZj HGj HT5
    go_simp
    refine hcall.mono ?_
    clear hcall
    rintro e w6 ⟨⟨g, f, ls, rfl, _, hrow, hsrt, hcls⟩, hb6⟩
    have hs6 : Below w4.heap.size w4 w6 := grw hHeld hb6
    have HRw : Hid (ClsAt w6 g (n + m) f) := show ClsAt w6 g (n + m) f from fun q hq => hrow.cell hq
    have HCL : Hid (ClsAre (n + m) (jn n L L') (jn n K K') (jn n X (fun j c => sh n (X' j c))) f) := ⟨ls, hsrt, hcls⟩
    clear hb6 hrow hsrt hcls HT5 hs5
    refine hK'.out _ _ hs6 (fun hHeld => ?_)
    clear hK'
    refine wpAnyH_ready (rs := [7]) (by kernel_rfl) (by simp) ?_
    refine AllReadyH.cons rfl (fun KK hK' => ?_) AllReadyH.nil
    have hcall := HAL.out f g w6 HRw.out
    go_simp
    refine hcall.mono ?_
    clear hcall
    rintro e w7 ⟨rfl, hb7⟩
    have hs7 : Below w4.heap.size w4 w7 := grw hHeld hb7
    have HS7 : Hid (Below w4.heap.size w4 w7) := hs7
    clear hb7 hs6 HRw
    refine hK'.out _ _ hs7 (fun hHeld => ?_)
    clear hK'
    obtain ⟨bq, hbq⟩ : ∃ bq, alike f u ⟨u'.k, u'.n, u'.s, ya⟩ = bq := ⟨_, rfl⟩
    have HBQ : Hid (alike f u ⟨u'.k, u'.n, u'.s, ya⟩ = bq) := hbq
    rw [hbq]
    clear hbq
    refine wpT (i := 8) (v := .bool bq) rfl (fun w hSw => ?_) hHeld ?_
    · first | rfl | go_simp
    simp only [Act.put, pz]
    refine wpAnyH_done (by kernel_rfl) ?_ _
    go_wp2
    go_ret
    refine ⟨?_, grw HB4.out HS7.out⟩
    have e : alike f u (sh n u') = bq := by rw [HSH.out]; exact HBQ.out
    rw [← e]
    exact Or.inl ⟨⟨HO.out, HO'.out⟩, f, HCL.out, rfl⟩

end Go.Proofs.YtgflalfiopnmnaaGreatDoor

namespace Go.Proofs.YtgflalfiopnmnaaGreatDoor
open Go.RowKit Vl

def putG {α : Type} (eqb : α → α → Bool) (v : α) (x : Value) : List (α × Value) → List (α × Value)
  | [] => []
  | (k, y) :: l => if eqb v k = true then (k, x) :: l else (k, y) :: putG eqb v x l

theorem find_gat {α : Type} {mt kt et : TypeId} {enc : α → Value} {ok : World → α → Prop} {eqb : α → α → Bool} {z : Value} (hK : Keyed mt kt et enc ok eqb z) (v : α) (w : World) (hv : ok w v) : ∀ (es : List MapEntry) (l : List (α × Value)) (i : Nat), (∀ p ∈ l, ok w p.1) → es.map (fun e => (e.key, e.val)) = l.map (fun p => (enc p.1, p.2)) →
    ∀ y, findG eqb v l = some y → ∃ j k, (Instr.findAsking kt (enc v) es i).run Tryz.prog w = .ok (some (i + j, y)) w ∧ l[j]? = some (k, y) ∧ eqb v k = true ∧ ∀ x, putG eqb v x l = l.set j (k, x)
  | [], [], i, _, _ => fun y h => by cases h
  | [], _ :: _, i, _, h => by simp at h
  | _ :: _, [], i, _, h => by simp at h
  | e :: es, (k, x) :: l, i, hl, h => by
    simp only [List.map_cons, List.cons.injEq, Prod.mk.injEq] at h
    obtain ⟨⟨h1, h2⟩, h3⟩ := h
    have ih := find_gat hK v w hv es l (i + 1) (fun p hp => hl p (List.mem_cons_of_mem _ hp)) h3
    have e1 : (Instr.findAsking kt (enc v) (e :: es) i).run Tryz.prog w = if eqb v k = true then .ok (some (i, e.val)) w else (Instr.findAsking kt (enc v) es (i + 1)).run Tryz.prog w := by
      conv => lhs; unfold Instr.findAsking
      rw [Sem.run_bind, h1, hK.eq _ _ _ hv (hl (k, x) (by simp))]
      simp only [Result.andThen_ok]
      cases eqb v k <;> simp
    rw [e1]
    unfold findG
    by_cases he : eqb v k = true
    · rw [if_pos he, if_pos he, h2]
      intro y hy
      cases hy
      exact ⟨0, k, rfl, rfl, he, fun x' => by unfold putG; rw [if_pos he]; rfl⟩
    · rw [if_neg he, if_neg he]
      intro y hy
      obtain ⟨j, k', a1, a2, a3, a4⟩ := ih y hy
      exact ⟨j + 1, k', by rw [a1, show i + 1 + j = i + (j + 1) by omega], by simpa using a2, a3, fun x' => by unfold putG; rw [if_neg he, a4 x']; rfl⟩

theorem findKey_gat {α : Type} {mt kt et : TypeId} {enc : α → Value} {ok : World → α → Prop} {eqb : α → α → Bool} {z : Value} (hK : Keyed mt kt et enc ok eqb z) (v : α) (w : World) (hv : ok w v) (es : List MapEntry) (l : List (α × Value)) (hl : ∀ p ∈ l, ok w p.1) (h : es.map (fun e => (e.key, e.val)) = l.map (fun p => (enc p.1, p.2))) :
    ∀ y, findG eqb v l = some y → ∃ j k, (Instr.findKey kt (enc v) es).run Tryz.prog w = .ok (some (j, y)) w ∧ l[j]? = some (k, y) ∧ eqb v k = true ∧ ∀ x, putG eqb v x l = l.set j (k, x) := by
  have hf := find_gat hK v w hv es l 0 hl h
  obtain ⟨d, hd, hn⟩ := hK.now
  have e1 : (Instr.findKey kt (enc v) es).run Tryz.prog w = (Instr.findAsking kt (enc v) es 0).run Tryz.prog w := by
    unfold Instr.findKey
    rw [Sem.run_bind, run_underlying hd]
    simp only [Result.andThen_ok]
    cases es with
    | nil => rfl
    | cons e es =>
      cases l with
      | nil => simp at h
      | cons p l =>
        simp only [List.map_cons, List.cons.injEq, Prod.mk.injEq] at h
        have : Instr.findNow d (enc v) (e :: es) 0 = none := by
          unfold Instr.findNow
          rw [h.1.1, hn]
        rw [this]
  rw [e1]
  intro y hy
  obtain ⟨j, k, a1, a2⟩ := hf y hy
  rw [Nat.zero_add] at a1
  exact ⟨j, k, a1, a2⟩

theorem MapG.replace {α : Type} {mt kt et : TypeId} {enc : α → Value} {ok : World → α → Prop} {eqb : α → α → Bool} {z : Value} (hK : Keyed mt kt et enc ok eqb z) {w : World} {M : Nat} {l : List (α × Value)} (h : MapG enc w M l) (v : α) (y x : Value) (hv : ok w v) (hok : ∀ p ∈ l, ok w p.1) (hf : findG eqb v l = some y) (heq : ∀ k, eqb v k = true → enc k = enc v) (hsb : Instr.sameBits 10000 (enc v) (enc v) = true) :
    ∃ w', (Instr.mapUpdate mt (.map (some M)) (enc v) x).run Tryz.prog w = .ok () w' ∧ MapG enc w' M (putG eqb v x l) ∧ Only (fun k => k = M) w w' ∧ w'.heap.size = w.heap.size := by
  obtain ⟨es, clk, hb, hl⟩ := h
  obtain ⟨j, k, a1, a2, a3, a4⟩ := findKey_gat hK v w hv es.toList l hok hl y hf
  have hkey : (es[j]?).map (fun e => (e.key, e.val)) = some (enc v, y) := by
    have := congrArg (fun l => l[j]?) hl
    simp only [List.getElem?_map, a2, Option.map_some, Array.getElem?_toList] at this
    rw [this, heq k a3]
  obtain ⟨en, hen, hek⟩ : ∃ en, es[j]? = some en ∧ en.key = enc v := by
    cases h : es[j]? with
    | none => rw [h] at hkey; cases hkey
    | some en => rw [h] at hkey; simp at hkey; exact ⟨en, rfl, hkey.1⟩
  refine ⟨{ w with heap := w.heap.setIfInBounds M (.map (es.modify j fun e => { e with key := enc v, val := x }) clk) }, ?_, ?_, ?_, by simp⟩
  · simp [Instr.mapUpdate, run_underlying hK.und, MapKept.run_getObj_map hb, hK.chk, a1, Result.andThen, hen, hek, Instr.keyThatStays, hsb, MapKept.run_setObj_map _ hb]
  · refine ⟨_, _, by rw [Array.getElem?_setIfInBounds_self_of_lt (blk_lt hb)], ?_⟩
    rw [a4 x]
    apply List.ext_getElem?
    intro m
    have hm := congrArg (fun l => l[m]?) hl
    simp only [List.getElem?_map, Array.getElem?_toList] at hm
    simp only [List.getElem?_map, Array.getElem?_toList, Array.getElem?_modify, List.getElem?_set]
    by_cases e : j = m
    · subst e
      have hlt : j < l.length := (List.getElem?_eq_some_iff.1 a2).1
      simp [hen, hlt, heq k a3]
    · simp only [e, if_false]
      exact hm
  · refine ⟨rfl, rfl, rfl, by simp, fun k _ hk => ?_⟩
    show (w.heap.setIfInBounds M _)[k]? = w.heap[k]?
    rw [Array.getElem?_setIfInBounds_ne (fun e => hk e.symm)]

theorem findG_put {α : Type} {eqb : α → α → Bool} (hE : ∀ a b, eqb a b = true ↔ a = b) (v : α) (x : Value) : ∀ (l : List (α × Value)) (y : Value), findG eqb v l = some y → findG eqb v (putG eqb v x l) = some x
  | [], y, h => by cases h
  | (k, z) :: l, y, h => by
    unfold findG at h
    by_cases he : eqb v k = true
    · unfold putG
      rw [if_pos he]
      unfold findG
      rw [if_pos he]
    · rw [if_neg he] at h
      unfold putG
      rw [if_neg he]
      unfold findG
      rw [if_neg he]
      exact findG_put hE v x l y h
theorem findG_put_ne {α : Type} {eqb : α → α → Bool} (hE : ∀ a b, eqb a b = true ↔ a = b) {u v : α} (hne : u ≠ v) (x : Value) : ∀ (l : List (α × Value)), findG eqb u (putG eqb v x l) = findG eqb u l
  | [] => rfl
  | (k, z) :: l => by
    unfold putG
    by_cases he : eqb v k = true
    · have hk := (hE v k).1 he
      subst hk
      have hu : ¬ eqb u v = true := fun h => hne ((hE u v).1 h)
      rw [if_pos he]
      unfold findG
      rw [if_neg hu, if_neg hu]
    · rw [if_neg he]
      unfold findG
      rw [findG_put_ne hE hne x l]
theorem findG_eq (v : V) : ∀ l, findG eqV v l = findV v l
  | [] => rfl
  | (k, x) :: l => by unfold findG findV; rw [findG_eq v l]

theorem val_keyed : Keyed 119 24 54 vAgg (fun _ _ => True) eqV .nilIface :=
  ⟨Tryz.underlying119, fun u v w _ _ => equal_val u v w, check_val, ⟨_, Tryz.underlying24, fun _ _ => rfl⟩, fun w => by kernel_rfl⟩

theorem same_val (v : V) : Instr.sameBits 10000 (vAgg v) (vAgg v) = true := by
  have e : ∀ b : ByteArray, (b == b) = true := fun b => by
    cases b with
    | mk d => first | (show (d == d) = true; simp) | simp [BEq.beq] | rfl
  simp [Instr.sameBits, e]

theorem MapIs.replace {w : World} {M : Nat} {l : List (V × Value)} (h : MapIs w M l) (v : V) (y x : Value) (hf : findV v l = some y) :
    ∃ w' l', (Instr.mapUpdate 119 (.map (some M)) (vAgg v) x).run Tryz.prog w = .ok () w' ∧ MapIs w' M l' ∧ findV v l' = some x ∧ (∀ u, u ≠ v → findV u l' = findV u l) ∧ Only (fun k => k = M) w w' ∧ w'.heap.size = w.heap.size := by
  obtain ⟨w', h1, h2, h3, h4⟩ := MapG.replace val_keyed (show MapG vAgg w M l from h) v y x trivial (fun _ _ => trivial) (by rw [findG_eq]; exact hf) (fun k hk => by rw [eqV_iff.1 hk]) (same_val v)
  exact ⟨w', _, h1, h2, by rw [← findG_eq]; exact findG_put (fun a b => eqV_iff) v x l y (by rw [findG_eq]; exact hf), fun u hu => by rw [← findG_eq, ← findG_eq]; exact findG_put_ne (fun a b => eqV_iff) hu x l, h3, h4⟩

end Go.Proofs.YtgflalfiopnmnaaGreatDoor
