import Derived.Test.YtgflalfiopnmnabG5
namespace Go.Proofs.Ytgflalfiopnmnab
open Go.RowKit Vl Aw

set_option maxHeartbeats 4000000 in
set_option maxRecDepth 100000 in
/-- 'l3keys'. -/
theorem l3keys_any (pa pb : Option Addr) (La Ca Ba Oa Lb Cb Bb Ob n m : Nat) (Ka Xa Kb Xb : Nat → V) (w : World) (HA : Hid (OkT n La Ka Xa)) (HBk0 : Hid (OkT m Lb Kb Xb)) (HZa : Hid (∀ c, c < La → (Ka c).s.size ≤ 9223372036854775807)) (HZb : Hid (∀ c, c < Lb → (Kb c).s.size ≤ 9223372036854775807)) (HPa : Hid (PairsAt w pa La Ba Oa Ka Xa)) (HPb : Hid (PairsAt w pb Lb Bb Ob Kb Xb)) :
    Calls Try.prog 67 #[.agg #[.slice pa La Ca], .agg #[.slice pb Lb Cb]] w fun e w' => (∃ v, e = .returned v ∧ w'.ownsRow w.heap.size 29 4 v (Aw.kidsOf (keys Ka La ++ keys Kb Lb)).length (keyCells (Aw.kidsOf (keys Ka La ++ keys Kb Lb)))) ∧ Below w.heap.size w w' := by
  have hLa := HA.out.len
  have hLb := HBk0.out.len
  have A3 := alloc3 w (.cells #[.slice pa La Ca] 61) (.cells #[.slice pb Lb Cb] 61) (.cells #[.slice none 0 0] 61)
  obtain ⟨w2, hw2⟩ : ∃ w2, w2 = ((w.alloc (.cells #[.slice pa La Ca] 61)).alloc (.cells #[.slice pb Lb Cb] 61)).alloc (.cells #[.slice none 0 0] 61) := ⟨_, rfl⟩
  rw [← hw2] at A3
  have HB2 : Hid (Below w.heap.size w w2) := A3.2.2.2.2
  have HTa : Hid (w2.heap[w.heap.size]? = some (.cells #[.slice pa La Ca] 61 (0, 0))) := A3.1
  have HTb : Hid (w2.heap[w.heap.size + 1]? = some (.cells #[.slice pb Lb Cb] 61 (0, 0))) := A3.2.1
  obtain ⟨xb, hxb⟩ : ∃ xb, w.heap.size + 2 = xb := ⟨_, rfl⟩
  have HX2 : Hid (w2.heap[xb]? = some (.cells #[.slice none 0 0] 61 (0, 0))) := by rw [← hxb]; exact A3.2.2.1
  have HXL : Hid (xb < w2.heap.size ∧ w.heap.size + 2 = xb) := ⟨by have := A3.2.2.2.1; omega, hxb⟩
  have HI1 : Hid (InB w2 w2 xb (.slice none 0 0) 0 (jn La Ka Kb) (jn La Xa Xb)) := ⟨HX2.out, World.ownsRow_nil _ _ _ _, Only.refl _ _⟩
  clear A3
  have HXB : Hid (w.heap.size + 2 = xb) := hxb
  clear hxb
  obtain ⟨ip, hpi, hp0, hp1, hp2⟩ := info_parts Try.info63
  obtain ⟨iv, hi, hz0, hz1, hz2⟩ := info_parts infoV
  go_enter Try.func67, Try.ntmps67
  go_wp2
  rw [← hw2]
  try rw [HXB.out]
  clear hw2
  go_loopw [17] (fun ii wq => ∃ (c : Nat) (pv : Value), c ≤ La ∧ ii = .int .i64 c ∧ Hid (InB w2 wq xb pv (c) (jn La Ka Kb) (jn La Xa Xb))) (fun ii _ => La - (intOf ii).toNat)
  case atStart => exact ⟨0, _, Nat.zero_le _, rfl, HI1⟩
  case round =>
    obtain ⟨c, pv, hc, rfl, HI⟩ := hrel
    clear HI1
    obtain ⟨qa, qc, rfl, hqk⟩ := owns_form HI.out.row
    clear hqk
    have HBq : Hid (Below w.heap.size w wr) := HB2.out.trans (HI.out.only.toBelow (fun k hk => by have := HXL.out; omega) HB2.out.size)
    by_cases hlc : c < La
    · obtain rfl := HPa.out.top (by omega)
      obtain ⟨⟨k0, k1, k2, k3⟩, ⟨v0, v1, v2, v3⟩⟩ := (HPa.out.below HBq.out).cells hlc
      obtain ⟨kc, HKC⟩ : ∃ kc, Hid (Ka c = kc) := ⟨_, rfl⟩
      obtain ⟨xc, HXC⟩ : ∃ xc, Hid (Xa c = xc) := ⟨_, rfl⟩
      rw [HKC.out] at k0 k1 k2 k3
      rw [HXC.out] at v0 v1 v2 v3
      have HKJ : Hid ((jn La Ka Kb) (c) = kc) := by show _ = _; rw [jn_lt hlc]; exact HKC.out
      have HXJ : Hid ((jn La Xa Xb) (c) = xc) := by show _ = _; rw [jn_lt hlc]; exact HXC.out
      obtain ⟨y0, y1⟩ := one_at HI.out.out
      have hxq : xb < wr.heap.size := blk_lt HI.out.out
      have hxq' : xb < wr.heap.size + 1 := by omega
      have hsq := HI.out.only.size
      go_wp2_with (at_builtin; refine wpList_append_lies _ (by rfl) (.tmp 22) (.tmp 24) 59 (by rfl) w2.heap.size 63 ip (.agg #[.int .i64 0, .int .i64 0, .string ⟨#[]⟩, .int .i64 0, .int .i64 0, .int .i64 0, .string ⟨#[]⟩, .int .i64 0]) 8 80 Try.underlying59 hpi hp0 hp1 hp2 (by rfl) (by omega) (.slice qa (c) qc) (c) (pairCells (jn La Ka Kb) (jn La Xa Xb) (c)) (by rfl) ((HI.out.row.alloc _).alloc _) ⟨wr.heap.size + 1, 0, none⟩ 1 1 [.int .i64 kc.k, .int .i64 kc.n, .string kc.s, .int .i64 kc.a, .int .i64 xc.k, .int .i64 xc.n, .string xc.s, .int .i64 xc.a] (by rfl) (by rfl) ?c1 ?c2 (by omega) ?c3 ?c4 ?c5 (wr.heap.size + 2) ?c6 ?_)
      case c1 => exact World.news_of_block (alloc2 wr _ _).2.1
      case c2 => intro v hv; simp at hv; rcases hv with rfl | rfl | rfl | rfl | rfl | rfl | rfl | rfl <;> rfl
      case c3 => unfold maxLen; omega
      case c4 => omega
      case c5 => simp; omega
      case c6 => simp
      intro g cap w6 hown6 hgrow6 hat6 hlt6
      obtain ⟨⟨z0, z1⟩, hI⟩ := HI.out.more HXL.out.1 hgrow6 (by
        simp only [HKJ.out, HXJ.out]
        exact hown6)
      have HI6 : Hid (InB w2 (w6.setCell ⟨xb, 0, none⟩ (.slice (some ⟨g, 0, none⟩) (c + 1) cap)) xb (.slice (some ⟨g, 0, none⟩) (c + 1) cap) (c + 1) (jn La Ka Kb) (jn La Xa Xb)) := hI
      clear hown6 hgrow6 hat6 hlt6 hI k0 k1 k2 k3 v0 v1 v2 v3 y0 y1
      go_wp2
      go_roundw
      case rel => exact ⟨c + 1, _, by omega, by go_num, HI6⟩
      case measure => simp [intOf]; omega
    · obtain rfl : La = c := by omega
      have HI0 : Hid (InB w2 wr xb (.slice qa La qc) (La + 0) (jn La Ka Kb) (jn La Xa Xb)) := HI.out
      have T1 : Hid (wr.heap[w.heap.size + 1]? = some (.cells #[.slice pb Lb Cb] 61 (0, 0))) := (HI.out.only.block _ (by have := HXL.out; omega) (by have := HXL.out; omega)).trans HTb.out
      obtain ⟨y0, y1⟩ := one_at T1.out
      obtain ⟨ws, hws⟩ : ∃ ws, ws = wr := ⟨_, rfl⟩
      rw [← hws] at HI0
      clear HI HBq T1
      go_wp2
      rw [← hws]
      clear hws y0 y1
      go_loopw [31] (fun ii wq => ∃ (c : Nat) (pv : Value), c ≤ Lb ∧ ii = .int .i64 c ∧ Hid (InB w2 wq xb pv (La + c) (jn La Ka Kb) (jn La Xa Xb))) (fun ii _ => Lb - (intOf ii).toNat)
      case atStart => exact ⟨0, _, Nat.zero_le _, rfl, HI0⟩
      case round =>
        obtain ⟨c, pv, hc, rfl, HI⟩ := hrel
        clear HI0
        obtain ⟨qa, qc, rfl, hqk⟩ := owns_form HI.out.row
        clear hqk
        have HBq : Hid (Below w.heap.size w wr) := HB2.out.trans (HI.out.only.toBelow (fun k hk => by have := HXL.out; omega) HB2.out.size)
        by_cases hlc : c < Lb
        · obtain rfl := HPb.out.top (by omega)
          obtain ⟨⟨k0, k1, k2, k3⟩, ⟨v0, v1, v2, v3⟩⟩ := (HPb.out.below HBq.out).cells hlc
          obtain ⟨kc, HKC⟩ : ∃ kc, Hid (Kb c = kc) := ⟨_, rfl⟩
          obtain ⟨xc, HXC⟩ : ∃ xc, Hid (Xb c = xc) := ⟨_, rfl⟩
          rw [HKC.out] at k0 k1 k2 k3
          rw [HXC.out] at v0 v1 v2 v3
          have HKJ : Hid ((jn La Ka Kb) (La + c) = kc) := by show _ = _; rw [jn_add]; exact HKC.out
          have HXJ : Hid ((jn La Xa Xb) (La + c) = xc) := by show _ = _; rw [jn_add]; exact HXC.out
          obtain ⟨y0, y1⟩ := one_at HI.out.out
          have hxq : xb < wr.heap.size := blk_lt HI.out.out
          have hxq' : xb < wr.heap.size + 1 := by omega
          have hsq := HI.out.only.size
          go_wp2_with (at_builtin; refine wpList_append_lies _ (by rfl) (.tmp 36) (.tmp 38) 59 (by rfl) w2.heap.size 63 ip (.agg #[.int .i64 0, .int .i64 0, .string ⟨#[]⟩, .int .i64 0, .int .i64 0, .int .i64 0, .string ⟨#[]⟩, .int .i64 0]) 8 80 Try.underlying59 hpi hp0 hp1 hp2 (by rfl) (by omega) (.slice qa (La + c) qc) (La + c) (pairCells (jn La Ka Kb) (jn La Xa Xb) (La + c)) (by rfl) ((HI.out.row.alloc _).alloc _) ⟨wr.heap.size + 1, 0, none⟩ 1 1 [.int .i64 kc.k, .int .i64 kc.n, .string kc.s, .int .i64 kc.a, .int .i64 xc.k, .int .i64 xc.n, .string xc.s, .int .i64 xc.a] (by rfl) (by rfl) ?c1 ?c2 (by omega) ?c3 ?c4 ?c5 (wr.heap.size + 2) ?c6 ?_)
          case c1 => exact World.news_of_block (alloc2 wr _ _).2.1
          case c2 => intro v hv; simp at hv; rcases hv with rfl | rfl | rfl | rfl | rfl | rfl | rfl | rfl <;> rfl
          case c3 => unfold maxLen; omega
          case c4 => omega
          case c5 => simp; omega
          case c6 => simp
          intro g cap w6 hown6 hgrow6 hat6 hlt6
          obtain ⟨⟨z0, z1⟩, hI⟩ := HI.out.more HXL.out.1 hgrow6 (by
            simp only [HKJ.out, HXJ.out]
            exact hown6)
          have HI6 : Hid (InB w2 (w6.setCell ⟨xb, 0, none⟩ (.slice (some ⟨g, 0, none⟩) (La + c + 1) cap)) xb (.slice (some ⟨g, 0, none⟩) (La + c + 1) cap) (La + c + 1) (jn La Ka Kb) (jn La Xa Xb)) := hI
          clear hown6 hgrow6 hat6 hlt6 hI k0 k1 k2 k3 v0 v1 v2 v3 y0 y1
          go_wp2
          go_roundw
          case rel => exact ⟨c + 1, _, by omega, by go_num, HI6⟩
          case measure => simp [intOf]; omega
        · obtain rfl : Lb = c := by omega
          have hw3 := (owns_pairs HI.out.row)
          obtain ⟨y0, y1⟩ := one_at HI.out.out
          have HPs : Hid (PairsAt wr qa (La + Lb) (slB (.slice qa (La + Lb) qc)) 0 (jn La Ka Kb) (jn La Xa Xb)) := hw3.2
          have HZ : Hid (∀ j, j < La + Lb → ((jn La Ka Kb) j).s.size ≤ 9223372036854775807) := show ∀ j, _ from fun j hj => by
            by_cases e : j < La
            · rw [jn_lt e]; exact HZa.out j e
            · rw [jn_ge e]; exact HZb.out (j - La) (by omega)
          have hso := l3sorted_any qa (La + Lb) qc _ 0 (jn La Ka Kb) (jn La Xa Xb) wr (by omega) HZ HPs
          clear hw3
          go_wp2_with fail
          refine hso.mono ?_
          clear hso y0 y1
          rintro e w3 ⟨⟨sa, sc, ls, rfl, hsort, hrow⟩, hb3⟩
          have HB3 : Hid (Below w.heap.size w w3) := grw HBq.out hb3
          have HSo : Hid (SortI (jn La Ka Kb) (La + Lb) ls) := hsort
          obtain ⟨SK, hSK⟩ : ∃ SK, byI (jn La Ka Kb) ls = SK := ⟨_, rfl⟩
          obtain ⟨SX, hSX⟩ : ∃ SX, byI (jn La Xa Xb) ls = SX := ⟨_, rfl⟩
          have HSK : Hid (byI (jn La Ka Kb) ls = SK) := hSK
          rw [hSK, hSX] at hrow
          obtain ⟨e3, hP3⟩ := owns_pairs hrow
          obtain ⟨sb, hsb⟩ : ∃ sb, slB (.slice sa (La + Lb) sc) = sb := ⟨_, rfl⟩
          rw [hsb] at hP3
          have HP3 : Hid (PairsAt w3 sa (La + Lb) sb 0 SK SX) := hP3
          obtain ⟨N, HN⟩ : ∃ N, Hid (La + Lb = N) := ⟨_, rfl⟩
          have hN : N ≤ 200 := by rw [← HN.out]; omega
          rw [HN.out] at HP3 ⊢
          obtain ⟨b3, HB3s⟩ : ∃ b, Hid (w3.heap.size = b) := ⟨_, rfl⟩
          clear hb3 hsort hrow hSK hSX e3 hP3 hsb HI HBq HPs HZ
          have hfd : ∀ w : World, (Instr.field 61 (.agg #[.slice sa N sc]) 0).run Try.prog w = .ok (.slice sa N sc) w := fun _ => by kernel_rfl
          go_wp2
          clear hfd
          go_loopw [10, 46] (fun ov ii wr => ∃ c : Nat, c ≤ N ∧ ii = .int .i64 c ∧ Hid (wr.ownsRow b3 29 4 ov (Aw.dd SK c).length (keyCells (Aw.dd SK c))) ∧ Hid (Below b3 w3 wr)) (fun _ ii _ => N - (intOf ii).toNat)
          case atStart => exact ⟨0, Nat.zero_le _, rfl, World.ownsRow_nil _ _ _ _, Below.refl _ _⟩
          case round =>
            obtain ⟨c, hc, rfl, HO, HB⟩ := hrel
            obtain ⟨oa, oc, rfl, _⟩ := owns_form HO.out
            have hs3 : b3 ≤ wr.heap.size := by have := HB.out.size; have := HB3s.out; omega
            obtain ⟨ml, HML⟩ : ∃ ml, Hid ((Aw.dd SK c).length = ml) := ⟨_, rfl⟩
            rw [HML.out] at HO ⊢
            by_cases hlt : c < N
            · obtain rfl := HP3.out.top (by omega)
              obtain ⟨⟨k0, k1, k2, k3⟩, ⟨v0, v1, v2, v3⟩⟩ := (HP3.out.below (HB3s.out ▸ HB.out)).cells hlt
              obtain ⟨kc, HKC⟩ : ∃ kc, Hid (SK c = kc) := ⟨_, rfl⟩
              obtain ⟨xc, HXC⟩ : ∃ xc, Hid (SX c = xc) := ⟨_, rfl⟩
              rw [HKC.out] at k0 k1 k2 k3
              rw [HXC.out] at v0 v1 v2 v3
              simp only [Nat.zero_add] at k0 k1 k2 k3 v0 v1 v2 v3
              go_wp2
              obtain ⟨wk, hwk⟩ : ∃ wk, wk = wr.alloc (.cells #[.int .i64 kc.k, .int .i64 kc.n, .string kc.s, .int .i64 kc.a, .int .i64 xc.k, .int .i64 xc.n, .string xc.s, .int .i64 xc.a] 63) := ⟨_, rfl⟩
              have hbk : Below wr.heap.size wr wk := by rw [hwk]; exact (Below.refl _ _).alloc (Nat.le_refl _) _
              have HQk : Hid (wk.heap[wr.heap.size]? = some (.cells #[.int .i64 kc.k, .int .i64 kc.n, .string kc.s, .int .i64 kc.a, .int .i64 xc.k, .int .i64 xc.n, .string xc.s, .int .i64 xc.a] 63 (0, 0))) := by rw [hwk]; exact heap_alloc_new _ _
              rw [← hwk]
              obtain ⟨qb, hqb⟩ : ∃ qb, wr.heap.size = qb := ⟨_, rfl⟩
              have HBk : Hid (Below b3 w3 wk) := HB.out.trans (hbk.mono hs3)
              have HOk : Hid (wk.ownsRow b3 29 4 (.slice oa ml oc) ml (keyCells (Aw.dd SK c))) := (Only.below (P := fun _ => False) hbk).owns HO.out (fun _ _ _ h => h)
              rw [hqb] at HQk ⊢
              clear hwk hbk hqb k0 k1 k2 k3 v0 v1 v2 v3 HO HB hs3
              obtain ⟨p0, p1, p2, p3, p4, p5, p6, p7, _⟩ := cells8 HQk.out
              replace p0 := cellB p0
              replace p1 := cellB p1
              replace p2 := cellB p2
              replace p3 := cellB p3
              by_cases hm0 : ml = 0
              · have hd : ((ml : Int) == 0) = true := by simp [hm0]
                have HE : Hid (Aw.dd SK (c + 1) = Aw.dd SK c ++ [kc]) := by
                  have e : Aw.dd SK c = [] := List.length_eq_zero_iff.1 (HML.out.trans hm0)
                  show (if (Aw.dd SK c).getLast?.any (fun k => eqV k (SK c)) = true then Aw.dd SK c else Aw.dd SK c ++ [SK c]) = _
                  rw [HKC.out, e]
                  rfl
                clear hm0
                go_quiet (fail)
                obtain ⟨wd, hwd⟩ : ∃ wd, wd = wk.drewN nq := ⟨_, rfl⟩
                have HBd : Hid (Below b3 w3 wd) := by rw [hwd]; exact below_drewN HBk.out nq
                have HOd : Hid (wd.ownsRow b3 29 4 (.slice oa ml oc) ml (keyCells (Aw.dd SK c))) := by rw [hwd]; exact HOk.out
                have HQd : Hid (wd.heap[qb]? = some (.cells #[.int .i64 kc.k, .int .i64 kc.n, .string kc.s, .int .i64 kc.a, .int .i64 xc.k, .int .i64 xc.n, .string xc.s, .int .i64 xc.a] 63 (0, 0))) := by rw [hwd]; exact HQk.out
                rw [← hwd]
                clear hwd HBk HOk HQk p0 p1 p2 p3 p4 p5 p6 p7
                obtain ⟨p0, p1, p2, p3, p4, p5, p6, p7, _⟩ := cells8 HQd.out
                have hml := dd_len SK c
                rw [HML.out] at hml
                go_wp2_with (at_builtin; refine wpList_append_lies _ (by rfl) (.tmp 64) (.tmp 67) 45 (by rfl) b3 29 iv (.agg #[.int .i64 0, .int .i64 0, .string ⟨#[]⟩, .int .i64 0]) 4 40 Try.underlying45 hi hz0 hz1 hz2 (by rfl) (by omega) (.slice oa ml oc) ml (keyCells (Aw.dd SK c)) (by rfl) (HOd.out.alloc _) ⟨wd.heap.size, 0, none⟩ 1 1 [.int .i64 kc.k, .int .i64 kc.n, .string kc.s, .int .i64 kc.a] (by rfl) (by rfl) ?c1 ?c2 (by omega) ?c3 ?c4 ?c5 (wd.heap.size + 1) ?c6 ?_)
                case c1 => exact World.news_of_block (heap_alloc_new wd _)
                case c2 => intro v hv; simp at hv; rcases hv with rfl | rfl | rfl | rfl <;> rfl
                case c3 => unfold maxLen; omega
                case c4 => omega
                case c5 => have := HBd.out.size; have := HB3s.out; simp; omega
                case c6 => simp
                intro g2 cap w7 hown7 hgrow7 hat7 hlt7
                have hb7 : Below b3 (wd.alloc (.cells #[.int .i64 kc.k, .int .i64 kc.n, .string kc.s, .int .i64 kc.a] 29)) w7 := below_grown (HOd.out.alloc _) hgrow7 (by have := HBd.out.size; have := HB3s.out; simp; omega)
                have HB7 : Hid (Below b3 w3 w7) := (HBd.out.alloc (by have := HBd.out.size; have := HB3s.out; omega) _).trans hb7
                have HO7 : Hid (w7.ownsRow b3 29 4 (.slice (some ⟨g2, 0, none⟩) (ml + 1) cap) (Aw.dd SK (c + 1)).length (keyCells (Aw.dd SK (c + 1)))) := by
                  rw [HE.out, keyCells_snoc, List.length_append, HML.out]
                  exact hown7
                clear hown7 hgrow7 hat7 hlt7 hb7
                go_wp2
                go_roundw
                case rel => exact ⟨c + 1, by omega, by go_num, HO7, HB7⟩
                case measure => simp [intOf]; omega
              · obtain ⟨q, hq⟩ : ∃ q, ml = q + 1 := ⟨ml - 1, by omega⟩
                have hd : ((ml : Int) == 0) = false := by simp [hm0]
                have hq1 : (ml : Int) - 1 = (q : Int) := by omega
                have hml := Aw.dd_len SK c
                rw [HML.out] at hml
                have hwm : IntKind.i64.wrap (q : Int) = (q : Int) := by rw [IntKind.wrap_i64]; omega
                have hbq : (0 : Int) ≤ (q : Int) ∧ (q : Int) < (ml : Int) := by omega
                have hlast : (Aw.dd SK c).getLast? = some (lsF (Aw.dd SK c) q) := by
                  rw [List.getLast?_eq_getElem?, HML.out, hq]
                  have hl : q < (Aw.dd SK c).length := by rw [HML.out]; omega
                  simp only [Nat.add_sub_cancel, lsF, List.getD_eq_getElem?_getD]
                  rw [List.getElem?_eq_getElem hl]
                  rfl
                obtain ⟨lk, HLK⟩ : ∃ lk, Hid (lsF (Aw.dd SK c) q = lk) := ⟨_, rfl⟩
                rw [HLK.out] at hlast
                obtain ⟨ra, rc, rB, er, hvr⟩ := owns_rowV HML.out HOk.out
                rw [HML.out] at er hvr
                cases er
                obtain rfl := hvr.top (by omega)
                obtain ⟨l0, l1, l2, l3⟩ := hvr.cells (c := q) (by omega)
                rw [HLK.out] at l0 l1 l2 l3
                simp only [Nat.zero_add] at l0 l1 l2 l3
                replace l0 := cellB l0
                replace l1 := cellB l1
                replace l2 := cellB l2
                replace l3 := cellB l3
                have hne := neqV lk kc
                clear hq hm0 hvr
                cases hbe : eqV lk kc with
                | true =>
                  have HE : Hid (Aw.dd SK (c + 1) = Aw.dd SK c) := by
                    show (if (Aw.dd SK c).getLast?.any (fun k => eqV k (SK c)) = true then Aw.dd SK c else Aw.dd SK c ++ [SK c]) = _
                    rw [hlast, HKC.out]
                    simp only [Option.any_some, hbe, if_true]
                  rw [hbe] at hne
                  clear hbe hlast
                  go_region_held3 (fun w' => Below wk.heap.size wk w') (first | exact (Below.refl _ _).drew) (fail)
                  clear p0 p1 p2 p3 l0 l1 l2 l3 hne
                  have HO7 : Hid (wk.drew.ownsRow b3 29 4 (.slice (some ⟨rB, 0, none⟩) ml oc) (Aw.dd SK (c + 1)).length (keyCells (Aw.dd SK (c + 1)))) := by
                    rw [HE.out, HML.out]; exact HOk.out
                  have HB7 : Hid (Below b3 w3 wk.drew) := HBk.out.drew
                  go_wp2
                  go_roundw
                  case rel => exact ⟨c + 1, by omega, by go_num, HO7, HB7⟩
                  case measure => simp [intOf]; omega
                | false =>
                  have HE : Hid (Aw.dd SK (c + 1) = Aw.dd SK c ++ [kc]) := by
                    show (if (Aw.dd SK c).getLast?.any (fun k => eqV k (SK c)) = true then Aw.dd SK c else Aw.dd SK c ++ [SK c]) = _
                    rw [hlast, HKC.out]
                    simp [hbe]
                  rw [hbe] at hne
                  clear hbe hlast
                  go_region_held3 (fun w' => Below wk.heap.size wk w') (first | exact (Below.refl _ _).drew) (fail)
                  clear l0 l1 l2 l3 hne
                  obtain ⟨wd, hwd⟩ : ∃ wd, wd = wk.drew := ⟨_, rfl⟩
                  have HBd : Hid (Below b3 w3 wd) := by rw [hwd]; exact HBk.out.drew
                  have HOd : Hid (wd.ownsRow b3 29 4 (.slice (some ⟨rB, 0, none⟩) ml oc) ml (keyCells (Aw.dd SK c))) := by rw [hwd]; exact HOk.out
                  have HQd : Hid (wd.heap[qb]? = some (.cells #[.int .i64 kc.k, .int .i64 kc.n, .string kc.s, .int .i64 kc.a, .int .i64 xc.k, .int .i64 xc.n, .string xc.s, .int .i64 xc.a] 63 (0, 0))) := by rw [hwd]; exact HQk.out
                  rw [← hwd]
                  clear hwd HBk HOk HQk p0 p1 p2 p3 p4 p5 p6 p7
                  obtain ⟨p0, p1, p2, p3, p4, p5, p6, p7, _⟩ := cells8 HQd.out
                  have hml2 := Aw.dd_len SK c
                  rw [HML.out] at hml2
                  go_wp2_with (at_builtin; refine wpList_append_lies _ (by rfl) (.tmp 64) (.tmp 67) 45 (by rfl) b3 29 iv (.agg #[.int .i64 0, .int .i64 0, .string ⟨#[]⟩, .int .i64 0]) 4 40 Try.underlying45 hi hz0 hz1 hz2 (by rfl) (by omega) (.slice (some ⟨rB, 0, none⟩) ml oc) ml (keyCells (Aw.dd SK c)) (by rfl) (HOd.out.alloc _) ⟨wd.heap.size, 0, none⟩ 1 1 [.int .i64 kc.k, .int .i64 kc.n, .string kc.s, .int .i64 kc.a] (by rfl) (by rfl) ?c1 ?c2 (by omega) ?c3 ?c4 ?c5 (wd.heap.size + 1) ?c6 ?_)
                  case c1 => exact World.news_of_block (heap_alloc_new wd _)
                  case c2 => intro v hv; simp at hv; rcases hv with rfl | rfl | rfl | rfl <;> rfl
                  case c3 => unfold maxLen; omega
                  case c4 => omega
                  case c5 => have := HBd.out.size; have := HB3s.out; simp; omega
                  case c6 => simp
                  intro g2 cap w7 hown7 hgrow7 hat7 hlt7
                  have hb7 : Below b3 (wd.alloc (.cells #[.int .i64 kc.k, .int .i64 kc.n, .string kc.s, .int .i64 kc.a] 29)) w7 := below_grown (HOd.out.alloc _) hgrow7 (by have := HBd.out.size; have := HB3s.out; simp; omega)
                  have HB7 : Hid (Below b3 w3 w7) := (HBd.out.alloc (by have := HBd.out.size; have := HB3s.out; omega) _).trans hb7
                  have HO7 : Hid (w7.ownsRow b3 29 4 (.slice (some ⟨g2, 0, none⟩) (ml + 1) cap) (Aw.dd SK (c + 1)).length (keyCells (Aw.dd SK (c + 1)))) := by
                    rw [HE.out, keyCells_snoc, List.length_append, HML.out]
                    exact hown7
                  clear hown7 hgrow7 hat7 hlt7 hb7
                  go_wp2
                  go_roundw
                  case rel => exact ⟨c + 1, by omega, by go_num, HO7, HB7⟩
                  case measure => simp [intOf]; omega
            · obtain rfl : N = c := by omega
              have HOe : Hid (wr.ownsRow w.heap.size 29 4 (.slice oa ml oc) (Aw.kidsOf (keys Ka La ++ keys Kb Lb)).length (keyCells (Aw.kidsOf (keys Ka La ++ keys Kb Lb)))) := by
                have e : Aw.dd SK N = Aw.kidsOf (keys Ka La ++ keys Kb Lb) := by
                  rw [← HSK.out, ← HN.out]
                  have := Aw.dd_kids HA.out HBk0.out (ls := ls) (by first | exact HSo.out)
                  exact this
                rw [← e, HML.out]
                exact owns_mono HO.out (by have := HB3.out.size; have := HB3s.out; omega)
              have HBe : Hid (Below w.heap.size w wr) := HB3.out.trans (HB.out.mono (by have := HB3.out.size; have := HB3s.out; omega))
              go_wp2
              go_ret
              exact ⟨⟨_, rfl, HOe.out⟩, HBe.out⟩

end Go.Proofs.Ytgflalfiopnmnab

/-
  The line of couples of 'spec.Apart', in memory.
-/
namespace Go.Proofs.Ytgflalfiopnmnab
open Go.RowKit Vl Aw

def e0 : Aw.E := ⟨zeroV, zeroV, []⟩
def lsE (l : List Aw.E) (j : Nat) : Aw.E := l.getD j e0
theorem lsE_at {l : List Aw.E} {j : Nat} (h : j < l.length) : l[j]? = some (lsE l j) := by
  unfold lsE
  rw [List.getD_eq_getElem?_getD, List.getElem?_eq_getElem h]
  rfl
theorem lsE_old {l : List Aw.E} {e : Aw.E} {j : Nat} (h : j < l.length) : lsE (l ++ [e]) j = lsE l j := by
  unfold lsE
  rw [List.getD_eq_getElem?_getD, List.getD_eq_getElem?_getD, List.getElem?_append_left h]
theorem lsE_new (l : List Aw.E) (e : Aw.E) : lsE (l ++ [e]) l.length = e := by
  unfold lsE
  simp [List.getD_eq_getElem?_getD]

/-- The cells of one couple. -/
abbrev cell9 (e : Aw.E) (pv : Value) : List Value := [.int .i64 e.a.k, .int .i64 e.a.n, .string e.a.s, .int .i64 e.a.a, .int .i64 e.b.k, .int .i64 e.b.n, .string e.b.s, .int .i64 e.b.a, pv]
def twoCells (f : Nat → Aw.E) (PV : Nat → Value) (n : Nat) : List Value := (List.range n).flatMap fun j => cell9 (f j) (PV j)
theorem twoCells_succ (f : Nat → Aw.E) (PV : Nat → Value) (n : Nat) : twoCells f PV (n + 1) = twoCells f PV n ++ cell9 (f n) (PV n) := by simp [twoCells, List.range_succ]
theorem twoCells_len (f : Nat → Aw.E) (PV : Nat → Value) (n : Nat) : (twoCells f PV n).length = n * 9 := by
  induction n with
  | zero => rfl
  | succ n ih => rw [twoCells_succ, List.length_append, ih]; simp; omega
theorem twoCells_at (f : Nat → Aw.E) (PV : Nat → Value) (n j i : Nat) (hj : j < n) (hi : i < 9) : (twoCells f PV n)[j * 9 + i]? = (cell9 (f j) (PV j))[i]? := by
  induction n with
  | zero => omega
  | succ n ih =>
    rw [twoCells_succ]
    by_cases e : j = n
    · subst e
      rw [List.getElem?_append_right (by rw [twoCells_len]; omega), twoCells_len, show j * 9 + i - j * 9 = i by omega]
    · rw [List.getElem?_append_left (by rw [twoCells_len]; omega)]
      exact ih (by omega)
theorem twoCells_congr {f f' : Nat → Aw.E} {PV PV' : Nat → Value} {n : Nat} (h : ∀ j, j < n → f j = f' j ∧ PV j = PV' j) : twoCells f PV n = twoCells f' PV' n := by
  induction n with
  | zero => rfl
  | succ n ih => rw [twoCells_succ, twoCells_succ, ih (fun j hj => h j (by omega)), (h n (by omega)).1, (h n (by omega)).2]

/-- Couples with their paths, of the call's own making. -/
structure LTab (w : World) (base : Nat) (v : Value) (n : Nat) (f : Nat → Aw.E) (PV : Nat → Value) : Prop where
  own : w.ownsRow base 97 9 v n (twoCells f PV n)
  rows : ∀ j, j < n → w.ownsRow base 29 4 (PV j) (f j).p.length (keyCells (f j).p)

theorem LTab.below {w w' : World} {base : Nat} {v : Value} {n : Nat} {f : Nat → Aw.E} {PV : Nat → Value} (h : LTab w base v n f PV) (hb : Below w.heap.size w w') : LTab w' base v n f PV :=
  ⟨(Only.below (P := fun _ => False) hb).owns h.own (fun _ _ _ h => h), fun j hj => (Only.below (P := fun _ => False) hb).owns (h.rows j hj) (fun _ _ _ h => h)⟩

theorem LTab.cells {w : World} {base : Nat} {v : Value} {n : Nat} {f : Nat → Aw.E} {PV : Nat → Value} (h : LTab w base v n f PV) {j : Nat} (hj : j < n) : ∃ g cap, v = .slice (some ⟨g, 0, none⟩) n cap ∧ ∀ i y, (cell9 (f j) (PV j))[i]? = some y → w.cell? ⟨g, j * 9 + i, none⟩ = some y := by
  obtain ⟨g, cap, rfl, _⟩ := owns_cell h.own (k := j * 9 + 0) (y := .int .i64 (f j).a.k) (by rw [twoCells_at _ _ _ _ _ hj (by omega)]; rfl)
  refine ⟨g, cap, rfl, fun i y hy => ?_⟩
  have hi : i < 9 := by
    rcases Nat.lt_or_ge i 9 with h | h
    · exact h
    · rw [List.getElem?_eq_none (by simp; omega)] at hy; cases hy
  obtain ⟨g', cap', e, hc⟩ := owns_cell h.own (k := j * 9 + i) (y := y) (by rw [twoCells_at _ _ _ _ _ hj hi]; exact hy)
  cases e
  exact hc

/-- One couple more. -/
theorem LTab.more {w w1 : World} {base : Nat} {v v' pv : Value} {n : Nat} {f f' : Nat → Aw.E} {PV : Nat → Value} {e : Aw.E} (h : LTab w base v n f PV) (hf : ∀ j, j < n → f' j = f j) (he : f' n = e) (hp : w.ownsRow base 29 4 pv e.p.length (keyCells e.p)) (o : Obj) (hbz : base ≤ w.heap.size)
    (ho : w1.ownsRow base 97 9 v' (n + 1) (twoCells f PV n ++ cell9 e pv)) (hg : (w.alloc o).grownBy w1 v.ownBlock) :
    LTab w1 base v' (n + 1) f' (fun j => if j = n then pv else PV j) ∧ Below base w w1 ∧ (∀ v n xs, w.ownsRow base 29 4 v n xs → w1.ownsRow base 29 4 v n xs) ∧ ∀ k, k < w.heap.size → v.ownBlock ≠ some k → w1.heap[k]? = w.heap[k]? := by
  have keep : ∀ v n xs, w.ownsRow base 29 4 v n xs → w1.ownsRow base 29 4 v n xs := fun v n xs hr => by
    refine ⟨hr.1, ?_⟩
    rcases hr.2 with h2 | ⟨g, cap, cur, hv, hge, hh, r⟩
    · exact Or.inl h2
    · refine Or.inr ⟨g, cap, cur, hv, hge, ?_, r⟩
      rw [hg.block g (by have := lt_of_block hh; simp; omega) (fun e => ?_), Below.heap_alloc _ _ _ (lt_of_block hh)]
      · exact hh
      · obtain ⟨_, cur', h'⟩ := owns_type h.own e.symm
        rw [hh] at h'
        cases h'
  refine ⟨⟨?_, fun j hj => ?_⟩, ?_, keep, fun k hk hne => (hg.block k (by simp; omega) (fun e => hne e.symm)).trans (Below.heap_alloc _ _ _ hk)⟩
  · rw [twoCells_succ, he]
    have e1 : twoCells f' (fun j => if j = n then pv else PV j) n = twoCells f PV n := twoCells_congr (fun j hj => ⟨hf j hj, if_neg (by omega)⟩)
    rw [e1]
    simp only [if_true]
    exact ho
  · by_cases e' : j = n
    · subst e'; simp only [if_true]; rw [he]; exact keep _ _ _ hp
    · simp only [if_neg e']; rw [hf j (by omega)]; exact keep _ _ _ (h.rows j (by omega))
  · refine ⟨hg.os, hg.tape, hg.output, by have := hg.size; simp at this; omega, fun k hk => ?_⟩
    rw [hg.block k (by simp; omega) (fun e => ?_), Below.heap_alloc _ _ _ (by omega)]
    have := (owns_type h.own e.symm).1
    omega

theorem cells9 {w : World} {B : Nat} {c0 c1 c2 c3 c4 c5 c6 c7 c8 : Value} {t : TypeId} (H : w.heap[B]? = some (.cells #[c0, c1, c2, c3, c4, c5, c6, c7, c8] t (0, 0))) :
    w.cell? ⟨B, 0, none⟩ = some c0 ∧ w.cell? ⟨B, 1, none⟩ = some c1 ∧ w.cell? ⟨B, 2, none⟩ = some c2 ∧ w.cell? ⟨B, 3, none⟩ = some c3 ∧ w.cell? ⟨B, 4, none⟩ = some c4 ∧ w.cell? ⟨B, 5, none⟩ = some c5 ∧ w.cell? ⟨B, 6, none⟩ = some c6 ∧ w.cell? ⟨B, 7, none⟩ = some c7 ∧ w.cell? ⟨B, 8, none⟩ = some c8 := by
  refine ⟨?_, ?_, ?_, ?_, ?_, ?_, ?_, ?_, ?_⟩ <;> simp [World.cell?, H]

theorem Try.infoTwo : (Try.prog.info? 97).map (fun i => (i.zero, i.size, i.bytes)) = some (some (.agg #[.int .i64 0, .int .i64 0, .string ⟨#[]⟩, .int .i64 0, .int .i64 0, .int .i64 0, .string ⟨#[]⟩, .int .i64 0, .slice none 0 0]), 9, 104) := by kernel_rfl

theorem put9 {w : World} {B : Nat} {c0 c1 c2 c3 c4 c5 c6 c7 c8 : Value} {t : TypeId} (H : w.heap[B]? = some (.cells #[c0, c1, c2, c3, c4, c5, c6, c7, c8] t (0, 0))) (d0 d1 d2 d3 d4 d5 d6 d7 d8 : Value) :
    (((((((((w.setCell ⟨B, 0, none⟩ d0).setCell ⟨B, 1, none⟩ d1).setCell ⟨B, 2, none⟩ d2).setCell ⟨B, 3, none⟩ d3).setCell ⟨B, 4, none⟩ d4).setCell ⟨B, 5, none⟩ d5).setCell ⟨B, 6, none⟩ d6).setCell ⟨B, 7, none⟩ d7).setCell ⟨B, 8, none⟩ d8).heap[B]? = some (.cells #[d0, d1, d2, d3, d4, d5, d6, d7, d8] t (0, 0)) := by
  have hlt := blk_lt H
  simp [World.setCell, Array.getElem?_modify, H]
theorem below9 {w : World} {b B : Nat} (h : b ≤ B) (d0 d1 d2 d3 d4 d5 d6 d7 d8 : Value) :
    Below b w (((((((((w.setCell ⟨B, 0, none⟩ d0).setCell ⟨B, 1, none⟩ d1).setCell ⟨B, 2, none⟩ d2).setCell ⟨B, 3, none⟩ d3).setCell ⟨B, 4, none⟩ d4).setCell ⟨B, 5, none⟩ d5).setCell ⟨B, 6, none⟩ d6).setCell ⟨B, 7, none⟩ d7).setCell ⟨B, 8, none⟩ d8) :=
  (((((((((Below.refl b w).setCell (p := ⟨B, 0, none⟩) h _).setCell (p := ⟨B, 1, none⟩) h _).setCell (p := ⟨B, 2, none⟩) h _).setCell (p := ⟨B, 3, none⟩) h _).setCell (p := ⟨B, 4, none⟩) h _).setCell (p := ⟨B, 5, none⟩) h _).setCell (p := ⟨B, 6, none⟩) h _).setCell (p := ⟨B, 7, none⟩) h _).setCell (p := ⟨B, 8, none⟩) h _

theorem own9 {w : World} {base n B : Nat} {v : Value} {xs : List Value} {c0 c1 c2 c3 c4 c5 c6 c7 c8 : Value} (h : w.ownsRow base 29 4 v n xs) (H : w.heap[B]? = some (.cells #[c0, c1, c2, c3, c4, c5, c6, c7, c8] 97 (0, 0))) (d0 d1 d2 d3 d4 d5 d6 d7 d8 : Value) :
    (((((((((w.setCell ⟨B, 0, none⟩ d0).setCell ⟨B, 1, none⟩ d1).setCell ⟨B, 2, none⟩ d2).setCell ⟨B, 3, none⟩ d3).setCell ⟨B, 4, none⟩ d4).setCell ⟨B, 5, none⟩ d5).setCell ⟨B, 6, none⟩ d6).setCell ⟨B, 7, none⟩ d7).setCell ⟨B, 8, none⟩ d8).ownsRow base 29 4 v n xs := by
  have ho : Only (fun k => k = B) w (((((((((w.setCell ⟨B, 0, none⟩ d0).setCell ⟨B, 1, none⟩ d1).setCell ⟨B, 2, none⟩ d2).setCell ⟨B, 3, none⟩ d3).setCell ⟨B, 4, none⟩ d4).setCell ⟨B, 5, none⟩ d5).setCell ⟨B, 6, none⟩ d6).setCell ⟨B, 7, none⟩ d7).setCell ⟨B, 8, none⟩ d8) :=
    ((((((((((Only.refl (fun k => k = B) w).set (p := ⟨B, 0, none⟩) rfl d0).set (p := ⟨B, 1, none⟩) rfl d1).set (p := ⟨B, 2, none⟩) rfl d2).set (p := ⟨B, 3, none⟩) rfl d3).set (p := ⟨B, 4, none⟩) rfl d4).set (p := ⟨B, 5, none⟩) rfl d5).set (p := ⟨B, 6, none⟩) rfl d6).set (p := ⟨B, 7, none⟩) rfl d7).set (p := ⟨B, 8, none⟩) rfl d8)
  refine ho.ownsB h (fun g hg e => ?_)
  obtain ⟨_, cur, hc⟩ := owns_type h hg
  rw [e, H] at hc
  cases hc

theorem share4 {F : Nat → Option Addr → Nat → World → Prop} {G : Nat → Option Addr → Nat → World → Prop} {P : Prop} (h : Hid (∀ q a c w, F q a c w → G q a c w) → P) (g : ∀ q a c w, F q a c w → G q a c w) : P := h g

theorem any_take {l : List Aw.E} {q : Nat} (p : Aw.E → Bool) (h : q < l.length) : (l.take (q + 1)).any p = ((l.take q).any p || p (lsE l q)) := by
  rw [Aw.take_next (lsE_at h), List.any_append]
  simp

/-- What 'met' says behind q couples. -/
def MetIs (mv : Value) (l : List Aw.E) (q : Nat) (c : Aw.E) : Prop := ∃ b, mv = .bool b ∧ (l.take q).any (Aw.same c) = b

/-- What 'spec.Apart' gives. -/
def ApS (w w' : World) (e : Ending) (f : Nat → Nat) (n m : Nat) (u u' : V) (L L' : Nat → Nat) (K X K' X' : Nat → Nat → V) : Prop :=
  ((OkG n u L K X ∧ OkG m u' L' K' X') ∧ ∃ v ans, e = .returned v ∧ Aw.SDone (Aw.sysOf n L K X L' K' X' f) ⟨u, u', []⟩ ans ∧ w'.ownsRow w.heap.size 29 4 v ans.length (keyCells ans)) ∨ (¬ (OkG n u L K X ∧ OkG m u' L' K' X') ∧ e = .returned (.slice none 0 0))

theorem sys_bound {f : Nat → Nat} {n m : Nat} {u u' : V} {L L' : Nat → Nat} {K X K' X' : Nat → Nat → V} (h : OkG n u L K X) (h' : OkG m u' L' K' X') {i : Nat} {l : List Aw.E} (hr : Aw.SReach (Aw.sysOf n L K X L' K' X' f) ⟨u, u', []⟩ i l) : l.length ≤ 8000001 ∧ (∀ e ∈ l, isV n e.a = true ∧ isV m e.b = true) ∧ (∀ e ∈ l, e.p.length ≤ i) := by
  have h1 := hr.len (Aw.sys_next h h') (Aw.sys_ix n m L K X L' K' X' f) (Aw.sys_few h h') ⟨h.root, h'.root⟩ rfl
  have h2 := (hr.wide (Aw.sys_next h h') (Aw.sys_ix n m L K X L' K' X' f) (Aw.sys_few h h') ⟨h.root, h'.root⟩ rfl).1
  have h3 : n * m ≤ 200 * 200 := Nat.mul_le_mul h.len h'.len
  exact ⟨by omega, h2.good, h2.path⟩

end Go.Proofs.Ytgflalfiopnmnab

namespace Go.Proofs.Ytgflalfiopnmnab
open Go.RowKit Vl

theorem cells4' {w : World} {B : Nat} {a b c d : Value} {t : TypeId} (H : w.heap[B]? = some (.cells #[a, b, c, d] t (0, 0))) : w.cell? ⟨B, 0, none⟩ = some a ∧ w.cell? ⟨B, 1, none⟩ = some b ∧ w.cell? ⟨B, 2, none⟩ = some c ∧ w.cell? ⟨B, 3, none⟩ = some d ∧ ∀ i, w.frozen? ⟨B, i, none⟩ = false := by
  refine ⟨?_, ?_, ?_, ?_, fun i => ?_⟩ <;> simp [World.cell?, World.frozen?, H]

set_option maxHeartbeats 4000000 in
set_option maxRecDepth 100000 in
/-- 'spec.Same'. -/
theorem specSame_any (u u' : V) (ta ta' : Option Addr) (n cp TB TO m cp' TB' TO' : Nat) (A A' : Nat → Option Addr) (L C RB RO L' C' RB' RO' : Nat → Nat) (K X K' X' : Nat → Nat → V) (w : World) (hn : n ≤ 1048576) (hm : m ≤ 1048576) (HS : Hid (Small 1048576 n L K X)) (HS' : Hid (Small 1048576 m L' K' X')) (HT : Hid (TabsAt w ta n TB TO A L C RB RO K X)) (HT' : Hid (TabsAt w ta' m TB' TO' A' L' C' RB' RO' K' X')) :
    Calls Try.prog 30 #[.agg #[.int .i64 u.k, .int .i64 u.n, .string u.s, .int .i64 u.a, .slice ta n cp], .agg #[.int .i64 u'.k, .int .i64 u'.n, .string u'.s, .int .i64 u'.a, .slice ta' m cp']] w fun e w' => SameRes e n m u u' L L' K X K' X' ∧ Below w.heap.size w w' := by
  have A2 := alloc2 w (.cells #[.int .i64 u.k, .int .i64 u.n, .string u.s, .int .i64 u.a, .slice ta n cp] 32) (.cells #[.int .i64 u'.k, .int .i64 u'.n, .string u'.s, .int .i64 u'.a, .slice ta' m cp'] 32)
  obtain ⟨w1, hw1⟩ : ∃ w1, w1 = (w.alloc (.cells #[.int .i64 u.k, .int .i64 u.n, .string u.s, .int .i64 u.a, .slice ta n cp] 32)).alloc (.cells #[.int .i64 u'.k, .int .i64 u'.n, .string u'.s, .int .i64 u'.a, .slice ta' m cp'] 32) := ⟨_, rfl⟩
  rw [← hw1] at A2
  have HB1 : Hid (Below w.heap.size w w1) := A2.2.2.2
  have G1 : Hid (w1.heap[w.heap.size]? = some (.cells #[.int .i64 u.k, .int .i64 u.n, .string u.s, .int .i64 u.a, .slice ta n cp] 32 (0, 0))) := A2.1
  have G2 : Hid (w1.heap[w.heap.size + 1]? = some (.cells #[.int .i64 u'.k, .int .i64 u'.n, .string u'.s, .int .i64 u'.a, .slice ta' m cp'] 32 (0, 0))) := A2.2.1
  clear A2
  have hok := specOk_any u ta n cp TB TO A L C RB RO K X w1 hn HS (HT.out.below HB1.out)
  go_enter Try.func30, Try.ntmps30
  go_wp2_with fail
  rw [← hw1]
  refine hok.mono ?_
  clear hok hw1
  rintro e w2 ⟨⟨b, rfl, hb⟩, hb2⟩
  have HB2 : Hid (Below w.heap.size w w2) := grw HB1.out hb2
  have H2 : Hid (w2.heap[w.heap.size]? = some (.cells #[.int .i64 u.k, .int .i64 u.n, .string u.s, .int .i64 u.a, .slice ta n cp] 32 (0, 0))) := blkB G1.out hb2
  have H2' : Hid (w2.heap[w.heap.size + 1]? = some (.cells #[.int .i64 u'.k, .int .i64 u'.n, .string u'.s, .int .i64 u'.a, .slice ta' m cp'] 32 (0, 0))) := blkB G2.out hb2
  clear hb2 G1 G2 HB1
  cases b
  · have HN : Hid (¬ (OkG n u L K X ∧ OkG m u' L' K' X')) := show ¬ _ from fun h => by have := hb.2 h.1; cases this
    clear hb
    go_wp2
    go_ret
    exact ⟨Or.inr ⟨HN.out, rfl⟩, HB2.out⟩
  have HO : Hid (OkG n u L K X) := hb.1 rfl
  clear hb
  have hok := specOk_any u' ta' m cp' TB' TO' A' L' C' RB' RO' K' X' w2 hm HS' (HT'.out.below HB2.out)
  obtain ⟨x0, x1, x2, x3, x4, _⟩ := cells5 H2'.out
  go_wp2_with fail
  refine hok.mono ?_
  clear hok x0 x1 x2 x3 x4
  rintro e w3 ⟨⟨b, rfl, hb⟩, hb3⟩
  have HB3 : Hid (Below w.heap.size w w3) := grw HB2.out hb3
  have H3 : Hid (w3.heap[w.heap.size]? = some (.cells #[.int .i64 u.k, .int .i64 u.n, .string u.s, .int .i64 u.a, .slice ta n cp] 32 (0, 0))) := blkB H2.out hb3
  have H3' : Hid (w3.heap[w.heap.size + 1]? = some (.cells #[.int .i64 u'.k, .int .i64 u'.n, .string u'.s, .int .i64 u'.a, .slice ta' m cp'] 32 (0, 0))) := blkB H2'.out hb3
  clear hb3 H2 H2' HB2
  cases b
  · have HN : Hid (¬ (OkG n u L K X ∧ OkG m u' L' K' X')) := show ¬ _ from fun h => by have := hb.2 h.2; cases this
    clear hb
    go_wp2
    go_ret
    exact ⟨Or.inr ⟨HN.out, rfl⟩, HB3.out⟩
  have HO' : Hid (OkG m u' L' K' X') := hb.1 rfl
  clear hb
  have HNM : Hid (n + m ≤ 400) := show _ ≤ _ by have := HO.out.len; have := HO'.out.len; omega
  have HLj : Hid (∀ r, r < n + m → jn n L L' r ≤ 100) := show ∀ r, _ from fun r hr => (okT_join HO.out HO'.out r hr).len
  have HGj : Hid (Good (n + m) (jn n L L') (jn n X (fun j c => sh n (X' j c)))) := (good_of HO.out).join (good_of HO'.out)
  have HZj : Hid (∀ r, r < n + m → ∀ c, c < jn n L L' r → (jn n K K' r c).s.size ≤ 9223372036854775807) := show ∀ r, _ from fun r hr c hc => by
    by_cases e : r < n
    · rw [jn_lt e] at hc ⊢
      have := ((HS.out r e).2 c hc).1
      omega
    · rw [jn_ge e] at hc ⊢
      have := ((HS'.out (r - n) (by omega)).2 c hc).1
      omega
  obtain ⟨x0, x1, x2, x3, x4, _⟩ := cells5 H3'.out
  obtain ⟨g0, g1, g2, g3, g4, _⟩ := cells5 H3.out
  have hgl : w.heap.size < w3.heap.size := blk_lt H3.out
  have hgl1 : w.heap.size + 1 < w3.heap.size := blk_lt H3'.out
  have hur := HO'.out.root
  by_cases h4 : u'.k = 4
  · obtain ⟨a0, a1⟩ := isV_tab hur h4
    obtain ⟨ya, hya⟩ : ∃ ya : Int, u'.a + (n : Int) = ya := ⟨_, rfl⟩
    have hk4 : (u'.k == 4) = true := by simp [h4]
    have hnn := HO.out.len
    have hmm := HO'.out.len
    have hwr : IntKind.i64.wrap (u'.a + (n : Int)) = ya := by rw [IntKind.wrap_i64]; omega
    have HSH : Hid (sh n u' = ⟨u'.k, u'.n, u'.s, ya⟩) := by show sh n u' = _; unfold sh; rw [if_pos h4, hya]
    clear h4 hya a0 a1 hnn hmm hur
    obtain ⟨w4, hw4⟩ : ∃ w4, w4 = w3.alloc (.cells #[.int .i64 u'.k, .int .i64 u'.n, .string u'.s, .int .i64 ya] 29) := ⟨_, rfl⟩
    have hb4 : Below w3.heap.size w3 w4 := by rw [hw4]; exact (Below.refl _ _).alloc (Nat.le_refl _) _
    have HB4 : Hid (Below w.heap.size w w4) := grw HB3.out hb4
    have H4 : Hid (w4.heap[w.heap.size]? = some (.cells #[.int .i64 u.k, .int .i64 u.n, .string u.s, .int .i64 u.a, .slice ta n cp] 32 (0, 0))) := blkB H3.out hb4
    have H4' : Hid (w4.heap[w.heap.size + 1]? = some (.cells #[.int .i64 u'.k, .int .i64 u'.n, .string u'.s, .int .i64 u'.a, .slice ta' m cp'] 32 (0, 0))) := blkB H3'.out hb4
    obtain ⟨rb, hrb⟩ : ∃ rb, w3.heap.size = rb := ⟨_, rfl⟩
    have R4 : Hid (w4.heap[rb]? = some (.cells #[.int .i64 u'.k, .int .i64 u'.n, .string u'.s, .int .i64 ya] 29 (0, 0))) := by rw [hw4, ← hrb]; exact heap_alloc_new _ _
    rw [hrb] at hgl hgl1
    have HAL : Hid (∀ (f : Nat → Nat) (g : Nat) (w' : World), ClsAt w' g (n + m) f → Calls Try.prog 61 #[.agg #[.int .i64 u.k, .int .i64 u.n, .string u.s, .int .i64 u.a], .agg #[.int .i64 u'.k, .int .i64 u'.n, .string u'.s, .int .i64 ya], .slice (some ⟨g, 0, none⟩) (n + m) (n + m)] w' fun e w'' => e = .returned (.bool (alike f u ⟨u'.k, u'.n, u'.s, ya⟩)) ∧ Below w'.heap.size w' w'') := show ∀ _, _ from fun f g w' hC => by
      have h := l3alike_any u (sh n u') (n + m) g (n + m) f w' (isV_more HO.out.root) (sh_isV HO'.out.root) hC
      rw [HSH.out] at h
      exact h
    clear hb4 H3 H3' HB3
    go_wp2
    rw [← hw4]
    try rw [hrb]
    clear hw4 hrb g0 g1 g2 g3 g4 x0 x1 x2 x3 x4
    have HT4 : Hid (TabsAt w4 ta n TB TO A L C RB RO K X) := HT.out.below HB4.out
    have HT4' : Hid (TabsAt w4 ta' m TB' TO' A' L' C' RB' RO' K' X') := HT'.out.below HB4.out
    have hboth := l3both_any u u' ta ta' n cp TB TO m cp' TB' TO' A A' L C RB RO L' C' RB' RO' K X K' X' w4.drew HO.out.len HO'.out.len (show ∀ r, _ from fun r hr => (HO'.out.all r hr).len) (good_of HO'.out) (HT4.out.below (Below.refl _ _).drew) (HT4'.out.below (Below.refl _ _).drew)
    obtain ⟨g0, g1, g2, g3, g4, _⟩ := cells5 H4.out
    obtain ⟨x0, x1, x2, x3, x4, _⟩ := cells5 H4'.out
    obtain ⟨r0, r1, r2, r3, _⟩ := cells4' R4.out
    have HGc : Hid (∀ w', Below w4.heap.size w4 w' → w'.cell? ⟨w.heap.size, 0, none⟩ = some (.int .i64 u.k) ∧ w'.cell? ⟨w.heap.size, 1, none⟩ = some (.int .i64 u.n) ∧ w'.cell? ⟨w.heap.size, 2, none⟩ = some (.string u.s) ∧ w'.cell? ⟨w.heap.size, 3, none⟩ = some (.int .i64 u.a) ∧ w'.cell? ⟨w.heap.size, 4, none⟩ = some (.slice ta n cp)) := show ∀ _, _ from fun w' hb => ⟨cellB g0 w' hb, cellB g1 w' hb, cellB g2 w' hb, cellB g3 w' hb, cellB g4 w' hb⟩
    have HXc : Hid (∀ w', Below w4.heap.size w4 w' → w'.cell? ⟨w.heap.size + 1, 0, none⟩ = some (.int .i64 u'.k) ∧ w'.cell? ⟨w.heap.size + 1, 1, none⟩ = some (.int .i64 u'.n) ∧ w'.cell? ⟨w.heap.size + 1, 2, none⟩ = some (.string u'.s) ∧ w'.cell? ⟨w.heap.size + 1, 3, none⟩ = some (.int .i64 u'.a) ∧ w'.cell? ⟨w.heap.size + 1, 4, none⟩ = some (.slice ta' m cp')) := show ∀ _, _ from fun w' hb => ⟨cellB x0 w' hb, cellB x1 w' hb, cellB x2 w' hb, cellB x3 w' hb, cellB x4 w' hb⟩
    have HRc : Hid (∀ w', Below w4.heap.size w4 w' → w'.cell? ⟨rb, 0, none⟩ = some (.int .i64 u'.k) ∧ w'.cell? ⟨rb, 1, none⟩ = some (.int .i64 u'.n) ∧ w'.cell? ⟨rb, 2, none⟩ = some (.string u'.s) ∧ w'.cell? ⟨rb, 3, none⟩ = some (.int .i64 ya)) := show ∀ _, _ from fun w' hb => ⟨cellB r0 w' hb, cellB r1 w' hb, cellB r2 w' hb, cellB r3 w' hb⟩
    clear g0 g1 g2 g3 g4 x0 x1 x2 x3 x4 r0 r1 r2 r3
    refine wp_region_held_drew (S := fun x => Below w4.heap.size w4 x) (by kernel_rfl) (Below.refl _ _).drew (fun hHeld => ?_)
    refine wpAnyH_take (i := 0) (v := .pointer (some ⟨w.heap.size, 0, none⟩)) rfl (by kernel_rfl) (by kernel_rfl) (by kernel_rfl) (fun _ _ _ h => h) (Or.inl ⟨by rfl, fun w hSw => ?_⟩) hHeld ?_
    · first | rfl | go_simp
    simp only [Act.put, List.setIfInBounds_toArray, List.set_cons_zero, List.set_cons_succ, List.getElem_toArray, List.getElem_cons_zero]
    refine wpAnyH_take (i := 1) (v := .agg #[.int .i64 u.k, .int .i64 u.n, .string u.s, .int .i64 u.a]) rfl (by kernel_rfl) (by kernel_rfl) (by kernel_rfl) (fun _ _ _ h => h) (Or.inl ⟨by rfl, fun w hSw => ?_⟩) hHeld ?_
    · obtain ⟨q0, q1, q2, q3, _⟩ := HGc.out w hSw; first | rfl | go_simp
    simp only [Act.put, List.setIfInBounds_toArray, List.set_cons_zero, List.set_cons_succ, List.getElem_toArray, List.getElem_cons_zero, List.getElem_cons_succ]
    refine wpAnyH_take (i := 2) (v := .agg #[.int .i64 u'.k, .int .i64 u'.n, .string u'.s, .int .i64 ya]) rfl (by kernel_rfl) (by kernel_rfl) (by kernel_rfl) (fun _ _ _ h => h) (Or.inl ⟨by rfl, fun w hSw => ?_⟩) hHeld ?_
    · obtain ⟨q0, q1, q2, q3⟩ := HRc.out w hSw; first | rfl | go_simp
    simp only [Act.put, List.setIfInBounds_toArray, List.set_cons_zero, List.set_cons_succ, List.getElem_toArray, List.getElem_cons_zero, List.getElem_cons_succ]
    refine wpAnyH_take (i := 3) (v := .agg #[.int .i64 u.k, .int .i64 u.n, .string u.s, .int .i64 u.a, .slice ta n cp]) rfl (by kernel_rfl) (by kernel_rfl) (by kernel_rfl) (fun _ _ _ h => h) (Or.inl ⟨by rfl, fun w hSw => ?_⟩) hHeld ?_
    · obtain ⟨q0, q1, q2, q3, q4⟩ := HGc.out w hSw; first | rfl | go_simp
    simp only [Act.put, List.setIfInBounds_toArray, List.set_cons_zero, List.set_cons_succ, List.getElem_toArray, List.getElem_cons_zero, List.getElem_cons_succ]
    refine wpAnyH_take (i := 4) (v := .agg #[.int .i64 u'.k, .int .i64 u'.n, .string u'.s, .int .i64 u'.a, .slice ta' m cp']) rfl (by kernel_rfl) (by kernel_rfl) (by kernel_rfl) (fun _ _ _ h => h) (Or.inl ⟨by rfl, fun w hSw => ?_⟩) hHeld ?_
    · obtain ⟨q0, q1, q2, q3, q4⟩ := HXc.out w hSw; first | rfl | go_simp
    simp only [Act.put, List.setIfInBounds_toArray, List.set_cons_zero, List.set_cons_succ, List.getElem_toArray, List.getElem_cons_zero, List.getElem_cons_succ]
    refine wpAnyH_ready (rs := [5]) (by kernel_rfl) (by simp) ?_
    refine AllReadyH.cons rfl (fun KK hK' => ?_) AllReadyH.nil
    have hcall := hboth
    clear hboth
    go_simp
    refine hcall.mono ?_
    clear hcall
    rintro e w5 ⟨⟨oa, oc, OB, A2, C2, RB2, RO2, rfl, hT5⟩, hb5⟩
    have hs5 : Below w4.heap.size w4 w5 := grw hHeld hb5
    have HT5 : Hid _ := hT5
    clear hT5 hb5
    refine hK'.out _ _ hs5 (fun hHeld => ?_)
    clear hK'
    refine wpAnyH_ready (rs := [6]) (by kernel_rfl) (by simp) ?_
    refine AllReadyH.cons rfl (fun KK hK' => ?_) AllReadyH.nil
    have hcall := l3classes_any oa (n + m) oc OB 0 A2 _ C2 RB2 RO2 _ _ w5 HNM.out HLj HZj HGj HT5
    go_simp
    refine hcall.mono ?_
    clear hcall
    rintro e w6 ⟨⟨g, f, ls, rfl, _, hrow, hsrt, hcls⟩, hb6⟩
    have hs6 : Below w4.heap.size w4 w6 := grw hHeld hb6
    have HRw : Hid (ClsAt w6 g (n + m) f) := show ClsAt w6 g (n + m) f from fun q hq => hrow.cell hq
    have HCL : Hid (ClsAre (n + m) (jn n L L') (jn n K K') (jn n X (fun j c => sh n (X' j c))) f) := ⟨ls, hsrt, hcls⟩
    clear hb6 hrow hsrt hcls HT5 hs5
    refine hK'.out _ _ hs6 (fun hHeld => ?_)
    clear hK'
    refine wpAnyH_ready (rs := [7]) (by kernel_rfl) (by simp) ?_
    refine AllReadyH.cons rfl (fun KK hK' => ?_) AllReadyH.nil
    have hcall := HAL.out f g w6 HRw.out
    go_simp
    refine hcall.mono ?_
    clear hcall
    rintro e w7 ⟨rfl, hb7⟩
    have hs7 : Below w4.heap.size w4 w7 := grw hHeld hb7
    have HS7 : Hid (Below w4.heap.size w4 w7) := hs7
    clear hb7 hs6 HRw
    refine hK'.out _ _ hs7 (fun hHeld => ?_)
    clear hK'
    obtain ⟨bq, hbq⟩ : ∃ bq, alike f u ⟨u'.k, u'.n, u'.s, ya⟩ = bq := ⟨_, rfl⟩
    have HBQ : Hid (alike f u ⟨u'.k, u'.n, u'.s, ya⟩ = bq) := hbq
    rw [hbq]
    clear hbq
    refine wpAnyH_take (i := 8) (v := .bool bq) rfl (by kernel_rfl) (by kernel_rfl) (by kernel_rfl) (fun _ _ _ h => h) (Or.inl ⟨by rfl, fun w hSw => ?_⟩) hHeld ?_
    · first | rfl | go_simp
    simp only [Act.put, List.setIfInBounds_toArray, List.set_cons_zero, List.set_cons_succ, List.getElem_toArray, List.getElem_cons_zero, List.getElem_cons_succ]
    refine wpAnyH_done (by kernel_rfl) ?_ _
    go_wp2
    go_ret
    refine ⟨?_, grw HB4.out HS7.out⟩
    have e : alike f u (sh n u') = bq := by rw [HSH.out]; exact HBQ.out
    rw [← e]
    exact Or.inl ⟨⟨HO.out, HO'.out⟩, f, HCL.out, rfl⟩
  · have hk4 : (u'.k == 4) = false := by simp [h4]
    obtain ⟨ya, hya⟩ : ∃ ya : Int, u'.a = ya := ⟨_, rfl⟩
    have HSH : Hid (sh n u' = ⟨u'.k, u'.n, u'.s, ya⟩) := by show sh n u' = _; unfold sh; rw [if_neg h4, ← hya]
    rw [hya] at x3
    clear h4 hur hya
    obtain ⟨w4, hw4⟩ : ∃ w4, w4 = w3.alloc (.cells #[.int .i64 u'.k, .int .i64 u'.n, .string u'.s, .int .i64 ya] 29) := ⟨_, rfl⟩
    have hb4 : Below w3.heap.size w3 w4 := by rw [hw4]; exact (Below.refl _ _).alloc (Nat.le_refl _) _
    have HB4 : Hid (Below w.heap.size w w4) := grw HB3.out hb4
    have H4 : Hid (w4.heap[w.heap.size]? = some (.cells #[.int .i64 u.k, .int .i64 u.n, .string u.s, .int .i64 u.a, .slice ta n cp] 32 (0, 0))) := blkB H3.out hb4
    have H4' : Hid (w4.heap[w.heap.size + 1]? = some (.cells #[.int .i64 u'.k, .int .i64 u'.n, .string u'.s, .int .i64 u'.a, .slice ta' m cp'] 32 (0, 0))) := blkB H3'.out hb4
    obtain ⟨rb, hrb⟩ : ∃ rb, w3.heap.size = rb := ⟨_, rfl⟩
    have R4 : Hid (w4.heap[rb]? = some (.cells #[.int .i64 u'.k, .int .i64 u'.n, .string u'.s, .int .i64 ya] 29 (0, 0))) := by rw [hw4, ← hrb]; exact heap_alloc_new _ _
    rw [hrb] at hgl hgl1
    have HAL : Hid (∀ (f : Nat → Nat) (g : Nat) (w' : World), ClsAt w' g (n + m) f → Calls Try.prog 61 #[.agg #[.int .i64 u.k, .int .i64 u.n, .string u.s, .int .i64 u.a], .agg #[.int .i64 u'.k, .int .i64 u'.n, .string u'.s, .int .i64 ya], .slice (some ⟨g, 0, none⟩) (n + m) (n + m)] w' fun e w'' => e = .returned (.bool (alike f u ⟨u'.k, u'.n, u'.s, ya⟩)) ∧ Below w'.heap.size w' w'') := show ∀ _, _ from fun f g w' hC => by
      have h := l3alike_any u (sh n u') (n + m) g (n + m) f w' (isV_more HO.out.root) (sh_isV HO'.out.root) hC
      rw [HSH.out] at h
      exact h
    clear hb4 H3 H3' HB3
    go_wp2
    rw [← hw4]
    try rw [hrb]
    clear hw4 hrb g0 g1 g2 g3 g4 x0 x1 x2 x3 x4
    have HT4 : Hid (TabsAt w4 ta n TB TO A L C RB RO K X) := HT.out.below HB4.out
    have HT4' : Hid (TabsAt w4 ta' m TB' TO' A' L' C' RB' RO' K' X') := HT'.out.below HB4.out
    have hboth := l3both_any u u' ta ta' n cp TB TO m cp' TB' TO' A A' L C RB RO L' C' RB' RO' K X K' X' w4.drew HO.out.len HO'.out.len (show ∀ r, _ from fun r hr => (HO'.out.all r hr).len) (good_of HO'.out) (HT4.out.below (Below.refl _ _).drew) (HT4'.out.below (Below.refl _ _).drew)
    obtain ⟨g0, g1, g2, g3, g4, _⟩ := cells5 H4.out
    obtain ⟨x0, x1, x2, x3, x4, _⟩ := cells5 H4'.out
    obtain ⟨r0, r1, r2, r3, _⟩ := cells4' R4.out
    have HGc : Hid (∀ w', Below w4.heap.size w4 w' → w'.cell? ⟨w.heap.size, 0, none⟩ = some (.int .i64 u.k) ∧ w'.cell? ⟨w.heap.size, 1, none⟩ = some (.int .i64 u.n) ∧ w'.cell? ⟨w.heap.size, 2, none⟩ = some (.string u.s) ∧ w'.cell? ⟨w.heap.size, 3, none⟩ = some (.int .i64 u.a) ∧ w'.cell? ⟨w.heap.size, 4, none⟩ = some (.slice ta n cp)) := show ∀ _, _ from fun w' hb => ⟨cellB g0 w' hb, cellB g1 w' hb, cellB g2 w' hb, cellB g3 w' hb, cellB g4 w' hb⟩
    have HXc : Hid (∀ w', Below w4.heap.size w4 w' → w'.cell? ⟨w.heap.size + 1, 0, none⟩ = some (.int .i64 u'.k) ∧ w'.cell? ⟨w.heap.size + 1, 1, none⟩ = some (.int .i64 u'.n) ∧ w'.cell? ⟨w.heap.size + 1, 2, none⟩ = some (.string u'.s) ∧ w'.cell? ⟨w.heap.size + 1, 3, none⟩ = some (.int .i64 u'.a) ∧ w'.cell? ⟨w.heap.size + 1, 4, none⟩ = some (.slice ta' m cp')) := show ∀ _, _ from fun w' hb => ⟨cellB x0 w' hb, cellB x1 w' hb, cellB x2 w' hb, cellB x3 w' hb, cellB x4 w' hb⟩
    have HRc : Hid (∀ w', Below w4.heap.size w4 w' → w'.cell? ⟨rb, 0, none⟩ = some (.int .i64 u'.k) ∧ w'.cell? ⟨rb, 1, none⟩ = some (.int .i64 u'.n) ∧ w'.cell? ⟨rb, 2, none⟩ = some (.string u'.s) ∧ w'.cell? ⟨rb, 3, none⟩ = some (.int .i64 ya)) := show ∀ _, _ from fun w' hb => ⟨cellB r0 w' hb, cellB r1 w' hb, cellB r2 w' hb, cellB r3 w' hb⟩
    clear g0 g1 g2 g3 g4 x0 x1 x2 x3 x4 r0 r1 r2 r3
    refine wp_region_held_drew (S := fun x => Below w4.heap.size w4 x) (by kernel_rfl) (Below.refl _ _).drew (fun hHeld => ?_)
    refine wpAnyH_take (i := 0) (v := .pointer (some ⟨w.heap.size, 0, none⟩)) rfl (by kernel_rfl) (by kernel_rfl) (by kernel_rfl) (fun _ _ _ h => h) (Or.inl ⟨by rfl, fun w hSw => ?_⟩) hHeld ?_
    · first | rfl | go_simp
    simp only [Act.put, List.setIfInBounds_toArray, List.set_cons_zero, List.set_cons_succ, List.getElem_toArray, List.getElem_cons_zero]
    refine wpAnyH_take (i := 1) (v := .agg #[.int .i64 u.k, .int .i64 u.n, .string u.s, .int .i64 u.a]) rfl (by kernel_rfl) (by kernel_rfl) (by kernel_rfl) (fun _ _ _ h => h) (Or.inl ⟨by rfl, fun w hSw => ?_⟩) hHeld ?_
    · obtain ⟨q0, q1, q2, q3, _⟩ := HGc.out w hSw; first | rfl | go_simp
    simp only [Act.put, List.setIfInBounds_toArray, List.set_cons_zero, List.set_cons_succ, List.getElem_toArray, List.getElem_cons_zero, List.getElem_cons_succ]
    refine wpAnyH_take (i := 2) (v := .agg #[.int .i64 u'.k, .int .i64 u'.n, .string u'.s, .int .i64 ya]) rfl (by kernel_rfl) (by kernel_rfl) (by kernel_rfl) (fun _ _ _ h => h) (Or.inl ⟨by rfl, fun w hSw => ?_⟩) hHeld ?_
    · obtain ⟨q0, q1, q2, q3⟩ := HRc.out w hSw; first | rfl | go_simp
    simp only [Act.put, List.setIfInBounds_toArray, List.set_cons_zero, List.set_cons_succ, List.getElem_toArray, List.getElem_cons_zero, List.getElem_cons_succ]
    refine wpAnyH_take (i := 3) (v := .agg #[.int .i64 u.k, .int .i64 u.n, .string u.s, .int .i64 u.a, .slice ta n cp]) rfl (by kernel_rfl) (by kernel_rfl) (by kernel_rfl) (fun _ _ _ h => h) (Or.inl ⟨by rfl, fun w hSw => ?_⟩) hHeld ?_
    · obtain ⟨q0, q1, q2, q3, q4⟩ := HGc.out w hSw; first | rfl | go_simp
    simp only [Act.put, List.setIfInBounds_toArray, List.set_cons_zero, List.set_cons_succ, List.getElem_toArray, List.getElem_cons_zero, List.getElem_cons_succ]
    refine wpAnyH_take (i := 4) (v := .agg #[.int .i64 u'.k, .int .i64 u'.n, .string u'.s, .int .i64 u'.a, .slice ta' m cp']) rfl (by kernel_rfl) (by kernel_rfl) (by kernel_rfl) (fun _ _ _ h => h) (Or.inl ⟨by rfl, fun w hSw => ?_⟩) hHeld ?_
    · obtain ⟨q0, q1, q2, q3, q4⟩ := HXc.out w hSw; first | rfl | go_simp
    simp only [Act.put, List.setIfInBounds_toArray, List.set_cons_zero, List.set_cons_succ, List.getElem_toArray, List.getElem_cons_zero, List.getElem_cons_succ]
    refine wpAnyH_ready (rs := [5]) (by kernel_rfl) (by simp) ?_
    refine AllReadyH.cons rfl (fun KK hK' => ?_) AllReadyH.nil
    have hcall := hboth
    clear hboth
    go_simp
    refine hcall.mono ?_
    clear hcall
    rintro e w5 ⟨⟨oa, oc, OB, A2, C2, RB2, RO2, rfl, hT5⟩, hb5⟩
    have hs5 : Below w4.heap.size w4 w5 := grw hHeld hb5
    have HT5 : Hid _ := hT5
    clear hT5 hb5
    refine hK'.out _ _ hs5 (fun hHeld => ?_)
    clear hK'
    refine wpAnyH_ready (rs := [6]) (by kernel_rfl) (by simp) ?_
    refine AllReadyH.cons rfl (fun KK hK' => ?_) AllReadyH.nil
    have hcall := l3classes_any oa (n + m) oc OB 0 A2 _ C2 RB2 RO2 _ _ w5 HNM.out HLj HZj HGj HT5
    go_simp
    refine hcall.mono ?_
    clear hcall
    rintro e w6 ⟨⟨g, f, ls, rfl, _, hrow, hsrt, hcls⟩, hb6⟩
    have hs6 : Below w4.heap.size w4 w6 := grw hHeld hb6
    have HRw : Hid (ClsAt w6 g (n + m) f) := show ClsAt w6 g (n + m) f from fun q hq => hrow.cell hq
    have HCL : Hid (ClsAre (n + m) (jn n L L') (jn n K K') (jn n X (fun j c => sh n (X' j c))) f) := ⟨ls, hsrt, hcls⟩
    clear hb6 hrow hsrt hcls HT5 hs5
    refine hK'.out _ _ hs6 (fun hHeld => ?_)
    clear hK'
    refine wpAnyH_ready (rs := [7]) (by kernel_rfl) (by simp) ?_
    refine AllReadyH.cons rfl (fun KK hK' => ?_) AllReadyH.nil
    have hcall := HAL.out f g w6 HRw.out
    go_simp
    refine hcall.mono ?_
    clear hcall
    rintro e w7 ⟨rfl, hb7⟩
    have hs7 : Below w4.heap.size w4 w7 := grw hHeld hb7
    have HS7 : Hid (Below w4.heap.size w4 w7) := hs7
    clear hb7 hs6 HRw
    refine hK'.out _ _ hs7 (fun hHeld => ?_)
    clear hK'
    obtain ⟨bq, hbq⟩ : ∃ bq, alike f u ⟨u'.k, u'.n, u'.s, ya⟩ = bq := ⟨_, rfl⟩
    have HBQ : Hid (alike f u ⟨u'.k, u'.n, u'.s, ya⟩ = bq) := hbq
    rw [hbq]
    clear hbq
    refine wpAnyH_take (i := 8) (v := .bool bq) rfl (by kernel_rfl) (by kernel_rfl) (by kernel_rfl) (fun _ _ _ h => h) (Or.inl ⟨by rfl, fun w hSw => ?_⟩) hHeld ?_
    · first | rfl | go_simp
    simp only [Act.put, List.setIfInBounds_toArray, List.set_cons_zero, List.set_cons_succ, List.getElem_toArray, List.getElem_cons_zero, List.getElem_cons_succ]
    refine wpAnyH_done (by kernel_rfl) ?_ _
    go_wp2
    go_ret
    refine ⟨?_, grw HB4.out HS7.out⟩
    have e : alike f u (sh n u') = bq := by rw [HSH.out]; exact HBQ.out
    rw [← e]
    exact Or.inl ⟨⟨HO.out, HO'.out⟩, f, HCL.out, rfl⟩

end Go.Proofs.Ytgflalfiopnmnab
