import Derived.Test.YtgflalfiopnmnaaDoorDsAns
namespace Go.Proofs.YtgflalfiopnmnaaDoor
open Go.RowKit Rk So

theorem pick_at {w0 wx : World} {CB : Nat} {ca : Option Addr} {cl cc cb co t : Nat} (m : Nat) (mi : Int) (hmi : mi = (m : Int)) (hm0 : 0 < m) (hm : m ≤ 200) (hC : CurS wx CB (.slice ca cl cc) t) (hB : ByteR w0 ca cl cb co) (ho : Only (fun k => k = CB) w0 wx) (hcb : cb ≠ CB) (hcl : cl ≤ 1048576) (ht : t ≤ 1000000) :
    Calls Tryd.prog 41 #[.pointer (some ⟨CB, 0, none⟩), .int .i64 mi] wx fun e w' => (∃ y : Nat, y < m ∧ e = .returned (.int .i64 y)) ∧ CurS w' CB (.slice ca cl cc) (t + 1) ∧ Only (fun k => k = CB) wx w' := by
  subst hmi
  exact pick_any wx CB ca cl cc cb co t m hm0 hm hC (hB.only ho hcb) hcl ht

def AnEnd (w0 w' : World) (CB : Nat) (sl : Value) (e : Ending) : Prop :=
  ∃ (n : Nat) (v : Value) (B : Nat → Nat) (M : Nat → Nat → Int), n ≤ 30 ∧ e = .returned v ∧ OM w' w0.heap.size v n (fun _ => n) B M ∧ CurS w' CB sl 4000 ∧ Only (fun k => k = CB) w0 w'

def AnRel (w0 : World) (CB : Nat) (sl : Value) (rB n : Nat) (o a : Value) (wr : World) : Prop :=
  ∃ (k : Nat) (B : Nat → Nat) (M : Nat → Nat → Int) (v : Value), k ≤ n ∧ v = o ∧ a = .int .i64 k ∧ Hid (Rn w0 wr CB sl (40 + 100 * k) rB n) ∧ Hid (OM wr w0.heap.size v k (fun _ => n) B M)

set_option maxRecDepth 100000 in
set_option maxHeartbeats 4000000 in
theorem answers_any (w0 : World) (CB : Nat) (ca : Option Addr) (cl cc cb co : Nat) (HC : Hid (CurS w0 CB (.slice ca cl cc) 0)) (HB : Hid (ByteR w0 ca cl cb co)) (hcb : cb ≠ CB) (hcl : cl ≤ 1048576) :
    Calls Tryd.prog 40 #[.pointer (some ⟨CB, 0, none⟩)] w0 fun e w' => AnEnd w0 w' CB (.slice ca cl cc) e := by
  have hCB : CB < w0.heap.size := by obtain ⟨a, sd, ha, hb⟩ := HC.out.ex; exact lt_of_block hb
  obtain ⟨i0, hi, hz0, hz1, hz2⟩ := info_parts Tryd.info25
  go_enter Tryd.func40, Tryd.ntmps40
  go_wp2_with fail
  refine (pick_at 14 14 rfl (by omega) (by omega) HC.out HB.out (Only.refl _ _) hcb hcl (by omega)).mono ?_
  rintro e w1 ⟨⟨n0, hn0, rfl⟩, hC1, hO1⟩
  have HC1 : Hid _ := hC1
  have HO1 : Hid (Only (fun k => k = CB) w0 w1) := hO1
  clear hC1 hO1
  go_wp2_with fail
  refine (pick_at 20 20 rfl (by omega) (by omega) HC1.out HB.out HO1.out hcb hcl (by omega)).mono ?_
  rintro e w2 ⟨⟨y, hy, rfl⟩, hC2, hO2⟩
  have HC2 : Hid (CurS w2 CB (.slice ca cl cc) 2) := hC2
  have HO2 : Hid (Only (fun k => k = CB) w0 w2) := HO1.out.trans hO2
  clear hC2 hO2 HC1 HO1
  go_upto_if 15 with fail
  go_cut [3] from 11 (fun v wx => ∃ n : Nat, n ≤ 30 ∧ v = .int .i64 n ∧ wx = w2)
  case first =>
    by_cases hy0 : y = 0
    · subst hy0
      go_wp2
      go_meet
      exact ⟨30, by omega, rfl, rfl⟩
    · have hyb : ((y : Int) == 0) = false := by simp; omega
      go_wp2
      go_meet
      exact ⟨n0, by omega, rfl, rfl⟩
  case rest =>
    obtain ⟨n, hn, rfl, rfl⟩ := hcut
    have hmk := run_make_row' (P := Tryd.prog) 25 3 (.int .i64 0) 8 Tryd.underlying25 Tryd.info3 rfl .i64 .i64 n (by omega) (by omega)
    go_wp2
    have HR0 : Hid (Rn w0 (wc.alloc (.cells (madeCells #[.int .i64 0] n) 3)) CB (.slice ca cl cc) (2 + 0) wc.heap.size n) := ⟨HC2.out.alloc _, RowX.made _ _, HO2.out.allocNew _, hCB, HO2.out.size⟩
    clear HC2 HO2
    go_loopw [20] (fun i wr => ∃ k : Nat, k ≤ n ∧ i = .int .i64 k ∧ Hid (Rn w0 wr CB (.slice ca cl cc) (2 + k) wc.heap.size n)) (fun i _ => n - (intOf i).toNat)
    case atStart => exact ⟨0, Nat.zero_le _, rfl, HR0⟩
    case round =>
      clear HR0
      obtain ⟨k, hk, rfl, HR⟩ := hrel
      by_cases hlt : k < n
      · clear hmk
        go_wp2_with fail
        refine (pick_at 6 6 rfl (by omega) (by omega) HR.out.cur HB.out HR.out.only hcb hcl (by omega)).mono ?_
        rintro e w3 ⟨⟨x, hx, rfl⟩, hC3, hO3⟩
        have hR3 := HR.out.pick hC3 hO3
        obtain ⟨u, hu⟩ := hR3.rank.cell hlt
        have hz := hR3.rank.frozen k
        have HR4 : Hid (Rn w0 (w3.setCell ⟨wc.heap.size, k, none⟩ (.int .i64 x)) CB (.slice ca cl cc) (2 + (k + 1)) wc.heap.size n) := hR3.store k x
        clear hR3 hC3 hO3 HR
        go_wp2
        go_roundw
        case rel => exact ⟨k + 1, by omega, by go_num, HR4⟩
        case measure => simp [intOf]; omega
      · obtain rfl : k = n := by omega
        go_wp2_with fail
        refine (pick_at 4 4 rfl (by omega) (by omega) HR.out.cur HB.out HR.out.only hcb hcl (by omega)).mono ?_
        rintro e w4 ⟨⟨md, hmd, rfl⟩, hC4, hO4⟩
        have HR4 : Hid (Rn w0 w4 CB (.slice ca cl cc) (40 + 100 * 0) wc.heap.size k) := by
          have h := HR.out.pick hC4 hO4
          exact ⟨h.cur.mono (by omega), h.rank, h.only, h.cb, h.rb⟩
        clear hC4 hO4 HR
        go_wp2
        go_loopw [7, 8] (fun o a wr => AnRel w0 CB (.slice ca cl cc) wc.heap.size k o a wr) (fun _ a _ => k - (intOf a).toNat)
        case atStart => exact ⟨0, fun _ => 0, fun _ _ => 0, _, Nat.zero_le _, rfl, rfl, HR4, OM.nil _ _ _ _ _⟩
        case round =>
          clear HR4
          obtain ⟨a, B, M, v, ha, rfl, rfl, HR5, HM5⟩ := hrel
          by_cases hal : a < k
          · obtain ⟨wo, rfl⟩ : ∃ wo : World, wo = wr := ⟨_, rfl⟩
            have HB0 : Hid _ := Bd.start HR5.out HM5.out
            go_wp2
            clear hmk
            go_loopw [40] (fun i wx => ∃ c : Nat, c ≤ k ∧ i = .int .i64 c ∧ Hid (Bd w0 wx CB (.slice ca cl cc) (40 + 100 * a + 3 * c) wo.heap.size wc.heap.size k v a B M)) (fun i _ => k - (intOf i).toNat)
            case atStart => exact ⟨0, Nat.zero_le _, rfl, HB0⟩
            case round =>
              clear HB0 HR5 HM5
              obtain ⟨c, hc, rfl, HD⟩ := hrel
              by_cases hcl2 : c < k
              · obtain ⟨x1, hx1⟩ := HD.out.rn.rank.cell hal
                obtain ⟨x2, hx2⟩ := HD.out.rn.rank.cell hcl2
                have hca : (a : Int) < (k : Int) := by omega
                have hcb2 : (c : Int) < (k : Int) := by omega
                go_wp2_with fail
                go_quiet (fail)
                have HD1 : Hid _ := HD.out.drewN nq
                clear HD hx1 hx2
                go_upto_if 51 with fail
                go_cut [40] from 40 to 81 (fun i wz => i = .int .i64 c ∧ Hid (Bd w0 wz CB (.slice ca cl cc) (40 + 100 * a + 3 * c) wo.heap.size wc.heap.size k v a B M))
                case first =>
                  obtain ⟨u, hu⟩ := HD1.out.row.cell hcl2
                  have hz := HD1.out.row.frozen c
                  by_cases hxx : x1 < x2
                  · have HD2 : Hid _ := HD1.out.store c 1
                    go_wp2
                    go_meet
                    exact ⟨rfl, HD2⟩
                  · go_wp2
                    go_meet
                    exact ⟨rfl, HD1⟩
                case rest =>
                  clear HD1
                  obtain ⟨rfl, HD3⟩ := hcut
                  have hmds : md = 0 ∨ md = 1 ∨ md = 2 ∨ md = 3 := by omega
                  rcases hmds with hq | hq | hq | hq
                  · have g1 : ((md : Int) == 1) = false := by simp [hq]
                    have g2 : ((md : Int) == 2) = false := by simp [hq]
                    have g3 : ((md : Int) == 3) = false := by simp [hq]
                    clear hq
                    go_wp2
                    go_roundw
                    case rel => exact ⟨c + 1, by omega, by go_num, HD3.out.mono (by omega)⟩
                    case measure => simp [intOf]; omega
                  · have g1 : ((md : Int) == 1) = true := by simp [hq]
                    have g2 : ((md : Int) == 2) = false := by simp [hq]
                    have g3 : ((md : Int) == 3) = false := by simp [hq]
                    clear hq
                    go_wp2_with fail
                    refine (pick_at 12 12 rfl (by omega) (by omega) HD3.out.rn.cur HB.out HD3.out.rn.only hcb hcl (by omega)).mono ?_
                    rintro e w5 ⟨⟨y1, hy1, rfl⟩, hC5, hO5⟩
                    have HD4 : Hid _ := HD3.out.pick hC5 hO5
                    clear hC5 hO5 HD3
                    by_cases hy0 : y1 = 0
                    · subst hy0
                      go_wp2_with fail
                      refine (pick_at 2 2 rfl (by omega) (by omega) HD4.out.rn.cur HB.out HD4.out.rn.only hcb hcl (by omega)).mono ?_
                      rintro e w6 ⟨⟨y2, hy2, rfl⟩, hC5, hO5⟩
                      have HD5 : Hid _ := HD4.out.pick hC5 hO5
                      clear hC5 hO5 HD4
                      obtain ⟨u, hu⟩ := HD5.out.row.cell hcl2
                      have hz := HD5.out.row.frozen c
                      have HD6 : Hid _ := HD5.out.store c y2
                      clear HD5
                      go_wp2
                      go_roundw
                      case rel => exact ⟨c + 1, by omega, by go_num, HD6.out.mono (by omega)⟩
                      case measure => simp [intOf]; omega
                    · have hyb : ((y1 : Int) == 0) = false := by simp; omega
                      go_wp2
                      go_roundw
                      case rel => exact ⟨c + 1, by omega, by go_num, HD4.out.mono (by omega)⟩
                      case measure => simp [intOf]; omega
                  · have g1 : ((md : Int) == 1) = false := by simp [hq]
                    have g2 : ((md : Int) == 2) = true := by simp [hq]
                    have g3 : ((md : Int) == 3) = false := by simp [hq]
                    clear hq
                    go_wp2_with fail
                    refine (pick_at 2 2 rfl (by omega) (by omega) HD3.out.rn.cur HB.out HD3.out.rn.only hcb hcl (by omega)).mono ?_
                    rintro e w6 ⟨⟨y2, hy2, rfl⟩, hC5, hO5⟩
                    have HD5 : Hid _ := HD3.out.pick hC5 hO5
                    clear hC5 hO5 HD3
                    obtain ⟨u, hu⟩ := HD5.out.row.cell hcl2
                    have hz := HD5.out.row.frozen c
                    have HD6 : Hid _ := HD5.out.store c y2
                    clear HD5
                    go_wp2
                    go_roundw
                    case rel => exact ⟨c + 1, by omega, by go_num, HD6.out.mono (by omega)⟩
                    case measure => simp [intOf]; omega
                  · have g1 : ((md : Int) == 1) = false := by simp [hq]
                    have g2 : ((md : Int) == 2) = false := by simp [hq]
                    have g3 : ((md : Int) == 3) = true := by simp [hq]
                    clear hq
                    go_wp2_with fail
                    refine (pick_at 30 30 rfl (by omega) (by omega) HD3.out.rn.cur HB.out HD3.out.rn.only hcb hcl (by omega)).mono ?_
                    rintro e w5 ⟨⟨y1, hy1, rfl⟩, hC5, hO5⟩
                    have HD4 : Hid _ := HD3.out.pick hC5 hO5
                    clear hC5 hO5 HD3
                    by_cases hy0 : y1 = 0
                    · subst hy0
                      obtain ⟨u, hu⟩ := HD4.out.row.cell hcl2
                      have hz := HD4.out.row.frozen c
                      have HD6 : Hid _ := HD4.out.store c 2
                      clear HD4
                      go_wp2
                      go_roundw
                      case rel => exact ⟨c + 1, by omega, by go_num, HD6.out.mono (by omega)⟩
                      case measure => simp [intOf]; omega
                    · have hyb : ((y1 : Int) == 0) = false := by simp; omega
                      go_wp2
                      go_roundw
                      case rel => exact ⟨c + 1, by omega, by go_num, HD4.out.mono (by omega)⟩
                      case measure => simp [intOf]; omega
              · obtain rfl : c = k := by omega
                have hws := HD.out.rn.only.size
                go_wp2_with (at_builtin; refine wpList_append_lies _ (by rfl) (.tmp 82) (.tmp 84) 23 (by rfl) w0.heap.size 25 i0 (.slice none 0 0) 1 24 Tryd.underlying23 hi hz0 hz1 hz2 (by rfl) (by omega) v a _ (by rfl) (HD.out.om.own.alloc _) ⟨wr.heap.size, 0, none⟩ 1 1 [.slice (some ⟨wo.heap.size, 0, none⟩) c c] (by rfl) (by rfl) (World.news_of_block (heap_alloc_new wr _)) ?c2 (by omega) ?c3 ?c4 ?c5 (wr.heap.size + 1) (by simp) ?_)
                case c2 => first | rfl | (intro u hu; simp at hu; subst hu; rfl)
                case c3 => unfold maxLen; omega
                case c4 => omega
                case c5 => first | omega | (simp; omega)
                intro g cap w3 hown3 hgrow3 hat hlt3
                obtain ⟨f, hf⟩ := HD.out.row
                obtain ⟨hO3, hB3⟩ := HD.out.om.more hf HD.out.s4 _ hown3 hgrow3
                have HM6 : Hid (OM w3 w0.heap.size (.slice (some ⟨g, 0, none⟩) (a + 1) cap) (a + 1) (fun _ => c) (fun j => if j = a then wo.heap.size else B j) (fun j => if j = a then f else M j)) := hO3.congr (fun j _ => by simp) (fun _ _ _ _ => rfl)
                obtain ⟨f2, hf2⟩ := HD.out.rn.rank
                have HR6 : Hid (Rn w0 w3 CB (.slice ca cl cc) (40 + 100 * (a + 1)) wc.heap.size c) := ⟨(grown_cur HD.out.om.own _ hgrow3 HD.out.rn.cur hCB).mono (by omega), ⟨f2, grown_row HD.out.om.own _ hgrow3 hf2⟩, HD.out.rn.only.thenBelow hB3, hCB, HD.out.rn.rb⟩
                clear hown3 hgrow3 hat hlt3 hO3 hB3 hf hf2 HD
                go_wp2
                go_roundw
                case rel => exact ⟨a + 1, _, _, _, by omega, rfl, by go_num, HR6, HM6⟩
                case measure => simp [intOf]; omega
          · obtain rfl : a = k := by omega
            go_wp2
            go_ret
            exact ⟨a, v, B, M, hn, rfl, HM5.out, HR5.out.cur.mono (by omega), HR5.out.only⟩

end Go.Proofs.YtgflalfiopnmnaaDoor
