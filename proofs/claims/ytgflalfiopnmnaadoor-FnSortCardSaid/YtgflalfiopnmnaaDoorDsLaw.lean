import Derived.Test.YtgflalfiopnmnaaDoorDsW
import Derived.Test.YtgflalfiopnmnaaDoorSpSort
import Derived.Test.YtgflalfiopnmnaaDoorSoPm
import Derived.Test.YtgflalfiopnmnaaDoorSoBound
import Derived.Test.YtgflalfiopnmnaaDoorRkImpl2
import Derived.Test.YtgflalfiopnmnaaDoorXsLaw
namespace Go.Proofs.YtgflalfiopnmnaaDoor
open Go.RowKit Rk So Mm

/-- Where items stand, as far as i places of the order are read. -/
def plc (o : List Nat) (i : Nat) (c : Nat) : Int := if pos o c < i then (pos o c : Nat) else -1

theorem pos_get {o : List Nat} (hd : o.Nodup) {i x : Nat} (hx : o[i]? = some x) : pos o x = i := by
  obtain ⟨hl, rfl⟩ := List.getElem?_eq_some_iff.1 hx
  exact hd.idxOf_getElem i hl
theorem plc_new {o : List Nat} (hd : o.Nodup) {i x : Nat} (hx : o[i]? = some x) : plc o i x = -1 := by
  unfold plc; rw [pos_get hd hx, if_neg (by omega)]
theorem plc_step {o : List Nat} (hd : o.Nodup) {i x : Nat} (hx : o[i]? = some x) (c : Nat) : (if c = x then ((i : Nat) : Int) else plc o i c) = plc o (i + 1) c := by
  by_cases e : c = x
  · subst e
    rw [if_pos rfl]; unfold plc; rw [pos_get hd hx, if_pos (by omega)]
  · rw [if_neg e]
    have hne : pos o c ≠ i := fun h => by
      obtain ⟨hl, rfl⟩ := List.getElem?_eq_some_iff.1 hx
      have hc : o.idxOf c < o.length := by show pos o c < _; omega
      have := List.getElem_idxOf hc
      have e2 : o[o.idxOf c] = o[i] := by congr 1
      rw [this] at e2
      exact e e2
    unfold plc
    by_cases h : pos o c < i
    · rw [if_pos h, if_pos (by omega)]
    · rw [if_neg h, if_neg (by omega)]
theorem plc_row {w : World} {P n : Nat} {o : List Nat} (hd : o.Nodup) {i x : Nat} (hx : o[i]? = some x) (h : w.rowIs P 3 n (fun c => .int .i64 (plc o i c))) : (w.setCell ⟨P, x, none⟩ (.int .i64 (i : Nat))).rowIs P 3 n (fun c => .int .i64 (plc o (i + 1) c)) :=
  (h.set x _).congr (fun c _ => by
    have := plc_step hd hx c
    by_cases e : c = x
    · rw [if_pos e] at this ⊢; rw [this]
    · rw [if_neg e] at this ⊢; rw [this])

set_option maxRecDepth 100000 in
set_option maxHeartbeats 4000000 in
theorem sortLaw (A0 : Option Addr) (L0 C0 b0 o0 : Nat) (ea : Addr) (w : World) (HB0 : Hid (ByteR w A0 L0 b0 o0)) (hb0 : b0 < w.heap.size) (hL0 : L0 ≤ 9223372036854775807)
    (HE : Hid (w.cell? ⟨0, 0, none⟩ = some (.iface 74 (.pointer (some ea))))) :
    Calls Tryd.prog 3 #[.slice A0 L0 C0] w fun e w' => e = .returned (.bool true) ∧ Below w.heap.size w w' := by
  by_cases hbig : 1048576 < L0
  · go_enter Tryd.func3, Tryd.ntmps3
    go_wp2
    go_ret
    exact ⟨rfl, Below.refl _ _⟩
  · have HEs : Hid (∀ w', Below w.heap.size w w' → w'.cell? ⟨0, 0, none⟩ = some (.iface 74 (.pointer (some ea)))) := fun _ hb => (hb.cell (p := ⟨0, 0, none⟩) (World.block_lt_of_cell? _ _ HE.out)).trans HE.out
    go_enter Tryd.func3, Tryd.ntmps3
    go_wp2_with fail
    refine (draw_any w A0 L0 C0 b0 o0 HB0 hb0 (by omega)).mono ?_
    rintro e w1 ⟨n, v, L, B, M, hn, hL, rfl, hM1, hB1⟩
    obtain ⟨ga, cp, gb, rfl, hga, hR1⟩ := hM1.mat
    have HM1 : Hid (MatR w1 gb 0 n (fun j => some ⟨B j, 0, none⟩) L L B (fun _ => 0) M) := hR1
    have HB1 : Hid (Below w.heap.size w w1) := hB1
    have HL : Hid (∀ r, r < n → L r ≤ 1048576) := fun r _ => Nat.le_trans (hL r) (by decide)
    clear hM1 hB1 hR1 hL hL0
    go_wp2_with fail
    refine (implSort_any w1 ga gb 0 n cp _ L L B _ M ea hga (by omega) HL.out HM1.out (HEs.out _ HB1.out)).mono ?_
    rintro e w2 ⟨code, o, q, ov, av, HO, rfl, hR⟩
    obtain ⟨Co, Cq, A1, A1', B1, B1', co, cq, f1, g1, rfl, rfl, vo1, vq1, hH⟩ := hR.held
    have hx2 : Below w1.heap.size w1 (w2.alloc (.cells #[.int .i64 code, .slice A1 o.length Co, .slice A1' q.length Cq] 28)) := hR.bel.alloc hR.bel.size _
    have HB2 : Hid (Below w.heap.size w (w2.alloc (.cells #[.int .i64 code, .slice A1 o.length Co, .slice A1' q.length Cq] 28))) := HB1.out.trans (hx2.mono HB1.out.size)
    have HM2 : Hid _ := HM1.out.below hx2
    have HH2 : Hid _ := hH code
    have HV1 : Hid _ := vo1
    have HV1' : Hid _ := vq1
    have hol := HO.out.small.1
    have hql := HO.out.small.2
    clear hR hH hx2 vo1 vq1 HB1 HM1
    go_wp2_with fail
    obtain ⟨w2a, hwa⟩ : ∃ x, w2.alloc (.cells #[.int .i64 code, .slice A1 o.length Co, .slice A1' q.length Cq] 28) = x := ⟨_, rfl⟩
    rw [hwa] at HB2 HM2 HH2 ⊢
    clear hwa
    refine (spSort_any w2a ga gb 0 n cp _ L L B _ M hga (by omega) HL.out HM2.out).mono ?_
    rintro e w3 ⟨code', o', q', ov, av, HO', rfl, hR⟩
    obtain ⟨e1, e2, e3⟩ := HO.out.same HO'.out
    subst e1 e2 e3
    clear HO'
    obtain ⟨Co2, Cq2, A2, A2', B2, B2', co2, cq2, f2, g2, rfl, rfl, vo2, vq2, hH2⟩ := hR.held
    have hx3 : Below w2a.heap.size w2a (w3.alloc (.cells #[.int .i64 code, .slice A2 o.length Co2, .slice A2' q.length Cq2] 28)) := hR.bel.alloc hR.bel.size _
    have HB3 : Hid (Below w.heap.size w (w3.alloc (.cells #[.int .i64 code, .slice A2 o.length Co2, .slice A2' q.length Cq2] 28))) := HB2.out.trans (hx3.mono HB2.out.size)
    have HM3 : Hid _ := HM2.out.below hx3
    have HH3 : Hid _ := HH2.out.below hx3
    have HG3 : Hid _ := hH2 code
    have HV2 : Hid _ := vo2
    have HV2' : Hid _ := vq2
    clear hR hH2 hx3 vo2 vq2 HB2 HM2 HH2
    have a0 := HH3.out.c0
    have a1 := HH3.out.c1
    have a2 := HH3.out.c2
    go_wp2_with fail
    obtain ⟨w3a, hwa⟩ : ∃ x, w3.alloc (.cells #[.int .i64 code, .slice A2 o.length Co2, .slice A2' q.length Cq2] 28) = x := ⟨_, rfl⟩
    rw [hwa] at HB3 HM3 HH3 HG3 ⊢
    clear hwa a0 a1 a2
    refine (wInts_same _ _ _ _ _ B1 0 B2 0 _ w3a hol (HH3.out.rowR HV1.out) (HG3.out.rowR HV2.out)).mono ?_
    rintro e w4 ⟨rfl, m4, hw4⟩
    have hb4 : Below w3a.heap.size w3a w4 := by rw [hw4]; exact below_drewN (Below.refl _ _) m4
    have HB4 : Hid (Below w.heap.size w w4) := HB3.out.trans (hb4.mono HB3.out.size)
    have HM4 : Hid _ := HM3.out.below hb4
    have HH4 : Hid _ := HH3.out.below hb4
    have HG4 : Hid _ := HG3.out.below hb4
    clear hw4 hb4 HB3 HM3 HH3 HG3
    have a0 := HH4.out.c0
    have a1 := HH4.out.c1
    have a2 := HH4.out.c2
    have b0 := HG4.out.c0
    have b1 := HG4.out.c1
    have b2 := HG4.out.c2
    go_wp2_with fail
    refine (wAsks_same _ _ _ _ _ B1' B2' _ _ w4 hql (HH4.out.askR HV1'.out) (HG4.out.askR HV2'.out)).mono ?_
    rintro e w5 ⟨rfl, m5, hw5⟩
    have hb5 : Below w4.heap.size w4 w5 := by rw [hw5]; exact below_drewN (Below.refl _ _) m5
    have HB5 : Hid (Below w.heap.size w w5) := HB4.out.trans (hb5.mono HB4.out.size)
    have HM5 : Hid _ := HM4.out.below hb5
    have HH5 : Hid _ := HH4.out.below hb5
    clear hw5 hb5 HB4 HM4 HH4 HG4 a0 a1 a2 b0 b1 b2
    have a0 := HH5.out.c0
    have a1 := HH5.out.c1
    have a2 := HH5.out.c2
    rcases HO.out with ⟨hns, rfl, rfl, rfl⟩ | ⟨hsq, hso, rfl⟩ | ⟨hsq, hso, rfl, rfl⟩
    · go_wp2_with fail
      refine (implRk_any ga gb 0 n cp _ L L B _ M w5 hga (by omega) HL.out HM5.out).mono ?_
      rintro e w6 ⟨⟨b, rfl, hb⟩, hb6⟩
      have hbf : b = false := by cases b; rfl; exact absurd (hb.1 rfl).1 hns
      subst hbf
      have HB6 : Hid (Below w.heap.size w w6) := HB5.out.trans (hb6.mono HB5.out.size)
      clear hb hb6
      go_wp2
      go_ret
      exact ⟨rfl, HB6.out⟩
    · skip
      have h200 := hsq.1
      have HSq : Hid _ := hsq
      have HSo : Hid _ := hso
      have hqm := (sorted_asks hso).1
      obtain ⟨U, HU⟩ : ∃ U, Hid (outer n 1 0 = U) := ⟨_, rfl⟩
      rw [HU.out] at hqm
      have hm1 : ∀ wx, Calls Tryd.prog 12 #[.int .i64 n] wx fun e w' => e = .returned (.int .i64 (U : Nat)) ∧ Below wx.heap.size wx w' := fun wx => by
        have := implMost_yes n h200 wx
        rwa [HU.out] at this
      have g2 : decide (U < q.length) = false := by simp; omega
      have hS0 : w5.drew.cell? ⟨w2.heap.size, 0, none⟩ = some (.int .i64 0) ∧ w5.drew.cell? ⟨w2.heap.size, 1, none⟩ = some (.slice A1 o.length Co) ∧ w5.drew.cell? ⟨w2.heap.size, 2, none⟩ = some (.slice A1' q.length Cq) ∧ Below w5.heap.size w5 w5.drew := ⟨a0, a1, a2, (Below.refl _ _).drew⟩
      clear hsq hso
      go_wp2_with fail
      go_region_held3 (fun w' => w'.cell? ⟨w2.heap.size, 0, none⟩ = some (.int .i64 0) ∧ w'.cell? ⟨w2.heap.size, 1, none⟩ = some (.slice A1 o.length Co) ∧ w'.cell? ⟨w2.heap.size, 2, none⟩ = some (.slice A1' q.length Cq) ∧ Below w5.heap.size w5 w') (first | assumption | exact keep3 (by assumption) hb3)
        ((go_at_call 12; refine (hm1 _).mono ?_; rintro e w6 ⟨rfl, hb3⟩))
      rename_i hS4
      obtain ⟨d0, d1, d2, hB6⟩ := hS4
      have HB6 : Hid (Below w.heap.size w w6) := HB5.out.trans (hB6.mono HB5.out.size)
      have HM6 : Hid _ := HM5.out.below hB6
      have HH6 : Hid _ := HH5.out.below hB6
      clear hS0 hB6 hb3 a0 a1 a2 hm1 g2 HB5 HM5 HH5
      have hpm := sorted_perm HSo.out
      have hon : o.length = n := by simpa using hpm.length_eq
      rw [hon] at d1
      have Hon : Hid (o.length = n) := hon
      have Hpm : Hid (List.Perm o (List.range n)) := hpm
      have Hnd : Hid o.Nodup := hpm.nodup_iff.2 List.nodup_range
      have hmk := run_make_row' (P := Tryd.prog) 25 3 (.int .i64 0) 8 Tryd.underlying25 Tryd.info3 rfl .i64 .i64 n (by omega) (by omega)
      clear hpm hon hqm
      go_wp2
      clear hmk
      go_loopw [80] (fun i wr => ∃ k : Nat, k ≤ n ∧ i = .int .i64 k ∧ Hid (Fill w6 wr 3 n k (.int .i64 0) (fun _ => .int .i64 (-1)))) (fun i _ => n - (intOf i).toNat)
      case atStart => exact ⟨0, Nat.zero_le _, rfl, Fill.start _ _ _ _ _⟩
      case round =>
        obtain ⟨k, hk, rfl, HF⟩ := hrel
        by_cases hlt : k < n
        · have ho := HF.out.cellAt hlt
          have hz := HF.out.row.frozen k
          have HN : Hid _ := HF.out.step
          clear HF
          go_wp2
          go_roundw
          case rel => exact ⟨k + 1, by omega, by go_num, HN.out⟩
          case measure => simp [intOf]; omega
        · have HP : Hid (wr.rowIs w6.heap.size 3 n (fun c => .int .i64 (plc o 0 c))) := by
            obtain rfl : k = n := by omega
            exact HF.out.done.congr (fun c _ => by simp [plc])
          have HBx : Hid (Below w6.heap.size w6 wr) := HF.out.bel
          have HH7 : Hid _ := HH6.out.below HF.out.bel
          have x1 := HH7.out.c1
          rw [Hon.out] at x1
          clear HF d0 d1 d2
          go_wp2
          go_loopw [90] (fun i wx => ∃ k : Nat, k ≤ n ∧ i = .int .i64 k ∧ Hid (wx.rowIs w6.heap.size 3 n (fun c => .int .i64 (plc o k c))) ∧ Hid (Below w6.heap.size w6 wx)) (fun i _ => n - (intOf i).toNat)
          case atStart => exact ⟨0, Nat.zero_le _, rfl, HP, HBx⟩
          case round =>
            clear HP HBx x1 HH7
            obtain ⟨i, hi2, rfl, HP, HBx⟩ := hrel
            by_cases hil : i < n
            · obtain ⟨x, hx⟩ : ∃ x, o[i]? = some x := ⟨_, List.getElem?_eq_getElem (by have := Hon.out; omega)⟩
              have hxn : x < n := List.mem_range.1 (Hpm.out.mem_iff.1 (List.mem_of_getElem? hx))
              obtain ⟨e1, v1⟩ := (HH6.out.below HBx.out).rowR HV1.out i (by have := Hon.out; omega)
              have v2 : wr.cell? ⟨B1, i, none⟩ = some (.int .i64 x) := by
                rw [Nat.zero_add] at v1
                rw [v1]
                simp [List.getD, hx]
              have pc := HP.out.cell hxn
              rw [plc_new Hnd.out hx] at pc
              have pz := HP.out.frozen x
              have HN : Hid _ := plc_row Hnd.out hx HP.out
              have HB2 : Hid (Below w6.heap.size w6 (wr.setCell ⟨w6.heap.size, x, none⟩ (.int .i64 (i : Nat)))) := HBx.out.setCell (Nat.le_refl _) _
              subst e1
              clear hx v1 HP HBx
              go_wp2
              go_roundw
              case rel => exact ⟨i + 1, by omega, by go_num, HN, HB2⟩
              case measure => simp [intOf]; omega
            · have HPl : Hid (wr.rowIs w6.heap.size 3 n (fun c => .int .i64 ((pos o c : Nat) : Int))) := HP.out.congr (fun c hc => by
                have hm := List.idxOf_lt_length_of_mem (Hpm.out.mem_iff.2 (List.mem_range.2 hc))
                have := Hon.out
                unfold plc
                rw [if_pos (by show o.idxOf c < i; omega)])
              have HMx : Hid _ := HM6.out.below HBx.out
              have HB7 : Hid (Below w.heap.size w wr) := HB6.out.trans (HBx.out.mono HB6.out.size)
              clear HP HBx HM6 HB6 HH6
              go_wp2_with fail
              refine (specRk_any ga gb 0 n cp _ L L B _ M wr hga (by omega) HL.out HMx.out).mono ?_
              rintro e w7 ⟨⟨b, rfl, hb⟩, hw7⟩
              subst hw7
              go_wp2_with fail
              refine (implRk_any ga gb 0 n cp _ L L B _ M w7 hga (by omega) HL.out HMx.out).mono ?_
              rintro e w8 ⟨⟨b', rfl, hb'⟩, hb8⟩
              have hbb : b' = b := Bool.eq_iff_iff.2 (hb'.trans hb.symm)
              subst hbb
              have HOrd : Hid (b' = true → Ord n M) := fun h => ⟨fun a ha c hc => by have := sq_three HSq.out ha hc; have := ((hb.1 h).2 a ha c hc).1; omega, (hb.1 h).2⟩
              have HP8 : Hid (w8.rowIs w6.heap.size 3 n (fun c => .int .i64 ((pos o c : Nat) : Int))) := rowIs_below HPl.out hb8
              have HM8 : Hid (MatR w8 gb 0 n (fun j => some ⟨B j, 0, none⟩) L L B (fun _ => 0) M) := HMx.out.below hb8
              have HB8 : Hid (Below w.heap.size w w8) := HB7.out.trans (hb8.mono HB7.out.size)
              clear hb hb' hb8 HPl HMx HB7
              go_wp2
              go_loopw [12] (fun a wx => ∃ k m : Nat, k ≤ n ∧ a = .int .i64 k ∧ wx = w8.drewN m) (fun a _ => n - (intOf a).toNat)
              case atStart => exact ⟨0, 0, Nat.zero_le _, rfl, rfl⟩
              case round =>
                obtain ⟨a, m, ha, rfl, rfl⟩ := hrel
                by_cases hal : a < n
                · cases b'
                  · go_wp2
                    go_ret
                    exact ⟨rfl, below_drewN HB8.out m⟩
                  · have HR : Hid (Ord n M) := HOrd.out rfl
                    obtain rfl := hga (by omega)
                    go_wp2
                    go_loopw [13] (fun c wx => ∃ k m : Nat, k ≤ n ∧ c = .int .i64 k ∧ wx = w8.drewN m) (fun c _ => n - (intOf c).toNat)
                    case atStart => exact ⟨0, m, Nat.zero_le _, rfl, rfl⟩
                    case round =>
                      obtain ⟨c, m2, hc, rfl, rfl⟩ := hrel
                      by_cases hcl : c < n
                      · have ta := HM8.out.topAt HSq.out hal
                        have tc := HM8.out.topAt HSq.out hcl
                        have vac := HM8.out.valAt HSq.out hal hcl
                        have vca := HM8.out.valAt HSq.out hcl hal
                        simp only [Nat.zero_add] at ta tc vac vca
                        have pa := HP8.out.cell hal
                        have pc := HP8.out.cell hcl
                        have ia : (a : Int) < (n : Int) := by omega
                        have ic : (c : Int) < (n : Int) := by omega
                        rcases HR.out.val a hal c hcl with e0 | e0
                        · rw [e0] at vac
                          by_cases hac : a < c
                          · rcases HR.out.val c hcl a hal with e1 | e1
                            · rw [e1] at vca
                              have g : decide (pos o c < pos o a) = false := by
                                have := place_zero HR.out HSo.out hal hcl hac e1
                                simp; omega
                              clear e0 e1
                              go_wp2_with fail
                              go_quiet (fail)
                              go_wp2_with fail
                              go_quiet (fail)
                              go_wp2
                              go_roundw
                              case rel => exact ⟨c + 1, _, by omega, by go_num, rfl⟩
                              case measure => simp [intOf]; omega
                            · rw [e1] at vca
                              clear e0 e1
                              go_wp2_with fail
                              go_quiet (fail)
                              go_wp2_with fail
                              go_quiet (fail)
                              go_wp2
                              go_roundw
                              case rel => exact ⟨c + 1, _, by omega, by go_num, rfl⟩
                              case measure => simp [intOf]; omega
                          · clear e0
                            go_wp2_with fail
                            go_quiet (fail)
                            go_wp2_with fail
                            go_quiet (fail)
                            go_wp2
                            go_roundw
                            case rel => exact ⟨c + 1, _, by omega, by go_num, rfl⟩
                            case measure => simp [intOf]; omega
                        · rw [e0] at vac
                          have g : decide (pos o c < pos o a) = false := by
                            have := place_one HR.out HSo.out hal hcl e0
                            simp; omega
                          clear e0
                          by_cases hac : a < c
                          · skip
                            go_wp2_with fail
                            go_quiet (fail)
                            go_wp2_with fail
                            go_quiet (fail)
                            go_wp2
                            go_roundw
                            case rel => exact ⟨c + 1, _, by omega, by go_num, rfl⟩
                            case measure => simp [intOf]; omega
                          · skip
                            go_wp2_with fail
                            go_quiet (fail)
                            go_wp2_with fail
                            go_quiet (fail)
                            go_wp2
                            go_roundw
                            case rel => exact ⟨c + 1, _, by omega, by go_num, rfl⟩
                            case measure => simp [intOf]; omega
                      · go_wp2
                        go_roundw
                        case rel => exact ⟨a + 1, m2, by omega, by go_num, rfl⟩
                        case measure => simp [intOf]; omega
                · go_wp2
                  go_ret
                  exact ⟨rfl, below_drewN HB8.out m⟩
    · skip
      have h200 := hsq.1
      have HSq : Hid _ := hsq
      have HSo : Hid _ := hso
      have hqm := (sorted_asks hso).1
      obtain ⟨U, HU⟩ : ∃ U, Hid (outer n 1 0 = U) := ⟨_, rfl⟩
      rw [HU.out] at hqm
      have hm1 : ∀ wx, Calls Tryd.prog 12 #[.int .i64 n] wx fun e w' => e = .returned (.int .i64 (U : Nat)) ∧ Below wx.heap.size wx w' := fun wx => by
        have := implMost_yes n h200 wx
        rwa [HU.out] at this
      have g2 : decide (U < q.length) = false := by simp; omega
      have hS0 : w5.drew.cell? ⟨w2.heap.size, 0, none⟩ = some (.int .i64 2) ∧ w5.drew.cell? ⟨w2.heap.size, 1, none⟩ = some (.slice A1 ([] : List Nat).length Co) ∧ w5.drew.cell? ⟨w2.heap.size, 2, none⟩ = some (.slice A1' q.length Cq) ∧ Below w5.heap.size w5 w5.drew := ⟨a0, a1, a2, (Below.refl _ _).drew⟩
      clear hsq hso
      go_wp2_with fail
      go_region_held3 (fun w' => w'.cell? ⟨w2.heap.size, 0, none⟩ = some (.int .i64 2) ∧ w'.cell? ⟨w2.heap.size, 1, none⟩ = some (.slice A1 ([] : List Nat).length Co) ∧ w'.cell? ⟨w2.heap.size, 2, none⟩ = some (.slice A1' q.length Cq) ∧ Below w5.heap.size w5 w') (first | assumption | exact keep3 (by assumption) hb3)
        ((go_at_call 12; refine (hm1 _).mono ?_; rintro e w6 ⟨rfl, hb3⟩))
      rename_i hS4
      obtain ⟨d0, d1, d2, hB6⟩ := hS4
      have HB6 : Hid (Below w.heap.size w w6) := HB5.out.trans (hB6.mono HB5.out.size)
      have HM6 : Hid _ := HM5.out.below hB6
      have HH6 : Hid _ := HH5.out.below hB6
      clear hS0 hB6 hb3 a0 a1 a2 hm1 g2 HB5 HM5 HH5
      have hq0 : 0 < q.length := List.length_pos_iff.2 (sorted_none HSo.out)
      go_wp2
      go_ret
      exact ⟨rfl, HB6.out⟩

end Go.Proofs.YtgflalfiopnmnaaDoor
