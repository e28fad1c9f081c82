import Derived.Test.YtgflalfiopnmnaaGreatDoorM0
import Derived.Test.YtgflalfiopnmnaaGreatDoorM12
import Derived.Test.YtgflalfiopnmnaaGreatDoorM1
import Derived.Test.YtgflalfiopnmnaaGreatDoorM3
import Derived.Deep.CutRange
import Derived.Test.YtgflalfiopnmnaaGreatDoorM11
import Derived.Test.YtgflalfiopnmnaaGreatDoorM6
namespace Go.Proofs.YtgflalfiopnmnaaGreatDoor
open Go.RowKit Vl

theorem put4_hi8 {w : World} {B : Nat} {a b c d e f g i : Value} {t : TypeId} (h : w.heap[B]? = some (.cells #[a, b, c, d, e, f, g, i] t (0, 0))) (a' b' c' d' : Value) :
    ((((w.setCell ⟨B, 4, none⟩ a').setCell ⟨B, 5, none⟩ b').setCell ⟨B, 6, none⟩ c').setCell ⟨B, 7, none⟩ d').heap[B]? = some (.cells #[a, b, c, d, a', b', c', d'] t (0, 0)) := by
  simp [World.setCell, Array.getElem?_modify, h]

structure TuG (w : World) (gb : Nat) (u' : V) (base n tw : Nat) (L : Nat → Nat) (K X : Nat → Nat → V) (tv : Value) (q : Nat) : Prop where
  out : OutB w gb u' tv
  ex : ∃ (PV : Nat → Value) (L' : Nat → Nat) (K' X' : Nat → Nat → V), OTab w base tv q PV L' K' X' ∧ ∀ j, j < q → TurnT n tw (L (j % n)) (K (j % n)) (X (j % n)) (L' j) (K' j) (X' j)

set_option maxHeartbeats 8000000 in
set_option maxRecDepth 100000 in
theorem turned_any (wo w : World) (CB : Nat) (ca : Option Addr) (cl cc cb co t : Nat) (u : V) (ta : Option Addr) (n cp TB TO : Nat) (A : Nat → Option Addr) (L C RB RO : Nat → Nat) (K X : Nat → Nat → V) (HBo : Hid (Below wo.heap.size wo w)) (hCB : wo.heap.size ≤ CB) (hok : OkG n u L K X) (HT : Hid (TabsAt wo ta n TB TO A L C RB RO K X)) (h : Rd w CB ca cl cc cb co t) (ht : t ≤ 1000) :
    Calls Tryz.prog 34 #[.pointer (some ⟨CB, 0, none⟩), .agg #[.int .i64 u.k, .int .i64 u.n, .string u.s, .int .i64 u.a, .slice ta n cp]] w fun e w' => (∃ (tw : Nat) (u' : V) (tv : Value) (PV : Nat → Value) (L' : Nat → Nat) (K' X' : Nat → Nat → V) (base : Nat), 0 < tw ∧ n * tw ≤ 200 ∧ w.heap.size < base ∧ e = .returned (.agg #[.int .i64 u'.k, .int .i64 u'.n, .string u'.s, .int .i64 u'.a, tv]) ∧ LedV n tw u u' ∧ OTab w' base tv (n * tw) PV L' K' X' ∧ ∀ j, j < n * tw → TurnT n tw (L (j % n)) (K (j % n)) (X (j % n)) (L' j) (K' j) (X' j)) ∧ Only (fun k => k = CB) w w' := by
  have hbk := h.blocks
  have hn := hok.len
  have HOK : Hid (OkG n u L K X) := hok
  clear hok
  have A2 := alloc2 w (.cells #[.int .i64 u.k, .int .i64 u.n, .string u.s, .int .i64 u.a, .slice ta n cp] 27) (.cells #[.int .i64 0, .int .i64 0, .string ⟨#[]⟩, .int .i64 0, .slice none 0 0] 27)
  obtain ⟨wa, hwa⟩ : ∃ wa, wa = (w.alloc (.cells #[.int .i64 u.k, .int .i64 u.n, .string u.s, .int .i64 u.a, .slice ta n cp] 27)).alloc (.cells #[.int .i64 0, .int .i64 0, .string ⟨#[]⟩, .int .i64 0, .slice none 0 0] 27) := ⟨_, rfl⟩
  rw [← hwa] at A2
  have HGa : Hid (OutB wa w.heap.size u (.slice ta n cp)) := A2.1
  have HZa : Hid (OutB wa (w.heap.size + 1) zeroV (.slice none 0 0)) := A2.2.1
  have hsa : wa.heap.size = w.heap.size + 2 := A2.2.2.1
  have HRa : Hid (Rd wa CB ca cl cc cb co t) := h.below A2.2.2.2
  have HBa : Hid (Below w.heap.size w wa) := A2.2.2.2
  clear A2 h
  obtain ⟨pb, hpb⟩ : ∃ pb, w.heap.size = pb := ⟨_, rfl⟩
  obtain ⟨rb, hrb⟩ : ∃ rb, pb + 1 = rb := ⟨_, rfl⟩
  go_enter Tryz.func34, Tryz.ntmps34
  go_upto_region 1 with fail
  rw [← hwa]
  rw [hpb] at HGa HZa hsa hbk
  rw [hrb] at HZa
  try rw [hpb]
  try rw [hrb]
  clear hwa
  obtain ⟨g0, g1, g2, g3, g4, _⟩ := cells5 HGa.out
  go_upto_if 21 with fail
  go_cut [6] from 16 (fun v wx => ∃ tw : Nat, 0 < tw ∧ tw ≤ 2 ∧ n * tw ≤ 200 ∧ v = .int .i64 tw ∧ wx = wa)
  case first =>
    by_cases h2 : 2 * n ≤ 200
    · have h2i : 2 * (n : Int) ≤ 200 := by omega
      go_wp2
      go_meet
      exact ⟨2, by omega, by omega, by omega, rfl, rfl⟩
    · have h2i : ¬ 2 * (n : Int) ≤ 200 := by omega
      go_wp2
      go_meet
      exact ⟨1, by omega, by omega, by omega, rfl, rfl⟩
  case rest =>
    obtain ⟨tw, htw, htw2, hnt, rfl, hwc⟩ := hcut
    have hwc := hwc.symm
    subst hwc
    have HNT : Hid (n * tw ≤ 200) := hnt
    clear hnt
    obtain ⟨w3, hw3⟩ : ∃ w3, w3 = wa.alloc (.cells #[.int .i64 0, .int .i64 0, .string ⟨#[]⟩, .int .i64 0, .slice none 0 0] 27) := ⟨_, rfl⟩
    have HB3 : Hid (Below wa.heap.size wa w3) := by rw [hw3]; exact (Below.refl _ _).alloc (Nat.le_refl _) _
    have HG3 : Hid (OutB w3 wa.heap.size zeroV (.slice none 0 0)) := by rw [hw3]; exact heap_alloc_new _ _
    have HP3 : Hid (OutB w3 pb u (.slice ta n cp)) := blkB HGa.out HB3.out
    obtain ⟨gb, hgb⟩ : ∃ gb, pb + 2 = gb := ⟨_, rfl⟩
    have HR3 : Hid (Rd w3 CB ca cl cc cb co t) := HRa.out.below HB3.out
    have hp := led_any w3 CB ca cl cc cb co t u n tw hn htw htw2 (fun h4 => isV_tab HOK.out.root h4) HR3.out (by omega)
    clear g0 g1 g2 g3 g4
    go_upto_region 6 with fail
    rw [← hw3]
    rw [show wa.heap.size = gb by omega] at HG3
    try rw [hsa]
    try rw [hgb]
    clear hw3 hsa
    obtain ⟨g0, g1, g2, g3, g4, _⟩ := cells5 HP3.out
    go_wp2_with fail
    refine hp.mono ?_
    clear hp
    rintro e w4 ⟨⟨u', hlu, rfl⟩, hR4, hO4⟩
    have HLU : Hid (LedV n tw u u') := hlu
    have HG4 : Hid (OutB w4 gb zeroV (.slice none 0 0)) := (hO4.block _ (blk_lt HG3.out) (by omega)).trans HG3.out
    obtain ⟨w5, hw5⟩ : ∃ w5, w5 = (((w4.setCell ⟨gb, 0, none⟩ (.int .i64 u'.k)).setCell ⟨gb, 1, none⟩ (.int .i64 u'.n)).setCell ⟨gb, 2, none⟩ (.string u'.s)).setCell ⟨gb, 3, none⟩ (.int .i64 u'.a) := ⟨_, rfl⟩
    have HG5 : Hid (OutB w5 gb u' (.slice none 0 0)) := by rw [hw5]; exact put5lo HG4.out _ _ _ _
    have ho5 : Only (fun k => k = gb) w4 w5 := by rw [hw5]; exact set4_only
    have HO35 : Hid (Only (fun k => k = gb ∨ k = CB) w3 w5) := (hO4.mono (fun _ _ e => Or.inr e)).then ho5 (fun _ _ e => Or.inl e)
    have HR5 : Hid (Rd w5 CB ca cl cc cb co (t + 2)) := hR4.keep (ho5.toBelow (base := gb) (fun k e => by omega) (by have := blk_lt HG4.out; omega)) (by omega) (fun h => by have := hbk.2 h; omega)
    have HP5 : Hid (OutB w5 pb u (.slice ta n cp)) := (HO35.out.block _ (blk_lt HP3.out) (by omega)).trans HP3.out
    have HZ5 : Hid (OutB w5 rb zeroV (.slice none 0 0)) := (HO35.out.block _ (by have := blk_lt HG3.out; omega) (by omega)).trans (blkB HZa.out HB3.out)
    have HOw5 : Hid (Only (fun k => k = CB) w w5) := ((Only.below HBa.out).trans (Only.below HB3.out)).then HO35.out (fun j hj e => by omega)
    have hs5 : Hid (gb < w5.heap.size) := blk_lt HG5.out
    obtain ⟨gg0, gg1, gg2, gg3, gg4, ggz⟩ := cells5 HG4.out
    clear hlu hR4 hO4 ho5
    go_upto_region 7 with fail
    rw [← hw5]
    clear hw5 gg0 gg1 gg2 gg3 gg4 ggz g0 g1 g2 g3 g4 HG3 HG4 HP3 HR3 HRa HGa HZa HBa HB3 HO35
    have HBo5 : Hid (Below wo.heap.size wo w5) := HBo.out.trans (HOw5.out.toBelow (fun k e => by omega) HBo.out.size)
    have HTu5 : Hid (TuG w5 gb u' w5.heap.size n tw L K X (.slice none 0 0) (n * 0)) := ⟨HG5.out, fun _ => .nilIface, fun _ => 0, fun _ _ => zeroV, fun _ _ => zeroV, by rw [Nat.mul_zero]; exact OTab.nil _ _ _ _ _ _, fun j hj => by rw [Nat.mul_zero] at hj; omega⟩
    obtain ⟨it, hti, ht0, ht1, ht2⟩ := info_parts Tryz.info37
    obtain ⟨ip, hpi, hp0, hp1, hp2⟩ := info_parts Tryz.info39
    go_wp2
    go_loopw [8] (fun kk wr => ∃ (k : Nat) (tv : Value), k ≤ tw ∧ kk = .int .i64 k ∧ Hid (TuG wr gb u' w5.heap.size n tw L K X tv (n * k)) ∧ Hid (Rd wr CB ca cl cc cb co (t + 2 + 100000 * k)) ∧ Hid (Only (fun k => k = gb ∨ k = CB) w5 wr)) (fun kk _ => tw - (intOf kk).toNat)
    case atStart => exact ⟨0, _, Nat.zero_le _, rfl, HTu5, HR5.out.mono (by omega), Only.refl _ _⟩
    case round =>
      obtain ⟨k, tv, hk, rfl, HTk, HRk, HOk⟩ := hrel
      clear HTu5
      by_cases hkt : k < tw
      · have HPk : Hid (OutB wr pb u (.slice ta n cp)) := (HOk.out.block _ (blk_lt HP5.out) (by omega)).trans HP5.out
        obtain ⟨g0, g1, g2, g3, g4, _⟩ := cells5 HPk.out
        obtain ⟨q0, hq0⟩ : ∃ q0, n * k = q0 := ⟨_, rfl⟩
        have HQ : Hid (n * k = q0) := hq0
        have HQ2 : q0 + n ≤ 200 := by
          have h1 : n * (k + 1) ≤ n * tw := Nat.mul_le_mul_left _ hkt
          rw [Nat.mul_add, Nat.mul_one] at h1
          have := HNT.out
          omega
        rw [hq0] at HTk
        clear hq0
        go_wp2
        clear g0 g1 g2 g3 g4
        go_loopw [37] (fun ii wr => ∃ (r : Nat) (tv : Value), r ≤ n ∧ ii = .int .i64 r ∧ Hid (TuG wr gb u' w5.heap.size n tw L K X tv (q0 + r)) ∧ Hid (Rd wr CB ca cl cc cb co (t + 2 + 100000 * k + 300 * r)) ∧ Hid (Only (fun k => k = gb ∨ k = CB) w5 wr)) (fun ii _ => n - (intOf ii).toNat)
        case atStart => exact ⟨0, _, Nat.zero_le _, rfl, HTk, HRk.out.mono (by omega), HOk⟩
        case round =>
          obtain ⟨r, tv, hr, rfl, HTr, HRr, HOr⟩ := hrel
          clear HTk HRk HOk HPk
          have hsr := HOr.out.size
          by_cases hlt : r < n
          · have HBr : Hid (Below wo.heap.size wo wr) := HBo5.out.trans (HOr.out.toBelow (base := wo.heap.size) (fun k e => by have := HBo.out.size; omega) HBo5.out.size)
            obtain rfl := HT.out.top (by omega)
            have t0 := (HT.out.below HBr.out).tab r hlt
            obtain ⟨pa, hpa⟩ : ∃ a, A r = a := ⟨_, rfl⟩
            obtain ⟨l, hl⟩ : ∃ a, L r = a := ⟨_, rfl⟩
            obtain ⟨pc, hpc⟩ : ∃ a, C r = a := ⟨_, rfl⟩
            rw [hpa, hl, hpc] at t0
            have HP : Hid (PairsAt wo pa l (RB r) (RO r) (K r) (X r)) := by rw [← hpa, ← hl]; exact HT.out.row r hlt
            have hl100 : l ≤ 100 := by rw [← hl]; exact (HOK.out.all r hlt).len
            have HVl : Hid (∀ c, c < l → isV n (X r c) = true) := show ∀ c, _ from fun c hc => ((HOK.out.all r hlt).all c (by rw [hl]; exact hc)).val
            have il : (0 : Int) ≤ (r : Int) ∧ (r : Int) < (n : Int) := by omega
            have A2 := alloc2 wr (.cells #[.slice pa l pc] 37) (.cells #[.slice none 0 0] 37)
            obtain ⟨wx, hwx⟩ : ∃ wx, wx = (wr.alloc (.cells #[.slice pa l pc] 37)).alloc (.cells #[.slice none 0 0] 37) := ⟨_, rfl⟩
            rw [← hwx] at A2
            have HBx : Hid (Below wr.heap.size wr wx) := A2.2.2.2
            have hsx : wx.heap.size = wr.heap.size + 2 := A2.2.2.1
            obtain ⟨tb, htb⟩ : ∃ tb, wr.heap.size = tb := ⟨_, rfl⟩
            obtain ⟨xb, hxb⟩ : ∃ xb, tb + 1 = xb := ⟨_, rfl⟩
            have HSx : Hid (wx.heap[tb]? = some (.cells #[.slice pa l pc] 37 (0, 0))) := by rw [← htb]; exact A2.1
            have HXx : Hid (wx.heap[xb]? = some (.cells #[.slice none 0 0] 37 (0, 0))) := by rw [← hxb, ← htb]; exact A2.2.1
            have HRx : Hid (Rd wx CB ca cl cc cb co (t + 2 + 100000 * k + 300 * r)) := HRr.out.below HBx.out
            clear A2
            go_upto_region 14 with fail
            rw [← hwx]
            try rw [htb]
            try rw [hxb]
            clear hwx t0 hpa hpc il
            obtain ⟨s0, _⟩ := one_at HSx.out
            go_upto_if 45 with fail
            go_cut [13, 37] from 37 to 82 (fun v ix wq => ∃ fr : Nat, (0 < l → fr < l) ∧ fr ≤ 100 ∧ v = .int .i64 fr ∧ ix = .int .i64 r ∧ Hid (Rd wq CB ca cl cc cb co (t + 2 + 100000 * k + 300 * r + 2)) ∧ Hid (Only (fun k => k = CB) wx wq))
            case first =>
              by_cases l0 : 0 < l
              · have l0i : (0 : Int) < (l : Int) := by omega
                have hp := pick_r l HRx.out l0 (by omega) (by omega)
                go_wp2_with fail
                refine hp.mono ?_
                clear hp
                rintro e wy ⟨⟨y, hy, rfl⟩, HRy, HOy⟩
                go_wp2
                go_meet
                exact ⟨y, fun _ => hy, by omega, rfl, rfl, HRy, HOy⟩
              · have l0i : ¬ (0 : Int) < (l : Int) := by omega
                go_wp2
                go_meet
                exact ⟨0, fun h => h, by omega, rfl, rfl, HRx.out.mono (by omega), Only.refl _ _⟩
            case rest =>
              obtain ⟨fr, hfr, hfr2, rfl, rfl, HRz, HOxz⟩ := hcut
              obtain ⟨wz, hwz⟩ : ∃ wz, wc = wz := ⟨_, rfl⟩
              subst hwz
              have lxb : xb < wx.heap.size := blk_lt HXx.out
              have HLz : Hid (DrL wc CB xb cl cb) := ⟨by have := hs5.out; omega, fun h => by have := hbk.2 h; have := hs5.out; omega, by have := HOxz.out.size; omega⟩
              have HXz : Hid (wc.heap[xb]? = some (.cells #[.slice none 0 0] 37 (0, 0))) := (HOxz.out.block _ lxb (by have := hs5.out; omega)).trans HXx.out
              have HSz : Hid (wc.heap[tb]? = some (.cells #[.slice pa l pc] 37 (0, 0))) := (HOxz.out.block _ (by omega) (by have := hs5.out; omega)).trans HSx.out
              have HTz : Hid (DrT wc wc CB xb ca cl cc cb co (t + 2 + 100000 * k + 300 * r + 2 + 2 * 0) (.slice none 0 0) 0 (fun _ => zeroV) (fun _ => zeroV)) := ⟨HXz.out, World.ownsRow_nil _ _ _ _, HRz.out.mono (by omega), Only.refl _ _⟩
              have HOz : Hid (Only (fun k => k = gb ∨ k = CB) w5 wc) := (HOr.out.trans (Only.below HBx.out)).trans (HOxz.out.mono (fun _ _ e => Or.inr e))
              have hsz : w5.heap.size ≤ wc.heap.size := HOz.out.size
              have hsz2 : w5.heap.size ≤ tb := by omega
              obtain ⟨hTo, PV, L', K', X', hTt, hTf⟩ := HTr.out
              have HGz : Hid (OutB wc gb u' tv) := (HOxz.out.block _ (by have := hs5.out; omega) (by omega)).trans (blkB hTo HBx.out)
              have HDz : Hid (OTab wc w5.heap.size tv (q0 + r) PV L' K' X') := (hTt.below HBx.out).only HOxz.out (fun k hk e => by have := hs5.out; omega)
              have HFz : Hid (∀ j, j < q0 + r → TurnT n tw (L (j % n)) (K (j % n)) (X (j % n)) (L' j) (K' j) (X' j)) := hTf
              have HDn : Hid (∀ g, tv.ownBlock = some g → g < tb ∧ w5.heap.size ≤ g) := show ∀ g, _ from fun g hg => by obtain ⟨_, _, _, h2⟩ := owns_form hTt.own; have := h2 g hg; omega
              have HDm : Hid (∀ j, j < q0 + r → ∀ g, (PV j).ownBlock = some g → g < tb ∧ w5.heap.size ≤ g) := show ∀ j, _ from fun j hj g hg => by obtain ⟨_, _, _, h2⟩ := owns_form (hTt.rows j hj); have := h2 g hg; omega
              have HBz : Hid (Below wo.heap.size wo wc) := HBo5.out.trans (HOz.out.toBelow (base := wo.heap.size) (fun k e => by have := HBo.out.size; omega) HBo5.out.size)
              have lwo : wo.heap.size ≤ tb := by have := HBr.out.size; omega
              clear hTo hTt hTf HTr HXx HSx HRx HRz HOxz HBx HRr HOr HBr HXz s0 lxb
              go_wp2
              go_loopw [14] (fun ii wq => ∃ (c : Nat) (pv : Value) (ks xs : Nat → V), c ≤ l ∧ ii = .int .i64 c ∧ Hid (DrT wc wq CB xb ca cl cc cb co (t + 2 + 100000 * k + 300 * r + 2 + 2 * c) pv c ks xs) ∧ Hid (∀ d, d < c → ks d = K r ((fr + d) % l) ∧ LedV n tw (X r ((fr + d) % l)) (xs d))) (fun ii _ => l - (intOf ii).toNat)
              case atStart => exact ⟨0, _, fun _ => zeroV, fun _ => zeroV, Nat.zero_le _, rfl, HTz, show ∀ d, _ from fun d hd => absurd hd (Nat.not_lt_zero _)⟩
              case round =>
                obtain ⟨c, pv, ks, xs, hc, rfl, HTc, HFc⟩ := hrel
                clear HTz
                obtain ⟨va, vc, rfl, _⟩ := owns_form HTc.out.row
                have hwcr : wc.heap.size ≤ wr.heap.size := HTc.out.only.size
                have hxl := HLz.out.tab
                by_cases hlc : c < l
                · obtain rfl := HP.out.top (by omega)
                  obtain ⟨q, HQr⟩ : ∃ q, Hid ((fr + c) % l = q) := ⟨_, rfl⟩
                  have hql : q < l := by rw [← HQr.out]; exact Nat.mod_lt _ (by omega)
                  obtain ⟨kq, HKq⟩ : ∃ kq, Hid (K r q = kq) := ⟨_, rfl⟩
                  obtain ⟨xq, HXq⟩ : ∃ xq, Hid (X r q = xq) := ⟨_, rfl⟩
                  have hvx : isV n xq = true := by rw [← HXq.out]; exact HVl.out q hql
                  have HVX : Hid (isV n xq = true) := hvx
                  have HBq : Hid (Below wo.heap.size wo wr) := HBz.out.trans (HTc.out.only.toBelow (base := wo.heap.size) (fun k e => by omega) (by omega))
                  have HSq : Hid (wr.heap[tb]? = some (.cells #[.slice (some ⟨RB r, RO r, none⟩) l pc] 37 (0, 0))) := (HTc.out.only.block tb (by omega) (by have := hs5.out; omega)).trans HSz.out
                  have hadd : IntKind.i64.wrap ((fr : Int) + (c : Int)) = (fr : Int) + (c : Int) := by rw [IntKind.wrap_i64]; omega
                  have htm : ((fr : Int) + (c : Int)).tmod (l : Int) = (q : Int) := by rw [Int.tmod_eq_emod_of_nonneg (by omega), ← HQr.out, Int.natCast_emod]; rfl
                  have hlz : ¬ (l : Int) = 0 := by omega
                  have hlzn : ¬ l = 0 := by omega
                  have il : (0 : Int) ≤ (q : Int) ∧ (q : Int) < (l : Int) := by omega
                  clear hvx
                  go_upto_region 21 with fail
                  refine wp_region_held_drew (S := fun w' => Below wo.heap.size wo w' ∧ w'.heap[tb]? = some (.cells #[.slice (some ⟨RB r, RO r, none⟩) l pc] 37 (0, 0))) (by kernel_rfl) ⟨HBq.out.drew, HSq.out⟩ (fun hHeld => ?_)
                  refine wpT (i := 0) (v := .pointer (some ⟨tb, 0, none⟩)) rfl (fun w hSw => ?_) hHeld ?_
                  · first | rfl | go_simp
                  simp only [Act.put, pz]
                  refine wpT (i := 1) (v := .slice (some ⟨RB r, RO r, none⟩) l pc) rfl (fun w hSw => ?_) hHeld ?_
                  · obtain ⟨s0, _⟩ := one_at hSw.2
                    first | rfl | go_simp
                  simp only [Act.put, pz]
                  refine wpT (i := 2) (v := .int .i64 (fr : Int)) rfl (fun w hSw => ?_) hHeld ?_
                  · first | rfl | go_simp
                  simp only [Act.put, pz]
                  refine wpT (i := 3) (v := .int .i64 (c : Int)) rfl (fun w hSw => ?_) hHeld ?_
                  · first | rfl | go_simp
                  simp only [Act.put, pz]
                  refine wpT (i := 4) (v := .int .i64 ((fr : Int) + (c : Int))) rfl (fun w hSw => ?_) hHeld ?_
                  · go_simp
                  simp only [Act.put, pz]
                  refine wpT (i := 5) (v := .int .i64 (l : Int)) rfl (fun w hSw => ?_) hHeld ?_
                  · first | rfl | go_simp
                  simp only [Act.put, pz]
                  refine wpT (i := 6) (v := .int .i64 (q : Int)) rfl (fun w hSw => ?_) hHeld ?_
                  · go_simp
                  simp only [Act.put, pz]
                  refine wpT (i := 7) (v := .pointer (some ⟨RB r, RO r + q * 8, none⟩)) rfl (fun w hSw => ?_) hHeld ?_
                  · go_simp
                  simp only [Act.put, pz]
                  refine wpT (i := 8) (v := .agg #[.int .i64 kq.k, .int .i64 kq.n, .string kq.s, .int .i64 kq.a, .int .i64 xq.k, .int .i64 xq.n, .string xq.s, .int .i64 xq.a]) rfl (fun w hSw => ?_) hHeld ?_
                  · obtain ⟨⟨k0, k1, k2, k3⟩, ⟨x0, x1, x2, x3⟩⟩ := (HP.out.below hSw.1).cells hql
                    rw [HKq.out] at k0 k1 k2 k3
                    rw [HXq.out] at x0 x1 x2 x3
                    go_simp
                  simp only [Act.put, pz]
                  have hal : Below wo.heap.size wo (wr.alloc (.cells #[.int .i64 0, .int .i64 0, .string ⟨#[]⟩, .int .i64 0, .int .i64 0, .int .i64 0, .string ⟨#[]⟩, .int .i64 0] 39)) ∧ (wr.alloc (.cells #[.int .i64 0, .int .i64 0, .string ⟨#[]⟩, .int .i64 0, .int .i64 0, .int .i64 0, .string ⟨#[]⟩, .int .i64 0] 39)).heap[tb]? = some (.cells #[.slice (some ⟨RB r, RO r, none⟩) l pc] 37 (0, 0)) := ⟨grw HBq.out ((Below.refl _ _).alloc (Nat.le_refl _) _), blkB HSq.out ((Below.refl _ _).alloc (Nat.le_refl _) _)⟩
                  refine wpAnyH_ready (rs := [9]) (by kernel_rfl) (by simp) ?_
                  refine AllReadyH.cons rfl (fun K' hK' => ?_) AllReadyH.nil
                  go_simp
                  refine hK'.out _ _ ⟨hal.1.drew, hal.2⟩ (fun hHeld => ?_)
                  clear hK'
                  try simp only [Act.put, pz]
                  have hal2 : Below wo.heap.size wo (wr.alloc (.cells #[.int .i64 kq.k, .int .i64 kq.n, .string kq.s, .int .i64 kq.a, .int .i64 xq.k, .int .i64 xq.n, .string xq.s, .int .i64 xq.a] 39)) ∧ (wr.alloc (.cells #[.int .i64 kq.k, .int .i64 kq.n, .string kq.s, .int .i64 kq.a, .int .i64 xq.k, .int .i64 xq.n, .string xq.s, .int .i64 xq.a] 39)).heap[tb]? = some (.cells #[.slice (some ⟨RB r, RO r, none⟩) l pc] 37 (0, 0)) := ⟨grw HBq.out ((Below.refl _ _).alloc (Nat.le_refl _) _), blkB HSq.out ((Below.refl _ _).alloc (Nat.le_refl _) _)⟩
                  refine wpAnyH_ready (rs := [10]) (by kernel_rfl) (by simp) ?_
                  refine AllReadyH.cons rfl (fun K' hK' => ?_) AllReadyH.nil
                  go_simp
                  refine hK'.out _ _ ⟨hal2.1.drew, hal2.2⟩ (fun hHeld => ?_)
                  clear hK' hHeld hal hal2
                  obtain ⟨w6, hw6⟩ : ∃ w6, w6 = (wr.alloc (.cells #[.int .i64 kq.k, .int .i64 kq.n, .string kq.s, .int .i64 kq.a, .int .i64 xq.k, .int .i64 xq.n, .string xq.s, .int .i64 xq.a] 39)).drew := ⟨_, rfl⟩
                  have HB6 : Hid (Below wr.heap.size wr w6) := by rw [hw6]; exact ((Below.refl _ _).alloc (Nat.le_refl _) _).drew
                  have HP6 : Hid (w6.heap[wr.heap.size]? = some (.cells #[.int .i64 kq.k, .int .i64 kq.n, .string kq.s, .int .i64 kq.a, .int .i64 xq.k, .int .i64 xq.n, .string xq.s, .int .i64 xq.a] 39 (0, 0))) := by rw [hw6]; exact heap_alloc_new wr _
                  have HT6 : Hid (DrT wc w6 CB xb ca cl cc cb co (t + 2 + 100000 * k + 300 * r + 2 + 2 * c) (.slice va c vc) c ks xs) := HTc.out.below HB6.out
                  have hqn : (Value.slice va c vc).ownBlock ≠ some wr.heap.size := fun e => by obtain ⟨_, _, _, h2⟩ := owns_form HTc.out.row; have := (h2 _ e).2; omega
                  obtain ⟨qb, hqb⟩ : ∃ qb, wr.heap.size = qb := ⟨_, rfl⟩
                  rw [← hw6]
                  rw [hqb] at HP6 hqn hwcr
                  try rw [hqb]
                  clear hw6 HB6 HTc hadd htm hlz hlzn il
                  refine wpAnyH_done (by kernel_rfl) ?_ _
                  have hp := led_any w6 CB ca cl cc cb co (t + 2 + 100000 * k + 300 * r + 2 + 2 * c) xq n tw hn htw htw2 (fun h4 => isV_tab HVX.out h4) HT6.out.rd (by omega)
                  obtain ⟨z0, z1, z2, z3, z4, z5, z6, z7, z8⟩ := cells8 HP6.out
                  go_wp2_with fail
                  refine hp.mono ?_
                  clear hp
                  rintro e w7 ⟨⟨xv, hlx, rfl⟩, hR7, hO7⟩
                  have HLX : Hid (LedV n tw xq xv) := hlx
                  have HT7 : Hid (DrT wc w7 CB xb ca cl cc cb co (t + 2 + 100000 * k + 300 * r + 2 + 2 * c + 2) (.slice va c vc) c ks xs) := HT6.out.next HLz.out hO7 hR7
                  have HP7 : Hid (w7.heap[qb]? = some (.cells #[.int .i64 kq.k, .int .i64 kq.n, .string kq.s, .int .i64 kq.a, .int .i64 xq.k, .int .i64 xq.n, .string xq.s, .int .i64 xq.a] 39 (0, 0))) := (hO7.block _ (blk_lt HP6.out) (by have := HLz.out.cur; omega)).trans HP6.out
                  clear hlx hR7 hO7 HT6 HP6 z0 z1 z2 z3 z4 z5 z6 z7 z8
                  obtain ⟨z0, z1, z2, z3, z4, z5, z6, z7, z8⟩ := cells8 HP7.out
                  obtain ⟨w8, hw8⟩ : ∃ w8, w8 = (((w7.setCell ⟨qb, 4, none⟩ (.int .i64 xv.k)).setCell ⟨qb, 5, none⟩ (.int .i64 xv.n)).setCell ⟨qb, 6, none⟩ (.string xv.s)).setCell ⟨qb, 7, none⟩ (.int .i64 xv.a) := ⟨_, rfl⟩
                  have HP8 : Hid (w8.heap[qb]? = some (.cells #[.int .i64 kq.k, .int .i64 kq.n, .string kq.s, .int .i64 kq.a, .int .i64 xv.k, .int .i64 xv.n, .string xv.s, .int .i64 xv.a] 39 (0, 0))) := by rw [hw8]; exact put4_hi8 HP7.out _ _ _ _
                  have HT8 : Hid (DrT wc w8 CB xb ca cl cc cb co (t + 2 + 100000 * k + 300 * r + 2 + 2 * (c + 1)) (.slice va c vc) c ks xs) := by
                    rw [hw8]
                    exact ((((HT7.out.far HLz.out (p := ⟨qb, 4, none⟩) hwcr hqn _).far HLz.out (p := ⟨qb, 5, none⟩) hwcr hqn _).far HLz.out (p := ⟨qb, 6, none⟩) hwcr hqn _).far HLz.out (p := ⟨qb, 7, none⟩) hwcr hqn _).mono (by omega)
                  go_upto_region 23 with fail
                  rw [← hw8]
                  clear hw8 HT7 HP7 z0 z1 z2 z3 z4 z5 z6 z7 z8
                  obtain ⟨z0, z1, z2, z3, z4, z5, z6, z7, z8⟩ := cells8 HP8.out
                  obtain ⟨y0, y1⟩ := one_at HT8.out.out
                  have lq8 : qb < w8.heap.size := blk_lt HP8.out
                  have lx8 : xb < w8.heap.size := blk_lt HT8.out.out
                  have lc8 : wc.heap.size ≤ w8.heap.size := HT8.out.only.size
                  go_wp2_with (at_builtin; refine wpList_append_lies _ (by rfl) (.tmp 71) (.tmp 73) 35 (by rfl) wc.heap.size 39 ip (.agg #[.int .i64 0, .int .i64 0, .string ⟨#[]⟩, .int .i64 0, .int .i64 0, .int .i64 0, .string ⟨#[]⟩, .int .i64 0]) 8 80 Tryz.underlying35 hpi hp0 hp1 hp2 (by rfl) (by omega) (.slice va c vc) c (pairCells ks xs c) (by rfl) (HT8.out.row.alloc _) ⟨w8.heap.size, 0, none⟩ 1 1 [.int .i64 kq.k, .int .i64 kq.n, .string kq.s, .int .i64 kq.a, .int .i64 xv.k, .int .i64 xv.n, .string xv.s, .int .i64 xv.a] (by rfl) (by rfl) (World.news_of_block (heap_alloc_new w8 _)) (by intro v hv; simp at hv; rcases hv with rfl | rfl | rfl | rfl | rfl | rfl | rfl | rfl <;> rfl) (by omega) (by unfold maxLen; omega) (by omega) (by simp; omega) (w8.heap.size + 1) (by simp) ?_)
                  intro g cap w9 hown9 hgrow9 hat9 hlt9
                  obtain ⟨⟨e0, e1⟩, hT9⟩ := HT8.out.more HLz.out (kk := kq) (xx := xv) hgrow9 hown9
                  have HT9 : Hid (DrT wc (w9.setCell ⟨xb, 0, none⟩ (.slice (some ⟨g, 0, none⟩) (c + 1) cap)) CB xb ca cl cc cb co (t + 2 + 100000 * k + 300 * r + 2 + 2 * (c + 1)) (.slice (some ⟨g, 0, none⟩) (c + 1) cap) (c + 1) (fun d => if d = c then kq else ks d) (fun d => if d = c then xv else xs d)) := hT9
                  have HF9 : Hid (∀ d, d < c + 1 → (fun d => if d = c then kq else ks d) d = K r ((fr + d) % l) ∧ LedV n tw (X r ((fr + d) % l)) ((fun d => if d = c then xv else xs d) d)) := show ∀ d, _ from fun d hd => by
                    by_cases e : d = c
                    · subst e
                      simp only [if_true]
                      rw [HQr.out, HKq.out, HXq.out]
                      exact ⟨rfl, HLX.out⟩
                    · simp only [e, if_false]
                      exact HFc.out d (by omega)
                  clear hT9 hown9 hgrow9 hat9 hlt9 z0 z1 z2 z3 z4 z5 z6 z7 z8 y0 y1
                  go_wp2
                  go_roundw
                  case rel => exact ⟨c + 1, _, _, _, by omega, by go_num, HT9, HF9⟩
                  case measure => simp [intOf]; omega
                · obtain rfl : c = l := by omega
                  obtain ⟨oa, oc, rfl, _⟩ := owns_form HDz.out.own
                  have HGk : Hid (OutB wr gb u' (.slice oa (q0 + r) oc)) := (HTc.out.only.block _ (by have := blk_lt HGz.out; omega) (by have := hs5.out; omega)).trans HGz.out
                  have HDk : Hid (OTab wr w5.heap.size (.slice oa (q0 + r) oc) (q0 + r) PV L' K' X') := HDz.out.onlyB HTc.out.only (fun g hg e => by have := HDn.out g hg; have := hs5.out; omega) (fun j hj g hg e => by have := HDm.out j hj g hg; have := hs5.out; omega)
                  have HRk : Hid (wr.ownsRow w5.heap.size 39 8 (.slice va c vc) c (pairCells ks xs c)) := owns_mono HTc.out.row hsz
                  have HOk : Hid (Only (fun k => k = gb ∨ k = CB) w5 wr) := HOz.out.then HTc.out.only (fun j hj e => by omega)
                  have HRd : Hid (Rd wr CB ca cl cc cb co (t + 2 + 100000 * k + 300 * r + 2 + 2 * c)) := HTc.out.rd
                  have hd : ∀ j, j < q0 + r → ∀ g, (PV j).ownBlock = some g → (Value.slice va c vc).ownBlock ≠ some g := fun j hj g hg e => by
                    obtain ⟨_, _, _, h2⟩ := owns_form HTc.out.row
                    have := (h2 g e).1
                    have := HDm.out j hj g hg
                    omega
                  have Hd : Hid (∀ j, j < q0 + r → ∀ g, (PV j).ownBlock = some g → (Value.slice va c vc).ownBlock ≠ some g) := hd
                  have HTT : Hid (TurnT n tw (L r) (K r) (X r) c ks xs) := ⟨hl.symm, fr, by rw [hl]; exact hfr, by rw [hl]; exact HFc.out⟩
                  have HMr : Hid ((q0 + r) % n = r) := by
                    show (q0 + r) % n = r
                    rw [← HQ.out, Nat.mul_add_mod]
                    exact Nat.mod_eq_of_lt hlt
                  clear hd
                  obtain ⟨y0, y1⟩ := one_at HTc.out.out
                  obtain ⟨g0, g1, g2, g3, g4, gz⟩ := cells5 HGk.out
                  have lgr : gb < wr.heap.size := blk_lt HGk.out
                  have lxr : xb < wr.heap.size := blk_lt HTc.out.out
                  have hw5r : w5.heap.size ≤ wr.heap.size := by omega
                  have hq2 : q0 + r ≤ 200 := by omega
                  go_wp2_with (at_builtin; refine wpList_append_lies _ (by rfl) (.tmp 77) (.tmp 79) 25 (by rfl) w5.heap.size 37 it (.agg #[.slice none 0 0]) 1 24 Tryz.underlying25 hti ht0 ht1 ht2 (by rfl) (by omega) (.slice oa (q0 + r) oc) (q0 + r) ((List.range (q0 + r)).map PV) (by rfl) (HDk.out.own.alloc _) ⟨wr.heap.size, 0, none⟩ 1 1 [.slice va c vc] (by rfl) (by rfl) (World.news_of_block (heap_alloc_new wr _)) (by intro v hv; simp at hv; subst hv; rfl) (by omega) (by unfold maxLen; omega) (by omega) (by simp; omega) (wr.heap.size + 1) (by simp) ?_)
                  intro g cap w7 hown7 hgrow7 hat7 hlt7
                  obtain ⟨hT7, hB7⟩ := HDk.out.more HRk.out Hd.out _ hw5r hown7 hgrow7
                  have HT7 : Hid (OTab w7 w5.heap.size (.slice (some ⟨g, 0, none⟩) (q0 + r + 1) cap) (q0 + r + 1) (fun j => if j = q0 + r then .slice va c vc else PV j) (fun j => if j = q0 + r then c else L' j) (fun j => if j = q0 + r then ks else K' j) (fun j => if j = q0 + r then xs else X' j)) := hT7
                  have HF7 : Hid (∀ j, j < q0 + r + 1 → TurnT n tw (L (j % n)) (K (j % n)) (X (j % n)) ((fun j => if j = q0 + r then c else L' j) j) ((fun j => if j = q0 + r then ks else K' j) j) ((fun j => if j = q0 + r then xs else X' j) j)) := show ∀ j, _ from fun j hj => by
                    by_cases e : j = q0 + r
                    · subst e
                      simp only [if_true]
                      rw [HMr.out]
                      exact HTT.out
                    · simp only [e, if_false]
                      exact HFz.out j (by omega)
                  have HG7 : Hid (OutB w7 gb u' (.slice oa (q0 + r) oc)) := (hB7.block _ hs5.out).trans HGk.out
                  have HO7 : Hid (Only (fun k => k = gb ∨ k = CB) w5 w7) := HOk.out.thenBelow hB7 (Nat.le_refl _)
                  have HR7 : Hid (Rd w7 CB ca cl cc cb co (t + 2 + 100000 * k + 300 * r + 2 + 2 * c)) := HRd.out.keep hB7 (by have := hs5.out; omega) (fun h => by have := hbk.2 h; have := hs5.out; omega)
                  clear hT7 hB7 hown7 hgrow7 hat7 hlt7 y0 y1 g0 g1 g2 g3 g4 gz Hd HRd HOk HRk HDk HGk
                  obtain ⟨g0, g1, g2, g3, g4, gz⟩ := cells5 HG7.out
                  go_wp2
                  go_roundw
                  case rel => exact ⟨r + 1, _, by omega, by go_num, ⟨put5hi HG7.out _, _, _, _, _, HT7.out.only ((Only.refl (fun k => k = gb) w7).set (p := ⟨gb, 4, none⟩) rfl _) (fun k hk e => by have := hs5.out; omega), HF7.out⟩, (HR7.out.keep ((Below.refl gb w7).setCell (p := ⟨gb, 4, none⟩) (Nat.le_refl _) _) (by omega) (fun h => by have := hbk.2 h; omega)).mono (by omega), HO7.out.set (p := ⟨gb, 4, none⟩) (Or.inl rfl) _⟩
                  case measure => simp [intOf]; omega
          · have e : r = n := by omega
            have HTe : Hid (TuG wr gb u' w5.heap.size n tw L K X tv (n * (k + 1))) := by
              have h1 := HTr.out
              rw [e, ← HQ.out] at h1
              show TuG wr gb u' w5.heap.size n tw L K X tv (n * (k + 1))
              rw [Nat.mul_add, Nat.mul_one]
              exact h1
            have HRe : Hid (Rd wr CB ca cl cc cb co (t + 2 + 100000 * (k + 1))) := HRr.out.mono (by omega)
            clear e HTr HRr
            go_wp2
            go_roundw
            case rel => exact ⟨k + 1, tv, by omega, by go_num, HTe, HRe, HOr⟩
            case measure => simp [intOf]; omega
      · have e : k = tw := by omega
        rw [e] at HTk
        obtain ⟨N, HN⟩ : ∃ N, Hid (n * tw = N) := ⟨_, rfl⟩
        rw [HN.out] at HTk
        obtain ⟨hTo, PV, L', K', X', hTt, hTf⟩ := HTk.out
        obtain ⟨oa, oc, rfl, _⟩ := owns_form hTt.own
        have HGk : Hid (OutB wr gb u' (.slice oa N oc)) := hTo
        have HDk : Hid (OTab wr w5.heap.size (.slice oa N oc) N PV L' K' X') := hTt
        have HFk : Hid (∀ j, j < N → TurnT n tw (L (j % n)) (K (j % n)) (X (j % n)) (L' j) (K' j) (X' j)) := hTf
        have HZk : Hid (OutB wr rb zeroV (.slice none 0 0)) := (HOk.out.block _ (blk_lt HZ5.out) (by omega)).trans HZ5.out
        clear hTo hTt hTf HTk e
        obtain ⟨k0, k1, k2, k3, k4, kz⟩ := cells5 HGk.out
        obtain ⟨r0, r1, r2, r3, r4, r5⟩ := cells5 HZk.out
        simp only [zeroV] at r0 r1 r2 r3
        go_wp2
        have F := put5hi (put5lo HZk.out (.int .i64 u'.k) (.int .i64 u'.n) (.string u'.s) (.int .i64 u'.a)) (.slice oa N oc)
        obtain ⟨wf, hwf⟩ : ∃ wf, wf = ((((wr.setCell ⟨rb, 0, none⟩ (.int .i64 u'.k)).setCell ⟨rb, 1, none⟩ (.int .i64 u'.n)).setCell ⟨rb, 2, none⟩ (.string u'.s)).setCell ⟨rb, 3, none⟩ (.int .i64 u'.a)).setCell ⟨rb, 4, none⟩ (.slice oa N oc) := ⟨_, rfl⟩
        have ho : Only (fun k => k = rb) wr wf := by rw [hwf]; exact set4_only.set (p := ⟨rb, 4, none⟩) rfl _
        rw [← hwf] at F ⊢
        clear hwf
        obtain ⟨q0, q1, q2, q3, q4, _⟩ := cells5 F
        refine bodyPost_ret (v := .agg #[.int .i64 u'.k, .int .i64 u'.n, .string u'.s, .int .i64 u'.a, .slice oa N oc]) (by simp [results, Tryz.results34, go_sem, q0, q1, q2, q3, q4]) rfl ⟨⟨tw, u', _, PV, L', K', X', w5.heap.size, htw, HNT.out, by have := hs5.out; omega, rfl, HLU.out, by rw [HN.out]; exact HDk.out.only ho (fun k hk e => by have := hs5.out; omega), by rw [HN.out]; exact HFk.out⟩, ?_⟩
        exact (HOw5.out.then HOk.out (fun j hj e => by omega)).then ho (fun j hj e => by omega)

end Go.Proofs.YtgflalfiopnmnaaGreatDoor

namespace Go.Proofs.YtgflalfiopnmnaaGreatDoor
open Go.RowKit Vl

def fineV (v : V) : Prop := v.s.size ≤ 500 ∧ -9223372036854775808 ≤ v.n ∧ v.n ≤ 9223372036854775807
structure FineG (n : Nat) (u : V) (L : Nat → Nat) (K X : Nat → Nat → V) : Prop where
  root : fineV u
  all : ∀ r, r < n → L r ≤ 200 ∧ ∀ c, c < L r → fineV (K r c) ∧ fineV (X r c)
theorem FineG.small {n : Nat} {u : V} {L : Nat → Nat} {K X : Nat → Nat → V} (h : FineG n u L K X) : Small 1048576 n L K X := fun r hr => ⟨by have := (h.all r hr).1; omega, fun c hc => by
  have h2 := (h.all r hr).2 c hc
  have h3 := h2.1.1
  have h4 := h2.2.1
  exact ⟨by omega, by omega⟩⟩

theorem DrG.ok {w' : World} {base n : Nat} {tv : Value} {PV : Nat → Value} {L : Nat → Nat} {K X : Nat → Nat → V} {u : V} (h : DrG w' base tv n PV L K X n) (hu : valP n u) (hn : n ≤ 200) : OkG n u L K X ∧ FineG n u L K X := by
  refine ⟨⟨hn, hu.2.1, fun r hr => ⟨(h.all r hr).1, fun c hc => ?_⟩⟩, ⟨⟨hu.1, hu.2.2.2⟩, fun r hr => ⟨by have := (h.all r hr).1; omega, fun c hc => ?_⟩⟩⟩
  · have hp := (h.all r hr).2
    exact ⟨(hp.key c hc).2.1, (hp.val c hc).2.1, (hp.val c hc).2.2.1, hp.once c hc⟩
  · have hp := (h.all r hr).2
    exact ⟨⟨(hp.key c hc).1, (hp.key c hc).2.2⟩, ⟨(hp.val c hc).1, (hp.val c hc).2.2.2⟩⟩

theorem rd_start {w wa : World} {ca : Option Addr} {cl cc cb co CB : Nat} (hB : ByteR w ca cl cb co) (hcl : cl ≤ 1048576) (hb : Below w.heap.size w wa) (hc : wa.heap[CB]? = some (.cells #[.slice ca cl cc, .int .i64 0, .int .u64 0] 51 (0, 0))) (hCB : w.heap.size ≤ CB) : Rd wa CB ca cl cc cb co 0 := by
  refine ⟨⟨0, 0, Nat.le_refl _, hc⟩, fun i hi => ?_, fun h e => ?_, hcl⟩
  · obtain ⟨e, x, hx, hcell⟩ := hB i hi
    exact ⟨e, x, hx, (hb.cell (p := ⟨cb, co + i, none⟩) (World.block_lt_of_cell? _ _ hcell)).trans hcell⟩
  · obtain ⟨_, x, _, hcell⟩ := hB 0 h
    have := World.block_lt_of_cell? _ _ hcell
    simp at this
    omega

set_option maxHeartbeats 1000000 in
set_option maxRecDepth 100000 in
theorem drawn_any (ca : Option Addr) (cl cc cb co : Nat) (w : World) (hB : ByteR w ca cl cb co) (hcl : cl ≤ 1048576) :
    Calls Tryz.prog 6 #[.slice ca cl cc] w fun e w' => (∃ (n : Nat) (u : V) (tv : Value) (PV : Nat → Value) (L : Nat → Nat) (K X : Nat → Nat → V) (base : Nat), w.heap.size ≤ base ∧ e = .returned (.agg #[.int .i64 u.k, .int .i64 u.n, .string u.s, .int .i64 u.a, tv]) ∧ OkG n u L K X ∧ FineG n u L K X ∧ OTab w' base tv n PV L K X) ∧ Below w.heap.size w w' := by
  have A2 := alloc2 w (.cells #[.int .i64 0, .int .i64 0, .string ⟨#[]⟩, .int .i64 0, .slice none 0 0] 27) (.cells #[.slice ca cl cc, .int .i64 0, .int .u64 0] 51)
  obtain ⟨wa, hwa⟩ : ∃ wa, wa = (w.alloc (.cells #[.int .i64 0, .int .i64 0, .string ⟨#[]⟩, .int .i64 0, .slice none 0 0] 27)).alloc (.cells #[.slice ca cl cc, .int .i64 0, .int .u64 0] 51) := ⟨_, rfl⟩
  rw [← hwa] at A2
  have HZa : Hid (OutB wa w.heap.size zeroV (.slice none 0 0)) := A2.1
  have hsa : Hid (wa.heap.size = w.heap.size + 2) := A2.2.2.1
  have HBa : Hid (Below w.heap.size w wa) := A2.2.2.2
  have hg := graph_any wa (w.heap.size + 1) ca cl cc cb co 0 (rd_start hB hcl A2.2.2.2 A2.2.1 (by omega)) (by omega)
  clear A2 hB
  go_enter Tryz.func6, Tryz.ntmps6
  go_wp2_with fail
  rw [← hwa]
  clear hwa
  refine hg.mono ?_
  clear hg
  rintro e w1 ⟨⟨n, u, tv, PV, L, K, X, base, hn, hb, rfl, hu, hD⟩, hO⟩
  have hbase : w.heap.size + 2 < base := by have := hsa.out; omega
  have HZ1 : Hid (OutB w1 w.heap.size zeroV (.slice none 0 0)) := (hO.block _ (blk_lt HZa.out) (by omega)).trans HZa.out
  obtain ⟨hok, hfi⟩ := hD.ok hu hn
  have HK : Hid (OkG n u L K X) := hok
  have HF : Hid (FineG n u L K X) := hfi
  have HD : Hid (OTab w1 base tv n PV L K X) := hD.tab
  have HB1 : Hid (Below w.heap.size w w1) := HBa.out.trans (hO.toBelow (fun k e => by omega) (by have := hsa.out; omega))
  have hs1 : w.heap.size ≤ w1.heap.size := HB1.out.size
  obtain ⟨oa, oc, rfl, _⟩ := owns_form HD.out.own
  clear hok hfi hD hO hu
  obtain ⟨r0, r1, r2, r3, r4, r5⟩ := cells5 HZ1.out
  simp only [zeroV] at r0 r1 r2 r3
  go_wp2
  have F := put5hi (put5lo HZ1.out (.int .i64 u.k) (.int .i64 u.n) (.string u.s) (.int .i64 u.a)) (.slice oa n oc)
  obtain ⟨wf, hwf⟩ : ∃ wf, wf = ((((w1.setCell ⟨w.heap.size, 0, none⟩ (.int .i64 u.k)).setCell ⟨w.heap.size, 1, none⟩ (.int .i64 u.n)).setCell ⟨w.heap.size, 2, none⟩ (.string u.s)).setCell ⟨w.heap.size, 3, none⟩ (.int .i64 u.a)).setCell ⟨w.heap.size, 4, none⟩ (.slice oa n oc) := ⟨_, rfl⟩
  have ho : Only (fun k => k = w.heap.size) w1 wf := by rw [hwf]; exact set4_only.set (p := ⟨w.heap.size, 4, none⟩) rfl _
  rw [← hwf] at F ⊢
  clear hwf
  obtain ⟨q0, q1, q2, q3, q4, _⟩ := cells5 F
  refine bodyPost_ret (v := .agg #[.int .i64 u.k, .int .i64 u.n, .string u.s, .int .i64 u.a, .slice oa n oc]) (by simp [results, Tryz.results6, go_sem, q0, q1, q2, q3, q4]) rfl ⟨⟨n, u, _, PV, L, K, X, base, by omega, rfl, HK.out, HF.out, HD.out.only ho (fun k hk e => by omega)⟩, ?_⟩
  exact HB1.out.trans (ho.toBelow (fun k e => by omega) hs1)

theorem FineG.led {n tw : Nat} {u u' : V} {L L' : Nat → Nat} {K X K' X' : Nat → Nat → V} (h : FineG n u L K X) (ht : TurnedG ⟨n, u, L, K, X⟩ ⟨n * tw, u', L', K', X'⟩ tw) : FineG (n * tw) u' L' K' X' := by
  have up : ∀ {x y : V}, fineV x → LedV n tw x y → fineV y := fun {x y} hx hl => by
    obtain ⟨e1, e2⟩ := hl.size
    exact ⟨by rw [e1]; exact hx.1, by rw [e2]; exact hx.2.1, by rw [e2]; exact hx.2.2⟩
  refine ⟨up h.root ht.root, fun j hj => ?_⟩
  have h0 : 0 < n := by
    rcases Nat.eq_zero_or_pos n with e | e
    · rw [e, Nat.zero_mul] at hj; omega
    · exact e
  have hr : j % n < n := Nat.mod_lt _ h0
  obtain ⟨e, fr, hf, hc⟩ := ht.all j hj
  have e : L' j = L (j % n) := e
  have hc : ∀ c, c < L (j % n) → K' j c = K (j % n) ((fr + c) % L (j % n)) ∧ LedV n tw (X (j % n) ((fr + c) % L (j % n))) (X' j c) := hc
  refine ⟨by rw [e]; exact (h.all _ hr).1, fun c hcl => ?_⟩
  rw [e] at hcl
  obtain ⟨e1, e2⟩ := hc c hcl
  have hm : (fr + c) % L (j % n) < L (j % n) := Nat.mod_lt _ (by omega)
  obtain ⟨f1, f2⟩ := (h.all _ hr).2 _ hm
  exact ⟨by rw [e1]; exact f1, up f2 e2⟩

set_option maxHeartbeats 1000000 in
set_option maxRecDepth 100000 in
theorem turnedW_any (u : V) (ta : Option Addr) (n cp TB TO : Nat) (A : Nat → Option Addr) (L C RB RO : Nat → Nat) (K X : Nat → Nat → V) (ca : Option Addr) (cl cc cb co : Nat) (w : World) (HK : Hid (OkG n u L K X)) (HF : Hid (FineG n u L K X)) (HT : Hid (TabsAt w ta n TB TO A L C RB RO K X)) (hB : ByteR w ca cl cb co) (hcl : cl ≤ 1048576) :
    Calls Tryz.prog 13 #[.agg #[.int .i64 u.k, .int .i64 u.n, .string u.s, .int .i64 u.a, .slice ta n cp], .slice ca cl cc] w fun e w' => (∃ (tw : Nat) (u' : V) (tv : Value) (PV : Nat → Value) (L' : Nat → Nat) (K' X' : Nat → Nat → V) (base : Nat), w.heap.size ≤ base ∧ e = .returned (.agg #[.int .i64 u'.k, .int .i64 u'.n, .string u'.s, .int .i64 u'.a, tv]) ∧ TurnedG ⟨n, u, L, K, X⟩ ⟨n * tw, u', L', K', X'⟩ tw ∧ FineG (n * tw) u' L' K' X' ∧ OTab w' base tv (n * tw) PV L' K' X') ∧ Below w.heap.size w w' := by
  have A3 := alloc3 w (.cells #[.int .i64 u.k, .int .i64 u.n, .string u.s, .int .i64 u.a, .slice ta n cp] 27) (.cells #[.int .i64 0, .int .i64 0, .string ⟨#[]⟩, .int .i64 0, .slice none 0 0] 27) (.cells #[.slice ca cl cc, .int .i64 0, .int .u64 0] 51)
  obtain ⟨wa, hwa⟩ : ∃ wa, wa = ((w.alloc (.cells #[.int .i64 u.k, .int .i64 u.n, .string u.s, .int .i64 u.a, .slice ta n cp] 27)).alloc (.cells #[.int .i64 0, .int .i64 0, .string ⟨#[]⟩, .int .i64 0, .slice none 0 0] 27)).alloc (.cells #[.slice ca cl cc, .int .i64 0, .int .u64 0] 51) := ⟨_, rfl⟩
  rw [← hwa] at A3
  have HGa : Hid (OutB wa w.heap.size u (.slice ta n cp)) := A3.1
  have HZa : Hid (OutB wa (w.heap.size + 1) zeroV (.slice none 0 0)) := A3.2.1
  have hsa : Hid (wa.heap.size = w.heap.size + 3) := A3.2.2.2.1
  have HBa : Hid (Below w.heap.size w wa) := A3.2.2.2.2
  obtain ⟨gb, hgb⟩ : ∃ gb, w.heap.size = gb := ⟨_, rfl⟩
  obtain ⟨rb, hrb⟩ : ∃ rb, gb + 1 = rb := ⟨_, rfl⟩
  obtain ⟨CB, hCB⟩ : ∃ CB, w.heap.size + 2 = CB := ⟨_, rfl⟩
  have hg := turned_any w wa CB ca cl cc cb co 0 u ta n cp TB TO A L C RB RO K X HBa (by omega) HK.out HT (rd_start hB hcl A3.2.2.2.2 (by rw [← hCB]; exact A3.2.2.1) (by omega)) (by omega)
  clear A3 hB
  go_enter Tryz.func13, Tryz.ntmps13
  go_upto_region 2 with fail
  rw [← hwa]
  rw [hgb] at HGa HZa
  rw [hrb] at HZa
  try rw [hCB]
  try rw [hgb]
  try rw [hrb]
  try rw [show gb + 1 + 1 = CB by omega]
  try rw [show rb + 1 = CB by omega]
  try rw [show gb + 2 = CB by omega]
  clear hwa
  obtain ⟨g0, g1, g2, g3, g4, _⟩ := cells5 HGa.out
  go_wp2_with fail
  refine hg.mono ?_
  clear hg
  rintro e w1 ⟨⟨tw, u', tv, PV, L', K', X', base, htw, hnt, hb, rfl, hlu, hD, hF⟩, hO⟩
  have hbase : w.heap.size + 3 < base := by have := hsa.out; omega
  have HZ1 : Hid (OutB w1 rb zeroV (.slice none 0 0)) := (hO.block _ (blk_lt HZa.out) (by omega)).trans HZa.out
  obtain ⟨N, HN⟩ : ∃ N, Hid (n * tw = N) := ⟨_, rfl⟩
  have HTG : Hid (TurnedG ⟨n, u, L, K, X⟩ ⟨n * tw, u', L', K', X'⟩ tw) := ⟨htw, hnt, rfl, hlu, hF⟩
  have HFi : Hid (FineG (n * tw) u' L' K' X') := HF.out.led HTG.out
  rw [HN.out] at hD
  have HD : Hid (OTab w1 base tv N PV L' K' X') := hD
  have HB1 : Hid (Below w.heap.size w w1) := HBa.out.trans (hO.toBelow (fun k e => by omega) (by have := hsa.out; omega))
  have hs1 : w.heap.size ≤ w1.heap.size := HB1.out.size
  obtain ⟨oa, oc, rfl, _⟩ := owns_form HD.out.own
  clear hD hO hlu hF hnt g0 g1 g2 g3 g4
  obtain ⟨r0, r1, r2, r3, r4, r5⟩ := cells5 HZ1.out
  simp only [zeroV] at r0 r1 r2 r3
  go_wp2
  have F := put5hi (put5lo HZ1.out (.int .i64 u'.k) (.int .i64 u'.n) (.string u'.s) (.int .i64 u'.a)) (.slice oa N oc)
  obtain ⟨wf, hwf⟩ : ∃ wf, wf = ((((w1.setCell ⟨rb, 0, none⟩ (.int .i64 u'.k)).setCell ⟨rb, 1, none⟩ (.int .i64 u'.n)).setCell ⟨rb, 2, none⟩ (.string u'.s)).setCell ⟨rb, 3, none⟩ (.int .i64 u'.a)).setCell ⟨rb, 4, none⟩ (.slice oa N oc) := ⟨_, rfl⟩
  have ho : Only (fun k => k = rb) w1 wf := by rw [hwf]; exact set4_only.set (p := ⟨rb, 4, none⟩) rfl _
  rw [← hwf] at F ⊢
  clear hwf
  obtain ⟨q0, q1, q2, q3, q4, _⟩ := cells5 F
  refine bodyPost_ret (v := .agg #[.int .i64 u'.k, .int .i64 u'.n, .string u'.s, .int .i64 u'.a, .slice oa N oc]) (by simp [results, Tryz.results13, go_sem, q0, q1, q2, q3, q4]) rfl ⟨⟨tw, u', _, PV, L', K', X', base, by omega, rfl, HTG.out, HFi.out, by rw [HN.out]; exact HD.out.only ho (fun k hk e => by omega)⟩, ?_⟩
  exact HB1.out.trans (ho.toBelow (fun k e => by omega) hs1)

end Go.Proofs.YtgflalfiopnmnaaGreatDoor

namespace Go.Proofs.YtgflalfiopnmnaaGreatDoor
open Go.RowKit Vl

theorem below_drewN {b : Nat} {w w' : World} (h : Below b w w') (m : Nat) : Below b w (w'.drewN m) := ⟨h.os, h.tape, h.output, h.size, h.block⟩

end Go.Proofs.YtgflalfiopnmnaaGreatDoor

namespace Go.Proofs.YtgflalfiopnmnaaGreatDoor
open Go.RowKit Vl

theorem fine_renum {S : List Nat} {f : Nat → Nat} {v : V} (h : fineV v) : fineV (renum S (fstV f v)) := by
  have h1 : fineV (fstV f v) := by
    unfold fstV
    split
    · exact h
    · exact h
  unfold renum
  split
  · exact h1
  · exact h1

theorem shrunk_of {w w' : World} {e : Ending} {n : Nat} {u : V} {L : Nat → Nat} {K X : Nat → Nat → V} (hok : OkG n u L K X) (hf : FineG n u L K X) (h : ShrIs w w' e n u L K X) :
    ∃ (s : Gr) (tv : Value) (PV : Nat → Value) (base : Nat), w.heap.size ≤ base ∧ e = .returned (.agg #[.int .i64 s.u.k, .int .i64 s.u.n, .string s.u.s, .int .i64 s.u.a, tv]) ∧ OTab w' base tv s.n PV s.L s.K s.X ∧ SameG ⟨n, u, L, K, X⟩ s ∧ Shk s ∧ FineG s.n s.u s.L s.K s.X := by
  rcases h with ⟨_, f, ls, ⟨hs, hi⟩, hc⟩ | ⟨hno, _⟩
  · have hok2 := okG_shr hok hs hi.low
    rcases hc with ⟨_, tv, PV, base, hb, rfl, hO⟩ | ⟨hno', _⟩
    · obtain ⟨h1, h2⟩ := shr_all (g := ⟨n, u, L, K, X⟩) hok hs hi
      refine ⟨shr ⟨n, u, L, K, X⟩ f ls, tv, PV, base, hb, rfl, hO, h1, h2, ⟨fine_renum hf.root, fun r hr => ?_⟩⟩
      have hr' : (order n (fstV f u) L (fX X ls f)).getD r 0 < n := (order_all hok2).1.lt _ (ord_mem hr)
      refine ⟨(hf.all _ hr').1, fun c hc => ?_⟩
      have hcl := (hs _ hr').lt hc
      exact ⟨((hf.all _ hr').2 _ hcl).1, fine_renum ((hf.all _ hr').2 _ hcl).2⟩
    · exact absurd hok2 hno'
  · exact absurd hok hno

theorem same_true {e : Ending} {n : Nat} {u : V} {L : Nat → Nat} {K X : Nat → Nat → V} {s : Gr} (hok : OkG n u L K X) (hs : s.Ok) (hg : SameG ⟨n, u, L, K, X⟩ s) (h : SameRes e n s.n u s.u L s.L K X s.K s.X) : e = .returned (.bool true) := by
  rcases h with ⟨_, f, hf, rfl⟩ | ⟨hno, _⟩
  · rw [alike_of_same (g := ⟨n, u, L, K, X⟩) (h := s) hok hs hf hg]
  · exact absurd ⟨hok, hs⟩ hno

theorem ByteR.belowH {w w' : World} {ca : Option Addr} {cl cb co : Nat} (h : ByteR w ca cl cb co) (hb : Below w.heap.size w w') : ByteR w' ca cl cb co := fun i hi => by
  obtain ⟨e, x, hx, hc⟩ := h i hi
  exact ⟨e, x, hx, (hb.cell (World.block_lt_of_cell? _ _ hc)).trans hc⟩

end Go.Proofs.YtgflalfiopnmnaaGreatDoor

namespace Go.Proofs.YtgflalfiopnmnaaGreatDoor
open Go.RowKit Vl

theorem types_apart {w : World} {base base' n m tg : Nat} {v v' : Value} {xs ys : List Value} (h : w.ownsRow base 37 1 v n xs) (h' : w.ownsRow base' 39 8 v' m ys) (e : v.ownBlock = some tg) : v'.ownBlock ≠ some tg := fun e' => by
  obtain ⟨_, c, hc⟩ := owns_type h e
  obtain ⟨_, c', hc'⟩ := owns_type h' e'
  rw [hc] at hc'
  cases hc'

theorem OTab.swap {w w1 : World} {base tg tc : Nat} {pv : Value} {n r : Nat} {PV : Nat → Value} {L : Nat → Nat} {K X : Nat → Nat → V} (h : OTab w base (.slice (some ⟨tg, 0, none⟩) n tc) n PV L K X) (hr : r < n) {l : Nat} {k x : Nat → V}
    (hp : w1.ownsRow base 39 8 pv l (pairCells k x l)) (hg : w.grownBy w1 (PV r).ownBlock) (hnew : ∀ g, pv.ownBlock = some g → (PV r).ownBlock = some g ∨ w.heap.size ≤ g) :
    OTab (w1.setCell ⟨tg, r, none⟩ pv) base (.slice (some ⟨tg, 0, none⟩) n tc) n (fun j => if j = r then pv else PV j) (fun j => if j = r then l else L j) (fun j => if j = r then k else K j) (fun j => if j = r then x else X j) := by
  have own1 : w1.ownsRow base 37 1 (.slice (some ⟨tg, 0, none⟩) n tc) n ((List.range n).map PV) := h.own.kept hg (Or.inr (fun e => types_apart h.own (h.rows r hr) (tg := tg) rfl e.symm))
  have hlt : ∀ j, j < n → ∀ g, (PV j).ownBlock = some g → g < w.heap.size := fun j hj g e => by
    obtain ⟨_, _, _, h2⟩ := owns_form (h.rows j hj)
    exact (h2 g e).2
  have hdis : ∀ a b, a < n → b < n → a ≠ b → ∀ g, (PV a).ownBlock = some g → (PV b).ownBlock ≠ some g := fun a b ha hb hne g e e' => by
    rcases Nat.lt_or_gt_of_ne hne with hl | hl
    · exact h.dis a b hl hb g e e'
    · exact h.dis b a hl ha g e' e
  refine ⟨?_, fun j hj => ?_, fun a b hab hb g hga => ?_⟩
  · have h2 := owns_set own1 r pv
    have e : ((List.range n).map PV).set r pv = (List.range n).map (fun j => if j = r then pv else PV j) := by
      refine List.ext_getElem? fun i => ?_
      rw [List.getElem?_set]
      by_cases hir : r = i
      · subst hir
        simp [hr]
      · by_cases hi : i < n
        · simp [hir, hi, Ne.symm hir]
        · simp [hir, hi]
    rw [e] at h2
    exact h2
  · by_cases e : j = r
    · subst e
      simp only [if_true]
      exact ownsRow_setCell_other (a := ⟨tg, j, none⟩) hp (types_apart own1 hp rfl) _
    · simp only [e, if_false]
      have hk : w1.ownsRow base 39 8 (PV j) (L j) (pairCells (K j) (X j) (L j)) := (h.rows j hj).kept hg (by
        cases hb : (PV j).ownBlock with
        | none => exact Or.inl rfl
        | some g => exact Or.inr (fun e2 => hdis j r hj hr e g hb e2.symm))
      exact ownsRow_setCell_other (a := ⟨tg, r, none⟩) hk (types_apart own1 hk rfl) _
  · by_cases ea : a = r
    · subst ea
      simp only [if_true] at hga
      simp only [show ¬ b = a by omega, if_false]
      rcases hnew g hga with h2 | h2
      · exact hdis a b hr hb (by omega) g h2
      · intro e2
        have := hlt b hb g e2
        omega
    · simp only [ea, if_false] at hga
      by_cases eb : b = r
      · subst eb
        simp only [if_true]
        intro e2
        rcases hnew g e2 with h2 | h2
        · exact hdis a b (by omega) hr ea g hga h2
        · have := hlt a (by omega) g hga
          omega
      · simp only [eb, if_false]
        exact h.dis a b hab hb g hga

end Go.Proofs.YtgflalfiopnmnaaGreatDoor
