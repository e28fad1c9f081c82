import Derived.Test.YtgflalfiopnmnaaGreatDoorM4
import Derived.Test.YtgflalfiopnmnaaGreatDoorM3
namespace Go.Proofs.YtgflalfiopnmnaaGreatDoor
open Go.RowKit Vl

structure DrG (w' : World) (base : Nat) (tv : Value) (n : Nat) (PV : Nat → Value) (L : Nat → Nat) (K X : Nat → Nat → V) (i : Nat) : Prop where
  tab : OTab w' base tv i PV L K X
  all : ∀ j, j < i → L j ≤ 100 ∧ DrP n (L j) (K j) (X j)

theorem put4_in8 {w : World} {B : Nat} {a b c d e f g i : Value} {t : TypeId} (h : w.heap[B]? = some (.cells #[a, b, c, d, e, f, g, i] t (0, 0))) (a' b' c' d' : Value) :
    ((((w.setCell ⟨B, 0, none⟩ a').setCell ⟨B, 1, none⟩ b').setCell ⟨B, 2, none⟩ c').setCell ⟨B, 3, none⟩ d').heap[B]? = some (.cells #[a', b', c', d', e, f, g, i] t (0, 0)) := by
  simp [World.setCell, Array.getElem?_modify, h]

theorem Only.then {P Q : Nat → Prop} {a b c : World} (h : Only P a b) (k : Only Q b c) (hq : ∀ j, j < a.heap.size → Q j → P j) : Only P a c :=
  ⟨k.os.trans h.os, k.tape.trans h.tape, k.output.trans h.output, Nat.le_trans h.size k.size, fun j hj hp => (k.block j (Nat.lt_of_lt_of_le hj h.size) (fun x => hp (hq j hj x))).trans (h.block j hj hp)⟩

set_option maxHeartbeats 8000000 in
set_option maxRecDepth 100000 in
theorem graph_any (w : World) (CB : Nat) (ca : Option Addr) (cl cc cb co t : Nat) (h : Rd w CB ca cl cc cb co t) (ht : t ≤ 1000) :
    Calls Tryz.prog 22 #[.pointer (some ⟨CB, 0, none⟩)] w fun e w' => (∃ (n : Nat) (u : V) (tv : Value) (PV : Nat → Value) (L : Nat → Nat) (K X : Nat → Nat → V) (base : Nat), n ≤ 200 ∧ w.heap.size < base ∧ e = .returned (.agg #[.int .i64 u.k, .int .i64 u.n, .string u.s, .int .i64 u.a, tv]) ∧ valP n u ∧ DrG w' base tv n PV L K X n) ∧ Only (fun k => k = CB) w w' := by
  have hbk := h.blocks
  obtain ⟨w0, hw0⟩ : ∃ w0, w0 = w.alloc (.cells #[.int .i64 0, .int .i64 0, .string ⟨#[]⟩, .int .i64 0, .slice none 0 0] 27) := ⟨_, rfl⟩
  have HB0 : Hid (Below w.heap.size w w0) := by rw [hw0]; exact (Below.refl _ _).alloc (Nat.le_refl _) _
  have HR0 : Hid (OutB w0 w.heap.size zeroV (.slice none 0 0)) := by rw [hw0]; exact heap_alloc_new _ _
  have hp := pick_r 9 (h.below HB0.out) (by omega) (by omega) (by omega)
  clear h
  go_enter Tryz.func22, Tryz.ntmps22
  go_wp2_with fail
  rw [← hw0]
  clear hw0
  refine hp.mono ?_
  clear hp
  rintro e w1 ⟨⟨n0, hn0, rfl⟩, HR1, HO1⟩
  have hp := pick_r 25 HR1.out (by omega) (by omega) (by omega)
  go_wp2_with fail
  refine hp.mono ?_
  clear hp
  rintro e w2 ⟨⟨y, hy, rfl⟩, HR2, HO2⟩
  have HO02 : Hid (Only (fun k => k = CB) w0 w2) := HO1.out.trans HO2.out
  clear HO1 HO2 HR1
  go_upto_if 17 with fail
  go_cut [3] from 13 (fun v wx => ∃ n : Nat, n ≤ 200 ∧ v = .int .i64 n ∧ wx = w2)
  case first =>
    by_cases y0 : y = 0
    · subst y0
      go_wp2
      go_meet
      exact ⟨200, by omega, rfl, rfl⟩
    · have hyb : ((y : Int) == 0) = false := by simpa using y0
      go_wp2
      go_meet
      exact ⟨n0, by omega, rfl, rfl⟩
  case rest =>
    obtain ⟨n, hn, rfl, hwc⟩ := hcut
    have hwc := hwc.symm
    subst hwc
    obtain ⟨w3, hw3⟩ : ∃ w3, w3 = w2.alloc (.cells #[.int .i64 0, .int .i64 0, .string ⟨#[]⟩, .int .i64 0, .slice none 0 0] 27) := ⟨_, rfl⟩
    have HB3 : Hid (Below w2.heap.size w2 w3) := by rw [hw3]; exact (Below.refl _ _).alloc (Nat.le_refl _) _
    have HG3 : Hid (OutB w3 w2.heap.size zeroV (.slice none 0 0)) := by rw [hw3]; exact heap_alloc_new _ _
    have hs3 : w3.heap.size = w2.heap.size + 1 := by rw [hw3]; exact World.size_alloc _ _
    have HR3 : Hid (Rd w3 CB ca cl cc cb co (t + 2 + 2)) := HR2.out.below HB3.out
    have HZ3 : Hid (OutB w3 w.heap.size zeroV (.slice none 0 0)) := blkB ((HO02.out.block _ (blk_lt HR0.out) (by omega)).trans HR0.out) HB3.out
    have HO3 : Hid (Only (fun k => k = CB) w w3) := (Only.below HB0.out).trans (HO02.out.trans (Only.below HB3.out))
    obtain ⟨gb, hgb⟩ : ∃ gb, w2.heap.size = gb := ⟨_, rfl⟩
    have lgb : w.heap.size < gb := by have := blk_lt HR0.out; have := HO02.out.size; omega
    go_wp2
    rw [← hw3]
    rw [hgb] at HG3 hs3
    try rw [hgb]
    clear hw3 HR2 HO02 HR0 HB0 HB3
    obtain ⟨it, hti, ht0, ht1, ht2⟩ := info_parts Tryz.info37
    obtain ⟨ip, hpi, hp0, hp1, hp2⟩ := info_parts Tryz.info39
    go_loopw [5] (fun ii wr => ∃ (i : Nat) (tv : Value) (PV : Nat → Value) (L : Nat → Nat) (K X : Nat → Nat → V), i ≤ n ∧ ii = .int .i64 i ∧ Hid (OutB wr gb zeroV tv) ∧ Hid (DrG wr w3.heap.size tv n PV L K X i) ∧ Hid (Rd wr CB ca cl cc cb co (t + 4 + 8000 * i)) ∧ Hid (Only (fun k => k = gb ∨ k = CB) w3 wr)) (fun ii _ => n - (intOf ii).toNat)
    case atStart => exact ⟨0, _, fun _ => .nilIface, fun _ => 0, fun _ _ => zeroV, fun _ _ => zeroV, Nat.zero_le _, rfl, HG3, ⟨OTab.nil _ _ _ _ _ _, fun _ h => absurd h (Nat.not_lt_zero _)⟩, HR3.out.mono (by omega), Only.refl _ _⟩
    case round =>
      obtain ⟨i, tv, PV, L, K, X, hi, rfl, HGr, HDr, HRr, HOr⟩ := hrel
      have hsr := HOr.out.size
      by_cases hlt : i < n
      · obtain ⟨wx, hwx⟩ : ∃ wx, wx = wr.alloc (.cells #[.slice none 0 0] 37) := ⟨_, rfl⟩
        have HBx : Hid (Below wr.heap.size wr wx) := by rw [hwx]; exact (Below.refl _ _).alloc (Nat.le_refl _) _
        have HXx : Hid (wx.heap[wr.heap.size]? = some (.cells #[.slice none 0 0] 37 (0, 0))) := by rw [hwx]; exact heap_alloc_new _ _
        have hp := pick_r 4 (HRr.out.below HBx.out) (by omega) (by omega) (by omega)
        go_wp2_with fail
        rw [← hwx]
        clear hwx
        refine hp.mono ?_
        clear hp
        rintro e wy ⟨⟨y, hy, rfl⟩, HRy, HOy⟩
        have hp := pick_r 60 HRy.out (by omega) (by omega) (by omega)
        go_wp2_with fail
        refine hp.mono ?_
        clear hp
        rintro e wz ⟨⟨z, hz, rfl⟩, HRz, HOz⟩
        have HOxz : Hid (Only (fun k => k = CB) wx wz) := HOy.out.trans HOz.out
        obtain ⟨xb, hxb⟩ : ∃ xb, wr.heap.size = xb := ⟨_, rfl⟩
        clear HOy HOz HRy
        go_upto_if 27 with fail
        go_cut [7] from 18 to 73 (fun v wq => ∃ P : Nat, P ≤ 100 ∧ v = .int .i64 P ∧ wq = wz)
        case first =>
          by_cases z0 : z = 0
          · subst z0
            go_wp2
            go_meet
            exact ⟨100, by omega, rfl, rfl⟩
          · have hzb : ((z : Int) == 0) = false := by simpa using z0
            go_wp2
            go_meet
            exact ⟨y, by omega, rfl, rfl⟩
        case rest =>
          obtain ⟨P, hP, rfl, hwz⟩ := hcut
          have hwz := hwz.symm
          subst hwz
          rw [hxb] at HXx
          try rw [hxb]
          have lxb : xb < wx.heap.size := blk_lt HXx.out
          have HLz : Hid (DrL wz CB xb cl cb) := ⟨by omega, fun h => by have := hbk.2 h; omega, by have := HOxz.out.size; omega⟩
          have HXz : Hid (wz.heap[xb]? = some (.cells #[.slice none 0 0] 37 (0, 0))) := (HOxz.out.block _ lxb (by omega)).trans HXx.out
          have HTz : Hid (DrT wz wz CB xb ca cl cc cb co (t + 8 + 8000 * i) (.slice none 0 0) 0 (fun _ => zeroV) (fun _ => zeroV)) := ⟨HXz.out, World.ownsRow_nil _ _ _ _, HRz.out.mono (by omega), Only.refl _ _⟩
          have HGz : Hid (OutB wz gb zeroV tv) := (HOxz.out.block _ (by have := blk_lt HGr.out; have := HBx.out.size; omega) (by omega)).trans (blkB HGr.out HBx.out)
          have HDz : Hid (OTab wz w3.heap.size tv i PV L K X) := (HDr.out.tab.below HBx.out).only HOxz.out (fun k hk e => by omega)
          have HDn : Hid (∀ g, tv.ownBlock = some g → g < xb) := show ∀ g, _ from fun g hg => by obtain ⟨_, _, _, h2⟩ := owns_form HDr.out.tab.own; have := (h2 g hg).2; omega
          have HDm : Hid (∀ j, j < i → ∀ g, (PV j).ownBlock = some g → g < xb ∧ w3.heap.size ≤ g) := show ∀ j, _ from fun j hj g hg => by obtain ⟨_, _, _, h2⟩ := owns_form (HDr.out.tab.rows j hj); have := h2 g hg; omega
          have HDl : Hid (∀ g, tv.ownBlock = some g → w3.heap.size ≤ g) := show ∀ g, _ from fun g hg => by obtain ⟨_, _, _, h2⟩ := owns_form HDr.out.tab.own; exact (h2 g hg).1
          have HOz : Hid (Only (fun k => k = gb ∨ k = CB) w3 wz) := (HOr.out.trans (Only.below HBx.out)).trans (HOxz.out.mono (fun _ _ e => Or.inr e))
          have HAl : Hid (∀ j, j < i → L j ≤ 100 ∧ DrP n (L j) (K j) (X j)) := HDr.out.all
          have hsz : w3.heap.size ≤ wz.heap.size := HOz.out.size
          have hsz2 : w3.heap.size ≤ xb := by omega
          clear HXx HXz HRz HOxz HBx HRr HGr HDr HOr lxb
          go_wp2
          go_loopw [8] (fun kk wk => ∃ (k l : Nat) (pv : Value) (ks xs : Nat → V), k ≤ P ∧ l ≤ k ∧ kk = .int .i64 k ∧ Hid (DrT wz wk CB xb ca cl cc cb co (t + 8 + 8000 * i + 72 * k) pv l ks xs) ∧ Hid (DrP n l ks xs)) (fun kk _ => P - (intOf kk).toNat)
          case atStart => exact ⟨0, 0, _, fun _ => zeroV, fun _ => zeroV, Nat.zero_le _, Nat.le_refl _, rfl, HTz, DrP.nil _ _ _⟩
          case round =>
            obtain ⟨k, l, pv, ks, xs, hk, hlk, rfl, HT, HP⟩ := hrel
            clear HTz
            obtain ⟨pa, pc, rfl, hpk⟩ := owns_form HT.out.row
            clear hpk
            by_cases hkP : k < P
            · have hp := key_p HT.out.rd (by omega)
              go_wp2_with fail
              refine hp.mono ?_
              clear hp
              rintro e wa ⟨kv, hkv, rfl, hRa, hOa⟩
              have HTa : Hid (DrT wz wa CB xb ca cl cc cb co (t + 8 + 8000 * i + 72 * k + 30) (.slice pa l pc) l ks xs) := HT.out.next HLz.out hOa hRa
              have hp := val_p n hn hRa (by omega)
              clear hRa hOa HT
              go_wp2_with fail
              refine hp.mono ?_
              clear hp
              rintro e wb ⟨xv, hxv, rfl, hRb, hOb⟩
              have HTb : Hid (DrT wz wb CB xb ca cl cc cb co (t + 8 + 8000 * i + 72 * k + 30 + 40) (.slice pa l pc) l ks xs) := HTa.out.next HLz.out hOb hRb
              have HKV : Hid (keyP kv) := hkv
              have HXV : Hid (valP n xv) := hxv
              clear hRb hOb HTa hkv hxv
              obtain ⟨wp, hwp⟩ : ∃ wp, wp = wb.alloc (.cells #[.int .i64 kv.k, .int .i64 kv.n, .string kv.s, .int .i64 kv.a, .int .i64 xv.k, .int .i64 xv.n, .string xv.s, .int .i64 xv.a] 39) := ⟨_, rfl⟩
              have HBp : Hid (Below wb.heap.size wb wp) := by rw [hwp]; exact (Below.refl _ _).alloc (Nat.le_refl _) _
              have HPp : Hid (wp.heap[wb.heap.size]? = some (.cells #[.int .i64 kv.k, .int .i64 kv.n, .string kv.s, .int .i64 kv.a, .int .i64 xv.k, .int .i64 xv.n, .string xv.s, .int .i64 xv.a] 39 (0, 0))) := by rw [hwp]; exact heap_alloc_new _ _
              have HTp : Hid (DrT wz wp CB xb ca cl cc cb co (t + 8 + 8000 * i + 72 * k + 30 + 40) (.slice pa l pc) l ks xs) := HTb.out.below HBp.out
              have hpn : (Value.slice pa l pc).ownBlock ≠ some wb.heap.size := fun e => by obtain ⟨_, _, _, h2⟩ := owns_form HTb.out.row; have := (h2 _ e).2; omega
              have lpb : wz.heap.size ≤ wb.heap.size := HTb.out.only.size
              obtain ⟨pb, hpb⟩ : ∃ pb, wb.heap.size = pb := ⟨_, rfl⟩
              go_upto_if 40 with fail
              rw [← hwp]
              rw [hpb] at HPp hpn lpb
              try rw [hpb]
              clear hwp HTb HBp
              go_cut [] from 28 to 67 (fun wq => ∃ pk : V, keyP pk ∧ Hid (wq.heap[pb]? = some (.cells #[.int .i64 pk.k, .int .i64 pk.n, .string pk.s, .int .i64 pk.a, .int .i64 xv.k, .int .i64 xv.n, .string xv.s, .int .i64 xv.a] 39 (0, 0))) ∧ Hid (DrT wz wq CB xb ca cl cc cb co (t + 8 + 8000 * i + 72 * k + 30 + 40) (.slice pa l pc) l ks xs))
              case first =>
                by_cases h100 : P = 100
                · have e100 : ((P : Int) == 100) = true := by simp [h100]
                  obtain ⟨z0, z1, z2, z3, _, _, _, _, z8⟩ := cells8 HPp.out
                  go_wp2
                  go_meet
                  refine ⟨⟨2, k, ⟨#[]⟩, 0⟩, keyP_int (by omega) (by omega), ?_, ?_⟩
                  · exact put4_in8 HPp.out _ _ _ _
                  · exact (((HTp.out.far HLz.out (p := ⟨pb, 0, none⟩) lpb hpn _).far HLz.out (p := ⟨pb, 1, none⟩) lpb hpn _).far HLz.out (p := ⟨pb, 2, none⟩) lpb hpn _).far HLz.out (p := ⟨pb, 3, none⟩) lpb hpn _
                · have e100 : ((P : Int) == 100) = false := by simp; omega
                  go_wp2
                  go_meet
                  exact ⟨kv, HKV.out, HPp, HTp⟩
              case rest =>
                obtain ⟨pk, hpk, HPc, HTc⟩ := hcut
                have HPK : Hid (keyP pk) := hpk
                clear hpk HPp HTp HKV hpn
                have HPP : Hid (PairsAt wc pa l (slB (.slice pa l pc)) 0 ks xs) := (owns_pairs HTc.out.row).2
                obtain ⟨qb, hqb⟩ : ∃ qb, slB (.slice pa l pc) = qb := ⟨_, rfl⟩
                rw [hqb] at HPP
                clear hqb
                obtain ⟨y0, y1⟩ := one_at HTc.out.out
                go_wp2
                clear y0 y1
                go_loopw [10, 47] (fun mt jj wq => ∃ (j : Nat) (b : Bool), j ≤ l ∧ jj = .int .i64 j ∧ mt = .bool b ∧ Hid (b = false → ∀ i, i < j → eqV (ks i) pk = false) ∧ Hid (Below wc.heap.size wc wq)) (fun _ jj _ => l - (intOf jj).toNat)
                case atStart => exact ⟨0, false, Nat.zero_le _, rfl, rfl, show _ → _ from fun _ i hi => absurd hi (Nat.not_lt_zero _), Below.refl _ _⟩
                case round =>
                  obtain ⟨j, b, hj, rfl, rfl, Hb, HBq⟩ := hrel
                  by_cases hjl : j < l
                  · obtain rfl := HPP.out.top (by omega)
                    obtain ⟨⟨k0, k1, k2, k3⟩, ⟨x0, x1, x2, x3⟩⟩ := (HPP.out.below HBq.out).cells hjl
                    simp only [Nat.zero_add] at k0 k1 k2 k3 x0 x1 x2 x3
                    have HPq : Hid (wr.heap[pb]? = some (.cells #[.int .i64 pk.k, .int .i64 pk.n, .string pk.s, .int .i64 pk.a, .int .i64 xv.k, .int .i64 xv.n, .string xv.s, .int .i64 xv.a] 39 (0, 0))) := blkB HPc.out HBq.out
                    obtain ⟨z0, z1, z2, z3, _, _, _, _, z8⟩ := cells8 HPq.out
                    have lpq : pb < wr.heap.size := blk_lt HPq.out
                    have il : (0 : Int) ≤ (j : Int) ∧ (j : Int) < (l : Int) := by omega
                    obtain ⟨wn, hwn⟩ : ∃ wn, wn = wr.alloc (.cells #[.int .i64 (ks j).k, .int .i64 (ks j).n, .string (ks j).s, .int .i64 (ks j).a, .int .i64 (xs j).k, .int .i64 (xs j).n, .string (xs j).s, .int .i64 (xs j).a] 39) := ⟨_, rfl⟩
                    have HBn : Hid (Below wc.heap.size wc wn) := grw HBq.out (by rw [hwn]; exact (Below.refl _ _).alloc (Nat.le_refl _) _)
                    cases b
                    · have heq := eql_val (ks j) pk
                      obtain ⟨be, hbe⟩ : ∃ x, eqV (ks j) pk = x := ⟨_, rfl⟩
                      rw [hbe] at heq
                      cases be
                      · have Hb' : Hid (false = false → ∀ i, i < j + 1 → eqV (ks i) pk = false) := show _ → _ from fun _ i hi => by
                          by_cases e : i = j
                          · subst e; exact hbe
                          · exact Hb.out rfl i (by omega)
                        clear hbe Hb
                        go_wp2
                        rw [← hwn]
                        go_roundw
                        case rel => exact ⟨j + 1, false, by omega, by go_num, rfl, Hb', HBn⟩
                        case measure => simp [intOf]; omega
                      · have Hb' : Hid (true = false → ∀ i, i < j + 1 → eqV (ks i) pk = false) := show true = false → _ from fun h => by cases h
                        clear hbe Hb
                        go_wp2
                        rw [← hwn]
                        go_roundw
                        case rel => exact ⟨j + 1, true, by omega, by go_num, rfl, Hb', HBn⟩
                        case measure => simp [intOf]; omega
                    · have Hb' : Hid (true = false → ∀ i, i < j + 1 → eqV (ks i) pk = false) := show true = false → _ from fun h => by cases h
                      clear Hb
                      go_wp2
                      rw [← hwn]
                      go_roundw
                      case rel => exact ⟨j + 1, true, by omega, by go_num, rfl, Hb', HBn⟩
                      case measure => simp [intOf]; omega
                  · obtain rfl : j = l := by omega
                    have HTq : Hid (DrT wz wr CB xb ca cl cc cb co (t + 8 + 8000 * i + 72 * k + 30 + 40) (.slice pa j pc) j ks xs) := HTc.out.below HBq.out
                    cases b
                    · have HbF : Hid (∀ i, i < j → eqV (ks i) pk = false) := Hb.out rfl
                      have HPq : Hid (wr.heap[pb]? = some (.cells #[.int .i64 pk.k, .int .i64 pk.n, .string pk.s, .int .i64 pk.a, .int .i64 xv.k, .int .i64 xv.n, .string xv.s, .int .i64 xv.a] 39 (0, 0))) := blkB HPc.out HBq.out
                      obtain ⟨z0, z1, z2, z3, z4, z5, z6, z7, z8⟩ := cells8 HPq.out
                      have lpq : pb < wr.heap.size := blk_lt HPq.out
                      have hwzr : wz.heap.size ≤ wr.heap.size := HTq.out.only.size
                      obtain ⟨y0, y1⟩ := one_at HTq.out.out
                      have lxr : xb < wr.heap.size := blk_lt HTq.out.out
                      go_wp2_with (at_builtin; refine wpList_append_lies _ (by rfl) (.tmp 63) (.tmp 65) 35 (by rfl) wz.heap.size 39 ip (.agg #[.int .i64 0, .int .i64 0, .string ⟨#[]⟩, .int .i64 0, .int .i64 0, .int .i64 0, .string ⟨#[]⟩, .int .i64 0]) 8 80 Tryz.underlying35 hpi hp0 hp1 hp2 (by rfl) (by omega) (.slice pa j pc) j (pairCells ks xs j) (by rfl) (HTq.out.row.alloc _) ⟨wr.heap.size, 0, none⟩ 1 1 [.int .i64 pk.k, .int .i64 pk.n, .string pk.s, .int .i64 pk.a, .int .i64 xv.k, .int .i64 xv.n, .string xv.s, .int .i64 xv.a] (by rfl) (by rfl) (World.news_of_block (heap_alloc_new wr _)) (by intro v hv; simp at hv; rcases hv with rfl | rfl | rfl | rfl | rfl | rfl | rfl | rfl <;> rfl) (by omega) (by unfold maxLen; omega) (by omega) (by simp; omega) (wr.heap.size + 1) (by simp) ?_)
                      intro g cap w6 hown6 hgrow6 hat6 hlt6
                      obtain ⟨⟨q0, q1⟩, hT6⟩ := HTq.out.more HLz.out (kk := pk) (xx := xv) hgrow6 hown6
                      have HT6 : Hid (DrT wz (w6.setCell ⟨xb, 0, none⟩ (.slice (some ⟨g, 0, none⟩) (j + 1) cap)) CB xb ca cl cc cb co (t + 8 + 8000 * i + 72 * (k + 1)) (.slice (some ⟨g, 0, none⟩) (j + 1) cap) (j + 1) (fun c => if c = j then pk else ks c) (fun c => if c = j then xv else xs c)) := hT6.mono (by omega)
                      have HP6 : Hid (DrP n (j + 1) (fun c => if c = j then pk else ks c) (fun c => if c = j then xv else xs c)) := HP.out.more HPK.out HXV.out HbF.out
                      clear hT6 hown6 hgrow6 hat6 hlt6 z0 z1 z2 z3 z4 z5 z6 z7 z8 y0 y1
                      go_wp2
                      go_roundw
                      case rel => exact ⟨k + 1, j + 1, _, _, _, by omega, by omega, by go_num, HT6, HP6⟩
                      case measure => simp [intOf]; omega
                    · have HTe : Hid (DrT wz wr CB xb ca cl cc cb co (t + 8 + 8000 * i + 72 * (k + 1)) (.slice pa j pc) j ks xs) := HTq.out.mono (by omega)
                      go_wp2
                      go_roundw
                      case rel => exact ⟨k + 1, j, _, ks, xs, by omega, by omega, by go_num, HTe, HP⟩
                      case measure => simp [intOf]; omega
            · obtain rfl : k = P := by omega
              obtain ⟨ta, tc, rfl, _⟩ := owns_form HDz.out.own
              have hwzr : wz.heap.size ≤ wr.heap.size := HT.out.only.size
              have HGk : Hid (OutB wr gb zeroV (.slice ta i tc)) := (HT.out.only.block _ (by have := blk_lt HGz.out; omega) (by omega)).trans HGz.out
              have HDk : Hid (OTab wr w3.heap.size (.slice ta i tc) i PV L K X) := HDz.out.onlyB HT.out.only (fun g hg e => by have := HDn.out g hg; have := HDl.out g hg; omega) (fun j hj g hg e => by have := HDm.out j hj g hg; omega)
              have HRk : Hid (wr.ownsRow w3.heap.size 39 8 (.slice pa l pc) l (pairCells ks xs l)) := owns_mono HT.out.row hsz
              have HOk : Hid (Only (fun k => k = gb ∨ k = CB) w3 wr) := HOz.out.then HT.out.only (fun j hj e => by omega)
              have HRd : Hid (Rd wr CB ca cl cc cb co (t + 8 + 8000 * i + 72 * k)) := HT.out.rd
              have hd : ∀ j, j < i → ∀ g, (PV j).ownBlock = some g → (Value.slice pa l pc).ownBlock ≠ some g := fun j hj g hg e => by
                obtain ⟨_, _, _, h2⟩ := owns_form HT.out.row
                have := (h2 g e).1
                have := HDm.out j hj g hg
                have := HLz.out.tab
                omega
              have Hd : Hid (∀ j, j < i → ∀ g, (PV j).ownBlock = some g → (Value.slice pa l pc).ownBlock ≠ some g) := hd
              clear hd
              obtain ⟨y0, y1⟩ := one_at HT.out.out
              obtain ⟨g0, g1, g2, g3, g4, gz⟩ := cells5 HGk.out
              have lgr : gb < wr.heap.size := blk_lt HGk.out
              have lxr : xb < wr.heap.size := blk_lt HT.out.out
              have hw3r : w3.heap.size ≤ wr.heap.size := by omega
              go_wp2_with (at_builtin; refine wpList_append_lies _ (by rfl) (.tmp 69) (.tmp 71) 25 (by rfl) w3.heap.size 37 it (.agg #[.slice none 0 0]) 1 24 Tryz.underlying25 hti ht0 ht1 ht2 (by rfl) (by omega) (.slice ta i tc) i ((List.range i).map PV) (by rfl) (HDk.out.own.alloc _) ⟨wr.heap.size, 0, none⟩ 1 1 [.slice pa l pc] (by rfl) (by rfl) (World.news_of_block (heap_alloc_new wr _)) (by intro v hv; simp at hv; subst hv; rfl) (by omega) (by unfold maxLen; omega) (by omega) (by simp; omega) (wr.heap.size + 1) (by simp) ?_)
              intro g cap w7 hown7 hgrow7 hat7 hlt7
              rw [← hs3] at hown7
              obtain ⟨hT7, hB7⟩ := HDk.out.more HRk.out Hd.out _ hw3r hown7 hgrow7
              have HD7 : Hid (DrG w7 w3.heap.size (.slice (some ⟨g, 0, none⟩) (i + 1) cap) n (fun j => if j = i then .slice pa l pc else PV j) (fun j => if j = i then l else L j) (fun j => if j = i then ks else K j) (fun j => if j = i then xs else X j) (i + 1)) := ⟨hT7, fun j hj => by
                by_cases e : j = i
                · subst e; simp only [if_true]; exact ⟨by omega, HP.out⟩
                · simp only [e, if_false]; exact HAl.out j (by omega)⟩
              have HG7 : Hid (OutB w7 gb zeroV (.slice ta i tc)) := (hB7.block _ (by omega)).trans HGk.out
              have HO7 : Hid (Only (fun k => k = gb ∨ k = CB) w3 w7) := HOk.out.thenBelow hB7 (Nat.le_refl _)
              have HR7 : Hid (Rd w7 CB ca cl cc cb co (t + 8 + 8000 * i + 72 * k)) := HRd.out.keep hB7 (by omega) (fun h => by have := hbk.2 h; omega)
              clear hT7 hB7 hown7 hgrow7 hat7 hlt7 y0 y1 g0 g1 g2 g3 g4 gz Hd HRd HOk HRk HDk HGk
              obtain ⟨g0, g1, g2, g3, g4, gz⟩ := cells5 HG7.out
              go_wp2
              go_roundw
              case rel => exact ⟨i + 1, _, _, _, _, _, by omega, by go_num, put5hi HG7.out _, ⟨HD7.out.tab.only ((Only.refl (fun k => k = gb) w7).set (p := ⟨gb, 4, none⟩) rfl _) (fun k hk e => by omega), HD7.out.all⟩, (HR7.out.keep ((Below.refl gb w7).setCell (p := ⟨gb, 4, none⟩) (Nat.le_refl _) _) (by omega) (fun h => by have := hbk.2 h; omega)).mono (by omega), HO7.out.set (p := ⟨gb, 4, none⟩) (Or.inl rfl) _⟩
              case measure => simp [intOf]; omega
      · obtain rfl : i = n := by omega
        have hp := val_p i hn HRr.out (by omega)
        obtain ⟨ta, tc, rfl, _⟩ := owns_form HDr.out.tab.own
        go_wp2_with fail
        refine hp.mono ?_
        clear hp
        rintro e wa ⟨u, hu, rfl, hRa, hOa⟩
        have HU : Hid (valP i u) := hu
        have HGa : Hid (OutB wa gb zeroV (.slice ta i tc)) := (hOa.block _ (blk_lt HGr.out) (by omega)).trans HGr.out
        have HTa : Hid (OTab wa w3.heap.size (.slice ta i tc) i PV L K X) := HDr.out.tab.only hOa (fun k hk e => by omega)
        have HAl : Hid (∀ j, j < i → L j ≤ 100 ∧ DrP i (L j) (K j) (X j)) := HDr.out.all
        have HOa : Hid (Only (fun k => k = gb ∨ k = CB) w3 wa) := HOr.out.then hOa (fun _ _ e => Or.inr e)
        obtain ⟨wb, hwb⟩ : ∃ wb, wb = (((wa.setCell ⟨gb, 0, none⟩ (.int .i64 u.k)).setCell ⟨gb, 1, none⟩ (.int .i64 u.n)).setCell ⟨gb, 2, none⟩ (.string u.s)).setCell ⟨gb, 3, none⟩ (.int .i64 u.a) := ⟨_, rfl⟩
        have HGb : Hid (OutB wb gb u (.slice ta i tc)) := by rw [hwb]; exact put5lo HGa.out _ _ _ _
        have hob : Only (fun k => k = gb) wa wb := by rw [hwb]; exact set4_only
        have HTb : Hid (OTab wb w3.heap.size (.slice ta i tc) i PV L K X) := HTa.out.only hob (fun k hk e => by omega)
        have HOb : Hid (Only (fun k => k = gb ∨ k = CB) w3 wb) := HOa.out.then hob (fun _ _ e => Or.inl e)
        have HRb : Hid (Rd wb CB ca cl cc cb co (t + 4 + 8000 * i + 40)) := hRa.keep (hob.toBelow (base := gb) (fun k e => by omega) (by have := blk_lt HGa.out; omega)) (by omega) (fun h => by have := hbk.2 h; omega)
        have HZb : Hid (OutB wb w.heap.size zeroV (.slice none 0 0)) := (HOb.out.block _ (blk_lt HZ3.out) (by omega)).trans HZ3.out
        obtain ⟨g0, g1, g2, g3, g4, gz⟩ := cells5 HGa.out
        clear hu hRa hOa hob HGr HDr HRr HOr HTa HOa
        by_cases i0 : i = 0
        · have ib : ¬ (0 : Int) < (i : Int) := by omega
          clear i0
          obtain ⟨k0, k1, k2, k3, k4, kz⟩ := cells5 HGb.out
          obtain ⟨r0, r1, r2, r3, r4, r5⟩ := cells5 HZb.out
          simp only [zeroV] at r0 r1 r2 r3
          go_upto_if 84 with fail
          rw [← hwb]
          clear hwb g0 g1 g2 g3 g4 gz
          go_wp2
          have F := put5hi (put5lo HZb.out (.int .i64 u.k) (.int .i64 u.n) (.string u.s) (.int .i64 u.a)) (.slice ta i tc)
          obtain ⟨wf, hwf⟩ : ∃ wf, wf = ((((wb.setCell ⟨w.heap.size, 0, none⟩ (.int .i64 u.k)).setCell ⟨w.heap.size, 1, none⟩ (.int .i64 u.n)).setCell ⟨w.heap.size, 2, none⟩ (.string u.s)).setCell ⟨w.heap.size, 3, none⟩ (.int .i64 u.a)).setCell ⟨w.heap.size, 4, none⟩ (.slice ta i tc) := ⟨_, rfl⟩
          have ho : Only (fun k => k = w.heap.size) wb wf := by rw [hwf]; exact set4_only.set (p := ⟨w.heap.size, 4, none⟩) rfl _
          rw [← hwf] at F ⊢
          clear hwf
          obtain ⟨q0, q1, q2, q3, q4, _⟩ := cells5 F
          refine bodyPost_ret (v := .agg #[.int .i64 u.k, .int .i64 u.n, .string u.s, .int .i64 u.a, .slice ta i tc]) (by simp [results, Tryz.results22, go_sem, q0, q1, q2, q3, q4]) rfl ⟨⟨i, u, _, PV, L, K, X, w3.heap.size, hn, by omega, rfl, HU.out, ⟨HTb.out.only ho (fun k hk e => by omega), HAl.out⟩⟩, ?_⟩
          exact (HO3.out.then HOb.out (fun j hj e => by omega)).then ho (fun j hj e => by omega)
        · have ib : (0 : Int) < (i : Int) := by omega
          have hp := pick_r 8 HRb.out (by omega) (by omega) (by omega)
          go_wp2_with fail
          rw [← hwb]
          clear hwb g0 g1 g2 g3 g4 gz
          refine hp.mono ?_
          clear hp
          rintro e wd ⟨⟨q, hq, rfl⟩, HRd, HOd⟩
          have HGd : Hid (OutB wd gb u (.slice ta i tc)) := (HOd.out.block _ (blk_lt HGb.out) (by omega)).trans HGb.out
          have HTd : Hid (OTab wd w3.heap.size (.slice ta i tc) i PV L K X) := HTb.out.only HOd.out (fun k hk e => by omega)
          have HOe : Hid (Only (fun k => k = gb ∨ k = CB) w3 wd) := HOb.out.then HOd.out (fun _ _ e => Or.inr e)
          have HZd : Hid (OutB wd w.heap.size zeroV (.slice none 0 0)) := (HOe.out.block _ (blk_lt HZ3.out) (by omega)).trans HZ3.out
          clear HGb HTb HOb HZb HRb HRd HOd
          by_cases q0 : 0 < q
          · have qb : (0 : Int) < (q : Int) := by omega
            obtain ⟨k0, k1, k2, k3, k4, kz⟩ := cells5 HGd.out
            obtain ⟨wg, hwg⟩ : ∃ wg, wg = (((wd.setCell ⟨gb, 0, none⟩ (.int .i64 4)).setCell ⟨gb, 1, none⟩ (.int .i64 0)).setCell ⟨gb, 2, none⟩ (.string ⟨#[]⟩)).setCell ⟨gb, 3, none⟩ (.int .i64 0) := ⟨_, rfl⟩
            obtain ⟨ur, HUR⟩ : ∃ ur : V, Hid (ur = ⟨4, 0, ⟨#[]⟩, 0⟩) := ⟨_, rfl⟩
            have HGg : Hid (OutB wg gb ur (.slice ta i tc)) := by rw [HUR.out, hwg]; exact put5lo HGd.out _ _ _ _
            have hog : Only (fun k => k = gb) wd wg := by rw [hwg]; exact set4_only
            have HTg : Hid (OTab wg w3.heap.size (.slice ta i tc) i PV L K X) := HTd.out.only hog (fun k hk e => by omega)
            have HOg : Hid (Only (fun k => k = gb ∨ k = CB) w3 wg) := HOe.out.then hog (fun _ _ e => Or.inl e)
            have HZg : Hid (OutB wg w.heap.size zeroV (.slice none 0 0)) := (HOg.out.block _ (blk_lt HZ3.out) (by omega)).trans HZ3.out
            clear hog
            go_upto_region 30 with fail
            rw [← hwg]
            clear hwg k0 k1 k2 k3 k4 kz
            obtain ⟨k0, k1, k2, k3, k4, kz⟩ := cells5 HGg.out
            obtain ⟨r0, r1, r2, r3, r4, r5⟩ := cells5 HZg.out
            simp only [zeroV] at r0 r1 r2 r3
            go_wp2
            have F := put5hi (put5lo HZg.out (.int .i64 ur.k) (.int .i64 ur.n) (.string ur.s) (.int .i64 ur.a)) (.slice ta i tc)
            obtain ⟨wf, hwf⟩ : ∃ wf, wf = ((((wg.setCell ⟨w.heap.size, 0, none⟩ (.int .i64 ur.k)).setCell ⟨w.heap.size, 1, none⟩ (.int .i64 ur.n)).setCell ⟨w.heap.size, 2, none⟩ (.string ur.s)).setCell ⟨w.heap.size, 3, none⟩ (.int .i64 ur.a)).setCell ⟨w.heap.size, 4, none⟩ (.slice ta i tc) := ⟨_, rfl⟩
            have ho : Only (fun k => k = w.heap.size) wg wf := by rw [hwf]; exact set4_only.set (p := ⟨w.heap.size, 4, none⟩) rfl _
            rw [← hwf] at F ⊢
            clear hwf
            obtain ⟨q0, q1, q2, q3, q4, _⟩ := cells5 F
            refine bodyPost_ret (v := .agg #[.int .i64 ur.k, .int .i64 ur.n, .string ur.s, .int .i64 ur.a, .slice ta i tc]) (by simp [results, Tryz.results22, go_sem, q0, q1, q2, q3, q4]) rfl ⟨⟨i, ur, _, PV, L, K, X, w3.heap.size, hn, by omega, rfl, by rw [HUR.out]; exact valP_tab (by omega), ⟨HTg.out.only ho (fun k hk e => by omega), HAl.out⟩⟩, ?_⟩
            exact (HO3.out.then HOg.out (fun j hj e => by omega)).then ho (fun j hj e => by omega)
          · have qb : ¬ (0 : Int) < (q : Int) := by omega
            obtain ⟨k0, k1, k2, k3, k4, kz⟩ := cells5 HGd.out
            obtain ⟨r0, r1, r2, r3, r4, r5⟩ := cells5 HZd.out
            simp only [zeroV] at r0 r1 r2 r3
            go_wp2
            have F := put5hi (put5lo HZd.out (.int .i64 u.k) (.int .i64 u.n) (.string u.s) (.int .i64 u.a)) (.slice ta i tc)
            obtain ⟨wf, hwf⟩ : ∃ wf, wf = ((((wd.setCell ⟨w.heap.size, 0, none⟩ (.int .i64 u.k)).setCell ⟨w.heap.size, 1, none⟩ (.int .i64 u.n)).setCell ⟨w.heap.size, 2, none⟩ (.string u.s)).setCell ⟨w.heap.size, 3, none⟩ (.int .i64 u.a)).setCell ⟨w.heap.size, 4, none⟩ (.slice ta i tc) := ⟨_, rfl⟩
            have ho : Only (fun k => k = w.heap.size) wd wf := by rw [hwf]; exact set4_only.set (p := ⟨w.heap.size, 4, none⟩) rfl _
            rw [← hwf] at F ⊢
            clear hwf
            obtain ⟨q0, q1, q2, q3, q4, _⟩ := cells5 F
            refine bodyPost_ret (v := .agg #[.int .i64 u.k, .int .i64 u.n, .string u.s, .int .i64 u.a, .slice ta i tc]) (by simp [results, Tryz.results22, go_sem, q0, q1, q2, q3, q4]) rfl ⟨⟨i, u, _, PV, L, K, X, w3.heap.size, hn, by omega, rfl, HU.out, ⟨HTd.out.only ho (fun k hk e => by omega), HAl.out⟩⟩, ?_⟩
            exact (HO3.out.then HOe.out (fun j hj e => by omega)).then ho (fun j hj e => by omega)
end Go.Proofs.YtgflalfiopnmnaaGreatDoor

namespace Go.Proofs.YtgflalfiopnmnaaGreatDoor.Aw
open Vl

theorem eqV_refl (x : V) : eqV x x = true := eqV_iff.2 rfl

structure E where
  a : V
  b : V
  p : List V

structure Sys where
  tab : V → Bool
  atA : V → V → V
  atB : V → V → V
  kids : V → V → List V
  D : V → V → Bool

def Sys.cp (S : Sys) (e : E) : Bool := S.tab e.a && S.tab e.b
def Sys.part (S : Sys) (e : E) : Bool := !(S.tab e.a && S.tab e.b) && !(eqV e.a e.b)
def Sys.child (S : Sys) (e : E) (k : V) : E := ⟨S.atA e.a k, S.atB e.b k, e.p ++ [k]⟩
def same (c y : E) : Bool := eqV y.a c.a && eqV y.b c.b
def Sys.add (S : Sys) (l : List (E)) (c : E) : List (E) := if S.cp c && l.any (same c) then l else l ++ [c]
def Sys.iadd (S : Sys) (l : List (E)) (c : E) : List (E) := if S.cp c && S.D c.a c.b && !(l.any (same c)) then l ++ [c] else l
def Sys.igrow (S : Sys) (l : List (E)) (e : E) : List (E) := (S.kids e.a e.b).foldl (fun l k => S.iadd l (S.child e k)) l

inductive IReach (S : Sys) (r : E) : Nat → List (E) → Prop
  | start : IReach S r 0 (S.iadd [] r)
  | step {j : Nat} {q : List (E)} {e : E} : IReach S r j q → q[j]? = some e → (∀ k ∈ S.kids e.a e.b, S.part (S.child e k) = false) → IReach S r (j + 1) (S.igrow q e)

def IDone (S : Sys) (r : E) (ans : List V) : Prop :=
  (∃ j q e pre k post, IReach S r j q ∧ q[j]? = some e ∧ S.kids e.a e.b = pre ++ k :: post ∧ (∀ k' ∈ pre, S.part (S.child e k') = false) ∧ S.part (S.child e k) = true ∧ ans = e.p ++ [k]) ∨ (∃ j q, IReach S r j q ∧ q.length ≤ j ∧ ans = [])

def Sys.live (S : Sys) (e : E) : Bool := S.cp e && S.D e.a e.b

theorem nodup_len : ∀ (N : Nat) (l : List Nat), l.Nodup → (∀ x ∈ l, x < N) → l.length ≤ N
  | 0, l, _, h => by
    cases l with
    | nil => simp
    | cons x xs => have := h x (by simp); omega
  | N + 1, l, hn, h => by
    have h1 := nodup_len N (l.erase N) (hn.erase N) (fun x hx => by
      have h2 := (hn.mem_erase_iff).1 hx
      have := h x h2.2
      have := h2.1
      omega)
    rw [List.length_erase] at h1
    split at h1 <;> omega

structure Ix (S : Sys) (G : V → V → Prop) (ix : V → V → Nat) (N : Nat) : Prop where
  lt : ∀ x y, G x y → S.tab x = true → S.tab y = true → ix x y < N
  one : ∀ x y x' y', G x y → S.tab x = true → S.tab y = true → G x' y' → S.tab x' = true → S.tab y' = true → ix x y = ix x' y' → x = x' ∧ y = y'

structure Wide (S : Sys) (G : V → V → Prop) (ix : V → V → Nat) (l : List (E)) (i : Nat) : Prop where
  good : ∀ e ∈ l, G e.a e.b
  path : ∀ e ∈ l, e.p.length ≤ i
  once : ((l.filter S.cp).map fun e => ix e.a e.b).Nodup

theorem Wide.add {S : Sys} {G : V → V → Prop} {ix : V → V → Nat} {N : Nat} (hI : Ix S G ix N) {l : List (E)} {i : Nat} (h : Wide S G ix l i) {c : E} (hg : G c.a c.b) (hp : c.p.length ≤ i) : Wide S G ix (S.add l c) i := by
  unfold Sys.add
  split
  · exact h
  · rename_i hm
    refine ⟨fun e he => ?_, fun e he => ?_, ?_⟩
    · rcases List.mem_append.1 he with he | he
      · exact h.good e he
      · simp at he; rw [he]; exact hg
    · rcases List.mem_append.1 he with he | he
      · exact h.path e he
      · simp at he; rw [he]; exact hp
    · rw [List.filter_append]
      cases hc : S.cp c with
      | false => simp [hc, h.once]
      | true =>
        simp only [hc, Bool.true_and] at hm
        have hct : S.tab c.a = true ∧ S.tab c.b = true := by unfold Sys.cp at hc; simpa using hc
        simp only [List.filter_cons, hc, if_true, List.filter_nil, List.map_append, List.map_cons, List.map_nil]
        rw [List.nodup_append]
        refine ⟨h.once, by simp, ?_⟩
        intro a ha b hb e
        simp at hb
        subst hb
        obtain ⟨y, hy, rfl⟩ := List.mem_map.1 ha
        rw [List.mem_filter] at hy
        have hyt : S.tab y.a = true ∧ S.tab y.b = true := by have := hy.2; unfold Sys.cp at this; simpa using this
        obtain ⟨e1, e2⟩ := hI.one _ _ _ _ (h.good y hy.1) hyt.1 hyt.2 hg hct.1 hct.2 e
        apply hm
        rw [List.any_eq_true]
        exact ⟨y, hy.1, by simp [same, eqV_iff, e1, e2]⟩

theorem Wide.more {S : Sys} {G : V → V → Prop} {ix : V → V → Nat} {l : List (E)} {i : Nat} (h : Wide S G ix l i) : Wide S G ix l (i + 1) := ⟨h.good, fun e he => by have := h.path e he; omega, h.once⟩

def Nexts (S : Sys) (G : V → V → Prop) : Prop := ∀ x y, G x y → S.tab x = true → S.tab y = true → ∀ k ∈ S.kids x y, G (S.atA x k) (S.atB y k)

theorem Wide.few {S : Sys} {G : V → V → Prop} {ix : V → V → Nat} {N i : Nat} (hI : Ix S G ix N) {l : List (E)} (h : Wide S G ix l i) : (l.filter S.cp).length ≤ N := by
  have := nodup_len N _ h.once (fun x hx => by
    obtain ⟨y, hy, rfl⟩ := List.mem_map.1 hx
    rw [List.mem_filter] at hy
    have hyt : S.tab y.a = true ∧ S.tab y.b = true := by have := hy.2; unfold Sys.cp at this; simpa using this
    exact hI.lt _ _ (h.good y hy.1) hyt.1 hyt.2)
  simpa using this

theorem iadd_eq {S : Sys} (q : List (E)) (c : E) : S.iadd q c = q ∨ (S.iadd q c = S.add q c ∧ S.live c = true) := by
  unfold Sys.iadd Sys.add
  by_cases hl : S.live c = true
  · have hcp : S.cp c = true := by unfold Sys.live at hl; simp at hl; exact hl.1
    have hD : S.D c.a c.b = true := by unfold Sys.live at hl; simp at hl; exact hl.2
    rw [hcp, hD]
    cases q.any (same c) <;> simp [hl]
  · have : (S.cp c && S.D c.a c.b) = false := (Bool.not_eq_true _).mp hl
    rw [this]; simp

structure IWide (S : Sys) (G : V → V → Prop) (ix : V → V → Nat) (q : List (E)) (i : Nat) : Prop where
  wide : Wide S G ix q i
  live : ∀ e ∈ q, S.live e = true

theorem IWide.add {S : Sys} {G : V → V → Prop} {ix : V → V → Nat} {N : Nat} (hI : Ix S G ix N) {q : List (E)} {i : Nat} (h : IWide S G ix q i) {c : E} (hg : G c.a c.b) (hp : c.p.length ≤ i) : IWide S G ix (S.iadd q c) i := by
  rcases iadd_eq (S := S) q c with e | ⟨e, hl⟩
  · rw [e]; exact h
  · rw [e]
    refine ⟨h.wide.add hI hg hp, fun x hx => ?_⟩
    unfold Sys.add at hx
    split at hx
    · exact h.live x hx
    · rcases List.mem_append.1 hx with hx | hx
      · exact h.live x hx
      · simp at hx; rw [hx]; exact hl

theorem IWide.fold {S : Sys} {G : V → V → Prop} {ix : V → V → Nat} {N : Nat} (hI : Ix S G ix N) {e : E} {i : Nat} : ∀ (ks : List V) (q : List (E)), IWide S G ix q i → (∀ k ∈ ks, G (S.atA e.a k) (S.atB e.b k)) → e.p.length + 1 ≤ i → IWide S G ix (ks.foldl (fun l k => S.iadd l (S.child e k)) q) i
  | [], _, h, _, _ => h
  | k :: ks, q, h, hg, hp => by
    simp only [List.foldl_cons]
    exact IWide.fold hI ks _ (h.add hI (hg k (by simp)) (by simp [Sys.child]; omega)) (fun k' hk' => hg k' (by simp [hk'])) hp

theorem IReach.wide {S : Sys} {G : V → V → Prop} {ix : V → V → Nat} {N : Nat} (hF : Nexts S G) (hI : Ix S G ix N) {r : E} (hr : G r.a r.b) (hp0 : r.p = []) {j : Nat} {q : List (E)} (h : IReach S r j q) : IWide S G ix q j := by
  induction h with
  | start => exact IWide.add hI ⟨⟨by simp, by simp, by simp⟩, by simp⟩ hr (by simp [hp0])
  | @step j q e h1 h2 h3 ih =>
    have he : e ∈ q := List.mem_of_getElem? h2
    have hl := ih.live e he
    have h3' : S.tab e.a = true ∧ S.tab e.b = true := by unfold Sys.live Sys.cp at hl; simp at hl; exact hl.1
    exact IWide.fold hI _ _ ⟨ih.wide.more, ih.live⟩ (hF _ _ (ih.wide.good e he) h3'.1 h3'.2) (by have := ih.wide.path e he; omega)

theorem IWide.len {S : Sys} {G : V → V → Prop} {ix : V → V → Nat} {N i : Nat} (hI : Ix S G ix N) {q : List (E)} (h : IWide S G ix q i) : q.length ≤ N := by
  have h1 := h.wide.few hI
  have : q.filter S.cp = q := List.filter_eq_self.2 (fun e he => by have := h.live e he; unfold Sys.live at this; simp at this; exact this.1)
  rw [this] at h1
  exact h1

end Go.Proofs.YtgflalfiopnmnaaGreatDoor.Aw

namespace Go.Proofs.YtgflalfiopnmnaaGreatDoor
open Go Vl

theorem bl_trans : ∀ x y z : List UInt8, Op.bytesLess x y = true → Op.bytesLess y z = true → Op.bytesLess x z = true
  | [], [], _, h, _ => by simp [Op.bytesLess] at h
  | [], _ :: _, [], _, h => by simp [Op.bytesLess] at h
  | [], _ :: _, _ :: _, _, _ => by simp [Op.bytesLess]
  | _ :: _, [], _, h, _ => by simp [Op.bytesLess] at h
  | _ :: _, _ :: _, [], _, h => by simp [Op.bytesLess] at h
  | a :: x, b :: y, c :: z, h, k => by
    simp only [Op.bytesLess, Bool.or_eq_true, decide_eq_true_eq, Bool.and_eq_true, beq_iff_eq] at h k ⊢
    rcases h with h | ⟨rfl, h⟩
    · rcases k with k | ⟨rfl, _⟩
      · exact Or.inl (UInt8.lt_trans h k)
      · exact Or.inl h
    · rcases k with k | ⟨rfl, k⟩
      · exact Or.inl k
      · exact Or.inr ⟨rfl, bl_trans x y z h k⟩
theorem bl_ntrans {x y z : List UInt8} (h : Op.bytesLess x y = false) (k : Op.bytesLess y z = false) : Op.bytesLess x z = false := by
  cases hz : Op.bytesLess x z
  · rfl
  · exfalso
    have ht := bl_total x y
    rw [h] at ht
    by_cases e : x = y
    · subst e; rw [hz] at k; cases k
    · have : (x == y) = false := by simpa using e
      rw [this] at ht
      have hyx : Op.bytesLess y x = true := by rw [← ht]; rfl
      have := bl_trans y x z hyx hz
      rw [this] at k
      cases k

theorem le_trans {a b c : V} (h : less b a = false) (k : less c b = false) : less c a = false := by
  unfold less at *
  by_cases h1 : b.k = a.k
  · rw [if_pos h1] at h
    by_cases h2 : c.k = b.k
    · rw [if_pos h2] at k
      rw [if_pos (h2.trans h1)]
      by_cases h3 : b.k = 3
      · rw [if_pos h3] at h
        rw [if_pos (by omega)] at k ⊢
        exact bl_ntrans k h
      · rw [if_neg h3] at h
        rw [if_neg (by omega)] at k ⊢
        simp at h k ⊢
        omega
    · rw [if_neg h2] at k
      rw [if_neg (by omega)]
      simp at k ⊢
      omega
  · rw [if_neg h1] at h
    by_cases h2 : c.k = b.k
    · rw [if_neg (by omega)]
      simp at h ⊢
      omega
    · rw [if_neg h2] at k
      simp at h k
      by_cases h3 : c.k = a.k
      · omega
      · rw [if_neg h3]
        simp
        omega

theorem key_one {a b : V} (ha : isK a = true) (hb : isK b = true) (h : less a b = false) (k : less b a = false) : a = b := by
  have hk : ko a b = 0 := by unfold ko; simp [ha, hb, h, k]
  have h2 : ko a b ≠ 2 := by omega
  have := ko_zero h2
  rw [hk] at this
  exact eqV_iff.1 (by rw [← this]; rfl)

def SortW (K : Nat → V) (ls : List Nat) : Prop := ls.Pairwise fun a b => less (K b) (K a) = false

theorem SortW.ins {K : Nat → V} {A B : List Nat} {x : Nat} (h : SortW K (A ++ B)) (hB : ∀ y ∈ B, less (K x) (K y) = true) (hA : ∀ y, A.getLast? = some y → less (K x) (K y) = false) : SortW K (A ++ x :: B) := by
  obtain ⟨h1, h2, h3⟩ := List.pairwise_append.1 h
  refine List.pairwise_append.2 ⟨h1, List.pairwise_cons.2 ⟨fun y hy => less_asymm (hB y hy), h2⟩, fun a ha b hb => ?_⟩
  rcases List.mem_cons.1 hb with rfl | hb
  · obtain ⟨A', y, rfl⟩ : ∃ A' y, A = A' ++ [y] := by
      rcases List.eq_nil_or_concat A with rfl | ⟨A', y, rfl⟩
      · cases ha
      · exact ⟨A', y, by simp⟩
    have hl := hA y (by simp)
    rcases List.mem_append.1 ha with ha' | ha'
    · exact le_trans ((List.pairwise_append.1 h1).2.2 a ha' y (by simp)) hl
    · simp at ha'; subst ha'; exact hl
  · exact h3 a ha b hb

structure SortI (K : Nat → V) (L : Nat) (ls : List Nat) : Prop where
  perm : ls.Perm (List.range L)
  sort : SortW K ls
theorem SortI.len {K : Nat → V} {L : Nat} {ls : List Nat} (h : SortI K L ls) : ls.length = L := by rw [h.perm.length_eq]; simp
theorem SortI.lt {K : Nat → V} {L : Nat} {ls : List Nat} (h : SortI K L ls) {i : Nat} (hi : i < L) : ls.getD i 0 < L := by
  rw [List.getD_eq_getElem?_getD, List.getElem?_eq_getElem (by rw [h.len]; exact hi)]
  exact List.mem_range.1 (h.perm.subset (List.getElem_mem _))
end Go.Proofs.YtgflalfiopnmnaaGreatDoor
