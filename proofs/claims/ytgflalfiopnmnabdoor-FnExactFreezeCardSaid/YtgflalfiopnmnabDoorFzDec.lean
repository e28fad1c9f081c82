import Derived.Test.YtgflalfiopnmnabDoorFzSq
namespace Go.Proofs.YtgflalfiopnmnabDoor
open Go.RowKit Vl

/-- The digits of a number, none of 0. -/
def dgs (u : Nat) : List UInt8 := if u = 0 then [] else Lib.decDigits u
theorem dgs_step {u : Nat} (h : 0 < u) : dgs u = dgs (u / 10) ++ [UInt8.ofNat (48 + u % 10)] := by
  unfold dgs
  rw [if_neg (by omega), Lib.decDigits]
  by_cases h10 : u < 10
  · rw [dif_pos h10, if_pos (by omega), show u % 10 = u by omega]; rfl
  · rw [dif_neg h10, if_neg (by omega)]
theorem dgs_len {u : Nat} (h : u ≤ 9223372036854775808) : (dgs u).length ≤ 19 := by
  unfold dgs
  split
  · simp
  · exact dec_len 18 u (by omega)

/-- The digits so far. -/
structure Dc (n m : Int) (D : List UInt8) : Prop where
  eq : dgs m.natAbs ++ D.reverse = dgs n.natAbs
  neg : n < 0 → m ≤ 0
  pos : 0 ≤ n → 0 ≤ m
  le : m.natAbs ≤ n.natAbs
theorem Dc.len {n m : Int} {D : List UInt8} (h : Dc n m D) (h0 : -9223372036854775808 ≤ n) (h1 : n ≤ 9223372036854775807) : D.length ≤ 19 := by
  have h2 := congrArg List.length h.eq
  rw [List.length_append, List.length_reverse] at h2
  have h3 := dgs_len (u := n.natAbs) (by omega)
  omega
theorem Dc.next {n m m' : Int} {D : List UInt8} (h : Dc n m D) (hm : m ≠ 0) (hm' : m'.natAbs = m.natAbs / 10) (s1 : m ≤ 0 → m' ≤ 0) (s2 : 0 ≤ m → 0 ≤ m') : Dc n m' (D ++ [UInt8.ofNat (48 + m.natAbs % 10)]) := by
  refine ⟨?_, fun h' => s1 (h.neg h'), fun h' => s2 (h.pos h'), by have := h.le; omega⟩
  rw [hm', List.reverse_append, ← h.eq, dgs_step (u := m.natAbs) (by omega)]
  simp
theorem itoa_eq {n : Int} (h : n ≠ 0) : Lib.itoa n = (if n < 0 then [45] else []) ++ dgs n.natAbs := by
  unfold Lib.itoa dgs
  rw [if_neg (show ¬ n.natAbs = 0 by omega)]
  split
  · rfl
  · rw [show n.toNat = n.natAbs by omega]; rfl

theorem add0 (g i : Nat) : (⟨g, 0, none⟩ : Addr).add i = ⟨g, i, none⟩ := by
  unfold Addr.add
  by_cases h : i = 0 <;> simp [h]
/-- The loop's state. -/
structure DcR (n m : Int) (D : List UInt8) (w wr : World) (dv : Value) : Prop where
  dc : Dc n m D
  sq : SqR w wr dv D

set_option maxHeartbeats 4000000 in
set_option maxRecDepth 100000 in
/-- 'l4decimal'. -/
theorem l4decimal_any (n : Int) (h0 : -9223372036854775808 ≤ n) (h1 : n ≤ 9223372036854775807) (w : World) : Calls Tryd.prog 40 #[.int .i64 n] w fun e w' => e = .returned (.string ⟨(Lib.itoa n).toArray⟩) ∧ Below w.heap.size w w' := by
  by_cases hn : n = 0
  · subst hn
    have HE : Hid ((⟨(Lib.itoa 0).toArray⟩ : ByteArray) = ⟨#[48]⟩) := by
      have : Lib.itoa 0 = [48] := by unfold Lib.itoa; rw [if_neg (by omega), Lib.decDigits, dif_pos (by decide)]; rfl
      rw [this]
      exact rfl
    rw [HE.out]
    clear h0 h1
    go_enter Tryd.func40, Tryd.ntmps40
    go_wp2
    go_ret
    exact ⟨rfl, Below.refl _ _⟩
  · have hne : (n == 0) = false := by simpa using hn
    have HN : Hid (n ≠ 0) := hn
    have HR0 : Hid (DcR n n [] w w (.slice none 0 0)) := ⟨⟨by simp, fun h => by omega, fun h => h, Nat.le_refl _⟩, ⟨World.ownsRow_nil _ _ _ _, Below.refl _ _⟩⟩
    have H0 : Hid (-9223372036854775808 ≤ n) := h0
    have H1 : Hid (n ≤ 9223372036854775807) := h1
    obtain ⟨i0, hi, hz0, hz1, hz2⟩ := info_parts Tryd.infoU8
    obtain ⟨ng, hng⟩ : ∃ ng, decide (n < 0) = ng := ⟨_, rfl⟩
    have HNG : Hid (decide (n < 0) = ng) := hng
    clear h0 h1
    go_enter Tryd.func40, Tryd.ntmps40
    go_wp2
    go_loopw [0, 4] (fun nv dv wr => ∃ (m : Int) (D : List UInt8), nv = .int .i64 m ∧ Hid (DcR n m D w wr dv)) (fun nv _ _ => (intOf nv).natAbs)
    case atStart => exact ⟨n, [], rfl, HR0⟩
    case round =>
      obtain ⟨m, D, rfl, HR⟩ := hrel
      clear HR0
      obtain ⟨oa, oc, rfl, _⟩ := owns_form HR.out.sq.own
      have hDl := HR.out.dc.len H0.out H1.out
      have hsz : w.heap.size ≤ wr.heap.size := HR.out.sq.bel.size
      have hmr : -9223372036854775808 ≤ m ∧ m ≤ 9223372036854775807 := by
        have := HR.out.dc.le
        have := H0.out
        have := H1.out
        have := HR.out.dc.neg
        have := HR.out.dc.pos
        omega
      by_cases hm : m = 0
      · subst hm
        obtain ⟨wz, rfl⟩ : ∃ wz, wz = wr := ⟨_, rfl⟩
        have HDn : Hid (D.reverse = dgs n.natAbs) := by
          have h := HR.out.dc.eq
          rw [show dgs (0 : Int).natAbs = [] from rfl, List.nil_append] at h
          exact h
        have hk0 : 0 < D.length := by
          have h2 := congrArg List.length HDn.out
          have h3 : 0 < (dgs n.natAbs).length := by
            rw [dgs_step (u := n.natAbs) (by have := HN.out; omega)]
            simp
          rw [List.length_reverse] at h2
          omega
        have hown := HR.out.sq.own
        obtain ⟨g, hoa⟩ : ∃ g, oa = some ⟨g, 0, none⟩ := by
          rcases hown.2 with ⟨_, hz⟩ | ⟨g, cap, cur, hv, _⟩
          · omega
          · simp at hv; exact ⟨g, hv.1⟩
        subst hoa
        have HCell : Hid (∀ i x, D[i]? = some x → wz.cell? ⟨g, i, none⟩ = some (.int .u8 (x.toNat : Int))) := fun i x hx => by
          have := hown.cells (g := g) rfl i (.int .u8 (x.toNat : Int)) (by simp [Lib.byteCells, hx])
          rw [add0] at this
          exact this
        have hgl : g < wz.heap.size := by
          obtain ⟨_, _, _, h⟩ := owns_form hown
          exact (h g (by simp [Value.ownBlock])).2
        have hwk : wrap64 ((D.length : Int) - 1) = (D.length : Int) - 1 := by unfold wrap64; omega
        clear hown hng hne hi hz0 hz1 hz2
        by_cases hneg : n < 0
        · rw [decide_eq_true hneg] at HNG
          obtain rfl := HNG.out
          have HIT : Hid (Lib.itoa n = [45] ++ D.reverse) := by rw [HDn.out, itoa_eq HN.out, if_pos hneg]; exact rfl
          clear hneg
          go_wp2
          go_loopw [6, 7] (fun ov iv wq => ∃ (j : Nat) (s : ByteArray), j ≤ D.length ∧ iv = .int .i64 ((D.length : Int) - 1 - j) ∧ ov = .string s ∧ Hid (s.data.toList = [45] ++ D.reverse.take j) ∧ Hid (Below wz.heap.size wz wq)) (fun _ iv _ => (intOf iv + 1).toNat)
          case atStart => exact ⟨0, _, Nat.zero_le _, by first | rfl | simp, rfl, rfl, Below.refl _ _⟩
          case round =>
            obtain ⟨j, s, hj, rfl, rfl, HSd, HBq⟩ := hrel
            by_cases hlt : j < D.length
            · obtain ⟨ii, hii⟩ : ∃ ii : Nat, (D.length : Int) - 1 - j = ii := ⟨D.length - 1 - j, by omega⟩
              obtain ⟨x, hx⟩ : ∃ x, D[ii]? = some x := ⟨D[ii]'(by omega), List.getElem?_eq_getElem _⟩
              have hcell : wr.cell? ⟨g, ii, none⟩ = some (.int .u8 (x.toNat : Int)) := (HBq.out.cell (p := ⟨g, ii, none⟩) hgl).trans (HCell.out ii x hx)
              have HT : Hid (D.reverse.take (j + 1) = D.reverse.take j ++ [x]) := by
                show _ = _
                have hr : D.reverse[j]? = some x := by
                  rw [List.getElem?_reverse hlt, show D.length - 1 - j = ii by omega]
                  exact hx
                rw [List.take_add_one, hr]
                rfl
              have hss : s.size ≤ 25 := by
                have hpl : ([45] : List UInt8).length ≤ 1 := by decide
                rw [← str_len, HSd.out, List.length_append, List.length_take, List.length_reverse]
                omega
              obtain ⟨dg, hdg⟩ : ∃ dg : ByteArray, ⟨[x].toArray⟩ = dg := ⟨_, rfl⟩
              have hcv := own_string (w := wr.alloc (.cells #[.int .u8 (x.toNat : Int)] 5)) (base := 0) (v := .slice (some ⟨wr.heap.size, 0, none⟩) 1 1) (D := [x]) ⟨rfl, Or.inr ⟨wr.heap.size, 1, #[.int .u8 (x.toNat : Int)], rfl, Nat.zero_le _, heap_alloc_new _ _, Nat.le_refl 1, by unfold maxLen; omega, rfl, rfl⟩⟩ (by simp)
              rw [hdg] at hcv
              have hds : dg.size = 1 := by rw [← hdg]; rfl
              have HDG : Hid (dg.data.toList = [x]) := by rw [← hdg]; exact rfl
              rw [hii]
              have hge : (0 : Int) ≤ (ii : Int) := by omega
              have hbd : (ii : Int) < (D.length : Int) := by omega
              have hwi : wrap64 ((ii : Int) - 1) = (ii : Int) - 1 := by unfold wrap64; omega
              clear hdg hx
              go_wp2
              go_roundw
              case rel =>
                refine ⟨j + 1, s ++ dg, by omega, by first | (congr 1; omega) | (rw [hwi]; congr 1; omega), rfl, ?_, HBq.out.alloc HBq.out.size _⟩
                show _ = _
                rw [HT.out, ← List.append_assoc, ← HSd.out, ← HDG.out]
                simp
              case measure => simp [intOf] <;> omega
            · obtain rfl : j = D.length := by omega
              have HFin : Hid ((⟨(Lib.itoa n).toArray⟩ : ByteArray) = s) := by
                have h1 := HSd.out
                rw [List.take_of_length_le (by simp), ← HIT.out] at h1
                rw [← h1]
                exact rfl
              have hlo : ¬ ((0 : Int) ≤ (D.length : Int) - 1 - (D.length : Nat)) := by omega
              have HBE : Hid (Below w.heap.size w wr) := HR.out.sq.bel.trans (HBq.out.mono hsz)
              go_wp2
              go_ret
              exact ⟨by rw [HFin.out]; rfl, HBE.out⟩
        · rw [decide_eq_false hneg] at HNG
          obtain rfl := HNG.out
          have HIT : Hid (Lib.itoa n = [] ++ D.reverse) := by rw [HDn.out, itoa_eq HN.out, if_neg hneg]; exact rfl
          clear hneg
          go_wp2
          go_loopw [6, 7] (fun ov iv wq => ∃ (j : Nat) (s : ByteArray), j ≤ D.length ∧ iv = .int .i64 ((D.length : Int) - 1 - j) ∧ ov = .string s ∧ Hid (s.data.toList = [] ++ D.reverse.take j) ∧ Hid (Below wz.heap.size wz wq)) (fun _ iv _ => (intOf iv + 1).toNat)
          case atStart => exact ⟨0, _, Nat.zero_le _, by first | rfl | simp, rfl, rfl, Below.refl _ _⟩
          case round =>
            obtain ⟨j, s, hj, rfl, rfl, HSd, HBq⟩ := hrel
            by_cases hlt : j < D.length
            · obtain ⟨ii, hii⟩ : ∃ ii : Nat, (D.length : Int) - 1 - j = ii := ⟨D.length - 1 - j, by omega⟩
              obtain ⟨x, hx⟩ : ∃ x, D[ii]? = some x := ⟨D[ii]'(by omega), List.getElem?_eq_getElem _⟩
              have hcell : wr.cell? ⟨g, ii, none⟩ = some (.int .u8 (x.toNat : Int)) := (HBq.out.cell (p := ⟨g, ii, none⟩) hgl).trans (HCell.out ii x hx)
              have HT : Hid (D.reverse.take (j + 1) = D.reverse.take j ++ [x]) := by
                show _ = _
                have hr : D.reverse[j]? = some x := by
                  rw [List.getElem?_reverse hlt, show D.length - 1 - j = ii by omega]
                  exact hx
                rw [List.take_add_one, hr]
                rfl
              have hss : s.size ≤ 25 := by
                have hpl : ([] : List UInt8).length ≤ 1 := by decide
                rw [← str_len, HSd.out, List.length_append, List.length_take, List.length_reverse]
                omega
              obtain ⟨dg, hdg⟩ : ∃ dg : ByteArray, ⟨[x].toArray⟩ = dg := ⟨_, rfl⟩
              have hcv := own_string (w := wr.alloc (.cells #[.int .u8 (x.toNat : Int)] 5)) (base := 0) (v := .slice (some ⟨wr.heap.size, 0, none⟩) 1 1) (D := [x]) ⟨rfl, Or.inr ⟨wr.heap.size, 1, #[.int .u8 (x.toNat : Int)], rfl, Nat.zero_le _, heap_alloc_new _ _, Nat.le_refl 1, by unfold maxLen; omega, rfl, rfl⟩⟩ (by simp)
              rw [hdg] at hcv
              have hds : dg.size = 1 := by rw [← hdg]; rfl
              have HDG : Hid (dg.data.toList = [x]) := by rw [← hdg]; exact rfl
              rw [hii]
              have hge : (0 : Int) ≤ (ii : Int) := by omega
              have hbd : (ii : Int) < (D.length : Int) := by omega
              have hwi : wrap64 ((ii : Int) - 1) = (ii : Int) - 1 := by unfold wrap64; omega
              clear hdg hx
              go_wp2
              go_roundw
              case rel =>
                refine ⟨j + 1, s ++ dg, by omega, by first | (congr 1; omega) | (rw [hwi]; congr 1; omega), rfl, ?_, HBq.out.alloc HBq.out.size _⟩
                show _ = _
                rw [HT.out, ← List.append_assoc, ← HSd.out, ← HDG.out]
                simp
              case measure => simp [intOf] <;> omega
            · obtain rfl : j = D.length := by omega
              have HFin : Hid ((⟨(Lib.itoa n).toArray⟩ : ByteArray) = s) := by
                have h1 := HSd.out
                rw [List.take_of_length_le (by simp), ← HIT.out] at h1
                rw [← h1]
                exact rfl
              have hlo : ¬ ((0 : Int) ≤ (D.length : Int) - 1 - (D.length : Nat)) := by omega
              have HBE : Hid (Below w.heap.size w wr) := HR.out.sq.bel.trans (HBq.out.mono hsz)
              go_wp2
              go_ret
              exact ⟨by rw [HFin.out]; rfl, HBE.out⟩
      · have hm1 : (m != 0) = true := by simpa using hm
        have HM : Hid (m ≠ 0) := hm
        obtain ⟨d, hd⟩ : ∃ d : Int, m.tmod 10 = d := ⟨_, rfl⟩
        obtain ⟨m', hm'⟩ : ∃ m' : Int, m.tdiv 10 = m' := ⟨_, rfl⟩
        obtain ⟨ev, hev⟩ : ∃ ev : Nat, 48 + m.natAbs % 10 = ev := ⟨_, rfl⟩
        have hev2 : 48 ≤ ev ∧ ev < 58 := by omega
        have HEV : Hid ((UInt8.ofNat ev).toNat = ev) := by show _ = _; rw [UInt8.toNat_ofNat']; omega
        have key : m.natAbs % 10 = d.natAbs ∧ m'.natAbs = m.natAbs / 10 ∧ (m ≤ 0 → m' ≤ 0 ∧ d ≤ 0) ∧ (0 ≤ m → 0 ≤ m' ∧ 0 ≤ d) := by
          rcases Int.le_total 0 m with hs | hs
          · obtain ⟨u, rfl⟩ : ∃ u : Nat, m = u := ⟨m.toNat, by omega⟩
            have e1 : ((u : Int).tmod 10) = ((u % 10 : Nat) : Int) := (Int.ofNat_tmod u 10).symm
            have e2 : ((u : Int).tdiv 10) = ((u / 10 : Nat) : Int) := (Int.ofNat_tdiv u 10).symm
            omega
          · obtain ⟨u, rfl⟩ : ∃ u : Nat, m = -(u : Int) := ⟨m.natAbs, by omega⟩
            have e1 : ((-(u : Int)).tmod 10) = -((u % 10 : Nat) : Int) := by rw [Int.neg_tmod]; exact congrArg Neg.neg (Int.ofNat_tmod u 10).symm
            have e2 : ((-(u : Int)).tdiv 10) = -((u / 10 : Nat) : Int) := by rw [Int.neg_tdiv]; exact congrArg Neg.neg (Int.ofNat_tdiv u 10).symm
            omega
        have HNx : Hid (Dc n m' (D ++ [UInt8.ofNat ev])) := by rw [← hev]; exact HR.out.dc.next hm key.2.1 (fun h => (key.2.2.1 h).1) (fun h => (key.2.2.2 h).1)
        have hms : Hid (m'.natAbs < m.natAbs) := show _ < _ by omega
        have hdv : (d : Int).natAbs = ev - 48 := by omega
        have hmw : wrap64 m' = m' := by unfold wrap64; omega
        clear key hev
        by_cases hd0 : d < 0
        · have hw1 : IntKind.i64.wrap (-d) = (ev : Int) - 48 := by rw [IntKind.wrap_i64]; omega
          have hw2 : IntKind.i64.wrap (48 + ((ev : Int) - 48)) = (ev : Int) := by rw [IntKind.wrap_i64]; omega
          have hw3 : IntKind.u8.wrap (ev : Int) = (ev : Int) := wrapU8 (by omega) (by omega)
          go_wp2_with (at_builtin; refine wpList_append_lies _ (by rfl) _ _ 59 (by rfl) w.heap.size 5 i0 (.int .u8 0) 1 1 Tryd.underlying59 hi hz0 hz1 hz2 (by rfl) (by omega) (.slice oa D.length oc) D.length (Lib.byteCells D) (by rfl) (HR.out.sq.own.alloc _) ⟨wr.heap.size, 0, none⟩ 1 1 [.int .u8 (ev : Int)] (by rfl) (by rfl) (World.news_of_block (heap_alloc_new wr _)) (by intro u hu; simp at hu; subst hu; rfl) (by omega) (by unfold maxLen; omega) (by omega) (by simp; omega) (wr.heap.size + 1) (by simp) ?_)
          intro g cap w3 hown hgrow hat hlt3
          have hown' : w3.ownsRow w.heap.size 5 1 (.slice (some ⟨g, 0, none⟩) (D.length + 1) cap) (D.length + 1) (Lib.byteCells D ++ Lib.byteCells [UInt8.ofNat ev]) := by
            have e : Lib.byteCells [UInt8.ofNat ev] = [.int .u8 (ev : Int)] := by simp only [Lib.byteCells, List.map_cons, List.map_nil, HEV.out]
            rw [e]
            exact hown
          have HR3 : Hid (DcR n m' (D ++ [UInt8.ofNat ev]) w w3 _) := ⟨HNx.out, HR.out.sq.next (cs := [UInt8.ofNat ev]) (m := 1) rfl hgrow hown'⟩
          clear hown hown' hgrow hat
          go_wp2
          go_roundw
          case rel => exact ⟨m', _, by rw [hmw], HR3⟩
          case measure => show (wrap64 m').natAbs < m.natAbs; rw [hmw]; exact hms.out
        · have hw1 : d = (ev : Int) - 48 := by omega
          subst hw1
          have hw2 : IntKind.i64.wrap (48 + ((ev : Int) - 48)) = (ev : Int) := by rw [IntKind.wrap_i64]; omega
          have hw3 : IntKind.u8.wrap (ev : Int) = (ev : Int) := wrapU8 (by omega) (by omega)
          go_wp2_with (at_builtin; refine wpList_append_lies _ (by rfl) _ _ 59 (by rfl) w.heap.size 5 i0 (.int .u8 0) 1 1 Tryd.underlying59 hi hz0 hz1 hz2 (by rfl) (by omega) (.slice oa D.length oc) D.length (Lib.byteCells D) (by rfl) (HR.out.sq.own.alloc _) ⟨wr.heap.size, 0, none⟩ 1 1 [.int .u8 (ev : Int)] (by rfl) (by rfl) (World.news_of_block (heap_alloc_new wr _)) (by intro u hu; simp at hu; subst hu; rfl) (by omega) (by unfold maxLen; omega) (by omega) (by simp; omega) (wr.heap.size + 1) (by simp) ?_)
          intro g cap w3 hown hgrow hat hlt3
          have hown' : w3.ownsRow w.heap.size 5 1 (.slice (some ⟨g, 0, none⟩) (D.length + 1) cap) (D.length + 1) (Lib.byteCells D ++ Lib.byteCells [UInt8.ofNat ev]) := by
            have e : Lib.byteCells [UInt8.ofNat ev] = [.int .u8 (ev : Int)] := by simp only [Lib.byteCells, List.map_cons, List.map_nil, HEV.out]
            rw [e]
            exact hown
          have HR3 : Hid (DcR n m' (D ++ [UInt8.ofNat ev]) w w3 _) := ⟨HNx.out, HR.out.sq.next (cs := [UInt8.ofNat ev]) (m := 1) rfl hgrow hown'⟩
          clear hown hown' hgrow hat
          go_wp2
          go_roundw
          case rel => exact ⟨m', _, by rw [hmw], HR3⟩
          case measure => show (wrap64 m').natAbs < m.natAbs; rw [hmw]; exact hms.out

end Go.Proofs.YtgflalfiopnmnabDoor
