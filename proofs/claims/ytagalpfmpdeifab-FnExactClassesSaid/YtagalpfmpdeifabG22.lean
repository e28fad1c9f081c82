import Derived.Test.YtagalpfmpdeifabG21
import Derived.BigQuiet
import Derived.WalkSmall
namespace Go.Proofs.Ytagalpfmpdeifab
open Go.RowKit Vl

/-- Whether a class has turned. -/
def MoreIs (mv : Value) (i : Nat) (nx cl : Nat → Nat) : Prop := ∃ bm, mv = .bool bm ∧ (bm = true ↔ ∃ j, j < i ∧ nx j ≠ cl j)

/-- The asking of one table's class, down to k. -/
def AskIs (L : Nat → Nat) (K X : Nat → Nat → V) (cl nx : Nat → Nat) (n nb j : Nat) (wn : World) (kk : Value) (wk : World) : Prop :=
  ∃ (k v : Nat) (z : Int), kk = .int .i64 z ∧ Hid (z = (k : Int) - 1) ∧ k ≤ j ∧ Hid (Found L K X cl nx j k v) ∧ Hid (wk.rowIs nb 3 n (fun q => if q = j then .int .i64 (v : Nat) else if q < j then .int .i64 (nx q : Nat) else .int .i64 ((0 : Nat) : Int))) ∧ Hid (Only (fun k => k = nb) wn wk)

set_option maxHeartbeats 8000000 in
set_option maxRecDepth 100000 in
/-- 'l3classes'. -/
theorem l3classes_any (ta : Option Addr) (n cp TB TO : Nat) (A : Nat → Option Addr) (L C RB RO : Nat → Nat) (K X : Nat → Nat → V) (w : World) (hn : n ≤ 400) (HL : Hid (∀ r, r < n → L r ≤ 100)) (HZ : Hid (∀ r, r < n → ∀ c, c < L r → (K r c).s.size ≤ 9223372036854775807)) (HG : Hid (Good n L X)) (HT : Hid (TabsAt w ta n TB TO A L C RB RO K X)) :
    Calls Try.prog 62 #[.slice ta n cp] w fun e w' => (∃ (g : Nat) (f : Nat → Nat) (ls : Nat → List Nat), e = .returned (.slice (some ⟨g, 0, none⟩) n n) ∧ w.heap.size ≤ g ∧ w'.rowIs g 3 n (fun i => .int .i64 (f i : Nat)) ∧ (∀ r, r < n → SortI (K r) (L r) (ls r)) ∧ IsCls n L (sK K ls) (sK X ls) f) ∧ Below w.heap.size w w' := by
  obtain ⟨it, hti, ht0, ht1, ht2⟩ := info_parts Try.info61
  have hmk := run_make_n 51 3 _ 1 8 Try.underlying51 Try.infoN n (by omega) (by omega)
  simp only [Nat.mul_one] at hmk
  go_enter Try.func62, Try.ntmps62
  go_wp2
  go_loopw [3, 13] (fun sv ii wr => ∃ (i : Nat) (PV : Nat → Value) (ls : Nat → List Nat), i ≤ n ∧ ii = .int .i64 i ∧ Hid (∀ r, r < i → SortI (K r) (L r) (ls r)) ∧ Hid (OTab wr w.heap.size sv i PV L (sK K ls) (sK X ls)) ∧ Hid (Below w.heap.size w wr)) (fun _ ii _ => n - (intOf ii).toNat)
  case atStart => exact ⟨0, fun _ => .nilIface, fun _ => [], Nat.zero_le _, rfl, fun r hr => absurd hr (Nat.not_lt_zero _), OTab.nil _ _ _ _ _ _, Below.refl _ _⟩
  case round =>
    obtain ⟨i, PV, ls, hi, rfl, HLs, HO, HB⟩ := hrel
    obtain ⟨sa, sc, rfl, hsk⟩ := owns_form HO.out.own
    by_cases hlt : i < n
    · have hta := HT.out.top (by omega)
      subst hta
      have t0 := (HT.out.below HB.out).tab i hlt
      obtain ⟨pa, hpa⟩ : ∃ a, A i = a := ⟨_, rfl⟩
      rw [hpa] at t0
      have HP : Hid (PairsAt w pa (L i) (RB i) (RO i) (K i) (X i)) := hpa ▸ HT.out.row i hlt
      obtain ⟨wt, hwt⟩ : ∃ wt, wt = wr.alloc (.cells #[.slice pa (L i) (C i)] 61) := ⟨_, rfl⟩
      have hbt : Below wr.heap.size wr wt := by rw [hwt]; exact (Below.refl _ _).alloc (Nat.le_refl _) _
      have HBt : Hid (Below w.heap.size w wt) := grw HB.out hbt
      have HOt : Hid (OTab wt w.heap.size (.slice sa i sc) i PV L (sK K ls) (sK X ls)) := HO.out.below hbt
      have hcall := l3sorted_any pa (L i) (C i) (RB i) (RO i) (K i) (X i) wt (by have := HL.out i hlt; omega) (HZ.out i hlt) (HP.out.below HBt.out)
      have HN2 : Hid (∀ j, j < i → ∀ g, (PV j).ownBlock = some g → g < wt.heap.size) := show ∀ j, _ from fun j hj g hg => by obtain ⟨_, _, _, h⟩ := owns_form (HOt.out.rows j hj); exact (h g hg).2
      clear hsk hbt HO HB hpa hmk
      go_wp2_with fail
      rw [← hwt]
      refine hcall.mono ?_
      clear hcall hwt t0
      rintro e w2 ⟨⟨pa', pc, lr, rfl, hsr, hown⟩, hb2⟩
      have HSR : Hid (SortI (K i) (L i) lr) := hsr
      have HO2 : Hid (OTab w2 w.heap.size (.slice sa i sc) i PV L (sK K ls) (sK X ls)) := HOt.out.below hb2
      have HB2 : Hid (Below w.heap.size w w2) := grw HBt.out hb2
      have HP2 : Hid (w2.ownsRow wt.heap.size 63 8 (.slice pa' (L i) pc) (L i) (pairCells (byI (K i) lr) (byI (X i) lr) (L i))) := hown
      have hs2 : w.heap.size ≤ wt.heap.size := HBt.out.size
      have hs2' : wt.heap.size ≤ w2.heap.size := hb2.size
      clear hown hsr hb2 HOt HBt
      go_wp2_with (at_builtin; refine wpList_append_lies _ (by rfl) (.tmp 17) (.tmp 20) 30 (by rfl) w.heap.size 61 it (.agg #[.slice none 0 0]) 1 24 Try.underlying30 hti ht0 ht1 ht2 (by rfl) (by omega) (.slice sa i sc) i ((List.range i).map PV) (by rfl) (HO2.out.own.alloc _) ⟨w2.heap.size, 0, none⟩ 1 1 [.slice pa' (L i) pc] (by rfl) (by rfl) ?c1 ?c2 (by omega) ?c3 ?c4 ?c5 (w2.heap.size + 1) ?c6 ?_)
      case c1 => exact World.news_of_block (heap_alloc_new w2 _)
      case c2 => intro u hu; simp at hu; subst hu; rfl
      case c3 => unfold maxLen; omega
      case c4 => omega
      case c5 => simp; omega
      case c6 => simp
      intro g cap w7 hown7 hgrow7 hat7 hlt7
      obtain ⟨hT7, hB7⟩ := HO2.out.more (owns_mono HP2.out (by omega)) (fun j hj g hg e => by
        obtain ⟨_, _, _, h⟩ := owns_form HP2.out
        have h1 := (h g e).1
        have h2 := HN2.out j hj g hg
        omega) _ (by omega) hown7 hgrow7
      have HT7 : Hid (OTab w7 w.heap.size (.slice (some ⟨g, 0, none⟩) (i + 1) cap) (i + 1) (fun j => if j = i then .slice pa' (L i) pc else PV j) L (sK K (fun j => if j = i then lr else ls j)) (sK X (fun j => if j = i then lr else ls j))) := hT7.congr (fun j hj => by
          by_cases e : j = i
          · subst e; simp only [if_true]
          · simp only [e, if_false]) (fun j hj c' hc' => by
          unfold sK
          by_cases e : j = i
          · subst e; simp only [if_true]; exact ⟨trivial, trivial⟩
          · simp only [e, if_false]; exact ⟨trivial, trivial⟩)
      have HB7 : Hid (Below w.heap.size w w7) := HB2.out.trans hB7
      have HLs' : Hid (∀ r, r < i + 1 → SortI (K r) (L r) ((fun j => if j = i then lr else ls j) r)) := show ∀ r, _ from fun r hr => by
        by_cases e : r = i
        · subst e; simp only [if_true]; exact HSR.out
        · simp only [e, if_false]; exact HLs.out r (by omega)
      clear hT7 hB7 hown7 hgrow7 hat7 hlt7 HO2 HB2 HP2
      go_wp2
      go_roundw
      case rel => exact ⟨i + 1, _, _, by omega, by go_num, HLs', HT7, HB7⟩
      case measure => simp [intOf]; omega
    · obtain rfl : i = n := by omega
      clear hti ht0 ht1 ht2
      have HR0 : Hid ((wr.alloc (.cells (madeCells #[.int .i64 0] i) 3)).rowIs wr.heap.size 3 i (fun _ => .int .i64 ((0 : Nat) : Int))) := (row_made wr #[.int .i64 0] i 3).congr (fun j _ => by simp [Nat.mod_one])
      obtain ⟨ws, hws⟩ : ∃ ws, ws = wr := ⟨_, rfl⟩
      rw [← hws] at HO HB HR0
      have hsw : w.heap.size ≤ ws.heap.size := HB.out.size
      have HSV : Hid (∀ r, r < i → ∀ c, c < L r → isV i (sK X ls r c) = true) := show ∀ r, _ from fun r hr c hc => HG.out r hr _ ((HLs.out r hr).lt hc)
      have HGs : Hid (Good i L (sK X ls)) := HSV
      go_wp2
      rw [← hws]
      clear hws
      go_loopw [6] (fun cv wq => ∃ (g : Nat) (cl : Nat → Nat), cv = .slice (some ⟨g, 0, none⟩) i i ∧ Hid (w.heap.size ≤ g) ∧ Hid (wq.rowIs g 3 i (fun j => .int .i64 (cl j : Nat))) ∧ Hid (OnWay i L (sK K ls) (sK X ls) cl) ∧ Hid (Below ws.heap.size ws wq)) (fun cv wq => i - reps i (clsIn wq cv))
      case atStart => exact ⟨ws.heap.size, fun _ => 0, rfl, hsw, HR0, ⟨fun _ _ => Nat.zero_le _, fun _ _ => rfl, fun _ _ _ _ _ => rfl⟩, (Below.refl _ _).alloc (Nat.le_refl _) _⟩
      case round =>
        obtain ⟨g, cl, rfl, HGe, HCr, HOw, HBq⟩ := hrel
        clear HR0
        obtain ⟨wq, hwq⟩ : ∃ wq, wq = wr := ⟨_, rfl⟩
        rw [← hwq] at HCr HBq
        obtain ⟨wn, hwn⟩ : ∃ wn, wn = wq.alloc (.cells (madeCells #[.int .i64 0] i) 3) := ⟨_, rfl⟩
        have hbn : Below wq.heap.size wq wn := by rw [hwn]; exact (Below.refl _ _).alloc (Nat.le_refl _) _
        have HRn : Hid (wn.rowIs wq.heap.size 3 i (fun _ => .int .i64 ((0 : Nat) : Int))) := by rw [hwn]; exact (row_made wq #[.int .i64 0] i 3).congr (fun j _ => by simp [Nat.mod_one])
        have HCn : Hid (wn.rowIs g 3 i (fun j => .int .i64 (cl j : Nat))) := HCr.out.of_block (hbn.block _ HCr.out.lt)
        have HBn : Hid (Below ws.heap.size ws wn) := grw HBq.out hbn
        have hgl : g < wq.heap.size := HCr.out.lt
        have hnl : ws.heap.size ≤ wq.heap.size := HBq.out.size
        obtain ⟨nb, hnb⟩ : ∃ nb, wq.heap.size = nb := ⟨_, rfl⟩
        have HOn : Hid (OTab wn w.heap.size (.slice sa i sc) i PV L (sK K ls) (sK X ls)) := HO.out.below HBn.out
        have HNB : Hid (∀ v : Value, (∃ t xs n s, ws.ownsRow w.heap.size t s v n xs) → v.ownBlock ≠ some nb) := show ∀ v, _ from fun v ⟨t, xs, n, s, h⟩ e => by
          obtain ⟨_, _, _, hk⟩ := owns_form h
          have := (hk _ e).2
          omega
        clear hbn
        go_wp2
        rw [← hwq]
        rw [← hwn]
        rw [hnb] at HRn hgl hnl ⊢
        have HWQ : Hid (wq = wr) := hwq
        clear hwn hwq hnb
        go_loopw [8, 31] (fun mv ii wi => ∃ (j : Nat) (nx : Nat → Nat), j ≤ i ∧ ii = .int .i64 j ∧ Hid (MoreIs mv j nx cl) ∧ Hid (Round j L (sK K ls) (sK X ls) cl nx) ∧ Hid (wi.rowIs nb 3 i (fun q => if q < j then .int .i64 (nx q : Nat) else .int .i64 ((0 : Nat) : Int))) ∧ Hid (Only (fun k => k = nb) wn wi)) (fun _ ii _ => i - (intOf ii).toNat)
        case atStart => exact ⟨0, fun _ => 0, Nat.zero_le _, rfl, ⟨false, rfl, by simp⟩, ⟨fun q hq => absurd hq (Nat.not_lt_zero _), fun q hq => absurd hq (Nat.not_lt_zero _), fun q hq => absurd hq (Nat.not_lt_zero _)⟩, HRn.out.congr (fun q _ => by rw [if_neg (by omega)]), Only.refl _ _⟩
        case round =>
          obtain ⟨j, nx, hj, rfl, HMo, HRo, HRw, HOl⟩ := hrel
          obtain ⟨bm, rfl, hbm⟩ := HMo.out
          have HBM : Hid (bm = true ↔ ∃ q, q < j ∧ nx q ≠ cl q) := hbm
          clear HMo hbm
          by_cases hlt : j < i
          · have n0 := HRw.out.cell hlt
            rw [if_neg (by omega)] at n0
            have nz := HRw.out.frozen
            have hbj : (0 : Int) ≤ (j : Int) ∧ (j : Int) < (i : Int) := by omega
            have hwj : IntKind.i64.wrap ((j : Int) - 1) = (j : Int) - 1 := by rw [IntKind.wrap_i64]; omega
            have HR1 : Hid ((wr.setCell ⟨nb, j, none⟩ (.int .i64 (j : Nat))).rowIs nb 3 i (fun q => if q = j then .int .i64 (j : Nat) else if q < j then .int .i64 (nx q : Nat) else .int .i64 ((0 : Nat) : Int))) := (HRw.out.set j _).congr (fun q _ => rfl)
            have HO1 : Hid (Only (fun k => k = nb) wn (wr.setCell ⟨nb, j, none⟩ (.int .i64 (j : Nat)))) := HOl.out.set rfl _
            clear HRw HOl
            go_wp2
            clear n0 nz
            go_loopw [10] (fun kk wk => AskIs L (sK K ls) (sK X ls) cl nx i nb j wn kk wk) (fun kk _ => (intOf kk + 1).toNat)
            case atStart => exact ⟨j, j, _, rfl, rfl, Nat.le_refl _, Found.start j, HR1, HO1⟩
            case round =>
              obtain ⟨k, v, z, rfl, HZk, hkj, HF, HRk, HOk⟩ := hrel
              clear HR1 HO1
              have HCk : Hid (wr.rowIs g 3 i (fun q => .int .i64 (cl q : Nat))) := HOk.out.rowIs HCn.out (by omega)
              have cj := HCk.out.cell hlt
              by_cases hk0 : k = 0
              · obtain rfl : z = -1 := by have := HZk.out; omega
                subst hk0
                have nj := HRk.out.cell hlt
                rw [if_pos rfl] at nj
                have HRg : Hid (Round (j + 1) L (sK K ls) (sK X ls) cl (fun q => if q = j then v else nx q)) := HRo.out.grow HF.out
                have HRx : Hid (wr.rowIs nb 3 i (fun q => if q < j + 1 then .int .i64 ((if q = j then v else nx q : Nat) : Int) else .int .i64 ((0 : Nat) : Int))) := HRk.out.congr (fun q _ => by
                  by_cases e : q = j
                  · subst e; rw [if_pos rfl, if_pos (by omega), if_pos rfl]
                  · rw [if_neg e, if_neg e]
                    by_cases h' : q < j
                    · rw [if_pos h', if_pos (by omega)]
                    · rw [if_neg h', if_neg (by omega)])
                by_cases hv : v = cl j
                · have hnv : ((v : Int) != (cl j : Int)) = false := by rw [hv]; simp
                  have HM' : Hid (MoreIs (.bool bm) (j + 1) (fun q => if q = j then v else nx q) cl) := ⟨bm, rfl, HBM.out.trans ⟨fun ⟨q, h1, h2⟩ => ⟨q, by omega, by show (if q = j then v else nx q) ≠ cl q; rw [if_neg (by omega)]; exact h2⟩, fun ⟨q, h1, h2⟩ => by
                    by_cases e : q = j
                    · subst e; have h3 : (if q = q then v else nx q) ≠ cl q := h2; rw [if_pos rfl] at h3; exact absurd hv h3
                    · have h3 : (if q = j then v else nx q) ≠ cl q := h2; rw [if_neg e] at h3; exact ⟨q, by omega, h3⟩⟩⟩
                  clear hv
                  go_wp2
                  go_quiet (fail)
                  go_wp2
                  go_roundw
                  case rel => exact ⟨j + 1, _, by omega, by go_num, HM', HRg, HRx.out.of_block rfl, HOk.out.trans (Only.below (below_drewN (Below.refl _ _) nq))⟩
                  case measure => simp [intOf]; omega
                · have hnv : ((v : Int) != (cl j : Int)) = true := by simp; omega
                  have HM' : Hid (MoreIs (.bool true) (j + 1) (fun q => if q = j then v else nx q) cl) := ⟨true, rfl, ⟨fun _ => ⟨j, by omega, by show (if j = j then v else nx j) ≠ cl j; rw [if_pos rfl]; exact hv⟩, fun _ => rfl⟩⟩
                  clear hv
                  go_wp2
                  go_quiet (fail)
                  go_wp2
                  go_roundw
                  case rel => exact ⟨j + 1, _, by omega, by go_num, HM', HRg, HRx.out.of_block rfl, HOk.out.trans (Only.below (below_drewN (Below.refl _ _) nq))⟩
                  case measure => simp [intOf]; omega
              · obtain ⟨m, rfl⟩ : ∃ m, k = m + 1 := ⟨k - 1, by omega⟩
                obtain rfl : z = (m : Int) := by have := HZk.out; omega
                have hmj : m < j := by omega
                have cm := HCk.out.cell (i := m) (by omega)
                have hbm : (0 : Int) ≤ (m : Int) ∧ (m : Int) < (i : Int) := by omega
                have hwm : IntKind.i64.wrap ((m : Int) - 1) = (m : Int) - 1 := by rw [IntKind.wrap_i64]; omega
                by_cases he : cl m = cl j
                · have hbe : ((cl m : Int) == (cl j : Int)) = true := by rw [he]; simp
                  have HE : Hid (cl m = cl j) := he
                  clear he
                  have HOt : Hid (OTab wr w.heap.size (.slice sa i sc) i PV L (sK K ls) (sK X ls)) := HOn.out.onlyB HOk.out (fun g' hg' e => HNB.out _ ⟨_, _, _, _, HO.out.own⟩ (by rw [hg', e])) (fun q hq g' hg' e => HNB.out _ ⟨_, _, _, _, HO.out.rows q hq⟩ (by rw [hg', e]))
                  have hTt := HOt.out.tabs.2
                  obtain ⟨sg, sc', hsv, _⟩ := owns_cell HOt.out.own (k := m) (y := PV m) (by rw [List.getElem?_map, List.getElem?_range (by omega)]; rfl)
                  cases hsv
                  have sm : wr.cell? ⟨sg, m, none⟩ = some (.slice (slA (PV m)) (L m) (slC (PV m))) := by
                    have := hTt.tab m (by omega)
                    rw [Nat.zero_add] at this
                    exact this
                  have sj : wr.cell? ⟨sg, j, none⟩ = some (.slice (slA (PV j)) (L j) (slC (PV j))) := by
                    have := hTt.tab j hlt
                    rw [Nat.zero_add] at this
                    exact this
                  have hlook := l3looks_any (slA (PV m)) (slA (PV j)) (L m) (slC (PV m)) (slB (PV m)) 0 (L j) (slC (PV j)) (slB (PV j)) 0 (sK K ls m) (sK X ls m) (sK K ls j) (sK X ls j) i g i cl wr.drew (by have := HL.out m (by omega); omega) (by have := HL.out j hlt; omega) (HSV.out m (by omega)) (HSV.out j hlt) ((hTt.row m (by omega)).below (Below.refl _ _).drew) ((hTt.row j hlt).below (Below.refl _ _).drew) (show ClsAt _ _ _ _ from fun q hq => HCk.out.cell hq)
                  obtain ⟨am, ham⟩ : ∃ a, slA (PV m) = a := ⟨_, rfl⟩
                  obtain ⟨aj, haj⟩ : ∃ a, slA (PV j) = a := ⟨_, rfl⟩
                  obtain ⟨km, hkm⟩ : ∃ a, slC (PV m) = a := ⟨_, rfl⟩
                  obtain ⟨kj, hkj'⟩ : ∃ a, slC (PV j) = a := ⟨_, rfl⟩
                  rw [ham, hkm] at sm
                  rw [haj, hkj'] at sj
                  rw [ham, haj, hkm, hkj'] at hlook
                  replace cm := cellB cm
                  replace cj := cellB cj
                  replace sm := cellB sm
                  replace sj := cellB sj
                  clear ham haj hkm hkj' hTt HOt
                  go_wp2
                  go_region_held3 (fun w' => Below wr.heap.size wr w')
                    (first | exact grw (Below.drew (Below.refl _ _)) hb5 | exact (Below.refl _ _).drew)
                    ((go_at_call 89; refine hlook.mono ?_; rintro e w5 ⟨⟨b, rfl, hb⟩, hb5⟩))
                  rename_i hS
                  have HB5 : Hid (Below wr.heap.size wr w5) := hS
                  have HBb : Hid (b = true ↔ Looks L (sK K ls) (sK X ls) cl m j) := hb.trans look2_iff
                  have HR5 : Hid (w5.rowIs nb 3 i (fun q => if q = j then .int .i64 (v : Nat) else if q < j then .int .i64 (nx q : Nat) else .int .i64 ((0 : Nat) : Int))) := HRk.out.of_block (HB5.out.block _ HRk.out.lt)
                  have HO5 : Hid (Only (fun k => k = nb) wn w5) := HOk.out.trans (Only.below HB5.out)
                  clear hS hb hb5 cm cj sm sj hlook HRk HOk
                  cases b
                  · have HF' : Hid (Found L (sK K ls) (sK X ls) cl nx j m v) := HF.out.no (fun h => by have := HBb.out.2 h.2; cases this)
                    go_wp2
                    go_roundw
                    case rel => exact ⟨m, v, _, rfl, rfl, by omega, HF', HR5, HO5⟩
                    case measure => simp [intOf] <;> omega
                  · have HF' : Hid (Found L (sK K ls) (sK X ls) cl nx j m (nx m)) := Found.yes hmj ⟨HE.out, HBb.out.1 rfl⟩
                    have nm := HR5.out.cell (i := m) (by omega)
                    rw [if_neg (by omega), if_pos hmj] at nm
                    have nj := HR5.out.cell hlt
                    have nz := HR5.out.frozen
                    have HR6 : Hid ((w5.setCell ⟨nb, j, none⟩ (.int .i64 (nx m : Nat))).rowIs nb 3 i (fun q => if q = j then .int .i64 (nx m : Nat) else if q < j then .int .i64 (nx q : Nat) else .int .i64 ((0 : Nat) : Int))) := (HR5.out.set j _).congr (fun q _ => by
                      by_cases e : q = j
                      · rw [if_pos e, if_pos e]
                      · rw [if_neg e, if_neg e, if_neg e])
                    have HO6 : Hid (Only (fun k => k = nb) wn (w5.setCell ⟨nb, j, none⟩ (.int .i64 (nx m : Nat)))) := HO5.out.set rfl _
                    go_wp2
                    go_roundw
                    case rel => exact ⟨m, nx m, _, rfl, rfl, by omega, HF', HR6, HO6⟩
                    case measure => simp [intOf] <;> omega
                · have hbe : ((cl m : Int) == (cl j : Int)) = false := by rw [beq_nat]; exact beq_false_of_ne he
                  have HF' : Hid (Found L (sK K ls) (sK X ls) cl nx j m v) := HF.out.no (fun h => he h.1)
                  clear he
                  go_wp2
                  go_quiet (fail)
                  go_wp2
                  go_roundw
                  case rel => exact ⟨m, v, _, rfl, rfl, by omega, HF', HRk.out.of_block rfl, HOk.out.trans (Only.below (below_drewN (Below.refl _ _) nq))⟩
                  case measure => simp [intOf]
          · obtain rfl : j = i := by omega
            have HRf : Hid (wr.rowIs nb 3 j (fun q => .int .i64 (nx q : Nat))) := HRw.out.congr (fun q hq => by rw [if_pos hq])
            have HBf : Hid (Below ws.heap.size ws wr) := HBn.out.trans (HOl.out.toBelow (fun k hk => by omega) HBn.out.size)
            cases bm
            · have HEq : Hid (∀ q, q < j → nx q = cl q) := show ∀ q, _ from fun q hq => Classical.byContradiction fun hne => by
                have := HBM.out.2 ⟨q, hq, hne⟩
                cases this
              go_wp2
              go_ret
              refine ⟨⟨nb, nx, ls, rfl, by omega, HRf.out, HLs.out, ?_⟩, grw HB.out HBf.out⟩
              exact (HRo.out.done HOw.out HEq.out).congr HGs.out (fun q hq => (HEq.out q hq).symm)
            · obtain ⟨q, hq, hne⟩ := HBM.out.1 rfl
              have HMr : Hid (reps j cl < reps j nx) := HRo.out.more HOw.out hq hne
              have HOw' : Hid (OnWay j L (sK K ls) (sK X ls) nx) := HRo.out.next HOw.out
              have h1 : Hid (reps j (clsIn wr (.slice (some ⟨nb, 0, none⟩) j j)) = reps j nx) := reps_congr (fun q hq => clsIn_row HRf.out hq)
              have h2 : Hid (reps j (clsIn wq (.slice (some ⟨g, 0, none⟩) j j)) = reps j cl) := reps_congr (fun q hq => clsIn_row HCr.out hq)
              clear hne hq
              go_wp2
              go_roundw
              case rel => exact ⟨nb, nx, rfl, show w.heap.size ≤ nb by omega, HRf, HOw', HBf⟩
              case measure =>
                have h3 := HMr.out
                have h4 := reps_le j nx
                rw [HWQ.out] at h2
                rw [h1.out, h2.out]
                omega

end Go.Proofs.Ytagalpfmpdeifab

namespace Go.Proofs.Ytagalpfmpdeifab
open Go.RowKit Vl

theorem IsCls.agree {n : Nat} {L L' : Nat → Nat} {K X K' X' : Nat → Nat → V} {f : Nat → Nat} (h : IsCls n L K X f) (hL : ∀ j, j < n → L j = L' j) (hK : ∀ j, j < n → K j = K' j) (hX : ∀ j, j < n → X j = X' j) : IsCls n L' K' X' f := by
  refine ⟨h.low, h.idem, fun i j hi hj e => ?_, fun R hR i j hr => h.wide R (fun i j hr => ?_) i j hr⟩
  · have := h.bis i j hi hj e
    refine ⟨by rw [← hL i hi, ← hL j hj]; exact this.len, fun c hc => ?_⟩
    rw [← hK i hi, ← hK j hj, ← hX i hi, ← hX j hj]
    exact this.all c (by rw [hL i hi]; exact hc)
  · have h2 := hR i j hr
    have hi := h2.1
    have hj := h2.2.1
    rw [hL i hi, hL j hj, hK i hi, hK j hj, hX i hi, hX j hj]
    exact h2

/-- The classes of one graph. -/
def ClsRes (w w' : World) (e : Ending) (n : Nat) (u : V) (L : Nat → Nat) (K X : Nat → Nat → V) : Prop :=
  (OkG n u L K X ∧ ∃ (g : Nat) (f : Nat → Nat) (ls : Nat → List Nat), e = .returned (.slice (some ⟨g, 0, none⟩) n n) ∧ w.heap.size ≤ g ∧ w'.rowIs g 3 n (fun i => .int .i64 (f i : Nat)) ∧ (∀ r, r < n → SortI (K r) (L r) (ls r)) ∧ IsCls n L (sK K ls) (sK X ls) f) ∨ (¬ OkG n u L K X ∧ e = .returned (.slice none 0 0))

set_option maxHeartbeats 2000000 in
set_option maxRecDepth 100000 in
theorem specClasses_any (u : V) (ta : Option Addr) (n cp TB TO : Nat) (A : Nat → Option Addr) (L C RB RO : Nat → Nat) (K X : Nat → Nat → V) (w : World) (hn : n ≤ 1048576)
    (HS : Hid (Small 1048576 n L K X)) (HT : Hid (TabsAt w ta n TB TO A L C RB RO K X)) :
    Calls Try.prog 32 #[.agg #[.int .i64 u.k, .int .i64 u.n, .string u.s, .int .i64 u.a, .slice ta n cp]] w fun e w' => ClsRes w w' e n u L K X ∧ Below w.heap.size w w' := by
  obtain ⟨w0, hw0⟩ : ∃ w0, w0 = w.alloc (.cells #[.int .i64 u.k, .int .i64 u.n, .string u.s, .int .i64 u.a, .slice ta n cp] 32) := ⟨_, rfl⟩
  have H0 : Hid (w0.heap[w.heap.size]? = some (.cells #[.int .i64 u.k, .int .i64 u.n, .string u.s, .int .i64 u.a, .slice ta n cp] 32 (0, 0))) := by rw [hw0]; exact heap_alloc_new _ _
  have HB0 : Hid (Below w.heap.size w w0) := by rw [hw0]; exact (Below.refl _ _).alloc (Nat.le_refl _) _
  have HT0 : Hid (TabsAt w0 ta n TB TO A L C RB RO K X) := HT.out.below HB0.out
  have hok := specOk_any u ta n cp TB TO A L C RB RO K X w0 hn HS HT0
  obtain ⟨g0, g1, g2, g3, g4, _⟩ := cells5 H0.out
  go_enter Try.func32, Try.ntmps32
  go_wp2_with fail
  rw [← hw0]
  refine hok.mono ?_
  clear hok hw0 g0 g1 g2 g3 g4
  rintro e w1 ⟨⟨b, rfl, hb⟩, hb1⟩
  have HB1 : Hid (Below w0.heap.size w0 w1) := hb1
  have HBw : Hid (Below w.heap.size w w1) := grw HB0.out hb1
  have H1 : Hid (w1.heap[w.heap.size]? = some (.cells #[.int .i64 u.k, .int .i64 u.n, .string u.s, .int .i64 u.a, .slice ta n cp] 32 (0, 0))) := blkB H0.out hb1
  have HT1 : Hid (TabsAt w1 ta n TB TO A L C RB RO K X) := HT0.out.below hb1
  clear hb1
  cases b
  · have HN : Hid (¬ OkG n u L K X) := show ¬ _ from fun h => by have := hb.2 h; cases this
    clear hb
    go_wp2
    go_ret
    exact ⟨Or.inr ⟨HN.out, rfl⟩, HBw.out⟩
  · have HO : Hid (OkG n u L K X) := hb.1 rfl
    clear hb
    have hcl := l3classes_any ta n cp TB TO A L C RB RO K X w1 (by have := HO.out.len; omega) (show ∀ r, _ from fun r hr => (HO.out.all r hr).len) (show ∀ r, _ from fun r hr c hc => by have := ((HS.out r hr).2 c hc).1; omega) (good_of HO.out) HT1
    obtain ⟨g0, g1, g2, g3, g4, _⟩ := cells5 H1.out
    go_wp2_with fail
    refine hcl.mono ?_
    clear hcl g0 g1 g2 g3 g4
    rintro e w2 ⟨⟨g, f, ls, rfl, hg, hr, hs, hi⟩, hb2⟩
    go_wp2
    go_ret
    exact ⟨Or.inl ⟨HO.out, g, f, ls, rfl, Nat.le_trans HBw.out.size hg, hr, hs, hi⟩, grw HBw.out hb2⟩

set_option maxHeartbeats 2000000 in
set_option maxRecDepth 100000 in
theorem implClasses_any (u : V) (ta : Option Addr) (n cp TB TO : Nat) (A : Nat → Option Addr) (L C RB RO : Nat → Nat) (K X : Nat → Nat → V) (w : World) (hn : n ≤ 1048576)
    (HS : Hid (Small 1048576 n L K X)) (HT : Hid (TabsAt w ta n TB TO A L C RB RO K X)) :
    Calls Try.prog 33 #[.agg #[.int .i64 u.k, .int .i64 u.n, .string u.s, .int .i64 u.a, .slice ta n cp]] w fun e w' => ClsRes w w' e n u L K X ∧ Below w.heap.size w w' := by
  have A2 := alloc2 w (.cells #[.int .i64 u.k, .int .i64 u.n, .string u.s, .int .i64 u.a, .slice ta n cp] 32) (.cells #[.int .i64 u.k, .int .i64 u.n, .string u.s, .int .i64 u.a, .slice ta n cp] 32)
  obtain ⟨w0, hw0⟩ : ∃ w0, w0 = (w.alloc (.cells #[.int .i64 u.k, .int .i64 u.n, .string u.s, .int .i64 u.a, .slice ta n cp] 32)).alloc (.cells #[.int .i64 u.k, .int .i64 u.n, .string u.s, .int .i64 u.a, .slice ta n cp] 32) := ⟨_, rfl⟩
  rw [← hw0] at A2
  have HB0 : Hid (Below w.heap.size w w0) := A2.2.2.2
  obtain ⟨k0, k1, k2, k3, k4, _⟩ := cells5 A2.2.1
  obtain ⟨G, HGd⟩ : ∃ G : GrS, Hid (G = ⟨fun _ => u, fun _ => n, fun _ => L, fun _ => K, fun _ => X⟩) := ⟨_, rfl⟩
  have HGs : Hid (GsAt w0 1 (w.heap.size + 1) G (fun _ => ta) (fun _ => cp) (fun _ => TB) (fun _ => TO) (fun _ => A) (fun _ => C) (fun _ => RB) (fun _ => RO)) := by
    rw [HGd.out]
    refine ⟨fun q hq => ?_, fun q hq => ?_, fun q hq => ?_, fun q hq => ?_, fun q hq => ?_, fun _ _ => ⟨hn, HS.out⟩, fun _ _ => HT.out.below HB0.out⟩ <;> (obtain rfl : q = 0 := by omega) <;> assumption
  have hcf := classify_any 1 (by omega) (by omega) (w.heap.size + 1) G _ _ _ _ _ _ _ _ w0 HGs
  have hoff : G.off 1 = n := by rw [HGd.out]; simp [GrS.off]
  rw [hoff] at hcf
  clear k0 k1 k2 k3 k4 A2
  go_enter Try.func33, Try.ntmps33
  go_wp2_with fail
  rw [← hw0]
  refine hcf.mono ?_
  clear hcf hw0
  rintro e w1 ⟨hcase, hb1⟩
  have HB1 : Hid (Below w.heap.size w w1) := grw HB0.out hb1
  rcases hcase with ⟨T, M, Lc, Kc, Xc, ls, f, rv, tv, cb, rfl, hd⟩ | ⟨⟨q, hq, hno⟩, rfl⟩
  · obtain ⟨ra, rc, rfl, _⟩ := owns_form hd.roots
    obtain ⟨va, vc, rfl, _⟩ := owns_form hd.tabs
    rw [hoff]
    have HR : Hid (ClsRes w w1 (.returned (.slice (some ⟨cb, 0, none⟩) n n)) n u L K X) := by
      have h1 := hd.cls
      have h2 := hd.srt
      have h3 := hd.is
      have hok := hd.cmb.ok 0 (by omega)
      have htab := hd.cmb.tab 0 (by omega)
      rw [hoff] at h1 h2 h3
      rw [HGd.out] at hok htab
      simp only [GrS.off, Nat.zero_add, sh_zero] at hok htab
      have hL : ∀ j, j < n → Lc j = L j := fun j hj => (htab j hj).1
      have hK : ∀ j, j < n → Kc j = K j := fun j hj => (htab j hj).2.1
      have hX : ∀ j, j < n → Xc j = X j := fun j hj => funext (htab j hj).2.2
      refine Or.inl ⟨hok, cb, f, ls, rfl, Nat.le_trans HB0.out.size hd.lo, h1, fun r hr => ?_, h3.agree hL (fun j hj => ?_) (fun j hj => ?_)⟩
      · rw [← hK r hr, ← hL r hr]; exact h2 r hr
      · unfold sK; rw [hK j hj]
      · unfold sK; rw [hX j hj]
    clear hd
    obtain ⟨w2, hw2⟩ : ∃ w2, w2 = w1.alloc (.cells #[.slice ra 1 rc, .slice va n vc, .slice (some ⟨cb, 0, none⟩) n n] 87) := ⟨_, rfl⟩
    have hb2 : Below w1.heap.size w1 w2 := by rw [hw2]; exact (Below.refl _ _).alloc (Nat.le_refl _) _
    go_wp2
    rw [← hw2]
    go_ret
    refine ⟨?_, grw HB1.out hb2⟩
    rcases HR.out with ⟨h1, g, f, ls, h2, h3, h4, h5, h6⟩ | ⟨h1, h2⟩
    · exact Or.inl ⟨h1, g, f, ls, h2, h3, h4.of_block (hb2.block _ h4.lt), h5, h6⟩
    · exact Or.inr ⟨h1, h2⟩
  · have HN : Hid (¬ OkG n u L K X) := by rw [HGd.out] at hno; exact hno
    have hb2 : ∀ o, Below w1.heap.size w1 (w1.alloc o) := fun o => (Below.refl _ _).alloc (Nat.le_refl _) _
    go_wp2
    go_ret
    exact ⟨Or.inr ⟨HN.out, rfl⟩, grw HB1.out (hb2 _)⟩

end Go.Proofs.Ytagalpfmpdeifab

namespace Go.Proofs.Ytagalpfmpdeifab
open Go.RowKit Vl

/-- Numbers in a row. -/
def IRow (w : World) (A : Option Addr) (L B : Nat) (f : Nat → Int) : Prop := ∀ k, k < L → A = some ⟨B, 0, none⟩ ∧ w.cell? ⟨B, k, none⟩ = some (.int .i64 (f k))
theorem IRow.below {w w' : World} {A : Option Addr} {L B : Nat} {f : Nat → Int} (h : IRow w A L B f) (hb : Below w.heap.size w w') : IRow w' A L B f := fun k hk => ⟨(h k hk).1, (hb.cell (World.block_lt_of_cell? _ _ (h k hk).2)).trans (h k hk).2⟩

theorem if_step2 {α : Type} (i j : Nat) (x : α) (f g : Nat → α) (e : x = f j) : (if i = j then x else if i < j then f i else g i) = if i < j + 1 then f i else g i := by
  by_cases h : i = j
  · subst h; simp [e]
  · rw [if_neg h]
    by_cases hlt : i < j
    · rw [if_pos hlt, if_pos (by omega)]
    · rw [if_neg hlt, if_neg (by omega)]

/-- The first j cells of a row are marked, from k on. -/
def marks (k : Int) (j : Nat) (f : Nat → Value) : Nat → Value := fun c => if c < j then .int .i64 (k + c) else f c

theorem marks_set {w : World} {B t cap : Nat} {k x : Int} {j : Nat} {f : Nat → Value} (h : w.rowIs B t cap (marks k j f)) (hx : x = k + j) : (w.setCell ⟨B, j, none⟩ (.int .i64 x)).rowIs B t cap (marks k (j + 1) f) := by
  subst hx
  exact (h.set j _).congr (fun i _ => if_step2 i j _ (fun c => Value.int .i64 (k + c)) f rfl)
theorem marks_zero {w : World} {B t cap : Nat} {k : Int} {f : Nat → Value} (h : w.rowIs B t cap f) : w.rowIs B t cap (marks k 0 f) := h.congr (fun i _ => by simp [marks])
theorem marks_cell {w : World} {B t cap : Nat} {k : Int} {j : Nat} {f : Nat → Value} (h : w.rowIs B t cap (marks k j f)) (hj : j < cap) : w.cell? ⟨B, j, none⟩ = some (f j) := by
  rw [h.cell hj]; simp [marks]

set_option maxHeartbeats 1000000 in
/-- 'markIntS'. -/
theorem markS_any (A : Option Addr) (L C B cap : Nat) (f : Nat → Value) (k : Int) (w : World) (hL : L ≤ 1048576) (hk0 : 0 ≤ k) (hk1 : k ≤ 1125899906842624) (hA : 0 < L → A = some ⟨B, 0, none⟩) (hc : L ≤ cap) (HR : Hid (0 < L → w.rowIs B 3 cap f)) :
    Calls Try.prog 35 #[.slice A L C, .int .i64 k] w fun e w' => e = .returned (.int .i64 (k + L)) ∧ Only (fun b => b = B ∧ 0 < L) w w' ∧ (0 < L → w'.rowIs B 3 cap (marks k L f)) := by
  go_enter Try.func35, Try.ntmps35
  go_wp2
  go_loopw [1, 5] (fun kk i wr => ∃ j : Nat, j ≤ L ∧ i = .int .i64 j ∧ kk = .int .i64 (k + j) ∧ Hid (Only (fun b => b = B ∧ 0 < L) w wr) ∧ Hid (0 < L → wr.rowIs B 3 cap (marks k j f))) (fun _ i _ => L - (intOf i).toNat)
  case atStart => exact ⟨0, Nat.zero_le _, rfl, by simp, Only.refl _ _, fun h => marks_zero (HR.out h)⟩
  case round =>
    obtain ⟨j, hj, rfl, rfl, HO, HM⟩ := hrel
    by_cases hlt : j < L
    · obtain rfl := hA (by omega)
      have hr := HM.out (by omega)
      have ho := marks_cell hr (by omega)
      have hz := hr.frozen j
      have HN : Hid (0 < L → (wr.setCell ⟨B, j, none⟩ (.int .i64 (k + j))).rowIs B 3 cap (marks k (j + 1) f)) := fun _ => marks_set hr rfl
      have HO2 : Hid (Only (fun b => b = B ∧ 0 < L) w (wr.setCell ⟨B, j, none⟩ (.int .i64 (k + j)))) := HO.out.set (p := ⟨B, j, none⟩) ⟨rfl, by omega⟩ _
      clear hr HO HM
      go_wp2
      go_roundw
      case rel => exact ⟨j + 1, by omega, by go_num, by go_num, HO2, HN⟩
      case measure => simp [intOf]; omega
    · obtain rfl : j = L := by omega
      go_wp2
      go_ret
      exact ⟨rfl, HO.out, HM.out⟩

set_option maxHeartbeats 1000000 in
/-- 'heldIntS' behind 'markIntS'. -/
theorem heldS_any (A : Option Addr) (L C B : Nat) (k : Int) (w : World) (hL : L ≤ 1048576) (hk0 : 0 ≤ k) (hk1 : k ≤ 1125899906842624) (HR : Hid (IRow w A L B (fun c => k + c))) :
    Calls Try.prog 36 #[.slice A L C, .int .i64 k] w fun e w' => e = .returned (.int .i64 (k + L)) ∧ w' = w := by
  go_enter Try.func36, Try.ntmps36
  go_wp2
  go_loop [1, 5] (fun kk i => ∃ j : Nat, j ≤ L ∧ i = .int .i64 j ∧ kk = .int .i64 (k + j)) (fun _ i => L - (intOf i).toNat)
  case atStart => exact ⟨0, Nat.zero_le _, rfl, by simp⟩
  case round =>
    obtain ⟨j, hj, rfl, rfl⟩ := hrel
    by_cases hlt : j < L
    · obtain ⟨e1, v⟩ := HR.out j hlt
      subst e1
      go_wp2
      go_round
      case rel => exact ⟨j + 1, by omega, by go_num, by go_num⟩
      case measure => simp [intOf]; omega
    · obtain rfl : j = L := by omega
      go_wp2
      go_ret
      exact ⟨rfl, rfl⟩

set_option maxHeartbeats 1000000 in
/-- 'eqIntS' of two rows with the same numbers. -/
theorem eqI_same (A A' : Option Addr) (L C C' B B' : Nat) (f : Nat → Int) (w : World) (hL : L ≤ 1048576) (hr : IRow w A L B f) (hr' : IRow w A' L B' f) :
    Calls Try.prog 34 #[.slice A L C, .slice A' L C'] w fun e w' => e = .returned (.bool true) ∧ ∃ m, w' = w.drewN m := by
  go_enter Try.func34, Try.ntmps34
  go_wp2
  go_loopw [5] (fun i wr => ∃ k m : Nat, k ≤ L ∧ i = .int .i64 k ∧ wr = w.drewN m) (fun i _ => L - (intOf i).toNat)
  case atStart => exact ⟨0, 0, Nat.zero_le _, rfl, rfl⟩
  case round =>
    obtain ⟨k, m, hk, rfl, rfl⟩ := hrel
    by_cases hlt : k < L
    · obtain ⟨rfl, v⟩ := hr k hlt
      obtain ⟨rfl, v'⟩ := hr' k hlt
      clear hr hr'
      have ik : (k : Int) < (L : Int) := by omega
      go_wp2_with fail
      go_quiet (fail)
      go_wp2
      go_roundw
      case rel => exact ⟨k + 1, m + nq, by omega, by go_num, rfl⟩
      case measure => simp [intOf]; omega
    · go_wp2
      go_ret
      exact ⟨rfl, m, rfl⟩


/-- A call's answer is a row of numbers in memory of its own. -/
def IntRes (w w' : World) (e : Ending) (N : Nat) (F : Nat → Nat) : Prop :=
  ∃ (A : Option Addr) (g : Nat), e = .returned (.slice A N N) ∧ (0 < N → A = some ⟨g, 0, none⟩) ∧ (0 < N → w.heap.size ≤ g ∧ w'.rowIs g 3 N (fun i => .int .i64 (F i : Nat)))

/-- The classes, told. -/
def ClsAre (n : Nat) (L : Nat → Nat) (K X : Nat → Nat → V) (f : Nat → Nat) : Prop := ∃ ls : Nat → List Nat, (∀ r, r < n → SortI (K r) (L r) (ls r)) ∧ IsCls n L (sK K ls) (sK X ls) f
theorem ClsAre.uniq {n : Nat} {u : V} {L : Nat → Nat} {K X : Nat → Nat → V} {f f' : Nat → Nat} (hok : OkG n u L K X) (h : ClsAre n L K X f) (h' : ClsAre n L K X f') {i : Nat} (hi : i < n) : f i = f' i := by
  obtain ⟨ls, h1, h2⟩ := h
  obtain ⟨ls', k1, k2⟩ := h'
  have e : ∀ r, r < n → ls' r = ls r := fun r hr => SortI.one (hok.all r hr) (k1 r hr) (h1 r hr)
  have k3 := k2.agree (L' := L) (K' := sK K ls) (X' := sK X ls) (fun _ _ => rfl) (fun j hj => by unfold sK; rw [e j hj]) (fun j hj => by unfold sK; rw [e j hj])
  refine IsCls.uniq (fun r hr c hc => ?_) h2 k3 hi
  exact good_of hok r hr _ ((h1 r hr).lt hc)

open Classical in
theorem cls_fixed (n : Nat) (u : V) (L : Nat → Nat) (K X : Nat → Nat → V) : ∃ (N : Nat) (F : Nat → Nat), N ≤ 200 ∧ ∀ w w' e, ClsRes w w' e n u L K X → IntRes w w' e N F := by
  by_cases hok : OkG n u L K X
  · refine ⟨n, Classical.epsilon (fun f => ClsAre n L K X f), hok.len, fun w w' e h => ?_⟩
    rcases h with ⟨_, g, f, ls, rfl, h1, h2, h3, h4⟩ | ⟨hno, _⟩
    · have hf : ClsAre n L K X f := ⟨ls, h3, h4⟩
      have he := Classical.epsilon_spec (p := fun f => ClsAre n L K X f) ⟨f, hf⟩
      exact ⟨_, g, rfl, fun _ => rfl, fun _ => ⟨h1, h2.congr (fun i hi => by rw [hf.uniq hok he hi])⟩⟩
    · exact absurd hok hno
  · refine ⟨0, fun _ => 0, Nat.zero_le _, fun w w' e h => ?_⟩
    rcases h with ⟨h, _⟩ | ⟨_, rfl⟩
    · exact absurd h hok
    · exact ⟨none, 0, rfl, fun h => by omega, fun h => by omega⟩

end Go.Proofs.Ytagalpfmpdeifab
