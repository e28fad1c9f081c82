import Derived.Test.YtgflalfiopnmnabG4
import Derived.BigQuiet
import Derived.WalkSmall
import Derived.LaidEql
namespace Go.Proofs.Ytgflalfiopnmnab
open Go.RowKit Vl

/-- Whether a class has turned. -/
def MoreIs (mv : Value) (i : Nat) (nx cl : Nat → Nat) : Prop := ∃ bm, mv = .bool bm ∧ (bm = true ↔ ∃ j, j < i ∧ nx j ≠ cl j)

/-- The asking of one table's class, down to k. -/
def AskIs (L : Nat → Nat) (K X : Nat → Nat → V) (cl nx : Nat → Nat) (n nb j : Nat) (wn : World) (kk : Value) (wk : World) : Prop :=
  ∃ (k v : Nat) (z : Int), kk = .int .i64 z ∧ Hid (z = (k : Int) - 1) ∧ k ≤ j ∧ Hid (Found L K X cl nx j k v) ∧ Hid (wk.rowIs nb 3 n (fun q => if q = j then .int .i64 (v : Nat) else if q < j then .int .i64 (nx q : Nat) else .int .i64 ((0 : Nat) : Int))) ∧ Hid (Only (fun k => k = nb) wn wk)

set_option maxHeartbeats 8000000 in
set_option maxRecDepth 100000 in
/-- 'l3classes'. -/
theorem l3classes_any (ta : Option Addr) (n cp TB TO : Nat) (A : Nat → Option Addr) (L C RB RO : Nat → Nat) (K X : Nat → Nat → V) (w : World) (hn : n ≤ 400) (HL : Hid (∀ r, r < n → L r ≤ 100)) (HZ : Hid (∀ r, r < n → ∀ c, c < L r → (K r c).s.size ≤ 9223372036854775807)) (HG : Hid (Good n L X)) (HT : Hid (TabsAt w ta n TB TO A L C RB RO K X)) :
    Calls Try.prog 62 #[.slice ta n cp] w fun e w' => (∃ (g : Nat) (f : Nat → Nat) (ls : Nat → List Nat), e = .returned (.slice (some ⟨g, 0, none⟩) n n) ∧ w.heap.size ≤ g ∧ w'.rowIs g 3 n (fun i => .int .i64 (f i : Nat)) ∧ (∀ r, r < n → SortI (K r) (L r) (ls r)) ∧ IsCls n L (sK K ls) (sK X ls) f) ∧ Below w.heap.size w w' := by
  obtain ⟨it, hti, ht0, ht1, ht2⟩ := info_parts Try.info61
  have hmk := run_make_n 51 3 _ 1 8 Try.underlying51 Try.infoN n (by omega) (by omega)
  simp only [Nat.mul_one] at hmk
  go_enter Try.func62, Try.ntmps62
  go_wp2
  go_loopw [3, 13] (fun sv ii wr => ∃ (i : Nat) (PV : Nat → Value) (ls : Nat → List Nat), i ≤ n ∧ ii = .int .i64 i ∧ Hid (∀ r, r < i → SortI (K r) (L r) (ls r)) ∧ Hid (OTab wr w.heap.size sv i PV L (sK K ls) (sK X ls)) ∧ Hid (Below w.heap.size w wr)) (fun _ ii _ => n - (intOf ii).toNat)
  case atStart => exact ⟨0, fun _ => .nilIface, fun _ => [], Nat.zero_le _, rfl, fun r hr => absurd hr (Nat.not_lt_zero _), OTab.nil _ _ _ _ _ _, Below.refl _ _⟩
  case round =>
    obtain ⟨i, PV, ls, hi, rfl, HLs, HO, HB⟩ := hrel
    obtain ⟨sa, sc, rfl, hsk⟩ := owns_form HO.out.own
    by_cases hlt : i < n
    · have hta := HT.out.top (by omega)
      subst hta
      have t0 := (HT.out.below HB.out).tab i hlt
      obtain ⟨pa, hpa⟩ : ∃ a, A i = a := ⟨_, rfl⟩
      rw [hpa] at t0
      have HP : Hid (PairsAt w pa (L i) (RB i) (RO i) (K i) (X i)) := hpa ▸ HT.out.row i hlt
      obtain ⟨wt, hwt⟩ : ∃ wt, wt = wr.alloc (.cells #[.slice pa (L i) (C i)] 61) := ⟨_, rfl⟩
      have hbt : Below wr.heap.size wr wt := by rw [hwt]; exact (Below.refl _ _).alloc (Nat.le_refl _) _
      have HBt : Hid (Below w.heap.size w wt) := grw HB.out hbt
      have HOt : Hid (OTab wt w.heap.size (.slice sa i sc) i PV L (sK K ls) (sK X ls)) := HO.out.below hbt
      have hcall := l3sorted_any pa (L i) (C i) (RB i) (RO i) (K i) (X i) wt (by have := HL.out i hlt; omega) (HZ.out i hlt) (HP.out.below HBt.out)
      have HN2 : Hid (∀ j, j < i → ∀ g, (PV j).ownBlock = some g → g < wt.heap.size) := show ∀ j, _ from fun j hj g hg => by obtain ⟨_, _, _, h⟩ := owns_form (HOt.out.rows j hj); exact (h g hg).2
      clear hsk hbt HO HB hpa hmk
      go_wp2_with fail
      rw [← hwt]
      refine hcall.mono ?_
      clear hcall hwt t0
      rintro e w2 ⟨⟨pa', pc, lr, rfl, hsr, hown⟩, hb2⟩
      have HSR : Hid (SortI (K i) (L i) lr) := hsr
      have HO2 : Hid (OTab w2 w.heap.size (.slice sa i sc) i PV L (sK K ls) (sK X ls)) := HOt.out.below hb2
      have HB2 : Hid (Below w.heap.size w w2) := grw HBt.out hb2
      have HP2 : Hid (w2.ownsRow wt.heap.size 63 8 (.slice pa' (L i) pc) (L i) (pairCells (byI (K i) lr) (byI (X i) lr) (L i))) := hown
      have hs2 : w.heap.size ≤ wt.heap.size := HBt.out.size
      have hs2' : wt.heap.size ≤ w2.heap.size := hb2.size
      clear hown hsr hb2 HOt HBt
      go_wp2_with (at_builtin; refine wpList_append_lies _ (by rfl) (.tmp 17) (.tmp 20) 30 (by rfl) w.heap.size 61 it (.agg #[.slice none 0 0]) 1 24 Try.underlying30 hti ht0 ht1 ht2 (by rfl) (by omega) (.slice sa i sc) i ((List.range i).map PV) (by rfl) (HO2.out.own.alloc _) ⟨w2.heap.size, 0, none⟩ 1 1 [.slice pa' (L i) pc] (by rfl) (by rfl) ?c1 ?c2 (by omega) ?c3 ?c4 ?c5 (w2.heap.size + 1) ?c6 ?_)
      case c1 => exact World.news_of_block (heap_alloc_new w2 _)
      case c2 => intro u hu; simp at hu; subst hu; rfl
      case c3 => unfold maxLen; omega
      case c4 => omega
      case c5 => simp; omega
      case c6 => simp
      intro g cap w7 hown7 hgrow7 hat7 hlt7
      obtain ⟨hT7, hB7⟩ := HO2.out.more (owns_mono HP2.out (by omega)) (fun j hj g hg e => by
        obtain ⟨_, _, _, h⟩ := owns_form HP2.out
        have h1 := (h g e).1
        have h2 := HN2.out j hj g hg
        omega) _ (by omega) hown7 hgrow7
      have HT7 : Hid (OTab w7 w.heap.size (.slice (some ⟨g, 0, none⟩) (i + 1) cap) (i + 1) (fun j => if j = i then .slice pa' (L i) pc else PV j) L (sK K (fun j => if j = i then lr else ls j)) (sK X (fun j => if j = i then lr else ls j))) := hT7.congr (fun j hj => by
          by_cases e : j = i
          · subst e; simp only [if_true]
          · simp only [e, if_false]) (fun j hj c' hc' => by
          unfold sK
          by_cases e : j = i
          · subst e; simp only [if_true]; exact ⟨trivial, trivial⟩
          · simp only [e, if_false]; exact ⟨trivial, trivial⟩)
      have HB7 : Hid (Below w.heap.size w w7) := HB2.out.trans hB7
      have HLs' : Hid (∀ r, r < i + 1 → SortI (K r) (L r) ((fun j => if j = i then lr else ls j) r)) := show ∀ r, _ from fun r hr => by
        by_cases e : r = i
        · subst e; simp only [if_true]; exact HSR.out
        · simp only [e, if_false]; exact HLs.out r (by omega)
      clear hT7 hB7 hown7 hgrow7 hat7 hlt7 HO2 HB2 HP2
      go_wp2
      go_roundw
      case rel => exact ⟨i + 1, _, _, by omega, by go_num, HLs', HT7, HB7⟩
      case measure => simp [intOf]; omega
    · obtain rfl : i = n := by omega
      clear hti ht0 ht1 ht2
      have HR0 : Hid ((wr.alloc (.cells (madeCells #[.int .i64 0] i) 3)).rowIs wr.heap.size 3 i (fun _ => .int .i64 ((0 : Nat) : Int))) := (row_made wr #[.int .i64 0] i 3).congr (fun j _ => by simp [Nat.mod_one])
      obtain ⟨ws, hws⟩ : ∃ ws, ws = wr := ⟨_, rfl⟩
      rw [← hws] at HO HB HR0
      have hsw : w.heap.size ≤ ws.heap.size := HB.out.size
      have HSV : Hid (∀ r, r < i → ∀ c, c < L r → isV i (sK X ls r c) = true) := show ∀ r, _ from fun r hr c hc => HG.out r hr _ ((HLs.out r hr).lt hc)
      have HGs : Hid (Good i L (sK X ls)) := HSV
      go_wp2
      rw [← hws]
      clear hws
      go_loopw [6] (fun cv wq => ∃ (g : Nat) (cl : Nat → Nat), cv = .slice (some ⟨g, 0, none⟩) i i ∧ Hid (w.heap.size ≤ g) ∧ Hid (wq.rowIs g 3 i (fun j => .int .i64 (cl j : Nat))) ∧ Hid (OnWay i L (sK K ls) (sK X ls) cl) ∧ Hid (Below ws.heap.size ws wq)) (fun cv wq => i - reps i (clsIn wq cv))
      case atStart => exact ⟨ws.heap.size, fun _ => 0, rfl, hsw, HR0, ⟨fun _ _ => Nat.zero_le _, fun _ _ => rfl, fun _ _ _ _ _ => rfl⟩, (Below.refl _ _).alloc (Nat.le_refl _) _⟩
      case round =>
        obtain ⟨g, cl, rfl, HGe, HCr, HOw, HBq⟩ := hrel
        clear HR0
        obtain ⟨wq, hwq⟩ : ∃ wq, wq = wr := ⟨_, rfl⟩
        rw [← hwq] at HCr HBq
        obtain ⟨wn, hwn⟩ : ∃ wn, wn = wq.alloc (.cells (madeCells #[.int .i64 0] i) 3) := ⟨_, rfl⟩
        have hbn : Below wq.heap.size wq wn := by rw [hwn]; exact (Below.refl _ _).alloc (Nat.le_refl _) _
        have HRn : Hid (wn.rowIs wq.heap.size 3 i (fun _ => .int .i64 ((0 : Nat) : Int))) := by rw [hwn]; exact (row_made wq #[.int .i64 0] i 3).congr (fun j _ => by simp [Nat.mod_one])
        have HCn : Hid (wn.rowIs g 3 i (fun j => .int .i64 (cl j : Nat))) := HCr.out.of_block (hbn.block _ HCr.out.lt)
        have HBn : Hid (Below ws.heap.size ws wn) := grw HBq.out hbn
        have hgl : g < wq.heap.size := HCr.out.lt
        have hnl : ws.heap.size ≤ wq.heap.size := HBq.out.size
        obtain ⟨nb, hnb⟩ : ∃ nb, wq.heap.size = nb := ⟨_, rfl⟩
        have HOn : Hid (OTab wn w.heap.size (.slice sa i sc) i PV L (sK K ls) (sK X ls)) := HO.out.below HBn.out
        have HNB : Hid (∀ v : Value, (∃ t xs n s, ws.ownsRow w.heap.size t s v n xs) → v.ownBlock ≠ some nb) := show ∀ v, _ from fun v ⟨t, xs, n, s, h⟩ e => by
          obtain ⟨_, _, _, hk⟩ := owns_form h
          have := (hk _ e).2
          omega
        clear hbn
        go_wp2
        rw [← hwq]
        rw [← hwn]
        rw [hnb] at HRn hgl hnl ⊢
        have HWQ : Hid (wq = wr) := hwq
        clear hwn hwq hnb
        go_loopw [8, 31] (fun mv ii wi => ∃ (j : Nat) (nx : Nat → Nat), j ≤ i ∧ ii = .int .i64 j ∧ Hid (MoreIs mv j nx cl) ∧ Hid (Round j L (sK K ls) (sK X ls) cl nx) ∧ Hid (wi.rowIs nb 3 i (fun q => if q < j then .int .i64 (nx q : Nat) else .int .i64 ((0 : Nat) : Int))) ∧ Hid (Only (fun k => k = nb) wn wi)) (fun _ ii _ => i - (intOf ii).toNat)
        case atStart => exact ⟨0, fun _ => 0, Nat.zero_le _, rfl, ⟨false, rfl, by simp⟩, ⟨fun q hq => absurd hq (Nat.not_lt_zero _), fun q hq => absurd hq (Nat.not_lt_zero _), fun q hq => absurd hq (Nat.not_lt_zero _)⟩, HRn.out.congr (fun q _ => by rw [if_neg (by omega)]), Only.refl _ _⟩
        case round =>
          obtain ⟨j, nx, hj, rfl, HMo, HRo, HRw, HOl⟩ := hrel
          obtain ⟨bm, rfl, hbm⟩ := HMo.out
          have HBM : Hid (bm = true ↔ ∃ q, q < j ∧ nx q ≠ cl q) := hbm
          clear HMo hbm
          by_cases hlt : j < i
          · have n0 := HRw.out.cell hlt
            rw [if_neg (by omega)] at n0
            have nz := HRw.out.frozen
            have hbj : (0 : Int) ≤ (j : Int) ∧ (j : Int) < (i : Int) := by omega
            have hwj : IntKind.i64.wrap ((j : Int) - 1) = (j : Int) - 1 := by rw [IntKind.wrap_i64]; omega
            have HR1 : Hid ((wr.setCell ⟨nb, j, none⟩ (.int .i64 (j : Nat))).rowIs nb 3 i (fun q => if q = j then .int .i64 (j : Nat) else if q < j then .int .i64 (nx q : Nat) else .int .i64 ((0 : Nat) : Int))) := (HRw.out.set j _).congr (fun q _ => rfl)
            have HO1 : Hid (Only (fun k => k = nb) wn (wr.setCell ⟨nb, j, none⟩ (.int .i64 (j : Nat)))) := HOl.out.set rfl _
            clear HRw HOl
            go_wp2
            clear n0 nz
            go_loopw [10] (fun kk wk => AskIs L (sK K ls) (sK X ls) cl nx i nb j wn kk wk) (fun kk _ => (intOf kk + 1).toNat)
            case atStart => exact ⟨j, j, _, rfl, rfl, Nat.le_refl _, Found.start j, HR1, HO1⟩
            case round =>
              obtain ⟨k, v, z, rfl, HZk, hkj, HF, HRk, HOk⟩ := hrel
              clear HR1 HO1
              have HCk : Hid (wr.rowIs g 3 i (fun q => .int .i64 (cl q : Nat))) := HOk.out.rowIs HCn.out (by omega)
              have cj := HCk.out.cell hlt
              by_cases hk0 : k = 0
              · obtain rfl : z = -1 := by have := HZk.out; omega
                subst hk0
                have nj := HRk.out.cell hlt
                rw [if_pos rfl] at nj
                have HRg : Hid (Round (j + 1) L (sK K ls) (sK X ls) cl (fun q => if q = j then v else nx q)) := HRo.out.grow HF.out
                have HRx : Hid (wr.rowIs nb 3 i (fun q => if q < j + 1 then .int .i64 ((if q = j then v else nx q : Nat) : Int) else .int .i64 ((0 : Nat) : Int))) := HRk.out.congr (fun q _ => by
                  by_cases e : q = j
                  · subst e; rw [if_pos rfl, if_pos (by omega), if_pos rfl]
                  · rw [if_neg e, if_neg e]
                    by_cases h' : q < j
                    · rw [if_pos h', if_pos (by omega)]
                    · rw [if_neg h', if_neg (by omega)])
                by_cases hv : v = cl j
                · have hnv : ((v : Int) != (cl j : Int)) = false := by rw [hv]; simp
                  have HM' : Hid (MoreIs (.bool bm) (j + 1) (fun q => if q = j then v else nx q) cl) := ⟨bm, rfl, HBM.out.trans ⟨fun ⟨q, h1, h2⟩ => ⟨q, by omega, by show (if q = j then v else nx q) ≠ cl q; rw [if_neg (by omega)]; exact h2⟩, fun ⟨q, h1, h2⟩ => by
                    by_cases e : q = j
                    · subst e; have h3 : (if q = q then v else nx q) ≠ cl q := h2; rw [if_pos rfl] at h3; exact absurd hv h3
                    · have h3 : (if q = j then v else nx q) ≠ cl q := h2; rw [if_neg e] at h3; exact ⟨q, by omega, h3⟩⟩⟩
                  clear hv
                  go_wp2
                  go_quiet (fail)
                  go_wp2
                  go_roundw
                  case rel => exact ⟨j + 1, _, by omega, by go_num, HM', HRg, HRx.out.of_block rfl, HOk.out.trans (Only.below (below_drewN (Below.refl _ _) nq))⟩
                  case measure => simp [intOf]; omega
                · have hnv : ((v : Int) != (cl j : Int)) = true := by simp; omega
                  have HM' : Hid (MoreIs (.bool true) (j + 1) (fun q => if q = j then v else nx q) cl) := ⟨true, rfl, ⟨fun _ => ⟨j, by omega, by show (if j = j then v else nx j) ≠ cl j; rw [if_pos rfl]; exact hv⟩, fun _ => rfl⟩⟩
                  clear hv
                  go_wp2
                  go_quiet (fail)
                  go_wp2
                  go_roundw
                  case rel => exact ⟨j + 1, _, by omega, by go_num, HM', HRg, HRx.out.of_block rfl, HOk.out.trans (Only.below (below_drewN (Below.refl _ _) nq))⟩
                  case measure => simp [intOf]; omega
              · obtain ⟨m, rfl⟩ : ∃ m, k = m + 1 := ⟨k - 1, by omega⟩
                obtain rfl : z = (m : Int) := by have := HZk.out; omega
                have hmj : m < j := by omega
                have cm := HCk.out.cell (i := m) (by omega)
                have hbm : (0 : Int) ≤ (m : Int) ∧ (m : Int) < (i : Int) := by omega
                have hwm : IntKind.i64.wrap ((m : Int) - 1) = (m : Int) - 1 := by rw [IntKind.wrap_i64]; omega
                by_cases he : cl m = cl j
                · have hbe : ((cl m : Int) == (cl j : Int)) = true := by rw [he]; simp
                  have HE : Hid (cl m = cl j) := he
                  clear he
                  have HOt : Hid (OTab wr w.heap.size (.slice sa i sc) i PV L (sK K ls) (sK X ls)) := HOn.out.onlyB HOk.out (fun g' hg' e => HNB.out _ ⟨_, _, _, _, HO.out.own⟩ (by rw [hg', e])) (fun q hq g' hg' e => HNB.out _ ⟨_, _, _, _, HO.out.rows q hq⟩ (by rw [hg', e]))
                  have hTt := HOt.out.tabs.2
                  obtain ⟨sg, sc', hsv, _⟩ := owns_cell HOt.out.own (k := m) (y := PV m) (by rw [List.getElem?_map, List.getElem?_range (by omega)]; rfl)
                  cases hsv
                  have sm : wr.cell? ⟨sg, m, none⟩ = some (.slice (slA (PV m)) (L m) (slC (PV m))) := by
                    have := hTt.tab m (by omega)
                    rw [Nat.zero_add] at this
                    exact this
                  have sj : wr.cell? ⟨sg, j, none⟩ = some (.slice (slA (PV j)) (L j) (slC (PV j))) := by
                    have := hTt.tab j hlt
                    rw [Nat.zero_add] at this
                    exact this
                  have hlook := l3looks_any (slA (PV m)) (slA (PV j)) (L m) (slC (PV m)) (slB (PV m)) 0 (L j) (slC (PV j)) (slB (PV j)) 0 (sK K ls m) (sK X ls m) (sK K ls j) (sK X ls j) i g i cl wr.drew (by have := HL.out m (by omega); omega) (by have := HL.out j hlt; omega) (HSV.out m (by omega)) (HSV.out j hlt) ((hTt.row m (by omega)).below (Below.refl _ _).drew) ((hTt.row j hlt).below (Below.refl _ _).drew) (show ClsAt _ _ _ _ from fun q hq => HCk.out.cell hq)
                  obtain ⟨am, ham⟩ : ∃ a, slA (PV m) = a := ⟨_, rfl⟩
                  obtain ⟨aj, haj⟩ : ∃ a, slA (PV j) = a := ⟨_, rfl⟩
                  obtain ⟨km, hkm⟩ : ∃ a, slC (PV m) = a := ⟨_, rfl⟩
                  obtain ⟨kj, hkj'⟩ : ∃ a, slC (PV j) = a := ⟨_, rfl⟩
                  rw [ham, hkm] at sm
                  rw [haj, hkj'] at sj
                  rw [ham, haj, hkm, hkj'] at hlook
                  replace cm := cellB cm
                  replace cj := cellB cj
                  replace sm := cellB sm
                  replace sj := cellB sj
                  clear ham haj hkm hkj' hTt HOt
                  go_wp2
                  go_region_held3 (fun w' => Below wr.heap.size wr w')
                    (first | exact grw (Below.drew (Below.refl _ _)) hb5 | exact (Below.refl _ _).drew)
                    ((go_at_call 89; refine hlook.mono ?_; rintro e w5 ⟨⟨b, rfl, hb⟩, hb5⟩))
                  rename_i hS
                  have HB5 : Hid (Below wr.heap.size wr w5) := hS
                  have HBb : Hid (b = true ↔ Looks L (sK K ls) (sK X ls) cl m j) := hb.trans look2_iff
                  have HR5 : Hid (w5.rowIs nb 3 i (fun q => if q = j then .int .i64 (v : Nat) else if q < j then .int .i64 (nx q : Nat) else .int .i64 ((0 : Nat) : Int))) := HRk.out.of_block (HB5.out.block _ HRk.out.lt)
                  have HO5 : Hid (Only (fun k => k = nb) wn w5) := HOk.out.trans (Only.below HB5.out)
                  clear hS hb hb5 cm cj sm sj hlook HRk HOk
                  cases b
                  · have HF' : Hid (Found L (sK K ls) (sK X ls) cl nx j m v) := HF.out.no (fun h => by have := HBb.out.2 h.2; cases this)
                    go_wp2
                    go_roundw
                    case rel => exact ⟨m, v, _, rfl, rfl, by omega, HF', HR5, HO5⟩
                    case measure => simp [intOf] <;> omega
                  · have HF' : Hid (Found L (sK K ls) (sK X ls) cl nx j m (nx m)) := Found.yes hmj ⟨HE.out, HBb.out.1 rfl⟩
                    have nm := HR5.out.cell (i := m) (by omega)
                    rw [if_neg (by omega), if_pos hmj] at nm
                    have nj := HR5.out.cell hlt
                    have nz := HR5.out.frozen
                    have HR6 : Hid ((w5.setCell ⟨nb, j, none⟩ (.int .i64 (nx m : Nat))).rowIs nb 3 i (fun q => if q = j then .int .i64 (nx m : Nat) else if q < j then .int .i64 (nx q : Nat) else .int .i64 ((0 : Nat) : Int))) := (HR5.out.set j _).congr (fun q _ => by
                      by_cases e : q = j
                      · rw [if_pos e, if_pos e]
                      · rw [if_neg e, if_neg e, if_neg e])
                    have HO6 : Hid (Only (fun k => k = nb) wn (w5.setCell ⟨nb, j, none⟩ (.int .i64 (nx m : Nat)))) := HO5.out.set rfl _
                    go_wp2
                    go_roundw
                    case rel => exact ⟨m, nx m, _, rfl, rfl, by omega, HF', HR6, HO6⟩
                    case measure => simp [intOf] <;> omega
                · have hbe : ((cl m : Int) == (cl j : Int)) = false := by rw [beq_nat]; exact beq_false_of_ne he
                  have HF' : Hid (Found L (sK K ls) (sK X ls) cl nx j m v) := HF.out.no (fun h => he h.1)
                  clear he
                  go_wp2
                  go_quiet (fail)
                  go_wp2
                  go_roundw
                  case rel => exact ⟨m, v, _, rfl, rfl, by omega, HF', HRk.out.of_block rfl, HOk.out.trans (Only.below (below_drewN (Below.refl _ _) nq))⟩
                  case measure => simp [intOf]
          · obtain rfl : j = i := by omega
            have HRf : Hid (wr.rowIs nb 3 j (fun q => .int .i64 (nx q : Nat))) := HRw.out.congr (fun q hq => by rw [if_pos hq])
            have HBf : Hid (Below ws.heap.size ws wr) := HBn.out.trans (HOl.out.toBelow (fun k hk => by omega) HBn.out.size)
            cases bm
            · have HEq : Hid (∀ q, q < j → nx q = cl q) := show ∀ q, _ from fun q hq => Classical.byContradiction fun hne => by
                have := HBM.out.2 ⟨q, hq, hne⟩
                cases this
              go_wp2
              go_ret
              refine ⟨⟨nb, nx, ls, rfl, by omega, HRf.out, HLs.out, ?_⟩, grw HB.out HBf.out⟩
              exact (HRo.out.done HOw.out HEq.out).congr HGs.out (fun q hq => (HEq.out q hq).symm)
            · obtain ⟨q, hq, hne⟩ := HBM.out.1 rfl
              have HMr : Hid (reps j cl < reps j nx) := HRo.out.more HOw.out hq hne
              have HOw' : Hid (OnWay j L (sK K ls) (sK X ls) nx) := HRo.out.next HOw.out
              have h1 : Hid (reps j (clsIn wr (.slice (some ⟨nb, 0, none⟩) j j)) = reps j nx) := reps_congr (fun q hq => clsIn_row HRf.out hq)
              have h2 : Hid (reps j (clsIn wq (.slice (some ⟨g, 0, none⟩) j j)) = reps j cl) := reps_congr (fun q hq => clsIn_row HCr.out hq)
              clear hne hq
              go_wp2
              go_roundw
              case rel => exact ⟨nb, nx, rfl, show w.heap.size ≤ nb by omega, HRf, HOw', HBf⟩
              case measure =>
                have h3 := HMr.out
                have h4 := reps_le j nx
                rw [HWQ.out] at h2
                rw [h1.out, h2.out]
                omega

end Go.Proofs.Ytgflalfiopnmnab

namespace Go.Proofs.Ytgflalfiopnmnab
open Go.RowKit Vl

theorem IsCls.agree {n : Nat} {L L' : Nat → Nat} {K X K' X' : Nat → Nat → V} {f : Nat → Nat} (h : IsCls n L K X f) (hL : ∀ j, j < n → L j = L' j) (hK : ∀ j, j < n → K j = K' j) (hX : ∀ j, j < n → X j = X' j) : IsCls n L' K' X' f := by
  refine ⟨h.low, h.idem, fun i j hi hj e => ?_, fun R hR i j hr => h.wide R (fun i j hr => ?_) i j hr⟩
  · have := h.bis i j hi hj e
    refine ⟨by rw [← hL i hi, ← hL j hj]; exact this.len, fun c hc => ?_⟩
    rw [← hK i hi, ← hK j hj, ← hX i hi, ← hX j hj]
    exact this.all c (by rw [hL i hi]; exact hc)
  · have h2 := hR i j hr
    have hi := h2.1
    have hj := h2.2.1
    rw [hL i hi, hL j hj, hK i hi, hK j hj, hX i hi, hX j hj]
    exact h2

/-- The classes of one graph. -/
def ClsRes (w w' : World) (e : Ending) (n : Nat) (u : V) (L : Nat → Nat) (K X : Nat → Nat → V) : Prop :=
  (OkG n u L K X ∧ ∃ (g : Nat) (f : Nat → Nat) (ls : Nat → List Nat), e = .returned (.slice (some ⟨g, 0, none⟩) n n) ∧ w.heap.size ≤ g ∧ w'.rowIs g 3 n (fun i => .int .i64 (f i : Nat)) ∧ (∀ r, r < n → SortI (K r) (L r) (ls r)) ∧ IsCls n L (sK K ls) (sK X ls) f) ∨ (¬ OkG n u L K X ∧ e = .returned (.slice none 0 0))

set_option maxHeartbeats 2000000 in
set_option maxRecDepth 100000 in
theorem specClasses_any (u : V) (ta : Option Addr) (n cp TB TO : Nat) (A : Nat → Option Addr) (L C RB RO : Nat → Nat) (K X : Nat → Nat → V) (w : World) (hn : n ≤ 1048576)
    (HS : Hid (Small 1048576 n L K X)) (HT : Hid (TabsAt w ta n TB TO A L C RB RO K X)) :
    Calls Try.prog 32 #[.agg #[.int .i64 u.k, .int .i64 u.n, .string u.s, .int .i64 u.a, .slice ta n cp]] w fun e w' => ClsRes w w' e n u L K X ∧ Below w.heap.size w w' := by
  obtain ⟨w0, hw0⟩ : ∃ w0, w0 = w.alloc (.cells #[.int .i64 u.k, .int .i64 u.n, .string u.s, .int .i64 u.a, .slice ta n cp] 32) := ⟨_, rfl⟩
  have H0 : Hid (w0.heap[w.heap.size]? = some (.cells #[.int .i64 u.k, .int .i64 u.n, .string u.s, .int .i64 u.a, .slice ta n cp] 32 (0, 0))) := by rw [hw0]; exact heap_alloc_new _ _
  have HB0 : Hid (Below w.heap.size w w0) := by rw [hw0]; exact (Below.refl _ _).alloc (Nat.le_refl _) _
  have HT0 : Hid (TabsAt w0 ta n TB TO A L C RB RO K X) := HT.out.below HB0.out
  have hok := specOk_any u ta n cp TB TO A L C RB RO K X w0 hn HS HT0
  obtain ⟨g0, g1, g2, g3, g4, _⟩ := cells5 H0.out
  go_enter Try.func32, Try.ntmps32
  go_wp2_with fail
  rw [← hw0]
  refine hok.mono ?_
  clear hok hw0 g0 g1 g2 g3 g4
  rintro e w1 ⟨⟨b, rfl, hb⟩, hb1⟩
  have HB1 : Hid (Below w0.heap.size w0 w1) := hb1
  have HBw : Hid (Below w.heap.size w w1) := grw HB0.out hb1
  have H1 : Hid (w1.heap[w.heap.size]? = some (.cells #[.int .i64 u.k, .int .i64 u.n, .string u.s, .int .i64 u.a, .slice ta n cp] 32 (0, 0))) := blkB H0.out hb1
  have HT1 : Hid (TabsAt w1 ta n TB TO A L C RB RO K X) := HT0.out.below hb1
  clear hb1
  cases b
  · have HN : Hid (¬ OkG n u L K X) := show ¬ _ from fun h => by have := hb.2 h; cases this
    clear hb
    go_wp2
    go_ret
    exact ⟨Or.inr ⟨HN.out, rfl⟩, HBw.out⟩
  · have HO : Hid (OkG n u L K X) := hb.1 rfl
    clear hb
    have hcl := l3classes_any ta n cp TB TO A L C RB RO K X w1 (by have := HO.out.len; omega) (show ∀ r, _ from fun r hr => (HO.out.all r hr).len) (show ∀ r, _ from fun r hr c hc => by have := ((HS.out r hr).2 c hc).1; omega) (good_of HO.out) HT1
    obtain ⟨g0, g1, g2, g3, g4, _⟩ := cells5 H1.out
    go_wp2_with fail
    refine hcl.mono ?_
    clear hcl g0 g1 g2 g3 g4
    rintro e w2 ⟨⟨g, f, ls, rfl, hg, hr, hs, hi⟩, hb2⟩
    go_wp2
    go_ret
    exact ⟨Or.inl ⟨HO.out, g, f, ls, rfl, Nat.le_trans HBw.out.size hg, hr, hs, hi⟩, grw HBw.out hb2⟩

set_option maxHeartbeats 2000000 in
set_option maxRecDepth 100000 in
theorem implClasses_any (u : V) (ta : Option Addr) (n cp TB TO : Nat) (A : Nat → Option Addr) (L C RB RO : Nat → Nat) (K X : Nat → Nat → V) (w : World) (hn : n ≤ 1048576)
    (HS : Hid (Small 1048576 n L K X)) (HT : Hid (TabsAt w ta n TB TO A L C RB RO K X)) :
    Calls Try.prog 33 #[.agg #[.int .i64 u.k, .int .i64 u.n, .string u.s, .int .i64 u.a, .slice ta n cp]] w fun e w' => ClsRes w w' e n u L K X ∧ Below w.heap.size w w' := by
  have A2 := alloc2 w (.cells #[.int .i64 u.k, .int .i64 u.n, .string u.s, .int .i64 u.a, .slice ta n cp] 32) (.cells #[.int .i64 u.k, .int .i64 u.n, .string u.s, .int .i64 u.a, .slice ta n cp] 32)
  obtain ⟨w0, hw0⟩ : ∃ w0, w0 = (w.alloc (.cells #[.int .i64 u.k, .int .i64 u.n, .string u.s, .int .i64 u.a, .slice ta n cp] 32)).alloc (.cells #[.int .i64 u.k, .int .i64 u.n, .string u.s, .int .i64 u.a, .slice ta n cp] 32) := ⟨_, rfl⟩
  rw [← hw0] at A2
  have HB0 : Hid (Below w.heap.size w w0) := A2.2.2.2
  obtain ⟨k0, k1, k2, k3, k4, _⟩ := cells5 A2.2.1
  obtain ⟨G, HGd⟩ : ∃ G : GrS, Hid (G = ⟨fun _ => u, fun _ => n, fun _ => L, fun _ => K, fun _ => X⟩) := ⟨_, rfl⟩
  have HGs : Hid (GsAt w0 1 (w.heap.size + 1) G (fun _ => ta) (fun _ => cp) (fun _ => TB) (fun _ => TO) (fun _ => A) (fun _ => C) (fun _ => RB) (fun _ => RO)) := by
    rw [HGd.out]
    refine ⟨fun q hq => ?_, fun q hq => ?_, fun q hq => ?_, fun q hq => ?_, fun q hq => ?_, fun _ _ => ⟨hn, HS.out⟩, fun _ _ => HT.out.below HB0.out⟩ <;> (obtain rfl : q = 0 := by omega) <;> assumption
  have hcf := classify_any 1 (by omega) (by omega) (w.heap.size + 1) G _ _ _ _ _ _ _ _ w0 HGs
  have hoff : G.off 1 = n := by rw [HGd.out]; simp [GrS.off]
  rw [hoff] at hcf
  clear k0 k1 k2 k3 k4 A2
  go_enter Try.func33, Try.ntmps33
  go_wp2_with fail
  rw [← hw0]
  refine hcf.mono ?_
  clear hcf hw0
  rintro e w1 ⟨hcase, hb1⟩
  have HB1 : Hid (Below w.heap.size w w1) := grw HB0.out hb1
  rcases hcase with ⟨T, M, Lc, Kc, Xc, ls, f, rv, tv, cb, rfl, hd⟩ | ⟨⟨q, hq, hno⟩, rfl⟩
  · obtain ⟨ra, rc, rfl, _⟩ := owns_form hd.roots
    obtain ⟨va, vc, rfl, _⟩ := owns_form hd.tabs
    rw [hoff]
    have HR : Hid (ClsRes w w1 (.returned (.slice (some ⟨cb, 0, none⟩) n n)) n u L K X) := by
      have h1 := hd.cls
      have h2 := hd.srt
      have h3 := hd.is
      have hok := hd.cmb.ok 0 (by omega)
      have htab := hd.cmb.tab 0 (by omega)
      rw [hoff] at h1 h2 h3
      rw [HGd.out] at hok htab
      simp only [GrS.off, Nat.zero_add, sh_zero] at hok htab
      have hL : ∀ j, j < n → Lc j = L j := fun j hj => (htab j hj).1
      have hK : ∀ j, j < n → Kc j = K j := fun j hj => (htab j hj).2.1
      have hX : ∀ j, j < n → Xc j = X j := fun j hj => funext (htab j hj).2.2
      refine Or.inl ⟨hok, cb, f, ls, rfl, Nat.le_trans HB0.out.size hd.lo, h1, fun r hr => ?_, h3.agree hL (fun j hj => ?_) (fun j hj => ?_)⟩
      · rw [← hK r hr, ← hL r hr]; exact h2 r hr
      · unfold sK; rw [hK j hj]
      · unfold sK; rw [hX j hj]
    clear hd
    obtain ⟨w2, hw2⟩ : ∃ w2, w2 = w1.alloc (.cells #[.slice ra 1 rc, .slice va n vc, .slice (some ⟨cb, 0, none⟩) n n] 87) := ⟨_, rfl⟩
    have hb2 : Below w1.heap.size w1 w2 := by rw [hw2]; exact (Below.refl _ _).alloc (Nat.le_refl _) _
    go_wp2
    rw [← hw2]
    go_ret
    refine ⟨?_, grw HB1.out hb2⟩
    rcases HR.out with ⟨h1, g, f, ls, h2, h3, h4, h5, h6⟩ | ⟨h1, h2⟩
    · exact Or.inl ⟨h1, g, f, ls, h2, h3, h4.of_block (hb2.block _ h4.lt), h5, h6⟩
    · exact Or.inr ⟨h1, h2⟩
  · have HN : Hid (¬ OkG n u L K X) := by rw [HGd.out] at hno; exact hno
    have hb2 : ∀ o, Below w1.heap.size w1 (w1.alloc o) := fun o => (Below.refl _ _).alloc (Nat.le_refl _) _
    go_wp2
    go_ret
    exact ⟨Or.inr ⟨HN.out, rfl⟩, grw HB1.out (hb2 _)⟩

end Go.Proofs.Ytgflalfiopnmnab

namespace Go.Proofs.Ytgflalfiopnmnab
open Go.RowKit Vl

/-- Numbers in a row. -/
def IRow (w : World) (A : Option Addr) (L B : Nat) (f : Nat → Int) : Prop := ∀ k, k < L → A = some ⟨B, 0, none⟩ ∧ w.cell? ⟨B, k, none⟩ = some (.int .i64 (f k))
theorem IRow.below {w w' : World} {A : Option Addr} {L B : Nat} {f : Nat → Int} (h : IRow w A L B f) (hb : Below w.heap.size w w') : IRow w' A L B f := fun k hk => ⟨(h k hk).1, (hb.cell (World.block_lt_of_cell? _ _ (h k hk).2)).trans (h k hk).2⟩

theorem if_step2 {α : Type} (i j : Nat) (x : α) (f g : Nat → α) (e : x = f j) : (if i = j then x else if i < j then f i else g i) = if i < j + 1 then f i else g i := by
  by_cases h : i = j
  · subst h; simp [e]
  · rw [if_neg h]
    by_cases hlt : i < j
    · rw [if_pos hlt, if_pos (by omega)]
    · rw [if_neg hlt, if_neg (by omega)]

/-- The first j cells of a row are marked, from k on. -/
def marks (k : Int) (j : Nat) (f : Nat → Value) : Nat → Value := fun c => if c < j then .int .i64 (k + c) else f c

theorem marks_set {w : World} {B t cap : Nat} {k x : Int} {j : Nat} {f : Nat → Value} (h : w.rowIs B t cap (marks k j f)) (hx : x = k + j) : (w.setCell ⟨B, j, none⟩ (.int .i64 x)).rowIs B t cap (marks k (j + 1) f) := by
  subst hx
  exact (h.set j _).congr (fun i _ => if_step2 i j _ (fun c => Value.int .i64 (k + c)) f rfl)
theorem marks_zero {w : World} {B t cap : Nat} {k : Int} {f : Nat → Value} (h : w.rowIs B t cap f) : w.rowIs B t cap (marks k 0 f) := h.congr (fun i _ => by simp [marks])
theorem marks_cell {w : World} {B t cap : Nat} {k : Int} {j : Nat} {f : Nat → Value} (h : w.rowIs B t cap (marks k j f)) (hj : j < cap) : w.cell? ⟨B, j, none⟩ = some (f j) := by
  rw [h.cell hj]; simp [marks]

set_option maxHeartbeats 1000000 in
/-- 'markIntS'. -/
theorem markS_any (A : Option Addr) (L C B cap : Nat) (f : Nat → Value) (k : Int) (w : World) (hL : L ≤ 1048576) (hk0 : 0 ≤ k) (hk1 : k ≤ 1125899906842624) (hA : 0 < L → A = some ⟨B, 0, none⟩) (hc : L ≤ cap) (HR : Hid (0 < L → w.rowIs B 3 cap f)) :
    Calls Try.prog 35 #[.slice A L C, .int .i64 k] w fun e w' => e = .returned (.int .i64 (k + L)) ∧ Only (fun b => b = B ∧ 0 < L) w w' ∧ (0 < L → w'.rowIs B 3 cap (marks k L f)) := by
  go_enter Try.func35, Try.ntmps35
  go_wp2
  go_loopw [1, 5] (fun kk i wr => ∃ j : Nat, j ≤ L ∧ i = .int .i64 j ∧ kk = .int .i64 (k + j) ∧ Hid (Only (fun b => b = B ∧ 0 < L) w wr) ∧ Hid (0 < L → wr.rowIs B 3 cap (marks k j f))) (fun _ i _ => L - (intOf i).toNat)
  case atStart => exact ⟨0, Nat.zero_le _, rfl, by simp, Only.refl _ _, fun h => marks_zero (HR.out h)⟩
  case round =>
    obtain ⟨j, hj, rfl, rfl, HO, HM⟩ := hrel
    by_cases hlt : j < L
    · obtain rfl := hA (by omega)
      have hr := HM.out (by omega)
      have ho := marks_cell hr (by omega)
      have hz := hr.frozen j
      have HN : Hid (0 < L → (wr.setCell ⟨B, j, none⟩ (.int .i64 (k + j))).rowIs B 3 cap (marks k (j + 1) f)) := fun _ => marks_set hr rfl
      have HO2 : Hid (Only (fun b => b = B ∧ 0 < L) w (wr.setCell ⟨B, j, none⟩ (.int .i64 (k + j)))) := HO.out.set (p := ⟨B, j, none⟩) ⟨rfl, by omega⟩ _
      clear hr HO HM
      go_wp2
      go_roundw
      case rel => exact ⟨j + 1, by omega, by go_num, by go_num, HO2, HN⟩
      case measure => simp [intOf]; omega
    · obtain rfl : j = L := by omega
      go_wp2
      go_ret
      exact ⟨rfl, HO.out, HM.out⟩

set_option maxHeartbeats 1000000 in
/-- 'heldIntS' behind 'markIntS'. -/
theorem heldS_any (A : Option Addr) (L C B : Nat) (k : Int) (w : World) (hL : L ≤ 1048576) (hk0 : 0 ≤ k) (hk1 : k ≤ 1125899906842624) (HR : Hid (IRow w A L B (fun c => k + c))) :
    Calls Try.prog 36 #[.slice A L C, .int .i64 k] w fun e w' => e = .returned (.int .i64 (k + L)) ∧ w' = w := by
  go_enter Try.func36, Try.ntmps36
  go_wp2
  go_loop [1, 5] (fun kk i => ∃ j : Nat, j ≤ L ∧ i = .int .i64 j ∧ kk = .int .i64 (k + j)) (fun _ i => L - (intOf i).toNat)
  case atStart => exact ⟨0, Nat.zero_le _, rfl, by simp⟩
  case round =>
    obtain ⟨j, hj, rfl, rfl⟩ := hrel
    by_cases hlt : j < L
    · obtain ⟨e1, v⟩ := HR.out j hlt
      subst e1
      go_wp2
      go_round
      case rel => exact ⟨j + 1, by omega, by go_num, by go_num⟩
      case measure => simp [intOf]; omega
    · obtain rfl : j = L := by omega
      go_wp2
      go_ret
      exact ⟨rfl, rfl⟩

set_option maxHeartbeats 1000000 in
/-- 'eqIntS' of two rows with the same numbers. -/
theorem eqI_same (A A' : Option Addr) (L C C' B B' : Nat) (f : Nat → Int) (w : World) (hL : L ≤ 1048576) (hr : IRow w A L B f) (hr' : IRow w A' L B' f) :
    Calls Try.prog 34 #[.slice A L C, .slice A' L C'] w fun e w' => e = .returned (.bool true) ∧ ∃ m, w' = w.drewN m := by
  go_enter Try.func34, Try.ntmps34
  go_wp2
  go_loopw [5] (fun i wr => ∃ k m : Nat, k ≤ L ∧ i = .int .i64 k ∧ wr = w.drewN m) (fun i _ => L - (intOf i).toNat)
  case atStart => exact ⟨0, 0, Nat.zero_le _, rfl, rfl⟩
  case round =>
    obtain ⟨k, m, hk, rfl, rfl⟩ := hrel
    by_cases hlt : k < L
    · obtain ⟨rfl, v⟩ := hr k hlt
      obtain ⟨rfl, v'⟩ := hr' k hlt
      clear hr hr'
      have ik : (k : Int) < (L : Int) := by omega
      go_wp2_with fail
      go_quiet (fail)
      go_wp2
      go_roundw
      case rel => exact ⟨k + 1, m + nq, by omega, by go_num, rfl⟩
      case measure => simp [intOf]; omega
    · go_wp2
      go_ret
      exact ⟨rfl, m, rfl⟩


/-- A call's answer is a row of numbers in memory of its own. -/
def IntRes (w w' : World) (e : Ending) (N : Nat) (F : Nat → Nat) : Prop :=
  ∃ (A : Option Addr) (g : Nat), e = .returned (.slice A N N) ∧ (0 < N → A = some ⟨g, 0, none⟩) ∧ (0 < N → w.heap.size ≤ g ∧ w'.rowIs g 3 N (fun i => .int .i64 (F i : Nat)))

/-- The classes, told. -/
def ClsAre (n : Nat) (L : Nat → Nat) (K X : Nat → Nat → V) (f : Nat → Nat) : Prop := ∃ ls : Nat → List Nat, (∀ r, r < n → SortI (K r) (L r) (ls r)) ∧ IsCls n L (sK K ls) (sK X ls) f
theorem ClsAre.uniq {n : Nat} {u : V} {L : Nat → Nat} {K X : Nat → Nat → V} {f f' : Nat → Nat} (hok : OkG n u L K X) (h : ClsAre n L K X f) (h' : ClsAre n L K X f') {i : Nat} (hi : i < n) : f i = f' i := by
  obtain ⟨ls, h1, h2⟩ := h
  obtain ⟨ls', k1, k2⟩ := h'
  have e : ∀ r, r < n → ls' r = ls r := fun r hr => SortI.one (hok.all r hr) (k1 r hr) (h1 r hr)
  have k3 := k2.agree (L' := L) (K' := sK K ls) (X' := sK X ls) (fun _ _ => rfl) (fun j hj => by unfold sK; rw [e j hj]) (fun j hj => by unfold sK; rw [e j hj])
  refine IsCls.uniq (fun r hr c hc => ?_) h2 k3 hi
  exact good_of hok r hr _ ((h1 r hr).lt hc)

open Classical in
theorem cls_fixed (n : Nat) (u : V) (L : Nat → Nat) (K X : Nat → Nat → V) : ∃ (N : Nat) (F : Nat → Nat), N ≤ 200 ∧ ∀ w w' e, ClsRes w w' e n u L K X → IntRes w w' e N F := by
  by_cases hok : OkG n u L K X
  · refine ⟨n, Classical.epsilon (fun f => ClsAre n L K X f), hok.len, fun w w' e h => ?_⟩
    rcases h with ⟨_, g, f, ls, rfl, h1, h2, h3, h4⟩ | ⟨hno, _⟩
    · have hf : ClsAre n L K X f := ⟨ls, h3, h4⟩
      have he := Classical.epsilon_spec (p := fun f => ClsAre n L K X f) ⟨f, hf⟩
      exact ⟨_, g, rfl, fun _ => rfl, fun _ => ⟨h1, h2.congr (fun i hi => by rw [hf.uniq hok he hi])⟩⟩
    · exact absurd hok hno
  · refine ⟨0, fun _ => 0, Nat.zero_le _, fun w w' e h => ?_⟩
    rcases h with ⟨h, _⟩ | ⟨_, rfl⟩
    · exact absurd h hok
    · exact ⟨none, 0, rfl, fun h => by omega, fun h => by omega⟩

end Go.Proofs.Ytgflalfiopnmnab

namespace Go.Proofs.Ytgflalfiopnmnab
open Go.RowKit Vl

/-- The value itself, or the one table that stands for its class. -/
def fstV (f : Nat → Nat) (v : V) : V := if v.k = 4 then ⟨v.k, v.n, v.s, (f v.a.toNat : Nat)⟩ else v

set_option maxHeartbeats 2000000 in
set_option maxRecDepth 100000 in
/-- '(classed).first'. -/
theorem first_any (N q rc vc tb cb : Nat) (T M L : Nat → Nat) (K X : Nat → Nat → V) (f : Nat → Nat) (ra va : Option Addr) (v : V) (w : World) (hv : isV N v = true) (hN : N ≤ 400) (HF : Hid (∀ i, i < N → f i ≤ i)) (hva : 0 < N → va = some ⟨tb, 0, none⟩)
    (HR : Hid (∀ j, j < N → w.cell? ⟨tb, j, none⟩ = some (ptr (T j)))) (HC : Hid (∀ j, j < N → w.cell? ⟨cb, j, none⟩ = some (.int .i64 (f j : Nat)))) (HT : Hid (Tbs w N T M (fun j => (j : Nat)) L K X)) :
    Calls Try.prog 65 #[.agg #[.slice ra q rc, .slice va N vc, .slice (some ⟨cb, 0, none⟩) N N], ifv T v] w fun e w' => e = .returned (ifv T (fstV f v)) ∧ Below w.heap.size w w' := by
  obtain ⟨w0, hw0⟩ : ∃ w0, w0 = w.alloc (.cells #[.slice ra q rc, .slice va N vc, .slice (some ⟨cb, 0, none⟩) N N] 87) := ⟨_, rfl⟩
  have HB0 : Hid (Below w.heap.size w w0) := by rw [hw0]; exact (Below.refl _ _).alloc (Nat.le_refl _) _
  have H0 : Hid (w0.heap[w.heap.size]? = some (.cells #[.slice ra q rc, .slice va N vc, .slice (some ⟨cb, 0, none⟩) N N] 87 (0, 0))) := by rw [hw0]; exact heap_alloc_new _ _
  by_cases h4 : v.k = 4
  · obtain ⟨a0, a1⟩ := isV_tab hv h4
    obtain ⟨a, ha⟩ : ∃ a : Nat, v.a.toNat = a := ⟨_, rfl⟩
    have haN : a < N := by omega
    have hE : Hid (ifv T (fstV f v) = .iface 92 (ptr (T (f a)))) := by
      unfold fstV
      rw [if_pos h4]
      show ifv T ⟨v.k, v.n, v.s, (f v.a.toNat : Nat)⟩ = _
      rw [ifv_tab (show (⟨v.k, v.n, v.s, (f v.a.toNat : Nat)⟩ : V).k = 4 from h4), ha]
      rfl
    rw [hE.out, ifv_tab h4, ha]
    obtain rfl := hva (by omega)
    have hay := assert_yes (T a) w0
    obtain ⟨c0, c1, c2, cz⟩ := three_at H0.out
    have hfa := HF.out a haN
    have t0 : w0.cell? ⟨T a, 0, none⟩ = some (.int .i64 (a : Nat)) := (HB0.out.cell (p := ⟨T a, 0, none⟩) (HT.out.lt haN)).trans (HT.out.at0 a haN)
    have d0 : w0.cell? ⟨cb, a, none⟩ = some (.int .i64 (f a : Nat)) := (HB0.out.cell (World.block_lt_of_cell? _ _ (HC.out a haN))).trans (HC.out a haN)
    have e0 : w0.cell? ⟨tb, f a, none⟩ = some (ptr (T (f a))) := (HB0.out.cell (World.block_lt_of_cell? _ _ (HR.out (f a) (by omega)))).trans (HR.out (f a) (by omega))
    have ib : (0 : Int) ≤ (a : Int) ∧ (a : Int) < (N : Int) := by omega
    have jb : (0 : Int) ≤ (f a : Int) ∧ (f a : Int) < (N : Int) := by omega
    obtain ⟨fa, hfa'⟩ : ∃ fa, f a = fa := ⟨_, rfl⟩
    rw [hfa'] at d0 e0 jb hfa hE ⊢
    rw [hw0] at hay c0 c1 c2 t0 d0 e0
    go_enter Try.func65, Try.ntmps65
    go_wp2_with fail
    go_quiet (fail)
    go_wp2
    go_ret
    rw [← hw0]
    exact ⟨rfl, below_drewN HB0.out _⟩
  · have hE : Hid (fstV f v = v) := by unfold fstV; rw [if_neg h4]; rfl
    rw [hE.out]
    have hno := assert_no hv h4 T w0
    obtain ⟨xt, xy, hxv⟩ := ifv_form T v
    have HXV : Hid (ifv T v = .iface xt xy) := hxv
    rw [hxv] at hno ⊢
    rw [hw0] at hno
    clear hxv
    go_enter Try.func65, Try.ntmps65
    go_wp2
    go_ret
    rw [← hw0]
    exact ⟨rfl, HB0.out⟩

end Go.Proofs.Ytgflalfiopnmnab

namespace Go.Proofs.Ytgflalfiopnmnab
open Go.RowKit Vl

theorem eq_truth (a b : Bool) (w : World) : (binOp .eql 67 (.iface 132 (.agg #[.bool a])) (.iface 132 (.agg #[.bool b]))).run Try.prog w = .ok (.bool (a == b)) w := by
  cases a <;> cases b <;> kernel_rfl
theorem eq_whole (a b : Int) (w : World) : (binOp .eql 67 (.iface 134 (.agg #[.int .i64 a])) (.iface 134 (.agg #[.int .i64 b]))).run Try.prog w = .ok (.bool (a == b)) w := by
  have h1 : (binOp .eql 67 (.iface 134 (.agg #[.int .i64 a])) (.iface 134 (.agg #[.int .i64 b]))).run Try.prog w = (binOp .eql 134 (.agg #[.int .i64 a]) (.agg #[.int .i64 b])).run Try.prog w := by kernel_rfl
  rw [h1]
  go_simp
  by_cases h : a = b <;> simp [h]
theorem eq_words (a b : ByteArray) (w : World) : (binOp .eql 67 (.iface 136 (.agg #[.string a])) (.iface 136 (.agg #[.string b]))).run Try.prog w = .ok (.bool (a.toList == b.toList)) w := by
  have h1 : (binOp .eql 67 (.iface 136 (.agg #[.string a])) (.iface 136 (.agg #[.string b]))).run Try.prog w = (binOp .eql 136 (.agg #[.string a]) (.agg #[.string b])).run Try.prog w := by kernel_rfl
  rw [h1]
  go_simp
  by_cases h : a.toList = b.toList <;> simp [h]
theorem Try.isFace : ((Try.prog.underlying 67).map fun d => match d with | .interface _ => true | _ => false) = some true := by kernel_rfl
theorem Try.isPtr : ((Try.prog.underlying 92).map fun d => match d with | .pointer e => some e | _ => none) = some (some 95) := by kernel_rfl
theorem Try.cmpPtr : (Try.prog.info? 92).map (fun i => i.comparable) = some true := by kernel_rfl
theorem Try.szTab : (Try.prog.info? 95).map (fun i => i.size) = some 3 := by kernel_rfl
theorem eq_tab (a b : Nat) (w : World) (ha : ∃ ca ta, w.heap[a]? = some (.cells ca ta (0, 0))) (hb : ∃ cb tb, w.heap[b]? = some (.cells cb tb (0, 0))) : (binOp .eql 67 (.iface 92 (ptr a)) (.iface 92 (ptr b))).run Try.prog w = .ok (.bool (a == b)) w := by
  obtain ⟨ca, ta, ha⟩ := ha
  obtain ⟨cb, tb, hb⟩ := hb
  obtain ⟨ms, hi⟩ : ∃ ms, Try.prog.underlying 67 = some (.interface ms) := by
    have h := Try.isFace
    cases e : Try.prog.underlying 67 with
    | none => rw [e] at h; cases h
    | some d => rw [e] at h; cases d <;> first | exact ⟨_, rfl⟩ | cases h
  have hp : Try.prog.underlying 92 = some (.pointer 95) := by
    have h := Try.isPtr
    cases e : Try.prog.underlying 92 with
    | none => rw [e] at h; cases h
    | some d => rw [e] at h; cases d <;> first | (cases h; rfl) | cases h
  obtain ⟨i, hinfo, hc⟩ : ∃ i, Try.prog.info? 92 = some i ∧ i.comparable = true := by
    have h := Try.cmpPtr
    cases e : Try.prog.info? 92 with
    | none => rw [e] at h; cases h
    | some d => rw [e] at h; exact ⟨d, rfl, by simpa using h⟩
  obtain ⟨j, hj, hsz⟩ : ∃ j, Try.prog.info? 95 = some j ∧ j.size = 3 := by
    have h := Try.szTab
    cases e : Try.prog.info? 95 with
    | none => rw [e] at h; cases h
    | some d => rw [e] at h; exact ⟨d, rfl, by simpa using h⟩
  by_cases h : a = b
  · subst h
    have := run_eql_iface_ptr_same (P := Try.prog) w ⟨a, 0, none⟩ hi hp hinfo hc hj
    simpa using this
  · have := run_eql_iface_ptr_other (P := Try.prog) w (a := ⟨a, 0, none⟩) (b := ⟨b, 0, none⟩) hi hp hinfo hc hj (by omega) (fun e => h (by cases e; rfl)) ha hb
    have hf : (a == b) = false := by simpa using h
    rw [hf]
    exact this

theorem kinds {n : Nat} {v : V} (h : isV n v = true) : v.k = 0 ∨ v.k = 1 ∨ v.k = 2 ∨ v.k = 3 ∨ v.k = 4 := by
  by_cases k0 : v.k = 0
  · exact Or.inl k0
  by_cases k1 : v.k = 1
  · exact Or.inr (Or.inl k1)
  by_cases k2 : v.k = 2
  · exact Or.inr (Or.inr (Or.inl k2))
  by_cases k3 : v.k = 3
  · exact Or.inr (Or.inr (Or.inr (Or.inl k3)))
  by_cases k4 : v.k = 4
  · exact Or.inr (Or.inr (Or.inr (Or.inr k4)))
  · simp [isV, k0, k1, k2, k3, k4] at h

/-- Values against one another. -/
theorem eql_ifv (T : Nat → Nat) {n : Nat} {x y : V} (hx : isV n x = true) (hy : isV n y = true) (w : World) (hT : ∀ j, j < n → ∃ cs t, w.heap[T j]? = some (.cells cs t (0, 0))) :
    (binOp .eql 67 (ifv T x) (ifv T y)).run Try.prog w = .ok (.bool (alike T x y)) w := by
  have kx := kinds hx
  have ky := kinds hy
  have tx := fun h4 => isV_tab hx h4
  have ty := fun h4 => isV_tab hy h4
  obtain ⟨k, m, s, a⟩ := x
  obtain ⟨k', m', s', a'⟩ := y
  simp only at kx ky tx ty
  by_cases hk : k = k'
  case neg => rcases kx with rfl | rfl | rfl | rfl | rfl <;> rcases ky with rfl | rfl | rfl | rfl | rfl <;> first | exact absurd rfl hk | (show _ = _; kernel_rfl)
  subst hk
  rcases kx with rfl | rfl | rfl | rfl | rfl
  · simp only [isV, if_pos, Bool.and_eq_true, beq_iff_eq] at hx hy
    have e : alike T ⟨0, m, s, a⟩ ⟨0, m', s', a'⟩ = true := by simp [alike, eqV, hx.1, hx.2.1, hx.2.2, hy.1, hy.2.1, hy.2.2]
    rw [e]
    show _ = _
    kernel_rfl
  · have e := eq_truth (m == 1) (m' == 1) w
    have e2 : alike T ⟨1, m, s, a⟩ ⟨1, m', s', a'⟩ = ((m == 1) == (m' == 1)) := by
      simp [isV] at hx hy
      rcases hx.1 with rfl | rfl <;> rcases hy.1 with rfl | rfl <;> simp [alike, eqV, hx.2.1, hx.2.2, hy.2.1, hy.2.2]
    rw [e2]
    exact e
  · have e := eq_whole m m' w
    have e2 : alike T ⟨2, m, s, a⟩ ⟨2, m', s', a'⟩ = (m == m') := by
      simp [isV] at hx hy
      simp [alike, eqV, hx.1, hx.2, hy.1, hy.2]
    rw [e2]
    exact e
  · have e := eq_words s s' w
    have e2 : alike T ⟨3, m, s, a⟩ ⟨3, m', s', a'⟩ = (s.toList == s'.toList) := by
      simp [isV] at hx hy
      simp [alike, eqV, hx.1, hx.2.1, hy.1, hy.2.1]
    rw [e2]
    exact e
  · obtain ⟨a0, a1⟩ := tx rfl
    obtain ⟨b0, b1⟩ := ty rfl
    have e := eq_tab (T a.toNat) (T a'.toNat) w (hT _ (by omega)) (hT _ (by omega))
    have e2 : alike T ⟨4, m, s, a⟩ ⟨4, m', s', a'⟩ = (T a.toNat == T a'.toNat) := by simp [alike]
    rw [e2]
    exact e

end Go.Proofs.Ytgflalfiopnmnab

namespace Go.Proofs.Ytgflalfiopnmnab
open Go.RowKit Vl

/-- Two of them. -/
def two {α : Type} (a b : α) (q : Nat) : α := if q = 0 then a else b

theorem keepC {w w' w'' : World} {c ra : Nat} {a b d x y : Value} (h : (w'.cell? ⟨c, 0, none⟩ = some a ∧ w'.cell? ⟨c, 1, none⟩ = some b ∧ w'.cell? ⟨c, 2, none⟩ = some d ∧ w'.cell? ⟨ra, 0, none⟩ = some x ∧ w'.cell? ⟨ra, 1, none⟩ = some y) ∧ Hid (Below w.heap.size w w')) (hb : Below w'.heap.size w' w'') :
    (w''.cell? ⟨c, 0, none⟩ = some a ∧ w''.cell? ⟨c, 1, none⟩ = some b ∧ w''.cell? ⟨c, 2, none⟩ = some d ∧ w''.cell? ⟨ra, 0, none⟩ = some x ∧ w''.cell? ⟨ra, 1, none⟩ = some y) ∧ Hid (Below w.heap.size w w'') := by
  have k : ∀ {p v}, w'.cell? p = some v → w''.cell? p = some v := fun h => (hb.cell (World.block_lt_of_cell? _ _ h)).trans h
  exact ⟨⟨k h.1.1, k h.1.2.1, k h.1.2.2.1, k h.1.2.2.2.1, k h.1.2.2.2.2⟩, grw h.2.out hb⟩

theorem Cfd.root {G : GrS} {w w1 : World} {m : Nat} {T M L : Nat → Nat} {K X : Nat → Nat → V} {ls : Nat → List Nat} {f : Nat → Nat} {rv tv : Value} {cb : Nat} (hd : Cfd G w w1 m T M L K X ls f rv tv cb) {p : Nat} (hp : p < m) : isV (G.off m) (sh (G.off p) (G.U p)) = true := by
  have h1 := sh_isV (N := G.off p) (hd.cmb.ok p hp).root
  have h2 := G.off_le hp
  have h3 := isV_more (n := G.off m - (G.off p + G.n p)) h1
  rw [show G.off p + G.n p + (G.off m - (G.off p + G.n p)) = G.off m by omega] at h3
  exact h3

/-- 'first', of what classify gave. -/
theorem Cfd.first {G : GrS} {w w1 : World} {m rc vc : Nat} {T M L : Nat → Nat} {K X : Nat → Nat → V} {ls : Nat → List Nat} {f : Nat → Nat} {ra va : Option Addr} {cb : Nat} (hd : Cfd G w w1 m T M L K X ls f (.slice ra m rc) (.slice va (G.off m) vc) cb) (hN : G.off m ≤ 400) (x : V) (w' : World) (hx : isV (G.off m) x = true) (hb : Below w1.heap.size w1 w') :
    Calls Try.prog 65 #[.agg #[.slice ra m rc, .slice va (G.off m) vc, .slice (some ⟨cb, 0, none⟩) (G.off m) (G.off m)], ifv T x] w' fun e w'' => e = .returned (ifv T (fstV f x)) ∧ Below w'.heap.size w' w'' := by
  obtain ⟨tb, hva, hrow⟩ : ∃ tb, (0 < G.off m → va = some ⟨tb, 0, none⟩) ∧ ∀ j, j < G.off m → w1.cell? ⟨tb, j, none⟩ = some (ptr (T j)) := by
    by_cases h0 : 0 < G.off m
    · obtain ⟨g, cap, e, _⟩ := hd.tabs.form h0
      cases e
      refine ⟨g, fun _ => rfl, fun j hj => ?_⟩
      obtain ⟨g', cap', e', h⟩ := owns_cell hd.tabs (k := j) (y := ptr (T j)) (by simp [hj])
      cases e'
      exact h
    · exact ⟨0, fun h => absurd h h0, fun j hj => by omega⟩
  exact first_any (G.off m) m rc vc tb cb T M L (sK K ls) (sK X ls) f ra va x w' hx hN hd.is.low hva (show ∀ j, _ from fun j hj => (hb.cell (World.block_lt_of_cell? _ _ (hrow j hj))).trans (hrow j hj)) (show ∀ j, _ from fun j hj => (hb.cell (World.block_lt_of_cell? _ _ (hd.cls.cell hj))).trans (hd.cls.cell hj)) (hd.tbs.below hb)

end Go.Proofs.Ytgflalfiopnmnab

namespace Go.Proofs.Ytgflalfiopnmnab
open Go.RowKit Vl

theorem okT_more {N n L : Nat} {K X : Nat → V} (h : OkT N L K X) : OkT (N + n) L K X := ⟨h.len, fun c hc => ⟨(h.all c hc).key, isV_more (h.all c hc).val, (h.all c hc).some, (h.all c hc).once⟩⟩
theorem okT_sh {N n L : Nat} {K X : Nat → V} (h : OkT n L K X) : OkT (N + n) L K (fun c => sh N (X c)) := ⟨h.len, fun c hc => ⟨(h.all c hc).key, sh_isV (h.all c hc).val, by rw [sh_k]; exact (h.all c hc).some, (h.all c hc).once⟩⟩
theorem okT_join {n m : Nat} {u u' : V} {L L' : Nat → Nat} {K X K' X' : Nat → Nat → V} (h : OkG n u L K X) (h' : OkG m u' L' K' X') : ∀ r, r < n + m → OkT (n + m) (jn n L L' r) (jn n K K' r) (jn n X (fun j c => sh n (X' j c)) r) := fun r hr => by
  by_cases e : r < n
  · rw [jn_lt e, jn_lt e, jn_lt e]
    exact okT_more (h.all r e)
  · rw [jn_ge e, jn_ge e, jn_ge e]
    exact okT_sh (h'.all (r - n) (by omega))

theorem ClsAre.uniqT {n : Nat} {L : Nat → Nat} {K X : Nat → Nat → V} {f f' : Nat → Nat} (hok : ∀ r, r < n → OkT n (L r) (K r) (X r)) (h : ClsAre n L K X f) (h' : ClsAre n L K X f') {i : Nat} (hi : i < n) : f i = f' i := by
  obtain ⟨ls, h1, h2⟩ := h
  obtain ⟨ls', k1, k2⟩ := h'
  have e : ∀ r, r < n → ls' r = ls r := fun r hr => SortI.one (hok r hr) (k1 r hr) (h1 r hr)
  have k3 := k2.agree (L' := L) (K' := sK K ls) (X' := sK X ls) (fun _ _ => rfl) (fun j hj => by unfold sK; rw [e j hj]) (fun j hj => by unfold sK; rw [e j hj])
  refine IsCls.uniq (fun r hr c hc => ?_) h2 k3 hi
  exact ((hok r hr).all _ ((h1 r hr).lt hc)).val

theorem fstV_k (f : Nat → Nat) (v : V) : (fstV f v).k = v.k := by unfold fstV; split <;> rfl
theorem fstV_a {f : Nat → Nat} {v : V} (h : v.k = 4) : (fstV f v).a.toNat = f v.a.toNat := by unfold fstV; rw [if_pos h]; simp
theorem fstV_ne {f : Nat → Nat} {v : V} (h : v.k ≠ 4) : fstV f v = v := by unfold fstV; rw [if_neg h]
theorem fstV_isV {f : Nat → Nat} {N : Nat} (hf : ∀ i, i < N → f i ≤ i) {v : V} (h : isV N v = true) : isV N (fstV f v) = true := by
  by_cases h4 : v.k = 4
  · obtain ⟨a0, a1⟩ := isV_tab h h4
    have hl := hf v.a.toNat (by omega)
    unfold fstV
    rw [if_pos h4]
    unfold isV at h ⊢
    rw [if_neg (by omega), if_neg (by omega), if_neg (by omega), if_neg (by omega), if_pos h4] at h
    rw [if_neg (by simp only; omega), if_neg (by simp only; omega), if_neg (by simp only; omega), if_neg (by simp only; omega), if_pos (by simp only; omega)]
    simp only [Bool.and_eq_true, decide_eq_true_eq] at h ⊢
    refine ⟨h.1, h.2.1, ?_, ?_⟩ <;> omega
  · rw [fstV_ne h4]; exact h
theorem alike_fst {T f : Nat → Nat} {N : Nat} (hinj : ∀ i j, i < N → j < N → T i = T j → i = j) (hf : ∀ i, i < N → f i ≤ i) {x y : V} (hx : isV N x = true) (hy : isV N y = true) : alike T (fstV f x) (fstV f y) = alike f x y := by
  rw [Bool.eq_iff_iff, alike_iff, alike_iff, fstV_k, fstV_k]
  constructor
  · rintro ⟨h1, h2, h3⟩
    refine ⟨h1, fun h4 => ?_, fun h4 => ?_⟩
    · have e := h2 h4
      rw [fstV_a h4, fstV_a (h1.symm.trans h4)] at e
      obtain ⟨a0, a1⟩ := isV_tab hx h4
      obtain ⟨b0, b1⟩ := isV_tab hy (h1.symm.trans h4)
      exact hinj _ _ (by have := hf x.a.toNat (by omega); omega) (by have := hf y.a.toNat (by omega); omega) e
    · have e := h3 h4
      rw [fstV_ne h4, fstV_ne (by rw [← h1]; exact h4)] at e
      exact e
  · rintro ⟨h1, h2, h3⟩
    refine ⟨h1, fun h4 => ?_, fun h4 => ?_⟩
    · rw [fstV_a h4, fstV_a (h1.symm.trans h4), h2 h4]
    · rw [fstV_ne h4, fstV_ne (by rw [← h1]; exact h4)]
      exact h3 h4
theorem alike_congr {f f' : Nat → Nat} {N : Nat} (h : ∀ i, i < N → f i = f' i) {x y : V} (hx : isV N x = true) (hy : isV N y = true) : alike f x y = alike f' x y := by
  rw [Bool.eq_iff_iff, alike_iff, alike_iff]
  have key : x.k = y.k → x.k = 4 → (f x.a.toNat = f y.a.toNat ↔ f' x.a.toNat = f' y.a.toNat) := fun h1 h4 => by
    obtain ⟨a0, a1⟩ := isV_tab hx h4
    obtain ⟨b0, b1⟩ := isV_tab hy (h1.symm.trans h4)
    rw [h _ (by omega), h _ (by omega)]
  exact ⟨fun ⟨h1, h2, h3⟩ => ⟨h1, fun h4 => (key h1 h4).1 (h2 h4), h3⟩, fun ⟨h1, h2, h3⟩ => ⟨h1, fun h4 => (key h1 h4).2 (h2 h4), h3⟩⟩

/-- The answer of 'Same', of two graphs. -/
def SameRes (e : Ending) (n m : Nat) (u u' : V) (L L' : Nat → Nat) (K X K' X' : Nat → Nat → V) : Prop :=
  ((OkG n u L K X ∧ OkG m u' L' K' X') ∧ ∃ f : Nat → Nat, ClsAre (n + m) (jn n L L') (jn n K K') (jn n X (fun j c => sh n (X' j c))) f ∧ e = .returned (.bool (alike f u (sh n u')))) ∨ (¬ (OkG n u L K X ∧ OkG m u' L' K' X') ∧ e = .returned (.bool false))

open Classical in
theorem same_fixed (n m : Nat) (u u' : V) (L L' : Nat → Nat) (K X K' X' : Nat → Nat → V) : ∃ b : Bool, ∀ e, SameRes e n m u u' L L' K X K' X' → e = .returned (.bool b) := by
  by_cases hok : OkG n u L K X ∧ OkG m u' L' K' X'
  · refine ⟨alike (Classical.epsilon (fun f => ClsAre (n + m) (jn n L L') (jn n K K') (jn n X (fun j c => sh n (X' j c))) f)) u (sh n u'), fun e h => ?_⟩
    rcases h with ⟨_, f, hf, rfl⟩ | ⟨hno, _⟩
    · have he := Classical.epsilon_spec (p := fun f => ClsAre (n + m) (jn n L L') (jn n K K') (jn n X (fun j c => sh n (X' j c))) f) ⟨f, hf⟩
      rw [alike_congr (fun i hi => hf.uniqT (okT_join hok.1 hok.2) he hi) (isV_more hok.1.root) (sh_isV hok.2.root)]
    · exact absurd hok hno
  · refine ⟨false, fun e h => ?_⟩
    rcases h with ⟨h, _⟩ | ⟨_, rfl⟩
    · exact absurd h hok
    · rfl

end Go.Proofs.Ytgflalfiopnmnab

namespace Go.Proofs.Ytgflalfiopnmnab
open Go.RowKit Vl

/-- Tables behind n others: the later ones are of the call's own making. -/
structure BTab (w : World) (base : Nat) (tv : Value) (n i : Nat) (PV : Nat → Value) (L : Nat → Nat) (K X : Nat → Nat → V) : Prop where
  own : w.ownsRow base 61 1 tv (n + i) ((List.range (n + i)).map PV)
  rows : ∀ j, j < i → w.ownsRow base 63 8 (PV (n + j)) (L j) (pairCells (K j) (X j) (L j))

theorem BTab.below {w w' : World} {base : Nat} {tv : Value} {n i : Nat} {PV : Nat → Value} {L : Nat → Nat} {K X : Nat → Nat → V} (h : BTab w base tv n i PV L K X) (hb : Below w.heap.size w w') : BTab w' base tv n i PV L K X :=
  ⟨(Only.below (P := fun _ => False) hb).owns h.own (fun _ _ _ h => h), fun j hj => (Only.below (P := fun _ => False) hb).owns (h.rows j hj) (fun _ _ _ h => h)⟩

/-- One table more. -/
theorem BTab.more {w w1 : World} {base : Nat} {tv tv' pv : Value} {n i : Nat} {PV : Nat → Value} {L : Nat → Nat} {K X : Nat → Nat → V} (h : BTab w base tv n i PV L K X) (hp : w.ownsRow base 63 8 pv (L i) (pairCells (K i) (X i) (L i))) (o : Obj) (hbz : base ≤ w.heap.size)
    (ho : w1.ownsRow base 61 1 tv' (n + i + 1) (((List.range (n + i)).map PV) ++ [pv])) (hg : (w.alloc o).grownBy w1 tv.ownBlock) :
    BTab w1 base tv' n (i + 1) (fun j => if j = n + i then pv else PV j) L K X ∧ Below base w w1 := by
  have keep : ∀ v n xs, w.ownsRow base 63 8 v n xs → w1.ownsRow base 63 8 v n xs := fun v n xs hr => by
    refine ⟨hr.1, ?_⟩
    rcases hr.2 with h2 | ⟨g, cap, cur, hv, hge, hh, r⟩
    · exact Or.inl h2
    · refine Or.inr ⟨g, cap, cur, hv, hge, ?_, r⟩
      rw [hg.block g (by have := lt_of_block hh; simp; omega) (fun e => ?_), Below.heap_alloc _ _ _ (lt_of_block hh)]
      · exact hh
      · obtain ⟨_, cur', h'⟩ := owns_type h.own e.symm
        rw [hh] at h'
        cases h'
  refine ⟨⟨?_, fun j hj => ?_⟩, ?_⟩
  · have e : ((List.range (n + i + 1)).map fun j => if j = n + i then pv else PV j) = ((List.range (n + i)).map PV) ++ [pv] := by
      rw [List.range_succ, List.map_append]
      congr 1
      · apply List.map_congr_left
        intro j hj
        have := List.mem_range.1 hj
        simp [show ¬ j = n + i by omega]
      · simp
    show w1.ownsRow base _ 1 tv' (n + i + 1) ((List.range (n + i + 1)).map _)
    rw [e]; exact ho
  · by_cases e : j = i
    · subst e; simp only [if_true]; exact keep _ _ _ hp
    · simp only [show ¬ n + j = n + i by omega, if_false]; exact keep _ _ _ (h.rows j (by omega))
  · refine ⟨hg.os, hg.tape, hg.output, by have := hg.size; simp at this; omega, fun k hk => ?_⟩
    rw [hg.block k (by simp; omega) (fun e => ?_), Below.heap_alloc _ _ _ (by omega)]
    have := (owns_type h.own e.symm).1
    omega

/-- What was made, as it is read. -/
theorem BTab.tabs {w : World} {base : Nat} {tv : Value} {ta : Option Addr} {n i TB TO : Nat} {PV : Nat → Value} {A : Nat → Option Addr} {L L' C RB RO : Nat → Nat} {K X K' X' : Nat → Nat → V} (h : BTab w base tv n i PV L' K' X') (hT : TabsAt w ta n TB TO A L C RB RO K X) (hP : ∀ j, j < n → PV j = .slice (A j) (L j) (C j)) :
    tv = .slice (slA tv) (n + i) (slC tv) ∧ TabsAt w (slA tv) (n + i) (slB tv) 0 (fun j => slA (PV j)) (jn n L L') (fun j => slC (PV j)) (jn n RB (fun j => slB (PV (n + j)))) (jn n RO (fun _ => 0)) (jn n K K') (jn n X X') := by
  have hrow : ∀ r, r < n + i → PV r = .slice (slA (PV r)) (jn n L L' r) (slC (PV r)) ∧ PairsAt w (slA (PV r)) (jn n L L' r) (jn n RB (fun j => slB (PV (n + j))) r) (jn n RO (fun _ => 0) r) (jn n K K' r) (jn n X X' r) := fun r hr => by
    by_cases e : r < n
    · simp only [jn_lt e]
      rw [hP r e]
      exact ⟨rfl, hT.row r e⟩
    · simp only [jn_ge e]
      have := owns_pairs (h.rows (r - n) (by omega))
      rw [show n + (r - n) = r by omega] at this ⊢
      exact this
  refine ⟨by obtain ⟨oa, oc, rfl, _⟩ := owns_form h.own; rfl, fun h0 => ?_, fun r hr => ?_, fun r hr => (hrow r hr).2⟩
  · obtain ⟨g, cap, rfl, _⟩ := owns_cell h.own (k := 0) (y := PV 0) (by simp [h0])
    rfl
  · obtain ⟨g, cap, rfl, hc⟩ := owns_cell h.own (k := r) (y := PV r) (by simp [hr])
    rw [Nat.zero_add]
    rw [← (hrow r hr).1]
    exact hc

end Go.Proofs.Ytgflalfiopnmnab

namespace Go.Proofs.Ytgflalfiopnmnab
open Go.RowKit Vl

/-- A table's pairs are written one behind the other into a row that a block holds. -/
structure InB (w2 wq : World) (xb : Nat) (pv : Value) (c : Nat) (K X : Nat → V) : Prop where
  out : wq.heap[xb]? = some (.cells #[pv] 61 (0, 0))
  row : wq.ownsRow w2.heap.size 63 8 pv c (pairCells K X c)
  only : Only (fun k => k = xb) w2 wq

theorem InB.more {w2 wq w6 : World} {xb g cap c : Nat} {pv : Value} {K X : Nat → V} {o1 o2 : Obj} (h : InB w2 wq xb pv c K X) (hx : xb < w2.heap.size) (hgrow : ((wq.alloc o1).alloc o2).grownBy w6 pv.ownBlock)
    (hown : w6.ownsRow w2.heap.size 63 8 (.slice (some ⟨g, 0, none⟩) (c + 1) cap) (c + 1) (pairCells K X c ++ [.int .i64 (K c).k, .int .i64 (K c).n, .string (K c).s, .int .i64 (K c).a, .int .i64 (X c).k, .int .i64 (X c).n, .string (X c).s, .int .i64 (X c).a])) :
    (w6.cell? ⟨xb, 0, none⟩ = some pv ∧ w6.frozen? ⟨xb, 0, none⟩ = false) ∧ InB w2 (w6.setCell ⟨xb, 0, none⟩ (.slice (some ⟨g, 0, none⟩) (c + 1) cap)) xb (.slice (some ⟨g, 0, none⟩) (c + 1) cap) (c + 1) K X := by
  obtain ⟨_, _, _, hk⟩ := owns_form h.row
  have hs := h.only.size
  have hbl : ∀ k, k < wq.heap.size → pv.ownBlock ≠ some k → w6.heap[k]? = wq.heap[k]? := fun k hk hne =>
    ((hgrow.block k (by simp; omega) (fun e => hne e.symm)).trans (Below.heap_alloc _ o2 k (by simp; omega))).trans (Below.heap_alloc wq o1 k hk)
  have n1 : pv.ownBlock ≠ some xb := fun e => by have := (hk _ e).1; omega
  have h6 : w6.heap[xb]? = some (.cells #[pv] 61 (0, 0)) := (hbl xb (by omega) n1).trans h.out
  have hsz : wq.heap.size ≤ w6.heap.size := by have := hgrow.size; simp at this; omega
  have ho : Only (fun k => k = xb) w2 w6 := ⟨hgrow.os.trans h.only.os, hgrow.tape.trans h.only.tape, hgrow.output.trans h.only.output, by omega, fun k hk' hp => (hbl k (by omega) (fun e => by have := (hk _ e).1; omega)).trans (h.only.block k hk' hp)⟩
  obtain ⟨c0, cz⟩ := one_at h6
  refine ⟨⟨c0, cz 0⟩, one_put h6 _, ?_, ho.set rfl _⟩
  rw [pairCells_succ]
  exact owns_setC hown (p := ⟨xb, 0, none⟩) hx _

theorem sh_cells {n : Nat} {x : V} {ya : Int} (h : sh n x = ⟨x.k, x.n, x.s, ya⟩) : [Value.int .i64 x.k, .int .i64 x.n, .string x.s, .int .i64 ya] = [.int .i64 (sh n x).k, .int .i64 (sh n x).n, .string (sh n x).s, .int .i64 (sh n x).a] := by rw [h]

set_option maxHeartbeats 4000000 in
set_option maxRecDepth 100000 in
/-- 'l3both'. -/
theorem l3both_any (u u' : V) (ta ta' : Option Addr) (n cp TB TO m cp' TB' TO' : Nat) (A A' : Nat → Option Addr) (L C RB RO L' C' RB' RO' : Nat → Nat) (K X K' X' : Nat → Nat → V) (w : World) (hn : n ≤ 200) (hm : m ≤ 200) (HL' : Hid (∀ r, r < m → L' r ≤ 100)) (HG' : Hid (Good m L' X')) (HT : Hid (TabsAt w ta n TB TO A L C RB RO K X)) (HT' : Hid (TabsAt w ta' m TB' TO' A' L' C' RB' RO' K' X')) :
    Calls Try.prog 63 #[.agg #[.int .i64 u.k, .int .i64 u.n, .string u.s, .int .i64 u.a, .slice ta n cp], .agg #[.int .i64 u'.k, .int .i64 u'.n, .string u'.s, .int .i64 u'.a, .slice ta' m cp']] w fun e w' => (∃ (oa : Option Addr) (oc OB : Nat) (A2 : Nat → Option Addr) (C2 RB2 RO2 : Nat → Nat), e = .returned (.slice oa (n + m) oc) ∧ TabsAt w' oa (n + m) OB 0 A2 (jn n L L') C2 RB2 RO2 (jn n K K') (jn n X (fun j c => sh n (X' j c)))) ∧ Below w.heap.size w w' := by
  have A2 := alloc2 w (.cells #[.int .i64 u.k, .int .i64 u.n, .string u.s, .int .i64 u.a, .slice ta n cp] 32) (.cells #[.int .i64 u'.k, .int .i64 u'.n, .string u'.s, .int .i64 u'.a, .slice ta' m cp'] 32)
  obtain ⟨w1, hw1⟩ : ∃ w1, w1 = (w.alloc (.cells #[.int .i64 u.k, .int .i64 u.n, .string u.s, .int .i64 u.a, .slice ta n cp] 32)).alloc (.cells #[.int .i64 u'.k, .int .i64 u'.n, .string u'.s, .int .i64 u'.a, .slice ta' m cp'] 32) := ⟨_, rfl⟩
  rw [← hw1] at A2
  have HB1 : Hid (Below w.heap.size w w1) := A2.2.2.2
  have G1 : Hid (w1.heap[w.heap.size]? = some (.cells #[.int .i64 u.k, .int .i64 u.n, .string u.s, .int .i64 u.a, .slice ta n cp] 32 (0, 0))) := A2.1
  have G2 : Hid (w1.heap[w.heap.size + 1]? = some (.cells #[.int .i64 u'.k, .int .i64 u'.n, .string u'.s, .int .i64 u'.a, .slice ta' m cp'] 32 (0, 0))) := A2.2.1
  clear A2
  obtain ⟨it, hti, ht0, ht1, ht2⟩ := info_parts Try.info61
  obtain ⟨ip, hpi, hp0, hp1, hp2⟩ := info_parts Try.info63
  go_enter Try.func63, Try.ntmps63
  go_wp2
  rw [← hw1]
  clear hw1
  obtain ⟨b1, hb1⟩ : ∃ b, w1.heap.size = b := ⟨_, rfl⟩
  have HBS : Hid (w1.heap.size = b1) := hb1
  go_loopw [5, 16] (fun sv ii wr => ∃ i : Nat, i ≤ n ∧ ii = .int .i64 i ∧ Hid (wr.ownsRow b1 61 1 sv i ((List.range i).map fun r => .slice (A r) (L r) (C r))) ∧ Hid (Below b1 w1 wr)) (fun _ ii _ => n - (intOf ii).toNat)
  case atStart => exact ⟨0, Nat.zero_le _, rfl, World.ownsRow_nil _ _ _ _, Below.refl _ _⟩
  case round =>
    obtain ⟨i, hi, rfl, HO, HB⟩ := hrel
    have HBw : Hid (Below w.heap.size w wr) := HB1.out.trans (HB.out.mono (by have := HB1.out.size; omega))
    obtain ⟨sa, sc, rfl, hsk⟩ := owns_form HO.out
    have HSK : Hid (∀ k, (Value.slice sa i sc).ownBlock = some k → b1 ≤ k ∧ k < wr.heap.size) := hsk
    clear hsk
    have hsr : b1 ≤ wr.heap.size := by have := HB.out.size; omega
    by_cases hlt : i < n
    · have hta := HT.out.top (by omega)
      subst hta
      have t0 := (HT.out.below HBw.out).tab i hlt
      obtain ⟨pa, hpa⟩ : ∃ a, A i = a := ⟨_, rfl⟩
      obtain ⟨l, hl⟩ : ∃ a, L i = a := ⟨_, rfl⟩
      obtain ⟨pc, hpc⟩ : ∃ a, C i = a := ⟨_, rfl⟩
      rw [hpa, hl, hpc] at t0
      obtain ⟨wt, hwt⟩ : ∃ wt, wt = wr.alloc (.cells #[.slice pa l pc] 61) := ⟨_, rfl⟩
      have hbt : Below wr.heap.size wr wt := by rw [hwt]; exact (Below.refl _ _).alloc (Nat.le_refl _) _
      have hst : wt.heap.size = wr.heap.size + 1 := by rw [hwt]; simp
      have HST : Hid (wt.heap.size = wr.heap.size + 1) := hst
      have HOt : Hid (wt.ownsRow b1 61 1 (.slice sa i sc) i ((List.range i).map fun r => .slice (A r) (L r) (C r))) := (Only.below (P := fun _ => False) hbt).owns HO.out (fun _ _ _ h => h)
      have HBt : Hid (Below b1 w1 wt) := HB.out.trans (hbt.mono (by omega))
      clear hst hbt HO HB hpi hp0 hp1 hp2 hb1
      go_wp2_with (at_builtin; refine wpList_append_lies _ (by rfl) (.tmp 20) (.tmp 22) 30 (by rfl) b1 61 it (.agg #[.slice none 0 0]) 1 24 Try.underlying30 hti ht0 ht1 ht2 (by rfl) (by omega) (.slice sa i sc) i ((List.range i).map fun r => .slice (A r) (L r) (C r)) (by rfl) (by rw [← hwt]; exact HOt.out.alloc _) ⟨wr.heap.size + 1, 0, none⟩ 1 1 [.slice pa l pc] (by rfl) (by rfl) ?c1 ?c2 (by omega) ?c3 ?c4 ?c5 (wr.heap.size + 2) ?c6 ?_)
      case c1 => exact World.news_of_block (alloc2 wr _ _).2.1
      case c2 => intro v hv; simp at hv; subst hv; rfl
      case c3 => unfold maxLen; omega
      case c4 => omega
      case c5 => simp; omega
      case c6 => simp
      intro g cap w6 hown6 hgrow6 hat6 hlt6
      have hb6 : Below b1 (wt.alloc (.cells #[.slice pa l pc] 61)) w6 := below_grown (HOt.out.alloc _) (by rw [hwt]; exact hgrow6) (by have := HST.out; simp; omega)
      have HB6 : Hid (Below b1 w1 w6) := (HBt.out.trans ((Below.refl _ _).alloc (by have := HST.out; omega) _)).trans hb6
      have HO6 : Hid (w6.ownsRow b1 61 1 (.slice (some ⟨g, 0, none⟩) (i + 1) cap) (i + 1) ((List.range (i + 1)).map fun r => .slice (A r) (L r) (C r))) := by
        rw [List.range_succ, List.map_append]
        simp only [List.map_cons, List.map_nil, hpa, hl, hpc]
        exact hown6
      clear hown6 hgrow6 hat6 hlt6 hb6 HOt HBt hwt t0 HST
      go_wp2
      go_roundw
      case rel => exact ⟨i + 1, by omega, by go_num, HO6, HB6⟩
      case measure => simp [intOf]; omega
    · obtain rfl : i = n := by omega
      obtain ⟨x0, x1, x2, x3, x4, _⟩ := cells5 ((HB.out.block _ (by have := blk_lt G2.out; omega)).trans G2.out)
      obtain ⟨ws, hws⟩ : ∃ ws, ws = wr := ⟨_, rfl⟩
      rw [← hws] at HO HB
      have HBT : Hid (BTab ws b1 (.slice sa i sc) i 0 (fun r => .slice (A r) (L r) (C r)) L' K' (fun j c => sh i (X' j c))) := ⟨HO.out, fun j hj => absurd hj (Nat.not_lt_zero _)⟩
      clear HO
      go_wp2
      rw [← hws]
      clear hws x0 x1 x2 x3 x4
      go_loopw [5, 28] (fun sv ii wr => ∃ (q : Nat) (PV : Nat → Value), q ≤ m ∧ ii = .int .i64 q ∧ Hid (BTab wr b1 sv i q PV L' K' (fun j c => sh i (X' j c))) ∧ Hid (∀ j, j < i → PV j = .slice (A j) (L j) (C j)) ∧ Hid (Below b1 w1 wr)) (fun _ ii _ => m - (intOf ii).toNat)
      case atStart => exact ⟨0, _, Nat.zero_le _, rfl, HBT, fun j hj => rfl, HB⟩
      case round =>
        obtain ⟨q, PV, hq, rfl, HQ, HPV, HBr⟩ := hrel
        clear HBT HB HBw
        have HBw : Hid (Below w.heap.size w wr) := HB1.out.trans (HBr.out.mono (by have := HB1.out.size; omega))
        obtain ⟨va, vc, rfl, hvk⟩ := owns_form HQ.out.own
        have hsr' : b1 ≤ wr.heap.size := by have := HBr.out.size; omega
        by_cases hlq : q < m
        · have hta := HT'.out.top (by omega)
          subst hta
          have t0 := (HT'.out.below HBw.out).tab q hlq
          obtain ⟨pa, hpa⟩ : ∃ a, A' q = a := ⟨_, rfl⟩
          obtain ⟨l, hl⟩ : ∃ a, L' q = a := ⟨_, rfl⟩
          obtain ⟨pc, hpc⟩ : ∃ a, C' q = a := ⟨_, rfl⟩
          rw [hpa, hl, hpc] at t0
          have HP : Hid (PairsAt w pa l (RB' q) (RO' q) (K' q) (X' q)) := by rw [← hpa, ← hl]; exact HT'.out.row q hlq
          have hl100 : l ≤ 100 := by rw [← hl]; exact HL'.out q hlq
          have HGl : Hid (∀ c, c < l → isV m (X' q c) = true) := show ∀ c, _ from fun c hc => HG'.out q hlq c (by rw [hl]; exact hc)
          have A2 := alloc2 wr (.cells #[.slice pa l pc] 61) (.cells #[.slice none 0 0] 61)
          obtain ⟨w2, hw2⟩ : ∃ w2, w2 = (wr.alloc (.cells #[.slice pa l pc] 61)).alloc (.cells #[.slice none 0 0] 61) := ⟨_, rfl⟩
          rw [← hw2] at A2
          have HBw2 : Hid (Below w.heap.size w w2) := HBw.out.trans (A2.2.2.2.mono HBw.out.size)
          have HBb2 : Hid (Below b1 w1 w2) := HBr.out.trans (A2.2.2.2.mono hsr')
          have HQ2 : Hid (BTab w2 b1 (.slice va (i + q) vc) i q PV L' K' (fun j c => sh i (X' j c))) := HQ.out.below A2.2.2.2
          have hs2 : Hid (w2.heap.size = wr.heap.size + 2) := A2.2.2.1
          obtain ⟨xb, hxb⟩ : ∃ xb, wr.heap.size + 1 = xb := ⟨_, rfl⟩
          have HX2 : Hid (w2.heap[xb]? = some (.cells #[.slice none 0 0] 61 (0, 0))) := by rw [← hxb]; exact A2.2.1
          have HXl : Hid (xb < w2.heap.size ∧ b1 ≤ xb ∧ w.heap.size ≤ xb) := ⟨by rw [hs2.out]; omega, by omega, by have := HBw.out.size; omega⟩
          have HVK : Hid (∀ g, (Value.slice va (i + q) vc).ownBlock = some g → g ≠ xb) := show ∀ g, _ from fun g hg => by have := (hvk g hg).2; omega
          have HIN : Hid (InB w2 w2 xb (.slice none 0 0) 0 (K' q) (fun c => sh i (X' q c))) := ⟨HX2.out, World.ownsRow_nil _ _ _ _, Only.refl _ _⟩
          clear A2 HQ HBr hb1 hvk
          go_wp2
          rw [← hw2]
          try rw [hxb]
          clear hw2 t0 hxb
          go_loopw [35] (fun ii wq => ∃ (c : Nat) (pv : Value), c ≤ l ∧ ii = .int .i64 c ∧ Hid (InB w2 wq xb pv c (K' q) (fun c => sh i (X' q c)))) (fun ii _ => l - (intOf ii).toNat)
          case atStart => exact ⟨0, _, Nat.zero_le _, rfl, HIN⟩
          case round =>
            obtain ⟨c, pv, hc, rfl, HI⟩ := hrel
            clear HIN
            obtain ⟨qa, qc, rfl, hqk⟩ := owns_form HI.out.row
            clear hqk
            have HBq : Hid (Below w.heap.size w wr) := HBw2.out.trans (HI.out.only.toBelow (fun k hk => by have := HXl.out.2.2; omega) HBw2.out.size)
            by_cases hlc : c < l
            · obtain rfl := HP.out.top (by omega)
              obtain ⟨⟨k0, k1, k2, k3⟩, ⟨v0, v1, v2, v3⟩⟩ := (HP.out.below HBq.out).cells hlc
              obtain ⟨kc, HKC⟩ : ∃ kc, Hid (K' q c = kc) := ⟨_, rfl⟩
              obtain ⟨xc, HXC⟩ : ∃ xc, Hid (X' q c = xc) := ⟨_, rfl⟩
              rw [HKC.out] at k0 k1 k2 k3
              rw [HXC.out] at v0 v1 v2 v3
              have hvx : isV m xc = true := by rw [← HXC.out]; exact HGl.out c hlc
              have HG1 : Hid (wr.heap[w.heap.size]? = some (.cells #[.int .i64 u.k, .int .i64 u.n, .string u.s, .int .i64 u.a, .slice ta i cp] 32 (0, 0))) := by
                have h1 := (HBb2.out.block _ (by have := blk_lt G1.out; have := HBS.out; omega)).trans G1.out
                exact (HI.out.only.block _ (blk_lt h1) (by have := blk_lt G1.out; have := HXl.out.2.1; have := HBS.out; omega)).trans h1
              obtain ⟨g0, g1, g2, g3, g4, _⟩ := cells5 HG1.out
              obtain ⟨y0, y1⟩ := one_at HI.out.out
              have hxq : xb < wr.heap.size := by have := HXl.out.1; have := HI.out.only.size; omega
              have hxq' : xb < wr.heap.size + 1 := by omega
              have hgl : w.heap.size < wr.heap.size := blk_lt HG1.out
              have hgl' : w.heap.size < wr.heap.size + 1 := by omega
              by_cases h4 : xc.k = 4
              · obtain ⟨a0, a1⟩ := isV_tab hvx h4
                obtain ⟨ya, hya⟩ : ∃ ya : Int, xc.a + (i : Int) = ya := ⟨_, rfl⟩
                have HSH : Hid (sh i xc = ⟨xc.k, xc.n, xc.s, ya⟩) := by show sh i xc = _; unfold sh; rw [if_pos h4, hya]
                have hk4 : (xc.k == 4) = true := by simp [h4]
                have hwr : IntKind.i64.wrap (xc.a + (i : Int)) = ya := by rw [IntKind.wrap_i64]; omega
                clear h4 hya hvx a0 a1
                go_wp2_with (at_builtin; refine wpList_append_lies _ (by rfl) (.tmp 53) (.tmp 55) 59 (by rfl) w2.heap.size 63 ip (.agg #[.int .i64 0, .int .i64 0, .string ⟨#[]⟩, .int .i64 0, .int .i64 0, .int .i64 0, .string ⟨#[]⟩, .int .i64 0]) 8 80 Try.underlying59 hpi hp0 hp1 hp2 (by rfl) (by omega) (.slice qa c qc) c (pairCells (K' q) (fun c => sh i (X' q c)) c) (by rfl) ((HI.out.row.alloc _).alloc _) ⟨wr.heap.size + 1, 0, none⟩ 1 1 [.int .i64 kc.k, .int .i64 kc.n, .string kc.s, .int .i64 kc.a, .int .i64 xc.k, .int .i64 xc.n, .string xc.s, .int .i64 ya] (by rfl) (by rfl) ?c1 ?c2 (by omega) ?c3 ?c4 ?c5 (wr.heap.size + 2) ?c6 ?_)
                case c1 => exact World.news_of_block (alloc2 wr _ _).2.1
                case c2 => intro v hv; simp at hv; rcases hv with rfl | rfl | rfl | rfl | rfl | rfl | rfl | rfl <;> rfl
                case c3 => unfold maxLen; omega
                case c4 => omega
                case c5 => have := HI.out.only.size; simp; omega
                case c6 => simp
                intro g cap w6 hown6 hgrow6 hat6 hlt6
                obtain ⟨⟨z0, z1⟩, hI⟩ := HI.out.more HXl.out.1 hgrow6 (by
                  have e := HSH.out
                  simp only [HKC.out, HXC.out, e]
                  exact hown6)
                have HI6 : Hid (InB w2 (w6.setCell ⟨xb, 0, none⟩ (.slice (some ⟨g, 0, none⟩) (c + 1) cap)) xb (.slice (some ⟨g, 0, none⟩) (c + 1) cap) (c + 1) (K' q) (fun c => sh i (X' q c))) := hI
                clear hown6 hgrow6 hat6 hlt6 hI k0 k1 k2 k3 v0 v1 v2 v3 g0 g1 g2 g3 g4 y0 y1
                go_wp2
                go_roundw
                case rel => exact ⟨c + 1, _, by omega, by go_num, HI6⟩
                case measure => simp [intOf]; omega
              · have HSH : Hid (sh i xc = ⟨xc.k, xc.n, xc.s, xc.a⟩) := by show sh i xc = _; unfold sh; rw [if_neg h4]
                have hk4 : (xc.k == 4) = false := by simp [h4]
                clear h4 hvx
                go_wp2_with (at_builtin; refine wpList_append_lies _ (by rfl) (.tmp 53) (.tmp 55) 59 (by rfl) w2.heap.size 63 ip (.agg #[.int .i64 0, .int .i64 0, .string ⟨#[]⟩, .int .i64 0, .int .i64 0, .int .i64 0, .string ⟨#[]⟩, .int .i64 0]) 8 80 Try.underlying59 hpi hp0 hp1 hp2 (by rfl) (by omega) (.slice qa c qc) c (pairCells (K' q) (fun c => sh i (X' q c)) c) (by rfl) ((HI.out.row.alloc _).alloc _) ⟨wr.heap.size + 1, 0, none⟩ 1 1 [.int .i64 kc.k, .int .i64 kc.n, .string kc.s, .int .i64 kc.a, .int .i64 xc.k, .int .i64 xc.n, .string xc.s, .int .i64 xc.a] (by rfl) (by rfl) ?c1 ?c2 (by omega) ?c3 ?c4 ?c5 (wr.heap.size + 2) ?c6 ?_)
                case c1 => exact World.news_of_block (alloc2 wr _ _).2.1
                case c2 => intro v hv; simp at hv; rcases hv with rfl | rfl | rfl | rfl | rfl | rfl | rfl | rfl <;> rfl
                case c3 => unfold maxLen; omega
                case c4 => omega
                case c5 => have := HI.out.only.size; simp; omega
                case c6 => simp
                intro g cap w6 hown6 hgrow6 hat6 hlt6
                obtain ⟨⟨z0, z1⟩, hI⟩ := HI.out.more HXl.out.1 hgrow6 (by
                  have e := HSH.out
                  simp only [HKC.out, HXC.out, e]
                  exact hown6)
                have HI6 : Hid (InB w2 (w6.setCell ⟨xb, 0, none⟩ (.slice (some ⟨g, 0, none⟩) (c + 1) cap)) xb (.slice (some ⟨g, 0, none⟩) (c + 1) cap) (c + 1) (K' q) (fun c => sh i (X' q c))) := hI
                clear hown6 hgrow6 hat6 hlt6 hI k0 k1 k2 k3 v0 v1 v2 v3 g0 g1 g2 g3 g4 y0 y1
                go_wp2
                go_roundw
                case rel => exact ⟨c + 1, _, by omega, by go_num, HI6⟩
                case measure => simp [intOf]; omega
            · obtain rfl : c = l := by omega
              obtain ⟨y0, y1⟩ := one_at HI.out.out
              have HQ3 : Hid (BTab wr b1 (.slice va (i + q) vc) i q PV L' K' (fun j c => sh i (X' j c))) := by
                have hk := HXl.out
                refine ⟨HI.out.only.ownsB HQ2.out.own (fun g hg e => ?_), fun j hj => HI.out.only.ownsB (HQ2.out.rows j hj) (fun g hg e => ?_)⟩
                · exact HVK.out g hg e
                · obtain ⟨_, cur, hcur⟩ := owns_type (HQ2.out.rows j hj) hg
                  subst e
                  rw [HX2.out] at hcur
                  cases hcur
              have hs3 : b1 ≤ wr.heap.size := by have := HXl.out; have := HI.out.only.size; omega
              have HB3 : Hid (Below b1 w1 wr) := HBb2.out.trans (HI.out.only.toBelow (fun k hk => by have := HXl.out.2.1; omega) (by have := HBb2.out.size; have := HBS.out; omega))
              have HR3 : Hid (wr.ownsRow b1 63 8 (.slice qa c qc) (L' q) (pairCells (K' q) (fun c => sh i (X' q c)) (L' q))) := by rw [hl]; exact owns_mono HI.out.row (by have := HXl.out; omega)
              have hiq : i + q ≤ 400 := by omega
              go_wp2_with (at_builtin; refine wpList_append_lies _ (by rfl) (.tmp 59) (.tmp 61) 30 (by rfl) b1 61 it (.agg #[.slice none 0 0]) 1 24 Try.underlying30 hti ht0 ht1 ht2 (by rfl) (by omega) (.slice va (i + q) vc) (i + q) ((List.range (i + q)).map PV) (by rfl) (HQ3.out.own.alloc _) ⟨wr.heap.size, 0, none⟩ 1 1 [.slice qa c qc] (by rfl) (by rfl) ?c1 ?c2 (by omega) ?c3 ?c4 ?c5 (wr.heap.size + 1) ?c6 ?_)
              case c1 => exact World.news_of_block (heap_alloc_new wr _)
              case c2 => intro v hv; simp at hv; subst hv; rfl
              case c3 => unfold maxLen; omega
              case c4 => omega
              case c5 => simp; omega
              case c6 => simp
              intro g cap w7 hown7 hgrow7 hat7 hlt7
              obtain ⟨hT7, hB7⟩ := HQ3.out.more HR3.out _ hs3 hown7 hgrow7
              have HT7 : Hid (BTab w7 b1 (.slice (some ⟨g, 0, none⟩) (i + q + 1) cap) i (q + 1) (fun j => if j = i + q then .slice qa c qc else PV j) L' K' (fun j c => sh i (X' j c))) := hT7
              have HB7 : Hid (Below b1 w1 w7) := HB3.out.trans hB7
              have HPV' : Hid (∀ j, j < i → (fun j => if j = i + q then .slice qa c qc else PV j) j = .slice (A j) (L j) (C j)) := show ∀ j, _ from fun j hj => by
                show (if j = i + q then _ else PV j) = _
                rw [if_neg (by omega)]
                exact HPV.out j hj
              clear hT7 hB7 hown7 hgrow7 hat7 hlt7 HQ3 HB3 HR3 y0 y1 HI
              go_wp2
              go_roundw
              case rel => exact ⟨q + 1, _, by omega, by go_num, HT7, HPV', HB7⟩
              case measure => simp [intOf]; omega
        · clear hvk
          obtain rfl : q = m := by omega
          have hTt := HQ.out.tabs (HT.out.below HBw.out) HPV.out
          go_wp2
          go_ret
          exact ⟨⟨va, vc, _, _, _, _, _, rfl, hTt.2⟩, HBw.out⟩

end Go.Proofs.Ytgflalfiopnmnab

namespace Go.Proofs.Ytgflalfiopnmnab
open Go.RowKit Vl

theorem cells4' {w : World} {B : Nat} {a b c d : Value} {t : TypeId} (H : w.heap[B]? = some (.cells #[a, b, c, d] t (0, 0))) : w.cell? ⟨B, 0, none⟩ = some a ∧ w.cell? ⟨B, 1, none⟩ = some b ∧ w.cell? ⟨B, 2, none⟩ = some c ∧ w.cell? ⟨B, 3, none⟩ = some d ∧ ∀ i, w.frozen? ⟨B, i, none⟩ = false := by
  refine ⟨?_, ?_, ?_, ?_, fun i => ?_⟩ <;> simp [World.cell?, World.frozen?, H]

set_option maxHeartbeats 4000000 in
set_option maxRecDepth 100000 in
/-- 'spec.Same'. -/
theorem specSame_any (u u' : V) (ta ta' : Option Addr) (n cp TB TO m cp' TB' TO' : Nat) (A A' : Nat → Option Addr) (L C RB RO L' C' RB' RO' : Nat → Nat) (K X K' X' : Nat → Nat → V) (w : World) (hn : n ≤ 1048576) (hm : m ≤ 1048576) (HS : Hid (Small 1048576 n L K X)) (HS' : Hid (Small 1048576 m L' K' X')) (HT : Hid (TabsAt w ta n TB TO A L C RB RO K X)) (HT' : Hid (TabsAt w ta' m TB' TO' A' L' C' RB' RO' K' X')) :
    Calls Try.prog 30 #[.agg #[.int .i64 u.k, .int .i64 u.n, .string u.s, .int .i64 u.a, .slice ta n cp], .agg #[.int .i64 u'.k, .int .i64 u'.n, .string u'.s, .int .i64 u'.a, .slice ta' m cp']] w fun e w' => SameRes e n m u u' L L' K X K' X' ∧ Below w.heap.size w w' := by
  have A2 := alloc2 w (.cells #[.int .i64 u.k, .int .i64 u.n, .string u.s, .int .i64 u.a, .slice ta n cp] 32) (.cells #[.int .i64 u'.k, .int .i64 u'.n, .string u'.s, .int .i64 u'.a, .slice ta' m cp'] 32)
  obtain ⟨w1, hw1⟩ : ∃ w1, w1 = (w.alloc (.cells #[.int .i64 u.k, .int .i64 u.n, .string u.s, .int .i64 u.a, .slice ta n cp] 32)).alloc (.cells #[.int .i64 u'.k, .int .i64 u'.n, .string u'.s, .int .i64 u'.a, .slice ta' m cp'] 32) := ⟨_, rfl⟩
  rw [← hw1] at A2
  have HB1 : Hid (Below w.heap.size w w1) := A2.2.2.2
  have G1 : Hid (w1.heap[w.heap.size]? = some (.cells #[.int .i64 u.k, .int .i64 u.n, .string u.s, .int .i64 u.a, .slice ta n cp] 32 (0, 0))) := A2.1
  have G2 : Hid (w1.heap[w.heap.size + 1]? = some (.cells #[.int .i64 u'.k, .int .i64 u'.n, .string u'.s, .int .i64 u'.a, .slice ta' m cp'] 32 (0, 0))) := A2.2.1
  clear A2
  have hok := specOk_any u ta n cp TB TO A L C RB RO K X w1 hn HS (HT.out.below HB1.out)
  go_enter Try.func30, Try.ntmps30
  go_wp2_with fail
  rw [← hw1]
  refine hok.mono ?_
  clear hok hw1
  rintro e w2 ⟨⟨b, rfl, hb⟩, hb2⟩
  have HB2 : Hid (Below w.heap.size w w2) := grw HB1.out hb2
  have H2 : Hid (w2.heap[w.heap.size]? = some (.cells #[.int .i64 u.k, .int .i64 u.n, .string u.s, .int .i64 u.a, .slice ta n cp] 32 (0, 0))) := blkB G1.out hb2
  have H2' : Hid (w2.heap[w.heap.size + 1]? = some (.cells #[.int .i64 u'.k, .int .i64 u'.n, .string u'.s, .int .i64 u'.a, .slice ta' m cp'] 32 (0, 0))) := blkB G2.out hb2
  clear hb2 G1 G2 HB1
  cases b
  · have HN : Hid (¬ (OkG n u L K X ∧ OkG m u' L' K' X')) := show ¬ _ from fun h => by have := hb.2 h.1; cases this
    clear hb
    go_wp2
    go_ret
    exact ⟨Or.inr ⟨HN.out, rfl⟩, HB2.out⟩
  have HO : Hid (OkG n u L K X) := hb.1 rfl
  clear hb
  have hok := specOk_any u' ta' m cp' TB' TO' A' L' C' RB' RO' K' X' w2 hm HS' (HT'.out.below HB2.out)
  obtain ⟨x0, x1, x2, x3, x4, _⟩ := cells5 H2'.out
  go_wp2_with fail
  refine hok.mono ?_
  clear hok x0 x1 x2 x3 x4
  rintro e w3 ⟨⟨b, rfl, hb⟩, hb3⟩
  have HB3 : Hid (Below w.heap.size w w3) := grw HB2.out hb3
  have H3 : Hid (w3.heap[w.heap.size]? = some (.cells #[.int .i64 u.k, .int .i64 u.n, .string u.s, .int .i64 u.a, .slice ta n cp] 32 (0, 0))) := blkB H2.out hb3
  have H3' : Hid (w3.heap[w.heap.size + 1]? = some (.cells #[.int .i64 u'.k, .int .i64 u'.n, .string u'.s, .int .i64 u'.a, .slice ta' m cp'] 32 (0, 0))) := blkB H2'.out hb3
  clear hb3 H2 H2' HB2
  cases b
  · have HN : Hid (¬ (OkG n u L K X ∧ OkG m u' L' K' X')) := show ¬ _ from fun h => by have := hb.2 h.2; cases this
    clear hb
    go_wp2
    go_ret
    exact ⟨Or.inr ⟨HN.out, rfl⟩, HB3.out⟩
  have HO' : Hid (OkG m u' L' K' X') := hb.1 rfl
  clear hb
  have HNM : Hid (n + m ≤ 400) := show _ ≤ _ by have := HO.out.len; have := HO'.out.len; omega
  have HLj : Hid (∀ r, r < n + m → jn n L L' r ≤ 100) := show ∀ r, _ from fun r hr => (okT_join HO.out HO'.out r hr).len
  have HGj : Hid (Good (n + m) (jn n L L') (jn n X (fun j c => sh n (X' j c)))) := (good_of HO.out).join (good_of HO'.out)
  have HZj : Hid (∀ r, r < n + m → ∀ c, c < jn n L L' r → (jn n K K' r c).s.size ≤ 9223372036854775807) := show ∀ r, _ from fun r hr c hc => by
    by_cases e : r < n
    · rw [jn_lt e] at hc ⊢
      have := ((HS.out r e).2 c hc).1
      omega
    · rw [jn_ge e] at hc ⊢
      have := ((HS'.out (r - n) (by omega)).2 c hc).1
      omega
  obtain ⟨x0, x1, x2, x3, x4, _⟩ := cells5 H3'.out
  obtain ⟨g0, g1, g2, g3, g4, _⟩ := cells5 H3.out
  have hgl : w.heap.size < w3.heap.size := blk_lt H3.out
  have hgl1 : w.heap.size + 1 < w3.heap.size := blk_lt H3'.out
  have hur := HO'.out.root
  by_cases h4 : u'.k = 4
  · obtain ⟨a0, a1⟩ := isV_tab hur h4
    obtain ⟨ya, hya⟩ : ∃ ya : Int, u'.a + (n : Int) = ya := ⟨_, rfl⟩
    have hk4 : (u'.k == 4) = true := by simp [h4]
    have hnn := HO.out.len
    have hmm := HO'.out.len
    have hwr : IntKind.i64.wrap (u'.a + (n : Int)) = ya := by rw [IntKind.wrap_i64]; omega
    have HSH : Hid (sh n u' = ⟨u'.k, u'.n, u'.s, ya⟩) := by show sh n u' = _; unfold sh; rw [if_pos h4, hya]
    clear h4 hya a0 a1 hnn hmm hur
    obtain ⟨w4, hw4⟩ : ∃ w4, w4 = w3.alloc (.cells #[.int .i64 u'.k, .int .i64 u'.n, .string u'.s, .int .i64 ya] 29) := ⟨_, rfl⟩
    have hb4 : Below w3.heap.size w3 w4 := by rw [hw4]; exact (Below.refl _ _).alloc (Nat.le_refl _) _
    have HB4 : Hid (Below w.heap.size w w4) := grw HB3.out hb4
    have H4 : Hid (w4.heap[w.heap.size]? = some (.cells #[.int .i64 u.k, .int .i64 u.n, .string u.s, .int .i64 u.a, .slice ta n cp] 32 (0, 0))) := blkB H3.out hb4
    have H4' : Hid (w4.heap[w.heap.size + 1]? = some (.cells #[.int .i64 u'.k, .int .i64 u'.n, .string u'.s, .int .i64 u'.a, .slice ta' m cp'] 32 (0, 0))) := blkB H3'.out hb4
    obtain ⟨rb, hrb⟩ : ∃ rb, w3.heap.size = rb := ⟨_, rfl⟩
    have R4 : Hid (w4.heap[rb]? = some (.cells #[.int .i64 u'.k, .int .i64 u'.n, .string u'.s, .int .i64 ya] 29 (0, 0))) := by rw [hw4, ← hrb]; exact heap_alloc_new _ _
    rw [hrb] at hgl hgl1
    have HAL : Hid (∀ (f : Nat → Nat) (g : Nat) (w' : World), ClsAt w' g (n + m) f → Calls Try.prog 61 #[.agg #[.int .i64 u.k, .int .i64 u.n, .string u.s, .int .i64 u.a], .agg #[.int .i64 u'.k, .int .i64 u'.n, .string u'.s, .int .i64 ya], .slice (some ⟨g, 0, none⟩) (n + m) (n + m)] w' fun e w'' => e = .returned (.bool (alike f u ⟨u'.k, u'.n, u'.s, ya⟩)) ∧ Below w'.heap.size w' w'') := show ∀ _, _ from fun f g w' hC => by
      have h := l3alike_any u (sh n u') (n + m) g (n + m) f w' (isV_more HO.out.root) (sh_isV HO'.out.root) hC
      rw [HSH.out] at h
      exact h
    clear hb4 H3 H3' HB3
    go_wp2
    rw [← hw4]
    try rw [hrb]
    clear hw4 hrb g0 g1 g2 g3 g4 x0 x1 x2 x3 x4
    have HT4 : Hid (TabsAt w4 ta n TB TO A L C RB RO K X) := HT.out.below HB4.out
    have HT4' : Hid (TabsAt w4 ta' m TB' TO' A' L' C' RB' RO' K' X') := HT'.out.below HB4.out
    have hboth := l3both_any u u' ta ta' n cp TB TO m cp' TB' TO' A A' L C RB RO L' C' RB' RO' K X K' X' w4.drew HO.out.len HO'.out.len (show ∀ r, _ from fun r hr => (HO'.out.all r hr).len) (good_of HO'.out) (HT4.out.below (Below.refl _ _).drew) (HT4'.out.below (Below.refl _ _).drew)
    obtain ⟨g0, g1, g2, g3, g4, _⟩ := cells5 H4.out
    obtain ⟨x0, x1, x2, x3, x4, _⟩ := cells5 H4'.out
    obtain ⟨r0, r1, r2, r3, _⟩ := cells4' R4.out
    have HGc : Hid (∀ w', Below w4.heap.size w4 w' → w'.cell? ⟨w.heap.size, 0, none⟩ = some (.int .i64 u.k) ∧ w'.cell? ⟨w.heap.size, 1, none⟩ = some (.int .i64 u.n) ∧ w'.cell? ⟨w.heap.size, 2, none⟩ = some (.string u.s) ∧ w'.cell? ⟨w.heap.size, 3, none⟩ = some (.int .i64 u.a) ∧ w'.cell? ⟨w.heap.size, 4, none⟩ = some (.slice ta n cp)) := show ∀ _, _ from fun w' hb => ⟨cellB g0 w' hb, cellB g1 w' hb, cellB g2 w' hb, cellB g3 w' hb, cellB g4 w' hb⟩
    have HXc : Hid (∀ w', Below w4.heap.size w4 w' → w'.cell? ⟨w.heap.size + 1, 0, none⟩ = some (.int .i64 u'.k) ∧ w'.cell? ⟨w.heap.size + 1, 1, none⟩ = some (.int .i64 u'.n) ∧ w'.cell? ⟨w.heap.size + 1, 2, none⟩ = some (.string u'.s) ∧ w'.cell? ⟨w.heap.size + 1, 3, none⟩ = some (.int .i64 u'.a) ∧ w'.cell? ⟨w.heap.size + 1, 4, none⟩ = some (.slice ta' m cp')) := show ∀ _, _ from fun w' hb => ⟨cellB x0 w' hb, cellB x1 w' hb, cellB x2 w' hb, cellB x3 w' hb, cellB x4 w' hb⟩
    have HRc : Hid (∀ w', Below w4.heap.size w4 w' → w'.cell? ⟨rb, 0, none⟩ = some (.int .i64 u'.k) ∧ w'.cell? ⟨rb, 1, none⟩ = some (.int .i64 u'.n) ∧ w'.cell? ⟨rb, 2, none⟩ = some (.string u'.s) ∧ w'.cell? ⟨rb, 3, none⟩ = some (.int .i64 ya)) := show ∀ _, _ from fun w' hb => ⟨cellB r0 w' hb, cellB r1 w' hb, cellB r2 w' hb, cellB r3 w' hb⟩
    clear g0 g1 g2 g3 g4 x0 x1 x2 x3 x4 r0 r1 r2 r3
    refine wp_region_held_drew (S := fun x => Below w4.heap.size w4 x) (by kernel_rfl) (Below.refl _ _).drew (fun hHeld => ?_)
    refine wpAnyH_take (i := 0) (v := .pointer (some ⟨w.heap.size, 0, none⟩)) rfl (by kernel_rfl) (by kernel_rfl) (by kernel_rfl) (fun _ _ _ h => h) (Or.inl ⟨by rfl, fun w hSw => ?_⟩) hHeld ?_
    · first | rfl | go_simp
    simp only [Act.put, List.setIfInBounds_toArray, List.set_cons_zero, List.set_cons_succ, List.getElem_toArray, List.getElem_cons_zero]
    refine wpAnyH_take (i := 1) (v := .agg #[.int .i64 u.k, .int .i64 u.n, .string u.s, .int .i64 u.a]) rfl (by kernel_rfl) (by kernel_rfl) (by kernel_rfl) (fun _ _ _ h => h) (Or.inl ⟨by rfl, fun w hSw => ?_⟩) hHeld ?_
    · obtain ⟨q0, q1, q2, q3, _⟩ := HGc.out w hSw; first | rfl | go_simp
    simp only [Act.put, List.setIfInBounds_toArray, List.set_cons_zero, List.set_cons_succ, List.getElem_toArray, List.getElem_cons_zero, List.getElem_cons_succ]
    refine wpAnyH_take (i := 2) (v := .agg #[.int .i64 u'.k, .int .i64 u'.n, .string u'.s, .int .i64 ya]) rfl (by kernel_rfl) (by kernel_rfl) (by kernel_rfl) (fun _ _ _ h => h) (Or.inl ⟨by rfl, fun w hSw => ?_⟩) hHeld ?_
    · obtain ⟨q0, q1, q2, q3⟩ := HRc.out w hSw; first | rfl | go_simp
    simp only [Act.put, List.setIfInBounds_toArray, List.set_cons_zero, List.set_cons_succ, List.getElem_toArray, List.getElem_cons_zero, List.getElem_cons_succ]
    refine wpAnyH_take (i := 3) (v := .agg #[.int .i64 u.k, .int .i64 u.n, .string u.s, .int .i64 u.a, .slice ta n cp]) rfl (by kernel_rfl) (by kernel_rfl) (by kernel_rfl) (fun _ _ _ h => h) (Or.inl ⟨by rfl, fun w hSw => ?_⟩) hHeld ?_
    · obtain ⟨q0, q1, q2, q3, q4⟩ := HGc.out w hSw; first | rfl | go_simp
    simp only [Act.put, List.setIfInBounds_toArray, List.set_cons_zero, List.set_cons_succ, List.getElem_toArray, List.getElem_cons_zero, List.getElem_cons_succ]
    refine wpAnyH_take (i := 4) (v := .agg #[.int .i64 u'.k, .int .i64 u'.n, .string u'.s, .int .i64 u'.a, .slice ta' m cp']) rfl (by kernel_rfl) (by kernel_rfl) (by kernel_rfl) (fun _ _ _ h => h) (Or.inl ⟨by rfl, fun w hSw => ?_⟩) hHeld ?_
    · obtain ⟨q0, q1, q2, q3, q4⟩ := HXc.out w hSw; first | rfl | go_simp
    simp only [Act.put, List.setIfInBounds_toArray, List.set_cons_zero, List.set_cons_succ, List.getElem_toArray, List.getElem_cons_zero, List.getElem_cons_succ]
    refine wpAnyH_ready (rs := [5]) (by kernel_rfl) (by simp) ?_
    refine AllReadyH.cons rfl (fun KK hK' => ?_) AllReadyH.nil
    have hcall := hboth
    clear hboth
    go_simp
    refine hcall.mono ?_
    clear hcall
    rintro e w5 ⟨⟨oa, oc, OB, A2, C2, RB2, RO2, rfl, hT5⟩, hb5⟩
    have hs5 : Below w4.heap.size w4 w5 := grw hHeld hb5
    have HT5 : Hid _ := hT5
    clear hT5 hb5
    refine hK'.out _ _ hs5 (fun hHeld => ?_)
    clear hK'
    refine wpAnyH_ready (rs := [6]) (by kernel_rfl) (by simp) ?_
    refine AllReadyH.cons rfl (fun KK hK' => ?_) AllReadyH.nil
    have hcall := l3classes_any oa (n + m) oc OB 0 A2 _ C2 RB2 RO2 _ _ w5 HNM.out HLj HZj HGj HT5
    go_simp
    refine hcall.mono ?_
    clear hcall
    rintro e w6 ⟨⟨g, f, ls, rfl, _, hrow, hsrt, hcls⟩, hb6⟩
    have hs6 : Below w4.heap.size w4 w6 := grw hHeld hb6
    have HRw : Hid (ClsAt w6 g (n + m) f) := show ClsAt w6 g (n + m) f from fun q hq => hrow.cell hq
    have HCL : Hid (ClsAre (n + m) (jn n L L') (jn n K K') (jn n X (fun j c => sh n (X' j c))) f) := ⟨ls, hsrt, hcls⟩
    clear hb6 hrow hsrt hcls HT5 hs5
    refine hK'.out _ _ hs6 (fun hHeld => ?_)
    clear hK'
    refine wpAnyH_ready (rs := [7]) (by kernel_rfl) (by simp) ?_
    refine AllReadyH.cons rfl (fun KK hK' => ?_) AllReadyH.nil
    have hcall := HAL.out f g w6 HRw.out
    go_simp
    refine hcall.mono ?_
    clear hcall
    rintro e w7 ⟨rfl, hb7⟩
    have hs7 : Below w4.heap.size w4 w7 := grw hHeld hb7
    have HS7 : Hid (Below w4.heap.size w4 w7) := hs7
    clear hb7 hs6 HRw
    refine hK'.out _ _ hs7 (fun hHeld => ?_)
    clear hK'
    obtain ⟨bq, hbq⟩ : ∃ bq, alike f u ⟨u'.k, u'.n, u'.s, ya⟩ = bq := ⟨_, rfl⟩
    have HBQ : Hid (alike f u ⟨u'.k, u'.n, u'.s, ya⟩ = bq) := hbq
    rw [hbq]
    clear hbq
    refine wpAnyH_take (i := 8) (v := .bool bq) rfl (by kernel_rfl) (by kernel_rfl) (by kernel_rfl) (fun _ _ _ h => h) (Or.inl ⟨by rfl, fun w hSw => ?_⟩) hHeld ?_
    · first | rfl | go_simp
    simp only [Act.put, List.setIfInBounds_toArray, List.set_cons_zero, List.set_cons_succ, List.getElem_toArray, List.getElem_cons_zero, List.getElem_cons_succ]
    refine wpAnyH_done (by kernel_rfl) ?_ _
    go_wp2
    go_ret
    refine ⟨?_, grw HB4.out HS7.out⟩
    have e : alike f u (sh n u') = bq := by rw [HSH.out]; exact HBQ.out
    rw [← e]
    exact Or.inl ⟨⟨HO.out, HO'.out⟩, f, HCL.out, rfl⟩
  · have hk4 : (u'.k == 4) = false := by simp [h4]
    obtain ⟨ya, hya⟩ : ∃ ya : Int, u'.a = ya := ⟨_, rfl⟩
    have HSH : Hid (sh n u' = ⟨u'.k, u'.n, u'.s, ya⟩) := by show sh n u' = _; unfold sh; rw [if_neg h4, ← hya]
    rw [hya] at x3
    clear h4 hur hya
    obtain ⟨w4, hw4⟩ : ∃ w4, w4 = w3.alloc (.cells #[.int .i64 u'.k, .int .i64 u'.n, .string u'.s, .int .i64 ya] 29) := ⟨_, rfl⟩
    have hb4 : Below w3.heap.size w3 w4 := by rw [hw4]; exact (Below.refl _ _).alloc (Nat.le_refl _) _
    have HB4 : Hid (Below w.heap.size w w4) := grw HB3.out hb4
    have H4 : Hid (w4.heap[w.heap.size]? = some (.cells #[.int .i64 u.k, .int .i64 u.n, .string u.s, .int .i64 u.a, .slice ta n cp] 32 (0, 0))) := blkB H3.out hb4
    have H4' : Hid (w4.heap[w.heap.size + 1]? = some (.cells #[.int .i64 u'.k, .int .i64 u'.n, .string u'.s, .int .i64 u'.a, .slice ta' m cp'] 32 (0, 0))) := blkB H3'.out hb4
    obtain ⟨rb, hrb⟩ : ∃ rb, w3.heap.size = rb := ⟨_, rfl⟩
    have R4 : Hid (w4.heap[rb]? = some (.cells #[.int .i64 u'.k, .int .i64 u'.n, .string u'.s, .int .i64 ya] 29 (0, 0))) := by rw [hw4, ← hrb]; exact heap_alloc_new _ _
    rw [hrb] at hgl hgl1
    have HAL : Hid (∀ (f : Nat → Nat) (g : Nat) (w' : World), ClsAt w' g (n + m) f → Calls Try.prog 61 #[.agg #[.int .i64 u.k, .int .i64 u.n, .string u.s, .int .i64 u.a], .agg #[.int .i64 u'.k, .int .i64 u'.n, .string u'.s, .int .i64 ya], .slice (some ⟨g, 0, none⟩) (n + m) (n + m)] w' fun e w'' => e = .returned (.bool (alike f u ⟨u'.k, u'.n, u'.s, ya⟩)) ∧ Below w'.heap.size w' w'') := show ∀ _, _ from fun f g w' hC => by
      have h := l3alike_any u (sh n u') (n + m) g (n + m) f w' (isV_more HO.out.root) (sh_isV HO'.out.root) hC
      rw [HSH.out] at h
      exact h
    clear hb4 H3 H3' HB3
    go_wp2
    rw [← hw4]
    try rw [hrb]
    clear hw4 hrb g0 g1 g2 g3 g4 x0 x1 x2 x3 x4
    have HT4 : Hid (TabsAt w4 ta n TB TO A L C RB RO K X) := HT.out.below HB4.out
    have HT4' : Hid (TabsAt w4 ta' m TB' TO' A' L' C' RB' RO' K' X') := HT'.out.below HB4.out
    have hboth := l3both_any u u' ta ta' n cp TB TO m cp' TB' TO' A A' L C RB RO L' C' RB' RO' K X K' X' w4.drew HO.out.len HO'.out.len (show ∀ r, _ from fun r hr => (HO'.out.all r hr).len) (good_of HO'.out) (HT4.out.below (Below.refl _ _).drew) (HT4'.out.below (Below.refl _ _).drew)
    obtain ⟨g0, g1, g2, g3, g4, _⟩ := cells5 H4.out
    obtain ⟨x0, x1, x2, x3, x4, _⟩ := cells5 H4'.out
    obtain ⟨r0, r1, r2, r3, _⟩ := cells4' R4.out
    have HGc : Hid (∀ w', Below w4.heap.size w4 w' → w'.cell? ⟨w.heap.size, 0, none⟩ = some (.int .i64 u.k) ∧ w'.cell? ⟨w.heap.size, 1, none⟩ = some (.int .i64 u.n) ∧ w'.cell? ⟨w.heap.size, 2, none⟩ = some (.string u.s) ∧ w'.cell? ⟨w.heap.size, 3, none⟩ = some (.int .i64 u.a) ∧ w'.cell? ⟨w.heap.size, 4, none⟩ = some (.slice ta n cp)) := show ∀ _, _ from fun w' hb => ⟨cellB g0 w' hb, cellB g1 w' hb, cellB g2 w' hb, cellB g3 w' hb, cellB g4 w' hb⟩
    have HXc : Hid (∀ w', Below w4.heap.size w4 w' → w'.cell? ⟨w.heap.size + 1, 0, none⟩ = some (.int .i64 u'.k) ∧ w'.cell? ⟨w.heap.size + 1, 1, none⟩ = some (.int .i64 u'.n) ∧ w'.cell? ⟨w.heap.size + 1, 2, none⟩ = some (.string u'.s) ∧ w'.cell? ⟨w.heap.size + 1, 3, none⟩ = some (.int .i64 u'.a) ∧ w'.cell? ⟨w.heap.size + 1, 4, none⟩ = some (.slice ta' m cp')) := show ∀ _, _ from fun w' hb => ⟨cellB x0 w' hb, cellB x1 w' hb, cellB x2 w' hb, cellB x3 w' hb, cellB x4 w' hb⟩
    have HRc : Hid (∀ w', Below w4.heap.size w4 w' → w'.cell? ⟨rb, 0, none⟩ = some (.int .i64 u'.k) ∧ w'.cell? ⟨rb, 1, none⟩ = some (.int .i64 u'.n) ∧ w'.cell? ⟨rb, 2, none⟩ = some (.string u'.s) ∧ w'.cell? ⟨rb, 3, none⟩ = some (.int .i64 ya)) := show ∀ _, _ from fun w' hb => ⟨cellB r0 w' hb, cellB r1 w' hb, cellB r2 w' hb, cellB r3 w' hb⟩
    clear g0 g1 g2 g3 g4 x0 x1 x2 x3 x4 r0 r1 r2 r3
    refine wp_region_held_drew (S := fun x => Below w4.heap.size w4 x) (by kernel_rfl) (Below.refl _ _).drew (fun hHeld => ?_)
    refine wpAnyH_take (i := 0) (v := .pointer (some ⟨w.heap.size, 0, none⟩)) rfl (by kernel_rfl) (by kernel_rfl) (by kernel_rfl) (fun _ _ _ h => h) (Or.inl ⟨by rfl, fun w hSw => ?_⟩) hHeld ?_
    · first | rfl | go_simp
    simp only [Act.put, List.setIfInBounds_toArray, List.set_cons_zero, List.set_cons_succ, List.getElem_toArray, List.getElem_cons_zero]
    refine wpAnyH_take (i := 1) (v := .agg #[.int .i64 u.k, .int .i64 u.n, .string u.s, .int .i64 u.a]) rfl (by kernel_rfl) (by kernel_rfl) (by kernel_rfl) (fun _ _ _ h => h) (Or.inl ⟨by rfl, fun w hSw => ?_⟩) hHeld ?_
    · obtain ⟨q0, q1, q2, q3, _⟩ := HGc.out w hSw; first | rfl | go_simp
    simp only [Act.put, List.setIfInBounds_toArray, List.set_cons_zero, List.set_cons_succ, List.getElem_toArray, List.getElem_cons_zero, List.getElem_cons_succ]
    refine wpAnyH_take (i := 2) (v := .agg #[.int .i64 u'.k, .int .i64 u'.n, .string u'.s, .int .i64 ya]) rfl (by kernel_rfl) (by kernel_rfl) (by kernel_rfl) (fun _ _ _ h => h) (Or.inl ⟨by rfl, fun w hSw => ?_⟩) hHeld ?_
    · obtain ⟨q0, q1, q2, q3⟩ := HRc.out w hSw; first | rfl | go_simp
    simp only [Act.put, List.setIfInBounds_toArray, List.set_cons_zero, List.set_cons_succ, List.getElem_toArray, List.getElem_cons_zero, List.getElem_cons_succ]
    refine wpAnyH_take (i := 3) (v := .agg #[.int .i64 u.k, .int .i64 u.n, .string u.s, .int .i64 u.a, .slice ta n cp]) rfl (by kernel_rfl) (by kernel_rfl) (by kernel_rfl) (fun _ _ _ h => h) (Or.inl ⟨by rfl, fun w hSw => ?_⟩) hHeld ?_
    · obtain ⟨q0, q1, q2, q3, q4⟩ := HGc.out w hSw; first | rfl | go_simp
    simp only [Act.put, List.setIfInBounds_toArray, List.set_cons_zero, List.set_cons_succ, List.getElem_toArray, List.getElem_cons_zero, List.getElem_cons_succ]
    refine wpAnyH_take (i := 4) (v := .agg #[.int .i64 u'.k, .int .i64 u'.n, .string u'.s, .int .i64 u'.a, .slice ta' m cp']) rfl (by kernel_rfl) (by kernel_rfl) (by kernel_rfl) (fun _ _ _ h => h) (Or.inl ⟨by rfl, fun w hSw => ?_⟩) hHeld ?_
    · obtain ⟨q0, q1, q2, q3, q4⟩ := HXc.out w hSw; first | rfl | go_simp
    simp only [Act.put, List.setIfInBounds_toArray, List.set_cons_zero, List.set_cons_succ, List.getElem_toArray, List.getElem_cons_zero, List.getElem_cons_succ]
    refine wpAnyH_ready (rs := [5]) (by kernel_rfl) (by simp) ?_
    refine AllReadyH.cons rfl (fun KK hK' => ?_) AllReadyH.nil
    have hcall := hboth
    clear hboth
    go_simp
    refine hcall.mono ?_
    clear hcall
    rintro e w5 ⟨⟨oa, oc, OB, A2, C2, RB2, RO2, rfl, hT5⟩, hb5⟩
    have hs5 : Below w4.heap.size w4 w5 := grw hHeld hb5
    have HT5 : Hid _ := hT5
    clear hT5 hb5
    refine hK'.out _ _ hs5 (fun hHeld => ?_)
    clear hK'
    refine wpAnyH_ready (rs := [6]) (by kernel_rfl) (by simp) ?_
    refine AllReadyH.cons rfl (fun KK hK' => ?_) AllReadyH.nil
    have hcall := l3classes_any oa (n + m) oc OB 0 A2 _ C2 RB2 RO2 _ _ w5 HNM.out HLj HZj HGj HT5
    go_simp
    refine hcall.mono ?_
    clear hcall
    rintro e w6 ⟨⟨g, f, ls, rfl, _, hrow, hsrt, hcls⟩, hb6⟩
    have hs6 : Below w4.heap.size w4 w6 := grw hHeld hb6
    have HRw : Hid (ClsAt w6 g (n + m) f) := show ClsAt w6 g (n + m) f from fun q hq => hrow.cell hq
    have HCL : Hid (ClsAre (n + m) (jn n L L') (jn n K K') (jn n X (fun j c => sh n (X' j c))) f) := ⟨ls, hsrt, hcls⟩
    clear hb6 hrow hsrt hcls HT5 hs5
    refine hK'.out _ _ hs6 (fun hHeld => ?_)
    clear hK'
    refine wpAnyH_ready (rs := [7]) (by kernel_rfl) (by simp) ?_
    refine AllReadyH.cons rfl (fun KK hK' => ?_) AllReadyH.nil
    have hcall := HAL.out f g w6 HRw.out
    go_simp
    refine hcall.mono ?_
    clear hcall
    rintro e w7 ⟨rfl, hb7⟩
    have hs7 : Below w4.heap.size w4 w7 := grw hHeld hb7
    have HS7 : Hid (Below w4.heap.size w4 w7) := hs7
    clear hb7 hs6 HRw
    refine hK'.out _ _ hs7 (fun hHeld => ?_)
    clear hK'
    obtain ⟨bq, hbq⟩ : ∃ bq, alike f u ⟨u'.k, u'.n, u'.s, ya⟩ = bq := ⟨_, rfl⟩
    have HBQ : Hid (alike f u ⟨u'.k, u'.n, u'.s, ya⟩ = bq) := hbq
    rw [hbq]
    clear hbq
    refine wpAnyH_take (i := 8) (v := .bool bq) rfl (by kernel_rfl) (by kernel_rfl) (by kernel_rfl) (fun _ _ _ h => h) (Or.inl ⟨by rfl, fun w hSw => ?_⟩) hHeld ?_
    · first | rfl | go_simp
    simp only [Act.put, List.setIfInBounds_toArray, List.set_cons_zero, List.set_cons_succ, List.getElem_toArray, List.getElem_cons_zero, List.getElem_cons_succ]
    refine wpAnyH_done (by kernel_rfl) ?_ _
    go_wp2
    go_ret
    refine ⟨?_, grw HB4.out HS7.out⟩
    have e : alike f u (sh n u') = bq := by rw [HSH.out]; exact HBQ.out
    rw [← e]
    exact Or.inl ⟨⟨HO.out, HO'.out⟩, f, HCL.out, rfl⟩

end Go.Proofs.Ytgflalfiopnmnab
