import Derived.Test.YtgflalfiopnmnaaGreatDoorR8
import Derived.Test.YtgflalfiopnmnaaGreatDoorR9
import Derived.BigQuiet
import Derived.WalkSmall
import Derived.LaidEql
import Derived.ProofKit
import Derived.OpenShut
import Derived.ShutString
import Derived.ChangeOld
import Derived.Lib.SmallJoins
import Derived.Deep.Slices
import Derived.Test.YtgflalfiopnmnaaGreatDoorGrSza
import Derived.Test.YtgflalfiopnmnaaGreatDoorRows
import Derived.Test.YtgflalfiopnmnaaGreatDoorLkLink2
namespace Go.Proofs.YtgflalfiopnmnaaGreatDoor
open Go.RowKit Vl

/-- Whether a class has turned. -/
def MoreIs (mv : Value) (i : Nat) (nx cl : Nat → Nat) : Prop := ∃ bm, mv = .bool bm ∧ (bm = true ↔ ∃ j, j < i ∧ nx j ≠ cl j)

/-- The asking of one table's class, down to k. -/
def AskIs (L : Nat → Nat) (K X : Nat → Nat → V) (cl nx : Nat → Nat) (n nb j : Nat) (wn : World) (kk : Value) (wk : World) : Prop :=
  ∃ (k v : Nat) (z : Int), kk = .int .i64 z ∧ Hid (z = (k : Int) - 1) ∧ k ≤ j ∧ Hid (Found L K X cl nx j k v) ∧ Hid (wk.rowIs nb 3 n (fun q => if q = j then .int .i64 (v : Nat) else if q < j then .int .i64 (nx q : Nat) else .int .i64 ((0 : Nat) : Int))) ∧ Hid (Only (fun k => k = nb) wn wk)

set_option maxHeartbeats 8000000 in
set_option maxRecDepth 100000 in
/-- 'l3classes'. -/
theorem l3classes_any (ta : Option Addr) (n cp TB TO : Nat) (A : Nat → Option Addr) (L C RB RO : Nat → Nat) (K X : Nat → Nat → V) (w : World) (hn : n ≤ 400) (HL : Hid (∀ r, r < n → L r ≤ 100)) (HZ : Hid (∀ r, r < n → ∀ c, c < L r → (K r c).s.size ≤ 9223372036854775807)) (HG : Hid (Good n L X)) (HT : Hid (TabsAt w ta n TB TO A L C RB RO K X)) :
    Calls Tryz.prog 45 #[.slice ta n cp] w fun e w' => (∃ (g : Nat) (f : Nat → Nat) (ls : Nat → List Nat), e = .returned (.slice (some ⟨g, 0, none⟩) n n) ∧ w.heap.size ≤ g ∧ w'.rowIs g 3 n (fun i => .int .i64 (f i : Nat)) ∧ (∀ r, r < n → SortI (K r) (L r) (ls r)) ∧ IsCls n L (sK K ls) (sK X ls) f) ∧ Below w.heap.size w w' := by
  obtain ⟨it, hti, ht0, ht1, ht2⟩ := info_parts Tryz.info37
  have hmk := run_make_n 93 3 _ 1 8 Tryz.underlying93 Tryz.infoN n (by omega) (by omega)
  simp only [Nat.mul_one] at hmk
  go_enter Tryz.func45, Tryz.ntmps45
  go_wp2
  go_loopw [3, 13] (fun sv ii wr => ∃ (i : Nat) (PV : Nat → Value) (ls : Nat → List Nat), i ≤ n ∧ ii = .int .i64 i ∧ Hid (∀ r, r < i → SortI (K r) (L r) (ls r)) ∧ Hid (OTab wr w.heap.size sv i PV L (sK K ls) (sK X ls)) ∧ Hid (Below w.heap.size w wr)) (fun _ ii _ => n - (intOf ii).toNat)
  case atStart => exact ⟨0, fun _ => .nilIface, fun _ => [], Nat.zero_le _, rfl, fun r hr => absurd hr (Nat.not_lt_zero _), OTab.nil _ _ _ _ _ _, Below.refl _ _⟩
  case round =>
    obtain ⟨i, PV, ls, hi, rfl, HLs, HO, HB⟩ := hrel
    obtain ⟨sa, sc, rfl, hsk⟩ := owns_form HO.out.own
    by_cases hlt : i < n
    · have hta := HT.out.top (by omega)
      subst hta
      have t0 := (HT.out.below HB.out).tab i hlt
      obtain ⟨pa, hpa⟩ : ∃ a, A i = a := ⟨_, rfl⟩
      rw [hpa] at t0
      have HP : Hid (PairsAt w pa (L i) (RB i) (RO i) (K i) (X i)) := hpa ▸ HT.out.row i hlt
      obtain ⟨wt, hwt⟩ : ∃ wt, wt = wr.alloc (.cells #[.slice pa (L i) (C i)] 37) := ⟨_, rfl⟩
      have hbt : Below wr.heap.size wr wt := by rw [hwt]; exact (Below.refl _ _).alloc (Nat.le_refl _) _
      have HBt : Hid (Below w.heap.size w wt) := grw HB.out hbt
      have HOt : Hid (OTab wt w.heap.size (.slice sa i sc) i PV L (sK K ls) (sK X ls)) := HO.out.below hbt
      have hcall := l3sorted_any pa (L i) (C i) (RB i) (RO i) (K i) (X i) wt (by have := HL.out i hlt; omega) (HZ.out i hlt) (HP.out.below HBt.out)
      have HN2 : Hid (∀ j, j < i → ∀ g, (PV j).ownBlock = some g → g < wt.heap.size) := show ∀ j, _ from fun j hj g hg => by obtain ⟨_, _, _, h⟩ := owns_form (HOt.out.rows j hj); exact (h g hg).2
      clear hsk hbt HO HB hpa hmk
      go_wp2_with fail
      rw [← hwt]
      refine hcall.mono ?_
      clear hcall hwt t0
      rintro e w2 ⟨⟨pa', pc, lr, rfl, hsr, hown⟩, hb2⟩
      have HSR : Hid (SortI (K i) (L i) lr) := hsr
      have HO2 : Hid (OTab w2 w.heap.size (.slice sa i sc) i PV L (sK K ls) (sK X ls)) := HOt.out.below hb2
      have HB2 : Hid (Below w.heap.size w w2) := grw HBt.out hb2
      have HP2 : Hid (w2.ownsRow wt.heap.size 39 8 (.slice pa' (L i) pc) (L i) (pairCells (byI (K i) lr) (byI (X i) lr) (L i))) := hown
      have hs2 : w.heap.size ≤ wt.heap.size := HBt.out.size
      have hs2' : wt.heap.size ≤ w2.heap.size := hb2.size
      clear hown hsr hb2 HOt HBt
      go_wp2_with (at_builtin; refine wpList_append_lies _ (by rfl) (.tmp 17) (.tmp 20) 25 (by rfl) w.heap.size 37 it (.agg #[.slice none 0 0]) 1 24 Tryz.underlying25 hti ht0 ht1 ht2 (by rfl) (by omega) (.slice sa i sc) i ((List.range i).map PV) (by rfl) (HO2.out.own.alloc _) ⟨w2.heap.size, 0, none⟩ 1 1 [.slice pa' (L i) pc] (by rfl) (by rfl) ?c1 ?c2 (by omega) ?c3 ?c4 ?c5 (w2.heap.size + 1) ?c6 ?_)
      case c1 => exact World.news_of_block (heap_alloc_new w2 _)
      case c2 => intro u hu; simp at hu; subst hu; rfl
      case c3 => unfold maxLen; omega
      case c4 => omega
      case c5 => simp; omega
      case c6 => simp
      intro g cap w7 hown7 hgrow7 hat7 hlt7
      obtain ⟨hT7, hB7⟩ := HO2.out.more (owns_mono HP2.out (by omega)) (fun j hj g hg e => by
        obtain ⟨_, _, _, h⟩ := owns_form HP2.out
        have h1 := (h g e).1
        have h2 := HN2.out j hj g hg
        omega) _ (by omega) hown7 hgrow7
      have HT7 : Hid (OTab w7 w.heap.size (.slice (some ⟨g, 0, none⟩) (i + 1) cap) (i + 1) (fun j => if j = i then .slice pa' (L i) pc else PV j) L (sK K (fun j => if j = i then lr else ls j)) (sK X (fun j => if j = i then lr else ls j))) := hT7.congr (fun j hj => by
          by_cases e : j = i
          · subst e; simp only [if_true]
          · simp only [e, if_false]) (fun j hj c' hc' => by
          unfold sK
          by_cases e : j = i
          · subst e; simp only [if_true]; exact ⟨trivial, trivial⟩
          · simp only [e, if_false]; exact ⟨trivial, trivial⟩)
      have HB7 : Hid (Below w.heap.size w w7) := HB2.out.trans hB7
      have HLs' : Hid (∀ r, r < i + 1 → SortI (K r) (L r) ((fun j => if j = i then lr else ls j) r)) := show ∀ r, _ from fun r hr => by
        by_cases e : r = i
        · subst e; simp only [if_true]; exact HSR.out
        · simp only [e, if_false]; exact HLs.out r (by omega)
      clear hT7 hB7 hown7 hgrow7 hat7 hlt7 HO2 HB2 HP2
      go_wp2
      go_roundw
      case rel => exact ⟨i + 1, _, _, by omega, by go_num, HLs', HT7, HB7⟩
      case measure => simp [intOf]; omega
    · obtain rfl : i = n := by omega
      clear hti ht0 ht1 ht2
      have HR0 : Hid ((wr.alloc (.cells (madeCells #[.int .i64 0] i) 3)).rowIs wr.heap.size 3 i (fun _ => .int .i64 ((0 : Nat) : Int))) := (row_made wr #[.int .i64 0] i 3).congr (fun j _ => by simp [Nat.mod_one])
      obtain ⟨ws, hws⟩ : ∃ ws, ws = wr := ⟨_, rfl⟩
      rw [← hws] at HO HB HR0
      have hsw : w.heap.size ≤ ws.heap.size := HB.out.size
      have HSV : Hid (∀ r, r < i → ∀ c, c < L r → isV i (sK X ls r c) = true) := show ∀ r, _ from fun r hr c hc => HG.out r hr _ ((HLs.out r hr).lt hc)
      have HGs : Hid (Good i L (sK X ls)) := HSV
      go_wp2
      rw [← hws]
      clear hws
      go_loopw [6] (fun cv wq => ∃ (g : Nat) (cl : Nat → Nat), cv = .slice (some ⟨g, 0, none⟩) i i ∧ Hid (w.heap.size ≤ g) ∧ Hid (wq.rowIs g 3 i (fun j => .int .i64 (cl j : Nat))) ∧ Hid (OnWay i L (sK K ls) (sK X ls) cl) ∧ Hid (Below ws.heap.size ws wq)) (fun cv wq => i - reps i (clsIn wq cv))
      case atStart => exact ⟨ws.heap.size, fun _ => 0, rfl, hsw, HR0, ⟨fun _ _ => Nat.zero_le _, fun _ _ => rfl, fun _ _ _ _ _ => rfl⟩, (Below.refl _ _).alloc (Nat.le_refl _) _⟩
      case round =>
        obtain ⟨g, cl, rfl, HGe, HCr, HOw, HBq⟩ := hrel
        clear HR0
        obtain ⟨wq, hwq⟩ : ∃ wq, wq = wr := ⟨_, rfl⟩
        rw [← hwq] at HCr HBq
        obtain ⟨wn, hwn⟩ : ∃ wn, wn = wq.alloc (.cells (madeCells #[.int .i64 0] i) 3) := ⟨_, rfl⟩
        have hbn : Below wq.heap.size wq wn := by rw [hwn]; exact (Below.refl _ _).alloc (Nat.le_refl _) _
        have HRn : Hid (wn.rowIs wq.heap.size 3 i (fun _ => .int .i64 ((0 : Nat) : Int))) := by rw [hwn]; exact (row_made wq #[.int .i64 0] i 3).congr (fun j _ => by simp [Nat.mod_one])
        have HCn : Hid (wn.rowIs g 3 i (fun j => .int .i64 (cl j : Nat))) := HCr.out.of_block (hbn.block _ HCr.out.lt)
        have HBn : Hid (Below ws.heap.size ws wn) := grw HBq.out hbn
        have hgl : g < wq.heap.size := HCr.out.lt
        have hnl : ws.heap.size ≤ wq.heap.size := HBq.out.size
        obtain ⟨nb, hnb⟩ : ∃ nb, wq.heap.size = nb := ⟨_, rfl⟩
        have HOn : Hid (OTab wn w.heap.size (.slice sa i sc) i PV L (sK K ls) (sK X ls)) := HO.out.below HBn.out
        have HNB : Hid (∀ v : Value, (∃ t xs n s, ws.ownsRow w.heap.size t s v n xs) → v.ownBlock ≠ some nb) := show ∀ v, _ from fun v ⟨t, xs, n, s, h⟩ e => by
          obtain ⟨_, _, _, hk⟩ := owns_form h
          have := (hk _ e).2
          omega
        clear hbn
        go_wp2
        rw [← hwq]
        rw [← hwn]
        rw [hnb] at HRn hgl hnl ⊢
        have HWQ : Hid (wq = wr) := hwq
        clear hwn hwq hnb
        go_loopw [8, 31] (fun mv ii wi => ∃ (j : Nat) (nx : Nat → Nat), j ≤ i ∧ ii = .int .i64 j ∧ Hid (MoreIs mv j nx cl) ∧ Hid (Round j L (sK K ls) (sK X ls) cl nx) ∧ Hid (wi.rowIs nb 3 i (fun q => if q < j then .int .i64 (nx q : Nat) else .int .i64 ((0 : Nat) : Int))) ∧ Hid (Only (fun k => k = nb) wn wi)) (fun _ ii _ => i - (intOf ii).toNat)
        case atStart => exact ⟨0, fun _ => 0, Nat.zero_le _, rfl, ⟨false, rfl, by simp⟩, ⟨fun q hq => absurd hq (Nat.not_lt_zero _), fun q hq => absurd hq (Nat.not_lt_zero _), fun q hq => absurd hq (Nat.not_lt_zero _)⟩, HRn.out.congr (fun q _ => by rw [if_neg (by omega)]), Only.refl _ _⟩
        case round =>
          obtain ⟨j, nx, hj, rfl, HMo, HRo, HRw, HOl⟩ := hrel
          obtain ⟨bm, rfl, hbm⟩ := HMo.out
          have HBM : Hid (bm = true ↔ ∃ q, q < j ∧ nx q ≠ cl q) := hbm
          clear HMo hbm
          by_cases hlt : j < i
          · have n0 := HRw.out.cell hlt
            rw [if_neg (by omega)] at n0
            have nz := HRw.out.frozen
            have hbj : (0 : Int) ≤ (j : Int) ∧ (j : Int) < (i : Int) := by omega
            have hwj : IntKind.i64.wrap ((j : Int) - 1) = (j : Int) - 1 := by rw [IntKind.wrap_i64]; omega
            have HR1 : Hid ((wr.setCell ⟨nb, j, none⟩ (.int .i64 (j : Nat))).rowIs nb 3 i (fun q => if q = j then .int .i64 (j : Nat) else if q < j then .int .i64 (nx q : Nat) else .int .i64 ((0 : Nat) : Int))) := (HRw.out.set j _).congr (fun q _ => rfl)
            have HO1 : Hid (Only (fun k => k = nb) wn (wr.setCell ⟨nb, j, none⟩ (.int .i64 (j : Nat)))) := HOl.out.set rfl _
            clear HRw HOl
            go_wp2
            clear n0 nz
            go_loopw [10] (fun kk wk => AskIs L (sK K ls) (sK X ls) cl nx i nb j wn kk wk) (fun kk _ => (intOf kk + 1).toNat)
            case atStart => exact ⟨j, j, _, rfl, rfl, Nat.le_refl _, Found.start j, HR1, HO1⟩
            case round =>
              obtain ⟨k, v, z, rfl, HZk, hkj, HF, HRk, HOk⟩ := hrel
              clear HR1 HO1
              have HCk : Hid (wr.rowIs g 3 i (fun q => .int .i64 (cl q : Nat))) := HOk.out.rowIs HCn.out (by omega)
              have cj := HCk.out.cell hlt
              by_cases hk0 : k = 0
              · obtain rfl : z = -1 := by have := HZk.out; omega
                subst hk0
                have nj := HRk.out.cell hlt
                rw [if_pos rfl] at nj
                have HRg : Hid (Round (j + 1) L (sK K ls) (sK X ls) cl (fun q => if q = j then v else nx q)) := HRo.out.grow HF.out
                have HRx : Hid (wr.rowIs nb 3 i (fun q => if q < j + 1 then .int .i64 ((if q = j then v else nx q : Nat) : Int) else .int .i64 ((0 : Nat) : Int))) := HRk.out.congr (fun q _ => by
                  by_cases e : q = j
                  · subst e; rw [if_pos rfl, if_pos (by omega), if_pos rfl]
                  · rw [if_neg e, if_neg e]
                    by_cases h' : q < j
                    · rw [if_pos h', if_pos (by omega)]
                    · rw [if_neg h', if_neg (by omega)])
                by_cases hv : v = cl j
                · have hnv : ((v : Int) != (cl j : Int)) = false := by rw [hv]; simp
                  have HM' : Hid (MoreIs (.bool bm) (j + 1) (fun q => if q = j then v else nx q) cl) := ⟨bm, rfl, HBM.out.trans ⟨fun ⟨q, h1, h2⟩ => ⟨q, by omega, by show (if q = j then v else nx q) ≠ cl q; rw [if_neg (by omega)]; exact h2⟩, fun ⟨q, h1, h2⟩ => by
                    by_cases e : q = j
                    · subst e; have h3 : (if q = q then v else nx q) ≠ cl q := h2; rw [if_pos rfl] at h3; exact absurd hv h3
                    · have h3 : (if q = j then v else nx q) ≠ cl q := h2; rw [if_neg e] at h3; exact ⟨q, by omega, h3⟩⟩⟩
                  clear hv
                  go_wp2
                  go_quiet (fail)
                  go_wp2
                  go_roundw
                  case rel => exact ⟨j + 1, _, by omega, by go_num, HM', HRg, HRx.out.of_block rfl, HOk.out.trans (Only.below (below_drewN (Below.refl _ _) nq))⟩
                  case measure => simp [intOf]; omega
                · have hnv : ((v : Int) != (cl j : Int)) = true := by simp; omega
                  have HM' : Hid (MoreIs (.bool true) (j + 1) (fun q => if q = j then v else nx q) cl) := ⟨true, rfl, ⟨fun _ => ⟨j, by omega, by show (if j = j then v else nx j) ≠ cl j; rw [if_pos rfl]; exact hv⟩, fun _ => rfl⟩⟩
                  clear hv
                  go_wp2
                  go_quiet (fail)
                  go_wp2
                  go_roundw
                  case rel => exact ⟨j + 1, _, by omega, by go_num, HM', HRg, HRx.out.of_block rfl, HOk.out.trans (Only.below (below_drewN (Below.refl _ _) nq))⟩
                  case measure => simp [intOf]; omega
              · obtain ⟨m, rfl⟩ : ∃ m, k = m + 1 := ⟨k - 1, by omega⟩
                obtain rfl : z = (m : Int) := by have := HZk.out; omega
                have hmj : m < j := by omega
                have cm := HCk.out.cell (i := m) (by omega)
                have hbm : (0 : Int) ≤ (m : Int) ∧ (m : Int) < (i : Int) := by omega
                have hwm : IntKind.i64.wrap ((m : Int) - 1) = (m : Int) - 1 := by rw [IntKind.wrap_i64]; omega
                by_cases he : cl m = cl j
                · have hbe : ((cl m : Int) == (cl j : Int)) = true := by rw [he]; simp
                  have HE : Hid (cl m = cl j) := he
                  clear he
                  have HOt : Hid (OTab wr w.heap.size (.slice sa i sc) i PV L (sK K ls) (sK X ls)) := HOn.out.onlyB HOk.out (fun g' hg' e => HNB.out _ ⟨_, _, _, _, HO.out.own⟩ (by rw [hg', e])) (fun q hq g' hg' e => HNB.out _ ⟨_, _, _, _, HO.out.rows q hq⟩ (by rw [hg', e]))
                  have hTt := HOt.out.tabs.2
                  obtain ⟨sg, sc', hsv, _⟩ := owns_cell HOt.out.own (k := m) (y := PV m) (by rw [List.getElem?_map, List.getElem?_range (by omega)]; rfl)
                  cases hsv
                  have sm : wr.cell? ⟨sg, m, none⟩ = some (.slice (slA (PV m)) (L m) (slC (PV m))) := by
                    have := hTt.tab m (by omega)
                    rw [Nat.zero_add] at this
                    exact this
                  have sj : wr.cell? ⟨sg, j, none⟩ = some (.slice (slA (PV j)) (L j) (slC (PV j))) := by
                    have := hTt.tab j hlt
                    rw [Nat.zero_add] at this
                    exact this
                  have hlook := l3looks_any (slA (PV m)) (slA (PV j)) (L m) (slC (PV m)) (slB (PV m)) 0 (L j) (slC (PV j)) (slB (PV j)) 0 (sK K ls m) (sK X ls m) (sK K ls j) (sK X ls j) i g i cl wr.drew (by have := HL.out m (by omega); omega) (by have := HL.out j hlt; omega) (HSV.out m (by omega)) (HSV.out j hlt) ((hTt.row m (by omega)).below (Below.refl _ _).drew) ((hTt.row j hlt).below (Below.refl _ _).drew) (show ClsAt _ _ _ _ from fun q hq => HCk.out.cell hq)
                  obtain ⟨am, ham⟩ : ∃ a, slA (PV m) = a := ⟨_, rfl⟩
                  obtain ⟨aj, haj⟩ : ∃ a, slA (PV j) = a := ⟨_, rfl⟩
                  obtain ⟨km, hkm⟩ : ∃ a, slC (PV m) = a := ⟨_, rfl⟩
                  obtain ⟨kj, hkj'⟩ : ∃ a, slC (PV j) = a := ⟨_, rfl⟩
                  rw [ham, hkm] at sm
                  rw [haj, hkj'] at sj
                  rw [ham, haj, hkm, hkj'] at hlook
                  replace cm := cellB cm
                  replace cj := cellB cj
                  replace sm := cellB sm
                  replace sj := cellB sj
                  clear ham haj hkm hkj' hTt HOt
                  go_wp2
                  go_region_held3 (fun w' => Below wr.heap.size wr w')
                    (first | exact grw (Below.drew (Below.refl _ _)) hb5 | exact (Below.refl _ _).drew)
                    ((go_at_call 83; refine hlook.mono ?_; rintro e w5 ⟨⟨b, rfl, hb⟩, hb5⟩))
                  rename_i hS
                  have HB5 : Hid (Below wr.heap.size wr w5) := hS
                  have HBb : Hid (b = true ↔ Looks L (sK K ls) (sK X ls) cl m j) := hb.trans look2_iff
                  have HR5 : Hid (w5.rowIs nb 3 i (fun q => if q = j then .int .i64 (v : Nat) else if q < j then .int .i64 (nx q : Nat) else .int .i64 ((0 : Nat) : Int))) := HRk.out.of_block (HB5.out.block _ HRk.out.lt)
                  have HO5 : Hid (Only (fun k => k = nb) wn w5) := HOk.out.trans (Only.below HB5.out)
                  clear hS hb hb5 cm cj sm sj hlook HRk HOk
                  cases b
                  · have HF' : Hid (Found L (sK K ls) (sK X ls) cl nx j m v) := HF.out.no (fun h => by have := HBb.out.2 h.2; cases this)
                    go_wp2
                    go_roundw
                    case rel => exact ⟨m, v, _, rfl, rfl, by omega, HF', HR5, HO5⟩
                    case measure => simp [intOf] <;> omega
                  · have HF' : Hid (Found L (sK K ls) (sK X ls) cl nx j m (nx m)) := Found.yes hmj ⟨HE.out, HBb.out.1 rfl⟩
                    have nm := HR5.out.cell (i := m) (by omega)
                    rw [if_neg (by omega), if_pos hmj] at nm
                    have nj := HR5.out.cell hlt
                    have nz := HR5.out.frozen
                    have HR6 : Hid ((w5.setCell ⟨nb, j, none⟩ (.int .i64 (nx m : Nat))).rowIs nb 3 i (fun q => if q = j then .int .i64 (nx m : Nat) else if q < j then .int .i64 (nx q : Nat) else .int .i64 ((0 : Nat) : Int))) := (HR5.out.set j _).congr (fun q _ => by
                      by_cases e : q = j
                      · rw [if_pos e, if_pos e]
                      · rw [if_neg e, if_neg e, if_neg e])
                    have HO6 : Hid (Only (fun k => k = nb) wn (w5.setCell ⟨nb, j, none⟩ (.int .i64 (nx m : Nat)))) := HO5.out.set rfl _
                    go_wp2
                    go_roundw
                    case rel => exact ⟨m, nx m, _, rfl, rfl, by omega, HF', HR6, HO6⟩
                    case measure => simp [intOf] <;> omega
                · have hbe : ((cl m : Int) == (cl j : Int)) = false := by rw [beq_nat]; exact beq_false_of_ne he
                  have HF' : Hid (Found L (sK K ls) (sK X ls) cl nx j m v) := HF.out.no (fun h => he h.1)
                  clear he
                  go_wp2
                  go_quiet (fail)
                  go_wp2
                  go_roundw
                  case rel => exact ⟨m, v, _, rfl, rfl, by omega, HF', HRk.out.of_block rfl, HOk.out.trans (Only.below (below_drewN (Below.refl _ _) nq))⟩
                  case measure => simp [intOf]
          · obtain rfl : j = i := by omega
            have HRf : Hid (wr.rowIs nb 3 j (fun q => .int .i64 (nx q : Nat))) := HRw.out.congr (fun q hq => by rw [if_pos hq])
            have HBf : Hid (Below ws.heap.size ws wr) := HBn.out.trans (HOl.out.toBelow (fun k hk => by omega) HBn.out.size)
            cases bm
            · have HEq : Hid (∀ q, q < j → nx q = cl q) := show ∀ q, _ from fun q hq => Classical.byContradiction fun hne => by
                have := HBM.out.2 ⟨q, hq, hne⟩
                cases this
              go_wp2
              go_ret
              refine ⟨⟨nb, nx, ls, rfl, by omega, HRf.out, HLs.out, ?_⟩, grw HB.out HBf.out⟩
              exact (HRo.out.done HOw.out HEq.out).congr HGs.out (fun q hq => (HEq.out q hq).symm)
            · obtain ⟨q, hq, hne⟩ := HBM.out.1 rfl
              have HMr : Hid (reps j cl < reps j nx) := HRo.out.more HOw.out hq hne
              have HOw' : Hid (OnWay j L (sK K ls) (sK X ls) nx) := HRo.out.next HOw.out
              have h1 : Hid (reps j (clsIn wr (.slice (some ⟨nb, 0, none⟩) j j)) = reps j nx) := reps_congr (fun q hq => clsIn_row HRf.out hq)
              have h2 : Hid (reps j (clsIn wq (.slice (some ⟨g, 0, none⟩) j j)) = reps j cl) := reps_congr (fun q hq => clsIn_row HCr.out hq)
              clear hne hq
              go_wp2
              go_roundw
              case rel => exact ⟨nb, nx, rfl, show w.heap.size ≤ nb by omega, HRf, HOw', HBf⟩
              case measure =>
                have h3 := HMr.out
                have h4 := reps_le j nx
                rw [HWQ.out] at h2
                rw [h1.out, h2.out]
                omega

end Go.Proofs.YtgflalfiopnmnaaGreatDoor

namespace Go.Proofs.YtgflalfiopnmnaaGreatDoor
open Go.RowKit Vl

theorem IsCls.agree {n : Nat} {L L' : Nat → Nat} {K X K' X' : Nat → Nat → V} {f : Nat → Nat} (h : IsCls n L K X f) (hL : ∀ j, j < n → L j = L' j) (hK : ∀ j, j < n → K j = K' j) (hX : ∀ j, j < n → X j = X' j) : IsCls n L' K' X' f := by
  refine ⟨h.low, h.idem, fun i j hi hj e => ?_, fun R hR i j hr => h.wide R (fun i j hr => ?_) i j hr⟩
  · have := h.bis i j hi hj e
    refine ⟨by rw [← hL i hi, ← hL j hj]; exact this.len, fun c hc => ?_⟩
    rw [← hK i hi, ← hK j hj, ← hX i hi, ← hX j hj]
    exact this.all c (by rw [hL i hi]; exact hc)
  · have h2 := hR i j hr
    have hi := h2.1
    have hj := h2.2.1
    rw [hL i hi, hL j hj, hK i hi, hK j hj, hX i hi, hX j hj]
    exact h2

/-- The classes of one graph. -/
def ClsRes (w w' : World) (e : Ending) (n : Nat) (u : V) (L : Nat → Nat) (K X : Nat → Nat → V) : Prop :=
  (OkG n u L K X ∧ ∃ (g : Nat) (f : Nat → Nat) (ls : Nat → List Nat), e = .returned (.slice (some ⟨g, 0, none⟩) n n) ∧ w.heap.size ≤ g ∧ w'.rowIs g 3 n (fun i => .int .i64 (f i : Nat)) ∧ (∀ r, r < n → SortI (K r) (L r) (ls r)) ∧ IsCls n L (sK K ls) (sK X ls) f) ∨ (¬ OkG n u L K X ∧ e = .returned (.slice none 0 0))

end Go.Proofs.YtgflalfiopnmnaaGreatDoor

namespace Go.Proofs.YtgflalfiopnmnaaGreatDoor
open Go.RowKit Vl

/-- Numbers in a row. -/
def IRow (w : World) (A : Option Addr) (L B : Nat) (f : Nat → Int) : Prop := ∀ k, k < L → A = some ⟨B, 0, none⟩ ∧ w.cell? ⟨B, k, none⟩ = some (.int .i64 (f k))
theorem IRow.below {w w' : World} {A : Option Addr} {L B : Nat} {f : Nat → Int} (h : IRow w A L B f) (hb : Below w.heap.size w w') : IRow w' A L B f := fun k hk => ⟨(h k hk).1, (hb.cell (World.block_lt_of_cell? _ _ (h k hk).2)).trans (h k hk).2⟩

theorem if_step2 {α : Type} (i j : Nat) (x : α) (f g : Nat → α) (e : x = f j) : (if i = j then x else if i < j then f i else g i) = if i < j + 1 then f i else g i := by
  by_cases h : i = j
  · subst h; simp [e]
  · rw [if_neg h]
    by_cases hlt : i < j
    · rw [if_pos hlt, if_pos (by omega)]
    · rw [if_neg hlt, if_neg (by omega)]

/-- The first j cells of a row are marked, from k on. -/
def marks (k : Int) (j : Nat) (f : Nat → Value) : Nat → Value := fun c => if c < j then .int .i64 (k + c) else f c

theorem marks_set {w : World} {B t cap : Nat} {k x : Int} {j : Nat} {f : Nat → Value} (h : w.rowIs B t cap (marks k j f)) (hx : x = k + j) : (w.setCell ⟨B, j, none⟩ (.int .i64 x)).rowIs B t cap (marks k (j + 1) f) := by
  subst hx
  exact (h.set j _).congr (fun i _ => if_step2 i j _ (fun c => Value.int .i64 (k + c)) f rfl)
theorem marks_zero {w : World} {B t cap : Nat} {k : Int} {f : Nat → Value} (h : w.rowIs B t cap f) : w.rowIs B t cap (marks k 0 f) := h.congr (fun i _ => by simp [marks])
theorem marks_cell {w : World} {B t cap : Nat} {k : Int} {j : Nat} {f : Nat → Value} (h : w.rowIs B t cap (marks k j f)) (hj : j < cap) : w.cell? ⟨B, j, none⟩ = some (f j) := by
  rw [h.cell hj]; simp [marks]

/-- A call's answer is a row of numbers in memory of its own. -/
def IntRes (w w' : World) (e : Ending) (N : Nat) (F : Nat → Nat) : Prop :=
  ∃ (A : Option Addr) (g : Nat), e = .returned (.slice A N N) ∧ (0 < N → A = some ⟨g, 0, none⟩) ∧ (0 < N → w.heap.size ≤ g ∧ w'.rowIs g 3 N (fun i => .int .i64 (F i : Nat)))

/-- The classes, told. -/
def ClsAre (n : Nat) (L : Nat → Nat) (K X : Nat → Nat → V) (f : Nat → Nat) : Prop := ∃ ls : Nat → List Nat, (∀ r, r < n → SortI (K r) (L r) (ls r)) ∧ IsCls n L (sK K ls) (sK X ls) f
theorem ClsAre.uniq {n : Nat} {u : V} {L : Nat → Nat} {K X : Nat → Nat → V} {f f' : Nat → Nat} (hok : OkG n u L K X) (h : ClsAre n L K X f) (h' : ClsAre n L K X f') {i : Nat} (hi : i < n) : f i = f' i := by
  obtain ⟨ls, h1, h2⟩ := h
  obtain ⟨ls', k1, k2⟩ := h'
  have e : ∀ r, r < n → ls' r = ls r := fun r hr => SortI.one (hok.all r hr) (k1 r hr) (h1 r hr)
  have k3 := k2.agree (L' := L) (K' := sK K ls) (X' := sK X ls) (fun _ _ => rfl) (fun j hj => by unfold sK; rw [e j hj]) (fun j hj => by unfold sK; rw [e j hj])
  refine IsCls.uniq (fun r hr c hc => ?_) h2 k3 hi
  exact good_of hok r hr _ ((h1 r hr).lt hc)

open Classical in
theorem cls_fixed (n : Nat) (u : V) (L : Nat → Nat) (K X : Nat → Nat → V) : ∃ (N : Nat) (F : Nat → Nat), N ≤ 200 ∧ ∀ w w' e, ClsRes w w' e n u L K X → IntRes w w' e N F := by
  by_cases hok : OkG n u L K X
  · refine ⟨n, Classical.epsilon (fun f => ClsAre n L K X f), hok.len, fun w w' e h => ?_⟩
    rcases h with ⟨_, g, f, ls, rfl, h1, h2, h3, h4⟩ | ⟨hno, _⟩
    · have hf : ClsAre n L K X f := ⟨ls, h3, h4⟩
      have he := Classical.epsilon_spec (p := fun f => ClsAre n L K X f) ⟨f, hf⟩
      exact ⟨_, g, rfl, fun _ => rfl, fun _ => ⟨h1, h2.congr (fun i hi => by rw [hf.uniq hok he hi])⟩⟩
    · exact absurd hok hno
  · refine ⟨0, fun _ => 0, Nat.zero_le _, fun w w' e h => ?_⟩
    rcases h with ⟨h, _⟩ | ⟨_, rfl⟩
    · exact absurd h hok
    · exact ⟨none, 0, rfl, fun h => by omega, fun h => by omega⟩

end Go.Proofs.YtgflalfiopnmnaaGreatDoor

namespace Go.Proofs.YtgflalfiopnmnaaGreatDoor
open Go.RowKit Vl

/-- The value itself, or the one table that stands for its class. -/
def fstV (f : Nat → Nat) (v : V) : V := if v.k = 4 then ⟨v.k, v.n, v.s, (f v.a.toNat : Nat)⟩ else v

set_option maxHeartbeats 2000000 in
set_option maxRecDepth 100000 in
/-- '(classed).first'. -/
theorem first_any (N q rc vc tb cb : Nat) (T M L : Nat → Nat) (K X : Nat → Nat → V) (f : Nat → Nat) (ra va : Option Addr) (v : V) (w : World) (hv : isV N v = true) (hN : N ≤ 400) (HF : Hid (∀ i, i < N → f i ≤ i)) (hva : 0 < N → va = some ⟨tb, 0, none⟩)
    (HR : Hid (∀ j, j < N → w.cell? ⟨tb, j, none⟩ = some (ptr (T j)))) (HC : Hid (∀ j, j < N → w.cell? ⟨cb, j, none⟩ = some (.int .i64 (f j : Nat)))) (HT : Hid (Tbs w N T M (fun j => (j : Nat)) L K X)) :
    Calls Tryz.prog 36 #[.agg #[.slice ra q rc, .slice va N vc, .slice (some ⟨cb, 0, none⟩) N N], ifv T v] w fun e w' => e = .returned (ifv T (fstV f v)) ∧ Below w.heap.size w w' := by
  obtain ⟨w0, hw0⟩ : ∃ w0, w0 = w.alloc (.cells #[.slice ra q rc, .slice va N vc, .slice (some ⟨cb, 0, none⟩) N N] 95) := ⟨_, rfl⟩
  have HB0 : Hid (Below w.heap.size w w0) := by rw [hw0]; exact (Below.refl _ _).alloc (Nat.le_refl _) _
  have H0 : Hid (w0.heap[w.heap.size]? = some (.cells #[.slice ra q rc, .slice va N vc, .slice (some ⟨cb, 0, none⟩) N N] 95 (0, 0))) := by rw [hw0]; exact heap_alloc_new _ _
  by_cases h4 : v.k = 4
  · obtain ⟨a0, a1⟩ := isV_tab hv h4
    obtain ⟨a, ha⟩ : ∃ a : Nat, v.a.toNat = a := ⟨_, rfl⟩
    have haN : a < N := by omega
    have hE : Hid (ifv T (fstV f v) = .iface 107 (ptr (T (f a)))) := by
      unfold fstV
      rw [if_pos h4]
      show ifv T ⟨v.k, v.n, v.s, (f v.a.toNat : Nat)⟩ = _
      rw [ifv_tab (show (⟨v.k, v.n, v.s, (f v.a.toNat : Nat)⟩ : V).k = 4 from h4), ha]
      rfl
    rw [hE.out, ifv_tab h4, ha]
    obtain rfl := hva (by omega)
    have hay := assert_yes (T a) w0
    obtain ⟨c0, c1, c2, cz⟩ := three_at H0.out
    have hfa := HF.out a haN
    have t0 : w0.cell? ⟨T a, 0, none⟩ = some (.int .i64 (a : Nat)) := (HB0.out.cell (p := ⟨T a, 0, none⟩) (HT.out.lt haN)).trans (HT.out.at0 a haN)
    have d0 : w0.cell? ⟨cb, a, none⟩ = some (.int .i64 (f a : Nat)) := (HB0.out.cell (World.block_lt_of_cell? _ _ (HC.out a haN))).trans (HC.out a haN)
    have e0 : w0.cell? ⟨tb, f a, none⟩ = some (ptr (T (f a))) := (HB0.out.cell (World.block_lt_of_cell? _ _ (HR.out (f a) (by omega)))).trans (HR.out (f a) (by omega))
    have ib : (0 : Int) ≤ (a : Int) ∧ (a : Int) < (N : Int) := by omega
    have jb : (0 : Int) ≤ (f a : Int) ∧ (f a : Int) < (N : Int) := by omega
    obtain ⟨fa, hfa'⟩ : ∃ fa, f a = fa := ⟨_, rfl⟩
    rw [hfa'] at d0 e0 jb hfa hE ⊢
    rw [hw0] at hay c0 c1 c2 t0 d0 e0
    go_enter Tryz.func36, Tryz.ntmps36
    go_wp2_with fail
    go_quiet (fail)
    go_wp2
    go_ret
    rw [← hw0]
    exact ⟨rfl, below_drewN HB0.out _⟩
  · have hE : Hid (fstV f v = v) := by unfold fstV; rw [if_neg h4]; rfl
    rw [hE.out]
    have hno := assert_no hv h4 T w0
    obtain ⟨xt, xy, hxv⟩ := ifv_form T v
    have HXV : Hid (ifv T v = .iface xt xy) := hxv
    rw [hxv] at hno ⊢
    rw [hw0] at hno
    clear hxv
    go_enter Tryz.func36, Tryz.ntmps36
    go_wp2
    go_ret
    rw [← hw0]
    exact ⟨rfl, HB0.out⟩

end Go.Proofs.YtgflalfiopnmnaaGreatDoor

namespace Go.Proofs.YtgflalfiopnmnaaGreatDoor
open Go.RowKit Vl

theorem eq_truth (a b : Bool) (w : World) : (binOp .eql 54 (.iface 232 (.agg #[.bool a])) (.iface 232 (.agg #[.bool b]))).run Tryz.prog w = .ok (.bool (a == b)) w := by
  cases a <;> cases b <;> kernel_rfl
theorem eq_whole (a b : Int) (w : World) : (binOp .eql 54 (.iface 234 (.agg #[.int .i64 a])) (.iface 234 (.agg #[.int .i64 b]))).run Tryz.prog w = .ok (.bool (a == b)) w := by
  have h1 : (binOp .eql 54 (.iface 234 (.agg #[.int .i64 a])) (.iface 234 (.agg #[.int .i64 b]))).run Tryz.prog w = (binOp .eql 234 (.agg #[.int .i64 a]) (.agg #[.int .i64 b])).run Tryz.prog w := by kernel_rfl
  rw [h1]
  go_simp
  by_cases h : a = b <;> simp [h]
theorem eq_words (a b : ByteArray) (w : World) : (binOp .eql 54 (.iface 236 (.agg #[.string a])) (.iface 236 (.agg #[.string b]))).run Tryz.prog w = .ok (.bool (a.toList == b.toList)) w := by
  have h1 : (binOp .eql 54 (.iface 236 (.agg #[.string a])) (.iface 236 (.agg #[.string b]))).run Tryz.prog w = (binOp .eql 236 (.agg #[.string a]) (.agg #[.string b])).run Tryz.prog w := by kernel_rfl
  rw [h1]
  go_simp
  by_cases h : a.toList = b.toList <;> simp [h]
theorem Tryz.isFace : ((Tryz.prog.underlying 54).map fun d => match d with | .interface _ => true | _ => false) = some true := by kernel_rfl
theorem Tryz.isPtr : ((Tryz.prog.underlying 107).map fun d => match d with | .pointer e => some e | _ => none) = some (some 121) := by kernel_rfl
theorem Tryz.cmpPtr : (Tryz.prog.info? 107).map (fun i => i.comparable) = some true := by kernel_rfl
theorem Tryz.szTab : (Tryz.prog.info? 121).map (fun i => i.size) = some 3 := by kernel_rfl
theorem eq_tab (a b : Nat) (w : World) (ha : ∃ ca ta, w.heap[a]? = some (.cells ca ta (0, 0))) (hb : ∃ cb tb, w.heap[b]? = some (.cells cb tb (0, 0))) : (binOp .eql 54 (.iface 107 (ptr a)) (.iface 107 (ptr b))).run Tryz.prog w = .ok (.bool (a == b)) w := by
  obtain ⟨ca, ta, ha⟩ := ha
  obtain ⟨cb, tb, hb⟩ := hb
  obtain ⟨ms, hi⟩ : ∃ ms, Tryz.prog.underlying 54 = some (.interface ms) := by
    have h := Tryz.isFace
    cases e : Tryz.prog.underlying 54 with
    | none => rw [e] at h; cases h
    | some d => rw [e] at h; cases d <;> first | exact ⟨_, rfl⟩ | cases h
  have hp : Tryz.prog.underlying 107 = some (.pointer 121) := by
    have h := Tryz.isPtr
    cases e : Tryz.prog.underlying 107 with
    | none => rw [e] at h; cases h
    | some d => rw [e] at h; cases d <;> first | (cases h; rfl) | cases h
  obtain ⟨i, hinfo, hc⟩ : ∃ i, Tryz.prog.info? 107 = some i ∧ i.comparable = true := by
    have h := Tryz.cmpPtr
    cases e : Tryz.prog.info? 107 with
    | none => rw [e] at h; cases h
    | some d => rw [e] at h; exact ⟨d, rfl, by simpa using h⟩
  obtain ⟨j, hj, hsz⟩ : ∃ j, Tryz.prog.info? 121 = some j ∧ j.size = 3 := by
    have h := Tryz.szTab
    cases e : Tryz.prog.info? 121 with
    | none => rw [e] at h; cases h
    | some d => rw [e] at h; exact ⟨d, rfl, by simpa using h⟩
  by_cases h : a = b
  · subst h
    have := run_eql_iface_ptr_same (P := Tryz.prog) w ⟨a, 0, none⟩ hi hp hinfo hc hj
    simpa using this
  · have := run_eql_iface_ptr_other (P := Tryz.prog) w (a := ⟨a, 0, none⟩) (b := ⟨b, 0, none⟩) hi hp hinfo hc hj (by omega) (fun e => h (by cases e; rfl)) ha hb
    have hf : (a == b) = false := by simpa using h
    rw [hf]
    exact this

theorem kinds {n : Nat} {v : V} (h : isV n v = true) : v.k = 0 ∨ v.k = 1 ∨ v.k = 2 ∨ v.k = 3 ∨ v.k = 4 := by
  by_cases k0 : v.k = 0
  · exact Or.inl k0
  by_cases k1 : v.k = 1
  · exact Or.inr (Or.inl k1)
  by_cases k2 : v.k = 2
  · exact Or.inr (Or.inr (Or.inl k2))
  by_cases k3 : v.k = 3
  · exact Or.inr (Or.inr (Or.inr (Or.inl k3)))
  by_cases k4 : v.k = 4
  · exact Or.inr (Or.inr (Or.inr (Or.inr k4)))
  · simp [isV, k0, k1, k2, k3, k4] at h

/-- Values against one another. -/
theorem eql_ifv (T : Nat → Nat) {n : Nat} {x y : V} (hx : isV n x = true) (hy : isV n y = true) (w : World) (hT : ∀ j, j < n → ∃ cs t, w.heap[T j]? = some (.cells cs t (0, 0))) :
    (binOp .eql 54 (ifv T x) (ifv T y)).run Tryz.prog w = .ok (.bool (alike T x y)) w := by
  have kx := kinds hx
  have ky := kinds hy
  have tx := fun h4 => isV_tab hx h4
  have ty := fun h4 => isV_tab hy h4
  obtain ⟨k, m, s, a⟩ := x
  obtain ⟨k', m', s', a'⟩ := y
  simp only at kx ky tx ty
  by_cases hk : k = k'
  case neg => rcases kx with rfl | rfl | rfl | rfl | rfl <;> rcases ky with rfl | rfl | rfl | rfl | rfl <;> first | exact absurd rfl hk | (show _ = _; kernel_rfl)
  subst hk
  rcases kx with rfl | rfl | rfl | rfl | rfl
  · simp only [isV, if_pos, Bool.and_eq_true, beq_iff_eq] at hx hy
    have e : alike T ⟨0, m, s, a⟩ ⟨0, m', s', a'⟩ = true := by simp [alike, eqV, hx.1, hx.2.1, hx.2.2, hy.1, hy.2.1, hy.2.2]
    rw [e]
    show _ = _
    kernel_rfl
  · have e := eq_truth (m == 1) (m' == 1) w
    have e2 : alike T ⟨1, m, s, a⟩ ⟨1, m', s', a'⟩ = ((m == 1) == (m' == 1)) := by
      simp [isV] at hx hy
      rcases hx.1 with rfl | rfl <;> rcases hy.1 with rfl | rfl <;> simp [alike, eqV, hx.2.1, hx.2.2, hy.2.1, hy.2.2]
    rw [e2]
    exact e
  · have e := eq_whole m m' w
    have e2 : alike T ⟨2, m, s, a⟩ ⟨2, m', s', a'⟩ = (m == m') := by
      simp [isV] at hx hy
      simp [alike, eqV, hx.1, hx.2, hy.1, hy.2]
    rw [e2]
    exact e
  · have e := eq_words s s' w
    have e2 : alike T ⟨3, m, s, a⟩ ⟨3, m', s', a'⟩ = (s.toList == s'.toList) := by
      simp [isV] at hx hy
      simp [alike, eqV, hx.1, hx.2.1, hy.1, hy.2.1]
    rw [e2]
    exact e
  · obtain ⟨a0, a1⟩ := tx rfl
    obtain ⟨b0, b1⟩ := ty rfl
    have e := eq_tab (T a.toNat) (T a'.toNat) w (hT _ (by omega)) (hT _ (by omega))
    have e2 : alike T ⟨4, m, s, a⟩ ⟨4, m', s', a'⟩ = (T a.toNat == T a'.toNat) := by simp [alike]
    rw [e2]
    exact e

end Go.Proofs.YtgflalfiopnmnaaGreatDoor

namespace Go.Proofs.YtgflalfiopnmnaaGreatDoor
open Go.RowKit Vl

/-- Two of them. -/
def two {α : Type} (a b : α) (q : Nat) : α := if q = 0 then a else b

theorem keepC {w w' w'' : World} {c ra : Nat} {a b d x y : Value} (h : (w'.cell? ⟨c, 0, none⟩ = some a ∧ w'.cell? ⟨c, 1, none⟩ = some b ∧ w'.cell? ⟨c, 2, none⟩ = some d ∧ w'.cell? ⟨ra, 0, none⟩ = some x ∧ w'.cell? ⟨ra, 1, none⟩ = some y) ∧ Hid (Below w.heap.size w w')) (hb : Below w'.heap.size w' w'') :
    (w''.cell? ⟨c, 0, none⟩ = some a ∧ w''.cell? ⟨c, 1, none⟩ = some b ∧ w''.cell? ⟨c, 2, none⟩ = some d ∧ w''.cell? ⟨ra, 0, none⟩ = some x ∧ w''.cell? ⟨ra, 1, none⟩ = some y) ∧ Hid (Below w.heap.size w w'') := by
  have k : ∀ {p v}, w'.cell? p = some v → w''.cell? p = some v := fun h => (hb.cell (World.block_lt_of_cell? _ _ h)).trans h
  exact ⟨⟨k h.1.1, k h.1.2.1, k h.1.2.2.1, k h.1.2.2.2.1, k h.1.2.2.2.2⟩, grw h.2.out hb⟩

theorem Cfd.root {G : GrS} {w w1 : World} {m : Nat} {T M L : Nat → Nat} {K X : Nat → Nat → V} {ls : Nat → List Nat} {f : Nat → Nat} {rv tv : Value} {cb : Nat} (hd : Cfd G w w1 m T M L K X ls f rv tv cb) {p : Nat} (hp : p < m) : isV (G.off m) (sh (G.off p) (G.U p)) = true := by
  have h1 := sh_isV (N := G.off p) (hd.cmb.ok p hp).root
  have h2 := G.off_le hp
  have h3 := isV_more (n := G.off m - (G.off p + G.n p)) h1
  rw [show G.off p + G.n p + (G.off m - (G.off p + G.n p)) = G.off m by omega] at h3
  exact h3

/-- 'first', of what classify gave. -/
theorem Cfd.first {G : GrS} {w w1 : World} {m rc vc : Nat} {T M L : Nat → Nat} {K X : Nat → Nat → V} {ls : Nat → List Nat} {f : Nat → Nat} {ra va : Option Addr} {cb : Nat} (hd : Cfd G w w1 m T M L K X ls f (.slice ra m rc) (.slice va (G.off m) vc) cb) (hN : G.off m ≤ 400) (x : V) (w' : World) (hx : isV (G.off m) x = true) (hb : Below w1.heap.size w1 w') :
    Calls Tryz.prog 36 #[.agg #[.slice ra m rc, .slice va (G.off m) vc, .slice (some ⟨cb, 0, none⟩) (G.off m) (G.off m)], ifv T x] w' fun e w'' => e = .returned (ifv T (fstV f x)) ∧ Below w'.heap.size w' w'' := by
  obtain ⟨tb, hva, hrow⟩ : ∃ tb, (0 < G.off m → va = some ⟨tb, 0, none⟩) ∧ ∀ j, j < G.off m → w1.cell? ⟨tb, j, none⟩ = some (ptr (T j)) := by
    by_cases h0 : 0 < G.off m
    · obtain ⟨g, cap, e, _⟩ := hd.tabs.form h0
      cases e
      refine ⟨g, fun _ => rfl, fun j hj => ?_⟩
      obtain ⟨g', cap', e', h⟩ := owns_cell hd.tabs (k := j) (y := ptr (T j)) (by simp [hj])
      cases e'
      exact h
    · exact ⟨0, fun h => absurd h h0, fun j hj => by omega⟩
  exact first_any (G.off m) m rc vc tb cb T M L (sK K ls) (sK X ls) f ra va x w' hx hN hd.is.low hva (show ∀ j, _ from fun j hj => (hb.cell (World.block_lt_of_cell? _ _ (hrow j hj))).trans (hrow j hj)) (show ∀ j, _ from fun j hj => (hb.cell (World.block_lt_of_cell? _ _ (hd.cls.cell hj))).trans (hd.cls.cell hj)) (hd.tbs.below hb)

end Go.Proofs.YtgflalfiopnmnaaGreatDoor

namespace Go.Proofs.YtgflalfiopnmnaaGreatDoor
open Go.RowKit Vl

theorem okT_more {N n L : Nat} {K X : Nat → V} (h : OkT N L K X) : OkT (N + n) L K X := ⟨h.len, fun c hc => ⟨(h.all c hc).key, isV_more (h.all c hc).val, (h.all c hc).some, (h.all c hc).once⟩⟩
theorem okT_sh {N n L : Nat} {K X : Nat → V} (h : OkT n L K X) : OkT (N + n) L K (fun c => sh N (X c)) := ⟨h.len, fun c hc => ⟨(h.all c hc).key, sh_isV (h.all c hc).val, by rw [sh_k]; exact (h.all c hc).some, (h.all c hc).once⟩⟩
theorem okT_join {n m : Nat} {u u' : V} {L L' : Nat → Nat} {K X K' X' : Nat → Nat → V} (h : OkG n u L K X) (h' : OkG m u' L' K' X') : ∀ r, r < n + m → OkT (n + m) (jn n L L' r) (jn n K K' r) (jn n X (fun j c => sh n (X' j c)) r) := fun r hr => by
  by_cases e : r < n
  · rw [jn_lt e, jn_lt e, jn_lt e]
    exact okT_more (h.all r e)
  · rw [jn_ge e, jn_ge e, jn_ge e]
    exact okT_sh (h'.all (r - n) (by omega))

theorem ClsAre.uniqT {n : Nat} {L : Nat → Nat} {K X : Nat → Nat → V} {f f' : Nat → Nat} (hok : ∀ r, r < n → OkT n (L r) (K r) (X r)) (h : ClsAre n L K X f) (h' : ClsAre n L K X f') {i : Nat} (hi : i < n) : f i = f' i := by
  obtain ⟨ls, h1, h2⟩ := h
  obtain ⟨ls', k1, k2⟩ := h'
  have e : ∀ r, r < n → ls' r = ls r := fun r hr => SortI.one (hok r hr) (k1 r hr) (h1 r hr)
  have k3 := k2.agree (L' := L) (K' := sK K ls) (X' := sK X ls) (fun _ _ => rfl) (fun j hj => by unfold sK; rw [e j hj]) (fun j hj => by unfold sK; rw [e j hj])
  refine IsCls.uniq (fun r hr c hc => ?_) h2 k3 hi
  exact ((hok r hr).all _ ((h1 r hr).lt hc)).val

theorem fstV_k (f : Nat → Nat) (v : V) : (fstV f v).k = v.k := by unfold fstV; split <;> rfl
theorem fstV_a {f : Nat → Nat} {v : V} (h : v.k = 4) : (fstV f v).a.toNat = f v.a.toNat := by unfold fstV; rw [if_pos h]; simp
theorem fstV_ne {f : Nat → Nat} {v : V} (h : v.k ≠ 4) : fstV f v = v := by unfold fstV; rw [if_neg h]
theorem fstV_isV {f : Nat → Nat} {N : Nat} (hf : ∀ i, i < N → f i ≤ i) {v : V} (h : isV N v = true) : isV N (fstV f v) = true := by
  by_cases h4 : v.k = 4
  · obtain ⟨a0, a1⟩ := isV_tab h h4
    have hl := hf v.a.toNat (by omega)
    unfold fstV
    rw [if_pos h4]
    unfold isV at h ⊢
    rw [if_neg (by omega), if_neg (by omega), if_neg (by omega), if_neg (by omega), if_pos h4] at h
    rw [if_neg (by simp only; omega), if_neg (by simp only; omega), if_neg (by simp only; omega), if_neg (by simp only; omega), if_pos (by simp only; omega)]
    simp only [Bool.and_eq_true, decide_eq_true_eq] at h ⊢
    refine ⟨h.1, h.2.1, ?_, ?_⟩ <;> omega
  · rw [fstV_ne h4]; exact h
theorem alike_fst {T f : Nat → Nat} {N : Nat} (hinj : ∀ i j, i < N → j < N → T i = T j → i = j) (hf : ∀ i, i < N → f i ≤ i) {x y : V} (hx : isV N x = true) (hy : isV N y = true) : alike T (fstV f x) (fstV f y) = alike f x y := by
  rw [Bool.eq_iff_iff, alike_iff, alike_iff, fstV_k, fstV_k]
  constructor
  · rintro ⟨h1, h2, h3⟩
    refine ⟨h1, fun h4 => ?_, fun h4 => ?_⟩
    · have e := h2 h4
      rw [fstV_a h4, fstV_a (h1.symm.trans h4)] at e
      obtain ⟨a0, a1⟩ := isV_tab hx h4
      obtain ⟨b0, b1⟩ := isV_tab hy (h1.symm.trans h4)
      exact hinj _ _ (by have := hf x.a.toNat (by omega); omega) (by have := hf y.a.toNat (by omega); omega) e
    · have e := h3 h4
      rw [fstV_ne h4, fstV_ne (by rw [← h1]; exact h4)] at e
      exact e
  · rintro ⟨h1, h2, h3⟩
    refine ⟨h1, fun h4 => ?_, fun h4 => ?_⟩
    · rw [fstV_a h4, fstV_a (h1.symm.trans h4), h2 h4]
    · rw [fstV_ne h4, fstV_ne (by rw [← h1]; exact h4)]
      exact h3 h4
theorem alike_congr {f f' : Nat → Nat} {N : Nat} (h : ∀ i, i < N → f i = f' i) {x y : V} (hx : isV N x = true) (hy : isV N y = true) : alike f x y = alike f' x y := by
  rw [Bool.eq_iff_iff, alike_iff, alike_iff]
  have key : x.k = y.k → x.k = 4 → (f x.a.toNat = f y.a.toNat ↔ f' x.a.toNat = f' y.a.toNat) := fun h1 h4 => by
    obtain ⟨a0, a1⟩ := isV_tab hx h4
    obtain ⟨b0, b1⟩ := isV_tab hy (h1.symm.trans h4)
    rw [h _ (by omega), h _ (by omega)]
  exact ⟨fun ⟨h1, h2, h3⟩ => ⟨h1, fun h4 => (key h1 h4).1 (h2 h4), h3⟩, fun ⟨h1, h2, h3⟩ => ⟨h1, fun h4 => (key h1 h4).2 (h2 h4), h3⟩⟩

/-- The answer of 'Same', of two graphs. -/
def SameRes (e : Ending) (n m : Nat) (u u' : V) (L L' : Nat → Nat) (K X K' X' : Nat → Nat → V) : Prop :=
  ((OkG n u L K X ∧ OkG m u' L' K' X') ∧ ∃ f : Nat → Nat, ClsAre (n + m) (jn n L L') (jn n K K') (jn n X (fun j c => sh n (X' j c))) f ∧ e = .returned (.bool (alike f u (sh n u')))) ∨ (¬ (OkG n u L K X ∧ OkG m u' L' K' X') ∧ e = .returned (.bool false))

open Classical in
theorem same_fixed (n m : Nat) (u u' : V) (L L' : Nat → Nat) (K X K' X' : Nat → Nat → V) : ∃ b : Bool, ∀ e, SameRes e n m u u' L L' K X K' X' → e = .returned (.bool b) := by
  by_cases hok : OkG n u L K X ∧ OkG m u' L' K' X'
  · refine ⟨alike (Classical.epsilon (fun f => ClsAre (n + m) (jn n L L') (jn n K K') (jn n X (fun j c => sh n (X' j c))) f)) u (sh n u'), fun e h => ?_⟩
    rcases h with ⟨_, f, hf, rfl⟩ | ⟨hno, _⟩
    · have he := Classical.epsilon_spec (p := fun f => ClsAre (n + m) (jn n L L') (jn n K K') (jn n X (fun j c => sh n (X' j c))) f) ⟨f, hf⟩
      rw [alike_congr (fun i hi => hf.uniqT (okT_join hok.1 hok.2) he hi) (isV_more hok.1.root) (sh_isV hok.2.root)]
    · exact absurd hok hno
  · refine ⟨false, fun e h => ?_⟩
    rcases h with ⟨h, _⟩ | ⟨_, rfl⟩
    · exact absurd h hok
    · rfl

end Go.Proofs.YtgflalfiopnmnaaGreatDoor

namespace Go.Proofs.YtgflalfiopnmnaaGreatDoor
open Go.RowKit Vl
open Go.ChangeShapes Go.WideShapes Go.ChangeAt Go.Joins

theorem laidOutG : laidOutB Tryz.prog = true := by kernel_rfl
theorem ownG : ownKnob Tryz.prog.godebug = none := by kernel_rfl
theorem cellsG_int : Tryz.prog.cellsOf 3 = 1 := by kernel_rfl
theorem cellsG_int64 : Tryz.prog.cellsOf 2 = 1 := by kernel_rfl
theorem cellsG_string : Tryz.prog.cellsOf 9 = 1 := by kernel_rfl
theorem four_of {α : Type} {l : List α} (h : l.length = 4) : ∃ a b c d, l = [a, b, c, d] := by
  match l, h with
  | [a, b, c, d], _ => exact ⟨a, b, c, d, rfl⟩
theorem five_of {α : Type} {l : List α} (h : l.length = 5) : ∃ a b c d e, l = [a, b, c, d, e] := by
  match l, h with
  | [a, b, c, d, e], _ => exact ⟨a, b, c, d, e, rfl⟩
theorem eight_of {α : Type} {l : List α} (h : l.length = 8) : ∃ a b c d e f g i, l = [a, b, c, d, e, f, g, i] := by
  match l, h with
  | [a, b, c, d, e, f, g, i], _ => exact ⟨a, b, c, d, e, f, g, i, rfl⟩

instance : Inhabited V := ⟨⟨0, 0, ⟨#[]⟩, 0⟩⟩

/-- The four cells of a value, as a list. -/
def vCells (v : V) : List Value := [.int .i64 v.k, .int .i64 v.n, .string v.s, .int .i64 v.a]

section
variable {H : Type} {enc : TypeId × Value → H} {w : World} {base : Nat} {spare : Nat → Bool} {held : Bool}

theorem opens_int {n : Nat} {t : TypeId} {o : Option (DataW H × List MemPlace)} {c : Value} (ht : Tryz.prog.underlying t = some (.int .i64)) (h : DataW.trod enc Tryz.prog w base spare held n t [c] = o) (ho : o.isSome = true) : ∃ k, c = .int .i64 k := by
  obtain ⟨x, hx⟩ := Option.isSome_iff_exists.1 ho
  rw [hx] at h
  obtain ⟨k, e, _, _⟩ := DataW.trod_int ht h
  exact ⟨k, by simpa using e⟩
theorem opens_string {n : Nat} {t : TypeId} {o : Option (DataW H × List MemPlace)} {c : Value} (ht : Tryz.prog.underlying t = some .string) (h : DataW.trod enc Tryz.prog w base spare held n t [c] = o) (ho : o.isSome = true) : ∃ s : ByteArray, c = .string s ∧ s.size ≤ 9223372036854775807 := by
  obtain ⟨x, hx⟩ := Option.isSome_iff_exists.1 ho
  rw [hx] at h
  obtain ⟨s, e, _, hs⟩ := DataW.trod_string ht h
  unfold maxLen at hs
  exact ⟨s, by simpa using e, by omega⟩
theorem isSome_at {α : Type} {l : List α} {i : Nat} (h : i < l.length) : (l[i]?).isSome = true := by simp [h]

theorem plain_of {w : World} {a : Addr} {v : Value} (h : w.cell? (a.add 0) = some v) : a = ⟨a.block, a.off, none⟩ := by
  obtain ⟨b, off, spot⟩ := a
  have hspot : spot = none := by simpa [Addr.add] using World.cell?_spot h
  subst hspot
  rfl
theorem add_plain (b o i : Nat) : Addr.add ⟨b, o, none⟩ i = ⟨b, o + i, none⟩ := by
  unfold Addr.add
  by_cases h : i = 0 <;> simp [h]

end

end Go.Proofs.YtgflalfiopnmnaaGreatDoor

namespace Go.Proofs.YtgflalfiopnmnaaGreatDoor
open Go.RowKit Vl
open Go.ChangeShapes Go.WideShapes Go.ChangeAt Go.Joins

theorem blk_below {w w' : World} {b : Nat} {o : Obj} (h : w.heap[b]? = some o) (hb : Below w.heap.size w w') : w'.heap[b]? = some o := (hb.block b (blk_lt h)).trans h

theorem keep55 {w0 w w' : World} {B B' : Nat} {c0 c1 c2 c3 c4 d0 d1 d2 d3 d4 : Value}
    (h : (w.cell? ⟨B, 0, none⟩ = some c0 ∧ w.cell? ⟨B, 1, none⟩ = some c1 ∧ w.cell? ⟨B, 2, none⟩ = some c2 ∧ w.cell? ⟨B, 3, none⟩ = some c3 ∧ w.cell? ⟨B, 4, none⟩ = some c4) ∧ (w.cell? ⟨B', 0, none⟩ = some d0 ∧ w.cell? ⟨B', 1, none⟩ = some d1 ∧ w.cell? ⟨B', 2, none⟩ = some d2 ∧ w.cell? ⟨B', 3, none⟩ = some d3 ∧ w.cell? ⟨B', 4, none⟩ = some d4) ∧ Hid (Below w0.heap.size w0 w)) (hb : Below w.heap.size w w') :
    (w'.cell? ⟨B, 0, none⟩ = some c0 ∧ w'.cell? ⟨B, 1, none⟩ = some c1 ∧ w'.cell? ⟨B, 2, none⟩ = some c2 ∧ w'.cell? ⟨B, 3, none⟩ = some c3 ∧ w'.cell? ⟨B, 4, none⟩ = some c4) ∧ (w'.cell? ⟨B', 0, none⟩ = some d0 ∧ w'.cell? ⟨B', 1, none⟩ = some d1 ∧ w'.cell? ⟨B', 2, none⟩ = some d2 ∧ w'.cell? ⟨B', 3, none⟩ = some d3 ∧ w'.cell? ⟨B', 4, none⟩ = some d4) ∧ Hid (Below w0.heap.size w0 w') := by
  obtain ⟨⟨h0, h1, h2, h3, h4⟩, ⟨k0, k1, k2, k3, k4⟩, hw⟩ := h
  have l1 : B < w.heap.size := World.block_lt_of_cell? _ _ h0
  have l2 : B' < w.heap.size := World.block_lt_of_cell? _ _ k0
  exact ⟨⟨(hb.cell l1).trans h0, (hb.cell l1).trans h1, (hb.cell l1).trans h2, (hb.cell l1).trans h3, (hb.cell l1).trans h4⟩, ⟨(hb.cell l2).trans k0, (hb.cell l2).trans k1, (hb.cell l2).trans k2, (hb.cell l2).trans k3, (hb.cell l2).trans k4⟩, grw hw.out hb⟩

end Go.Proofs.YtgflalfiopnmnaaGreatDoor
