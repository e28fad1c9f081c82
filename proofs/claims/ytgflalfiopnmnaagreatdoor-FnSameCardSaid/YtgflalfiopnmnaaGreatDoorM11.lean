import Derived.Test.YtgflalfiopnmnaaGreatDoorM9
import Derived.Test.YtgflalfiopnmnaaGreatDoorM10
import Derived.BigQuiet
import Derived.WalkSmall
import Derived.LaidEql
import Derived.ProofKit
import Derived.OpenShut
import Derived.ShutString
import Derived.ChangeOld
import Derived.Lib.SmallJoins
import Derived.Deep.Slices
import Derived.Test.YtgflalfiopnmnaaGreatDoorM1
import Derived.Test.YtgflalfiopnmnaaGreatDoorRows
import Derived.Test.YtgflalfiopnmnaaGreatDoorM2
import Derived.Test.YtgflalfiopnmnaaGreatDoorM3
import Derived.Deep.RegionHeld3
import Derived.Test.YtgflalfiopnmnaaGreatDoorM4
import Derived.Test.YtgflalfiopnmnaaGreatDoorM5
namespace Go.Proofs.YtgflalfiopnmnaaGreatDoor
open Go.RowKit Vl

def MoreIs (mv : Value) (i : Nat) (nx cl : Nat → Nat) : Prop := ∃ bm, mv = .bool bm ∧ (bm = true ↔ ∃ j, j < i ∧ nx j ≠ cl j)

def AskIs (L : Nat → Nat) (K X : Nat → Nat → V) (cl nx : Nat → Nat) (n nb j : Nat) (wn : World) (kk : Value) (wk : World) : Prop :=
  ∃ (k v : Nat) (z : Int), kk = .int .i64 z ∧ Hid (z = (k : Int) - 1) ∧ k ≤ j ∧ Hid (Found L K X cl nx j k v) ∧ Hid (wk.rowIs nb 3 n (fun q => if q = j then .int .i64 (v : Nat) else if q < j then .int .i64 (nx q : Nat) else .int .i64 ((0 : Nat) : Int))) ∧ Hid (Only (fun k => k = nb) wn wk)

set_option maxHeartbeats 8000000 in
set_option maxRecDepth 100000 in
theorem l3classes_any (ta : Option Addr) (n cp TB TO : Nat) (A : Nat → Option Addr) (L C RB RO : Nat → Nat) (K X : Nat → Nat → V) (w : World) (hn : n ≤ 400) (HL : Hid (∀ r, r < n → L r ≤ 100)) (HZ : Hid (∀ r, r < n → ∀ c, c < L r → (K r c).s.size ≤ 9223372036854775807)) (HG : Hid (Good n L X)) (HT : Hid (TabsAt w ta n TB TO A L C RB RO K X)) :
    Calls Tryz.prog 45 #[.slice ta n cp] w fun e w' => (∃ (g : Nat) (f : Nat → Nat) (ls : Nat → List Nat), e = .returned (.slice (some ⟨g, 0, none⟩) n n) ∧ w.heap.size ≤ g ∧ w'.rowIs g 3 n (fun i => .int .i64 (f i : Nat)) ∧ (∀ r, r < n → SortI (K r) (L r) (ls r)) ∧ IsCls n L (sK K ls) (sK X ls) f) ∧ Below w.heap.size w w' := by
  obtain ⟨it, hti, ht0, ht1, ht2⟩ := info_parts Tryz.info37
  have hmk := run_make_n 93 3 _ 1 8 Tryz.underlying93 Tryz.infoN n (by omega) (by omega)
  simp only [Nat.mul_one] at hmk
  go_enter Tryz.func45, Tryz.ntmps45
  go_wp2
  go_loopw [3, 13] (fun sv ii wr => ∃ (i : Nat) (PV : Nat → Value) (ls : Nat → List Nat), i ≤ n ∧ ii = .int .i64 i ∧ Hid (∀ r, r < i → SortI (K r) (L r) (ls r)) ∧ Hid (OTab wr w.heap.size sv i PV L (sK K ls) (sK X ls)) ∧ Hid (Below w.heap.size w wr)) (fun _ ii _ => n - (intOf ii).toNat)
  case atStart => exact ⟨0, fun _ => .nilIface, fun _ => [], Nat.zero_le _, rfl, fun r hr => absurd hr (Nat.not_lt_zero _), OTab.nil _ _ _ _ _ _, Below.refl _ _⟩
  case round =>
    obtain ⟨i, PV, ls, hi, rfl, HLs, HO, HB⟩ := hrel
    obtain ⟨sa, sc, rfl, hsk⟩ := owns_form HO.out.own
    by_cases hlt : i < n
    · have hta := HT.out.top (by omega)
      subst hta
      have t0 := (HT.out.below HB.out).tab i hlt
      obtain ⟨pa, hpa⟩ : ∃ a, A i = a := ⟨_, rfl⟩
      rw [hpa] at t0
      have HP : Hid (PairsAt w pa (L i) (RB i) (RO i) (K i) (X i)) := hpa ▸ HT.out.row i hlt
      obtain ⟨wt, hwt⟩ : ∃ wt, wt = wr.alloc (.cells #[.slice pa (L i) (C i)] 37) := ⟨_, rfl⟩
      have hbt : Below wr.heap.size wr wt := by rw [hwt]; exact (Below.refl _ _).alloc (Nat.le_refl _) _
      have HBt : Hid (Below w.heap.size w wt) := grw HB.out hbt
      have HOt : Hid (OTab wt w.heap.size (.slice sa i sc) i PV L (sK K ls) (sK X ls)) := HO.out.below hbt
      have hcall := l3sorted_any pa (L i) (C i) (RB i) (RO i) (K i) (X i) wt (by have := HL.out i hlt; omega) (HZ.out i hlt) (HP.out.below HBt.out)
      have HN2 : Hid (∀ j, j < i → ∀ g, (PV j).ownBlock = some g → g < wt.heap.size) := show ∀ j, _ from fun j hj g hg => by obtain ⟨_, _, _, h⟩ := owns_form (HOt.out.rows j hj); exact (h g hg).2
      clear hsk hbt HO HB hpa hmk
      go_wp2_with fail
      rw [← hwt]
      refine hcall.mono ?_
      clear hcall hwt t0
      rintro e w2 ⟨⟨pa', pc, lr, rfl, hsr, hown⟩, hb2⟩
      have HSR : Hid (SortI (K i) (L i) lr) := hsr
      have HO2 : Hid (OTab w2 w.heap.size (.slice sa i sc) i PV L (sK K ls) (sK X ls)) := HOt.out.below hb2
      have HB2 : Hid (Below w.heap.size w w2) := grw HBt.out hb2
      have HP2 : Hid (w2.ownsRow wt.heap.size 39 8 (.slice pa' (L i) pc) (L i) (pairCells (byI (K i) lr) (byI (X i) lr) (L i))) := hown
      have hs2 : w.heap.size ≤ wt.heap.size := HBt.out.size
      have hs2' : wt.heap.size ≤ w2.heap.size := hb2.size
      clear hown hsr hb2 HOt HBt
      go_wp2_with (at_builtin; refine wpList_append_lies _ (by rfl) (.tmp 17) (.tmp 20) 25 (by rfl) w.heap.size 37 it (.agg #[.slice none 0 0]) 1 24 Tryz.underlying25 hti ht0 ht1 ht2 (by rfl) (by omega) (.slice sa i sc) i ((List.range i).map PV) (by rfl) (HO2.out.own.alloc _) ⟨w2.heap.size, 0, none⟩ 1 1 [.slice pa' (L i) pc] (by rfl) (by rfl) ?c1 ?c2 (by omega) ?c3 ?c4 ?c5 (w2.heap.size + 1) ?c6 ?_)
      case c1 => exact World.news_of_block (heap_alloc_new w2 _)
      case c2 => intro u hu; simp at hu; subst hu; rfl
      case c3 => unfold maxLen; omega
      case c4 => omega
      case c5 => simp; omega
      case c6 => simp
      intro g cap w7 hown7 hgrow7 hat7 hlt7
      obtain ⟨hT7, hB7⟩ := HO2.out.more (owns_mono HP2.out (by omega)) (fun j hj g hg e => by
        obtain ⟨_, _, _, h⟩ := owns_form HP2.out
        have h1 := (h g e).1
        have h2 := HN2.out j hj g hg
        omega) _ (by omega) hown7 hgrow7
      have HT7 : Hid (OTab w7 w.heap.size (.slice (some ⟨g, 0, none⟩) (i + 1) cap) (i + 1) (fun j => if j = i then .slice pa' (L i) pc else PV j) L (sK K (fun j => if j = i then lr else ls j)) (sK X (fun j => if j = i then lr else ls j))) := hT7.congr (fun j hj => by
          by_cases e : j = i
          · subst e; simp only [if_true]
          · simp only [e, if_false]) (fun j hj c' hc' => by
          unfold sK
          by_cases e : j = i
          · subst e; simp only [if_true]; exact ⟨trivial, trivial⟩
          · simp only [e, if_false]; exact ⟨trivial, trivial⟩)
      have HB7 : Hid (Below w.heap.size w w7) := HB2.out.trans hB7
      have HLs' : Hid (∀ r, r < i + 1 → SortI (K r) (L r) ((fun j => if j = i then lr else ls j) r)) := show ∀ r, _ from fun r hr => by
        by_cases e : r = i
        · subst e; simp only [if_true]; exact HSR.out
        · simp only [e, if_false]; exact HLs.out r (by omega)
      clear hT7 hB7 hown7 hgrow7 hat7 hlt7 HO2 HB2 HP2
      go_wp2
      go_roundw
      case rel => exact ⟨i + 1, _, _, by omega, by go_num, HLs', HT7, HB7⟩
      case measure => simp [intOf]; omega
    · obtain rfl : i = n := by omega
      clear hti ht0 ht1 ht2
      have HR0 : Hid ((wr.alloc (.cells (madeCells #[.int .i64 0] i) 3)).rowIs wr.heap.size 3 i (fun _ => .int .i64 ((0 : Nat) : Int))) := (row_made wr #[.int .i64 0] i 3).congr (fun j _ => by simp [Nat.mod_one])
      obtain ⟨ws, hws⟩ : ∃ ws, ws = wr := ⟨_, rfl⟩
      rw [← hws] at HO HB HR0
      have hsw : w.heap.size ≤ ws.heap.size := HB.out.size
      have HSV : Hid (∀ r, r < i → ∀ c, c < L r → isV i (sK X ls r c) = true) := show ∀ r, _ from fun r hr c hc => HG.out r hr _ ((HLs.out r hr).lt hc)
      have HGs : Hid (Good i L (sK X ls)) := HSV
      go_wp2
      rw [← hws]
      clear hws
      go_loopw [6] (fun cv wq => ∃ (g : Nat) (cl : Nat → Nat), cv = .slice (some ⟨g, 0, none⟩) i i ∧ Hid (w.heap.size ≤ g) ∧ Hid (wq.rowIs g 3 i (fun j => .int .i64 (cl j : Nat))) ∧ Hid (OnWay i L (sK K ls) (sK X ls) cl) ∧ Hid (Below ws.heap.size ws wq)) (fun cv wq => i - reps i (clsIn wq cv))
      case atStart => exact ⟨ws.heap.size, fun _ => 0, rfl, hsw, HR0, ⟨fun _ _ => Nat.zero_le _, fun _ _ => rfl, fun _ _ _ _ _ => rfl⟩, (Below.refl _ _).alloc (Nat.le_refl _) _⟩
      case round =>
        obtain ⟨g, cl, rfl, HGe, HCr, HOw, HBq⟩ := hrel
        clear HR0
        obtain ⟨wq, hwq⟩ : ∃ wq, wq = wr := ⟨_, rfl⟩
        rw [← hwq] at HCr HBq
        obtain ⟨wn, hwn⟩ : ∃ wn, wn = wq.alloc (.cells (madeCells #[.int .i64 0] i) 3) := ⟨_, rfl⟩
        have hbn : Below wq.heap.size wq wn := by rw [hwn]; exact (Below.refl _ _).alloc (Nat.le_refl _) _
        have HRn : Hid (wn.rowIs wq.heap.size 3 i (fun _ => .int .i64 ((0 : Nat) : Int))) := by rw [hwn]; exact (row_made wq #[.int .i64 0] i 3).congr (fun j _ => by simp [Nat.mod_one])
        have HCn : Hid (wn.rowIs g 3 i (fun j => .int .i64 (cl j : Nat))) := HCr.out.of_block (hbn.block _ HCr.out.lt)
        have HBn : Hid (Below ws.heap.size ws wn) := grw HBq.out hbn
        have hgl : g < wq.heap.size := HCr.out.lt
        have hnl : ws.heap.size ≤ wq.heap.size := HBq.out.size
        obtain ⟨nb, hnb⟩ : ∃ nb, wq.heap.size = nb := ⟨_, rfl⟩
        have HOn : Hid (OTab wn w.heap.size (.slice sa i sc) i PV L (sK K ls) (sK X ls)) := HO.out.below HBn.out
        have HNB : Hid (∀ v : Value, (∃ t xs n s, ws.ownsRow w.heap.size t s v n xs) → v.ownBlock ≠ some nb) := show ∀ v, _ from fun v ⟨t, xs, n, s, h⟩ e => by
          obtain ⟨_, _, _, hk⟩ := owns_form h
          have := (hk _ e).2
          omega
        clear hbn
        go_wp2
        rw [← hwq]
        rw [← hwn]
        rw [hnb] at HRn hgl hnl ⊢
        have HWQ : Hid (wq = wr) := hwq
        clear hwn hwq hnb
        go_loopw [8, 31] (fun mv ii wi => ∃ (j : Nat) (nx : Nat → Nat), j ≤ i ∧ ii = .int .i64 j ∧ Hid (MoreIs mv j nx cl) ∧ Hid (Round j L (sK K ls) (sK X ls) cl nx) ∧ Hid (wi.rowIs nb 3 i (fun q => if q < j then .int .i64 (nx q : Nat) else .int .i64 ((0 : Nat) : Int))) ∧ Hid (Only (fun k => k = nb) wn wi)) (fun _ ii _ => i - (intOf ii).toNat)
        case atStart => exact ⟨0, fun _ => 0, Nat.zero_le _, rfl, ⟨false, rfl, by simp⟩, ⟨fun q hq => absurd hq (Nat.not_lt_zero _), fun q hq => absurd hq (Nat.not_lt_zero _), fun q hq => absurd hq (Nat.not_lt_zero _)⟩, HRn.out.congr (fun q _ => by rw [if_neg (by omega)]), Only.refl _ _⟩
        case round =>
          obtain ⟨j, nx, hj, rfl, HMo, HRo, HRw, HOl⟩ := hrel
          obtain ⟨bm, rfl, hbm⟩ := HMo.out
          have HBM : Hid (bm = true ↔ ∃ q, q < j ∧ nx q ≠ cl q) := hbm
          clear HMo hbm
          by_cases hlt : j < i
          · have n0 := HRw.out.cell hlt
            rw [if_neg (by omega)] at n0
            have nz := HRw.out.frozen
            have hbj : (0 : Int) ≤ (j : Int) ∧ (j : Int) < (i : Int) := by omega
            have hwj : IntKind.i64.wrap ((j : Int) - 1) = (j : Int) - 1 := by rw [IntKind.wrap_i64]; omega
            have HR1 : Hid ((wr.setCell ⟨nb, j, none⟩ (.int .i64 (j : Nat))).rowIs nb 3 i (fun q => if q = j then .int .i64 (j : Nat) else if q < j then .int .i64 (nx q : Nat) else .int .i64 ((0 : Nat) : Int))) := (HRw.out.set j _).congr (fun q _ => rfl)
            have HO1 : Hid (Only (fun k => k = nb) wn (wr.setCell ⟨nb, j, none⟩ (.int .i64 (j : Nat)))) := HOl.out.set rfl _
            clear HRw HOl
            go_wp2
            clear n0 nz
            go_loopw [10] (fun kk wk => AskIs L (sK K ls) (sK X ls) cl nx i nb j wn kk wk) (fun kk _ => (intOf kk + 1).toNat)
            case atStart => exact ⟨j, j, _, rfl, rfl, Nat.le_refl _, Found.start j, HR1, HO1⟩
            case round =>
              obtain ⟨k, v, z, rfl, HZk, hkj, HF, HRk, HOk⟩ := hrel
              clear HR1 HO1
              have HCk : Hid (wr.rowIs g 3 i (fun q => .int .i64 (cl q : Nat))) := HOk.out.rowIs HCn.out (by omega)
              have cj := HCk.out.cell hlt
              by_cases hk0 : k = 0
              · obtain rfl : z = -1 := by have := HZk.out; omega
                subst hk0
                have nj := HRk.out.cell hlt
                rw [if_pos rfl] at nj
                have HRg : Hid (Round (j + 1) L (sK K ls) (sK X ls) cl (fun q => if q = j then v else nx q)) := HRo.out.grow HF.out
                have HRx : Hid (wr.rowIs nb 3 i (fun q => if q < j + 1 then .int .i64 ((if q = j then v else nx q : Nat) : Int) else .int .i64 ((0 : Nat) : Int))) := HRk.out.congr (fun q _ => by
                  by_cases e : q = j
                  · subst e; rw [if_pos rfl, if_pos (by omega), if_pos rfl]
                  · rw [if_neg e, if_neg e]
                    by_cases h' : q < j
                    · rw [if_pos h', if_pos (by omega)]
                    · rw [if_neg h', if_neg (by omega)])
                by_cases hv : v = cl j
                · have hnv : ((v : Int) != (cl j : Int)) = false := by rw [hv]; simp
                  have HM' : Hid (MoreIs (.bool bm) (j + 1) (fun q => if q = j then v else nx q) cl) := ⟨bm, rfl, HBM.out.trans ⟨fun ⟨q, h1, h2⟩ => ⟨q, by omega, by show (if q = j then v else nx q) ≠ cl q; rw [if_neg (by omega)]; exact h2⟩, fun ⟨q, h1, h2⟩ => by
                    by_cases e : q = j
                    · subst e; have h3 : (if q = q then v else nx q) ≠ cl q := h2; rw [if_pos rfl] at h3; exact absurd hv h3
                    · have h3 : (if q = j then v else nx q) ≠ cl q := h2; rw [if_neg e] at h3; exact ⟨q, by omega, h3⟩⟩⟩
                  clear hv
                  go_wp2
                  go_quiet (fail)
                  go_wp2
                  go_roundw
                  case rel => exact ⟨j + 1, _, by omega, by go_num, HM', HRg, HRx.out.of_block rfl, HOk.out.trans (Only.below (below_drewN (Below.refl _ _) nq))⟩
                  case measure => simp [intOf]; omega
                · have hnv : ((v : Int) != (cl j : Int)) = true := by simp; omega
                  have HM' : Hid (MoreIs (.bool true) (j + 1) (fun q => if q = j then v else nx q) cl) := ⟨true, rfl, ⟨fun _ => ⟨j, by omega, by show (if j = j then v else nx j) ≠ cl j; rw [if_pos rfl]; exact hv⟩, fun _ => rfl⟩⟩
                  clear hv
                  go_wp2
                  go_quiet (fail)
                  go_wp2
                  go_roundw
                  case rel => exact ⟨j + 1, _, by omega, by go_num, HM', HRg, HRx.out.of_block rfl, HOk.out.trans (Only.below (below_drewN (Below.refl _ _) nq))⟩
                  case measure => simp [intOf]; omega
              · obtain ⟨m, rfl⟩ : ∃ m, k = m + 1 := ⟨k - 1, by omega⟩
                obtain rfl : z = (m : Int) := by have := HZk.out; omega
                have hmj : m < j := by omega
                have cm := HCk.out.cell (i := m) (by omega)
                have hbm : (0 : Int) ≤ (m : Int) ∧ (m : Int) < (i : Int) := by omega
                have hwm : IntKind.i64.wrap ((m : Int) - 1) = (m : Int) - 1 := by rw [IntKind.wrap_i64]; omega
                by_cases he : cl m = cl j
                · have hbe : ((cl m : Int) == (cl j : Int)) = true := by rw [he]; simp
                  have HE : Hid (cl m = cl j) := he
                  clear he
                  have HOt : Hid (OTab wr w.heap.size (.slice sa i sc) i PV L (sK K ls) (sK X ls)) := HOn.out.onlyB HOk.out (fun g' hg' e => HNB.out _ ⟨_, _, _, _, HO.out.own⟩ (by rw [hg', e])) (fun q hq g' hg' e => HNB.out _ ⟨_, _, _, _, HO.out.rows q hq⟩ (by rw [hg', e]))
                  have hTt := HOt.out.tabs.2
                  obtain ⟨sg, sc', hsv, _⟩ := owns_cell HOt.out.own (k := m) (y := PV m) (by rw [List.getElem?_map, List.getElem?_range (by omega)]; rfl)
                  cases hsv
                  have sm : wr.cell? ⟨sg, m, none⟩ = some (.slice (slA (PV m)) (L m) (slC (PV m))) := by
                    have := hTt.tab m (by omega)
                    rw [Nat.zero_add] at this
                    exact this
                  have sj : wr.cell? ⟨sg, j, none⟩ = some (.slice (slA (PV j)) (L j) (slC (PV j))) := by
                    have := hTt.tab j hlt
                    rw [Nat.zero_add] at this
                    exact this
                  have hlook := l3looks_any (slA (PV m)) (slA (PV j)) (L m) (slC (PV m)) (slB (PV m)) 0 (L j) (slC (PV j)) (slB (PV j)) 0 (sK K ls m) (sK X ls m) (sK K ls j) (sK X ls j) i g i cl wr.drew (by have := HL.out m (by omega); omega) (by have := HL.out j hlt; omega) (HSV.out m (by omega)) (HSV.out j hlt) ((hTt.row m (by omega)).below (Below.refl _ _).drew) ((hTt.row j hlt).below (Below.refl _ _).drew) (show ClsAt _ _ _ _ from fun q hq => HCk.out.cell hq)
                  obtain ⟨am, ham⟩ : ∃ a, slA (PV m) = a := ⟨_, rfl⟩
                  obtain ⟨aj, haj⟩ : ∃ a, slA (PV j) = a := ⟨_, rfl⟩
                  obtain ⟨km, hkm⟩ : ∃ a, slC (PV m) = a := ⟨_, rfl⟩
                  obtain ⟨kj, hkj'⟩ : ∃ a, slC (PV j) = a := ⟨_, rfl⟩
                  rw [ham, hkm] at sm
                  rw [haj, hkj'] at sj
                  rw [ham, haj, hkm, hkj'] at hlook
                  replace cm := cellB cm
                  replace cj := cellB cj
                  replace sm := cellB sm
                  replace sj := cellB sj
                  clear ham haj hkm hkj' hTt HOt
                  go_wp2
                  go_region_held3 (fun w' => Below wr.heap.size wr w')
                    (first | exact grw (Below.drew (Below.refl _ _)) hb5 | exact (Below.refl _ _).drew)
                    ((go_at_call 83; refine hlook.mono ?_; rintro e w5 ⟨⟨b, rfl, hb⟩, hb5⟩))
                  rename_i hS
                  have HB5 : Hid (Below wr.heap.size wr w5) := hS
                  have HBb : Hid (b = true ↔ Looks L (sK K ls) (sK X ls) cl m j) := hb.trans look2_iff
                  have HR5 : Hid (w5.rowIs nb 3 i (fun q => if q = j then .int .i64 (v : Nat) else if q < j then .int .i64 (nx q : Nat) else .int .i64 ((0 : Nat) : Int))) := HRk.out.of_block (HB5.out.block _ HRk.out.lt)
                  have HO5 : Hid (Only (fun k => k = nb) wn w5) := HOk.out.trans (Only.below HB5.out)
                  clear hS hb hb5 cm cj sm sj hlook HRk HOk
                  cases b
                  · have HF' : Hid (Found L (sK K ls) (sK X ls) cl nx j m v) := HF.out.no (fun h => by have := HBb.out.2 h.2; cases this)
                    go_wp2
                    go_roundw
                    case rel => exact ⟨m, v, _, rfl, rfl, by omega, HF', HR5, HO5⟩
                    case measure => simp [intOf] <;> omega
                  · have HF' : Hid (Found L (sK K ls) (sK X ls) cl nx j m (nx m)) := Found.yes hmj ⟨HE.out, HBb.out.1 rfl⟩
                    have nm := HR5.out.cell (i := m) (by omega)
                    rw [if_neg (by omega), if_pos hmj] at nm
                    have nj := HR5.out.cell hlt
                    have nz := HR5.out.frozen
                    have HR6 : Hid ((w5.setCell ⟨nb, j, none⟩ (.int .i64 (nx m : Nat))).rowIs nb 3 i (fun q => if q = j then .int .i64 (nx m : Nat) else if q < j then .int .i64 (nx q : Nat) else .int .i64 ((0 : Nat) : Int))) := (HR5.out.set j _).congr (fun q _ => by
                      by_cases e : q = j
                      · rw [if_pos e, if_pos e]
                      · rw [if_neg e, if_neg e, if_neg e])
                    have HO6 : Hid (Only (fun k => k = nb) wn (w5.setCell ⟨nb, j, none⟩ (.int .i64 (nx m : Nat)))) := HO5.out.set rfl _
                    go_wp2
                    go_roundw
                    case rel => exact ⟨m, nx m, _, rfl, rfl, by omega, HF', HR6, HO6⟩
                    case measure => simp [intOf] <;> omega
                · have hbe : ((cl m : Int) == (cl j : Int)) = false := by rw [beq_nat]; exact beq_false_of_ne he
                  have HF' : Hid (Found L (sK K ls) (sK X ls) cl nx j m v) := HF.out.no (fun h => he h.1)
                  clear he
                  go_wp2
                  go_quiet (fail)
                  go_wp2
                  go_roundw
                  case rel => exact ⟨m, v, _, rfl, rfl, by omega, HF', HRk.out.of_block rfl, HOk.out.trans (Only.below (below_drewN (Below.refl _ _) nq))⟩
                  case measure => simp [intOf]
          · obtain rfl : j = i := by omega
            have HRf : Hid (wr.rowIs nb 3 j (fun q => .int .i64 (nx q : Nat))) := HRw.out.congr (fun q hq => by rw [if_pos hq])
            have HBf : Hid (Below ws.heap.size ws wr) := HBn.out.trans (HOl.out.toBelow (fun k hk => by omega) HBn.out.size)
            cases bm
            · have HEq : Hid (∀ q, q < j → nx q = cl q) := show ∀ q, _ from fun q hq => Classical.byContradiction fun hne => by
                have := HBM.out.2 ⟨q, hq, hne⟩
                cases this
              go_wp2
              go_ret
              refine ⟨⟨nb, nx, ls, rfl, by omega, HRf.out, HLs.out, ?_⟩, grw HB.out HBf.out⟩
              exact (HRo.out.done HOw.out HEq.out).congr HGs.out (fun q hq => (HEq.out q hq).symm)
            · obtain ⟨q, hq, hne⟩ := HBM.out.1 rfl
              have HMr : Hid (reps j cl < reps j nx) := HRo.out.more HOw.out hq hne
              have HOw' : Hid (OnWay j L (sK K ls) (sK X ls) nx) := HRo.out.next HOw.out
              have h1 : Hid (reps j (clsIn wr (.slice (some ⟨nb, 0, none⟩) j j)) = reps j nx) := reps_congr (fun q hq => clsIn_row HRf.out hq)
              have h2 : Hid (reps j (clsIn wq (.slice (some ⟨g, 0, none⟩) j j)) = reps j cl) := reps_congr (fun q hq => clsIn_row HCr.out hq)
              clear hne hq
              go_wp2
              go_roundw
              case rel => exact ⟨nb, nx, rfl, show w.heap.size ≤ nb by omega, HRf, HOw', HBf⟩
              case measure =>
                have h3 := HMr.out
                have h4 := reps_le j nx
                rw [HWQ.out] at h2
                rw [h1.out, h2.out]
                omega

end Go.Proofs.YtgflalfiopnmnaaGreatDoor

namespace Go.Proofs.YtgflalfiopnmnaaGreatDoor
open Go.RowKit Vl

theorem IsCls.agree {n : Nat} {L L' : Nat → Nat} {K X K' X' : Nat → Nat → V} {f : Nat → Nat} (h : IsCls n L K X f) (hL : ∀ j, j < n → L j = L' j) (hK : ∀ j, j < n → K j = K' j) (hX : ∀ j, j < n → X j = X' j) : IsCls n L' K' X' f := by
  refine ⟨h.low, h.idem, fun i j hi hj e => ?_, fun R hR i j hr => h.wide R (fun i j hr => ?_) i j hr⟩
  · have := h.bis i j hi hj e
    refine ⟨by rw [← hL i hi, ← hL j hj]; exact this.len, fun c hc => ?_⟩
    rw [← hK i hi, ← hK j hj, ← hX i hi, ← hX j hj]
    exact this.all c (by rw [hL i hi]; exact hc)
  · have h2 := hR i j hr
    have hi := h2.1
    have hj := h2.2.1
    rw [hL i hi, hL j hj, hK i hi, hK j hj, hX i hi, hX j hj]
    exact h2

end Go.Proofs.YtgflalfiopnmnaaGreatDoor

namespace Go.Proofs.YtgflalfiopnmnaaGreatDoor
open Go.RowKit Vl

def ClsAre (n : Nat) (L : Nat → Nat) (K X : Nat → Nat → V) (f : Nat → Nat) : Prop := ∃ ls : Nat → List Nat, (∀ r, r < n → SortI (K r) (L r) (ls r)) ∧ IsCls n L (sK K ls) (sK X ls) f
end Go.Proofs.YtgflalfiopnmnaaGreatDoor

namespace Go.Proofs.YtgflalfiopnmnaaGreatDoor
open Go.RowKit Vl

def fstV (f : Nat → Nat) (v : V) : V := if v.k = 4 then ⟨v.k, v.n, v.s, (f v.a.toNat : Nat)⟩ else v

set_option maxHeartbeats 2000000 in
set_option maxRecDepth 100000 in
theorem first_any (N q rc vc tb cb : Nat) (T M L : Nat → Nat) (K X : Nat → Nat → V) (f : Nat → Nat) (ra va : Option Addr) (v : V) (w : World) (hv : isV N v = true) (hN : N ≤ 400) (HF : Hid (∀ i, i < N → f i ≤ i)) (hva : 0 < N → va = some ⟨tb, 0, none⟩)
    (HR : Hid (∀ j, j < N → w.cell? ⟨tb, j, none⟩ = some (ptr (T j)))) (HC : Hid (∀ j, j < N → w.cell? ⟨cb, j, none⟩ = some (.int .i64 (f j : Nat)))) (HT : Hid (Tbs w N T M (fun j => (j : Nat)) L K X)) :
    Calls Tryz.prog 36 #[.agg #[.slice ra q rc, .slice va N vc, .slice (some ⟨cb, 0, none⟩) N N], ifv T v] w fun e w' => e = .returned (ifv T (fstV f v)) ∧ Below w.heap.size w w' := by
  obtain ⟨w0, hw0⟩ : ∃ w0, w0 = w.alloc (.cells #[.slice ra q rc, .slice va N vc, .slice (some ⟨cb, 0, none⟩) N N] 95) := ⟨_, rfl⟩
  have HB0 : Hid (Below w.heap.size w w0) := by rw [hw0]; exact (Below.refl _ _).alloc (Nat.le_refl _) _
  have H0 : Hid (w0.heap[w.heap.size]? = some (.cells #[.slice ra q rc, .slice va N vc, .slice (some ⟨cb, 0, none⟩) N N] 95 (0, 0))) := by rw [hw0]; exact heap_alloc_new _ _
  by_cases h4 : v.k = 4
  · obtain ⟨a0, a1⟩ := isV_tab hv h4
    obtain ⟨a, ha⟩ : ∃ a : Nat, v.a.toNat = a := ⟨_, rfl⟩
    have haN : a < N := by omega
    have hE : Hid (ifv T (fstV f v) = .iface 107 (ptr (T (f a)))) := by
      unfold fstV
      rw [if_pos h4]
      show ifv T ⟨v.k, v.n, v.s, (f v.a.toNat : Nat)⟩ = _
      rw [ifv_tab (show (⟨v.k, v.n, v.s, (f v.a.toNat : Nat)⟩ : V).k = 4 from h4), ha]
      rfl
    rw [hE.out, ifv_tab h4, ha]
    obtain rfl := hva (by omega)
    have hay := assert_yes (T a) w0
    obtain ⟨c0, c1, c2, cz⟩ := three_at H0.out
    have hfa := HF.out a haN
    have t0 : w0.cell? ⟨T a, 0, none⟩ = some (.int .i64 (a : Nat)) := (HB0.out.cell (p := ⟨T a, 0, none⟩) (HT.out.lt haN)).trans (HT.out.at0 a haN)
    have d0 : w0.cell? ⟨cb, a, none⟩ = some (.int .i64 (f a : Nat)) := (HB0.out.cell (World.block_lt_of_cell? _ _ (HC.out a haN))).trans (HC.out a haN)
    have e0 : w0.cell? ⟨tb, f a, none⟩ = some (ptr (T (f a))) := (HB0.out.cell (World.block_lt_of_cell? _ _ (HR.out (f a) (by omega)))).trans (HR.out (f a) (by omega))
    have ib : (0 : Int) ≤ (a : Int) ∧ (a : Int) < (N : Int) := by omega
    have jb : (0 : Int) ≤ (f a : Int) ∧ (f a : Int) < (N : Int) := by omega
    obtain ⟨fa, hfa'⟩ : ∃ fa, f a = fa := ⟨_, rfl⟩
    rw [hfa'] at d0 e0 jb hfa hE ⊢
    rw [hw0] at hay c0 c1 c2 t0 d0 e0
    go_enter Tryz.func36, Tryz.ntmps36
    go_wp2_with fail
    go_quiet (fail)
    go_wp2
    go_ret
    rw [← hw0]
    exact ⟨rfl, below_drewN HB0.out _⟩
  · have hE : Hid (fstV f v = v) := by unfold fstV; rw [if_neg h4]; rfl
    rw [hE.out]
    have hno := assert_no hv h4 T w0
    obtain ⟨xt, xy, hxv⟩ := ifv_form T v
    have HXV : Hid (ifv T v = .iface xt xy) := hxv
    rw [hxv] at hno ⊢
    rw [hw0] at hno
    clear hxv
    go_enter Tryz.func36, Tryz.ntmps36
    go_wp2
    go_ret
    rw [← hw0]
    exact ⟨rfl, HB0.out⟩

end Go.Proofs.YtgflalfiopnmnaaGreatDoor

namespace Go.Proofs.YtgflalfiopnmnaaGreatDoor
open Go.RowKit Vl

theorem eq_truth (a b : Bool) (w : World) : (binOp .eql 54 (.iface 232 (.agg #[.bool a])) (.iface 232 (.agg #[.bool b]))).run Tryz.prog w = .ok (.bool (a == b)) w := by
  cases a <;> cases b <;> kernel_rfl
theorem eq_whole (a b : Int) (w : World) : (binOp .eql 54 (.iface 234 (.agg #[.int .i64 a])) (.iface 234 (.agg #[.int .i64 b]))).run Tryz.prog w = .ok (.bool (a == b)) w := by
  have h1 : (binOp .eql 54 (.iface 234 (.agg #[.int .i64 a])) (.iface 234 (.agg #[.int .i64 b]))).run Tryz.prog w = (binOp .eql 234 (.agg #[.int .i64 a]) (.agg #[.int .i64 b])).run Tryz.prog w := by kernel_rfl
  rw [h1]
  go_simp
  by_cases h : a = b <;> simp [h]
theorem eq_words (a b : ByteArray) (w : World) : (binOp .eql 54 (.iface 236 (.agg #[.string a])) (.iface 236 (.agg #[.string b]))).run Tryz.prog w = .ok (.bool (a.toList == b.toList)) w := by
  have h1 : (binOp .eql 54 (.iface 236 (.agg #[.string a])) (.iface 236 (.agg #[.string b]))).run Tryz.prog w = (binOp .eql 236 (.agg #[.string a]) (.agg #[.string b])).run Tryz.prog w := by kernel_rfl
  rw [h1]
  go_simp
  by_cases h : a.toList = b.toList <;> simp [h]
theorem Tryz.isFace : ((Tryz.prog.underlying 54).map fun d => match d with | .interface _ => true | _ => false) = some true := by kernel_rfl
theorem Tryz.isPtr : ((Tryz.prog.underlying 107).map fun d => match d with | .pointer e => some e | _ => none) = some (some 121) := by kernel_rfl
theorem Tryz.cmpPtr : (Tryz.prog.info? 107).map (fun i => i.comparable) = some true := by kernel_rfl
theorem Tryz.szTab : (Tryz.prog.info? 121).map (fun i => i.size) = some 3 := by kernel_rfl
theorem eq_tab (a b : Nat) (w : World) (ha : ∃ ca ta, w.heap[a]? = some (.cells ca ta (0, 0))) (hb : ∃ cb tb, w.heap[b]? = some (.cells cb tb (0, 0))) : (binOp .eql 54 (.iface 107 (ptr a)) (.iface 107 (ptr b))).run Tryz.prog w = .ok (.bool (a == b)) w := by
  obtain ⟨ca, ta, ha⟩ := ha
  obtain ⟨cb, tb, hb⟩ := hb
  obtain ⟨ms, hi⟩ : ∃ ms, Tryz.prog.underlying 54 = some (.interface ms) := by
    have h := Tryz.isFace
    cases e : Tryz.prog.underlying 54 with
    | none => rw [e] at h; cases h
    | some d => rw [e] at h; cases d <;> first | exact ⟨_, rfl⟩ | cases h
  have hp : Tryz.prog.underlying 107 = some (.pointer 121) := by
    have h := Tryz.isPtr
    cases e : Tryz.prog.underlying 107 with
    | none => rw [e] at h; cases h
    | some d => rw [e] at h; cases d <;> first | (cases h; rfl) | cases h
  obtain ⟨i, hinfo, hc⟩ : ∃ i, Tryz.prog.info? 107 = some i ∧ i.comparable = true := by
    have h := Tryz.cmpPtr
    cases e : Tryz.prog.info? 107 with
    | none => rw [e] at h; cases h
    | some d => rw [e] at h; exact ⟨d, rfl, by simpa using h⟩
  obtain ⟨j, hj, hsz⟩ : ∃ j, Tryz.prog.info? 121 = some j ∧ j.size = 3 := by
    have h := Tryz.szTab
    cases e : Tryz.prog.info? 121 with
    | none => rw [e] at h; cases h
    | some d => rw [e] at h; exact ⟨d, rfl, by simpa using h⟩
  by_cases h : a = b
  · subst h
    have := run_eql_iface_ptr_same (P := Tryz.prog) w ⟨a, 0, none⟩ hi hp hinfo hc hj
    simpa using this
  · have := run_eql_iface_ptr_other (P := Tryz.prog) w (a := ⟨a, 0, none⟩) (b := ⟨b, 0, none⟩) hi hp hinfo hc hj (by omega) (fun e => h (by cases e; rfl)) ha hb
    have hf : (a == b) = false := by simpa using h
    rw [hf]
    exact this

theorem kinds {n : Nat} {v : V} (h : isV n v = true) : v.k = 0 ∨ v.k = 1 ∨ v.k = 2 ∨ v.k = 3 ∨ v.k = 4 := by
  by_cases k0 : v.k = 0
  · exact Or.inl k0
  by_cases k1 : v.k = 1
  · exact Or.inr (Or.inl k1)
  by_cases k2 : v.k = 2
  · exact Or.inr (Or.inr (Or.inl k2))
  by_cases k3 : v.k = 3
  · exact Or.inr (Or.inr (Or.inr (Or.inl k3)))
  by_cases k4 : v.k = 4
  · exact Or.inr (Or.inr (Or.inr (Or.inr k4)))
  · simp [isV, k0, k1, k2, k3, k4] at h

theorem eql_ifv (T : Nat → Nat) {n : Nat} {x y : V} (hx : isV n x = true) (hy : isV n y = true) (w : World) (hT : ∀ j, j < n → ∃ cs t, w.heap[T j]? = some (.cells cs t (0, 0))) :
    (binOp .eql 54 (ifv T x) (ifv T y)).run Tryz.prog w = .ok (.bool (alike T x y)) w := by
  have kx := kinds hx
  have ky := kinds hy
  have tx := fun h4 => isV_tab hx h4
  have ty := fun h4 => isV_tab hy h4
  obtain ⟨k, m, s, a⟩ := x
  obtain ⟨k', m', s', a'⟩ := y
  simp only at kx ky tx ty
  by_cases hk : k = k'
  case neg => rcases kx with rfl | rfl | rfl | rfl | rfl <;> rcases ky with rfl | rfl | rfl | rfl | rfl <;> first | exact absurd rfl hk | (show _ = _; kernel_rfl)
  subst hk
  rcases kx with rfl | rfl | rfl | rfl | rfl
  · simp only [isV, if_pos, Bool.and_eq_true, beq_iff_eq] at hx hy
    have e : alike T ⟨0, m, s, a⟩ ⟨0, m', s', a'⟩ = true := by simp [alike, eqV, hx.1, hx.2.1, hx.2.2, hy.1, hy.2.1, hy.2.2]
    rw [e]
    show _ = _
    kernel_rfl
  · have e := eq_truth (m == 1) (m' == 1) w
    have e2 : alike T ⟨1, m, s, a⟩ ⟨1, m', s', a'⟩ = ((m == 1) == (m' == 1)) := by
      simp [isV] at hx hy
      rcases hx.1 with rfl | rfl <;> rcases hy.1 with rfl | rfl <;> simp [alike, eqV, hx.2.1, hx.2.2, hy.2.1, hy.2.2]
    rw [e2]
    exact e
  · have e := eq_whole m m' w
    have e2 : alike T ⟨2, m, s, a⟩ ⟨2, m', s', a'⟩ = (m == m') := by
      simp [isV] at hx hy
      simp [alike, eqV, hx.1, hx.2, hy.1, hy.2]
    rw [e2]
    exact e
  · have e := eq_words s s' w
    have e2 : alike T ⟨3, m, s, a⟩ ⟨3, m', s', a'⟩ = (s.toList == s'.toList) := by
      simp [isV] at hx hy
      simp [alike, eqV, hx.1, hx.2.1, hy.1, hy.2.1]
    rw [e2]
    exact e
  · obtain ⟨a0, a1⟩ := tx rfl
    obtain ⟨b0, b1⟩ := ty rfl
    have e := eq_tab (T a.toNat) (T a'.toNat) w (hT _ (by omega)) (hT _ (by omega))
    have e2 : alike T ⟨4, m, s, a⟩ ⟨4, m', s', a'⟩ = (T a.toNat == T a'.toNat) := by simp [alike]
    rw [e2]
    exact e

end Go.Proofs.YtgflalfiopnmnaaGreatDoor

namespace Go.Proofs.YtgflalfiopnmnaaGreatDoor
open Go.RowKit Vl

def two {α : Type} (a b : α) (q : Nat) : α := if q = 0 then a else b

theorem Cfd.first {G : GrS} {w w1 : World} {m rc vc : Nat} {T M L : Nat → Nat} {K X : Nat → Nat → V} {ls : Nat → List Nat} {f : Nat → Nat} {ra va : Option Addr} {cb : Nat} (hd : Cfd G w w1 m T M L K X ls f (.slice ra m rc) (.slice va (G.off m) vc) cb) (hN : G.off m ≤ 400) (x : V) (w' : World) (hx : isV (G.off m) x = true) (hb : Below w1.heap.size w1 w') :
    Calls Tryz.prog 36 #[.agg #[.slice ra m rc, .slice va (G.off m) vc, .slice (some ⟨cb, 0, none⟩) (G.off m) (G.off m)], ifv T x] w' fun e w'' => e = .returned (ifv T (fstV f x)) ∧ Below w'.heap.size w' w'' := by
  obtain ⟨tb, hva, hrow⟩ : ∃ tb, (0 < G.off m → va = some ⟨tb, 0, none⟩) ∧ ∀ j, j < G.off m → w1.cell? ⟨tb, j, none⟩ = some (ptr (T j)) := by
    by_cases h0 : 0 < G.off m
    · obtain ⟨g, cap, e, _⟩ := hd.tabs.form h0
      cases e
      refine ⟨g, fun _ => rfl, fun j hj => ?_⟩
      obtain ⟨g', cap', e', h⟩ := owns_cell hd.tabs (k := j) (y := ptr (T j)) (by simp [hj])
      cases e'
      exact h
    · exact ⟨0, fun h => absurd h h0, fun j hj => by omega⟩
  exact first_any (G.off m) m rc vc tb cb T M L (sK K ls) (sK X ls) f ra va x w' hx hN hd.is.low hva (show ∀ j, _ from fun j hj => (hb.cell (World.block_lt_of_cell? _ _ (hrow j hj))).trans (hrow j hj)) (show ∀ j, _ from fun j hj => (hb.cell (World.block_lt_of_cell? _ _ (hd.cls.cell hj))).trans (hd.cls.cell hj)) (hd.tbs.below hb)

end Go.Proofs.YtgflalfiopnmnaaGreatDoor

namespace Go.Proofs.YtgflalfiopnmnaaGreatDoor
open Go.RowKit Vl

theorem okT_more {N n L : Nat} {K X : Nat → V} (h : OkT N L K X) : OkT (N + n) L K X := ⟨h.len, fun c hc => ⟨(h.all c hc).key, isV_more (h.all c hc).val, (h.all c hc).some, (h.all c hc).once⟩⟩
theorem okT_sh {N n L : Nat} {K X : Nat → V} (h : OkT n L K X) : OkT (N + n) L K (fun c => sh N (X c)) := ⟨h.len, fun c hc => ⟨(h.all c hc).key, sh_isV (h.all c hc).val, by rw [sh_k]; exact (h.all c hc).some, (h.all c hc).once⟩⟩
theorem okT_join {n m : Nat} {u u' : V} {L L' : Nat → Nat} {K X K' X' : Nat → Nat → V} (h : OkG n u L K X) (h' : OkG m u' L' K' X') : ∀ r, r < n + m → OkT (n + m) (jn n L L' r) (jn n K K' r) (jn n X (fun j c => sh n (X' j c)) r) := fun r hr => by
  by_cases e : r < n
  · rw [jn_lt e, jn_lt e, jn_lt e]
    exact okT_more (h.all r e)
  · rw [jn_ge e, jn_ge e, jn_ge e]
    exact okT_sh (h'.all (r - n) (by omega))

theorem fstV_k (f : Nat → Nat) (v : V) : (fstV f v).k = v.k := by unfold fstV; split <;> rfl
theorem fstV_a {f : Nat → Nat} {v : V} (h : v.k = 4) : (fstV f v).a.toNat = f v.a.toNat := by unfold fstV; rw [if_pos h]; simp
theorem fstV_ne {f : Nat → Nat} {v : V} (h : v.k ≠ 4) : fstV f v = v := by unfold fstV; rw [if_neg h]
theorem fstV_isV {f : Nat → Nat} {N : Nat} (hf : ∀ i, i < N → f i ≤ i) {v : V} (h : isV N v = true) : isV N (fstV f v) = true := by
  by_cases h4 : v.k = 4
  · obtain ⟨a0, a1⟩ := isV_tab h h4
    have hl := hf v.a.toNat (by omega)
    unfold fstV
    rw [if_pos h4]
    unfold isV at h ⊢
    rw [if_neg (by omega), if_neg (by omega), if_neg (by omega), if_neg (by omega), if_pos h4] at h
    rw [if_neg (by simp only; omega), if_neg (by simp only; omega), if_neg (by simp only; omega), if_neg (by simp only; omega), if_pos (by simp only; omega)]
    simp only [Bool.and_eq_true, decide_eq_true_eq] at h ⊢
    refine ⟨h.1, h.2.1, ?_, ?_⟩ <;> omega
  · rw [fstV_ne h4]; exact h
theorem alike_fst {T f : Nat → Nat} {N : Nat} (hinj : ∀ i j, i < N → j < N → T i = T j → i = j) (hf : ∀ i, i < N → f i ≤ i) {x y : V} (hx : isV N x = true) (hy : isV N y = true) : alike T (fstV f x) (fstV f y) = alike f x y := by
  rw [Bool.eq_iff_iff, alike_iff, alike_iff, fstV_k, fstV_k]
  constructor
  · rintro ⟨h1, h2, h3⟩
    refine ⟨h1, fun h4 => ?_, fun h4 => ?_⟩
    · have e := h2 h4
      rw [fstV_a h4, fstV_a (h1.symm.trans h4)] at e
      obtain ⟨a0, a1⟩ := isV_tab hx h4
      obtain ⟨b0, b1⟩ := isV_tab hy (h1.symm.trans h4)
      exact hinj _ _ (by have := hf x.a.toNat (by omega); omega) (by have := hf y.a.toNat (by omega); omega) e
    · have e := h3 h4
      rw [fstV_ne h4, fstV_ne (by rw [← h1]; exact h4)] at e
      exact e
  · rintro ⟨h1, h2, h3⟩
    refine ⟨h1, fun h4 => ?_, fun h4 => ?_⟩
    · rw [fstV_a h4, fstV_a (h1.symm.trans h4), h2 h4]
    · rw [fstV_ne h4, fstV_ne (by rw [← h1]; exact h4)]
      exact h3 h4
def SameRes (e : Ending) (n m : Nat) (u u' : V) (L L' : Nat → Nat) (K X K' X' : Nat → Nat → V) : Prop :=
  ((OkG n u L K X ∧ OkG m u' L' K' X') ∧ ∃ f : Nat → Nat, ClsAre (n + m) (jn n L L') (jn n K K') (jn n X (fun j c => sh n (X' j c))) f ∧ e = .returned (.bool (alike f u (sh n u')))) ∨ (¬ (OkG n u L K X ∧ OkG m u' L' K' X') ∧ e = .returned (.bool false))

end Go.Proofs.YtgflalfiopnmnaaGreatDoor

namespace Go.Proofs.YtgflalfiopnmnaaGreatDoor
open Go.RowKit Vl
open Go.ChangeShapes Go.WideShapes Go.ChangeAt Go.Joins

instance : Inhabited V := ⟨⟨0, 0, ⟨#[]⟩, 0⟩⟩

section
variable {H : Type} {enc : TypeId × Value → H} {w : World} {base : Nat} {spare : Nat → Bool} {held : Bool}

end

end Go.Proofs.YtgflalfiopnmnaaGreatDoor

namespace Go.Proofs.YtgflalfiopnmnaaGreatDoor
open Go.RowKit Vl
open Go.ChangeShapes Go.WideShapes Go.ChangeAt Go.Joins

end Go.Proofs.YtgflalfiopnmnaaGreatDoor

namespace Go.Proofs.YtgflalfiopnmnaaGreatDoor
open Go.RowKit Vl

end Go.Proofs.YtgflalfiopnmnaaGreatDoor

namespace Go.Proofs.YtgflalfiopnmnaaGreatDoor
open Go.RowKit Vl

end Go.Proofs.YtgflalfiopnmnaaGreatDoor

namespace Go.Proofs.YtgflalfiopnmnaaGreatDoor
open Go.RowKit Vl

end Go.Proofs.YtgflalfiopnmnaaGreatDoor

namespace Go.Proofs.YtgflalfiopnmnaaGreatDoor
open Go.RowKit Vl

end Go.Proofs.YtgflalfiopnmnaaGreatDoor

namespace Go.Proofs.YtgflalfiopnmnaaGreatDoor
open Go.RowKit Vl

end Go.Proofs.YtgflalfiopnmnaaGreatDoor

namespace Go.Proofs.YtgflalfiopnmnaaGreatDoor
open Go.RowKit Vl

end Go.Proofs.YtgflalfiopnmnaaGreatDoor

namespace Go.Proofs.YtgflalfiopnmnaaGreatDoor
open Go.RowKit Vl
open Go.ChangeShapes Go.WideShapes Go.ChangeAt Go.Joins

end Go.Proofs.YtgflalfiopnmnaaGreatDoor

namespace Go.Proofs.YtgflalfiopnmnaaGreatDoor
open Go.RowKit Vl

def fX (X : Nat → Nat → V) (ls : Nat → List Nat) (f : Nat → Nat) (r c : Nat) : V := fstV f (sK X ls r c)

theorem SortI.ne {K : Nat → V} {L : Nat} {ls : List Nat} (h : SortI K L ls) {i j : Nat} (hi : i < j) (hj : j < L) : ls.getD i 0 ≠ ls.getD j 0 := by
  have hn : ls.Nodup := h.perm.nodup_iff.2 List.nodup_range
  have hl := h.len
  simp only [List.getD_eq_getElem?_getD]
  rw [List.getElem?_eq_getElem (by omega), List.getElem?_eq_getElem (by omega)]
  simp only [Option.getD_some]
  exact List.pairwise_iff_getElem.1 hn i j (by omega) (by omega) hi
theorem Vl.OkT.once {n L : Nat} {K X : Nat → V} (h : OkT n L K X) {a b : Nat} (ha : a < L) (hb : b < L) (hne : a ≠ b) : K a ≠ K b := fun e => by
  rcases Nat.lt_or_gt_of_ne hne with h' | h'
  · have := (h.all b hb).once a h'
    rw [eqV_iff.2 e] at this
    cases this
  · have := (h.all a ha).once b h'
    rw [eqV_iff.2 e.symm] at this
    cases this

theorem okG_shr {n : Nat} {u : V} {L : Nat → Nat} {K X : Nat → Nat → V} {ls : Nat → List Nat} {f : Nat → Nat} (hok : OkG n u L K X) (hs : ∀ r, r < n → SortI (K r) (L r) (ls r)) (hf : ∀ i, i < n → f i ≤ i) : OkG n (fstV f u) L (sK K ls) (fX X ls f) := by
  refine ⟨hok.len, fstV_isV hf hok.root, fun r hr => ⟨(hok.all r hr).len, fun c hc => ?_⟩⟩
  have hl := (hs r hr).lt hc
  have hp := (hok.all r hr).all _ hl
  refine ⟨hp.key, fstV_isV hf hp.val, ?_, fun j hj => ?_⟩
  · show (fstV f _).k ≠ 0
    rw [fstV_k]
    exact hp.some
  · have := (hok.all r hr).once ((hs r hr).lt (show j < L r by omega)) hl ((hs r hr).ne hj hc)
    show eqV (K r ((ls r).getD j 0)) (K r ((ls r).getD c 0)) = false
    cases h : eqV (K r ((ls r).getD j 0)) (K r ((ls r).getD c 0))
    · rfl
    · exact absurd (eqV_iff.1 h) this

def ShrIs (w w' : World) (e : Ending) (n : Nat) (u : V) (L : Nat → Nat) (K X : Nat → Nat → V) : Prop :=
  (OkG n u L K X ∧ ∃ (f : Nat → Nat) (ls : Nat → List Nat), ((∀ r, r < n → SortI (K r) (L r) (ls r)) ∧ IsCls n L (sK K ls) (sK X ls) f) ∧ CanonIs w w' e n (fstV f u) L (sK K ls) (fX X ls f)) ∨ (¬ OkG n u L K X ∧ e = .returned (.agg #[.int .i64 0, .int .i64 0, .string ⟨#[]⟩, .int .i64 0, .slice none 0 0]))

end Go.Proofs.YtgflalfiopnmnaaGreatDoor

namespace Go.Proofs.YtgflalfiopnmnaaGreatDoor.Aw
open Vl

theorem lt_trans {a b c : V} (h : less a b = true) (k : less b c = true) : less a c = true := by
  cases e : less a c with
  | true => rfl
  | false =>
    have := le_trans e (less_asymm h)
    rw [k] at this
    cases this
theorem lt_irrefl (a : V) : less a a = false := by
  cases e : less a a with
  | false => rfl
  | true => have := less_asymm e; rw [e] at this; cases this

def ins (k : V) : List V → List V
  | [] => [k]
  | x :: xs => if less k x = true then k :: x :: xs else if eqV k x = true then x :: xs else x :: ins k xs
def kidsOf (ks : List V) : List V := ks.foldr ins []
def Strict (l : List V) : Prop := l.Pairwise fun a b => less a b = true

theorem mem_ins (k : V) : ∀ (l : List V) (x : V), x ∈ ins k l ↔ x = k ∨ x ∈ l
  | [], x => by simp [ins]
  | y :: ys, x => by
    unfold ins
    split
    · simp
    · split
      · rename_i h
        have : k = y := eqV_iff.1 h
        simp [this]
      · simp only [List.mem_cons, mem_ins k ys x]
        constructor
        · rintro (h | h | h)
          · exact Or.inr (Or.inl h)
          · exact Or.inl h
          · exact Or.inr (Or.inr h)
        · rintro (h | h | h)
          · exact Or.inr (Or.inl h)
          · exact Or.inl h
          · exact Or.inr (Or.inr h)
theorem ins_strict {k : V} (hk : isK k = true) : ∀ (l : List V), (∀ x ∈ l, isK x = true) → Strict l → Strict (ins k l)
  | [], _, _ => by simp [ins, Strict]
  | y :: ys, ha, h => by
    obtain ⟨h1, h2⟩ := List.pairwise_cons.1 h
    unfold ins
    split
    · rename_i hl
      refine List.pairwise_cons.2 ⟨fun z hz => ?_, h⟩
      rcases List.mem_cons.1 hz with rfl | hz
      · exact hl
      · exact lt_trans hl (h1 z hz)
    · split
      · exact h
      · rename_i hl he
        refine List.pairwise_cons.2 ⟨fun z hz => ?_, ins_strict hk ys (fun x hx => ha x (by simp [hx])) h2⟩
        rcases (mem_ins k ys z).1 hz with rfl | hz
        · cases e : less y z with
          | true => rfl
          | false => exact absurd (eqV_iff.2 (key_one hk (ha y (by simp)) ((Bool.not_eq_true _).mp hl) e)) he
        · exact h1 z hz
theorem mem_kidsOf : ∀ (ks : List V) (x : V), x ∈ kidsOf ks ↔ x ∈ ks
  | [], x => by simp [kidsOf]
  | k :: ks, x => by
    have := mem_kidsOf ks x
    unfold kidsOf at this ⊢
    rw [List.foldr_cons, mem_ins, this]
    simp
theorem kidsOf_strict : ∀ (ks : List V), (∀ k ∈ ks, isK k = true) → Strict (kidsOf ks)
  | [], _ => by simp [kidsOf, Strict]
  | k :: ks, h => by
    have := kidsOf_strict ks (fun x hx => h x (by simp [hx]))
    refine ins_strict (h k (by simp)) _ (fun x hx => ?_) this
    exact h x (by rw [List.mem_cons]; exact Or.inr ((mem_kidsOf ks x).1 hx))
theorem strict_one : ∀ {l m : List V}, Strict l → Strict m → (∀ x, x ∈ l ↔ x ∈ m) → l = m
  | [], [], _, _, _ => rfl
  | [], b :: m, _, _, h => by have := (h b).2 (by simp); cases this
  | a :: l, [], _, _, h => by have := (h a).1 (by simp); cases this
  | a :: l, b :: m, h1, h2, h => by
    obtain ⟨p1, p2⟩ := List.pairwise_cons.1 h1
    obtain ⟨q1, q2⟩ := List.pairwise_cons.1 h2
    have e : a = b := by
      by_cases e : a = b
      · exact e
      · have ha : a ∈ m := by
          rcases List.mem_cons.1 ((h a).1 (by simp)) with h | h
          · exact absurd h e
          · exact h
        have hb : b ∈ l := by
          rcases List.mem_cons.1 ((h b).2 (by simp)) with h | h
          · exact absurd h.symm e
          · exact h
        have := less_asymm (p1 b hb)
        rw [q1 a ha] at this
        cases this
    subst e
    rw [strict_one p2 q2 (fun x => ?_)]
    constructor
    · intro hx
      rcases List.mem_cons.1 ((h x).1 (by simp [hx])) with h' | h'
      · have := p1 x hx; rw [h', lt_irrefl] at this; cases this
      · exact h'
    · intro hx
      rcases List.mem_cons.1 ((h x).2 (by simp [hx])) with h' | h'
      · have := q1 x hx; rw [h', lt_irrefl] at this; cases this
      · exact h'

theorem mem_keys {K : Nat → V} {c : Nat} {k : V} : k ∈ keys K c ↔ ∃ j, j < c ∧ K j = k := by simp [keys]
theorem atKey_at {n L : Nat} {K X : Nat → V} (h : OkT n L K X) {c : Nat} (hc : c < L) : atKey L K X (K c) = X c :=
  atKey_hit hc (eqV_iff.2 rfl) (fun i hi => (h.all c hc).once i hi)
theorem atKey_no {L : Nat} {K X : Nat → V} {k : V} (h : k ∉ keys K L) : atKey L K X k = zeroV :=
  atKey_none (fun j hj => by
    cases e : eqV (K j) k with
    | false => rfl
    | true => exact absurd (mem_keys.2 ⟨j, hj, eqV_iff.1 e⟩) h)
theorem perm_at {L : Nat} {K : Nat → V} {ls : List Nat} (h : SortI K L ls) {c : Nat} (hc : c < L) : ∃ q, q < L ∧ ls.getD q 0 = c := by
  obtain ⟨q, hq, e⟩ := List.mem_iff_getElem.1 (h.perm.symm.subset (List.mem_range.2 hc))
  exact ⟨q, by rw [← h.len]; exact hq, by rw [List.getD_eq_getElem?_getD, List.getElem?_eq_getElem hq]; exact e⟩

def sysOf (n : Nat) (L : Nat → Nat) (K X : Nat → Nat → V) (L' : Nat → Nat) (K' X' : Nat → Nat → V) (f : Nat → Nat) : Sys where
  tab v := v.k == 4
  atA x k := atKey (L x.a.toNat) (K x.a.toNat) (X x.a.toNat) k
  atB y k := atKey (L' y.a.toNat) (K' y.a.toNat) (X' y.a.toNat) k
  kids x y := kidsOf (keys (K x.a.toNat) (L x.a.toNat) ++ keys (K' y.a.toNat) (L' y.a.toNat))
  D x y := !(f x.a.toNat == f (n + y.a.toNat))
def goodV (n m : Nat) (x y : V) : Prop := isV n x = true ∧ isV m y = true

theorem tab_one {n : Nat} {x y : V} (hx : isV n x = true) (hy : isV n y = true) (h : x.k = 4) (h' : y.k = 4) (e : x.a.toNat = y.a.toNat) : x = y := by
  obtain ⟨a0, a1⟩ := isV_tab hx h
  obtain ⟨b0, b1⟩ := isV_tab hy h'
  unfold isV at hx hy
  rw [if_neg (by omega), if_neg (by omega), if_neg (by omega), if_neg (by omega), if_pos h] at hx
  rw [if_neg (by omega), if_neg (by omega), if_neg (by omega), if_neg (by omega), if_pos h'] at hy
  simp only [Bool.and_eq_true, beq_iff_eq, decide_eq_true_eq] at hx hy
  apply eqV_iff.1
  simp only [eqV, Bool.and_eq_true, beq_iff_eq]
  refine ⟨by omega, by omega, by rw [hx.2.1, hy.2.1], by omega⟩

theorem sys_ix (n m : Nat) (L : Nat → Nat) (K X : Nat → Nat → V) (L' : Nat → Nat) (K' X' : Nat → Nat → V) (f : Nat → Nat) : Ix (sysOf n L K X L' K' X' f) (goodV n m) (fun x y => x.a.toNat * m + y.a.toNat) (n * m) := by
  refine ⟨fun x y hg hx hy => ?_, fun x y x' y' hg hx hy hg' hx' hy' e => ?_⟩
  · have hx : x.k = 4 := by simpa [sysOf] using hx
    have hy : y.k = 4 := by simpa [sysOf] using hy
    obtain ⟨a0, a1⟩ := isV_tab hg.1 hx
    obtain ⟨b0, b1⟩ := isV_tab hg.2 hy
    have h1 : x.a.toNat + 1 ≤ n := by omega
    have h2 : (x.a.toNat + 1) * m ≤ n * m := Nat.mul_le_mul_right _ h1
    rw [Nat.add_mul] at h2
    show x.a.toNat * m + y.a.toNat < n * m
    omega
  · have hx : x.k = 4 := by simpa [sysOf] using hx
    have hy : y.k = 4 := by simpa [sysOf] using hy
    have hx' : x'.k = 4 := by simpa [sysOf] using hx'
    have hy' : y'.k = 4 := by simpa [sysOf] using hy'
    obtain ⟨b0, b1⟩ := isV_tab hg.2 hy
    obtain ⟨c0, c1⟩ := isV_tab hg'.2 hy'
    have e : x.a.toNat * m + y.a.toNat = x'.a.toNat * m + y'.a.toNat := e
    have h1 : y.a.toNat = y'.a.toNat := by
      have h := congrArg (· % m) e
      simp only [Nat.mul_add_mod_self_right] at h
      rw [Nat.mod_eq_of_lt (by omega), Nat.mod_eq_of_lt (by omega)] at h
      exact h
    have h2 : x.a.toNat = x'.a.toNat := by
      rw [h1] at e
      exact Nat.eq_of_mul_eq_mul_right (show 0 < m by omega) (Nat.add_right_cancel e)
    exact ⟨tab_one hg.1 hg'.1 hx hx' h2, tab_one hg.2 hg'.2 hy hy' h1⟩

theorem sys_next {n m : Nat} {u u' : V} {L : Nat → Nat} {K X : Nat → Nat → V} {L' : Nat → Nat} {K' X' : Nat → Nat → V} {f : Nat → Nat} (h : OkG n u L K X) (h' : OkG m u' L' K' X') : Nexts (sysOf n L K X L' K' X' f) (goodV n m) := fun x y hg hx hy k _ => by
  have hx : x.k = 4 := by simpa [sysOf] using hx
  have hy : y.k = 4 := by simpa [sysOf] using hy
  obtain ⟨a0, a1⟩ := isV_tab hg.1 hx
  obtain ⟨b0, b1⟩ := isV_tab hg.2 hy
  exact ⟨isV_at (h.all x.a.toNat (by omega)) k, isV_at (h'.all y.a.toNat (by omega)) k⟩

theorem order_kids {n m : Nat} {L L' : Nat} {K X K' X' : Nat → V} {ls : List Nat} (h : OkT n L K X) (h' : OkT m L' K' X') (hs : SortI K L ls) (hno : ∀ k ∈ kidsOf (keys K L ++ keys K' L'), ¬ (¬ ((atKey L K X k).k = 4 ∧ (atKey L' K' X' k).k = 4) ∧ atKey L K X k ≠ atKey L' K' X' k)) : keys (byI K ls) L = kidsOf (keys K L ++ keys K' L') := by
  have hk : ∀ k ∈ keys K L ++ keys K' L', isK k = true := fun k hk => by
    rcases List.mem_append.1 hk with hk | hk
    · obtain ⟨c, hc, rfl⟩ := mem_keys.1 hk; exact (h.all c hc).key
    · obtain ⟨c, hc, rfl⟩ := mem_keys.1 hk; exact (h'.all c hc).key
  refine strict_one ?_ (kidsOf_strict _ hk) (fun x => ?_)
  · unfold Strict keys
    rw [List.pairwise_map]
    rw [List.pairwise_iff_getElem]
    intro a b ha hb hab
    simp only [List.getElem_range]
    simp only [List.length_range] at ha hb
    have hsw := hs.sort
    unfold SortW at hsw
    rw [List.pairwise_iff_getElem] at hsw
    have hl := hs.len
    have h1 := hsw a b (by omega) (by omega) hab
    have ga : ls.getD a 0 = ls[a] := by rw [List.getD_eq_getElem?_getD, List.getElem?_eq_getElem (by omega)]; rfl
    have gb : ls.getD b 0 = ls[b] := by rw [List.getD_eq_getElem?_getD, List.getElem?_eq_getElem (by omega)]; rfl
    rw [← ga, ← gb] at h1
    have hne := SortI.ne hs hab hb
    show less (K (ls.getD a 0)) (K (ls.getD b 0)) = true
    cases e : less (K (ls.getD a 0)) (K (ls.getD b 0)) with
    | true => rfl
    | false => exact absurd (key_one (h.all _ (hs.lt ha)).key (h.all _ (hs.lt hb)).key e h1) (Vl.OkT.once h (hs.lt ha) (hs.lt hb) hne)
  · rw [mem_kidsOf, List.mem_append]
    constructor
    · intro hx
      obtain ⟨c, hc, rfl⟩ := mem_keys.1 hx
      exact Or.inl (mem_keys.2 ⟨_, hs.lt hc, rfl⟩)
    · intro hx
      have hin : x ∈ keys K L := by
        rcases hx with hx | hx
        · exact hx
        · by_cases hh : x ∈ keys K L
          · exact hh
          · exfalso
            obtain ⟨c, hc, rfl⟩ := mem_keys.1 hx
            have hz := atKey_no (X := X) hh
            have hv : atKey L' K' X' (K' c) = X' c := atKey_at h' hc
            refine hno (K' c) ((mem_kidsOf _ _).2 (List.mem_append.2 (Or.inr hx))) ?_
            rw [hz, hv]
            refine ⟨fun e => by have := e.1; simp [zeroV] at this, fun e => (h'.all c hc).some ?_⟩
            rw [← e]
            rfl
      obtain ⟨c, hc, rfl⟩ := mem_keys.1 hin
      obtain ⟨q, hq, e⟩ := perm_at hs hc
      exact mem_keys.2 ⟨q, hq, by unfold byI; rw [e]⟩

theorem split_at {P : V → Prop} {ks : List V} {k : V} (hs : Strict (kidsOf ks)) (hk : k ∈ ks) (hmin : ∀ x ∈ ks, P x → less x k = false) : ∃ pre post, kidsOf ks = pre ++ k :: post ∧ ∀ x ∈ pre, ¬ P x := by
  obtain ⟨pre, post, e⟩ := List.append_of_mem ((mem_kidsOf ks k).2 hk)
  refine ⟨pre, post, e, fun x hx hp => ?_⟩
  rw [e] at hs
  have h1 := (List.pairwise_append.1 hs).2.2 x hx k (by simp)
  have h2 := hmin x ((mem_kidsOf ks x).1 (by rw [e]; simp [hx])) hp
  rw [h1] at h2
  cases h2

theorem atKey_sh (N L : Nat) (K X : Nat → V) (k : V) : atKey L K (fun c => sh N (X c)) k = sh N (atKey L K X k) := by
  unfold atKey
  cases (List.range L).find? (fun j => eqV (K j) k) with
  | none => simp [sh, zeroV]
  | some j => rfl

end Go.Proofs.YtgflalfiopnmnaaGreatDoor.Aw

namespace Go.Proofs.YtgflalfiopnmnaaGreatDoor.Aw
open Vl

theorem IReach.dead {S : Sys} {r : E} {j : Nat} {q : List E} (h : IReach S r j q) (hl : S.live r = false) : q = [] := by
  induction h with
  | start =>
    unfold Sys.iadd
    unfold Sys.live at hl
    rw [hl]
    simp
  | @step j q e h1 h2 h3 ih =>
    rw [ih] at h2
    simp at h2

theorem IDone.dead {S : Sys} {r : E} {ans : List V} (h : IDone S r ans) (hl : S.live r = false) : ans = [] := by
  rcases h with ⟨j, q, e, pre, k, post, h1, h2, _⟩ | ⟨j, q, _, _, rfl⟩
  · rw [h1.dead hl] at h2
    simp at h2
  · rfl

section
variable {n m : Nat} {u u' : V} {L : Nat → Nat} {K X : Nat → Nat → V} {L' : Nat → Nat} {K' X' : Nat → Nat → V} {f : Nat → Nat}

theorem kidsOf_comm {xs ys : List V} (h : ∀ k ∈ xs ++ ys, isK k = true) : kidsOf (xs ++ ys) = kidsOf (ys ++ xs) := by
  refine strict_one (kidsOf_strict _ h) (kidsOf_strict _ (fun k hk => h k ?_)) (fun x => ?_)
  · rw [List.mem_append] at hk ⊢; exact hk.symm
  · rw [mem_kidsOf, mem_kidsOf, List.mem_append, List.mem_append]; exact Or.comm

theorem keys_one {l l' : Nat} {k x k' x' : Nat → V} {ls ls' : List Nat} (h : OkT n l k x) (h' : OkT m l' k' x') (hs : SortI k l ls) (hs' : SortI k' l' ls') (hno : ∀ z ∈ kidsOf (keys k l ++ keys k' l'), ¬ (¬ ((atKey l k x z).k = 4 ∧ (atKey l' k' x' z).k = 4) ∧ atKey l k x z ≠ atKey l' k' x' z)) : l = l' ∧ ∀ c, c < l → byI k ls c = byI k' ls' c := by
  have hk : ∀ z ∈ keys k l ++ keys k' l', isK z = true := fun z hz => by
    rcases List.mem_append.1 hz with hz | hz
    · obtain ⟨c, hc, rfl⟩ := mem_keys.1 hz; exact (h.all c hc).key
    · obtain ⟨c, hc, rfl⟩ := mem_keys.1 hz; exact (h'.all c hc).key
  have e1 := order_kids h h' hs hno
  have e2 := order_kids h' h hs' (fun z hz hp => by
    rw [← kidsOf_comm hk] at hz
    exact hno z hz ⟨fun hh => hp.1 ⟨hh.2, hh.1⟩, fun hh => hp.2 hh.symm⟩)
  rw [← kidsOf_comm hk, ← e1] at e2
  have hl : l = l' := by
    have := congrArg List.length e2
    rw [keys_len, keys_len] at this
    exact this.symm
  subst hl
  refine ⟨rfl, fun c hc => ?_⟩
  have := congrArg (fun l => l[c]?) e2
  unfold keys at this
  simp only [List.getElem?_map, List.getElem?_range hc, Option.map_some] at this
  exact (Option.some.inj this).symm

theorem IDone.same (h' : OkG m u' L' K' X') {ans : List V} (hI : IDone (sysOf n L K X L' K' X' f) ⟨u, u', []⟩ ans) (ha : alike f u (sh n u') = true) : ans = [] := by
  refine hI.dead ?_
  unfold Sys.live Sys.cp sysOf
  simp only [Bool.and_eq_false_iff, Bool.not_eq_false', beq_iff_eq, beq_eq_false_iff_ne]
  by_cases h4 : u.k = 4 ∧ u'.k = 4
  · right
    have := (alike_iff.1 ha).2.1 h4.1
    obtain ⟨b0, b1⟩ := isV_tab h'.root h4.2
    unfold sh at this
    rw [if_pos h4.2] at this
    rw [this]
    congr 1
    simp only
    omega
  · left
    by_cases h1 : u.k = 4
    · exact Or.inr (fun h2 => h4 ⟨h1, h2⟩)
    · exact Or.inl h1

end

end Go.Proofs.YtgflalfiopnmnaaGreatDoor.Aw
