import Derived.Test.YtgflalfiopnmnaaS10
import Derived.Test.YtgflalfiopnmnaaS8
namespace Go.Proofs.Ytgflalfiopnmnaa
open Go.RowKit Vl

/-- The classes that a variable's slice tells. -/
def clsVar (w : World) (c i : Nat) : Nat := match w.cell? ⟨c, 0, none⟩ with
  | some v => clsIn w v i
  | none => 0
theorem clsVar_row {w : World} {c g n : Nat} {cl : Nat → Nat} {t : TypeId} (hv : w.heap[c]? = some (.cells #[.slice (some ⟨g, 0, none⟩) n n] t (0, 0))) (h : w.rowIs g 3 n (fun i => .int .i64 (cl i : Nat))) {i : Nat} (hi : i < n) : clsVar w c i = cl i := by
  unfold clsVar
  rw [(one_at hv).1]
  exact clsIn_row h hi

theorem Try.infoIS : (Try.prog.info? 32).map (fun i => (i.zero, i.size, i.bytes)) = some (some (.slice none 0 0), 1, 24) := by kernel_rfl

/-- The leads are told, up to table i. -/
def LdRel (w3 : World) (lb n : Nat) (L : Nat → Nat) (X : Nat → Nat → V) (ii : Value) (wr : World) : Prop :=
  ∃ (i : Nat) (lv : Nat → Value), i ≤ n ∧ ii = .int .i64 (i : Nat) ∧ Hid (wr.rowIs lb 32 n (fun j => if j < i then lv j else .slice none 0 0)) ∧ Hid (∀ j, j < i → wr.ownsRow w3.heap.size 3 1 (lv j) (ldsTo (X j) (L j)).length (natCells (ldsTo (X j) (L j)))) ∧ Hid (Only (fun k => k = lb) w3 wr)

theorem lds_lt {n : Nat} {L : Nat → Nat} {X : Nat → Nat → V} (hg : Good n L X) {r : Nat} (hr : r < n) : ∀ c, c ≤ L r → ∀ q ∈ ldsTo (X r) c, q < n
  | 0, _ => by simp [ldsTo]
  | c + 1, hc => by
    intro q hq
    rw [ldsTo_succ] at hq
    by_cases h4 : (X r c).k = 4
    · rw [if_pos h4] at hq
      rcases List.mem_append.1 hq with h | h
      · exact lds_lt hg hr c (by omega) q h
      · simp at h
        have := isV_tab (hg r hr c (by omega)) h4
        omega
    · rw [if_neg h4] at hq
      exact lds_lt hg hr c (by omega) q hq

/-- The classes, in the variable that holds them. -/
def CvRel (w4 : World) (c4 b n : Nat) (L : Nat → Nat) (K X : Nat → Nat → V) (wr : World) : Prop :=
  ∃ (g : Nat) (cl : Nat → Nat), Hid (b ≤ g) ∧ Hid (wr.heap[c4]? = some (.cells #[.slice (some ⟨g, 0, none⟩) n n] 32 (0, 0))) ∧ Hid (wr.rowIs g 3 n (fun i => .int .i64 (cl i : Nat))) ∧ Hid (OnWay n L K X cl) ∧ Hid (Facy n L K X cl) ∧ Hid (Only (fun k => k = c4) w4 wr)

set_option maxHeartbeats 8000000 in
set_option maxRecDepth 100000 in
/-- 'classesOf'. -/
theorem classesOf_any (n : Nat) (T M : Nat → Nat) (L : Nat → Nat) (K X : Nat → Nat → V) (ta : Option Addr) (tb cp : Nat) (w : World) (hn : n ≤ 400) (HL : Hid (∀ r, r < n → L r ≤ 100)) (HG : Hid (Good n L X)) (hta : 0 < n → ta = some ⟨tb, 0, none⟩) (HR : Hid (∀ j, j < n → w.cell? ⟨tb, j, none⟩ = some (ptr (T j)))) (HT : Hid (Tbs w n T M (fun j => (j : Nat)) L K X)) :
    Calls Try.prog 73 #[.slice ta n cp] w fun e w' => (∃ (g : Nat) (f : Nat → Nat), e = .returned (.slice (some ⟨g, 0, none⟩) n n) ∧ w.heap.size ≤ g ∧ w'.rowIs g 3 n (fun i => .int .i64 (f i : Nat)) ∧ IsCls n L K X f) ∧ Below w.heap.size w w' := by
  have hmm := @run_makeMap Try.prog
  have hmk := run_make_n 45 32 _ 1 24 Try.underlying45 Try.infoIS n (by omega) (by omega)
  simp only [Nat.mul_one] at hmk
  have A3 := alloc3 w (.cells #[.slice ta n cp] 58) (.map #[] 0) (.cells #[.map (some (w.heap.size + 1))] 166)
  obtain ⟨w1, hw1⟩ : ∃ w1, w1 = ((w.alloc (.cells #[.slice ta n cp] 58)).alloc (.map #[] 0)).alloc (.cells #[.map (some (w.heap.size + 1))] 166) := ⟨_, rfl⟩
  rw [← hw1] at A3
  have HB1 : Hid (Below w.heap.size w w1) := A3.2.2.2.2
  have hs1 : w1.heap.size = w.heap.size + 3 := A3.2.2.2.1
  have HM1 : Hid (MapG pAgg w1 (w.heap.size + 1) (knM (knAll L K X 0) 0)) := ⟨#[], 0, A3.2.1, rfl⟩
  have HT1 : Hid (Tbs w1 n T M (fun j => (j : Nat)) L K X) := HT.out.below HB1.out
  have htl : ∀ j, j < n → tb < w.heap.size := fun j hj => World.block_lt_of_cell? _ _ (HR.out j hj)
  have HC1 : Hid (Cl1 w1 w.heap.size (w.heap.size + 2) ta tb n cp (w.heap.size + 1) T) := ⟨hta, A3.1, A3.2.2.1, fun j hj => (HB1.out.cell (p := ⟨tb, j, none⟩) (htl j hj)).trans (HR.out j hj), by omega, by omega, fun h => by have := htl 0 h; omega⟩
  have HMne : Hid (∀ j, j < n → M j ≠ w.heap.size + 1) := show ∀ j, _ from fun j hj => by
    obtain ⟨l, h1, _⟩ := HT.out.map j hj
    have := h1.lt
    omega
  have hcf : ∀ args w, (callFunc 98 args).run Try.prog w = .ok (.enter 98 args) w := Try.call98
  have hgr := grouped_any 98 w.heap.size (w.heap.size + 2) n hn (lk1 L K X) (fun i x => Only (fun k => k = w.heap.size + 1) w1 x ∧ MapG pAgg x (w.heap.size + 1) (knM (knAll L K X i) 0)) (fun k => k = w.heap.size + 1) w1 hcf ⟨Only.refl _ _, HM1.out⟩ (show ∀ k, _ from fun k hk => by omega)
    (show ∀ i w' w'', _ from fun i w' w'' h ho => ⟨⟨ho.os.trans h.1.os, ho.tape.trans h.1.tape, ho.output.trans h.1.output, Nat.le_trans h.1.size ho.size, fun k hk hne => by rw [ho.block k (Nat.lt_of_lt_of_le hk h.1.size) (by omega), h.1.block k hk hne]⟩, h.2.same (ho.block _ h.2.lt (by omega))⟩)
    (show ∀ i w', _ from fun i x hi h => (clos1_any n T M L K X i w.heap.size (w.heap.size + 2) ta tb cp (w.heap.size + 1) (knAll L K X i) x hi (HL.out i hi) (by have := knAll_len K X HL.out i (by omega); omega) HG (HT1.out.onlyM h.1 HM1.out HMne.out) h.2 (HC1.out.only h.1 (fun k _ hne => hne))).mono (fun e x' ⟨h1, h2, h3⟩ => ⟨h1, ⟨h.1.trans h3, h2⟩, h3⟩))
  go_enter Try.func73, Try.ntmps73
  have c0 : w1.cell? ⟨w.heap.size, 0, none⟩ = some (.slice ta n cp) := (one_at A3.1).1
  rw [hw1] at c0
  clear A3
  go_wp2_with fail
  rw [← hw1]
  refine hgr.mono ?_
  clear hgr hcf c0 hw1 hmm
  rintro e w2 ⟨⟨gb, gr, rfl, hgb, hrow, hleast⟩, ⟨hO2, hM2⟩, _⟩
  have HT2 : Hid (Tbs w2 n T M (fun j => (j : Nat)) L K X) := HT1.out.onlyM hO2 HM1.out HMne.out
  have HB2 : Hid (Below w.heap.size w w2) := HB1.out.trans (hO2.toBelow (fun k hk => by omega) HB1.out.size)
  have HTV2 : Hid (w2.heap[w.heap.size]? = some (.cells #[.slice ta n cp] 58 (0, 0))) := (hO2.block _ (blk_lt HC1.out.tv) (by omega)).trans HC1.out.tv
  have HRo2 : Hid (w2.rowIs gb 3 n (fun i => .int .i64 (gr i : Nat))) := hrow
  obtain ⟨hon, hfy⟩ := onway_start (K := K) HG.out HL.out hleast
  have HON : Hid (OnWay n L K X gr) := hon
  have HFY : Hid (Facy n L K X gr) := hfy
  have hs2 : w.heap.size + 3 ≤ w2.heap.size := by have := hO2.size; omega
  clear hO2 hM2 hrow hleast hon hfy HM1 HT1 HC1 HMne hs1
  have A3 := alloc3 w2 (.cells #[.slice (some ⟨gb, 0, none⟩) n n] 32) (.cells (madeCells #[.slice none 0 0] n) 32) (.cells #[.slice (some ⟨w2.heap.size + 1, 0, none⟩) n n] 45)
  obtain ⟨w3, hw3⟩ : ∃ w3, w3 = ((w2.alloc (.cells #[.slice (some ⟨gb, 0, none⟩) n n] 32)).alloc (.cells (madeCells #[.slice none 0 0] n) 32)).alloc (.cells #[.slice (some ⟨w2.heap.size + 1, 0, none⟩) n n] 45) := ⟨_, rfl⟩
  rw [← hw3] at A3
  have hrl : w3.rowIs (w2.heap.size + 1) 32 n (fun _ => .slice none 0 0) := by
    have := row_made (w2.alloc (.cells #[.slice (some ⟨gb, 0, none⟩) n n] 32)) #[.slice none 0 0] n 32
    rw [show (w2.alloc (.cells #[.slice (some ⟨gb, 0, none⟩) n n] 32)).heap.size = w2.heap.size + 1 by simp] at this
    rw [hw3]
    exact (this.alloc _).congr (fun i _ => by simp [Nat.mod_one])
  have HB23 : Hid (Below w2.heap.size w2 w3) := A3.2.2.2.2
  have HCV3 : Hid (w3.heap[w2.heap.size]? = some (.cells #[.slice (some ⟨gb, 0, none⟩) n n] 32 (0, 0))) := A3.1
  have HLV3 : Hid (w3.heap[w2.heap.size + 2]? = some (.cells #[.slice (some ⟨w2.heap.size + 1, 0, none⟩) n n] 45 (0, 0))) := A3.2.2.1
  have HRL3 : Hid (w3.rowIs (w2.heap.size + 1) 32 n (fun _ => .slice none 0 0)) := hrl
  have hs3 : Hid (w3.heap.size = w2.heap.size + 3) := A3.2.2.2.1
  have HTV3 : Hid (w3.heap[w.heap.size]? = some (.cells #[.slice ta n cp] 58 (0, 0))) := blkB HTV2.out HB23.out
  have HT3 : Hid (Tbs w3 n T M (fun j => (j : Nat)) L K X) := HT2.out.below HB23.out
  have HRo3 : Hid (w3.rowIs gb 3 n (fun i => .int .i64 (gr i : Nat))) := HRo2.out.of_block (HB23.out.block _ HRo2.out.lt)
  have HB3 : Hid (Below w.heap.size w w3) := HB2.out.trans (HB23.out.mono HB2.out.size)
  have hgl : gb < w2.heap.size := HRo2.out.lt
  obtain ⟨t0, _⟩ := one_at HTV3.out
  rw [hw3] at t0
  have lw : w.heap.size < w2.heap.size := by omega
  have lw' : w.heap.size < w2.heap.size + 1 := by omega
  have lw'' : w.heap.size < w2.heap.size + 1 + 1 := by omega
  obtain ⟨t2, _⟩ := one_at HTV2.out
  clear hrl A3
  go_wp2
  rw [← hw3]
  obtain ⟨c4, hc4⟩ : ∃ c4, w2.heap.size = c4 := ⟨_, rfl⟩
  rw [hc4] at HCV3 HLV3 HRL3 hs3 hgl hs2 ⊢
  clear hw3 t0 t2 lw lw' lw'' HT2 HB2 HTV2 HRo2 HB23 hc4 hmk
  go_loopw [19] (fun ii wr => LdRel w3 (c4 + 1) n L X ii wr) (fun ii _ => n - (intOf ii).toNat)
  case atStart => exact ⟨0, fun _ => .nilIface, Nat.zero_le _, rfl, HRL3.out.congr (fun i _ => by rw [if_neg (by omega)]), fun j hj => absurd hj (Nat.not_lt_zero _), Only.refl _ _⟩
  case round =>
    obtain ⟨i, lv, hi, rfl, HRr, HOr, HLr⟩ := hrel
    have hs3' := hs3.out
    by_cases hlt : i < n
    · obtain rfl := hta (by omega)
      have htb := htl i hlt
      have hTne : Tbs wr n T M (fun j => (j : Nat)) L K X := HT3.out.only' HLr.out HRL3.out.choose_spec.1 (by decide) (by decide)
      have HTr : Hid (Tbs wr n T M (fun j => (j : Nat)) L K X) := hTne
      have r0 : wr.cell? ⟨tb, i, none⟩ = some (ptr (T i)) := HLr.out.cell ((HB3.out.cell (p := ⟨tb, i, none⟩) htb).trans (HR.out i hlt)) (by show ¬ (tb = c4 + 1); omega)
      have l0 : wr.cell? ⟨c4 + 2, 0, none⟩ = some (.slice (some ⟨c4 + 1, 0, none⟩) n n) := (one_at ((HLr.out.block _ (blk_lt HLV3.out) (by omega)).trans HLV3.out)).1
      have hbi : (0 : Int) ≤ (i : Int) ∧ (i : Int) < (n : Int) := by omega
      have hcall := leads_any n T M L K X i wr.drew hlt (HL.out i hlt) HG (hTne.below (Below.refl _ _).drew)
      have n0 := HRr.out.cell hlt
      have nz := HRr.out.frozen
      clear hTne
      go_wp2
      refine wp_region_held_drew (S := fun x => x.cell? ⟨c4 + 1 + 1, 0, none⟩ = some (.slice (some ⟨c4 + 1, 0, none⟩) n n)) (by kernel_rfl) l0 (fun hHeld => ?_)
      refine wpAnyH_take (i := 0) (v := .slice (some ⟨c4 + 1, 0, none⟩) n n) rfl (by kernel_rfl) (by kernel_rfl) (by kernel_rfl) (fun _ _ _ h => h) (Or.inl ⟨by rfl, fun w hSw => ?_⟩) hHeld ?_
      · first | rfl | go_simp
      simp only [Act.put, List.setIfInBounds_toArray, List.set_cons_zero, List.set_cons_succ, List.getElem_toArray, List.getElem_cons_zero]
      refine wpAnyH_take (i := 1) (v := .int .i64 (i : Nat)) rfl (by kernel_rfl) (by kernel_rfl) (by kernel_rfl) (fun _ _ _ h => h) (Or.inl ⟨by rfl, fun w hSw => ?_⟩) hHeld ?_
      · first | rfl | go_simp
      simp only [Act.put, List.setIfInBounds_toArray, List.set_cons_zero, List.set_cons_succ, List.getElem_toArray, List.getElem_cons_zero, List.getElem_cons_succ]
      refine wpAnyH_take (i := 2) (v := ptr (T i)) rfl (by kernel_rfl) (by kernel_rfl) (by kernel_rfl) (fun _ _ _ h => h) (Or.inl ⟨by rfl, fun w hSw => ?_⟩) hHeld ?_
      · first | rfl | go_simp
      simp only [Act.put, List.setIfInBounds_toArray, List.set_cons_zero, List.set_cons_succ, List.getElem_toArray, List.getElem_cons_zero, List.getElem_cons_succ]
      refine wpAnyH_ready (rs := [3]) (by kernel_rfl) (by simp) ?_
      refine AllReadyH.cons rfl (fun K' hK' => ?_) AllReadyH.nil
      go_simp
      refine hcall.mono ?_
      clear hcall
      rintro e w5 ⟨⟨lvn, rfl, hown⟩, hb5⟩
      have HBd : Hid (Below wr.heap.size wr w5) := ⟨hb5.os, hb5.tape, hb5.output, hb5.size, hb5.block⟩
      have l5 : w5.cell? ⟨c4 + 1 + 1, 0, none⟩ = some (.slice (some ⟨c4 + 1, 0, none⟩) n n) := (HBd.out.cell (p := ⟨c4 + 1 + 1, 0, none⟩) (World.block_lt_of_cell? _ _ l0)).trans l0
      refine hK'.out _ _ l5 (fun hHeld => ?_)
      clear hK'
      obtain ⟨oa, oc, rfl, _⟩ := owns_form hown
      have hsr : w3.heap.size ≤ wr.heap.size := HLr.out.size
      have HR5 : Hid (w5.rowIs (c4 + 1) 32 n (fun j => if j < i then lv j else .slice none 0 0)) := HRr.out.of_block (HBd.out.block _ HRr.out.lt)
      have n5 := HR5.out.cell hlt
      have nz5 := HR5.out.frozen
      obtain ⟨lvn, hlvn⟩ : ∃ v, Value.slice oa (ldsTo (X i) (L i)).length oc = v := ⟨_, rfl⟩
      have HOW : Hid (w5.ownsRow w3.heap.size 3 1 lvn (ldsTo (X i) (L i)).length (natCells (ldsTo (X i) (L i)))) := by rw [← hlvn]; exact owns_mono hown hsr
      have HR6 : Hid ((w5.setCell ⟨c4 + 1, i, none⟩ lvn).rowIs (c4 + 1) 32 n (fun j => if j < i + 1 then (if j = i then lvn else lv j) else .slice none 0 0)) := (HR5.out.set i _).congr (fun q _ => by
        by_cases e : q = i
        · rw [if_pos e, if_pos (by omega), if_pos e]
        · rw [if_neg e]
          by_cases h' : q < i
          · rw [if_pos h', if_pos (by omega), if_neg e]
          · rw [if_neg h', if_neg (by omega)])
      have HO6 : Hid (∀ j, j < i + 1 → (w5.setCell ⟨c4 + 1, i, none⟩ lvn).ownsRow w3.heap.size 3 1 (if j = i then lvn else lv j) (ldsTo (X j) (L j)).length (natCells (ldsTo (X j) (L j)))) := show ∀ j, _ from fun j hj => by
        have hfar : ∀ v xs m, w5.ownsRow w3.heap.size 3 1 v m xs → (w5.setCell ⟨c4 + 1, i, none⟩ lvn).ownsRow w3.heap.size 3 1 v m xs := fun v xs m h => ownsRow_setCell_other h (fun e => by
          obtain ⟨_, _, _, hk⟩ := owns_form h
          have := (hk _ e).1
          simp only at this
          omega) _
        by_cases e : j = i
        · subst e; rw [if_pos rfl]; exact hfar _ _ _ HOW.out
        · rw [if_neg e]; exact hfar _ _ _ ((Only.below (P := fun _ => False) HBd.out).owns (HOr.out j (by omega)) (fun _ _ _ h => h))
      have HL6 : Hid (Only (fun k => k = c4 + 1) w3 (w5.setCell ⟨c4 + 1, i, none⟩ lvn)) := (HLr.out.trans (Only.below HBd.out)).set rfl _
      have l6 : (w5.setCell ⟨c4 + 1, i, none⟩ lvn).cell? ⟨c4 + 1 + 1, 0, none⟩ = some (.slice (some ⟨c4 + 1, 0, none⟩) n n) := by
        rw [World.cell?_of_block (Below.heap_setCell w5 ⟨c4 + 1, i, none⟩ lvn (c4 + 1 + 1) (show c4 + 1 + 1 ≠ c4 + 1 by omega))]
        exact l5
      refine wpAnyH_take (i := 4) (v := .pointer (some ⟨c4 + 1, i, none⟩)) rfl (by kernel_rfl) (by kernel_rfl) (by kernel_rfl) (fun _ _ _ h => h) (Or.inl ⟨by rfl, fun w hSw => ?_⟩) hHeld ?_
      · first | rfl | go_simp
      simp only [Act.put, List.setIfInBounds_toArray, List.set_cons_zero, List.set_cons_succ, List.getElem_toArray, List.getElem_cons_zero, List.getElem_cons_succ]
      refine wpAnyH_ready (rs := [5]) (by kernel_rfl) (by simp) ?_
      refine AllReadyH.cons rfl (fun K' hK' => ?_) AllReadyH.nil
      rw [← hlvn] at HR6 HO6 HL6 l6
      clear hlvn
      go_simp
      refine hK'.out _ _ l6 (fun hHeld => ?_)
      clear hK' hHeld
      refine wpAnyH_done (by kernel_rfl) ?_ _
      go_wp2
      go_roundw
      case rel => exact ⟨i + 1, _, by omega, by go_num, HR6, HO6, HL6⟩
      case measure => simp [intOf]; omega
    · obtain rfl : i = n := by omega
      obtain ⟨w4, hw4⟩ : ∃ w4, w4 = wr := ⟨_, rfl⟩
      rw [← hw4] at HRr HOr HLr
      have HRr' : Hid (w4.rowIs (c4 + 1) 32 i lv) := HRr.out.congr (fun j hj => by rw [if_pos hj])
      have HCV4 : Hid (w4.heap[c4]? = some (.cells #[.slice (some ⟨gb, 0, none⟩) i i] 32 (0, 0))) := (HLr.out.block _ (blk_lt HCV3.out) (by omega)).trans HCV3.out
      have HLV4 : Hid (w4.heap[c4 + 2]? = some (.cells #[.slice (some ⟨c4 + 1, 0, none⟩) i i] 45 (0, 0))) := (HLr.out.block _ (blk_lt HLV3.out) (by omega)).trans HLV3.out
      have HTV4 : Hid (w4.heap[w.heap.size]? = some (.cells #[.slice ta i cp] 58 (0, 0))) := (HLr.out.block _ (blk_lt HTV3.out) (by omega)).trans HTV3.out
      have HRo4 : Hid (w4.rowIs gb 3 i (fun j => .int .i64 (gr j : Nat))) := HLr.out.rowIs HRo3.out (by omega)
      have HB4 : Hid (Below w.heap.size w w4) := HB3.out.trans (HLr.out.toBelow (fun k hk => by omega) HB3.out.size)
      have hgw : w.heap.size ≤ gb := by have := HB1.out.size; omega
      clear HRr HLr HCV3 HLV3 HTV3 HRo3 HB3 HRL3 HT3
      go_wp2
      rw [← hw4]
      clear hw4
      go_loopw [8] (fun _ wr => CvRel w4 c4 w.heap.size i L K X wr) (fun _ wr => i - reps i (clsVar wr c4))
      case atStart => exact ⟨gb, gr, hgw, HCV4, HRo4, HON, HFY, Only.refl _ _⟩
      case round =>
        obtain ⟨g, cl, HGE, HCV, HCR, HOW, HFc, HOc⟩ := hrel
        obtain ⟨wq, hwq⟩ : ∃ wq, wq = wr := ⟨_, rfl⟩
        rw [← hwq] at HCV HCR HOc
        have hs3' := hs3.out
        have hsz4 : w3.heap.size ≤ w4.heap.size := by have := HLV4.out; have := blk_lt HLV4.out; omega
        have HTVq : Hid (wq.heap[w.heap.size]? = some (.cells #[.slice ta i cp] 58 (0, 0))) := (HOc.out.block _ (blk_lt HTV4.out) (by omega)).trans HTV4.out
        have HC2 : Hid (Cl2 wq c4 (c4 + 2) g (c4 + 1) i cl lv (fun j => ldsTo (X j) (L j))) := show Cl2 _ _ _ _ _ _ _ _ _ from ⟨HCV.out, (HOc.out.block _ (blk_lt HLV4.out) (by omega)).trans HLV4.out, fun j hj => HCR.out.cell hj, fun j hj => HOc.out.cell (HRr'.out.cell hj) (by show ¬ (c4 + 1 = c4); omega), fun j hj => owns_mono (HOc.out.ownsB (HOr.out j hj) (fun g' hg' e => by
          obtain ⟨_, _, _, hk⟩ := owns_form (HOr.out j hj)
          have := (hk _ hg').1
          omega)) (Nat.zero_le _)⟩
        have hgr := grouped_any 101 c4 (c4 + 2) i hn (lk2 L X cl) (fun _ x => Below wq.heap.size wq x) (fun _ => False) wq Try.call101 (Below.refl _ _) (show ∀ k, _ from fun k hk => hk.elim)
          (show ∀ i w' w'', _ from fun i w' w'' h ho => h.trans (ho.toBelow (fun k hk => hk) h.size))
          (show ∀ i w', _ from fun j x hj h => (clos2_any j c4 (c4 + 2) g (c4 + 1) i cl lv (fun j => ldsTo (X j) (L j)) x hj (show _ ≤ _ from Nat.le_trans (ldsTo_len _ _) (HL.out j hj)) (lds_lt HG.out hj _ (Nat.le_refl _)) (show ∀ q, _ from fun q hq => by have := HOW.out.low q hq; omega) (HC2.out.below h)).mono (fun e x' ⟨h1, h2⟩ => ⟨h1, grw h h2, Only.below h2⟩))
        obtain ⟨v0, _⟩ := one_at HTVq.out
        rw [← hwq]
        clear hwq
        go_wp2_with fail
        refine hgr.mono ?_
        clear hgr v0
        rintro e w5 ⟨⟨gn, nx, rfl, hgn, hrow5, hleast⟩, hb5, _⟩
        have HB5 : Hid (Below wq.heap.size wq w5) := hb5
        have HR5 : Hid (w5.rowIs gn 3 i (fun j => .int .i64 (nx j : Nat))) := hrow5
        obtain ⟨hrd, hfx⟩ := round_of HG.out HL.out HFc.out hleast
        have HRD : Hid (Round i L K X cl nx) := hrd
        have HFX : Hid (Facy i L K X nx) := hfx
        have HCV5 : Hid (w5.heap[c4]? = some (.cells #[.slice (some ⟨g, 0, none⟩) i i] 32 (0, 0))) := blkB HCV.out HB5.out
        have HCR5 : Hid (w5.rowIs g 3 i (fun j => .int .i64 (cl j : Nat))) := HCR.out.of_block (HB5.out.block _ HCR.out.lt)
        clear hb5 hrow5 hrd hfx hleast HC2
        obtain ⟨q0, _⟩ := one_at HCV5.out
        have heq := equal_any gn g i i i nx cl w5 (by omega) (show ClsAt _ _ _ _ from fun j hj => HR5.out.cell hj) (show ClsAt _ _ _ _ from fun j hj => HCR5.out.cell hj)
        go_wp2_with fail
        refine heq.mono ?_
        clear heq q0
        rintro e w6 ⟨⟨b, rfl, hb⟩, hb6⟩
        have HBb : Hid (b = true ↔ ∀ q, q < i → nx q = cl q) := hb
        have HB6 : Hid (Below wq.heap.size wq w6) := grw HB5.out hb6
        have HCV6 : Hid (w6.heap[c4]? = some (.cells #[.slice (some ⟨g, 0, none⟩) i i] 32 (0, 0))) := blkB HCV5.out hb6
        have HCR6 : Hid (w6.rowIs g 3 i (fun j => .int .i64 (cl j : Nat))) := HCR5.out.of_block (hb6.block _ HCR5.out.lt)
        have HR6 : Hid (w6.rowIs gn 3 i (fun j => .int .i64 (nx j : Nat))) := HR5.out.of_block (hb6.block _ HR5.out.lt)
        have HO6 : Hid (Only (fun k => k = c4) w4 w6) := HOc.out.trans (Only.below HB6.out)
        clear hb hb6 HCV5 HCR5 HR5 HB5
        obtain ⟨q0, qz⟩ := one_at HCV6.out
        cases b
        · have HMr : Hid (reps i cl < reps i nx) := by
            have : ¬ ∀ q, q < i → nx q = cl q := fun h => by have := HBb.out.2 h; cases this
            simp only [Classical.not_forall] at this
            obtain ⟨q, hq, hne⟩ := this
            exact HRD.out.more HOW.out hq hne
          have HCV7 : Hid ((w6.setCell ⟨c4, 0, none⟩ (.slice (some ⟨gn, 0, none⟩) i i)).heap[c4]? = some (.cells #[.slice (some ⟨gn, 0, none⟩) i i] 32 (0, 0))) := one_put HCV6.out _
          have hgc : gn ≠ c4 := by
            have := blk_lt HCV.out
            omega
          have HR7 : Hid ((w6.setCell ⟨c4, 0, none⟩ (.slice (some ⟨gn, 0, none⟩) i i)).rowIs gn 3 i (fun j => .int .i64 (nx j : Nat))) := HR6.out.of_block (Below.heap_setCell _ _ _ _ (show gn ≠ c4 from hgc))
          have HO7 : Hid (Only (fun k => k = c4) w4 (w6.setCell ⟨c4, 0, none⟩ (.slice (some ⟨gn, 0, none⟩) i i))) := HO6.out.set rfl _
          have h1 : Hid (reps i (clsVar (w6.setCell ⟨c4, 0, none⟩ (.slice (some ⟨gn, 0, none⟩) i i)) c4) = reps i nx) := reps_congr (fun q hq => clsVar_row HCV7.out HR7.out hq)
          have h2 : Hid (reps i (clsVar wq c4) = reps i cl) := reps_congr (fun q hq => clsVar_row HCV.out HCR.out hq)
          have hge : w.heap.size ≤ gn := by
            have := blk_lt HTVq.out
            omega
          go_wp2
          go_roundw
          case rel => exact ⟨gn, nx, hge, HCV7, HR7, HRD.out.next HOW.out, HFX, HO7⟩
          case measure =>
            have h3 := HMr.out
            have h4 := reps_le i nx
            rw [h1.out, h2.out]
            omega
        · have HEq : Hid (∀ q, q < i → nx q = cl q) := HBb.out.1 rfl
          go_wp2
          go_ret
          exact ⟨⟨g, cl, rfl, HGE.out, HCR6.out, HRD.out.done HOW.out HEq.out⟩, HB4.out.trans (HO6.out.toBelow (fun k hk => by omega) HB4.out.size)⟩

end Go.Proofs.Ytgflalfiopnmnaa

namespace Go.Proofs.Ytgflalfiopnmnaa
open Go.RowKit Vl

/-- Blocks are changed that hold no tables and no keys. -/
theorem Tbs.onlyT {w w' : World} {n : Nat} {T M : Nat → Nat} {at_ : Nat → Int} {L : Nat → Nat} {K X : Nat → Nat → V} {P : Nat → Prop} (h : Tbs w n T M at_ L K X) (ho : Only P w w') (hP : ∀ k, k < w.heap.size → P k → ∃ cs t z, w.heap[k]? = some (.cells cs t z) ∧ t ≠ 66 ∧ t ≠ 24) :
    Tbs w' n T M at_ L K X ∧ ∀ j, j < n → w'.heap[T j]? = w.heap[T j]? := by
  have hT : ∀ j, j < n → w'.heap[T j]? = w.heap[T j]? := fun j hj => by
    obtain ⟨ord, a1, _⟩ := h.tab j hj
    refine ho.block _ (blk_lt a1) (fun e => ?_)
    obtain ⟨cs, t, z, hc, h1, _⟩ := hP _ (blk_lt a1) e
    unfold TabB at a1
    rw [hc] at a1
    cases a1
    exact h1 rfl
  refine ⟨⟨fun j hj => ?_, fun j hj => ?_, h.inj, h.noneB (fun j hj => ?_)⟩, hT⟩
  rotate_left 2
  · obtain ⟨l, a1, _⟩ := h.map j hj
    refine ho.block _ a1.lt (fun e => ?_)
    obtain ⟨cs, t, z, hc, _⟩ := hP _ a1.lt e
    obtain ⟨es, clk, hb, _⟩ := a1
    rw [hc] at hb
    cases hb
  · obtain ⟨ord, a1, a2⟩ := h.tab j hj
    refine ⟨ord, (hT j hj).trans a1, ho.ownsB a2 (fun g hg e => ?_)⟩
    obtain ⟨_, cur, hc⟩ := owns_type a2 hg
    obtain ⟨cs, t, z, hc', _, h2⟩ := hP _ (blk_lt hc) e
    rw [hc] at hc'
    cases hc'
    exact h2 rfl
  · obtain ⟨l, a1, a2⟩ := h.map j hj
    refine ⟨l, a1.same (ho.block _ a1.lt (fun e => ?_)), a2⟩
    obtain ⟨cs, t, z, hc, _⟩ := hP _ a1.lt e
    obtain ⟨es, clk, hb, _⟩ := a1
    rw [hc] at hb
    cases hb

/-- Graphs side by side. -/
structure GrS where
  U : Nat → V
  n : Nat → Nat
  L : Nat → Nat → Nat
  K : Nat → Nat → Nat → V
  X : Nat → Nat → Nat → V

/-- Where the tables of graph q begin. -/
def GrS.off (G : GrS) : Nat → Nat
  | 0 => 0
  | q + 1 => G.off q + G.n q

theorem GrS.off_le (G : GrS) {p q : Nat} (h : p < q) : G.off p + G.n p ≤ G.off q := by
  induction q with
  | zero => omega
  | succ q ih =>
    show _ ≤ G.off q + G.n q
    by_cases e : p = q
    · subst e; exact Nat.le_refl _
    · have := ih (by omega); omega

/-- What is there of q graphs side by side. -/
structure Cmb (G : GrS) (q : Nat) (L : Nat → Nat) (K X : Nat → Nat → V) : Prop where
  tab : ∀ p, p < q → ∀ j, j < G.n p → L (G.off p + j) = G.L p j ∧ K (G.off p + j) = G.K p j ∧ ∀ c, X (G.off p + j) c = sh (G.off p) (G.X p j c)
  ok : ∀ p, p < q → OkG (G.n p) (G.U p) (G.L p) (G.K p) (G.X p)
  good : Good (G.off q) L X
  key : ∀ j, j < G.off q → L j ≤ 100 ∧ ∀ c, c < L j → isK (K j c) = true

theorem Cmb.next {G : GrS} {q : Nat} {L : Nat → Nat} {K X : Nat → Nat → V} (h : Cmb G q L K X) (hok : OkG (G.n q) (G.U q) (G.L q) (G.K q) (G.X q)) : Cmb G (q + 1) (jn (G.off q) L (G.L q)) (jn (G.off q) K (G.K q)) (jn (G.off q) X (fun j c => sh (G.off q) (G.X q j c))) := by
  refine ⟨fun p hp j hj => ?_, fun p hp => ?_, h.good.join (good_of hok), fun j hj => ?_⟩
  · by_cases e : p = q
    · subst e
      simp only [jn_add]
      exact ⟨trivial, trivial, fun _ => trivial⟩
    · have := G.off_le (show p < q by omega)
      simp only [jn_lt (show G.off p + j < G.off q by omega)]
      exact h.tab p (by omega) j hj
  · by_cases e : p = q
    · subst e; exact hok
    · exact h.ok p (by omega)
  · have hj' : j < G.off q + G.n q := hj
    by_cases e : j < G.off q
    · simp only [jn_lt e]
      exact h.key j e
    · simp only [jn_ge e]
      have := hok.all (j - G.off q) (by omega)
      exact ⟨this.len, fun c hc => (this.all c hc).key⟩

/-- The roots and the tables of q graphs, as classify has them in c. -/
structure Cf1 (G : GrS) (w wr : World) (q : Nat) (T M : Nat → Nat) (at_ : Nat → Int) (L : Nat → Nat) (K X : Nat → Nat → V) (rv tv : Value) : Prop where
  blk : wr.heap[w.heap.size + 1]? = some (.cells #[rv, tv, .slice none 0 0] 60 (0, 0))
  res : wr.heap[w.heap.size]? = some (.cells #[.slice none 0 0, .slice none 0 0, .slice none 0 0] 60 (0, 0))
  roots : wr.ownsRow (w.heap.size + 2) 68 1 rv q ((List.range q).map fun p => ifv T (sh (G.off p) (G.U p)))
  tabs : wr.ownsRow (w.heap.size + 2) 63 1 tv (G.off q) ((List.range (G.off q)).map fun j => ptr (T j))
  tbs : Tbs wr (G.off q) T M at_ L K X
  ap : Ap wr (w.heap.size + 2) (G.off q) T M
  cmb : Cmb G q L K X
  bel : Below w.heap.size w wr
  size : w.heap.size + 2 ≤ wr.heap.size

theorem Cf1.below {G : GrS} {w wr wk : World} {q : Nat} {T M : Nat → Nat} {at_ : Nat → Int} {L : Nat → Nat} {K X : Nat → Nat → V} {rv tv : Value} (h : Cf1 G w wr q T M at_ L K X rv tv) (hb : Below wr.heap.size wr wk) : Cf1 G w wk q T M at_ L K X rv tv where
  blk := blkB h.blk hb
  res := blkB h.res hb
  roots := (Only.below (P := fun _ => False) hb).owns h.roots (fun _ _ _ h => h)
  tabs := (Only.below (P := fun _ => False) hb).owns h.tabs (fun _ _ _ h => h)
  tbs := h.tbs.below hb
  ap := h.ap.same (fun _ hj => hb.block _ (h.tbs.lt hj))
  cmb := h.cmb
  bel := h.bel.trans (hb.mono h.bel.size)
  size := Nat.le_trans h.size hb.size

/-- One graph more. -/
theorem Cf1.next {G : GrS} {w wr wk w6 : World} {q b : Nat} {T M : Nat → Nat} {at_ : Nat → Int} {L base : Nat → Nat} {K X : Nat → Nat → V} {rv tv rv' tv' : Value} (h : Cf1 G w wr q T M at_ L K X rv tv) (hb : Below wr.heap.size wr wk) (hH : Half wk b (G.n q) (G.n q) base (G.L q) (G.K q) (G.X q)) (hA : Ap wk b (G.n q) (tT b) (tM b)) (hbb : wr.heap.size ≤ b) (hok : OkG (G.n q) (G.U q) (G.L q) (G.K q) (G.X q))
    (ho : Only (fun k => k = w.heap.size + 1 ∨ rv.ownBlock = some k ∨ tv.ownBlock = some k) wk w6) (hblk : w6.heap[w.heap.size + 1]? = some (.cells #[rv', tv', .slice none 0 0] 60 (0, 0)))
    (hroots : w6.ownsRow (w.heap.size + 2) 68 1 rv' (q + 1) (((List.range q).map fun p => ifv T (sh (G.off p) (G.U p))) ++ [ifv (tT b) (G.U q)]))
    (htabs : w6.ownsRow (w.heap.size + 2) 63 1 tv' (G.off q + G.n q) (((List.range (G.off q)).map fun j => ptr (T j)) ++ ((List.range (G.n q)).map fun j => ptr (tT b j)))) :
    Cf1 G w w6 (q + 1) (jn (G.off q) T (tT b)) (jn (G.off q) M (tM b)) (jn (G.off q) at_ (fun j => (j : Nat))) (jn (G.off q) L (G.L q)) (jn (G.off q) K (G.K q)) (jn (G.off q) X (fun j c => sh (G.off q) (G.X q j c))) rv' tv' := by
  have hk := h.below hb
  have hne : ∀ i j, i < G.off q → j < G.n q → T i ≠ tT b j := fun i j hi hj => by
    have := h.tbs.lt hi
    unfold tT
    omega
  have hj := hk.tbs.join (hH.tbs hok) h.cmb.good (good_of hok) hne
  have hP : ∀ k, k < wk.heap.size → (k = w.heap.size + 1 ∨ rv.ownBlock = some k ∨ tv.ownBlock = some k) → ∃ cs t z, wk.heap[k]? = some (.cells cs t z) ∧ t ≠ 66 ∧ t ≠ 24 := fun k _ hp => by
    rcases hp with rfl | e | e
    · exact ⟨_, _, _, hk.blk, by decide, by decide⟩
    · obtain ⟨_, cur, hc⟩ := owns_type hk.roots e
      exact ⟨_, _, _, hc, by decide, by decide⟩
    · obtain ⟨_, cur, hc⟩ := owns_type hk.tabs e
      exact ⟨_, _, _, hc, by decide, by decide⟩
  obtain ⟨ht6, hsame⟩ := hj.onlyT ho hP
  have haj := hk.ap.join hA (show w.heap.size + 2 ≤ b by have := h.size; omega) (fun j a o g hj ht hg => by
    obtain ⟨ord, k1, k2⟩ := h.tbs.tab j hj
    have e2 := TabB.ord (show TabB wk (T j) (M j) (at_ j) ord from (hb.block _ (blk_lt k1)).trans k1) ht
    subst e2
    obtain ⟨_, _, _, hk'⟩ := owns_form k2
    have := (hk' g hg).2
    omega) (fun j hj => by
    obtain ⟨l, k1, _⟩ := h.tbs.map j hj
    have := k1.lt
    omega)
  have hroot : ∀ p, p < q → isV (G.off q) (sh (G.off p) (G.U p)) = true := fun p hp => by
    have h1 := sh_isV (N := G.off p) (h.cmb.ok p hp).root
    have h2 := G.off_le hp
    have h3 := isV_more (n := G.off q - (G.off p + G.n p)) h1
    rw [show G.off p + G.n p + (G.off q - (G.off p + G.n p)) = G.off q by omega] at h3
    exact h3
  refine ⟨hblk, ?_, ?_, ?_, ht6, haj.same hsame, h.cmb.next hok, ?_, ?_⟩
  · rw [ho.block _ (blk_lt hk.res) (fun e => ?_)]
    · exact hk.res
    · rcases e with e | e | e
      · omega
      · have := (owns_type hk.roots e).1; omega
      · have := (owns_type hk.tabs e).1; omega
  · have e1 : ((List.range q).map fun p => ifv (jn (G.off q) T (tT b)) (sh (G.off p) (G.U p))) = (List.range q).map fun p => ifv T (sh (G.off p) (G.U p)) := List.map_congr_left (fun p hp => (ifv_congr (hroot p (List.mem_range.1 hp)) (fun h4 => by
      obtain ⟨a0, a1⟩ := isV_tab (hroot p (List.mem_range.1 hp)) h4
      rw [jn_lt (by omega)])))
    rw [List.range_succ, List.map_append, e1, List.map_cons, List.map_nil, ← ifv_sh hok.root (fun j _ => jn_add j)]
    exact hroots
  · have e1 : ((List.range (G.off q)).map fun j => ptr (jn (G.off q) T (tT b) j)) = (List.range (G.off q)).map fun j => ptr (T j) := List.map_congr_left (fun j hj => by rw [jn_lt (List.mem_range.1 hj)])
    have e2 : ((List.range (G.n q)).map ((fun j => ptr (jn (G.off q) T (tT b) j)) ∘ (fun x => G.off q + x))) = (List.range (G.n q)).map fun j => ptr (tT b j) := List.map_congr_left (fun j _ => by simp only [Function.comp, jn_add])
    show w6.ownsRow _ _ 1 tv' (G.off q + G.n q) ((List.range (G.off q + G.n q)).map _)
    rw [List.range_add, List.map_append, List.map_map, e1, e2]
    exact htabs
  · exact hk.bel.trans (ho.toBelow (fun k e => by
      rcases e with e | e | e
      · omega
      · have := (owns_type hk.roots e).1; omega
      · have := (owns_type hk.tabs e).1; omega) hk.bel.size)
  · exact Nat.le_trans hk.size ho.size

end Go.Proofs.Ytgflalfiopnmnaa
