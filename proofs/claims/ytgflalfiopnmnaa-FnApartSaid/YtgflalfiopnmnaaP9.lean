import Derived.Test.YtgflalfiopnmnaaP8
import Derived.Test.YtgflalfiopnmnaaP3
namespace Go.Proofs.Ytgflalfiopnmnaa
open Go.RowKit Vl

theorem Tbs.onlyM {w w' : World} {n : Nat} {T M : Nat → Nat} {at_ : Nat → Int} {L : Nat → Nat} {K X : Nat → Nat → V} {km : Nat} {l : List (PV2 × Value)} (h : Tbs w n T M at_ L K X) (ho : Only (fun k => k = km) w w') (hm : MapG pAgg w km l) (hM : ∀ j, j < n → M j ≠ km) : Tbs w' n T M at_ L K X := by
  obtain ⟨es, clk, hk, _⟩ := hm
  refine ⟨fun j hj => ?_, fun j hj => ?_, h.inj, h.noneB (fun j hj => ?_)⟩
  rotate_left 2
  · obtain ⟨l, a1, _⟩ := h.map j hj
    exact ho.block _ a1.lt (hM j hj)
  · obtain ⟨ord, a1, a2⟩ := h.tab j hj
    refine ⟨ord, (ho.block _ (blk_lt a1) (fun e => ?_)).trans a1, ho.ownsB a2 (fun g hg e => ?_)⟩
    · unfold TabB at a1
      rw [e, hk] at a1
      cases a1
    · obtain ⟨_, cur, hc⟩ := owns_type a2 hg
      rw [e, hk] at hc
      cases hc
  · obtain ⟨l, a1, a2⟩ := h.map j hj
    exact ⟨l, a1.same (ho.block _ a1.lt (hM j hj)), a2⟩

/-- The pairs of the first i tables. -/
def knAll (L : Nat → Nat) (K X : Nat → Nat → V) : Nat → List PV2
  | 0 => []
  | i + 1 => kns (knAll L K X i) (prOf K X i) (L i)
theorem knAll_len {n : Nat} {L : Nat → Nat} (K X : Nat → Nat → V) (hL : ∀ r, r < n → L r ≤ 100) : ∀ i, i ≤ n → (knAll L K X i).length ≤ i * 100
  | 0, _ => by simp [knAll]
  | i + 1, hi => by
    have h1 := knAll_len K X hL i (by omega)
    have h2 := kns_len (knAll L K X i) (prOf K X i) (L i)
    have h3 := hL i (by omega)
    show (kns (knAll L K X i) (prOf K X i) (L i)).length ≤ _
    omega

/-- The variables of 'classesOf' that the first closure reads. -/
structure Cl1 (w : World) (p1 p2 : Nat) (ta : Option Addr) (tb n cp km : Nat) (T : Nat → Nat) : Prop where
  top : 0 < n → ta = some ⟨tb, 0, none⟩
  tv : w.heap[p1]? = some (.cells #[.slice ta n cp] 58 (0, 0))
  kv : w.heap[p2]? = some (.cells #[.map (some km)] 166 (0, 0))
  row : ∀ j, j < n → w.cell? ⟨tb, j, none⟩ = some (ptr (T j))
  n1 : p1 ≠ km
  n2 : p2 ≠ km
  n3 : 0 < n → tb ≠ km
theorem Cl1.only {w w' : World} {p1 p2 : Nat} {ta : Option Addr} {tb n cp km : Nat} {T : Nat → Nat} {P : Nat → Prop} (h : Cl1 w p1 p2 ta tb n cp km T) (ho : Only P w w') (hP : ∀ k, k < w.heap.size → k ≠ km → ¬ P k) : Cl1 w' p1 p2 ta tb n cp km T :=
  ⟨h.top, (ho.block _ (blk_lt h.tv) (hP _ (blk_lt h.tv) h.n1)).trans h.tv, (ho.block _ (blk_lt h.kv) (hP _ (blk_lt h.kv) h.n2)).trans h.kv, fun j hj => ho.cell (h.row j hj) (hP _ (World.block_lt_of_cell? _ _ (h.row j hj)) (h.n3 (by omega))), h.n1, h.n2, h.n3⟩

set_option maxHeartbeats 2000000 in
set_option maxRecDepth 100000 in
/-- The first closure: a table's face. -/
theorem clos1_any (n : Nat) (T M : Nat → Nat) (L : Nat → Nat) (K X : Nat → Nat → V) (i p1 p2 : Nat) (ta : Option Addr) (tb cp km : Nat) (kn : List PV2) (w : World) (hi : i < n) (hL : L i ≤ 100) (hkn : kn.length ≤ 50000) (HG : Hid (Good n L X)) (HT : Hid (Tbs w n T M (fun j => (j : Nat)) L K X)) (HM : Hid (MapG pAgg w km (knM kn 0))) (HC : Hid (Cl1 w p1 p2 ta tb n cp km T)) :
    Calls Try.prog 98 #[.int .i64 (i : Nat), ptr p1, ptr p2] w fun e w' => e = .returned (lkV (faceLk (kns kn (prOf K X i) (L i)) (prOf K X i) (L i))) ∧ MapG pAgg w' km (knM (kns kn (prOf K X i) (L i)) 0) ∧ Only (fun k => k = km) w w' := by
  obtain rfl := HC.out.top (by omega)
  obtain ⟨w1, hw1⟩ : ∃ w1, w1 = w.alloc (.cells Try.zeroCells171 171) := ⟨_, rfl⟩
  have HR1 : Hid (LkB w1 w.heap.size ⟨0, fun _ => 0⟩) := by rw [hw1]; exact LkB.new w
  have HB1 : Hid (Below w.heap.size w w1) := by rw [hw1]; exact (Below.refl _ _).alloc (Nat.le_refl _) _
  have HC1 : Hid (Cl1 w1 p1 p2 (some ⟨tb, 0, none⟩) tb n cp km T) := HC.out.only (Only.below (P := fun _ => False) HB1.out) (fun _ _ _ h => h)
  have HM1 : Hid (MapG pAgg w1.drew km (knM kn 0)) := HM.out.same (HB1.out.block _ HM.out.lt)
  have hkm : km < w.heap.size := HM.out.lt
  have hcall := face_any n T M L K X i km kn w1.drew hi hL hkn HG ((HT.out.below HB1.out).below (Below.refl _ _).drew) HM1
  have HS : Hid (∀ x : World, Only (fun k => k = km ∨ k = w.heap.size) w1 x → x.cell? ⟨p1, 0, none⟩ = some (.slice (some ⟨tb, 0, none⟩) n cp) ∧ x.cell? ⟨p2, 0, none⟩ = some (.map (some km)) ∧ x.cell? ⟨tb, i, none⟩ = some (ptr (T i))) := show ∀ x, _ from fun x ho => by
    have l1 : p1 < w.heap.size := blk_lt HC.out.tv
    have l2 : p2 < w.heap.size := blk_lt HC.out.kv
    have l3 : tb < w.heap.size := World.block_lt_of_cell? _ _ (HC.out.row i hi)
    have n1 := HC.out.n1
    have n2 := HC.out.n2
    have n3 := HC.out.n3 (by omega)
    exact ⟨ho.cell (one_at HC1.out.tv).1 (by show ¬ (p1 = km ∨ p1 = w.heap.size); omega), ho.cell (one_at HC1.out.kv).1 (by show ¬ (p2 = km ∨ p2 = w.heap.size); omega), ho.cell (HC1.out.row i hi) (by show ¬ (tb = km ∨ tb = w.heap.size); omega)⟩
  have hbi : (0 : Int) ≤ (i : Int) ∧ (i : Int) < (n : Int) := by omega
  obtain ⟨lk, HLK⟩ : ∃ lk, Hid (faceLk (kns kn (prOf K X i) (L i)) (prOf K X i) (L i) = lk) := ⟨_, rfl⟩
  rw [HLK.out] at hcall
  rw [HLK.out]
  go_enter Try.func98, Try.ntmps98
  go_wp2
  rw [← hw1]
  clear hw1
  refine wp_region_held_drew (S := fun x => Only (fun k => k = km ∨ k = w.heap.size) w1 x) (by kernel_rfl) (Only.below ((Below.refl _ _).drew)) (fun hHeld => ?_)
  refine wpAnyH_take (i := 0) (v := .slice (some ⟨tb, 0, none⟩) n cp) rfl (by kernel_rfl) (by kernel_rfl) (by kernel_rfl) (fun _ _ _ h => h) (Or.inl ⟨by rfl, fun w hSw => ?_⟩) hHeld ?_
  · have s1 := (HS.out w hSw).1
    first | rfl | go_simp
  simp only [Act.put, List.setIfInBounds_toArray, List.set_cons_zero, List.set_cons_succ, List.getElem_toArray, List.getElem_cons_zero]
  refine wpAnyH_take (i := 1) (v := .int .i64 (i : Nat)) rfl (by kernel_rfl) (by kernel_rfl) (by kernel_rfl) (fun _ _ _ h => h) (Or.inl ⟨by rfl, fun w hSw => ?_⟩) hHeld ?_
  · first | rfl | go_simp
  simp only [Act.put, List.setIfInBounds_toArray, List.set_cons_zero, List.set_cons_succ, List.getElem_toArray, List.getElem_cons_zero, List.getElem_cons_succ]
  refine wpAnyH_take (i := 2) (v := .pointer (some ⟨tb, i, none⟩)) rfl (by kernel_rfl) (by kernel_rfl) (by kernel_rfl) (fun _ _ _ h => h) (Or.inl ⟨by rfl, fun w hSw => ?_⟩) hHeld ?_
  · first | rfl | go_simp
  simp only [Act.put, List.setIfInBounds_toArray, List.set_cons_zero, List.set_cons_succ, List.getElem_toArray, List.getElem_cons_zero, List.getElem_cons_succ]
  refine wpAnyH_take (i := 3) (v := ptr (T i)) rfl (by kernel_rfl) (by kernel_rfl) (by kernel_rfl) (fun _ _ _ h => h) (Or.inl ⟨by rfl, fun w hSw => ?_⟩) hHeld ?_
  · have s1 := (HS.out w hSw).2.2
    first | rfl | go_simp
  simp only [Act.put, List.setIfInBounds_toArray, List.set_cons_zero, List.set_cons_succ, List.getElem_toArray, List.getElem_cons_zero, List.getElem_cons_succ]
  refine wpAnyH_take (i := 4) (v := .map (some km)) rfl (by kernel_rfl) (by kernel_rfl) (by kernel_rfl) (fun _ _ _ h => h) (Or.inl ⟨by rfl, fun w hSw => ?_⟩) hHeld ?_
  · have s1 := (HS.out w hSw).2.1
    first | rfl | go_simp
  simp only [Act.put, List.setIfInBounds_toArray, List.set_cons_zero, List.set_cons_succ, List.getElem_toArray, List.getElem_cons_zero, List.getElem_cons_succ]
  refine wpAnyH_ready (rs := [5]) (by kernel_rfl) (by simp) ?_
  refine AllReadyH.cons rfl (fun K' hK' => ?_) AllReadyH.nil
  go_simp
  refine hcall.mono ?_
  clear hcall
  rintro e w2 ⟨rfl, hM2, hO2⟩
  have HR2 : Hid (LkB w2 w.heap.size ⟨0, fun _ => 0⟩) := (hO2.block _ HR1.out.lt (by omega)).trans HR1.out
  have HO2 : Hid (Only (fun k => k = km) w w2) := ((Only.below HB1.out).trans (Only.below ((Below.refl _ _).drew))).trans hO2
  have hS2 : Only (fun k => k = km ∨ k = w.heap.size) w1 w2 := (Only.below ((Below.refl _ _).drew)).trans (hO2.mono (fun k _ e => Or.inl e))
  refine hK'.out _ _ hS2 (fun hHeld => ?_)
  clear hK'
  obtain ⟨w3, hst, hB3, hO3, hs3⟩ := LkB.store lk HR2.out (by simp [lkCells_len])
  have HM3 : Hid (MapG pAgg w3 km (knM (kns kn (prOf K X i) (L i)) 0)) := hM2.same (hO3.block _ hM2.lt (by omega))
  have HO3 : Hid (Only (fun k => k = km) w w3) := HO2.out.thenBelow (base := w.heap.size) (hO3.toBelow (fun k e => by omega) HO2.out.size) (Nat.le_refl _)
  have hS3 : Only (fun k => k = km ∨ k = w.heap.size) w1 w3 := hS2.trans (hO3.mono (fun k _ e => Or.inr e))
  have HB3 : Hid (LkB w3 w.heap.size lk) := hB3
  have hcl := lkCells_len lk
  refine wpAnyH_ready (rs := [6]) (by kernel_rfl) (by simp) ?_
  refine AllReadyH.cons rfl (fun K' hK' => ?_) AllReadyH.nil
  go_simp
  refine hK'.out _ _ hS3 (fun hHeld => ?_)
  clear hK' hHeld
  refine wpAnyH_done (by kernel_rfl) ?_ _
  go_wp2
  refine bodyPost_ret (v := lkV lk) (results_cell_row Try.results98 _ _ w.heap.size 171 _ (0, 0) _ rfl HB3.out Try.underlying171 rfl (by rw [List.size_toArray]; exact size_look lk)) rfl ⟨rfl, HM3.out, HO3.out⟩

end Go.Proofs.Ytgflalfiopnmnaa

namespace Go.Proofs.Ytgflalfiopnmnaa
open Go.RowKit Vl

/-- The variables of 'classesOf' that the second closure reads. -/
structure Cl2 (w : World) (p1 p2 cg lb n : Nat) (cl : Nat → Nat) (lv : Nat → Value) (lds : Nat → List Nat) : Prop where
  cv : w.heap[p1]? = some (.cells #[.slice (some ⟨cg, 0, none⟩) n n] 32 (0, 0))
  lvr : w.heap[p2]? = some (.cells #[.slice (some ⟨lb, 0, none⟩) n n] 45 (0, 0))
  cls : ClsAt w cg n cl
  row : ∀ j, j < n → w.cell? ⟨lb, j, none⟩ = some (lv j)
  own : ∀ j, j < n → w.ownsRow 0 3 1 (lv j) (lds j).length (natCells (lds j))
theorem Cl2.below {w w' : World} {p1 p2 cg lb n : Nat} {cl : Nat → Nat} {lv : Nat → Value} {lds : Nat → List Nat} (h : Cl2 w p1 p2 cg lb n cl lv lds) (hb : Below w.heap.size w w') : Cl2 w' p1 p2 cg lb n cl lv lds :=
  ⟨blkB h.cv hb, blkB h.lvr hb, h.cls.below hb, fun j hj => (hb.cell (p := ⟨lb, j, none⟩) (World.block_lt_of_cell? _ _ (h.row j hj))).trans (h.row j hj), fun j hj => (Only.below (P := fun _ => False) hb).owns (h.own j hj) (fun _ _ _ h => h)⟩

set_option maxHeartbeats 2000000 in
set_option maxRecDepth 100000 in
/-- The second closure: what a table looks like by the classes of its leads. -/
theorem clos2_any (i p1 p2 cg lb n : Nat) (cl : Nat → Nat) (lv : Nat → Value) (lds : Nat → List Nat) (w : World) (hi : i < n) (HLl : Hid ((lds i).length ≤ 100)) (HLd : Hid (∀ q ∈ lds i, q < n)) (HCl : Hid (∀ i, i < n → cl i < 1000)) (HC : Hid (Cl2 w p1 p2 cg lb n cl lv lds)) :
    Calls Try.prog 101 #[.int .i64 (i : Nat), ptr p1, ptr p2] w fun e w' => e = .returned (lkV (lkOf (cl i) cl (fun j => (lds i).getD j 0) (lds i).length)) ∧ Below w.heap.size w w' := by
  obtain ⟨w1, hw1⟩ : ∃ w1, w1 = w.alloc (.cells Try.zeroCells171 171) := ⟨_, rfl⟩
  have HR1 : Hid (LkB w1 w.heap.size ⟨0, fun _ => 0⟩) := by rw [hw1]; exact LkB.new w
  have HB1 : Hid (Below w.heap.size w w1) := by rw [hw1]; exact (Below.refl _ _).alloc (Nat.le_refl _) _
  have HC1 : Hid (Cl2 w1 p1 p2 cg lb n cl lv lds) := HC.out.below HB1.out
  obtain ⟨oa, oc, hlv, _⟩ := owns_form (HC.out.own i hi)
  obtain ⟨ml, HML⟩ : ∃ ml, Hid ((lds i).length = ml) := ⟨_, rfl⟩
  have hml : ml ≤ 100 := by rw [← HML.out]; exact HLl.out
  rw [HML.out] at hlv
  obtain ⟨ob, hob⟩ : ∃ ob, 0 < ml → oa = some ⟨ob, 0, none⟩ ∧ ClsAt w1.drew ob ml (fun j => (lds i).getD j 0) := by
    by_cases h0 : 0 < ml
    · obtain ⟨g, cap, hv, _⟩ := owns_cell (HC1.out.own i hi) (k := 0) (y := .int .i64 ((lds i).getD 0 0 : Nat)) (by simp [natCells]; refine ⟨_, List.getElem?_eq_getElem (by rw [HML.out]; exact h0), ?_⟩; simp [HML.out, h0])
      refine ⟨g, fun _ => ⟨?_, fun j hj => ?_⟩⟩
      · rw [hlv] at hv; cases hv; rfl
      · obtain ⟨g', cap', hv', hc⟩ := owns_cell (HC1.out.own i hi) (k := j) (y := .int .i64 ((lds i).getD j 0 : Nat)) (by simp [natCells]; refine ⟨_, List.getElem?_eq_getElem (by rw [HML.out]; exact hj), ?_⟩; simp [HML.out, hj])
        rw [hv] at hv'
        cases hv'
        exact hc
    · exact ⟨0, fun h => absurd h h0⟩
  have HLD : Hid (∀ j, j < ml → (fun j => (lds i).getD j 0) j < n) := show ∀ j, _ from fun j hj => by
    have : (lds i).getD j 0 ∈ lds i := by
      rw [List.getD_eq_getElem?_getD, List.getElem?_eq_getElem (by rw [HML.out]; exact hj)]
      exact List.getElem_mem _
    exact HLd.out _ this
  have HCA : Hid (ClsAt w1.drew ob ml (fun j => (lds i).getD j 0)) := show ClsAt _ _ _ _ from fun j hj => (hob (by omega)).2 j hj
  have hcall := lookOf_any (cl i) ml oc n n oa ob cg cl (fun j => (lds i).getD j 0) w1.drew hml HLD HCl (fun h => (hob h).1) HCA (show ClsAt _ _ _ _ from fun j hj => HC1.out.cls j hj)
  have HS : Hid (∀ x : World, Only (fun k => k = w.heap.size) w1 x → x.cell? ⟨p1, 0, none⟩ = some (.slice (some ⟨cg, 0, none⟩) n n) ∧ x.cell? ⟨p2, 0, none⟩ = some (.slice (some ⟨lb, 0, none⟩) n n) ∧ x.cell? ⟨cg, i, none⟩ = some (.int .i64 (cl i : Nat)) ∧ x.cell? ⟨lb, i, none⟩ = some (.slice oa ml oc)) := show ∀ x, _ from fun x ho => by
    have l1 : p1 < w.heap.size := blk_lt HC.out.cv
    have l2 : p2 < w.heap.size := blk_lt HC.out.lvr
    have l3 : cg < w.heap.size := World.block_lt_of_cell? _ _ (HC.out.cls i hi)
    have l4 : lb < w.heap.size := World.block_lt_of_cell? _ _ (HC.out.row i hi)
    have hrow := HC1.out.row i hi
    rw [hlv] at hrow
    exact ⟨ho.cell (one_at HC1.out.cv).1 (by show ¬ (p1 = w.heap.size); omega), ho.cell (one_at HC1.out.lvr).1 (by show ¬ (p2 = w.heap.size); omega), ho.cell (HC1.out.cls i hi) (by show ¬ (cg = w.heap.size); omega), ho.cell hrow (by show ¬ (lb = w.heap.size); omega)⟩
  have hbi : (0 : Int) ≤ (i : Int) ∧ (i : Int) < (n : Int) := by omega
  obtain ⟨lk, HLK⟩ : ∃ lk, Hid (lkOf (cl i) cl (fun j => (lds i).getD j 0) ml = lk) := ⟨_, rfl⟩
  rw [HLK.out] at hcall
  rw [HML.out, HLK.out]
  obtain ⟨ci, hci⟩ : ∃ ci, cl i = ci := ⟨_, rfl⟩
  rw [hci] at hcall HS
  clear hlv hob hci
  go_enter Try.func101, Try.ntmps101
  go_wp2
  rw [← hw1]
  clear hw1
  refine wp_region_held_drew (S := fun x => Only (fun k => k = w.heap.size) w1 x) (by kernel_rfl) (Only.below ((Below.refl _ _).drew)) (fun hHeld => ?_)
  refine wpAnyH_take (i := 0) (v := .slice (some ⟨cg, 0, none⟩) n n) rfl (by kernel_rfl) (by kernel_rfl) (by kernel_rfl) (fun _ _ _ h => h) (Or.inl ⟨by rfl, fun w hSw => ?_⟩) hHeld ?_
  · have s1 := (HS.out w hSw).1
    first | rfl | go_simp
  simp only [Act.put, List.setIfInBounds_toArray, List.set_cons_zero, List.set_cons_succ, List.getElem_toArray, List.getElem_cons_zero]
  refine wpAnyH_take (i := 1) (v := .int .i64 (i : Nat)) rfl (by kernel_rfl) (by kernel_rfl) (by kernel_rfl) (fun _ _ _ h => h) (Or.inl ⟨by rfl, fun w hSw => ?_⟩) hHeld ?_
  · first | rfl | go_simp
  simp only [Act.put, List.setIfInBounds_toArray, List.set_cons_zero, List.set_cons_succ, List.getElem_toArray, List.getElem_cons_zero, List.getElem_cons_succ]
  refine wpAnyH_take (i := 2) (v := .pointer (some ⟨cg, i, none⟩)) rfl (by kernel_rfl) (by kernel_rfl) (by kernel_rfl) (fun _ _ _ h => h) (Or.inl ⟨by rfl, fun w hSw => ?_⟩) hHeld ?_
  · first | rfl | go_simp
  simp only [Act.put, List.setIfInBounds_toArray, List.set_cons_zero, List.set_cons_succ, List.getElem_toArray, List.getElem_cons_zero, List.getElem_cons_succ]
  refine wpAnyH_take (i := 3) (v := .int .i64 (ci : Nat)) rfl (by kernel_rfl) (by kernel_rfl) (by kernel_rfl) (fun _ _ _ h => h) (Or.inl ⟨by rfl, fun w hSw => ?_⟩) hHeld ?_
  · have s1 := (HS.out w hSw).2.2.1
    first | rfl | go_simp
  simp only [Act.put, List.setIfInBounds_toArray, List.set_cons_zero, List.set_cons_succ, List.getElem_toArray, List.getElem_cons_zero, List.getElem_cons_succ]
  refine wpAnyH_take (i := 4) (v := .slice (some ⟨lb, 0, none⟩) n n) rfl (by kernel_rfl) (by kernel_rfl) (by kernel_rfl) (fun _ _ _ h => h) (Or.inl ⟨by rfl, fun w hSw => ?_⟩) hHeld ?_
  · have s1 := (HS.out w hSw).2.1
    first | rfl | go_simp
  simp only [Act.put, List.setIfInBounds_toArray, List.set_cons_zero, List.set_cons_succ, List.getElem_toArray, List.getElem_cons_zero, List.getElem_cons_succ]
  refine wpAnyH_take (i := 5) (v := .int .i64 (i : Nat)) rfl (by kernel_rfl) (by kernel_rfl) (by kernel_rfl) (fun _ _ _ h => h) (Or.inl ⟨by rfl, fun w hSw => ?_⟩) hHeld ?_
  · first | rfl | go_simp
  simp only [Act.put, List.setIfInBounds_toArray, List.set_cons_zero, List.set_cons_succ, List.getElem_toArray, List.getElem_cons_zero, List.getElem_cons_succ]
  refine wpAnyH_take (i := 6) (v := .pointer (some ⟨lb, i, none⟩)) rfl (by kernel_rfl) (by kernel_rfl) (by kernel_rfl) (fun _ _ _ h => h) (Or.inl ⟨by rfl, fun w hSw => ?_⟩) hHeld ?_
  · first | rfl | go_simp
  simp only [Act.put, List.setIfInBounds_toArray, List.set_cons_zero, List.set_cons_succ, List.getElem_toArray, List.getElem_cons_zero, List.getElem_cons_succ]
  refine wpAnyH_take (i := 7) (v := .slice oa ml oc) rfl (by kernel_rfl) (by kernel_rfl) (by kernel_rfl) (fun _ _ _ h => h) (Or.inl ⟨by rfl, fun w hSw => ?_⟩) hHeld ?_
  · have s1 := (HS.out w hSw).2.2.2
    first | rfl | go_simp
  simp only [Act.put, List.setIfInBounds_toArray, List.set_cons_zero, List.set_cons_succ, List.getElem_toArray, List.getElem_cons_zero, List.getElem_cons_succ]
  refine wpAnyH_take (i := 8) (v := .slice (some ⟨cg, 0, none⟩) n n) rfl (by kernel_rfl) (by kernel_rfl) (by kernel_rfl) (fun _ _ _ h => h) (Or.inl ⟨by rfl, fun w hSw => ?_⟩) hHeld ?_
  · have s1 := (HS.out w hSw).1
    first | rfl | go_simp
  simp only [Act.put, List.setIfInBounds_toArray, List.set_cons_zero, List.set_cons_succ, List.getElem_toArray, List.getElem_cons_zero, List.getElem_cons_succ]
  refine wpAnyH_ready (rs := [9]) (by kernel_rfl) (by simp) ?_
  refine AllReadyH.cons rfl (fun K' hK' => ?_) AllReadyH.nil
  go_simp
  refine hcall.mono ?_
  clear hcall
  rintro e w2 ⟨rfl, hb2⟩
  have HR2 : Hid (LkB w2 w.heap.size ⟨0, fun _ => 0⟩) := (show LkB w1.drew w.heap.size ⟨0, fun _ => 0⟩ from HR1.out).below hb2
  have HB2 : Hid (Below w.heap.size w w2) := (HB1.out.drew).trans (hb2.mono HB1.out.size)
  have hS2 : Only (fun k => k = w.heap.size) w1 w2 := (Only.below ((Below.refl _ _).drew)).trans (Only.below hb2)
  refine hK'.out _ _ hS2 (fun hHeld => ?_)
  clear hK'
  obtain ⟨w3, hst, hB3, hO3, hs3⟩ := LkB.store lk HR2.out (by simp [lkCells_len])
  have HB3' : Hid (Below w.heap.size w w3) := HB2.out.trans (hO3.toBelow (fun k e => by omega) HB2.out.size)
  have hS3 : Only (fun k => k = w.heap.size) w1 w3 := hS2.trans hO3
  have HB3 : Hid (LkB w3 w.heap.size lk) := hB3
  have hcl := lkCells_len lk
  refine wpAnyH_ready (rs := [10]) (by kernel_rfl) (by simp) ?_
  refine AllReadyH.cons rfl (fun K' hK' => ?_) AllReadyH.nil
  go_simp
  refine hK'.out _ _ hS3 (fun hHeld => ?_)
  clear hK' hHeld
  refine wpAnyH_done (by kernel_rfl) ?_ _
  go_wp2
  refine bodyPost_ret (v := lkV lk) (results_cell_row Try.results101 _ _ w.heap.size 171 _ (0, 0) _ rfl HB3.out Try.underlying171 rfl (by rw [List.size_toArray]; exact size_look lk)) rfl ⟨rfl, HB3'.out⟩

end Go.Proofs.Ytgflalfiopnmnaa

namespace Go.Proofs.Ytgflalfiopnmnaa
open Go.RowKit Vl

/-- The least place that looks alike. -/
structure Least (lk : Nat → Lk) (i k : Nat) : Prop where
  le : k ≤ i
  eq : lkEq (lk k) (lk i) = true
  least : ∀ q, q < k → lkEq (lk q) (lk i) = false

theorem lkEq_refl (a : Lk) : lkEq a a = true := lkEq_iff.2 ⟨rfl, fun _ _ => rfl⟩
theorem lkEq_symm (a b : Lk) : lkEq a b = lkEq b a := by
  rw [Bool.eq_iff_iff, lkEq_iff, lkEq_iff]
  exact ⟨fun h => ⟨h.1.symm, fun i hi => (h.2 i hi).symm⟩, fun h => ⟨h.1.symm, fun i hi => (h.2 i hi).symm⟩⟩
theorem lkEq_trans {a b c : Lk} (h : lkEq a b = true) (k : lkEq b c = true) : lkEq a c = true := by
  rw [lkEq_iff] at *
  exact ⟨h.1.trans k.1, fun i hi => (h.2 i hi).trans (k.2 i hi)⟩

/-- The map from looks to the first place of each. -/
structure LkM (lk : Nat → Lk) (i : Nat) (l : List (Lk × Value)) : Prop where
  no : ∀ x, findG lkEq x l = none → ∀ q, q < i → lkEq x (lk q) = false
  yes : ∀ x v, findG lkEq x l = some v → ∃ k : Nat, k < i ∧ v = .int .i64 (k : Nat) ∧ lkEq x (lk k) = true ∧ ∀ q, q < k → lkEq x (lk q) = false

theorem findG_snoc {α : Type} {eqb : α → α → Bool} {x k : α} {v : Value} : ∀ l : List (α × Value), findG eqb x (l ++ [(k, v)]) = match findG eqb x l with
    | some u => some u
    | none => if eqb x k = true then some v else none
  | [] => rfl
  | (a, b) :: l => by
    simp only [List.cons_append, findG]
    by_cases h : eqb x a = true
    · rw [if_pos h, if_pos h]
    · rw [if_neg h, if_neg h]
      exact findG_snoc l

theorem LkM.start (lk : Nat → Lk) : LkM lk 0 [] := ⟨fun _ _ q hq => by omega, fun x v h => by cases h⟩
theorem LkM.known {lk : Nat → Lk} {i : Nat} {l : List (Lk × Value)} (h : LkM lk i l) {v : Value} (hf : findG lkEq (lk i) l = some v) : LkM lk (i + 1) l := by
  obtain ⟨k, h1, _, h3, _⟩ := h.yes _ _ hf
  refine ⟨fun x hx q hq => ?_, fun x v hx => ?_⟩
  · by_cases e : q = i
    · subst e
      have hk := h.no x hx k h1
      cases hq' : lkEq x (lk q)
      · rfl
      · rw [lkEq_trans hq' h3] at hk
        cases hk
    · exact h.no x hx q (by omega)
  · obtain ⟨k, a, b⟩ := h.yes x v hx
    exact ⟨k, by omega, b⟩
theorem LkM.added {lk : Nat → Lk} {i : Nat} {l : List (Lk × Value)} (h : LkM lk i l) : LkM lk (i + 1) (l ++ [(lk i, .int .i64 (i : Nat))]) := by
  refine ⟨fun x hx q hq => ?_, fun x v hx => ?_⟩
  · rw [findG_snoc] at hx
    cases hf : findG lkEq x l with
    | some u => rw [hf] at hx; cases hx
    | none =>
      rw [hf] at hx
      by_cases e : q = i
      · subst e
        cases hq' : lkEq x (lk q)
        · rfl
        · simp [hq'] at hx
      · exact h.no x hf q (by omega)
  · rw [findG_snoc] at hx
    cases hf : findG lkEq x l with
    | some u =>
      rw [hf] at hx
      cases hx
      obtain ⟨k, a, b⟩ := h.yes x v hf
      exact ⟨k, by omega, b⟩
    | none =>
      rw [hf] at hx
      by_cases he : lkEq x (lk i) = true
      · simp [he] at hx
        exact ⟨i, by omega, hx.symm, he, fun q hq => h.no x hf q hq⟩
      · simp [he] at hx

set_option maxHeartbeats 4000000 in
set_option maxRecDepth 100000 in
/-- 'grouped'. -/
theorem grouped_any (F p1 p2 n : Nat) (hn : n ≤ 400) (lk : Nat → Lk) (I : Nat → World → Prop) (Q : Nat → Prop) (w : World) (hcf : ∀ args w, (callFunc F args).run Try.prog w = .ok (.enter F args) w) (HI : Hid (I 0 w)) (HQ : Hid (∀ k, Q k → k < w.heap.size))
    (HK : Hid (∀ i w' w'', I i w' → Only (fun k => w.heap.size ≤ k) w' w'' → I i w'')) (HC : Hid (∀ i w', i < n → I i w' → Calls Try.prog F #[.int .i64 (i : Nat), ptr p1, ptr p2] w' fun e w'' => e = .returned (lkV (lk i)) ∧ I (i + 1) w'' ∧ Only Q w' w'')) :
    Calls Try.prog 97 #[.int .i64 n, .func (.func F) #[] #[ptr p1, ptr p2]] w fun e w' => (∃ (gb : Nat) (gr : Nat → Nat), e = .returned (.slice (some ⟨gb, 0, none⟩) n n) ∧ w.heap.size ≤ gb ∧ w'.rowIs gb 3 n (fun i => .int .i64 (gr i : Nat)) ∧ ∀ i, i < n → Least lk i (gr i)) ∧ I n w' ∧ Only Q w w' := by
  have hmk := run_make_n 32 3 _ 1 8 Try.underlying32 Try.infoN n (by omega) (by omega)
  simp only [Nat.mul_one] at hmk
  have hmm := @run_makeMap Try.prog
  have A2 := alloc2 w (.map #[] 0) (.cells (madeCells #[.int .i64 0] n) 3)
  obtain ⟨w1, hw1⟩ : ∃ w1, w1 = (w.alloc (.map #[] 0)).alloc (.cells (madeCells #[.int .i64 0] n) 3) := ⟨_, rfl⟩
  have HM1 : Hid (MapG lkV w1 w.heap.size []) := by rw [hw1]; exact ⟨#[], 0, A2.1, rfl⟩
  have HR1 : Hid (w1.rowIs (w.heap.size + 1) 3 n (fun _ => .int .i64 ((0 : Nat) : Int))) := by
    rw [hw1]
    have := row_made (w.alloc (.map #[] 0)) #[.int .i64 0] n 3
    rw [show (w.alloc (.map #[] 0)).heap.size = w.heap.size + 1 by simp] at this
    exact this.congr (fun j _ => by simp [Nat.mod_one])
  have HB1 : Hid (Below w.heap.size w w1) := by rw [hw1]; exact A2.2.2.2
  have HI1 : Hid (I 0 w1) := HK.out 0 w w1 HI.out (Only.below HB1.out)
  clear A2
  go_enter Try.func97, Try.ntmps97
  go_wp2
  rw [← hw1]
  clear hw1 hmk hmm
  go_loopw [16] (fun ii wr => ∃ (i : Nat) (l : List (Lk × Value)) (gr : Nat → Nat), i ≤ n ∧ ii = .int .i64 i ∧ Hid (MapG lkV wr w.heap.size l) ∧ Hid (LkM lk i l) ∧ Hid (wr.rowIs (w.heap.size + 1) 3 n (fun q => if q < i then .int .i64 (gr q : Nat) else .int .i64 ((0 : Nat) : Int))) ∧ Hid (∀ q, q < i → Least lk q (gr q)) ∧ Hid (I i wr) ∧ Hid (Only Q w wr)) (fun ii _ => n - (intOf ii).toNat)
  case atStart => exact ⟨0, [], fun _ => 0, Nat.zero_le _, rfl, HM1, LkM.start lk, HR1.out.congr (fun q _ => by rw [if_neg (by omega)]), fun q hq => absurd hq (Nat.not_lt_zero _), HI1, Only.below HB1.out⟩
  case round =>
    obtain ⟨i, l, gr, hi, rfl, HM, HL, HR, HG, HIi, HO⟩ := hrel
    clear HM1 HR1 HI1 HB1
    by_cases hlt : i < n
    · have hcall := HC.out i wr hlt HIi.out
      go_wp2_with fail
      refine hcall.mono ?_
      clear hcall
      rintro e w2 ⟨rfl, hI2, hO2⟩
      have hnq : ∀ k, w.heap.size ≤ k → ¬ Q k := fun k hk h => by have := HQ.out k h; omega
      have HM2 : Hid (MapG lkV w2 w.heap.size l) := HM.out.same (hO2.block _ HM.out.lt (hnq _ (Nat.le_refl _)))
      have HR2 : Hid (w2.rowIs (w.heap.size + 1) 3 n (fun q => if q < i then .int .i64 (gr q : Nat) else .int .i64 ((0 : Nat) : Int))) := hO2.rowIs HR.out (hnq _ (by omega))
      have HO2 : Hid (Only Q w w2) := HO.out.trans hO2
      have hB := LkB.new w2
      obtain ⟨w3, hst, hB3, hO3, hs3⟩ := LkB.store (lk i) hB (by simp [lkCells_len])
      have hBel3 : Below w2.heap.size w2 w3 := ((Below.refl w2.heap.size w2).alloc (Nat.le_refl _) _).trans (hO3.toBelow (fun k hk => by omega) (by simp))
      have HI3 : Hid (I (i + 1) w3) := HK.out _ _ _ hI2 (Only.below hBel3)
      have HB3 : Hid (LkB w3 w2.heap.size (lk i)) := hB3
      have HM3 : Hid (MapG lkV w3 w.heap.size l) := HM2.out.same (hBel3.block _ HM2.out.lt)
      have HR3 : Hid (w3.rowIs (w.heap.size + 1) 3 n (fun q => if q < i then .int .i64 (gr q : Nat) else .int .i64 ((0 : Nat) : Int))) := HR2.out.of_block (hBel3.block _ HR2.out.lt)
      have HO3 : Hid (Only Q w w3) := HO2.out.trans (Only.below hBel3)
      have hlb : w.heap.size + 1 < w2.heap.size := HR2.out.lt
      clear hI2 hO2 hB hB3 hO3 hs3 hBel3 HM2 HR2 HO2 HM HR HIi HO
      obtain ⟨cs, hcs⟩ : ∃ cs, lkCells (lk i) = cs := ⟨_, rfl⟩
      have HCS : Hid (lkCells (lk i) = cs) := hcs
      have HRG : Hid (w3.rangeAt w2.heap.size 0 cs) := by rw [← hcs]; exact HB3.out.range
      have hcl : cs.length = 101 := by rw [← hcs]; exact lkCells_len _
      have HSZ : Hid ((Try.prog.info? 171).map (·.size) = some cs.length) := by rw [← hcs]; exact size_look (lk i)
      have hlk := (HM3.out.lookup look_keyed (lk i) trivial (fun _ _ => trivial)).1
      have hkv : lkV (lk i) = .agg cs.toArray := by rw [← hcs]
      rw [hkv] at hlk
      rw [hcs] at hst
      rw [hkv]
      clear hcs
      obtain ⟨qb, hqb⟩ : ∃ qb, w2.heap.size = qb := ⟨_, rfl⟩
      rw [hqb] at HRG hlb HB3 hst
      obtain ⟨d, hd, hr⟩ := row_look
      go_wp2
      refine wp_load_mid 171 (.tmp 8) rfl qb 0 rfl cs d HRG.out hd hr HSZ.out ?_
      clear hst
      cases hf : findG lkEq (lk i) l with
      | some v =>
        rw [hf] at hlk
        obtain ⟨k, hk1, rfl, hk3, hk4⟩ := HL.out.yes _ _ hf
        have HL' : Hid (LkM lk (i + 1) l) := HL.out.known hf
        have HG' : Hid (∀ q, q < i + 1 → Least lk q (if q = i then k else gr q)) := show ∀ q, _ from fun q hq => by
          by_cases e : q = i
          · subst e; rw [if_pos rfl]; exact ⟨by omega, by rw [lkEq_symm]; exact hk3, fun p hp => by rw [lkEq_symm]; exact hk4 p hp⟩
          · rw [if_neg e]; exact HG.out q (by omega)
        have n0 := HR3.out.cell hlt
        have nz := HR3.out.frozen
        have hbi : (0 : Int) ≤ (i : Int) ∧ (i : Int) < (n : Int) := by omega
        have HR4 : Hid ((w3.setCell ⟨w.heap.size + 1, i, none⟩ (.int .i64 (k : Nat))).rowIs (w.heap.size + 1) 3 n (fun q => if q < i + 1 then .int .i64 ((if q = i then k else gr q : Nat) : Int) else .int .i64 ((0 : Nat) : Int))) := (HR3.out.set i _).congr (fun q _ => by
          by_cases e : q = i
          · rw [if_pos e, if_pos (by omega), if_pos e]
          · rw [if_neg e, if_neg e]
            by_cases h' : q < i
            · rw [if_pos h', if_pos (by omega)]
            · rw [if_neg h', if_neg (by omega)])
        have hO4 : Only (fun k => w.heap.size ≤ k) w3 (w3.setCell ⟨w.heap.size + 1, i, none⟩ (.int .i64 (k : Nat))) := (Only.refl _ _).set (p := ⟨w.heap.size + 1, i, none⟩) (show w.heap.size ≤ w.heap.size + 1 by omega) _
        have HI4 : Hid (I (i + 1) (w3.setCell ⟨w.heap.size + 1, i, none⟩ (.int .i64 (k : Nat)))) := HK.out _ _ _ HI3.out hO4
        have HM4 : Hid (MapG lkV (w3.setCell ⟨w.heap.size + 1, i, none⟩ (.int .i64 (k : Nat))) w.heap.size l) := HM3.out.same (Below.heap_setCell _ _ _ _ (show w.heap.size ≠ w.heap.size + 1 by omega))
        have HO4 : Hid (Only Q w (w3.setCell ⟨w.heap.size + 1, i, none⟩ (.int .i64 (k : Nat)))) := HO3.out.thenBelow (base := w.heap.size) ((Below.refl _ _).setCell (show w.heap.size ≤ w.heap.size + 1 by omega) _) (Nat.le_refl _)
        clear hf hO4 hd hr hk3 hk4
        go_wp2
        go_roundw
        case rel => exact ⟨i + 1, l, _, by omega, by go_num, HM4, HL', HR4, HG', HI4, HO4⟩
        case measure => simp [intOf]; omega
      | none =>
        rw [hf] at hlk
        have HL' : Hid (LkM lk (i + 1) (l ++ [(lk i, .int .i64 (i : Nat))])) := HL.out.added
        have HG' : Hid (∀ q, q < i + 1 → Least lk q (if q = i then i else gr q)) := show ∀ q, _ from fun q hq => by
          by_cases e : q = i
          · subst e; rw [if_pos rfl]; exact ⟨Nat.le_refl _, lkEq_refl _, fun p hp => by rw [lkEq_symm]; exact HL.out.no _ hf p hp⟩
          · rw [if_neg e]; exact HG.out q (by omega)
        obtain ⟨w4, hu, hM4, hO4, hs4⟩ := (show MapG lkV w3.drew w.heap.size l from HM3.out).update look_keyed (lk i) (.int .i64 (i : Nat)) trivial (fun _ _ => trivial) hf
        rw [hkv] at hu
        have HM4 : Hid (MapG lkV w4 w.heap.size (l ++ [(lk i, .int .i64 (i : Nat))])) := hM4
        have HR4 : Hid (w4.rowIs (w.heap.size + 1) 3 n (fun q => if q < i then .int .i64 (gr q : Nat) else .int .i64 ((0 : Nat) : Int))) := hO4.rowIs (HR3.out.of_block rfl) (by omega)
        have HI4 : Hid (I (i + 1) w4) := HK.out _ _ _ HI3.out ((Only.below ((Below.refl _ _).drew)).trans (hO4.mono (fun k _ e => by omega)))
        have HO4 : Hid (Only Q w w4) := HO3.out.thenBelow (base := w.heap.size) (((Below.refl _ _).drew).trans (hO4.toBelow (fun k e => by omega) (by have := HO3.out.size; show w.heap.size ≤ w3.heap.size; omega))) (Nat.le_refl _)
        have HRG4 : Hid (w4.rangeAt qb 0 cs) := show World.rangeAt _ _ _ _ from fun j v hv => by
          have := HRG.out j v hv
          exact hO4.cell (p := ⟨qb, 0 + j, none⟩) this (by show ¬ (qb = w.heap.size); omega)
        clear hf hM4 hO4 hs4
        go_wp2
        refine wp_region_held_drew (S := fun w' => w'.rangeAt qb 0 cs) (by kernel_rfl) HRG.out (fun hHeld => ?_)
        refine wpAnyH_take (i := 0) (v := .map (some w.heap.size)) rfl (by kernel_rfl) (by kernel_rfl) (by kernel_rfl) (fun _ _ _ h => h) (Or.inl ⟨by rfl, fun w hSw => ?_⟩) hHeld ?_
        · first | rfl | go_simp
        simp only [Act.put, List.setIfInBounds_toArray, List.set_cons_zero, List.set_cons_succ, List.getElem_toArray, List.getElem_cons_zero]
        refine wpAnyH_take (i := 1) (v := .agg cs.toArray) rfl (by kernel_rfl) (by kernel_rfl) (by kernel_rfl) (fun _ _ _ h => h) (yieldsIf_load_mid (by rfl) _ _ rfl qb 0 rfl cs d (fun w hSw => hSw) hd hr HSZ.out) hHeld ?_
        simp only [Act.put, List.setIfInBounds_toArray, List.set_cons_zero, List.set_cons_succ, List.getElem_toArray, List.getElem_cons_zero, List.getElem_cons_succ]
        refine wpAnyH_take (i := 2) (v := .int .i64 (i : Nat)) rfl (by kernel_rfl) (by kernel_rfl) (by kernel_rfl) (fun _ _ _ h => h) (Or.inl ⟨by rfl, fun w hSw => ?_⟩) hHeld ?_
        · first | rfl | go_simp
        simp only [Act.put, List.setIfInBounds_toArray, List.set_cons_zero, List.set_cons_succ, List.getElem_toArray, List.getElem_cons_zero, List.getElem_cons_succ]
        refine wpAnyH_take (i := 3) (v := .int .i64 (i : Nat)) rfl (by kernel_rfl) (by kernel_rfl) (by kernel_rfl) (fun _ _ _ h => h) (Or.inl ⟨by rfl, fun w hSw => ?_⟩) hHeld ?_
        · first | rfl | go_simp
        simp only [Act.put, List.setIfInBounds_toArray, List.set_cons_zero, List.set_cons_succ, List.getElem_toArray, List.getElem_cons_zero, List.getElem_cons_succ]
        refine wpAnyH_take (i := 4) (v := .int .i64 (i : Nat)) rfl (by kernel_rfl) (by kernel_rfl) (by kernel_rfl) (fun _ _ _ h => h) (Or.inl ⟨by rfl, fun w hSw => ?_⟩) hHeld ?_
        · first | rfl | go_simp
        simp only [Act.put, List.setIfInBounds_toArray, List.set_cons_zero, List.set_cons_succ, List.getElem_toArray, List.getElem_cons_zero, List.getElem_cons_succ]
        refine wpAnyH_ready (rs := [5]) (by kernel_rfl) (by simp) ?_
        refine AllReadyH.cons rfl (fun K' hK' => ?_) AllReadyH.nil
        go_simp
        refine hK'.out _ _ HRG4.out (fun hHeld => ?_)
        clear hK' hHeld hu hlk
        refine wpAnyH_done (by kernel_rfl) ?_ _
        have n0 := HR4.out.cell hlt
        have nz := HR4.out.frozen
        have hbi : (0 : Int) ≤ (i : Int) ∧ (i : Int) < (n : Int) := by omega
        have HR5 : Hid ((w4.setCell ⟨w.heap.size + 1, i, none⟩ (.int .i64 (i : Nat))).rowIs (w.heap.size + 1) 3 n (fun q => if q < i + 1 then .int .i64 ((if q = i then i else gr q : Nat) : Int) else .int .i64 ((0 : Nat) : Int))) := (HR4.out.set i _).congr (fun q _ => by
          by_cases e : q = i
          · rw [if_pos e, if_pos (by omega), if_pos e]
          · rw [if_neg e, if_neg e]
            by_cases h' : q < i
            · rw [if_pos h', if_pos (by omega)]
            · rw [if_neg h', if_neg (by omega)])
        have hO5 : Only (fun k => w.heap.size ≤ k) w4 (w4.setCell ⟨w.heap.size + 1, i, none⟩ (.int .i64 (i : Nat))) := (Only.refl _ _).set (p := ⟨w.heap.size + 1, i, none⟩) (show w.heap.size ≤ w.heap.size + 1 by omega) _
        have HI5 : Hid (I (i + 1) (w4.setCell ⟨w.heap.size + 1, i, none⟩ (.int .i64 (i : Nat)))) := HK.out _ _ _ HI4.out hO5
        have HM5 : Hid (MapG lkV (w4.setCell ⟨w.heap.size + 1, i, none⟩ (.int .i64 (i : Nat))) w.heap.size (l ++ [(lk i, .int .i64 (i : Nat))])) := HM4.out.same (Below.heap_setCell _ _ _ _ (show w.heap.size ≠ w.heap.size + 1 by omega))
        have HO5 : Hid (Only Q w (w4.setCell ⟨w.heap.size + 1, i, none⟩ (.int .i64 (i : Nat)))) := HO4.out.thenBelow (base := w.heap.size) ((Below.refl _ _).setCell (show w.heap.size ≤ w.heap.size + 1 by omega) _) (Nat.le_refl _)
        clear hO5 hd hr HRG HRG4
        go_wp2
        go_roundw
        case rel => exact ⟨i + 1, _, _, by omega, by go_num, HM5, HL', HR5, HG', HI5, HO5⟩
        case measure => simp [intOf]; omega
    · obtain rfl : i = n := by omega
      go_wp2
      go_ret
      exact ⟨⟨w.heap.size + 1, gr, rfl, by omega, HR.out.congr (fun q hq => by rw [if_pos hq]), HG.out⟩, HIi.out, HO.out⟩

end Go.Proofs.Ytgflalfiopnmnaa

namespace Go.Proofs.Ytgflalfiopnmnaa
open Go.RowKit Vl

/-- Tables that differ in no key and no plain value. -/
structure Face (L : Nat → Nat) (K X : Nat → Nat → V) (i j : Nat) : Prop where
  len : L i = L j
  all : ∀ c, c < L i → prOf K X i c = prOf K X j c
theorem Face.symm {L : Nat → Nat} {K X : Nat → Nat → V} {i j : Nat} (h : Face L K X i j) : Face L K X j i := ⟨h.len.symm, fun c hc => (h.all c (by rw [h.len]; exact hc)).symm⟩

theorem knAll_pre {L : Nat → Nat} {K X : Nat → Nat → V} : ∀ {i j : Nat}, i ≤ j → knAll L K X i <+: knAll L K X j := by
  intro i j h
  induction h with
  | refl => exact List.prefix_refl _
  | step _ ih => exact ih.trans (kns_pre _ _ (Nat.zero_le _))
theorem idx_inj {kn : List PV2} {p q : PV2} (hp : p ∈ kn) (hq : q ∈ kn) (h : kn.idxOf p = kn.idxOf q) : p = q := by
  have h1 := List.getElem_idxOf (List.idxOf_lt_length_of_mem hp)
  have h2 := List.getElem_idxOf (List.idxOf_lt_length_of_mem hq)
  rw [← h1, ← h2]
  simp only [h]

/-- The look of a table at the beginning. -/
def lk1 (L : Nat → Nat) (K X : Nat → Nat → V) (i : Nat) : Lk := faceLk (knAll L K X (i + 1)) (prOf K X i) (L i)
theorem lk1_part {n : Nat} {L : Nat → Nat} {K X : Nat → Nat → V} {i c : Nat} (hi : i < n) (hc : c < L i) : (lk1 L K X i).parts c = (knAll L K X n).idxOf (prOf K X i c) + 1 ∧ prOf K X i c ∈ knAll L K X n := by
  have hm : prOf K X i c ∈ knAll L K X (i + 1) := kns_mem _ _ hc
  have hp : knAll L K X (i + 1) <+: knAll L K X n := knAll_pre (by omega)
  refine ⟨?_, hp.subset hm⟩
  show (if c < L i then _ else 0) = _
  rw [if_pos hc, idx_pre hp hm]
theorem lk1_eq {n : Nat} {L : Nat → Nat} {K X : Nat → Nat → V} (hL : ∀ r, r < n → L r ≤ 100) {i j : Nat} (hi : i < n) (hj : j < n) : lkEq (lk1 L K X i) (lk1 L K X j) = true ↔ Face L K X i j := by
  rw [lkEq_iff]
  constructor
  · rintro ⟨_, h⟩
    have key : ∀ a b, a < n → b < n → (∀ c, c < 100 → (lk1 L K X a).parts c = (lk1 L K X b).parts c) → L a ≤ L b := fun a b ha hb hab => by
      rcases Nat.lt_or_ge (L b) (L a) with hlt | hge
      · have h1 := hab (L b) (by have := hL a ha; omega)
        have h2 := (lk1_part (K := K) (X := X) ha hlt).1
        have h3 : (lk1 L K X b).parts (L b) = 0 := by
          show (if L b < L b then _ else 0) = 0
          rw [if_neg (by omega)]
        omega
      · exact hge
    have hl : L i = L j := Nat.le_antisymm (key i j hi hj h) (key j i hj hi (fun c hc => (h c hc).symm))
    refine ⟨hl, fun c hc => ?_⟩
    obtain ⟨a1, a2⟩ := lk1_part (K := K) (X := X) hi hc
    obtain ⟨b1, b2⟩ := lk1_part (K := K) (X := X) hj (show c < L j by omega)
    have := h c (by have := hL i hi; omega)
    exact idx_inj a2 b2 (by omega)
  · intro h
    refine ⟨rfl, fun c _ => ?_⟩
    by_cases hc : c < L i
    · rw [(lk1_part (K := K) (X := X) hi hc).1, (lk1_part (K := K) (X := X) hj (by rw [← h.len]; exact hc)).1, h.all c hc]
    · show (if c < L i then _ else 0) = (if c < L j then _ else 0)
      rw [if_neg hc, if_neg (by rw [← h.len]; exact hc)]

theorem Least.uniq {lk : Nat → Lk} {i j k m : Nat} (h : Least lk i k) (g : Least lk j m) (e : lkEq (lk i) (lk j) = true) : k = m := by
  rcases Nat.lt_trichotomy k m with h' | h' | h'
  · have := g.least k h'
    rw [lkEq_trans h.eq e] at this
    cases this
  · exact h'
  · have := h.least m h'
    rw [lkEq_symm] at e
    rw [lkEq_trans g.eq e] at this
    cases this

/-- A value that is no table has no number. -/
theorem plain_a {n : Nat} {v : V} (h : isV n v = true) (h4 : v.k ≠ 4) : v.a = 0 := by
  obtain ⟨k, m, s, a⟩ := v
  simp only at h4
  unfold isV at h
  simp only at h
  split at h
  · simp at h; exact h.2.2
  · split at h
    · simp at h; exact h.2.2
    · split at h
      · simp at h; exact h.2
      · split at h
        · simp at h; exact h.2.1
        · simp at h

theorem face_val {n : Nat} {K X : Nat → Nat → V} {i j c : Nat} (hi : isV n (X i c) = true) (hj : isV n (X j c) = true) (h : prOf K X i c = prOf K X j c) : K i c = K j c ∧ (X i c).k = (X j c).k ∧ ((X i c).k ≠ 4 → X i c = X j c) := by
  unfold prOf zAt at h
  simp only [Prod.mk.injEq, V.mk.injEq, and_true] at h
  obtain ⟨h1, h2, h3, h4⟩ := h
  refine ⟨h1, h2, fun hk => ?_⟩
  have a1 := plain_a hi hk
  have a2 := plain_a hj (by omega)
  cases hx : X i c
  cases hy : X j c
  rw [hx] at h2 h3 h4 a1
  rw [hy] at h2 h3 h4 a2
  simp only at *
  subst h2 h3 h4 a1 a2
  rfl

/-- Classes on the way that tell faces apart. -/
def Facy (n : Nat) (L : Nat → Nat) (K X : Nat → Nat → V) (cl : Nat → Nat) : Prop := ∀ i j, i < n → j < n → cl i = cl j → Face L K X i j

theorem tab_ns {n : Nat} {v : V} (h : isV n v = true) (h4 : v.k = 4) : v.n = 0 ∧ v.s = ⟨#[]⟩ := by
  obtain ⟨k, m, s, a⟩ := v
  simp only at h4
  subst h4
  simp [isV] at h
  exact ⟨h.1, bytes_empty h.2.1⟩

theorem onway_start {n : Nat} {L : Nat → Nat} {K X : Nat → Nat → V} (hg : Good n L X) (hL : ∀ r, r < n → L r ≤ 100) {gr : Nat → Nat} (h : ∀ i, i < n → Least (lk1 L K X) i (gr i)) : OnWay n L K X gr ∧ Facy n L K X gr := by
  have hlt : ∀ i, i < n → gr i < n := fun i hi => by have := (h i hi).le; omega
  have heq : ∀ i j, i < n → j < n → gr i = gr j → Face L K X i j := fun i j hi hj e => by
    have h1 := (h i hi).eq
    have h2 := (h j hj).eq
    rw [e] at h1
    rw [lkEq_symm] at h1
    exact (lk1_eq hL hi hj).1 (lkEq_trans h1 h2)
  refine ⟨⟨fun i hi => (h i hi).le, fun i hi => (h (gr i) (hlt i hi)).uniq (h i hi) (h i hi).eq, fun R hR i j hr => ?_⟩, heq⟩
  obtain ⟨hi, hj, hl, hall⟩ := hR i j hr
  refine (h i hi).uniq (h j hj) ((lk1_eq hL hi hj).2 ⟨hl, fun c hc => ?_⟩)
  obtain ⟨k1, k2, _, k4⟩ := hall c hc
  unfold prOf zAt
  by_cases h4 : (X i c).k = 4
  · obtain ⟨a1, a2⟩ := tab_ns (hg i hi c hc) h4
    obtain ⟨b1, b2⟩ := tab_ns (hg j hj c (by rw [← hl]; exact hc)) (by omega)
    rw [k1, k2, a1, a2, b1, b2]
  · rw [k1, k4 h4]

theorem lds_map {cl : Nat → Nat} {x y : Nat → V} : ∀ c, (∀ q, q < c → (x q).k = (y q).k) → (ldsTo x c).length = (ldsTo y c).length ∧ ((ldsTo x c).map cl = (ldsTo y c).map cl ↔ ∀ q, q < c → (x q).k = 4 → cl (x q).a.toNat = cl (y q).a.toNat)
  | 0, _ => ⟨rfl, ⟨fun _ q hq => by omega, fun _ => rfl⟩⟩
  | c + 1, h => by
    obtain ⟨h1, h2⟩ := lds_map (cl := cl) (x := x) (y := y) c (fun q hq => h q (by omega))
    have hk := h c (by omega)
    rw [ldsTo_succ, ldsTo_succ]
    by_cases h4 : (x c).k = 4
    · rw [if_pos h4, if_pos (by omega)]
      refine ⟨by simp [h1], ⟨fun e q hq hq4 => ?_, fun e => ?_⟩⟩
      · rw [List.map_append, List.map_append] at e
        obtain ⟨e1, e2⟩ := List.append_inj e (by simp [h1])
        by_cases eq : q = c
        · subst eq
          simpa using e2
        · exact h2.1 e1 q (by omega) hq4
      · rw [List.map_append, List.map_append, h2.2 (fun q hq => e q (by omega))]
        simp [e c (by omega) h4]
    · rw [if_neg h4, if_neg (by omega)]
      refine ⟨h1, h2.trans ⟨fun e q hq hq4 => ?_, fun e q hq => e q (by omega)⟩⟩
      by_cases eq : q = c
      · subst eq; exact absurd hq4 h4
      · exact e q (by omega) hq4

/-- The look of a table by the classes of its leads. -/
def lk2 (L : Nat → Nat) (X : Nat → Nat → V) (cl : Nat → Nat) (i : Nat) : Lk := lkOf (cl i) cl (fun j => (ldsTo (X i) (L i)).getD j 0) (ldsTo (X i) (L i)).length
theorem lk2_eq {n : Nat} {L : Nat → Nat} {K X : Nat → Nat → V} {cl : Nat → Nat} (hg : Good n L X) (hL : ∀ r, r < n → L r ≤ 100) (hf : Facy n L K X cl) {i j : Nat} (hi : i < n) (hj : j < n) : lkEq (lk2 L X cl i) (lk2 L X cl j) = true ↔ cl i = cl j ∧ Looks L K X cl i j := by
  rw [lkEq_iff]
  have key : cl i = cl j → ((∀ t, t < 100 → (lk2 L X cl i).parts t = (lk2 L X cl j).parts t) ↔ Looks L K X cl i j) := fun hc => by
    have hfc := hf i j hi hj hc
    have hv : ∀ c, c < L i → K i c = K j c ∧ (X i c).k = (X j c).k ∧ ((X i c).k ≠ 4 → X i c = X j c) := fun c hc' => face_val (hg i hi c hc') (hg j hj c (by rw [← hfc.len]; exact hc')) (hfc.all c hc')
    obtain ⟨hlen, hmap⟩ := lds_map (cl := cl) (x := X i) (y := X j) (L i) (fun q hq => (hv q hq).2.1)
    have hbl := ldsTo_len (X i) (L i)
    have h100 := hL i hi
    have e1 : (∀ t, t < 100 → (lk2 L X cl i).parts t = (lk2 L X cl j).parts t) ↔ (ldsTo (X i) (L i)).map cl = (ldsTo (X j) (L i)).map cl := by
      constructor
      · intro h
        apply List.ext_getElem (by simp [hlen])
        intro t h1 h2
        simp only [List.length_map] at h1 h2
        have := h t (by omega)
        have ea : (lk2 L X cl i).parts t = cl (ldsTo (X i) (L i))[t] := by
          show (if t < _ then _ else 0) = _
          rw [if_pos h1]
          simp [h1]
        have eb : (lk2 L X cl j).parts t = cl (ldsTo (X j) (L i))[t] := by
          show (if t < (ldsTo (X j) (L j)).length then cl ((ldsTo (X j) (L j)).getD t 0) else 0) = _
          rw [← hfc.len, if_pos h2]
          simp [h2]
        simp only [List.getElem_map]
        rw [← ea, ← eb, this]
      · intro h t _
        show (if t < (ldsTo (X i) (L i)).length then cl ((ldsTo (X i) (L i)).getD t 0) else 0) = (if t < (ldsTo (X j) (L j)).length then cl ((ldsTo (X j) (L j)).getD t 0) else 0)
        rw [← hfc.len, ← hlen]
        by_cases ht : t < (ldsTo (X i) (L i)).length
        · rw [if_pos ht, if_pos ht]
          have ht' : t < (ldsTo (X j) (L i)).length := by rw [← hlen]; exact ht
          have := congrArg (fun l => l[t]?) h
          simp only [List.getElem?_map, List.getElem?_eq_getElem ht, List.getElem?_eq_getElem ht', Option.map_some, Option.some.injEq] at this
          simp [ht, ht', this]
        · rw [if_neg ht, if_neg ht]
    rw [e1, hmap]
    constructor
    · intro h
      exact ⟨hfc.len, fun c hc' => ⟨(hv c hc').1, alike_iff.2 ⟨(hv c hc').2.1, h c hc', (hv c hc').2.2⟩⟩⟩
    · intro h c hc' h4
      exact (alike_iff.1 (h.all c hc').2).2.1 h4
  constructor
  · rintro ⟨h1, h2⟩
    exact ⟨h1, (key h1).1 h2⟩
  · rintro ⟨h1, h2⟩
    exact ⟨h1, (key h1).2 h2⟩

theorem round_of {n : Nat} {L : Nat → Nat} {K X : Nat → Nat → V} {cl gr : Nat → Nat} (hg : Good n L X) (hL : ∀ r, r < n → L r ≤ 100) (hf : Facy n L K X cl) (h : ∀ i, i < n → Least (lk2 L X cl) i (gr i)) : Round n L K X cl gr ∧ Facy n L K X gr := by
  have hr : Round n L K X cl gr := ⟨fun i hi => (h i hi).le, fun i hi => (lk2_eq hg hL hf (by have := (h i hi).le; omega) hi).1 (h i hi).eq, fun i hi k hk hc => by
    have := (h i hi).least k hk
    rw [(lk2_eq hg hL hf (by have := (h i hi).le; omega) hi).2 hc] at this
    cases this⟩
  exact ⟨hr, fun i j hi hj e => hf i j hi hj ((hr.eq hi hj).1 e).1⟩

end Go.Proofs.Ytgflalfiopnmnaa
