import Derived.Test.YtgflalfiopnmnaaLkMap
import Derived.Deep.AppendLies
namespace Go.Proofs.Ytgflalfiopnmnaa
open Go.RowKit Vl

/-- A table's own block. -/
def TabB (w : World) (T M : Nat) (i : Int) (ord : Value) : Prop := w.heap[T]? = some (.cells #[.int .i64 i, .map (some M), ord] 66 (0, 0))

theorem TabB.cells {w : World} {T M : Nat} {i : Int} {ord : Value} (h : TabB w T M i ord) :
    w.cell? ⟨T, 0, none⟩ = some (.int .i64 i) ∧ w.cell? ⟨T, 1, none⟩ = some (.map (some M)) ∧ w.cell? ⟨T, 2, none⟩ = some ord ∧ ∀ j, w.frozen? ⟨T, j, none⟩ = false := by
  unfold TabB at h
  refine ⟨?_, ?_, ?_, fun j => ?_⟩ <;> simp [World.cell?, World.frozen?, h]
theorem TabB.put {w : World} {T M : Nat} {i : Int} {ord : Value} (h : TabB w T M i ord) (ord' : Value) : TabB (w.setCell ⟨T, 2, none⟩ ord') T M i ord' := by
  unfold TabB at h ⊢
  simp [World.setCell, Array.getElem?_modify, h]

set_option maxHeartbeats 1000000 in
set_option maxRecDepth 100000 in
/-- 'hasKey'. -/
theorem hasKey_any (T M : Nat) (i : Int) (ord : Value) (l : List (V × Value)) (v : V) (w : World) (HT : Hid (TabB w T M i ord)) (HM : Hid (MapIs w M l)) :
    Calls Try.prog 88 #[.pointer (some ⟨T, 0, none⟩), .agg #[.int .i64 v.k, .int .i64 v.n, .string v.s, .int .i64 v.a]] w fun e w' => e = .returned (.bool (findV v l).isSome) ∧ Below w.heap.size w w' := by
  obtain ⟨w0, hw0⟩ : ∃ w0, w0 = w.alloc (.cells #[.int .i64 v.k, .int .i64 v.n, .string v.s, .int .i64 v.a] 24) := ⟨_, rfl⟩
  have HB : Hid (Below w.heap.size w w0) := by rw [hw0]; exact (Below.refl _ _).alloc (Nat.le_refl _) _
  have HV : Hid (ValAt w0 w.heap.size 0 v.k v.n v.s v.a) := by rw [hw0]; exact ValAt.new w v.k v.n v.s v.a
  have hT0 : TabB w0 T M i ord := (HB.out.block T (blk_lt HT.out)).trans HT.out
  have hM0 : MapIs w0 M l := HM.out.same (HB.out.block M HM.out.lt)
  have m1 := (hM0.lookup v).1
  obtain ⟨t0, t1, t2, _⟩ := hT0.cells
  have c0 := HV.out.1; have c1 := HV.out.2.1; have c2 := HV.out.2.2.1; have c3 := HV.out.2.2.2
  simp only [Nat.zero_add] at c1 c2 c3
  have m1d : (Instr.lookup 64 (.map (some M)) (.agg #[.int .i64 v.k, .int .i64 v.n, .string v.s, .int .i64 v.a]) true).run Try.prog w0.drew = .ok (.tuple #[(findV v l).getD .nilIface, .bool (findV v l).isSome]) w0.drew := ((show MapIs w0.drew M l from hM0).lookup v).1
  clear hT0 hM0 HM HT
  go_enter Try.func88, Try.ntmps88
  go_wp2
  rw [← hw0]
  clear hw0
  go_region_held3 (fun w' => w'.cell? ⟨T, 1, none⟩ = some (.map (some M)) ∧ w'.cell? ⟨w.heap.size, 0, none⟩ = some (.int .i64 v.k) ∧ w'.cell? ⟨w.heap.size, 1, none⟩ = some (.int .i64 v.n) ∧ w'.cell? ⟨w.heap.size, 2, none⟩ = some (.string v.s) ∧ w'.cell? ⟨w.heap.size, 3, none⟩ = some (.int .i64 v.a) ∧ (Instr.lookup 64 (.map (some M)) (.agg #[.int .i64 v.k, .int .i64 v.n, .string v.s, .int .i64 v.a]) true).run Try.prog w' = .ok (.tuple #[(findV v l).getD .nilIface, .bool (findV v l).isSome]) w')
    (first | exact ⟨t1, c0, c1, c2, c3, m1d⟩)
    (fail)
  clear m1 m1d c0 c1 c2 c3 t0 t1 t2
  go_wp2
  go_ret
  exact ⟨rfl, HB.out.drew⟩

theorem Try.info24 : (Try.prog.info? 24).map (fun i => (i.zero, i.size, i.bytes)) = some (some (.agg #[.int .i64 0, .int .i64 0, .string ⟨#[]⟩, .int .i64 0]), 4, 40) := by kernel_rfl

/-- The cells of keys in a row. -/
def keyCells (ks : List V) : List Value := ks.flatMap fun v => [.int .i64 v.k, .int .i64 v.n, .string v.s, .int .i64 v.a]

/-- A key is put: what is known. -/
structure PutEnd (w w' : World) (T M base : Nat) (i : Int) (ks : List V) (l : List (V × Value)) (v : V) (x : Value) : Prop where
  tab : ∃ ord, TabB w' T M i ord ∧ w'.ownsRow base 24 4 ord (ks ++ [v]).length (keyCells (ks ++ [v]))
  map : MapIs w' M (l ++ [(v, x)])
  only : Only (fun k => k = T ∨ k = M ∨ base ≤ k) w w'

/-- Behind the append: the store into the field. -/
theorem put_end {w w1 w3 : World} {T M base g cap : Nat} {i : Int} {ord x : Value} {ks : List V} {l : List (V × Value)} {v : V} {o : Obj} (hO1 : Only (fun k => k = M) w w1) (hT1 : TabB w1 T M i ord) (hM1 : MapIs w1 M (l ++ [(v, x)])) (hR1 : w1.ownsRow base 24 4 ord ks.length (keyCells ks))
    (hTM : T ≠ M) (hTb : T < base) (hMb : M < base) (hbase : base ≤ w.heap.size) (hgrow : (w1.alloc o).drew.grownBy w3 ord.ownBlock)
    (hown : w3.ownsRow base 24 4 (.slice (some ⟨g, 0, none⟩) (ks.length + 1) cap) (ks.length + 1) (keyCells ks ++ [.int .i64 v.k, .int .i64 v.n, .string v.s, .int .i64 v.a])) (hg : base ≤ g) :
    (w3.cell? ⟨T, 2, none⟩ = some ord ∧ ∀ j, w3.frozen? ⟨T, j, none⟩ = false) ∧ PutEnd w (w3.setCell ⟨T, 2, none⟩ (.slice (some ⟨g, 0, none⟩) (ks.length + 1) cap)) T M base i ks l v x := by
  have hsz : w.heap.size ≤ w1.heap.size := hO1.size
  have hbel : Below base (w1.alloc o).drew w3 := below_grown (hR1.alloc o).drew hgrow (by show base ≤ (w1.alloc o).heap.size; simp; omega)
  have hk : ∀ k, k < base → w3.heap[k]? = w1.heap[k]? := fun k hk => (hbel.block k hk).trans (Below.heap_alloc w1 o k (by omega))
  have hT3 : TabB w3 T M i ord := (hk T hTb).trans hT1
  have hc := hT3.cells
  refine ⟨⟨hc.2.2.1, hc.2.2.2⟩, ⟨_, hT3.put _, ?_⟩, ?_, ?_⟩
  · have e : (ks ++ [v]).length = ks.length + 1 := by simp
    have e2 : keyCells (ks ++ [v]) = keyCells ks ++ [.int .i64 v.k, .int .i64 v.n, .string v.s, .int .i64 v.a] := by simp [keyCells]
    rw [e, e2]
    exact ownsRow_setCell_other (a := ⟨T, 2, none⟩) hown (by simp only [Value.ownBlock, ne_eq, Option.some.injEq]; omega) _
  · exact hM1.same ((Below.heap_setCell _ _ _ _ (show M ≠ T from fun e => hTM e.symm)).trans (hk M hMb))
  · refine ⟨(by exact hbel.os.trans hO1.os), (by exact hbel.tape.trans hO1.tape), (by exact hbel.output.trans hO1.output), ?_, fun k hk' hP => ?_⟩
    · simp only [World.setCell, Array.size_modify]
      have h4 : (w1.alloc o).heap.size ≤ w3.heap.size := hbel.size
      simp at h4
      omega
    · have h1 : k ≠ T := fun e => hP (Or.inl e)
      have h2 : k ≠ M := fun e => hP (Or.inr (Or.inl e))
      have h3 : k < base := by
        rcases Nat.lt_or_ge k base with h | h
        · exact h
        · exact absurd (Or.inr (Or.inr h)) hP
      rw [Below.heap_setCell _ _ _ _ (show k ≠ T from h1), hk k h3, hO1.block k hk' h2]

set_option maxHeartbeats 1000000 in
set_option maxRecDepth 100000 in
/-- 'put' of a key that is new. -/
theorem put_any (T M base : Nat) (i : Int) (ord x : Value) (ks : List V) (l : List (V × Value)) (v : V) (w : World) (HT : Hid (TabB w T M i ord)) (HM : Hid (MapIs w M l)) (hf : findV v l = none)
    (HO : Hid (w.ownsRow base 24 4 ord ks.length (keyCells ks))) (hTM : T ≠ M) (hTb : T < base) (hMb : M < base) (hbase : base ≤ w.heap.size) (hks : ks.length ≤ 1000) :
    Calls Try.prog 106 #[.pointer (some ⟨T, 0, none⟩), .agg #[.int .i64 v.k, .int .i64 v.n, .string v.s, .int .i64 v.a], x] w fun e w' => e = .returned (.tuple #[]) ∧ PutEnd w w' T M base i ks l v x := by
  obtain ⟨w0, hw0⟩ : ∃ w0, w0 = w.alloc (.cells #[.int .i64 v.k, .int .i64 v.n, .string v.s, .int .i64 v.a] 24) := ⟨_, rfl⟩
  have HB : Hid (Below w.heap.size w w0) := by rw [hw0]; exact (Below.refl _ _).alloc (Nat.le_refl _) _
  have HV : Hid (ValAt w0 w.heap.size 0 v.k v.n v.s v.a) := by rw [hw0]; exact ValAt.new w v.k v.n v.s v.a
  have hT0 : TabB w0 T M i ord := (HB.out.block T (blk_lt HT.out)).trans HT.out
  have hM0 : MapIs w0.drew M l := HM.out.same (HB.out.block M HM.out.lt)
  obtain ⟨w1, m1, hM1, hO1, hs1⟩ := hM0.update v x hf
  obtain ⟨t0, t1, t2, _⟩ := hT0.cells
  have c0 := HV.out.1; have c1 := HV.out.2.1; have c2 := HV.out.2.2.1; have c3 := HV.out.2.2.2
  simp only [Nat.zero_add] at c1 c2 c3
  have hMw : w.heap.size ≠ M := by omega
  have S0 : Hid (w0.drew.cell? ⟨T, 1, none⟩ = some (.map (some M)) ∧ w0.drew.cell? ⟨w.heap.size, 0, none⟩ = some (.int .i64 v.k) ∧ w0.drew.cell? ⟨w.heap.size, 1, none⟩ = some (.int .i64 v.n) ∧ w0.drew.cell? ⟨w.heap.size, 2, none⟩ = some (.string v.s) ∧ w0.drew.cell? ⟨w.heap.size, 3, none⟩ = some (.int .i64 v.a)) := show _ ∧ _ from ⟨t1, c0, c1, c2, c3⟩
  have S1 : Hid (w1.cell? ⟨T, 1, none⟩ = some (.map (some M)) ∧ w1.cell? ⟨w.heap.size, 0, none⟩ = some (.int .i64 v.k) ∧ w1.cell? ⟨w.heap.size, 1, none⟩ = some (.int .i64 v.n) ∧ w1.cell? ⟨w.heap.size, 2, none⟩ = some (.string v.s) ∧ w1.cell? ⟨w.heap.size, 3, none⟩ = some (.int .i64 v.a)) := show _ ∧ _ from
    ⟨hO1.cell S0.out.1 hTM, hO1.cell S0.out.2.1 hMw, hO1.cell S0.out.2.2.1 hMw, hO1.cell S0.out.2.2.2.1 hMw, hO1.cell S0.out.2.2.2.2 hMw⟩
  have HM1 : Hid (MapIs w1 M (l ++ [(v, x)])) := hM1
  have HO1 : Hid (Only (fun k => k = M) w w1) := (Only.below HB.out.drew).trans hO1
  have HT1 : Hid (TabB w1 T M i ord) := (hO1.block T (blk_lt hT0) hTM).trans hT0
  have HR1 : Hid (w1.ownsRow base 24 4 ord ks.length (keyCells ks)) := HO1.out.owns HO.out (fun g hg _ e => by omega)
  have HS1 : Hid (w1.heap.size = w0.heap.size) := hs1
  have HNB : Hid (some w.heap.size ≠ ord.ownBlock) := by
    show some w.heap.size ≠ ord.ownBlock
    rcases HO.out.2 with ⟨rfl, _⟩ | ⟨g, cap, cur, rfl, hgb, hh, _⟩
    · simp [Value.ownBlock]
    · have := blk_lt hh
      simp only [Value.ownBlock, ne_eq, Option.some.injEq]
      omega
  clear hM1 hO1 hs1 hM0 HO HM HT hT0
  go_enter Try.func106, Try.ntmps106
  go_wp2
  rw [← hw0]
  have hsz0 : Hid (w0.heap.size = w.heap.size + 1) := by rw [hw0]; exact (by simp : (w.alloc _).heap.size = w.heap.size + 1)
  clear hw0
  go_region_held3 (fun w' => w'.cell? ⟨T, 1, none⟩ = some (.map (some M)) ∧ w'.cell? ⟨w.heap.size, 0, none⟩ = some (.int .i64 v.k) ∧ w'.cell? ⟨w.heap.size, 1, none⟩ = some (.int .i64 v.n) ∧ w'.cell? ⟨w.heap.size, 2, none⟩ = some (.string v.s) ∧ w'.cell? ⟨w.heap.size, 3, none⟩ = some (.int .i64 v.a))
    (first | with_reducible exact S1.out | with_reducible exact S0.out | exact S0.out)
    (fail)
  clear S0 m1 t0 t1 t2 c0 c1 c2 c3
  obtain ⟨i0, hi, hz0, hz1, hz2⟩ := info_parts Try.info24
  obtain ⟨_, c0, c1, c2, c3⟩ := id S1.out
  obtain ⟨_, _, t2, z2⟩ := HT1.out.cells
  have hTlt : T < w1.heap.size := blk_lt HT1.out
  have hslt : w.heap.size < w1.heap.size := by have := HS1.out; have := hsz0.out; omega
  go_wp2
  refine wp_region_held_drew (S := fun w' => w'.cell? ⟨w.heap.size, 0, none⟩ = some (.int .i64 v.k) ∧ w'.cell? ⟨w.heap.size, 1, none⟩ = some (.int .i64 v.n) ∧ w'.cell? ⟨w.heap.size, 2, none⟩ = some (.string v.s) ∧ w'.cell? ⟨w.heap.size, 3, none⟩ = some (.int .i64 v.a)) (by kernel_rfl) ⟨c0, c1, c2, c3⟩ (fun hHeld => ?_)
  refine wpAnyH_take (i := 0) (v := .pointer (some ⟨T, 0, none⟩)) rfl (by kernel_rfl) (by kernel_rfl) (by kernel_rfl) (fun _ _ _ h => h) (Or.inl ⟨by rfl, fun w hSw => ?_⟩) hHeld ?_
  · first | rfl | (obtain ⟨s1, s2, s3, s4⟩ := hSw; go_simp)
  simp only [Act.put, List.setIfInBounds_toArray, List.set_cons_zero, List.set_cons_succ, List.getElem_toArray, List.getElem_cons_zero]
  refine wpAnyH_take (i := 1) (v := .pointer (some ⟨T, 0, none⟩)) rfl (by kernel_rfl) (by kernel_rfl) (by kernel_rfl) (fun _ _ _ h => h) (Or.inl ⟨by rfl, fun w hSw => ?_⟩) hHeld ?_
  · first | rfl | (obtain ⟨s1, s2, s3, s4⟩ := hSw; go_simp)
  simp only [Act.put, List.setIfInBounds_toArray, List.set_cons_zero, List.set_cons_succ, List.getElem_toArray, List.getElem_cons_zero, List.getElem_cons_succ]
  refine wpAnyH_take (i := 2) (v := .pointer (some ⟨T, 0, none⟩)) rfl (by kernel_rfl) (by kernel_rfl) (by kernel_rfl) (fun _ _ _ h => h) (Or.inl ⟨by rfl, fun w hSw => ?_⟩) hHeld ?_
  · first | rfl | (obtain ⟨s1, s2, s3, s4⟩ := hSw; go_simp)
  simp only [Act.put, List.setIfInBounds_toArray, List.set_cons_zero, List.set_cons_succ, List.getElem_toArray, List.getElem_cons_zero, List.getElem_cons_succ]
  refine wpAnyH_take (i := 3) (v := .pointer (some ⟨T, 2, none⟩)) rfl (by kernel_rfl) (by kernel_rfl) (by kernel_rfl) (fun _ _ _ h => h) (Or.inl ⟨by rfl, fun w hSw => ?_⟩) hHeld ?_
  · first | rfl | (obtain ⟨s1, s2, s3, s4⟩ := hSw; go_simp)
  simp only [Act.put, List.setIfInBounds_toArray, List.set_cons_zero, List.set_cons_succ, List.getElem_toArray, List.getElem_cons_zero, List.getElem_cons_succ]
  refine wpAnyH_take (i := 5) (v := .agg #[.int .i64 v.k, .int .i64 v.n, .string v.s, .int .i64 v.a]) rfl (by kernel_rfl) (by kernel_rfl) (by kernel_rfl) (fun _ _ _ h => h) (Or.inl ⟨by rfl, fun w hSw => ?_⟩) hHeld ?_
  · first | rfl | (obtain ⟨s1, s2, s3, s4⟩ := hSw; go_simp)
  simp only [Act.put, List.setIfInBounds_toArray, List.set_cons_zero, List.set_cons_succ, List.getElem_toArray, List.getElem_cons_zero, List.getElem_cons_succ]
  refine wpAnyH_ready (rs := [4, 6]) (by kernel_rfl) (by simp) ?_
  refine AllReadyH.cons rfl (fun K' hK' => ?_) (AllReadyH.cons rfl (fun K' hK' => ?_) AllReadyH.nil)
  · go_simp
    refine hK'.out _ _ ⟨c0, c1, c2, c3⟩ (fun hHeld => ?_)
    clear hK'
    refine wpAnyH_ready (rs := [6]) (by kernel_rfl) (by simp) ?_
    refine AllReadyH.cons rfl (fun K' hK' => ?_) AllReadyH.nil
    go_simp
    refine hK'.out _ _ ?_ (fun hHeld => ?_)
    · exact ValAt.below (o := 0) (w := w1) ⟨c0, c1, c2, c3⟩ ((Below.refl _ _).alloc (Nat.le_refl _) _).drew
    clear hK'
    refine wpAnyH_ready (rs := [7]) (by kernel_rfl) (by simp) ?_
    refine AllReadyH.cons rfl (fun K' hK' => ?_) AllReadyH.nil
    refine step_append_lies _ (by rfl) (.tmp 16) (.tmp 18) 36 (by rfl) base 24 i0 (.agg #[.int .i64 0, .int .i64 0, .string ⟨#[]⟩, .int .i64 0]) 4 40 Try.underlying36 hi hz0 hz1 hz2 (by rfl) (by omega) ord ks.length (keyCells ks) (by rfl) ((HR1.out.alloc _).drew) ⟨w1.heap.size, 0, none⟩ 1 1 [.int .i64 v.k, .int .i64 v.n, .string v.s, .int .i64 v.a] (by rfl) (by rfl) (World.news_of_block (w := (w1.alloc _).drew) (heap_alloc_new w1 _)) (by intro u hu; simp at hu; rcases hu with rfl | rfl | rfl | rfl <;> rfl) (by omega) (by unfold maxLen; omega) (by omega) (by simp; omega) (w1.heap.size + 1) (by simp) ?_
    intro g cap w3 hown3 hgrow3 hat hlt
    have hg : base ≤ g := by
      rcases hown3.2 with ⟨h, _⟩ | ⟨g', cap', cur, h, hgb, _⟩
      · cases h
      · cases h; exact hgb
    have PE := put_end HO1.out HT1.out HM1.out HR1.out hTM hTb hMb hbase hgrow3 hown3 hg
    have S3 : w3.cell? ⟨w.heap.size, 0, none⟩ = some (.int .i64 v.k) ∧ w3.cell? ⟨w.heap.size, 1, none⟩ = some (.int .i64 v.n) ∧ w3.cell? ⟨w.heap.size, 2, none⟩ = some (.string v.s) ∧ w3.cell? ⟨w.heap.size, 3, none⟩ = some (.int .i64 v.a) := by
      have hh := hHeld
      have hl : w.heap.size < (w1.alloc (.cells #[.int .i64 v.k, .int .i64 v.n, .string v.s, .int .i64 v.a] 24)).drew.heap.size := by show w.heap.size < (w1.alloc _).heap.size; simp; omega
      exact ⟨(hgrow3.cell_far ⟨w.heap.size, 0, none⟩ hl HNB.out).trans hh.1, (hgrow3.cell_far ⟨w.heap.size, 1, none⟩ hl HNB.out).trans hh.2.1, (hgrow3.cell_far ⟨w.heap.size, 2, none⟩ hl HNB.out).trans hh.2.2.1, (hgrow3.cell_far ⟨w.heap.size, 3, none⟩ hl HNB.out).trans hh.2.2.2⟩
    have HPE : Hid (PutEnd w (w3.setCell ⟨T, 2, none⟩ (.slice (some ⟨g, 0, none⟩) (ks.length + 1) cap)) T M base i ks l v x) := PE.2
    obtain ⟨e2, ez⟩ := PE.1
    have S4 : Hid ((w3.setCell ⟨T, 2, none⟩ (.slice (some ⟨g, 0, none⟩) (ks.length + 1) cap)).cell? ⟨w.heap.size, 0, none⟩ = some (.int .i64 v.k) ∧ (w3.setCell ⟨T, 2, none⟩ (.slice (some ⟨g, 0, none⟩) (ks.length + 1) cap)).cell? ⟨w.heap.size, 1, none⟩ = some (.int .i64 v.n) ∧ (w3.setCell ⟨T, 2, none⟩ (.slice (some ⟨g, 0, none⟩) (ks.length + 1) cap)).cell? ⟨w.heap.size, 2, none⟩ = some (.string v.s) ∧ (w3.setCell ⟨T, 2, none⟩ (.slice (some ⟨g, 0, none⟩) (ks.length + 1) cap)).cell? ⟨w.heap.size, 3, none⟩ = some (.int .i64 v.a)) := by
      have e := Below.heap_setCell w3 ⟨T, 2, none⟩ (.slice (some ⟨g, 0, none⟩) (ks.length + 1) cap) w.heap.size (show w.heap.size ≠ T by omega)
      generalize (w3.setCell ⟨T, 2, none⟩ (.slice (some ⟨g, 0, none⟩) (ks.length + 1) cap)) = w4 at e
      exact ⟨by rw [World.cell?_of_block e]; exact S3.1, by rw [World.cell?_of_block e]; exact S3.2.1, by rw [World.cell?_of_block e]; exact S3.2.2.1, by rw [World.cell?_of_block e]; exact S3.2.2.2⟩
    refine hK'.out _ _ S3 (fun hHeld => ?_)
    clear hK' PE hown3 hgrow3 hat
    simp only [Act.put, List.setIfInBounds_toArray, List.set_cons_zero, List.set_cons_succ, List.getElem_toArray, List.getElem_cons_zero, List.getElem_cons_succ]
    refine wpAnyH_take (i := 8) (v := .pointer (some ⟨T, 0, none⟩)) rfl (by kernel_rfl) (by kernel_rfl) (by kernel_rfl) (fun _ _ _ h => h) (Or.inl ⟨by rfl, fun w hSw => ?_⟩) hHeld ?_
    · rfl
    simp only [Act.put, List.setIfInBounds_toArray, List.set_cons_zero, List.set_cons_succ, List.getElem_toArray, List.getElem_cons_zero, List.getElem_cons_succ]
    refine wpAnyH_take (i := 9) (v := .pointer (some ⟨T, 2, none⟩)) rfl (by kernel_rfl) (by kernel_rfl) (by kernel_rfl) (fun _ _ _ h => h) (Or.inl ⟨by rfl, fun w hSw => ?_⟩) hHeld ?_
    · first | rfl | go_simp
    simp only [Act.put, List.setIfInBounds_toArray, List.set_cons_zero, List.set_cons_succ, List.getElem_toArray, List.getElem_cons_zero, List.getElem_cons_succ]
    refine wpAnyH_ready (rs := [10]) (by kernel_rfl) (by simp) ?_
    refine AllReadyH.cons rfl (fun K' hK' => ?_) AllReadyH.nil
    clear hHeld S3
    go_simp
    refine hK'.out _ _ S4.out (fun hHeld => ?_)
    clear hK'
    refine wpAnyH_done (by kernel_rfl) ?_ _
    go_end0
    exact ⟨rfl, HPE.out⟩
  · go_simp
    refine hK'.out _ _ ?_ (fun hHeld => ?_)
    · exact ValAt.below (o := 0) (w := w1) ⟨c0, c1, c2, c3⟩ ((Below.refl _ _).alloc (Nat.le_refl _) _).drew
    clear hK'
    refine wpAnyH_ready (rs := [4]) (by kernel_rfl) (by simp) ?_
    refine AllReadyH.cons rfl (fun K' hK' => ?_) AllReadyH.nil
    go_simp
    refine hK'.out _ _ ?_ (fun hHeld => ?_)
    · exact ValAt.below (o := 0) (w := w1) ⟨c0, c1, c2, c3⟩ ((Below.refl _ _).alloc (Nat.le_refl _) _).drew
    clear hK'
    refine wpAnyH_ready (rs := [7]) (by kernel_rfl) (by simp) ?_
    refine AllReadyH.cons rfl (fun K' hK' => ?_) AllReadyH.nil
    refine step_append_lies _ (by rfl) (.tmp 16) (.tmp 18) 36 (by rfl) base 24 i0 (.agg #[.int .i64 0, .int .i64 0, .string ⟨#[]⟩, .int .i64 0]) 4 40 Try.underlying36 hi hz0 hz1 hz2 (by rfl) (by omega) ord ks.length (keyCells ks) (by rfl) ((HR1.out.alloc _).drew) ⟨w1.heap.size, 0, none⟩ 1 1 [.int .i64 v.k, .int .i64 v.n, .string v.s, .int .i64 v.a] (by rfl) (by rfl) (World.news_of_block (w := (w1.alloc _).drew) (heap_alloc_new w1 _)) (by intro u hu; simp at hu; rcases hu with rfl | rfl | rfl | rfl <;> rfl) (by omega) (by unfold maxLen; omega) (by omega) (by simp; omega) (w1.heap.size + 1) (by simp) ?_
    intro g cap w3 hown3 hgrow3 hat hlt
    have hg : base ≤ g := by
      rcases hown3.2 with ⟨h, _⟩ | ⟨g', cap', cur, h, hgb, _⟩
      · cases h
      · cases h; exact hgb
    have PE := put_end HO1.out HT1.out HM1.out HR1.out hTM hTb hMb hbase hgrow3 hown3 hg
    have S3 : w3.cell? ⟨w.heap.size, 0, none⟩ = some (.int .i64 v.k) ∧ w3.cell? ⟨w.heap.size, 1, none⟩ = some (.int .i64 v.n) ∧ w3.cell? ⟨w.heap.size, 2, none⟩ = some (.string v.s) ∧ w3.cell? ⟨w.heap.size, 3, none⟩ = some (.int .i64 v.a) := by
      have hh := hHeld
      have hl : w.heap.size < (w1.alloc (.cells #[.int .i64 v.k, .int .i64 v.n, .string v.s, .int .i64 v.a] 24)).drew.heap.size := by show w.heap.size < (w1.alloc _).heap.size; simp; omega
      exact ⟨(hgrow3.cell_far ⟨w.heap.size, 0, none⟩ hl HNB.out).trans hh.1, (hgrow3.cell_far ⟨w.heap.size, 1, none⟩ hl HNB.out).trans hh.2.1, (hgrow3.cell_far ⟨w.heap.size, 2, none⟩ hl HNB.out).trans hh.2.2.1, (hgrow3.cell_far ⟨w.heap.size, 3, none⟩ hl HNB.out).trans hh.2.2.2⟩
    have HPE : Hid (PutEnd w (w3.setCell ⟨T, 2, none⟩ (.slice (some ⟨g, 0, none⟩) (ks.length + 1) cap)) T M base i ks l v x) := PE.2
    obtain ⟨e2, ez⟩ := PE.1
    have S4 : Hid ((w3.setCell ⟨T, 2, none⟩ (.slice (some ⟨g, 0, none⟩) (ks.length + 1) cap)).cell? ⟨w.heap.size, 0, none⟩ = some (.int .i64 v.k) ∧ (w3.setCell ⟨T, 2, none⟩ (.slice (some ⟨g, 0, none⟩) (ks.length + 1) cap)).cell? ⟨w.heap.size, 1, none⟩ = some (.int .i64 v.n) ∧ (w3.setCell ⟨T, 2, none⟩ (.slice (some ⟨g, 0, none⟩) (ks.length + 1) cap)).cell? ⟨w.heap.size, 2, none⟩ = some (.string v.s) ∧ (w3.setCell ⟨T, 2, none⟩ (.slice (some ⟨g, 0, none⟩) (ks.length + 1) cap)).cell? ⟨w.heap.size, 3, none⟩ = some (.int .i64 v.a)) := by
      have e := Below.heap_setCell w3 ⟨T, 2, none⟩ (.slice (some ⟨g, 0, none⟩) (ks.length + 1) cap) w.heap.size (show w.heap.size ≠ T by omega)
      generalize (w3.setCell ⟨T, 2, none⟩ (.slice (some ⟨g, 0, none⟩) (ks.length + 1) cap)) = w4 at e
      exact ⟨by rw [World.cell?_of_block e]; exact S3.1, by rw [World.cell?_of_block e]; exact S3.2.1, by rw [World.cell?_of_block e]; exact S3.2.2.1, by rw [World.cell?_of_block e]; exact S3.2.2.2⟩
    refine hK'.out _ _ S3 (fun hHeld => ?_)
    clear hK' PE hown3 hgrow3 hat
    simp only [Act.put, List.setIfInBounds_toArray, List.set_cons_zero, List.set_cons_succ, List.getElem_toArray, List.getElem_cons_zero, List.getElem_cons_succ]
    refine wpAnyH_take (i := 8) (v := .pointer (some ⟨T, 0, none⟩)) rfl (by kernel_rfl) (by kernel_rfl) (by kernel_rfl) (fun _ _ _ h => h) (Or.inl ⟨by rfl, fun w hSw => ?_⟩) hHeld ?_
    · rfl
    simp only [Act.put, List.setIfInBounds_toArray, List.set_cons_zero, List.set_cons_succ, List.getElem_toArray, List.getElem_cons_zero, List.getElem_cons_succ]
    refine wpAnyH_take (i := 9) (v := .pointer (some ⟨T, 2, none⟩)) rfl (by kernel_rfl) (by kernel_rfl) (by kernel_rfl) (fun _ _ _ h => h) (Or.inl ⟨by rfl, fun w hSw => ?_⟩) hHeld ?_
    · first | rfl | go_simp
    simp only [Act.put, List.setIfInBounds_toArray, List.set_cons_zero, List.set_cons_succ, List.getElem_toArray, List.getElem_cons_zero, List.getElem_cons_succ]
    refine wpAnyH_ready (rs := [10]) (by kernel_rfl) (by simp) ?_
    refine AllReadyH.cons rfl (fun K' hK' => ?_) AllReadyH.nil
    clear hHeld S3
    go_simp
    refine hK'.out _ _ S4.out (fun hHeld => ?_)
    clear hK'
    refine wpAnyH_done (by kernel_rfl) ?_ _
    go_end0
    exact ⟨rfl, HPE.out⟩

end Go.Proofs.Ytgflalfiopnmnaa
