import Derived.Test.YtgflalfiopnmnaaGreatDoorM0
import Derived.Test.YtgflalfiopnmnaaGreatDoorM1
import Derived.Deep.AppendLies
namespace Go.Proofs.YtgflalfiopnmnaaGreatDoor
open Go.RowKit Vl

def TabB (w : World) (T M : Nat) (i : Int) (ord : Value) : Prop := w.heap[T]? = some (.cells #[.int .i64 i, .map (some M), ord] 121 (0, 0))

theorem TabB.cells {w : World} {T M : Nat} {i : Int} {ord : Value} (h : TabB w T M i ord) :
    w.cell? ⟨T, 0, none⟩ = some (.int .i64 i) ∧ w.cell? ⟨T, 1, none⟩ = some (.map (some M)) ∧ w.cell? ⟨T, 2, none⟩ = some ord ∧ ∀ j, w.frozen? ⟨T, j, none⟩ = false := by
  unfold TabB at h
  refine ⟨?_, ?_, ?_, fun j => ?_⟩ <;> simp [World.cell?, World.frozen?, h]
theorem TabB.put {w : World} {T M : Nat} {i : Int} {ord : Value} (h : TabB w T M i ord) (ord' : Value) : TabB (w.setCell ⟨T, 2, none⟩ ord') T M i ord' := by
  unfold TabB at h ⊢
  simp [World.setCell, Array.getElem?_modify, h]

set_option maxHeartbeats 1000000 in
set_option maxRecDepth 100000 in
theorem hasKey_any (T M : Nat) (i : Int) (ord : Value) (l : List (V × Value)) (v : V) (w : World) (HT : Hid (TabB w T M i ord)) (HM : Hid (MapIs w M l)) :
    Calls Tryz.prog 88 #[.pointer (some ⟨T, 0, none⟩), .agg #[.int .i64 v.k, .int .i64 v.n, .string v.s, .int .i64 v.a]] w fun e w' => e = .returned (.bool (findV v l).isSome) ∧ Below w.heap.size w w' := by
  obtain ⟨w0, hw0⟩ : ∃ w0, w0 = w.alloc (.cells #[.int .i64 v.k, .int .i64 v.n, .string v.s, .int .i64 v.a] 24) := ⟨_, rfl⟩
  have HB : Hid (Below w.heap.size w w0) := by rw [hw0]; exact (Below.refl _ _).alloc (Nat.le_refl _) _
  have HV : Hid (ValAt w0 w.heap.size 0 v.k v.n v.s v.a) := by rw [hw0]; exact ValAt.new w v.k v.n v.s v.a
  have hT0 : TabB w0 T M i ord := (HB.out.block T (blk_lt HT.out)).trans HT.out
  have hM0 : MapIs w0 M l := HM.out.same (HB.out.block M HM.out.lt)
  have m1 := (hM0.lookup v).1
  obtain ⟨t0, t1, t2, _⟩ := hT0.cells
  have c0 := HV.out.1; have c1 := HV.out.2.1; have c2 := HV.out.2.2.1; have c3 := HV.out.2.2.2
  simp only [Nat.zero_add] at c1 c2 c3
  have m1d : (Instr.lookup 119 (.map (some M)) (.agg #[.int .i64 v.k, .int .i64 v.n, .string v.s, .int .i64 v.a]) true).run Tryz.prog w0.drew = .ok (.tuple #[(findV v l).getD .nilIface, .bool (findV v l).isSome]) w0.drew := ((show MapIs w0.drew M l from hM0).lookup v).1
  clear hT0 hM0 HM HT
  go_enter Tryz.func88, Tryz.ntmps88
  go_wp2
  rw [← hw0]
  clear hw0
  go_region_held3 (fun w' => w'.cell? ⟨T, 1, none⟩ = some (.map (some M)) ∧ w'.cell? ⟨w.heap.size, 0, none⟩ = some (.int .i64 v.k) ∧ w'.cell? ⟨w.heap.size, 1, none⟩ = some (.int .i64 v.n) ∧ w'.cell? ⟨w.heap.size, 2, none⟩ = some (.string v.s) ∧ w'.cell? ⟨w.heap.size, 3, none⟩ = some (.int .i64 v.a) ∧ (Instr.lookup 119 (.map (some M)) (.agg #[.int .i64 v.k, .int .i64 v.n, .string v.s, .int .i64 v.a]) true).run Tryz.prog w' = .ok (.tuple #[(findV v l).getD .nilIface, .bool (findV v l).isSome]) w')
    (first | exact ⟨t1, c0, c1, c2, c3, m1d⟩)
    (fail)
  clear m1 m1d c0 c1 c2 c3 t0 t1 t2
  go_wp2
  go_ret
  exact ⟨rfl, HB.out.drew⟩

theorem Tryz.info24 : (Tryz.prog.info? 24).map (fun i => (i.zero, i.size, i.bytes)) = some (some (.agg #[.int .i64 0, .int .i64 0, .string ⟨#[]⟩, .int .i64 0]), 4, 40) := by kernel_rfl

def keyCells (ks : List V) : List Value := ks.flatMap fun v => [.int .i64 v.k, .int .i64 v.n, .string v.s, .int .i64 v.a]

structure PutEnd (w w' : World) (T M base : Nat) (i : Int) (ks : List V) (l : List (V × Value)) (v : V) (x : Value) : Prop where
  tab : ∃ ord, TabB w' T M i ord ∧ w'.ownsRow base 24 4 ord (ks ++ [v]).length (keyCells (ks ++ [v]))
  map : MapIs w' M (l ++ [(v, x)])
  only : Only (fun k => k = T ∨ k = M ∨ base ≤ k) w w'

theorem put_end {w w1 w3 : World} {T M base g cap : Nat} {i : Int} {ord x : Value} {ks : List V} {l : List (V × Value)} {v : V} {o : Obj} (hO1 : Only (fun k => k = M) w w1) (hT1 : TabB w1 T M i ord) (hM1 : MapIs w1 M (l ++ [(v, x)])) (hR1 : w1.ownsRow base 24 4 ord ks.length (keyCells ks))
    (hTM : T ≠ M) (hTb : T < base) (hMb : M < base) (hbase : base ≤ w.heap.size) (hgrow : (w1.alloc o).drew.grownBy w3 ord.ownBlock)
    (hown : w3.ownsRow base 24 4 (.slice (some ⟨g, 0, none⟩) (ks.length + 1) cap) (ks.length + 1) (keyCells ks ++ [.int .i64 v.k, .int .i64 v.n, .string v.s, .int .i64 v.a])) (hg : base ≤ g) :
    (w3.cell? ⟨T, 2, none⟩ = some ord ∧ ∀ j, w3.frozen? ⟨T, j, none⟩ = false) ∧ PutEnd w (w3.setCell ⟨T, 2, none⟩ (.slice (some ⟨g, 0, none⟩) (ks.length + 1) cap)) T M base i ks l v x := by
  have hsz : w.heap.size ≤ w1.heap.size := hO1.size
  have hbel : Below base (w1.alloc o).drew w3 := below_grown (hR1.alloc o).drew hgrow (by show base ≤ (w1.alloc o).heap.size; simp; omega)
  have hk : ∀ k, k < base → w3.heap[k]? = w1.heap[k]? := fun k hk => (hbel.block k hk).trans (Below.heap_alloc w1 o k (by omega))
  have hT3 : TabB w3 T M i ord := (hk T hTb).trans hT1
  have hc := hT3.cells
  refine ⟨⟨hc.2.2.1, hc.2.2.2⟩, ⟨_, hT3.put _, ?_⟩, ?_, ?_⟩
  · have e : (ks ++ [v]).length = ks.length + 1 := by simp
    have e2 : keyCells (ks ++ [v]) = keyCells ks ++ [.int .i64 v.k, .int .i64 v.n, .string v.s, .int .i64 v.a] := by simp [keyCells]
    rw [e, e2]
    exact ownsRow_setCell_other (a := ⟨T, 2, none⟩) hown (by simp only [Value.ownBlock, ne_eq, Option.some.injEq]; omega) _
  · exact hM1.same ((Below.heap_setCell _ _ _ _ (show M ≠ T from fun e => hTM e.symm)).trans (hk M hMb))
  · refine ⟨(by exact hbel.os.trans hO1.os), (by exact hbel.tape.trans hO1.tape), (by exact hbel.output.trans hO1.output), ?_, fun k hk' hP => ?_⟩
    · simp only [World.setCell, Array.size_modify]
      have h4 : (w1.alloc o).heap.size ≤ w3.heap.size := hbel.size
      simp at h4
      omega
    · have h1 : k ≠ T := fun e => hP (Or.inl e)
      have h2 : k ≠ M := fun e => hP (Or.inr (Or.inl e))
      have h3 : k < base := by
        rcases Nat.lt_or_ge k base with h | h
        · exact h
        · exact absurd (Or.inr (Or.inr h)) hP
      rw [Below.heap_setCell _ _ _ _ (show k ≠ T from h1), hk k h3, hO1.block k hk' h2]

set_option maxHeartbeats 1000000 in
set_option maxRecDepth 100000 in
theorem put_any (T M base : Nat) (i : Int) (ord x : Value) (ks : List V) (l : List (V × Value)) (v : V) (w : World) (HT : Hid (TabB w T M i ord)) (HM : Hid (MapIs w M l)) (hf : findV v l = none)
    (HO : Hid (w.ownsRow base 24 4 ord ks.length (keyCells ks))) (hTM : T ≠ M) (hTb : T < base) (hMb : M < base) (hbase : base ≤ w.heap.size) (hks : ks.length ≤ 1000) :
    Calls Tryz.prog 89 #[.pointer (some ⟨T, 0, none⟩), .agg #[.int .i64 v.k, .int .i64 v.n, .string v.s, .int .i64 v.a], x] w fun e w' => e = .returned (.tuple #[]) ∧ PutEnd w w' T M base i ks l v x := by
  obtain ⟨w0, hw0⟩ : ∃ w0, w0 = w.alloc (.cells #[.int .i64 v.k, .int .i64 v.n, .string v.s, .int .i64 v.a] 24) := ⟨_, rfl⟩
  have HB : Hid (Below w.heap.size w w0) := by rw [hw0]; exact (Below.refl _ _).alloc (Nat.le_refl _) _
  have HV : Hid (ValAt w0 w.heap.size 0 v.k v.n v.s v.a) := by rw [hw0]; exact ValAt.new w v.k v.n v.s v.a
  have hT0 : TabB w0 T M i ord := (HB.out.block T (blk_lt HT.out)).trans HT.out
  have hM0 : MapIs w0.drew M l := HM.out.same (HB.out.block M HM.out.lt)
  obtain ⟨w1, m1, hM1, hO1, hs1⟩ := hM0.update v x hf
  obtain ⟨t0, t1, t2, _⟩ := hT0.cells
  have c0 := HV.out.1; have c1 := HV.out.2.1; have c2 := HV.out.2.2.1; have c3 := HV.out.2.2.2
  simp only [Nat.zero_add] at c1 c2 c3
  have hMw : w.heap.size ≠ M := by omega
  have S0 : Hid (w0.drew.cell? ⟨T, 1, none⟩ = some (.map (some M)) ∧ w0.drew.cell? ⟨w.heap.size, 0, none⟩ = some (.int .i64 v.k) ∧ w0.drew.cell? ⟨w.heap.size, 1, none⟩ = some (.int .i64 v.n) ∧ w0.drew.cell? ⟨w.heap.size, 2, none⟩ = some (.string v.s) ∧ w0.drew.cell? ⟨w.heap.size, 3, none⟩ = some (.int .i64 v.a)) := show _ ∧ _ from ⟨t1, c0, c1, c2, c3⟩
  have S1 : Hid (w1.cell? ⟨T, 1, none⟩ = some (.map (some M)) ∧ w1.cell? ⟨w.heap.size, 0, none⟩ = some (.int .i64 v.k) ∧ w1.cell? ⟨w.heap.size, 1, none⟩ = some (.int .i64 v.n) ∧ w1.cell? ⟨w.heap.size, 2, none⟩ = some (.string v.s) ∧ w1.cell? ⟨w.heap.size, 3, none⟩ = some (.int .i64 v.a)) := show _ ∧ _ from
    ⟨hO1.cell S0.out.1 hTM, hO1.cell S0.out.2.1 hMw, hO1.cell S0.out.2.2.1 hMw, hO1.cell S0.out.2.2.2.1 hMw, hO1.cell S0.out.2.2.2.2 hMw⟩
  have HM1 : Hid (MapIs w1 M (l ++ [(v, x)])) := hM1
  have HO1 : Hid (Only (fun k => k = M) w w1) := (Only.below HB.out.drew).trans hO1
  have HT1 : Hid (TabB w1 T M i ord) := (hO1.block T (blk_lt hT0) hTM).trans hT0
  have HR1 : Hid (w1.ownsRow base 24 4 ord ks.length (keyCells ks)) := HO1.out.owns HO.out (fun g hg _ e => by omega)
  have HS1 : Hid (w1.heap.size = w0.heap.size) := hs1
  have HNB : Hid (some w.heap.size ≠ ord.ownBlock) := by
    show some w.heap.size ≠ ord.ownBlock
    rcases HO.out.2 with ⟨rfl, _⟩ | ⟨g, cap, cur, rfl, hgb, hh, _⟩
    · simp [Value.ownBlock]
    · have := blk_lt hh
      simp only [Value.ownBlock, ne_eq, Option.some.injEq]
      omega
  clear hM1 hO1 hs1 hM0 HO HM HT hT0
  go_enter Tryz.func89, Tryz.ntmps89
  go_wp2
  rw [← hw0]
  have hsz0 : Hid (w0.heap.size = w.heap.size + 1) := by rw [hw0]; exact (by simp : (w.alloc _).heap.size = w.heap.size + 1)
  clear hw0
  go_region_held3 (fun w' => w'.cell? ⟨T, 1, none⟩ = some (.map (some M)) ∧ w'.cell? ⟨w.heap.size, 0, none⟩ = some (.int .i64 v.k) ∧ w'.cell? ⟨w.heap.size, 1, none⟩ = some (.int .i64 v.n) ∧ w'.cell? ⟨w.heap.size, 2, none⟩ = some (.string v.s) ∧ w'.cell? ⟨w.heap.size, 3, none⟩ = some (.int .i64 v.a))
    (first | with_reducible exact S1.out | with_reducible exact S0.out | exact S0.out)
    (fail)
  clear S0 m1 t0 t1 t2 c0 c1 c2 c3
  obtain ⟨i0, hi, hz0, hz1, hz2⟩ := info_parts Tryz.info24
  obtain ⟨_, c0, c1, c2, c3⟩ := id S1.out
  obtain ⟨_, _, t2, z2⟩ := HT1.out.cells
  have hTlt : T < w1.heap.size := blk_lt HT1.out
  have hslt : w.heap.size < w1.heap.size := by have := HS1.out; have := hsz0.out; omega
  go_wp2
  refine wp_region_held_drew (S := fun w' => w'.cell? ⟨w.heap.size, 0, none⟩ = some (.int .i64 v.k) ∧ w'.cell? ⟨w.heap.size, 1, none⟩ = some (.int .i64 v.n) ∧ w'.cell? ⟨w.heap.size, 2, none⟩ = some (.string v.s) ∧ w'.cell? ⟨w.heap.size, 3, none⟩ = some (.int .i64 v.a)) (by kernel_rfl) ⟨c0, c1, c2, c3⟩ (fun hHeld => ?_)
  refine wpT (i := 0) (v := .pointer (some ⟨T, 0, none⟩)) rfl (fun w hSw => ?_) hHeld ?_
  · first | rfl | (obtain ⟨s1, s2, s3, s4⟩ := hSw; go_simp)
  simp only [Act.put, pz]
  refine wpT (i := 1) (v := .pointer (some ⟨T, 0, none⟩)) rfl (fun w hSw => ?_) hHeld ?_
  · first | rfl | (obtain ⟨s1, s2, s3, s4⟩ := hSw; go_simp)
  simp only [Act.put, pz]
  refine wpT (i := 2) (v := .pointer (some ⟨T, 0, none⟩)) rfl (fun w hSw => ?_) hHeld ?_
  · first | rfl | (obtain ⟨s1, s2, s3, s4⟩ := hSw; go_simp)
  simp only [Act.put, pz]
  refine wpT (i := 3) (v := .pointer (some ⟨T, 2, none⟩)) rfl (fun w hSw => ?_) hHeld ?_
  · first | rfl | (obtain ⟨s1, s2, s3, s4⟩ := hSw; go_simp)
  simp only [Act.put, pz]
  refine wpT (i := 5) (v := .agg #[.int .i64 v.k, .int .i64 v.n, .string v.s, .int .i64 v.a]) rfl (fun w hSw => ?_) hHeld ?_
  · first | rfl | (obtain ⟨s1, s2, s3, s4⟩ := hSw; go_simp)
  simp only [Act.put, pz]
  refine wpAnyH_ready (rs := [4, 6]) (by kernel_rfl) (by simp) ?_
  refine AllReadyH.cons rfl (fun K' hK' => ?_) (AllReadyH.cons rfl (fun K' hK' => ?_) AllReadyH.nil)
  · go_simp
    refine hK'.out _ _ ⟨c0, c1, c2, c3⟩ (fun hHeld => ?_)
    clear hK'
    refine wpAnyH_ready (rs := [6]) (by kernel_rfl) (by simp) ?_
    refine AllReadyH.cons rfl (fun K' hK' => ?_) AllReadyH.nil
    go_simp
    refine hK'.out _ _ ?_ (fun hHeld => ?_)
    · exact ValAt.below (o := 0) (w := w1) ⟨c0, c1, c2, c3⟩ ((Below.refl _ _).alloc (Nat.le_refl _) _).drew
    clear hK'
    refine wpAnyH_ready (rs := [7]) (by kernel_rfl) (by simp) ?_
    refine AllReadyH.cons rfl (fun K' hK' => ?_) AllReadyH.nil
    refine step_append_lies _ (by rfl) (.tmp 16) (.tmp 18) 42 (by rfl) base 24 i0 (.agg #[.int .i64 0, .int .i64 0, .string ⟨#[]⟩, .int .i64 0]) 4 40 Tryz.underlying42 hi hz0 hz1 hz2 (by rfl) (by omega) ord ks.length (keyCells ks) (by rfl) ((HR1.out.alloc _).drew) ⟨w1.heap.size, 0, none⟩ 1 1 [.int .i64 v.k, .int .i64 v.n, .string v.s, .int .i64 v.a] (by rfl) (by rfl) (World.news_of_block (w := (w1.alloc _).drew) (heap_alloc_new w1 _)) (by intro u hu; simp at hu; rcases hu with rfl | rfl | rfl | rfl <;> rfl) (by omega) (by unfold maxLen; omega) (by omega) (by simp; omega) (w1.heap.size + 1) (by simp) ?_
    intro g cap w3 hown3 hgrow3 hat hlt
    have hg : base ≤ g := by
      rcases hown3.2 with ⟨h, _⟩ | ⟨g', cap', cur, h, hgb, _⟩
      · cases h
      · cases h; exact hgb
    have PE := put_end HO1.out HT1.out HM1.out HR1.out hTM hTb hMb hbase hgrow3 hown3 hg
    have S3 : w3.cell? ⟨w.heap.size, 0, none⟩ = some (.int .i64 v.k) ∧ w3.cell? ⟨w.heap.size, 1, none⟩ = some (.int .i64 v.n) ∧ w3.cell? ⟨w.heap.size, 2, none⟩ = some (.string v.s) ∧ w3.cell? ⟨w.heap.size, 3, none⟩ = some (.int .i64 v.a) := by
      have hh := hHeld
      have hl : w.heap.size < (w1.alloc (.cells #[.int .i64 v.k, .int .i64 v.n, .string v.s, .int .i64 v.a] 24)).drew.heap.size := by show w.heap.size < (w1.alloc _).heap.size; simp; omega
      exact ⟨(hgrow3.cell_far ⟨w.heap.size, 0, none⟩ hl HNB.out).trans hh.1, (hgrow3.cell_far ⟨w.heap.size, 1, none⟩ hl HNB.out).trans hh.2.1, (hgrow3.cell_far ⟨w.heap.size, 2, none⟩ hl HNB.out).trans hh.2.2.1, (hgrow3.cell_far ⟨w.heap.size, 3, none⟩ hl HNB.out).trans hh.2.2.2⟩
    have HPE : Hid (PutEnd w (w3.setCell ⟨T, 2, none⟩ (.slice (some ⟨g, 0, none⟩) (ks.length + 1) cap)) T M base i ks l v x) := PE.2
    obtain ⟨e2, ez⟩ := PE.1
    have S4 : Hid ((w3.setCell ⟨T, 2, none⟩ (.slice (some ⟨g, 0, none⟩) (ks.length + 1) cap)).cell? ⟨w.heap.size, 0, none⟩ = some (.int .i64 v.k) ∧ (w3.setCell ⟨T, 2, none⟩ (.slice (some ⟨g, 0, none⟩) (ks.length + 1) cap)).cell? ⟨w.heap.size, 1, none⟩ = some (.int .i64 v.n) ∧ (w3.setCell ⟨T, 2, none⟩ (.slice (some ⟨g, 0, none⟩) (ks.length + 1) cap)).cell? ⟨w.heap.size, 2, none⟩ = some (.string v.s) ∧ (w3.setCell ⟨T, 2, none⟩ (.slice (some ⟨g, 0, none⟩) (ks.length + 1) cap)).cell? ⟨w.heap.size, 3, none⟩ = some (.int .i64 v.a)) := by
      have e := Below.heap_setCell w3 ⟨T, 2, none⟩ (.slice (some ⟨g, 0, none⟩) (ks.length + 1) cap) w.heap.size (show w.heap.size ≠ T by omega)
      generalize (w3.setCell ⟨T, 2, none⟩ (.slice (some ⟨g, 0, none⟩) (ks.length + 1) cap)) = w4 at e
      exact ⟨by rw [World.cell?_of_block e]; exact S3.1, by rw [World.cell?_of_block e]; exact S3.2.1, by rw [World.cell?_of_block e]; exact S3.2.2.1, by rw [World.cell?_of_block e]; exact S3.2.2.2⟩
    refine hK'.out _ _ S3 (fun hHeld => ?_)
    clear hK' PE hown3 hgrow3 hat
    simp only [Act.put, pz]
    refine wpT (i := 8) (v := .pointer (some ⟨T, 0, none⟩)) rfl (fun w hSw => ?_) hHeld ?_
    · rfl
    simp only [Act.put, pz]
    refine wpT (i := 9) (v := .pointer (some ⟨T, 2, none⟩)) rfl (fun w hSw => ?_) hHeld ?_
    · first | rfl | go_simp
    simp only [Act.put, pz]
    refine wpAnyH_ready (rs := [10]) (by kernel_rfl) (by simp) ?_
    refine AllReadyH.cons rfl (fun K' hK' => ?_) AllReadyH.nil
    clear hHeld S3
    go_simp
    refine hK'.out _ _ S4.out (fun hHeld => ?_)
    clear hK'
    refine wpAnyH_done (by kernel_rfl) ?_ _
    go_end0
    exact ⟨rfl, HPE.out⟩
  · go_simp
    refine hK'.out _ _ ?_ (fun hHeld => ?_)
    · exact ValAt.below (o := 0) (w := w1) ⟨c0, c1, c2, c3⟩ ((Below.refl _ _).alloc (Nat.le_refl _) _).drew
    clear hK'
    refine wpAnyH_ready (rs := [4]) (by kernel_rfl) (by simp) ?_
    refine AllReadyH.cons rfl (fun K' hK' => ?_) AllReadyH.nil
    go_simp
    refine hK'.out _ _ ?_ (fun hHeld => ?_)
    · exact ValAt.below (o := 0) (w := w1) ⟨c0, c1, c2, c3⟩ ((Below.refl _ _).alloc (Nat.le_refl _) _).drew
    clear hK'
    refine wpAnyH_ready (rs := [7]) (by kernel_rfl) (by simp) ?_
    refine AllReadyH.cons rfl (fun K' hK' => ?_) AllReadyH.nil
    refine step_append_lies _ (by rfl) (.tmp 16) (.tmp 18) 42 (by rfl) base 24 i0 (.agg #[.int .i64 0, .int .i64 0, .string ⟨#[]⟩, .int .i64 0]) 4 40 Tryz.underlying42 hi hz0 hz1 hz2 (by rfl) (by omega) ord ks.length (keyCells ks) (by rfl) ((HR1.out.alloc _).drew) ⟨w1.heap.size, 0, none⟩ 1 1 [.int .i64 v.k, .int .i64 v.n, .string v.s, .int .i64 v.a] (by rfl) (by rfl) (World.news_of_block (w := (w1.alloc _).drew) (heap_alloc_new w1 _)) (by intro u hu; simp at hu; rcases hu with rfl | rfl | rfl | rfl <;> rfl) (by omega) (by unfold maxLen; omega) (by omega) (by simp; omega) (w1.heap.size + 1) (by simp) ?_
    intro g cap w3 hown3 hgrow3 hat hlt
    have hg : base ≤ g := by
      rcases hown3.2 with ⟨h, _⟩ | ⟨g', cap', cur, h, hgb, _⟩
      · cases h
      · cases h; exact hgb
    have PE := put_end HO1.out HT1.out HM1.out HR1.out hTM hTb hMb hbase hgrow3 hown3 hg
    have S3 : w3.cell? ⟨w.heap.size, 0, none⟩ = some (.int .i64 v.k) ∧ w3.cell? ⟨w.heap.size, 1, none⟩ = some (.int .i64 v.n) ∧ w3.cell? ⟨w.heap.size, 2, none⟩ = some (.string v.s) ∧ w3.cell? ⟨w.heap.size, 3, none⟩ = some (.int .i64 v.a) := by
      have hh := hHeld
      have hl : w.heap.size < (w1.alloc (.cells #[.int .i64 v.k, .int .i64 v.n, .string v.s, .int .i64 v.a] 24)).drew.heap.size := by show w.heap.size < (w1.alloc _).heap.size; simp; omega
      exact ⟨(hgrow3.cell_far ⟨w.heap.size, 0, none⟩ hl HNB.out).trans hh.1, (hgrow3.cell_far ⟨w.heap.size, 1, none⟩ hl HNB.out).trans hh.2.1, (hgrow3.cell_far ⟨w.heap.size, 2, none⟩ hl HNB.out).trans hh.2.2.1, (hgrow3.cell_far ⟨w.heap.size, 3, none⟩ hl HNB.out).trans hh.2.2.2⟩
    have HPE : Hid (PutEnd w (w3.setCell ⟨T, 2, none⟩ (.slice (some ⟨g, 0, none⟩) (ks.length + 1) cap)) T M base i ks l v x) := PE.2
    obtain ⟨e2, ez⟩ := PE.1
    have S4 : Hid ((w3.setCell ⟨T, 2, none⟩ (.slice (some ⟨g, 0, none⟩) (ks.length + 1) cap)).cell? ⟨w.heap.size, 0, none⟩ = some (.int .i64 v.k) ∧ (w3.setCell ⟨T, 2, none⟩ (.slice (some ⟨g, 0, none⟩) (ks.length + 1) cap)).cell? ⟨w.heap.size, 1, none⟩ = some (.int .i64 v.n) ∧ (w3.setCell ⟨T, 2, none⟩ (.slice (some ⟨g, 0, none⟩) (ks.length + 1) cap)).cell? ⟨w.heap.size, 2, none⟩ = some (.string v.s) ∧ (w3.setCell ⟨T, 2, none⟩ (.slice (some ⟨g, 0, none⟩) (ks.length + 1) cap)).cell? ⟨w.heap.size, 3, none⟩ = some (.int .i64 v.a)) := by
      have e := Below.heap_setCell w3 ⟨T, 2, none⟩ (.slice (some ⟨g, 0, none⟩) (ks.length + 1) cap) w.heap.size (show w.heap.size ≠ T by omega)
      generalize (w3.setCell ⟨T, 2, none⟩ (.slice (some ⟨g, 0, none⟩) (ks.length + 1) cap)) = w4 at e
      exact ⟨by rw [World.cell?_of_block e]; exact S3.1, by rw [World.cell?_of_block e]; exact S3.2.1, by rw [World.cell?_of_block e]; exact S3.2.2.1, by rw [World.cell?_of_block e]; exact S3.2.2.2⟩
    refine hK'.out _ _ S3 (fun hHeld => ?_)
    clear hK' PE hown3 hgrow3 hat
    simp only [Act.put, pz]
    refine wpT (i := 8) (v := .pointer (some ⟨T, 0, none⟩)) rfl (fun w hSw => ?_) hHeld ?_
    · rfl
    simp only [Act.put, pz]
    refine wpT (i := 9) (v := .pointer (some ⟨T, 2, none⟩)) rfl (fun w hSw => ?_) hHeld ?_
    · first | rfl | go_simp
    simp only [Act.put, pz]
    refine wpAnyH_ready (rs := [10]) (by kernel_rfl) (by simp) ?_
    refine AllReadyH.cons rfl (fun K' hK' => ?_) AllReadyH.nil
    clear hHeld S3
    go_simp
    refine hK'.out _ _ S4.out (fun hHeld => ?_)
    clear hK'
    refine wpAnyH_done (by kernel_rfl) ?_ _
    go_end0
    exact ⟨rfl, HPE.out⟩

end Go.Proofs.YtgflalfiopnmnaaGreatDoor

namespace Go.Proofs.YtgflalfiopnmnaaGreatDoor
open Go.RowKit Vl

theorem eqV_comm (a b : V) : eqV a b = eqV b a := by
  unfold eqV
  rw [Bool.eq_iff_iff]
  simp only [Bool.and_eq_true, beq_iff_eq]
  constructor <;> (rintro ⟨h1, h2, h3, h4⟩; exact ⟨h1.symm, h2.symm, h3.symm, h4.symm⟩)

theorem find_none {v : V} {K : Nat → V} {f : Nat → Value} : ∀ (js : List Nat), findV v (js.map fun j => (K j, f j)) = none ↔ ∀ j ∈ js, eqV v (K j) = false
  | [] => by simp [findV]
  | j :: js => by
    simp only [List.map_cons, findV, List.mem_cons, forall_eq_or_imp]
    by_cases h : eqV v (K j) = true
    · rw [if_pos h]; simp [h]
    · rw [if_neg h, find_none js]; simp [h]

def mp (Tt : Nat → Nat) (K X : Nat → V) (c : Nat) : List (V × Value) := (List.range c).map fun j => (K j, ifv Tt (X j))
def keys (K : Nat → V) (c : Nat) : List V := (List.range c).map K
theorem mp_succ (Tt : Nat → Nat) (K X : Nat → V) (c : Nat) : mp Tt K X (c + 1) = mp Tt K X c ++ [(K c, ifv Tt (X c))] := by simp [mp, List.range_succ]
theorem keys_succ (K : Nat → V) (c : Nat) : keys K (c + 1) = keys K c ++ [K c] := by simp [keys, List.range_succ]
theorem keys_len (K : Nat → V) (c : Nat) : (keys K c).length = c := by simp [keys]
theorem mp_none (Tt : Nat → Nat) (K X : Nat → V) (v : V) (c : Nat) : findV v (mp Tt K X c) = none ↔ ∀ j, j < c → eqV (K j) v = false := by
  unfold mp
  rw [find_none]
  simp only [List.mem_range]
  exact ⟨fun h j hj => by rw [eqV_comm]; exact h j hj, fun h j hj => by rw [eqV_comm]; exact h j hj⟩

theorem eql_nothing (Tt : Nat → Nat) (n : Nat) (x : V) (h : isV n x = true) (w : World) :
    (binOp .eql 54 (ifv Tt x) (.iface 180 (.agg #[]))).run Tryz.prog w = .ok (.bool (x.k == 0)) w := by
  obtain ⟨k, m, s, a⟩ := x
  by_cases k0 : k = 0
  · subst k0; kernel_rfl
  by_cases k1 : k = 1
  · subst k1; kernel_rfl
  by_cases k2 : k = 2
  · subst k2; kernel_rfl
  by_cases k3 : k = 3
  · subst k3; kernel_rfl
  by_cases k4 : k = 4
  · subst k4; kernel_rfl
  · simp [isV, k0, k1, k2, k3, k4] at h

theorem guard_nothing (Tt : Nat → Nat) (n : Nat) (x : V) (h : isV n x = true) (p q : Operand) (w : World) :
    (eqGuard .eql 54 p q (ifv Tt x) (.iface 180 (.agg #[]))).run Tryz.prog w = .ok () w := by
  obtain ⟨k, m, s, a⟩ := x
  by_cases k0 : k = 0
  · subst k0; cases p <;> cases q <;> kernel_rfl
  by_cases k1 : k = 1
  · subst k1; cases p <;> cases q <;> kernel_rfl
  by_cases k2 : k = 2
  · subst k2; cases p <;> cases q <;> kernel_rfl
  by_cases k3 : k = 3
  · subst k3; cases p <;> cases q <;> kernel_rfl
  by_cases k4 : k = 4
  · subst k4; cases p <;> cases q <;> kernel_rfl
  · simp [isV, k0, k1, k2, k3, k4] at h

theorem Tabs.only {w w' : World} {ta : Option Addr} {tb n : Nat} {Tt : Nat → Nat} {T M : Nat} {i : Int} {ord : Value} (h : Tabs w ta tb n Tt) (ho : Only (fun k => k = T ∨ k = M) w w') (hT : TabB w' T M i ord) (h1 : 0 < n → tb ≠ T ∧ tb ≠ M) (h2 : ∀ j, j < n → Tt j ≠ M ∧ (Tt j = T → (j : Int) = i)) : Tabs w' ta tb n Tt := by
  refine ⟨h.top, fun j hj => ?_, fun j hj => ?_⟩
  · exact ho.cell (h.ptr j hj) (by have := h1 (by omega); show ¬ (tb = T ∨ tb = M); omega)
  · by_cases e : Tt j = T
    · rw [e, hT.cells.1, (h2 j hj).2 e]
    · exact ho.cell (h.at_ j hj) (by have := (h2 j hj).1; show ¬ (Tt j = T ∨ Tt j = M); omega)

theorem PairsAt.only {w w' : World} {pa : Option Addr} {L B O : Nat} {K X : Nat → V} {P : Nat → Prop} (h : PairsAt w pa L B O K X) (ho : Only P w w') (hB : 0 < L → ¬ P B) : PairsAt w' pa L B O K X := by
  refine ⟨h.top, fun c hc => ?_, fun c hc => ?_⟩
  · exact (h.key c hc).same (ho.block B (World.block_lt_of_cell? _ _ (h.key c hc).1) (hB (by omega)))
  · exact (h.val c hc).same (ho.block B (World.block_lt_of_cell? _ _ (h.val c hc).1) (hB (by omega)))

structure Filled (w : World) (T M base : Nat) (i : Int) (Tt : Nat → Nat) (K X : Nat → V) (c : Nat) : Prop where
  tab : ∃ ord, TabB w T M i ord ∧ w.ownsRow base 24 4 ord (keys K c).length (keyCells (keys K c))
  map : MapIs w M (mp Tt K X c)

theorem Filled.below {w w' : World} {T M base : Nat} {i : Int} {Tt : Nat → Nat} {K X : Nat → V} {c : Nat} (h : Filled w T M base i Tt K X c) (hb : Below w.heap.size w w') : Filled w' T M base i Tt K X c := by
  obtain ⟨ord, h1, h2⟩ := h.tab
  exact ⟨⟨ord, (hb.block T (blk_lt h1)).trans h1, (Only.below (P := fun _ => False) hb).owns h2 (fun _ _ _ h => h)⟩, h.map.same (hb.block M h.map.lt)⟩

set_option maxHeartbeats 2000000 in
set_option maxRecDepth 100000 in
theorem fill_any (T M : Nat) (i : Int) (pa : Option Addr) (L C B O : Nat) (K X : Nat → V) (ta : Option Addr) (tb n cp : Nat) (Tt : Nat → Nat) (w : World) (hL : L ≤ 1048576)
    (HT : Hid (TabB w T M i (.slice none 0 0))) (HM : Hid (MapIs w M [])) (HP : Hid (PairsAt w pa L B O K X)) (HTt : Hid (Tabs w ta tb n Tt)) (hTM : T ≠ M) (hPB : Hid (0 < L → B ≠ T ∧ B ≠ M)) (htb : Hid (0 < n → tb ≠ T ∧ tb ≠ M)) (hTt : Hid (∀ j, j < n → Tt j ≠ M ∧ (Tt j = T → (j : Int) = i))) :
    Calls Tryz.prog 50 #[.pointer (some ⟨T, 0, none⟩), .slice pa L C, .slice ta n cp] w fun e w' => Tells (OkT n L K X) e ∧ Only (fun k => k = T ∨ k = M) w w' ∧ (OkT n L K X → Filled w' T M w.heap.size i Tt K X L) := by
  have hTlt : T < w.heap.size := blk_lt HT.out
  have hMlt : M < w.heap.size := HM.out.lt
  by_cases h100 : L ≤ 100
  · go_enter Tryz.func50, Tryz.ntmps50
    go_wp2
    go_loopw [16] (fun ii wr => ∃ c : Nat, c ≤ L ∧ ii = .int .i64 c ∧ Hid (∀ q, q < c → OkP n K X q) ∧ Hid (Filled wr T M w.heap.size i Tt K X c) ∧ Hid (Only (fun k => k = T ∨ k = M) w wr)) (fun ii _ => L - (intOf ii).toNat)
    case atStart => exact ⟨0, Nat.zero_le _, rfl, fun q hq => absurd hq (Nat.not_lt_zero _), ⟨⟨_, HT.out, World.ownsRow_nil _ _ _ _⟩, HM.out⟩, Only.refl _ _⟩
    case round =>
      obtain ⟨c, hc, rfl, HQ, HF, HO⟩ := hrel
      by_cases hlt : c < L
      · obtain rfl := HP.out.top (by omega)
        have HPr : Hid (PairsAt wr (some ⟨B, O, none⟩) L B O K X) := HP.out.only HO.out (fun h => by have := hPB.out h; show ¬ (B = T ∨ B = M); omega)
        obtain ⟨⟨k0, k1, k2, k3⟩, ⟨x0, x1, x2, x3⟩⟩ := HPr.out.cells hlt
        obtain ⟨wp, hwp⟩ : ∃ wp, wp = wr.alloc (.cells #[.int .i64 (K c).k, .int .i64 (K c).n, .string (K c).s, .int .i64 (K c).a, .int .i64 (X c).k, .int .i64 (X c).n, .string (X c).s, .int .i64 (X c).a] 39) := ⟨_, rfl⟩
        have HBp : Hid (Below wr.heap.size wr wp) := by rw [hwp]; exact (Below.refl _ _).alloc (Nat.le_refl _) _
        have Hp : Hid (wp.heap[wr.heap.size]? = some (.cells #[.int .i64 (K c).k, .int .i64 (K c).n, .string (K c).s, .int .i64 (K c).a, .int .i64 (X c).k, .int .i64 (X c).n, .string (X c).s, .int .i64 (X c).a] 39 (0, 0))) := by rw [hwp]; exact heap_alloc_new _ _
        have HFp : Hid (Filled wp T M w.heap.size i Tt K X c) := HF.out.below HBp.out
        have HOp : Hid (Only (fun k => k = T ∨ k = M) w wp) := HO.out.trans (Only.below HBp.out)
        have HTp : Hid (Tabs wp ta tb n Tt) := by
          obtain ⟨ord, h1, _⟩ := HFp.out.tab
          exact HTt.out.only HOp.out h1 htb.out hTt.out
        have hof := of_any (X c) ta tb n cp Tt wp HTp
        obtain ⟨bx, hbx⟩ : ∃ b, isV n (X c) = b := ⟨_, rfl⟩
        rw [hbx] at hof
        go_wp2_with fail
        rw [← hwp]
        refine hof.mono ?_
        clear hof
        rintro e w2 ⟨rfl, hb2⟩
        have HF2 : Hid (Filled w2 T M w.heap.size i Tt K X c) := HFp.out.below hb2
        have HO2 : Hid (Only (fun k => k = T ∨ k = M) w w2) := HOp.out.trans (Only.below hb2)
        have HP2 : Hid (w2.heap[wr.heap.size]? = some (.cells #[.int .i64 (K c).k, .int .i64 (K c).n, .string (K c).s, .int .i64 (K c).a, .int .i64 (X c).k, .int .i64 (X c).n, .string (X c).s, .int .i64 (X c).a] 39 (0, 0))) := (hb2.block _ (blk_lt Hp.out)).trans Hp.out
        have hbpw : w.heap.size ≤ wr.heap.size := HO.out.size
        obtain ⟨bp, hbp⟩ : ∃ bp, wr.heap.size = bp := ⟨_, rfl⟩
        rw [hbp] at HP2 hbpw ⊢
        clear hb2 hwp HBp Hp HFp HOp HTp hbp k0 k1 k2 k3 x0 x1 x2 x3 HF HO HPr
        cases bx
        · have HN : Hid (¬ OkT n L K X) := show ¬ OkT n L K X from fun h => by have := (h.all c hlt).val; rw [hbx] at this; cases this
          clear hbx
          go_wp2
          go_ret
          exact ⟨tells_no HN.out, HO2.out, fun h => absurd h HN.out⟩
        · have heq0 := eql_nothing Tt n (X c) hbx
          have hgd0 := guard_nothing Tt n (X c) hbx
          have HBX : Hid (isV n (X c) = true) := hbx
          obtain ⟨xv, HXV⟩ : ∃ xv, Hid (ifv Tt (X c) = xv) := ⟨_, rfl⟩
          rw [HXV.out] at heq0 hgd0
          rw [if_pos rfl, HXV.out]
          clear hbx
          by_cases hx0 : (X c).k = 0
          · have HN : Hid (¬ OkT n L K X) := show ¬ OkT n L K X from fun h => (h.all c hlt).some hx0
            have hx0' : ((X c).k == 0) = true := by simpa using hx0
            rw [hx0'] at heq0
            clear hx0 hx0'
            go_wp2
            go_ret
            exact ⟨tells_no HN.out, HO2.out, fun h => absurd h HN.out⟩
          · have hx0' : ((X c).k == 0) = false := by simpa using hx0
            rw [hx0'] at heq0
            have HX0 : Hid ((X c).k ≠ 0) := hx0
            clear hx0 hx0'
            obtain ⟨c0, c1, c2, c3, c4, c5, c6, c7, _⟩ := cells8 HP2.out
            obtain ⟨bk, hbk⟩ : ∃ b, isK (K c) = b := ⟨_, rfl⟩
            have hik := isKey_any (K c) w2
            rw [hbk] at hik
            go_wp2_with fail
            refine hik.mono ?_
            clear hik
            rintro e w3 ⟨rfl, hb3⟩
            have HF3 : Hid (Filled w3 T M w.heap.size i Tt K X c) := HF2.out.below hb3
            have HO3 : Hid (Only (fun k => k = T ∨ k = M) w w3) := HO2.out.trans (Only.below hb3)
            have HP3 : Hid (w3.heap[bp]? = some (.cells #[.int .i64 (K c).k, .int .i64 (K c).n, .string (K c).s, .int .i64 (K c).a, .int .i64 (X c).k, .int .i64 (X c).n, .string (X c).s, .int .i64 (X c).a] 39 (0, 0))) := (hb3.block _ (blk_lt HP2.out)).trans HP2.out
            clear hb3 HP2 HO2 HF2 c0 c1 c2 c3 c4 c5 c6 c7 heq0 hgd0
            cases bk
            · have HN : Hid (¬ OkT n L K X) := show ¬ OkT n L K X from fun h => by have := (h.all c hlt).key; rw [hbk] at this; cases this
              clear hbk
              go_wp2
              go_ret
              exact ⟨tells_no HN.out, HO3.out, fun h => absurd h HN.out⟩
            · have HBK : Hid (isK (K c) = true) := hbk
              clear hbk
              obtain ⟨c0, c1, c2, c3, c4, c5, c6, c7, _⟩ := cells8 HP3.out
              obtain ⟨ord, hT3, hR3⟩ := HF3.out.tab
              have HT3 : Hid (TabB w3 T M i ord) := hT3
              have HR3 : Hid (w3.ownsRow w.heap.size 24 4 ord (keys K c).length (keyCells (keys K c))) := hR3
              have hhk := hasKey_any T M i ord (mp Tt K X c) (K c) w3 HT3 HF3.out.map
              obtain ⟨bh, hbh⟩ : ∃ b, (findV (K c) (mp Tt K X c)).isSome = b := ⟨_, rfl⟩
              rw [hbh] at hhk
              clear hT3 hR3
              go_wp2_with fail
              refine hhk.mono ?_
              clear hhk
              rintro e w4 ⟨rfl, hb4⟩
              have HT4 : Hid (TabB w4 T M i ord) := (hb4.block T (blk_lt HT3.out)).trans HT3.out
              have HM4 : Hid (MapIs w4 M (mp Tt K X c)) := HF3.out.map.same (hb4.block M HF3.out.map.lt)
              have HR4 : Hid (w4.ownsRow w.heap.size 24 4 ord (keys K c).length (keyCells (keys K c))) := (Only.below (P := fun _ => False) hb4).owns HR3.out (fun _ _ _ h => h)
              have HO4 : Hid (Only (fun k => k = T ∨ k = M) w w4) := HO3.out.trans (Only.below hb4)
              have HP4 : Hid (w4.heap[bp]? = some (.cells #[.int .i64 (K c).k, .int .i64 (K c).n, .string (K c).s, .int .i64 (K c).a, .int .i64 (X c).k, .int .i64 (X c).n, .string (X c).s, .int .i64 (X c).a] 39 (0, 0))) := (hb4.block _ (blk_lt HP3.out)).trans HP3.out
              clear hb4 HP3 HO3 HF3 HT3 HR3 c0 c1 c2 c3 c4 c5 c6 c7
              cases bh
              · have hnone : findV (K c) (mp Tt K X c) = none := by simpa using hbh
                have HQ' : Hid (∀ q, q < c + 1 → OkP n K X q) := show ∀ q, q < c + 1 → _ from fun q hq => by
                  by_cases e : q = c
                  · subst e; exact ⟨HBK.out, HBX.out, HX0.out, (mp_none Tt K X (K q) q).1 hnone⟩
                  · exact HQ.out q (by omega)
                obtain ⟨c0, c1, c2, c3, c4, c5, c6, c7, _⟩ := cells8 HP4.out
                have hput := put_any T M w.heap.size i ord xv (keys K c) (mp Tt K X c) (K c) w4 HT4 HM4 hnone HR4 hTM hTlt hMlt HO4.out.size (by rw [keys_len]; omega)
                clear hbh hnone
                go_wp2_with fail
                refine hput.mono ?_
                clear hput
                rintro e w5 ⟨rfl, hpe⟩
                have HF5 : Hid (Filled w5 T M w.heap.size i Tt K X (c + 1)) := by
                  refine ⟨?_, ?_⟩
                  · rw [keys_succ]; exact hpe.tab
                  · rw [mp_succ, HXV.out]; exact hpe.map
                have HO5 : Hid (Only (fun k => k = T ∨ k = M) w w5) := by
                  have h1 := HO4.out
                  have h2 := hpe.only
                  exact ⟨h2.os.trans h1.os, h2.tape.trans h1.tape, h2.output.trans h1.output, Nat.le_trans h1.size h2.size, fun k hk hP => by
                    rw [h2.block k (Nat.lt_of_lt_of_le hk h1.size) (fun hh => by (rcases hh with hh | hh | hh; exact hP (Or.inl hh); exact hP (Or.inr hh); omega)), h1.block k hk hP]⟩
                clear hpe HT4 HM4 HR4 HO4 HP4 c0 c1 c2 c3 c4 c5 c6 c7
                go_wp2
                go_roundw
                case rel => exact ⟨c + 1, by omega, by go_num, HQ', HF5, HO5⟩
                case measure => simp [intOf]; omega
              · have HN : Hid (¬ OkT n L K X) := show ¬ OkT n L K X from fun h => by
                  have := (mp_none Tt K X (K c) c).2 (h.all c hlt).once
                  rw [this] at hbh
                  cases hbh
                clear hbh
                go_wp2
                go_ret
                exact ⟨tells_no HN.out, HO4.out, fun h => absurd h HN.out⟩
      · obtain rfl : c = L := by omega
        go_wp2
        go_ret
        exact ⟨tells_yes ⟨h100, HQ.out⟩, HO.out, fun _ => HF.out⟩
  · have HN : Hid (¬ OkT n L K X) := show ¬ OkT n L K X from fun h => h100 h.len
    have hgt : 100 < L := by omega
    go_enter Tryz.func50, Tryz.ntmps50
    go_wp2
    go_ret
    exact ⟨tells_no HN.out, Only.refl _ _, fun h => absurd h HN.out⟩

end Go.Proofs.YtgflalfiopnmnaaGreatDoor

namespace Go.Proofs.YtgflalfiopnmnaaGreatDoor
open Go.RowKit Vl

theorem Filled.only {w w' : World} {T M base : Nat} {i : Int} {Tt : Nat → Nat} {K X : Nat → V} {c : Nat} {P : Nat → Prop} (h : Filled w T M base i Tt K X c) (ho : Only P w w') (h1 : ¬ P T) (h2 : ¬ P M) (h3 : ∀ g, base ≤ g → ¬ P g) : Filled w' T M base i Tt K X c := by
  obtain ⟨ord, a1, a2⟩ := h.tab
  exact ⟨⟨ord, (ho.block T (blk_lt a1) h1).trans a1, ho.owns a2 (fun g hg _ => h3 g hg)⟩, h.map.same (ho.block M h.map.lt h2)⟩

abbrev tT (b j : Nat) : Nat := b + 4 + 2 * j
abbrev tM (b j : Nat) : Nat := b + 3 + 2 * j

structure Laid (w : World) (b n c : Nat) : Prop where
  row : w.rowIs (b + 2) 107 n (fun j => if j < c then .pointer (some ⟨tT b j, 0, none⟩) else .pointer none)
  tab : ∀ j, j < c → TabB w (tT b j) (tM b j) j (.slice none 0 0) ∧ MapIs w (tM b j) []
  size : w.heap.size = b + 3 + 2 * c

theorem Tryz.info107 : (Tryz.prog.info? 107).map (fun i => (i.zero, i.size, i.bytes)) = some (some (.pointer none), 1, 8) := by kernel_rfl

theorem Laid.next {w : World} {b n c : Nat} (h : Laid w b n c) (hc : c < n) :
    Laid (((w.alloc (.map #[] 0)).alloc (.cells #[.int .i64 c, .map (some (tM b c)), .slice none 0 0] 121)).setCell ⟨b + 2, c, none⟩ (.pointer (some ⟨tT b c, 0, none⟩))) b n (c + 1) := by
  have A := alloc2 w (.map #[] 0) (.cells #[.int .i64 c, .map (some (tM b c)), .slice none 0 0] 121)
  have hs := h.size
  refine ⟨?_, fun j hj => ?_, ?_⟩
  · refine (((h.row.alloc _).alloc _).set c _).congr (fun i _ => ?_)
    by_cases e : i = c
    · subst e; rw [if_pos rfl, if_pos (by omega)]
    · rw [if_neg e]
      by_cases hl : i < c
      · rw [if_pos hl, if_pos (by omega)]
      · rw [if_neg hl, if_neg (by omega)]
  · by_cases e : j = c
    · subst e
      constructor
      · unfold TabB
        rw [Below.heap_setCell _ _ _ _ (show tT b j ≠ b + 2 by unfold tT; omega)]
        have := A.2.1
        rw [hs] at this
        rw [show tT b j = b + 3 + 2 * j + 1 by unfold tT; omega]
        exact this
      · refine MapIs.same (w := (w.alloc (.map #[] 0)).alloc (.cells #[.int .i64 j, .map (some (tM b j)), .slice none 0 0] 121)) ⟨#[], 0, ?_, rfl⟩ (Below.heap_setCell _ _ _ _ (show tM b j ≠ b + 2 by unfold tM; omega))
        have := A.1
        rw [hs] at this
        exact this
    · obtain ⟨h1, h2⟩ := h.tab j (by omega)
      have k1 : ∀ k, k < w.heap.size → k ≠ b + 2 → (((w.alloc (.map #[] 0)).alloc (.cells #[.int .i64 c, .map (some (tM b c)), .slice none 0 0] 121)).setCell ⟨b + 2, c, none⟩ (.pointer (some ⟨tT b c, 0, none⟩))).heap[k]? = w.heap[k]? := fun k hk hne => by
        rw [Below.heap_setCell _ _ _ _ (show k ≠ b + 2 from hne), A.2.2.2.block k hk]
      exact ⟨(k1 _ (blk_lt h1) (by unfold tT; omega)).trans h1, h2.same (k1 _ h2.lt (by unfold tM; omega))⟩
  · simp [World.setCell, hs]; omega

end Go.Proofs.YtgflalfiopnmnaaGreatDoor

namespace Go.Proofs.YtgflalfiopnmnaaGreatDoor
open Go.RowKit Vl

structure Ahead (w wr : World) (g : Array Value) : Prop where
  graph : wr.heap[w.heap.size]? = some (.cells g 27 (0, 0))
  res : wr.heap[w.heap.size + 1]? = some (.cells #[.nilIface, .slice none 0 0] 57 (0, 0))
  bel : Below w.heap.size w wr

theorem Ahead.only {w wr wr' : World} {g : Array Value} {P : Nat → Prop} (h : Ahead w wr g) (ho : Only P wr wr') (hP : ∀ k, P k → w.heap.size + 2 ≤ k) : Ahead w wr' g :=
  ⟨(ho.block _ (blk_lt h.graph) (fun x => by have := hP _ x; omega)).trans h.graph, (ho.block _ (blk_lt h.res) (fun x => by have := hP _ x; omega)).trans h.res,
   h.bel.trans (ho.toBelow (fun k x => by have := hP k x; omega) h.bel.size)⟩
theorem Ahead.below {w wr wr' : World} {g : Array Value} (h : Ahead w wr g) (hb : Below wr.heap.size wr wr') : Ahead w wr' g :=
  ⟨(hb.block _ (blk_lt h.graph)).trans h.graph, (hb.block _ (blk_lt h.res)).trans h.res, grw h.bel hb⟩

theorem two_at {w : World} {B : Nat} {a b : Value} {t : TypeId} (H : w.heap[B]? = some (.cells #[a, b] t (0, 0))) : w.cell? ⟨B, 0, none⟩ = some a ∧ w.cell? ⟨B, 1, none⟩ = some b ∧ ∀ i, w.frozen? ⟨B, i, none⟩ = false := by
  refine ⟨?_, ?_, fun i => ?_⟩ <;> simp [World.cell?, World.frozen?, H]
theorem two_put {w : World} {B : Nat} {a b : Value} {t : TypeId} (H : w.heap[B]? = some (.cells #[a, b] t (0, 0))) (a' b' : Value) : ((w.setCell ⟨B, 0, none⟩ a').setCell ⟨B, 1, none⟩ b').heap[B]? = some (.cells #[a', b'] t (0, 0)) := by
  simp [World.setCell, Array.getElem?_modify, H]

structure Half (w : World) (b n r : Nat) (base : Nat → Nat) (L : Nat → Nat) (K X : Nat → Nat → V) : Prop where
  row : w.rowIs (b + 2) 107 n (fun j => .pointer (some ⟨tT b j, 0, none⟩))
  full : ∀ j, j < r → Filled w (tT b j) (tM b j) (base j) j (tT b) (K j) (X j) (L j) ∧ b + 3 + 2 * n ≤ base j
  empty : ∀ j, r ≤ j → j < n → TabB w (tT b j) (tM b j) j (.slice none 0 0) ∧ MapIs w (tM b j) []
  size : b + 3 + 2 * n ≤ w.heap.size

theorem Half.tabs {w : World} {b n r : Nat} {base L : Nat → Nat} {K X : Nat → Nat → V} (h : Half w b n r base L K X) : Tabs w (some ⟨b + 2, 0, none⟩) (b + 2) n (tT b) := by
  refine ⟨fun _ => rfl, fun j hj => h.row.cell hj, fun j hj => ?_⟩
  by_cases e : j < r
  · obtain ⟨ord, h1, _⟩ := (h.full j e).1.tab
    exact h1.cells.1
  · exact (h.empty j (by omega) hj).1.cells.1

theorem Half.below {w w' : World} {b n r : Nat} {base L : Nat → Nat} {K X : Nat → Nat → V} (h : Half w b n r base L K X) (hb : Below w.heap.size w w') : Half w' b n r base L K X :=
  ⟨h.row.of_block (hb.block _ h.row.lt), fun j hj => ⟨(h.full j hj).1.below hb, (h.full j hj).2⟩, fun j h1 h2 => ⟨(hb.block _ (blk_lt (h.empty j h1 h2).1)).trans (h.empty j h1 h2).1, (h.empty j h1 h2).2.same (hb.block _ (h.empty j h1 h2).2.lt)⟩, Nat.le_trans h.size hb.size⟩

theorem Half.fill {w w' : World} {b n r : Nat} {base L : Nat → Nat} {K X : Nat → Nat → V} (h : Half w b n r base L K X) (hr : r < n) (ho : Only (fun k => k = tT b r ∨ k = tM b r) w w') (hf : Filled w' (tT b r) (tM b r) w.heap.size r (tT b) (K r) (X r) (L r)) :
    Half w' b n (r + 1) (fun j => if j = r then w.heap.size else base j) L K X := by
  have hs := h.size
  refine ⟨h.row.of_block (ho.block _ h.row.lt (by unfold tT tM; omega)), fun j hj => ?_, fun j h1 h2 => ?_, Nat.le_trans hs ho.size⟩
  · by_cases e : j = r
    · subst e; simp only [if_true]; exact ⟨hf, hs⟩
    · simp only [if_neg e]
      obtain ⟨f1, f2⟩ := h.full j (by omega)
      exact ⟨f1.only ho (by unfold tT tM; omega) (by unfold tT tM; omega) (fun g hg => by unfold tT tM; omega), f2⟩
  · obtain ⟨e1, e2⟩ := h.empty j (by omega) h2
    exact ⟨(ho.block _ (blk_lt e1) (by unfold tT tM; omega)).trans e1, e2.same (ho.block _ e2.lt (by unfold tT tM; omega))⟩

theorem Laid.half {w : World} {b n : Nat} {L : Nat → Nat} {K X : Nat → Nat → V} (h : Laid w b n n) : Half w b n 0 (fun _ => 0) L K X :=
  ⟨h.row.congr (fun j hj => by rw [if_pos hj]), fun j hj => by omega, fun j _ h2 => h.tab j h2, by rw [h.size]; omega⟩

theorem ifv_form (Tt : Nat → Nat) (u : V) : ∃ t y, ifv Tt u = .iface t y := by
  unfold ifv
  split
  · exact ⟨_, _, rfl⟩
  · split
    · exact ⟨_, _, rfl⟩
    · split
      · exact ⟨_, _, rfl⟩
      · split
        · exact ⟨_, _, rfl⟩
        · exact ⟨_, _, rfl⟩

set_option maxHeartbeats 2000000 in
set_option maxRecDepth 100000 in
theorem link_any (u : V) (ta : Option Addr) (n cp TB TO : Nat) (A : Nat → Option Addr) (L C RB RO : Nat → Nat) (K X : Nat → Nat → V) (w : World) (hn : n ≤ 1048576)
    (HS : Hid (Small 1048576 n L K X)) (HT : Hid (TabsAt w ta n TB TO A L C RB RO K X)) :
    Calls Tryz.prog 23 #[.agg #[.int .i64 u.k, .int .i64 u.n, .string u.s, .int .i64 u.a, .slice ta n cp]] w fun e w' =>
      ((OkG n u L K X ∧ e = .returned (.tuple #[.agg #[ifv (tT w.heap.size) u, .slice (some ⟨w.heap.size + 2, 0, none⟩) n n], .bool true]) ∧ ∃ base, Half w' w.heap.size n n base L K X) ∨ (¬ OkG n u L K X ∧ e = .returned (.tuple #[.agg #[.nilIface, .slice none 0 0], .bool false]))) ∧ Below w.heap.size w w' := by
  obtain ⟨b, hb⟩ : ∃ b, w.heap.size = b := ⟨_, rfl⟩
  have A2 : Hid _ := alloc2 w (.cells #[.int .i64 u.k, .int .i64 u.n, .string u.s, .int .i64 u.a, .slice ta n cp] 27) (.cells #[.nilIface, .slice none 0 0] 57)
  obtain ⟨wa, hwa⟩ : ∃ wa, wa = (w.alloc (.cells #[.int .i64 u.k, .int .i64 u.n, .string u.s, .int .i64 u.a, .slice ta n cp] 27)).alloc (.cells #[.nilIface, .slice none 0 0] 57) := ⟨_, rfl⟩
  have HA : Hid (Ahead w wa #[.int .i64 u.k, .int .i64 u.n, .string u.s, .int .i64 u.a, .slice ta n cp]) := by rw [hwa]; exact ⟨A2.out.1, A2.out.2.1, A2.out.2.2.2⟩
  have hsa : Hid (wa.heap.size = w.heap.size + 2) := by rw [hwa]; exact A2.out.2.2.1
  clear A2
  obtain ⟨g0, g1, g2, g3, g4, _⟩ := cells5 HA.out.graph
  by_cases h200 : n ≤ 200
  · have hmk := run_make_n 55 107 _ 1 8 Tryz.underlying55 Tryz.info107 n (by omega) (by omega)
    simp only [Nat.mul_one] at hmk
    have hmm := @run_makeMap Tryz.prog
    go_enter Tryz.func23, Tryz.ntmps23
    go_wp2
    rw [← hwa]
    have hsa' : wa.heap.size = b + 2 := by have := hsa.out; omega
    have HA1 : Hid (Ahead w (wa.alloc (.cells (madeCells #[.pointer none] n) 107)) #[.int .i64 u.k, .int .i64 u.n, .string u.s, .int .i64 u.a, .slice ta n cp]) := by
      have h := HA.out
      exact ⟨(Below.heap_alloc _ _ _ (blk_lt h.graph)).trans h.graph, (Below.heap_alloc _ _ _ (blk_lt h.res)).trans h.res, h.bel.alloc h.bel.size _⟩
    have HL1 : Hid (Laid (wa.alloc (.cells (madeCells #[.pointer none] n) 107)) b n 0) := by
      refine ⟨?_, fun j hj => by omega, by simp; omega⟩
      rw [← hsa']
      exact (row_made wa #[.pointer none] n 107).congr (fun i _ => by rw [if_neg (by omega)]; simp [Nat.mod_one])
    clear hmk hwa g0 g1 g2 g3 g4 hsa' hsa HA
    go_loopw [21] (fun ii wr => ∃ c : Nat, c ≤ n ∧ ii = .int .i64 c ∧ Hid (Laid wr b n c) ∧ Hid (Ahead w wr #[.int .i64 u.k, .int .i64 u.n, .string u.s, .int .i64 u.a, .slice ta n cp])) (fun ii _ => n - (intOf ii).toNat)
    case atStart => exact ⟨0, Nat.zero_le _, rfl, HL1, HA1⟩
    case round =>
      obtain ⟨c, hc, rfl, HL, HAr⟩ := hrel
      clear HL1 HA1
      by_cases hlt : c < n
      · have hs := HL.out.size
        have c0 : ∀ o1 o2, ((wr.alloc o1).alloc o2).cell? ⟨b + 1 + 1, c, none⟩ = some (.pointer none) := fun o1 o2 => by
          have := ((HL.out.row.alloc o1).alloc o2).cell hlt
          rw [if_neg (by omega)] at this
          exact this
        have z0 : ∀ o1 o2 j, ((wr.alloc o1).alloc o2).frozen? ⟨b + 1 + 1, j, none⟩ = false := fun o1 o2 => ((HL.out.row.alloc o1).alloc o2).frozen
        have HN := HL.out.next hlt
        have HA2 : Hid (Ahead w (((wr.alloc (.map #[] 0)).alloc (.cells #[.int .i64 c, .map (some (tM b c)), .slice none 0 0] 121)).setCell ⟨b + 2, c, none⟩ (.pointer (some ⟨tT b c, 0, none⟩))) #[.int .i64 u.k, .int .i64 u.n, .string u.s, .int .i64 u.a, .slice ta n cp]) := by
          have h := HAr.out
          have A := alloc2 wr (.map #[] 0) (.cells #[.int .i64 c, .map (some (tM b c)), .slice none 0 0] 121)
          refine ⟨?_, ?_, ?_⟩
          · rw [Below.heap_setCell _ _ _ _ (show w.heap.size ≠ b + 2 by omega), A.2.2.2.block _ (blk_lt h.graph)]; exact h.graph
          · rw [Below.heap_setCell _ _ _ _ (show w.heap.size + 1 ≠ b + 2 by omega), A.2.2.2.block _ (blk_lt h.res)]; exact h.res
          · exact (grw h.bel A.2.2.2).setCell (by show w.heap.size ≤ b + 2; omega) _
        have HN2 : Hid (Laid (((wr.alloc (.map #[] 0)).alloc (.cells #[.int .i64 c, .map (some (tM b c)), .slice none 0 0] 121)).setCell ⟨b + 2, c, none⟩ (.pointer (some ⟨tT b c, 0, none⟩))) b n (c + 1)) := HN
        clear HN HL HAr
        go_wp2
        go_roundw
        case rel =>
          have e : b + 3 + 2 * c + 1 = b + 4 + 2 * c := by omega
          rw [e]
          exact ⟨c + 1, by omega, by go_num, HN2, HA2⟩
        case measure => simp [intOf]; omega
      · obtain rfl : c = n := by omega
        have HH : Hid (Half wr b c 0 (fun _ => 0) L K X) := HL.out.half
        obtain ⟨g0, g1, g2, g3, g4, _⟩ := cells5 HAr.out.graph
        rw [hb] at g0 g1 g2 g3 g4
        clear HL hmm
        go_wp2
        clear g0 g1 g2 g3 g4
        obtain ⟨wh, hwh⟩ : ∃ wh, wh = wr := ⟨_, rfl⟩
        rw [← hwh] at HH HAr
        go_loopw [35] (fun ii wr => ∃ (r : Nat) (base : Nat → Nat), r ≤ c ∧ ii = .int .i64 r ∧ Hid (Half wr b c r base L K X) ∧ Hid (∀ q, q < r → OkT c (L q) (K q) (X q)) ∧ Hid (Ahead w wr #[.int .i64 u.k, .int .i64 u.n, .string u.s, .int .i64 u.a, .slice ta c cp])) (fun ii _ => c - (intOf ii).toNat)
        case atStart => rw [← hwh]; exact ⟨0, _, Nat.zero_le _, rfl, HH, fun q hq => absurd hq (Nat.not_lt_zero _), HAr⟩
        case round =>
          obtain ⟨r, base, hr, rfl, HHr, HQ, HAr2⟩ := hrel
          clear HH HAr hwh
          by_cases hlt : r < c
          · obtain rfl := HT.out.top (by omega)
            have HTr : Hid (TabsAt wr (some ⟨TB, TO, none⟩) c TB TO A L C RB RO K X) := HT.out.below HAr2.out.bel
            have t0 := HTr.out.tab r hlt
            obtain ⟨wv, hwv⟩ : ∃ wv, wv = wr.alloc (.cells #[.slice (A r) (L r) (C r)] 37) := ⟨_, rfl⟩
            have HBv : Hid (Below wr.heap.size wr wv) := by rw [hwv]; exact (Below.refl _ _).alloc (Nat.le_refl _) _
            have HHv : Hid (Half wv b c r base L K X) := HHr.out.below HBv.out
            have hbv : b + 3 + 2 * c ≤ wr.heap.size := HHr.out.size
            have HAv : Hid (Ahead w wv #[.int .i64 u.k, .int .i64 u.n, .string u.s, .int .i64 u.a, .slice (some ⟨TB, TO, none⟩) c cp]) := by
              have h := HAr2.out
              exact ⟨(HBv.out.block _ (blk_lt h.graph)).trans h.graph, (HBv.out.block _ (blk_lt h.res)).trans h.res, grw h.bel HBv.out⟩
            have v0 : wv.cell? ⟨wr.heap.size, 0, none⟩ = some (.slice (A r) (L r) (C r)) := by rw [hwv]; exact (one_at (heap_alloc_new wr (.cells #[.slice (A r) (L r) (C r)] 37))).1
            have p0 : wv.cell? ⟨b + 1 + 1, r, none⟩ = some (.pointer (some ⟨b + 4 + 2 * r, 0, none⟩)) := HHv.out.row.cell hlt
            have hfill := fill_any (b + 4 + 2 * r) (b + 3 + 2 * r) r (A r) (L r) (C r) (RB r) (RO r) (K r) (X r) (some ⟨b + 1 + 1, 0, none⟩) (b + 2) c c (tT b) wv.drew (HS.out r hlt).1
              (HHv.out.empty r (Nat.le_refl _) hlt).1 (HHv.out.empty r (Nat.le_refl _) hlt).2 ((HTr.out.below HBv.out.drew).row r hlt) (HHv.out.tabs.below ((Below.refl _ _).drew)) (by omega)
              (show _ → _ from fun h => by have := World.block_lt_of_cell? _ _ ((HT.out.row r hlt).key 0 h).1; simp only at this; omega)
              (show _ → _ from fun _ => by omega) (show ∀ j, _ from fun j hj => by constructor <;> (try unfold tT) <;> (try intro) <;> omega)
            obtain ⟨vb, hvb⟩ : ∃ vb, wr.heap.size = vb := ⟨_, rfl⟩
            rw [hvb] at v0 hbv
            go_wp2
            rw [← hwv]
            clear hwv hvb t0
            have p0d : wv.drew.cell? ⟨b + 1 + 1, r, none⟩ = some (.pointer (some ⟨b + 4 + 2 * r, 0, none⟩)) := p0
            have v0d : wv.drew.cell? ⟨vb, 0, none⟩ = some (.slice (A r) (L r) (C r)) := v0
            have hn1 : ¬ (b + 1 + 1 = b + 4 + 2 * r ∨ b + 1 + 1 = b + 3 + 2 * r) := by omega
            have hn2 : ¬ (vb = b + 4 + 2 * r ∨ vb = b + 3 + 2 * r) := by omega
            go_region_held3 (fun w' => w'.cell? ⟨b + 1 + 1, r, none⟩ = some (.pointer (some ⟨b + 4 + 2 * r, 0, none⟩)) ∧ w'.cell? ⟨vb, 0, none⟩ = some (.slice (A r) (L r) (C r)))
              (first | with_reducible exact S3.out | exact ⟨p0, v0⟩)
              ((go_at_call 50; refine hfill.mono ?_; rintro e w3 ⟨⟨bb, rfl, hbb⟩, hO3, hF3⟩; have S3 : Hid (w3.cell? ⟨b + 1 + 1, r, none⟩ = some (.pointer (some ⟨b + 4 + 2 * r, 0, none⟩)) ∧ w3.cell? ⟨vb, 0, none⟩ = some (.slice (A r) (L r) (C r))) := show _ ∧ _ from ⟨hO3.cell (p := ⟨b + 1 + 1, r, none⟩) p0d hn1, hO3.cell (p := ⟨vb, 0, none⟩) v0d hn2⟩))
            clear hfill p0 v0 p0d v0d S3 hn1 hn2
            have HA3 : Hid (Ahead w w3 #[.int .i64 u.k, .int .i64 u.n, .string u.s, .int .i64 u.a, .slice (some ⟨TB, TO, none⟩) c cp]) := (show Ahead w wv.drew _ from HAv.out.below ((Below.refl _ _).drew)).only hO3 (fun k h => by omega)
            cases bb
            · have HN : Hid (¬ OkG c u L K X) := show ¬ OkG c u L K X from fun h => by have := hbb.2 (h.all r hlt); cases this
              clear hF3 hbb hO3
              have R0 : Hid (w3.heap[b + 1]? = some (.cells #[.nilIface, .slice none 0 0] 57 (0, 0))) := by rw [← hb]; exact HA3.out.res
              obtain ⟨r0, r1, rz⟩ := two_at R0.out
              go_wp2
              have R1 := two_put R0.out .nilIface (.slice none 0 0)
              obtain ⟨q0, q1, _⟩ := two_at R1
              refine bodyPost_ret (v := .tuple #[.agg #[.nilIface, .slice none 0 0], .bool false]) (by simp [results, Tryz.results23, go_sem, q0, q1]) rfl ⟨Or.inr ⟨HN.out, rfl⟩, ?_⟩
              exact (HA3.out.bel.setCell (by show w.heap.size ≤ b + 1; omega) _).setCell (by show w.heap.size ≤ b + 1; omega) _
            · have HF : Hid (Filled w3 (tT b r) (tM b r) wv.heap.size r (tT b) (K r) (X r) (L r)) := hF3 (hbb.1 rfl)
              have HH3 : Hid (Half w3 b c (r + 1) (fun j => if j = r then wv.heap.size else base j) L K X) := HHv.out.fill hlt (show Only _ wv w3 from ⟨hO3.os, hO3.tape, hO3.output, hO3.size, hO3.block⟩) HF.out
              have HQ3 : Hid (∀ q, q < r + 1 → OkT c (L q) (K q) (X q)) := show ∀ q, q < r + 1 → _ from fun q hq => by
                by_cases e : q = r
                · subst e; exact hbb.1 rfl
                · exact HQ.out q (by omega)
              clear hF3 hbb hO3 HF HQ
              go_wp2
              go_roundw
              case rel => exact ⟨r + 1, _, by omega, by go_num, HH3, HQ3, HA3⟩
              case measure => simp [intOf]; omega
          · obtain rfl : r = c := by omega
            obtain ⟨g0, g1, g2, g3, g4, _⟩ := cells5 HAr2.out.graph
            rw [hb] at g0 g1 g2 g3 g4
            have hof := of_any u (some ⟨b + 1 + 1, 0, none⟩) (b + 2) r r (tT b) wr HHr.out.tabs
            obtain ⟨bu, hbu⟩ : ∃ x, isV r u = x := ⟨_, rfl⟩
            rw [hbu] at hof
            go_wp2_with fail
            refine hof.mono ?_
            clear hof
            rintro e w3 ⟨rfl, hb3⟩
            have HA3 : Hid (Ahead w w3 #[.int .i64 u.k, .int .i64 u.n, .string u.s, .int .i64 u.a, .slice ta r cp]) := HAr2.out.below hb3
            have HH3 : Hid (Half w3 b r r base L K X) := HHr.out.below hb3
            clear hb3 HAr2 HHr g0 g1 g2 g3 g4
            have R0 : Hid (w3.heap[b + 1]? = some (.cells #[.nilIface, .slice none 0 0] 57 (0, 0))) := by rw [← hb]; exact HA3.out.res
            obtain ⟨r0, r1, rz⟩ := two_at R0.out
            cases bu
            · have HN : Hid (¬ OkG r u L K X) := show ¬ OkG r u L K X from fun h => by have := h.root; rw [hbu] at this; cases this
              clear hbu
              go_wp2
              have R1 := two_put R0.out .nilIface (.slice none 0 0)
              obtain ⟨q0, q1, _⟩ := two_at R1
              refine bodyPost_ret (v := .tuple #[.agg #[.nilIface, .slice none 0 0], .bool false]) (by simp [results, Tryz.results23, go_sem, q0, q1]) rfl ⟨Or.inr ⟨HN.out, rfl⟩, ?_⟩
              exact (HA3.out.bel.setCell (by show w.heap.size ≤ b + 1; omega) _).setCell (by show w.heap.size ≤ b + 1; omega) _
            · have HG : Hid (OkG r u L K X) := show OkG r u L K X from ⟨h200, hbu, HQ.out⟩
              obtain ⟨xt, xy, hxv⟩ := ifv_form (tT b) u
              have HXV : Hid (ifv (tT b) u = .iface xt xy) := hxv
              rw [if_pos rfl, HXV.out]
              clear hxv
              clear hbu
              go_wp2
              have R1 := two_put R0.out (.iface xt xy) (.slice (some ⟨b + 1 + 1, 0, none⟩) r r)
              obtain ⟨q0, q1, _⟩ := two_at R1
              refine bodyPost_ret (v := .tuple #[.agg #[.iface xt xy, .slice (some ⟨b + 1 + 1, 0, none⟩) r r], .bool true]) (by simp [results, Tryz.results23, go_sem, q0, q1]) rfl ⟨Or.inl ⟨HG.out, ?_, base, ?_⟩, ?_⟩
              · rw [hb, HXV.out]
              · rw [hb]
                have h := HH3.out
                have k1 : ∀ k, k ≠ b + 1 → (((w3.setCell ⟨b + 1, 0, none⟩ (.iface xt xy)).setCell ⟨b + 1, 1, none⟩ (.slice (some ⟨b + 1 + 1, 0, none⟩) r r))).heap[k]? = w3.heap[k]? := fun k hk => by
                  rw [Below.heap_setCell _ _ _ _ (show k ≠ b + 1 from hk), Below.heap_setCell _ _ _ _ (show k ≠ b + 1 from hk)]
                have ho : Only (fun k => k = b + 1) w3 (((w3.setCell ⟨b + 1, 0, none⟩ (.iface xt xy)).setCell ⟨b + 1, 1, none⟩ (.slice (some ⟨b + 1 + 1, 0, none⟩) r r))) := ⟨rfl, rfl, rfl, by simp [World.setCell], fun k _ hk => k1 k hk⟩
                refine ⟨h.row.of_block (k1 _ (by omega)), fun j hj => ⟨(h.full j hj).1.only ho (by unfold tT; omega) (by unfold tM; omega) (fun g hg => by have := (h.full j hj).2; omega), (h.full j hj).2⟩, fun j h1 h2 => by omega, ?_⟩
                have := h.size
                simp [World.setCell]
                omega
              · exact (HA3.out.bel.setCell (by show w.heap.size ≤ b + 1; omega) _).setCell (by show w.heap.size ≤ b + 1; omega) _
  · have HN : Hid (¬ OkG n u L K X) := show ¬ OkG n u L K X from fun h => h200 h.len
    have hgt : 200 < n := by omega
    have R0 : Hid (wa.heap[b + 1]? = some (.cells #[.nilIface, .slice none 0 0] 57 (0, 0))) := by rw [← hb]; exact HA.out.res
    obtain ⟨r0, r1, rz⟩ := two_at R0.out
    rw [hb] at g0 g1 g2 g3 g4
    go_enter Tryz.func23, Tryz.ntmps23
    go_wp2
    rw [← hwa]
    refine bodyPost_ret (v := .tuple #[.agg #[.nilIface, .slice none 0 0], .bool false]) (by simp [results, Tryz.results23, go_sem, r0, r1]) rfl ⟨Or.inr ⟨HN.out, rfl⟩, HA.out.bel⟩

end Go.Proofs.YtgflalfiopnmnaaGreatDoor

namespace Go.Proofs.YtgflalfiopnmnaaGreatDoor
open Go.RowKit Vl

theorem bytes_empty {s : ByteArray} (h : s.toList = []) : s = ⟨#[]⟩ := by
  rw [ByteArray.toList_eq] at h
  obtain ⟨⟨l⟩⟩ := s
  simp at h
  subst h
  rfl

def zeroV : V := ⟨0, 0, ⟨#[]⟩, 0⟩

def atKey (L : Nat) (K X : Nat → V) (k : V) : V :=
  match (List.range L).find? (fun j => eqV (K j) k) with
  | some j => X j
  | none => zeroV

theorem atKey_hit {L : Nat} {K X : Nat → V} {k : V} {j : Nat} (hj : j < L) (h : eqV (K j) k = true) (hb : ∀ i, i < j → eqV (K i) k = false) : atKey L K X k = X j := by
  have : (List.range L).find? (fun j => eqV (K j) k) = some j := by
    rw [List.find?_range_eq_some]
    exact ⟨h, List.mem_range.2 hj, fun i hi => by rw [hb i hi]; rfl⟩
  unfold atKey
  rw [this]
theorem atKey_none {L : Nat} {K X : Nat → V} {k : V} (h : ∀ j, j < L → eqV (K j) k = false) : atKey L K X k = zeroV := by
  have : (List.range L).find? (fun j => eqV (K j) k) = none := by
    rw [List.find?_eq_none]
    intro j hj
    rw [h j (List.mem_range.1 hj)]
    simp
  unfold atKey
  rw [this]

theorem find_js {v : V} {K : Nat → V} {f : Nat → Value} : ∀ (js : List Nat), findV v (js.map fun j => (K j, f j)) = (js.find? (fun j => eqV (K j) v)).map f
  | [] => rfl
  | j :: js => by
    simp only [List.map_cons, findV, List.find?_cons]
    rw [eqV_comm v (K j)]
    cases h : eqV (K j) v
    · simp only [Bool.false_eq_true, if_false]; exact find_js js
    · simp

def step (L : Nat → Nat) (K X : Nat → Nat → V) (v k : V) : V := if v.k = 4 then atKey (L v.a.toNat) (K v.a.toNat) (X v.a.toNat) k else zeroV
def lead (u : V) (L : Nat → Nat) (K X : Nat → Nat → V) (P : Nat → V) : Nat → V
  | 0 => u
  | i + 1 => step L K X (lead u L K X P i) (P i)

theorem isV_zero (n : Nat) : isV n zeroV = true := by
  simp [isV, zeroV, ByteArray.toList_eq]

theorem isV_at {n L : Nat} {K X : Nat → V} (h : OkT n L K X) (k : V) : isV n (atKey L K X k) = true := by
  unfold atKey
  cases hf : (List.range L).find? (fun j => eqV (K j) k) with
  | none => exact isV_zero n
  | some j =>
    have := List.mem_of_find?_eq_some hf
    exact (h.all j (List.mem_range.1 this)).val

theorem isV_tab {n : Nat} {v : V} (h : isV n v = true) (h4 : v.k = 4) : 0 ≤ v.a ∧ v.a < n := by
  obtain ⟨k, m, s, a⟩ := v
  subst h4
  simp [isV] at h
  exact ⟨h.2.2.1, h.2.2.2⟩

end Go.Proofs.YtgflalfiopnmnaaGreatDoor
