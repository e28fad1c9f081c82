import Derived.Test.YtgflalfiopnmnaaDoorDsAns2
namespace Go.Proofs.YtgflalfiopnmnaaDoor
open Go.RowKit Rk So

/-- Another row in row r's stead. -/
theorem OM.setRow {w : World} {base g n cap r R m : Nat} {L B : Nat → Nat} {M : Nat → Nat → Int} {f : Nat → Int} (h : OM w base (.slice (some ⟨g, 0, none⟩) n cap) n L B M) (hr : r < n) (hR : w.rowIs R 3 m (fun c => .int .i64 (f c))) (hb : base ≤ R) :
    OM (w.setCell ⟨g, r, none⟩ (.slice (some ⟨R, 0, none⟩) m m)) base (.slice (some ⟨g, 0, none⟩) n cap) n (fun j => if j = r then m else L j) (fun j => if j = r then R else B j) (fun j => if j = r then f else M j) := by
  rcases h.own.2 with ⟨e, _⟩ | ⟨g', cap', cur, e, hg, hh, hc, hm, hs, ht⟩
  · cases e
  · cases e
    have hne : ∀ k l F, w.rowIs k 3 l F → k ≠ g := fun k l F ⟨c, hk, _⟩ => ne_of_types hk hh (by decide)
    refine ⟨⟨by simp, Or.inr ⟨g, cap, cur.setIfInBounds r (.slice (some ⟨R, 0, none⟩) m m), rfl, hg, by simp [World.setCell, Array.getElem?_modify, hh], hc, hm, by simpa using hs, ?_⟩⟩, fun j hj => ?_⟩
    · apply List.ext_getElem?
      intro i
      have hti : (cur.toList.take (n * 1))[i]? = ((List.range n).map fun j => Value.slice (some ⟨B j, 0, none⟩) (L j) (L j))[i]? := by rw [ht]
      rw [List.getElem?_take] at hti ⊢
      by_cases hi : i < n * 1
      · rw [if_pos hi] at hti ⊢
        have hin : i < n := by omega
        by_cases e : i = r
        · subst e
          simp [hin, show i < cur.size by omega]
        · simp [hin, e] at hti ⊢
          rw [List.getElem?_set_ne (by omega)]
          simpa using hti
      · rw [if_neg hi]
        symm
        rw [List.getElem?_eq_none_iff]
        simp; omega
    · by_cases e : j = r
      · subst e
        simp only [if_true]
        exact ⟨hb, hR.setOther (hne _ _ _ hR) _⟩
      · simp only [e, if_false]
        exact ⟨(h.rows j hj).1, (h.rows j hj).2.setOther (hne _ _ _ (h.rows j hj).2) _⟩

/-- Another number in a row; rows may lie in one block. -/
theorem OM.setVal {w : World} {base n r c : Nat} {v : Value} {L B : Nat → Nat} {M : Nat → Nat → Int} (h : OM w base v n L B M) (hr : r < n) (x : Int) : ∃ M', OM (w.setCell ⟨B r, c, none⟩ (.int .i64 x)) base v n L B M' := by
  refine ⟨fun j k => if B j = B r ∧ k = c then x else M j k, ⟨ownsRow_setCell_other h.own (fun e => ?_) _, fun j hj => ⟨(h.rows j hj).1, ?_⟩⟩⟩
  · obtain ⟨c', hk, _⟩ := (h.rows r hr).2
    rcases h.own.2 with ⟨rfl, _⟩ | ⟨g, cap, cur, rfl, _, hh, _⟩
    · simp [Value.ownBlock] at e
    · simp [Value.ownBlock] at e
      exact ne_of_types hh hk (by decide) e
  · by_cases e : B j = B r
    · have := (h.rows j hj).2
      rw [e] at this ⊢
      refine (this.set c _).congr (fun i _ => ?_)
      by_cases e2 : i = c <;> simp [e2]
    · refine ((h.rows j hj).2.setOther e _).congr (fun i _ => ?_)
      simp [e]

def DrEnd (w w' : World) (e : Ending) : Prop :=
  ∃ (n : Nat) (v : Value) (L B : Nat → Nat) (M : Nat → Nat → Int), n ≤ 201 ∧ (∀ j, L j ≤ 201) ∧ e = .returned v ∧ OM w' w.heap.size v n L B M ∧ Below w.heap.size w w'

def SqRel (w : World) (n : Nat) (o a : Value) (wr : World) : Prop :=
  ∃ (k : Nat) (B : Nat → Nat) (M : Nat → Nat → Int) (v : Value), k ≤ n ∧ v = o ∧ a = .int .i64 k ∧ Hid (OM wr w.heap.size v k (fun _ => n) B M) ∧ Hid (Below w.heap.size w wr)

theorem OM.lower {w : World} {base base' n : Nat} {v : Value} {L B : Nat → Nat} {M : Nat → Nat → Int} (h : OM w base v n L B M) (hb : base' ≤ base) : OM w base' v n L B M := by
  refine ⟨⟨h.own.1, ?_⟩, fun j hj => ⟨Nat.le_trans hb (h.rows j hj).1, (h.rows j hj).2⟩⟩
  rcases h.own.2 with h2 | ⟨g, cap, cur, e1, e2, r⟩
  · exact Or.inl h2
  · exact Or.inr ⟨g, cap, cur, e1, Nat.le_trans hb e2, r⟩

/-- What stands behind the answers. -/
structure Sd (w wx : World) (sl : Value) (t n : Nat) (v : Value) (L B : Nat → Nat) (M : Nat → Nat → Int) : Prop where
  cur : CurS wx w.heap.size sl t
  om : OM wx (w.heap.size + 1) v n L B M
  bel : Below w.heap.size w wx

theorem Sd.pick {w wx w' : World} {sl v : Value} {t n : Nat} {L B : Nat → Nat} {M : Nat → Nat → Int} (h : Sd w wx sl t n v L B M) (hc : CurS w' w.heap.size sl (t + 1)) (ho : Only (fun k => k = w.heap.size) wx w') : Sd w w' sl (t + 1) n v L B M :=
  ⟨hc, h.om.only ho (fun g hg => by omega), h.bel.trans (ho.toBelow (fun k hk => by omega) h.bel.size)⟩

theorem pick_be {w wx : World} {ca : Option Addr} {cl cc cb co t : Nat} (m : Nat) (mi : Int) (hmi : mi = (m : Int)) (hm0 : 0 < m) (hm : m ≤ 200) (hC : CurS wx w.heap.size (.slice ca cl cc) t) (hB : ByteR w ca cl cb co) (hb : Below w.heap.size w wx) (hcl : cl ≤ 1048576) (ht : t ≤ 1000000) :
    Calls Tryd.prog 41 #[.pointer (some ⟨w.heap.size, 0, none⟩), .int .i64 mi] wx fun e w' => (∃ y : Nat, y < m ∧ e = .returned (.int .i64 y)) ∧ CurS w' w.heap.size (.slice ca cl cc) (t + 1) ∧ Only (fun k => k = w.heap.size) wx w' := by
  subst hmi
  exact pick_any wx w.heap.size ca cl cc cb co t m hm0 hm hC (hB.only (P := fun _ => False) (Only.below hb) id) hcl ht

theorem OM.topCell {w : World} {base gb n cp r : Nat} {L B : Nat → Nat} {M : Nat → Nat → Int} (h : OM w base (.slice (some ⟨gb, 0, none⟩) n cp) n L B M) (hr : r < n) : w.cell? ⟨gb, r, none⟩ = some (.slice (some ⟨B r, 0, none⟩) (L r) (L r)) ∧ w.frozen? ⟨gb, r, none⟩ = false := by
  rcases h.own.2 with ⟨e, _⟩ | ⟨g', cap', cur, e, hg, hh, hc, hm, hs, ht⟩
  · cases e
  · cases e
    have : (cur.toList.take (n * 1))[r]? = some (.slice (some ⟨B r, 0, none⟩) (L r) (L r)) := by rw [ht]; simp [hr]
    rw [List.getElem?_take] at this
    split at this
    · exact ⟨by simp [World.cell?, hh]; simpa using this, by simp [World.frozen?, hh]⟩
    · cases this

set_option maxRecDepth 100000 in
set_option maxHeartbeats 4000000 in
theorem square_any (w : World) (ca : Option Addr) (cl cc cb co : Nat) (HB : Hid (ByteR w ca cl cb co)) (hcb : cb < w.heap.size) (hcl : cl ≤ 1048576) :
    Calls Tryd.prog 23 #[.slice ca cl cc] w fun e w' => DrEnd w w' e := by
  obtain ⟨i0, hi, hz0, hz1, hz2⟩ := info_parts Tryd.info25
  have hb1 : Below w.heap.size w (w.alloc (.cells #[.slice ca cl cc, .int .i64 0, .int .u64 0] 63)) := (Below.refl _ _).alloc (Nat.le_refl _) _
  have hC1 : CurS (w.alloc (.cells #[.slice ca cl cc, .int .i64 0, .int .u64 0] 63)) w.heap.size (.slice ca cl cc) 0 := ⟨0, 0, Nat.le_refl _, heap_alloc_new _ _⟩
  have han := answers_any (w.alloc (.cells #[.slice ca cl cc, .int .i64 0, .int .u64 0] 63)) w.heap.size ca cl cc cb co hC1 (HB.out.only (P := fun _ => False) (Only.below hb1) id) (by omega) hcl
  clear hC1
  go_enter Tryd.func23, Tryd.ntmps23
  go_wp2_with fail
  refine han.mono ?_
  clear han
  rintro e w2 ⟨n, v, B, M, hn, rfl, hM2, hC2, hO2⟩
  have HS2 : Hid (Sd w w2 (.slice ca cl cc) 4000 n v (fun _ => n) B M) := by
    refine ⟨hC2, ?_, hb1.trans (hO2.toBelow (fun k hk => by omega) (by simp))⟩
    have e : (w.alloc (.cells #[.slice ca cl cc, .int .i64 0, .int .u64 0] 63)).heap.size = w.heap.size + 1 := by simp
    rw [e] at hM2
    exact hM2
  clear hM2 hC2 hO2 hb1
  go_wp2_with fail
  refine (pick_be 20 20 rfl (by omega) (by omega) HS2.out.cur HB.out HS2.out.bel hcl (by omega)).mono ?_
  rintro e w3 ⟨⟨y, hy, rfl⟩, hC3, hO3⟩
  have HS3 : Hid _ := HS2.out.pick hC3 hO3
  clear hC3 hO3 HS2
  obtain ⟨ga, cp, gb, rfl, hga, _⟩ := HS3.out.om.mat
  by_cases y0 : y = 0
  · have g0 : ((y : Int) == 0) = true := by simp [y0]
    clear y0
    by_cases hn0 : 0 < n
    · obtain rfl := hga hn0
      go_wp2_with fail
      refine (pick_be n n rfl hn0 (by omega) HS3.out.cur HB.out HS3.out.bel hcl (by omega)).mono ?_
      rintro e w4 ⟨⟨r, hr, rfl⟩, hC4, hO4⟩
      have HS4 : Hid _ := HS3.out.pick hC4 hO4
      clear hC4 hO4 HS3
      go_wp2_with fail
      refine (pick_be 20 20 rfl (by omega) (by omega) HS4.out.cur HB.out HS4.out.bel hcl (by omega)).mono ?_
      rintro e w5 ⟨⟨m, hm, rfl⟩, hC5, hO5⟩
      have HS5 : Hid _ := HS4.out.pick hC5 hO5
      clear hC5 hO5 HS4
      have hmk := run_make_row' (P := Tryd.prog) 25 3 (.int .i64 0) 8 Tryd.underlying25 Tryd.info3 rfl .i64 .i64 m (by omega) (by omega)
      have hM6 := HS5.out.om.alloc (.cells (madeCells #[.int .i64 0] m) 3)
      have hb6 := HS5.out.bel.alloc HS5.out.bel.size (.cells (madeCells #[.int .i64 0] m) 3)
      obtain ⟨tc, tz⟩ := hM6.topCell hr
      have HM7 : Hid _ := hM6.setRow hr (World.rowIs_made w5 (.int .i64 0) m 3) (by have := lt_of_block HS5.out.cur.ex.choose_spec.choose_spec.2; omega)
      have HB7 : Hid (Below w.heap.size w ((w5.alloc (.cells (madeCells #[.int .i64 0] m) 3)).setCell ⟨gb, r, none⟩ (.slice (some ⟨w5.heap.size, 0, none⟩) m m))) := hb6.setCell (by
        show w.heap.size ≤ gb
        rcases hM6.own.2 with ⟨e, _⟩ | ⟨g', cap', cur, e, hg, _⟩
        · cases e
        · cases e; omega) _
      clear hM6 hb6
      go_wp2
      go_ret
      exact ⟨n, _, _, _, _, by omega, fun j => by show (if j = r then m else n) ≤ 201; split <;> omega, rfl, HM7.out.lower (by omega), HB7.out⟩
    · go_wp2
      go_ret
      exact ⟨n, _, fun _ => n, B, M, by omega, fun _ => Nat.le_trans hn (by decide), rfl, HS3.out.om.lower (by omega), HS3.out.bel⟩
  · have g0 : ((y : Int) == 0) = false := by simpa using y0
    by_cases y1 : y = 1
    · have g1 : ((y : Int) == 1) = true := by simp [y1]
      clear y0 y1
      by_cases hn0 : 0 < n
      · obtain rfl := hga hn0
        obtain ⟨tc, tz⟩ := HS3.out.om.topCell hn0
        have hn0' : (0 : Int) < (n : Int) := by omega
        have hne : B 0 ≠ gb := by
          obtain ⟨c', hk, _⟩ := (HS3.out.om.rows 0 hn0).2
          rcases HS3.out.om.own.2 with ⟨e, _⟩ | ⟨g', cap', cur, e, _, hh, _⟩
          · cases e
          · cases e; exact ne_of_types hk hh (by decide)
        go_wp2_with fail
        go_region_held3 (fun w' => w'.cell? ⟨gb, 0, none⟩ = some (.slice (some ⟨B 0, 0, none⟩) n n)) (first | assumption | exact (HS4.om.topCell hn0).1 | (rw [World.cell?_setCell_far _ _ _ _ hne]; exact (HS4.om.topCell hn0).1))
          ((go_at_call 41; refine (pick_be 5 5 rfl (by omega) (by omega) (HS3.out.cur.drewN 1) HB.out HS3.out.bel.drew hcl (by omega)).mono ?_; rintro e w4 ⟨⟨z, hz, rfl⟩, hC4, hO4⟩; have HS4 : Sd w w4 (.slice ca cl cc) (4000 + 1 + 1) n (.slice (some ⟨gb, 0, none⟩) n cp) (fun _ => n) B M := (show Sd w w3.drew (.slice ca cl cc) (4000 + 1) n (.slice (some ⟨gb, 0, none⟩) n cp) (fun _ => n) B M from ⟨HS3.out.cur.drewN 1, HS3.out.om.drewN 1, HS3.out.bel.drew⟩).pick hC4 hO4; have vc := (HS4.om.rows 0 hn0).2.cell hn0; have vz := (HS4.om.rows 0 hn0).2.frozen 0))
        obtain ⟨M', hM'⟩ := HS4.om.setVal (c := 0) hn0 (IntKind.i64.wrap ((z : Int) - 1))
        have HM5 : Hid _ := hM'
        have HB5 : Hid (Below w.heap.size w (w4.setCell ⟨B 0, 0, none⟩ (.int .i64 (IntKind.i64.wrap ((z : Int) - 1))))) := HS4.bel.setCell (by show w.heap.size ≤ B 0; have := (HS4.om.rows 0 hn0).1; omega) _
        clear hM' HS4 HS3 vc vz hC4 hO4 tc tz
        go_wp2
        go_ret
        exact ⟨n, _, fun _ => n, B, M', by omega, fun _ => Nat.le_trans hn (by decide), rfl, HM5.out.lower (by omega), HB5.out⟩
      · go_wp2
        go_ret
        exact ⟨n, _, fun _ => n, B, M, by omega, fun _ => Nat.le_trans hn (by decide), rfl, HS3.out.om.lower (by omega), HS3.out.bel⟩
    · have g1 : ((y : Int) == 1) = false := by simp; omega
      by_cases y2 : y = 2
      · have g2 : ((y : Int) == 2) = true := by simp [y2]
        clear y0 y1 y2
        go_wp2_with fail
        refine (pick_be 2 2 rfl (by omega) (by omega) HS3.out.cur HB.out HS3.out.bel hcl (by omega)).mono ?_
        rintro e w4 ⟨⟨z, hz, rfl⟩, hC4, hO4⟩
        have HB4 : Hid (Below w.heap.size w w4) := (HS3.out.pick hC4 hO4).bel
        clear hC4 hO4 HS3 hga
        obtain ⟨n2, hn2⟩ : ∃ n2 : Nat, 200 + (z : Int) = (n2 : Int) := ⟨200 + z, by omega⟩
        have hn3 : n2 ≤ 201 := by omega
        have hmk := run_make_row' (P := Tryd.prog) 25 3 (.int .i64 0) 8 Tryd.underlying25 Tryd.info3 rfl .i64 .i64 n2 (by omega) (by omega)
        go_wp2
        clear hn2
        go_loopw [4, 6] (fun o a wr => SqRel w n2 o a wr) (fun _ a _ => n2 - (intOf a).toNat)
        case atStart => exact ⟨0, fun _ => 0, fun _ _ => 0, _, Nat.zero_le _, rfl, rfl, OM.nil _ _ _ _ _, HB4⟩
        case round =>
          clear HB4
          obtain ⟨k, B2, M2, v, hk, rfl, rfl, HO, HW⟩ := hrel
          by_cases hlt : k < n2
          · have hws := HW.out.size
            have hO1 := HO.out.alloc (.cells (madeCells #[.int .i64 0] n2) 3)
            have hR1 := World.rowIs_made wr (.int .i64 0) n2 3
            have hB1 := HW.out.alloc HW.out.size (.cells (madeCells #[.int .i64 0] n2) 3)
            obtain ⟨wm, hwm⟩ : ∃ x, wr.alloc (.cells (madeCells #[.int .i64 0] n2) 3) = x := ⟨_, rfl⟩
            have hsm : w.heap.size ≤ wm.heap.size := by rw [← hwm]; simp; omega
            rw [hwm] at hO1 hR1 hB1
            have HO1 : Hid _ := hO1
            have HR1 : Hid _ := hR1
            have HB1 : Hid _ := hB1
            clear hO1 hR1 hB1
            go_wp2_with (at_builtin; refine wpList_append_lies _ (by rfl) (.tmp 50) (.tmp 53) 23 (by rfl) w.heap.size 25 i0 (.slice none 0 0) 1 24 Tryd.underlying23 hi hz0 hz1 hz2 (by rfl) (by omega) v k _ (by rfl) (HO1.out.own.alloc _) ⟨wm.heap.size, 0, none⟩ 1 1 [.slice (some ⟨wr.heap.size, 0, none⟩) n2 n2] (by rfl) (by rfl) (World.news_of_block (heap_alloc_new wm _)) ?c2 (by omega) ?c3 ?c4 ?c5 (wm.heap.size + 1) (by simp) ?_)
            case c2 => first | rfl | (intro u hu; simp at hu; subst hu; rfl)
            case c3 => unfold maxLen; omega
            case c4 => omega
            case c5 => first | omega | (simp; omega)
            intro g cap w3 hown3 hgrow3 hat hlt3
            obtain ⟨hO3, hB3⟩ := HO1.out.more (f := fun _ => 0) HR1.out hws _ hown3 hgrow3
            have HO3 : Hid (OM w3 w.heap.size (.slice (some ⟨g, 0, none⟩) (k + 1) cap) (k + 1) (fun _ => n2) (fun j => if j = k then wr.heap.size else B2 j) (fun j => if j = k then (fun _ => 0) else M2 j)) := hO3.congr (fun j _ => by simp) (fun _ _ _ _ => rfl)
            have HB3 : Hid (Below w.heap.size w w3) := HB1.out.trans hB3
            clear hown3 hgrow3 hat hlt3 hO3 hB3 HO1 HR1 HB1
            go_wp2
            go_roundw
            case rel => exact ⟨k + 1, _, _, _, by omega, rfl, by go_num, HO3, HB3⟩
            case measure => simp [intOf]; omega
          · obtain rfl : k = n2 := by omega
            go_wp2
            go_ret
            exact ⟨k, _, fun _ => k, B2, M2, by omega, fun _ => hn3, rfl, HO.out, HW.out⟩
      · have g2 : ((y : Int) == 2) = false := by simp; omega
        clear y0 y1 y2
        go_wp2
        go_ret
        exact ⟨n, _, fun _ => n, B, M, by omega, fun _ => Nat.le_trans hn (by decide), rfl, HS3.out.om.lower (by omega), HS3.out.bel⟩

end Go.Proofs.YtgflalfiopnmnaaDoor
