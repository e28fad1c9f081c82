import Derived.Test.YtgflalfiopnmnabDoorFzQu2
import Derived.Laws.IdiomStrings
namespace Go.Proofs.YtgflalfiopnmnabDoor
open Go.RowKit Vl

/-- Bytes that are owned, as a string. -/
theorem own_string {w : World} {base : Nat} {v : Value} {D : List UInt8} (h : w.ownsRow base 5 1 v D.length (Lib.byteCells D)) (h0 : D ≠ []) : (convert 59 9 v).run Tryd.prog w = .ok (.string ⟨D.toArray⟩) w := by
  have hl0 : D.length ≠ 0 := by simpa using h0
  rcases h.2 with ⟨_, hz⟩ | ⟨g, cap, cur, rfl, _⟩
  · exact absurd hz hl0
  · refine run_convert_bytes_back w _ _ 5 ⟨g, 0, none⟩ cap D Tryd.underlying59 Tryd.underlying5 Tryd.underlying9 (fun j hj => ?_)
    exact h.cells (g := g) rfl j _ (by simp [Lib.byteCells, List.getElem?_eq_getElem hj])
theorem index_str (s : ByteArray) (q : Nat) (x : UInt8) (hx : s.data.toList[q]? = some x) (w : World) : (Instr.index 9 (.string s) (.int .i64 (q : Int))).run Tryd.prog w = .ok (.int .u8 (x.toNat : Int)) w := by
  have h1 : s[q]? = some x := by
    have hq : q < s.size := by
      have := (List.getElem?_eq_some_iff.1 hx).1
      rw [str_len] at this
      exact this
    rw [getElem?_pos s q hq]
    have h2 : s.data[q]? = some x := by rw [← Array.getElem?_toList]; exact hx
    rw [Array.getElem?_eq_getElem (show q < s.data.size from hq)] at h2
    exact h2
  simp [Instr.index, asIntOf, run_underlying Tryd.underlying9, h1]

/-- The loop's state: what is owned. -/
structure SqR (w wr : World) (ov : Value) (acc : List UInt8) : Prop where
  own : wr.ownsRow w.heap.size 5 1 ov acc.length (Lib.byteCells acc)
  bel : Below w.heap.size w wr
theorem SqR.next {w wr w3 : World} {ov : Value} {acc cs : List UInt8} {o : Obj} {g cap m : Nat} (h : SqR w wr ov acc) (hm : cs.length = m) (hgrow : (wr.alloc o).grownBy w3 ov.ownBlock) (hown : w3.ownsRow w.heap.size 5 1 (.slice (some ⟨g, 0, none⟩) (acc.length + m) cap) (acc.length + m) (Lib.byteCells acc ++ Lib.byteCells cs)) : SqR w w3 (.slice (some ⟨g, 0, none⟩) (acc.length + m) cap) (acc ++ cs) := by
  refine ⟨?_, ?_⟩
  · rw [List.length_append, hm, byteCells_app]; exact hown
  · have hb : Below w.heap.size w (wr.alloc o) := h.bel.alloc h.bel.size _
    exact hb.trans (below_grown (h.own.alloc o) hgrow hb.size)

set_option maxHeartbeats 2000000 in
set_option maxRecDepth 100000 in
/-- 'l4quote'. -/
theorem l4quote_any (s : ByteArray) (w : World) (hs : s.size ≤ 1000000) : Calls Tryd.prog 54 #[.string s] w fun e w' => e = .returned (.string ⟨(quT s).toArray⟩) ∧ Below w.heap.size w w' := by
  obtain ⟨i0, hi, hz0, hz1, hz2⟩ := info_parts Tryd.infoU8
  have HR0 : Hid (SqR w (w.alloc (.cells #[.int .u8 34] 5)) (.slice (some ⟨w.heap.size, 0, none⟩) 1 1) [34]) := ⟨⟨rfl, Or.inr ⟨w.heap.size, 1, #[.int .u8 34], rfl, Nat.le_refl _, heap_alloc_new w _, by decide, by unfold maxLen; omega, rfl, rfl⟩⟩, below_alloc _ _⟩
  go_enter Tryd.func54, Tryd.ntmps54
  go_wp2
  go_loopw [4, 5] (fun ov ii wr => ∃ q : Nat, q ≤ s.size ∧ ii = .int .i64 q ∧ Hid (SqR w wr ov ([34] ++ quB' (s.data.toList.take q)))) (fun _ ii _ => s.size - (intOf ii).toNat)
  case atStart => exact ⟨0, Nat.zero_le _, rfl, by simpa [quB'] using HR0⟩
  case round =>
    rename_i ov _
    obtain ⟨q, hq, rfl, HR⟩ := hrel
    obtain ⟨oa, oc, rfl, _⟩ := owns_form HR.out.own
    by_cases hlt : q < s.size
    · obtain ⟨x, hx⟩ : ∃ x, s.data.toList[q]? = some x := ⟨s.data.toList[q]'(by rw [str_len]; exact hlt), List.getElem?_eq_getElem _⟩
      have hidx := index_str s q x hx
      have HT : Hid (quB' (s.data.toList.take (q + 1)) = quB' (s.data.toList.take q) ++ quB x) := by
        show _ = _
        rw [List.take_add_one, hx, ← quB'_snoc]
        rfl
      have HL : Hid (([34] ++ quB' (s.data.toList.take q)).length + 3 ≤ 140737488355328) := by
        have h1 := quB'_len (s.data.toList.take q)
        have h2 : (s.data.toList.take q).length ≤ s.size := by rw [List.length_take, str_len]; omega
        show _ ≤ _
        simp only [List.length_append, List.length_cons, List.length_nil]
        omega
      obtain ⟨acc, hacc⟩ : ∃ acc, [34] ++ quB' (s.data.toList.take q) = acc := ⟨_, rfl⟩
      have HA : Hid ([34] ++ quB' (s.data.toList.take (q + 1)) = acc ++ quB x) := by show _ = _; rw [HT.out, ← hacc]; simp only [List.append_assoc]
      rw [hacc] at HR HL ⊢
      clear hacc HT hx
      have hxb : x.toNat < 256 := x.toNat_lt
      have hll := HL.out
      have hsz : w.heap.size ≤ wr.heap.size := HR.out.bel.size
      by_cases ha : x = 34 ∨ x = 92
      · have HE : Hid (quB x = [92, x]) := quB_a ha
        rcases ha with rfl | rfl
        · go_wp2_with (at_builtin; refine wpList_append_lies _ (by rfl) _ _ 59 (by rfl) w.heap.size 5 i0 (.int .u8 0) 1 1 Tryd.underlying59 hi hz0 hz1 hz2 (by rfl) (by omega) (.slice oa acc.length oc) acc.length (Lib.byteCells acc) (by rfl) (HR.out.own.alloc _) ⟨wr.heap.size, 0, none⟩ 2 2 [.int .u8 92, .int .u8 34] (by rfl) (by rfl) (World.news_of_block (heap_alloc_new wr _)) (by intro u hu; simp at hu; rcases hu with rfl | rfl <;> rfl) (by omega) (by unfold maxLen; omega) (by omega) (by simp; omega) (wr.heap.size + 1) (by simp) ?_)
          intro g cap w3 hown hgrow hat hlt3
          have HR3 : Hid (SqR w w3 _ (acc ++ [92, 34])) := HR.out.next (cs := [92, 34]) rfl hgrow hown
          clear hown hgrow hat
          go_wp2
          go_roundw
          case rel => exact ⟨q + 1, by omega, by go_num, by rw [HA.out, HE.out]; exact HR3⟩
          case measure => simp [intOf]; omega
        · go_wp2_with (at_builtin; refine wpList_append_lies _ (by rfl) _ _ 59 (by rfl) w.heap.size 5 i0 (.int .u8 0) 1 1 Tryd.underlying59 hi hz0 hz1 hz2 (by rfl) (by omega) (.slice oa acc.length oc) acc.length (Lib.byteCells acc) (by rfl) (HR.out.own.alloc _) ⟨wr.heap.size, 0, none⟩ 2 2 [.int .u8 92, .int .u8 92] (by rfl) (by rfl) (World.news_of_block (heap_alloc_new wr _)) (by intro u hu; simp at hu; rcases hu with rfl | rfl <;> rfl) (by omega) (by unfold maxLen; omega) (by omega) (by simp; omega) (wr.heap.size + 1) (by simp) ?_)
          intro g cap w3 hown hgrow hat hlt3
          have HR3 : Hid (SqR w w3 _ (acc ++ [92, 92])) := HR.out.next (cs := [92, 92]) rfl hgrow hown
          clear hown hgrow hat
          go_wp2
          go_roundw
          case rel => exact ⟨q + 1, by omega, by go_num, by rw [HA.out, HE.out]; exact HR3⟩
          case measure => simp [intOf]; omega
      · have n1 : ¬ ((x.toNat : Int) = 34) := fun e => ha (Or.inl (by apply UInt8.toNat.inj; show x.toNat = 34; omega))
        have n2 : ¬ ((x.toNat : Int) = 92) := fun e => ha (Or.inr (by apply UInt8.toNat.inj; show x.toNat = 92; omega))
        have e1 : ((x.toNat : Int) == 34) = false := by simpa using n1
        have e2 : ((x.toNat : Int) == 92) = false := by simpa using n2
        by_cases hb : x.toNat < 32 ∨ 126 < x.toNat
        · have HE : Hid (quB x = [92, hexB (x.toNat / 16), hexB (x.toNat % 16)]) := quB_b ha hb
          have hi1 := hex_run (d := x.toNat / 16) (by omega)
          have hi2 := hex_run (d := x.toNat % 16) (by omega)
          obtain ⟨y, hy⟩ : ∃ y, hexB (x.toNat / 16) = y := ⟨_, rfl⟩
          obtain ⟨z, hz⟩ : ∃ z, hexB (x.toNat % 16) = z := ⟨_, rfl⟩
          rw [hy] at hi1 HE
          rw [hz] at hi2 HE
          obtain ⟨d1, hd1e⟩ : ∃ d : Int, ((x.toNat / 16 : Nat) : Int) = d := ⟨_, rfl⟩
          obtain ⟨d2, hd2e⟩ : ∃ d : Int, ((x.toNat % 16 : Nat) : Int) = d := ⟨_, rfl⟩
          have hd1 : IntKind.u8.wrap ((x.toNat : Int) / 16) = d1 := by rw [wrapU8 (by omega) (by omega), ← hd1e]; omega
          have hd2 : (x.toNat : Int).tmod 16 = d2 := (Int.ofNat_tmod x.toNat 16).symm.trans hd2e
          rw [hd1e] at hi1
          rw [hd2e] at hi2
          have HI : Hid ((∀ w, (Instr.index 9 (.string hexS) (.int .u8 d1)).run Tryd.prog w = .ok (.int .u8 (y.toNat : Int)) w) ∧ (∀ w, (Instr.index 9 (.string hexS) (.int .u8 d2)).run Tryd.prog w = .ok (.int .u8 (z.toNat : Int)) w) ∧ IntKind.u8.wrap ((x.toNat : Int) / 16) = d1 ∧ (x.toNat : Int).tmod 16 = d2) := ⟨hi1, hi2, hd1, hd2⟩
          clear hi1 hi2 hd1 hd2 hd1e hd2e hy hz
          by_cases h32 : x.toNat < 32
          · have g1 : ((x.toNat : Int) < 32) := by omega
            clear hb ha n1 n2 h32
            go_wp2_with fail
            refine wp_region_held_drew (S := fun _ => True) (by kernel_rfl) trivial (fun hHeld => ?_)
            refine wpAnyH_take (i := 0) (v := .slice oa acc.length oc) rfl (by kernel_rfl) (by kernel_rfl) (by kernel_rfl) (fun _ _ _ h => h) (Or.inl ⟨by rfl, fun w hSw => ?_⟩) hHeld ?_
            · first | rfl | go_simp
            simp only [Act.put, List.setIfInBounds_toArray, List.set_cons_zero, List.set_cons_succ, List.getElem_toArray, List.getElem_cons_zero]
            refine wpAnyH_take (i := 1) (v := .string hexS) rfl (by kernel_rfl) (by kernel_rfl) (by kernel_rfl) (fun _ _ _ h => h) (Or.inl ⟨by rfl, fun w hSw => ?_⟩) hHeld ?_
            · first | rfl | go_simp
            simp only [Act.put, List.setIfInBounds_toArray, List.set_cons_zero, List.set_cons_succ, List.getElem_toArray, List.getElem_cons_zero, List.getElem_cons_succ]
            refine wpAnyH_take (i := 2) (v := .int .u8 (x.toNat : Int)) rfl (by kernel_rfl) (by kernel_rfl) (by kernel_rfl) (fun _ _ _ h => h) (Or.inl ⟨by rfl, fun w hSw => ?_⟩) hHeld ?_
            · first | rfl | go_simp
            simp only [Act.put, List.setIfInBounds_toArray, List.set_cons_zero, List.set_cons_succ, List.getElem_toArray, List.getElem_cons_zero, List.getElem_cons_succ]
            refine wpAnyH_take (i := 3) (v := .int .u8 d1) rfl (by kernel_rfl) (by kernel_rfl) (by kernel_rfl) (fun _ _ _ h => h) (Or.inl ⟨by rfl, fun w hSw => ?_⟩) hHeld ?_
            · go_simp
              exact HI.out.2.2.1
            simp only [Act.put, List.setIfInBounds_toArray, List.set_cons_zero, List.set_cons_succ, List.getElem_toArray, List.getElem_cons_zero, List.getElem_cons_succ]
            refine wpAnyH_take (i := 4) (v := .int .u8 (y.toNat : Int)) rfl (by kernel_rfl) (by kernel_rfl) (by kernel_rfl) (fun _ _ _ h => h) (Or.inl ⟨by rfl, fun w hSw => ?_⟩) hHeld ?_
            · have s1 := HI.out.1 w
              first | rfl | go_simp
            simp only [Act.put, List.setIfInBounds_toArray, List.set_cons_zero, List.set_cons_succ, List.getElem_toArray, List.getElem_cons_zero, List.getElem_cons_succ]
            refine wpAnyH_take (i := 5) (v := .string hexS) rfl (by kernel_rfl) (by kernel_rfl) (by kernel_rfl) (fun _ _ _ h => h) (Or.inl ⟨by rfl, fun w hSw => ?_⟩) hHeld ?_
            · first | rfl | go_simp
            simp only [Act.put, List.setIfInBounds_toArray, List.set_cons_zero, List.set_cons_succ, List.getElem_toArray, List.getElem_cons_zero, List.getElem_cons_succ]
            refine wpAnyH_take (i := 6) (v := .int .u8 (x.toNat : Int)) rfl (by kernel_rfl) (by kernel_rfl) (by kernel_rfl) (fun _ _ _ h => h) (Or.inl ⟨by rfl, fun w hSw => ?_⟩) hHeld ?_
            · first | rfl | go_simp
            simp only [Act.put, List.setIfInBounds_toArray, List.set_cons_zero, List.set_cons_succ, List.getElem_toArray, List.getElem_cons_zero, List.getElem_cons_succ]
            refine wpAnyH_take (i := 7) (v := .int .u8 d2) rfl (by kernel_rfl) (by kernel_rfl) (by kernel_rfl) (fun _ _ _ h => h) (Or.inl ⟨by rfl, fun w hSw => ?_⟩) hHeld ?_
            · go_simp
              exact HI.out.2.2.2
            simp only [Act.put, List.setIfInBounds_toArray, List.set_cons_zero, List.set_cons_succ, List.getElem_toArray, List.getElem_cons_zero, List.getElem_cons_succ]
            refine wpAnyH_take (i := 8) (v := .int .u8 (z.toNat : Int)) rfl (by kernel_rfl) (by kernel_rfl) (by kernel_rfl) (fun _ _ _ h => h) (Or.inl ⟨by rfl, fun w hSw => ?_⟩) hHeld ?_
            · have s1 := HI.out.2.1 w
              first | rfl | go_simp
            simp only [Act.put, List.setIfInBounds_toArray, List.set_cons_zero, List.set_cons_succ, List.getElem_toArray, List.getElem_cons_zero, List.getElem_cons_succ]
            refine wpAnyH_ready (rs := [9]) (by kernel_rfl) (by simp) ?_
            refine AllReadyH.cons rfl (fun K' hK' => ?_) AllReadyH.nil
            go_simp
            refine hK'.out _ _ trivial (fun hHeld => ?_)
            clear hK'
            refine wpAnyH_ready (rs := [10]) (by kernel_rfl) (by simp) ?_
            refine AllReadyH.cons rfl (fun K' hK' => ?_) AllReadyH.nil
            refine step_append_lies _ (by rfl) (.tmp 39) (.tmp 48) 59 (by rfl) w.heap.size 5 i0 (.int .u8 0) 1 1 Tryd.underlying59 hi hz0 hz1 hz2 (by rfl) (by omega) (.slice oa acc.length oc) acc.length (Lib.byteCells acc) (by rfl) ((show wr.drew.ownsRow w.heap.size 5 1 (.slice oa acc.length oc) acc.length (Lib.byteCells acc) from HR.out.own).alloc _) ⟨wr.heap.size, 0, none⟩ 3 3 [.int .u8 92, .int .u8 (y.toNat : Int), .int .u8 (z.toNat : Int)] (by rfl) (by rfl) ?_ ?_ (by omega) ?_ ?_ ?_ (wr.heap.size + 1) ?_ ?_
            · exact World.news_of_block (heap_alloc_new wr.drew _)
            · intro u hu; simp at hu; rcases hu with rfl | rfl | rfl <;> rfl
            · unfold maxLen; omega
            · omega
            · simp; omega
            · simp
            intro g cap w3 hown hgrow hat hlt3
            have HR3 : Hid (SqR w w3 _ (acc ++ [92, y, z])) := (show SqR w wr.drew (.slice oa acc.length oc) acc from ⟨HR.out.own, HR.out.bel.drew⟩).next (cs := [92, y, z]) rfl hgrow hown
            refine hK'.out _ _ trivial (fun hHeld => ?_)
            clear hK' hown hgrow hat
            simp only [Act.put, List.setIfInBounds_toArray, List.set_cons_zero, List.set_cons_succ, List.getElem_toArray, List.getElem_cons_zero, List.getElem_cons_succ]
            refine wpAnyH_take (i := 11) (v := .slice (some ⟨g, 0, none⟩) (acc.length + 3) cap) rfl (by kernel_rfl) (by kernel_rfl) (by kernel_rfl) (fun _ _ _ h => h) (Or.inl ⟨by rfl, fun w hSw => ?_⟩) hHeld ?_
            · first | rfl | go_simp
            simp only [Act.put, List.setIfInBounds_toArray, List.set_cons_zero, List.set_cons_succ, List.getElem_toArray, List.getElem_cons_zero, List.getElem_cons_succ]
            refine wpAnyH_done (by kernel_rfl) ?_ _
            go_wp2
            go_roundw
            case rel => exact ⟨q + 1, by omega, by go_num, by rw [HA.out, HE.out]; exact HR3⟩
            case measure => simp [intOf]; omega
          · have g1 : ¬ ((x.toNat : Int) < 32) := by omega
            have g2 : ((126 : Int) < (x.toNat : Int)) := by omega
            clear hb ha n1 n2 h32
            go_wp2_with fail
            refine wp_region_held_drew (S := fun _ => True) (by kernel_rfl) trivial (fun hHeld => ?_)
            refine wpAnyH_take (i := 0) (v := .slice oa acc.length oc) rfl (by kernel_rfl) (by kernel_rfl) (by kernel_rfl) (fun _ _ _ h => h) (Or.inl ⟨by rfl, fun w hSw => ?_⟩) hHeld ?_
            · first | rfl | go_simp
            simp only [Act.put, List.setIfInBounds_toArray, List.set_cons_zero, List.set_cons_succ, List.getElem_toArray, List.getElem_cons_zero]
            refine wpAnyH_take (i := 1) (v := .string hexS) rfl (by kernel_rfl) (by kernel_rfl) (by kernel_rfl) (fun _ _ _ h => h) (Or.inl ⟨by rfl, fun w hSw => ?_⟩) hHeld ?_
            · first | rfl | go_simp
            simp only [Act.put, List.setIfInBounds_toArray, List.set_cons_zero, List.set_cons_succ, List.getElem_toArray, List.getElem_cons_zero, List.getElem_cons_succ]
            refine wpAnyH_take (i := 2) (v := .int .u8 (x.toNat : Int)) rfl (by kernel_rfl) (by kernel_rfl) (by kernel_rfl) (fun _ _ _ h => h) (Or.inl ⟨by rfl, fun w hSw => ?_⟩) hHeld ?_
            · first | rfl | go_simp
            simp only [Act.put, List.setIfInBounds_toArray, List.set_cons_zero, List.set_cons_succ, List.getElem_toArray, List.getElem_cons_zero, List.getElem_cons_succ]
            refine wpAnyH_take (i := 3) (v := .int .u8 d1) rfl (by kernel_rfl) (by kernel_rfl) (by kernel_rfl) (fun _ _ _ h => h) (Or.inl ⟨by rfl, fun w hSw => ?_⟩) hHeld ?_
            · go_simp
              exact HI.out.2.2.1
            simp only [Act.put, List.setIfInBounds_toArray, List.set_cons_zero, List.set_cons_succ, List.getElem_toArray, List.getElem_cons_zero, List.getElem_cons_succ]
            refine wpAnyH_take (i := 4) (v := .int .u8 (y.toNat : Int)) rfl (by kernel_rfl) (by kernel_rfl) (by kernel_rfl) (fun _ _ _ h => h) (Or.inl ⟨by rfl, fun w hSw => ?_⟩) hHeld ?_
            · have s1 := HI.out.1 w
              first | rfl | go_simp
            simp only [Act.put, List.setIfInBounds_toArray, List.set_cons_zero, List.set_cons_succ, List.getElem_toArray, List.getElem_cons_zero, List.getElem_cons_succ]
            refine wpAnyH_take (i := 5) (v := .string hexS) rfl (by kernel_rfl) (by kernel_rfl) (by kernel_rfl) (fun _ _ _ h => h) (Or.inl ⟨by rfl, fun w hSw => ?_⟩) hHeld ?_
            · first | rfl | go_simp
            simp only [Act.put, List.setIfInBounds_toArray, List.set_cons_zero, List.set_cons_succ, List.getElem_toArray, List.getElem_cons_zero, List.getElem_cons_succ]
            refine wpAnyH_take (i := 6) (v := .int .u8 (x.toNat : Int)) rfl (by kernel_rfl) (by kernel_rfl) (by kernel_rfl) (fun _ _ _ h => h) (Or.inl ⟨by rfl, fun w hSw => ?_⟩) hHeld ?_
            · first | rfl | go_simp
            simp only [Act.put, List.setIfInBounds_toArray, List.set_cons_zero, List.set_cons_succ, List.getElem_toArray, List.getElem_cons_zero, List.getElem_cons_succ]
            refine wpAnyH_take (i := 7) (v := .int .u8 d2) rfl (by kernel_rfl) (by kernel_rfl) (by kernel_rfl) (fun _ _ _ h => h) (Or.inl ⟨by rfl, fun w hSw => ?_⟩) hHeld ?_
            · go_simp
              exact HI.out.2.2.2
            simp only [Act.put, List.setIfInBounds_toArray, List.set_cons_zero, List.set_cons_succ, List.getElem_toArray, List.getElem_cons_zero, List.getElem_cons_succ]
            refine wpAnyH_take (i := 8) (v := .int .u8 (z.toNat : Int)) rfl (by kernel_rfl) (by kernel_rfl) (by kernel_rfl) (fun _ _ _ h => h) (Or.inl ⟨by rfl, fun w hSw => ?_⟩) hHeld ?_
            · have s1 := HI.out.2.1 w
              first | rfl | go_simp
            simp only [Act.put, List.setIfInBounds_toArray, List.set_cons_zero, List.set_cons_succ, List.getElem_toArray, List.getElem_cons_zero, List.getElem_cons_succ]
            refine wpAnyH_ready (rs := [9]) (by kernel_rfl) (by simp) ?_
            refine AllReadyH.cons rfl (fun K' hK' => ?_) AllReadyH.nil
            go_simp
            refine hK'.out _ _ trivial (fun hHeld => ?_)
            clear hK'
            refine wpAnyH_ready (rs := [10]) (by kernel_rfl) (by simp) ?_
            refine AllReadyH.cons rfl (fun K' hK' => ?_) AllReadyH.nil
            refine step_append_lies _ (by rfl) (.tmp 39) (.tmp 48) 59 (by rfl) w.heap.size 5 i0 (.int .u8 0) 1 1 Tryd.underlying59 hi hz0 hz1 hz2 (by rfl) (by omega) (.slice oa acc.length oc) acc.length (Lib.byteCells acc) (by rfl) ((show wr.drew.ownsRow w.heap.size 5 1 (.slice oa acc.length oc) acc.length (Lib.byteCells acc) from HR.out.own).alloc _) ⟨wr.heap.size, 0, none⟩ 3 3 [.int .u8 92, .int .u8 (y.toNat : Int), .int .u8 (z.toNat : Int)] (by rfl) (by rfl) ?_ ?_ (by omega) ?_ ?_ ?_ (wr.heap.size + 1) ?_ ?_
            · exact World.news_of_block (heap_alloc_new wr.drew _)
            · intro u hu; simp at hu; rcases hu with rfl | rfl | rfl <;> rfl
            · unfold maxLen; omega
            · omega
            · simp; omega
            · simp
            intro g cap w3 hown hgrow hat hlt3
            have HR3 : Hid (SqR w w3 _ (acc ++ [92, y, z])) := (show SqR w wr.drew (.slice oa acc.length oc) acc from ⟨HR.out.own, HR.out.bel.drew⟩).next (cs := [92, y, z]) rfl hgrow hown
            refine hK'.out _ _ trivial (fun hHeld => ?_)
            clear hK' hown hgrow hat
            simp only [Act.put, List.setIfInBounds_toArray, List.set_cons_zero, List.set_cons_succ, List.getElem_toArray, List.getElem_cons_zero, List.getElem_cons_succ]
            refine wpAnyH_take (i := 11) (v := .slice (some ⟨g, 0, none⟩) (acc.length + 3) cap) rfl (by kernel_rfl) (by kernel_rfl) (by kernel_rfl) (fun _ _ _ h => h) (Or.inl ⟨by rfl, fun w hSw => ?_⟩) hHeld ?_
            · first | rfl | go_simp
            simp only [Act.put, List.setIfInBounds_toArray, List.set_cons_zero, List.set_cons_succ, List.getElem_toArray, List.getElem_cons_zero, List.getElem_cons_succ]
            refine wpAnyH_done (by kernel_rfl) ?_ _
            go_wp2
            go_roundw
            case rel => exact ⟨q + 1, by omega, by go_num, by rw [HA.out, HE.out]; exact HR3⟩
            case measure => simp [intOf]; omega
        · have HE : Hid (quB x = [x]) := quB_c ha hb
          have g1 : ¬ ((x.toNat : Int) < 32) := by omega
          have g2 : ¬ ((126 : Int) < (x.toNat : Int)) := by omega
          clear hb ha n1 n2
          go_wp2_with (at_builtin; refine wpList_append_lies _ (by rfl) _ _ 59 (by rfl) w.heap.size 5 i0 (.int .u8 0) 1 1 Tryd.underlying59 hi hz0 hz1 hz2 (by rfl) (by omega) (.slice oa acc.length oc) acc.length (Lib.byteCells acc) (by rfl) (HR.out.own.alloc _) ⟨wr.heap.size, 0, none⟩ 1 1 [.int .u8 (x.toNat : Int)] (by rfl) (by rfl) (World.news_of_block (heap_alloc_new wr _)) (by intro u hu; simp at hu; rcases hu with rfl; rfl) (by omega) (by unfold maxLen; omega) (by omega) (by simp; omega) (wr.heap.size + 1) (by simp) ?_)
          intro g cap w3 hown hgrow hat hlt3
          have HR3 : Hid (SqR w w3 _ (acc ++ [x])) := HR.out.next (cs := [x]) rfl hgrow hown
          clear hown hgrow hat
          go_wp2
          go_roundw
          case rel => exact ⟨q + 1, by omega, by go_num, by rw [HA.out, HE.out]; exact HR3⟩
          case measure => simp [intOf]; omega
    · obtain rfl : q = s.size := by omega
      have HT : Hid (s.data.toList.take s.size = s.data.toList) := List.take_of_length_le (by rw [str_len]; exact Nat.le_refl _)
      rw [HT.out] at HR ⊢
      obtain ⟨acc, hacc⟩ : ∃ acc, [34] ++ quB' s.data.toList = acc := ⟨_, rfl⟩
      have HA : Hid (acc ++ [34] = quT s) := by show _ = _; rw [← hacc]; simp [quT]
      have hll : acc.length + 1 ≤ 140737488355328 := by
        have h1 := quB'_len s.data.toList
        have h2 := str_len s
        rw [← hacc]
        simp only [List.length_append, List.length_cons, List.length_nil]
        omega
      rw [hacc] at HR ⊢
      have hsz : w.heap.size ≤ wr.heap.size := HR.out.bel.size
      clear hacc
      go_wp2_with (at_builtin; (refine wpList_append_lies _ (by rfl) _ _ 59 (by rfl) w.heap.size 5 i0 (.int .u8 0) 1 1 Tryd.underlying59 hi hz0 hz1 hz2 (by rfl) (by omega) (.slice oa acc.length oc) acc.length (Lib.byteCells acc) (by rfl) (HR.out.own.alloc _) ⟨wr.heap.size, 0, none⟩ 1 1 [.int .u8 34] (by rfl) (by rfl) (World.news_of_block (heap_alloc_new wr _)) (by intro u hu; simp at hu; subst hu; rfl) (by omega) (by unfold maxLen; omega) (by omega) (by simp; omega) (wr.heap.size + 1) (by simp) ?_))
      intro g cap w3 hown hgrow hat hlt3
      have hR3 := HR.out.next (cs := [34]) (m := 1) rfl hgrow hown
      rw [HA.out] at hR3
      have HR3 : Hid _ := hR3
      have hcv := own_string hR3.own (by simp [quT])
      clear hR3 hown hgrow hat hi hz0 hz1 hz2
      go_wp2
      go_ret
      exact ⟨rfl, HR3.out.bel⟩

end Go.Proofs.YtgflalfiopnmnabDoor
