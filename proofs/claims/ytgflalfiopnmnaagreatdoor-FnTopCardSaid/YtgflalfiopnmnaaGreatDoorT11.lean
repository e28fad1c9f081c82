import Derived.Test.YtgflalfiopnmnaaGreatDoorT0
import Derived.Test.YtgflalfiopnmnaaGreatDoorT10
import Derived.Laws.IdiomStrings
import Derived.WalkMore
import Derived.Shelf.Strconv.ParseIntPublic10
import Derived.Shelf.Strconv.AtoiAll
import Derived.Test.YtgflalfiopnmnaaGreatDoorVlAs
namespace Go.Proofs.YtgflalfiopnmnaaGreatDoor
open Go.RowKit Vl

theorem own_string {w : World} {base : Nat} {v : Value} {D : List UInt8} (h : w.ownsRow base 5 1 v D.length (Lib.byteCells D)) (h0 : D ≠ []) : (convert 22 9 v).run Tryz.prog w = .ok (.string ⟨D.toArray⟩) w := by
  have hl0 : D.length ≠ 0 := by simpa using h0
  rcases h.2 with ⟨_, hz⟩ | ⟨g, cap, cur, rfl, _⟩
  · exact absurd hz hl0
  · refine run_convert_bytes_back w _ _ 5 ⟨g, 0, none⟩ cap D Tryz.underlying22 Tryz.underlying5 Tryz.underlying9 (fun j hj => ?_)
    exact h.cells (g := g) rfl j _ (by simp [Lib.byteCells, List.getElem?_eq_getElem hj])
theorem index_str (s : ByteArray) (q : Nat) (x : UInt8) (hx : s.data.toList[q]? = some x) (w : World) : (Instr.index 9 (.string s) (.int .i64 (q : Int))).run Tryz.prog w = .ok (.int .u8 (x.toNat : Int)) w := by
  have h1 : s[q]? = some x := by
    have hq : q < s.size := by
      have := (List.getElem?_eq_some_iff.1 hx).1
      rw [str_len] at this
      exact this
    rw [getElem?_pos s q hq]
    have h2 : s.data[q]? = some x := by rw [← Array.getElem?_toList]; exact hx
    rw [Array.getElem?_eq_getElem (show q < s.data.size from hq)] at h2
    exact h2
  simp [Instr.index, asIntOf, run_underlying Tryz.underlying9, h1]

structure SqR (w wr : World) (ov : Value) (acc : List UInt8) : Prop where
  own : wr.ownsRow w.heap.size 5 1 ov acc.length (Lib.byteCells acc)
  bel : Below w.heap.size w wr
theorem SqR.next {w wr w3 : World} {ov : Value} {acc cs : List UInt8} {o : Obj} {g cap m : Nat} (h : SqR w wr ov acc) (hm : cs.length = m) (hgrow : (wr.alloc o).grownBy w3 ov.ownBlock) (hown : w3.ownsRow w.heap.size 5 1 (.slice (some ⟨g, 0, none⟩) (acc.length + m) cap) (acc.length + m) (Lib.byteCells acc ++ Lib.byteCells cs)) : SqR w w3 (.slice (some ⟨g, 0, none⟩) (acc.length + m) cap) (acc ++ cs) := by
  refine ⟨?_, ?_⟩
  · rw [List.length_append, hm, byteCells_app]; exact hown
  · have hb : Below w.heap.size w (wr.alloc o) := h.bel.alloc h.bel.size _
    exact hb.trans (below_grown (h.own.alloc o) hgrow hb.size)

set_option maxHeartbeats 2000000 in
set_option maxRecDepth 100000 in
theorem l4quote_any (s : ByteArray) (w : World) (hs : s.size ≤ 1000000) : Calls Tryz.prog 131 #[.string s] w fun e w' => e = .returned (.string ⟨(quT s).toArray⟩) ∧ Below w.heap.size w w' := by
  obtain ⟨i0, hi, hz0, hz1, hz2⟩ := info_parts Tryz.infoU8
  have HR0 : Hid (SqR w (w.alloc (.cells #[.int .u8 34] 5)) (.slice (some ⟨w.heap.size, 0, none⟩) 1 1) [34]) := ⟨⟨rfl, Or.inr ⟨w.heap.size, 1, #[.int .u8 34], rfl, Nat.le_refl _, heap_alloc_new w _, by decide, by unfold maxLen; omega, rfl, rfl⟩⟩, below_alloc _ _⟩
  go_enter Tryz.func131, Tryz.ntmps131
  go_wp2
  go_loopw [4, 5] (fun ov ii wr => ∃ q : Nat, q ≤ s.size ∧ ii = .int .i64 q ∧ Hid (SqR w wr ov ([34] ++ quB' (s.data.toList.take q)))) (fun _ ii _ => s.size - (intOf ii).toNat)
  case atStart => exact ⟨0, Nat.zero_le _, rfl, by simpa [quB'] using HR0⟩
  case round =>
    rename_i ov _
    obtain ⟨q, hq, rfl, HR⟩ := hrel
    obtain ⟨oa, oc, rfl, _⟩ := owns_form HR.out.own
    by_cases hlt : q < s.size
    · obtain ⟨x, hx⟩ : ∃ x, s.data.toList[q]? = some x := ⟨s.data.toList[q]'(by rw [str_len]; exact hlt), List.getElem?_eq_getElem _⟩
      have hidx := index_str s q x hx
      have HT : Hid (quB' (s.data.toList.take (q + 1)) = quB' (s.data.toList.take q) ++ quB x) := by
        show _ = _
        rw [List.take_add_one, hx, ← quB'_snoc]
        rfl
      have HL : Hid (([34] ++ quB' (s.data.toList.take q)).length + 3 ≤ 140737488355328) := by
        have h1 := quB'_len (s.data.toList.take q)
        have h2 : (s.data.toList.take q).length ≤ s.size := by rw [List.length_take, str_len]; omega
        show _ ≤ _
        simp only [List.length_append, List.length_cons, List.length_nil]
        omega
      obtain ⟨acc, hacc⟩ : ∃ acc, [34] ++ quB' (s.data.toList.take q) = acc := ⟨_, rfl⟩
      have HA : Hid ([34] ++ quB' (s.data.toList.take (q + 1)) = acc ++ quB x) := by show _ = _; rw [HT.out, ← hacc]; simp only [List.append_assoc]
      rw [hacc] at HR HL ⊢
      clear hacc HT hx
      have hxb : x.toNat < 256 := x.toNat_lt
      have hll := HL.out
      have hsz : w.heap.size ≤ wr.heap.size := HR.out.bel.size
      by_cases ha : x = 34 ∨ x = 92
      · have HE : Hid (quB x = [92, x]) := quB_a ha
        rcases ha with rfl | rfl
        · go_wp2_with (at_builtin; refine wpList_append_lies _ (by rfl) _ _ 22 (by rfl) w.heap.size 5 i0 (.int .u8 0) 1 1 Tryz.underlying22 hi hz0 hz1 hz2 (by rfl) (by omega) (.slice oa acc.length oc) acc.length (Lib.byteCells acc) (by rfl) (HR.out.own.alloc _) ⟨wr.heap.size, 0, none⟩ 2 2 [.int .u8 92, .int .u8 34] (by rfl) (by rfl) (World.news_of_block (heap_alloc_new wr _)) (by intro u hu; simp at hu; rcases hu with rfl | rfl <;> rfl) (by omega) (by unfold maxLen; omega) (by omega) (by simp; omega) (wr.heap.size + 1) (by simp) ?_)
          intro g cap w3 hown hgrow hat hlt3
          have HR3 : Hid (SqR w w3 _ (acc ++ [92, 34])) := HR.out.next (cs := [92, 34]) rfl hgrow hown
          clear hown hgrow hat
          go_wp2
          go_roundw
          case rel => exact ⟨q + 1, by omega, by go_num, by rw [HA.out, HE.out]; exact HR3⟩
          case measure => simp [intOf]; omega
        · go_wp2_with (at_builtin; refine wpList_append_lies _ (by rfl) _ _ 22 (by rfl) w.heap.size 5 i0 (.int .u8 0) 1 1 Tryz.underlying22 hi hz0 hz1 hz2 (by rfl) (by omega) (.slice oa acc.length oc) acc.length (Lib.byteCells acc) (by rfl) (HR.out.own.alloc _) ⟨wr.heap.size, 0, none⟩ 2 2 [.int .u8 92, .int .u8 92] (by rfl) (by rfl) (World.news_of_block (heap_alloc_new wr _)) (by intro u hu; simp at hu; rcases hu with rfl | rfl <;> rfl) (by omega) (by unfold maxLen; omega) (by omega) (by simp; omega) (wr.heap.size + 1) (by simp) ?_)
          intro g cap w3 hown hgrow hat hlt3
          have HR3 : Hid (SqR w w3 _ (acc ++ [92, 92])) := HR.out.next (cs := [92, 92]) rfl hgrow hown
          clear hown hgrow hat
          go_wp2
          go_roundw
          case rel => exact ⟨q + 1, by omega, by go_num, by rw [HA.out, HE.out]; exact HR3⟩
          case measure => simp [intOf]; omega
      · have n1 : ¬ ((x.toNat : Int) = 34) := fun e => ha (Or.inl (by apply UInt8.toNat.inj; show x.toNat = 34; omega))
        have n2 : ¬ ((x.toNat : Int) = 92) := fun e => ha (Or.inr (by apply UInt8.toNat.inj; show x.toNat = 92; omega))
        have e1 : ((x.toNat : Int) == 34) = false := by simpa using n1
        have e2 : ((x.toNat : Int) == 92) = false := by simpa using n2
        by_cases hb : x.toNat < 32 ∨ 126 < x.toNat
        · have HE : Hid (quB x = [92, hexB (x.toNat / 16), hexB (x.toNat % 16)]) := quB_b ha hb
          have hi1 := hex_run (d := x.toNat / 16) (by omega)
          have hi2 := hex_run (d := x.toNat % 16) (by omega)
          obtain ⟨y, hy⟩ : ∃ y, hexB (x.toNat / 16) = y := ⟨_, rfl⟩
          obtain ⟨z, hz⟩ : ∃ z, hexB (x.toNat % 16) = z := ⟨_, rfl⟩
          rw [hy] at hi1 HE
          rw [hz] at hi2 HE
          obtain ⟨d1, hd1e⟩ : ∃ d : Int, ((x.toNat / 16 : Nat) : Int) = d := ⟨_, rfl⟩
          obtain ⟨d2, hd2e⟩ : ∃ d : Int, ((x.toNat % 16 : Nat) : Int) = d := ⟨_, rfl⟩
          have hd1 : IntKind.u8.wrap ((x.toNat : Int) / 16) = d1 := by rw [wrapU8 (by omega) (by omega), ← hd1e]; omega
          have hd2 : (x.toNat : Int).tmod 16 = d2 := (Int.ofNat_tmod x.toNat 16).symm.trans hd2e
          rw [hd1e] at hi1
          rw [hd2e] at hi2
          have HI : Hid ((∀ w, (Instr.index 9 (.string hexS) (.int .u8 d1)).run Tryz.prog w = .ok (.int .u8 (y.toNat : Int)) w) ∧ (∀ w, (Instr.index 9 (.string hexS) (.int .u8 d2)).run Tryz.prog w = .ok (.int .u8 (z.toNat : Int)) w) ∧ IntKind.u8.wrap ((x.toNat : Int) / 16) = d1 ∧ (x.toNat : Int).tmod 16 = d2) := ⟨hi1, hi2, hd1, hd2⟩
          clear hi1 hi2 hd1 hd2 hd1e hd2e hy hz
          by_cases h32 : x.toNat < 32
          · have g1 : ((x.toNat : Int) < 32) := by omega
            clear hb ha n1 n2 h32
            go_wp2_with fail
            refine wp_region_held_drew (S := fun _ => True) (by kernel_rfl) trivial (fun hHeld => ?_)
            refine wpT (i := 0) (v := .slice oa acc.length oc) rfl (fun w hSw => ?_) hHeld ?_
            · first | rfl | go_simp
            simp only [Act.put, pz]
            refine wpT (i := 1) (v := .string hexS) rfl (fun w hSw => ?_) hHeld ?_
            · first | rfl | go_simp
            simp only [Act.put, pz]
            refine wpT (i := 2) (v := .int .u8 (x.toNat : Int)) rfl (fun w hSw => ?_) hHeld ?_
            · first | rfl | go_simp
            simp only [Act.put, pz]
            refine wpT (i := 3) (v := .int .u8 d1) rfl (fun w hSw => ?_) hHeld ?_
            · go_simp
              exact HI.out.2.2.1
            simp only [Act.put, pz]
            refine wpT (i := 4) (v := .int .u8 (y.toNat : Int)) rfl (fun w hSw => ?_) hHeld ?_
            · have s1 := HI.out.1 w
              first | rfl | go_simp
            simp only [Act.put, pz]
            refine wpT (i := 5) (v := .string hexS) rfl (fun w hSw => ?_) hHeld ?_
            · first | rfl | go_simp
            simp only [Act.put, pz]
            refine wpT (i := 6) (v := .int .u8 (x.toNat : Int)) rfl (fun w hSw => ?_) hHeld ?_
            · first | rfl | go_simp
            simp only [Act.put, pz]
            refine wpT (i := 7) (v := .int .u8 d2) rfl (fun w hSw => ?_) hHeld ?_
            · go_simp
              exact HI.out.2.2.2
            simp only [Act.put, pz]
            refine wpT (i := 8) (v := .int .u8 (z.toNat : Int)) rfl (fun w hSw => ?_) hHeld ?_
            · have s1 := HI.out.2.1 w
              first | rfl | go_simp
            simp only [Act.put, pz]
            refine wpAnyH_ready (rs := [9]) (by kernel_rfl) (by simp) ?_
            refine AllReadyH.cons rfl (fun K' hK' => ?_) AllReadyH.nil
            go_simp
            refine hK'.out _ _ trivial (fun hHeld => ?_)
            clear hK'
            refine wpAnyH_ready (rs := [10]) (by kernel_rfl) (by simp) ?_
            refine AllReadyH.cons rfl (fun K' hK' => ?_) AllReadyH.nil
            refine step_append_lies _ (by rfl) (.tmp 39) (.tmp 48) 22 (by rfl) w.heap.size 5 i0 (.int .u8 0) 1 1 Tryz.underlying22 hi hz0 hz1 hz2 (by rfl) (by omega) (.slice oa acc.length oc) acc.length (Lib.byteCells acc) (by rfl) ((show wr.drew.ownsRow w.heap.size 5 1 (.slice oa acc.length oc) acc.length (Lib.byteCells acc) from HR.out.own).alloc _) ⟨wr.heap.size, 0, none⟩ 3 3 [.int .u8 92, .int .u8 (y.toNat : Int), .int .u8 (z.toNat : Int)] (by rfl) (by rfl) ?_ ?_ (by omega) ?_ ?_ ?_ (wr.heap.size + 1) ?_ ?_
            · exact World.news_of_block (heap_alloc_new wr.drew _)
            · intro u hu; simp at hu; rcases hu with rfl | rfl | rfl <;> rfl
            · unfold maxLen; omega
            · omega
            · simp; omega
            · simp
            intro g cap w3 hown hgrow hat hlt3
            have HR3 : Hid (SqR w w3 _ (acc ++ [92, y, z])) := (show SqR w wr.drew (.slice oa acc.length oc) acc from ⟨HR.out.own, HR.out.bel.drew⟩).next (cs := [92, y, z]) rfl hgrow hown
            refine hK'.out _ _ trivial (fun hHeld => ?_)
            clear hK' hown hgrow hat
            simp only [Act.put, pz]
            refine wpT (i := 11) (v := .slice (some ⟨g, 0, none⟩) (acc.length + 3) cap) rfl (fun w hSw => ?_) hHeld ?_
            · first | rfl | go_simp
            simp only [Act.put, pz]
            refine wpAnyH_done (by kernel_rfl) ?_ _
            go_wp2
            go_roundw
            case rel => exact ⟨q + 1, by omega, by go_num, by rw [HA.out, HE.out]; exact HR3⟩
            case measure => simp [intOf]; omega
          · have g1 : ¬ ((x.toNat : Int) < 32) := by omega
            have g2 : ((126 : Int) < (x.toNat : Int)) := by omega
            clear hb ha n1 n2 h32
            go_wp2_with fail
            refine wp_region_held_drew (S := fun _ => True) (by kernel_rfl) trivial (fun hHeld => ?_)
            refine wpT (i := 0) (v := .slice oa acc.length oc) rfl (fun w hSw => ?_) hHeld ?_
            · first | rfl | go_simp
            simp only [Act.put, pz]
            refine wpT (i := 1) (v := .string hexS) rfl (fun w hSw => ?_) hHeld ?_
            · first | rfl | go_simp
            simp only [Act.put, pz]
            refine wpT (i := 2) (v := .int .u8 (x.toNat : Int)) rfl (fun w hSw => ?_) hHeld ?_
            · first | rfl | go_simp
            simp only [Act.put, pz]
            refine wpT (i := 3) (v := .int .u8 d1) rfl (fun w hSw => ?_) hHeld ?_
            · go_simp
              exact HI.out.2.2.1
            simp only [Act.put, pz]
            refine wpT (i := 4) (v := .int .u8 (y.toNat : Int)) rfl (fun w hSw => ?_) hHeld ?_
            · have s1 := HI.out.1 w
              first | rfl | go_simp
            simp only [Act.put, pz]
            refine wpT (i := 5) (v := .string hexS) rfl (fun w hSw => ?_) hHeld ?_
            · first | rfl | go_simp
            simp only [Act.put, pz]
            refine wpT (i := 6) (v := .int .u8 (x.toNat : Int)) rfl (fun w hSw => ?_) hHeld ?_
            · first | rfl | go_simp
            simp only [Act.put, pz]
            refine wpT (i := 7) (v := .int .u8 d2) rfl (fun w hSw => ?_) hHeld ?_
            · go_simp
              exact HI.out.2.2.2
            simp only [Act.put, pz]
            refine wpT (i := 8) (v := .int .u8 (z.toNat : Int)) rfl (fun w hSw => ?_) hHeld ?_
            · have s1 := HI.out.2.1 w
              first | rfl | go_simp
            simp only [Act.put, pz]
            refine wpAnyH_ready (rs := [9]) (by kernel_rfl) (by simp) ?_
            refine AllReadyH.cons rfl (fun K' hK' => ?_) AllReadyH.nil
            go_simp
            refine hK'.out _ _ trivial (fun hHeld => ?_)
            clear hK'
            refine wpAnyH_ready (rs := [10]) (by kernel_rfl) (by simp) ?_
            refine AllReadyH.cons rfl (fun K' hK' => ?_) AllReadyH.nil
            refine step_append_lies _ (by rfl) (.tmp 39) (.tmp 48) 22 (by rfl) w.heap.size 5 i0 (.int .u8 0) 1 1 Tryz.underlying22 hi hz0 hz1 hz2 (by rfl) (by omega) (.slice oa acc.length oc) acc.length (Lib.byteCells acc) (by rfl) ((show wr.drew.ownsRow w.heap.size 5 1 (.slice oa acc.length oc) acc.length (Lib.byteCells acc) from HR.out.own).alloc _) ⟨wr.heap.size, 0, none⟩ 3 3 [.int .u8 92, .int .u8 (y.toNat : Int), .int .u8 (z.toNat : Int)] (by rfl) (by rfl) ?_ ?_ (by omega) ?_ ?_ ?_ (wr.heap.size + 1) ?_ ?_
            · exact World.news_of_block (heap_alloc_new wr.drew _)
            · intro u hu; simp at hu; rcases hu with rfl | rfl | rfl <;> rfl
            · unfold maxLen; omega
            · omega
            · simp; omega
            · simp
            intro g cap w3 hown hgrow hat hlt3
            have HR3 : Hid (SqR w w3 _ (acc ++ [92, y, z])) := (show SqR w wr.drew (.slice oa acc.length oc) acc from ⟨HR.out.own, HR.out.bel.drew⟩).next (cs := [92, y, z]) rfl hgrow hown
            refine hK'.out _ _ trivial (fun hHeld => ?_)
            clear hK' hown hgrow hat
            simp only [Act.put, pz]
            refine wpT (i := 11) (v := .slice (some ⟨g, 0, none⟩) (acc.length + 3) cap) rfl (fun w hSw => ?_) hHeld ?_
            · first | rfl | go_simp
            simp only [Act.put, pz]
            refine wpAnyH_done (by kernel_rfl) ?_ _
            go_wp2
            go_roundw
            case rel => exact ⟨q + 1, by omega, by go_num, by rw [HA.out, HE.out]; exact HR3⟩
            case measure => simp [intOf]; omega
        · have HE : Hid (quB x = [x]) := quB_c ha hb
          have g1 : ¬ ((x.toNat : Int) < 32) := by omega
          have g2 : ¬ ((126 : Int) < (x.toNat : Int)) := by omega
          clear hb ha n1 n2
          go_wp2_with (at_builtin; refine wpList_append_lies _ (by rfl) _ _ 22 (by rfl) w.heap.size 5 i0 (.int .u8 0) 1 1 Tryz.underlying22 hi hz0 hz1 hz2 (by rfl) (by omega) (.slice oa acc.length oc) acc.length (Lib.byteCells acc) (by rfl) (HR.out.own.alloc _) ⟨wr.heap.size, 0, none⟩ 1 1 [.int .u8 (x.toNat : Int)] (by rfl) (by rfl) (World.news_of_block (heap_alloc_new wr _)) (by intro u hu; simp at hu; rcases hu with rfl; rfl) (by omega) (by unfold maxLen; omega) (by omega) (by simp; omega) (wr.heap.size + 1) (by simp) ?_)
          intro g cap w3 hown hgrow hat hlt3
          have HR3 : Hid (SqR w w3 _ (acc ++ [x])) := HR.out.next (cs := [x]) rfl hgrow hown
          clear hown hgrow hat
          go_wp2
          go_roundw
          case rel => exact ⟨q + 1, by omega, by go_num, by rw [HA.out, HE.out]; exact HR3⟩
          case measure => simp [intOf]; omega
    · obtain rfl : q = s.size := by omega
      have HT : Hid (s.data.toList.take s.size = s.data.toList) := List.take_of_length_le (by rw [str_len]; exact Nat.le_refl _)
      rw [HT.out] at HR ⊢
      obtain ⟨acc, hacc⟩ : ∃ acc, [34] ++ quB' s.data.toList = acc := ⟨_, rfl⟩
      have HA : Hid (acc ++ [34] = quT s) := by show _ = _; rw [← hacc]; simp [quT]
      have hll : acc.length + 1 ≤ 140737488355328 := by
        have h1 := quB'_len s.data.toList
        have h2 := str_len s
        rw [← hacc]
        simp only [List.length_append, List.length_cons, List.length_nil]
        omega
      rw [hacc] at HR ⊢
      have hsz : w.heap.size ≤ wr.heap.size := HR.out.bel.size
      clear hacc
      go_wp2_with (at_builtin; (refine wpList_append_lies _ (by rfl) _ _ 22 (by rfl) w.heap.size 5 i0 (.int .u8 0) 1 1 Tryz.underlying22 hi hz0 hz1 hz2 (by rfl) (by omega) (.slice oa acc.length oc) acc.length (Lib.byteCells acc) (by rfl) (HR.out.own.alloc _) ⟨wr.heap.size, 0, none⟩ 1 1 [.int .u8 34] (by rfl) (by rfl) (World.news_of_block (heap_alloc_new wr _)) (by intro u hu; simp at hu; subst hu; rfl) (by omega) (by unfold maxLen; omega) (by omega) (by simp; omega) (wr.heap.size + 1) (by simp) ?_))
      intro g cap w3 hown hgrow hat hlt3
      have hR3 := HR.out.next (cs := [34]) (m := 1) rfl hgrow hown
      rw [HA.out] at hR3
      have HR3 : Hid _ := hR3
      have hcv := own_string hR3.own (by simp [quT])
      clear hR3 hown hgrow hat hi hz0 hz1 hz2
      go_wp2
      go_ret
      exact ⟨rfl, HR3.out.bel⟩

end Go.Proofs.YtgflalfiopnmnaaGreatDoor

namespace Go.Proofs.YtgflalfiopnmnaaGreatDoor
open Go.RowKit Vl

theorem hexB_ne {d : Nat} (hd : d < 16) : (hexB d).toNat ≠ 34 ∧ (hexB d).toNat ≠ 92 := by
  refine lt16 (P := fun d => (hexB d).toNat ≠ 34 ∧ (hexB d).toNat ≠ 92) (fun d hd => ?_) hd
  simp only [List.mem_cons, List.not_mem_nil, or_false] at hd
  rcases hd with rfl | rfl | rfl | rfl | rfl | rfl | rfl | rfl | rfl | rfl | rfl | rfl | rfl | rfl | rfl | rfl <;> decide

set_option maxHeartbeats 1000000 in
set_option maxRecDepth 100000 in
theorem escA_any (R p LM tb : Nat) (s : ByteArray) (x : UInt8) (w : World) (hmax : s.size ≤ 20000) (ha : x = 34 ∨ x = 92) (HN : Hid (Nx s p [92, x])) (H : Hid (RdB w R s p LM tb)) :
    Calls Tryz.prog 158 #[pR R] w fun e w' => e = .returned (.tuple #[.int .u8 (x.toNat : Int), .nilIface]) ∧ Stp w w' R s (p + 2) LM tb := by
  obtain ⟨a1, a2, a3⟩ := HN.out.hd
  obtain ⟨b1, b2, _⟩ := a3.hd
  obtain ⟨c0, c1, c2, c3, _, cz⟩ := four_at H.out
  have z1 := cz 1
  have HS1 : Hid (Stp w (w.setCell ⟨R, 1, none⟩ (.int .i64 ((p + 1 : Nat) : Int))) R s (p + 1) LM tb) := (H.out.stp (Below.refl _ _)).set (p + 1)
  have hpk := peek_any R (p + 1) LM tb s _ (by omega) HS1.out.rd
  rw [b1] at hpk
  clear a1 a3 HN cz
  go_enter Tryz.func158, Tryz.ntmps158
  go_wp2_with (go_at_call 101; refine hpk.mono ?_)
  try simp only [and_imp]
  rintro e w1 rfl h1
  have HS2 : Hid (Stp w w1 R s (p + 1) LM tb) := HS1.out.below h1
  clear hpk h1 c0 c1 c2 c3 z1 HS1
  rcases ha with rfl | rfl
  · go_wp2_with (go_at_call 100; refine (take_yes R (p + 1) LM tb s 34 w1 b2 hmax b1 HS2.out.rd).mono ?_)
    rintro e w2 ⟨rfl, h2⟩
    have HS3 : Hid (Stp w w2 R s (p + 2) LM tb) := HS2.out.trans h2
    clear h2
    go_wp2
    go_ret2
    exact ⟨rfl, HS3.out⟩
  · go_wp2_with (go_at_call 100; refine (take_no R (p + 1) LM tb s 34 w1 (by omega) (by rw [b1]; decide) HS2.out.rd).mono ?_)
    rintro e w2 ⟨rfl, h2⟩
    have HS3 : Hid (Stp w w2 R s (p + 1) LM tb) := HS2.out.below h2
    clear h2
    go_wp2_with (go_at_call 100; refine (take_yes R (p + 1) LM tb s 92 w2 b2 hmax b1 HS3.out.rd).mono ?_)
    rintro e w3 ⟨rfl, h3⟩
    have HS4 : Hid (Stp w w3 R s (p + 2) LM tb) := HS3.out.trans h3
    clear h3
    go_wp2
    go_ret2
    exact ⟨rfl, HS4.out⟩

set_option maxRecDepth 100000 in
theorem or_fin : ∀ (a b : Fin 16), bits BinOp.or IntKind.u8 (((a.val : Nat) : Int) * 16) ((b.val : Nat) : Int) = ((a.val * 16 + b.val : Nat) : Int) := by decide
theorem or_hex {a b x : Nat} (ha : x / 16 = a) (hb : x % 16 = b) (hx : x < 256) : bits BinOp.or IntKind.u8 ((a : Int) * 16) (b : Int) = (x : Int) := by
  rw [or_fin ⟨a, by omega⟩ ⟨b, by omega⟩]
  simp only
  omega

set_option maxHeartbeats 1000000 in
set_option maxRecDepth 100000 in
theorem escB_any (R p LM tb : Nat) (s : ByteArray) (x : UInt8) (w : World) (hmax : s.size ≤ 20000) (HN : Hid (Nx s p [92, hexB (x.toNat / 16), hexB (x.toNat % 16)])) (H : Hid (RdB w R s p LM tb)) :
    Calls Tryz.prog 158 #[pR R] w fun e w' => e = .returned (.tuple #[.int .u8 (x.toNat : Int), .nilIface]) ∧ Stp w w' R s (p + 3) LM tb := by
  have hxb : x.toNat < 256 := x.toNat_lt
  obtain ⟨a1, a2, a3⟩ := HN.out.hd
  obtain ⟨b1, b2, a4⟩ := a3.hd
  obtain ⟨d1, d2, _⟩ := a4.hd
  obtain ⟨c0, c1, c2, c3, _, cz⟩ := four_at H.out
  have z1 := cz 1
  have HS1 : Hid (Stp w (w.setCell ⟨R, 1, none⟩ (.int .i64 ((p + 1 : Nat) : Int))) R s (p + 1) LM tb) := (H.out.stp (Below.refl _ _)).set (p + 1)
  have hpk := peek_any R (p + 1) LM tb s _ (by omega) HS1.out.rd
  have hne := hexB_ne (d := x.toNat / 16) (by omega)
  rw [← b1] at hne
  clear a1 a3 a4 HN cz
  go_enter Tryz.func158, Tryz.ntmps158
  go_wp2_with (go_at_call 101; refine hpk.mono ?_)
  try simp only [and_imp]
  rintro e w1 rfl h1
  have HS2 : Hid (Stp w w1 R s (p + 1) LM tb) := HS1.out.below h1
  clear hpk h1 c0 c1 c2 c3 z1 HS1
  go_wp2_with (go_at_call 100; refine (take_no R (p + 1) LM tb s 34 w1 (by omega) hne.1 HS2.out.rd).mono ?_)
  rintro e w2 ⟨rfl, h2⟩
  have HS3 : Hid (Stp w w2 R s (p + 1) LM tb) := HS2.out.below h2
  clear h2
  go_wp2_with (go_at_call 100; refine (take_no R (p + 1) LM tb s 92 w2 (by omega) hne.2 HS3.out.rd).mono ?_)
  rintro e w3 ⟨rfl, h3⟩
  have HS4 : Hid (Stp w w3 R s (p + 1) LM tb) := HS3.out.below h3
  have h1 := hexDigit_any R (p + 1) LM tb s (x.toNat / 16) w3 hmax b2 (by omega) b1 HS4.out.rd
  clear h3 hne
  obtain ⟨dh, hdh⟩ : ∃ dh, x.toNat / 16 = dh := ⟨_, rfl⟩
  obtain ⟨dl, hdl⟩ : ∃ dl, x.toNat % 16 = dl := ⟨_, rfl⟩
  rw [hdh] at h1
  rw [hdl] at d1
  go_wp2_with (go_at_call 172; refine h1.mono ?_)
  try simp only [and_imp]
  rintro e w4 rfl hS5
  have HS5 : Hid (Stp w w4 R s (p + 2) LM tb) := HS4.out.trans hS5
  clear hS5 h1
  go_wp2_with (go_at_call 172; refine (hexDigit_any R (p + 2) LM tb s dl w4 hmax d2 (by omega) d1 HS5.out.rd).mono ?_)
  rintro e w5 ⟨rfl, hS6⟩
  have HS6 : Hid (Stp w w5 R s (p + 3) LM tb) := HS5.out.trans hS6
  clear hS6
  go_wp2
  rw [or_hex hdh hdl hxb]
  go_ret2
  exact ⟨rfl, HS6.out⟩

end Go.Proofs.YtgflalfiopnmnaaGreatDoor

namespace Go.Proofs.YtgflalfiopnmnaaGreatDoor
open Go.RowKit Vl

theorem quB'_app : ∀ (l m : List UInt8), quB' (l ++ m) = quB' l ++ quB' m
  | [], m => by simp [quB']
  | b :: l, m => by simp [quB', quB'_app l m]
def slLen : Value → Nat
  | .slice _ n _ => n
  | _ => 0
structure QdI (w wr : World) (R : Nat) (s : ByteArray) (q LM tb : Nat) (ov : Value) (acc : List UInt8) : Prop where
  st : Stp w wr R s q LM tb
  own : wr.ownsRow w.heap.size 5 1 ov acc.length (Lib.byteCells acc)
theorem QdI.len {w wr : World} {R : Nat} {s : ByteArray} {q LM tb : Nat} {ov : Value} {acc : List UInt8} (h : QdI w wr R s q LM tb ov acc) : slLen ov = acc.length := by
  obtain ⟨_, _, rfl, _⟩ := owns_form h.own
  rfl
theorem QdI.step {w wr w' : World} {R : Nat} {s : ByteArray} {q q' LM tb : Nat} {ov : Value} {acc : List UInt8} (h : QdI w wr R s q LM tb ov acc) (hR : R < w.heap.size) (hs : Stp wr w' R s q' LM tb) : QdI w w' R s q' LM tb ov acc :=
  ⟨h.st.trans hs, hs.on.owns h.own (fun g hg _ e => by omega)⟩
theorem QdI.next {w wr w3 : World} {R : Nat} {s : ByteArray} {q LM tb : Nat} {ov : Value} {acc : List UInt8} {o : Obj} {g cap : Nat} {y : UInt8} (h : QdI w wr R s q LM tb ov acc) (hR : R < w.heap.size) (hgrow : (wr.alloc o).grownBy w3 ov.ownBlock)
    (hown : w3.ownsRow w.heap.size 5 1 (.slice (some ⟨g, 0, none⟩) (acc.length + 1) cap) (acc.length + 1) (Lib.byteCells acc ++ [.int .u8 (y.toNat : Int)])) : QdI w w3 R s q LM tb (.slice (some ⟨g, 0, none⟩) (acc.length + 1) cap) (acc ++ [y]) := by
  have hsz := h.st.on.size
  have hb : Below w.heap.size (wr.alloc o) w3 := below_grown (h.own.alloc o) hgrow (by simp; omega)
  have hS : Stp w (wr.alloc o) R s q LM tb := h.st.below (below_alloc _ _)
  refine ⟨⟨(hb.block R hR).trans hS.rd, hS.on.thenBelow hb (Nat.le_refl _)⟩, ?_⟩
  rw [byteCells_one, List.length_append]
  exact hown
theorem QdI.set {w wr : World} {R : Nat} {s : ByteArray} {q LM tb : Nat} {ov : Value} {acc : List UInt8} (h : QdI w wr R s q LM tb ov acc) (hR : R < w.heap.size) (q' : Nat) : QdI w (wr.setCell ⟨R, 1, none⟩ (.int .i64 (q' : Int))) R s q' LM tb ov acc :=
  h.step hR ((h.st.rd.stp (Below.refl _ _)).set q')

theorem own_str {w : World} {base : Nat} {v : Value} {x : ByteArray} (h : w.ownsRow base 5 1 v x.data.toList.length (Lib.byteCells x.data.toList)) : (convert 22 9 v).run Tryz.prog w = .ok (.string x) w := by
  by_cases h0 : x.data.toList = []
  · rw [h0] at h
    have hx : x = ⟨#[]⟩ := by apply ByteArray.ext; apply Array.toList_inj.1; rw [h0]
    rcases h.2 with ⟨rfl, _⟩ | ⟨g, cap, cur, rfl, _⟩
    · rw [hx]; exact run_convert_bytes_nil w _ _ Tryz.underlying22 Tryz.underlying5 0 0 _ Tryz.underlying9
    · rw [hx]
      exact run_convert_bytes_back w _ _ 5 ⟨g, 0, none⟩ cap [] Tryz.underlying22 Tryz.underlying5 Tryz.underlying9 (fun j hj => by simp at hj)
  · exact own_string h h0

theorem qu_at {s x : ByteArray} {p : Nat} (h : Nx s p (quT x)) {i : Nat} : Nx s (p + 1 + (quB' (x.data.toList.take i)).length) (quB' (x.data.toList.drop i) ++ [34]) := by
  have h1 := h.hd.2.2
  rw [← List.take_append_drop i x.data.toList, quB'_app, List.append_assoc] at h1
  exact h1.app.2
theorem qu_take {x : ByteArray} {i : Nat} {y : UInt8} (hy : x.data.toList[i]? = some y) : x.data.toList.take (i + 1) = x.data.toList.take i ++ [y] ∧ x.data.toList.drop i = y :: x.data.toList.drop (i + 1) := by
  constructor
  · rw [List.take_add_one, hy]; rfl
  · obtain ⟨hl, e⟩ := List.getElem?_eq_some_iff.1 hy
    rw [List.drop_eq_getElem_cons hl, e]

set_option maxHeartbeats 2000000 in
set_option maxRecDepth 100000 in
theorem quoted_any (R p LM tb : Nat) (s x : ByteArray) (w : World) (hmax : s.size ≤ 20000) (hx : x.size ≤ 500) (HN : Hid (Nx s p (quT x))) (H : Hid (RdB w R s p LM tb)) :
    Calls Tryz.prog 134 #[pR R] w fun e w' => e = .returned (.tuple #[.iface 236 (.agg #[.string x]), .nilIface]) ∧ Stp w w' R s (p + (quT x).length) LM tb := by
  obtain ⟨i0, hi0, hz0, hz1, hz2⟩ := info_parts Tryz.infoU8
  have hp := HN.out.hd.2.1
  have hR : R < w.heap.size := H.out.lt
  obtain ⟨c0, c1, c2, c3, _, cz⟩ := four_at H.out
  have z1 := cz 1
  have HI : Hid (QdI w (w.setCell ⟨R, 1, none⟩ (.int .i64 ((p + 1 : Nat) : Int))) R s (p + 1) LM tb (.slice none 0 0) []) := ⟨(H.out.stp (Below.refl _ _)).set (p + 1), World.ownsRow_nil _ _ _ _⟩
  go_enter Tryz.func134, Tryz.ntmps134
  go_wp2
  go_step3
  go_wp2
  go_step3
  go_wp2
  clear c0 c1 c2 c3 cz z1
  go_loopw [5] (fun oo wr => ∃ (i : Nat) (ov : Value), ov = oo ∧ i ≤ x.size ∧ Hid (QdI w wr R s (p + 1 + (quB' (x.data.toList.take i)).length) LM tb ov (x.data.toList.take i))) (fun ov _ => x.size - slLen ov)
  case atStart => exact ⟨0, _, rfl, Nat.zero_le _, HI⟩
  case round =>
    obtain ⟨i, ov, rfl, hi, HR⟩ := hrel
    have HL : Hid (slLen ov = i) := by
      have := HR.out.len
      rw [List.length_take, str_len] at this
      show _ = _
      omega
    have hNx := qu_at (i := i) HN.out
    obtain ⟨q, hq⟩ : ∃ q, p + 1 + (quB' (x.data.toList.take i)).length = q := ⟨_, rfl⟩
    have HQ : Hid _ := hq
    rw [hq] at HR hNx
    clear hq
    by_cases hlt : i < x.size
    · obtain ⟨y, hy⟩ : ∃ y, x.data.toList[i]? = some y := ⟨x.data.toList[i]'(by rw [str_len]; exact hlt), List.getElem?_eq_getElem _⟩
      obtain ⟨ht, hd⟩ := qu_take hy
      rw [hd] at hNx
      simp only [quB', List.append_assoc] at hNx
      obtain ⟨hN1, _⟩ := hNx.app
      have HT : Hid (x.data.toList.take (i + 1) = x.data.toList.take i ++ [y]) := ht
      have HPos : Hid (p + 1 + (quB' (x.data.toList.take (i + 1))).length = q + (quB y).length) := by
        show _ = _
        rw [ht, quB'_snoc, List.length_append, ← HQ.out]
        omega
      obtain ⟨acc, hacc⟩ : ∃ acc, x.data.toList.take i = acc := ⟨_, rfl⟩
      rw [hacc] at HR HT
      have HAL : Hid (acc.length = i) := by show _ = _; rw [← hacc, List.length_take, str_len]; omega
      have hqs : q < s.size := by
        unfold quB at hN1
        split at hN1
        · exact hN1.hd.2.1
        · split at hN1 <;> exact hN1.hd.2.1
      clear ht hd hNx hacc hy
      have hpk := peek_any R q LM tb s wr (by omega) HR.out.st.rd
      have hyb : y.toNat < 256 := y.toNat_lt
      by_cases ha : y = 34 ∨ y = 92 ∨ (y.toNat < 32 ∨ 126 < y.toNat)
      · have hb92 : pk s q = 92 := by
          unfold quB at hN1
          split at hN1
          · exact hN1.hd.1
          · rename_i h1
            rw [if_pos (by rcases ha with h | h | h; exact absurd (Or.inl h) h1; exact absurd (Or.inr h) h1; exact h)] at hN1
            exact hN1.hd.1
        rw [hb92] at hpk
        have HEs : Hid (∀ w1, RdB w1 R s q LM tb → Calls Tryz.prog 158 #[pR R] w1 fun e w' => e = .returned (.tuple #[.int .u8 (y.toNat : Int), .nilIface]) ∧ Stp w1 w' R s (q + (quB y).length) LM tb) := by
          intro w1 hw1
          by_cases h1 : y = 34 ∨ y = 92
          · rw [quB_a h1] at hN1 ⊢
            exact escA_any R q LM tb s y w1 hmax h1 hN1 hw1
          · have h2 : y.toNat < 32 ∨ 126 < y.toNat := by rcases ha with h | h | h; exact absurd (Or.inl h) h1; exact absurd (Or.inr h) h1; exact h
            rw [quB_b h1 h2] at hN1 ⊢
            exact escB_any R q LM tb s y w1 hmax hN1 hw1
        clear hb92 ha hN1
        go_wp2_with (go_at_call 101; refine hpk.mono ?_)
        try simp only [and_imp]
        rintro e w1 rfl h1
        have HI1 : Hid (QdI w w1 R s q LM tb ov acc) := HR.out.step hR (HR.out.st.rd.stp h1)
        clear hpk h1
        go_wp2_with (go_at_call 158; refine (HEs.out w1 HI1.out.st.rd).mono ?_)
        try simp only [and_imp]
        rintro e w2 rfl h2
        have HI2 : Hid (QdI w w2 R s (q + (quB y).length) LM tb ov acc) := HI1.out.step hR h2
        have hsz2 := HI2.out.st.on.size
        clear h2 HI1
        go_wp2_with (at_builtin; refine wpList_append_lies _ (by rfl) _ _ 22 (by rfl) w.heap.size 5 i0 (.int .u8 0) 1 1 Tryz.underlying22 hi0 hz0 hz1 hz2 (by rfl) (by omega) ov acc.length (Lib.byteCells acc) (by rfl) (HI2.out.own.alloc _) ⟨w2.heap.size, 0, none⟩ 1 1 [.int .u8 (y.toNat : Int)] (by rfl) (by rfl) ?c1 ?c2 (by omega) ?c3 ?c4 ?c5 (w2.heap.size + 1) ?c6 ?_)
        case c1 => exact World.news_of_block (heap_alloc_new w2 _)
        case c2 => intro u hu; simp at hu; subst hu; rfl
        case c3 => have := HAL.out; unfold maxLen; omega
        case c4 => have := HAL.out; omega
        case c5 => simp; omega
        case c6 => simp
        intro g cap w3 hown hgrow _ _
        have HI3 : Hid (QdI w w3 R s (p + 1 + (quB' (x.data.toList.take (i + 1))).length) LM tb (.slice (some ⟨g, 0, none⟩) (acc.length + 1) cap) (x.data.toList.take (i + 1))) := by
          rw [HPos.out, HT.out]
          exact HI2.out.next hR hgrow hown
        clear hown hgrow
        go_wp2
        go_roundw
        case rel => exact ⟨i + 1, _, rfl, by omega, HI3⟩
        case measure => have := HL.out; have := HAL.out; simp only [slLen] at *; omega
      · have h1 : ¬ (y = 34 ∨ y = 92) := fun h => ha (by rcases h with h | h; exact Or.inl h; exact Or.inr (Or.inl h))
        have h2 : ¬ (y.toNat < 32 ∨ 126 < y.toNat) := fun h => ha (Or.inr (Or.inr h))
        have e1 : quB y = [y] := quB_c h1 h2
        rw [e1] at hN1 HPos
        have hb : pk s q = y.toNat := hN1.hd.1
        rw [hb] at hpk
        have n1 : ¬ ((y.toNat : Int) = 34) := fun e => h1 (Or.inl (by apply UInt8.toNat.inj; show y.toNat = 34; omega))
        have n2 : ¬ ((y.toNat : Int) = 92) := fun e => h1 (Or.inr (by apply UInt8.toNat.inj; show y.toNat = 92; omega))
        have hm := mustEscape_any y.toNat
        rw [decide_eq_false h2] at hm
        clear ha hN1 hb e1 h1 h2
        go_wp2_with (go_at_call 101; refine hpk.mono ?_)
        try simp only [and_imp]
        rintro e w1 rfl h1
        have HI1 : Hid (QdI w w1 R s q LM tb ov acc) := HR.out.step hR (HR.out.st.rd.stp h1)
        clear hpk h1
        go_wp2_with (go_at_call 129; refine (hm w1).mono ?_)
        rintro e w2 ⟨rfl, rfl⟩
        have hsz2 := HI1.out.st.on.size
        clear hm
        go_wp2_with (at_builtin; refine wpList_append_lies _ (by rfl) _ _ 22 (by rfl) w.heap.size 5 i0 (.int .u8 0) 1 1 Tryz.underlying22 hi0 hz0 hz1 hz2 (by rfl) (by omega) ov acc.length (Lib.byteCells acc) (by rfl) (HI1.out.own.alloc _) ⟨w2.heap.size, 0, none⟩ 1 1 [.int .u8 (y.toNat : Int)] (by rfl) (by rfl) ?c1 ?c2 (by omega) ?c3 ?c4 ?c5 (w2.heap.size + 1) ?c6 ?_)
        case c1 => exact World.news_of_block (heap_alloc_new w2 _)
        case c2 => intro u hu; simp at hu; subst hu; rfl
        case c3 => have := HAL.out; unfold maxLen; omega
        case c4 => have := HAL.out; omega
        case c5 => simp; omega
        case c6 => simp
        intro g cap w3 hown hgrow _ _
        have HI3 : Hid (QdI w w3 R s q LM tb (.slice (some ⟨g, 0, none⟩) (acc.length + 1) cap) (x.data.toList.take (i + 1))) := by
          rw [HT.out]
          exact HI1.out.next hR hgrow hown
        clear hown hgrow
        obtain ⟨c0, c1, c2, c3, _, cz⟩ := four_at HI3.out.st.rd
        have z1 := cz 1
        have HI4 : Hid (QdI w (w3.setCell ⟨R, 1, none⟩ (.int .i64 ((q + 1 : Nat) : Int))) R s (p + 1 + (quB' (x.data.toList.take (i + 1))).length) LM tb (.slice (some ⟨g, 0, none⟩) (acc.length + 1) cap) (x.data.toList.take (i + 1))) := by
          rw [HPos.out]
          exact HI3.out.set hR (q + 1)
        clear cz
        go_wp2
        go_roundw
        case rel => exact ⟨i + 1, _, rfl, by omega, HI4⟩
        case measure => have := HL.out; have := HAL.out; simp only [slLen] at *; omega
    · obtain rfl : i = x.size := by omega
      rw [List.drop_eq_nil_of_le (by rw [str_len]; omega)] at hNx
      have hpk := peek_any R q LM tb s wr (by have := hNx.hd.2.1; omega) HR.out.st.rd
      rw [hNx.hd.1] at hpk
      have hqs := hNx.hd.2.1
      rw [List.take_of_length_le (by rw [str_len]; omega)] at HR HQ
      clear hNx
      go_wp2_with (go_at_call 101; refine hpk.mono ?_)
      try simp only [and_imp]
      rintro e w1 rfl h1
      have HI1 : Hid (QdI w w1 R s q LM tb ov x.data.toList) := HR.out.step hR (HR.out.st.rd.stp h1)
      clear hpk h1
      obtain ⟨c0, c1, c2, c3, _, cz⟩ := four_at HI1.out.st.rd
      have z1 := cz 1
      have HI2 : Hid (QdI w (w1.setCell ⟨R, 1, none⟩ (.int .i64 ((q + 1 : Nat) : Int))) R s (q + 1) LM tb ov x.data.toList) := HI1.out.set hR (q + 1)
      obtain ⟨ao, cap, rfl, _⟩ := owns_form HI1.out.own
      have hcv := own_str HI2.out.own
      rw [show ((q + 1 : Nat) : Int) = (q : Int) + 1 by omega, str_len] at hcv
      rw [str_len]
      have hl5 : ¬ ((500 : Int) < (x.size : Int)) := by omega
      clear cz
      go_wp2
      rw [Exit.noGoto_ret]
      go_ret2
      refine ⟨rfl, ?_⟩
      rw [show p + (quT x).length = q + 1 by rw [← HQ.out]; simp only [quT, List.length_cons, List.length_append, List.length_nil]; omega]
      exact HI2.out.st

end Go.Proofs.YtgflalfiopnmnaaGreatDoor

namespace Go.Proofs.YtgflalfiopnmnaaGreatDoor
open Go.Shelf

def Tryz.num_ren : Go.Shelf.Ren := ⟨fun | 129 => 146 | 171 => 92 | 172 => 157 | 174 => 159 | 205 => 184 | 243 => 125 | 244 => 170 | 245 => 171 | 246 => 127 | 247 => 173 | 279 => 177 | 280 => 178 | 281 => 179 | 282 => 180 | 283 => 151 | 284 => 152 | 285 => 153 | 286 => 154 | 287 => 182 | 316 => 183 | 317 => 166 | 318 => 167 | 319 => 168 | 320 => 169 | 321 => 186 | 322 => 187 | 337 => 175 | 338 => 176 | n => n, fun | 0 => 0 | 2 => 2 | 3 => 3 | 4 => 4 | 5 => 5 | 9 => 9 | 20 => 20 | 21 => 21 | 37 => 22 | 46 => 210 | 51 => 253 | 53 => 49 | 75 => 85 | 76 => 238 | 80 => 76 | 85 => 268 | 127 => 134 | 143 => 296 | 145 => 298 | 167 => 284 | 168 => 285 | 171 => 260 | 173 => 262 | 175 => 289 | 210 => 294 | 212 => 278 | 213 => 279 | 232 => 291 | 233 => 292 | n => n, fun | 15 => 4 | 16 => 5 | 17 => 1 | 18 => 2 | 19 => 3 | n => n⟩
theorem Tryz.lays174 : LaysC.n174 Tryz.prog Tryz.num_ren := {
  mixed := by kernel_rfl
  f129 := Tryz.func146.trans (congrArg some (by kernel_rfl))
  f171 := Tryz.func92.trans (congrArg some (by kernel_rfl))
  f174 := Tryz.func159.trans (congrArg some (by kernel_rfl))
  f205 := Tryz.func184.trans (congrArg some (by kernel_rfl))
  f243 := Tryz.func125.trans (congrArg some (by kernel_rfl))
  f245 := Tryz.func171.trans (congrArg some (by kernel_rfl))
  f246 := Tryz.func127.trans (congrArg some (by kernel_rfl))
  f247 := Tryz.func173.trans (congrArg some (by kernel_rfl))
  f279 := Tryz.func177.trans (congrArg some (by kernel_rfl))
  f280 := Tryz.func178.trans (congrArg some (by kernel_rfl))
  f281 := Tryz.func179.trans (congrArg some (by kernel_rfl))
  f282 := Tryz.func180.trans (congrArg some (by kernel_rfl))
  f283 := Tryz.func151.trans (congrArg some (by kernel_rfl))
  f284 := Tryz.func152.trans (congrArg some (by kernel_rfl))
  f285 := Tryz.func153.trans (congrArg some (by kernel_rfl))
  f286 := Tryz.func154.trans (congrArg some (by kernel_rfl))
  f287 := Tryz.func182.trans (congrArg some (by kernel_rfl))
  f316 := Tryz.func183.trans (congrArg some (by kernel_rfl))
  f317 := Tryz.func166.trans (congrArg some (by kernel_rfl))
  f318 := Tryz.func167.trans (congrArg some (by kernel_rfl))
  f319 := Tryz.func168.trans (congrArg some (by kernel_rfl))
  f320 := Tryz.func169.trans (congrArg some (by kernel_rfl))
  f321 := Tryz.func186.trans (congrArg some (by kernel_rfl))
  f322 := Tryz.func187.trans (congrArg some (by kernel_rfl))
  f337 := Tryz.func175.trans (congrArg some (by kernel_rfl))
  f338 := Tryz.func176.trans (congrArg some (by kernel_rfl))
  t0 := Tryz.underlying0
  a0 := Tryz.isAgg0
  z0 := Tryz.sizeOf0
  v0 := Tryz.zeroValue0
  t2 := Tryz.underlying2
  a2 := Tryz.isAgg2
  z2 := Tryz.sizeOf2
  v2 := Tryz.zeroValue2
  t3 := Tryz.underlying3
  a3 := Tryz.isAgg3
  z3 := Tryz.sizeOf3
  v3 := Tryz.zeroValue3
  t4 := Tryz.underlying4
  a4 := Tryz.isAgg4
  z4 := Tryz.sizeOf4
  v4 := Tryz.zeroValue4
  t5 := Tryz.underlying5
  a5 := Tryz.isAgg5
  z5 := Tryz.sizeOf5
  v5 := Tryz.zeroValue5
  t9 := Tryz.underlying9
  a9 := Tryz.isAgg9
  z9 := Tryz.sizeOf9
  v9 := Tryz.zeroValue9
  t20 := Tryz.underlying20
  a20 := Tryz.isAgg20
  z20 := Tryz.sizeOf20
  v20 := Tryz.zeroValue20
  t21 := Tryz.underlying21
  a21 := Tryz.isAgg21
  z21 := Tryz.sizeOf21
  v21 := Tryz.zeroValue21
  t37 := Tryz.underlying22
  a37 := Tryz.isAgg22
  z37 := Tryz.sizeOf22
  v37 := Tryz.zeroValue22
  t46 := Tryz.underlying210
  a46 := Tryz.isAgg210
  z46 := Tryz.sizeOf210
  v46 := Tryz.zeroValue210
  t51 := Tryz.underlying253
  a51 := Tryz.isAgg253
  z51 := Tryz.sizeOf253
  v51 := Tryz.zeroValue253
  t53 := Tryz.underlying49
  a53 := Tryz.isAgg49
  z53 := Tryz.sizeOf49
  v53 := Tryz.zeroValue49
  t75 := Tryz.underlying85
  a75 := Tryz.isAgg85
  z75 := Tryz.sizeOf85
  v75 := Tryz.zeroValue85
  t85 := Tryz.underlying268
  a85 := Tryz.isAgg268
  z85 := Tryz.sizeOf268
  v85 := Tryz.zeroValue268
  t127 := Tryz.underlying134
  a127 := Tryz.isAgg134
  z127 := Tryz.sizeOf134
  v127 := Tryz.zeroValue134
  t143 := Tryz.underlying296
  a143 := Tryz.isAgg296
  z143 := Tryz.sizeOf296
  v143 := Tryz.zeroValue296
  t145 := Tryz.underlying298
  a145 := Tryz.isAgg298
  z145 := Tryz.sizeOf298
  v145 := Tryz.zeroValue298
  t167 := Tryz.underlying284
  a167 := Tryz.isAgg284
  z167 := Tryz.sizeOf284
  v167 := Tryz.zeroValue284
  t168 := Tryz.underlying285
  a168 := Tryz.isAgg285
  z168 := Tryz.sizeOf285
  v168 := Tryz.zeroValue285
  t171 := Tryz.underlying260
  a171 := Tryz.isAgg260
  z171 := Tryz.sizeOf260
  v171 := Tryz.zeroValue260
  t173 := Tryz.underlying262
  a173 := Tryz.isAgg262
  z173 := Tryz.sizeOf262
  v173 := Tryz.zeroValue262
  t175 := Tryz.underlying289
  a175 := Tryz.isAgg289
  z175 := Tryz.sizeOf289
  v175 := Tryz.zeroValue289
  t210 := Tryz.underlying294
  a210 := Tryz.isAgg294
  z210 := Tryz.sizeOf294
  v210 := Tryz.zeroValue294
  t212 := Tryz.underlying278
  a212 := Tryz.isAgg278
  z212 := Tryz.sizeOf278
  v212 := Tryz.zeroValue278
  t213 := Tryz.underlying279
  a213 := Tryz.isAgg279
  z213 := Tryz.sizeOf279
  t232 := Tryz.underlying291
  a232 := Tryz.isAgg291
  z232 := Tryz.sizeOf291
  v232 := Tryz.zeroValue291
  t233 := Tryz.underlying292
  a233 := Tryz.isAgg292
  z233 := Tryz.sizeOf292
  v233 := Tryz.zeroValue292
  g15 := by kernel_rfl
  g16 := by kernel_rfl
  g17 := by kernel_rfl
  g18 := by kernel_rfl
  g19 := by kernel_rfl
  t80 := Tryz.underlying76
  a80 := Tryz.isAgg76
  z80 := Tryz.sizeOf76
  v80 := Tryz.zeroValue76
  i0 := by kernel_rfl
  i2 := by kernel_rfl
  i3 := by kernel_rfl
  i4 := by kernel_rfl
  i5 := by kernel_rfl
  i9 := by kernel_rfl
  i20 := by kernel_rfl
  i21 := by kernel_rfl
  i37 := by kernel_rfl
  i46 := by kernel_rfl
  i51 := by kernel_rfl
  i53 := by kernel_rfl
  i75 := by kernel_rfl
  i80 := by kernel_rfl
  i85 := by kernel_rfl
  i127 := by kernel_rfl
  i143 := by kernel_rfl
  i145 := by kernel_rfl
  i167 := by kernel_rfl
  i168 := by kernel_rfl
  i171 := by kernel_rfl
  i173 := by kernel_rfl
  i175 := by kernel_rfl
  i210 := by kernel_rfl
  i212 := by kernel_rfl
  i232 := by kernel_rfl
  i233 := by kernel_rfl
  m15 := by kernel_rfl
  m16 := by kernel_rfl
  m17 := by kernel_rfl
  m18 := by kernel_rfl
  m19 := by kernel_rfl
  c0 := by kernel_rfl
  c2 := by kernel_rfl
  c3 := by kernel_rfl
  c4 := by kernel_rfl
  c5 := by kernel_rfl
  c9 := by kernel_rfl
  c20 := by kernel_rfl
  c21 := by kernel_rfl
  c37 := by kernel_rfl
  c46 := by kernel_rfl
  c51 := by kernel_rfl
  c53 := by kernel_rfl
  c75 := by kernel_rfl
  c80 := by kernel_rfl
  c85 := by kernel_rfl
  c127 := by kernel_rfl
  c143 := by kernel_rfl
  c145 := by kernel_rfl
  c167 := by kernel_rfl
  c168 := by kernel_rfl
  c171 := by kernel_rfl
  c173 := by kernel_rfl
  c175 := by kernel_rfl
  c210 := by kernel_rfl
  c212 := by kernel_rfl
  c213 := by kernel_rfl
  c232 := by kernel_rfl
  c233 := by kernel_rfl
}
theorem Tryz.lays172 : LaysC.n172 Tryz.prog Tryz.num_ren := { Tryz.lays174 with
  f172 := Tryz.func157.trans (congrArg some (by kernel_rfl))
  f244 := Tryz.func170.trans (congrArg some (by kernel_rfl))
  t76 := Tryz.underlying238
  a76 := Tryz.isAgg238
  z76 := Tryz.sizeOf238
  v76 := Tryz.zeroValue238
  i76 := by kernel_rfl
  c76 := by kernel_rfl
}

theorem parseInt_any (s : ByteArray) (hmax : s.size ≤ 20000) (v : Int) (h : Lib.parseIntB 64 s.data.toList = .ok v) (w : World) :
    Calls Tryz.prog 159 #[.string s, .int .i64 10, .int .i64 64] w fun e w' => e = .returned (.tuple #[.int .i64 v, .nilIface]) ∧ (w' = w ∨ ∃ t, w' = Lib.bytesWorld w 5 t) := Any.strconv_ParseInt_10_at64_ok Tryz.lays174 s (by omega) v h w
theorem atoi_any (s : ByteArray) (hmax : s.size ≤ 20000) (v : Int) (h : Lib.atoiAll s.data.toList = .ok v) (w : World) :
    Calls Tryz.prog 157 #[.string s] w fun e w' => e = .returned (.tuple #[.int .i64 v, .nilIface]) ∧ (w' = w ∨ ∃ t, w' = Lib.bytesWorld w 5 t) := Any.strconv_Atoi_ok Tryz.lays172 s (by omega) v h w

end Go.Proofs.YtgflalfiopnmnaaGreatDoor

namespace Go.Proofs.YtgflalfiopnmnaaGreatDoor
open Go.RowKit Vl

theorem dec_dig : ∀ (u : Nat), ∀ b ∈ Lib.decDigits u, 48 ≤ b.toNat ∧ b.toNat ≤ 57 := by
  intro u
  induction u using Nat.strongRecOn with
  | _ u ih =>
    intro b hb
    rw [Lib.decDigits] at hb
    split at hb
    · simp only [List.mem_singleton] at hb
      subst hb
      rw [UInt8.toNat_ofNat']
      omega
    · rename_i h
      simp only [List.mem_append, List.mem_singleton] at hb
      rcases hb with hb | rfl
      · exact ih (u / 10) (by omega) b hb
      · rw [UInt8.toNat_ofNat']
        omega
theorem decH : ∀ (u : Nat), ∃ b r, Lib.decDigits u = b :: r ∧ (b = 48 → r = [] ∧ u = 0) := by
  intro u
  induction u using Nat.strongRecOn with
  | _ u ih =>
    rw [Lib.decDigits]
    split
    · rename_i h
      refine ⟨_, _, rfl, fun e => ⟨rfl, ?_⟩⟩
      have := congrArg UInt8.toNat e
      rw [UInt8.toNat_ofNat'] at this
      have h48 : (48 : UInt8).toNat = 48 := rfl
      omega
    · rename_i h
      obtain ⟨b, r, e, h1⟩ := ih (u / 10) (by omega)
      refine ⟨b, r ++ _, by rw [e]; rfl, fun hb => ?_⟩
      have := (h1 hb).2
      omega
theorem parse_snoc (c : UInt8) (hc : 48 ≤ c.toNat ∧ c.toNat ≤ 57) : ∀ (l : List UInt8) (acc m : Nat), Lib.parseUint10 acc l = .ok m → m * 10 + (c.toNat - 48) < 18446744073709551616 → Lib.parseUint10 acc (l ++ [c]) = .ok (m * 10 + (c.toNat - 48))
  | [], acc, m, h, hm => by
    simp only [Lib.parseUint10] at h
    cases h
    simp only [List.nil_append, Lib.parseUint10, if_pos hc]
    rw [if_neg (by omega), if_neg (by omega)]
  | d :: l, acc, m, h, hm => by
    simp only [List.cons_append, Lib.parseUint10] at h ⊢
    split at h
    · rename_i hd
      rw [if_pos hd]
      split at h
      · cases h
      · rename_i h1
        rw [if_neg h1]
        split at h
        · cases h
        · rename_i h2
          rw [if_neg h2]
          exact parse_snoc c hc l _ m h hm
    · cases h
theorem dec_parse : ∀ (u : Nat), u < 18446744073709551616 → Lib.parseUint10 0 (Lib.decDigits u) = .ok u := by
  intro u
  induction u using Nat.strongRecOn with
  | _ u ih =>
    intro hu
    rw [Lib.decDigits]
    split
    · rename_i h
      have e : (UInt8.ofNat (48 + u)).toNat = 48 + u := by rw [UInt8.toNat_ofNat']; omega
      simp only [Lib.parseUint10, e]
      rw [if_pos (by omega), if_neg (by omega), if_neg (by omega)]
      congr 1
      omega
    · rename_i h
      have e : (UInt8.ofNat (48 + u % 10)).toNat = 48 + u % 10 := by rw [UInt8.toNat_ofNat']; omega
      have := parse_snoc (UInt8.ofNat (48 + u % 10)) (by omega) _ 0 (u / 10) (ih (u / 10) (by omega) (by omega)) (by omega)
      rw [this, e]
      congr 1
      omega
theorem dec_mag {u : Nat} (hu : u < 18446744073709551616) : Lib.parseMag (Lib.decDigits u) = .ok u := by
  unfold Lib.parseMag
  obtain ⟨b, r, e, _⟩ := decH u
  rw [if_neg (by rw [e]; simp), dec_parse u hu]
theorem atoi_itoa {v : Int} (h0 : -9223372036854775808 ≤ v) (h1 : v ≤ 9223372036854775807) : Lib.atoiAll (Lib.itoa v) = .ok v := by
  unfold Lib.itoa
  split
  · rw [Lib.atoiAll_minus, dec_mag (by omega)]
    simp only [Lib.signed]
    rw [if_neg (by omega)]
    congr 1
    omega
  · obtain ⟨b, r, e, _⟩ := decH v.toNat
    have hb := dec_dig v.toNat b (by rw [e]; simp)
    have hm := dec_mag (u := v.toNat) (by omega)
    rw [e] at hm ⊢
    rw [Lib.atoiAll_plain b r (by omega) (by omega), hm]
    simp only [Lib.signless]
    rw [if_neg (by omega)]
    congr 1
    omega
theorem parse_itoa {v : Int} (h0 : -9223372036854775808 ≤ v) (h1 : v ≤ 9223372036854775807) : Lib.parseIntB 64 (Lib.itoa v) = .ok v := by
  rw [Lib.parseIntB_64]
  exact atoi_itoa h0 h1
theorem below_bytes {w w' : World} (h : w' = w ∨ ∃ t, w' = Lib.bytesWorld w 5 t) : Below w.heap.size w w' := by
  rcases h with rfl | ⟨t, rfl⟩
  · exact Below.refl _ _
  · exact Lib.bytesWorld_below _ _ _

def NoD (s : ByteArray) (p : Nat) : Prop := ¬ (48 ≤ pk s p ∧ pk s p ≤ 57)
theorem dec_dgs {s : ByteArray} {p u : Nat} (h : Nx s p (Lib.decDigits u)) (hn : NoD s (p + (Lib.decDigits u).length)) : Dgs s p (Lib.decDigits u) := by
  refine ⟨h, dec_dig u, ?_, hn⟩
  obtain ⟨b, r, e, _⟩ := decH u
  rw [e]; simp

theorem takeM_any (R p LM tb : Nat) (s : ByteArray) (w : World) (hp : p ≤ s.size) (hmax : s.size ≤ 20000) (H : Hid (RdB w R s p LM tb)) :
    Calls Tryz.prog 100 #[pR R, .int .u8 45] w fun e w' => (∃ t, e = .returned (.bool t)) ∧ Stp w w' R s (p + (if pk s p = 45 then 1 else 0)) LM tb := by
  by_cases h : pk s p = 45
  · rw [if_pos h]
    refine (take_yes R p LM tb s 45 w ?_ hmax h H).mono ?_
    · rcases Nat.lt_or_ge p s.size with h' | h'
      · exact h'
      · rw [pk_end h'] at h; omega
    · rintro e w' ⟨rfl, h⟩
      exact ⟨⟨_, rfl⟩, h⟩
  · rw [if_neg h]
    refine (take_no R p LM tb s 45 w hp h H).mono ?_
    rintro e w' ⟨rfl, h⟩
    exact ⟨⟨_, rfl⟩, H.out.stp h⟩

set_option maxHeartbeats 2000000 in
set_option maxRecDepth 100000 in
theorem number_any (R p LM tb : Nat) (s : ByteArray) (v : Int) (w : World) (hmax : s.size ≤ 20000) (hp : p ≤ s.size) (h0 : -9223372036854775808 ≤ v) (h1 : v ≤ 9223372036854775807) (HN : Hid (Nx s p (Lib.itoa v))) (HE : Hid (NoD s (p + (Lib.itoa v).length))) (H : Hid (RdB w R s p LM tb)) :
    Calls Tryz.prog 136 #[pR R] w fun e w' => e = .returned (.tuple #[.iface 234 (.agg #[.int .i64 v]), .nilIface]) ∧ Stp w w' R s (p + (Lib.itoa v).length) LM tb := by
  obtain ⟨u, q, HQ, HD, HZ, HL⟩ : ∃ (u q : Nat), Hid (p + (if pk s p = 45 then 1 else 0) = q) ∧ Hid (Dgs s q (Lib.decDigits u)) ∧ Hid ((⟨(Lib.itoa v).toArray⟩ : ByteArray).toList ≠ [45, 48]) ∧ Hid (q + (Lib.decDigits u).length = p + (Lib.itoa v).length ∧ q ≤ s.size) := by
    have hN := HN.out
    have hE := HE.out
    by_cases hv : v < 0
    · have e : Lib.itoa v = 45 :: Lib.decDigits v.natAbs := by unfold Lib.itoa; rw [if_pos hv]
      rw [e] at hN hE ⊢
      obtain ⟨a1, a2, a3⟩ := hN.hd
      refine ⟨v.natAbs, p + 1, ?_, dec_dgs a3 ?_, ?_, ?_, by omega⟩
      · show _ = _; rw [if_pos (by rw [a1]; rfl)]
      · rw [show p + 1 + (Lib.decDigits v.natAbs).length = p + (45 :: Lib.decDigits v.natAbs).length by simp; omega]; exact hE
      · show _ ≠ _
        rw [ByteArray.toList_eq]
        obtain ⟨b, r, e2, hb⟩ := decH v.natAbs
        rw [e2]
        intro h
        simp at h
        have := (hb h.1).2
        omega
      · simp; omega
    · have e : Lib.itoa v = Lib.decDigits v.toNat := by unfold Lib.itoa; rw [if_neg hv]
      rw [e] at hN hE ⊢
      obtain ⟨b, r, e2, hb⟩ := decH v.toNat
      have hd := dec_dig v.toNat b (by rw [e2]; simp)
      refine ⟨v.toNat, p, ?_, dec_dgs hN hE, ?_, rfl, hp⟩
      · rw [e2] at hN
        show _ = _; rw [if_neg (by rw [hN.hd.1]; omega)]; rfl
      · show _ ≠ _
        rw [ByteArray.toList_eq, e2]
        intro h
        simp at h
        have : b.toNat = 45 := by rw [h.1]; rfl
        omega
  have htk := takeM_any R p LM tb s w hp hmax H
  rw [HQ.out] at htk
  have hle : p + (Lib.itoa v).length ≤ s.size := HN.out.le hp
  have hcut := fun w => cut_run (s := s) (p := p) (q := p + (Lib.itoa v).length) (by omega) hle w
  rw [extract_nx HN.out] at hcut
  have hpi := parseInt_any ⟨(Lib.itoa v).toArray⟩ (by show (Lib.itoa v).toArray.size ≤ _; simp; omega) v (by simpa using parse_itoa h0 h1)
  obtain ⟨z, hz⟩ : ∃ z, p + (Lib.itoa v).length = z := ⟨_, rfl⟩
  obtain ⟨tx, htx⟩ : ∃ tx : ByteArray, (⟨(Lib.itoa v).toArray⟩ : ByteArray) = tx := ⟨_, rfl⟩
  rw [htx] at hpi hcut HZ
  rw [hz] at hcut HL ⊢
  have hne : (tx.toList == [45, 48]) = false := by simpa using HZ.out
  obtain ⟨b, r, e2, hb⟩ := decH u
  have HD2 : Hid (Dgs s q (b :: r)) := by rw [← e2]; exact HD.out
  have HL2 : Hid (q + (b :: r).length = z) := by rw [← e2]; exact HL.out.1
  have hq := HL.out.2
  have hix : ∀ w, (Instr.index 9 (.string ⟨(b :: r).toArray⟩) (.int .i64 0)).run Tryz.prog w = .ok (.int .u8 (b.toNat : Int)) w := by
    intro w
    have := idx_run (s := ⟨(b :: r).toArray⟩) (p := 0) (show 0 < (b :: r).toArray.size by simp) w
    simpa [pk] using this
  have hbb : ((b.toNat : Int) = 48) → ((r.length : Int) + 1 = 1) := fun e => by
    have := (hb (by apply UInt8.toNat.inj; show b.toNat = 48; omega)).1
    rw [this]; simp
  obtain ⟨c0, c1, c2, c3, _, cz⟩ := four_at H.out
  clear htx hz hle HN HE HQ HZ HD HL e2 cz
  go_enter Tryz.func136, Tryz.ntmps136
  go_wp2_with (go_at_call 100; refine htk.mono ?_)
  rintro e w1 ⟨⟨tk, rfl⟩, hS1⟩
  have HS1 : Hid (Stp w w1 R s q LM tb) := hS1
  clear htk hS1 c0 c1 c2 c3
  obtain ⟨c0, c1, c2, c3, _, cz⟩ := four_at HS1.out.rd
  clear cz
  go_wp2_with (go_at_call 156; refine (digits_any R q LM tb s (b :: r) w1 hmax hq HD2 HS1.out.rd).mono ?_)
  rintro e w2 ⟨rfl, hS2⟩
  rw [HL2.out] at hS2
  have HS2 : Hid (Stp w w2 R s z LM tb) := HS1.out.trans hS2
  clear hS2 c0 c1 c2 c3
  obtain ⟨c0, c1, c2, c3, _, cz⟩ := four_at HS2.out.rd
  clear cz
  have hcase : (¬ ((b.toNat : Int) = 48)) ∨ (b.toNat : Int) = 48 ∧ (⟨(b :: r).toArray⟩ : ByteArray).size = 1 := by
    by_cases h : (b.toNat : Int) = 48
    · refine Or.inr ⟨h, ?_⟩
      have := hbb h
      have h0 : r.length = 0 := by omega
      show (b :: r).toArray.size = 1
      simp [List.eq_nil_of_length_eq_zero h0]
    · exact Or.inl h
  obtain ⟨ds, hds⟩ : ∃ ds : ByteArray, (⟨(b :: r).toArray⟩ : ByteArray) = ds := ⟨_, rfl⟩
  rw [hds] at hix hcase ⊢
  obtain ⟨b0, hb0⟩ : ∃ b0 : Int, (b.toNat : Int) = b0 := ⟨_, rfl⟩
  rw [hb0] at hix hcase
  clear hds hbb HD2 HL2 hb hb0
  rcases hcase with h48 | ⟨h48, hsz⟩
  · go_wp2
    go_region_held3 (fun w' => w'.cell? ⟨R, 0, none⟩ = some (.string s) ∧ w'.cell? ⟨R, 1, none⟩ = some (.int .i64 (z : Int)))
      (first | exact ⟨c0, c1⟩)
      (fail)
    clear c0 c1 c2 c3
    go_wp2_with (go_at_call 159; refine (hpi _).mono ?_)
    rintro e w3 ⟨rfl, hw3⟩
    have HS3 : Hid (Stp w w3 R s z LM tb) := (HS2.out.below (Below.refl _ _).drew).below (below_bytes hw3)
    clear hpi hcut hix hw3
    go_wp2
    go_ret2
    exact ⟨rfl, HS3.out⟩
  · have hs1 : ¬ ((ds.size : Int) > 1) := by omega
    go_wp2
    go_region_held3 (fun w' => w'.cell? ⟨R, 0, none⟩ = some (.string s) ∧ w'.cell? ⟨R, 1, none⟩ = some (.int .i64 (z : Int)))
      (first | exact ⟨c0, c1⟩)
      (fail)
    clear c0 c1 c2 c3
    go_wp2_with (go_at_call 159; refine (hpi _).mono ?_)
    rintro e w3 ⟨rfl, hw3⟩
    have HS3 : Hid (Stp w w3 R s z LM tb) := (HS2.out.below (Below.refl _ _).drew).below (below_bytes hw3)
    clear hpi hcut hix hw3
    go_wp2
    go_ret2
    exact ⟨rfl, HS3.out⟩

set_option maxHeartbeats 2000000 in
set_option maxRecDepth 100000 in
theorem label_any (R p LM tb : Nat) (s : ByteArray) (v : Nat) (w : World) (hmax : s.size ≤ 20000) (h0 : 0 < v) (h1 : v ≤ 999) (HN : Hid (Nx s p (35 :: Lib.itoa (v : Nat)))) (HE : Hid (NoD s (p + 1 + (Lib.itoa (v : Nat)).length))) (H : Hid (RdB w R s p LM tb)) :
    Calls Tryz.prog 133 #[pR R] w fun e w' => e = .returned (.tuple #[.int .i64 (v : Int), .nilIface]) ∧ Stp w w' R s (p + 1 + (Lib.itoa (v : Nat)).length) LM tb := by
  have e0 : Lib.itoa (v : Nat) = Lib.decDigits v := by unfold Lib.itoa; rw [if_neg (by omega)]; rfl
  have hat := atoi_itoa (v := (v : Int)) (by omega) (by omega)
  have hN := HN.out.hd.2.2
  have hps := HN.out.hd.2.1
  have hE := HE.out
  rw [e0] at hN hE hat ⊢
  have hD := dec_dgs hN hE
  obtain ⟨b, r, e2, hb⟩ := decH v
  rw [e2] at hD hN hat ⊢
  have hle := hN.le (by omega)
  have HD : Hid (Dgs s (p + 1) (b :: r)) := hD
  have hpi := atoi_any ⟨(b :: r).toArray⟩ (by show (b :: r).toArray.size ≤ _; simp at hle ⊢; omega) v (by simpa using hat)
  have hix : ∀ w, (Instr.index 9 (.string ⟨(b :: r).toArray⟩) (.int .i64 0)).run Tryz.prog w = .ok (.int .u8 (b.toNat : Int)) w := by
    intro w
    have := idx_run (s := ⟨(b :: r).toArray⟩) (p := 0) (show 0 < (b :: r).toArray.size by simp) w
    simpa [pk] using this
  have h48 : ¬ ((b.toNat : Int) = 48) := fun e => by
    have := (hb (by apply UInt8.toNat.inj; show b.toNat = 48; omega)).2
    omega
  have h999 : ¬ ((999 : Int) < (v : Int)) := by omega
  obtain ⟨c0, c1, c2, c3, _, cz⟩ := four_at H.out
  have z1 := cz 1
  clear HN HE hN hE hat hD e2 e0 hb cz
  have hdg := fun w1 h => digits_any R (p + 1) LM tb s (b :: r) w1 hmax (by omega) HD h
  obtain ⟨ds, hds⟩ : ∃ ds : ByteArray, (⟨(b :: r).toArray⟩ : ByteArray) = ds := ⟨_, rfl⟩
  rw [hds] at hix hpi hdg
  obtain ⟨z, hz⟩ : ∃ z, p + 1 + (b :: r).length = z := ⟨_, rfl⟩
  rw [hz] at hdg hle ⊢
  obtain ⟨b0, hb0⟩ : ∃ b0 : Int, (b.toNat : Int) = b0 := ⟨_, rfl⟩
  rw [hb0] at hix h48
  clear hds hz hb0 HD
  have HS1 : Hid (Stp w (w.setCell ⟨R, 1, none⟩ (.int .i64 ((p + 1 : Nat) : Int))) R s (p + 1) LM tb) := (H.out.stp (Below.refl _ _)).set (p + 1)
  go_enter Tryz.func133, Tryz.ntmps133
  go_wp2_with (go_at_call 156; refine (hdg _ HS1.out.rd).mono ?_)
  try simp only [and_imp]
  rintro e w2 rfl hS2
  have HS2 : Hid (Stp w w2 R s z LM tb) := HS1.out.trans hS2
  clear hS2 c0 c1 c2 c3 hdg z1
  go_wp2_with (go_at_call 157; refine (hpi _).mono ?_)
  rintro e w3 ⟨rfl, hw3⟩
  have HS3 : Hid (Stp w w3 R s z LM tb) := HS2.out.below (below_bytes hw3)
  clear hpi hw3
  go_wp2
  · rename_i hh
    rcases hh with hh | hh
    · exact absurd (by simpa using hh) h48
    · omega
  go_ret2
  exact ⟨rfl, HS3.out⟩

end Go.Proofs.YtgflalfiopnmnaaGreatDoor
