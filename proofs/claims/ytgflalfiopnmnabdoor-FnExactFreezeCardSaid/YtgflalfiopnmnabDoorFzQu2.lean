import Derived.Test.YtgflalfiopnmnabDoorFzQu
namespace Go.Proofs.YtgflalfiopnmnabDoor
open Go.RowKit Vl

theorem quB_a {x : UInt8} (h : x = 34 ∨ x = 92) : quB x = [92, x] := by unfold quB; rw [if_pos h]
theorem quB_b {x : UInt8} (h : ¬ (x = 34 ∨ x = 92)) (h2 : x.toNat < 32 ∨ 126 < x.toNat) : quB x = [92, hexB (x.toNat / 16), hexB (x.toNat % 16)] := by unfold quB; rw [if_neg h, if_pos h2]
theorem quB_c {x : UInt8} (h : ¬ (x = 34 ∨ x = 92)) (h2 : ¬ (x.toNat < 32 ∨ 126 < x.toNat)) : quB x = [x] := by unfold quB; rw [if_neg h, if_neg h2]

/-- The loop's state. -/
structure QuR (wc wr : World) (WB QM LM base : Nat) (b1 b' : Value) (acc : List UInt8) : Prop where
  st : WrS wr WB QM LM base b' acc
  fr : FrV WB WB b1 b' wc wr

set_option maxHeartbeats 2000000 in
set_option maxRecDepth 100000 in
/-- '(*writer).quote'. -/
theorem quote_any (WB QM LM base : Nat) (buf : Value) (bs : List UInt8) (s : ByteArray) (w : World) (hB : WB < base) (hbw : base ≤ w.heap.size) (hs : s.size ≤ 1000000) (hlen : bs.length ≤ 1000000000) (H : Hid (WrS w WB QM LM base buf bs)) :
    Calls Tryd.prog 51 #[.pointer (some ⟨WB, 0, none⟩), .string s] w fun e w' => e = .returned (.tuple #[]) ∧ ∃ buf', WrS w' WB QM LM base buf' (bs ++ quT s) ∧ FrV WB WB buf buf' w w' := by
  have hq1 : catS [⟨#[34]⟩] = [34] := rfl
  go_enter Tryd.func51, Tryd.ntmps51
  go_wp2_with (go_at_call 46; refine (wput_any WB QM LM base buf bs [⟨#[34]⟩] w.heap.size 1 1 (w.alloc (.cells #[.string ⟨#[34]⟩] 9)) rfl hB (by simp; omega) (by rw [hq1]; simp; omega) (by omega) (pcs_new w _) (by omega) (H.out.below (below_alloc _ _))).mono ?_)
  rintro e w1 ⟨rfl, b1, hW1, hF1⟩
  rw [hq1] at hW1
  have HW1 : Hid (WrS w1 WB QM LM base b1 (bs ++ [34])) := hW1
  have HF1 : Hid (FrV WB WB buf b1 w w1) := (FrV.first (below_alloc _ _)).trans hF1
  have hsz1 : base ≤ w1.heap.size := Nat.le_trans hbw HF1.out.only.size
  clear hW1 hF1 hq1
  have hcv := Lib.run_convert_string_bytes (P := Tryd.prog) w1 9 59 5 s Tryd.underlying9 Tryd.underlying59 Tryd.underlying5
  obtain ⟨cp, hcp⟩ : ∃ cp, grownCap w1 s.size 0 5 = cp := ⟨_, rfl⟩
  obtain ⟨wc, hwc⟩ : ∃ wc, Lib.bytesWorld w1 5 s = wc := ⟨_, rfl⟩
  rw [hcp, hwc] at hcv
  have HBc : Hid (Below w1.heap.size w1 wc) := by
    rw [← hwc]
    exact ⟨rfl, rfl, rfl, by rw [Lib.bytesWorld_size]; omega, fun j hj => Lib.bytesWorld_at_old w1 _ s j hj⟩
  have HCc : Hid (∀ j, j < s.size → wc.cell? ⟨w1.heap.size, j, none⟩ = some (.int .u8 (s.data.toList.getD j 0).toNat)) := by
    rw [← hwc]
    exact fun j hj => Lib.bytesWorld_cell w1 _ s j hj
  have HZc : Hid (wc.heap.size = w1.heap.size + 1) := by rw [← hwc]; exact Lib.bytesWorld_size w1 _ s
  have HWc : Hid (WrS wc WB QM LM base b1 (bs ++ [34])) := HW1.out.below HBc.out
  have HO1 : Hid (b1.ownBlock ≠ some w1.heap.size) := show _ ≠ _ from fun e => by
    obtain ⟨_, _, _, h⟩ := owns_form HW1.out.own
    have := (h _ e).2
    omega
  have HF0 : Hid (FrV WB WB buf b1 w wc) := HF1.out.below HBc.out
  obtain ⟨CB, hCB⟩ : ∃ CB, w1.heap.size = CB := ⟨_, rfl⟩
  rw [hCB] at hcv HCc HO1 hsz1 HZc
  clear hwc hcp HBc HF1 HW1
  go_wp2
  clear hcv hCB
  go_loopw [12] (fun ii wr => ∃ (q : Nat) (b' : Value), q ≤ s.size ∧ ii = .int .i64 q ∧ Hid (QuR wc wr WB QM LM base b1 b' (bs ++ [34] ++ quB' (s.data.toList.take q)))) (fun ii _ => s.size - (intOf ii).toNat)
  case atStart => exact ⟨0, b1, Nat.zero_le _, rfl, ⟨by simpa [quB'] using HWc.out, FrV.refl _ _ _ _⟩⟩
  case round =>
    obtain ⟨q, b', hq, rfl, HR⟩ := hrel
    have hszr : base ≤ wr.heap.size := by have := HR.out.fr.only.size; have := HZc.out; omega
    by_cases hlt : q < s.size
    · obtain ⟨x, hx⟩ : ∃ x, s.data.toList.getD q 0 = x := ⟨_, rfl⟩
      have hcell : wr.cell? ⟨CB, q, none⟩ = some (.int .u8 (x.toNat : Int)) := by
        have h1 := HCc.out q hlt
        rw [hx] at h1
        obtain ⟨o, ho⟩ : ∃ o, wc.heap[CB]? = some o := ⟨wc.heap[CB]'(by have := HZc.out; omega), Array.getElem?_eq_getElem _⟩
        have h2 := HR.out.fr.blk ho (by omega) (by omega) HO1.out
        rw [World.cell?_of_block (a := ⟨CB, q, none⟩) (h2.trans ho.symm)]
        exact h1
      have HT : Hid (quB' (s.data.toList.take (q + 1)) = quB' (s.data.toList.take q) ++ quB x) := by
        show _ = _
        have hl : s.data.toList[q]? = some x := by
          have hl' : q < s.data.toList.length := by rw [str_len]; exact hlt
          rw [← hx, List.getD_eq_getElem?_getD, List.getElem?_eq_getElem hl']
          rfl
        rw [List.take_add_one, hl, ← quB'_snoc]
        rfl
      have HL : Hid ((bs ++ [34] ++ quB' (s.data.toList.take q)).length + 3 ≤ 140737488355328) := by
        have h1 := quB'_len (s.data.toList.take q)
        have h2 : (s.data.toList.take q).length ≤ s.size := by rw [List.length_take, str_len]; omega
        show _ ≤ _
        simp only [List.length_append, List.length_cons, List.length_nil]
        omega
      obtain ⟨acc, hacc⟩ : ∃ acc, bs ++ [34] ++ quB' (s.data.toList.take q) = acc := ⟨_, rfl⟩
      have HA : Hid (bs ++ [34] ++ quB' (s.data.toList.take (q + 1)) = acc ++ quB x) := by show _ = _; rw [HT.out, ← hacc]; simp only [List.append_assoc]
      rw [hacc] at HR HL
      clear hacc HT hx
      have hxb : x.toNat < 256 := x.toNat_lt
      have HQW : Hid (WrS wr WB QM LM base b' acc) := HR.out.st
      have hown : b'.ownBlock ≠ some wr.heap.size := fun e => by
        obtain ⟨_, _, _, h⟩ := owns_form HQW.out.own
        have := (h _ e).2
        omega
      have HOW : Hid _ := hown
      clear hown
      by_cases ha : x = 34 ∨ x = 92
      · have HE : Hid (quB x = [92, x]) := quB_a ha
        have fin : ∀ (w2 : World) (b2 : Value), WrS w2 WB QM LM base b2 (acc ++ [92, x]) → FrV WB WB b' b2 (wr.alloc (.cells #[.int .u8 92, .int .u8 (x.toNat : Int)] 5)) w2 → QuR wc w2 WB QM LM base b1 b2 (bs ++ [34] ++ quB' (s.data.toList.take (q + 1))) := fun w2 b2 h1 h2 => by
          rw [HA.out, HE.out]
          exact ⟨h1, HR.out.fr.trans ((FrV.first (below_alloc _ _)).trans h2)⟩
        have HFin : Hid _ := fin
        have hcall := write_any WB QM LM base b' acc [92, x] wr.heap.size 2 2 (wr.alloc (.cells #[.int .u8 92, .int .u8 (x.toNat : Int)] 5)) hB (by simp; omega) rfl (by omega) (by have := HL.out; omega) (heap_alloc_new wr _) (by omega) HOW (HQW.out.below (below_alloc _ _))
        clear fin
        rcases ha with rfl | rfl
        · go_wp2_with (go_at_call 60; refine hcall.mono ?_)
          rintro e w2 ⟨rfl, b2, hW2, hF2⟩
          have HN : Hid _ := HFin.out w2 b2 hW2 hF2
          clear hW2 hF2 hcall hcell
          go_wp2
          go_roundw
          case rel => exact ⟨q + 1, b2, by omega, by go_num, HN⟩
          case measure => simp [intOf]; omega
        · go_wp2_with (go_at_call 60; refine hcall.mono ?_)
          rintro e w2 ⟨rfl, b2, hW2, hF2⟩
          have HN : Hid _ := HFin.out w2 b2 hW2 hF2
          clear hW2 hF2 hcall hcell
          go_wp2
          go_roundw
          case rel => exact ⟨q + 1, b2, by omega, by go_num, HN⟩
          case measure => simp [intOf]; omega
      · have n1 : ¬ ((x.toNat : Int) = 34) := fun e => ha (Or.inl (by apply UInt8.toNat.inj; show x.toNat = 34; omega))
        have n2 : ¬ ((x.toNat : Int) = 92) := fun e => ha (Or.inr (by apply UInt8.toNat.inj; show x.toNat = 92; omega))
        have e1 : ((x.toNat : Int) == 34) = false := by simpa using n1
        have e2 : ((x.toNat : Int) == 92) = false := by simpa using n2
        by_cases hb : x.toNat < 32 ∨ 126 < x.toNat
        · have HE : Hid (quB x = [92, hexB (x.toNat / 16), hexB (x.toNat % 16)]) := quB_b ha hb
          have hm := mustEscape_any x.toNat
          rw [decide_eq_true hb] at hm
          have hi1 := hex_run (d := x.toNat / 16) (by omega)
          have hi2 := hex_run (d := x.toNat % 16) (by omega)
          obtain ⟨y, hy⟩ : ∃ y, hexB (x.toNat / 16) = y := ⟨_, rfl⟩
          obtain ⟨z, hz⟩ : ∃ z, hexB (x.toNat % 16) = z := ⟨_, rfl⟩
          rw [hy] at hi1 HE
          rw [hz] at hi2 HE
          obtain ⟨d1, hd1e⟩ : ∃ d : Int, ((x.toNat / 16 : Nat) : Int) = d := ⟨_, rfl⟩
          obtain ⟨d2, hd2e⟩ : ∃ d : Int, ((x.toNat % 16 : Nat) : Int) = d := ⟨_, rfl⟩
          have hd1 : IntKind.u8.wrap ((x.toNat : Int) / 16) = d1 := by rw [wrapU8 (by omega) (by omega), ← hd1e]; omega
          have hd2 : (x.toNat : Int).tmod 16 = d2 := (Int.ofNat_tmod x.toNat 16).symm.trans hd2e
          rw [hd1e] at hi1
          rw [hd2e] at hi2
          have HI : Hid ((∀ w, (Instr.index 9 (.string hexS) (.int .u8 d1)).run Tryd.prog w = .ok (.int .u8 (y.toNat : Int)) w) ∧ (∀ w, (Instr.index 9 (.string hexS) (.int .u8 d2)).run Tryd.prog w = .ok (.int .u8 (z.toNat : Int)) w) ∧ IntKind.u8.wrap ((x.toNat : Int) / 16) = d1 ∧ (x.toNat : Int).tmod 16 = d2) := ⟨hi1, hi2, hd1, hd2⟩
          have HFin : Hid (∀ (w2 : World) (b2 : Value), WrS w2 WB QM LM base b2 (acc ++ [92, y, z]) → FrV WB WB b' b2 (wr.drew.alloc (.cells #[.int .u8 92, .int .u8 (y.toNat : Int), .int .u8 (z.toNat : Int)] 5)) w2 → QuR wc w2 WB QM LM base b1 b2 (bs ++ [34] ++ quB' (s.data.toList.take (q + 1)))) := fun w2 b2 h1 h2 => by
            rw [HA.out, HE.out]
            exact ⟨h1, HR.out.fr.trans (((FrV.first (Below.refl _ _).drew).below (below_alloc _ _)).trans h2)⟩
          have hcall := write_any WB QM LM base b' acc [92, y, z] wr.heap.size 3 3 (wr.drew.alloc (.cells #[.int .u8 92, .int .u8 (y.toNat : Int), .int .u8 (z.toNat : Int)] 5)) hB (Nat.le_trans hszr ((Below.refl wr.heap.size wr).drew.alloc (Nat.le_refl _) _).size) rfl (by omega) (by have := HL.out; omega) (heap_alloc_new wr.drew _) (by omega) HOW (HQW.out.below ((Below.refl _ _).drew.alloc (Nat.le_refl _) _))
          clear hi1 hi2 hd1 hd2 hd1e hd2e hy hz hb ha n1 n2
          go_wp2_with (go_at_call 61; refine (hm _).mono ?_; rintro e w' ⟨rfl, rfl⟩)
          refine wp_region_held_drew (S := fun _ => True) (by kernel_rfl) trivial (fun hHeld => ?_)
          refine wpAnyH_take (i := 0) (v := .pointer (some ⟨WB, 0, none⟩)) rfl (by kernel_rfl) (by kernel_rfl) (by kernel_rfl) (fun _ _ _ h => h) (Or.inl ⟨by rfl, fun w hSw => ?_⟩) hHeld ?_
          · first | rfl | go_simp
          simp only [Act.put, List.setIfInBounds_toArray, List.set_cons_zero, List.set_cons_succ, List.getElem_toArray, List.getElem_cons_zero]
          refine wpAnyH_take (i := 1) (v := .pointer (some ⟨WB, 0, none⟩)) rfl (by kernel_rfl) (by kernel_rfl) (by kernel_rfl) (fun _ _ _ h => h) (Or.inl ⟨by rfl, fun w hSw => ?_⟩) hHeld ?_
          · first | rfl | go_simp
          simp only [Act.put, List.setIfInBounds_toArray, List.set_cons_zero, List.set_cons_succ, List.getElem_toArray, List.getElem_cons_zero, List.getElem_cons_succ]
          refine wpAnyH_take (i := 2) (v := .pointer (some ⟨WB, 2, none⟩)) rfl (by kernel_rfl) (by kernel_rfl) (by kernel_rfl) (fun _ _ _ h => h) (Or.inl ⟨by rfl, fun w hSw => ?_⟩) hHeld ?_
          · first | rfl | go_simp
          simp only [Act.put, List.setIfInBounds_toArray, List.set_cons_zero, List.set_cons_succ, List.getElem_toArray, List.getElem_cons_zero, List.getElem_cons_succ]
          refine wpAnyH_take (i := 3) (v := .int .u8 (x.toNat : Int)) rfl (by kernel_rfl) (by kernel_rfl) (by kernel_rfl) (fun _ _ _ h => h) (Or.inl ⟨by rfl, fun w hSw => ?_⟩) hHeld ?_
          · first | rfl | go_simp
          simp only [Act.put, List.setIfInBounds_toArray, List.set_cons_zero, List.set_cons_succ, List.getElem_toArray, List.getElem_cons_zero, List.getElem_cons_succ]
          refine wpAnyH_take (i := 4) (v := .int .u8 d1) rfl (by kernel_rfl) (by kernel_rfl) (by kernel_rfl) (fun _ _ _ h => h) (Or.inl ⟨by rfl, fun w hSw => ?_⟩) hHeld ?_
          · go_simp
            exact HI.out.2.2.1
          simp only [Act.put, List.setIfInBounds_toArray, List.set_cons_zero, List.set_cons_succ, List.getElem_toArray, List.getElem_cons_zero, List.getElem_cons_succ]
          refine wpAnyH_take (i := 5) (v := .int .u8 (y.toNat : Int)) rfl (by kernel_rfl) (by kernel_rfl) (by kernel_rfl) (fun _ _ _ h => h) (Or.inl ⟨by rfl, fun w hSw => ?_⟩) hHeld ?_
          · have s1 := HI.out.1 w
            first | rfl | go_simp
          simp only [Act.put, List.setIfInBounds_toArray, List.set_cons_zero, List.set_cons_succ, List.getElem_toArray, List.getElem_cons_zero, List.getElem_cons_succ]
          refine wpAnyH_take (i := 6) (v := .int .u8 (x.toNat : Int)) rfl (by kernel_rfl) (by kernel_rfl) (by kernel_rfl) (fun _ _ _ h => h) (Or.inl ⟨by rfl, fun w hSw => ?_⟩) hHeld ?_
          · first | rfl | go_simp
          simp only [Act.put, List.setIfInBounds_toArray, List.set_cons_zero, List.set_cons_succ, List.getElem_toArray, List.getElem_cons_zero, List.getElem_cons_succ]
          refine wpAnyH_take (i := 7) (v := .int .u8 d2) rfl (by kernel_rfl) (by kernel_rfl) (by kernel_rfl) (fun _ _ _ h => h) (Or.inl ⟨by rfl, fun w hSw => ?_⟩) hHeld ?_
          · go_simp
            exact HI.out.2.2.2
          simp only [Act.put, List.setIfInBounds_toArray, List.set_cons_zero, List.set_cons_succ, List.getElem_toArray, List.getElem_cons_zero, List.getElem_cons_succ]
          refine wpAnyH_take (i := 8) (v := .int .u8 (z.toNat : Int)) rfl (by kernel_rfl) (by kernel_rfl) (by kernel_rfl) (fun _ _ _ h => h) (Or.inl ⟨by rfl, fun w hSw => ?_⟩) hHeld ?_
          · have s1 := HI.out.2.1 w
            first | rfl | go_simp
          simp only [Act.put, List.setIfInBounds_toArray, List.set_cons_zero, List.set_cons_succ, List.getElem_toArray, List.getElem_cons_zero, List.getElem_cons_succ]
          refine wpAnyH_ready (rs := [9]) (by kernel_rfl) (by simp) ?_
          refine AllReadyH.cons rfl (fun K' hK' => ?_) AllReadyH.nil
          go_simp
          refine hK'.out _ _ trivial (fun hHeld => ?_)
          clear hK'
          refine wpAnyH_ready (rs := [10]) (by kernel_rfl) (by simp) ?_
          refine AllReadyH.cons rfl (fun K' hK' => ?_) AllReadyH.nil
          go_simp
          refine hcall.mono ?_
          clear hcall
          rintro e w2 ⟨rfl, b2, hW2, hF2⟩
          have HN : Hid _ := HFin.out w2 b2 hW2 hF2
          refine hK'.out _ _ trivial (fun hHeld => ?_)
          clear hK' hHeld hW2 hF2 hcell
          refine wpAnyH_done (by kernel_rfl) ?_ _
          go_wp2
          go_roundw
          case rel => exact ⟨q + 1, b2, by omega, by go_num, HN⟩
          case measure => simp [intOf]; omega
        · have HE : Hid (quB x = [x]) := quB_c ha hb
          have hm := mustEscape_any x.toNat
          rw [decide_eq_false hb] at hm
          have hcall := writeByte_any WB QM LM base b' acc x (x.toNat : Int) rfl wr hB (by omega) (by have := HL.out; omega) HQW
          clear hb ha n1 n2
          go_wp2_with (first
            | (go_at_call 61; refine (hm _).mono ?_; rintro e w' ⟨rfl, rfl⟩)
            | (go_at_call 62; refine hcall.mono ?_; rintro e w2 ⟨rfl, b2, hW2, hF2⟩))
          have HN : Hid (QuR wc w2 WB QM LM base b1 b2 (bs ++ [34] ++ quB' (s.data.toList.take (q + 1)))) := by
            show QuR _ _ _ _ _ _ _ _ _
            rw [HA.out, HE.out]
            exact ⟨hW2, HR.out.fr.trans hF2⟩
          clear hW2 hF2 hcall hcell
          go_wp2
          go_roundw
          case rel => exact ⟨q + 1, b2, by omega, by go_num, HN⟩
          case measure => simp [intOf]; omega
    · obtain rfl : q = s.size := by omega
      have HT : Hid (s.data.toList.take s.size = s.data.toList) := List.take_of_length_le (by rw [str_len]; exact Nat.le_refl _)
      rw [HT.out] at HR
      obtain ⟨acc, hacc⟩ : ∃ acc, bs ++ [34] ++ quB' s.data.toList = acc := ⟨_, rfl⟩
      have HA : Hid (acc ++ [34] = bs ++ quT s) := by show _ = _; rw [← hacc]; simp [quT]
      have HL : Hid (acc.length + 1 ≤ 140737488355328) := by
        have h1 := quB'_len s.data.toList
        have h2 := str_len s
        show _ ≤ _
        rw [← hacc]
        simp only [List.length_append, List.length_cons, List.length_nil]
        omega
      rw [hacc] at HR
      have hq1 : catS [⟨#[34]⟩] = [34] := rfl
      go_wp2_with (go_at_call 46; refine (wput_any WB QM LM base b' acc [⟨#[34]⟩] wr.heap.size 1 1 (wr.alloc (.cells #[.string ⟨#[34]⟩] 9)) rfl hB (by simp; omega) (by rw [hq1]; exact HL.out) (by omega) (pcs_new wr _) (by omega) (HR.out.st.below (below_alloc _ _))).mono ?_)
      rintro e w3 ⟨rfl, b3, hW3, hF3⟩
      rw [hq1, HA.out] at hW3
      have HW3 : Hid _ := hW3
      have HF3 : Hid _ := HF0.out.trans (HR.out.fr.trans ((FrV.first (below_alloc _ _)).trans hF3))
      clear hW3 hF3
      go_wp2
      go_end0
      exact ⟨rfl, b3, HW3.out, HF3.out⟩

end Go.Proofs.YtgflalfiopnmnabDoor
