import Derived.Test.YtgflalfiopnmnaaGreatDoorKyDraw
namespace Go.Proofs.YtgflalfiopnmnaaGreatDoor
open Go.RowKit

def strLen : Value → Nat
  | .string s => s.size
  | _ => 0

theorem Tryz.info5 : (Tryz.prog.info? 5).map (fun i => (i.zero, i.size, i.bytes)) = some (some (.int .u8 0), 1, 1) := by kernel_rfl

section
variable {w w' : World} {CB : Nat} {ca : Option Addr} {cl cc cb co t : Nat}

theorem Rd.keep (h : Rd w CB ca cl cc cb co t) {base : Nat} (hb : Below base w w') (h1 : CB < base) (h2 : 0 < cl → cb < base) : Rd w' CB ca cl cc cb co t := by
  obtain ⟨a, sd, ha, hh⟩ := h.cur.ex
  exact ⟨⟨a, sd, ha, by rw [hb.block CB h1]; exact hh⟩, fun i hi => by obtain ⟨e, x, hx, hcl⟩ := h.byt i hi; exact ⟨e, x, hx, (hb.cell (p := ⟨cb, co + i, none⟩) (h2 (by omega))).trans hcl⟩, h.ne, h.len⟩
theorem Rd.blocks (h : Rd w CB ca cl cc cb co t) : CB < w.heap.size ∧ (0 < cl → cb < w.heap.size) :=
  ⟨h.cur.lt, fun hc => by obtain ⟨_, x, _, hcl⟩ := h.byt 0 hc; exact World.block_lt_of_cell? _ _ hcl⟩

/-- Bytes that are owned, as a text. -/
theorem bytes_text {base n : Nat} {v : Value} {zs : List Int} (ho : w.ownsRow base 5 1 v n (zs.map (Value.int .u8))) (hn : zs.length = n) : ∃ s : ByteArray, s.size = n ∧ ∀ dst, Tryz.prog.underlying dst = some .string → (convert 22 dst v).run Tryz.prog w = .ok (.string s) w := by
  rcases id ho.2 with ⟨rfl, h0⟩ | ⟨g, cap, cur, rfl, hg, hh, r⟩
  · exact ⟨ByteArray.empty, by rw [h0]; rfl, run_convert_bytes_nil w _ _ Tryz.underlying22 Tryz.underlying5 0 0⟩
  · refine ⟨strOfNums zs, by rw [strOfNums_size, hn], run_convert_bytes_arg w _ _ Tryz.underlying22 Tryz.underlying5 g 0 n cap zs hn (fun i hi => ?_)⟩
    have := ho.cellAt i (by omega)
    rw [Nat.zero_add, this]
    simp [List.getElem?_eq_getElem (show i < zs.length by omega), List.getD]

set_option maxHeartbeats 1000000 in
set_option maxRecDepth 100000 in
/-- 'text'. -/
theorem text_r (h : Rd w CB ca cl cc cb co t) (ht : t ≤ 80000000) :
    Calls Tryz.prog 85 #[.pointer (some ⟨CB, 0, none⟩)] w fun e w' => (∃ s : ByteArray, s.size ≤ 500 ∧ e = .returned (.string s)) ∧ Hid (Rd w' CB ca cl cc cb co (t + 20)) ∧ Hid (Only (fun k => k = CB) w w') := by
  have hp := pick_r 30 h (by omega) (by omega) (by omega)
  clear h
  go_enter Tryz.func85, Tryz.ntmps85
  go_wp2_with fail
  refine hp.mono ?_
  clear hp
  rintro e w1 ⟨⟨y, hy, rfl⟩, HR, HO⟩
  by_cases y0 : y = 0
  · subst y0
    clear hy
    go_wp2
    go_loop [3] (fun x => ∃ s : ByteArray, x = .string s ∧ 0 < s.size ∧ s.size ≤ 1000) (fun x => 1000 - strLen x)
    case atStart => exact ⟨_, rfl, by decide, by decide⟩
    case round =>
      obtain ⟨s, rfl, hs0, hs1⟩ := hrel
      by_cases hs : s.size < 500
      · have hsz : (s ++ s).size = s.size + s.size := ByteArray.size_append
        go_wp2
        exact ⟨⟨_, rfl, by omega, by omega⟩, by simp only [strLen]; omega⟩
      · have hp := pick_r 2 HR.out (by omega) (by omega) (by omega)
        go_wp2_with fail
        refine hp.mono ?_
        clear hp
        rintro e w2 ⟨⟨z, hz, rfl⟩, HR2, HO2⟩
        go_wp2
        go_ret
        refine ⟨⟨s.extract 0 (500 - z), ?_, rfl⟩, HR2.out.mono (by omega), HO.out.trans HO2.out⟩
        rw [ByteArray.size_extract]
        omega
  · have hy0 : ((y : Int) == 0) = false := by simpa using y0
    have hp := pick_r 4 HR.out (by omega) (by omega) (by omega)
    clear y0
    go_wp2_with fail
    refine hp.mono ?_
    clear hp
    rintro e w2 ⟨⟨z, hz, rfl⟩, HR2, HO2⟩
    have HOa : Hid (Only (fun k => k = CB) w w2) := HO.out.trans HO2.out
    clear HO HO2 HR hy hy0
    by_cases z0 : z = 0
    · subst z0
      clear hz
      go_wp2
      go_ret
      exact ⟨⟨_, by decide, rfl⟩, HR2.out.mono (by omega), HOa.out⟩
    have hz0 : ((z : Int) == 0) = false := by simpa using z0
    by_cases z1 : z = 1
    · subst z1
      clear hz hz0 z0
      have hp := pick_r 4 HR2.out (by omega) (by omega) (by omega)
      obtain ⟨i0, hi, hiz0, hiz1, hiz2⟩ := info_parts Tryz.info5
      go_wp2_with fail
      refine hp.mono ?_
      clear hp
      rintro e w3 ⟨⟨m, hm, rfl⟩, HR3, HO3⟩
      have HOb : Hid (Only (fun k => k = CB) w w3) := HOa.out.trans HO3.out
      have hbl := HR3.out.blocks
      have hws : w.heap.size ≤ w3.heap.size := HOb.out.size
      clear HOa HO3 HR2
      go_wp2
      go_loopw [4, 5] (fun out nn wr => ∃ (k : Nat) (zs : List Int) (v : Value), zs.length + k ≤ 3 ∧ nn = .int .i64 k ∧ v = out ∧ Hid (wr.ownsRow w3.heap.size 5 1 v zs.length (zs.map (Value.int .u8))) ∧ Hid (Rd wr CB ca cl cc cb co (t + 6 + 2 * zs.length)) ∧ Hid (Only (fun k => k = CB) w wr) ∧ w3.heap.size ≤ wr.heap.size) (fun _ nn _ => (intOf nn).toNat)
      case atStart => exact ⟨m, [], _, by simp; omega, rfl, rfl, World.ownsRow_nil _ _ _ _, HR3.out, HOb.out, Nat.le_refl _⟩
      case round =>
        obtain ⟨k, zs, out, hzk, rfl, rfl, HW, HRr, HOr, hsz⟩ := hrel
        by_cases hk : 0 < k
        · have hp := next_r HRr.out (by omega)
          go_wp2_with fail
          refine hp.mono ?_
          clear hp
          rintro e w4 ⟨⟨q, hq, rfl⟩, HR4, HO4⟩
          have HW4 : Hid (w4.ownsRow w3.heap.size 5 1 out zs.length (zs.map (Value.int .u8))) := HO4.out.owns HW.out (fun g hg _ e => by omega)
          have HO5 : Hid (Only (fun k => k = CB) w w4) := HOr.out.trans HO4.out
          have hs4 : w3.heap.size ≤ w4.heap.size := Nat.le_trans hsz HO4.out.size
          clear HO4 HOr HRr HW
          go_wp2_with (at_builtin; refine wpList_append_lies _ (by rfl) (.tmp 32) (.tmp 36) 22 (by rfl) w3.heap.size 5 i0 (.int .u8 0) 1 1 Tryz.underlying22 hi hiz0 hiz1 hiz2 (by rfl) (by omega) out zs.length (zs.map (Value.int .u8)) (by rfl) (HW4.out.alloc _) ⟨w4.heap.size, 0, none⟩ 1 1 [.int .u8 q] (by rfl) (by rfl) (World.news_of_block (heap_alloc_new w4 _)) (by intro u hu; simp at hu; subst hu; rfl) (by omega) (by unfold maxLen; omega) (by omega) (by simp; omega) (w4.heap.size + 1) (by simp) ?_; intro g cap w5 hown5 hgrow5 hat hlt)
          have hbel := below_grown (HW4.out.alloc _) hgrow5 (by simp; omega)
          have HR5 : Hid (Rd w5 CB ca cl cc cb co (t + 6 + 2 * (zs ++ [(q : Int)]).length)) := ((HR4.out.alloc _).keep hbel hbl.1 hbl.2).mono (by simp; omega)
          have HO6 : Hid (Only (fun k => k = CB) w w5) := (HO5.out.alloc _).thenBelow hbel hws
          have HW5 : Hid (w5.ownsRow w3.heap.size 5 1 (.slice (some ⟨g, 0, none⟩) (zs.length + 1) cap) (zs ++ [(q : Int)]).length ((zs ++ [(q : Int)]).map (Value.int .u8))) := by
            rw [List.map_append, List.length_append]; exact hown5
          have hs5 : w3.heap.size ≤ w5.heap.size := Nat.le_trans (by simp; omega) hbel.size
          clear hown5 hgrow5 hbel HW4 HO5 HR4 hat
          go_roundw
          case rel => exact ⟨k - 1, zs ++ [(q : Int)], _, by simp; omega, by go_num, rfl, HW5, HR5, HO6, hs5⟩
          case measure => simp [intOf]; omega
        · obtain rfl : k = 0 := by omega
          obtain ⟨sx, hsx, hcv⟩ := bytes_text HW.out rfl
          have hcv' := hcv 9 Tryz.underlying9
          clear hcv
          go_wp2
          go_ret
          exact ⟨⟨sx, by omega, rfl⟩, HRr.out.mono (by omega), HOr.out⟩
    · have hz1 : ((z : Int) == 1) = false := by simp; omega
      have hp := pick_r 3 HR2.out (by omega) (by omega) (by omega)
      clear z0 z1
      go_wp2_with fail
      refine hp.mono ?_
      clear hp
      rintro e w3 ⟨⟨m, hm, rfl⟩, HR3, HO3⟩
      have hcell : ∀ (q : Int) (i : Nat), i < 1 → (w3.alloc (.cells #[.int .u8 q] 5)).cell? ⟨w3.heap.size, 0 + i, none⟩ = some (.int .u8 ([q].getD i 0)) := fun q i hi => by
        obtain rfl : i = 0 := by omega
        simp [World.cell?_alloc_new]
      have hcv := fun q => run_convert_bytes_arg (P := Tryz.prog) (w3.alloc (.cells #[.int .u8 q] 5)) 22 5 Tryz.underlying22 Tryz.underlying5 w3.heap.size 0 1 1 [q] rfl (hcell q) 9 Tryz.underlying9
      clear hcell
      go_wp2
      go_ret
      exact ⟨⟨_, by rw [strOfNums_size]; simp, rfl⟩, (HR3.out.alloc _).mono (by omega), (HOa.out.trans HO3.out).alloc _⟩
end

end Go.Proofs.YtgflalfiopnmnaaGreatDoor
