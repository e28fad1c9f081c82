import Derived.Test.YtgflalfiopnmnabDoorFzBld
namespace Go.Proofs.YtgflalfiopnmnabDoor
open Go.RowKit Vl

theorem byteCells_one (bs : List UInt8) (b : UInt8) : Lib.byteCells (bs ++ [b]) = Lib.byteCells bs ++ [.int .u8 b.toNat] := by simp [Lib.byteCells]
theorem byteCells_app (bs cs : List UInt8) : Lib.byteCells (bs ++ cs) = Lib.byteCells bs ++ Lib.byteCells cs := by simp [Lib.byteCells]
theorem byteCells_len (bs : List UInt8) : (Lib.byteCells bs).length = bs.length := by simp [Lib.byteCells]

set_option maxHeartbeats 2000000 in
set_option maxRecDepth 100000 in
/-- '(*strings.Builder).WriteByte' in the writer. -/
theorem writeByte_any (WB QM LM base : Nat) (buf : Value) (bs : List UInt8) (b : UInt8) (bi : Int) (hbi : bi = (b.toNat : Int)) (w : World) (hB : WB < base) (hbw : base ≤ w.heap.size) (hlen : bs.length + 1 ≤ 140737488355328) (H : Hid (WrS w WB QM LM base buf bs)) :
    Calls Tryd.prog 62 #[pW WB, .int .u8 bi] w fun e w' => e = .returned .nilIface ∧ ∃ buf', WrS w' WB QM LM base buf' (bs ++ [b]) ∧ FrV WB WB buf buf' w w' := by
  obtain ⟨i0, hi, hz0, hz1, hz2⟩ := info_parts Tryd.infoU8
  have HB : Hid (bi = (b.toNat : Int)) := hbi
  clear hbi
  go_enter Tryd.func62, Tryd.ntmps62
  go_wp2_with (go_at_call 64; refine (copyCheck_any WB QM LM base buf bs w hB H.out).mono ?_)
  rintro e w1 ⟨rfl, hU, hF, hs1⟩
  have HU : Hid (WrU w1 WB QM LM base buf bs) := hU
  have HF : Hid (FrV WB WB buf buf w w1) := hF
  have HS : Hid (w1.heap.size = w.heap.size) := hs1
  obtain ⟨c0, c1, c2, c3, _, _⟩ := four_at hU.blk
  clear hU hF hs1
  go_wp2_with (at_builtin; refine wpList_append_lies _ (by rfl) _ _ 59 (by rfl) base 5 i0 (.int .u8 0) 1 1 Tryd.underlying59 hi hz0 hz1 hz2 (by rfl) (by omega) buf bs.length (Lib.byteCells bs) (by rfl) (HU.out.own.alloc _) ⟨w1.heap.size, 0, none⟩ 1 1 [.int .u8 bi] (by rfl) (by rfl) ?c1 ?c2 (by omega) ?c3 ?c4 ?c5 (w1.heap.size + 1) ?c6 ?_)
  case c1 => exact World.news_of_block (heap_alloc_new w1 _)
  case c2 => intro u hu; simp at hu; subst hu; rfl
  case c3 => unfold maxLen; omega
  case c4 => omega
  case c5 => have := HS.out; simp; omega
  case c6 => simp
  intro g cap w2 hown hgrow hat _
  have hown' : w2.ownsRow base 5 1 (.slice (some ⟨g, 0, none⟩) (bs.length + 1) cap) (bs ++ [b]).length (Lib.byteCells (bs ++ [b])) := by
    rw [byteCells_one, List.length_append, ← HB.out]
    exact hown
  have hba : Below w1.heap.size w1 (w1.alloc (.cells #[.int .u8 bi] 5)) := (Below.refl _ _).alloc (Nat.le_refl _) _
  have hUa : WrU (w1.alloc (.cells #[.int .u8 bi] 5)) WB QM LM base buf bs := ⟨blkB HU.out.blk hba, HU.out.own.alloc _⟩
  obtain ⟨⟨d3, dz⟩, hU2, hF2⟩ := hUa.put hB hgrow hown' (fun k hk => by
    simp only [Value.ownBlock, Option.some.injEq] at hk
    rcases hat with h | h
    · exact Or.inl (by rw [h, hk])
    · right; simp; omega)
  have HU2 : Hid _ := hU2
  have HF2 : Hid _ := (HF.out.below hba).trans hF2
  have f3 := dz 3
  clear c0 c1 c2 c3 hU2 hF2 hown hown' hgrow hat dz hba hUa
  go_wp2
  go_ret
  exact ⟨rfl, _, HU2.out.toS, HF2.out⟩

set_option maxHeartbeats 2000000 in
set_option maxRecDepth 100000 in
/-- '(*strings.Builder).Write' in the writer, of some bytes in a block of their own. -/
theorem write_any (WB QM LM base : Nat) (buf : Value) (bs cs : List UInt8) (PB m c : Nat) (w : World) (hB : WB < base) (hbw : base ≤ w.heap.size) (hm : cs.length = m) (hm0 : 0 < m) (hlen : bs.length + m ≤ 140737488355328)
    (HP : Hid (w.heap[PB]? = some (.cells (Lib.byteCells cs).toArray 5 (0, 0)))) (hPne : PB ≠ WB) (HPo : Hid (buf.ownBlock ≠ some PB)) (H : Hid (WrS w WB QM LM base buf bs)) :
    Calls Tryd.prog 60 #[pW WB, .slice (some ⟨PB, 0, none⟩) m c] w fun e w' => e = .returned (.tuple #[.int .i64 m, .nilIface]) ∧ ∃ buf', WrS w' WB QM LM base buf' (bs ++ cs) ∧ FrV WB WB buf buf' w w' := by
  obtain ⟨i0, hi, hz0, hz1, hz2⟩ := info_parts Tryd.infoU8
  have HM : Hid (cs.length = m) := hm
  clear hm
  go_enter Tryd.func60, Tryd.ntmps60
  go_wp2_with (go_at_call 64; refine (copyCheck_any WB QM LM base buf bs w hB H.out).mono ?_)
  rintro e w1 ⟨rfl, hU, hF, hs1⟩
  have HU : Hid (WrU w1 WB QM LM base buf bs) := hU
  have HF : Hid (FrV WB WB buf buf w w1) := hF
  have HS : Hid (w1.heap.size = w.heap.size) := hs1
  have HP1 : Hid (w1.heap[PB]? = some (.cells (Lib.byteCells cs).toArray 5 (0, 0))) := hF.blk HP.out hPne hPne HPo.out
  obtain ⟨c0, c1, c2, c3, _, _⟩ := four_at hU.blk
  clear hU hF hs1
  go_wp2_with (at_builtin; refine wpList_append_lies _ (by rfl) _ _ 59 (by rfl) base 5 i0 (.int .u8 0) 1 1 Tryd.underlying59 hi hz0 hz1 hz2 (by rfl) (by omega) buf bs.length (Lib.byteCells bs) (by rfl) HU.out.own ⟨PB, 0, none⟩ m c (Lib.byteCells cs) (by rfl) (by rw [byteCells_len, HM.out, Nat.mul_one]) ?c1 ?c2 hm0 ?c3 ?c4 ?c5 w1.heap.size ?c6 ?_)
  case c1 => exact World.news_of_block HP1.out
  case c2 => intro u hu; simp [Lib.byteCells] at hu; obtain ⟨x, _, rfl⟩ := hu; rfl
  case c3 => unfold maxLen; omega
  case c4 => omega
  case c5 => have := HS.out; omega
  case c6 => rfl
  intro g cap w2 hown hgrow hat _
  have hown' : w2.ownsRow base 5 1 (.slice (some ⟨g, 0, none⟩) (bs.length + m) cap) (bs ++ cs).length (Lib.byteCells (bs ++ cs)) := by
    rw [byteCells_app, List.length_append, HM.out]
    exact hown
  obtain ⟨⟨d3, dz⟩, hU2, hF2⟩ := HU.out.put hB hgrow hown' (fun k hk => by
    simp only [Value.ownBlock, Option.some.injEq] at hk
    rcases hat with h | h
    · exact Or.inl (by rw [h, hk])
    · right; omega)
  have HU2 : Hid _ := hU2
  have HF2 : Hid _ := HF.out.trans hF2
  have f3 := dz 3
  clear c0 c1 c2 c3 hU2 hF2 hown hown' hgrow hat dz
  go_wp2
  go_ret2
  exact ⟨rfl, _, HU2.out.toS, HF2.out⟩

set_option maxRecDepth 100000 in
/-- '(*writer).tooLong'. -/
theorem tooLong_any (WB QM LM base : Nat) (buf : Value) (bs : List UInt8) (w : World) (H : Hid (WrS w WB QM LM base buf bs)) :
    Calls Tryd.prog 19 #[.pointer (some ⟨WB, 0, none⟩)] w fun e w' => e = .returned (.bool (decide (20000 < bs.length))) ∧ w' = w := by
  obtain ⟨p, hp, hb⟩ := H.out.blk
  obtain ⟨c0, c1, c2, c3, _, _⟩ := four_at hb
  obtain ⟨ao, cap, rfl, _⟩ := owns_form H.out.own
  clear hb hp
  go_enter Tryd.func19, Tryd.ntmps19
  go_wp2
  go_ret
  refine ⟨?_, rfl⟩
  congr 2
  by_cases h : 20000 < bs.length
  · simp [h]; omega
  · simp [h]; omega

end Go.Proofs.YtgflalfiopnmnabDoor
