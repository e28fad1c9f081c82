import Derived.Test.YtgflalfiopnmnabDoorFzWr
namespace Go.Proofs.YtgflalfiopnmnabDoor
open Go.RowKit Vl

def catS (l : List ByteArray) : List UInt8 := l.flatMap fun s => s.data.toList
theorem catS_snoc (l : List ByteArray) (s : ByteArray) : catS (l ++ [s]) = catS l ++ s.data.toList := by simp [catS]
theorem catS_le : ∀ (l : List ByteArray) (c : Nat), (catS (l.take c)).length ≤ (catS l).length
  | [], c => by simp
  | s :: l, 0 => by simp [catS]
  | s :: l, c + 1 => by
    have := catS_le l c
    simp only [catS, List.take_succ_cons, List.flatMap_cons, List.length_append] at this ⊢
    omega

/-- A row of pieces. -/
def Pcs (w : World) (PB : Nat) (l : List ByteArray) : Prop := w.heap[PB]? = some (.cells (l.map Value.string).toArray 9 (0, 0))
theorem Pcs.cell {w : World} {PB : Nat} {l : List ByteArray} (h : Pcs w PB l) {c : Nat} {s : ByteArray} (hc : l[c]? = some s) : w.cell? ⟨PB, c, none⟩ = some (.string s) := by
  unfold Pcs at h
  simp [World.cell?, h, hc]
theorem Pcs.ne {w : World} {PB base : Nat} {l : List ByteArray} (h : Pcs w PB l) {buf : Value} {n : Nat} {xs : List Value} (ho : w.ownsRow base 5 1 buf n xs) : buf.ownBlock ≠ some PB := fun e => by
  obtain ⟨_, cur, hh⟩ := owns_type ho e
  unfold Pcs at h
  rw [h] at hh
  simp at hh

set_option maxHeartbeats 1000000 in
set_option maxRecDepth 100000 in
/-- '(*writer).put'. -/
theorem wput_any (WB QM LM base : Nat) (buf : Value) (bs : List UInt8) (l : List ByteArray) (PB m c : Nat) (w : World) (hm : l.length = m) (hB : WB < base) (hbw : base ≤ w.heap.size) (hlen : bs.length + (catS l).length ≤ 140737488355328) (hm1 : m ≤ 1000)
    (HP : Hid (Pcs w PB l)) (hP1 : PB ≠ WB) (H : Hid (WrS w WB QM LM base buf bs)) :
    Calls Tryd.prog 46 #[.pointer (some ⟨WB, 0, none⟩), .slice (some ⟨PB, 0, none⟩) m c] w fun e w' => e = .returned (.tuple #[]) ∧ ∃ buf', WrS w' WB QM LM base buf' (bs ++ catS l) ∧ FrV WB WB buf buf' w w' := by
  have HM : Hid (l.length = m) := hm
  have HLEN : Hid (bs.length + (catS l).length ≤ 140737488355328) := hlen
  clear hm hlen
  go_enter Tryd.func46, Tryd.ntmps46
  go_wp2
  go_loopw [8] (fun ii wr => ∃ (q : Nat) (b' : Value), q ≤ m ∧ ii = .int .i64 q ∧ Hid (WrS wr WB QM LM base b' (bs ++ catS (l.take q))) ∧ Hid (FrV WB WB buf b' w wr)) (fun ii _ => m - (intOf ii).toNat)
  case atStart => exact ⟨0, buf, Nat.zero_le _, rfl, by simpa [catS] using H, FrV.refl _ _ _ _⟩
  case round =>
    obtain ⟨q, b', hq, rfl, HW, HF⟩ := hrel
    by_cases hlt : q < m
    · obtain ⟨s, hs⟩ : ∃ s, l[q]? = some s := ⟨l[q]'(by rw [HM.out]; exact hlt), List.getElem?_eq_getElem _⟩
      have HPr : Hid (Pcs wr PB l) := HF.out.blk HP.out hP1 hP1 (HP.out.ne H.out.own)
      have hc := HPr.out.cell hs
      have HT : Hid (l.take (q + 1) = l.take q ++ [s]) := by show _ = _; rw [List.take_add_one, hs]; rfl
      have HL1 : Hid ((bs ++ catS (l.take q)).length + s.size ≤ 140737488355328) := by
        have h1 := catS_le l (q + 1)
        have h2 := HLEN.out
        rw [HT.out, catS_snoc, List.length_append, str_len] at h1
        show _ ≤ _
        rw [List.length_append]
        omega
      have hsz : base ≤ wr.heap.size := Nat.le_trans hbw HF.out.only.size
      go_wp2_with (go_at_call 56; refine (writeString_any WB QM LM base b' (bs ++ catS (l.take q)) s wr hB hsz HL1.out HW).mono ?_)
      rintro e w2 ⟨rfl, b2, hW2, hF2⟩
      have HW2 : Hid _ := hW2
      have HF2 : Hid _ := HF.out.trans hF2
      clear hW2 hF2 hc hs
      go_wp2
      go_roundw
      case rel => exact ⟨q + 1, b2, by omega, by go_num, by rw [HT.out, catS_snoc, ← List.append_assoc]; exact HW2, HF2⟩
      case measure => simp [intOf]; omega
    · obtain rfl : q = m := by omega
      go_wp2
      go_end0
      refine ⟨rfl, b', ?_, HF.out⟩
      have h := HW.out
      rw [List.take_of_length_le (by rw [HM.out]; exact Nat.le_refl _)] at h
      exact h

end Go.Proofs.YtgflalfiopnmnabDoor
