import Derived.Test.YtgflalfiopnmnabDoorFzDec
import Derived.Test.YtgflalfiopnmnabDoorCnTa
namespace Go.Proofs.YtgflalfiopnmnabDoor
open Go.RowKit Vl

set_option maxHeartbeats 1000000 in
set_option maxRecDepth 100000 in
/-- 'l4plain'. -/
theorem l4plain_any (v : V) (w : World) (hv : shortV v) : Calls Tryd.prog 39 #[.agg #[.int .i64 v.k, .int .i64 v.n, .string v.s, .int .i64 v.a]] w fun e w' => e = .returned (.string ⟨(plT v).toArray⟩) ∧ Below w.heap.size w w' := by
  obtain ⟨k, m, s, a⟩ := v
  obtain ⟨hs, hm0, hm1⟩ := hv
  simp only at hs hm0 hm1 ⊢
  have HB1 : Hid (Below w.heap.size w (w.alloc (.cells #[.int .i64 k, .int .i64 m, .string s, .int .i64 a] 29))) := below_alloc _ _
  by_cases k1 : k = 1
  · subst k1
    by_cases h1 : m = 1
    · subst h1
      have HE : Hid ((⟨(plT ⟨1, 1, s, a⟩).toArray⟩ : ByteArray) = ⟨#[116, 114, 117, 101]⟩) := rfl
      rw [HE.out]
      go_enter Tryd.func39, Tryd.ntmps39
      go_wp2
      go_ret
      exact ⟨rfl, HB1.out⟩
    · have HE : Hid ((⟨(plT ⟨1, m, s, a⟩).toArray⟩ : ByteArray) = ⟨#[102, 97, 108, 115, 101]⟩) := by
        show _ = _
        unfold plT
        rw [if_pos rfl, if_neg h1]
        rfl
      rw [HE.out]
      have hne : (m == 1) = false := by simpa using h1
      go_enter Tryd.func39, Tryd.ntmps39
      go_wp2
      go_ret
      exact ⟨rfl, HB1.out⟩
  by_cases k2 : k = 2
  · subst k2
    have HE : Hid (plT ⟨2, m, s, a⟩ = Lib.itoa m) := by
      show _ = _
      simp [plT]
    rw [HE.out]
    have hd := l4decimal_any m hm0 hm1 (w.alloc (.cells #[.int .i64 2, .int .i64 m, .string s, .int .i64 a] 29))
    obtain ⟨str, hstr⟩ : ∃ str : ByteArray, ⟨(Lib.itoa m).toArray⟩ = str := ⟨_, rfl⟩
    rw [hstr] at hd ⊢
    clear hstr k1
    go_enter Tryd.func39, Tryd.ntmps39
    go_wp2_with (go_at_call 40; refine hd.mono ?_; rintro e w' ⟨rfl, hb⟩)
    have HBE : Hid (Below w.heap.size w w') := HB1.out.trans (hb.mono HB1.out.size)
    clear hb hd
    go_wp2
    go_ret
    exact ⟨rfl, HBE.out⟩
  by_cases k3 : k = 3
  · subst k3
    have HE : Hid (plT ⟨3, m, s, a⟩ = quT s) := rfl
    rw [HE.out]
    have hd := l4quote_any s (w.alloc (.cells #[.int .i64 3, .int .i64 m, .string s, .int .i64 a] 29)) (by omega)
    obtain ⟨str, hstr⟩ : ∃ str : ByteArray, ⟨(quT s).toArray⟩ = str := ⟨_, rfl⟩
    rw [hstr] at hd ⊢
    clear hstr k1 k2
    go_enter Tryd.func39, Tryd.ntmps39
    go_wp2_with (go_at_call 54; refine hd.mono ?_; rintro e w' ⟨rfl, hb⟩)
    have HBE : Hid (Below w.heap.size w w') := HB1.out.trans (hb.mono HB1.out.size)
    clear hb hd
    go_wp2
    go_ret
    exact ⟨rfl, HBE.out⟩
  · have HE : Hid ((⟨(plT ⟨k, m, s, a⟩).toArray⟩ : ByteArray) = ⟨#[110, 105, 108]⟩) := by
      show _ = _
      unfold plT
      rw [if_neg k1, if_neg k2, if_neg k3]
      rfl
    rw [HE.out]
    have e1 : (k == 1) = false := by simpa using k1
    have e2 : (k == 2) = false := by simpa using k2
    have e3 : (k == 3) = false := by simpa using k3
    go_enter Tryd.func39, Tryd.ntmps39
    go_wp2
    go_ret
    exact ⟨rfl, HB1.out⟩

/-- The freezer of the model. -/
structure SfW (w0 w : World) (FB LB XB base : Nat) (u : V) (ta : Option Addr) (n cp : Nat) (q : Nat → Nat) (t : Ft) (ov : Value) : Prop where
  blk : w.heap[FB]? = some (.cells #[.int .i64 u.k, .int .i64 u.n, .string u.s, .int .i64 u.a, .slice ta n cp, .slice (some ⟨LB, 0, none⟩) n n, .slice (some ⟨XB, 0, none⟩) n n, .int .i64 (t.N : Nat), ov] 82 (0, 0))
  led : w.rowIs LB 3 n (fun i => .int .i64 (q i : Nat))
  lab : w.rowIs XB 3 n (fun i => .int .i64 (t.lab i : Nat))
  own : w.ownsRow base 5 1 ov t.out.length (Lib.byteCells t.out)
  bel : Below w0.heap.size w0 w
structure SfB (w0 : World) (FB LB XB base : Nat) : Prop where
  fb : w0.heap.size ≤ FB
  lb : w0.heap.size ≤ LB
  xb : w0.heap.size ≤ XB
  fbb : FB < base
  lbb : LB < base
  xbb : XB < base
  n1 : FB ≠ LB
  n2 : FB ≠ XB
  n3 : LB ≠ XB
theorem nine_at {w : World} {B : Nat} {a b c d e f g h i : Value} {t : TypeId} (H : w.heap[B]? = some (.cells #[a, b, c, d, e, f, g, h, i] t (0, 0))) :
    w.cell? ⟨B, 4, none⟩ = some e ∧ w.cell? ⟨B, 5, none⟩ = some f ∧ w.cell? ⟨B, 6, none⟩ = some g ∧ w.cell? ⟨B, 7, none⟩ = some h ∧ w.cell? ⟨B, 8, none⟩ = some i ∧ ∀ j, w.frozen? ⟨B, j, none⟩ = false := by
  refine ⟨?_, ?_, ?_, ?_, ?_, fun j => ?_⟩ <;> simp [World.cell?, World.frozen?, H]
theorem SfW.below {w0 w w' : World} {FB LB XB base : Nat} {u : V} {ta : Option Addr} {n cp : Nat} {q : Nat → Nat} {t : Ft} {ov : Value} (h : SfW w0 w FB LB XB base u ta n cp q t ov) (hb : Below w.heap.size w w') : SfW w0 w' FB LB XB base u ta n cp q t ov :=
  ⟨blkB h.blk hb, h.led.of_block (hb.block _ h.led.lt), h.lab.of_block (hb.block _ h.lab.lt), (Only.below (P := fun _ => False) hb).owns h.own (fun _ _ _ h => h), h.bel.trans (hb.mono h.bel.size)⟩

/-- A table is led to once more. -/
theorem SfW.inc {w0 w : World} {FB LB XB base : Nat} {u : V} {ta : Option Addr} {n cp : Nat} {q : Nat → Nat} {t : Ft} {ov : Value} (h : SfW w0 w FB LB XB base u ta n cp q t ov) (hB : SfB w0 FB LB XB base) (r : Nat) :
    SfW w0 (w.setCell ⟨LB, r, none⟩ (.int .i64 (q r + 1 : Nat))) FB LB XB base u ta n cp (bump q r) t ov ∧ Only (fun k => k = LB) w (w.setCell ⟨LB, r, none⟩ (.int .i64 (q r + 1 : Nat))) := by
  refine ⟨⟨(Below.heap_setCell _ _ _ _ hB.n1).trans h.blk, ?_, h.lab.of_block (Below.heap_setCell _ _ _ _ (fun e => hB.n3 e.symm)), ?_, h.bel.setCell hB.lb _⟩, (Only.refl (fun k => k = LB) w).set (p := ⟨LB, r, none⟩) rfl _⟩
  · refine (h.led.set r _).congr (fun i _ => ?_)
    unfold bump
    by_cases e : i = r
    · rw [if_pos e, if_pos e]
    · rw [if_neg e, if_neg e]
  · refine ownsRow_setCell_other h.own (fun e => ?_) _
    obtain ⟨_, _, _, hk⟩ := owns_form h.own
    have := (hk _ e).1
    have := hB.lbb
    simp only at *
    omega

/-- Bytes are appended. -/
theorem SfW.put {w0 w w3 : World} {FB LB XB base : Nat} {u : V} {ta : Option Addr} {n cp : Nat} {q : Nat → Nat} {t : Ft} {ov ov' : Value} {l : List UInt8} (h : SfW w0 w FB LB XB base u ta n cp q t ov) (hB : SfB w0 FB LB XB base) (hgrow : w.grownBy w3 ov.ownBlock)
    (hown : w3.ownsRow base 5 1 ov' (t.out ++ l).length (Lib.byteCells (t.out ++ l))) (hat : ∀ k, ov'.ownBlock = some k → ov.ownBlock = some k ∨ w.heap.size ≤ k) :
    (w3.cell? ⟨FB, 8, none⟩ = some ov ∧ ∀ j, w3.frozen? ⟨FB, j, none⟩ = false) ∧ SfW w0 (w3.setCell ⟨FB, 8, none⟩ ov') FB LB XB base u ta n cp q (t.say l) ov' ∧ FrV FB FB ov ov' w (w3.setCell ⟨FB, 8, none⟩ ov') := by
  obtain ⟨_, _, _, hk⟩ := owns_form h.own
  have n1 : ov.ownBlock ≠ some FB := fun e => by have := (hk _ e).1; have := hB.fbb; omega
  have n2 : ov.ownBlock ≠ some LB := fun e => by have := (hk _ e).1; have := hB.lbb; omega
  have n3 : ov.ownBlock ≠ some XB := fun e => by have := (hk _ e).1; have := hB.xbb; omega
  have hblk := (hgrow.block FB (blk_lt h.blk) (fun e => n1 e.symm)).trans h.blk
  have hc := nine_at hblk
  have ho : Only (fun k => k = FB ∨ k = FB ∨ ov.ownBlock = some k) w w3 := ⟨hgrow.os, hgrow.tape, hgrow.output, hgrow.size, fun k hk hp => hgrow.block k hk (fun e => hp (Or.inr (Or.inr e.symm)))⟩
  refine ⟨⟨hc.2.2.2.2.1, hc.2.2.2.2.2⟩, ⟨?_, ?_, ?_, ?_, ?_⟩, ⟨ho.set (Or.inl rfl) _, fun k hk' e => ?_⟩⟩
  · simp [World.setCell, Array.getElem?_modify, hblk, Ft.say]
  · exact h.led.of_block ((Below.heap_setCell _ _ _ _ (fun e => hB.n1 e.symm)).trans (hgrow.block LB h.led.lt (fun e => n2 e.symm)))
  · exact h.lab.of_block ((Below.heap_setCell _ _ _ _ (fun e => hB.n2 e.symm)).trans (hgrow.block XB h.lab.lt (fun e => n3 e.symm)))
  · refine ownsRow_setCell_other (a := ⟨FB, 8, none⟩) hown (fun e => ?_) _
    obtain ⟨_, _, _, hk2⟩ := owns_form hown
    have := (hk2 _ e).1
    have := hB.fbb
    simp only at *
    omega
  · refine (h.bel.trans (ho.toBelow (base := w0.heap.size) (fun k hk' => ?_) h.bel.size)).setCell hB.fb _
    rcases hk' with rfl | rfl | e
    · exact hB.fb
    · exact hB.fb
    · have := (hk _ e).1; have := hB.fb; have := hB.fbb; omega
  · rcases hat k e with h' | h'
    · exact h'
    · omega

set_option maxHeartbeats 1000000 in
set_option maxRecDepth 100000 in
/-- '(*l4F).say'. -/
theorem say_any (w0 w : World) (FB LB XB base : Nat) (u : V) (ta : Option Addr) (n cp : Nat) (q : Nat → Nat) (t : Ft) (ov : Value) (s : ByteArray) (HB : Hid (SfB w0 FB LB XB base)) (hbw : base ≤ w.heap.size) (hlen : t.out.length + s.size ≤ 140737488355328) (H : Hid (SfW w0 w FB LB XB base u ta n cp q t ov)) :
    Calls Tryd.prog 38 #[.pointer (some ⟨FB, 0, none⟩), .string s] w fun e w' => e = .returned (.tuple #[]) ∧ ∃ ov', SfW w0 w' FB LB XB base u ta n cp q (t.say s.data.toList) ov' ∧ FrV FB FB ov ov' w w' := by
  obtain ⟨i0, hi, hz0, hz1, hz2⟩ := info_parts Tryd.infoU8
  obtain ⟨_, _, _, _, x8, xz⟩ := nine_at H.out.blk
  go_enter Tryd.func38, Tryd.ntmps38
  go_wp2_with (at_builtin; refine wpList_append_str (by rfl) _ _ 59 9 (by rfl) base 5 i0 Tryd.underlying59 Tryd.underlying9 hi hz0 hz1 hz2 ov t.out.length (Lib.byteCells t.out) (by rfl) H.out.own s (by rfl) hlen hbw ?_)
  intro ov' w2 hown hgrow hat
  obtain ⟨ao, cap, rfl, _⟩ := owns_form hown
  have hown' : w2.ownsRow base 5 1 (.slice ao (t.out.length + s.size) cap) (t.out ++ s.data.toList).length (Lib.byteCells (t.out ++ s.data.toList)) := by
    rw [List.length_append, str_len, show Lib.byteCells (t.out ++ s.data.toList) = Lib.byteCells t.out ++ Lib.strCells s by simp [Lib.byteCells, Lib.strCells]]
    exact hown
  obtain ⟨⟨d8, dz⟩, hW2, hF2⟩ := H.out.put HB.out hgrow hown' hat
  have HW2 : Hid _ := hW2
  have HF2 : Hid _ := hF2
  have f8 := dz 8
  clear x8 xz hW2 hF2 hown hown' hgrow hat dz
  go_wp2
  go_end0
  exact ⟨rfl, _, HW2.out, HF2.out⟩

end Go.Proofs.YtgflalfiopnmnabDoor
