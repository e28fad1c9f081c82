import Derived.Test.YtgflalfiopnmnabDoorFzQu2
import Derived.Test.YtgflalfiopnmnabDoorFzLay
import Derived.Lib.AppendIntMem
namespace Go.Proofs.YtgflalfiopnmnabDoor
open Go.RowKit Vl

/-- The table of powers is there, now and later. -/
def Tab (w : World) : Prop := ∀ w', Below w.heap.size w w' → Lib.TabIs Tryd.prog w' "internal/strconv.uint64pow10" .u64 Lib.pow10Tab
theorem Tab.below {w w' : World} (h : Tab w) (hb : Below w.heap.size w w') : Tab w' := fun w2 h2 => h w2 (hb.trans (h2.mono hb.size))
theorem Tab.base {w w' : World} {n : Nat} (h : ∀ w', Below n w w' → Lib.TabIs Tryd.prog w' "internal/strconv.uint64pow10" .u64 Lib.pow10Tab) (hn : n ≤ w'.heap.size) (hb : Below n w w') : Tab w' := fun w2 h2 => h w2 (hb.trans (h2.mono hn))

/-- Pieces laid anew and written. -/
theorem putL (WB QM LM base : Nat) (buf : Value) (bs : List UInt8) (l : List ByteArray) (w w3 : World) (PB m : Nat) (hPB : w3.heap.size = PB) (hm : l.length = m) (hm1 : m ≤ 1000) (hB : WB < base) (hbw : base ≤ w.heap.size) (hlen : bs.length + (catS l).length ≤ 140737488355328)
    (H : Hid (WrS w WB QM LM base buf bs)) (hb : Below w.heap.size w w3) :
    Calls Tryd.prog 46 #[.pointer (some ⟨WB, 0, none⟩), .slice (some ⟨PB, 0, none⟩) m m] (w3.alloc (.cells (l.map Value.string).toArray 9)) fun e w' => e = .returned (.tuple #[]) ∧ ∃ buf', WrS w' WB QM LM base buf' (bs ++ catS l) ∧ FrV WB WB buf buf' w w' := by
  subst hPB
  have hs := hb.size
  have hb2 : Below w.heap.size w (w3.alloc (.cells (l.map Value.string).toArray 9)) := hb.alloc hs _
  refine (wput_any WB QM LM base buf bs l w3.heap.size m m _ hm hB (by simp; omega) hlen hm1 (heap_alloc_new w3 _) (by omega) (H.out.below hb2)).mono ?_
  rintro e w' ⟨rfl, b', h1, h2⟩
  exact ⟨rfl, b', h1, (FrV.first hb2).trans h2⟩

theorem toN (l : List UInt8) : (⟨l.toArray⟩ : ByteArray).data.toList = l := rfl
theorem tab_grow {w : World} {k : Nat} {os : Array Obj} : Below w.heap.size w (Go.Sort.grow (w.drewN k) os) := Lib.below_grow _ w (Nat.le_refl _) k os

set_option maxHeartbeats 2000000 in
set_option maxRecDepth 100000 in
/-- '(*writer).plain'. -/
theorem wplain_any (WB QM LM base : Nat) (buf : Value) (bs : List UInt8) (v : V) (w : World) (hB : WB < base) (hbw : base ≤ w.heap.size) (hlen : bs.length ≤ 1000000000) (hk : v.k = 0 ∨ v.k = 1 ∨ v.k = 2 ∨ v.k = 3) (hv : shortV v) (HT : Hid (Tab w))
    (H : Hid (WrS w WB QM LM base buf bs)) :
    Calls Tryd.prog 34 #[.pointer (some ⟨WB, 0, none⟩), .agg #[.int .i64 v.k, .int .i64 v.n, .string v.s, .int .i64 v.a]] w fun e w' => e = .returned (.tuple #[]) ∧ ∃ buf', WrS w' WB QM LM base buf' (bs ++ plT v) ∧ FrV WB WB buf buf' w w' := by
  obtain ⟨k, m, s, a⟩ := v
  obtain ⟨hs, hm0, hm1⟩ := hv
  simp only at hs hm0 hm1 hk ⊢
  have hb1 : ∀ k, Below w.heap.size w (w.alloc (.cells #[.int .i64 k, .int .i64 m, .string s, .int .i64 a] 29)) := fun _ => below_alloc _ _
  rcases hk with rfl | rfl | rfl | rfl
  · have HE : Hid (plT ⟨0, m, s, a⟩ = catS [⟨#[110, 105, 108]⟩]) := rfl
    rw [HE.out]
    have hcall := putL WB QM LM base buf bs [⟨#[110, 105, 108]⟩] w _ (w.heap.size + 1) 1 (by simp) rfl (by omega) hB hbw (by rw [show (catS [⟨#[110, 105, 108]⟩]).length = 3 from rfl]; omega) H (hb1 0)
    clear hb1
    go_enter Tryd.func34, Tryd.ntmps34
    go_wp2_with (go_at_call 46; refine hcall.mono ?_; rintro e w' ⟨rfl, hh⟩)
    clear hcall
    have HH : Hid _ := hh
    clear hh
    go_end0
    exact ⟨rfl, HH.out⟩
  · by_cases h1 : m = 1
    · subst h1
      have HE : Hid (plT ⟨1, 1, s, a⟩ = catS [⟨#[116, 114, 117, 101]⟩]) := rfl
      rw [HE.out]
      have hcall := putL WB QM LM base buf bs [⟨#[116, 114, 117, 101]⟩] w _ (w.heap.size + 1) 1 (by simp) rfl (by omega) hB hbw (by rw [show (catS [⟨#[116, 114, 117, 101]⟩]).length = 4 from rfl]; omega) H (hb1 1)
      clear hb1
      go_enter Tryd.func34, Tryd.ntmps34
      go_wp2_with (first | (go_at_call 46; refine hcall.mono ?_; rintro e w' ⟨rfl, hh⟩) | go_in)
      clear hcall
      have HH : Hid _ := hh
      clear hh
      go_end0
      exact ⟨rfl, HH.out⟩
    · have HE : Hid (plT ⟨1, m, s, a⟩ = catS [⟨#[102, 97, 108, 115, 101]⟩]) := by
        show _ = _
        unfold plT
        rw [if_pos rfl, if_neg h1]
        rfl
      rw [HE.out]
      have hcall := putL WB QM LM base buf bs [⟨#[102, 97, 108, 115, 101]⟩] w _ (w.heap.size + 1) 1 (by simp) rfl (by omega) hB hbw (by rw [show (catS [⟨#[102, 97, 108, 115, 101]⟩]).length = 5 from rfl]; omega) H (hb1 1)
      have hne : (m == 1) = false := by simpa using h1
      clear hb1
      go_enter Tryd.func34, Tryd.ntmps34
      go_wp2_with (first | (go_at_call 46; refine hcall.mono ?_; rintro e w' ⟨rfl, hh⟩) | go_in)
      clear hcall
      have HH : Hid _ := hh
      clear hh
      go_end0
      exact ⟨rfl, HH.out⟩
  · have HE : Hid (plT ⟨2, m, s, a⟩ = catS [⟨(Lib.itoa m).toArray⟩]) := by
      show _ = _
      unfold plT
      simp [catS]
    rw [HE.out]
    have hfi := formatInt_any m hm0 hm1 _ (HT.out _ (hb1 2))
    have hsl : (Lib.itoa m).length ≤ 20 := itoa_len hm0 hm1
    have hsl2 : (catS [⟨(Lib.itoa m).toArray⟩]).length ≤ 20 := by simpa [catS] using hsl
    obtain ⟨str, hstr⟩ : ∃ str : ByteArray, ⟨(Lib.itoa m).toArray⟩ = str := ⟨_, rfl⟩
    rw [hstr] at hfi hsl2 ⊢
    have hcall : ∀ w3, Below w.heap.size w w3 → Calls Tryd.prog 46 #[.pointer (some ⟨WB, 0, none⟩), .slice (some ⟨w3.heap.size, 0, none⟩) 1 1] (w3.alloc (.cells #[.string str] 9)) fun e w' => e = .returned (.tuple #[]) ∧ ∃ buf', WrS w' WB QM LM base buf' (bs ++ catS [str]) ∧ FrV WB WB buf buf' w w' :=
      fun w3 hb => putL WB QM LM base buf bs [str] w w3 w3.heap.size 1 rfl rfl (by omega) hB hbw (by omega) H hb
    have HC : Hid _ := hcall
    clear hcall hsl hsl2 hstr
    have HB1 : Hid _ := hb1 2
    clear hb1
    go_enter Tryd.func34, Tryd.ntmps34
    go_wp2_with (go_at_call 50; refine hfi.mono ?_; rintro e w' ⟨rfl, hx⟩)
    have hb3 : Below w.heap.size w w' := by obtain ⟨q, os, hw'⟩ := hx; rw [hw']; exact HB1.out.trans (tab_grow.mono HB1.out.size)
    have hc := HC.out w' hb3
    clear HC hx hb3 hfi
    go_wp2_with (go_at_call 46; refine hc.mono ?_; rintro e w4 ⟨rfl, hh⟩)
    clear hc
    have HH : Hid _ := hh
    clear hh
    go_end0
    exact ⟨rfl, HH.out⟩
  · have HE : Hid (plT ⟨3, m, s, a⟩ = quT s) := rfl
    rw [HE.out]
    have hcall := quote_any WB QM LM base buf bs s _ hB (Nat.le_trans hbw (hb1 3).size) (by omega) hlen (H.out.below (hb1 3))
    have HB1 : Hid _ := hb1 3
    clear hb1
    go_enter Tryd.func34, Tryd.ntmps34
    go_wp2_with (go_at_call 51; refine hcall.mono ?_; rintro e w' ⟨rfl, b2, h1, h2⟩)
    clear hcall
    have HH : Hid _ := h1
    have HF : Hid _ := (FrV.first HB1.out).trans h2
    clear h1 h2
    go_end0
    exact ⟨rfl, b2, HH.out, HF.out⟩

end Go.Proofs.YtgflalfiopnmnabDoor
