import Derived.Test.YtgflalfiopnmnaaGreatDoorKyText
import Derived.Test.YtgflalfiopnmnaaGreatDoorVlOrd
import Derived.Test.YtgflalfiopnmnaaGreatDoorVlSp
import Derived.Test.YtgflalfiopnmnaaGreatDoorOnlyB
import Derived.MapKept
namespace Go.Proofs.YtgflalfiopnmnaaGreatDoor
open Go.RowKit Vl

section
variable {w w' : World} {CB : Nat} {ca : Option Addr} {cl cc cb co t t' : Nat}

def DrewP (p : V → Prop) (w : World) (CB : Nat) (ca : Option Addr) (cl cc cb co t : Nat) (e : Ending) (w' : World) : Prop :=
  ∃ v : V, p v ∧ e = .returned (.agg #[.int .i64 v.k, .int .i64 v.n, .string v.s, .int .i64 v.a]) ∧ Rd w' CB ca cl cc cb co t ∧ Only (fun k => k = CB) w w'
def keyP (v : V) : Prop := v.s.size ≤ 500 ∧ isK v = true ∧ -9223372036854775808 ≤ v.n ∧ v.n ≤ 9223372036854775807
def valP (n : Nat) (v : V) : Prop := v.s.size ≤ 500 ∧ isV n v = true ∧ v.k ≠ 0 ∧ -9223372036854775808 ≤ v.n ∧ v.n ≤ 9223372036854775807
theorem keyP_bool {z : Nat} (hz : z < 2) : keyP ⟨1, z, ⟨#[]⟩, 0⟩ := by
  refine ⟨Nat.zero_le _, ?_, by simp only; omega, by simp only; omega⟩
  have : z = 0 ∨ z = 1 := by omega
  rcases this with rfl | rfl <;> (unfold isK isV; simp)
theorem keyP_text {s : ByteArray} (hs : s.size ≤ 500) : keyP ⟨3, 0, s, 0⟩ := by
  refine ⟨hs, ?_, by simp, by simp⟩
  unfold isK isV
  simp [hs]
theorem keyP_int {q : Int} (h1 : -9223372036854775808 ≤ q) (h2 : q ≤ 9223372036854775807) : keyP ⟨2, q, ⟨#[]⟩, 0⟩ := by
  refine ⟨Nat.zero_le _, ?_, h1, h2⟩
  unfold isK isV
  simp
theorem valP_key {n : Nat} {v : V} (h : keyP v) : valP n v := by
  obtain ⟨h1, h2, h3⟩ := h
  unfold isK at h2
  simp only [Bool.and_eq_true, Bool.or_eq_true, beq_iff_eq] at h2
  have hk : v.k ≠ 4 ∧ v.k ≠ 0 := by omega
  refine ⟨h1, ?_, hk.2, h3⟩
  have := h2.2
  unfold isV at this ⊢
  simp only [hk.1, if_false] at this ⊢
  exact this
theorem valP_tab {n q : Nat} (hq : q < n) : valP n ⟨4, 0, ⟨#[]⟩, q⟩ := by
  refine ⟨Nat.zero_le _, ?_, by simp, by simp, by simp⟩
  unfold isV
  simp
  omega

theorem only_set {a b : World} {P : Nat → Prop} (h : Only P a b) {p : Addr} (hp : a.heap.size ≤ p.block) (v : Value) : Only P a (b.setCell p v) :=
  h.thenBelow ((Below.refl a.heap.size b).setCell hp v) (Nat.le_refl _)

theorem four {w : World} {B : Nat} {a b c d : Value} {t : TypeId} (h : w.heap[B]? = some (.cells #[a, b, c, d] t (0, 0))) :
    w.cell? ⟨B, 0, none⟩ = some a ∧ w.cell? ⟨B, 1, none⟩ = some b ∧ w.cell? ⟨B, 2, none⟩ = some c ∧ w.cell? ⟨B, 3, none⟩ = some d ∧ ∀ i, w.frozen? ⟨B, i, none⟩ = false := by
  refine ⟨?_, ?_, ?_, ?_, fun i => ?_⟩ <;> simp [World.cell?, World.frozen?, h]

theorem put4_at {w : World} {B : Nat} {a b c d : Value} {t : TypeId} (h : w.heap[B]? = some (.cells #[a, b, c, d] t (0, 0))) (a' b' c' d' : Value) :
    ((((w.setCell ⟨B, 0, none⟩ a').setCell ⟨B, 1, none⟩ b').setCell ⟨B, 2, none⟩ c').setCell ⟨B, 3, none⟩ d').heap[B]? = some (.cells #[a', b', c', d'] t (0, 0)) := by
  simp [World.setCell, Array.getElem?_modify, h]
theorem put4_below (w : World) (B : Nat) (a' b' c' d' : Value) : Below B w ((((w.setCell ⟨B, 0, none⟩ a').setCell ⟨B, 1, none⟩ b').setCell ⟨B, 2, none⟩ c').setCell ⟨B, 3, none⟩ d') :=
  ((((Below.refl B w).setCell (Nat.le_refl _) _).setCell (Nat.le_refl _) _).setCell (Nat.le_refl _) _).setCell (Nat.le_refl _) _

def Empty4 (w : World) (B : Nat) : Prop := w.heap[B]? = some (.cells #[.int .i64 0, .int .i64 0, .string ⟨#[]⟩, .int .i64 0] 24 (0, 0))
theorem Empty4.only {w w' : World} {B CB : Nat} (h : Empty4 w B) (ho : Only (fun k => k = CB) w w') (hne : B ≠ CB) : Empty4 w' B := (ho.block B (lt_of_block h) hne).trans h
theorem Empty4.new (w : World) : Empty4 (w.alloc (.cells #[.int .i64 0, .int .i64 0, .string ⟨#[]⟩, .int .i64 0] 24)) w.heap.size := heap_alloc_new _ _

theorem Rd.put4 (h : Rd w' CB ca cl cc cb co t) (hw : Rd w CB ca cl cc cb co t') (ho : Only (fun k => k = CB) w w') (a b c d : Value) :
    Rd ((((w'.setCell ⟨w.heap.size, 0, none⟩ a).setCell ⟨w.heap.size, 1, none⟩ b).setCell ⟨w.heap.size, 2, none⟩ c).setCell ⟨w.heap.size, 3, none⟩ d) CB ca cl cc cb co t ∧ Only (fun k => k = CB) w ((((w'.setCell ⟨w.heap.size, 0, none⟩ a).setCell ⟨w.heap.size, 1, none⟩ b).setCell ⟨w.heap.size, 2, none⟩ c).setCell ⟨w.heap.size, 3, none⟩ d) :=
  ⟨h.keep (put4_below w' w.heap.size a b c d) hw.blocks.1 hw.blocks.2, ho.thenBelow (put4_below w' w.heap.size a b c d) (Nat.le_refl _)⟩

set_option maxHeartbeats 1000000 in
set_option maxRecDepth 100000 in
theorem key_p (h : Rd w CB ca cl cc cb co t) (ht : t ≤ 70000000) :
    Calls Tryz.prog 48 #[.pointer (some ⟨CB, 0, none⟩)] w (DrewP keyP w CB ca cl cc cb co (t + 30)) := by
  have hp := pick_r 4 (h.alloc (.cells #[.int .i64 0, .int .i64 0, .string ⟨#[]⟩, .int .i64 0] 24)) (by omega) (by omega) (by omega)
  have HO0 : Hid (Only (fun k => k = CB) w (w.alloc (.cells #[.int .i64 0, .int .i64 0, .string ⟨#[]⟩, .int .i64 0] 24))) := (Only.refl _ _).alloc _
  have hne : w.heap.size ≠ CB := by have := h.blocks.1; omega
  have HH : Hid (Rd w CB ca cl cc cb co t) := h
  clear h
  go_enter Tryz.func48, Tryz.ntmps48
  go_wp2_with fail
  refine hp.mono ?_
  clear hp
  rintro e w1 ⟨⟨y, hy, rfl⟩, HR, HO⟩
  have HB : Hid (Empty4 w1 w.heap.size) := (Empty4.new w).only HO.out hne
  have HO1 : Hid (Only (fun k => k = CB) w w1) := HO0.out.trans HO.out
  clear HO HO0
  by_cases y0 : y = 0
  · subst y0
    clear hy
    have hp := pick_r 2 HR.out (by omega) (by omega) (by omega)
    go_wp2_with fail
    refine hp.mono ?_
    clear hp
    rintro e w2 ⟨⟨z, hz, rfl⟩, HR2, HO2⟩
    have HB2 : Hid (Empty4 w2 w.heap.size) := HB.out.only HO2.out hne
    have HO3 : Hid (Only (fun k => k = CB) w w2) := HO1.out.trans HO2.out
    obtain ⟨c0, c1, c2, c3, z0⟩ := four HB2.out
    clear HO1 HO2 HR HB
    go_wp2
    obtain ⟨q0, q1, q2, q3, _⟩ := four (put4_at HB2.out (.int .i64 1) (.int .i64 z) (.string ⟨#[]⟩) (.int .i64 0))
    refine bodyPost_ret (v := .agg #[.int .i64 1, .int .i64 z, .string ⟨#[]⟩, .int .i64 0]) (by simp [results, Tryz.results48, go_sem, q0, q1, q2, q3]) rfl ⟨⟨1, z, ⟨#[]⟩, 0⟩, keyP_bool hz, rfl, ?_⟩
    have := HR2.out.put4 HH.out HO3.out (.int .i64 1) (.int .i64 z) (.string ⟨#[]⟩) (.int .i64 0)
    exact ⟨this.1.mono (by omega), this.2⟩
  have hy0 : ((y : Int) == 0) = false := by simpa using y0
  by_cases y1 : y = 1
  · subst y1
    clear hy hy0 y0
    have hp := text_r HR.out (by omega)
    go_wp2_with fail
    refine hp.mono ?_
    clear hp
    rintro e w2 ⟨⟨s, hs, rfl⟩, HR2, HO2⟩
    have HB2 : Hid (Empty4 w2 w.heap.size) := HB.out.only HO2.out hne
    have HO3 : Hid (Only (fun k => k = CB) w w2) := HO1.out.trans HO2.out
    obtain ⟨c0, c1, c2, c3, z0⟩ := four HB2.out
    clear HO1 HO2 HR HB
    go_wp2
    obtain ⟨q0, q1, q2, q3, _⟩ := four (put4_at HB2.out (.int .i64 3) (.int .i64 0) (.string s) (.int .i64 0))
    refine bodyPost_ret (v := .agg #[.int .i64 3, .int .i64 0, .string s, .int .i64 0]) (by simp [results, Tryz.results48, go_sem, q0, q1, q2, q3]) rfl ⟨⟨3, 0, s, 0⟩, keyP_text hs, rfl, ?_⟩
    have := HR2.out.put4 HH.out HO3.out (.int .i64 3) (.int .i64 0) (.string s) (.int .i64 0)
    exact ⟨this.1.mono (by omega), this.2⟩
  have hy1 : ((y : Int) == 1) = false := by simp; omega
  by_cases y2 : y = 2
  · subst y2
    clear hy hy0 y0 hy1 y1
    have hp := pick_r 6 HR.out (by omega) (by omega) (by omega)
    go_wp2_with fail
    refine hp.mono ?_
    clear hp
    rintro e w2 ⟨⟨z, hz, rfl⟩, HR2, HO2⟩
    have HB2 : Hid (Empty4 w2 w.heap.size) := HB.out.only HO2.out hne
    have HO3 : Hid (Only (fun k => k = CB) w w2) := HO1.out.trans HO2.out
    clear HO1 HO2 HR HB
    by_cases z0 : z = 0
    · subst z0
      clear hz
      have hp := whole_r HR2.out (by omega)
      go_wp2_with fail
      refine hp.mono ?_
      clear hp
      rintro e w3 ⟨⟨q, rfl, hq⟩, HR3, HO4⟩
      have HB3 : Hid (Empty4 w3 w.heap.size) := HB2.out.only HO4.out hne
      have HO5 : Hid (Only (fun k => k = CB) w w3) := HO3.out.trans HO4.out
      obtain ⟨c0, c1, c2, c3, z0⟩ := four HB3.out
      clear HO3 HO4 HR2 HB2
      go_wp2
      obtain ⟨q0, q1, q2, q3, _⟩ := four (put4_at HB3.out (.int .i64 2) (.int .i64 q) (.string ⟨#[]⟩) (.int .i64 0))
      refine bodyPost_ret (v := .agg #[.int .i64 2, .int .i64 q, .string ⟨#[]⟩, .int .i64 0]) (by simp [results, Tryz.results48, go_sem, q0, q1, q2, q3]) rfl ⟨⟨2, q, ⟨#[]⟩, 0⟩, keyP_int hq.1 hq.2, rfl, ?_⟩
      have := HR3.out.put4 HH.out HO5.out (.int .i64 2) (.int .i64 q) (.string ⟨#[]⟩) (.int .i64 0)
      exact ⟨this.1.mono (by omega), this.2⟩
    · have hz0 : ((z : Int) == 0) = false := by simpa using z0
      have hp := pick_r 4 HR2.out (by omega) (by omega) (by omega)
      go_wp2_with fail
      refine hp.mono ?_
      clear hp
      rintro e w3 ⟨⟨q, hq, rfl⟩, HR3, HO4⟩
      have HB3 : Hid (Empty4 w3 w.heap.size) := HB2.out.only HO4.out hne
      have HO5 : Hid (Only (fun k => k = CB) w w3) := HO3.out.trans HO4.out
      obtain ⟨c0, c1, c2, c3, z0⟩ := four HB3.out
      clear HO3 HO4 HR2 HB2
      go_wp2
      obtain ⟨q0, q1, q2, q3, _⟩ := four (put4_at HB3.out (.int .i64 2) (.int .i64 q) (.string ⟨#[]⟩) (.int .i64 0))
      refine bodyPost_ret (v := .agg #[.int .i64 2, .int .i64 q, .string ⟨#[]⟩, .int .i64 0]) (by simp [results, Tryz.results48, go_sem, q0, q1, q2, q3]) rfl ⟨⟨2, q, ⟨#[]⟩, 0⟩, keyP_int (by omega) (by omega), rfl, ?_⟩
      have := HR3.out.put4 HH.out HO5.out (.int .i64 2) (.int .i64 q) (.string ⟨#[]⟩) (.int .i64 0)
      exact ⟨this.1.mono (by omega), this.2⟩
  · have hy2 : ((y : Int) == 2) = false := by simp; omega
    have hp := pick_r 4 HR.out (by omega) (by omega) (by omega)
    clear y0 y1 y2
    go_wp2_with fail
    refine hp.mono ?_
    clear hp
    rintro e w3 ⟨⟨q, hq, rfl⟩, HR3, HO4⟩
    have HB3 : Hid (Empty4 w3 w.heap.size) := HB.out.only HO4.out hne
    have HO5 : Hid (Only (fun k => k = CB) w w3) := HO1.out.trans HO4.out
    obtain ⟨c0, c1, c2, c3, z0⟩ := four HB3.out
    clear HO1 HO4 HR HB
    go_wp2
    obtain ⟨q0, q1, q2, q3, _⟩ := four (put4_at HB3.out (.int .i64 2) (.int .i64 q) (.string ⟨#[]⟩) (.int .i64 0))
    refine bodyPost_ret (v := .agg #[.int .i64 2, .int .i64 q, .string ⟨#[]⟩, .int .i64 0]) (by simp [results, Tryz.results48, go_sem, q0, q1, q2, q3]) rfl ⟨⟨2, q, ⟨#[]⟩, 0⟩, keyP_int (by omega) (by omega), rfl, ?_⟩
    have := HR3.out.put4 HH.out HO5.out (.int .i64 2) (.int .i64 q) (.string ⟨#[]⟩) (.int .i64 0)
    exact ⟨this.1.mono (by omega), this.2⟩

set_option maxHeartbeats 1000000 in
set_option maxRecDepth 100000 in
theorem val_p (n : Nat) (hn : n ≤ 200) (h : Rd w CB ca cl cc cb co t) (ht : t ≤ 60000000) :
    Calls Tryz.prog 49 #[.pointer (some ⟨CB, 0, none⟩), .int .i64 n] w (DrewP (valP n) w CB ca cl cc cb co (t + 40)) := by
  by_cases n0 : n = 0
  · subst n0
    have hp := key_p (h.alloc (.cells #[.int .i64 0, .int .i64 0, .string ⟨#[]⟩, .int .i64 0] 24)) (by omega)
    have HO0 : Hid (Only (fun k => k = CB) w (w.alloc (.cells #[.int .i64 0, .int .i64 0, .string ⟨#[]⟩, .int .i64 0] 24))) := (Only.refl _ _).alloc _
    have hne : w.heap.size ≠ CB := by have := h.blocks.1; omega
    have HH : Hid (Rd w CB ca cl cc cb co t) := h
    clear h
    go_enter Tryz.func49, Tryz.ntmps49
    go_wp2_with fail
    refine hp.mono ?_
    clear hp
    rintro e w2 ⟨v, hv, rfl, hR2, hO2⟩
    have HR2 : Hid _ := hR2
    have HO3 : Hid (Only (fun k => k = CB) w w2) := HO0.out.trans hO2
    have HB2 : Hid (Empty4 w2 w.heap.size) := (Empty4.new w).only hO2 hne
    clear hR2 hO2 HO0
    obtain ⟨c0, c1, c2, c3, z0⟩ := four HB2.out
    go_wp2
    obtain ⟨q0, q1, q2, q3, _⟩ := four (put4_at HB2.out (.int .i64 v.k) (.int .i64 v.n) (.string v.s) (.int .i64 v.a))
    refine bodyPost_ret (v := .agg #[.int .i64 v.k, .int .i64 v.n, .string v.s, .int .i64 v.a]) (by simp [results, Tryz.results49, go_sem, q0, q1, q2, q3]) rfl ⟨v, valP_key hv, rfl, ?_⟩
    have := HR2.out.put4 HH.out HO3.out (.int .i64 v.k) (.int .i64 v.n) (.string v.s) (.int .i64 v.a)
    exact ⟨this.1.mono (by omega), this.2⟩
  have nz : ¬ (n : Int) = 0 := by omega
  have nzb : ((n : Int) == 0) = false := by simp; omega
  have hp := pick_r 3 (h.alloc (.cells #[.int .i64 0, .int .i64 0, .string ⟨#[]⟩, .int .i64 0] 24)) (by omega) (by omega) (by omega)
  have HO0 : Hid (Only (fun k => k = CB) w (w.alloc (.cells #[.int .i64 0, .int .i64 0, .string ⟨#[]⟩, .int .i64 0] 24))) := (Only.refl _ _).alloc _
  have hne : w.heap.size ≠ CB := by have := h.blocks.1; omega
  have HH : Hid (Rd w CB ca cl cc cb co t) := h
  clear h
  go_enter Tryz.func49, Tryz.ntmps49
  go_wp2_with fail
  refine hp.mono ?_
  clear hp
  rintro e w1 ⟨⟨y, hy, rfl⟩, HR, HO⟩
  have HB : Hid (Empty4 w1 w.heap.size) := (Empty4.new w).only HO.out hne
  have HO1 : Hid (Only (fun k => k = CB) w w1) := HO0.out.trans HO.out
  clear HO HO0
  by_cases y0 : y = 0
  · subst y0
    clear hy
    have hp := key_p HR.out (by omega)
    go_wp2_with fail
    refine hp.mono ?_
    clear hp
    rintro e w2 ⟨v, hv, rfl, hR2, hO2⟩
    have HR2 : Hid _ := hR2
    have HO2 : Hid _ := hO2
    clear hR2 hO2
    have HB2 : Hid (Empty4 w2 w.heap.size) := HB.out.only HO2.out hne
    have HO3 : Hid (Only (fun k => k = CB) w w2) := HO1.out.trans HO2.out
    obtain ⟨c0, c1, c2, c3, z0⟩ := four HB2.out
    clear HO1 HO2 HR HB
    go_wp2
    obtain ⟨q0, q1, q2, q3, _⟩ := four (put4_at HB2.out (.int .i64 v.k) (.int .i64 v.n) (.string v.s) (.int .i64 v.a))
    refine bodyPost_ret (v := .agg #[.int .i64 v.k, .int .i64 v.n, .string v.s, .int .i64 v.a]) (by simp [results, Tryz.results49, go_sem, q0, q1, q2, q3]) rfl ⟨v, valP_key hv, rfl, ?_⟩
    have := HR2.out.put4 HH.out HO3.out (.int .i64 v.k) (.int .i64 v.n) (.string v.s) (.int .i64 v.a)
    exact ⟨this.1.mono (by omega), this.2⟩
  · have hy0 : ((y : Int) == 0) = false := by simpa using y0
    have hp := pick_r n HR.out (by omega) hn (by omega)
    clear y0
    go_wp2_with fail
    refine hp.mono ?_
    clear hp
    rintro e w3 ⟨⟨q, hq, rfl⟩, HR3, HO4⟩
    have HB3 : Hid (Empty4 w3 w.heap.size) := HB.out.only HO4.out hne
    have HO5 : Hid (Only (fun k => k = CB) w w3) := HO1.out.trans HO4.out
    obtain ⟨c0, c1, c2, c3, z0⟩ := four HB3.out
    clear HO1 HO4 HR HB
    go_wp2
    obtain ⟨q0, q1, q2, q3, _⟩ := four (put4_at HB3.out (.int .i64 4) (.int .i64 0) (.string ⟨#[]⟩) (.int .i64 q))
    refine bodyPost_ret (v := .agg #[.int .i64 4, .int .i64 0, .string ⟨#[]⟩, .int .i64 q]) (by simp [results, Tryz.results49, go_sem, q0, q1, q2, q3]) rfl ⟨⟨4, 0, ⟨#[]⟩, q⟩, valP_tab hq, rfl, ?_⟩
    have := HR3.out.put4 HH.out HO5.out (.int .i64 4) (.int .i64 0) (.string ⟨#[]⟩) (.int .i64 q)
    exact ⟨this.1.mono (by omega), this.2⟩
end

end Go.Proofs.YtgflalfiopnmnaaGreatDoor

namespace Go.Proofs.YtgflalfiopnmnaaGreatDoor
open Go.RowKit Vl

def VAt (w : World) (b o : Nat) (v : V) : Prop := ValAt w b o v.k v.n v.s v.a
theorem VAt.below {w w' : World} {b o : Nat} {v : V} (h : VAt w b o v) (hb : Below w.heap.size w w') : VAt w' b o v := ValAt.below h hb

structure PairsAt (w : World) (pa : Option Addr) (L B O : Nat) (K X : Nat → V) : Prop where
  top : 0 < L → pa = some ⟨B, O, none⟩
  key : ∀ c, c < L → VAt w B (O + c * 8) (K c)
  val : ∀ c, c < L → VAt w B (O + c * 8 + 4) (X c)
theorem PairsAt.below {w w' : World} {pa : Option Addr} {L B O : Nat} {K X : Nat → V} (h : PairsAt w pa L B O K X) (hb : Below w.heap.size w w') : PairsAt w' pa L B O K X :=
  ⟨h.top, fun c hc => (h.key c hc).below hb, fun c hc => (h.val c hc).below hb⟩

structure TabsAt (w : World) (ta : Option Addr) (n TB TO : Nat) (A : Nat → Option Addr) (L C RB RO : Nat → Nat) (K X : Nat → Nat → V) : Prop where
  top : 0 < n → ta = some ⟨TB, TO, none⟩
  tab : ∀ r, r < n → w.cell? ⟨TB, TO + r, none⟩ = some (.slice (A r) (L r) (C r))
  row : ∀ r, r < n → PairsAt w (A r) (L r) (RB r) (RO r) (K r) (X r)
theorem TabsAt.below {w w' : World} {ta : Option Addr} {n TB TO : Nat} {A : Nat → Option Addr} {L C RB RO : Nat → Nat} {K X : Nat → Nat → V} (h : TabsAt w ta n TB TO A L C RB RO K X) (hb : Below w.heap.size w w') : TabsAt w' ta n TB TO A L C RB RO K X :=
  ⟨h.top, fun r hr => (hb.cell (p := ⟨TB, TO + r, none⟩) (World.block_lt_of_cell? _ _ (h.tab r hr))).trans (h.tab r hr), fun r hr => (h.row r hr).below hb⟩

theorem PairsAt.cells {w : World} {pa : Option Addr} {L B O : Nat} {K X : Nat → V} (h : PairsAt w pa L B O K X) {c : Nat} (hc : c < L) :
    (w.cell? ⟨B, O + c * 8, none⟩ = some (.int .i64 (K c).k) ∧ w.cell? ⟨B, O + c * 8 + 1, none⟩ = some (.int .i64 (K c).n) ∧ w.cell? ⟨B, O + c * 8 + 2, none⟩ = some (.string (K c).s) ∧ w.cell? ⟨B, O + c * 8 + 3, none⟩ = some (.int .i64 (K c).a)) ∧
    (w.cell? ⟨B, O + c * 8 + 4, none⟩ = some (.int .i64 (X c).k) ∧ w.cell? ⟨B, O + c * 8 + 5, none⟩ = some (.int .i64 (X c).n) ∧ w.cell? ⟨B, O + c * 8 + 6, none⟩ = some (.string (X c).s) ∧ w.cell? ⟨B, O + c * 8 + 7, none⟩ = some (.int .i64 (X c).a)) := ⟨h.key c hc, h.val c hc⟩

end Go.Proofs.YtgflalfiopnmnaaGreatDoor

namespace Go.Proofs.YtgflalfiopnmnaaGreatDoor
open Go.RowKit Vl

def Small (m n : Nat) (L : Nat → Nat) (K X : Nat → Nat → V) : Prop := ∀ r, r < n → L r ≤ m ∧ ∀ c, c < L r → (K r c).s.size ≤ m ∧ (X r c).s.size ≤ m

end Go.Proofs.YtgflalfiopnmnaaGreatDoor

namespace Go.Proofs.YtgflalfiopnmnaaGreatDoor
open Go.RowKit Vl

theorem cells8 {w : World} {B : Nat} {a b c d e f g h : Value} {t : TypeId} (H : w.heap[B]? = some (.cells #[a, b, c, d, e, f, g, h] t (0, 0))) :
    w.cell? ⟨B, 0, none⟩ = some a ∧ w.cell? ⟨B, 1, none⟩ = some b ∧ w.cell? ⟨B, 2, none⟩ = some c ∧ w.cell? ⟨B, 3, none⟩ = some d ∧ w.cell? ⟨B, 4, none⟩ = some e ∧ w.cell? ⟨B, 5, none⟩ = some f ∧ w.cell? ⟨B, 6, none⟩ = some g ∧ w.cell? ⟨B, 7, none⟩ = some h ∧ ∀ i, w.frozen? ⟨B, i, none⟩ = false := by
  refine ⟨?_, ?_, ?_, ?_, ?_, ?_, ?_, ?_, fun i => ?_⟩ <;> simp [World.cell?, World.frozen?, H]
theorem set4_below {w : World} {B i j k l : Nat} {a' b' c' d' : Value} : Below B w ((((w.setCell ⟨B, i, none⟩ a').setCell ⟨B, j, none⟩ b').setCell ⟨B, k, none⟩ c').setCell ⟨B, l, none⟩ d') :=
  ((((Below.refl B w).setCell (Nat.le_refl _) _).setCell (Nat.le_refl _) _).setCell (Nat.le_refl _) _).setCell (Nat.le_refl _) _
theorem blk_lt {w : World} {b : Nat} {o : Obj} (h : w.heap[b]? = some o) : b < w.heap.size := by
  rcases Nat.lt_or_ge b w.heap.size with h' | h'
  · exact h'
  · rw [Array.getElem?_eq_none h'] at h; cases h

theorem alloc3 (w : World) (a b c : Obj) : (((w.alloc a).alloc b).alloc c).heap[w.heap.size]? = some a ∧ (((w.alloc a).alloc b).alloc c).heap[w.heap.size + 1]? = some b ∧ (((w.alloc a).alloc b).alloc c).heap[w.heap.size + 2]? = some c ∧ (((w.alloc a).alloc b).alloc c).heap.size = w.heap.size + 3 ∧ Below w.heap.size w (((w.alloc a).alloc b).alloc c) := by
  have e1 : (w.alloc a).heap.size = w.heap.size + 1 := by simp
  have e2 : ((w.alloc a).alloc b).heap.size = w.heap.size + 2 := by simp
  have e3 : (((w.alloc a).alloc b).alloc c).heap.size = w.heap.size + 3 := by simp
  refine ⟨?_, ?_, ?_, e3, (((Below.refl _ _).alloc (Nat.le_refl _) _).alloc (by omega) _).alloc (by omega) _⟩
  · rw [Below.heap_alloc _ _ _ (by omega), Below.heap_alloc _ _ _ (by omega)]; exact heap_alloc_new _ _
  · rw [Below.heap_alloc _ _ _ (by omega), ← e1]; exact heap_alloc_new _ _
  · rw [← e2]; exact heap_alloc_new _ _

theorem run_make_n (t e : TypeId) (z : Value) (size bytes : Nat) (ht : Tryz.prog.underlying t = some (.slice e)) (hinfo : (Tryz.prog.info? e).map (fun i => (i.zero, i.size, i.bytes)) = some (some z, size, bytes))
    (n : Nat) (hbytes : bytes * n ≤ 281474976710656) (h63 : n ≤ 9223372036854775807) (w : World) :
    (Instr.makeSlice t (.int .i64 (n : Int)) (.int .i64 (n : Int))).run Tryz.prog w = .ok (.slice (some ⟨w.heap.size, 0, none⟩) n n) (w.alloc (.cells (madeCells z.cells (n * size)) e)) := by
  obtain ⟨i, hi, hz, hs, hb⟩ := info_parts hinfo
  subst hs hb
  have hb' : (i.bytes : Int) * (n : Int) ≤ 281474976710656 := by
    have h : ((i.bytes * n : Nat) : Int) ≤ 281474976710656 := by omega
    rwa [Int.natCast_mul] at h
  have hr := run_make (P := Tryz.prog) w t e i z ht hi hz .i64 .i64 n n (by omega) (Int.le_refl _) hb' (by omega)
  simp only [Int.toNat_natCast] at hr
  exact hr
theorem row_made (w : World) (zc : Array Value) (n : Nat) (t : TypeId) : (w.alloc (.cells (madeCells zc n) t)).rowIs w.heap.size t n (fun i => zc[i % zc.size]!) :=
  ⟨_, heap_alloc_new _ _, size_madeCells _ _, fun i hi => by simp [madeCells, hi]⟩

def pc (K X : Nat → V) (i : Nat) : Value :=
  if i % 8 = 0 then .int .i64 (K (i / 8)).k else if i % 8 = 1 then .int .i64 (K (i / 8)).n else if i % 8 = 2 then .string (K (i / 8)).s else if i % 8 = 3 then .int .i64 (K (i / 8)).a
  else if i % 8 = 4 then .int .i64 (X (i / 8)).k else if i % 8 = 5 then .int .i64 (X (i / 8)).n else if i % 8 = 6 then .string (X (i / 8)).s else .int .i64 (X (i / 8)).a

theorem Tryz.info39 : (Tryz.prog.info? 39).map (fun i => (i.zero, i.size, i.bytes)) = some (some (.agg #[.int .i64 0, .int .i64 0, .string ⟨#[]⟩, .int .i64 0, .int .i64 0, .int .i64 0, .string ⟨#[]⟩, .int .i64 0]), 8, 80) := by kernel_rfl

end Go.Proofs.YtgflalfiopnmnaaGreatDoor

namespace Go.Proofs.YtgflalfiopnmnaaGreatDoor
open Go.RowKit Vl

theorem VAt.same {w w' : World} {b o : Nat} {v : V} (h : VAt w b o v) (e : w'.heap[b]? = w.heap[b]?) : VAt w' b o v :=
  ⟨by rw [World.cell?_of_block e]; exact h.1, by rw [World.cell?_of_block e]; exact h.2.1, by rw [World.cell?_of_block e]; exact h.2.2.1, by rw [World.cell?_of_block e]; exact h.2.2.2⟩
theorem one_at {w : World} {B : Nat} {a : Value} {t : TypeId} (H : w.heap[B]? = some (.cells #[a] t (0, 0))) : w.cell? ⟨B, 0, none⟩ = some a ∧ ∀ i, w.frozen? ⟨B, i, none⟩ = false := by
  refine ⟨?_, fun i => ?_⟩ <;> simp [World.cell?, World.frozen?, H]
theorem one_put {w : World} {B : Nat} {a : Value} {t : TypeId} (H : w.heap[B]? = some (.cells #[a] t (0, 0))) (a' : Value) : (w.setCell ⟨B, 0, none⟩ a').heap[B]? = some (.cells #[a'] t (0, 0)) := by
  simp [World.setCell, Array.getElem?_modify, H]

theorem Tryz.info37 : (Tryz.prog.info? 37).map (fun i => (i.zero, i.size, i.bytes)) = some (some (.agg #[.slice none 0 0]), 1, 24) := by kernel_rfl

end Go.Proofs.YtgflalfiopnmnaaGreatDoor

namespace Go.Proofs.YtgflalfiopnmnaaGreatDoor
open Go.RowKit Vl

theorem cells5 {w : World} {B : Nat} {a b c d e : Value} {t : TypeId} (H : w.heap[B]? = some (.cells #[a, b, c, d, e] t (0, 0))) :
    w.cell? ⟨B, 0, none⟩ = some a ∧ w.cell? ⟨B, 1, none⟩ = some b ∧ w.cell? ⟨B, 2, none⟩ = some c ∧ w.cell? ⟨B, 3, none⟩ = some d ∧ w.cell? ⟨B, 4, none⟩ = some e ∧ ∀ i, w.frozen? ⟨B, i, none⟩ = false := by
  refine ⟨?_, ?_, ?_, ?_, ?_, fun i => ?_⟩ <;> simp [World.cell?, World.frozen?, H]
theorem put5lo {w : World} {B : Nat} {a b c d e : Value} {t : TypeId} (H : w.heap[B]? = some (.cells #[a, b, c, d, e] t (0, 0))) (a' b' c' d' : Value) :
    ((((w.setCell ⟨B, 0, none⟩ a').setCell ⟨B, 1, none⟩ b').setCell ⟨B, 2, none⟩ c').setCell ⟨B, 3, none⟩ d').heap[B]? = some (.cells #[a', b', c', d', e] t (0, 0)) := by
  simp [World.setCell, Array.getElem?_modify, H]
theorem put5hi {w : World} {B : Nat} {a b c d e : Value} {t : TypeId} (H : w.heap[B]? = some (.cells #[a, b, c, d, e] t (0, 0))) (e' : Value) :
    (w.setCell ⟨B, 4, none⟩ e').heap[B]? = some (.cells #[a, b, c, d, e'] t (0, 0)) := by
  simp [World.setCell, Array.getElem?_modify, H]

end Go.Proofs.YtgflalfiopnmnaaGreatDoor

namespace Go.Proofs.YtgflalfiopnmnaaGreatDoor
open Go.RowKit Vl

theorem alloc2 (w : World) (a b : Obj) : ((w.alloc a).alloc b).heap[w.heap.size]? = some a ∧ ((w.alloc a).alloc b).heap[w.heap.size + 1]? = some b ∧ ((w.alloc a).alloc b).heap.size = w.heap.size + 2 ∧ Below w.heap.size w ((w.alloc a).alloc b) := by
  have e1 : (w.alloc a).heap.size = w.heap.size + 1 := by simp
  have e2 : ((w.alloc a).alloc b).heap.size = w.heap.size + 2 := by simp
  refine ⟨?_, ?_, e2, ((Below.refl _ _).alloc (Nat.le_refl _) _).alloc (by omega) _⟩
  · rw [Below.heap_alloc _ _ _ (by omega)]; exact heap_alloc_new _ _
  · rw [← e1]; exact heap_alloc_new _ _

end Go.Proofs.YtgflalfiopnmnaaGreatDoor

namespace Go.Proofs.YtgflalfiopnmnaaGreatDoor
open Go.RowKit Vl

end Go.Proofs.YtgflalfiopnmnaaGreatDoor

namespace Go.Proofs.YtgflalfiopnmnaaGreatDoor.Vl
open Go

theorem less_asymm {a b : V} (h : less a b = true) : less b a = false := by
  unfold less at h ⊢
  by_cases hk : a.k = b.k
  · rw [if_pos hk] at h
    rw [if_pos hk.symm]
    by_cases h3 : a.k = 3
    · rw [if_pos h3] at h
      rw [if_pos (by omega), ← bl_total, h]
      rfl
    · rw [if_neg h3] at h
      rw [if_neg (by omega)]
      simp at h ⊢
      omega
  · rw [if_neg hk] at h
    rw [if_neg (fun e => hk e.symm)]
    simp at h ⊢
    omega

def eqV (a b : V) : Bool := a.k == b.k && (a.n == b.n && (a.s.toList == b.s.toList && a.a == b.a))

theorem key_a {v : V} (h : isK v = true) : v.a = 0 := by
  obtain ⟨k, n, s, a⟩ := v
  simp only [isK, Bool.and_eq_true, Bool.or_eq_true, beq_iff_eq] at h
  obtain ⟨hk, hv⟩ := h
  rcases hk with (rfl | rfl) | rfl <;> simp [isV] at hv <;> (show a = 0; omega)

theorem ko_zero {a b : V} (h : ko a b ≠ 2) : (ko a b == 0) = eqV a b := by
  unfold ko at h ⊢
  by_cases hk : (isK a && isK b) = true
  · rw [if_pos hk]
    obtain ⟨ha, hb⟩ := Bool.and_eq_true_iff.1 hk
    rw [Bool.eq_iff_iff]
    constructor
    · intro h0
      have h1 : less a b = false := by cases hl : less a b <;> simp [hl] at h0 ⊢
      have h2 : less b a = false := by cases hl : less b a <;> simp [hl, h1] at h0 ⊢
      unfold less at h1 h2
      have e : a.k = b.k := by
        by_cases hk : a.k = b.k
        · exact hk
        · rw [if_neg hk] at h1
          rw [if_neg (fun e => hk e.symm)] at h2
          simp at h1 h2
          omega
      rw [if_pos e] at h1
      rw [if_pos e.symm] at h2
      have za := key_a ha
      have zb := key_a hb
      have ca := key_cases ha
      have cb := key_cases hb
      by_cases h3 : a.k = 3
      · rw [if_pos h3] at h1
        rw [if_pos (by omega), ← bl_total, h1] at h2
        have hs : a.s.toList = b.s.toList := by simpa using h2
        have na : a.n = 0 := by rcases ca with h | h | h <;> first | exact h.2 | omega
        have nb : b.n = 0 := by rcases cb with h | h | h <;> first | exact h.2 | omega
        simp [eqV, e, hs, na, nb, za, zb]
      · rw [if_neg h3] at h1
        rw [if_neg (by omega)] at h2
        simp at h1 h2
        have sa : a.s.toList = [] := by rcases ca with h | h | h <;> first | exact h.2 | omega
        have sb : b.s.toList = [] := by rcases cb with h | h | h <;> first | exact h.2 | omega
        have hn : a.n = b.n := by omega
        simp [eqV, e, hn, sa, sb, za, zb]
    · intro he
      simp only [eqV, Bool.and_eq_true, beq_iff_eq] at he
      obtain ⟨e1, e2, e3, e4⟩ := he
      have h1 : less a b = false := by simp [less, e1, e2, e3, bl_irrefl]
      have h2 : less b a = false := by simp [less, e1, e2, e3, bl_irrefl]
      simp [h1, h2]
  · rw [if_neg hk] at h; exact absurd rfl h

end Go.Proofs.YtgflalfiopnmnaaGreatDoor.Vl

namespace Go.Proofs.YtgflalfiopnmnaaGreatDoor.Vl

structure OkP (n : Nat) (K X : Nat → V) (c : Nat) : Prop where
  key : isK (K c) = true
  val : isV n (X c) = true
  some : (X c).k ≠ 0
  once : ∀ j, j < c → eqV (K j) (K c) = false

structure OkT (n L : Nat) (K X : Nat → V) : Prop where
  len : L ≤ 100
  all : ∀ c, c < L → OkP n K X c

structure OkG (n : Nat) (u : V) (L : Nat → Nat) (K X : Nat → Nat → V) : Prop where
  len : n ≤ 200
  root : isV n u = true
  all : ∀ r, r < n → OkT n (L r) (K r) (X r)

end Go.Proofs.YtgflalfiopnmnaaGreatDoor.Vl

namespace Go.Proofs.YtgflalfiopnmnaaGreatDoor
open Go.RowKit Vl

theorem eql_val (u v : V) (w : World) :
    (binOp .eql 24 (.agg #[.int .i64 u.k, .int .i64 u.n, .string u.s, .int .i64 u.a]) (.agg #[.int .i64 v.k, .int .i64 v.n, .string v.s, .int .i64 v.a])).run Tryz.prog w = .ok (.bool (eqV u v)) w := by
  go_simp
  by_cases h1 : u.k = v.k <;> by_cases h2 : u.n = v.n <;> by_cases h3 : u.s.toList = v.s.toList <;> by_cases h4 : u.a = v.a <;> simp [eqV, h1, h2, h3, h4]

def Tells (P : Prop) (e : Ending) : Prop := ∃ b, e = .returned (.bool b) ∧ (b = true ↔ P)
theorem tells_no {P : Prop} (h : ¬ P) : Tells P (.returned (.bool false)) := ⟨false, rfl, by simp; exact h⟩
theorem tells_yes {P : Prop} (h : P) : Tells P (.returned (.bool true)) := ⟨true, rfl, by simp; exact h⟩

set_option maxHeartbeats 2000000 in
set_option maxRecDepth 100000 in
theorem specOk_any (u : V) (ta : Option Addr) (n cp TB TO : Nat) (A : Nat → Option Addr) (L C RB RO : Nat → Nat) (K X : Nat → Nat → V) (w : World) (hn : n ≤ 1048576)
    (HS : Hid (Small 1048576 n L K X)) (HT : Hid (TabsAt w ta n TB TO A L C RB RO K X)) :
    Calls Tryz.prog 17 #[.agg #[.int .i64 u.k, .int .i64 u.n, .string u.s, .int .i64 u.a, .slice ta n cp]] w fun e w' => Tells (OkG n u L K X) e ∧ Below w.heap.size w w' := by
  obtain ⟨w0, hw0⟩ : ∃ w0, w0 = w.alloc (.cells #[.int .i64 u.k, .int .i64 u.n, .string u.s, .int .i64 u.a, .slice ta n cp] 27) := ⟨_, rfl⟩
  have H0 : Hid (w0.heap[w.heap.size]? = some (.cells #[.int .i64 u.k, .int .i64 u.n, .string u.s, .int .i64 u.a, .slice ta n cp] 27 (0, 0))) := by rw [hw0]; exact heap_alloc_new _ _
  have HB0 : Hid (Below w.heap.size w w0) := by rw [hw0]; exact (Below.refl _ _).alloc (Nat.le_refl _) _
  have HT0 : Hid (TabsAt w0 ta n TB TO A L C RB RO K X) := HT.out.below HB0.out
  by_cases h200 : n ≤ 200
  · obtain ⟨bu, Hbu⟩ : ∃ b, Hid (isV n u = b) := ⟨_, rfl⟩
    have hv := l2val_any u.k u.n u.s u.a ta n cp u w0
    rw [Hbu.out] at hv
    obtain ⟨g0, g1, g2, g3, g4, _⟩ := cells5 H0.out
    go_enter Tryz.func17, Tryz.ntmps17
    go_wp2_with fail
    rw [← hw0]
    refine hv.mono ?_
    clear hv
    rintro e w1 ⟨rfl, hb1⟩
    have HW1 : Hid (Below w0.heap.size w0 w1) := hb1
    clear hb1 hw0 g0 g1 g2 g3 g4
    cases bu
    · go_wp2
      go_ret
      exact ⟨tells_no (fun h => by have := h.root; rw [Hbu.out] at this; cases this), grw HB0.out HW1.out⟩
    · have H1 : Hid (w1.heap[w.heap.size]? = some (.cells #[.int .i64 u.k, .int .i64 u.n, .string u.s, .int .i64 u.a, .slice ta n cp] 27 (0, 0))) := (HW1.out.block _ (blk_lt H0.out)).trans H0.out
      obtain ⟨g0, g1, g2, g3, g4, _⟩ := cells5 H1.out
      go_wp2
      clear g0 g1 g2 g3 g4 H1
      go_loopw [22] (fun i wr => ∃ r : Nat, r ≤ n ∧ i = .int .i64 r ∧ Hid (∀ q, q < r → OkT n (L q) (K q) (X q)) ∧ Hid (Below w0.heap.size w0 wr)) (fun i _ => n - (intOf i).toNat)
      case atStart => exact ⟨0, Nat.zero_le _, rfl, fun q hq => absurd hq (Nat.not_lt_zero _), HW1⟩
      case round =>
        obtain ⟨r, hr, rfl, HQ, HW⟩ := hrel
        by_cases hlt : r < n
        · obtain rfl := HT0.out.top (by omega)
          have t0 := (HT0.out.below HW.out).tab r hlt
          obtain ⟨a, ha⟩ : ∃ a, A r = a := ⟨_, rfl⟩
          rw [ha] at t0
          by_cases hl : L r ≤ 100
          · obtain ⟨wt, hwt⟩ : ∃ wt, wt = wr.alloc (.cells #[.slice a (L r) (C r)] 37) := ⟨_, rfl⟩
            have HBt : Hid (Below wr.heap.size wr wt) := by rw [hwt]; exact (Below.refl _ _).alloc (Nat.le_refl _) _
            have Ht : Hid (wt.heap[wr.heap.size]? = some (.cells #[.slice a (L r) (C r)] 37 (0, 0))) := by rw [hwt]; exact heap_alloc_new _ _
            go_wp2
            rw [← hwt]
            have HP : Hid (PairsAt wt a (L r) (RB r) (RO r) (K r) (X r)) := ha ▸ ((HT0.out.below HW.out).below HBt.out).row r hlt
            have HWt : Hid (Below w0.heap.size w0 wt) := grw HW.out HBt.out
            clear hwt t0
            obtain ⟨bt, hbt⟩ : ∃ bt, wr.heap.size = bt := ⟨_, rfl⟩
            rw [hbt] at Ht ⊢
            clear HBt hbt
            go_loopw [33] (fun i wc => ∃ c : Nat, c ≤ L r ∧ i = .int .i64 c ∧ Hid (∀ q, q < c → OkP n (K r) (X r) q) ∧ Hid (Below wt.heap.size wt wc)) (fun i _ => L r - (intOf i).toNat)
            case atStart => exact ⟨0, Nat.zero_le _, rfl, fun q hq => absurd hq (Nat.not_lt_zero _), Below.refl _ _⟩
            case round =>
              obtain ⟨c, hc, rfl, HQc, HWc⟩ := hrel
              by_cases hcl : c < L r
              · obtain rfl := HP.out.top (by omega)
                obtain ⟨⟨k0, k1, k2, k3⟩, ⟨x0, x1, x2, x3⟩⟩ := (HP.out.below HWc.out).cells hcl
                obtain ⟨wp, hwp⟩ : ∃ wp, wp = wr.alloc (.cells #[.int .i64 (K r c).k, .int .i64 (K r c).n, .string (K r c).s, .int .i64 (K r c).a, .int .i64 (X r c).k, .int .i64 (X r c).n, .string (X r c).s, .int .i64 (X r c).a] 39) := ⟨_, rfl⟩
                have HBp : Hid (Below wr.heap.size wr wp) := by rw [hwp]; exact (Below.refl _ _).alloc (Nat.le_refl _) _
                have Hp : Hid (wp.heap[wr.heap.size]? = some (.cells #[.int .i64 (K r c).k, .int .i64 (K r c).n, .string (K r c).s, .int .i64 (K r c).a, .int .i64 (X r c).k, .int .i64 (X r c).n, .string (X r c).s, .int .i64 (X r c).a] 39 (0, 0))) := by rw [hwp]; exact heap_alloc_new _ _
                have HWp : Hid (Below wt.heap.size wt wp) := grw HWc.out HBp.out
                obtain ⟨bk, hbk⟩ : ∃ b, isK (K r c) = b := ⟨_, rfl⟩
                obtain ⟨bx, hbx⟩ : ∃ b, isV n (X r c) = b := ⟨_, rfl⟩
                have hlk := l2key_any (K r c) wp
                rw [hbk] at hlk
                go_wp2_with fail
                rw [← hwp]
                refine hlk.mono ?_
                clear hlk
                rintro e w2 ⟨rfl, hb2⟩
                have HW2 : Hid (Below wt.heap.size wt w2) := grw HWp.out hb2
                have HP2 : Hid (w2.heap[wr.heap.size]? = some (.cells #[.int .i64 (K r c).k, .int .i64 (K r c).n, .string (K r c).s, .int .i64 (K r c).a, .int .i64 (X r c).k, .int .i64 (X r c).n, .string (X r c).s, .int .i64 (X r c).a] 39 (0, 0))) := (hb2.block _ (blk_lt Hp.out)).trans Hp.out
                obtain ⟨bp, hbp⟩ : ∃ bp, wr.heap.size = bp := ⟨_, rfl⟩
                rw [hbp] at HP2 ⊢
                clear hb2 hwp HBp Hp HWp hbp k0 k1 k2 k3 x0 x1 x2 x3 HWc
                cases bk
                · have HN : Hid (¬ OkG n u L K X) := show ¬ OkG n u L K X from fun h => by have := ((h.all r hlt).all c hcl).key; rw [hbk] at this; cases this
                  clear hbk hbx
                  go_wp2
                  go_ret
                  exact ⟨tells_no HN.out, grw HB0.out (grw HWt.out HW2.out)⟩
                · obtain ⟨c0, c1, c2, c3, c4, c5, c6, c7, _⟩ := cells8 HP2.out
                  have HG2 : Hid (w2.heap[w.heap.size]? = some (.cells #[.int .i64 u.k, .int .i64 u.n, .string u.s, .int .i64 u.a, .slice (some ⟨TB, TO, none⟩) n cp] 27 (0, 0))) := ((grw HWt.out HW2.out).block _ (blk_lt H0.out)).trans H0.out
                  obtain ⟨g0, g1, g2, g3, g4, _⟩ := cells5 HG2.out
                  have hlv := l2val_any u.k u.n u.s u.a (some ⟨TB, TO, none⟩) n cp (X r c) w2
                  rw [hbx] at hlv
                  go_wp2_with fail
                  refine hlv.mono ?_
                  clear hlv
                  rintro e w3 ⟨rfl, hb3⟩
                  have HW3 : Hid (Below wt.heap.size wt w3) := grw HW2.out hb3
                  have HP3 : Hid (w3.heap[bp]? = some (.cells #[.int .i64 (K r c).k, .int .i64 (K r c).n, .string (K r c).s, .int .i64 (K r c).a, .int .i64 (X r c).k, .int .i64 (X r c).n, .string (X r c).s, .int .i64 (X r c).a] 39 (0, 0))) := (hb3.block _ (blk_lt HP2.out)).trans HP2.out
                  clear hb3 HG2 HP2 HW2 c0 c1 c2 c3 c4 c5 c6 c7 g0 g1 g2 g3 g4
                  cases bx
                  · have HN : Hid (¬ OkG n u L K X) := show ¬ OkG n u L K X from fun h => by have := ((h.all r hlt).all c hcl).val; rw [hbx] at this; cases this
                    clear hbk hbx
                    go_wp2
                    go_ret
                    exact ⟨tells_no HN.out, grw HB0.out (grw HWt.out HW3.out)⟩
                  · obtain ⟨c0, c1, c2, c3, c4, c5, c6, c7, _⟩ := cells8 HP3.out
                    by_cases hx0 : (X r c).k = 0
                    · have HN : Hid (¬ OkG n u L K X) := show ¬ OkG n u L K X from fun h => ((h.all r hlt).all c hcl).some hx0
                      have hx0' : ((X r c).k == 0) = true := by simpa using hx0
                      clear hbk hbx hx0
                      go_wp2
                      go_ret
                      exact ⟨tells_no HN.out, grw HB0.out (grw HWt.out HW3.out)⟩
                    · have hx0' : ((X r c).k == 0) = false := by simpa using hx0
                      have HX0 : Hid ((X r c).k ≠ 0) := hx0
                      have HBK : Hid (isK (K r c) = true) := hbk
                      have HBX : Hid (isV n (X r c) = true) := hbx
                      clear hbk hbx hx0
                      go_wp2
                      clear c0 c1 c2 c3 c4 c5 c6 c7 hx0'
                      go_loopw [7] (fun i wk => ∃ k : Nat, k ≤ c ∧ i = .int .i64 k ∧ Hid (∀ q, q < k → eqV (K r q) (K r c) = false) ∧ Hid (Below w3.heap.size w3 wk)) (fun i _ => c - (intOf i).toNat)
                      case atStart => exact ⟨0, Nat.zero_le _, rfl, fun q hq => absurd hq (Nat.not_lt_zero _), Below.refl _ _⟩
                      case round =>
                        obtain ⟨k, hk, rfl, HQk, HWk⟩ := hrel
                        by_cases hkc : k < c
                        · obtain ⟨l0, l1, l2, l3⟩ := (((HP.out.below (grw HW3.out HWk.out))).cells (show k < L r by omega)).1
                          have HPk : Hid (wr.heap[bp]? = some (.cells #[.int .i64 (K r c).k, .int .i64 (K r c).n, .string (K r c).s, .int .i64 (K r c).a, .int .i64 (X r c).k, .int .i64 (X r c).n, .string (X r c).s, .int .i64 (X r c).a] 39 (0, 0))) := (HWk.out.block _ (blk_lt HP3.out)).trans HP3.out
                          obtain ⟨c0, c1, c2, c3, c4, c5, c6, c7, _⟩ := cells8 HPk.out
                          have Htk : Hid (wr.heap[bt]? = some (.cells #[.slice (some ⟨RB r, RO r, none⟩) (L r) (C r)] 37 (0, 0))) := ((grw HW3.out HWk.out).block _ (blk_lt Ht.out)).trans Ht.out
                          obtain ⟨t0, _⟩ := one_at Htk.out
                          have heq := eql_val (K r k) (K r c)
                          obtain ⟨be, hbe⟩ : ∃ b, eqV (K r k) (K r c) = b := ⟨_, rfl⟩
                          rw [hbe] at heq
                          cases be
                          · have HQ' : Hid (∀ q, q < k + 1 → eqV (K r q) (K r c) = false) := show ∀ q, q < k + 1 → _ from fun q hq => by
                              by_cases e : q = k
                              · subst e; exact hbe
                              · exact HQk.out q (by omega)
                            clear hbe HQk
                            go_wp2
                            go_quiet (fail)
                            go_wp2
                            go_roundw
                            case rel => exact ⟨k + 1, by omega, by go_num, HQ', below_drewN HWk.out nq⟩
                            case measure => simp [intOf]; omega
                          · have HN : Hid (¬ OkG n u L K X) := show ¬ OkG n u L K X from fun h => by have := ((h.all r hlt).all c hcl).once k hkc; rw [hbe] at this; cases this
                            clear hbe HQk
                            go_wp2
                            go_quiet (fail)
                            go_wp2
                            go_ret
                            exact ⟨tells_no HN.out, below_drewN (grw HB0.out (grw HWt.out (grw HW3.out HWk.out))) nq⟩
                        · obtain rfl : k = c := by omega
                          have HQ' : Hid (∀ q, q < k + 1 → OkP n (K r) (X r) q) := show ∀ q, q < k + 1 → _ from fun q hq => by
                            by_cases e : q = k
                            · subst e; exact ⟨HBK.out, HBX.out, HX0.out, HQk.out⟩
                            · exact HQc.out q (by omega)
                          go_wp2
                          go_roundw
                          case rel => exact ⟨k + 1, by omega, by go_num, HQ', grw HW3.out HWk.out⟩
                          case measure => simp [intOf]; omega
              · obtain rfl : c = L r := by omega
                have HQ' : Hid (∀ q, q < r + 1 → OkT n (L q) (K q) (X q)) := show ∀ q, q < r + 1 → _ from fun q hq => by
                  by_cases e : q = r
                  · subst e; exact ⟨hl, HQc.out⟩
                  · exact HQ.out q (by omega)
                go_wp2
                go_roundw
                case rel => exact ⟨r + 1, by omega, by go_num, HQ', grw HWt.out HWc.out⟩
                case measure => simp [intOf]; omega
          · have HN : Hid (¬ OkG n u L K X) := show ¬ OkG n u L K X from fun h => hl (h.all r hlt).len
            go_wp2
            go_ret
            refine ⟨tells_no HN.out, grw HB0.out (HW.out.alloc ?_ _)⟩
            exact HW.out.size
        · obtain rfl : r = n := by omega
          go_wp2
          go_ret
          exact ⟨tells_yes ⟨h200, Hbu.out, HQ.out⟩, grw HB0.out HW.out⟩
  · have HN : Hid (¬ OkG n u L K X) := show ¬ OkG n u L K X from fun h => h200 h.len
    have hgt : 200 < n := by omega
    obtain ⟨g0, g1, g2, g3, g4, _⟩ := cells5 H0.out
    rw [hw0] at HB0
    clear H0 HT0 hw0 g0 g1 g2 g3 g4
    go_enter Tryz.func17, Tryz.ntmps17
    go_wp2
    go_ret
    exact ⟨tells_no HN.out, HB0.out⟩

end Go.Proofs.YtgflalfiopnmnaaGreatDoor

namespace Go.Proofs.YtgflalfiopnmnaaGreatDoor
open Go.RowKit Vl

abbrev vAgg (v : V) : Value := .agg #[.int .i64 v.k, .int .i64 v.n, .string v.s, .int .i64 v.a]

theorem equal_val (u v : V) (w : World) : (Op.equal 24 (vAgg u) (vAgg v)).run Tryz.prog w = .ok (eqV u v) w := by
  unfold Op.equal Op.maxDepth
  go_simp
  by_cases h1 : u.k = v.k <;> by_cases h2 : u.n = v.n <;> by_cases h3 : u.s.toList = v.s.toList <;> by_cases h4 : u.a = v.a <;> simp [eqV, h1, h2, h3, h4]

theorem check_val (em : Bool) (v : V) (w : World) : (Instr.checkKey em 10000 24 (vAgg v)).run Tryz.prog w = .ok () w := by
  kernel_rfl

def findV (v : V) : List (V × Value) → Option Value
  | [] => none
  | (k, x) :: l => if eqV v k = true then some x else findV v l

theorem find_val (v : V) (w : World) : ∀ (es : List MapEntry) (l : List (V × Value)) (i : Nat), es.map (fun e => (e.key, e.val)) = l.map (fun p => (vAgg p.1, p.2)) →
    (findV v l = none → (Instr.findAsking 24 (vAgg v) es i).run Tryz.prog w = .ok none w) ∧ (∀ x, findV v l = some x → ∃ j, (Instr.findAsking 24 (vAgg v) es i).run Tryz.prog w = .ok (some (j, x)) w)
  | [], [], i, _ => ⟨fun _ => rfl, fun x h => by cases h⟩
  | [], _ :: _, i, h => by simp at h
  | _ :: _, [], i, h => by simp at h
  | e :: es, (k, x) :: l, i, h => by
    simp only [List.map_cons, List.cons.injEq, Prod.mk.injEq] at h
    obtain ⟨⟨h1, h2⟩, h3⟩ := h
    have ih := find_val v w es l (i + 1) h3
    have e1 : (Instr.findAsking 24 (vAgg v) (e :: es) i).run Tryz.prog w = if eqV v k = true then .ok (some (i, e.val)) w else (Instr.findAsking 24 (vAgg v) es (i + 1)).run Tryz.prog w := by
      conv => lhs; unfold Instr.findAsking
      rw [Sem.run_bind, h1, equal_val]
      simp only [Result.andThen_ok]
      cases eqV v k <;> simp
    rw [e1]
    unfold findV
    by_cases he : eqV v k = true
    · rw [if_pos he, if_pos he, h2]
      exact ⟨fun h => (by cases h), fun y h => ⟨i, by cases h; rfl⟩⟩
    · rw [if_neg he, if_neg he]
      exact ih

theorem find_key (v : V) (w : World) (es : List MapEntry) (l : List (V × Value)) (h : es.map (fun e => (e.key, e.val)) = l.map (fun p => (vAgg p.1, p.2))) :
    (findV v l = none → (Instr.findKey 24 (vAgg v) es).run Tryz.prog w = .ok none w) ∧ (∀ x, findV v l = some x → ∃ j, (Instr.findKey 24 (vAgg v) es).run Tryz.prog w = .ok (some (j, x)) w) := by
  have hf := find_val v w es l 0 h
  have e1 : (Instr.findKey 24 (vAgg v) es).run Tryz.prog w = (Instr.findAsking 24 (vAgg v) es 0).run Tryz.prog w := by
    unfold Instr.findKey
    rw [Sem.run_bind, run_underlying Tryz.underlying24]
    simp only [Result.andThen_ok]
    cases es with
    | nil => rfl
    | cons e es => rfl
  rw [e1]
  exact hf

def MapIs (w : World) (M : Nat) (l : List (V × Value)) : Prop := ∃ es clk, w.heap[M]? = some (.map es clk) ∧ es.toList.map (fun e => (e.key, e.val)) = l.map (fun p => (vAgg p.1, p.2))

theorem MapIs.same {w w' : World} {M : Nat} {l : List (V × Value)} (h : MapIs w M l) (e : w'.heap[M]? = w.heap[M]?) : MapIs w' M l := by
  obtain ⟨es, clk, h1, h2⟩ := h
  exact ⟨es, clk, e.trans h1, h2⟩
theorem MapIs.lt {w : World} {M : Nat} {l : List (V × Value)} (h : MapIs w M l) : M < w.heap.size := by
  obtain ⟨es, clk, h1, _⟩ := h
  exact blk_lt h1

theorem MapIs.lookup {w : World} {M : Nat} {l : List (V × Value)} (h : MapIs w M l) (v : V) :
    (Instr.lookup 119 (.map (some M)) (vAgg v) true).run Tryz.prog w = .ok (.tuple #[(findV v l).getD .nilIface, .bool (findV v l).isSome]) w ∧
    (Instr.lookup 119 (.map (some M)) (vAgg v) false).run Tryz.prog w = .ok ((findV v l).getD .nilIface) w := by
  obtain ⟨es, clk, hb, hl⟩ := h
  have hk := find_key v w es.toList l hl
  have hz : (zeroValue 54).run Tryz.prog w = .ok .nilIface w := by kernel_rfl
  cases hf : findV v l with
  | none =>
    have h1 := hk.1 hf
    constructor <;> simp [Instr.lookup, run_underlying Tryz.underlying119, MapKept.run_getObj_map hb, check_val, h1, hz, Result.andThen]
  | some x =>
    obtain ⟨j, h1⟩ := hk.2 x hf
    constructor <;> simp [Instr.lookup, run_underlying Tryz.underlying119, MapKept.run_getObj_map hb, check_val, h1, Result.andThen]

theorem MapIs.update {w : World} {M : Nat} {l : List (V × Value)} (h : MapIs w M l) (v : V) (x : Value) (hf : findV v l = none) :
    ∃ w', (Instr.mapUpdate 119 (.map (some M)) (vAgg v) x).run Tryz.prog w = .ok () w' ∧ MapIs w' M (l ++ [(v, x)]) ∧ Only (fun k => k = M) w w' ∧ w'.heap.size = w.heap.size := by
  obtain ⟨es, clk, hb, hl⟩ := h
  have hk := (find_key v w es.toList l hl).1 hf
  refine ⟨{ w with heap := w.heap.setIfInBounds M (.map (es.push { key := vAgg v, val := x, born := clk }) (clk + 1)) }, ?_, ?_, ?_, by simp⟩
  · simp [Instr.mapUpdate, run_underlying Tryz.underlying119, MapKept.run_getObj_map hb, check_val, hk, Result.andThen, MapKept.run_setObj_map _ hb]
  · refine ⟨_, _, by rw [Array.getElem?_setIfInBounds_self_of_lt (blk_lt hb)], ?_⟩
    simp [hl]
  · refine ⟨rfl, rfl, rfl, by simp, fun k _ hk => ?_⟩
    show (w.heap.setIfInBounds M _)[k]? = w.heap[k]?
    rw [Array.getElem?_setIfInBounds_ne (fun e => hk e.symm)]

end Go.Proofs.YtgflalfiopnmnaaGreatDoor
