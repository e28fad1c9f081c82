import Derived.Test.YtgflalfiopnmnaaGreatDoorT5
namespace Go.Proofs.YtgflalfiopnmnaaGreatDoor
open Go.RowKit Vl

section
variable {B : Nat → Nat} {w w' : World} {CB : Nat} {ca : Option Addr} {cl cc cb co t t' : Nat} {σ τ : Sd}

def DrewD (F : V × Sd) (B : Nat → Nat) (p : V → Prop) (w : World) (CB : Nat) (ca : Option Addr) (cl cc cb co t : Nat) (e : Ending) (w' : World) : Prop :=
  ∃ (v : V) (τ : Sd), p v ∧ F = (v, τ) ∧ e = .returned (.agg #[.int .i64 v.k, .int .i64 v.n, .string v.s, .int .i64 v.a]) ∧ RdD B w' CB ca cl cc cb co t τ ∧ Only (fun k => k = CB) w w'

theorem RdD.put4 (h : RdD B w' CB ca cl cc cb co t τ) (hw : RdD B w CB ca cl cc cb co t' σ) (ho : Only (fun k => k = CB) w w') (a b c d : Value) :
    RdD B ((((w'.setCell ⟨w.heap.size, 0, none⟩ a).setCell ⟨w.heap.size, 1, none⟩ b).setCell ⟨w.heap.size, 2, none⟩ c).setCell ⟨w.heap.size, 3, none⟩ d) CB ca cl cc cb co t τ ∧ Only (fun k => k = CB) w ((((w'.setCell ⟨w.heap.size, 0, none⟩ a).setCell ⟨w.heap.size, 1, none⟩ b).setCell ⟨w.heap.size, 2, none⟩ c).setCell ⟨w.heap.size, 3, none⟩ d) :=
  ⟨h.keep (put4_below w' w.heap.size a b c d) hw.blocks.1 hw.blocks.2, ho.thenBelow (put4_below w' w.heap.size a b c d) (Nat.le_refl _)⟩

set_option maxHeartbeats 1000000 in
set_option maxRecDepth 100000 in
theorem keyD_p (h : RdD B w CB ca cl cc cb co t σ) (ht : t ≤ 60000000) :
    Calls Tryz.prog 48 #[.pointer (some ⟨CB, 0, none⟩)] w (DrewD (keyF B cl σ) B keyP w CB ca cl cc cb co (t + 30)) := by
  have hp := pickD_r 4 (h.alloc (.cells #[.int .i64 0, .int .i64 0, .string ⟨#[]⟩, .int .i64 0] 24)) (by omega) (by omega) (by omega)
  have HO0 : Hid (Only (fun k => k = CB) w (w.alloc (.cells #[.int .i64 0, .int .i64 0, .string ⟨#[]⟩, .int .i64 0] 24))) := (Only.refl _ _).alloc _
  have hne : w.heap.size ≠ CB := by have := h.blocks.1; omega
  have HH : Hid (RdD B w CB ca cl cc cb co t σ) := h
  clear h
  go_enter Tryz.func48, Tryz.ntmps48
  go_wp2_with fail
  refine hp.mono ?_
  clear hp
  rintro e w1 ⟨y, τ1, hy, E1, rfl, HR, HO⟩
  have HB : Hid (Empty4 w1 w.heap.size) := (Empty4.new w).only HO.out hne
  have HO1 : Hid (Only (fun k => k = CB) w w1) := HO0.out.trans HO.out
  clear HO HO0
  by_cases y0 : y = 0
  · subst y0
    clear hy
    have hp := pickD_r 2 HR.out (by omega) (by omega) (by omega)
    go_wp2_with fail
    refine hp.mono ?_
    clear hp
    rintro e w2 ⟨z, τ2, hz, E2, rfl, HR2, HO2⟩
    have HB2 : Hid (Empty4 w2 w.heap.size) := HB.out.only HO2.out hne
    have HO3 : Hid (Only (fun k => k = CB) w w2) := HO1.out.trans HO2.out
    obtain ⟨c0, c1, c2, c3, z0⟩ := four HB2.out
    clear HO1 HO2 HR HB
    go_wp2
    obtain ⟨q0, q1, q2, q3, _⟩ := four (put4_at HB2.out (.int .i64 1) (.int .i64 z) (.string ⟨#[]⟩) (.int .i64 0))
    refine bodyPost_ret (v := .agg #[.int .i64 1, .int .i64 z, .string ⟨#[]⟩, .int .i64 0]) (by simp [results, Tryz.results48, go_sem, q0, q1, q2, q3]) rfl ⟨⟨1, z, ⟨#[]⟩, 0⟩, τ2, keyP_bool hz, by simp [keyF, E1.out, E2.out], rfl, ?_⟩
    have := HR2.out.put4 HH.out HO3.out (.int .i64 1) (.int .i64 z) (.string ⟨#[]⟩) (.int .i64 0)
    exact ⟨this.1.mono (by omega), this.2⟩
  have hy0 : ((y : Int) == 0) = false := by simpa using y0
  by_cases y1 : y = 1
  · subst y1
    clear hy hy0 y0
    have hp := textD_r HR.out (by omega)
    go_wp2_with fail
    refine hp.mono ?_
    clear hp
    rintro e w2 ⟨s, τ2, hs, E2, rfl, HR2, HO2⟩
    have HB2 : Hid (Empty4 w2 w.heap.size) := HB.out.only HO2.out hne
    have HO3 : Hid (Only (fun k => k = CB) w w2) := HO1.out.trans HO2.out
    obtain ⟨c0, c1, c2, c3, z0⟩ := four HB2.out
    clear HO1 HO2 HR HB
    go_wp2
    obtain ⟨q0, q1, q2, q3, _⟩ := four (put4_at HB2.out (.int .i64 3) (.int .i64 0) (.string s) (.int .i64 0))
    refine bodyPost_ret (v := .agg #[.int .i64 3, .int .i64 0, .string s, .int .i64 0]) (by simp [results, Tryz.results48, go_sem, q0, q1, q2, q3]) rfl ⟨⟨3, 0, s, 0⟩, τ2, keyP_text hs, by simp [keyF, E1.out, E2.out], rfl, ?_⟩
    have := HR2.out.put4 HH.out HO3.out (.int .i64 3) (.int .i64 0) (.string s) (.int .i64 0)
    exact ⟨this.1.mono (by omega), this.2⟩
  have hy1 : ((y : Int) == 1) = false := by simp; omega
  by_cases y2 : y = 2
  · subst y2
    clear hy hy0 y0 hy1 y1
    have hp := pickD_r 6 HR.out (by omega) (by omega) (by omega)
    go_wp2_with fail
    refine hp.mono ?_
    clear hp
    rintro e w2 ⟨z, τ2, hz, E2, rfl, HR2, HO2⟩
    have HB2 : Hid (Empty4 w2 w.heap.size) := HB.out.only HO2.out hne
    have HO3 : Hid (Only (fun k => k = CB) w w2) := HO1.out.trans HO2.out
    clear HO1 HO2 HR HB
    by_cases z0 : z = 0
    · subst z0
      clear hz
      have hp := wholeD_r HR2.out (by omega)
      go_wp2_with fail
      refine hp.mono ?_
      clear hp
      rintro e w3 ⟨q, τ3, E3, rfl, hq, HR3, HO4⟩
      have HB3 : Hid (Empty4 w3 w.heap.size) := HB2.out.only HO4.out hne
      have HO5 : Hid (Only (fun k => k = CB) w w3) := HO3.out.trans HO4.out
      obtain ⟨c0, c1, c2, c3, z0⟩ := four HB3.out
      clear HO3 HO4 HR2 HB2
      go_wp2
      obtain ⟨q0, q1, q2, q3, _⟩ := four (put4_at HB3.out (.int .i64 2) (.int .i64 q) (.string ⟨#[]⟩) (.int .i64 0))
      refine bodyPost_ret (v := .agg #[.int .i64 2, .int .i64 q, .string ⟨#[]⟩, .int .i64 0]) (by simp [results, Tryz.results48, go_sem, q0, q1, q2, q3]) rfl ⟨⟨2, q, ⟨#[]⟩, 0⟩, τ3, keyP_int hq.1 hq.2, by simp [keyF, E1.out, E2.out, E3.out], rfl, ?_⟩
      have := HR3.out.put4 HH.out HO5.out (.int .i64 2) (.int .i64 q) (.string ⟨#[]⟩) (.int .i64 0)
      exact ⟨this.1.mono (by omega), this.2⟩
    · have hz0 : ((z : Int) == 0) = false := by simpa using z0
      have HZ0 : Hid (z ≠ 0) := z0
      have hp := pickD_r 4 HR2.out (by omega) (by omega) (by omega)
      go_wp2_with fail
      refine hp.mono ?_
      clear hp
      rintro e w3 ⟨q, τ3, hq, E3, rfl, HR3, HO4⟩
      have HB3 : Hid (Empty4 w3 w.heap.size) := HB2.out.only HO4.out hne
      have HO5 : Hid (Only (fun k => k = CB) w w3) := HO3.out.trans HO4.out
      obtain ⟨c0, c1, c2, c3, z0⟩ := four HB3.out
      clear HO3 HO4 HR2 HB2
      go_wp2
      obtain ⟨q0, q1, q2, q3, _⟩ := four (put4_at HB3.out (.int .i64 2) (.int .i64 q) (.string ⟨#[]⟩) (.int .i64 0))
      refine bodyPost_ret (v := .agg #[.int .i64 2, .int .i64 q, .string ⟨#[]⟩, .int .i64 0]) (by simp [results, Tryz.results48, go_sem, q0, q1, q2, q3]) rfl ⟨⟨2, q, ⟨#[]⟩, 0⟩, τ3, keyP_int (by omega) (by omega), by simp [keyF, keyG, E1.out, E2.out, E3.out, HZ0.out], rfl, ?_⟩
      have := HR3.out.put4 HH.out HO5.out (.int .i64 2) (.int .i64 q) (.string ⟨#[]⟩) (.int .i64 0)
      exact ⟨this.1.mono (by omega), this.2⟩
  · have hy2 : ((y : Int) == 2) = false := by simp; omega
    have hp := pickD_r 4 HR.out (by omega) (by omega) (by omega)
    have HY0 : Hid (y ≠ 0 ∧ y ≠ 1 ∧ y ≠ 2) := ⟨y0, y1, y2⟩
    clear y0 y1 y2
    go_wp2_with fail
    refine hp.mono ?_
    clear hp
    rintro e w3 ⟨q, τ3, hq, E3, rfl, HR3, HO4⟩
    have HB3 : Hid (Empty4 w3 w.heap.size) := HB.out.only HO4.out hne
    have HO5 : Hid (Only (fun k => k = CB) w w3) := HO1.out.trans HO4.out
    obtain ⟨c0, c1, c2, c3, z0⟩ := four HB3.out
    clear HO1 HO4 HR HB
    go_wp2
    obtain ⟨q0, q1, q2, q3, _⟩ := four (put4_at HB3.out (.int .i64 2) (.int .i64 q) (.string ⟨#[]⟩) (.int .i64 0))
    refine bodyPost_ret (v := .agg #[.int .i64 2, .int .i64 q, .string ⟨#[]⟩, .int .i64 0]) (by simp [results, Tryz.results48, go_sem, q0, q1, q2, q3]) rfl ⟨⟨2, q, ⟨#[]⟩, 0⟩, τ3, keyP_int (by omega) (by omega), by simp [keyF, keyG, E1.out, E3.out, HY0.out.1, HY0.out.2.1, HY0.out.2.2], rfl, ?_⟩
    have := HR3.out.put4 HH.out HO5.out (.int .i64 2) (.int .i64 q) (.string ⟨#[]⟩) (.int .i64 0)
    exact ⟨this.1.mono (by omega), this.2⟩

set_option maxHeartbeats 1000000 in
set_option maxRecDepth 100000 in
theorem valD_p (n : Nat) (hn : n ≤ 200) (h : RdD B w CB ca cl cc cb co t σ) (ht : t ≤ 50000000) :
    Calls Tryz.prog 49 #[.pointer (some ⟨CB, 0, none⟩), .int .i64 n] w (DrewD (valF B cl n σ) B (valP n) w CB ca cl cc cb co (t + 40)) := by
  by_cases n0 : n = 0
  · subst n0
    have hp := keyD_p (h.alloc (.cells #[.int .i64 0, .int .i64 0, .string ⟨#[]⟩, .int .i64 0] 24)) (by omega)
    have HO0 : Hid (Only (fun k => k = CB) w (w.alloc (.cells #[.int .i64 0, .int .i64 0, .string ⟨#[]⟩, .int .i64 0] 24))) := (Only.refl _ _).alloc _
    have hne : w.heap.size ≠ CB := by have := h.blocks.1; omega
    have HH : Hid (RdD B w CB ca cl cc cb co t σ) := h
    clear h
    go_enter Tryz.func49, Tryz.ntmps49
    go_wp2_with fail
    refine hp.mono ?_
    clear hp
    rintro e w2 ⟨v, τ2, hv, eV, rfl, hR2, hO2⟩
    have EV : Hid _ := eV
    clear eV
    have HR2 : Hid _ := hR2
    have HO3 : Hid (Only (fun k => k = CB) w w2) := HO0.out.trans hO2
    have HB2 : Hid (Empty4 w2 w.heap.size) := (Empty4.new w).only hO2 hne
    clear hR2 hO2 HO0
    obtain ⟨c0, c1, c2, c3, z0⟩ := four HB2.out
    go_wp2
    obtain ⟨q0, q1, q2, q3, _⟩ := four (put4_at HB2.out (.int .i64 v.k) (.int .i64 v.n) (.string v.s) (.int .i64 v.a))
    refine bodyPost_ret (v := .agg #[.int .i64 v.k, .int .i64 v.n, .string v.s, .int .i64 v.a]) (by simp [results, Tryz.results49, go_sem, q0, q1, q2, q3]) rfl ⟨v, τ2, valP_key hv, by simp [valF, EV.out], rfl, ?_⟩
    have := HR2.out.put4 HH.out HO3.out (.int .i64 v.k) (.int .i64 v.n) (.string v.s) (.int .i64 v.a)
    exact ⟨this.1.mono (by omega), this.2⟩
  have HN0 : Hid (n ≠ 0) := n0
  have nz : ¬ (n : Int) = 0 := by omega
  have nzb : ((n : Int) == 0) = false := by simp; omega
  have hp := pickD_r 3 (h.alloc (.cells #[.int .i64 0, .int .i64 0, .string ⟨#[]⟩, .int .i64 0] 24)) (by omega) (by omega) (by omega)
  have HO0 : Hid (Only (fun k => k = CB) w (w.alloc (.cells #[.int .i64 0, .int .i64 0, .string ⟨#[]⟩, .int .i64 0] 24))) := (Only.refl _ _).alloc _
  have hne : w.heap.size ≠ CB := by have := h.blocks.1; omega
  have HH : Hid (RdD B w CB ca cl cc cb co t σ) := h
  clear h
  go_enter Tryz.func49, Tryz.ntmps49
  go_wp2_with fail
  refine hp.mono ?_
  clear hp
  rintro e w1 ⟨y, τ1, hy, E1, rfl, HR, HO⟩
  have HB : Hid (Empty4 w1 w.heap.size) := (Empty4.new w).only HO.out hne
  have HO1 : Hid (Only (fun k => k = CB) w w1) := HO0.out.trans HO.out
  clear HO HO0
  by_cases y0 : y = 0
  · subst y0
    clear hy
    have hp := keyD_p HR.out (by omega)
    go_wp2_with fail
    refine hp.mono ?_
    clear hp
    rintro e w2 ⟨v, τ2, hv, eV, rfl, hR2, hO2⟩
    have EV : Hid _ := eV
    clear eV
    have HR2 : Hid _ := hR2
    have HO2 : Hid _ := hO2
    clear hR2 hO2
    have HB2 : Hid (Empty4 w2 w.heap.size) := HB.out.only HO2.out hne
    have HO3 : Hid (Only (fun k => k = CB) w w2) := HO1.out.trans HO2.out
    obtain ⟨c0, c1, c2, c3, z0⟩ := four HB2.out
    clear HO1 HO2 HR HB
    go_wp2
    obtain ⟨q0, q1, q2, q3, _⟩ := four (put4_at HB2.out (.int .i64 v.k) (.int .i64 v.n) (.string v.s) (.int .i64 v.a))
    refine bodyPost_ret (v := .agg #[.int .i64 v.k, .int .i64 v.n, .string v.s, .int .i64 v.a]) (by simp [results, Tryz.results49, go_sem, q0, q1, q2, q3]) rfl ⟨v, τ2, valP_key hv, by simp [valF, HN0.out, E1.out, EV.out], rfl, ?_⟩
    have := HR2.out.put4 HH.out HO3.out (.int .i64 v.k) (.int .i64 v.n) (.string v.s) (.int .i64 v.a)
    exact ⟨this.1.mono (by omega), this.2⟩
  · have hy0 : ((y : Int) == 0) = false := by simpa using y0
    have hp := pickD_r n HR.out (by omega) (by omega) (by omega)
    have HY0 : Hid (y ≠ 0) := y0
    clear y0
    go_wp2_with fail
    refine hp.mono ?_
    clear hp
    rintro e w3 ⟨q, τ3, hq, E3, rfl, HR3, HO4⟩
    have HB3 : Hid (Empty4 w3 w.heap.size) := HB.out.only HO4.out hne
    have HO5 : Hid (Only (fun k => k = CB) w w3) := HO1.out.trans HO4.out
    obtain ⟨c0, c1, c2, c3, z0⟩ := four HB3.out
    clear HO1 HO4 HR HB
    go_wp2
    obtain ⟨q0, q1, q2, q3, _⟩ := four (put4_at HB3.out (.int .i64 4) (.int .i64 0) (.string ⟨#[]⟩) (.int .i64 q))
    refine bodyPost_ret (v := .agg #[.int .i64 4, .int .i64 0, .string ⟨#[]⟩, .int .i64 q]) (by simp [results, Tryz.results49, go_sem, q0, q1, q2, q3]) rfl ⟨⟨4, 0, ⟨#[]⟩, q⟩, τ3, valP_tab hq, by simp [valF, HN0.out, E1.out, E3.out, HY0.out], rfl, ?_⟩
    have := HR3.out.put4 HH.out HO5.out (.int .i64 4) (.int .i64 0) (.string ⟨#[]⟩) (.int .i64 q)
    exact ⟨this.1.mono (by omega), this.2⟩
end

end Go.Proofs.YtgflalfiopnmnaaGreatDoor

namespace Go.Proofs.YtgflalfiopnmnaaGreatDoor
open Go.RowKit Vl

section
variable {B : Nat → Nat} {cl n P : Nat} {σ σk σa σb σy σz τ τ1 τ2 : Sd}
theorem pairsF_succ {k : Nat} {l : List (V × V)} {kv xv pk : V} (e0 : pairsF B cl n P k σ = (l, σk)) (e1 : keyF B cl σk = (kv, σa)) (e2 : valF B cl n σa = (xv, σb)) (e3 : pairKF P k kv = pk) : pairsF B cl n P (k + 1) σ = ((if l.any (fun q => eqV q.1 pk) then l else l ++ [(pk, xv)]), σb) := by
  simp only [pairsF, e0, e1, e2, e3]
theorem tabsF_succ {i y z : Nat} {ts : List (List (V × V))} {l : List (V × V)} (e0 : tabsF B cl n i σ = (ts, τ)) (e1 : pickF B cl 4 τ = (y, σy)) (e2 : pickF B cl 60 σy = (z, σz)) (e3 : pairsF B cl n (if z = 0 then 100 else y) (if z = 0 then 100 else y) σz = (l, σk)) : tabsF B cl n (i + 1) σ = (ts ++ [l], σk) := by
  simp only [tabsF, tabF, e0, e1, e2, e3]
theorem graphF_is {i n0 y : Nat} {ts : List (List (V × V))} {u : V} (e0 : numF B cl σ = i) (e1 : pickF B cl 9 σ = (n0, τ1)) (e2 : pickF B cl 25 τ1 = (y, τ2)) (e3 : tabsF B cl i i τ2 = (ts, τ)) (e4 : rootF B cl i τ = u) : graphF B cl σ = (i, u, ts) := by
  simp only [graphF, e0, e1, e2, e3, e4]
end
theorem prL_any_succ (j : Nat) (k x : Nat → V) (p : V) : (prL (j + 1) k x).any (fun q => eqV q.1 p) = ((prL j k x).any (fun q => eqV q.1 p) || eqV (k j) p) := by
  simp [prL, List.range_succ]
theorem prL_none {l : Nat} {k x : Nat → V} {p : V} (h : false = (prL l k x).any (fun q => eqV q.1 p)) : ∀ i, i < l → eqV (k i) p = false := fun i hi => by
  cases e : eqV (k i) p with
  | false => rfl
  | true => rw [prL_any.2 ⟨i, hi, e⟩] at h; cases h

structure DrTD (B : Nat → Nat) (σ : Sd) (w0 w : World) (CB xb : Nat) (ca : Option Addr) (cl cc cb co t : Nat) (pv : Value) (l : Nat) (k x : Nat → V) : Prop where
  out : w.heap[xb]? = some (.cells #[pv] 37 (0, 0))
  row : w.ownsRow w0.heap.size 39 8 pv l (pairCells k x l)
  rd : RdD B w CB ca cl cc cb co t σ
  only : Only (fun j => j = xb ∨ j = CB) w0 w

section
variable {w0 w w' w6 : World} {CB xb : Nat} {ca : Option Addr} {cl cc cb co t l : Nat} {pv : Value} {k x : Nat → V} {B : Nat → Nat} {σ τ : Sd}
theorem DrTD.below (h : DrTD B σ w0 w CB xb ca cl cc cb co t pv l k x) (hb : Below w.heap.size w w') : DrTD B σ w0 w' CB xb ca cl cc cb co t pv l k x :=
  ⟨blkB h.out hb, (Only.below (P := fun _ => False) hb).owns h.row (fun _ _ _ h => h), h.rd.below hb, h.only.trans (Only.below hb)⟩
theorem DrTD.mono {t' : Nat} (h : DrTD B σ w0 w CB xb ca cl cc cb co t pv l k x) (ht : t ≤ t') : DrTD B σ w0 w CB xb ca cl cc cb co t' pv l k x := ⟨h.out, h.row, h.rd.mono ht, h.only⟩
theorem DrTD.next {s : Nat} (h : DrTD B σ w0 w CB xb ca cl cc cb co t pv l k x) (hl : DrL w0 CB xb cl cb) (ho : Only (fun j => j = CB) w w') (hr : RdD B w' CB ca cl cc cb co s τ) : DrTD B τ w0 w' CB xb ca cl cc cb co s pv l k x :=
  ⟨(ho.block xb (blk_lt h.out) (by have := hl.cur; omega)).trans h.out, ho.owns h.row (fun g hg _ e => by have := hl.cur; have := hl.tab; omega), hr, h.only.trans (ho.mono (fun _ _ e => Or.inr e))⟩
theorem DrTD.far (h : DrTD B σ w0 w CB xb ca cl cc cb co t pv l k x) (hl : DrL w0 CB xb cl cb) {p : Addr} (hp : w0.heap.size ≤ p.block) (hne : pv.ownBlock ≠ some p.block) (v : Value) : DrTD B σ w0 (w.setCell p v) CB xb ca cl cc cb co t pv l k x := by
  have hx := hl.tab
  refine ⟨?_, ownsRow_setCell_other (a := p) h.row hne v, h.rd.keep ((Below.refl w0.heap.size w).setCell hp v) (by have := hl.cur; omega) (fun h => by have := hl.byt h; omega), only_set h.only hp v⟩
  rw [Below.heap_setCell _ _ _ _ (by omega)]
  exact h.out
theorem DrTD.more {g cap : Nat} {o1 : Obj} (h : DrTD B σ w0 w CB xb ca cl cc cb co t pv l k x) (hl : DrL w0 CB xb cl cb) {kk xx : V} (hgrow : (w.alloc o1).grownBy w6 pv.ownBlock)
    (hown : w6.ownsRow w0.heap.size 39 8 (.slice (some ⟨g, 0, none⟩) (l + 1) cap) (l + 1) (pairCells k x l ++ [.int .i64 kk.k, .int .i64 kk.n, .string kk.s, .int .i64 kk.a, .int .i64 xx.k, .int .i64 xx.n, .string xx.s, .int .i64 xx.a])) :
    (w6.cell? ⟨xb, 0, none⟩ = some pv ∧ w6.frozen? ⟨xb, 0, none⟩ = false) ∧ DrTD B σ w0 (w6.setCell ⟨xb, 0, none⟩ (.slice (some ⟨g, 0, none⟩) (l + 1) cap)) CB xb ca cl cc cb co t (.slice (some ⟨g, 0, none⟩) (l + 1) cap) (l + 1) (fun c => if c = l then kk else k c) (fun c => if c = l then xx else x c) := by
  obtain ⟨_, _, _, hk⟩ := owns_form h.row
  have hs := h.only.size
  have hx := hl.tab
  have hbl : ∀ k, k < w.heap.size → pv.ownBlock ≠ some k → w6.heap[k]? = w.heap[k]? := fun k hk hne =>
    (hgrow.block k (by simp; omega) (fun e => hne e.symm)).trans (Below.heap_alloc w o1 k hk)
  have n1 : ∀ k, k < w0.heap.size → pv.ownBlock ≠ some k := fun k hk' e => by have := (hk _ e).1; omega
  have h6 : w6.heap[xb]? = some (.cells #[pv] 37 (0, 0)) := (hbl xb (by omega) (n1 xb hx)).trans h.out
  have hsz : w.heap.size ≤ w6.heap.size := by have := hgrow.size; simp at this; omega
  have ho : Only (fun j => j = xb ∨ j = CB) w0 w6 := ⟨hgrow.os.trans h.only.os, hgrow.tape.trans h.only.tape, hgrow.output.trans h.only.output, by omega, fun k hk' hp => (hbl k (by omega) (n1 k hk')).trans (h.only.block k hk' hp)⟩
  have hb0 : Below xb w w6 := ⟨hgrow.os, hgrow.tape, hgrow.output, hsz, fun k hk' => hbl k (by omega) (n1 k (by omega))⟩
  have hb6 : Below xb w (w6.setCell ⟨xb, 0, none⟩ (.slice (some ⟨g, 0, none⟩) (l + 1) cap)) := hb0.setCell (p := ⟨xb, 0, none⟩) (Nat.le_refl _) _
  obtain ⟨c0, cz⟩ := one_at h6
  refine ⟨⟨c0, cz 0⟩, one_put h6 _, ?_, h.rd.keep hb6 hl.cur hl.byt, ho.set (p := ⟨xb, 0, none⟩) (Or.inl rfl) _⟩
  rw [pairCells_succ]
  simp only [if_true]
  rw [pairCells_congr (K := fun c => if c = l then kk else k c) (X := fun c => if c = l then xx else x c) (K' := k) (X' := x) (fun j hj => ⟨by simp only [show ¬ j = l by omega, if_false], by simp only [show ¬ j = l by omega, if_false]⟩)]
  exact owns_setK hown (p := ⟨xb, 0, none⟩) hx _
end

end Go.Proofs.YtgflalfiopnmnaaGreatDoor

namespace Go.Proofs.YtgflalfiopnmnaaGreatDoor
open Go.RowKit Vl

set_option maxHeartbeats 8000000 in
set_option maxRecDepth 100000 in
theorem graphD_any (B : Nat → Nat) (σ : Sd) (w : World) (CB : Nat) (ca : Option Addr) (cl cc cb co t : Nat) (h : RdD B w CB ca cl cc cb co t σ) (ht : t ≤ 1000) :
    Calls Tryz.prog 22 #[.pointer (some ⟨CB, 0, none⟩)] w fun e w' => (∃ (n : Nat) (u : V) (tv : Value) (PV : Nat → Value) (L : Nat → Nat) (K X : Nat → Nat → V) (base : Nat), n ≤ 200 ∧ w.heap.size < base ∧ e = .returned (.agg #[.int .i64 u.k, .int .i64 u.n, .string u.s, .int .i64 u.a, tv]) ∧ valP n u ∧ DrG w' base tv n PV L K X n ∧ graphF B cl σ = (n, u, tbL n L K X)) ∧ Only (fun k => k = CB) w w' := by
  have hbk := h.blocks
  obtain ⟨w0, hw0⟩ : ∃ w0, w0 = w.alloc (.cells #[.int .i64 0, .int .i64 0, .string ⟨#[]⟩, .int .i64 0, .slice none 0 0] 27) := ⟨_, rfl⟩
  have HB0 : Hid (Below w.heap.size w w0) := by rw [hw0]; exact (Below.refl _ _).alloc (Nat.le_refl _) _
  have HR0 : Hid (OutB w0 w.heap.size zeroV (.slice none 0 0)) := by rw [hw0]; exact heap_alloc_new _ _
  have hp := pickD_r 9 (h.below HB0.out) (by omega) (by omega) (by omega)
  clear h
  go_enter Tryz.func22, Tryz.ntmps22
  go_wp2_with fail
  rw [← hw0]
  clear hw0
  refine hp.mono ?_
  clear hp
  rintro e w1 ⟨n0, τ1, hn0, E1, rfl, HR1, HO1⟩
  have hp := pickD_r 25 HR1.out (by omega) (by omega) (by omega)
  go_wp2_with fail
  refine hp.mono ?_
  clear hp
  rintro e w2 ⟨y, τ2, hy, E2, rfl, HR2, HO2⟩
  have HO02 : Hid (Only (fun k => k = CB) w0 w2) := HO1.out.trans HO2.out
  clear HO1 HO2 HR1
  go_upto_if 17 with fail
  go_cut [3] from 13 (fun v wx => ∃ n : Nat, n ≤ 200 ∧ Hid (numF B cl σ = n) ∧ v = .int .i64 n ∧ wx = w2)
  case first =>
    by_cases y0 : y = 0
    · subst y0
      go_wp2
      go_meet
      exact ⟨200, by omega, (by show _ = _; simp [numF, E1.out, E2.out]), rfl, rfl⟩
    · have hyb : ((y : Int) == 0) = false := by simpa using y0
      have HNm : Hid (numF B cl σ = n0) := by show _ = _; simp [numF, E1.out, E2.out, y0]
      go_wp2
      go_meet
      exact ⟨n0, by omega, HNm, rfl, rfl⟩
  case rest =>
    obtain ⟨n, hn, HNm, rfl, hwc⟩ := hcut
    have hwc := hwc.symm
    subst hwc
    obtain ⟨w3, hw3⟩ : ∃ w3, w3 = w2.alloc (.cells #[.int .i64 0, .int .i64 0, .string ⟨#[]⟩, .int .i64 0, .slice none 0 0] 27) := ⟨_, rfl⟩
    have HB3 : Hid (Below w2.heap.size w2 w3) := by rw [hw3]; exact (Below.refl _ _).alloc (Nat.le_refl _) _
    have HG3 : Hid (OutB w3 w2.heap.size zeroV (.slice none 0 0)) := by rw [hw3]; exact heap_alloc_new _ _
    have hs3 : w3.heap.size = w2.heap.size + 1 := by rw [hw3]; exact World.size_alloc _ _
    have HR3 : Hid (RdD B w3 CB ca cl cc cb co (t + 4 + 4) τ2) := HR2.out.below HB3.out
    have HZ3 : Hid (OutB w3 w.heap.size zeroV (.slice none 0 0)) := blkB ((HO02.out.block _ (blk_lt HR0.out) (by omega)).trans HR0.out) HB3.out
    have HO3 : Hid (Only (fun k => k = CB) w w3) := (Only.below HB0.out).trans (HO02.out.trans (Only.below HB3.out))
    obtain ⟨gb, hgb⟩ : ∃ gb, w2.heap.size = gb := ⟨_, rfl⟩
    have lgb : w.heap.size < gb := by have := blk_lt HR0.out; have := HO02.out.size; omega
    go_wp2
    rw [← hw3]
    rw [hgb] at HG3 hs3
    try rw [hgb]
    clear hw3 HR2 HO02 HR0 HB0 HB3
    obtain ⟨it, hti, ht0, ht1, ht2⟩ := info_parts Tryz.info37
    obtain ⟨ip, hpi, hp0, hp1, hp2⟩ := info_parts Tryz.info39
    go_loopw [5] (fun ii wr => ∃ (i : Nat) (tv : Value) (PV : Nat → Value) (L : Nat → Nat) (K X : Nat → Nat → V) (τ : Sd), i ≤ n ∧ ii = .int .i64 i ∧ Hid (tabsF B cl n i τ2 = (tbL i L K X, τ)) ∧ Hid (OutB wr gb zeroV tv) ∧ Hid (DrG wr w3.heap.size tv n PV L K X i) ∧ Hid (RdD B wr CB ca cl cc cb co (t + 8 + 8000 * i) τ) ∧ Hid (Only (fun k => k = gb ∨ k = CB) w3 wr)) (fun ii _ => n - (intOf ii).toNat)
    case atStart => exact ⟨0, _, fun _ => .nilIface, fun _ => 0, fun _ _ => zeroV, fun _ _ => zeroV, τ2, Nat.zero_le _, rfl, (show _ = _ from rfl), HG3, ⟨OTab.nil _ _ _ _ _ _, fun _ h => absurd h (Nat.not_lt_zero _)⟩, HR3.out.mono (by omega), Only.refl _ _⟩
    case round =>
      obtain ⟨i, tv, PV, L, K, X, τi, hi, rfl, HTs, HGr, HDr, HRr, HOr⟩ := hrel
      have hsr := HOr.out.size
      by_cases hlt : i < n
      · obtain ⟨wx, hwx⟩ : ∃ wx, wx = wr.alloc (.cells #[.slice none 0 0] 37) := ⟨_, rfl⟩
        have HBx : Hid (Below wr.heap.size wr wx) := by rw [hwx]; exact (Below.refl _ _).alloc (Nat.le_refl _) _
        have HXx : Hid (wx.heap[wr.heap.size]? = some (.cells #[.slice none 0 0] 37 (0, 0))) := by rw [hwx]; exact heap_alloc_new _ _
        have hp := pickD_r 4 (HRr.out.below HBx.out) (by omega) (by omega) (by omega)
        go_wp2_with fail
        rw [← hwx]
        clear hwx
        refine hp.mono ?_
        clear hp
        rintro e wy ⟨y, σy, hy, Ey, rfl, HRy, HOy⟩
        have hp := pickD_r 60 HRy.out (by omega) (by omega) (by omega)
        go_wp2_with fail
        refine hp.mono ?_
        clear hp
        rintro e wz ⟨z, σz, hz, Ez, rfl, HRz, HOz⟩
        have HOxz : Hid (Only (fun k => k = CB) wx wz) := HOy.out.trans HOz.out
        obtain ⟨xb, hxb⟩ : ∃ xb, wr.heap.size = xb := ⟨_, rfl⟩
        clear HOy HOz HRy
        go_upto_if 27 with fail
        go_cut [7] from 18 to 73 (fun v wq => ∃ P : Nat, P ≤ 100 ∧ Hid ((if z = 0 then 100 else y) = P) ∧ v = .int .i64 P ∧ wq = wz)
        case first =>
          by_cases z0 : z = 0
          · subst z0
            go_wp2
            go_meet
            exact ⟨100, by omega, (show _ = _ from rfl), rfl, rfl⟩
          · have hzb : ((z : Int) == 0) = false := by simpa using z0
            have HPz : Hid ((if z = 0 then 100 else y) = y) := by show _ = _; rw [if_neg z0]
            go_wp2
            go_meet
            exact ⟨y, by omega, HPz, rfl, rfl⟩
        case rest =>
          obtain ⟨P, hP, HPz, rfl, hwz⟩ := hcut
          have hwz := hwz.symm
          subst hwz
          rw [hxb] at HXx
          try rw [hxb]
          have lxb : xb < wx.heap.size := blk_lt HXx.out
          have HLz : Hid (DrL wz CB xb cl cb) := ⟨by omega, fun h => by have := hbk.2 h; omega, by have := HOxz.out.size; omega⟩
          have HXz : Hid (wz.heap[xb]? = some (.cells #[.slice none 0 0] 37 (0, 0))) := (HOxz.out.block _ lxb (by omega)).trans HXx.out
          have HTz : Hid (DrTD B σz wz wz CB xb ca cl cc cb co (t + 16 + 8000 * i) (.slice none 0 0) 0 (fun _ => zeroV) (fun _ => zeroV)) := ⟨HXz.out, World.ownsRow_nil _ _ _ _, HRz.out.mono (by omega), Only.refl _ _⟩
          have HGz : Hid (OutB wz gb zeroV tv) := (HOxz.out.block _ (by have := blk_lt HGr.out; have := HBx.out.size; omega) (by omega)).trans (blkB HGr.out HBx.out)
          have HDz : Hid (OTab wz w3.heap.size tv i PV L K X) := (HDr.out.tab.below HBx.out).only HOxz.out (fun k hk e => by omega)
          have HDn : Hid (∀ g, tv.ownBlock = some g → g < xb) := show ∀ g, _ from fun g hg => by obtain ⟨_, _, _, h2⟩ := owns_form HDr.out.tab.own; have := (h2 g hg).2; omega
          have HDm : Hid (∀ j, j < i → ∀ g, (PV j).ownBlock = some g → g < xb ∧ w3.heap.size ≤ g) := show ∀ j, _ from fun j hj g hg => by obtain ⟨_, _, _, h2⟩ := owns_form (HDr.out.tab.rows j hj); have := h2 g hg; omega
          have HDl : Hid (∀ g, tv.ownBlock = some g → w3.heap.size ≤ g) := show ∀ g, _ from fun g hg => by obtain ⟨_, _, _, h2⟩ := owns_form HDr.out.tab.own; exact (h2 g hg).1
          have HOz : Hid (Only (fun k => k = gb ∨ k = CB) w3 wz) := (HOr.out.trans (Only.below HBx.out)).trans (HOxz.out.mono (fun _ _ e => Or.inr e))
          have HAl : Hid (∀ j, j < i → L j ≤ 100 ∧ DrP n (L j) (K j) (X j)) := HDr.out.all
          have hsz : w3.heap.size ≤ wz.heap.size := HOz.out.size
          have hsz2 : w3.heap.size ≤ xb := by omega
          clear HXx HXz HRz HOxz HBx HRr HGr HDr HOr lxb
          go_wp2
          go_loopw [8] (fun kk wk => ∃ (k l : Nat) (pv : Value) (ks xs : Nat → V) (σk : Sd), k ≤ P ∧ l ≤ k ∧ kk = .int .i64 k ∧ Hid (pairsF B cl n P k σz = (prL l ks xs, σk)) ∧ Hid (DrTD B σk wz wk CB xb ca cl cc cb co (t + 16 + 8000 * i + 72 * k) pv l ks xs) ∧ Hid (DrP n l ks xs)) (fun kk _ => P - (intOf kk).toNat)
          case atStart => exact ⟨0, 0, _, fun _ => zeroV, fun _ => zeroV, σz, Nat.zero_le _, Nat.le_refl _, rfl, (show _ = _ from rfl), HTz, DrP.nil _ _ _⟩
          case round =>
            obtain ⟨k, l, pv, ks, xs, σk, hk, hlk, rfl, HPs, HT, HP⟩ := hrel
            clear HTz
            obtain ⟨pa, pc, rfl, hpk⟩ := owns_form HT.out.row
            clear hpk
            by_cases hkP : k < P
            · have hp := keyD_p HT.out.rd (by omega)
              go_wp2_with fail
              refine hp.mono ?_
              clear hp
              rintro e wa ⟨kv, σa, hkv, eKv, rfl, hRa, hOa⟩
              have EKv : Hid (keyF B cl σk = (kv, σa)) := eKv
              clear eKv
              have HTa : Hid (DrTD B σa wz wa CB xb ca cl cc cb co (t + 16 + 8000 * i + 72 * k + 30) (.slice pa l pc) l ks xs) := HT.out.next HLz.out hOa hRa
              have hp := valD_p n hn hRa (by omega)
              clear hRa hOa HT
              go_wp2_with fail
              refine hp.mono ?_
              clear hp
              rintro e wb ⟨xv, σb, hxv, eXv, rfl, hRb, hOb⟩
              have EXv : Hid (valF B cl n σa = (xv, σb)) := eXv
              clear eXv
              have HTb : Hid (DrTD B σb wz wb CB xb ca cl cc cb co (t + 16 + 8000 * i + 72 * k + 30 + 40) (.slice pa l pc) l ks xs) := HTa.out.next HLz.out hOb hRb
              have HKV : Hid (keyP kv) := hkv
              have HXV : Hid (valP n xv) := hxv
              clear hRb hOb HTa hkv hxv
              obtain ⟨wp, hwp⟩ : ∃ wp, wp = wb.alloc (.cells #[.int .i64 kv.k, .int .i64 kv.n, .string kv.s, .int .i64 kv.a, .int .i64 xv.k, .int .i64 xv.n, .string xv.s, .int .i64 xv.a] 39) := ⟨_, rfl⟩
              have HBp : Hid (Below wb.heap.size wb wp) := by rw [hwp]; exact (Below.refl _ _).alloc (Nat.le_refl _) _
              have HPp : Hid (wp.heap[wb.heap.size]? = some (.cells #[.int .i64 kv.k, .int .i64 kv.n, .string kv.s, .int .i64 kv.a, .int .i64 xv.k, .int .i64 xv.n, .string xv.s, .int .i64 xv.a] 39 (0, 0))) := by rw [hwp]; exact heap_alloc_new _ _
              have HTp : Hid (DrTD B σb wz wp CB xb ca cl cc cb co (t + 16 + 8000 * i + 72 * k + 30 + 40) (.slice pa l pc) l ks xs) := HTb.out.below HBp.out
              have hpn : (Value.slice pa l pc).ownBlock ≠ some wb.heap.size := fun e => by obtain ⟨_, _, _, h2⟩ := owns_form HTb.out.row; have := (h2 _ e).2; omega
              have lpb : wz.heap.size ≤ wb.heap.size := HTb.out.only.size
              obtain ⟨pb, hpb⟩ : ∃ pb, wb.heap.size = pb := ⟨_, rfl⟩
              go_upto_if 40 with fail
              rw [← hwp]
              rw [hpb] at HPp hpn lpb
              try rw [hpb]
              clear hwp HTb HBp
              go_cut [] from 28 to 67 (fun wq => ∃ pk : V, keyP pk ∧ Hid (pairKF P k kv = pk) ∧ Hid (wq.heap[pb]? = some (.cells #[.int .i64 pk.k, .int .i64 pk.n, .string pk.s, .int .i64 pk.a, .int .i64 xv.k, .int .i64 xv.n, .string xv.s, .int .i64 xv.a] 39 (0, 0))) ∧ Hid (DrTD B σb wz wq CB xb ca cl cc cb co (t + 16 + 8000 * i + 72 * k + 30 + 40) (.slice pa l pc) l ks xs))
              case first =>
                by_cases h100 : P = 100
                · have e100 : ((P : Int) == 100) = true := by simp [h100]
                  obtain ⟨z0, z1, z2, z3, _, _, _, _, z8⟩ := cells8 HPp.out
                  go_wp2
                  go_meet
                  refine ⟨⟨2, k, ⟨#[]⟩, 0⟩, keyP_int (by omega) (by omega), (by show _ = _; unfold pairKF; rw [if_pos h100]), ?_, ?_⟩
                  · exact put4_in8 HPp.out _ _ _ _
                  · exact (((HTp.out.far HLz.out (p := ⟨pb, 0, none⟩) lpb hpn _).far HLz.out (p := ⟨pb, 1, none⟩) lpb hpn _).far HLz.out (p := ⟨pb, 2, none⟩) lpb hpn _).far HLz.out (p := ⟨pb, 3, none⟩) lpb hpn _
                · have e100 : ((P : Int) == 100) = false := by simp; omega
                  have HKf : Hid (pairKF P k kv = kv) := by show _ = _; unfold pairKF; rw [if_neg h100]
                  go_wp2
                  go_meet
                  exact ⟨kv, HKV.out, HKf, HPp, HTp⟩
              case rest =>
                obtain ⟨pk, hpk, HPk, HPc, HTc⟩ := hcut
                have HPK : Hid (keyP pk) := hpk
                clear hpk HPp HTp HKV hpn
                have HPP : Hid (PairsAt wc pa l (slB (.slice pa l pc)) 0 ks xs) := (owns_pairs HTc.out.row).2
                obtain ⟨qb, hqb⟩ : ∃ qb, slB (.slice pa l pc) = qb := ⟨_, rfl⟩
                rw [hqb] at HPP
                clear hqb
                obtain ⟨y0, y1⟩ := one_at HTc.out.out
                go_wp2
                clear y0 y1
                go_loopw [10, 47] (fun mt jj wq => ∃ (j : Nat) (b : Bool), j ≤ l ∧ jj = .int .i64 j ∧ mt = .bool b ∧ Hid (b = (prL j ks xs).any (fun q => eqV q.1 pk)) ∧ Hid (Below wc.heap.size wc wq)) (fun _ jj _ => l - (intOf jj).toNat)
                case atStart => exact ⟨0, false, Nat.zero_le _, rfl, rfl, (show _ = _ from rfl), Below.refl _ _⟩
                case round =>
                  obtain ⟨j, b, hj, rfl, rfl, Hb, HBq⟩ := hrel
                  by_cases hjl : j < l
                  · obtain rfl := HPP.out.top (by omega)
                    obtain ⟨⟨k0, k1, k2, k3⟩, ⟨x0, x1, x2, x3⟩⟩ := (HPP.out.below HBq.out).cells hjl
                    simp only [Nat.zero_add] at k0 k1 k2 k3 x0 x1 x2 x3
                    have HPq : Hid (wr.heap[pb]? = some (.cells #[.int .i64 pk.k, .int .i64 pk.n, .string pk.s, .int .i64 pk.a, .int .i64 xv.k, .int .i64 xv.n, .string xv.s, .int .i64 xv.a] 39 (0, 0))) := blkB HPc.out HBq.out
                    obtain ⟨z0, z1, z2, z3, _, _, _, _, z8⟩ := cells8 HPq.out
                    have lpq : pb < wr.heap.size := blk_lt HPq.out
                    have il : (0 : Int) ≤ (j : Int) ∧ (j : Int) < (l : Int) := by omega
                    obtain ⟨wn, hwn⟩ : ∃ wn, wn = wr.alloc (.cells #[.int .i64 (ks j).k, .int .i64 (ks j).n, .string (ks j).s, .int .i64 (ks j).a, .int .i64 (xs j).k, .int .i64 (xs j).n, .string (xs j).s, .int .i64 (xs j).a] 39) := ⟨_, rfl⟩
                    have HBn : Hid (Below wc.heap.size wc wn) := grw HBq.out (by rw [hwn]; exact (Below.refl _ _).alloc (Nat.le_refl _) _)
                    cases b
                    · have heq := eql_val (ks j) pk
                      obtain ⟨be, hbe⟩ : ∃ x, eqV (ks j) pk = x := ⟨_, rfl⟩
                      rw [hbe] at heq
                      cases be
                      · have Hb' : Hid (false = (prL (j + 1) ks xs).any (fun q => eqV q.1 pk)) := by show _ = _; rw [prL_any_succ, ← Hb.out, hbe]; rfl
                        clear hbe Hb
                        go_wp2
                        rw [← hwn]
                        go_roundw
                        case rel => exact ⟨j + 1, false, by omega, by go_num, rfl, Hb', HBn⟩
                        case measure => simp [intOf]; omega
                      · have Hb' : Hid (true = (prL (j + 1) ks xs).any (fun q => eqV q.1 pk)) := by show _ = _; rw [prL_any_succ, ← Hb.out, hbe]; rfl
                        clear hbe Hb
                        go_wp2
                        rw [← hwn]
                        go_roundw
                        case rel => exact ⟨j + 1, true, by omega, by go_num, rfl, Hb', HBn⟩
                        case measure => simp [intOf]; omega
                    · have Hb' : Hid (true = (prL (j + 1) ks xs).any (fun q => eqV q.1 pk)) := by show _ = _; rw [prL_any_succ, ← Hb.out]; rfl
                      clear Hb
                      go_wp2
                      rw [← hwn]
                      go_roundw
                      case rel => exact ⟨j + 1, true, by omega, by go_num, rfl, Hb', HBn⟩
                      case measure => simp [intOf]; omega
                  · obtain rfl : j = l := by omega
                    have HTq : Hid (DrTD B σb wz wr CB xb ca cl cc cb co (t + 16 + 8000 * i + 72 * k + 30 + 40) (.slice pa j pc) j ks xs) := HTc.out.below HBq.out
                    cases b
                    · have HbF : Hid (∀ i, i < j → eqV (ks i) pk = false) := prL_none Hb.out
                      have HPs6 : Hid (pairsF B cl n P (k + 1) σz = (prL (j + 1) (fun c => if c = j then pk else ks c) (fun c => if c = j then xv else xs c), σb)) := by
                        show _ = _
                        rw [prL_more, pairsF_succ HPs.out EKv.out EXv.out HPk.out, ← Hb.out]
                        rfl
                      have HPq : Hid (wr.heap[pb]? = some (.cells #[.int .i64 pk.k, .int .i64 pk.n, .string pk.s, .int .i64 pk.a, .int .i64 xv.k, .int .i64 xv.n, .string xv.s, .int .i64 xv.a] 39 (0, 0))) := blkB HPc.out HBq.out
                      obtain ⟨z0, z1, z2, z3, z4, z5, z6, z7, z8⟩ := cells8 HPq.out
                      have lpq : pb < wr.heap.size := blk_lt HPq.out
                      have hwzr : wz.heap.size ≤ wr.heap.size := HTq.out.only.size
                      obtain ⟨y0, y1⟩ := one_at HTq.out.out
                      have lxr : xb < wr.heap.size := blk_lt HTq.out.out
                      go_wp2_with (at_builtin; refine wpList_append_lies _ (by rfl) (.tmp 63) (.tmp 65) 35 (by rfl) wz.heap.size 39 ip (.agg #[.int .i64 0, .int .i64 0, .string ⟨#[]⟩, .int .i64 0, .int .i64 0, .int .i64 0, .string ⟨#[]⟩, .int .i64 0]) 8 80 Tryz.underlying35 hpi hp0 hp1 hp2 (by rfl) (by omega) (.slice pa j pc) j (pairCells ks xs j) (by rfl) (HTq.out.row.alloc _) ⟨wr.heap.size, 0, none⟩ 1 1 [.int .i64 pk.k, .int .i64 pk.n, .string pk.s, .int .i64 pk.a, .int .i64 xv.k, .int .i64 xv.n, .string xv.s, .int .i64 xv.a] (by rfl) (by rfl) (World.news_of_block (heap_alloc_new wr _)) (by intro v hv; simp at hv; rcases hv with rfl | rfl | rfl | rfl | rfl | rfl | rfl | rfl <;> rfl) (by omega) (by unfold maxLen; omega) (by omega) (by simp; omega) (wr.heap.size + 1) (by simp) ?_)
                      intro g cap w6 hown6 hgrow6 hat6 hlt6
                      obtain ⟨⟨q0, q1⟩, hT6⟩ := HTq.out.more HLz.out (kk := pk) (xx := xv) hgrow6 hown6
                      have HT6 : Hid (DrTD B σb wz (w6.setCell ⟨xb, 0, none⟩ (.slice (some ⟨g, 0, none⟩) (j + 1) cap)) CB xb ca cl cc cb co (t + 16 + 8000 * i + 72 * (k + 1)) (.slice (some ⟨g, 0, none⟩) (j + 1) cap) (j + 1) (fun c => if c = j then pk else ks c) (fun c => if c = j then xv else xs c)) := hT6.mono (by omega)
                      have HP6 : Hid (DrP n (j + 1) (fun c => if c = j then pk else ks c) (fun c => if c = j then xv else xs c)) := HP.out.more HPK.out HXV.out HbF.out
                      clear hT6 hown6 hgrow6 hat6 hlt6 z0 z1 z2 z3 z4 z5 z6 z7 z8 y0 y1
                      go_wp2
                      go_roundw
                      case rel => exact ⟨k + 1, j + 1, _, _, _, σb, by omega, by omega, by go_num, HPs6, HT6, HP6⟩
                      case measure => simp [intOf]; omega
                    · have HPs6 : Hid (pairsF B cl n P (k + 1) σz = (prL j ks xs, σb)) := by
                        show _ = _
                        rw [pairsF_succ HPs.out EKv.out EXv.out HPk.out, ← Hb.out]
                        rfl
                      have HTe : Hid (DrTD B σb wz wr CB xb ca cl cc cb co (t + 16 + 8000 * i + 72 * (k + 1)) (.slice pa j pc) j ks xs) := HTq.out.mono (by omega)
                      go_wp2
                      go_roundw
                      case rel => exact ⟨k + 1, j, _, ks, xs, σb, by omega, by omega, by go_num, HPs6, HTe, HP⟩
                      case measure => simp [intOf]; omega
            · obtain rfl : k = P := by omega
              obtain ⟨ta, tc, rfl, _⟩ := owns_form HDz.out.own
              have hwzr : wz.heap.size ≤ wr.heap.size := HT.out.only.size
              have HGk : Hid (OutB wr gb zeroV (.slice ta i tc)) := (HT.out.only.block _ (by have := blk_lt HGz.out; omega) (by omega)).trans HGz.out
              have HDk : Hid (OTab wr w3.heap.size (.slice ta i tc) i PV L K X) := HDz.out.onlyB HT.out.only (fun g hg e => by have := HDn.out g hg; have := HDl.out g hg; omega) (fun j hj g hg e => by have := HDm.out j hj g hg; omega)
              have HRk : Hid (wr.ownsRow w3.heap.size 39 8 (.slice pa l pc) l (pairCells ks xs l)) := owns_mono HT.out.row hsz
              have HOk : Hid (Only (fun k => k = gb ∨ k = CB) w3 wr) := HOz.out.then HT.out.only (fun j hj e => by omega)
              have HRd : Hid (RdD B wr CB ca cl cc cb co (t + 16 + 8000 * i + 72 * k) σk) := HT.out.rd
              have hd : ∀ j, j < i → ∀ g, (PV j).ownBlock = some g → (Value.slice pa l pc).ownBlock ≠ some g := fun j hj g hg e => by
                obtain ⟨_, _, _, h2⟩ := owns_form HT.out.row
                have := (h2 g e).1
                have := HDm.out j hj g hg
                have := HLz.out.tab
                omega
              have Hd : Hid (∀ j, j < i → ∀ g, (PV j).ownBlock = some g → (Value.slice pa l pc).ownBlock ≠ some g) := hd
              clear hd
              obtain ⟨y0, y1⟩ := one_at HT.out.out
              obtain ⟨g0, g1, g2, g3, g4, gz⟩ := cells5 HGk.out
              have lgr : gb < wr.heap.size := blk_lt HGk.out
              have lxr : xb < wr.heap.size := blk_lt HT.out.out
              have hw3r : w3.heap.size ≤ wr.heap.size := by omega
              go_wp2_with (at_builtin; refine wpList_append_lies _ (by rfl) (.tmp 69) (.tmp 71) 25 (by rfl) w3.heap.size 37 it (.agg #[.slice none 0 0]) 1 24 Tryz.underlying25 hti ht0 ht1 ht2 (by rfl) (by omega) (.slice ta i tc) i ((List.range i).map PV) (by rfl) (HDk.out.own.alloc _) ⟨wr.heap.size, 0, none⟩ 1 1 [.slice pa l pc] (by rfl) (by rfl) (World.news_of_block (heap_alloc_new wr _)) (by intro v hv; simp at hv; subst hv; rfl) (by omega) (by unfold maxLen; omega) (by omega) (by simp; omega) (wr.heap.size + 1) (by simp) ?_)
              intro g cap w7 hown7 hgrow7 hat7 hlt7
              rw [← hs3] at hown7
              obtain ⟨hT7, hB7⟩ := HDk.out.more HRk.out Hd.out _ hw3r hown7 hgrow7
              have HD7 : Hid (DrG w7 w3.heap.size (.slice (some ⟨g, 0, none⟩) (i + 1) cap) n (fun j => if j = i then .slice pa l pc else PV j) (fun j => if j = i then l else L j) (fun j => if j = i then ks else K j) (fun j => if j = i then xs else X j) (i + 1)) := ⟨hT7, fun j hj => by
                by_cases e : j = i
                · subst e; simp only [if_true]; exact ⟨by omega, HP.out⟩
                · simp only [e, if_false]; exact HAl.out j (by omega)⟩
              have HTs7 : Hid (tabsF B cl n (i + 1) τ2 = (tbL (i + 1) (fun j => if j = i then l else L j) (fun j => if j = i then ks else K j) (fun j => if j = i then xs else X j), σk)) := by
                show _ = _
                rw [tbL_more]
                exact tabsF_succ HTs.out Ey.out Ez.out (by rw [HPz.out]; exact HPs.out)
              have HG7 : Hid (OutB w7 gb zeroV (.slice ta i tc)) := (hB7.block _ (by omega)).trans HGk.out
              have HO7 : Hid (Only (fun k => k = gb ∨ k = CB) w3 w7) := HOk.out.thenBelow hB7 (Nat.le_refl _)
              have HR7 : Hid (RdD B w7 CB ca cl cc cb co (t + 16 + 8000 * i + 72 * k) σk) := HRd.out.keep hB7 (by omega) (fun h => by have := hbk.2 h; omega)
              clear hT7 hB7 hown7 hgrow7 hat7 hlt7 y0 y1 g0 g1 g2 g3 g4 gz Hd HRd HOk HRk HDk HGk
              obtain ⟨g0, g1, g2, g3, g4, gz⟩ := cells5 HG7.out
              go_wp2
              go_roundw
              case rel => exact ⟨i + 1, _, _, _, _, _, σk, by omega, by go_num, HTs7, put5hi HG7.out _, ⟨HD7.out.tab.only ((Only.refl (fun k => k = gb) w7).set (p := ⟨gb, 4, none⟩) rfl _) (fun k hk e => by omega), HD7.out.all⟩, (HR7.out.keep ((Below.refl gb w7).setCell (p := ⟨gb, 4, none⟩) (Nat.le_refl _) _) (by omega) (fun h => by have := hbk.2 h; omega)).mono (by omega), HO7.out.set (p := ⟨gb, 4, none⟩) (Or.inl rfl) _⟩
              case measure => simp [intOf]; omega
      · obtain rfl : i = n := by omega
        have hp := valD_p i hn HRr.out (by omega)
        obtain ⟨ta, tc, rfl, _⟩ := owns_form HDr.out.tab.own
        go_wp2_with fail
        refine hp.mono ?_
        clear hp
        rintro e wa ⟨u, σu, hu, eU, rfl, hRa, hOa⟩
        have EU : Hid (valF B cl i τi = (u, σu)) := eU
        clear eU
        have HU : Hid (valP i u) := hu
        have HGa : Hid (OutB wa gb zeroV (.slice ta i tc)) := (hOa.block _ (blk_lt HGr.out) (by omega)).trans HGr.out
        have HTa : Hid (OTab wa w3.heap.size (.slice ta i tc) i PV L K X) := HDr.out.tab.only hOa (fun k hk e => by omega)
        have HAl : Hid (∀ j, j < i → L j ≤ 100 ∧ DrP i (L j) (K j) (X j)) := HDr.out.all
        have HOa : Hid (Only (fun k => k = gb ∨ k = CB) w3 wa) := HOr.out.then hOa (fun _ _ e => Or.inr e)
        obtain ⟨wb, hwb⟩ : ∃ wb, wb = (((wa.setCell ⟨gb, 0, none⟩ (.int .i64 u.k)).setCell ⟨gb, 1, none⟩ (.int .i64 u.n)).setCell ⟨gb, 2, none⟩ (.string u.s)).setCell ⟨gb, 3, none⟩ (.int .i64 u.a) := ⟨_, rfl⟩
        have HGb : Hid (OutB wb gb u (.slice ta i tc)) := by rw [hwb]; exact put5lo HGa.out _ _ _ _
        have hob : Only (fun k => k = gb) wa wb := by rw [hwb]; exact set4_only
        have HTb : Hid (OTab wb w3.heap.size (.slice ta i tc) i PV L K X) := HTa.out.only hob (fun k hk e => by omega)
        have HOb : Hid (Only (fun k => k = gb ∨ k = CB) w3 wb) := HOa.out.then hob (fun _ _ e => Or.inl e)
        have HRb : Hid (RdD B wb CB ca cl cc cb co (t + 8 + 8000 * i + 40) σu) := hRa.keep (hob.toBelow (base := gb) (fun k e => by omega) (by have := blk_lt HGa.out; omega)) (by omega) (fun h => by have := hbk.2 h; omega)
        have HZb : Hid (OutB wb w.heap.size zeroV (.slice none 0 0)) := (HOb.out.block _ (blk_lt HZ3.out) (by omega)).trans HZ3.out
        obtain ⟨g0, g1, g2, g3, g4, gz⟩ := cells5 HGa.out
        clear hu hRa hOa hob HGr HDr HRr HOr HTa HOa
        by_cases i0 : i = 0
        · have ib : ¬ (0 : Int) < (i : Int) := by omega
          have HGF : Hid (graphF B cl σ = (i, u, tbL i L K X)) := graphF_is HNm.out E1.out E2.out HTs.out (by unfold rootF; rw [if_neg (by omega), EU.out])
          clear i0
          obtain ⟨k0, k1, k2, k3, k4, kz⟩ := cells5 HGb.out
          obtain ⟨r0, r1, r2, r3, r4, r5⟩ := cells5 HZb.out
          simp only [zeroV] at r0 r1 r2 r3
          go_upto_if 84 with fail
          rw [← hwb]
          clear hwb g0 g1 g2 g3 g4 gz
          go_wp2
          have F := put5hi (put5lo HZb.out (.int .i64 u.k) (.int .i64 u.n) (.string u.s) (.int .i64 u.a)) (.slice ta i tc)
          obtain ⟨wf, hwf⟩ : ∃ wf, wf = ((((wb.setCell ⟨w.heap.size, 0, none⟩ (.int .i64 u.k)).setCell ⟨w.heap.size, 1, none⟩ (.int .i64 u.n)).setCell ⟨w.heap.size, 2, none⟩ (.string u.s)).setCell ⟨w.heap.size, 3, none⟩ (.int .i64 u.a)).setCell ⟨w.heap.size, 4, none⟩ (.slice ta i tc) := ⟨_, rfl⟩
          have ho : Only (fun k => k = w.heap.size) wb wf := by rw [hwf]; exact set4_only.set (p := ⟨w.heap.size, 4, none⟩) rfl _
          rw [← hwf] at F ⊢
          clear hwf
          obtain ⟨q0, q1, q2, q3, q4, _⟩ := cells5 F
          refine bodyPost_ret (v := .agg #[.int .i64 u.k, .int .i64 u.n, .string u.s, .int .i64 u.a, .slice ta i tc]) (by simp [results, Tryz.results22, go_sem, q0, q1, q2, q3, q4]) rfl ⟨⟨i, u, _, PV, L, K, X, w3.heap.size, hn, by omega, rfl, HU.out, ⟨HTb.out.only ho (fun k hk e => by omega), HAl.out⟩, HGF.out⟩, ?_⟩
          exact (HO3.out.then HOb.out (fun j hj e => by omega)).then ho (fun j hj e => by omega)
        · have ib : (0 : Int) < (i : Int) := by omega
          have hp := pickD_r 8 HRb.out (by omega) (by omega) (by omega)
          go_wp2_with fail
          rw [← hwb]
          clear hwb g0 g1 g2 g3 g4 gz
          refine hp.mono ?_
          clear hp
          rintro e wd ⟨q, σq, hq, Eq, rfl, HRd, HOd⟩
          have HGd : Hid (OutB wd gb u (.slice ta i tc)) := (HOd.out.block _ (blk_lt HGb.out) (by omega)).trans HGb.out
          have HTd : Hid (OTab wd w3.heap.size (.slice ta i tc) i PV L K X) := HTb.out.only HOd.out (fun k hk e => by omega)
          have HOe : Hid (Only (fun k => k = gb ∨ k = CB) w3 wd) := HOb.out.then HOd.out (fun _ _ e => Or.inr e)
          have HZd : Hid (OutB wd w.heap.size zeroV (.slice none 0 0)) := (HOe.out.block _ (blk_lt HZ3.out) (by omega)).trans HZ3.out
          clear HGb HTb HOb HZb HRb HRd HOd
          by_cases q0 : 0 < q
          · have qb : (0 : Int) < (q : Int) := by omega
            obtain ⟨k0, k1, k2, k3, k4, kz⟩ := cells5 HGd.out
            obtain ⟨wg, hwg⟩ : ∃ wg, wg = (((wd.setCell ⟨gb, 0, none⟩ (.int .i64 4)).setCell ⟨gb, 1, none⟩ (.int .i64 0)).setCell ⟨gb, 2, none⟩ (.string ⟨#[]⟩)).setCell ⟨gb, 3, none⟩ (.int .i64 0) := ⟨_, rfl⟩
            obtain ⟨ur, HUR⟩ : ∃ ur : V, Hid (ur = ⟨4, 0, ⟨#[]⟩, 0⟩) := ⟨_, rfl⟩
            have HGF : Hid (graphF B cl σ = (i, ur, tbL i L K X)) := graphF_is HNm.out E1.out E2.out HTs.out (by unfold rootF; rw [EU.out]; simp only [Eq.out]; rw [if_pos ⟨by omega, q0⟩, HUR.out])
            have HGg : Hid (OutB wg gb ur (.slice ta i tc)) := by rw [HUR.out, hwg]; exact put5lo HGd.out _ _ _ _
            have hog : Only (fun k => k = gb) wd wg := by rw [hwg]; exact set4_only
            have HTg : Hid (OTab wg w3.heap.size (.slice ta i tc) i PV L K X) := HTd.out.only hog (fun k hk e => by omega)
            have HOg : Hid (Only (fun k => k = gb ∨ k = CB) w3 wg) := HOe.out.then hog (fun _ _ e => Or.inl e)
            have HZg : Hid (OutB wg w.heap.size zeroV (.slice none 0 0)) := (HOg.out.block _ (blk_lt HZ3.out) (by omega)).trans HZ3.out
            clear hog
            go_upto_region 30 with fail
            rw [← hwg]
            clear hwg k0 k1 k2 k3 k4 kz
            obtain ⟨k0, k1, k2, k3, k4, kz⟩ := cells5 HGg.out
            obtain ⟨r0, r1, r2, r3, r4, r5⟩ := cells5 HZg.out
            simp only [zeroV] at r0 r1 r2 r3
            go_wp2
            have F := put5hi (put5lo HZg.out (.int .i64 ur.k) (.int .i64 ur.n) (.string ur.s) (.int .i64 ur.a)) (.slice ta i tc)
            obtain ⟨wf, hwf⟩ : ∃ wf, wf = ((((wg.setCell ⟨w.heap.size, 0, none⟩ (.int .i64 ur.k)).setCell ⟨w.heap.size, 1, none⟩ (.int .i64 ur.n)).setCell ⟨w.heap.size, 2, none⟩ (.string ur.s)).setCell ⟨w.heap.size, 3, none⟩ (.int .i64 ur.a)).setCell ⟨w.heap.size, 4, none⟩ (.slice ta i tc) := ⟨_, rfl⟩
            have ho : Only (fun k => k = w.heap.size) wg wf := by rw [hwf]; exact set4_only.set (p := ⟨w.heap.size, 4, none⟩) rfl _
            rw [← hwf] at F ⊢
            clear hwf
            obtain ⟨q0, q1, q2, q3, q4, _⟩ := cells5 F
            refine bodyPost_ret (v := .agg #[.int .i64 ur.k, .int .i64 ur.n, .string ur.s, .int .i64 ur.a, .slice ta i tc]) (by simp [results, Tryz.results22, go_sem, q0, q1, q2, q3, q4]) rfl ⟨⟨i, ur, _, PV, L, K, X, w3.heap.size, hn, by omega, rfl, by rw [HUR.out]; exact valP_tab (by omega), ⟨HTg.out.only ho (fun k hk e => by omega), HAl.out⟩, HGF.out⟩, ?_⟩
            exact (HO3.out.then HOg.out (fun j hj e => by omega)).then ho (fun j hj e => by omega)
          · have qb : ¬ (0 : Int) < (q : Int) := by omega
            have HGF : Hid (graphF B cl σ = (i, u, tbL i L K X)) := graphF_is HNm.out E1.out E2.out HTs.out (by unfold rootF; rw [EU.out]; simp only [Eq.out]; rw [if_neg (fun h => q0 h.2)])
            obtain ⟨k0, k1, k2, k3, k4, kz⟩ := cells5 HGd.out
            obtain ⟨r0, r1, r2, r3, r4, r5⟩ := cells5 HZd.out
            simp only [zeroV] at r0 r1 r2 r3
            go_wp2
            have F := put5hi (put5lo HZd.out (.int .i64 u.k) (.int .i64 u.n) (.string u.s) (.int .i64 u.a)) (.slice ta i tc)
            obtain ⟨wf, hwf⟩ : ∃ wf, wf = ((((wd.setCell ⟨w.heap.size, 0, none⟩ (.int .i64 u.k)).setCell ⟨w.heap.size, 1, none⟩ (.int .i64 u.n)).setCell ⟨w.heap.size, 2, none⟩ (.string u.s)).setCell ⟨w.heap.size, 3, none⟩ (.int .i64 u.a)).setCell ⟨w.heap.size, 4, none⟩ (.slice ta i tc) := ⟨_, rfl⟩
            have ho : Only (fun k => k = w.heap.size) wd wf := by rw [hwf]; exact set4_only.set (p := ⟨w.heap.size, 4, none⟩) rfl _
            rw [← hwf] at F ⊢
            clear hwf
            obtain ⟨q0, q1, q2, q3, q4, _⟩ := cells5 F
            refine bodyPost_ret (v := .agg #[.int .i64 u.k, .int .i64 u.n, .string u.s, .int .i64 u.a, .slice ta i tc]) (by simp [results, Tryz.results22, go_sem, q0, q1, q2, q3, q4]) rfl ⟨⟨i, u, _, PV, L, K, X, w3.heap.size, hn, by omega, rfl, HU.out, ⟨HTd.out.only ho (fun k hk e => by omega), HAl.out⟩, HGF.out⟩, ?_⟩
            exact (HO3.out.then HOe.out (fun j hj e => by omega)).then ho (fun j hj e => by omega)
end Go.Proofs.YtgflalfiopnmnaaGreatDoor
