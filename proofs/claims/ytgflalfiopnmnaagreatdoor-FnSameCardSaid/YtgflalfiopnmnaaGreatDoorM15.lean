import Derived.Test.YtgflalfiopnmnaaGreatDoorM14
import Derived.Test.YtgflalfiopnmnaaGreatDoorM3
import Derived.Lib.ItoaNum
namespace Go.Proofs.YtgflalfiopnmnaaGreatDoor
open Go.RowKit Vl

set_option maxHeartbeats 1000000 in
set_option maxRecDepth 100000 in
theorem spoilt_any (u : V) (ta : Option Addr) (n tc base : Nat) (PV : Nat → Value) (L : Nat → Nat) (K X : Nat → Nat → V) (ca : Option Addr) (cl cc cb co : Nat) (w : World) (hn : n ≤ 200) (HF : Hid (FineG n u L K X)) (HO : Hid (OTab w base (.slice ta n tc) n PV L K X)) (hbw : base ≤ w.heap.size) (hB : ByteR w ca cl cb co) (hcb : 0 < cl → cb < base) (hcl : cl ≤ 1048576) :
    Calls Tryz.prog 16 #[.agg #[.int .i64 u.k, .int .i64 u.n, .string u.s, .int .i64 u.a, .slice ta n tc], .slice ca cl cc] w fun e w' => SpRes w' e base (.slice ta n tc) n ∧ Below base w w' ∧ ∀ b x v, OutB w b x v → OutB w' b x v := by
  have A3 := alloc3 w (.cells #[.int .i64 u.k, .int .i64 u.n, .string u.s, .int .i64 u.a, .slice ta n tc] 27) (.cells #[.int .i64 0, .int .i64 0, .string ⟨#[]⟩, .int .i64 0, .slice none 0 0] 27) (.cells #[.slice ca cl cc, .int .i64 0, .int .u64 0] 51)
  obtain ⟨wa, hwa⟩ : ∃ wa, wa = ((w.alloc (.cells #[.int .i64 u.k, .int .i64 u.n, .string u.s, .int .i64 u.a, .slice ta n tc] 27)).alloc (.cells #[.int .i64 0, .int .i64 0, .string ⟨#[]⟩, .int .i64 0, .slice none 0 0] 27)).alloc (.cells #[.slice ca cl cc, .int .i64 0, .int .u64 0] 51) := ⟨_, rfl⟩
  rw [← hwa] at A3
  have HGa : Hid (OutB wa w.heap.size u (.slice ta n tc)) := A3.1
  have HZa : Hid (OutB wa (w.heap.size + 1) zeroV (.slice none 0 0)) := A3.2.1
  have hsa : Hid (wa.heap.size = w.heap.size + 3) := A3.2.2.2.1
  have HBa : Hid (Below w.heap.size w wa) := A3.2.2.2.2
  obtain ⟨gb, hgb⟩ : ∃ gb, w.heap.size = gb := ⟨_, rfl⟩
  obtain ⟨rb, hrb⟩ : ∃ rb, gb + 1 = rb := ⟨_, rfl⟩
  obtain ⟨CB, hCB⟩ : ∃ CB, w.heap.size + 2 = CB := ⟨_, rfl⟩
  have HOa : Hid (OTab wa base (.slice ta n tc) n PV L K X) := HO.out.below HBa.out
  have hg := spoil_any wa CB ca cl cc cb co 0 u ta n tc base PV L K X hn HF HOa (by omega) (rd_start hB hcl A3.2.2.2.2 (by rw [← hCB]; exact A3.2.2.1) (by omega)) hcb (by omega)
  clear A3 hB
  go_enter Tryz.func16, Tryz.ntmps16
  go_upto_region 2 with fail
  rw [← hwa]
  rw [hgb] at HGa HZa
  rw [hrb] at HZa
  try rw [hCB]
  try rw [hgb]
  try rw [hrb]
  try rw [show gb + 1 + 1 = CB by omega]
  try rw [show rb + 1 = CB by omega]
  try rw [show gb + 2 = CB by omega]
  clear hwa
  obtain ⟨g0, g1, g2, g3, g4, _⟩ := cells5 HGa.out
  go_wp2_with fail
  refine hg.mono ?_
  clear hg
  rintro e w1 ⟨⟨u', PV', L', K', X', rfl, hT, hF⟩, hb1, hx1⟩
  have HT1 : Hid (OTab w1 base (.slice ta n tc) n PV' L' K' X') := hT
  have HF1 : Hid (FineG n u' L' K' X') := hF
  have HB1 : Hid (Below base w w1) := (HBa.out.mono hbw).trans hb1
  have HZ1 : Hid (OutB w1 rb zeroV (.slice none 0 0)) := hx1 _ _ _ HZa.out
  have HX1 : Hid (∀ b x v, OutB w b x v → OutB w1 b x v) := show ∀ b x v, _ from fun b x v hb => hx1 _ _ _ (blkB hb HBa.out)
  have hs1 : wa.heap.size ≤ w1.heap.size := hb1.size
  clear hT hF hb1 hx1 g0 g1 g2 g3 g4
  obtain ⟨r0, r1, r2, r3, r4, r5⟩ := cells5 HZ1.out
  simp only [zeroV] at r0 r1 r2 r3
  go_wp2
  have F := put5hi (put5lo HZ1.out (.int .i64 u'.k) (.int .i64 u'.n) (.string u'.s) (.int .i64 u'.a)) (.slice ta n tc)
  obtain ⟨wf, hwf⟩ : ∃ wf, wf = ((((w1.setCell ⟨rb, 0, none⟩ (.int .i64 u'.k)).setCell ⟨rb, 1, none⟩ (.int .i64 u'.n)).setCell ⟨rb, 2, none⟩ (.string u'.s)).setCell ⟨rb, 3, none⟩ (.int .i64 u'.a)).setCell ⟨rb, 4, none⟩ (.slice ta n tc) := ⟨_, rfl⟩
  have ho : Only (fun k => k = rb) w1 wf := by rw [hwf]; exact set4_only.set (p := ⟨rb, 4, none⟩) rfl _
  rw [← hwf] at F ⊢
  clear hwf
  obtain ⟨q0, q1, q2, q3, q4, _⟩ := cells5 F
  refine bodyPost_ret (v := .agg #[.int .i64 u'.k, .int .i64 u'.n, .string u'.s, .int .i64 u'.a, .slice ta n tc]) (by simp [results, Tryz.results16, go_sem, q0, q1, q2, q3, q4]) rfl ⟨⟨u', PV', L', K', X', rfl, HT1.out.apart HZ1.out (by decide) (by decide) ho, HF1.out⟩, ?_⟩
  exact ⟨HB1.out.trans (ho.toBelow (fun k e => by omega) (by have := hsa.out; omega)), fun b x v hb => (ho.block _ (blk_lt (HX1.out b x v hb)) (by have := blk_lt hb; omega)).trans (HX1.out b x v hb)⟩

end Go.Proofs.YtgflalfiopnmnaaGreatDoor

namespace Go.Proofs.YtgflalfiopnmnaaGreatDoor
open Vl

/-! ### The count -/
def bump (Q : Nat → Nat) (r : Nat) : Nat → Nat := fun i => if i = r then Q r + 1 else Q i

def cnt (L : Nat → Nat) (X : Nat → Nat → V) : Nat → (Nat → Nat) → V → (Nat → Nat)
  | 0, Q, _ => Q
  | f + 1, Q, v => if v.k = 4 then (if Q v.a.toNat = 0 then (List.range (L v.a.toNat)).foldl (fun U c => cnt L X f U (X v.a.toNat c)) (bump Q v.a.toNat) else bump Q v.a.toNat) else Q
def cnts (L : Nat → Nat) (X : Nat → Nat → V) (f : Nat) (Q : Nat → Nat) (x : Nat → V) (c : Nat) : Nat → Nat := (List.range c).foldl (fun U c => cnt L X f U (x c)) Q

theorem cnts_zero (L : Nat → Nat) (X : Nat → Nat → V) (f : Nat) (Q : Nat → Nat) (x : Nat → V) : cnts L X f Q x 0 = Q := rfl
theorem cnts_succ (L : Nat → Nat) (X : Nat → Nat → V) (f : Nat) (Q : Nat → Nat) (x : Nat → V) (c : Nat) : cnts L X f Q x (c + 1) = cnt L X f (cnts L X f Q x c) (x c) := by
  simp [cnts, List.range_succ]
theorem cnt_new {L : Nat → Nat} {X : Nat → Nat → V} {f : Nat} {Q : Nat → Nat} {v : V} (h : v.k = 4) (h0 : Q v.a.toNat = 0) : cnt L X (f + 1) Q v = cnts L X f (bump Q v.a.toNat) (X v.a.toNat) (L v.a.toNat) := by
  show (if v.k = 4 then _ else Q) = _
  rw [if_pos h, if_pos h0]
  rfl
theorem cnt_old {L : Nat → Nat} {X : Nat → Nat → V} {f : Nat} {Q : Nat → Nat} {v : V} (h : v.k = 4) (h0 : Q v.a.toNat ≠ 0) : cnt L X (f + 1) Q v = bump Q v.a.toNat := by
  show (if v.k = 4 then _ else Q) = _
  rw [if_pos h, if_neg h0]
theorem cnt_no {L : Nat → Nat} {X : Nat → Nat → V} {f : Nat} {Q : Nat → Nat} {v : V} (h : v.k ≠ 4) : cnt L X f Q v = Q := by
  cases f with
  | zero => rfl
  | succ f =>
    show (if v.k = 4 then _ else Q) = _
    rw [if_neg h]

theorem bump_le (Q : Nat → Nat) (r i : Nat) : Q i ≤ bump Q r i := by
  unfold bump
  split
  · rename_i h; subst h; omega
  · exact Nat.le_refl _
theorem cnt_le (L : Nat → Nat) (X : Nat → Nat → V) : ∀ (f : Nat) (Q : Nat → Nat) (v : V) (i : Nat), Q i ≤ cnt L X f Q v i := by
  intro f
  induction f with
  | zero => intro Q v i; exact Nat.le_refl _
  | succ f ih =>
    intro Q v i
    by_cases h4 : v.k = 4
    · by_cases h0 : Q v.a.toNat = 0
      · rw [cnt_new h4 h0]
        have : ∀ c, Q i ≤ cnts L X f (bump Q v.a.toNat) (X v.a.toNat) c i := by
          intro c
          induction c with
          | zero => exact bump_le _ _ _
          | succ c ihc => rw [cnts_succ]; exact Nat.le_trans ihc (ih _ _ _)
        exact this _
      · rw [cnt_old h4 h0]; exact bump_le _ _ _
    · rw [cnt_no h4]; exact Nat.le_refl _
theorem cnts_le (L : Nat → Nat) (X : Nat → Nat → V) (f : Nat) (Q : Nat → Nat) (x : Nat → V) (i : Nat) {c d : Nat} (h : c ≤ d) : cnts L X f Q x c i ≤ cnts L X f Q x d i := by
  obtain ⟨e, rfl⟩ := Nat.le.dest h
  clear h
  induction e with
  | zero => exact Nat.le_refl _
  | succ e ih => rw [← Nat.add_assoc, cnts_succ]; exact Nat.le_trans ih (cnt_le _ _ _ _ _ _)

def Led (S : List Nat) (Q : Nat → Nat) : Prop := ∀ i, Q i = 0 ↔ i ∉ S
theorem led_add {S : List Nat} {Q : Nat → Nat} (h : Led S Q) (r : Nat) : Led (S ++ [r]) (bump Q r) := by
  intro i
  unfold bump
  by_cases e : i = r
  · subst e; simp
  · rw [if_neg e, h i]; simp [e]
theorem led_old {S : List Nat} {Q : Nat → Nat} (h : Led S Q) {r : Nat} (hr : r ∈ S) : Led S (bump Q r) := by
  intro i
  unfold bump
  by_cases e : i = r
  · subst e; simp [hr]
  · rw [if_neg e, h i]
theorem led_nil : Led [] (fun _ => 0) := fun i => by simp
theorem led_cnt {L : Nat → Nat} {X : Nat → Nat → V} : ∀ (f : Nat) {S : List Nat} {Q : Nat → Nat} (v : V), Led S Q → Led (met L X f S v) (cnt L X f Q v) := by
  intro f
  induction f with
  | zero => intro S Q v h; exact h
  | succ f ih =>
    intro S Q v h
    by_cases h4 : v.k = 4
    · by_cases h0 : Q v.a.toNat = 0
      · rw [cnt_new h4 h0, met_new h4 ((h _).1 h0)]
        have : ∀ c, Led (mets L X f (S ++ [v.a.toNat]) (X v.a.toNat) c) (cnts L X f (bump Q v.a.toNat) (X v.a.toNat) c) := by
          intro c
          induction c with
          | zero => exact led_add h _
          | succ c ihc => rw [cnts_succ, mets_succ]; exact ih _ ihc
        exact this _
      · have hm : v.a.toNat ∈ S := Classical.byContradiction fun hn => h0 ((h _).2 hn)
        rw [cnt_old h4 h0, met_old (Or.inr hm)]
        exact led_old h hm
    · rw [cnt_no h4, met_old (Or.inl h4)]; exact h
theorem led_cnts {L : Nat → Nat} {X : Nat → Nat → V} (f : Nat) {S : List Nat} {Q : Nat → Nat} (x : Nat → V) (h : Led S Q) (c : Nat) : Led (mets L X f S x c) (cnts L X f Q x c) := by
  induction c with
  | zero => exact h
  | succ c ih => rw [cnts_succ, mets_succ]; exact led_cnt f _ ih

/-! ### The text -/
def hexB (d : Nat) : UInt8 := if d < 10 then UInt8.ofNat (48 + d) else UInt8.ofNat (87 + d)
def quB (b : UInt8) : List UInt8 := if b = 34 ∨ b = 92 then [92, b] else if b.toNat < 32 ∨ 126 < b.toNat then [92, hexB (b.toNat / 16), hexB (b.toNat % 16)] else [b]
def quB' : List UInt8 → List UInt8
  | [] => []
  | b :: l => quB b ++ quB' l
theorem quB'_snoc : ∀ (l : List UInt8) (b : UInt8), quB' (l ++ [b]) = quB' l ++ quB b
  | [], b => by simp [quB']
  | c :: l, b => by simp [quB', quB'_snoc l b]
theorem quB_len (b : UInt8) : (quB b).length ≤ 3 := by
  unfold quB
  split
  · simp
  · split <;> simp
theorem quB'_len : ∀ l : List UInt8, (quB' l).length ≤ 3 * l.length
  | [] => Nat.le_refl _
  | b :: l => by
    have := quB'_len l
    have := quB_len b
    simp only [quB', List.length_append, List.length_cons]
    omega
def quT (s : ByteArray) : List UInt8 := 34 :: (quB' s.data.toList ++ [34])
def tNil : List UInt8 := [110, 105, 108]
def tTrue : List UInt8 := [116, 114, 117, 101]
def tFalse : List UInt8 := [102, 97, 108, 115, 101]
def plT (v : V) : List UInt8 := if v.k = 1 then (if v.n = 1 then tTrue else tFalse) else if v.k = 2 then Lib.itoa v.n else if v.k = 3 then quT v.s else tNil

theorem dec_len : ∀ (k u : Nat), u < 10 ^ (k + 1) → (Lib.decDigits u).length ≤ k + 1 := by
  intro k
  induction k with
  | zero => intro u h; rw [Lib.decDigits, dif_pos (by simpa using h)]; simp
  | succ k ih =>
    intro u h
    rw [Lib.decDigits]
    split
    · simp
    · have := ih (u / 10) (by rw [Nat.div_lt_iff_lt_mul (by decide)]; rw [Nat.pow_succ] at h; exact h)
      simp only [List.length_append, List.length_cons, List.length_nil]
      omega
theorem itoa_len {n : Int} (h0 : -9223372036854775808 ≤ n) (h1 : n ≤ 9223372036854775807) : (Lib.itoa n).length ≤ 20 := by
  unfold Lib.itoa
  split
  · have := dec_len 18 n.natAbs (by omega)
    simp only [List.length_cons]; omega
  · have := dec_len 18 n.toNat (by omega)
    omega

def shortV (v : V) : Prop := v.s.size ≤ 500 ∧ -9223372036854775808 ≤ v.n ∧ v.n ≤ 9223372036854775807
theorem plT_len {v : V} (h : shortV v) : (plT v).length ≤ 1502 := by
  unfold plT
  split
  · split <;> decide
  · split
    · have := itoa_len h.2.1 h.2.2; omega
    · split
      · have := quB'_len v.s.data.toList
        have h1 := h.1
        have : v.s.data.toList.length = v.s.size := by rw [Array.length_toList]; rfl
        simp only [quT, List.length_cons, List.length_append, List.length_nil]
        omega
      · decide

structure Ft where
  N : Nat
  lab : Nat → Nat
  out : List UInt8
def Ft.say (t : Ft) (l : List UInt8) : Ft := ⟨t.N, t.lab, t.out ++ l⟩
def Ft.head (Q : Nat → Nat) (t : Ft) (r : Nat) : Ft := if 1 < Q r then ⟨t.N + 1, fun i => if i = r then t.N + 1 else t.lab i, t.out ++ (35 :: (Lib.itoa (t.N + 1 : Nat) ++ [61])) ++ [123]⟩ else t.say [123]
def keyT (K : Nat → V) (c : Nat) : List UInt8 := (if 0 < c then [44, 32] else []) ++ plT (K c) ++ [58, 32]

def frz (Q : Nat → Nat) (L : Nat → Nat) (K X : Nat → Nat → V) : Nat → Ft → V → Ft
  | 0, t, _ => t
  | f + 1, t, v => if v.k = 4 then
      (if 0 < t.lab v.a.toNat then t.say (35 :: Lib.itoa (t.lab v.a.toNat : Nat))
       else ((List.range (L v.a.toNat)).foldl (fun u c => frz Q L K X f (u.say (keyT (K v.a.toNat) c)) (X v.a.toNat c)) (t.head Q v.a.toNat)).say [125])
      else t.say (plT v)
def wrs (Q : Nat → Nat) (L : Nat → Nat) (K X : Nat → Nat → V) (f : Nat) (t : Ft) (r c : Nat) : Ft := (List.range c).foldl (fun u c => frz Q L K X f (u.say (keyT (K r) c)) (X r c)) t
section
variable {Q : Nat → Nat} {L : Nat → Nat} {K X : Nat → Nat → V}
theorem wrs_zero (f : Nat) (t : Ft) (r : Nat) : wrs Q L K X f t r 0 = t := rfl
theorem wrs_succ (f : Nat) (t : Ft) (r c : Nat) : wrs Q L K X f t r (c + 1) = frz Q L K X f ((wrs Q L K X f t r c).say (keyT (K r) c)) (X r c) := by
  simp [wrs, List.range_succ]
theorem wr_no {f : Nat} {t : Ft} {v : V} (h : v.k ≠ 4) : frz Q L K X (f + 1) t v = t.say (plT v) := by
  show (if v.k = 4 then _ else _) = _
  rw [if_neg h]
theorem wr_old {f : Nat} {t : Ft} {v : V} (h : v.k = 4) (hl : 0 < t.lab v.a.toNat) : frz Q L K X (f + 1) t v = t.say (35 :: Lib.itoa (t.lab v.a.toNat : Nat)) := by
  show (if v.k = 4 then _ else _) = _
  rw [if_pos h, if_pos hl]
theorem wr_new {f : Nat} {t : Ft} {v : V} (h : v.k = 4) (hl : t.lab v.a.toNat = 0) : frz Q L K X (f + 1) t v = (wrs Q L K X f (t.head Q v.a.toNat) v.a.toNat (L v.a.toNat)).say [125] := by
  show (if v.k = 4 then _ else _) = _
  rw [if_pos h, if_neg (by omega)]
  rfl

theorem head_len (t : Ft) (r : Nat) : t.out.length + 1 ≤ (t.head Q r).out.length := by
  unfold Ft.head
  split <;> simp [Ft.say] <;> omega
theorem say_len (t : Ft) (l : List UInt8) : (t.say l).out.length = t.out.length + l.length := by simp [Ft.say]
theorem wr_mono : ∀ (f : Nat) (t : Ft) (v : V), t.out.length ≤ (frz Q L K X f t v).out.length := by
  intro f
  induction f with
  | zero => intro t v; exact Nat.le_refl _
  | succ f ih =>
    intro t v
    by_cases h4 : v.k = 4
    · by_cases hl : t.lab v.a.toNat = 0
      · rw [wr_new h4 hl, say_len]
        have : ∀ c, t.out.length ≤ (wrs Q L K X f (t.head Q v.a.toNat) v.a.toNat c).out.length := by
          intro c
          induction c with
          | zero => have := head_len (Q := Q) t v.a.toNat; rw [wrs_zero]; omega
          | succ c ihc =>
            rw [wrs_succ]
            have := ih ((wrs Q L K X f (t.head Q v.a.toNat) v.a.toNat c).say (keyT (K v.a.toNat) c)) (X v.a.toNat c)
            rw [say_len] at this
            omega
        have := this (L v.a.toNat)
        omega
      · rw [wr_old h4 (by omega), say_len]; omega
    · rw [wr_no h4, say_len]; omega
theorem wrs_mono (f : Nat) (t : Ft) (r : Nat) {c d : Nat} (h : c ≤ d) : (wrs Q L K X f t r c).out.length ≤ (wrs Q L K X f t r d).out.length := by
  obtain ⟨e, rfl⟩ := Nat.le.dest h
  clear h
  induction e with
  | zero => exact Nat.le_refl _
  | succ e ih =>
    rw [← Nat.add_assoc, wrs_succ]
    have := wr_mono (Q := Q) (L := L) (K := K) (X := X) f ((wrs Q L K X f t r (c + e)).say (keyT (K r) (c + e))) (X r (c + e))
    rw [say_len] at this
    omega

structure Wok (n : Nat) (Q : Nat → Nat) (S : List Nat) (t : Ft) : Prop where
  lab : ∀ i, 0 < t.lab i ↔ i ∈ S ∧ 1 < Q i
  top : ∀ i, t.lab i ≤ t.N
  few : t.N ≤ S.length
theorem Wok.say {n : Nat} {S : List Nat} {t : Ft} (h : Wok n Q S t) (l : List UInt8) : Wok n Q S (t.say l) := ⟨h.lab, h.top, h.few⟩
theorem Wok.head {n : Nat} {S : List Nat} {t : Ft} (h : Wok n Q S t) {r : Nat} (hr : r ∉ S) : Wok n Q (S ++ [r]) (t.head Q r) := by
  unfold Ft.head
  split
  · rename_i hq
    refine ⟨fun i => ?_, fun i => ?_, by have := h.few; simp; omega⟩
    · show 0 < (if i = r then t.N + 1 else t.lab i) ↔ _
      by_cases e : i = r
      · subst e; simp [hq]
      · rw [if_neg e, h.lab i]; simp [e]
    · show (if i = r then t.N + 1 else t.lab i) ≤ t.N + 1
      have := h.top i
      split <;> omega
  · rename_i hq
    refine ⟨fun i => ?_, h.top, by have := h.few; simp [Ft.say]; omega⟩
    show 0 < t.lab i ↔ _
    rw [h.lab i]
    by_cases e : i = r
    · subst e; simp [hq]
    · simp [e]

structure Wat (n : Nat) (Q : Nat → Nat) (L : Nat → Nat) (X : Nat → Nat → V) (f : Nat) (S : List Nat) (Q0 : Nat → Nat) (t : Ft) (v : V) : Prop where
  fit : Fit n S
  led : Led S Q0
  ok : Wok n Q S t
  le : ∀ i, cnt L X f Q0 v i ≤ Q i
  fuel : n - S.length < f
  val : isV n v = true

theorem Wat.old {n f : Nat} {S : List Nat} {Q0 : Nat → Nat} {t : Ft} {v : V} (h : Wat n Q L X (f + 1) S Q0 t v) (h4 : v.k = 4) (hm : v.a.toNat ∈ S) : 0 < t.lab v.a.toNat := by
  refine (h.ok.lab _).2 ⟨hm, ?_⟩
  have h0 : Q0 v.a.toNat ≠ 0 := fun e => ((h.led _).1 e) hm
  have := h.le v.a.toNat
  rw [cnt_old h4 h0] at this
  simp [bump] at this
  omega
theorem Wat.none {n f : Nat} {S : List Nat} {Q0 : Nat → Nat} {t : Ft} {v : V} (h : Wat n Q L X f S Q0 t v) (hm : v.a.toNat ∉ S) : t.lab v.a.toNat = 0 := by
  have := mt (h.ok.lab v.a.toNat).1 (fun h => hm h.1)
  omega

structure Wmid (n : Nat) (Q : Nat → Nat) (L : Nat → Nat) (X : Nat → Nat → V) (f : Nat) (S : List Nat) (Q0 : Nat → Nat) (t : Ft) (r c : Nat) : Prop where
  fit : Grows n S (mets L X f S (X r) c)
  led : Led (mets L X f S (X r) c) (cnts L X f Q0 (X r) c)
  ok : Wok n Q (mets L X f S (X r) c) t
  le : ∀ i, cnts L X f Q0 (X r) (L r) i ≤ Q i
  fuel : n - S.length < f
theorem Wat.into {n f : Nat} {S : List Nat} {Q0 : Nat → Nat} {t : Ft} {v : V} (h : Wat n Q L X (f + 1) S Q0 t v) (h4 : v.k = 4) (hm : v.a.toNat ∉ S) : Wmid n Q L X f (S ++ [v.a.toNat]) (bump Q0 v.a.toNat) (t.head Q v.a.toNat) v.a.toNat 0 := by
  obtain ⟨a0, a1⟩ := isV_tab h.val h4
  have hr : v.a.toNat < n := by omega
  have h0 := (h.led _).2 hm
  refine ⟨(h.fit.add hr hm).fit.refl, led_add h.led _, h.ok.head hm, fun i => ?_, ?_⟩
  · have := h.le i
    rw [cnt_new h4 h0] at this
    exact this
  · have := h.fit.less hr hm
    have := h.fuel
    simp
    omega
theorem Wmid.at {n f : Nat} {S : List Nat} {Q0 : Nat → Nat} {t : Ft} {r c : Nat} (hg : Good n L X) (hr : r < n) (h : Wmid n Q L X f S Q0 t r c) (hc : c < L r) (l : List UInt8) : Wat n Q L X f (mets L X f S (X r) c) (cnts L X f Q0 (X r) c) (t.say l) (X r c) := by
  refine ⟨h.fit.fit, h.led, h.ok.say l, fun i => ?_, ?_, hg r hr c hc⟩
  · rw [← cnts_succ]
    exact Nat.le_trans (cnts_le _ _ _ _ _ _ hc) (h.le i)
  · have := h.fit.len
    have := h.fuel
    omega

theorem wr_ok {n : Nat} (hg : Good n L X) : ∀ (f : Nat) {S : List Nat} {Q0 : Nat → Nat} {t : Ft} {v : V}, Wat n Q L X f S Q0 t v → Wok n Q (met L X f S v) (frz Q L K X f t v) := by
  intro f
  induction f with
  | zero => intro S Q0 t v h; have := h.fuel; omega
  | succ f ih =>
    intro S Q0 t v h
    by_cases h4 : v.k = 4
    · by_cases hm : v.a.toNat ∈ S
      · rw [wr_old h4 (h.old h4 hm), met_old (Or.inr hm)]; exact h.ok.say _
      · rw [wr_new h4 (h.none hm), met_new h4 hm]
        obtain ⟨a0, a1⟩ := isV_tab h.val h4
        have hr : v.a.toNat < n := by omega
        have : ∀ c, c ≤ L v.a.toNat → Wmid n Q L X f (S ++ [v.a.toNat]) (bump Q0 v.a.toNat) (wrs Q L K X f (t.head Q v.a.toNat) v.a.toNat c) v.a.toNat c := by
          intro c
          induction c with
          | zero => intro _; exact h.into h4 hm
          | succ c ihc =>
            intro hc
            have hw := ihc (by omega)
            have ha := hw.at hg hr (by omega) (keyT (K v.a.toNat) c)
            have := ih ha
            refine ⟨?_, ?_, ?_, hw.le, hw.fuel⟩
            · rw [mets_succ]; exact hw.fit.trans (met_all hg f _ _ ha.fit ha.val ha.fuel).1
            · rw [mets_succ, cnts_succ]; exact led_cnt f _ hw.led
            · rw [mets_succ, wrs_succ]; exact this
        exact (this _ (Nat.le_refl _)).ok.say _
    · rw [wr_no h4, met_old (Or.inl h4)]; exact h.ok.say _
theorem Wmid.next {n f : Nat} {S : List Nat} {Q0 : Nat → Nat} {t : Ft} {r c : Nat} (hg : Good n L X) (hr : r < n) (h : Wmid n Q L X f S Q0 t r c) (hc : c < L r) (l : List UInt8) : Wmid n Q L X f S Q0 (frz Q L K X f (t.say l) (X r c)) r (c + 1) := by
  have ha := h.at hg hr hc l
  refine ⟨?_, ?_, ?_, h.le, h.fuel⟩
  · rw [mets_succ]; exact h.fit.trans (met_all hg f _ _ ha.fit ha.val ha.fuel).1
  · rw [mets_succ, cnts_succ]; exact led_cnt f _ h.led
  · rw [mets_succ]; exact wr_ok hg f ha

set_option maxRecDepth 20000 in
theorem len_arith {A B C T c o1 o2 kl : Nat} (h1 : o2 ≤ o1 + kl + 1502 + 400000 * (A - B)) (hl : o1 ≤ T + 23 + 3010 * c + 400000 * (B - C)) (hk : kl ≤ 1506) (g1 : C ≤ B) (g2 : B ≤ A) : o2 ≤ T + 23 + 3010 * (c + 1) + 400000 * (A - C) := by
  have e : 400000 * (A - C) = 400000 * (A - B) + 400000 * (B - C) := by rw [← Nat.mul_add, show A - B + (B - C) = A - C by omega]
  generalize 400000 * (A - C) = x at *
  generalize 400000 * (A - B) = y at *
  generalize 400000 * (B - C) = z at *
  omega
theorem wr_len {n : Nat} (hn : n ≤ 200) (hg : Good n L X) (hL : ∀ r, r < n → L r ≤ 100) (hK : ∀ r, r < n → ∀ c, c < L r → shortV (K r c)) (hX : ∀ r, r < n → ∀ c, c < L r → shortV (X r c)) :
    ∀ (f : Nat) {S : List Nat} {Q0 : Nat → Nat} {t : Ft} {v : V}, Wat n Q L X f S Q0 t v → shortV v → (frz Q L K X f t v).out.length ≤ t.out.length + 1502 + 400000 * ((met L X f S v).length - S.length) := by
  have hlab : ∀ k, k ≤ 201 → (Lib.itoa (k : Nat)).length ≤ 20 := fun k hk => itoa_len (by omega) (by omega)
  intro f
  induction f with
  | zero => intro S Q0 t v h; have := h.fuel; omega
  | succ f ih =>
    intro S Q0 t v h hs
    by_cases h4 : v.k = 4
    · by_cases hm : v.a.toNat ∈ S
      · rw [wr_old h4 (h.old h4 hm), say_len]
        have := h.ok.top v.a.toNat
        have := h.ok.few
        have := h.fit.len
        have := hlab (t.lab v.a.toNat) (by omega)
        simp only [List.length_cons]
        omega
      · rw [wr_new h4 (h.none hm), met_new h4 hm]
        obtain ⟨a0, a1⟩ := isV_tab h.val h4
        have hr : v.a.toNat < n := by omega
        have hhd : (t.head Q v.a.toNat).out.length ≤ t.out.length + 23 := by
          have := h.ok.few
          have := h.fit.len
          have := hlab (t.N + 1) (by omega)
          unfold Ft.head
          split
          · simp only [List.length_append, List.length_cons, List.length_nil]; omega
          · rw [say_len]; simp
        have : ∀ c, c ≤ L v.a.toNat → Wmid n Q L X f (S ++ [v.a.toNat]) (bump Q0 v.a.toNat) (wrs Q L K X f (t.head Q v.a.toNat) v.a.toNat c) v.a.toNat c ∧
            (wrs Q L K X f (t.head Q v.a.toNat) v.a.toNat c).out.length ≤ t.out.length + 23 + 3010 * c + 400000 * ((mets L X f (S ++ [v.a.toNat]) (X v.a.toNat) c).length - (S ++ [v.a.toNat]).length) := by
          intro c
          induction c with
          | zero => intro _; exact ⟨h.into h4 hm, by rw [wrs_zero, mets_zero]; omega⟩
          | succ c ihc =>
            intro hc
            obtain ⟨hw, hlen⟩ := ihc (by omega)
            have ha := hw.at hg hr (by omega) (keyT (K v.a.toNat) c)
            have h1 := ih ha (hX _ hr c (by omega))
            have g1 := hw.fit.len
            have g2 := (met_all hg f _ _ ha.fit ha.val ha.fuel).1.len
            have hk : (keyT (K v.a.toNat) c).length ≤ 1506 := by
              have := plT_len (hK _ hr c (by omega))
              unfold keyT
              split <;> simp only [List.length_append, List.length_cons, List.length_nil] <;> omega
            refine ⟨hw.next hg hr (by omega) _ |> (fun x => by rw [wrs_succ]; exact x), ?_⟩
            rw [wrs_succ, mets_succ]
            rw [say_len] at h1
            exact len_arith h1 hlen hk g1 g2
        obtain ⟨hw, hlen⟩ := this _ (Nat.le_refl _)
        have g1 := hw.fit.len
        have h100 := hL _ hr
        rw [say_len]
        simp only [List.length_append, List.length_cons, List.length_nil] at g1 hlen ⊢
        omega
    · rw [wr_no h4, say_len, met_old (Or.inl h4)]
      have := plT_len hs
      omega
end

def cntAll (n : Nat) (u : V) (L : Nat → Nat) (X : Nat → Nat → V) : Nat → Nat := cnt L X (n + 1) (fun _ => 0) u
def ft0 : Ft := ⟨0, fun _ => 0, []⟩
def wrAll (n : Nat) (u : V) (L : Nat → Nat) (K X : Nat → Nat → V) : Ft := frz (cntAll n u L X) L K X (n + 1) ft0 u
theorem wat0 {n : Nat} {u : V} {L : Nat → Nat} {X : Nat → Nat → V} (hu : isV n u = true) : Wat n (cntAll n u L X) L X (n + 1) [] (fun _ => 0) ft0 u :=
  ⟨Fit.nil n, led_nil, ⟨fun i => by simp [ft0], fun i => by simp [ft0], by simp [ft0]⟩, fun i => Nat.le_refl _, by simp, hu⟩

structure Cat (n : Nat) (L : Nat → Nat) (X : Nat → Nat → V) (f : Nat) (S : List Nat) (Q : Nat → Nat) (v : V) : Prop where
  fit : Fit n S
  led : Led S Q
  le : ∀ i, cnt L X f Q v i ≤ 100000
  fuel : n - S.length < f
  val : isV n v = true
structure Cmid (n : Nat) (L : Nat → Nat) (X : Nat → Nat → V) (f : Nat) (S : List Nat) (Q : Nat → Nat) (r c : Nat) : Prop where
  fit : Grows n S (mets L X f S (X r) c)
  led : Led (mets L X f S (X r) c) (cnts L X f Q (X r) c)
  le : ∀ i, cnts L X f Q (X r) (L r) i ≤ 100000
  fuel : n - S.length < f
section
variable {L : Nat → Nat} {X : Nat → Nat → V}
theorem Cat.into {n f : Nat} {S : List Nat} {Q : Nat → Nat} {v : V} (h : Cat n L X (f + 1) S Q v) (h4 : v.k = 4) (hm : v.a.toNat ∉ S) : Cmid n L X f (S ++ [v.a.toNat]) (bump Q v.a.toNat) v.a.toNat 0 := by
  obtain ⟨a0, a1⟩ := isV_tab h.val h4
  have hr : v.a.toNat < n := by omega
  have h0 := (h.led _).2 hm
  refine ⟨(h.fit.add hr hm).fit.refl, led_add h.led _, fun i => ?_, ?_⟩
  · have := h.le i
    rw [cnt_new h4 h0] at this
    exact this
  · have := h.fit.less hr hm
    have := h.fuel
    simp
    omega
theorem Cmid.at {n f : Nat} {S : List Nat} {Q : Nat → Nat} {r c : Nat} (hg : Good n L X) (hr : r < n) (h : Cmid n L X f S Q r c) (hc : c < L r) : Cat n L X f (mets L X f S (X r) c) (cnts L X f Q (X r) c) (X r c) := by
  refine ⟨h.fit.fit, h.led, fun i => ?_, ?_, hg r hr c hc⟩
  · rw [← cnts_succ]
    exact Nat.le_trans (cnts_le _ _ _ _ _ _ hc) (h.le i)
  · have := h.fit.len
    have := h.fuel
    omega
theorem Cmid.next {n f : Nat} {S : List Nat} {Q : Nat → Nat} {r c : Nat} (hg : Good n L X) (hr : r < n) (h : Cmid n L X f S Q r c) (hc : c < L r) : Cmid n L X f S Q r (c + 1) := by
  have ha := h.at hg hr hc
  refine ⟨?_, ?_, h.le, h.fuel⟩
  · rw [mets_succ]; exact h.fit.trans (met_all hg f _ _ ha.fit ha.val ha.fuel).1
  · rw [mets_succ, cnts_succ]; exact led_cnt f _ h.led
theorem Cat.old {n f : Nat} {S : List Nat} {Q : Nat → Nat} {v : V} (h : Cat n L X (f + 1) S Q v) (h4 : v.k = 4) : Q v.a.toNat + 1 ≤ 100000 := by
  have hb : bump Q v.a.toNat v.a.toNat ≤ cnt L X (f + 1) Q v v.a.toNat := by
    by_cases h0 : Q v.a.toNat = 0
    · rw [cnt_new h4 h0]; exact cnts_le L X f (bump Q v.a.toNat) (X v.a.toNat) _ (Nat.zero_le _)
    · rw [cnt_old h4 h0]; exact Nat.le_refl _
  have := h.le v.a.toNat
  simp [bump] at hb
  omega

theorem cnt_bound {n : Nat} (hg : Good n L X) (hL : ∀ r, r < n → L r ≤ 100) : ∀ (f : Nat) {S : List Nat} {Q : Nat → Nat} {v : V}, Fit n S → Led S Q → isV n v = true → n - S.length < f → ∀ i, cnt L X f Q v i ≤ Q i + 1 + 100 * ((met L X f S v).length - S.length) := by
  intro f
  induction f with
  | zero => intro S Q v _ _ _ h; omega
  | succ f ih =>
    intro S Q v hS hQ hv hf i
    by_cases h4 : v.k = 4
    · by_cases hm : v.a.toNat ∈ S
      · rw [cnt_old h4 (fun e => ((hQ _).1 e) hm)]
        unfold bump
        split
        · rename_i e; subst e; omega
        · omega
      · obtain ⟨a0, a1⟩ := isV_tab hv h4
        have hr : v.a.toNat < n := by omega
        rw [cnt_new h4 ((hQ _).2 hm), met_new h4 hm]
        have h1 := hS.add hr hm
        have hl := hS.less hr hm
        have : ∀ c, c ≤ L v.a.toNat → Grows n (S ++ [v.a.toNat]) (mets L X f (S ++ [v.a.toNat]) (X v.a.toNat) c) ∧ cnts L X f (bump Q v.a.toNat) (X v.a.toNat) c i ≤ Q i + 1 + c + 100 * ((mets L X f (S ++ [v.a.toNat]) (X v.a.toNat) c).length - (S ++ [v.a.toNat]).length) := by
          intro c
          induction c with
          | zero =>
            intro _
            refine ⟨h1.fit.refl, ?_⟩
            rw [cnts_zero]
            unfold bump
            split
            · rename_i e; subst e; omega
            · omega
          | succ c ihc =>
            intro hc
            obtain ⟨g, hb⟩ := ihc (by omega)
            have hgl := g.len
            have hlen : (S ++ [v.a.toNat]).length = S.length + 1 := by simp
            have hfu : n - (mets L X f (S ++ [v.a.toNat]) (X v.a.toNat) c).length < f := by omega
            have g2 := (met_all hg f _ (X v.a.toNat c) g.fit (hg _ hr c (by omega)) hfu).1
            have := ih g.fit (led_cnts f (X v.a.toNat) (led_add hQ v.a.toNat) c) (hg _ hr c (by omega)) hfu i
            have g2l := g2.len
            refine ⟨by rw [mets_succ]; exact g.trans g2, ?_⟩
            rw [cnts_succ, mets_succ]
            omega
        obtain ⟨g, hb⟩ := this _ (Nat.le_refl _)
        have hgl := g.len
        have h100 := hL _ hr
        simp only [List.length_append, List.length_cons, List.length_nil] at hgl hb ⊢
        omega
    · rw [cnt_no h4]; omega
theorem cat0 {n : Nat} {u : V} (hn : n ≤ 200) (hg : Good n L X) (hL : ∀ r, r < n → L r ≤ 100) (hu : isV n u = true) : Cat n L X (n + 1) [] (fun _ => 0) u :=
  ⟨Fit.nil n, led_nil, fun i => by
    have h := cnt_bound hg hL (n + 1) (Fit.nil n) led_nil hu (by simp) i
    have := (met_all hg (n + 1) [] u (Fit.nil n) hu (by simp)).1.fit.len
    simp only [List.length_nil, Nat.sub_zero] at h
    omega, by simp, hu⟩
end

end Go.Proofs.YtgflalfiopnmnaaGreatDoor

namespace Go.Proofs.YtgflalfiopnmnaaGreatDoor
open Vl

/-! ### Numerals -/
def isDg (b : UInt8) : Bool := decide (48 ≤ b.toNat) && decide (b.toNat ≤ 57)
def noDg (r : List UInt8) : Prop := ∀ b, r.head? = some b → isDg b = false

theorem dg_of {d : Nat} (h : d < 10) : isDg (UInt8.ofNat (48 + d)) = true ∧ (UInt8.ofNat (48 + d)).toNat = 48 + d := by
  have e : (UInt8.ofNat (48 + d)).toNat = 48 + d := by
    rw [UInt8.toNat_ofNat']
    exact Nat.mod_eq_of_lt (by omega)
  refine ⟨?_, e⟩
  unfold isDg
  rw [e]
  simp
  omega

def valD (l : List UInt8) : Nat := l.foldl (fun a b => 10 * a + (b.toNat - 48)) 0

theorem dec_all (u : Nat) : (∀ b ∈ Lib.decDigits u, isDg b = true) ∧ valD (Lib.decDigits u) = u ∧ Lib.decDigits u ≠ [] := by
  induction u using Nat.strongRecOn with
  | _ u ih =>
    rw [Lib.decDigits]
    split
    · rename_i h
      obtain ⟨h1, h2⟩ := dg_of h
      refine ⟨fun b hb => ?_, ?_, by simp⟩
      · rw [List.mem_singleton.1 hb]; exact h1
      · show 10 * 0 + ((UInt8.ofNat (48 + u)).toNat - 48) = u
        rw [h2]
        omega
    · rename_i h
      obtain ⟨i1, i2, _⟩ := ih (u / 10) (by omega)
      obtain ⟨h1, h2⟩ := dg_of (d := u % 10) (by omega)
      refine ⟨fun b hb => ?_, ?_, by simp⟩
      · rcases List.mem_append.1 hb with hb | hb
        · exact i1 b hb
        · rw [List.mem_singleton.1 hb]; exact h1
      · unfold valD at i2 ⊢
        rw [List.foldl_append, i2]
        show 10 * (u / 10) + ((UInt8.ofNat (48 + u % 10)).toNat - 48) = u
        rw [h2]
        omega

theorem run_split {p : UInt8 → Bool} : ∀ {A B r1 r2 : List UInt8}, A ++ r1 = B ++ r2 → (∀ b ∈ A, p b = true) → (∀ b ∈ B, p b = true) → (∀ b, r1.head? = some b → p b = false) → (∀ b, r2.head? = some b → p b = false) → A = B ∧ r1 = r2
  | [], [], _, _, h, _, _, _, _ => ⟨rfl, h⟩
  | [], b :: B, r1, r2, h, _, hB, h1, _ => by
    have := h1 b (by rw [show r1 = b :: (B ++ r2) from h]; rfl)
    rw [hB b (by simp)] at this
    cases this
  | a :: A, [], r1, r2, h, hA, _, _, h2 => by
    have := h2 a (by rw [show r2 = a :: (A ++ r1) from h.symm]; rfl)
    rw [hA a (by simp)] at this
    cases this
  | a :: A, b :: B, r1, r2, h, hA, hB, h1, h2 => by
    simp only [List.cons_append, List.cons.injEq] at h
    obtain ⟨e, h⟩ := h
    obtain ⟨e1, e2⟩ := run_split h (fun x hx => hA x (by simp [hx])) (fun x hx => hB x (by simp [hx])) h1 h2
    exact ⟨by rw [e, e1], e2⟩

theorem dec_split {u v : Nat} {r1 r2 : List UInt8} (h : Lib.decDigits u ++ r1 = Lib.decDigits v ++ r2) (h1 : noDg r1) (h2 : noDg r2) : u = v ∧ r1 = r2 := by
  obtain ⟨a1, a2, _⟩ := dec_all u
  obtain ⟨b1, b2, _⟩ := dec_all v
  obtain ⟨e1, e2⟩ := run_split (p := isDg) h a1 b1 h1 h2
  exact ⟨by rw [← a2, ← b2, e1], e2⟩

theorem dec_head (u : Nat) (r : List UInt8) : ∃ b t, Lib.decDigits u ++ r = b :: t ∧ isDg b = true := by
  obtain ⟨a1, _, a3⟩ := dec_all u
  cases e : Lib.decDigits u with
  | nil => exact absurd e a3
  | cons b t => exact ⟨b, t ++ r, rfl, a1 b (by rw [e]; simp)⟩

theorem itoa_head (n : Int) (r : List UInt8) : ∃ b t, Lib.itoa n ++ r = b :: t ∧ (b = 45 ∨ isDg b = true) := by
  unfold Lib.itoa
  split
  · exact ⟨45, _, rfl, Or.inl rfl⟩
  · obtain ⟨b, t, e, h⟩ := dec_head n.toNat r
    exact ⟨b, t, e, Or.inr h⟩

theorem itoa_split {n m : Int} {r1 r2 : List UInt8} (h : Lib.itoa n ++ r1 = Lib.itoa m ++ r2) (h1 : noDg r1) (h2 : noDg r2) : n = m ∧ r1 = r2 := by
  unfold Lib.itoa at h
  have h45 : isDg 45 = false := by decide
  split at h
  · split at h
    · simp only [List.cons_append, List.cons.injEq, true_and] at h
      obtain ⟨e, e2⟩ := dec_split h h1 h2
      exact ⟨by omega, e2⟩
    · obtain ⟨b, t, e, hb⟩ := dec_head m.toNat r2
      rw [e] at h
      simp only [List.cons_append, List.cons.injEq] at h
      rw [← h.1, h45] at hb
      cases hb
  · split at h
    · obtain ⟨b, t, e, hb⟩ := dec_head n.toNat r1
      rw [e] at h
      simp only [List.cons_append, List.cons.injEq] at h
      rw [h.1, h45] at hb
      cases hb
    · obtain ⟨e, e2⟩ := dec_split h h1 h2
      exact ⟨by omega, e2⟩

/-! ### Texts -/
theorem hex_of {d : Nat} (h : d < 16) : (hexB d).toNat = if d < 10 then 48 + d else 87 + d := by
  unfold hexB
  split
  · rw [UInt8.toNat_ofNat']; exact Nat.mod_eq_of_lt (by omega)
  · rw [UInt8.toNat_ofNat']; exact Nat.mod_eq_of_lt (by omega)
theorem hex_inj {d e : Nat} (h : d < 16) (h' : e < 16) (he : hexB d = hexB e) : d = e := by
  have h1 := hex_of h
  have h2 := hex_of h'
  rw [he, h2] at h1
  split at h1 <;> split at h1 <;> omega
theorem hex_ne {d : Nat} (h : d < 16) : hexB d ≠ 34 ∧ hexB d ≠ 92 := by
  have h1 := hex_of h
  refine ⟨fun e => ?_, fun e => ?_⟩
  · rw [e] at h1
    have : (34 : UInt8).toNat = 34 := rfl
    split at h1 <;> omega
  · rw [e] at h1
    have : (92 : UInt8).toNat = 92 := rfl
    split at h1 <;> omega

theorem quB_head (b : UInt8) (r : List UInt8) : ∃ c t, quB b ++ r = c :: t ∧ c ≠ 34 := by
  unfold quB
  split
  · exact ⟨92, _, rfl, by decide⟩
  · rename_i h
    split
    · exact ⟨92, _, rfl, by decide⟩
    · exact ⟨b, r, rfl, fun e => h (Or.inl e)⟩

theorem quB_split {b c : UInt8} {r1 r2 : List UInt8} (h : quB b ++ r1 = quB c ++ r2) : b = c ∧ r1 = r2 := by
  unfold quB at h
  have hb := b.toNat_lt
  have hc := c.toNat_lt
  by_cases b1 : b = 34 ∨ b = 92
  · rw [if_pos b1] at h
    by_cases c1 : c = 34 ∨ c = 92
    · rw [if_pos c1] at h
      simp only [List.cons_append, List.nil_append, List.cons.injEq, true_and] at h
      exact h
    · rw [if_neg c1] at h
      split at h
      · simp only [List.cons_append, List.nil_append, List.cons.injEq, true_and] at h
        have := hex_ne (d := c.toNat / 16) (by omega)
        rcases b1 with e | e
        · exact absurd (h.1.symm.trans e) this.1
        · exact absurd (h.1.symm.trans e) this.2
      · simp only [List.cons_append, List.nil_append, List.cons.injEq] at h
        exact absurd (Or.inr h.1.symm) c1
  · rw [if_neg b1] at h
    by_cases c1 : c = 34 ∨ c = 92
    · rw [if_pos c1] at h
      split at h
      · simp only [List.cons_append, List.nil_append, List.cons.injEq, true_and] at h
        have := hex_ne (d := b.toNat / 16) (by omega)
        rcases c1 with e | e
        · exact absurd (h.1.trans e) this.1
        · exact absurd (h.1.trans e) this.2
      · simp only [List.cons_append, List.nil_append, List.cons.injEq] at h
        exact absurd (Or.inr h.1) b1
    · rw [if_neg c1] at h
      split at h
      · split at h
        · simp only [List.cons_append, List.nil_append, List.cons.injEq, true_and] at h
          obtain ⟨e1, e2, e3⟩ := h
          have h1 := hex_inj (d := b.toNat / 16) (e := c.toNat / 16) (by omega) (by omega) e1
          have h2 := hex_inj (d := b.toNat % 16) (e := c.toNat % 16) (by omega) (by omega) e2
          exact ⟨UInt8.toNat_inj.1 (by omega), e3⟩
        · simp only [List.cons_append, List.nil_append, List.cons.injEq] at h
          exact absurd (Or.inr h.1.symm) c1
      · split at h
        · simp only [List.cons_append, List.nil_append, List.cons.injEq] at h
          exact absurd (Or.inr h.1) b1
        · simp only [List.cons_append, List.nil_append, List.cons.injEq] at h
          exact h

theorem quB'_split : ∀ {l m : List UInt8} {r1 r2 : List UInt8}, quB' l ++ 34 :: r1 = quB' m ++ 34 :: r2 → l = m ∧ r1 = r2
  | [], [], _, _, h => by simp [quB'] at h; exact ⟨rfl, h⟩
  | [], c :: m, r1, r2, h => by
    simp only [quB', List.nil_append, List.append_assoc] at h
    obtain ⟨d, t, e, hd⟩ := quB_head c (quB' m ++ 34 :: r2)
    rw [e] at h
    simp only [List.cons.injEq] at h
    exact absurd h.1.symm hd
  | b :: l, [], r1, r2, h => by
    simp only [quB', List.nil_append, List.append_assoc] at h
    obtain ⟨d, t, e, hd⟩ := quB_head b (quB' l ++ 34 :: r1)
    rw [e] at h
    simp only [List.cons.injEq] at h
    exact absurd h.1 hd
  | b :: l, c :: m, r1, r2, h => by
    simp only [quB', List.append_assoc] at h
    obtain ⟨e, h⟩ := quB_split h
    obtain ⟨e1, e2⟩ := quB'_split h
    exact ⟨by rw [e, e1], e2⟩

/-! ### Plain values -/
def Dl (r : List UInt8) : Prop := ∀ b, r.head? = some b → b = 44 ∨ b = 125 ∨ b = 58
theorem Dl.noDg {r : List UInt8} (h : Dl r) : noDg r := fun b hb => by
  rcases h b hb with rfl | rfl | rfl <;> decide

def sgn (v : V) (b : UInt8) : Prop := (v.k = 0 ∧ b = 110) ∨ (v.k = 1 ∧ ((v.n = 1 ∧ b = 116) ∨ (v.n ≠ 1 ∧ b = 102))) ∨ (v.k = 2 ∧ (b = 45 ∨ isDg b = true)) ∨ (v.k = 3 ∧ b = 34)
theorem plT_head {n : Nat} {v : V} (hv : isV n v = true) (h4 : v.k ≠ 4) (r : List UInt8) : ∃ b t, plT v ++ r = b :: t ∧ sgn v b := by
  unfold plT sgn
  by_cases h1 : v.k = 1
  · rw [if_pos h1]
    by_cases hn : v.n = 1
    · rw [if_pos hn]; exact ⟨116, _, rfl, Or.inr (Or.inl ⟨h1, Or.inl ⟨hn, rfl⟩⟩)⟩
    · rw [if_neg hn]; exact ⟨102, _, rfl, Or.inr (Or.inl ⟨h1, Or.inr ⟨hn, rfl⟩⟩)⟩
  · rw [if_neg h1]
    by_cases h2 : v.k = 2
    · rw [if_pos h2]
      obtain ⟨b, t, e, hb⟩ := itoa_head v.n r
      exact ⟨b, t, e, Or.inr (Or.inr (Or.inl ⟨h2, hb⟩))⟩
    · rw [if_neg h2]
      by_cases h3 : v.k = 3
      · rw [if_pos h3]; exact ⟨34, _, rfl, Or.inr (Or.inr (Or.inr ⟨h3, rfl⟩))⟩
      · rw [if_neg h3]
        have h0 : v.k = 0 := by
          unfold isV at hv
          by_cases h0 : v.k = 0
          · exact h0
          · simp only [h0, h1, h2, h3, h4, if_false] at hv
            cases hv
        exact ⟨110, _, rfl, Or.inl ⟨h0, rfl⟩⟩

theorem isDg_ne {b : UInt8} (h : isDg b = true) : b ≠ 110 ∧ b ≠ 116 ∧ b ≠ 102 ∧ b ≠ 34 ∧ b ≠ 35 ∧ b ≠ 123 ∧ b ≠ 125 := by
  refine ⟨?_, ?_, ?_, ?_, ?_, ?_, ?_⟩ <;> (intro e; subst e; revert h; decide)

theorem sgn_k {v w : V} {b : UInt8} (h : sgn v b) (h' : sgn w b) : v.k = w.k ∧ (v.k = 1 → (v.n = 1 ↔ w.n = 1)) := by
  rcases h with ⟨h1, rfl⟩ | ⟨h1, ⟨h2, rfl⟩ | ⟨h2, rfl⟩⟩ | ⟨h1, hb⟩ | ⟨h1, rfl⟩
  · rcases h' with ⟨g1, _⟩ | ⟨g1, ⟨_, g⟩ | ⟨_, g⟩⟩ | ⟨g1, g | g⟩ | ⟨g1, g⟩
    · exact ⟨by omega, fun e => by omega⟩
    all_goals first | (exact absurd g (by decide))
  · rcases h' with ⟨g1, g⟩ | ⟨g1, ⟨g2, g⟩ | ⟨g2, g⟩⟩ | ⟨g1, g | g⟩ | ⟨g1, g⟩
    · exact absurd g (by decide)
    · exact ⟨by omega, fun _ => ⟨fun _ => g2, fun _ => h2⟩⟩
    all_goals first | (exact absurd g (by decide))
  · rcases h' with ⟨g1, g⟩ | ⟨g1, ⟨g2, g⟩ | ⟨g2, g⟩⟩ | ⟨g1, g | g⟩ | ⟨g1, g⟩
    · exact absurd g (by decide)
    · exact absurd g (by decide)
    · exact ⟨by omega, fun _ => ⟨fun e => absurd e h2, fun e => absurd e g2⟩⟩
    all_goals first | (exact absurd g (by decide))
  · have hne : b ≠ 110 ∧ b ≠ 116 ∧ b ≠ 102 ∧ b ≠ 34 := by
      rcases hb with rfl | hb
      · decide
      · have := isDg_ne hb; exact ⟨this.1, this.2.1, this.2.2.1, this.2.2.2.1⟩
    rcases h' with ⟨g1, g⟩ | ⟨g1, ⟨g2, g⟩ | ⟨g2, g⟩⟩ | ⟨g1, _⟩ | ⟨g1, g⟩
    · exact absurd g hne.1
    · exact absurd g hne.2.1
    · exact absurd g hne.2.2.1
    · exact ⟨by omega, fun e => by omega⟩
    · exact absurd g hne.2.2.2
  · rcases h' with ⟨g1, g⟩ | ⟨g1, ⟨g2, g⟩ | ⟨g2, g⟩⟩ | ⟨g1, g | g⟩ | ⟨g1, g⟩
    · exact absurd g (by decide)
    · exact absurd g (by decide)
    · exact absurd g (by decide)
    · exact absurd g (by decide)
    · exact absurd g (by decide)
    · exact ⟨by omega, fun e => by omega⟩

theorem bytes_ext {s t : ByteArray} (h : s.data.toList = t.data.toList) : s = t := by
  cases s; cases t
  simp only [ByteArray.mk.injEq]
  exact Array.toList_inj.1 h

theorem plT_split {n m : Nat} {v w : V} {r1 r2 : List UInt8} (hv : isV n v = true) (hw : isV m w = true) (v4 : v.k ≠ 4) (w4 : w.k ≠ 4) (h : plT v ++ r1 = plT w ++ r2) (h1 : Dl r1) (h2 : Dl r2) : v = w ∧ r1 = r2 := by
  obtain ⟨b, t, e, hb⟩ := plT_head hv v4 r1
  obtain ⟨c, t', e', hc⟩ := plT_head hw w4 r2
  rw [e, e'] at h
  have hbc : b = c := by injection h
  subst hbc
  obtain ⟨hk, hk1⟩ := sgn_k hb hc
  rw [← e, ← e'] at h
  clear e e' hb hc
  have ext : v.k = w.k → v.n = w.n → v.s = w.s → v.a = w.a → v = w := fun a b c d => by
    cases v; cases w
    simp only at a b c d
    subst a b c d
    rfl
  unfold isV at hv hw
  by_cases k0 : v.k = 0
  · have k0' : w.k = 0 := by omega
    rw [if_pos k0] at hv
    rw [if_pos k0'] at hw
    simp only [Bool.and_eq_true, beq_iff_eq] at hv hw
    unfold plT at h
    rw [if_neg (by omega), if_neg (by omega), if_neg (by omega), if_neg (by omega), if_neg (by omega), if_neg (by omega)] at h
    refine ⟨ext hk (by omega) ?_ (by omega), List.append_cancel_left h⟩
    rw [bytes_empty hv.2.1, bytes_empty hw.2.1]
  by_cases k1 : v.k = 1
  · have k1' : w.k = 1 := by omega
    rw [if_neg k0, if_pos k1] at hv
    rw [if_neg (by omega), if_pos k1'] at hw
    simp only [Bool.and_eq_true, Bool.or_eq_true, beq_iff_eq] at hv hw
    have hn : v.n = w.n := by
      have := hk1 k1
      rcases hv.1 with e | e
      · rcases hw.1 with e' | e'
        · omega
        · have := this.2 e'; omega
      · have := this.1 e; omega
    unfold plT at h
    rw [if_pos k1, if_pos k1', hn] at h
    refine ⟨ext hk hn ?_ (by omega), List.append_cancel_left h⟩
    rw [bytes_empty hv.2.1, bytes_empty hw.2.1]
  by_cases k2 : v.k = 2
  · have k2' : w.k = 2 := by omega
    rw [if_neg k0, if_neg k1, if_pos k2] at hv
    rw [if_neg (by omega), if_neg (by omega), if_pos k2'] at hw
    simp only [Bool.and_eq_true, beq_iff_eq] at hv hw
    unfold plT at h
    rw [if_neg k1, if_pos k2, if_neg (by omega), if_pos k2'] at h
    obtain ⟨hn, hr⟩ := itoa_split h h1.noDg h2.noDg
    refine ⟨ext hk hn ?_ (by omega), hr⟩
    rw [bytes_empty hv.1, bytes_empty hw.1]
  by_cases k3 : v.k = 3
  · have k3' : w.k = 3 := by omega
    rw [if_neg k0, if_neg k1, if_neg k2, if_pos k3] at hv
    rw [if_neg (by omega), if_neg (by omega), if_neg (by omega), if_pos k3'] at hw
    simp only [Bool.and_eq_true, beq_iff_eq] at hv hw
    unfold plT at h
    rw [if_neg k1, if_neg k2, if_pos k3, if_neg (by omega), if_neg (by omega), if_pos k3'] at h
    unfold quT at h
    simp only [List.cons_append, List.append_assoc, List.nil_append, List.cons.injEq, true_and] at h
    obtain ⟨hs, hr⟩ := quB'_split h
    exact ⟨ext hk (by omega) (bytes_ext hs) (by omega), hr⟩
  · simp only [k0, k1, k2, k3, v4, if_false] at hv
    cases hv

end Go.Proofs.YtgflalfiopnmnaaGreatDoor
