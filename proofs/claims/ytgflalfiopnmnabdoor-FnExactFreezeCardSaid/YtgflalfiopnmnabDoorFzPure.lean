import Derived.Test.YtgflalfiopnmnabDoorCnPure
import Derived.Lib.ItoaNum
/-
  Freezing: how often tables are led to, and the text. No Go in sight.
-/
namespace Go.Proofs.YtgflalfiopnmnabDoor
open Vl

/-! ### The count -/

def bump (Q : Nat → Nat) (r : Nat) : Nat → Nat := fun i => if i = r then Q r + 1 else Q i

/-- How often each table has been led to, from v on. -/
def cnt (L : Nat → Nat) (X : Nat → Nat → V) : Nat → (Nat → Nat) → V → (Nat → Nat)
  | 0, Q, _ => Q
  | f + 1, Q, v => if v.k = 4 then (if Q v.a.toNat = 0 then (List.range (L v.a.toNat)).foldl (fun U c => cnt L X f U (X v.a.toNat c)) (bump Q v.a.toNat) else bump Q v.a.toNat) else Q
def cnts (L : Nat → Nat) (X : Nat → Nat → V) (f : Nat) (Q : Nat → Nat) (x : Nat → V) (c : Nat) : Nat → Nat := (List.range c).foldl (fun U c => cnt L X f U (x c)) Q

theorem cnts_zero (L : Nat → Nat) (X : Nat → Nat → V) (f : Nat) (Q : Nat → Nat) (x : Nat → V) : cnts L X f Q x 0 = Q := rfl
theorem cnts_succ (L : Nat → Nat) (X : Nat → Nat → V) (f : Nat) (Q : Nat → Nat) (x : Nat → V) (c : Nat) : cnts L X f Q x (c + 1) = cnt L X f (cnts L X f Q x c) (x c) := by
  simp [cnts, List.range_succ]
theorem cnt_new {L : Nat → Nat} {X : Nat → Nat → V} {f : Nat} {Q : Nat → Nat} {v : V} (h : v.k = 4) (h0 : Q v.a.toNat = 0) : cnt L X (f + 1) Q v = cnts L X f (bump Q v.a.toNat) (X v.a.toNat) (L v.a.toNat) := by
  show (if v.k = 4 then _ else Q) = _
  rw [if_pos h, if_pos h0]
  rfl
theorem cnt_old {L : Nat → Nat} {X : Nat → Nat → V} {f : Nat} {Q : Nat → Nat} {v : V} (h : v.k = 4) (h0 : Q v.a.toNat ≠ 0) : cnt L X (f + 1) Q v = bump Q v.a.toNat := by
  show (if v.k = 4 then _ else Q) = _
  rw [if_pos h, if_neg h0]
theorem cnt_no {L : Nat → Nat} {X : Nat → Nat → V} {f : Nat} {Q : Nat → Nat} {v : V} (h : v.k ≠ 4) : cnt L X f Q v = Q := by
  cases f with
  | zero => rfl
  | succ f =>
    show (if v.k = 4 then _ else Q) = _
    rw [if_neg h]

theorem bump_le (Q : Nat → Nat) (r i : Nat) : Q i ≤ bump Q r i := by
  unfold bump
  split
  · rename_i h; subst h; omega
  · exact Nat.le_refl _
theorem cnt_le (L : Nat → Nat) (X : Nat → Nat → V) : ∀ (f : Nat) (Q : Nat → Nat) (v : V) (i : Nat), Q i ≤ cnt L X f Q v i := by
  intro f
  induction f with
  | zero => intro Q v i; exact Nat.le_refl _
  | succ f ih =>
    intro Q v i
    by_cases h4 : v.k = 4
    · by_cases h0 : Q v.a.toNat = 0
      · rw [cnt_new h4 h0]
        have : ∀ c, Q i ≤ cnts L X f (bump Q v.a.toNat) (X v.a.toNat) c i := by
          intro c
          induction c with
          | zero => exact bump_le _ _ _
          | succ c ihc => rw [cnts_succ]; exact Nat.le_trans ihc (ih _ _ _)
        exact this _
      · rw [cnt_old h4 h0]; exact bump_le _ _ _
    · rw [cnt_no h4]; exact Nat.le_refl _
theorem cnts_le (L : Nat → Nat) (X : Nat → Nat → V) (f : Nat) (Q : Nat → Nat) (x : Nat → V) (i : Nat) {c d : Nat} (h : c ≤ d) : cnts L X f Q x c i ≤ cnts L X f Q x d i := by
  obtain ⟨e, rfl⟩ := Nat.le.dest h
  clear h
  induction e with
  | zero => exact Nat.le_refl _
  | succ e ih => rw [← Nat.add_assoc, cnts_succ]; exact Nat.le_trans ih (cnt_le _ _ _ _ _ _)

/-- S is what has been led to. -/
def Led (S : List Nat) (Q : Nat → Nat) : Prop := ∀ i, Q i = 0 ↔ i ∉ S
theorem led_add {S : List Nat} {Q : Nat → Nat} (h : Led S Q) (r : Nat) : Led (S ++ [r]) (bump Q r) := by
  intro i
  unfold bump
  by_cases e : i = r
  · subst e; simp
  · rw [if_neg e, h i]; simp [e]
theorem led_old {S : List Nat} {Q : Nat → Nat} (h : Led S Q) {r : Nat} (hr : r ∈ S) : Led S (bump Q r) := by
  intro i
  unfold bump
  by_cases e : i = r
  · subst e; simp [hr]
  · rw [if_neg e, h i]
theorem led_nil : Led [] (fun _ => 0) := fun i => by simp
theorem led_cnt {L : Nat → Nat} {X : Nat → Nat → V} : ∀ (f : Nat) {S : List Nat} {Q : Nat → Nat} (v : V), Led S Q → Led (met L X f S v) (cnt L X f Q v) := by
  intro f
  induction f with
  | zero => intro S Q v h; exact h
  | succ f ih =>
    intro S Q v h
    by_cases h4 : v.k = 4
    · by_cases h0 : Q v.a.toNat = 0
      · rw [cnt_new h4 h0, met_new h4 ((h _).1 h0)]
        have : ∀ c, Led (mets L X f (S ++ [v.a.toNat]) (X v.a.toNat) c) (cnts L X f (bump Q v.a.toNat) (X v.a.toNat) c) := by
          intro c
          induction c with
          | zero => exact led_add h _
          | succ c ihc => rw [cnts_succ, mets_succ]; exact ih _ ihc
        exact this _
      · have hm : v.a.toNat ∈ S := Classical.byContradiction fun hn => h0 ((h _).2 hn)
        rw [cnt_old h4 h0, met_old (Or.inr hm)]
        exact led_old h hm
    · rw [cnt_no h4, met_old (Or.inl h4)]; exact h
theorem led_cnts {L : Nat → Nat} {X : Nat → Nat → V} (f : Nat) {S : List Nat} {Q : Nat → Nat} (x : Nat → V) (h : Led S Q) (c : Nat) : Led (mets L X f S x c) (cnts L X f Q x c) := by
  induction c with
  | zero => exact h
  | succ c ih => rw [cnts_succ, mets_succ]; exact led_cnt f _ ih

/-- No more leads than values: a bound. -/
def sumL (L : Nat → Nat) (S : List Nat) : Nat := S.foldr (fun r a => L r + a) 0

/-! ### The text -/

def hexB (d : Nat) : UInt8 := if d < 10 then UInt8.ofNat (48 + d) else UInt8.ofNat (87 + d)
/-- A byte within a text. -/
def quB (b : UInt8) : List UInt8 := if b = 34 ∨ b = 92 then [92, b] else if b.toNat < 32 ∨ 126 < b.toNat then [92, hexB (b.toNat / 16), hexB (b.toNat % 16)] else [b]
def quB' : List UInt8 → List UInt8
  | [] => []
  | b :: l => quB b ++ quB' l
theorem quB'_snoc : ∀ (l : List UInt8) (b : UInt8), quB' (l ++ [b]) = quB' l ++ quB b
  | [], b => by simp [quB']
  | c :: l, b => by simp [quB', quB'_snoc l b]
theorem quB_len (b : UInt8) : (quB b).length ≤ 3 := by
  unfold quB
  split
  · simp
  · split <;> simp
theorem quB'_len : ∀ l : List UInt8, (quB' l).length ≤ 3 * l.length
  | [] => Nat.le_refl _
  | b :: l => by
    have := quB'_len l
    have := quB_len b
    simp only [quB', List.length_append, List.length_cons]
    omega
def quT (s : ByteArray) : List UInt8 := 34 :: (quB' s.data.toList ++ [34])
def tNil : List UInt8 := [110, 105, 108]
def tTrue : List UInt8 := [116, 114, 117, 101]
def tFalse : List UInt8 := [102, 97, 108, 115, 101]
/-- A value that is no table. -/
def plT (v : V) : List UInt8 := if v.k = 1 then (if v.n = 1 then tTrue else tFalse) else if v.k = 2 then Lib.itoa v.n else if v.k = 3 then quT v.s else tNil

theorem dec_len : ∀ (k u : Nat), u < 10 ^ (k + 1) → (Lib.decDigits u).length ≤ k + 1 := by
  intro k
  induction k with
  | zero => intro u h; rw [Lib.decDigits, dif_pos (by simpa using h)]; simp
  | succ k ih =>
    intro u h
    rw [Lib.decDigits]
    split
    · simp
    · have := ih (u / 10) (by rw [Nat.div_lt_iff_lt_mul (by decide)]; rw [Nat.pow_succ] at h; exact h)
      simp only [List.length_append, List.length_cons, List.length_nil]
      omega
theorem itoa_len {n : Int} (h0 : -9223372036854775808 ≤ n) (h1 : n ≤ 9223372036854775807) : (Lib.itoa n).length ≤ 20 := by
  unfold Lib.itoa
  split
  · have := dec_len 18 n.natAbs (by omega)
    simp only [List.length_cons]; omega
  · have := dec_len 18 n.toNat (by omega)
    omega

/-- What a value may be, for its text's length. -/
def shortV (v : V) : Prop := v.s.size ≤ 500 ∧ -9223372036854775808 ≤ v.n ∧ v.n ≤ 9223372036854775807
theorem plT_len {v : V} (h : shortV v) : (plT v).length ≤ 1502 := by
  unfold plT
  split
  · split <;> decide
  · split
    · have := itoa_len h.2.1 h.2.2; omega
    · split
      · have := quB'_len v.s.data.toList
        have h1 := h.1
        have : v.s.data.toList.length = v.s.size := by rw [Array.length_toList]; rfl
        simp only [quT, List.length_cons, List.length_append, List.length_nil]
        omega
      · decide

/-- The text as it is written: labels given so far, which, and the bytes. -/
structure Ft where
  N : Nat
  lab : Nat → Nat
  out : List UInt8
def Ft.say (t : Ft) (l : List UInt8) : Ft := ⟨t.N, t.lab, t.out ++ l⟩
/-- A table begins. -/
def Ft.head (Q : Nat → Nat) (t : Ft) (r : Nat) : Ft := if 1 < Q r then ⟨t.N + 1, fun i => if i = r then t.N + 1 else t.lab i, t.out ++ (35 :: (Lib.itoa (t.N + 1 : Nat) ++ [61])) ++ [123]⟩ else t.say [123]
/-- What stands ahead of the value of pair c. -/
def keyT (K : Nat → V) (c : Nat) : List UInt8 := (if 0 < c then [44, 32] else []) ++ plT (K c) ++ [58, 32]

def frz (Q : Nat → Nat) (L : Nat → Nat) (K X : Nat → Nat → V) : Nat → Ft → V → Ft
  | 0, t, _ => t
  | f + 1, t, v => if v.k = 4 then
      (if 0 < t.lab v.a.toNat then t.say (35 :: Lib.itoa (t.lab v.a.toNat : Nat))
       else ((List.range (L v.a.toNat)).foldl (fun u c => frz Q L K X f (u.say (keyT (K v.a.toNat) c)) (X v.a.toNat c)) (t.head Q v.a.toNat)).say [125])
      else t.say (plT v)
def wrs (Q : Nat → Nat) (L : Nat → Nat) (K X : Nat → Nat → V) (f : Nat) (t : Ft) (r c : Nat) : Ft := (List.range c).foldl (fun u c => frz Q L K X f (u.say (keyT (K r) c)) (X r c)) t
section
variable {Q : Nat → Nat} {L : Nat → Nat} {K X : Nat → Nat → V}
theorem wrs_zero (f : Nat) (t : Ft) (r : Nat) : wrs Q L K X f t r 0 = t := rfl
theorem wrs_succ (f : Nat) (t : Ft) (r c : Nat) : wrs Q L K X f t r (c + 1) = frz Q L K X f ((wrs Q L K X f t r c).say (keyT (K r) c)) (X r c) := by
  simp [wrs, List.range_succ]
theorem wr_no {f : Nat} {t : Ft} {v : V} (h : v.k ≠ 4) : frz Q L K X (f + 1) t v = t.say (plT v) := by
  show (if v.k = 4 then _ else _) = _
  rw [if_neg h]
theorem wr_old {f : Nat} {t : Ft} {v : V} (h : v.k = 4) (hl : 0 < t.lab v.a.toNat) : frz Q L K X (f + 1) t v = t.say (35 :: Lib.itoa (t.lab v.a.toNat : Nat)) := by
  show (if v.k = 4 then _ else _) = _
  rw [if_pos h, if_pos hl]
theorem wr_new {f : Nat} {t : Ft} {v : V} (h : v.k = 4) (hl : t.lab v.a.toNat = 0) : frz Q L K X (f + 1) t v = (wrs Q L K X f (t.head Q v.a.toNat) v.a.toNat (L v.a.toNat)).say [125] := by
  show (if v.k = 4 then _ else _) = _
  rw [if_pos h, if_neg (by omega)]
  rfl

theorem head_len (t : Ft) (r : Nat) : t.out.length + 1 ≤ (t.head Q r).out.length := by
  unfold Ft.head
  split <;> simp [Ft.say] <;> omega
theorem say_len (t : Ft) (l : List UInt8) : (t.say l).out.length = t.out.length + l.length := by simp [Ft.say]
theorem wr_mono : ∀ (f : Nat) (t : Ft) (v : V), t.out.length ≤ (frz Q L K X f t v).out.length := by
  intro f
  induction f with
  | zero => intro t v; exact Nat.le_refl _
  | succ f ih =>
    intro t v
    by_cases h4 : v.k = 4
    · by_cases hl : t.lab v.a.toNat = 0
      · rw [wr_new h4 hl, say_len]
        have : ∀ c, t.out.length ≤ (wrs Q L K X f (t.head Q v.a.toNat) v.a.toNat c).out.length := by
          intro c
          induction c with
          | zero => have := head_len (Q := Q) t v.a.toNat; rw [wrs_zero]; omega
          | succ c ihc =>
            rw [wrs_succ]
            have := ih ((wrs Q L K X f (t.head Q v.a.toNat) v.a.toNat c).say (keyT (K v.a.toNat) c)) (X v.a.toNat c)
            rw [say_len] at this
            omega
        have := this (L v.a.toNat)
        omega
      · rw [wr_old h4 (by omega), say_len]; omega
    · rw [wr_no h4, say_len]; omega
theorem wrs_mono (f : Nat) (t : Ft) (r : Nat) {c d : Nat} (h : c ≤ d) : (wrs Q L K X f t r c).out.length ≤ (wrs Q L K X f t r d).out.length := by
  obtain ⟨e, rfl⟩ := Nat.le.dest h
  clear h
  induction e with
  | zero => exact Nat.le_refl _
  | succ e ih =>
    rw [← Nat.add_assoc, wrs_succ]
    have := wr_mono (Q := Q) (L := L) (K := K) (X := X) f ((wrs Q L K X f t r (c + e)).say (keyT (K r) (c + e))) (X r (c + e))
    rw [say_len] at this
    omega

/-- The writer's state fits what has been met: labels have those that are led to twice. -/
structure Wok (n : Nat) (Q : Nat → Nat) (S : List Nat) (t : Ft) : Prop where
  lab : ∀ i, 0 < t.lab i ↔ i ∈ S ∧ 1 < Q i
  top : ∀ i, t.lab i ≤ t.N
  few : t.N ≤ S.length
theorem Wok.say {n : Nat} {S : List Nat} {t : Ft} (h : Wok n Q S t) (l : List UInt8) : Wok n Q S (t.say l) := ⟨h.lab, h.top, h.few⟩
theorem Wok.head {n : Nat} {S : List Nat} {t : Ft} (h : Wok n Q S t) {r : Nat} (hr : r ∉ S) : Wok n Q (S ++ [r]) (t.head Q r) := by
  unfold Ft.head
  split
  · rename_i hq
    refine ⟨fun i => ?_, fun i => ?_, by have := h.few; simp; omega⟩
    · show 0 < (if i = r then t.N + 1 else t.lab i) ↔ _
      by_cases e : i = r
      · subst e; simp [hq]
      · rw [if_neg e, h.lab i]; simp [e]
    · show (if i = r then t.N + 1 else t.lab i) ≤ t.N + 1
      have := h.top i
      split <;> omega
  · rename_i hq
    refine ⟨fun i => ?_, h.top, by have := h.few; simp [Ft.say]; omega⟩
    show 0 < t.lab i ↔ _
    rw [h.lab i]
    by_cases e : i = r
    · subst e; simp [hq]
    · simp [e]

/-- What is asked of a state at a value, with what is still to be counted. -/
structure Wat (n : Nat) (Q : Nat → Nat) (L : Nat → Nat) (X : Nat → Nat → V) (f : Nat) (S : List Nat) (Q0 : Nat → Nat) (t : Ft) (v : V) : Prop where
  fit : Fit n S
  led : Led S Q0
  ok : Wok n Q S t
  le : ∀ i, cnt L X f Q0 v i ≤ Q i
  fuel : n - S.length < f
  val : isV n v = true

/-- A table that was met has its label. -/
theorem Wat.old {n f : Nat} {S : List Nat} {Q0 : Nat → Nat} {t : Ft} {v : V} (h : Wat n Q L X (f + 1) S Q0 t v) (h4 : v.k = 4) (hm : v.a.toNat ∈ S) : 0 < t.lab v.a.toNat := by
  refine (h.ok.lab _).2 ⟨hm, ?_⟩
  have h0 : Q0 v.a.toNat ≠ 0 := fun e => ((h.led _).1 e) hm
  have := h.le v.a.toNat
  rw [cnt_old h4 h0] at this
  simp [bump] at this
  omega
/-- One that was not has none; inside of it. -/
theorem Wat.none {n f : Nat} {S : List Nat} {Q0 : Nat → Nat} {t : Ft} {v : V} (h : Wat n Q L X f S Q0 t v) (hm : v.a.toNat ∉ S) : t.lab v.a.toNat = 0 := by
  have := mt (h.ok.lab v.a.toNat).1 (fun h => hm h.1)
  omega

/-- The state in the midst of a table's pairs. -/
structure Wmid (n : Nat) (Q : Nat → Nat) (L : Nat → Nat) (X : Nat → Nat → V) (f : Nat) (S : List Nat) (Q0 : Nat → Nat) (t : Ft) (r c : Nat) : Prop where
  fit : Grows n S (mets L X f S (X r) c)
  led : Led (mets L X f S (X r) c) (cnts L X f Q0 (X r) c)
  ok : Wok n Q (mets L X f S (X r) c) t
  le : ∀ i, cnts L X f Q0 (X r) (L r) i ≤ Q i
  fuel : n - S.length < f
theorem Wat.into {n f : Nat} {S : List Nat} {Q0 : Nat → Nat} {t : Ft} {v : V} (h : Wat n Q L X (f + 1) S Q0 t v) (h4 : v.k = 4) (hm : v.a.toNat ∉ S) : Wmid n Q L X f (S ++ [v.a.toNat]) (bump Q0 v.a.toNat) (t.head Q v.a.toNat) v.a.toNat 0 := by
  obtain ⟨a0, a1⟩ := isV_tab h.val h4
  have hr : v.a.toNat < n := by omega
  have h0 := (h.led _).2 hm
  refine ⟨(h.fit.add hr hm).fit.refl, led_add h.led _, h.ok.head hm, fun i => ?_, ?_⟩
  · have := h.le i
    rw [cnt_new h4 h0] at this
    exact this
  · have := h.fit.less hr hm
    have := h.fuel
    simp
    omega
theorem Wmid.at {n f : Nat} {S : List Nat} {Q0 : Nat → Nat} {t : Ft} {r c : Nat} (hg : Good n L X) (hr : r < n) (h : Wmid n Q L X f S Q0 t r c) (hc : c < L r) (l : List UInt8) : Wat n Q L X f (mets L X f S (X r) c) (cnts L X f Q0 (X r) c) (t.say l) (X r c) := by
  refine ⟨h.fit.fit, h.led, h.ok.say l, fun i => ?_, ?_, hg r hr c hc⟩
  · rw [← cnts_succ]
    exact Nat.le_trans (cnts_le _ _ _ _ _ _ hc) (h.le i)
  · have := h.fit.len
    have := h.fuel
    omega

/-- What a value leaves. -/
theorem wr_ok {n : Nat} (hg : Good n L X) : ∀ (f : Nat) {S : List Nat} {Q0 : Nat → Nat} {t : Ft} {v : V}, Wat n Q L X f S Q0 t v → Wok n Q (met L X f S v) (frz Q L K X f t v) := by
  intro f
  induction f with
  | zero => intro S Q0 t v h; have := h.fuel; omega
  | succ f ih =>
    intro S Q0 t v h
    by_cases h4 : v.k = 4
    · by_cases hm : v.a.toNat ∈ S
      · rw [wr_old h4 (h.old h4 hm), met_old (Or.inr hm)]; exact h.ok.say _
      · rw [wr_new h4 (h.none hm), met_new h4 hm]
        obtain ⟨a0, a1⟩ := isV_tab h.val h4
        have hr : v.a.toNat < n := by omega
        have : ∀ c, c ≤ L v.a.toNat → Wmid n Q L X f (S ++ [v.a.toNat]) (bump Q0 v.a.toNat) (wrs Q L K X f (t.head Q v.a.toNat) v.a.toNat c) v.a.toNat c := by
          intro c
          induction c with
          | zero => intro _; exact h.into h4 hm
          | succ c ihc =>
            intro hc
            have hw := ihc (by omega)
            have ha := hw.at hg hr (by omega) (keyT (K v.a.toNat) c)
            have := ih ha
            refine ⟨?_, ?_, ?_, hw.le, hw.fuel⟩
            · rw [mets_succ]; exact hw.fit.trans (met_all hg f _ _ ha.fit ha.val ha.fuel).1
            · rw [mets_succ, cnts_succ]; exact led_cnt f _ hw.led
            · rw [mets_succ, wrs_succ]; exact this
        exact (this _ (Nat.le_refl _)).ok.say _
    · rw [wr_no h4, met_old (Or.inl h4)]; exact h.ok.say _
theorem Wmid.next {n f : Nat} {S : List Nat} {Q0 : Nat → Nat} {t : Ft} {r c : Nat} (hg : Good n L X) (hr : r < n) (h : Wmid n Q L X f S Q0 t r c) (hc : c < L r) (l : List UInt8) : Wmid n Q L X f S Q0 (frz Q L K X f (t.say l) (X r c)) r (c + 1) := by
  have ha := h.at hg hr hc l
  refine ⟨?_, ?_, ?_, h.le, h.fuel⟩
  · rw [mets_succ]; exact h.fit.trans (met_all hg f _ _ ha.fit ha.val ha.fuel).1
  · rw [mets_succ, cnts_succ]; exact led_cnt f _ h.led
  · rw [mets_succ]; exact wr_ok hg f ha

set_option maxRecDepth 20000 in
theorem len_arith {A B C T c o1 o2 kl : Nat} (h1 : o2 ≤ o1 + kl + 1502 + 400000 * (A - B)) (hl : o1 ≤ T + 23 + 3010 * c + 400000 * (B - C)) (hk : kl ≤ 1506) (g1 : C ≤ B) (g2 : B ≤ A) : o2 ≤ T + 23 + 3010 * (c + 1) + 400000 * (A - C) := by
  have e : 400000 * (A - C) = 400000 * (A - B) + 400000 * (B - C) := by rw [← Nat.mul_add, show A - B + (B - C) = A - C by omega]
  generalize 400000 * (A - C) = x at *
  generalize 400000 * (A - B) = y at *
  generalize 400000 * (B - C) = z at *
  omega
/-- The text's length: so much for each table that is met. -/
theorem wr_len {n : Nat} (hn : n ≤ 200) (hg : Good n L X) (hL : ∀ r, r < n → L r ≤ 100) (hK : ∀ r, r < n → ∀ c, c < L r → shortV (K r c)) (hX : ∀ r, r < n → ∀ c, c < L r → shortV (X r c)) :
    ∀ (f : Nat) {S : List Nat} {Q0 : Nat → Nat} {t : Ft} {v : V}, Wat n Q L X f S Q0 t v → shortV v → (frz Q L K X f t v).out.length ≤ t.out.length + 1502 + 400000 * ((met L X f S v).length - S.length) := by
  have hlab : ∀ k, k ≤ 201 → (Lib.itoa (k : Nat)).length ≤ 20 := fun k hk => itoa_len (by omega) (by omega)
  intro f
  induction f with
  | zero => intro S Q0 t v h; have := h.fuel; omega
  | succ f ih =>
    intro S Q0 t v h hs
    by_cases h4 : v.k = 4
    · by_cases hm : v.a.toNat ∈ S
      · rw [wr_old h4 (h.old h4 hm), say_len]
        have := h.ok.top v.a.toNat
        have := h.ok.few
        have := h.fit.len
        have := hlab (t.lab v.a.toNat) (by omega)
        simp only [List.length_cons]
        omega
      · rw [wr_new h4 (h.none hm), met_new h4 hm]
        obtain ⟨a0, a1⟩ := isV_tab h.val h4
        have hr : v.a.toNat < n := by omega
        have hhd : (t.head Q v.a.toNat).out.length ≤ t.out.length + 23 := by
          have := h.ok.few
          have := h.fit.len
          have := hlab (t.N + 1) (by omega)
          unfold Ft.head
          split
          · simp only [List.length_append, List.length_cons, List.length_nil]; omega
          · rw [say_len]; simp
        have : ∀ c, c ≤ L v.a.toNat → Wmid n Q L X f (S ++ [v.a.toNat]) (bump Q0 v.a.toNat) (wrs Q L K X f (t.head Q v.a.toNat) v.a.toNat c) v.a.toNat c ∧
            (wrs Q L K X f (t.head Q v.a.toNat) v.a.toNat c).out.length ≤ t.out.length + 23 + 3010 * c + 400000 * ((mets L X f (S ++ [v.a.toNat]) (X v.a.toNat) c).length - (S ++ [v.a.toNat]).length) := by
          intro c
          induction c with
          | zero => intro _; exact ⟨h.into h4 hm, by rw [wrs_zero, mets_zero]; omega⟩
          | succ c ihc =>
            intro hc
            obtain ⟨hw, hlen⟩ := ihc (by omega)
            have ha := hw.at hg hr (by omega) (keyT (K v.a.toNat) c)
            have h1 := ih ha (hX _ hr c (by omega))
            have g1 := hw.fit.len
            have g2 := (met_all hg f _ _ ha.fit ha.val ha.fuel).1.len
            have hk : (keyT (K v.a.toNat) c).length ≤ 1506 := by
              have := plT_len (hK _ hr c (by omega))
              unfold keyT
              split <;> simp only [List.length_append, List.length_cons, List.length_nil] <;> omega
            refine ⟨hw.next hg hr (by omega) _ |> (fun x => by rw [wrs_succ]; exact x), ?_⟩
            rw [wrs_succ, mets_succ]
            rw [say_len] at h1
            exact len_arith h1 hlen hk g1 g2
        obtain ⟨hw, hlen⟩ := this _ (Nat.le_refl _)
        have g1 := hw.fit.len
        have h100 := hL _ hr
        rw [say_len]
        simp only [List.length_append, List.length_cons, List.length_nil] at g1 hlen ⊢
        omega
    · rw [wr_no h4, say_len, met_old (Or.inl h4)]
      have := plT_len hs
      omega
end

/-- A frozen graph: counted, then written. -/
def cntAll (n : Nat) (u : V) (L : Nat → Nat) (X : Nat → Nat → V) : Nat → Nat := cnt L X (n + 1) (fun _ => 0) u
def ft0 : Ft := ⟨0, fun _ => 0, []⟩
def wrAll (n : Nat) (u : V) (L : Nat → Nat) (K X : Nat → Nat → V) : Ft := frz (cntAll n u L X) L K X (n + 1) ft0 u
theorem wat0 {n : Nat} {u : V} {L : Nat → Nat} {X : Nat → Nat → V} (hu : isV n u = true) : Wat n (cntAll n u L X) L X (n + 1) [] (fun _ => 0) ft0 u :=
  ⟨Fit.nil n, led_nil, ⟨fun i => by simp [ft0], fun i => by simp [ft0], by simp [ft0]⟩, fun i => Nat.le_refl _, by simp, hu⟩

/-- The count's state at a value, its end bounded. -/
structure Cat (n : Nat) (L : Nat → Nat) (X : Nat → Nat → V) (f : Nat) (S : List Nat) (Q : Nat → Nat) (v : V) : Prop where
  fit : Fit n S
  led : Led S Q
  le : ∀ i, cnt L X f Q v i ≤ 100000
  fuel : n - S.length < f
  val : isV n v = true
structure Cmid (n : Nat) (L : Nat → Nat) (X : Nat → Nat → V) (f : Nat) (S : List Nat) (Q : Nat → Nat) (r c : Nat) : Prop where
  fit : Grows n S (mets L X f S (X r) c)
  led : Led (mets L X f S (X r) c) (cnts L X f Q (X r) c)
  le : ∀ i, cnts L X f Q (X r) (L r) i ≤ 100000
  fuel : n - S.length < f
section
variable {L : Nat → Nat} {X : Nat → Nat → V}
theorem Cat.into {n f : Nat} {S : List Nat} {Q : Nat → Nat} {v : V} (h : Cat n L X (f + 1) S Q v) (h4 : v.k = 4) (hm : v.a.toNat ∉ S) : Cmid n L X f (S ++ [v.a.toNat]) (bump Q v.a.toNat) v.a.toNat 0 := by
  obtain ⟨a0, a1⟩ := isV_tab h.val h4
  have hr : v.a.toNat < n := by omega
  have h0 := (h.led _).2 hm
  refine ⟨(h.fit.add hr hm).fit.refl, led_add h.led _, fun i => ?_, ?_⟩
  · have := h.le i
    rw [cnt_new h4 h0] at this
    exact this
  · have := h.fit.less hr hm
    have := h.fuel
    simp
    omega
theorem Cmid.at {n f : Nat} {S : List Nat} {Q : Nat → Nat} {r c : Nat} (hg : Good n L X) (hr : r < n) (h : Cmid n L X f S Q r c) (hc : c < L r) : Cat n L X f (mets L X f S (X r) c) (cnts L X f Q (X r) c) (X r c) := by
  refine ⟨h.fit.fit, h.led, fun i => ?_, ?_, hg r hr c hc⟩
  · rw [← cnts_succ]
    exact Nat.le_trans (cnts_le _ _ _ _ _ _ hc) (h.le i)
  · have := h.fit.len
    have := h.fuel
    omega
theorem Cmid.next {n f : Nat} {S : List Nat} {Q : Nat → Nat} {r c : Nat} (hg : Good n L X) (hr : r < n) (h : Cmid n L X f S Q r c) (hc : c < L r) : Cmid n L X f S Q r (c + 1) := by
  have ha := h.at hg hr hc
  refine ⟨?_, ?_, h.le, h.fuel⟩
  · rw [mets_succ]; exact h.fit.trans (met_all hg f _ _ ha.fit ha.val ha.fuel).1
  · rw [mets_succ, cnts_succ]; exact led_cnt f _ h.led
theorem Cat.old {n f : Nat} {S : List Nat} {Q : Nat → Nat} {v : V} (h : Cat n L X (f + 1) S Q v) (h4 : v.k = 4) : Q v.a.toNat + 1 ≤ 100000 := by
  have hb : bump Q v.a.toNat v.a.toNat ≤ cnt L X (f + 1) Q v v.a.toNat := by
    by_cases h0 : Q v.a.toNat = 0
    · rw [cnt_new h4 h0]; exact cnts_le L X f (bump Q v.a.toNat) (X v.a.toNat) _ (Nat.zero_le _)
    · rw [cnt_old h4 h0]; exact Nat.le_refl _
  have := h.le v.a.toNat
  simp [bump] at hb
  omega

theorem cnt_bound {n : Nat} (hg : Good n L X) (hL : ∀ r, r < n → L r ≤ 100) : ∀ (f : Nat) {S : List Nat} {Q : Nat → Nat} {v : V}, Fit n S → Led S Q → isV n v = true → n - S.length < f → ∀ i, cnt L X f Q v i ≤ Q i + 1 + 100 * ((met L X f S v).length - S.length) := by
  intro f
  induction f with
  | zero => intro S Q v _ _ _ h; omega
  | succ f ih =>
    intro S Q v hS hQ hv hf i
    by_cases h4 : v.k = 4
    · by_cases hm : v.a.toNat ∈ S
      · rw [cnt_old h4 (fun e => ((hQ _).1 e) hm)]
        unfold bump
        split
        · rename_i e; subst e; omega
        · omega
      · obtain ⟨a0, a1⟩ := isV_tab hv h4
        have hr : v.a.toNat < n := by omega
        rw [cnt_new h4 ((hQ _).2 hm), met_new h4 hm]
        have h1 := hS.add hr hm
        have hl := hS.less hr hm
        have : ∀ c, c ≤ L v.a.toNat → Grows n (S ++ [v.a.toNat]) (mets L X f (S ++ [v.a.toNat]) (X v.a.toNat) c) ∧ cnts L X f (bump Q v.a.toNat) (X v.a.toNat) c i ≤ Q i + 1 + c + 100 * ((mets L X f (S ++ [v.a.toNat]) (X v.a.toNat) c).length - (S ++ [v.a.toNat]).length) := by
          intro c
          induction c with
          | zero =>
            intro _
            refine ⟨h1.fit.refl, ?_⟩
            rw [cnts_zero]
            unfold bump
            split
            · rename_i e; subst e; omega
            · omega
          | succ c ihc =>
            intro hc
            obtain ⟨g, hb⟩ := ihc (by omega)
            have hgl := g.len
            have hlen : (S ++ [v.a.toNat]).length = S.length + 1 := by simp
            have hfu : n - (mets L X f (S ++ [v.a.toNat]) (X v.a.toNat) c).length < f := by omega
            have g2 := (met_all hg f _ (X v.a.toNat c) g.fit (hg _ hr c (by omega)) hfu).1
            have := ih g.fit (led_cnts f (X v.a.toNat) (led_add hQ v.a.toNat) c) (hg _ hr c (by omega)) hfu i
            have g2l := g2.len
            refine ⟨by rw [mets_succ]; exact g.trans g2, ?_⟩
            rw [cnts_succ, mets_succ]
            omega
        obtain ⟨g, hb⟩ := this _ (Nat.le_refl _)
        have hgl := g.len
        have h100 := hL _ hr
        simp only [List.length_append, List.length_cons, List.length_nil] at hgl hb ⊢
        omega
    · rw [cnt_no h4]; omega
theorem cat0 {n : Nat} {u : V} (hn : n ≤ 200) (hg : Good n L X) (hL : ∀ r, r < n → L r ≤ 100) (hu : isV n u = true) : Cat n L X (n + 1) [] (fun _ => 0) u :=
  ⟨Fit.nil n, led_nil, fun i => by
    have h := cnt_bound hg hL (n + 1) (Fit.nil n) led_nil hu (by simp) i
    have := (met_all hg (n + 1) [] u (Fit.nil n) hu (by simp)).1.fit.len
    simp only [List.length_nil, Nat.sub_zero] at h
    omega, by simp, hu⟩
end

end Go.Proofs.YtgflalfiopnmnabDoor
