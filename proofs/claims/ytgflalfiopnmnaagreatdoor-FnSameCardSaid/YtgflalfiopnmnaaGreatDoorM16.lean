import Derived.Test.YtgflalfiopnmnaaGreatDoorM15
import Derived.Test.YtgflalfiopnmnaaGreatDoorM12
import Derived.Test.YtgflalfiopnmnaaGreatDoorM3
import Derived.Lib.Builder
import Derived.Lib.AppendStr
import Derived.Lib.UnsafeStr
import Derived.Laws.Externs
import Derived.Deep.AppendLies
import Derived.Lib.ConvBytes
namespace Go.Proofs.YtgflalfiopnmnaaGreatDoor
open Vl

section
variable {Q : Nat → Nat} {L : Nat → Nat} {K X : Nat → Nat → V}
theorem head_app (t : Ft) (r : Nat) : (t.head Q r).out = t.out ++ ((if 1 < Q r then 35 :: (Lib.itoa (t.N + 1 : Nat) ++ [61]) else []) ++ [123]) := by
  unfold Ft.head
  split
  · simp
  · simp [Ft.say]
theorem wr_app : ∀ (f : Nat) (t : Ft) (v : V), ∃ a, (frz Q L K X f t v).out = t.out ++ a := by
  intro f
  induction f with
  | zero => intro t v; exact ⟨[], by simp [frz]⟩
  | succ f ih =>
    intro t v
    by_cases h4 : v.k = 4
    · by_cases hl : t.lab v.a.toNat = 0
      · rw [wr_new h4 hl]
        have : ∀ c, ∃ a, (wrs Q L K X f (t.head Q v.a.toNat) v.a.toNat c).out = t.out ++ a := by
          intro c
          induction c with
          | zero => exact ⟨_, by rw [wrs_zero]; exact head_app t _⟩
          | succ c ihc =>
            obtain ⟨a, ha⟩ := ihc
            rw [wrs_succ]
            obtain ⟨b, hb⟩ := ih ((wrs Q L K X f (t.head Q v.a.toNat) v.a.toNat c).say (keyT (K v.a.toNat) c)) (X v.a.toNat c)
            exact ⟨a ++ (keyT (K v.a.toNat) c ++ b), by rw [hb]; simp [Ft.say, ha]⟩
        obtain ⟨a, ha⟩ := this (L v.a.toNat)
        exact ⟨a ++ [125], by simp [Ft.say, ha]⟩
      · rw [wr_old h4 (by omega)]; exact ⟨_, rfl⟩
    · rw [wr_no h4]; exact ⟨_, rfl⟩
theorem wrs_app (f : Nat) (t : Ft) (r : Nat) {c d : Nat} (h : c ≤ d) : ∃ a, (wrs Q L K X f t r d).out = (wrs Q L K X f t r c).out ++ a := by
  obtain ⟨e, rfl⟩ := Nat.le.dest h
  clear h
  induction e with
  | zero => exact ⟨[], by simp⟩
  | succ e ih =>
    obtain ⟨a, ha⟩ := ih
    rw [← Nat.add_assoc, wrs_succ]
    obtain ⟨b, hb⟩ := wr_app (Q := Q) (L := L) (K := K) (X := X) f ((wrs Q L K X f t r (c + e)).say (keyT (K r) (c + e))) (X r (c + e))
    exact ⟨a ++ (keyT (K r) (c + e) ++ b), by rw [hb]; simp [Ft.say, ha]⟩
end

structure Side (P : List (Nat × Nat)) (ts tt : Ft) : Prop where
  num : ts.N = tt.N
  lab : ∀ p ∈ P, ts.lab p.1 = tt.lab p.2
  one : ∀ p ∈ P, ∀ q ∈ P, 0 < ts.lab p.1 → ts.lab p.1 = ts.lab q.1 → p = q
theorem Side.say {P : List (Nat × Nat)} {ts tt : Ft} (h : Side P ts tt) (a b : List UInt8) : Side P (ts.say a) (tt.say b) := ⟨h.num, h.lab, h.one⟩

def Done (g h : Gr) (P : List (Nat × Nat)) (p : Nat × Nat) : Prop := g.L p.1 = h.L p.2 ∧ ∀ c, c < g.L p.1 → g.K p.1 c = h.K p.2 c ∧ relV (fun i j => (i, j) ∈ P) (g.X p.1 c) (h.X p.2 c)
theorem Done.mono {g h : Gr} {P P' : List (Nat × Nat)} {p : Nat × Nat} (hd : Done g h P p) (hp : ∀ q ∈ P, q ∈ P') : Done g h P' p := ⟨hd.1, fun c hc => ⟨(hd.2 c hc).1, (hd.2 c hc).2.mono (fun i j hij => hp (i, j) hij)⟩⟩

theorem Side.head {g h : Gr} {Q Q' : Nat → Nat} {P : List (Nat × Nat)} {ts tt : Ft} {r r' : Nat} (hs : Side P ts tt) (wS : Wok g.n Q (P.map Prod.fst) ts) (wT : Wok h.n Q' (P.map Prod.snd) tt) (hr : r ∉ P.map Prod.fst) (hr' : r' ∉ P.map Prod.snd) (hq : 1 < Q r ↔ 1 < Q' r') : Side (P ++ [(r, r')]) (ts.head Q r) (tt.head Q' r') := by
  have hrp : ∀ p ∈ P, p.1 ≠ r := fun p hp e => hr (List.mem_map.2 ⟨p, hp, e⟩)
  have hrp' : ∀ p ∈ P, p.2 ≠ r' := fun p hp e => hr' (List.mem_map.2 ⟨p, hp, e⟩)
  by_cases h1 : 1 < Q r
  · have h1' := hq.1 h1
    unfold Ft.head
    rw [if_pos h1, if_pos h1']
    refine ⟨by show ts.N + 1 = tt.N + 1; rw [hs.num], fun p hp => ?_, fun p hp q hq' h0 he => ?_⟩
    · show (if p.1 = r then ts.N + 1 else ts.lab p.1) = (if p.2 = r' then tt.N + 1 else tt.lab p.2)
      rcases List.mem_append.1 hp with hp | hp
      · rw [if_neg (hrp p hp), if_neg (hrp' p hp)]; exact hs.lab p hp
      · rw [List.mem_singleton.1 hp, if_pos rfl, if_pos rfl, hs.num]
    · have h0 : 0 < (if p.1 = r then ts.N + 1 else ts.lab p.1) := h0
      have he : (if p.1 = r then ts.N + 1 else ts.lab p.1) = (if q.1 = r then ts.N + 1 else ts.lab q.1) := he
      rcases List.mem_append.1 hp with hp | hp
      · rw [if_neg (hrp p hp)] at h0 he
        rcases List.mem_append.1 hq' with hq' | hq'
        · rw [if_neg (hrp q hq')] at he
          exact hs.one p hp q hq' h0 he
        · rw [List.mem_singleton.1 hq', if_pos rfl] at he
          have := wS.top p.1
          omega
      · rcases List.mem_append.1 hq' with hq' | hq'
        · rw [List.mem_singleton.1 hp, if_pos rfl, if_neg (hrp q hq')] at he
          have := wS.top q.1
          omega
        · rw [List.mem_singleton.1 hp, List.mem_singleton.1 hq']
  · have h1' : ¬ 1 < Q' r' := fun e => h1 (hq.2 e)
    unfold Ft.head
    rw [if_neg h1, if_neg h1']
    have l0 : ts.lab r = 0 := by
      have := mt (wS.lab r).1 (fun e => hr e.1)
      omega
    have l0' : tt.lab r' = 0 := by
      have := mt (wT.lab r').1 (fun e => hr' e.1)
      omega
    refine ⟨hs.num, fun p hp => ?_, fun p hp q hq' h0 he => ?_⟩
    · rcases List.mem_append.1 hp with hp | hp
      · exact hs.lab p hp
      · rw [List.mem_singleton.1 hp]
        show ts.lab r = tt.lab r'
        rw [l0, l0']
    · have h0 : 0 < ts.lab p.1 := h0
      have he : ts.lab p.1 = ts.lab q.1 := he
      rcases List.mem_append.1 hp with hp | hp
      · rcases List.mem_append.1 hq' with hq' | hq'
        · exact hs.one p hp q hq' h0 he
        · rw [List.mem_singleton.1 hq'] at he
          have he : ts.lab p.1 = ts.lab r := he
          omega
      · rw [List.mem_singleton.1 hp] at h0
        have h0 : 0 < ts.lab r := h0
        omega

theorem nodg61 (x : List UInt8) : noDg (61 :: x) := fun b hb => by
  simp at hb
  rw [← hb]
  decide

theorem itoaN_split {a b : Nat} {r1 r2 : List UInt8} (h : Lib.itoa (a : Nat) ++ r1 = Lib.itoa (b : Nat) ++ r2) (h1 : noDg r1) (h2 : noDg r2) : a = b ∧ r1 = r2 := by
  obtain ⟨e, e2⟩ := itoa_split h h1 h2
  exact ⟨by omega, e2⟩

theorem wrs_key {Q : Nat → Nat} {L : Nat → Nat} {K X : Nat → Nat → V} (f : Nat) (t : Ft) (r : Nat) {c : Nat} (hc : c < L r) {x : List UInt8} (hx : (wrs Q L K X f t r (L r)).out = (wrs Q L K X f t r c).out ++ x) :
    ∃ a1 x1, (frz Q L K X f ((wrs Q L K X f t r c).say (keyT (K r) c)) (X r c)).out = ((wrs Q L K X f t r c).say (keyT (K r) c)).out ++ a1 ∧ (wrs Q L K X f t r (L r)).out = (wrs Q L K X f t r (c + 1)).out ++ x1 ∧ x = keyT (K r) c ++ (a1 ++ x1) := by
  obtain ⟨a1, ha1⟩ := wr_app (Q := Q) (L := L) (K := K) (X := X) f ((wrs Q L K X f t r c).say (keyT (K r) c)) (X r c)
  obtain ⟨x1, hx1⟩ := wrs_app (Q := Q) (L := L) (K := K) (X := X) f t r (c := c + 1) (d := L r) hc
  refine ⟨a1, x1, ha1, hx1, ?_⟩
  rw [hx1, wrs_succ, ha1] at hx
  have h2 : (wrs Q L K X f t r c).out ++ (keyT (K r) c ++ (a1 ++ x1)) = (wrs Q L K X f t r c).out ++ x := by rw [← hx]; simp [Ft.say]
  exact (List.append_cancel_left h2).symm
theorem wrs_end {Q : Nat → Nat} {L : Nat → Nat} {K X : Nat → Nat → V} (f : Nat) (t : Ft) (r : Nat) {x : List UInt8} (hx : (wrs Q L K X f t r (L r)).out = (wrs Q L K X f t r (L r)).out ++ x) : x = [] := by
  have h2 : (wrs Q L K X f t r (L r)).out ++ [] = (wrs Q L K X f t r (L r)).out ++ x := by rw [← hx]; simp
  exact (List.append_cancel_left h2).symm

theorem key_isV {n l c : Nat} {k x : Nat → V} (h : OkT n l k x) (hc : c < l) : isV 0 (k c) = true ∧ (k c).k ≠ 4 := by
  have hk := (h.all c hc).key
  unfold isK at hk
  simp only [Bool.and_eq_true, Bool.or_eq_true, beq_iff_eq] at hk
  exact ⟨hk.2, by omega⟩
theorem dl58 (x : List UInt8) : Dl (58 :: x) := fun b hb => by simp at hb; exact Or.inr (Or.inr hb.symm)
theorem dl125 (x : List UInt8) : Dl (125 :: x) := fun b hb => by simp at hb; exact Or.inr (Or.inl hb.symm)
theorem dl44 (x : List UInt8) : Dl (44 :: x) := fun b hb => by simp at hb; exact Or.inl hb.symm

theorem dl_rest {Q : Nat → Nat} {L : Nat → Nat} {K X : Nat → Nat → V} (f : Nat) (t : Ft) (r : Nat) {c : Nat} (hc : c < L r) {x1 : List UInt8} (hx : (wrs Q L K X f t r (L r)).out = (wrs Q L K X f t r (c + 1)).out ++ x1) (rest : List UInt8) : Dl (x1 ++ 125 :: rest) := by
  by_cases e : c + 1 = L r
  · rw [e] at hx
    rw [wrs_end f t r hx]
    exact dl125 _
  · obtain ⟨a2, x2, _, _, h2⟩ := wrs_key f t r (c := c + 1) (by omega) hx
    rw [h2]
    unfold keyT
    rw [if_pos (by omega)]
    exact dl44 _
theorem end_key {n : Nat} {K : Nat → V} {l : Nat} {x : Nat → V} (ho : OkT n l K x) {c : Nat} (hc : c < l) {r1 y : List UInt8} (h : 125 :: r1 = keyT K c ++ y) : False := by
  unfold keyT at h
  by_cases h0 : 0 < c
  · rw [if_pos h0] at h
    injection h with h1 _
    exact absurd h1 (by decide)
  · rw [if_neg h0] at h
    obtain ⟨k1, k4⟩ := key_isV ho hc
    simp only [List.nil_append, List.append_assoc] at h
    obtain ⟨b, t, e, hs⟩ := plT_head k1 k4 ([58, 32] ++ y)
    rw [e] at h
    injection h with h1 _
    subst h1
    rcases hs with ⟨_, hb⟩ | ⟨_, ⟨_, hb⟩ | ⟨_, hb⟩⟩ | ⟨_, hb | hb⟩ | ⟨_, hb⟩
    · exact absurd hb (by decide)
    · exact absurd hb (by decide)
    · exact absurd hb (by decide)
    · exact absurd hb (by decide)
    · exact absurd hb (by decide)
    · exact absurd hb (by decide)

def Goes (g h : Gr) (Q Q' : Nat → Nat) (f f' : Nat) (P : List (Nat × Nat)) (ts tt : Ft) (v v' : V) (r1 r2 : List UInt8) : Prop :=
  r1 = r2 ∧ ∃ P' : List (Nat × Nat), P <+: P' ∧ P'.map Prod.fst = met g.L g.X f (P.map Prod.fst) v ∧ P'.map Prod.snd = met h.L h.X f' (P.map Prod.snd) v' ∧ Side P' (frz Q g.L g.K g.X f ts v) (frz Q' h.L h.K h.X f' tt v') ∧ relV (fun i j => (i, j) ∈ P') v v' ∧ ∀ p ∈ P', p ∉ P → Done g h P' p

theorem one_text {g h : Gr} (hg : g.Ok) (hh : h.Ok) {Q Q' : Nat → Nat} : ∀ (f f' : Nat) (P : List (Nat × Nat)) (Q0 Q0' : Nat → Nat) (ts tt : Ft) (v v' : V) (a b r1 r2 : List UInt8),
    Wat g.n Q g.L g.X f (P.map Prod.fst) Q0 ts v → Wat h.n Q' h.L h.X f' (P.map Prod.snd) Q0' tt v' → Side P ts tt →
    (frz Q g.L g.K g.X f ts v).out = ts.out ++ a → (frz Q' h.L h.K h.X f' tt v').out = tt.out ++ b → a ++ r1 = b ++ r2 → Dl r1 → Dl r2 → Goes g h Q Q' f f' P ts tt v v' r1 r2 := by
  intro f
  induction f with
  | zero => intro f' P Q0 Q0' ts tt v v' a b r1 r2 wS; have := wS.fuel; omega
  | succ f ih =>
    intro f' P Q0 Q0' ts tt v v' a b r1 r2 wS wT hsd ha hb hab d1 d2
    cases f' with
    | zero => have := wT.fuel; omega
    | succ f' =>
      -- the first signs of a table's text
      have tabS : v.k = 4 → ∃ x, a = 35 :: x ∨ a = 123 :: x := fun h4 => by
        by_cases hm : v.a.toNat ∈ P.map Prod.fst
        · rw [wr_old h4 (wS.old h4 hm)] at ha
          exact ⟨_, Or.inl (List.append_cancel_left ha).symm⟩
        · rw [wr_new h4 (wS.none hm)] at ha
          obtain ⟨x, hx⟩ := wrs_app (Q := Q) (L := g.L) (K := g.K) (X := g.X) f (ts.head Q v.a.toNat) v.a.toNat (Nat.zero_le (g.L v.a.toNat))
          rw [wrs_zero, head_app] at hx
          have : a = ((if 1 < Q v.a.toNat then 35 :: (Lib.itoa (ts.N + 1 : Nat) ++ [61]) else []) ++ [123]) ++ (x ++ [125]) := by
            have h2 : ts.out ++ a = ts.out ++ (((if 1 < Q v.a.toNat then 35 :: (Lib.itoa (ts.N + 1 : Nat) ++ [61]) else []) ++ [123]) ++ (x ++ [125])) := by
              rw [← ha]
              simp [Ft.say, hx]
            exact List.append_cancel_left h2
          split at this
          · exact ⟨_, Or.inl this⟩
          · exact ⟨_, Or.inr this⟩
      have tabT : v'.k = 4 → ∃ x, b = 35 :: x ∨ b = 123 :: x := fun h4 => by
        by_cases hm : v'.a.toNat ∈ P.map Prod.snd
        · rw [wr_old h4 (wT.old h4 hm)] at hb
          exact ⟨_, Or.inl (List.append_cancel_left hb).symm⟩
        · rw [wr_new h4 (wT.none hm)] at hb
          obtain ⟨x, hx⟩ := wrs_app (Q := Q') (L := h.L) (K := h.K) (X := h.X) f' (tt.head Q' v'.a.toNat) v'.a.toNat (Nat.zero_le (h.L v'.a.toNat))
          rw [wrs_zero, head_app] at hx
          have : b = ((if 1 < Q' v'.a.toNat then 35 :: (Lib.itoa (tt.N + 1 : Nat) ++ [61]) else []) ++ [123]) ++ (x ++ [125]) := by
            have h2 : tt.out ++ b = tt.out ++ (((if 1 < Q' v'.a.toNat then 35 :: (Lib.itoa (tt.N + 1 : Nat) ++ [61]) else []) ++ [123]) ++ (x ++ [125])) := by
              rw [← hb]
              simp [Ft.say, hx]
            exact List.append_cancel_left h2
          split at this
          · exact ⟨_, Or.inl this⟩
          · exact ⟨_, Or.inr this⟩
      have sgT : ∀ {x : V} {c : UInt8}, sgn x c → c ≠ 35 ∧ c ≠ 123 := fun {x c} hs => by
        rcases hs with ⟨_, rfl⟩ | ⟨_, ⟨_, rfl⟩ | ⟨_, rfl⟩⟩ | ⟨_, rfl | hd⟩ | ⟨_, rfl⟩
        · decide
        · decide
        · decide
        · decide
        · have := isDg_ne hd; exact ⟨this.2.2.2.2.1, this.2.2.2.2.2.1⟩
        · decide
      by_cases h4 : v.k = 4
      · by_cases h4' : v'.k = 4
        · obtain ⟨i0, i1⟩ := isV_tab wS.val h4
          obtain ⟨j0, j1⟩ := isV_tab wT.val h4'
          have hrn : v.a.toNat < g.n := by omega
          have hrn' : v'.a.toNat < h.n := by omega
          by_cases hm : v.a.toNat ∈ P.map Prod.fst
          · have hl := wS.old h4 hm
            rw [wr_old h4 hl] at ha
            have ha' : a = 35 :: Lib.itoa (ts.lab v.a.toNat : Nat) := (List.append_cancel_left ha).symm
            by_cases hm' : v'.a.toNat ∈ P.map Prod.snd
            · have hl' := wT.old h4' hm'
              rw [wr_old h4' hl'] at hb
              have hb' : b = 35 :: Lib.itoa (tt.lab v'.a.toNat : Nat) := (List.append_cancel_left hb).symm
              rw [ha', hb'] at hab
              simp only [List.cons_append, List.cons.injEq, true_and] at hab
              obtain ⟨el, er⟩ := itoaN_split hab d1.noDg d2.noDg
              obtain ⟨p, hp, ep⟩ := List.mem_map.1 hm
              obtain ⟨q, hq, eq⟩ := List.mem_map.1 hm'
              have hpq : p = q := hsd.one p hp q hq (by rw [ep]; exact hl) (by rw [ep, hsd.lab q hq, eq]; exact el)
              subst hpq
              have hin : (v.a.toNat, v'.a.toNat) ∈ P := by rw [← ep, ← eq]; exact hp
              refine ⟨er, P, List.prefix_refl _, (met_old (Or.inr hm)).symm, (met_old (Or.inr hm')).symm, ?_, ⟨h4.trans h4'.symm, fun _ => hin, fun x => absurd h4 x⟩, fun p hp hn => absurd hp hn⟩
              rw [wr_old h4 hl, wr_old h4' hl']
              exact hsd.say _ _
            · exfalso
              rw [wr_new h4' (wT.none hm')] at hb
              obtain ⟨x, hx⟩ := wrs_app (Q := Q') (L := h.L) (K := h.K) (X := h.X) f' (tt.head Q' v'.a.toNat) v'.a.toNat (Nat.zero_le (h.L v'.a.toNat))
              rw [wrs_zero, head_app] at hx
              have hb' : b = ((if 1 < Q' v'.a.toNat then 35 :: (Lib.itoa (tt.N + 1 : Nat) ++ [61]) else []) ++ [123]) ++ (x ++ [125]) := by
                have h2 : tt.out ++ b = tt.out ++ (((if 1 < Q' v'.a.toNat then 35 :: (Lib.itoa (tt.N + 1 : Nat) ++ [61]) else []) ++ [123]) ++ (x ++ [125])) := by
                  rw [← hb]
                  simp [Ft.say, hx]
                exact List.append_cancel_left h2
              rw [ha', hb'] at hab
              split at hab
              · simp only [List.cons_append, List.append_assoc, List.nil_append, List.cons.injEq, true_and] at hab
                obtain ⟨_, er⟩ := itoaN_split hab d1.noDg (nodg61 _)
                have := d1 61 (by rw [er]; rfl)
                exact absurd this (by decide)
              · simp only [List.cons_append, List.nil_append, List.cons.injEq] at hab
                exact absurd hab.1 (by decide)
          · rw [wr_new h4 (wS.none hm)] at ha
            obtain ⟨x, hx⟩ := wrs_app (Q := Q) (L := g.L) (K := g.K) (X := g.X) f (ts.head Q v.a.toNat) v.a.toNat (Nat.zero_le (g.L v.a.toNat))
            have hx0 := hx
            rw [wrs_zero] at hx0
            rw [wrs_zero, head_app] at hx
            have ha' : a = ((if 1 < Q v.a.toNat then 35 :: (Lib.itoa (ts.N + 1 : Nat) ++ [61]) else []) ++ [123]) ++ (x ++ [125]) := by
              have h2 : ts.out ++ a = ts.out ++ (((if 1 < Q v.a.toNat then 35 :: (Lib.itoa (ts.N + 1 : Nat) ++ [61]) else []) ++ [123]) ++ (x ++ [125])) := by
                rw [← ha]
                simp [Ft.say, hx]
              exact List.append_cancel_left h2
            by_cases hm' : v'.a.toNat ∈ P.map Prod.snd
            · exfalso
              have hl' := wT.old h4' hm'
              rw [wr_old h4' hl'] at hb
              have hb' : b = 35 :: Lib.itoa (tt.lab v'.a.toNat : Nat) := (List.append_cancel_left hb).symm
              rw [ha', hb'] at hab
              split at hab
              · simp only [List.cons_append, List.append_assoc, List.nil_append, List.cons.injEq, true_and] at hab
                obtain ⟨_, er⟩ := itoaN_split hab (nodg61 _) d2.noDg
                have := d2 61 (by rw [← er]; rfl)
                exact absurd this (by decide)
              · simp only [List.cons_append, List.nil_append, List.cons.injEq] at hab
                exact absurd hab.1 (by decide)
            · rw [wr_new h4' (wT.none hm')] at hb
              obtain ⟨y, hy⟩ := wrs_app (Q := Q') (L := h.L) (K := h.K) (X := h.X) f' (tt.head Q' v'.a.toNat) v'.a.toNat (Nat.zero_le (h.L v'.a.toNat))
              have hy0 := hy
              rw [wrs_zero] at hy0
              rw [wrs_zero, head_app] at hy
              have hb' : b = ((if 1 < Q' v'.a.toNat then 35 :: (Lib.itoa (tt.N + 1 : Nat) ++ [61]) else []) ++ [123]) ++ (y ++ [125]) := by
                have h2 : tt.out ++ b = tt.out ++ (((if 1 < Q' v'.a.toNat then 35 :: (Lib.itoa (tt.N + 1 : Nat) ++ [61]) else []) ++ [123]) ++ (y ++ [125])) := by
                  rw [← hb]
                  simp [Ft.say, hy]
                exact List.append_cancel_left h2
              have hboth : (1 < Q v.a.toNat ↔ 1 < Q' v'.a.toNat) ∧ x ++ 125 :: r1 = y ++ 125 :: r2 := by
                rw [ha', hb'] at hab
                by_cases q1 : 1 < Q v.a.toNat
                · rw [if_pos q1] at hab
                  by_cases q2 : 1 < Q' v'.a.toNat
                  · rw [if_pos q2, hsd.num] at hab
                    have := List.append_cancel_left (by simpa using hab : Lib.itoa (tt.N + 1 : Nat) ++ (61 :: 123 :: (x ++ 125 :: r1)) = Lib.itoa (tt.N + 1 : Nat) ++ (61 :: 123 :: (y ++ 125 :: r2)))
                    simp only [List.cons.injEq, true_and] at this
                    exact ⟨⟨fun _ => q2, fun _ => q1⟩, this⟩
                  · rw [if_neg q2] at hab
                    simp only [List.cons_append, List.nil_append, List.cons.injEq] at hab
                    exact absurd hab.1 (by decide)
                · rw [if_neg q1] at hab
                  by_cases q2 : 1 < Q' v'.a.toNat
                  · rw [if_pos q2] at hab
                    simp only [List.cons_append, List.nil_append, List.cons.injEq] at hab
                    exact absurd hab.1 (by decide)
                  · rw [if_neg q2] at hab
                    simp only [List.cons_append, List.nil_append, List.append_assoc, List.cons.injEq, true_and] at hab
                    exact ⟨⟨fun e => absurd e q1, fun e => absurd e q2⟩, hab⟩
              obtain ⟨hqq, hxy⟩ := hboth
              have mS := wS.into h4 hm
              have mT := wT.into h4' hm'
              have hsd1 := hsd.head (g := g) (h := h) wS.ok wT.ok hm hm' hqq
              generalize hr : v.a.toNat = r at *
              generalize hr' : v'.a.toNat = r' at *
              have okS := hg.all r hrn
              have okT := hh.all r' hrn'
              have loop : ∀ c, c ≤ g.L r → c ≤ h.L r' → ∃ (Pc : List (Nat × Nat)) (x y : List UInt8), (P ++ [(r, r')]) <+: Pc ∧ Pc.map Prod.fst = mets g.L g.X f (P.map Prod.fst ++ [r]) (g.X r) c ∧ Pc.map Prod.snd = mets h.L h.X f' (P.map Prod.snd ++ [r']) (h.X r') c ∧
                  Side Pc (wrs Q g.L g.K g.X f (ts.head Q r) r c) (wrs Q' h.L h.K h.X f' (tt.head Q' r') r' c) ∧
                  Wmid g.n Q g.L g.X f (P.map Prod.fst ++ [r]) (bump Q0 r) (wrs Q g.L g.K g.X f (ts.head Q r) r c) r c ∧ Wmid h.n Q' h.L h.X f' (P.map Prod.snd ++ [r']) (bump Q0' r') (wrs Q' h.L h.K h.X f' (tt.head Q' r') r' c) r' c ∧
                  (wrs Q g.L g.K g.X f (ts.head Q r) r (g.L r)).out = (wrs Q g.L g.K g.X f (ts.head Q r) r c).out ++ x ∧ (wrs Q' h.L h.K h.X f' (tt.head Q' r') r' (h.L r')).out = (wrs Q' h.L h.K h.X f' (tt.head Q' r') r' c).out ++ y ∧ x ++ 125 :: r1 = y ++ 125 :: r2 ∧
                  (∀ d, d < c → g.K r d = h.K r' d ∧ relV (fun i j => (i, j) ∈ Pc) (g.X r d) (h.X r' d)) ∧ ∀ p ∈ Pc, p ∉ P ++ [(r, r')] → Done g h Pc p := by
                intro c
                induction c with
                | zero => intro _ _; exact ⟨P ++ [(r, r')], x, y, List.prefix_refl _, by simp [mets_zero], by simp [mets_zero], hsd1, mS, mT, hx0, hy0, hxy, fun d hd => absurd hd (Nat.not_lt_zero _), fun p hp hn => absurd hp hn⟩
                | succ c ihc =>
                  intro hc hc'
                  obtain ⟨Pc, x, y, p1, p2, p3, p4, p5, p6, p7, p8, p9, p10, p11⟩ := ihc (by omega) (by omega)
                  obtain ⟨a1, x1, e1, e2, e3⟩ := wrs_key f (ts.head Q r) r (c := c) (by omega) p7
                  obtain ⟨b1, y1, f1, f2, f3⟩ := wrs_key f' (tt.head Q' r') r' (c := c) (by omega) p8
                  rw [e3, f3] at p9
                  unfold keyT at p9
                  simp only [List.append_assoc] at p9
                  have p9 := List.append_cancel_left p9
                  obtain ⟨k1, k4⟩ := key_isV okS (c := c) (by omega)
                  obtain ⟨k1', k4'⟩ := key_isV okT (c := c) (by omega)
                  obtain ⟨ek, er⟩ := plT_split k1 k1' k4 k4' p9 (dl58 _) (dl58 _)
                  simp only [List.cons_append, List.nil_append, List.cons.injEq, true_and] at er
                  have w1 := p5.at (good_of hg) hrn (show c < g.L r by omega) (keyT (g.K r) c)
                  have w2 := p6.at (good_of hh) hrn' (show c < h.L r' by omega) (keyT (h.K r') c)
                  rw [← p2] at w1
                  rw [← p3] at w2
                  obtain ⟨g1, P', g2, g3, g4, g5, g6, g7⟩ := ih f' Pc _ _ _ _ _ _ a1 b1 _ _ w1 w2 (p4.say _ _) e1 f1 er (dl_rest f (ts.head Q r) r (by omega) e2 r1) (dl_rest f' (tt.head Q' r') r' (by omega) f2 r2)
                  have hsub : ∀ q ∈ Pc, q ∈ P' := fun q hq => g2.subset hq
                  refine ⟨P', x1, y1, p1.trans g2, ?_, ?_, ?_, ?_, ?_, e2, f2, g1, fun d hd => ?_, fun p hp hn => ?_⟩
                  · rw [mets_succ, g3, p2]
                  · rw [mets_succ, g4, p3]
                  · rw [wrs_succ, wrs_succ]; exact g5
                  · rw [wrs_succ]; exact p5.next (good_of hg) hrn (by omega) _
                  · rw [wrs_succ]; exact p6.next (good_of hh) hrn' (by omega) _
                  · by_cases ed : d = c
                    · subst ed; exact ⟨ek, g6⟩
                    · have := p10 d (by omega)
                      exact ⟨this.1, this.2.mono (fun i j hij => hsub (i, j) hij)⟩
                  · by_cases hpc : p ∈ Pc
                    · exact (p11 p hpc hn).mono hsub
                    · exact g7 p hp hpc
              have hlen : g.L r = h.L r' := by
                rcases Nat.lt_trichotomy (g.L r) (h.L r') with hlt | he | hlt
                · exfalso
                  obtain ⟨Pc, x, y, _, _, _, _, _, _, p7, p8, p9, _⟩ := loop (g.L r) (Nat.le_refl _) (by omega)
                  rw [wrs_end f _ r p7] at p9
                  obtain ⟨b1, y1, _, _, f3⟩ := wrs_key f' (tt.head Q' r') r' hlt p8
                  rw [f3, List.append_assoc] at p9
                  exact end_key okT hlt p9
                · exact he
                · exfalso
                  obtain ⟨Pc, x, y, _, _, _, _, _, _, p7, p8, p9, _⟩ := loop (h.L r') (by omega) (Nat.le_refl _)
                  rw [wrs_end f' _ r' p8] at p9
                  obtain ⟨b1, y1, _, _, f3⟩ := wrs_key f (ts.head Q r) r hlt p7
                  rw [f3, List.append_assoc] at p9
                  exact end_key okS hlt p9.symm
              obtain ⟨Pc, x, y, p1, p2, p3, p4, _, _, p7, p8, p9, p10, p11⟩ := loop (g.L r) (Nat.le_refl _) (by omega)
              rw [wrs_end f _ r p7] at p9
              have p8' := p8
              rw [hlen] at p8'
              rw [wrs_end f' _ r' p8'] at p9
              have hin : (r, r') ∈ Pc := p1.subset (by simp)
              refine ⟨by simpa using p9, Pc, (List.prefix_append _ _).trans p1, ?_, ?_, ?_, ⟨h4.trans h4'.symm, fun _ => ?_, fun e => absurd h4 e⟩, fun p hp hn => ?_⟩
              · rw [met_new h4 (by rw [hr]; exact hm), hr]; exact p2
              · rw [met_new h4' (by rw [hr']; exact hm'), hr', ← hlen]; exact p3
              · rw [wr_new h4 (by rw [hr]; exact wS.none (by rw [hr]; exact hm) ▸ (by rw [hr])), wr_new h4' (by rw [hr']; exact wT.none (by rw [hr']; exact hm') ▸ (by rw [hr'])), hr, hr']
                rw [← hlen]
                exact p4.say _ _
              · rw [hr, hr']; exact hin
              · by_cases e : p ∈ P ++ [(r, r')]
                · rcases List.mem_append.1 e with e | e
                  · exact absurd e hn
                  · rw [List.mem_singleton.1 e]
                    exact ⟨hlen, p10⟩
                · exact p11 p hp e
        · exfalso
          rw [wr_no h4'] at hb
          have hb' : b = plT v' := (List.append_cancel_left hb).symm
          obtain ⟨c, t, e, hs⟩ := plT_head wT.val h4' r2
          obtain ⟨x, hx⟩ := tabS h4
          rw [hb', e] at hab
          rcases hx with rfl | rfl
          · injection hab with h1 _; exact (sgT hs).1 h1.symm
          · injection hab with h1 _; exact (sgT hs).2 h1.symm
      · by_cases h4' : v'.k = 4
        · exfalso
          rw [wr_no h4] at ha
          have ha' : a = plT v := (List.append_cancel_left ha).symm
          obtain ⟨c, t, e, hs⟩ := plT_head wS.val h4 r1
          obtain ⟨x, hx⟩ := tabT h4'
          rw [ha', e] at hab
          rcases hx with rfl | rfl
          · injection hab with h1 _; exact (sgT hs).1 h1
          · injection hab with h1 _; exact (sgT hs).2 h1
        · rw [wr_no h4] at ha
          rw [wr_no h4'] at hb
          have ha' : a = plT v := (List.append_cancel_left ha).symm
          have hb' : b = plT v' := (List.append_cancel_left hb).symm
          rw [ha', hb'] at hab
          obtain ⟨e, er⟩ := plT_split wS.val wT.val h4 h4' hab d1 d2
          refine ⟨er, P, List.prefix_refl _, (met_old (Or.inl h4)).symm, (met_old (Or.inl h4')).symm, ?_, ⟨by rw [e], fun x => absurd x h4, fun _ => e⟩, fun p hp hn => absurd hp hn⟩
          rw [wr_no h4, wr_no h4']
          exact hsd.say _ _

theorem text_same {s t : Gr} (hs : Shk s) (ht : Shk t) (h : (wrAll s.n s.u s.L s.K s.X).out = (wrAll t.n t.u t.L t.K t.X).out) : SameG s t := by
  obtain ⟨_, P, _, p2, p3, _, p5, p6⟩ := one_text hs.ok ht.ok (Q := cntAll s.n s.u s.L s.X) (Q' := cntAll t.n t.u t.L t.X) (s.n + 1) (t.n + 1) [] (fun _ => 0) (fun _ => 0) ft0 ft0 s.u t.u (wrAll s.n s.u s.L s.K s.X).out (wrAll t.n t.u t.L t.K t.X).out [] []
    (wat0 hs.ok.root) (wat0 ht.ok.root) ⟨rfl, (fun p hp => absurd hp (by simp)), (fun p hp => absurd hp (by simp))⟩ (by show _ = [] ++ _; rw [List.nil_append]; rfl) (by show _ = [] ++ _; rw [List.nil_append]; rfl) (by rw [h]) (fun b hb => by simp at hb) (fun b hb => by simp at hb)
  have fS := (order_all hs.ok).1
  have fT := (order_all ht.ok).1
  refine ⟨fun i j => (i, j) ∈ P, fun i j hij => ?_, p5⟩
  have hi : i < s.n := fS.lt i (by
    show i ∈ met s.L s.X (s.n + 1) [] s.u
    rw [← show P.map Prod.fst = met s.L s.X (s.n + 1) [] s.u from p2]
    exact List.mem_map.2 ⟨(i, j), hij, rfl⟩)
  have hj : j < t.n := fT.lt j (by
    show j ∈ met t.L t.X (t.n + 1) [] t.u
    rw [← show P.map Prod.snd = met t.L t.X (t.n + 1) [] t.u from p3]
    exact List.mem_map.2 ⟨(i, j), hij, rfl⟩)
  obtain ⟨hl, hc⟩ := p6 (i, j) hij (by simp)
  have hl : s.L i = t.L j := hl
  refine ⟨hi, hj, fun k => keys_of_pos (hs.ok.all i hi) (ht.ok.all j hj) (hs.sort i hi) (ht.sort j hj) hl (fun c hcl => ?_) k⟩
  rw [byI_range hcl, byI_range hcl, byI_range (by omega), byI_range (by omega)]
  exact hc c hcl

end Go.Proofs.YtgflalfiopnmnaaGreatDoor

namespace Go.Proofs.YtgflalfiopnmnaaGreatDoor
open Go.RowKit Vl

theorem leads_keyed : Keyed 60 107 3 ptr IsB (fun a b => a == b) (.int .i64 0) where
  und := Tryz.underlying60
  eq := fun u v w hu hv => eq_ptr u v w hu hv 9999
  chk := fun em v w => by kernel_rfl
  now := ⟨_, Tryz.underlying107, fun u v => rfl⟩
  zero := fun w => by kernel_rfl

theorem find_at (v : Nat) (w : World) (hv : IsB w v) : ∀ (es : List MapEntry) (l : List (Nat × Value)) (i : Nat), (∀ p ∈ l, IsB w p.1) → es.map (fun e => (e.key, e.val)) = l.map (fun p => (ptr p.1, p.2)) → ∀ x, findG (fun a b => a == b) v l = some x →
    ∃ j, l[j]? = some (v, x) ∧ (∃ e, es[j]? = some e ∧ e.key = ptr v) ∧ (Instr.findAsking 107 (ptr v) es i).run Tryz.prog w = .ok (some (i + j, x)) w
  | [], [], i, _, _, x, h => by cases h
  | [], _ :: _, i, _, h, _, _ => by simp at h
  | _ :: _, [], i, _, h, _, _ => by simp at h
  | e :: es, (k, y) :: l, i, hl, h, x, hf => by
    simp only [List.map_cons, List.cons.injEq, Prod.mk.injEq] at h
    obtain ⟨⟨h1, h2⟩, h3⟩ := h
    have e1 : (Instr.findAsking 107 (ptr v) (e :: es) i).run Tryz.prog w = if (v == k) = true then .ok (some (i, e.val)) w else (Instr.findAsking 107 (ptr v) es (i + 1)).run Tryz.prog w := by
      conv => lhs; unfold Instr.findAsking
      rw [Sem.run_bind, h1, leads_keyed.eq _ _ _ hv (hl (k, y) (by simp))]
      simp only [Result.andThen_ok]
      cases (v == k) <;> simp
    unfold findG at hf
    by_cases he : (v == k) = true
    · rw [if_pos he] at hf e1
      obtain rfl : y = x := by cases hf; rfl
      obtain rfl : v = k := by simpa using he
      exact ⟨0, rfl, ⟨e, rfl, h1⟩, by rw [e1, h2]; rfl⟩
    · rw [if_neg he] at hf e1
      obtain ⟨j, a, ⟨e', b, b'⟩, c⟩ := find_at v w hv es l (i + 1) (fun p hp => hl p (List.mem_cons_of_mem _ hp)) h3 x hf
      refine ⟨j + 1, by simpa using a, ⟨e', by simpa using b, b'⟩, ?_⟩
      rw [e1, c, show i + 1 + j = i + (j + 1) by omega]

theorem findKey_at (v : Nat) (w : World) (hv : IsB w v) (es : List MapEntry) (l : List (Nat × Value)) (hl : ∀ p ∈ l, IsB w p.1) (h : es.map (fun e => (e.key, e.val)) = l.map (fun p => (ptr p.1, p.2))) (x : Value) (hf : findG (fun a b => a == b) v l = some x) :
    ∃ j, l[j]? = some (v, x) ∧ (∃ e, es[j]? = some e ∧ e.key = ptr v) ∧ (Instr.findKey 107 (ptr v) es).run Tryz.prog w = .ok (some (j, x)) w := by
  obtain ⟨j, a, b, c⟩ := find_at v w hv es l 0 hl h x hf
  refine ⟨j, a, b, ?_⟩
  obtain ⟨d, hd, hn⟩ := leads_keyed.now
  have e1 : (Instr.findKey 107 (ptr v) es).run Tryz.prog w = (Instr.findAsking 107 (ptr v) es 0).run Tryz.prog w := by
    unfold Instr.findKey
    rw [Sem.run_bind, run_underlying hd]
    simp only [Result.andThen_ok]
    cases es with
    | nil => rfl
    | cons e es =>
      cases l with
      | nil => simp at h
      | cons p l =>
        simp only [List.map_cons, List.cons.injEq, Prod.mk.injEq] at h
        have : Instr.findNow d (ptr v) (e :: es) 0 = none := by
          unfold Instr.findNow
          rw [h.1.1, hn]
        rw [this]
  rw [e1, c, Nat.zero_add]

abbrev tabL (T : Nat → Nat) (S : List Nat) (f : Nat → Value) : List (Nat × Value) := S.map fun j => (T j, f j)
theorem find_tab (T : Nat → Nat) (f : Nat → Value) (r : Nat) : ∀ S : List Nat, (∀ i ∈ S, T i = T r → i = r) → findG (fun a b => a == b) (T r) (tabL T S f) = if r ∈ S then some (f r) else none
  | [], _ => rfl
  | i :: S, h => by
    simp only [tabL, List.map_cons, findG]
    by_cases e : T r = T i
    · rw [if_pos (by simpa using e)]
      have := h i (by simp) e.symm
      subst this
      simp
    · rw [if_neg (by simpa using e)]
      have := find_tab T f r S (fun j hj => h j (by simp [hj]))
      unfold tabL at this
      rw [this]
      have hne : ¬ r = i := fun x => e (by rw [x])
      simp [hne]

theorem tab_set (T : Nat → Nat) (f : Nat → Value) (x : Value) {r : Nat} : ∀ (S : List Nat) (j : Nat), S.Nodup → S[j]? = some r → (tabL T S f).set j (T r, x) = tabL T S (fun i => if i = r then x else f i)
  | [], j, _, h => by simp at h
  | i :: S, 0, hn, h => by
    simp at h
    subst h
    obtain ⟨h1, _⟩ := List.nodup_cons.1 hn
    simp only [tabL, List.map_cons, List.set_cons_zero, if_true, List.cons.injEq, true_and]
    refine List.map_congr_left (fun k hk => ?_)
    have hne : k ≠ i := fun e => h1 (by rw [← e]; exact hk)
    rw [if_neg hne]
  | i :: S, j + 1, hn, h => by
    obtain ⟨h1, h2⟩ := List.nodup_cons.1 hn
    have hj : S[j]? = some r := by simpa using h
    have hne : i ≠ r := fun e => h1 (by rw [e]; exact List.mem_of_getElem? hj)
    have := tab_set T f x S j h2 hj
    simp only [tabL, List.map_cons, List.set_cons_succ, if_neg hne, List.cons.injEq, true_and] at this ⊢
    exact this

theorem stays (a : Nat) (w : World) : (Instr.keyThatStays (ptr a) (ptr a)).run Tryz.prog w = .ok (ptr a) w := by simp [Instr.keyThatStays, Instr.sameBits]

theorem MapG.reset {w : World} {M : Nat} {T : Nat → Nat} {S : List Nat} {f : Nat → Value} (h : MapG ptr w M (tabL T S f)) {r : Nat} (hr : r ∈ S) (hn : S.Nodup) (hi : ∀ i ∈ S, ∀ j ∈ S, T i = T j → i = j) (hB : ∀ i ∈ S, IsB w (T i)) (x : Value) :
    ∃ w', (Instr.mapUpdate 60 (.map (some M)) (ptr (T r)) x).run Tryz.prog w = .ok () w' ∧ MapG ptr w' M (tabL T S (fun i => if i = r then x else f i)) ∧ Only (fun k => k = M) w w' ∧ w'.heap.size = w.heap.size := by
  obtain ⟨es, clk, hb, hl⟩ := h
  have hf := find_tab T f r S (fun i hi' e => hi i hi' r hr e)
  rw [if_pos hr] at hf
  obtain ⟨j, a, ⟨e, b, b'⟩, c⟩ := findKey_at (T r) w (hB r hr) es.toList (tabL T S f) (fun p hp => by obtain ⟨i, hi', rfl⟩ := List.mem_map.1 hp; exact hB i hi') hl (f r) hf
  have hj : S[j]? = some r := by
    unfold tabL at a
    rw [List.getElem?_map] at a
    cases hs : S[j]? with
    | none => rw [hs] at a; cases a
    | some i =>
      rw [hs] at a
      simp only [Option.map_some, Option.some.injEq, Prod.mk.injEq] at a
      rw [hi i (List.mem_of_getElem? hs) r hr a.1]
  have bq : es[j]? = some e := by rw [← Array.getElem?_toList]; exact b
  refine ⟨{ w with heap := w.heap.setIfInBounds M (.map (es.modify j fun e => { e with key := ptr (T r), val := x }) clk) }, ?_, ?_, ?_, by simp⟩
  · simp [Instr.mapUpdate, run_underlying leads_keyed.und, MapKept.run_getObj_map hb, leads_keyed.chk, c, Result.andThen, MapKept.run_setObj_map _ hb, bq, b', stays]
  · refine ⟨_, _, by rw [Array.getElem?_setIfInBounds_self_of_lt (blk_lt hb)], ?_⟩
    have e2 : (es.modify j fun e => { e with key := ptr (T r), val := x }).toList.map (fun e => (e.key, e.val)) = (es.toList.map (fun e => (e.key, e.val))).set j (ptr (T r), x) := by
      apply List.ext_getElem?
      intro i
      rw [List.getElem?_map, Array.getElem?_toList, Array.getElem?_modify, List.getElem?_set, List.getElem?_map, Array.getElem?_toList]
      by_cases hij : j = i
      · subst hij
        rw [if_pos rfl, if_pos rfl, bq]
        simp
        exact (Array.getElem?_eq_some_iff.1 bq).1
      · rw [if_neg hij, if_neg hij]
    rw [e2, hl, ← tab_set T f x S j hn hj]
    rw [List.map_set]
  · refine ⟨rfl, rfl, rfl, by simp, fun k _ hk => ?_⟩
    show (w.heap.setIfInBounds M _)[k]? = w.heap[k]?
    rw [Array.getElem?_setIfInBounds_ne (fun e => hk e.symm)]

end Go.Proofs.YtgflalfiopnmnaaGreatDoor

namespace Go.Proofs.YtgflalfiopnmnaaGreatDoor
open Go.RowKit Vl

/-! A builder that lies in a field: the program's writer. -/
abbrev pW (WB : Nat) : Value := .pointer (some ⟨WB, 2, none⟩)

structure WrS (w : World) (WB QM LM base : Nat) (buf : Value) (bs : List UInt8) : Prop where
  blk : ∃ p, (p = .pointer none ∨ p = pW WB) ∧ w.heap[WB]? = some (.cells #[.map (some QM), .map (some LM), p, buf] 74 (0, 0))
  own : w.ownsRow base 5 1 buf bs.length (Lib.byteCells bs)

theorem four_at {w : World} {B : Nat} {a b c d : Value} {t : TypeId} (H : w.heap[B]? = some (.cells #[a, b, c, d] t (0, 0))) :
    w.cell? ⟨B, 0, none⟩ = some a ∧ w.cell? ⟨B, 1, none⟩ = some b ∧ w.cell? ⟨B, 2, none⟩ = some c ∧ w.cell? ⟨B, 3, none⟩ = some d ∧ w.shape? B = some (t, 4) ∧ ∀ i, w.frozen? ⟨B, i, none⟩ = false := by
  refine ⟨?_, ?_, ?_, ?_, ?_, fun i => ?_⟩ <;> simp [World.cell?, World.frozen?, World.shape?, H]

theorem WrS.below {w w' : World} {WB QM LM base : Nat} {buf : Value} {bs : List UInt8} (h : WrS w WB QM LM base buf bs) (hb : Below w.heap.size w w') : WrS w' WB QM LM base buf bs := by
  obtain ⟨p, hp, hB⟩ := h.blk
  exact ⟨⟨p, hp, blkB hB hb⟩, (Only.below (P := fun _ => False) hb).owns h.own (fun _ _ _ h => h)⟩

theorem size_bld : ∃ j, Tryz.prog.info? 72 = some j ∧ j.size = 2 := by
  have h : (Tryz.prog.info? 72).map (fun i => i.size) = some 2 := by kernel_rfl
  cases hi : Tryz.prog.info? 72 with
  | none => rw [hi] at h; cases h
  | some j => rw [hi] at h; exact ⟨j, rfl, by simpa using h⟩
theorem Tryz.infoU8 : (Tryz.prog.info? 5).map (fun i => (i.zero, i.size, i.bytes)) = some (some (.int .u8 0), 1, 1) := by kernel_rfl

set_option maxHeartbeats 1000000 in
set_option maxRecDepth 100000 in
theorem copyCheck_used (b : Nat) (w : World) (h0 : w.cell? ⟨b, 2, none⟩ = some (pW b)) :
    Calls Tryz.prog 150 #[pW b] w fun e w' => e = .returned (.tuple #[]) ∧ w' = w := by
  obtain ⟨j, hj, _⟩ := size_bld
  go_enter Tryz.func150, Tryz.ntmps150
  go_wp2
  rw [Lib.run_neq_ptr_same w _ Tryz.underlying70 hj]
  go_wp2
  go_end0
  exact ⟨rfl, rfl⟩

set_option maxHeartbeats 1000000 in
set_option maxRecDepth 100000 in
theorem copyCheck_fresh (b : Nat) (w : World) (h0 : w.cell? ⟨b, 2, none⟩ = some (.pointer none)) (hsh : w.shape? b = some (74, 4)) (hfz : w.frozen? ⟨b, 2, none⟩ = false) :
    Calls Tryz.prog 150 #[pW b] w fun e w' => e = .returned (.tuple #[]) ∧ w' = w.setCell ⟨b, 2, none⟩ (pW b) := by
  obtain ⟨j, hj, hjs⟩ := size_bld
  go_enter Tryz.func150, Tryz.ntmps150
  go_wp2
  rw [Lib.run_to_unsafe w ⟨b, 2, none⟩ Tryz.underlying70 Tryz.underlying148 hj (by rw [hjs]; decide) hsh (show 2 < 4 by decide)]
  simp only [Result.andThen]
  rw [Oper.upon_value]
  go_wp2
  rw [run_callFunc_extern Tryz.func165 (by kernel_rfl) (by kernel_rfl) (by kernel_rfl) (e := Extern.AbiNoEscape.same) (by kernel_rfl)]
  rw [Lib.run_noEscape]
  simp only [Result.andThen]
  rw [Oper.upon_value]
  go_wp2
  rw [Lib.run_from_unsafe w ⟨b, 2, none⟩ Tryz.underlying148 Tryz.underlying70 hj hsh (by kernel_rfl)]
  simp only [Result.andThen]
  rw [Oper.upon_value]
  go_wp2
  go_end0
  exact ⟨rfl, rfl⟩

structure WrU (w : World) (WB QM LM base : Nat) (buf : Value) (bs : List UInt8) : Prop where
  blk : w.heap[WB]? = some (.cells #[.map (some QM), .map (some LM), pW WB, buf] 74 (0, 0))
  own : w.ownsRow base 5 1 buf bs.length (Lib.byteCells bs)

theorem copyCheck_any (WB QM LM base : Nat) (buf : Value) (bs : List UInt8) (w : World) (hB : WB < base) (H : WrS w WB QM LM base buf bs) :
    Calls Tryz.prog 150 #[pW WB] w fun e w' => e = .returned (.tuple #[]) ∧ WrU w' WB QM LM base buf bs ∧ FrV WB WB buf buf w w' ∧ w'.heap.size = w.heap.size := by
  obtain ⟨p, hp, hb⟩ := H.blk
  obtain ⟨c0, c1, c2, c3, hsh, hfz⟩ := four_at hb
  rcases hp with rfl | rfl
  · refine (copyCheck_fresh WB w c2 hsh (hfz 2)).mono ?_
    rintro e w' ⟨rfl, rfl⟩
    refine ⟨rfl, ⟨?_, ?_⟩, ⟨(Only.refl _ _).set (Or.inl rfl) _, fun _ _ h => h⟩, by simp [World.setCell]⟩
    · simp [World.setCell, Array.getElem?_modify, hb]
    · refine ownsRow_setCell_other H.own (fun e => ?_) _
      obtain ⟨_, _, _, hk⟩ := owns_form H.own
      have := (hk _ e).1
      simp only at *
      omega
  · refine (copyCheck_used WB w c2).mono ?_
    rintro e w' ⟨rfl, rfl⟩
    exact ⟨rfl, ⟨hb, H.own⟩, FrV.refl _ _ _ _, rfl⟩

theorem ownsRow_mono {w : World} {b b' e s n : Nat} {v : Value} {xs : List Value} (h : w.ownsRow b' e s v n xs) (hb : b ≤ b') : w.ownsRow b e s v n xs := by
  refine ⟨h.1, ?_⟩
  rcases h.2 with h2 | ⟨g, cap, cur, hv, hg, r⟩
  · exact Or.inl h2
  · exact Or.inr ⟨g, cap, cur, hv, Nat.le_trans hb hg, r⟩

theorem append_str_lies (w : World) (base : Nat) (t u ty e : TypeId) (i : TypeInfo) (ht : Tryz.prog.underlying t = some (.slice e)) (hu : Tryz.prog.underlying u = some .string) (hi : Tryz.prog.info? e = some i) (hz : i.zero = some (.int .u8 0))
    (hsize : i.size = 1) (hby : i.bytes = 1) (v : Value) (n : Nat) (xs : List Value) (hown : w.ownsRow base e 1 v n xs) (s : ByteArray) (hbytes : n + s.size ≤ 140737488355328) (hbase : base ≤ w.heap.size) :
    ∃ v' w', (Builtin.append_ #[t, u] ty #[v, .string s]).run Tryz.prog w = .ok v' w' ∧ w'.ownsRow base e 1 v' (n + s.size) (xs ++ Lib.strCells s) ∧ w.grownBy w' v.ownBlock ∧ (∀ k, v'.ownBlock = some k → v.ownBlock = some k ∨ w.heap.size ≤ k) := by
  have h63 : n + s.size ≤ maxLen := by unfold maxLen; omega
  rcases hown.2 with ⟨rfl, rfl⟩ | ⟨g, cap, cur, rfl, hbg, hg, hnc, hcm, hcs, htake⟩
  · have hown' : w.ownsRow w.heap.size e 1 (.slice none 0 0) 0 xs := ⟨hown.1, Or.inl ⟨rfl, rfl⟩⟩
    obtain ⟨v', w', hr, h1, h2, _⟩ := Lib.run_append_own_string (P := Tryz.prog) w w.heap.size t u ty e i ht hu hi hz hsize hby _ 0 xs hown' s h63 hbytes (Nat.le_refl _)
    refine ⟨v', w', hr, ownsRow_mono h1 hbase, h2, fun k hk => Or.inr ?_⟩
    obtain ⟨_, _, _, h⟩ := owns_form h1
    exact (h k hk).1
  · obtain ⟨v', w', hr, h1, h2, _⟩ := Lib.run_append_own_string (P := Tryz.prog) w base t u ty e i ht hu hi hz hsize hby _ n xs hown s h63 hbytes hbase
    refine ⟨v', w', hr, h1, h2, fun k hk => ?_⟩
    have hxl : xs.length = n := by simpa using hown.1
    by_cases hroom : n + s.size ≤ cap
    · have hr' := Lib.run_append_room_string (P := Tryz.prog) w t u ty e i ht hu hi hsize g n cap cur hg s hroom (by omega)
      rw [hr] at hr'
      simp only [Result.ok.injEq] at hr'
      rw [hr'.1] at hk
      exact Or.inl hk
    · have holds : ∀ j u, xs[j]? = some u → w.cell? ((⟨g, 0, none⟩ : Addr).add j) = some u := hown.cells (g := g) rfl
      have hr' := Lib.run_append_grow_string (P := Tryz.prog) w t u ty e i (.int .u8 0) ht hu hi hz ⟨g, 0, none⟩ n cap xs (by rw [hsize]; simpa using hxl) holds s (by omega) (by omega) (by rw [hby]; exact growslice_fits (by omega) (by omega))
      rw [hr] at hr'
      simp only [Result.ok.injEq] at hr'
      rw [hr'.1] at hk
      simp only [Value.ownBlock, Option.some.injEq] at hk
      exact Or.inr (by omega)

theorem wpList_append_str {w : World} {ops : Array Oper} {rest : List Oper} {o : Oper} {a : Act} {Q : Exit → Act → World → Prop} (hgd : o.guard = none) (sl x : Operand) (t u : TypeId)
    (ho : o.op = .call { callee := .builtin .append, args := #[sl, x], argTypes := #[t, u] })
    (base : Nat) (e : TypeId) (i : TypeInfo) (ht : Tryz.prog.underlying t = some (.slice e)) (hu : Tryz.prog.underlying u = some .string) (hi : Tryz.prog.info? e = some i) (hz : i.zero = some (.int .u8 0))
    (hsize : i.size = 1) (hby : i.bytes = 1)
    (v : Value) (n : Nat) (xs : List Value) (hs : a.eval sl = v) (hown : w.ownsRow base e 1 v n xs) (s : ByteArray) (hx : a.eval x = .string s)
    (hbytes : n + s.size ≤ 140737488355328) (hbase : base ≤ w.heap.size)
    (h : ∀ v' w', w'.ownsRow base e 1 v' (n + s.size) (xs ++ Lib.strCells s) → w.grownBy w' v.ownBlock → (∀ k, v'.ownBlock = some k → v.ownBlock = some k ∨ w.heap.size ≤ k) → wpList Tryz.prog ops Q rest (a.put o.dst v') w') : wpList Tryz.prog ops Q (o :: rest) a w := by
  refine wpList_plain hgd fun K hK => ?_
  obtain ⟨v', w', hr, h2, h3, h4⟩ := append_str_lies w base t u o.type e i ht hu hi hz hsize hby v n xs hown s hbytes hbase
  unfold Oper.wp execOp
  simp only [ho, resolve, invoke, builtin, Sem.run_bind, Sem.run_pure, Result.andThen_ok, List.map_toArray, List.map_cons, List.map_nil, hs, hx, hr]
  exact hK _ _ (h v' w' h2 h3 h4)

theorem WrU.put {w w3 : World} {WB QM LM base : Nat} {buf buf' : Value} {bs bs' : List UInt8} (h : WrU w WB QM LM base buf bs) (hB : WB < base) (hgrow : w.grownBy w3 buf.ownBlock)
    (hown : w3.ownsRow base 5 1 buf' bs'.length (Lib.byteCells bs')) (hat : ∀ k, buf'.ownBlock = some k → buf.ownBlock = some k ∨ w.heap.size ≤ k) :
    (w3.cell? ⟨WB, 3, none⟩ = some buf ∧ ∀ j, w3.frozen? ⟨WB, j, none⟩ = false) ∧ WrU (w3.setCell ⟨WB, 3, none⟩ buf') WB QM LM base buf' bs' ∧ FrV WB WB buf buf' w (w3.setCell ⟨WB, 3, none⟩ buf') := by
  obtain ⟨_, _, _, hk⟩ := owns_form h.own
  have n1 : buf.ownBlock ≠ some WB := fun e => by have := (hk _ e).1; omega
  have hblk := (hgrow.block WB (blk_lt h.blk) (fun e => n1 e.symm)).trans h.blk
  have hc := four_at hblk
  have ho : Only (fun k => k = WB ∨ k = WB ∨ buf.ownBlock = some k) w w3 := ⟨hgrow.os, hgrow.tape, hgrow.output, hgrow.size, fun k hk hp => hgrow.block k hk (fun e => hp (Or.inr (Or.inr e.symm)))⟩
  refine ⟨⟨hc.2.2.2.1, hc.2.2.2.2.2⟩, ⟨?_, ?_⟩, ⟨ho.set (Or.inl rfl) _, fun k hk' e => ?_⟩⟩
  · simp [World.setCell, Array.getElem?_modify, hblk]
  · refine ownsRow_setCell_other (a := ⟨WB, 3, none⟩) hown (fun e => ?_) _
    obtain ⟨_, _, _, hk2⟩ := owns_form hown
    have := (hk2 _ e).1
    simp only at *
    omega
  · rcases hat k e with h' | h'
    · exact h'
    · omega
theorem WrU.toS {w : World} {WB QM LM base : Nat} {buf : Value} {bs : List UInt8} (h : WrU w WB QM LM base buf bs) : WrS w WB QM LM base buf bs := ⟨⟨_, Or.inr rfl, h.blk⟩, h.own⟩

theorem str_len (s : ByteArray) : s.data.toList.length = s.size := by rw [Array.length_toList]; rfl

set_option maxHeartbeats 2000000 in
set_option maxRecDepth 100000 in
theorem writeString_any (WB QM LM base : Nat) (buf : Value) (bs : List UInt8) (s : ByteArray) (w : World) (hB : WB < base) (hbw : base ≤ w.heap.size) (hlen : bs.length + s.size ≤ 140737488355328) (H : Hid (WrS w WB QM LM base buf bs)) :
    Calls Tryz.prog 124 #[pW WB, .string s] w fun e w' => e = .returned (.tuple #[.int .i64 s.size, .nilIface]) ∧ ∃ buf', WrS w' WB QM LM base buf' (bs ++ s.data.toList) ∧ FrV WB WB buf buf' w w' := by
  obtain ⟨i0, hi, hz0, hz1, hz2⟩ := info_parts Tryz.infoU8
  go_enter Tryz.func124, Tryz.ntmps124
  go_wp2_with (go_at_call 150; refine (copyCheck_any WB QM LM base buf bs w hB H.out).mono ?_)
  rintro e w1 ⟨rfl, hU, hF, hs1⟩
  have HU : Hid (WrU w1 WB QM LM base buf bs) := hU
  have HF : Hid (FrV WB WB buf buf w w1) := hF
  have HS : Hid (w1.heap.size = w.heap.size) := hs1
  obtain ⟨c0, c1, c2, c3, _, _⟩ := four_at hU.blk
  clear hU hF hs1
  go_wp2_with (at_builtin; refine wpList_append_str (by rfl) _ _ 22 9 (by rfl) base 5 i0 Tryz.underlying22 Tryz.underlying9 hi hz0 hz1 hz2 buf bs.length (Lib.byteCells bs) (by rfl) HU.out.own s (by rfl) hlen (by rw [HS.out]; exact hbw) ?_)
  intro buf' w2 hown hgrow hat
  obtain ⟨ao, cap, rfl, _⟩ := owns_form hown
  have hown' : w2.ownsRow base 5 1 (.slice ao (bs.length + s.size) cap) (bs ++ s.data.toList).length (Lib.byteCells (bs ++ s.data.toList)) := by
    rw [List.length_append, str_len, show Lib.byteCells (bs ++ s.data.toList) = Lib.byteCells bs ++ Lib.strCells s by simp [Lib.byteCells, Lib.strCells]]
    exact hown
  obtain ⟨⟨d3, dz⟩, hU2, hF2⟩ := HU.out.put hB hgrow hown' hat
  have HU2 : Hid _ := hU2
  have HF2 : Hid _ := HF.out.trans hF2
  have f3 := dz 3
  clear c0 c1 c2 c3 hU2 hF2 hown hown' hgrow hat dz
  go_wp2
  go_ret2
  exact ⟨rfl, _, HU2.out.toS, HF2.out⟩

end Go.Proofs.YtgflalfiopnmnaaGreatDoor

namespace Go.Proofs.YtgflalfiopnmnaaGreatDoor
open Go.RowKit Vl

theorem byteCells_one (bs : List UInt8) (b : UInt8) : Lib.byteCells (bs ++ [b]) = Lib.byteCells bs ++ [.int .u8 b.toNat] := by simp [Lib.byteCells]
theorem byteCells_app (bs cs : List UInt8) : Lib.byteCells (bs ++ cs) = Lib.byteCells bs ++ Lib.byteCells cs := by simp [Lib.byteCells]
theorem byteCells_len (bs : List UInt8) : (Lib.byteCells bs).length = bs.length := by simp [Lib.byteCells]

set_option maxHeartbeats 2000000 in
set_option maxRecDepth 100000 in
theorem writeByte_any (WB QM LM base : Nat) (buf : Value) (bs : List UInt8) (b : UInt8) (bi : Int) (hbi : bi = (b.toNat : Int)) (w : World) (hB : WB < base) (hbw : base ≤ w.heap.size) (hlen : bs.length + 1 ≤ 140737488355328) (H : Hid (WrS w WB QM LM base buf bs)) :
    Calls Tryz.prog 130 #[pW WB, .int .u8 bi] w fun e w' => e = .returned .nilIface ∧ ∃ buf', WrS w' WB QM LM base buf' (bs ++ [b]) ∧ FrV WB WB buf buf' w w' := by
  obtain ⟨i0, hi, hz0, hz1, hz2⟩ := info_parts Tryz.infoU8
  have HB : Hid (bi = (b.toNat : Int)) := hbi
  clear hbi
  go_enter Tryz.func130, Tryz.ntmps130
  go_wp2_with (go_at_call 150; refine (copyCheck_any WB QM LM base buf bs w hB H.out).mono ?_)
  rintro e w1 ⟨rfl, hU, hF, hs1⟩
  have HU : Hid (WrU w1 WB QM LM base buf bs) := hU
  have HF : Hid (FrV WB WB buf buf w w1) := hF
  have HS : Hid (w1.heap.size = w.heap.size) := hs1
  obtain ⟨c0, c1, c2, c3, _, _⟩ := four_at hU.blk
  clear hU hF hs1
  go_wp2_with (at_builtin; refine wpList_append_lies _ (by rfl) _ _ 22 (by rfl) base 5 i0 (.int .u8 0) 1 1 Tryz.underlying22 hi hz0 hz1 hz2 (by rfl) (by omega) buf bs.length (Lib.byteCells bs) (by rfl) (HU.out.own.alloc _) ⟨w1.heap.size, 0, none⟩ 1 1 [.int .u8 bi] (by rfl) (by rfl) ?c1 ?c2 (by omega) ?c3 ?c4 ?c5 (w1.heap.size + 1) ?c6 ?_)
  case c1 => exact World.news_of_block (heap_alloc_new w1 _)
  case c2 => intro u hu; simp at hu; subst hu; rfl
  case c3 => unfold maxLen; omega
  case c4 => omega
  case c5 => have := HS.out; simp; omega
  case c6 => simp
  intro g cap w2 hown hgrow hat _
  have hown' : w2.ownsRow base 5 1 (.slice (some ⟨g, 0, none⟩) (bs.length + 1) cap) (bs ++ [b]).length (Lib.byteCells (bs ++ [b])) := by
    rw [byteCells_one, List.length_append, ← HB.out]
    exact hown
  have hba : Below w1.heap.size w1 (w1.alloc (.cells #[.int .u8 bi] 5)) := (Below.refl _ _).alloc (Nat.le_refl _) _
  have hUa : WrU (w1.alloc (.cells #[.int .u8 bi] 5)) WB QM LM base buf bs := ⟨blkB HU.out.blk hba, HU.out.own.alloc _⟩
  obtain ⟨⟨d3, dz⟩, hU2, hF2⟩ := hUa.put hB hgrow hown' (fun k hk => by
    simp only [Value.ownBlock, Option.some.injEq] at hk
    rcases hat with h | h
    · exact Or.inl (by rw [h, hk])
    · right; simp; omega)
  have HU2 : Hid _ := hU2
  have HF2 : Hid _ := (HF.out.below hba).trans hF2
  have f3 := dz 3
  clear c0 c1 c2 c3 hU2 hF2 hown hown' hgrow hat dz hba hUa
  go_wp2
  go_ret
  exact ⟨rfl, _, HU2.out.toS, HF2.out⟩

set_option maxHeartbeats 2000000 in
set_option maxRecDepth 100000 in
theorem write_any (WB QM LM base : Nat) (buf : Value) (bs cs : List UInt8) (PB m c : Nat) (w : World) (hB : WB < base) (hbw : base ≤ w.heap.size) (hm : cs.length = m) (hm0 : 0 < m) (hlen : bs.length + m ≤ 140737488355328)
    (HP : Hid (w.heap[PB]? = some (.cells (Lib.byteCells cs).toArray 5 (0, 0)))) (hPne : PB ≠ WB) (HPo : Hid (buf.ownBlock ≠ some PB)) (H : Hid (WrS w WB QM LM base buf bs)) :
    Calls Tryz.prog 128 #[pW WB, .slice (some ⟨PB, 0, none⟩) m c] w fun e w' => e = .returned (.tuple #[.int .i64 m, .nilIface]) ∧ ∃ buf', WrS w' WB QM LM base buf' (bs ++ cs) ∧ FrV WB WB buf buf' w w' := by
  obtain ⟨i0, hi, hz0, hz1, hz2⟩ := info_parts Tryz.infoU8
  have HM : Hid (cs.length = m) := hm
  clear hm
  go_enter Tryz.func128, Tryz.ntmps128
  go_wp2_with (go_at_call 150; refine (copyCheck_any WB QM LM base buf bs w hB H.out).mono ?_)
  rintro e w1 ⟨rfl, hU, hF, hs1⟩
  have HU : Hid (WrU w1 WB QM LM base buf bs) := hU
  have HF : Hid (FrV WB WB buf buf w w1) := hF
  have HS : Hid (w1.heap.size = w.heap.size) := hs1
  have HP1 : Hid (w1.heap[PB]? = some (.cells (Lib.byteCells cs).toArray 5 (0, 0))) := hF.blk HP.out hPne hPne HPo.out
  obtain ⟨c0, c1, c2, c3, _, _⟩ := four_at hU.blk
  clear hU hF hs1
  go_wp2_with (at_builtin; refine wpList_append_lies _ (by rfl) _ _ 22 (by rfl) base 5 i0 (.int .u8 0) 1 1 Tryz.underlying22 hi hz0 hz1 hz2 (by rfl) (by omega) buf bs.length (Lib.byteCells bs) (by rfl) HU.out.own ⟨PB, 0, none⟩ m c (Lib.byteCells cs) (by rfl) (by rw [byteCells_len, HM.out, Nat.mul_one]) ?c1 ?c2 hm0 ?c3 ?c4 ?c5 w1.heap.size ?c6 ?_)
  case c1 => exact World.news_of_block HP1.out
  case c2 => intro u hu; simp [Lib.byteCells] at hu; obtain ⟨x, _, rfl⟩ := hu; rfl
  case c3 => unfold maxLen; omega
  case c4 => omega
  case c5 => have := HS.out; omega
  case c6 => rfl
  intro g cap w2 hown hgrow hat _
  have hown' : w2.ownsRow base 5 1 (.slice (some ⟨g, 0, none⟩) (bs.length + m) cap) (bs ++ cs).length (Lib.byteCells (bs ++ cs)) := by
    rw [byteCells_app, List.length_append, HM.out]
    exact hown
  obtain ⟨⟨d3, dz⟩, hU2, hF2⟩ := HU.out.put hB hgrow hown' (fun k hk => by
    simp only [Value.ownBlock, Option.some.injEq] at hk
    rcases hat with h | h
    · exact Or.inl (by rw [h, hk])
    · right; omega)
  have HU2 : Hid _ := hU2
  have HF2 : Hid _ := HF.out.trans hF2
  have f3 := dz 3
  clear c0 c1 c2 c3 hU2 hF2 hown hown' hgrow hat dz
  go_wp2
  go_ret2
  exact ⟨rfl, _, HU2.out.toS, HF2.out⟩

set_option maxRecDepth 100000 in
theorem tooLong_any (WB QM LM base : Nat) (buf : Value) (bs : List UInt8) (w : World) (H : Hid (WrS w WB QM LM base buf bs)) :
    Calls Tryz.prog 27 #[.pointer (some ⟨WB, 0, none⟩)] w fun e w' => e = .returned (.bool (decide (20000 < bs.length))) ∧ w' = w := by
  obtain ⟨p, hp, hb⟩ := H.out.blk
  obtain ⟨c0, c1, c2, c3, _, _⟩ := four_at hb
  obtain ⟨ao, cap, rfl, _⟩ := owns_form H.out.own
  clear hb hp
  go_enter Tryz.func27, Tryz.ntmps27
  go_wp2
  go_ret
  refine ⟨?_, rfl⟩
  congr 2
  by_cases h : 20000 < bs.length
  · simp [h]; omega
  · simp [h]; omega

end Go.Proofs.YtgflalfiopnmnaaGreatDoor

namespace Go.Proofs.YtgflalfiopnmnaaGreatDoor
open Go.RowKit Vl

def catS (l : List ByteArray) : List UInt8 := l.flatMap fun s => s.data.toList
theorem catS_snoc (l : List ByteArray) (s : ByteArray) : catS (l ++ [s]) = catS l ++ s.data.toList := by simp [catS]
theorem catS_le : ∀ (l : List ByteArray) (c : Nat), (catS (l.take c)).length ≤ (catS l).length
  | [], c => by simp
  | s :: l, 0 => by simp [catS]
  | s :: l, c + 1 => by
    have := catS_le l c
    simp only [catS, List.take_succ_cons, List.flatMap_cons, List.length_append] at this ⊢
    omega

def Pcs (w : World) (PB : Nat) (l : List ByteArray) : Prop := w.heap[PB]? = some (.cells (l.map Value.string).toArray 9 (0, 0))
theorem Pcs.cell {w : World} {PB : Nat} {l : List ByteArray} (h : Pcs w PB l) {c : Nat} {s : ByteArray} (hc : l[c]? = some s) : w.cell? ⟨PB, c, none⟩ = some (.string s) := by
  unfold Pcs at h
  simp [World.cell?, h, hc]
theorem Pcs.ne {w : World} {PB base : Nat} {l : List ByteArray} (h : Pcs w PB l) {buf : Value} {n : Nat} {xs : List Value} (ho : w.ownsRow base 5 1 buf n xs) : buf.ownBlock ≠ some PB := fun e => by
  obtain ⟨_, cur, hh⟩ := owns_type ho e
  unfold Pcs at h
  rw [h] at hh
  simp at hh

set_option maxHeartbeats 1000000 in
set_option maxRecDepth 100000 in
theorem wput_any (WB QM LM base : Nat) (buf : Value) (bs : List UInt8) (l : List ByteArray) (PB m c : Nat) (w : World) (hm : l.length = m) (hB : WB < base) (hbw : base ≤ w.heap.size) (hlen : bs.length + (catS l).length ≤ 140737488355328) (hm1 : m ≤ 1000)
    (HP : Hid (Pcs w PB l)) (hP1 : PB ≠ WB) (H : Hid (WrS w WB QM LM base buf bs)) :
    Calls Tryz.prog 91 #[.pointer (some ⟨WB, 0, none⟩), .slice (some ⟨PB, 0, none⟩) m c] w fun e w' => e = .returned (.tuple #[]) ∧ ∃ buf', WrS w' WB QM LM base buf' (bs ++ catS l) ∧ FrV WB WB buf buf' w w' := by
  have HM : Hid (l.length = m) := hm
  have HLEN : Hid (bs.length + (catS l).length ≤ 140737488355328) := hlen
  clear hm hlen
  go_enter Tryz.func91, Tryz.ntmps91
  go_wp2
  go_loopw [8] (fun ii wr => ∃ (q : Nat) (b' : Value), q ≤ m ∧ ii = .int .i64 q ∧ Hid (WrS wr WB QM LM base b' (bs ++ catS (l.take q))) ∧ Hid (FrV WB WB buf b' w wr)) (fun ii _ => m - (intOf ii).toNat)
  case atStart => exact ⟨0, buf, Nat.zero_le _, rfl, by simpa [catS] using H, FrV.refl _ _ _ _⟩
  case round =>
    obtain ⟨q, b', hq, rfl, HW, HF⟩ := hrel
    by_cases hlt : q < m
    · obtain ⟨s, hs⟩ : ∃ s, l[q]? = some s := ⟨l[q]'(by rw [HM.out]; exact hlt), List.getElem?_eq_getElem _⟩
      have HPr : Hid (Pcs wr PB l) := HF.out.blk HP.out hP1 hP1 (HP.out.ne H.out.own)
      have hc := HPr.out.cell hs
      have HT : Hid (l.take (q + 1) = l.take q ++ [s]) := by show _ = _; rw [List.take_add_one, hs]; rfl
      have HL1 : Hid ((bs ++ catS (l.take q)).length + s.size ≤ 140737488355328) := by
        have h1 := catS_le l (q + 1)
        have h2 := HLEN.out
        rw [HT.out, catS_snoc, List.length_append, str_len] at h1
        show _ ≤ _
        rw [List.length_append]
        omega
      have hsz : base ≤ wr.heap.size := Nat.le_trans hbw HF.out.only.size
      go_wp2_with (go_at_call 124; refine (writeString_any WB QM LM base b' (bs ++ catS (l.take q)) s wr hB hsz HL1.out HW).mono ?_)
      rintro e w2 ⟨rfl, b2, hW2, hF2⟩
      have HW2 : Hid _ := hW2
      have HF2 : Hid _ := HF.out.trans hF2
      clear hW2 hF2 hc hs
      go_wp2
      go_roundw
      case rel => exact ⟨q + 1, b2, by omega, by go_num, by rw [HT.out, catS_snoc, ← List.append_assoc]; exact HW2, HF2⟩
      case measure => simp [intOf]; omega
    · obtain rfl : q = m := by omega
      go_wp2
      go_end0
      refine ⟨rfl, b', ?_, HF.out⟩
      have h := HW.out
      rw [List.take_of_length_le (by rw [HM.out]; exact Nat.le_refl _)] at h
      exact h

end Go.Proofs.YtgflalfiopnmnaaGreatDoor

namespace Go.Proofs.YtgflalfiopnmnaaGreatDoor
open Go.RowKit Vl

theorem pcs_new (w : World) (s : ByteArray) : Pcs (w.alloc (.cells #[.string s] 9)) w.heap.size [s] := by
  unfold Pcs
  exact heap_alloc_new w _
theorem below_alloc (w : World) (o : Obj) : Below w.heap.size w (w.alloc o) := (Below.refl _ _).alloc (Nat.le_refl _) _

set_option maxRecDepth 100000 in
theorem mustEscape_any (b : Nat) (w : World) : Calls Tryz.prog 129 #[.int .u8 (b : Int)] w fun e w' => e = .returned (.bool (decide (b < 32 ∨ 126 < b))) ∧ w' = w := by
  by_cases h1 : b < 32
  · have g1 : ((b : Int) < 32) := by omega
    have hR : Hid (decide (b < 32 ∨ 126 < b) = true) := show _ = _ by simp [h1]
    rw [hR.out]
    clear h1
    go_enter Tryz.func129, Tryz.ntmps129
    go_wp2
    go_ret
    exact ⟨by first | rfl | simp, rfl⟩
  · have g1 : ¬ ((b : Int) < 32) := by omega
    by_cases h2 : 126 < b
    · have g2 : ((126 : Int) < (b : Int)) := by omega
      have hR : Hid (decide (b < 32 ∨ 126 < b) = true) := show _ = _ by simp [h2]
      rw [hR.out]
      clear h1 h2
      go_enter Tryz.func129, Tryz.ntmps129
      go_wp2
      go_ret
      exact ⟨by first | rfl | simp, rfl⟩
    · have g2 : ¬ ((126 : Int) < (b : Int)) := by omega
      have hR : Hid (decide (b < 32 ∨ 126 < b) = false) := show _ = _ by simp [h1, h2]
      rw [hR.out]
      clear h1 h2
      go_enter Tryz.func129, Tryz.ntmps129
      go_wp2
      go_ret
      exact ⟨by first | rfl | simp, rfl⟩

abbrev hexS : ByteArray := ⟨#[48, 49, 50, 51, 52, 53, 54, 55, 56, 57, 97, 98, 99, 100, 101, 102]⟩
theorem lt16 {P : Nat → Prop} (h : ∀ d, d ∈ [0, 1, 2, 3, 4, 5, 6, 7, 8, 9, 10, 11, 12, 13, 14, 15] → P d) {d : Nat} (hd : d < 16) : P d := by
  refine h d ?_
  have : d = 0 ∨ d = 1 ∨ d = 2 ∨ d = 3 ∨ d = 4 ∨ d = 5 ∨ d = 6 ∨ d = 7 ∨ d = 8 ∨ d = 9 ∨ d = 10 ∨ d = 11 ∨ d = 12 ∨ d = 13 ∨ d = 14 ∨ d = 15 := by omega
  rcases this with rfl | rfl | rfl | rfl | rfl | rfl | rfl | rfl | rfl | rfl | rfl | rfl | rfl | rfl | rfl | rfl <;> simp
theorem hex_run {d : Nat} (hd : d < 16) (w : World) : (Instr.index 9 (.string hexS) (.int .u8 (d : Int))).run Tryz.prog w = .ok (.int .u8 ((hexB d).toNat : Int)) w := by
  refine lt16 (P := fun d => (Instr.index 9 (.string hexS) (.int .u8 (d : Int))).run Tryz.prog w = .ok (.int .u8 ((hexB d).toNat : Int)) w) (fun d hd => ?_) hd
  simp only [List.mem_cons, List.not_mem_nil, or_false] at hd
  rcases hd with rfl | rfl | rfl | rfl | rfl | rfl | rfl | rfl | rfl | rfl | rfl | rfl | rfl | rfl | rfl | rfl <;> kernel_rfl
theorem wrapU8 {n : Int} (h0 : 0 ≤ n) (h1 : n < 256) : IntKind.u8.wrap n = n := by
  unfold IntKind.wrap
  simp [IntKind.bits, IntKind.signed]
  omega
end Go.Proofs.YtgflalfiopnmnaaGreatDoor
