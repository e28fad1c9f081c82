import Derived.Test.YtgflalfiopnmnaaP16
import Derived.Test.YtgflalfiopnmnaaP12
import Derived.Test.YtgflalfiopnmnaaP10
import Derived.Test.YtgflalfiopnmnaaP4
import Derived.Test.YtgflalfiopnmnaaP8
import Derived.Test.YtgflalfiopnmnaaP11
namespace Go.Proofs.Ytgflalfiopnmnaa
open Go.RowKit Vl

set_option maxHeartbeats 1000000 in
set_option maxRecDepth 100000 in
/-- 'spec.Spoilt'. -/
theorem spoilt_any (u : V) (ta : Option Addr) (n tc base : Nat) (PV : Nat → Value) (L : Nat → Nat) (K X : Nat → Nat → V) (ca : Option Addr) (cl cc cb co : Nat) (w : World) (hn : n ≤ 200) (HF : Hid (FineG n u L K X)) (HO : Hid (OTab w base (.slice ta n tc) n PV L K X)) (hbw : base ≤ w.heap.size) (hB : ByteR w ca cl cb co) (hcb : 0 < cl → cb < base) (hcl : cl ≤ 1048576) :
    Calls Try.prog 17 #[.agg #[.int .i64 u.k, .int .i64 u.n, .string u.s, .int .i64 u.a, .slice ta n tc], .slice ca cl cc] w fun e w' => SpRes w' e base (.slice ta n tc) n ∧ Below base w w' ∧ ∀ b x v, OutB w b x v → OutB w' b x v := by
  have A3 := alloc3 w (.cells #[.int .i64 u.k, .int .i64 u.n, .string u.s, .int .i64 u.a, .slice ta n tc] 27) (.cells #[.int .i64 0, .int .i64 0, .string ⟨#[]⟩, .int .i64 0, .slice none 0 0] 27) (.cells #[.slice ca cl cc, .int .i64 0, .int .u64 0] 55)
  obtain ⟨wa, hwa⟩ : ∃ wa, wa = ((w.alloc (.cells #[.int .i64 u.k, .int .i64 u.n, .string u.s, .int .i64 u.a, .slice ta n tc] 27)).alloc (.cells #[.int .i64 0, .int .i64 0, .string ⟨#[]⟩, .int .i64 0, .slice none 0 0] 27)).alloc (.cells #[.slice ca cl cc, .int .i64 0, .int .u64 0] 55) := ⟨_, rfl⟩
  rw [← hwa] at A3
  have HGa : Hid (OutB wa w.heap.size u (.slice ta n tc)) := A3.1
  have HZa : Hid (OutB wa (w.heap.size + 1) zeroV (.slice none 0 0)) := A3.2.1
  have hsa : Hid (wa.heap.size = w.heap.size + 3) := A3.2.2.2.1
  have HBa : Hid (Below w.heap.size w wa) := A3.2.2.2.2
  obtain ⟨gb, hgb⟩ : ∃ gb, w.heap.size = gb := ⟨_, rfl⟩
  obtain ⟨rb, hrb⟩ : ∃ rb, gb + 1 = rb := ⟨_, rfl⟩
  obtain ⟨CB, hCB⟩ : ∃ CB, w.heap.size + 2 = CB := ⟨_, rfl⟩
  have HOa : Hid (OTab wa base (.slice ta n tc) n PV L K X) := HO.out.below HBa.out
  have hg := spoil_any wa CB ca cl cc cb co 0 u ta n tc base PV L K X hn HF HOa (by omega) (rd_start hB hcl A3.2.2.2.2 (by rw [← hCB]; exact A3.2.2.1) (by omega)) hcb (by omega)
  clear A3 hB
  go_enter Try.func17, Try.ntmps17
  go_upto_region 2 with fail
  rw [← hwa]
  rw [hgb] at HGa HZa
  rw [hrb] at HZa
  try rw [hCB]
  try rw [hgb]
  try rw [hrb]
  try rw [show gb + 1 + 1 = CB by omega]
  try rw [show rb + 1 = CB by omega]
  try rw [show gb + 2 = CB by omega]
  clear hwa
  obtain ⟨g0, g1, g2, g3, g4, _⟩ := cells5 HGa.out
  go_wp2_with fail
  refine hg.mono ?_
  clear hg
  rintro e w1 ⟨⟨u', PV', L', K', X', rfl, hT, hF⟩, hb1, hx1⟩
  have HT1 : Hid (OTab w1 base (.slice ta n tc) n PV' L' K' X') := hT
  have HF1 : Hid (FineG n u' L' K' X') := hF
  have HB1 : Hid (Below base w w1) := (HBa.out.mono hbw).trans hb1
  have HZ1 : Hid (OutB w1 rb zeroV (.slice none 0 0)) := hx1 _ _ _ HZa.out
  have HX1 : Hid (∀ b x v, OutB w b x v → OutB w1 b x v) := show ∀ b x v, _ from fun b x v hb => hx1 _ _ _ (blkB hb HBa.out)
  have hs1 : wa.heap.size ≤ w1.heap.size := hb1.size
  clear hT hF hb1 hx1 g0 g1 g2 g3 g4
  obtain ⟨r0, r1, r2, r3, r4, r5⟩ := cells5 HZ1.out
  simp only [zeroV] at r0 r1 r2 r3
  go_wp2
  have F := put5hi (put5lo HZ1.out (.int .i64 u'.k) (.int .i64 u'.n) (.string u'.s) (.int .i64 u'.a)) (.slice ta n tc)
  obtain ⟨wf, hwf⟩ : ∃ wf, wf = ((((w1.setCell ⟨rb, 0, none⟩ (.int .i64 u'.k)).setCell ⟨rb, 1, none⟩ (.int .i64 u'.n)).setCell ⟨rb, 2, none⟩ (.string u'.s)).setCell ⟨rb, 3, none⟩ (.int .i64 u'.a)).setCell ⟨rb, 4, none⟩ (.slice ta n tc) := ⟨_, rfl⟩
  have ho : Only (fun k => k = rb) w1 wf := by rw [hwf]; exact set4_only.set (p := ⟨rb, 4, none⟩) rfl _
  rw [← hwf] at F ⊢
  clear hwf
  obtain ⟨q0, q1, q2, q3, q4, _⟩ := cells5 F
  refine bodyPost_ret (v := .agg #[.int .i64 u'.k, .int .i64 u'.n, .string u'.s, .int .i64 u'.a, .slice ta n tc]) (by simp [results, Try.results17, go_sem, q0, q1, q2, q3, q4]) rfl ⟨⟨u', PV', L', K', X', rfl, HT1.out.apart HZ1.out (by decide) (by decide) ho, HF1.out⟩, ?_⟩
  exact ⟨HB1.out.trans (ho.toBelow (fun k e => by omega) (by have := hsa.out; omega)), fun b x v hb => (ho.block _ (blk_lt (HX1.out b x v hb)) (by have := blk_lt hb; omega)).trans (HX1.out b x v hb)⟩

end Go.Proofs.Ytgflalfiopnmnaa

namespace Go.Proofs.Ytgflalfiopnmnaa.Aw
open Vl

/-- Those of a sorted row, each once. -/
def dd (S : Nat → V) : Nat → List V
  | 0 => []
  | c + 1 => if (dd S c).getLast?.any (fun k => eqV k (S c)) = true then dd S c else dd S c ++ [S c]

theorem dd_succ (S : Nat → V) (c : Nat) : dd S (c + 1) = if (dd S c).getLast?.any (fun k => eqV k (S c)) = true then dd S c else dd S c ++ [S c] := rfl
theorem dd_last (S : Nat → V) : ∀ c, (dd S (c + 1)).getLast? = some (S c) := fun c => by
  rw [dd_succ]
  split
  · rename_i h
    cases e : (dd S c).getLast? with
    | none => rw [e] at h; cases h
    | some k => rw [e] at h; simp only [Option.any_some] at h; rw [eqV_iff.1 h]
  · simp
theorem dd_mem (S : Nat → V) : ∀ c x, x ∈ dd S c ↔ ∃ j, j < c ∧ S j = x
  | 0, x => by simp [dd]
  | c + 1, x => by
    have ih := dd_mem S c x
    have key : (∃ j, j < c + 1 ∧ S j = x) ↔ (∃ j, j < c ∧ S j = x) ∨ S c = x := by
      constructor
      · rintro ⟨j, hj, e⟩
        by_cases h : j = c
        · subst h; exact Or.inr e
        · exact Or.inl ⟨j, by omega, e⟩
      · rintro (⟨j, hj, e⟩ | e)
        · exact ⟨j, by omega, e⟩
        · exact ⟨c, by omega, e⟩
    rw [key, ← ih]
    rw [dd_succ]
    split
    · rename_i h
      cases e : (dd S c).getLast? with
      | none => rw [e] at h; cases h
      | some k =>
        rw [e] at h
        simp only [Option.any_some] at h
        have hk : S c ∈ dd S c := by rw [← eqV_iff.1 h]; exact List.mem_of_getLast? e
        constructor
        · exact Or.inl
        · rintro (h' | rfl)
          · exact h'
          · exact hk
    · simp only [List.mem_append, List.mem_singleton]
      constructor
      · rintro (h | rfl)
        · exact Or.inl h
        · exact Or.inr rfl
      · rintro (h | rfl)
        · exact Or.inl h
        · exact Or.inr rfl
theorem dd_len (S : Nat → V) : ∀ c, (dd S c).length ≤ c
  | 0 => by simp [dd]
  | c + 1 => by
    have := dd_len S c
    rw [dd_succ]
    split
    · omega
    · simp; omega
theorem dd_strict {S : Nat → V} : ∀ c, (∀ j, j < c → isK (S j) = true) → (∀ i j, i ≤ j → j < c → less (S j) (S i) = false) → Strict (dd S c)
  | 0, _, _ => by simp [dd, Strict]
  | c + 1, hk, hs => by
    have ih := dd_strict c (fun j hj => hk j (by omega)) (fun i j h1 h2 => hs i j h1 (by omega))
    rw [dd_succ]
    split
    · exact ih
    · rename_i hne
      refine List.pairwise_append.2 ⟨ih, by simp, fun x hx y hy => ?_⟩
      rw [List.mem_singleton] at hy
      subst hy
      obtain ⟨j, hj, rfl⟩ := (dd_mem S c x).1 hx
      cases c with
      | zero => omega
      | succ c =>
        rw [dd_last] at hne
        simp only [Option.any_some] at hne
        have h1 : less (S c) (S (c + 1)) = true := by
          cases e : less (S c) (S (c + 1)) with
          | true => rfl
          | false => exact absurd (eqV_iff.2 (key_one (hk c (by omega)) (hk (c + 1) (by omega)) e (hs c (c + 1) (by omega) (by omega)))) hne
        cases e : less (S j) (S (c + 1)) with
        | true => rfl
        | false =>
          have := le_trans e (hs j c (by omega) (by omega))
          rw [h1] at this
          cases this

theorem dd_kids {n m La Lb : Nat} {Ka Xa Kb Xb : Nat → V} {ls : List Nat} (h : OkT n La Ka Xa) (h' : OkT m Lb Kb Xb) (hs : SortI (jn La Ka Kb) (La + Lb) ls) : dd (byI (jn La Ka Kb) ls) (La + Lb) = kidsOf (keys Ka La ++ keys Kb Lb) := by
  have hkey : ∀ j, j < La + Lb → isK (jn La Ka Kb j) = true := fun j hj => by
    by_cases e : j < La
    · rw [jn_lt e]; exact (h.all j e).key
    · rw [jn_ge e]; exact (h'.all (j - La) (by omega)).key
  have hk : ∀ k ∈ keys Ka La ++ keys Kb Lb, isK k = true := fun k hk => by
    rcases List.mem_append.1 hk with hk | hk
    · obtain ⟨c, hc, rfl⟩ := mem_keys.1 hk; exact (h.all c hc).key
    · obtain ⟨c, hc, rfl⟩ := mem_keys.1 hk; exact (h'.all c hc).key
  refine strict_one (dd_strict _ (fun j hj => hkey _ (hs.lt hj)) (fun i j h1 h2 => ?_)) (kidsOf_strict _ hk) (fun x => ?_)
  · by_cases e : i = j
    · subst e; exact lt_irrefl _
    · have hsw := hs.sort
      unfold SortW at hsw
      rw [List.pairwise_iff_getElem] at hsw
      have hl := hs.len
      have h3 := hsw i j (by omega) (by omega) (by omega)
      have ga : ls.getD i 0 = ls[i] := by rw [List.getD_eq_getElem?_getD, List.getElem?_eq_getElem (by omega)]; rfl
      have gb : ls.getD j 0 = ls[j] := by rw [List.getD_eq_getElem?_getD, List.getElem?_eq_getElem (by omega)]; rfl
      rw [← ga, ← gb] at h3
      exact h3
  · rw [dd_mem, mem_kidsOf, List.mem_append, mem_keys, mem_keys]
    constructor
    · rintro ⟨j, hj, rfl⟩
      have := hs.lt hj
      by_cases e : ls.getD j 0 < La
      · exact Or.inl ⟨_, e, by unfold byI; rw [jn_lt e]⟩
      · exact Or.inr ⟨ls.getD j 0 - La, by omega, by unfold byI; rw [jn_ge e]⟩
    · rintro (⟨c, hc, rfl⟩ | ⟨c, hc, rfl⟩)
      · obtain ⟨q, hq, e⟩ := perm_at hs (c := c) (by omega)
        exact ⟨q, hq, by unfold byI; rw [e, jn_lt hc]⟩
      · obtain ⟨q, hq, e⟩ := perm_at hs (c := La + c) (by omega)
        exact ⟨q, hq, by unfold byI; rw [e, jn_add]⟩

end Go.Proofs.Ytgflalfiopnmnaa.Aw

namespace Go.Proofs.Ytgflalfiopnmnaa
open Go.RowKit Vl

theorem keyCells_snoc (ks : List V) (v : V) : keyCells (ks ++ [v]) = keyCells ks ++ [.int .i64 v.k, .int .i64 v.n, .string v.s, .int .i64 v.a] := by simp [keyCells]
/-- A row of values by their places. -/
def lsF (ps : List V) (j : Nat) : V := ps.getD j zeroV
theorem keys_lsF (ps : List V) : keys (lsF ps) ps.length = ps :=
  List.ext_getElem (by simp [keys]) (fun i h1 h2 => by simp [keys, lsF, List.getD_eq_getElem?_getD, List.getElem?_eq_getElem h2])
/-- A row of values in memory. -/
def RowV (w : World) (v : Value) (ps : List V) : Prop := ∃ pa cp B, v = .slice pa ps.length cp ∧ ValsAt w pa ps.length B 0 (lsF ps)
theorem RowV.below {w w' : World} {v : Value} {ps : List V} (h : RowV w v ps) (hb : Below w.heap.size w w') : RowV w' v ps := by
  obtain ⟨pa, cp, B, e, hv⟩ := h
  exact ⟨pa, cp, B, e, hv.below hb⟩
theorem owns_rowV {w : World} {base n : Nat} {v : Value} {ps : List V} (hn : ps.length = n) (h : w.ownsRow base 24 4 v n (keyCells ps)) : RowV w v ps := by
  subst hn
  have h2 : w.ownsRow base 24 4 v ps.length (keyCells (keys (lsF ps) ps.length)) := by rw [keys_lsF]; exact h
  obtain ⟨e, hv⟩ := owns_keys h2
  exact ⟨_, _, _, e, hv⟩

end Go.Proofs.Ytgflalfiopnmnaa

namespace Go.Proofs.Ytgflalfiopnmnaa
open Go.RowKit Vl

/-- Tables behind n others: the later ones are of the call's own making. -/
structure BTab (w : World) (base : Nat) (tv : Value) (n i : Nat) (PV : Nat → Value) (L : Nat → Nat) (K X : Nat → Nat → V) : Prop where
  own : w.ownsRow base 73 1 tv (n + i) ((List.range (n + i)).map PV)
  rows : ∀ j, j < i → w.ownsRow base 75 8 (PV (n + j)) (L j) (pairCells (K j) (X j) (L j))

theorem BTab.below {w w' : World} {base : Nat} {tv : Value} {n i : Nat} {PV : Nat → Value} {L : Nat → Nat} {K X : Nat → Nat → V} (h : BTab w base tv n i PV L K X) (hb : Below w.heap.size w w') : BTab w' base tv n i PV L K X :=
  ⟨(Only.below (P := fun _ => False) hb).owns h.own (fun _ _ _ h => h), fun j hj => (Only.below (P := fun _ => False) hb).owns (h.rows j hj) (fun _ _ _ h => h)⟩

/-- One table more. -/
theorem BTab.more {w w1 : World} {base : Nat} {tv tv' pv : Value} {n i : Nat} {PV : Nat → Value} {L : Nat → Nat} {K X : Nat → Nat → V} (h : BTab w base tv n i PV L K X) (hp : w.ownsRow base 75 8 pv (L i) (pairCells (K i) (X i) (L i))) (o : Obj) (hbz : base ≤ w.heap.size)
    (ho : w1.ownsRow base 73 1 tv' (n + i + 1) (((List.range (n + i)).map PV) ++ [pv])) (hg : (w.alloc o).grownBy w1 tv.ownBlock) :
    BTab w1 base tv' n (i + 1) (fun j => if j = n + i then pv else PV j) L K X ∧ Below base w w1 := by
  have keep : ∀ v n xs, w.ownsRow base 75 8 v n xs → w1.ownsRow base 75 8 v n xs := fun v n xs hr => by
    refine ⟨hr.1, ?_⟩
    rcases hr.2 with h2 | ⟨g, cap, cur, hv, hge, hh, r⟩
    · exact Or.inl h2
    · refine Or.inr ⟨g, cap, cur, hv, hge, ?_, r⟩
      rw [hg.block g (by have := lt_of_block hh; simp; omega) (fun e => ?_), Below.heap_alloc _ _ _ (lt_of_block hh)]
      · exact hh
      · obtain ⟨_, cur', h'⟩ := owns_type h.own e.symm
        rw [hh] at h'
        cases h'
  refine ⟨⟨?_, fun j hj => ?_⟩, ?_⟩
  · have e : ((List.range (n + i + 1)).map fun j => if j = n + i then pv else PV j) = ((List.range (n + i)).map PV) ++ [pv] := by
      rw [List.range_succ, List.map_append]
      congr 1
      · apply List.map_congr_left
        intro j hj
        have := List.mem_range.1 hj
        simp [show ¬ j = n + i by omega]
      · simp
    show w1.ownsRow base _ 1 tv' (n + i + 1) ((List.range (n + i + 1)).map _)
    rw [e]; exact ho
  · by_cases e : j = i
    · subst e; simp only [if_true]; exact keep _ _ _ hp
    · simp only [show ¬ n + j = n + i by omega, if_false]; exact keep _ _ _ (h.rows j (by omega))
  · refine ⟨hg.os, hg.tape, hg.output, by have := hg.size; simp at this; omega, fun k hk => ?_⟩
    rw [hg.block k (by simp; omega) (fun e => ?_), Below.heap_alloc _ _ _ (by omega)]
    have := (owns_type h.own e.symm).1
    omega

/-- What was made, as it is read. -/
theorem BTab.tabs {w : World} {base : Nat} {tv : Value} {ta : Option Addr} {n i TB TO : Nat} {PV : Nat → Value} {A : Nat → Option Addr} {L L' C RB RO : Nat → Nat} {K X K' X' : Nat → Nat → V} (h : BTab w base tv n i PV L' K' X') (hT : TabsAt w ta n TB TO A L C RB RO K X) (hP : ∀ j, j < n → PV j = .slice (A j) (L j) (C j)) :
    tv = .slice (slA tv) (n + i) (slC tv) ∧ TabsAt w (slA tv) (n + i) (slB tv) 0 (fun j => slA (PV j)) (jn n L L') (fun j => slC (PV j)) (jn n RB (fun j => slB (PV (n + j)))) (jn n RO (fun _ => 0)) (jn n K K') (jn n X X') := by
  have hrow : ∀ r, r < n + i → PV r = .slice (slA (PV r)) (jn n L L' r) (slC (PV r)) ∧ PairsAt w (slA (PV r)) (jn n L L' r) (jn n RB (fun j => slB (PV (n + j))) r) (jn n RO (fun _ => 0) r) (jn n K K' r) (jn n X X' r) := fun r hr => by
    by_cases e : r < n
    · simp only [jn_lt e]
      rw [hP r e]
      exact ⟨rfl, hT.row r e⟩
    · simp only [jn_ge e]
      have := owns_pairs (h.rows (r - n) (by omega))
      rw [show n + (r - n) = r by omega] at this ⊢
      exact this
  refine ⟨by obtain ⟨oa, oc, rfl, _⟩ := owns_form h.own; rfl, fun h0 => ?_, fun r hr => ?_, fun r hr => (hrow r hr).2⟩
  · obtain ⟨g, cap, rfl, _⟩ := owns_cell h.own (k := 0) (y := PV 0) (by simp [h0])
    rfl
  · obtain ⟨g, cap, rfl, hc⟩ := owns_cell h.own (k := r) (y := PV r) (by simp [hr])
    rw [Nat.zero_add]
    rw [← (hrow r hr).1]
    exact hc

end Go.Proofs.Ytgflalfiopnmnaa

namespace Go.Proofs.Ytgflalfiopnmnaa
open Go.RowKit Vl

/-- A table's pairs are written one behind the other into a row that a block holds. -/
structure InB (w2 wq : World) (xb : Nat) (pv : Value) (c : Nat) (K X : Nat → V) : Prop where
  out : wq.heap[xb]? = some (.cells #[pv] 73 (0, 0))
  row : wq.ownsRow w2.heap.size 75 8 pv c (pairCells K X c)
  only : Only (fun k => k = xb) w2 wq

theorem InB.more {w2 wq w6 : World} {xb g cap c : Nat} {pv : Value} {K X : Nat → V} {o1 o2 : Obj} (h : InB w2 wq xb pv c K X) (hx : xb < w2.heap.size) (hgrow : ((wq.alloc o1).alloc o2).grownBy w6 pv.ownBlock)
    (hown : w6.ownsRow w2.heap.size 75 8 (.slice (some ⟨g, 0, none⟩) (c + 1) cap) (c + 1) (pairCells K X c ++ [.int .i64 (K c).k, .int .i64 (K c).n, .string (K c).s, .int .i64 (K c).a, .int .i64 (X c).k, .int .i64 (X c).n, .string (X c).s, .int .i64 (X c).a])) :
    (w6.cell? ⟨xb, 0, none⟩ = some pv ∧ w6.frozen? ⟨xb, 0, none⟩ = false) ∧ InB w2 (w6.setCell ⟨xb, 0, none⟩ (.slice (some ⟨g, 0, none⟩) (c + 1) cap)) xb (.slice (some ⟨g, 0, none⟩) (c + 1) cap) (c + 1) K X := by
  obtain ⟨_, _, _, hk⟩ := owns_form h.row
  have hs := h.only.size
  have hbl : ∀ k, k < wq.heap.size → pv.ownBlock ≠ some k → w6.heap[k]? = wq.heap[k]? := fun k hk hne =>
    ((hgrow.block k (by simp; omega) (fun e => hne e.symm)).trans (Below.heap_alloc _ o2 k (by simp; omega))).trans (Below.heap_alloc wq o1 k hk)
  have n1 : pv.ownBlock ≠ some xb := fun e => by have := (hk _ e).1; omega
  have h6 : w6.heap[xb]? = some (.cells #[pv] 73 (0, 0)) := (hbl xb (by omega) n1).trans h.out
  have hsz : wq.heap.size ≤ w6.heap.size := by have := hgrow.size; simp at this; omega
  have ho : Only (fun k => k = xb) w2 w6 := ⟨hgrow.os.trans h.only.os, hgrow.tape.trans h.only.tape, hgrow.output.trans h.only.output, by omega, fun k hk' hp => (hbl k (by omega) (fun e => by have := (hk _ e).1; omega)).trans (h.only.block k hk' hp)⟩
  obtain ⟨c0, cz⟩ := one_at h6
  refine ⟨⟨c0, cz 0⟩, one_put h6 _, ?_, ho.set rfl _⟩
  rw [pairCells_succ]
  exact owns_setC hown (p := ⟨xb, 0, none⟩) hx _

end Go.Proofs.Ytgflalfiopnmnaa

namespace Go.Proofs.Ytgflalfiopnmnaa
open Go.RowKit Vl Aw

def e0 : Aw.E := ⟨zeroV, zeroV, []⟩
def lsE (l : List Aw.E) (j : Nat) : Aw.E := l.getD j e0
theorem lsE_at {l : List Aw.E} {j : Nat} (h : j < l.length) : l[j]? = some (lsE l j) := by
  unfold lsE
  rw [List.getD_eq_getElem?_getD, List.getElem?_eq_getElem h]
  rfl
theorem lsE_old {l : List Aw.E} {e : Aw.E} {j : Nat} (h : j < l.length) : lsE (l ++ [e]) j = lsE l j := by
  unfold lsE
  rw [List.getD_eq_getElem?_getD, List.getD_eq_getElem?_getD, List.getElem?_append_left h]
theorem lsE_new (l : List Aw.E) (e : Aw.E) : lsE (l ++ [e]) l.length = e := by
  unfold lsE
  simp [List.getD_eq_getElem?_getD]

/-- The cells of one couple. -/
abbrev cell9 (e : Aw.E) (pv : Value) : List Value := [.int .i64 e.a.k, .int .i64 e.a.n, .string e.a.s, .int .i64 e.a.a, .int .i64 e.b.k, .int .i64 e.b.n, .string e.b.s, .int .i64 e.b.a, pv]
def twoCells (f : Nat → Aw.E) (PV : Nat → Value) (n : Nat) : List Value := (List.range n).flatMap fun j => cell9 (f j) (PV j)
theorem twoCells_succ (f : Nat → Aw.E) (PV : Nat → Value) (n : Nat) : twoCells f PV (n + 1) = twoCells f PV n ++ cell9 (f n) (PV n) := by simp [twoCells, List.range_succ]
theorem twoCells_len (f : Nat → Aw.E) (PV : Nat → Value) (n : Nat) : (twoCells f PV n).length = n * 9 := by
  induction n with
  | zero => rfl
  | succ n ih => rw [twoCells_succ, List.length_append, ih]; simp; omega
theorem twoCells_at (f : Nat → Aw.E) (PV : Nat → Value) (n j i : Nat) (hj : j < n) (hi : i < 9) : (twoCells f PV n)[j * 9 + i]? = (cell9 (f j) (PV j))[i]? := by
  induction n with
  | zero => omega
  | succ n ih =>
    rw [twoCells_succ]
    by_cases e : j = n
    · subst e
      rw [List.getElem?_append_right (by rw [twoCells_len]; omega), twoCells_len, show j * 9 + i - j * 9 = i by omega]
    · rw [List.getElem?_append_left (by rw [twoCells_len]; omega)]
      exact ih (by omega)
theorem twoCells_congr {f f' : Nat → Aw.E} {PV PV' : Nat → Value} {n : Nat} (h : ∀ j, j < n → f j = f' j ∧ PV j = PV' j) : twoCells f PV n = twoCells f' PV' n := by
  induction n with
  | zero => rfl
  | succ n ih => rw [twoCells_succ, twoCells_succ, ih (fun j hj => h j (by omega)), (h n (by omega)).1, (h n (by omega)).2]

theorem cells9 {w : World} {B : Nat} {c0 c1 c2 c3 c4 c5 c6 c7 c8 : Value} {t : TypeId} (H : w.heap[B]? = some (.cells #[c0, c1, c2, c3, c4, c5, c6, c7, c8] t (0, 0))) :
    w.cell? ⟨B, 0, none⟩ = some c0 ∧ w.cell? ⟨B, 1, none⟩ = some c1 ∧ w.cell? ⟨B, 2, none⟩ = some c2 ∧ w.cell? ⟨B, 3, none⟩ = some c3 ∧ w.cell? ⟨B, 4, none⟩ = some c4 ∧ w.cell? ⟨B, 5, none⟩ = some c5 ∧ w.cell? ⟨B, 6, none⟩ = some c6 ∧ w.cell? ⟨B, 7, none⟩ = some c7 ∧ w.cell? ⟨B, 8, none⟩ = some c8 := by
  refine ⟨?_, ?_, ?_, ?_, ?_, ?_, ?_, ?_, ?_⟩ <;> simp [World.cell?, H]

theorem put9 {w : World} {B : Nat} {c0 c1 c2 c3 c4 c5 c6 c7 c8 : Value} {t : TypeId} (H : w.heap[B]? = some (.cells #[c0, c1, c2, c3, c4, c5, c6, c7, c8] t (0, 0))) (d0 d1 d2 d3 d4 d5 d6 d7 d8 : Value) :
    (((((((((w.setCell ⟨B, 0, none⟩ d0).setCell ⟨B, 1, none⟩ d1).setCell ⟨B, 2, none⟩ d2).setCell ⟨B, 3, none⟩ d3).setCell ⟨B, 4, none⟩ d4).setCell ⟨B, 5, none⟩ d5).setCell ⟨B, 6, none⟩ d6).setCell ⟨B, 7, none⟩ d7).setCell ⟨B, 8, none⟩ d8).heap[B]? = some (.cells #[d0, d1, d2, d3, d4, d5, d6, d7, d8] t (0, 0)) := by
  have hlt := blk_lt H
  simp [World.setCell, Array.getElem?_modify, H]
theorem below9 {w : World} {b B : Nat} (h : b ≤ B) (d0 d1 d2 d3 d4 d5 d6 d7 d8 : Value) :
    Below b w (((((((((w.setCell ⟨B, 0, none⟩ d0).setCell ⟨B, 1, none⟩ d1).setCell ⟨B, 2, none⟩ d2).setCell ⟨B, 3, none⟩ d3).setCell ⟨B, 4, none⟩ d4).setCell ⟨B, 5, none⟩ d5).setCell ⟨B, 6, none⟩ d6).setCell ⟨B, 7, none⟩ d7).setCell ⟨B, 8, none⟩ d8) :=
  (((((((((Below.refl b w).setCell (p := ⟨B, 0, none⟩) h _).setCell (p := ⟨B, 1, none⟩) h _).setCell (p := ⟨B, 2, none⟩) h _).setCell (p := ⟨B, 3, none⟩) h _).setCell (p := ⟨B, 4, none⟩) h _).setCell (p := ⟨B, 5, none⟩) h _).setCell (p := ⟨B, 6, none⟩) h _).setCell (p := ⟨B, 7, none⟩) h _).setCell (p := ⟨B, 8, none⟩) h _

theorem share4 {F : Nat → Option Addr → Nat → World → Prop} {G : Nat → Option Addr → Nat → World → Prop} {P : Prop} (h : Hid (∀ q a c w, F q a c w → G q a c w) → P) (g : ∀ q a c w, F q a c w → G q a c w) : P := h g

theorem any_take {l : List Aw.E} {q : Nat} (p : Aw.E → Bool) (h : q < l.length) : (l.take (q + 1)).any p = ((l.take q).any p || p (lsE l q)) := by
  rw [Aw.take_next (lsE_at h), List.any_append]
  simp

/-- What 'met' says behind q couples. -/
def MetIs (mv : Value) (l : List Aw.E) (q : Nat) (c : Aw.E) : Prop := ∃ b, mv = .bool b ∧ (l.take q).any (Aw.same c) = b

/-- What 'spec.Apart' gives. -/
def ApS (w w' : World) (e : Ending) (f : Nat → Nat) (n m : Nat) (u u' : V) (L L' : Nat → Nat) (K X K' X' : Nat → Nat → V) : Prop :=
  ((OkG n u L K X ∧ OkG m u' L' K' X') ∧ ∃ v ans, e = .returned v ∧ Aw.SDone (Aw.sysOf n L K X L' K' X' f) ⟨u, u', []⟩ ans ∧ w'.ownsRow w.heap.size 24 4 v ans.length (keyCells ans)) ∨ (¬ (OkG n u L K X ∧ OkG m u' L' K' X') ∧ e = .returned (.slice none 0 0))

theorem sys_bound {f : Nat → Nat} {n m : Nat} {u u' : V} {L L' : Nat → Nat} {K X K' X' : Nat → Nat → V} (h : OkG n u L K X) (h' : OkG m u' L' K' X') {i : Nat} {l : List Aw.E} (hr : Aw.SReach (Aw.sysOf n L K X L' K' X' f) ⟨u, u', []⟩ i l) : l.length ≤ 8000001 ∧ (∀ e ∈ l, isV n e.a = true ∧ isV m e.b = true) ∧ (∀ e ∈ l, e.p.length ≤ i) := by
  have h1 := hr.len (Aw.sys_next h h') (Aw.sys_ix n m L K X L' K' X' f) (Aw.sys_few h h') ⟨h.root, h'.root⟩ rfl
  have h2 := (hr.wide (Aw.sys_next h h') (Aw.sys_ix n m L K X L' K' X' f) (Aw.sys_few h h') ⟨h.root, h'.root⟩ rfl).1
  have h3 : n * m ≤ 200 * 200 := Nat.mul_le_mul h.len h'.len
  exact ⟨by omega, h2.good, h2.path⟩

end Go.Proofs.Ytgflalfiopnmnaa

namespace Go.Proofs.Ytgflalfiopnmnaa
open Go.RowKit Vl

set_option maxHeartbeats 2000000 in
set_option maxRecDepth 100000 in
/-- 'l3path'. -/
theorem l3path_any (pa : Option Addr) (cp B O : Nat) (ps : List V) (k : V) (w : World) (hl : ps.length ≤ 10000000) (HP : Hid (ValsAt w pa ps.length B O (lsF ps))) :
    Calls Try.prog 49 #[.slice pa ps.length cp, vAgg k] w fun e w' => (∃ v, e = .returned v ∧ w'.ownsRow w.heap.size 24 4 v (ps.length + 1) (keyCells (ps ++ [k]))) ∧ Below w.heap.size w w' := by
  obtain ⟨l, HL⟩ : ∃ l, Hid (ps.length = l) := ⟨_, rfl⟩
  rw [HL.out] at hl HP ⊢
  obtain ⟨w1, hw1⟩ : ∃ w1, w1 = w.alloc (.cells #[.int .i64 k.k, .int .i64 k.n, .string k.s, .int .i64 k.a] 24) := ⟨_, rfl⟩
  have HB0 : Hid (Below w.heap.size w w1) := by rw [hw1]; exact (Below.refl _ _).alloc (Nat.le_refl _) _
  have HK1 : Hid (ValB w1 w.heap.size k) := by rw [hw1]; exact heap_alloc_new _ _
  have HS1 : Hid (w1.heap.size = w.heap.size + 1) := by rw [hw1]; exact (by simp : (w.alloc _).heap.size = w.heap.size + 1)
  obtain ⟨iv, hi, hz0, hz1, hz2⟩ := info_parts infoV
  go_enter Try.func49, Try.ntmps49
  go_wp2
  rw [← hw1]
  clear hw1
  go_loopw [5, 10] (fun ov ii wr => ∃ c : Nat, c ≤ l ∧ ii = .int .i64 c ∧ Hid (wr.ownsRow (w.heap.size + 1) 24 4 ov c (keyCells (keys (lsF ps) c))) ∧ Hid (Below (w.heap.size + 1) w1 wr)) (fun _ ii _ => l - (intOf ii).toNat)
  case atStart => exact ⟨0, Nat.zero_le _, rfl, World.ownsRow_nil _ _ _ _, Below.refl _ _⟩
  case round =>
    obtain ⟨c, hc, rfl, HO, HB⟩ := hrel
    obtain ⟨oa, oc, rfl, _⟩ := owns_form HO.out
    have hsr : w.heap.size + 1 ≤ wr.heap.size := by have := HB.out.size; have := HS1.out; omega
    have HBr : Hid (Below w.heap.size w wr) := HB0.out.trans (HB.out.mono (by omega))
    by_cases hlt : c < l
    · obtain rfl := HP.out.top (by omega)
      obtain ⟨k0, k1, k2, k3⟩ := (HP.out.below HBr.out).cells hlt
      obtain ⟨kk, HKK⟩ : ∃ kk, Hid (lsF ps c = kk) := ⟨_, rfl⟩
      rw [HKK.out] at k0 k1 k2 k3
      go_wp2_with (at_builtin; refine wpList_append_lies _ (by rfl) (.tmp 14) (.tmp 16) 36 (by rfl) (w.heap.size + 1) 24 iv (.agg #[.int .i64 0, .int .i64 0, .string ⟨#[]⟩, .int .i64 0]) 4 40 Try.underlying36 hi hz0 hz1 hz2 (by rfl) (by omega) (.slice oa c oc) c (keyCells (keys (lsF ps) c)) (by rfl) ((HO.out.alloc _).alloc _) ⟨wr.heap.size + 1, 0, none⟩ 1 1 [.int .i64 kk.k, .int .i64 kk.n, .string kk.s, .int .i64 kk.a] (by rfl) (by rfl) ?c1 ?c2 (by omega) ?c3 ?c4 ?c5 (wr.heap.size + 2) ?c6 ?_)
      case c1 => exact World.news_of_block (alloc2 wr _ _).2.1
      case c2 => intro u hu; simp at hu; rcases hu with rfl | rfl | rfl | rfl <;> rfl
      case c3 => unfold maxLen; omega
      case c4 => omega
      case c5 => simp; omega
      case c6 => simp
      intro g cap w6 hown6 hgrow6 hat6 hlt6
      have hb6 : Below (w.heap.size + 1) ((wr.alloc (.cells #[.int .i64 kk.k, .int .i64 kk.n, .string kk.s, .int .i64 kk.a] 24)).alloc (.cells #[.int .i64 kk.k, .int .i64 kk.n, .string kk.s, .int .i64 kk.a] 24)) w6 := below_grown ((HO.out.alloc _).alloc _) hgrow6 (by simp; omega)
      have HB6 : Hid (Below (w.heap.size + 1) w1 w6) := (HB.out.trans (((alloc2 wr (.cells #[.int .i64 kk.k, .int .i64 kk.n, .string kk.s, .int .i64 kk.a] 24) (.cells #[.int .i64 kk.k, .int .i64 kk.n, .string kk.s, .int .i64 kk.a] 24)).2.2.2).mono hsr)).trans hb6
      have HO6 : Hid (w6.ownsRow (w.heap.size + 1) 24 4 (.slice (some ⟨g, 0, none⟩) (c + 1) cap) (c + 1) (keyCells (keys (lsF ps) (c + 1)))) := by
        show World.ownsRow _ _ _ _ _ _ _
        rw [keys_succ, keyCells_snoc, HKK.out]
        exact hown6
      clear hown6 hgrow6 hat6 hlt6 hb6 k0 k1 k2 k3
      go_wp2
      go_roundw
      case rel => exact ⟨c + 1, by omega, by go_num, HO6, HB6⟩
      case measure => simp [intOf]; omega
    · obtain rfl : c = l := by omega
      have HKr : Hid (ValB wr w.heap.size k) := (HB.out.block _ (by omega)).trans HK1.out
      obtain ⟨q0, q1, q2, q3, _⟩ := cells4 HKr.out
      go_wp2_with (at_builtin; refine wpList_append_lies _ (by rfl) (.tmp 19) (.tmp 21) 36 (by rfl) (w.heap.size + 1) 24 iv (.agg #[.int .i64 0, .int .i64 0, .string ⟨#[]⟩, .int .i64 0]) 4 40 Try.underlying36 hi hz0 hz1 hz2 (by rfl) (by omega) (.slice oa c oc) c (keyCells (keys (lsF ps) c)) (by rfl) (HO.out.alloc _) ⟨wr.heap.size, 0, none⟩ 1 1 [.int .i64 k.k, .int .i64 k.n, .string k.s, .int .i64 k.a] (by rfl) (by rfl) ?c1 ?c2 (by omega) ?c3 ?c4 ?c5 (wr.heap.size + 1) ?c6 ?_)
      case c1 => exact World.news_of_block (heap_alloc_new wr _)
      case c2 => intro u hu; simp at hu; rcases hu with rfl | rfl | rfl | rfl <;> rfl
      case c3 => unfold maxLen; omega
      case c4 => omega
      case c5 => simp; omega
      case c6 => simp
      intro g cap w6 hown6 hgrow6 hat6 hlt6
      have hb6 : Below (w.heap.size + 1) (wr.alloc (.cells #[.int .i64 k.k, .int .i64 k.n, .string k.s, .int .i64 k.a] 24)) w6 := below_grown (HO.out.alloc _) hgrow6 (by simp; omega)
      have HB6 : Hid (Below w.heap.size w w6) := (HBr.out.alloc HBr.out.size _).trans (hb6.mono (by omega))
      have HO6 : Hid (w6.ownsRow w.heap.size 24 4 (.slice (some ⟨g, 0, none⟩) (c + 1) cap) (c + 1) (keyCells (ps ++ [k]))) := by
        have e : keys (lsF ps) c = ps := by rw [← HL.out]; exact keys_lsF ps
        rw [e] at hown6
        show World.ownsRow _ _ _ _ _ _ _
        rw [keyCells_snoc]
        exact owns_mono hown6 (by omega)
      clear hown6 hgrow6 hat6 hlt6 hb6 q0 q1 q2 q3
      go_wp2
      go_ret
      exact ⟨⟨_, rfl, HO6.out⟩, HB6.out⟩

end Go.Proofs.Ytgflalfiopnmnaa

namespace Go.Proofs.Ytgflalfiopnmnaa
open Go.RowKit Vl Aw

set_option maxHeartbeats 4000000 in
set_option maxRecDepth 100000 in
/-- 'l3keys'. -/
theorem l3keys_any (pa pb : Option Addr) (La Ca Ba Oa Lb Cb Bb Ob n m : Nat) (Ka Xa Kb Xb : Nat → V) (w : World) (HA : Hid (OkT n La Ka Xa)) (HBk0 : Hid (OkT m Lb Kb Xb)) (HZa : Hid (∀ c, c < La → (Ka c).s.size ≤ 9223372036854775807)) (HZb : Hid (∀ c, c < Lb → (Kb c).s.size ≤ 9223372036854775807)) (HPa : Hid (PairsAt w pa La Ba Oa Ka Xa)) (HPb : Hid (PairsAt w pb Lb Bb Ob Kb Xb)) :
    Calls Try.prog 47 #[.agg #[.slice pa La Ca], .agg #[.slice pb Lb Cb]] w fun e w' => (∃ v, e = .returned v ∧ w'.ownsRow w.heap.size 24 4 v (Aw.kidsOf (keys Ka La ++ keys Kb Lb)).length (keyCells (Aw.kidsOf (keys Ka La ++ keys Kb Lb)))) ∧ Below w.heap.size w w' := by
  have hLa := HA.out.len
  have hLb := HBk0.out.len
  have A3 := alloc3 w (.cells #[.slice pa La Ca] 73) (.cells #[.slice pb Lb Cb] 73) (.cells #[.slice none 0 0] 73)
  obtain ⟨w2, hw2⟩ : ∃ w2, w2 = ((w.alloc (.cells #[.slice pa La Ca] 73)).alloc (.cells #[.slice pb Lb Cb] 73)).alloc (.cells #[.slice none 0 0] 73) := ⟨_, rfl⟩
  rw [← hw2] at A3
  have HB2 : Hid (Below w.heap.size w w2) := A3.2.2.2.2
  have HTa : Hid (w2.heap[w.heap.size]? = some (.cells #[.slice pa La Ca] 73 (0, 0))) := A3.1
  have HTb : Hid (w2.heap[w.heap.size + 1]? = some (.cells #[.slice pb Lb Cb] 73 (0, 0))) := A3.2.1
  obtain ⟨xb, hxb⟩ : ∃ xb, w.heap.size + 2 = xb := ⟨_, rfl⟩
  have HX2 : Hid (w2.heap[xb]? = some (.cells #[.slice none 0 0] 73 (0, 0))) := by rw [← hxb]; exact A3.2.2.1
  have HXL : Hid (xb < w2.heap.size ∧ w.heap.size + 2 = xb) := ⟨by have := A3.2.2.2.1; omega, hxb⟩
  have HI1 : Hid (InB w2 w2 xb (.slice none 0 0) 0 (jn La Ka Kb) (jn La Xa Xb)) := ⟨HX2.out, World.ownsRow_nil _ _ _ _, Only.refl _ _⟩
  clear A3
  have HXB : Hid (w.heap.size + 2 = xb) := hxb
  clear hxb
  obtain ⟨ip, hpi, hp0, hp1, hp2⟩ := info_parts Try.info75
  obtain ⟨iv, hi, hz0, hz1, hz2⟩ := info_parts infoV
  go_enter Try.func47, Try.ntmps47
  go_wp2
  rw [← hw2]
  try rw [HXB.out]
  clear hw2
  go_loopw [17] (fun ii wq => ∃ (c : Nat) (pv : Value), c ≤ La ∧ ii = .int .i64 c ∧ Hid (InB w2 wq xb pv (c) (jn La Ka Kb) (jn La Xa Xb))) (fun ii _ => La - (intOf ii).toNat)
  case atStart => exact ⟨0, _, Nat.zero_le _, rfl, HI1⟩
  case round =>
    obtain ⟨c, pv, hc, rfl, HI⟩ := hrel
    clear HI1
    obtain ⟨qa, qc, rfl, hqk⟩ := owns_form HI.out.row
    clear hqk
    have HBq : Hid (Below w.heap.size w wr) := HB2.out.trans (HI.out.only.toBelow (fun k hk => by have := HXL.out; omega) HB2.out.size)
    by_cases hlc : c < La
    · obtain rfl := HPa.out.top (by omega)
      obtain ⟨⟨k0, k1, k2, k3⟩, ⟨v0, v1, v2, v3⟩⟩ := (HPa.out.below HBq.out).cells hlc
      obtain ⟨kc, HKC⟩ : ∃ kc, Hid (Ka c = kc) := ⟨_, rfl⟩
      obtain ⟨xc, HXC⟩ : ∃ xc, Hid (Xa c = xc) := ⟨_, rfl⟩
      rw [HKC.out] at k0 k1 k2 k3
      rw [HXC.out] at v0 v1 v2 v3
      have HKJ : Hid ((jn La Ka Kb) (c) = kc) := by show _ = _; rw [jn_lt hlc]; exact HKC.out
      have HXJ : Hid ((jn La Xa Xb) (c) = xc) := by show _ = _; rw [jn_lt hlc]; exact HXC.out
      obtain ⟨y0, y1⟩ := one_at HI.out.out
      have hxq : xb < wr.heap.size := blk_lt HI.out.out
      have hxq' : xb < wr.heap.size + 1 := by omega
      have hsq := HI.out.only.size
      go_wp2_with (at_builtin; refine wpList_append_lies _ (by rfl) (.tmp 22) (.tmp 24) 71 (by rfl) w2.heap.size 75 ip (.agg #[.int .i64 0, .int .i64 0, .string ⟨#[]⟩, .int .i64 0, .int .i64 0, .int .i64 0, .string ⟨#[]⟩, .int .i64 0]) 8 80 Try.underlying71 hpi hp0 hp1 hp2 (by rfl) (by omega) (.slice qa (c) qc) (c) (pairCells (jn La Ka Kb) (jn La Xa Xb) (c)) (by rfl) ((HI.out.row.alloc _).alloc _) ⟨wr.heap.size + 1, 0, none⟩ 1 1 [.int .i64 kc.k, .int .i64 kc.n, .string kc.s, .int .i64 kc.a, .int .i64 xc.k, .int .i64 xc.n, .string xc.s, .int .i64 xc.a] (by rfl) (by rfl) ?c1 ?c2 (by omega) ?c3 ?c4 ?c5 (wr.heap.size + 2) ?c6 ?_)
      case c1 => exact World.news_of_block (alloc2 wr _ _).2.1
      case c2 => intro v hv; simp at hv; rcases hv with rfl | rfl | rfl | rfl | rfl | rfl | rfl | rfl <;> rfl
      case c3 => unfold maxLen; omega
      case c4 => omega
      case c5 => simp; omega
      case c6 => simp
      intro g cap w6 hown6 hgrow6 hat6 hlt6
      obtain ⟨⟨z0, z1⟩, hI⟩ := HI.out.more HXL.out.1 hgrow6 (by
        simp only [HKJ.out, HXJ.out]
        exact hown6)
      have HI6 : Hid (InB w2 (w6.setCell ⟨xb, 0, none⟩ (.slice (some ⟨g, 0, none⟩) (c + 1) cap)) xb (.slice (some ⟨g, 0, none⟩) (c + 1) cap) (c + 1) (jn La Ka Kb) (jn La Xa Xb)) := hI
      clear hown6 hgrow6 hat6 hlt6 hI k0 k1 k2 k3 v0 v1 v2 v3 y0 y1
      go_wp2
      go_roundw
      case rel => exact ⟨c + 1, _, by omega, by go_num, HI6⟩
      case measure => simp [intOf]; omega
    · obtain rfl : La = c := by omega
      have HI0 : Hid (InB w2 wr xb (.slice qa La qc) (La + 0) (jn La Ka Kb) (jn La Xa Xb)) := HI.out
      have T1 : Hid (wr.heap[w.heap.size + 1]? = some (.cells #[.slice pb Lb Cb] 73 (0, 0))) := (HI.out.only.block _ (by have := HXL.out; omega) (by have := HXL.out; omega)).trans HTb.out
      obtain ⟨y0, y1⟩ := one_at T1.out
      obtain ⟨ws, hws⟩ : ∃ ws, ws = wr := ⟨_, rfl⟩
      rw [← hws] at HI0
      clear HI HBq T1
      go_wp2
      rw [← hws]
      clear hws y0 y1
      go_loopw [31] (fun ii wq => ∃ (c : Nat) (pv : Value), c ≤ Lb ∧ ii = .int .i64 c ∧ Hid (InB w2 wq xb pv (La + c) (jn La Ka Kb) (jn La Xa Xb))) (fun ii _ => Lb - (intOf ii).toNat)
      case atStart => exact ⟨0, _, Nat.zero_le _, rfl, HI0⟩
      case round =>
        obtain ⟨c, pv, hc, rfl, HI⟩ := hrel
        clear HI0
        obtain ⟨qa, qc, rfl, hqk⟩ := owns_form HI.out.row
        clear hqk
        have HBq : Hid (Below w.heap.size w wr) := HB2.out.trans (HI.out.only.toBelow (fun k hk => by have := HXL.out; omega) HB2.out.size)
        by_cases hlc : c < Lb
        · obtain rfl := HPb.out.top (by omega)
          obtain ⟨⟨k0, k1, k2, k3⟩, ⟨v0, v1, v2, v3⟩⟩ := (HPb.out.below HBq.out).cells hlc
          obtain ⟨kc, HKC⟩ : ∃ kc, Hid (Kb c = kc) := ⟨_, rfl⟩
          obtain ⟨xc, HXC⟩ : ∃ xc, Hid (Xb c = xc) := ⟨_, rfl⟩
          rw [HKC.out] at k0 k1 k2 k3
          rw [HXC.out] at v0 v1 v2 v3
          have HKJ : Hid ((jn La Ka Kb) (La + c) = kc) := by show _ = _; rw [jn_add]; exact HKC.out
          have HXJ : Hid ((jn La Xa Xb) (La + c) = xc) := by show _ = _; rw [jn_add]; exact HXC.out
          obtain ⟨y0, y1⟩ := one_at HI.out.out
          have hxq : xb < wr.heap.size := blk_lt HI.out.out
          have hxq' : xb < wr.heap.size + 1 := by omega
          have hsq := HI.out.only.size
          go_wp2_with (at_builtin; refine wpList_append_lies _ (by rfl) (.tmp 36) (.tmp 38) 71 (by rfl) w2.heap.size 75 ip (.agg #[.int .i64 0, .int .i64 0, .string ⟨#[]⟩, .int .i64 0, .int .i64 0, .int .i64 0, .string ⟨#[]⟩, .int .i64 0]) 8 80 Try.underlying71 hpi hp0 hp1 hp2 (by rfl) (by omega) (.slice qa (La + c) qc) (La + c) (pairCells (jn La Ka Kb) (jn La Xa Xb) (La + c)) (by rfl) ((HI.out.row.alloc _).alloc _) ⟨wr.heap.size + 1, 0, none⟩ 1 1 [.int .i64 kc.k, .int .i64 kc.n, .string kc.s, .int .i64 kc.a, .int .i64 xc.k, .int .i64 xc.n, .string xc.s, .int .i64 xc.a] (by rfl) (by rfl) ?c1 ?c2 (by omega) ?c3 ?c4 ?c5 (wr.heap.size + 2) ?c6 ?_)
          case c1 => exact World.news_of_block (alloc2 wr _ _).2.1
          case c2 => intro v hv; simp at hv; rcases hv with rfl | rfl | rfl | rfl | rfl | rfl | rfl | rfl <;> rfl
          case c3 => unfold maxLen; omega
          case c4 => omega
          case c5 => simp; omega
          case c6 => simp
          intro g cap w6 hown6 hgrow6 hat6 hlt6
          obtain ⟨⟨z0, z1⟩, hI⟩ := HI.out.more HXL.out.1 hgrow6 (by
            simp only [HKJ.out, HXJ.out]
            exact hown6)
          have HI6 : Hid (InB w2 (w6.setCell ⟨xb, 0, none⟩ (.slice (some ⟨g, 0, none⟩) (La + c + 1) cap)) xb (.slice (some ⟨g, 0, none⟩) (La + c + 1) cap) (La + c + 1) (jn La Ka Kb) (jn La Xa Xb)) := hI
          clear hown6 hgrow6 hat6 hlt6 hI k0 k1 k2 k3 v0 v1 v2 v3 y0 y1
          go_wp2
          go_roundw
          case rel => exact ⟨c + 1, _, by omega, by go_num, HI6⟩
          case measure => simp [intOf]; omega
        · obtain rfl : Lb = c := by omega
          have hw3 := (owns_pairs HI.out.row)
          obtain ⟨y0, y1⟩ := one_at HI.out.out
          have HPs : Hid (PairsAt wr qa (La + Lb) (slB (.slice qa (La + Lb) qc)) 0 (jn La Ka Kb) (jn La Xa Xb)) := hw3.2
          have HZ : Hid (∀ j, j < La + Lb → ((jn La Ka Kb) j).s.size ≤ 9223372036854775807) := show ∀ j, _ from fun j hj => by
            by_cases e : j < La
            · rw [jn_lt e]; exact HZa.out j e
            · rw [jn_ge e]; exact HZb.out (j - La) (by omega)
          have hso := l3sorted_any qa (La + Lb) qc _ 0 (jn La Ka Kb) (jn La Xa Xb) wr (by omega) HZ HPs
          clear hw3
          go_wp2_with fail
          refine hso.mono ?_
          clear hso y0 y1
          rintro e w3 ⟨⟨sa, sc, ls, rfl, hsort, hrow⟩, hb3⟩
          have HB3 : Hid (Below w.heap.size w w3) := grw HBq.out hb3
          have HSo : Hid (SortI (jn La Ka Kb) (La + Lb) ls) := hsort
          obtain ⟨SK, hSK⟩ : ∃ SK, byI (jn La Ka Kb) ls = SK := ⟨_, rfl⟩
          obtain ⟨SX, hSX⟩ : ∃ SX, byI (jn La Xa Xb) ls = SX := ⟨_, rfl⟩
          have HSK : Hid (byI (jn La Ka Kb) ls = SK) := hSK
          rw [hSK, hSX] at hrow
          obtain ⟨e3, hP3⟩ := owns_pairs hrow
          obtain ⟨sb, hsb⟩ : ∃ sb, slB (.slice sa (La + Lb) sc) = sb := ⟨_, rfl⟩
          rw [hsb] at hP3
          have HP3 : Hid (PairsAt w3 sa (La + Lb) sb 0 SK SX) := hP3
          obtain ⟨N, HN⟩ : ∃ N, Hid (La + Lb = N) := ⟨_, rfl⟩
          have hN : N ≤ 200 := by rw [← HN.out]; omega
          rw [HN.out] at HP3 ⊢
          obtain ⟨b3, HB3s⟩ : ∃ b, Hid (w3.heap.size = b) := ⟨_, rfl⟩
          clear hb3 hsort hrow hSK hSX e3 hP3 hsb HI HBq HPs HZ
          have hfd : ∀ w : World, (Instr.field 73 (.agg #[.slice sa N sc]) 0).run Try.prog w = .ok (.slice sa N sc) w := fun _ => by kernel_rfl
          go_wp2
          clear hfd
          go_loopw [10, 46] (fun ov ii wr => ∃ c : Nat, c ≤ N ∧ ii = .int .i64 c ∧ Hid (wr.ownsRow b3 24 4 ov (Aw.dd SK c).length (keyCells (Aw.dd SK c))) ∧ Hid (Below b3 w3 wr)) (fun _ ii _ => N - (intOf ii).toNat)
          case atStart => exact ⟨0, Nat.zero_le _, rfl, World.ownsRow_nil _ _ _ _, Below.refl _ _⟩
          case round =>
            obtain ⟨c, hc, rfl, HO, HB⟩ := hrel
            obtain ⟨oa, oc, rfl, _⟩ := owns_form HO.out
            have hs3 : b3 ≤ wr.heap.size := by have := HB.out.size; have := HB3s.out; omega
            obtain ⟨ml, HML⟩ : ∃ ml, Hid ((Aw.dd SK c).length = ml) := ⟨_, rfl⟩
            rw [HML.out] at HO ⊢
            by_cases hlt : c < N
            · obtain rfl := HP3.out.top (by omega)
              obtain ⟨⟨k0, k1, k2, k3⟩, ⟨v0, v1, v2, v3⟩⟩ := (HP3.out.below (HB3s.out ▸ HB.out)).cells hlt
              obtain ⟨kc, HKC⟩ : ∃ kc, Hid (SK c = kc) := ⟨_, rfl⟩
              obtain ⟨xc, HXC⟩ : ∃ xc, Hid (SX c = xc) := ⟨_, rfl⟩
              rw [HKC.out] at k0 k1 k2 k3
              rw [HXC.out] at v0 v1 v2 v3
              simp only [Nat.zero_add] at k0 k1 k2 k3 v0 v1 v2 v3
              go_wp2
              obtain ⟨wk, hwk⟩ : ∃ wk, wk = wr.alloc (.cells #[.int .i64 kc.k, .int .i64 kc.n, .string kc.s, .int .i64 kc.a, .int .i64 xc.k, .int .i64 xc.n, .string xc.s, .int .i64 xc.a] 75) := ⟨_, rfl⟩
              have hbk : Below wr.heap.size wr wk := by rw [hwk]; exact (Below.refl _ _).alloc (Nat.le_refl _) _
              have HQk : Hid (wk.heap[wr.heap.size]? = some (.cells #[.int .i64 kc.k, .int .i64 kc.n, .string kc.s, .int .i64 kc.a, .int .i64 xc.k, .int .i64 xc.n, .string xc.s, .int .i64 xc.a] 75 (0, 0))) := by rw [hwk]; exact heap_alloc_new _ _
              rw [← hwk]
              obtain ⟨qb, hqb⟩ : ∃ qb, wr.heap.size = qb := ⟨_, rfl⟩
              have HBk : Hid (Below b3 w3 wk) := HB.out.trans (hbk.mono hs3)
              have HOk : Hid (wk.ownsRow b3 24 4 (.slice oa ml oc) ml (keyCells (Aw.dd SK c))) := (Only.below (P := fun _ => False) hbk).owns HO.out (fun _ _ _ h => h)
              rw [hqb] at HQk ⊢
              clear hwk hbk hqb k0 k1 k2 k3 v0 v1 v2 v3 HO HB hs3
              obtain ⟨p0, p1, p2, p3, p4, p5, p6, p7, _⟩ := cells8 HQk.out
              replace p0 := cellB p0
              replace p1 := cellB p1
              replace p2 := cellB p2
              replace p3 := cellB p3
              by_cases hm0 : ml = 0
              · have hd : ((ml : Int) == 0) = true := by simp [hm0]
                have HE : Hid (Aw.dd SK (c + 1) = Aw.dd SK c ++ [kc]) := by
                  have e : Aw.dd SK c = [] := List.length_eq_zero_iff.1 (HML.out.trans hm0)
                  show (if (Aw.dd SK c).getLast?.any (fun k => eqV k (SK c)) = true then Aw.dd SK c else Aw.dd SK c ++ [SK c]) = _
                  rw [HKC.out, e]
                  rfl
                clear hm0
                go_quiet (fail)
                obtain ⟨wd, hwd⟩ : ∃ wd, wd = wk.drewN nq := ⟨_, rfl⟩
                have HBd : Hid (Below b3 w3 wd) := by rw [hwd]; exact below_drewN HBk.out nq
                have HOd : Hid (wd.ownsRow b3 24 4 (.slice oa ml oc) ml (keyCells (Aw.dd SK c))) := by rw [hwd]; exact HOk.out
                have HQd : Hid (wd.heap[qb]? = some (.cells #[.int .i64 kc.k, .int .i64 kc.n, .string kc.s, .int .i64 kc.a, .int .i64 xc.k, .int .i64 xc.n, .string xc.s, .int .i64 xc.a] 75 (0, 0))) := by rw [hwd]; exact HQk.out
                rw [← hwd]
                clear hwd HBk HOk HQk p0 p1 p2 p3 p4 p5 p6 p7
                obtain ⟨p0, p1, p2, p3, p4, p5, p6, p7, _⟩ := cells8 HQd.out
                have hml := dd_len SK c
                rw [HML.out] at hml
                go_wp2_with (at_builtin; refine wpList_append_lies _ (by rfl) (.tmp 64) (.tmp 67) 36 (by rfl) b3 24 iv (.agg #[.int .i64 0, .int .i64 0, .string ⟨#[]⟩, .int .i64 0]) 4 40 Try.underlying36 hi hz0 hz1 hz2 (by rfl) (by omega) (.slice oa ml oc) ml (keyCells (Aw.dd SK c)) (by rfl) (HOd.out.alloc _) ⟨wd.heap.size, 0, none⟩ 1 1 [.int .i64 kc.k, .int .i64 kc.n, .string kc.s, .int .i64 kc.a] (by rfl) (by rfl) ?c1 ?c2 (by omega) ?c3 ?c4 ?c5 (wd.heap.size + 1) ?c6 ?_)
                case c1 => exact World.news_of_block (heap_alloc_new wd _)
                case c2 => intro v hv; simp at hv; rcases hv with rfl | rfl | rfl | rfl <;> rfl
                case c3 => unfold maxLen; omega
                case c4 => omega
                case c5 => have := HBd.out.size; have := HB3s.out; simp; omega
                case c6 => simp
                intro g2 cap w7 hown7 hgrow7 hat7 hlt7
                have hb7 : Below b3 (wd.alloc (.cells #[.int .i64 kc.k, .int .i64 kc.n, .string kc.s, .int .i64 kc.a] 24)) w7 := below_grown (HOd.out.alloc _) hgrow7 (by have := HBd.out.size; have := HB3s.out; simp; omega)
                have HB7 : Hid (Below b3 w3 w7) := (HBd.out.alloc (by have := HBd.out.size; have := HB3s.out; omega) _).trans hb7
                have HO7 : Hid (w7.ownsRow b3 24 4 (.slice (some ⟨g2, 0, none⟩) (ml + 1) cap) (Aw.dd SK (c + 1)).length (keyCells (Aw.dd SK (c + 1)))) := by
                  rw [HE.out, keyCells_snoc, List.length_append, HML.out]
                  exact hown7
                clear hown7 hgrow7 hat7 hlt7 hb7
                go_wp2
                go_roundw
                case rel => exact ⟨c + 1, by omega, by go_num, HO7, HB7⟩
                case measure => simp [intOf]; omega
              · obtain ⟨q, hq⟩ : ∃ q, ml = q + 1 := ⟨ml - 1, by omega⟩
                have hd : ((ml : Int) == 0) = false := by simp [hm0]
                have hq1 : (ml : Int) - 1 = (q : Int) := by omega
                have hml := Aw.dd_len SK c
                rw [HML.out] at hml
                have hwm : IntKind.i64.wrap (q : Int) = (q : Int) := by rw [IntKind.wrap_i64]; omega
                have hbq : (0 : Int) ≤ (q : Int) ∧ (q : Int) < (ml : Int) := by omega
                have hlast : (Aw.dd SK c).getLast? = some (lsF (Aw.dd SK c) q) := by
                  rw [List.getLast?_eq_getElem?, HML.out, hq]
                  have hl : q < (Aw.dd SK c).length := by rw [HML.out]; omega
                  simp only [Nat.add_sub_cancel, lsF, List.getD_eq_getElem?_getD]
                  rw [List.getElem?_eq_getElem hl]
                  rfl
                obtain ⟨lk, HLK⟩ : ∃ lk, Hid (lsF (Aw.dd SK c) q = lk) := ⟨_, rfl⟩
                rw [HLK.out] at hlast
                obtain ⟨ra, rc, rB, er, hvr⟩ := owns_rowV HML.out HOk.out
                rw [HML.out] at er hvr
                cases er
                obtain rfl := hvr.top (by omega)
                obtain ⟨l0, l1, l2, l3⟩ := hvr.cells (c := q) (by omega)
                rw [HLK.out] at l0 l1 l2 l3
                simp only [Nat.zero_add] at l0 l1 l2 l3
                replace l0 := cellB l0
                replace l1 := cellB l1
                replace l2 := cellB l2
                replace l3 := cellB l3
                have hne := neqV lk kc
                clear hq hm0 hvr
                cases hbe : eqV lk kc with
                | true =>
                  have HE : Hid (Aw.dd SK (c + 1) = Aw.dd SK c) := by
                    show (if (Aw.dd SK c).getLast?.any (fun k => eqV k (SK c)) = true then Aw.dd SK c else Aw.dd SK c ++ [SK c]) = _
                    rw [hlast, HKC.out]
                    simp only [Option.any_some, hbe, if_true]
                  rw [hbe] at hne
                  clear hbe hlast
                  go_region_held3 (fun w' => Below wk.heap.size wk w') (first | exact (Below.refl _ _).drew) (fail)
                  clear p0 p1 p2 p3 l0 l1 l2 l3 hne
                  have HO7 : Hid (wk.drew.ownsRow b3 24 4 (.slice (some ⟨rB, 0, none⟩) ml oc) (Aw.dd SK (c + 1)).length (keyCells (Aw.dd SK (c + 1)))) := by
                    rw [HE.out, HML.out]; exact HOk.out
                  have HB7 : Hid (Below b3 w3 wk.drew) := HBk.out.drew
                  go_wp2
                  go_roundw
                  case rel => exact ⟨c + 1, by omega, by go_num, HO7, HB7⟩
                  case measure => simp [intOf]; omega
                | false =>
                  have HE : Hid (Aw.dd SK (c + 1) = Aw.dd SK c ++ [kc]) := by
                    show (if (Aw.dd SK c).getLast?.any (fun k => eqV k (SK c)) = true then Aw.dd SK c else Aw.dd SK c ++ [SK c]) = _
                    rw [hlast, HKC.out]
                    simp [hbe]
                  rw [hbe] at hne
                  clear hbe hlast
                  go_region_held3 (fun w' => Below wk.heap.size wk w') (first | exact (Below.refl _ _).drew) (fail)
                  clear l0 l1 l2 l3 hne
                  obtain ⟨wd, hwd⟩ : ∃ wd, wd = wk.drew := ⟨_, rfl⟩
                  have HBd : Hid (Below b3 w3 wd) := by rw [hwd]; exact HBk.out.drew
                  have HOd : Hid (wd.ownsRow b3 24 4 (.slice (some ⟨rB, 0, none⟩) ml oc) ml (keyCells (Aw.dd SK c))) := by rw [hwd]; exact HOk.out
                  have HQd : Hid (wd.heap[qb]? = some (.cells #[.int .i64 kc.k, .int .i64 kc.n, .string kc.s, .int .i64 kc.a, .int .i64 xc.k, .int .i64 xc.n, .string xc.s, .int .i64 xc.a] 75 (0, 0))) := by rw [hwd]; exact HQk.out
                  rw [← hwd]
                  clear hwd HBk HOk HQk p0 p1 p2 p3 p4 p5 p6 p7
                  obtain ⟨p0, p1, p2, p3, p4, p5, p6, p7, _⟩ := cells8 HQd.out
                  have hml2 := Aw.dd_len SK c
                  rw [HML.out] at hml2
                  go_wp2_with (at_builtin; refine wpList_append_lies _ (by rfl) (.tmp 64) (.tmp 67) 36 (by rfl) b3 24 iv (.agg #[.int .i64 0, .int .i64 0, .string ⟨#[]⟩, .int .i64 0]) 4 40 Try.underlying36 hi hz0 hz1 hz2 (by rfl) (by omega) (.slice (some ⟨rB, 0, none⟩) ml oc) ml (keyCells (Aw.dd SK c)) (by rfl) (HOd.out.alloc _) ⟨wd.heap.size, 0, none⟩ 1 1 [.int .i64 kc.k, .int .i64 kc.n, .string kc.s, .int .i64 kc.a] (by rfl) (by rfl) ?c1 ?c2 (by omega) ?c3 ?c4 ?c5 (wd.heap.size + 1) ?c6 ?_)
                  case c1 => exact World.news_of_block (heap_alloc_new wd _)
                  case c2 => intro v hv; simp at hv; rcases hv with rfl | rfl | rfl | rfl <;> rfl
                  case c3 => unfold maxLen; omega
                  case c4 => omega
                  case c5 => have := HBd.out.size; have := HB3s.out; simp; omega
                  case c6 => simp
                  intro g2 cap w7 hown7 hgrow7 hat7 hlt7
                  have hb7 : Below b3 (wd.alloc (.cells #[.int .i64 kc.k, .int .i64 kc.n, .string kc.s, .int .i64 kc.a] 24)) w7 := below_grown (HOd.out.alloc _) hgrow7 (by have := HBd.out.size; have := HB3s.out; simp; omega)
                  have HB7 : Hid (Below b3 w3 w7) := (HBd.out.alloc (by have := HBd.out.size; have := HB3s.out; omega) _).trans hb7
                  have HO7 : Hid (w7.ownsRow b3 24 4 (.slice (some ⟨g2, 0, none⟩) (ml + 1) cap) (Aw.dd SK (c + 1)).length (keyCells (Aw.dd SK (c + 1)))) := by
                    rw [HE.out, keyCells_snoc, List.length_append, HML.out]
                    exact hown7
                  clear hown7 hgrow7 hat7 hlt7 hb7
                  go_wp2
                  go_roundw
                  case rel => exact ⟨c + 1, by omega, by go_num, HO7, HB7⟩
                  case measure => simp [intOf]; omega
            · obtain rfl : N = c := by omega
              have HOe : Hid (wr.ownsRow w.heap.size 24 4 (.slice oa ml oc) (Aw.kidsOf (keys Ka La ++ keys Kb Lb)).length (keyCells (Aw.kidsOf (keys Ka La ++ keys Kb Lb)))) := by
                have e : Aw.dd SK N = Aw.kidsOf (keys Ka La ++ keys Kb Lb) := by
                  rw [← HSK.out, ← HN.out]
                  have := Aw.dd_kids HA.out HBk0.out (ls := ls) (by first | exact HSo.out)
                  exact this
                rw [← e, HML.out]
                exact owns_mono HO.out (by have := HB3.out.size; have := HB3s.out; omega)
              have HBe : Hid (Below w.heap.size w wr) := HB3.out.trans (HB.out.mono (by have := HB3.out.size; have := HB3s.out; omega))
              go_wp2
              go_ret
              exact ⟨⟨_, rfl, HOe.out⟩, HBe.out⟩

end Go.Proofs.Ytgflalfiopnmnaa

namespace Go.Proofs.Ytgflalfiopnmnaa
open Go.RowKit Vl Aw

/-- Couples with their paths, of the call's own making. -/
structure LTab (w : World) (base : Nat) (v : Value) (n : Nat) (f : Nat → Aw.E) (PV : Nat → Value) : Prop where
  own : w.ownsRow base 98 9 v n (twoCells f PV n)
  rows : ∀ j, j < n → w.ownsRow base 24 4 (PV j) (f j).p.length (keyCells (f j).p)

theorem LTab.below {w w' : World} {base : Nat} {v : Value} {n : Nat} {f : Nat → Aw.E} {PV : Nat → Value} (h : LTab w base v n f PV) (hb : Below w.heap.size w w') : LTab w' base v n f PV :=
  ⟨(Only.below (P := fun _ => False) hb).owns h.own (fun _ _ _ h => h), fun j hj => (Only.below (P := fun _ => False) hb).owns (h.rows j hj) (fun _ _ _ h => h)⟩

theorem LTab.cells {w : World} {base : Nat} {v : Value} {n : Nat} {f : Nat → Aw.E} {PV : Nat → Value} (h : LTab w base v n f PV) {j : Nat} (hj : j < n) : ∃ g cap, v = .slice (some ⟨g, 0, none⟩) n cap ∧ ∀ i y, (cell9 (f j) (PV j))[i]? = some y → w.cell? ⟨g, j * 9 + i, none⟩ = some y := by
  obtain ⟨g, cap, rfl, _⟩ := owns_cell h.own (k := j * 9 + 0) (y := .int .i64 (f j).a.k) (by rw [twoCells_at _ _ _ _ _ hj (by omega)]; rfl)
  refine ⟨g, cap, rfl, fun i y hy => ?_⟩
  have hi : i < 9 := by
    rcases Nat.lt_or_ge i 9 with h | h
    · exact h
    · rw [List.getElem?_eq_none (by simp; omega)] at hy; cases hy
  obtain ⟨g', cap', e, hc⟩ := owns_cell h.own (k := j * 9 + i) (y := y) (by rw [twoCells_at _ _ _ _ _ hj hi]; exact hy)
  cases e
  exact hc

/-- One couple more. -/
theorem LTab.more {w w1 : World} {base : Nat} {v v' pv : Value} {n : Nat} {f f' : Nat → Aw.E} {PV : Nat → Value} {e : Aw.E} (h : LTab w base v n f PV) (hf : ∀ j, j < n → f' j = f j) (he : f' n = e) (hp : w.ownsRow base 24 4 pv e.p.length (keyCells e.p)) (o : Obj) (hbz : base ≤ w.heap.size)
    (ho : w1.ownsRow base 98 9 v' (n + 1) (twoCells f PV n ++ cell9 e pv)) (hg : (w.alloc o).grownBy w1 v.ownBlock) :
    LTab w1 base v' (n + 1) f' (fun j => if j = n then pv else PV j) ∧ Below base w w1 ∧ (∀ v n xs, w.ownsRow base 24 4 v n xs → w1.ownsRow base 24 4 v n xs) ∧ ∀ k, k < w.heap.size → v.ownBlock ≠ some k → w1.heap[k]? = w.heap[k]? := by
  have keep : ∀ v n xs, w.ownsRow base 24 4 v n xs → w1.ownsRow base 24 4 v n xs := fun v n xs hr => by
    refine ⟨hr.1, ?_⟩
    rcases hr.2 with h2 | ⟨g, cap, cur, hv, hge, hh, r⟩
    · exact Or.inl h2
    · refine Or.inr ⟨g, cap, cur, hv, hge, ?_, r⟩
      rw [hg.block g (by have := lt_of_block hh; simp; omega) (fun e => ?_), Below.heap_alloc _ _ _ (lt_of_block hh)]
      · exact hh
      · obtain ⟨_, cur', h'⟩ := owns_type h.own e.symm
        rw [hh] at h'
        cases h'
  refine ⟨⟨?_, fun j hj => ?_⟩, ?_, keep, fun k hk hne => (hg.block k (by simp; omega) (fun e => hne e.symm)).trans (Below.heap_alloc _ _ _ hk)⟩
  · rw [twoCells_succ, he]
    have e1 : twoCells f' (fun j => if j = n then pv else PV j) n = twoCells f PV n := twoCells_congr (fun j hj => ⟨hf j hj, if_neg (by omega)⟩)
    rw [e1]
    simp only [if_true]
    exact ho
  · by_cases e' : j = n
    · subst e'; simp only [if_true]; rw [he]; exact keep _ _ _ hp
    · simp only [if_neg e']; rw [hf j (by omega)]; exact keep _ _ _ (h.rows j (by omega))
  · refine ⟨hg.os, hg.tape, hg.output, by have := hg.size; simp at this; omega, fun k hk => ?_⟩
    rw [hg.block k (by simp; omega) (fun e => ?_), Below.heap_alloc _ _ _ (by omega)]
    have := (owns_type h.own e.symm).1
    omega

theorem Try.infoTwo : (Try.prog.info? 98).map (fun i => (i.zero, i.size, i.bytes)) = some (some (.agg #[.int .i64 0, .int .i64 0, .string ⟨#[]⟩, .int .i64 0, .int .i64 0, .int .i64 0, .string ⟨#[]⟩, .int .i64 0, .slice none 0 0]), 9, 104) := by kernel_rfl

theorem own9 {w : World} {base n B : Nat} {v : Value} {xs : List Value} {c0 c1 c2 c3 c4 c5 c6 c7 c8 : Value} (h : w.ownsRow base 24 4 v n xs) (H : w.heap[B]? = some (.cells #[c0, c1, c2, c3, c4, c5, c6, c7, c8] 98 (0, 0))) (d0 d1 d2 d3 d4 d5 d6 d7 d8 : Value) :
    (((((((((w.setCell ⟨B, 0, none⟩ d0).setCell ⟨B, 1, none⟩ d1).setCell ⟨B, 2, none⟩ d2).setCell ⟨B, 3, none⟩ d3).setCell ⟨B, 4, none⟩ d4).setCell ⟨B, 5, none⟩ d5).setCell ⟨B, 6, none⟩ d6).setCell ⟨B, 7, none⟩ d7).setCell ⟨B, 8, none⟩ d8).ownsRow base 24 4 v n xs := by
  have ho : Only (fun k => k = B) w (((((((((w.setCell ⟨B, 0, none⟩ d0).setCell ⟨B, 1, none⟩ d1).setCell ⟨B, 2, none⟩ d2).setCell ⟨B, 3, none⟩ d3).setCell ⟨B, 4, none⟩ d4).setCell ⟨B, 5, none⟩ d5).setCell ⟨B, 6, none⟩ d6).setCell ⟨B, 7, none⟩ d7).setCell ⟨B, 8, none⟩ d8) :=
    ((((((((((Only.refl (fun k => k = B) w).set (p := ⟨B, 0, none⟩) rfl d0).set (p := ⟨B, 1, none⟩) rfl d1).set (p := ⟨B, 2, none⟩) rfl d2).set (p := ⟨B, 3, none⟩) rfl d3).set (p := ⟨B, 4, none⟩) rfl d4).set (p := ⟨B, 5, none⟩) rfl d5).set (p := ⟨B, 6, none⟩) rfl d6).set (p := ⟨B, 7, none⟩) rfl d7).set (p := ⟨B, 8, none⟩) rfl d8)
  refine ho.ownsB h (fun g hg e => ?_)
  obtain ⟨_, cur, hc⟩ := owns_type h hg
  rw [e, H] at hc
  cases hc

end Go.Proofs.Ytgflalfiopnmnaa

namespace Go.Proofs.Ytgflalfiopnmnaa
open Go.RowKit Vl

end Go.Proofs.Ytgflalfiopnmnaa
