import Derived.Test.YtgflalfiopnmnabGrEq
namespace Go.Proofs.Ytgflalfiopnmnab
open Go.RowKit Vl

set_option maxHeartbeats 1000000 in
set_option maxRecDepth 100000 in
/-- 'eqTable' of the same pairs. -/
theorem eqTable_same (pa pa' : Option Addr) (L C C' B O B' O' : Nat) (K X : Nat → V) (w : World) (hL : L ≤ 1048576) (HP : Hid (PairsAt w pa L B O K X)) (HP' : Hid (PairsAt w pa' L B' O' K X)) :
    Calls Try.prog 79 #[.agg #[.slice pa L C], .agg #[.slice pa' L C']] w fun e w' => e = .returned (.bool true) ∧ Below w.heap.size w w' := by
  have A2 : Hid _ := alloc2 w (.cells #[.slice pa L C] 61) (.cells #[.slice pa' L C'] 61)
  have h := eqPairS_same pa pa' L C C' B O B' O' K X _ hL (HP.out.below A2.out.2.2.2) (HP'.out.below A2.out.2.2.2)
  have HB : Hid (Below w.heap.size w ((w.alloc (.cells #[.slice pa L C] 61)).alloc (.cells #[.slice pa' L C'] 61))) := A2.out.2.2.2
  clear A2
  go_enter Try.func79, Try.ntmps79
  go_wp2_with fail
  refine h.mono ?_
  clear h
  rintro e w1 ⟨rfl, hb1⟩
  have HW1 : Hid (Below w.heap.size w w1) := grw HB.out hb1
  clear hb1 HB
  go_wp2
  go_ret
  exact ⟨rfl, HW1.out⟩

theorem keep2c {w0 w w' : World} {B o B' o' : Nat} {u v : Value}
    (h : w.cell? ⟨B, o, none⟩ = some u ∧ w.cell? ⟨B', o', none⟩ = some v ∧ Hid (Below w0.heap.size w0 w)) (hb : Below w.heap.size w w') : w'.cell? ⟨B, o, none⟩ = some u ∧ w'.cell? ⟨B', o', none⟩ = some v ∧ Hid (Below w0.heap.size w0 w') :=
  ⟨(hb.cell (p := ⟨B, o, none⟩) (World.block_lt_of_cell? _ _ h.1)).trans h.1, (hb.cell (p := ⟨B', o', none⟩) (World.block_lt_of_cell? _ _ h.2.1)).trans h.2.1, grw h.2.2.out hb⟩

set_option maxHeartbeats 1000000 in
set_option maxRecDepth 100000 in
/-- 'eqTableS' of the same tables. -/
theorem eqTableS_same (ta ta' : Option Addr) (n cp cp' TB TO TB' TO' : Nat) (A A' : Nat → Option Addr) (L C C' RB RO RB' RO' : Nat → Nat) (K X : Nat → Nat → V) (w : World) (hn : n ≤ 1048576) (HS : Hid (Small 1048576 n L K X))
    (HT : Hid (TabsAt w ta n TB TO A L C RB RO K X)) (HT' : Hid (TabsAt w ta' n TB' TO' A' L C' RB' RO' K X)) :
    Calls Try.prog 48 #[.slice ta n cp, .slice ta' n cp'] w fun e w' => e = .returned (.bool true) ∧ Below w.heap.size w w' := by
  have hne : ((n : Int) != (n : Int)) = false := by simp
  go_enter Try.func48, Try.ntmps48
  go_wp2
  clear hne
  go_loopw [5] (fun i wr => ∃ c : Nat, c ≤ n ∧ i = .int .i64 c ∧ Hid (Below w.heap.size w wr)) (fun i _ => n - (intOf i).toNat)
  case atStart => exact ⟨0, Nat.zero_le _, rfl, Below.refl _ _⟩
  case round =>
    obtain ⟨c, hc, rfl, HW⟩ := hrel
    by_cases hlt : c < n
    · obtain rfl := HT.out.top (by omega)
      obtain rfl := HT'.out.top (by omega)
      have t0 := (HT.out.below HW.out).tab c hlt
      have t1 := (HT'.out.below HW.out).tab c hlt
      have HE : Hid (∀ w', Below wr.heap.size wr w' → Calls Try.prog 79 #[.agg #[.slice (A c) (L c) (C c)], .agg #[.slice (A' c) (L c) (C' c)]] w' fun e w'' => e = .returned (.bool true) ∧ Below w'.heap.size w' w'') := show ∀ w', _ from fun w' hb' =>
        eqTable_same (A c) (A' c) (L c) (C c) (C' c) (RB c) (RO c) (RB' c) (RO' c) (K c) (X c) w' (HS.out c hlt).1 ((HT.out.below (grw HW.out hb')).row c hlt) ((HT'.out.below (grw HW.out hb')).row c hlt)
      go_wp2
      go_region_held3 (fun w' => w'.cell? ⟨TB, TO + c, none⟩ = some (.slice (A c) (L c) (C c)) ∧ w'.cell? ⟨TB', TO' + c, none⟩ = some (.slice (A' c) (L c) (C' c)) ∧ Hid (Below w.heap.size w w'))
        (first | exact keep2c ‹_ ∧ _› hb1 | exact ⟨t0, t1, HW.out.drew⟩)
        ((go_at_call 79; refine (HE.out _ ((Below.refl _ _).drew)).mono ?_; rintro e w1 ⟨rfl, hb1⟩))
      rename_i hS
      have HW1 := hS.2.2
      clear hS hb1 t0 t1 HE HW
      go_wp2
      go_roundw
      case rel => exact ⟨c + 1, by omega, by go_num, HW1⟩
      case measure => simp [intOf]; omega
    · go_wp2
      go_ret
      exact ⟨rfl, HW.out⟩

set_option maxHeartbeats 1000000 in
set_option maxRecDepth 100000 in
/-- 'eqGraph' of the same graphs. -/
theorem eqGraph_same (u : V) (ta ta' : Option Addr) (n cp cp' TB TO TB' TO' : Nat) (A A' : Nat → Option Addr) (L C C' RB RO RB' RO' : Nat → Nat) (K X : Nat → Nat → V) (w : World) (hn : n ≤ 1048576) (HS : Hid (Small 1048576 n L K X))
    (HT : Hid (TabsAt w ta n TB TO A L C RB RO K X)) (HT' : Hid (TabsAt w ta' n TB' TO' A' L C' RB' RO' K X)) :
    Calls Try.prog 15 #[.agg #[.int .i64 u.k, .int .i64 u.n, .string u.s, .int .i64 u.a, .slice ta n cp], .agg #[.int .i64 u.k, .int .i64 u.n, .string u.s, .int .i64 u.a, .slice ta' n cp']] w fun e w' => e = .returned (.bool true) ∧ Below w.heap.size w w' := by
  have A2 : Hid _ := alloc2 w (.cells #[.int .i64 u.k, .int .i64 u.n, .string u.s, .int .i64 u.a, .slice ta n cp] 32) (.cells #[.int .i64 u.k, .int .i64 u.n, .string u.s, .int .i64 u.a, .slice ta' n cp'] 32)
  go_enter Try.func15, Try.ntmps15
  go_wp2_with fail
  refine (eqVal_same u _).mono ?_
  rintro e w1 ⟨rfl, hb1⟩
  obtain ⟨p0, p1, ps, pb⟩ := A2.out
  have P0 : Hid (w1.heap[w.heap.size]? = some (.cells #[.int .i64 u.k, .int .i64 u.n, .string u.s, .int .i64 u.a, .slice ta n cp] 32 (0, 0))) := (hb1.block _ (by omega)).trans p0
  have P1 : Hid (w1.heap[w.heap.size + 1]? = some (.cells #[.int .i64 u.k, .int .i64 u.n, .string u.s, .int .i64 u.a, .slice ta' n cp'] 32 (0, 0))) := (hb1.block _ (by omega)).trans p1
  have HW1 : Hid (Below w.heap.size w w1) := grw pb hb1
  clear hb1 p0 p1 ps pb A2
  obtain ⟨c0, c1, c2, c3, c4, _⟩ := cells5 P0.out
  obtain ⟨d0, d1, d2, d3, d4, _⟩ := cells5 P1.out
  have h := eqTableS_same ta ta' n cp cp' TB TO TB' TO' A A' L C C' RB RO RB' RO' K X w1 hn HS (HT.out.below HW1.out) (HT'.out.below HW1.out)
  go_wp2_with fail
  refine h.mono ?_
  clear h
  rintro e w2 ⟨rfl, hb2⟩
  have HW2 : Hid (Below w.heap.size w w2) := grw HW1.out hb2
  clear hb2 P0 P1 HW1 c0 c1 c2 c3 c4 d0 d1 d2 d3 d4
  go_wp2
  go_ret
  exact ⟨rfl, HW2.out⟩

end Go.Proofs.Ytgflalfiopnmnab
