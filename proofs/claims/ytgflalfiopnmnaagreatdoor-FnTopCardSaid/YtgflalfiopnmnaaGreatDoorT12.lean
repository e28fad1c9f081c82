import Derived.Test.YtgflalfiopnmnaaGreatDoorT0
import Derived.Test.YtgflalfiopnmnaaGreatDoorT11
import Derived.Test.YtgflalfiopnmnaaGreatDoorT1
import Derived.Test.YtgflalfiopnmnaaGreatDoorT2
import Derived.Test.YtgflalfiopnmnaaGreatDoorT10
import Derived.Test.YtgflalfiopnmnaaGreatDoorT3
import Derived.Test.YtgflalfiopnmnaaGreatDoorT9
namespace Go.Proofs.YtgflalfiopnmnaaGreatDoor
open Go.RowKit Vl

theorem itoaH (v : Int) : ∃ b r, Lib.itoa v = b :: r ∧ (b.toNat = 45 ∨ 48 ≤ b.toNat ∧ b.toNat ≤ 57) := by
  unfold Lib.itoa
  split
  · exact ⟨_, _, rfl, Or.inl rfl⟩
  · obtain ⟨b, r, e, _⟩ := decH v.toNat
    exact ⟨b, r, e, Or.inr (dec_dig v.toNat b (by rw [e]; simp))⟩

abbrev sTrue : ByteArray := ⟨#[116, 114, 117, 101]⟩
abbrev sFalse : ByteArray := ⟨#[102, 97, 108, 115, 101]⟩
abbrev sNil : ByteArray := ⟨#[110, 105, 108]⟩

set_option maxHeartbeats 2000000 in
set_option maxRecDepth 100000 in
theorem key_any (R p LM tb : Nat) (s : ByteArray) (v : V) (T : Nat → Nat) (w : World) (hmax : s.size ≤ 20000) (hk : v.k = 1 ∨ v.k = 2 ∨ v.k = 3) (hs : shortV v) (HN : Hid (Nx s p (plT v))) (HE : Hid (NoD s (p + (plT v).length))) (H : Hid (RdB w R s p LM tb)) :
    Calls Tryz.prog 105 #[pR R] w fun e w' => e = .returned (.tuple #[ifv T v, .nilIface]) ∧ Stp w w' R s (p + (plT v).length) LM tb := by
  obtain ⟨k, n, x, a⟩ := v
  simp only at hk
  rcases hk with rfl | rfl | rfl
  · by_cases h1 : n = 1
    · subst h1
      have e1 : plT ⟨1, 1, x, a⟩ = tTrue := by simp [plT]
      have e2 : ifv T ⟨1, 1, x, a⟩ = .iface 232 (.agg #[.bool true]) := by simp [ifv]
      rw [e1] at HN HE ⊢
      rw [e2]
      have hp := HN.out.hd.2.1
      have hpk := peek_any R p LM tb s w (by omega) H
      rw [HN.out.hd.1] at hpk
      have HN' : Hid (Nx s p sTrue.data.toList) := HN
      go_enter Tryz.func105, Tryz.ntmps105
      go_wp2_with (go_at_call 101; refine hpk.mono ?_)
      try simp only [and_imp]
      rintro e w1 rfl h1
      have HS1 : Hid (Stp w w1 R s p LM tb) := H.out.stp h1
      clear hpk h1
      go_wp2_with (go_at_call 102; refine (expect_any R p LM tb s sTrue w1 hmax (by decide) HN' HS1.out.rd).mono ?_)
      rintro e w2 ⟨rfl, h2⟩
      have HS2 : Hid (Stp w w2 R s (p + 4) LM tb) := HS1.out.trans h2
      clear h2
      go_wp2
      go_ret2
      exact ⟨rfl, HS2.out⟩
    · have e1 : plT ⟨1, n, x, a⟩ = tFalse := by simp [plT, h1]
      have e2 : ifv T ⟨1, n, x, a⟩ = .iface 232 (.agg #[.bool false]) := by simp [ifv, h1]
      rw [e1] at HN HE ⊢
      rw [e2]
      have hp := HN.out.hd.2.1
      have hpk := peek_any R p LM tb s w (by omega) H
      rw [HN.out.hd.1] at hpk
      have HN' : Hid (Nx s p sFalse.data.toList) := HN
      clear h1 e1 e2
      go_enter Tryz.func105, Tryz.ntmps105
      go_wp2_with (go_at_call 101; refine hpk.mono ?_)
      try simp only [and_imp]
      rintro e w1 rfl h1
      have HS1 : Hid (Stp w w1 R s p LM tb) := H.out.stp h1
      clear hpk h1
      go_wp2_with (go_at_call 102; refine (expect_any R p LM tb s sFalse w1 hmax (by decide) HN' HS1.out.rd).mono ?_)
      rintro e w2 ⟨rfl, h2⟩
      have HS2 : Hid (Stp w w2 R s (p + 5) LM tb) := HS1.out.trans h2
      clear h2
      go_wp2
      go_ret2
      exact ⟨rfl, HS2.out⟩
  · have e1 : plT ⟨2, n, x, a⟩ = Lib.itoa n := by simp [plT]
    have e2 : ifv T ⟨2, n, x, a⟩ = .iface 234 (.agg #[.int .i64 n]) := by simp [ifv]
    rw [e1] at HN HE ⊢
    rw [e2]
    obtain ⟨b, r, eb, hb⟩ := itoaH n
    have hN := HN.out
    rw [eb] at hN
    have hp := hN.hd.2.1
    have hpk := peek_any R p LM tb s w (by omega) H
    rw [hN.hd.1] at hpk
    have hnum := fun w1 h => number_any R p LM tb s n w1 hmax (by omega) hs.2.1 hs.2.2 HN HE h
    have hdg := isDigit_any b.toNat
    obtain ⟨z, hz⟩ : ∃ z, p + (Lib.itoa n).length = z := ⟨_, rfl⟩
    rw [hz] at hnum ⊢
    obtain ⟨b0, hb0⟩ : ∃ b0, b.toNat = b0 := ⟨_, rfl⟩
    rw [hb0] at hb hpk hdg
    have n1 : ¬ ((b0 : Int) = 116) := by omega
    have n2 : ¬ ((b0 : Int) = 102) := by omega
    have n3 : ¬ ((b0 : Int) = 34) := by omega
    clear hN hz hb0 e1 e2 eb
    go_enter Tryz.func105, Tryz.ntmps105
    go_wp2_with (go_at_call 101; refine hpk.mono ?_)
    try simp only [and_imp]
    rintro e w1 rfl h1
    have HS1 : Hid (Stp w w1 R s p LM tb) := H.out.stp h1
    clear hpk h1
    have hn1 := hnum w1 HS1.out.rd
    clear hnum
    by_cases h45 : b0 = 45
    · have g45 : (b0 : Int) = 45 := by omega
      clear hdg hb n1 n2 n3
      subst h45
      go_wp2_with (go_at_call 136; refine hn1.mono ?_)
      try simp only [and_imp]
      rintro e w2 rfl h2
      have HS2 : Hid (Stp w w2 R s z LM tb) := HS1.out.trans h2
      clear h2 hn1
      go_wp2
      go_ret2
      exact ⟨rfl, HS2.out⟩
    · have n4 : ¬ ((b0 : Int) = 45) := by omega
      rw [decide_eq_true (show 48 ≤ b0 ∧ b0 ≤ 57 by omega)] at hdg
      have hd1 := hdg w1
      clear hdg hb h45
      go_wp2_with (go_at_call 135; refine hd1.mono ?_)
      try simp only [and_imp]
      rintro e w1' rfl rfl
      clear hd1
      go_wp2_with (go_at_call 136; refine hn1.mono ?_)
      try simp only [and_imp]
      rintro e w2 rfl h2
      have HS2 : Hid (Stp w w2 R s z LM tb) := HS1.out.trans h2
      clear h2 hn1
      go_wp2
      go_ret2
      exact ⟨rfl, HS2.out⟩
  · have e1 : plT ⟨3, n, x, a⟩ = quT x := by simp [plT]
    have e2 : ifv T ⟨3, n, x, a⟩ = .iface 236 (.agg #[.string x]) := by simp [ifv]
    rw [e1] at HN HE ⊢
    rw [e2]
    have hp := HN.out.hd.2.1
    have hpk := peek_any R p LM tb s w (by omega) H
    rw [HN.out.hd.1] at hpk
    have hq := fun w1 h => quoted_any R p LM tb s x w1 hmax hs.1 HN h
    obtain ⟨z, hz⟩ : ∃ z, p + (quT x).length = z := ⟨_, rfl⟩
    rw [hz] at hq ⊢
    clear hz e1 e2
    go_enter Tryz.func105, Tryz.ntmps105
    go_wp2_with (go_at_call 101; refine hpk.mono ?_)
    try simp only [and_imp]
    rintro e w1 rfl h1
    have HS1 : Hid (Stp w w1 R s p LM tb) := H.out.stp h1
    clear hpk h1
    have hn1 := hq w1 HS1.out.rd
    clear hq
    go_wp2_with (go_at_call 134; refine hn1.mono ?_)
    try simp only [and_imp]
    rintro e w2 rfl h2
    have HS2 : Hid (Stp w w2 R s z LM tb) := HS1.out.trans h2
    clear h2 hn1
    go_wp2
    go_ret2
    exact ⟨rfl, HS2.out⟩

theorem plH {v : V} (hk : v.k = 1 ∨ v.k = 2 ∨ v.k = 3) : ∃ b r, plT v = b :: r ∧ b.toNat ≠ 110 ∧ b.toNat ≠ 123 ∧ b.toNat ≠ 35 ∧ b.toNat ≠ 32 ∧ b.toNat ≠ 10 ∧ b.toNat ≠ 125 := by
  obtain ⟨k, n, x, a⟩ := v
  simp only at hk
  rcases hk with rfl | rfl | rfl
  · by_cases h1 : n = 1
    · exact ⟨116, _, by simp [plT, h1, tTrue]; rfl, by decide⟩
    · exact ⟨102, _, by simp [plT, h1, tFalse]; rfl, by decide⟩
  · obtain ⟨b, r, e, hb⟩ := itoaH n
    exact ⟨b, r, by simp [plT, e], by omega, by omega, by omega, by omega, by omega, by omega⟩
  · exact ⟨34, _, by simp [plT, quT]; rfl, by decide⟩

set_option maxHeartbeats 2000000 in
set_option maxRecDepth 100000 in
theorem valueP_any (R p LM tb : Nat) (s : ByteArray) (v : V) (T : Nat → Nat) (w : World) (hmax : s.size ≤ 20000) (hk : v.k = 0 ∨ v.k = 1 ∨ v.k = 2 ∨ v.k = 3) (hs : shortV v) (HN : Hid (Nx s p (plT v))) (HE : Hid (NoD s (p + (plT v).length))) (H : Hid (RdB w R s p LM tb)) :
    Calls Tryz.prog 63 #[pR R] w fun e w' => e = .returned (.tuple #[ifv T v, .nilIface]) ∧ Stp w w' R s (p + (plT v).length) LM tb := by
  rcases hk with hk | hk
  · have e1 : plT v = tNil := by simp [plT, hk]
    have e2 : ifv T v = .iface 180 (.agg #[]) := by simp [ifv, hk]
    rw [e1] at HN HE ⊢
    rw [e2]
    have hp := HN.out.hd.2.1
    have hpk := peek_any R p LM tb s w (by omega) H
    rw [HN.out.hd.1] at hpk
    have HN' : Hid (Nx s p sNil.data.toList) := HN
    clear e1 e2 hk hs
    go_enter Tryz.func63, Tryz.ntmps63
    go_wp2_with (go_at_call 101; refine hpk.mono ?_)
    try simp only [and_imp]
    rintro e w1 rfl h1
    have HS1 : Hid (Stp w w1 R s p LM tb) := H.out.stp h1
    clear hpk h1
    go_wp2_with (go_at_call 102; refine (expect_any R p LM tb s sNil w1 hmax (by decide) HN' HS1.out.rd).mono ?_)
    rintro e w2 ⟨rfl, h2⟩
    have HS2 : Hid (Stp w w2 R s (p + 3) LM tb) := HS1.out.trans h2
    clear h2
    go_wp2
    go_ret2
    exact ⟨rfl, HS2.out⟩
  · obtain ⟨b, r, eb, b1, b2, b3, _⟩ := plH hk
    have hN := HN.out
    rw [eb] at hN
    have hp := hN.hd.2.1
    have hpk := peek_any R p LM tb s w (by omega) H
    rw [hN.hd.1] at hpk
    have hq := fun w1 h => key_any R p LM tb s v T w1 hmax hk hs HN HE h
    obtain ⟨z, hz⟩ : ∃ z, p + (plT v).length = z := ⟨_, rfl⟩
    rw [hz] at hq ⊢
    obtain ⟨b0, hb0⟩ : ∃ b0, b.toNat = b0 := ⟨_, rfl⟩
    rw [hb0] at hpk b1 b2 b3
    have n1 : ¬ ((b0 : Int) = 110) := by omega
    have n2 : ¬ ((b0 : Int) = 123) := by omega
    have n3 : ¬ ((b0 : Int) = 35) := by omega
    obtain ⟨y, hy⟩ : ∃ y, ifv T v = y := ⟨_, rfl⟩
    rw [hy] at hq ⊢
    clear hz hN eb hy hk hs hb0 b1 b2 b3
    go_enter Tryz.func63, Tryz.ntmps63
    go_wp2_with (go_at_call 101; refine hpk.mono ?_)
    try simp only [and_imp]
    rintro e w1 rfl h1
    have HS1 : Hid (Stp w w1 R s p LM tb) := H.out.stp h1
    clear hpk h1
    have hn1 := hq w1 HS1.out.rd
    clear hq
    go_wp2_with (go_at_call 105; refine hn1.mono ?_)
    try simp only [and_imp]
    rintro e w2 rfl h2
    have HS2 : Hid (Stp w w2 R s z LM tb) := HS1.out.trans h2
    clear h2 hn1
    go_wp2
    go_ret2
    exact ⟨rfl, HS2.out⟩

end Go.Proofs.YtgflalfiopnmnaaGreatDoor

namespace Go.Proofs.YtgflalfiopnmnaaGreatDoor
open Go.RowKit Vl

structure PutEnd2 (w w' : World) (T M base : Nat) (i : Int) (ord : Value) (ks : List V) (l : List (V × Value)) (v : V) (x : Value) : Prop where
  tab : ∃ ord', TabB w' T M i ord' ∧ w'.ownsRow base 24 4 ord' (ks ++ [v]).length (keyCells (ks ++ [v])) ∧ ∀ k, ord'.ownBlock = some k → ord.ownBlock = some k ∨ w.heap.size ≤ k
  map : MapIs w' M (l ++ [(v, x)])
  only : Only (fun k => k = T ∨ k = M ∨ ord.ownBlock = some k) w w'

theorem put_end2 {w w1 w3 : World} {T M base g cap : Nat} {i : Int} {ord x : Value} {ks : List V} {l : List (V × Value)} {v : V} {o : Obj} (hO1 : Only (fun k => k = M) w w1) (hT1 : TabB w1 T M i ord) (hM1 : MapIs w1 M (l ++ [(v, x)]))
    (hTM : T ≠ M) (hTo : ord.ownBlock ≠ some T) (hMo : ord.ownBlock ≠ some M) (hgrow : (w1.alloc o).drew.grownBy w3 ord.ownBlock)
    (hown : w3.ownsRow base 24 4 (.slice (some ⟨g, 0, none⟩) (ks.length + 1) cap) (ks.length + 1) (keyCells ks ++ [.int .i64 v.k, .int .i64 v.n, .string v.s, .int .i64 v.a])) (hat : ord.ownBlock = some g ∨ g = w1.heap.size + 1) :
    (w3.cell? ⟨T, 2, none⟩ = some ord ∧ ∀ j, w3.frozen? ⟨T, j, none⟩ = false) ∧ PutEnd2 w (w3.setCell ⟨T, 2, none⟩ (.slice (some ⟨g, 0, none⟩) (ks.length + 1) cap)) T M base i ord ks l v x := by
  have hsz : w.heap.size ≤ w1.heap.size := hO1.size
  have hTl : T < w1.heap.size := blk_lt hT1
  have hk : ∀ k, k < w1.heap.size → ord.ownBlock ≠ some k → w3.heap[k]? = w1.heap[k]? := fun k hk h => (hgrow.block k (by show k < (w1.alloc o).heap.size; simp; omega) (fun e => h e.symm)).trans (Below.heap_alloc w1 o k hk)
  have hT3 : TabB w3 T M i ord := (hk T hTl hTo).trans hT1
  have hc := hT3.cells
  have hgT : g ≠ T := by
    rcases hat with h | h
    · intro e; exact hTo (by rw [h, e])
    · omega
  refine ⟨⟨hc.2.2.1, hc.2.2.2⟩, ⟨_, hT3.put _, ?_, ?_⟩, ?_, ?_⟩
  · have e : (ks ++ [v]).length = ks.length + 1 := by simp
    have e2 : keyCells (ks ++ [v]) = keyCells ks ++ [.int .i64 v.k, .int .i64 v.n, .string v.s, .int .i64 v.a] := by simp [keyCells]
    rw [e, e2]
    exact ownsRow_setCell_other (a := ⟨T, 2, none⟩) hown (by simp only [Value.ownBlock, ne_eq, Option.some.injEq]; exact hgT) _
  · intro k hk'
    simp only [Value.ownBlock, Option.some.injEq] at hk'
    rcases hat with h | h
    · exact Or.inl (by rw [h, hk'])
    · exact Or.inr (by omega)
  · exact hM1.same ((Below.heap_setCell _ _ _ _ (show M ≠ T from fun e => hTM e.symm)).trans (hk M hM1.lt hMo))
  · refine ⟨(by exact hgrow.os.trans hO1.os), (by exact hgrow.tape.trans hO1.tape), (by exact hgrow.output.trans hO1.output), ?_, fun k hk' hP => ?_⟩
    · simp only [World.setCell, Array.size_modify]
      have h4 : (w1.alloc o).heap.size ≤ w3.heap.size := hgrow.size
      simp at h4
      omega
    · have h1 : k ≠ T := fun e => hP (Or.inl e)
      have h2 : k ≠ M := fun e => hP (Or.inr (Or.inl e))
      rw [Below.heap_setCell _ _ _ _ (show k ≠ T from h1), hk k (by omega) (fun e => hP (Or.inr (Or.inr e))), hO1.block k hk' h2]

set_option maxHeartbeats 1000000 in
set_option maxRecDepth 100000 in
theorem put2_any (T M base : Nat) (i : Int) (ord x : Value) (ks : List V) (l : List (V × Value)) (v : V) (w : World) (HT : Hid (TabB w T M i ord)) (HM : Hid (MapIs w M l)) (hf : findV v l = none)
    (HO : Hid (w.ownsRow base 24 4 ord ks.length (keyCells ks))) (hTM : T ≠ M) (hTo : Hid (ord.ownBlock ≠ some T)) (hMo : Hid (ord.ownBlock ≠ some M)) (hbase : base ≤ w.heap.size) (hks : ks.length ≤ 1000) :
    Calls Tryz.prog 89 #[.pointer (some ⟨T, 0, none⟩), .agg #[.int .i64 v.k, .int .i64 v.n, .string v.s, .int .i64 v.a], x] w fun e w' => e = .returned (.tuple #[]) ∧ PutEnd2 w w' T M base i ord ks l v x := by
  obtain ⟨w0, hw0⟩ : ∃ w0, w0 = w.alloc (.cells #[.int .i64 v.k, .int .i64 v.n, .string v.s, .int .i64 v.a] 24) := ⟨_, rfl⟩
  have HB : Hid (Below w.heap.size w w0) := by rw [hw0]; exact (Below.refl _ _).alloc (Nat.le_refl _) _
  have HV : Hid (ValAt w0 w.heap.size 0 v.k v.n v.s v.a) := by rw [hw0]; exact ValAt.new w v.k v.n v.s v.a
  have hT0 : TabB w0 T M i ord := (HB.out.block T (blk_lt HT.out)).trans HT.out
  have hM0 : MapIs w0.drew M l := HM.out.same (HB.out.block M HM.out.lt)
  obtain ⟨w1, m1, hM1, hO1, hs1⟩ := hM0.update v x hf
  obtain ⟨t0, t1, t2, _⟩ := hT0.cells
  have c0 := HV.out.1; have c1 := HV.out.2.1; have c2 := HV.out.2.2.1; have c3 := HV.out.2.2.2
  simp only [Nat.zero_add] at c1 c2 c3
  have hMw : w.heap.size ≠ M := by have := HM.out.lt; omega
  have hTw : w.heap.size ≠ T := by have := blk_lt HT.out; omega
  have S0 : Hid (w0.drew.cell? ⟨T, 1, none⟩ = some (.map (some M)) ∧ w0.drew.cell? ⟨w.heap.size, 0, none⟩ = some (.int .i64 v.k) ∧ w0.drew.cell? ⟨w.heap.size, 1, none⟩ = some (.int .i64 v.n) ∧ w0.drew.cell? ⟨w.heap.size, 2, none⟩ = some (.string v.s) ∧ w0.drew.cell? ⟨w.heap.size, 3, none⟩ = some (.int .i64 v.a)) := show _ ∧ _ from ⟨t1, c0, c1, c2, c3⟩
  have S1 : Hid (w1.cell? ⟨T, 1, none⟩ = some (.map (some M)) ∧ w1.cell? ⟨w.heap.size, 0, none⟩ = some (.int .i64 v.k) ∧ w1.cell? ⟨w.heap.size, 1, none⟩ = some (.int .i64 v.n) ∧ w1.cell? ⟨w.heap.size, 2, none⟩ = some (.string v.s) ∧ w1.cell? ⟨w.heap.size, 3, none⟩ = some (.int .i64 v.a)) := show _ ∧ _ from
    ⟨hO1.cell S0.out.1 hTM, hO1.cell S0.out.2.1 hMw, hO1.cell S0.out.2.2.1 hMw, hO1.cell S0.out.2.2.2.1 hMw, hO1.cell S0.out.2.2.2.2 hMw⟩
  have HM1 : Hid (MapIs w1 M (l ++ [(v, x)])) := hM1
  have HO1 : Hid (Only (fun k => k = M) w w1) := (Only.below HB.out.drew).trans hO1
  have HT1 : Hid (TabB w1 T M i ord) := (hO1.block T (blk_lt hT0) hTM).trans hT0
  have HR1 : Hid (w1.ownsRow base 24 4 ord ks.length (keyCells ks)) := HO1.out.ownsB HO.out (fun g hg e => hMo.out (by rw [hg, e]))
  have HS1 : Hid (w1.heap.size = w0.heap.size) := hs1
  have HNB : Hid (some w.heap.size ≠ ord.ownBlock) := by
    show some w.heap.size ≠ ord.ownBlock
    rcases HO.out.2 with ⟨rfl, _⟩ | ⟨g, cap, cur, rfl, hgb, hh, _⟩
    · simp [Value.ownBlock]
    · have := blk_lt hh
      simp only [Value.ownBlock, ne_eq, Option.some.injEq]
      omega
  clear hM1 hO1 hs1 hM0 HO HM HT hT0
  go_enter Tryz.func89, Tryz.ntmps89
  go_wp2
  rw [← hw0]
  have hsz0 : Hid (w0.heap.size = w.heap.size + 1) := by rw [hw0]; exact (by simp : (w.alloc _).heap.size = w.heap.size + 1)
  clear hw0
  go_region_held3 (fun w' => w'.cell? ⟨T, 1, none⟩ = some (.map (some M)) ∧ w'.cell? ⟨w.heap.size, 0, none⟩ = some (.int .i64 v.k) ∧ w'.cell? ⟨w.heap.size, 1, none⟩ = some (.int .i64 v.n) ∧ w'.cell? ⟨w.heap.size, 2, none⟩ = some (.string v.s) ∧ w'.cell? ⟨w.heap.size, 3, none⟩ = some (.int .i64 v.a))
    (first | with_reducible exact S1.out | with_reducible exact S0.out | exact S0.out)
    (fail)
  clear S0 m1 t0 t1 t2 c0 c1 c2 c3
  obtain ⟨i0, hi, hz0, hz1, hz2⟩ := info_parts Tryz.info24
  obtain ⟨_, c0, c1, c2, c3⟩ := id S1.out
  obtain ⟨_, _, t2, z2⟩ := HT1.out.cells
  have hTlt : T < w1.heap.size := blk_lt HT1.out
  have hslt : w.heap.size < w1.heap.size := by have := HS1.out; have := hsz0.out; omega
  go_wp2
  refine wp_region_held_drew (S := fun w' => w'.cell? ⟨w.heap.size, 0, none⟩ = some (.int .i64 v.k) ∧ w'.cell? ⟨w.heap.size, 1, none⟩ = some (.int .i64 v.n) ∧ w'.cell? ⟨w.heap.size, 2, none⟩ = some (.string v.s) ∧ w'.cell? ⟨w.heap.size, 3, none⟩ = some (.int .i64 v.a)) (by kernel_rfl) ⟨c0, c1, c2, c3⟩ (fun hHeld => ?_)
  refine wpT (i := 0) (v := .pointer (some ⟨T, 0, none⟩)) rfl (fun w hSw => ?_) hHeld ?_
  · first | rfl | (obtain ⟨s1, s2, s3, s4⟩ := hSw; go_simp)
  simp only [Act.put, pz]
  refine wpT (i := 1) (v := .pointer (some ⟨T, 0, none⟩)) rfl (fun w hSw => ?_) hHeld ?_
  · first | rfl | (obtain ⟨s1, s2, s3, s4⟩ := hSw; go_simp)
  simp only [Act.put, pz]
  refine wpT (i := 2) (v := .pointer (some ⟨T, 0, none⟩)) rfl (fun w hSw => ?_) hHeld ?_
  · first | rfl | (obtain ⟨s1, s2, s3, s4⟩ := hSw; go_simp)
  simp only [Act.put, pz]
  refine wpT (i := 3) (v := .pointer (some ⟨T, 2, none⟩)) rfl (fun w hSw => ?_) hHeld ?_
  · first | rfl | (obtain ⟨s1, s2, s3, s4⟩ := hSw; go_simp)
  simp only [Act.put, pz]
  refine wpT (i := 5) (v := .agg #[.int .i64 v.k, .int .i64 v.n, .string v.s, .int .i64 v.a]) rfl (fun w hSw => ?_) hHeld ?_
  · first | rfl | (obtain ⟨s1, s2, s3, s4⟩ := hSw; go_simp)
  simp only [Act.put, pz]
  refine wpAnyH_ready (rs := [4, 6]) (by kernel_rfl) (by simp) ?_
  refine AllReadyH.cons rfl (fun K' hK' => ?_) (AllReadyH.cons rfl (fun K' hK' => ?_) AllReadyH.nil)
  · go_simp
    refine hK'.out _ _ ⟨c0, c1, c2, c3⟩ (fun hHeld => ?_)
    clear hK'
    refine wpAnyH_ready (rs := [6]) (by kernel_rfl) (by simp) ?_
    refine AllReadyH.cons rfl (fun K' hK' => ?_) AllReadyH.nil
    go_simp
    refine hK'.out _ _ ?_ (fun hHeld => ?_)
    · exact ValAt.below (o := 0) (w := w1) ⟨c0, c1, c2, c3⟩ ((Below.refl _ _).alloc (Nat.le_refl _) _).drew
    clear hK'
    refine wpAnyH_ready (rs := [7]) (by kernel_rfl) (by simp) ?_
    refine AllReadyH.cons rfl (fun K' hK' => ?_) AllReadyH.nil
    refine step_append_lies _ (by rfl) (.tmp 16) (.tmp 18) 42 (by rfl) base 24 i0 (.agg #[.int .i64 0, .int .i64 0, .string ⟨#[]⟩, .int .i64 0]) 4 40 Tryz.underlying42 hi hz0 hz1 hz2 (by rfl) (by omega) ord ks.length (keyCells ks) (by rfl) ((HR1.out.alloc _).drew) ⟨w1.heap.size, 0, none⟩ 1 1 [.int .i64 v.k, .int .i64 v.n, .string v.s, .int .i64 v.a] (by rfl) (by rfl) (World.news_of_block (w := (w1.alloc _).drew) (heap_alloc_new w1 _)) (by intro u hu; simp at hu; rcases hu with rfl | rfl | rfl | rfl <;> rfl) (by omega) (by unfold maxLen; omega) (by omega) (by simp; omega) (w1.heap.size + 1) (by simp) ?_
    intro g cap w3 hown3 hgrow3 hat hlt
    have PE := put_end2 HO1.out HT1.out HM1.out hTM hTo.out hMo.out hgrow3 hown3 hat
    have S3 : w3.cell? ⟨w.heap.size, 0, none⟩ = some (.int .i64 v.k) ∧ w3.cell? ⟨w.heap.size, 1, none⟩ = some (.int .i64 v.n) ∧ w3.cell? ⟨w.heap.size, 2, none⟩ = some (.string v.s) ∧ w3.cell? ⟨w.heap.size, 3, none⟩ = some (.int .i64 v.a) := by
      have hh := hHeld
      have hl : w.heap.size < (w1.alloc (.cells #[.int .i64 v.k, .int .i64 v.n, .string v.s, .int .i64 v.a] 24)).drew.heap.size := by show w.heap.size < (w1.alloc _).heap.size; simp; omega
      exact ⟨(hgrow3.cell_far ⟨w.heap.size, 0, none⟩ hl HNB.out).trans hh.1, (hgrow3.cell_far ⟨w.heap.size, 1, none⟩ hl HNB.out).trans hh.2.1, (hgrow3.cell_far ⟨w.heap.size, 2, none⟩ hl HNB.out).trans hh.2.2.1, (hgrow3.cell_far ⟨w.heap.size, 3, none⟩ hl HNB.out).trans hh.2.2.2⟩
    have HPE : Hid (PutEnd2 w (w3.setCell ⟨T, 2, none⟩ (.slice (some ⟨g, 0, none⟩) (ks.length + 1) cap)) T M base i ord ks l v x) := PE.2
    obtain ⟨e2, ez⟩ := PE.1
    have S4 : Hid ((w3.setCell ⟨T, 2, none⟩ (.slice (some ⟨g, 0, none⟩) (ks.length + 1) cap)).cell? ⟨w.heap.size, 0, none⟩ = some (.int .i64 v.k) ∧ (w3.setCell ⟨T, 2, none⟩ (.slice (some ⟨g, 0, none⟩) (ks.length + 1) cap)).cell? ⟨w.heap.size, 1, none⟩ = some (.int .i64 v.n) ∧ (w3.setCell ⟨T, 2, none⟩ (.slice (some ⟨g, 0, none⟩) (ks.length + 1) cap)).cell? ⟨w.heap.size, 2, none⟩ = some (.string v.s) ∧ (w3.setCell ⟨T, 2, none⟩ (.slice (some ⟨g, 0, none⟩) (ks.length + 1) cap)).cell? ⟨w.heap.size, 3, none⟩ = some (.int .i64 v.a)) := by
      have e := Below.heap_setCell w3 ⟨T, 2, none⟩ (.slice (some ⟨g, 0, none⟩) (ks.length + 1) cap) w.heap.size (show w.heap.size ≠ T from hTw)
      generalize (w3.setCell ⟨T, 2, none⟩ (.slice (some ⟨g, 0, none⟩) (ks.length + 1) cap)) = w4 at e
      exact ⟨by rw [World.cell?_of_block e]; exact S3.1, by rw [World.cell?_of_block e]; exact S3.2.1, by rw [World.cell?_of_block e]; exact S3.2.2.1, by rw [World.cell?_of_block e]; exact S3.2.2.2⟩
    refine hK'.out _ _ S3 (fun hHeld => ?_)
    clear hK' PE hown3 hgrow3 hat
    simp only [Act.put, pz]
    refine wpT (i := 8) (v := .pointer (some ⟨T, 0, none⟩)) rfl (fun w hSw => ?_) hHeld ?_
    · rfl
    simp only [Act.put, pz]
    refine wpT (i := 9) (v := .pointer (some ⟨T, 2, none⟩)) rfl (fun w hSw => ?_) hHeld ?_
    · first | rfl | go_simp
    simp only [Act.put, pz]
    refine wpAnyH_ready (rs := [10]) (by kernel_rfl) (by simp) ?_
    refine AllReadyH.cons rfl (fun K' hK' => ?_) AllReadyH.nil
    clear hHeld S3
    go_simp
    refine hK'.out _ _ S4.out (fun hHeld => ?_)
    clear hK'
    refine wpAnyH_done (by kernel_rfl) ?_ _
    go_end0
    exact ⟨rfl, HPE.out⟩
  · go_simp
    refine hK'.out _ _ ?_ (fun hHeld => ?_)
    · exact ValAt.below (o := 0) (w := w1) ⟨c0, c1, c2, c3⟩ ((Below.refl _ _).alloc (Nat.le_refl _) _).drew
    clear hK'
    refine wpAnyH_ready (rs := [4]) (by kernel_rfl) (by simp) ?_
    refine AllReadyH.cons rfl (fun K' hK' => ?_) AllReadyH.nil
    go_simp
    refine hK'.out _ _ ?_ (fun hHeld => ?_)
    · exact ValAt.below (o := 0) (w := w1) ⟨c0, c1, c2, c3⟩ ((Below.refl _ _).alloc (Nat.le_refl _) _).drew
    clear hK'
    refine wpAnyH_ready (rs := [7]) (by kernel_rfl) (by simp) ?_
    refine AllReadyH.cons rfl (fun K' hK' => ?_) AllReadyH.nil
    refine step_append_lies _ (by rfl) (.tmp 16) (.tmp 18) 42 (by rfl) base 24 i0 (.agg #[.int .i64 0, .int .i64 0, .string ⟨#[]⟩, .int .i64 0]) 4 40 Tryz.underlying42 hi hz0 hz1 hz2 (by rfl) (by omega) ord ks.length (keyCells ks) (by rfl) ((HR1.out.alloc _).drew) ⟨w1.heap.size, 0, none⟩ 1 1 [.int .i64 v.k, .int .i64 v.n, .string v.s, .int .i64 v.a] (by rfl) (by rfl) (World.news_of_block (w := (w1.alloc _).drew) (heap_alloc_new w1 _)) (by intro u hu; simp at hu; rcases hu with rfl | rfl | rfl | rfl <;> rfl) (by omega) (by unfold maxLen; omega) (by omega) (by simp; omega) (w1.heap.size + 1) (by simp) ?_
    intro g cap w3 hown3 hgrow3 hat hlt
    have PE := put_end2 HO1.out HT1.out HM1.out hTM hTo.out hMo.out hgrow3 hown3 hat
    have S3 : w3.cell? ⟨w.heap.size, 0, none⟩ = some (.int .i64 v.k) ∧ w3.cell? ⟨w.heap.size, 1, none⟩ = some (.int .i64 v.n) ∧ w3.cell? ⟨w.heap.size, 2, none⟩ = some (.string v.s) ∧ w3.cell? ⟨w.heap.size, 3, none⟩ = some (.int .i64 v.a) := by
      have hh := hHeld
      have hl : w.heap.size < (w1.alloc (.cells #[.int .i64 v.k, .int .i64 v.n, .string v.s, .int .i64 v.a] 24)).drew.heap.size := by show w.heap.size < (w1.alloc _).heap.size; simp; omega
      exact ⟨(hgrow3.cell_far ⟨w.heap.size, 0, none⟩ hl HNB.out).trans hh.1, (hgrow3.cell_far ⟨w.heap.size, 1, none⟩ hl HNB.out).trans hh.2.1, (hgrow3.cell_far ⟨w.heap.size, 2, none⟩ hl HNB.out).trans hh.2.2.1, (hgrow3.cell_far ⟨w.heap.size, 3, none⟩ hl HNB.out).trans hh.2.2.2⟩
    have HPE : Hid (PutEnd2 w (w3.setCell ⟨T, 2, none⟩ (.slice (some ⟨g, 0, none⟩) (ks.length + 1) cap)) T M base i ord ks l v x) := PE.2
    obtain ⟨e2, ez⟩ := PE.1
    have S4 : Hid ((w3.setCell ⟨T, 2, none⟩ (.slice (some ⟨g, 0, none⟩) (ks.length + 1) cap)).cell? ⟨w.heap.size, 0, none⟩ = some (.int .i64 v.k) ∧ (w3.setCell ⟨T, 2, none⟩ (.slice (some ⟨g, 0, none⟩) (ks.length + 1) cap)).cell? ⟨w.heap.size, 1, none⟩ = some (.int .i64 v.n) ∧ (w3.setCell ⟨T, 2, none⟩ (.slice (some ⟨g, 0, none⟩) (ks.length + 1) cap)).cell? ⟨w.heap.size, 2, none⟩ = some (.string v.s) ∧ (w3.setCell ⟨T, 2, none⟩ (.slice (some ⟨g, 0, none⟩) (ks.length + 1) cap)).cell? ⟨w.heap.size, 3, none⟩ = some (.int .i64 v.a)) := by
      have e := Below.heap_setCell w3 ⟨T, 2, none⟩ (.slice (some ⟨g, 0, none⟩) (ks.length + 1) cap) w.heap.size (show w.heap.size ≠ T from hTw)
      generalize (w3.setCell ⟨T, 2, none⟩ (.slice (some ⟨g, 0, none⟩) (ks.length + 1) cap)) = w4 at e
      exact ⟨by rw [World.cell?_of_block e]; exact S3.1, by rw [World.cell?_of_block e]; exact S3.2.1, by rw [World.cell?_of_block e]; exact S3.2.2.1, by rw [World.cell?_of_block e]; exact S3.2.2.2⟩
    refine hK'.out _ _ S3 (fun hHeld => ?_)
    clear hK' PE hown3 hgrow3 hat
    simp only [Act.put, pz]
    refine wpT (i := 8) (v := .pointer (some ⟨T, 0, none⟩)) rfl (fun w hSw => ?_) hHeld ?_
    · rfl
    simp only [Act.put, pz]
    refine wpT (i := 9) (v := .pointer (some ⟨T, 2, none⟩)) rfl (fun w hSw => ?_) hHeld ?_
    · first | rfl | go_simp
    simp only [Act.put, pz]
    refine wpAnyH_ready (rs := [10]) (by kernel_rfl) (by simp) ?_
    refine AllReadyH.cons rfl (fun K' hK' => ?_) AllReadyH.nil
    clear hHeld S3
    go_simp
    refine hK'.out _ _ S4.out (fun hHeld => ?_)
    clear hK'
    refine wpAnyH_done (by kernel_rfl) ?_ _
    go_end0
    exact ⟨rfl, HPE.out⟩

end Go.Proofs.YtgflalfiopnmnaaGreatDoor

namespace Go.Proofs.YtgflalfiopnmnaaGreatDoor
open Go.RowKit Vl

/-! ### Labels: a map from numbers -/
def findI (v : Int) : List (Int × Value) → Option Value
  | [] => none
  | (k, x) :: l => if v = k then some x else findI v l
def LabI (w : World) (M : Nat) (l : List (Int × Value)) : Prop := ∃ es clk, w.heap[M]? = some (.map es clk) ∧ es.toList.map (fun e => (e.key, e.val)) = l.map (fun p => (Value.int .i64 p.1, p.2))
theorem LabI.same {w w' : World} {M : Nat} {l : List (Int × Value)} (h : LabI w M l) (e : w'.heap[M]? = w.heap[M]?) : LabI w' M l := by
  obtain ⟨es, clk, h1, h2⟩ := h
  exact ⟨es, clk, e.trans h1, h2⟩
theorem LabI.lt {w : World} {M : Nat} {l : List (Int × Value)} (h : LabI w M l) : M < w.heap.size := by
  obtain ⟨es, clk, h1, _⟩ := h
  exact blk_lt h1
theorem findNow_i (v : Int) : ∀ (es : List MapEntry) (l : List (Int × Value)) (i : Nat), es.map (fun e => (e.key, e.val)) = l.map (fun p => (Value.int .i64 p.1, p.2)) →
    (findI v l = none → Instr.findNow (.int .i64) (.int .i64 v) es i = some none) ∧ (∀ x, findI v l = some x → ∃ j, Instr.findNow (.int .i64) (.int .i64 v) es i = some (some (j, x)))
  | [], [], i, _ => ⟨fun _ => rfl, fun x h => by cases h⟩
  | [], _ :: _, i, h => by simp at h
  | _ :: _, [], i, h => by simp at h
  | e :: es, (k, x) :: l, i, h => by
    simp only [List.map_cons, List.cons.injEq, Prod.mk.injEq] at h
    obtain ⟨⟨h1, h2⟩, h3⟩ := h
    have ih := findNow_i v es l (i + 1) h3
    unfold Instr.findNow findI
    rw [h1]
    by_cases hv : v = k
    · subst hv
      simp [Instr.sameNow, h2]
    · simp only [Instr.sameNow, if_true, if_neg hv]
      rw [show (v == k) = false by simpa using hv]
      exact ih
theorem LabI.lookup {w : World} {M : Nat} {l : List (Int × Value)} (h : LabI w M l) (v : Int) :
    (Instr.lookup 81 (.map (some M)) (.int .i64 v) true).run Tryz.prog w = .ok (.tuple #[(findI v l).getD (.pointer none), .bool (findI v l).isSome]) w := by
  obtain ⟨es, clk, hb, hl⟩ := h
  have hk := findNow_i v es.toList l 0 hl
  have hck : ∀ em w, (Instr.checkKey em 10000 3 (.int .i64 v)).run Tryz.prog w = .ok () w := fun em w => by kernel_rfl
  have hz : (zeroValue 107).run Tryz.prog w = .ok (.pointer none) w := by kernel_rfl
  cases hf : findI v l with
  | none =>
    have h1 := hk.1 hf
    simp [Instr.lookup, run_underlying Tryz.underlying81, run_underlying Tryz.underlying3, MapKept.run_getObj_map hb, hck, Instr.findKey, h1, hz, Result.andThen]
  | some x =>
    obtain ⟨j, h1⟩ := hk.2 x hf
    simp [Instr.lookup, run_underlying Tryz.underlying81, run_underlying Tryz.underlying3, MapKept.run_getObj_map hb, hck, Instr.findKey, h1, Result.andThen]
theorem LabI.update {w : World} {M : Nat} {l : List (Int × Value)} (h : LabI w M l) (v : Int) (x : Value) (hf : findI v l = none) :
    ∃ w', (Instr.mapUpdate 81 (.map (some M)) (.int .i64 v) x).run Tryz.prog w = .ok () w' ∧ LabI w' M (l ++ [(v, x)]) ∧ Only (fun k => k = M) w w' ∧ w'.heap.size = w.heap.size := by
  obtain ⟨es, clk, hb, hl⟩ := h
  have hk := (findNow_i v es.toList l 0 hl).1 hf
  have hck : ∀ em w, (Instr.checkKey em 10000 3 (.int .i64 v)).run Tryz.prog w = .ok () w := fun em w => by kernel_rfl
  refine ⟨{ w with heap := w.heap.setIfInBounds M (.map (es.push { key := .int .i64 v, val := x, born := clk }) (clk + 1)) }, ?_, ?_, ?_, by simp⟩
  · simp [Instr.mapUpdate, run_underlying Tryz.underlying81, run_underlying Tryz.underlying3, MapKept.run_getObj_map hb, hck, Instr.findKey, hk, Result.andThen, MapKept.run_setObj_map _ hb]
  · refine ⟨_, _, by rw [Array.getElem?_setIfInBounds_self_of_lt (blk_lt hb)], ?_⟩
    simp [hl]
  · refine ⟨rfl, rfl, rfl, by simp, fun k _ hk => ?_⟩
    show (w.heap.setIfInBounds M _)[k]? = w.heap[k]?
    rw [Array.getElem?_setIfInBounds_ne (fun e => hk e.symm)]
theorem findI_app (v k : Int) (x : Value) : ∀ (l : List (Int × Value)), findI v (l ++ [(k, x)]) = (findI v l).or (if v = k then some x else none)
  | [] => by simp [findI]
  | (k', x') :: l => by
    simp only [List.cons_append, findI]
    by_cases h : v = k'
    · simp [h]
    · rw [if_neg h, if_neg h, findI_app v k x l]

/-! ### Tables that are being read -/
def updF {α : Type} (T : Nat → α) (r : Nat) (x : α) : Nat → α := fun i => if i = r then x else T i
theorem updF_at {α : Type} (T : Nat → α) (r : Nat) (x : α) : updF T r x r = x := by simp [updF]
theorem updF_ne {α : Type} (T : Nat → α) {r i : Nat} (x : α) (h : i ≠ r) : updF T r x i = T i := by simp [updF, h]

theorem ifv_agree {n : Nat} {T T' : Nat → Nat} {v : V} (hv : isV n v = true) (h : v.k = 4 → T' v.a.toNat = T v.a.toNat) : ifv T' v = ifv T v := by
  unfold ifv
  by_cases k0 : v.k = 0
  · rw [if_pos k0, if_pos k0]
  by_cases k1 : v.k = 1
  · rw [if_neg k0, if_neg k0, if_pos k1, if_pos k1]
  by_cases k2 : v.k = 2
  · rw [if_neg k0, if_neg k0, if_neg k1, if_neg k1, if_pos k2, if_pos k2]
  by_cases k3 : v.k = 3
  · rw [if_neg k0, if_neg k0, if_neg k1, if_neg k1, if_neg k2, if_neg k2, if_pos k3, if_pos k3]
  by_cases k4 : v.k = 4
  · rw [h k4]
  · simp [isV, k0, k1, k2, k3, k4] at hv
theorem mp_agree {n : Nat} {T T' : Nat → Nat} {k x : Nat → V} {c : Nat} (h : ∀ i, i < c → isV n (x i) = true ∧ ((x i).k = 4 → T' (x i).a.toNat = T (x i).a.toNat)) : mp T' k x c = mp T k x c := by
  unfold mp
  refine List.map_congr_left fun i hi => ?_
  have := h i (List.mem_range.1 hi)
  rw [ifv_agree this.1 this.2]

structure PTab (w : World) (B0 : Nat) (K X : Nat → Nat → V) (T M : Nat → Nat) (O : Nat → Value) (r c : Nat) : Prop where
  tab : TabB w (T r) (M r) 0 (O r)
  own : w.ownsRow B0 24 4 (O r) c (keyCells (keys (K r) c))
  map : MapIs w (M r) (mp T (K r) (X r) c)
section
variable {w w' : World} {B0 : Nat} {K X : Nat → Nat → V} {T M T' M' : Nat → Nat} {O O' : Nat → Value} {r c : Nat}
theorem PTab.only {P : Nat → Prop} (h : PTab w B0 K X T M O r c) (ho : Only P w w') (hT : ¬ P (T r)) (hM : ¬ P (M r)) (hO : ∀ k, (O r).ownBlock = some k → ¬ P k) : PTab w' B0 K X T M O r c :=
  ⟨(ho.block _ (blk_lt h.tab) hT).trans h.tab, ho.ownsB h.own hO, h.map.same (ho.block _ h.map.lt hM)⟩
theorem PTab.agree (h : PTab w B0 K X T M O r c) (hT : T' r = T r) (hM : M' r = M r) (hO : O' r = O r) (hm : mp T' (K r) (X r) c = mp T (K r) (X r) c) : PTab w B0 K X T' M' O' r c :=
  ⟨by rw [hT, hM, hO]; exact h.tab, by rw [hO]; exact h.own, by rw [hM, hm]; exact h.map⟩
theorem PTab.apartC (h : PTab w B0 K X T M O r c) {b t : Nat} {cs : Array Value} {z : Nat × Nat} (hb : w.heap[b]? = some (.cells cs t z)) (h1 : t ≠ 121) (h2 : t ≠ 24) : T r ≠ b ∧ M r ≠ b ∧ ∀ k, (O r).ownBlock = some k → k ≠ b := by
  refine ⟨fun e => ?_, fun e => ?_, fun k hk e => ?_⟩
  · have := h.tab
    unfold TabB at this
    rw [e, hb] at this
    cases this
    exact h1 rfl
  · obtain ⟨es, clk, hm, _⟩ := h.map
    rw [e, hb] at hm
    cases hm
  · obtain ⟨_, cur, hc⟩ := owns_type h.own hk
    rw [e, hb] at hc
    cases hc
    exact h2 rfl
theorem PTab.apartM (h : PTab w B0 K X T M O r c) {b clk : Nat} {es : Array MapEntry} (hb : w.heap[b]? = some (.map es clk)) : T r ≠ b ∧ ∀ k, (O r).ownBlock = some k → k ≠ b := by
  refine ⟨fun e => ?_, fun k hk e => ?_⟩
  · have := h.tab
    unfold TabB at this
    rw [e, hb] at this
    cases this
  · obtain ⟨_, cur, hc⟩ := owns_type h.own hk
    rw [e, hb] at hc
    cases hc
theorem PTab.three (h : PTab w B0 K X T M O r c) : T r ≠ M r ∧ (O r).ownBlock ≠ some (T r) ∧ (O r).ownBlock ≠ some (M r) := by
  obtain ⟨es, clk, hm, _⟩ := h.map
  obtain ⟨a1, a2⟩ := h.apartM hm
  refine ⟨a1, fun e => ?_, fun e => a2 _ e rfl⟩
  obtain ⟨_, cur, hc⟩ := owns_type h.own e
  have := h.tab
  unfold TabB at this
  rw [this] at hc
  cases hc
theorem PTab.oLt (h : PTab w B0 K X T M O r c) {k : Nat} (hk : (O r).ownBlock = some k) : B0 ≤ k ∧ k < w.heap.size := by
  obtain ⟨_, _, _, h1⟩ := owns_form h.own
  exact h1 k hk
theorem PTab.two {r' c' : Nat} (h : PTab w B0 K X T M O r c) (h' : PTab w B0 K X T M O r' c') : T r ≠ M r' ∧ (∀ k, (O r').ownBlock = some k → T r ≠ k ∧ M r ≠ k) := by
  obtain ⟨es, clk, hm, _⟩ := h'.map
  refine ⟨(h.apartM hm).1, fun k hk => ⟨fun e => ?_, fun e => ?_⟩⟩
  · obtain ⟨_, cur, hc⟩ := owns_type h'.own hk
    have := h.tab
    unfold TabB at this
    rw [e, hc] at this
    cases this
  · obtain ⟨es2, clk2, hm2, _⟩ := h.map
    exact (h'.apartM hm2).2 k hk e.symm
end

structure St (n : Nat) (w0 w : World) (R LM : Nat) (s : ByteArray) (K X : Nat → Nat → V) (S : List Nat) (t : Ft) (T M : Nat → Nat) (O : Nat → Value) (cc : Nat → Nat) : Prop where
  rd : RdB w R s t.out.length LM S.length
  lab : ∃ l, LabI w LM l ∧ (∀ i, 0 < t.lab i → findI (t.lab i : Nat) l = some (ptr (T i))) ∧ ∀ k : Nat, t.N < k → findI (k : Nat) l = none
  tab : ∀ r ∈ S, PTab w w0.heap.size K X T M O r (cc r)
  clo : ∀ r ∈ S, ∀ i, i < cc r → isV n (X r i) = true ∧ ((X r i).k = 4 → (X r i).a.toNat ∈ S)
  injT : ∀ i ∈ S, ∀ j ∈ S, T i = T j → i = j
  injM : ∀ i ∈ S, ∀ j ∈ S, M i = M j → i = j
  injO : ∀ i ∈ S, ∀ j ∈ S, ∀ k, (O i).ownBlock = some k → (O j).ownBlock = some k → i = j
  labM : ∀ i ∈ S, M i ≠ LM
  hi : w0.heap.size ≤ R ∧ w0.heap.size ≤ LM ∧ ∀ i ∈ S, w0.heap.size ≤ T i ∧ w0.heap.size ≤ M i
  bel : Below w0.heap.size w0 w
section
variable {n : Nat} {w0 w w' : World} {R LM : Nat} {s : ByteArray} {K X : Nat → Nat → V} {S : List Nat} {t : Ft} {T M : Nat → Nat} {O : Nat → Value} {cc : Nat → Nat}
theorem St.labNe (h : St n w0 w R LM s K X S t T M O cc) : LM ≠ R := by
  obtain ⟨l, ⟨es, clk, hm, _⟩, _⟩ := h.lab
  have := h.rd
  unfold RdB at this
  intro e
  rw [e, this] at hm
  cases hm
theorem St.size (h : St n w0 w R LM s K X S t T M O cc) : w0.heap.size ≤ w.heap.size := h.bel.size
theorem St.say (h : St n w0 w R LM s K X S t T M O cc) (l : List UInt8) (hs : Stp w w' R s (t.out.length + l.length) LM S.length) : St n w0 w' R LM s K X S (t.say l) T M O cc := by
  refine ⟨?_, ?_, fun r hr => ?_, h.clo, h.injT, h.injM, h.injO, h.labM, h.hi, ?_⟩
  · rw [say_len]; exact hs.rd
  · obtain ⟨l', h1, h2⟩ := h.lab
    exact ⟨l', h1.same (hs.on.block _ h1.lt h.labNe), h2⟩
  · obtain ⟨a1, a2, a3⟩ := (h.tab r hr).apartC h.rd (by decide) (by decide)
    exact (h.tab r hr).only hs.on a1 a2 a3
  · have hb : Below w0.heap.size w w' := hs.on.toBelow (fun k e => by rw [e]; exact h.hi.1) h.size
    exact h.bel.trans hb
theorem St.still (h : St n w0 w R LM s K X S t T M O cc) (hb : Below w.heap.size w w') : St n w0 w' R LM s K X S t T M O cc := by
  have := h.say [] (h.rd.stp hb)
  exact ⟨by simpa [Ft.say] using this.rd, this.lab, this.tab, this.clo, this.injT, this.injM, this.injO, this.labM, this.hi, this.bel⟩

theorem St.new (h : St n w0 w R LM s K X S t T M O cc) {r tb mb : Nat} (hr : r ∉ S) {th : Ft} (hrd : RdB w' R s th.out.length LM (S.length + 1)) (ho : Only (fun k => k = R ∨ k = LM) w w')
    (hlab : ∃ l, LabI w' LM l ∧ (∀ i, 0 < th.lab i → findI (th.lab i : Nat) l = some (ptr (updF T r tb i))) ∧ ∀ k : Nat, th.N < k → findI (k : Nat) l = none)
    (htab : TabB w' tb mb 0 (.slice none 0 0)) (hmap : MapIs w' mb []) (htb : w.heap.size ≤ tb) (hmb : w.heap.size ≤ mb) :
    St n w0 w' R LM s K X (S ++ [r]) th (updF T r tb) (updF M r mb) (updF O r (.slice none 0 0)) (updF cc r 0) := by
  have hsz := h.size
  have hne : ∀ i ∈ S, i ≠ r := fun i hi e => hr (e ▸ hi)
  have hTl : ∀ i ∈ S, T i < w.heap.size := fun i hi => blk_lt (h.tab i hi).tab
  have hMl : ∀ i ∈ S, M i < w.heap.size := fun i hi => (h.tab i hi).map.lt
  have hmem : ∀ i, i ∈ S ++ [r] → i ∈ S ∨ i = r := fun i hi => by simpa using hi
  refine ⟨by simpa using hrd, hlab, fun i hi => ?_, fun i hi c hc => ?_, fun i hi j hj e => ?_, fun i hi j hj e => ?_, fun i hi j hj k e e' => ?_, fun i hi => ?_, ⟨h.hi.1, h.hi.2.1, fun i hi => ?_⟩, ?_⟩
  · rcases hmem i hi with hi | rfl
    · have hn := hne i hi
      rw [updF_ne cc 0 hn]
      obtain ⟨a1, a2, a3⟩ := (h.tab i hi).apartC h.rd (by decide) (by decide)
      obtain ⟨l, ⟨es, clk, hm, _⟩, _⟩ := h.lab
      obtain ⟨b1, b2⟩ := (h.tab i hi).apartM hm
      refine ((h.tab i hi).only ho (fun e => ?_) (fun e => ?_) (fun k hk e => ?_)).agree (updF_ne _ _ hn) (updF_ne _ _ hn) (updF_ne _ _ hn) (mp_agree (n := n) fun c hc => ⟨(h.clo i hi c hc).1, fun h4 => updF_ne _ _ (hne _ ((h.clo i hi c hc).2 h4))⟩)
      · rcases e with e | e
        · exact a1 e
        · exact b1 e
      · rcases e with e | e
        · exact a2 e
        · exact h.labM i hi e
      · rcases e with e | e
        · exact a3 k hk e
        · exact b2 k hk e
    · rw [updF_at]
      refine ⟨?_, ?_, ?_⟩
      · rw [updF_at, updF_at, updF_at]; exact htab
      · rw [updF_at]; exact World.ownsRow_nil _ _ _ _
      · rw [updF_at]; exact hmap
  · rcases hmem i hi with hi | rfl
    · rw [updF_ne cc 0 (hne i hi)] at hc
      exact ⟨(h.clo i hi c hc).1, fun h4 => List.mem_append_left _ ((h.clo i hi c hc).2 h4)⟩
    · rw [updF_at] at hc; omega
  · rcases hmem i hi with hi1 | hi1 <;> rcases hmem j hj with hj1 | hj1
    · rw [updF_ne _ _ (hne i hi1), updF_ne _ _ (hne j hj1)] at e; exact h.injT i hi1 j hj1 e
    · rw [hj1, updF_ne _ _ (hne i hi1), updF_at] at e; have := hTl i hi1; omega
    · rw [hi1, updF_ne _ _ (hne j hj1), updF_at] at e; have := hTl j hj1; omega
    · rw [hi1, hj1]
  · rcases hmem i hi with hi1 | hi1 <;> rcases hmem j hj with hj1 | hj1
    · rw [updF_ne _ _ (hne i hi1), updF_ne _ _ (hne j hj1)] at e; exact h.injM i hi1 j hj1 e
    · rw [hj1, updF_ne _ _ (hne i hi1), updF_at] at e; have := hMl i hi1; omega
    · rw [hi1, updF_ne _ _ (hne j hj1), updF_at] at e; have := hMl j hj1; omega
    · rw [hi1, hj1]
  · rcases hmem i hi with hi1 | hi1 <;> rcases hmem j hj with hj1 | hj1
    · rw [updF_ne _ _ (hne i hi1)] at e; rw [updF_ne _ _ (hne j hj1)] at e'; exact h.injO i hi1 j hj1 k e e'
    · rw [hj1, updF_at] at e'; simp [Value.ownBlock] at e'
    · rw [hi1, updF_at] at e; simp [Value.ownBlock] at e
    · rw [hi1, hj1]
  · rcases hmem i hi with hi | rfl
    · rw [updF_ne _ _ (hne i hi)]; exact h.labM i hi
    · rw [updF_at]
      obtain ⟨l, h1, _⟩ := h.lab
      have := h1.lt
      omega
  · rcases hmem i hi with hi | rfl
    · rw [updF_ne _ _ (hne i hi), updF_ne _ _ (hne i hi)]; exact h.hi.2.2 i hi
    · rw [updF_at, updF_at]; omega
  · have hb : Below w0.heap.size w w' := ho.toBelow (fun k e => by rcases e with e | e <;> rw [e]; exact h.hi.1; exact h.hi.2.1) hsz
    exact h.bel.trans hb

theorem St.put (h : St n w0 w R LM s K X S t T M O cc) {r c : Nat} (hr : r ∈ S) (hc : cc r = c) (hv : isV n (X r c) = true) (hm : (X r c).k = 4 → (X r c).a.toNat ∈ S)
    (hp : PutEnd2 w w' (T r) (M r) w0.heap.size 0 (O r) (keys (K r) c) (mp T (K r) (X r) c) (K r c) (ifv T (X r c))) :
    ∃ O', St n w0 w' R LM s K X S t T M O' (updF cc r (c + 1)) := by
  have hR := h.tab r hr
  obtain ⟨ord', t1, t2, t3⟩ := hp.tab
  have hsz := h.size
  obtain ⟨a1, a2, a3⟩ := hR.apartC h.rd (by decide) (by decide)
  obtain ⟨l, ⟨es, clk, hlm, hle⟩, hl2⟩ := h.lab
  obtain ⟨b1, b2⟩ := hR.apartM hlm
  refine ⟨updF O r ord', ?_, ⟨l, LabI.same ⟨es, clk, hlm, hle⟩ (hp.only.block _ (blk_lt hlm) ?_), hl2⟩, fun i hi => ?_, fun i hi j hj => ?_, h.injT, h.injM, fun i hi j hj k e e' => ?_, h.labM, h.hi, ?_⟩
  · exact (hp.only.block _ h.rd.lt (by rintro (e | e | e); exact a1 e.symm; exact a2 e.symm; exact a3 _ e rfl)).trans h.rd
  · rintro (e | e | e)
    · exact b1 e.symm
    · exact h.labM r hr e.symm
    · exact b2 _ e rfl
  · by_cases e : i = r
    · subst e
      rw [updF_at]
      refine ⟨?_, ?_, ?_⟩
      · rw [updF_at]; exact t1
      · rw [updF_at, keys_succ]
        rw [List.length_append, keys_len] at t2
        exact t2
      · rw [mp_succ]; exact hp.map
    · rw [updF_ne cc _ e]
      have hI := h.tab i hi
      refine (hI.only hp.only ?_ ?_ ?_).agree rfl rfl (updF_ne _ _ e) rfl
      · rintro (x | x | x)
        · exact e (h.injT i hi r hr x)
        · exact (hI.two hR).1 x
        · exact ((hI.two hR).2 _ x).1 rfl
      · rintro (x | x | x)
        · exact (hR.two hI).1 x.symm
        · exact e (h.injM i hi r hr x)
        · exact ((hI.two hR).2 _ x).2 rfl
      · intro k hk
        rintro (x | x | x)
        · exact ((hR.two hI).2 k hk).1 x.symm
        · exact ((hR.two hI).2 k hk).2 x.symm
        · exact e (h.injO i hi r hr k hk x)
  · by_cases e : i = r
    · subst e
      rw [updF_at] at hj
      by_cases e2 : j = c
      · subst e2; exact ⟨hv, hm⟩
      · exact h.clo i hi j (by omega)
    · rw [updF_ne cc _ e] at hj
      exact h.clo i hi j hj
  · by_cases x : i = r <;> by_cases y : j = r
    · rw [x, y]
    · subst x
      rw [updF_at] at e
      rw [updF_ne _ _ y] at e'
      rcases t3 k e with h1 | h1
      · exact h.injO i hr j hj k h1 e'
      · have := ((h.tab j hj).oLt e').2; omega
    · subst y
      rw [updF_at] at e'
      rw [updF_ne _ _ x] at e
      rcases t3 k e' with h1 | h1
      · exact h.injO i hi j hr k e h1
      · have := ((h.tab i hi).oLt e).2; omega
    · rw [updF_ne _ _ x] at e
      rw [updF_ne _ _ y] at e'
      exact h.injO i hi j hj k e e'
  · have hb : Below w0.heap.size w w' := hp.only.toBelow (fun k e => by
      rcases e with e | e | e
      · rw [e]; exact (h.hi.2.2 r hr).1
      · rw [e]; exact (h.hi.2.2 r hr).2
      · exact (hR.oLt e).1) hsz
    exact h.bel.trans hb
end

end Go.Proofs.YtgflalfiopnmnaaGreatDoor

namespace Go.Proofs.YtgflalfiopnmnaaGreatDoor
open Vl

section
variable {Q : Nat → Nat} {L : Nat → Nat} {K X : Nat → Nat → V}
theorem head_app (t : Ft) (r : Nat) : (t.head Q r).out = t.out ++ ((if 1 < Q r then 35 :: (Lib.itoa (t.N + 1 : Nat) ++ [61]) else []) ++ [123]) := by
  unfold Ft.head
  split
  · simp
  · simp [Ft.say]
theorem wr_app : ∀ (f : Nat) (t : Ft) (v : V), ∃ a, (frz Q L K X f t v).out = t.out ++ a := by
  intro f
  induction f with
  | zero => intro t v; exact ⟨[], by simp [frz]⟩
  | succ f ih =>
    intro t v
    by_cases h4 : v.k = 4
    · by_cases hl : t.lab v.a.toNat = 0
      · rw [wr_new h4 hl]
        have : ∀ c, ∃ a, (wrs Q L K X f (t.head Q v.a.toNat) v.a.toNat c).out = t.out ++ a := by
          intro c
          induction c with
          | zero => exact ⟨_, by rw [wrs_zero]; exact head_app t _⟩
          | succ c ihc =>
            obtain ⟨a, ha⟩ := ihc
            rw [wrs_succ]
            obtain ⟨b, hb⟩ := ih ((wrs Q L K X f (t.head Q v.a.toNat) v.a.toNat c).say (keyT (K v.a.toNat) c)) (X v.a.toNat c)
            exact ⟨a ++ (keyT (K v.a.toNat) c ++ b), by rw [hb]; simp [Ft.say, ha]⟩
        obtain ⟨a, ha⟩ := this (L v.a.toNat)
        exact ⟨a ++ [125], by simp [Ft.say, ha]⟩
      · rw [wr_old h4 (by omega)]; exact ⟨_, rfl⟩
    · rw [wr_no h4]; exact ⟨_, rfl⟩
theorem wrs_app (f : Nat) (t : Ft) (r : Nat) {c d : Nat} (h : c ≤ d) : ∃ a, (wrs Q L K X f t r d).out = (wrs Q L K X f t r c).out ++ a := by
  obtain ⟨e, rfl⟩ := Nat.le.dest h
  clear h
  induction e with
  | zero => exact ⟨[], by simp⟩
  | succ e ih =>
    obtain ⟨a, ha⟩ := ih
    rw [← Nat.add_assoc, wrs_succ]
    obtain ⟨b, hb⟩ := wr_app (Q := Q) (L := L) (K := K) (X := X) f ((wrs Q L K X f t r (c + e)).say (keyT (K r) (c + e))) (X r (c + e))
    exact ⟨a ++ (keyT (K r) (c + e) ++ b), by rw [hb]; simp [Ft.say, ha]⟩
end

end Go.Proofs.YtgflalfiopnmnaaGreatDoor

namespace Go.Proofs.YtgflalfiopnmnaaGreatDoor
open Go.RowKit Vl

/-! ### The text that is read: what stands at a place -/
def Pre (s : ByteArray) (o : List UInt8) : Prop := o <+: s.data.toList
theorem Pre.of {s : ByteArray} {o l : List UInt8} (h : Pre s (o ++ l)) : Pre s o := (List.prefix_append _ _).trans h
theorem Pre.nx {s : ByteArray} {o l : List UInt8} (h : Pre s (o ++ l)) : Nx s o.length l := by
  obtain ⟨r, h⟩ := h
  exact ⟨r, by rw [← h]; simp⟩
theorem Pre.le {s : ByteArray} {o : List UInt8} (h : Pre s o) : o.length ≤ s.size := by
  have := List.IsPrefix.length_le h
  rw [Array.length_toList] at this
  exact this
def After (s : ByteArray) (p : Nat) : Prop := pk s p = 44 ∨ pk s p = 125 ∨ pk s p = 0
theorem After.noD {s : ByteArray} {p : Nat} (h : After s p) : NoD s p := by
  unfold After at h
  unfold NoD
  omega
theorem Nx.pk {s : ByteArray} {p : Nat} {b : UInt8} {l : List UInt8} (h : Nx s p (b :: l)) : pk s p = b.toNat := h.hd.1
theorem say_app2 (t : Ft) (a b : List UInt8) : (t.say a).say b = t.say (a ++ b) := by unfold Ft.say; simp
theorem say_nil (t : Ft) : t.say [] = t := by unfold Ft.say; simp

section
variable {Q : Nat → Nat} {L : Nat → Nat} {K X : Nat → Nat → V}
theorem frz_first {n f : Nat} {S : List Nat} {Q0 : Nat → Nat} {t : Ft} {v : V} (h : Wat n Q L X f S Q0 t v) : ∃ b a, (frz Q L K X f t v).out = t.out ++ b :: a ∧ b ≠ 32 ∧ b ≠ 10 := by
  cases f with
  | zero => have := h.fuel; omega
  | succ f =>
    by_cases h4 : v.k = 4
    · by_cases hm : v.a.toNat ∈ S
      · rw [wr_old h4 (h.old h4 hm)]
        exact ⟨35, _, rfl, by decide, by decide⟩
      · rw [wr_new h4 (h.none hm)]
        obtain ⟨a, ha⟩ := wrs_app (Q := Q) (L := L) (K := K) (X := X) f (t.head Q v.a.toNat) v.a.toNat (Nat.zero_le (L v.a.toNat))
        rw [wrs_zero, head_app] at ha
        show ∃ b a, (_ : List UInt8) ++ [125] = _ ∧ _
        rw [ha]
        by_cases hq : 1 < Q v.a.toNat
        · rw [if_pos hq]
          exact ⟨35, Lib.itoa (t.N + 1 : Nat) ++ [61] ++ [123] ++ a ++ [125], by simp, by decide, by decide⟩
        · rw [if_neg hq]
          exact ⟨123, a ++ [125], by simp, by decide, by decide⟩
    · rw [wr_no h4]
      by_cases h0 : v.k = 0
      · exact ⟨110, [105, 108], by show _ ++ _ = _; simp [plT, h0, tNil], by decide, by decide⟩
      · have hk : v.k = 1 ∨ v.k = 2 ∨ v.k = 3 := by
          have := h.val
          by_cases k1 : v.k = 1
          · exact Or.inl k1
          by_cases k2 : v.k = 2
          · exact Or.inr (Or.inl k2)
          by_cases k3 : v.k = 3
          · exact Or.inr (Or.inr k3)
          · simp [isV, h0, k1, k2, k3, h4] at this
        obtain ⟨b, a, e, _, _, _, h32, h10, _⟩ := plH hk
        refine ⟨b, a, by show _ ++ _ = _; rw [e], fun e => h32 (by rw [e]; rfl), fun e => h10 (by rw [e]; rfl)⟩

theorem pre_mid {s : ByteArray} {f : Nat} {t : Ft} {r c : Nat} (hp : Pre s ((wrs Q L K X f t r (L r)).say [125]).out) (hc : c ≤ L r) :
    Pre s (wrs Q L K X f t r c).out ∧ (c = L r → Nx s (wrs Q L K X f t r c).out.length [125]) ∧ (c < L r → Nx s (wrs Q L K X f t r c).out.length (keyT (K r) c)) := by
  have h1 : Pre s (wrs Q L K X f t r (L r)).out := hp.of
  obtain ⟨a, ha⟩ := wrs_app (Q := Q) (L := L) (K := K) (X := X) f t r hc
  refine ⟨by rw [ha] at h1; exact h1.of, fun e => by subst e; exact Pre.nx hp, fun hlt => ?_⟩
  obtain ⟨a2, ha2⟩ := wrs_app (Q := Q) (L := L) (K := K) (X := X) f t r (show c + 1 ≤ L r from hlt)
  rw [ha2] at h1
  have h2 := h1.of
  rw [wrs_succ] at h2
  obtain ⟨a3, ha3⟩ := wr_app (Q := Q) (L := L) (K := K) (X := X) f ((wrs Q L K X f t r c).say (keyT (K r) c)) (X r c)
  rw [ha3] at h2
  exact Pre.nx h2.of
end

theorem keyT_zero (k : Nat → V) : keyT k 0 = plT (k 0) ++ [58, 32] := by simp [keyT]
theorem keyT_pos (k : Nat → V) {c : Nat} (h : 0 < c) : keyT k c = [44, 32] ++ (plT (k c) ++ [58, 32]) := by simp [keyT, h]

theorem key_k {v : V} (h : isK v = true) : (v.k = 1 ∨ v.k = 2 ∨ v.k = 3) ∧ isV 0 v = true := by
  unfold isK at h
  simp only [Bool.and_eq_true, Bool.or_eq_true, beq_iff_eq] at h
  exact ⟨by omega, h.2⟩

section
variable {n : Nat} {w0 w w' : World} {R LM : Nat} {s : ByteArray} {K X : Nat → Nat → V} {S : List Nat} {t : Ft} {T M : Nat → Nat} {O : Nat → Value} {cc : Nat → Nat}
theorem St.stp (h : St n w0 w R LM s K X S t T M O cc) (hs : Stp w w' R s t.out.length LM S.length) : St n w0 w' R LM s K X S t T M O cc := by
  have := h.say [] (by simpa using hs)
  rwa [say_nil] at this
end

end Go.Proofs.YtgflalfiopnmnaaGreatDoor

namespace Go.Proofs.YtgflalfiopnmnaaGreatDoor
open Go.RowKit Vl

structure Gl (n : Nat) (L : Nat → Nat) (K X : Nat → Nat → V) (s : ByteArray) : Prop where
  len : n ≤ 200
  all : ∀ r, r < n → OkT n (L r) (K r) (X r)
  sK : ∀ r, r < n → ∀ c, c < L r → shortV (K r c)
  sX : ∀ r, r < n → ∀ c, c < L r → shortV (X r c)
  max : s.size ≤ 20000
theorem Gl.good {n : Nat} {L : Nat → Nat} {K X : Nat → Nat → V} {s : ByteArray} (h : Gl n L K X s) : Good n L X := fun r hr c hc => ((h.all r hr).all c hc).val

structure Rch (L : Nat → Nat) (S S' : List Nat) (T T' cc cc' : Nat → Nat) : Prop where
  same : ∀ i ∈ S, T' i = T i ∧ cc' i = cc i
  full : ∀ i ∈ S', i ∉ S → cc' i = L i

def VOk (n : Nat) (Q L : Nat → Nat) (K X : Nat → Nat → V) (w0 : World) (R LM : Nat) (s : ByteArray) (f : Nat) : Prop :=
  ∀ (S : List Nat) (Q0 : Nat → Nat) (t : Ft) (v : V) (w : World) (T M : Nat → Nat) (O : Nat → Value) (cc : Nat → Nat), Wat n Q L X f S Q0 t v → shortV v → Pre s (frz Q L K X f t v).out → After s (frz Q L K X f t v).out.length → St n w0 w R LM s K X S t T M O cc →
    Calls Tryz.prog 63 #[pR R] w fun e w' => ∃ (T' M' : Nat → Nat) (O' : Nat → Value) (cc' : Nat → Nat), e = .returned (.tuple #[ifv T' v, .nilIface]) ∧ Rch L S (met L X f S v) T T' cc cc' ∧ St n w0 w' R LM s K X (met L X f S v) (frz Q L K X f t v) T' M' O' cc'

abbrev sColon : ByteArray := ⟨#[58]⟩

set_option maxHeartbeats 4000000 in
set_option maxRecDepth 100000 in
theorem pair_any {n : Nat} {Q L : Nat → Nat} {K X : Nat → Nat → V} {w0 : World} {R LM : Nat} {s : ByteArray} {f : Nat} (HGl : Hid (Gl n L K X s)) (HV : Hid (VOk n Q L K X w0 R LM s f)) (S : List Nat) (Q0 : Nat → Nat) (td te : Ft) (r c : Nat) (w : World) (T M : Nat → Nat) (O : Nat → Value) (cc : Nat → Nat)
    (hr : r < n) (hrS : r ∈ S) (hcc : cc r = c) (hc : c < L r) (HTe : Hid (td.say (plT (K r c) ++ [58, 32]) = te)) (HW : Hid (Wat n Q L X f S Q0 te (X r c))) (HP : Hid (Pre s (frz Q L K X f te (X r c)).out)) (HA : Hid (After s (frz Q L K X f te (X r c)).out.length)) (HS : Hid (St n w0 w R LM s K X S td T M O cc)) :
    Calls Tryz.prog 155 #[pR R, ptr (T r)] w fun e w' => e = .returned .nilIface ∧ ∃ (T' M' : Nat → Nat) (O' : Nat → Value) (cc' : Nat → Nat), (∀ i ∈ S, T' i = T i ∧ (i ≠ r → cc' i = cc i)) ∧ cc' r = c + 1 ∧ (∀ i ∈ met L X f S (X r c), i ∉ S → cc' i = L i) ∧ St n w0 w' R LM s K X (met L X f S (X r c)) (frz Q L K X f te (X r c)) T' M' O' cc' := by
  have hmax := HGl.out.max
  have hkp := (HGl.out.all r hr).all c hc
  have HKP : Hid (OkP n (K r) (X r) c) := hkp
  obtain ⟨hk, hk0⟩ := key_k hkp.key
  have h100 : c < 100 := Nat.lt_of_lt_of_le hc (HGl.out.all r hr).len
  obtain ⟨b, a, eF, b32, b10⟩ := frz_first (K := K) HW.out
  have hpre : Pre s (td.out ++ (plT (K r c) ++ (58 :: 32 :: b :: a))) := by
    have := HP.out
    rw [eF, ← HTe.out] at this
    simpa [Ft.say] using this
  obtain ⟨p, hp⟩ : ∃ p, td.out.length = p := ⟨_, rfl⟩
  have hnx := hpre.nx
  rw [hp] at hnx
  obtain ⟨nk, n2⟩ := hnx.app
  obtain ⟨q, hq⟩ : ∃ q, p + (plT (K r c)).length = q := ⟨_, rfl⟩
  rw [hq] at n2
  obtain ⟨p58, q1, n3⟩ := n2.hd
  have HNk : Hid (Nx s p (plT (K r c))) := nk
  have p58' : pk s q = 58 := p58
  have HE : Hid (NoD s (p + (plT (K r c)).length)) := by rw [hq]; show ¬ _; rw [p58']; omega
  have HB0 : Hid (Blk s q 0) := blk0 (by omega) ⟨by rw [p58']; decide, by rw [p58']; decide⟩
  have HNc : Hid (Nx s q sColon.data.toList) := (Nx.app (l := [58]) (m := 32 :: b :: a) n2).1
  have HB1 : Hid (Blk s (q + 1) 1) := blk1 n3 b32 b10
  have HR0 : Hid (RdB w R s p LM S.length) := by have := HS.out.rd; rw [hp] at this; exact this
  have hkey := key_any R p LM S.length s (K r c) T w hmax hk (HGl.out.sK r hr c hc) HNk HE HR0
  obtain ⟨xt, xy, F, hty, hmeth, hcf, hcl⟩ := as_at hk0 T (fun _ => 0)
  have hE : atV (fun _ => 0) (K r c) = K r c := by unfold atV; rw [if_neg (by omega)]
  have HCL : Hid (∀ w, Calls Tryz.prog F #[xy] w fun e w' => e = .returned (vAgg (K r c)) ∧ Below w.heap.size w w') := fun w => by
    have := hcl w (fun j hj => absurd hj (Nat.not_lt_zero _))
    rw [hE] at this
    exact this
  rw [hty, hq] at hkey
  obtain ⟨c0, c1, c2, c3, _, _⟩ := four_at HR0.out
  have HLq : Hid (td.out.length + (plT (K r c)).length = q) := by show _ = _; rw [hp]; exact hq
  clear hcl hE hty eF hpre hnx nk n2 n3 p58 p58' hk hk0 hp hq HE hkp
  go_enter Tryz.func155, Tryz.ntmps155
  go_wp2_with (go_at_call 105; refine hkey.mono ?_)
  try simp only [and_imp]
  rintro e w1 rfl h1
  have HS1 : Hid (St n w0 w1 R LM s K X S (td.say (plT (K r c))) T M O cc) := HS.out.say _ (by rw [HLq.out]; exact h1)
  clear hkey h1 c0 c1 c2 c3 HS HR0
  have hP1 := HS1.out.tab r hrS
  rw [hcc] at hP1
  obtain ⟨oa, oc, hO, _⟩ := owns_form hP1.own
  obtain ⟨t0, t1, t2, _⟩ := hP1.tab.cells
  rw [hO] at t2
  have n100 : ¬ ((c : Int) = 100) := by omega
  clear hP1 hO
  go_wp2_with fail
  refine (HCL.out w1).mono ?_
  rintro e w2 ⟨rfl, hb2⟩
  have HS2 : Hid (St n w0 w2 R LM s K X S (td.say (plT (K r c))) T M O cc) := HS1.out.still hb2
  clear hb2 HS1 t0 t1 t2 n100
  have hP2 := HS2.out.tab r hrS
  rw [hcc] at hP2
  have hhk := hasKey_any (T r) (M r) 0 (O r) (mp T (K r) (X r) c) (K r c) w2 hP2.tab hP2.map
  rw [(mp_none T (K r) (X r) (K r c) c).2 HKP.out.once] at hhk
  clear hP2
  go_wp2_with (go_at_call 88; refine hhk.mono ?_)
  try simp only [and_imp]
  rintro e w3 rfl hb3
  have HS3 : Hid (St n w0 w3 R LM s K X S (td.say (plT (K r c))) T M O cc) := HS2.out.still hb3
  clear hhk hb3 HS2
  have HR3 : Hid (RdB w3 R s q LM S.length) := by have := HS3.out.rd; rw [say_len, HLq.out] at this; exact this
  go_wp2_with (go_at_call 62; refine (skip_any R q LM S.length s 0 w3 hmax HB0.out HR3).mono ?_)
  rintro e w4 ⟨rfl, h4⟩
  have HS4 : Hid (St n w0 w4 R LM s K X S (td.say (plT (K r c))) T M O cc) := HS3.out.stp (by rw [say_len, HLq.out]; exact h4)
  have HR4 : Hid (RdB w4 R s q LM S.length) := h4.rd
  clear h4 HS3 HR3
  go_wp2_with (go_at_call 102; refine (expect_any R q LM S.length s sColon w4 hmax (by decide) HNc HR4).mono ?_)
  rintro e w5 ⟨rfl, h5⟩
  have HS5 : Hid (St n w0 w5 R LM s K X S ((td.say (plT (K r c))).say [58]) T M O cc) := HS4.out.say _ (by rw [say_len, HLq.out]; exact h5)
  have HR5 : Hid (RdB w5 R s (q + 1) LM S.length) := h5.rd
  clear h5 HS4 HR4
  go_wp2_with (go_at_call 62; refine (skip_any R (q + 1) LM S.length s 1 w5 hmax HB1.out HR5).mono ?_)
  rintro e w6 ⟨rfl, h6⟩
  have HS6 : Hid (St n w0 w6 R LM s K X S te T M O cc) := by
    have := HS5.out.say [32] (by rw [say_len, say_len, HLq.out]; exact h6)
    rw [say_app2, say_app2] at this
    rw [← HTe.out]
    exact this
  have HR6 : Hid (RdB w6 R s (q + 1 + 1) LM S.length) := h6.rd
  clear h6 HS5 HR5
  obtain ⟨c0, c1, c2, c3, _, _⟩ := four_at HR6.out
  have hval := HV.out S Q0 te (X r c) w6 T M O cc HW.out (HGl.out.sX r hr c hc) HP.out HA.out HS6.out
  clear HS6 HR6 HNc HB0 HB1 HNk
  go_wp2_with (go_at_call 63; refine hval.mono ?_)
  clear hval
  rintro e w7 ⟨T', M', O', cc', rfl, hR, hS7⟩
  have HS7 : Hid (St n w0 w7 R LM s K X (met L X f S (X r c)) (frz Q L K X f te (X r c)) T' M' O' cc') := hS7
  have HRc : Hid (Rch L S (met L X f S (X r c)) T T' cc cc') := hR
  clear hS7 hR c0 c1 c2 c3
  have heq0 := eql_nothing T' n (X r c) HKP.out.val
  have hgd0 := guard_nothing T' n (X r c) HKP.out.val
  rw [show ((X r c).k == 0) = false by simpa using HKP.out.some] at heq0
  obtain ⟨xv, HXV⟩ : ∃ xv, Hid (ifv T' (X r c) = xv) := ⟨_, rfl⟩
  rw [HXV.out] at heq0 hgd0 ⊢
  go_wp2_with fail
  refine (HCL.out w7).mono ?_
  rintro e w8 ⟨rfl, hb8⟩
  have HS8 : Hid (St n w0 w8 R LM s K X (met L X f S (X r c)) (frz Q L K X f te (X r c)) T' M' O' cc') := HS7.out.still hb8
  clear hb8 HS7 heq0 hgd0
  have hall := met_all HGl.out.good f S (X r c) HW.out.fit HKP.out.val HW.out.fuel
  have hrm : r ∈ met L X f S (X r c) := hall.1.mem hrS
  have hcc' : cc' r = c := (HRc.out.same r hrS).2.trans hcc
  have hP8 := HS8.out.tab r hrm
  rw [hcc'] at hP8
  obtain ⟨a1, a2, a3⟩ := hP8.three
  have hput := put2_any (T' r) (M' r) w0.heap.size 0 (O' r) xv (keys (K r) c) (mp T' (K r) (X r) c) (K r c) w8 hP8.tab hP8.map ((mp_none T' (K r) (X r) (K r c) c).2 HKP.out.once) (by rw [keys_len]; exact hP8.own) a1 a2 a3 HS8.out.size (by rw [keys_len]; omega)
  have HTr : Hid (T' r = T r) := (HRc.out.same r hrS).1
  have HHM : Hid ((X r c).k = 4 → (X r c).a.toNat ∈ met L X f S (X r c)) := hall.2.2
  rw [HTr.out] at hput
  clear hP8 a1 a2 a3 hall
  go_wp2_with (go_at_call 89; refine hput.mono ?_)
  try simp only [and_imp]
  rintro e w9 rfl h9
  rw [← HTr.out, ← HXV.out] at h9
  obtain ⟨O2, hS9⟩ := HS8.out.put hrm hcc' HKP.out.val HHM.out h9
  have HS9 : Hid _ := hS9
  clear hput h9 HS8 hS9
  go_wp2
  go_ret
  refine ⟨rfl, T', M', O2, updF cc' r (c + 1), fun i hi => ⟨(HRc.out.same i hi).1, fun hne => by rw [updF_ne _ _ hne]; exact (HRc.out.same i hi).2⟩, updF_at _ _ _, fun i hi hn => ?_, HS9.out⟩
  rw [updF_ne _ _ (fun e => hn (by rw [e]; exact hrS))]
  exact HRc.out.full i hi hn

end Go.Proofs.YtgflalfiopnmnaaGreatDoor
