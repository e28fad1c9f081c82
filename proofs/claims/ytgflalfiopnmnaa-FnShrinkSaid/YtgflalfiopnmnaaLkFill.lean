import Derived.Test.YtgflalfiopnmnaaLkTab
namespace Go.Proofs.Ytgflalfiopnmnaa
open Go.RowKit Vl

theorem eqV_comm (a b : V) : eqV a b = eqV b a := by
  unfold eqV
  rw [Bool.eq_iff_iff]
  simp only [Bool.and_eq_true, beq_iff_eq]
  constructor <;> (rintro ⟨h1, h2, h3, h4⟩; exact ⟨h1.symm, h2.symm, h3.symm, h4.symm⟩)

theorem find_none {v : V} {K : Nat → V} {f : Nat → Value} : ∀ (js : List Nat), findV v (js.map fun j => (K j, f j)) = none ↔ ∀ j ∈ js, eqV v (K j) = false
  | [] => by simp [findV]
  | j :: js => by
    simp only [List.map_cons, findV, List.mem_cons, forall_eq_or_imp]
    by_cases h : eqV v (K j) = true
    · rw [if_pos h]; simp [h]
    · rw [if_neg h, find_none js]; simp [h]

/-- What a table holds of its first c pairs. -/
def mp (Tt : Nat → Nat) (K X : Nat → V) (c : Nat) : List (V × Value) := (List.range c).map fun j => (K j, ifv Tt (X j))
def keys (K : Nat → V) (c : Nat) : List V := (List.range c).map K
theorem mp_succ (Tt : Nat → Nat) (K X : Nat → V) (c : Nat) : mp Tt K X (c + 1) = mp Tt K X c ++ [(K c, ifv Tt (X c))] := by simp [mp, List.range_succ]
theorem keys_succ (K : Nat → V) (c : Nat) : keys K (c + 1) = keys K c ++ [K c] := by simp [keys, List.range_succ]
theorem keys_len (K : Nat → V) (c : Nat) : (keys K c).length = c := by simp [keys]
theorem mp_none (Tt : Nat → Nat) (K X : Nat → V) (v : V) (c : Nat) : findV v (mp Tt K X c) = none ↔ ∀ j, j < c → eqV (K j) v = false := by
  unfold mp
  rw [find_none]
  simp only [List.mem_range]
  exact ⟨fun h j hj => by rw [eqV_comm]; exact h j hj, fun h j hj => by rw [eqV_comm]; exact h j hj⟩

/-- A value against nothing. -/
theorem eql_nothing (Tt : Nat → Nat) (n : Nat) (x : V) (h : isV n x = true) (w : World) :
    (binOp .eql 68 (ifv Tt x) (.iface 151 (.agg #[]))).run Try.prog w = .ok (.bool (x.k == 0)) w := by
  obtain ⟨k, m, s, a⟩ := x
  by_cases k0 : k = 0
  · subst k0; kernel_rfl
  by_cases k1 : k = 1
  · subst k1; kernel_rfl
  by_cases k2 : k = 2
  · subst k2; kernel_rfl
  by_cases k3 : k = 3
  · subst k3; kernel_rfl
  by_cases k4 : k = 4
  · subst k4; kernel_rfl
  · simp [isV, k0, k1, k2, k3, k4] at h

theorem guard_nothing (Tt : Nat → Nat) (n : Nat) (x : V) (h : isV n x = true) (p q : Operand) (w : World) :
    (eqGuard .eql 68 p q (ifv Tt x) (.iface 151 (.agg #[]))).run Try.prog w = .ok () w := by
  obtain ⟨k, m, s, a⟩ := x
  by_cases k0 : k = 0
  · subst k0; cases p <;> cases q <;> kernel_rfl
  by_cases k1 : k = 1
  · subst k1; cases p <;> cases q <;> kernel_rfl
  by_cases k2 : k = 2
  · subst k2; cases p <;> cases q <;> kernel_rfl
  by_cases k3 : k = 3
  · subst k3; cases p <;> cases q <;> kernel_rfl
  by_cases k4 : k = 4
  · subst k4; cases p <;> cases q <;> kernel_rfl
  · simp [isV, k0, k1, k2, k3, k4] at h

/-- Only these two blocks have turned; what the tables say of themselves is as it was. -/
theorem Tabs.only {w w' : World} {ta : Option Addr} {tb n : Nat} {Tt : Nat → Nat} {T M : Nat} {i : Int} {ord : Value} (h : Tabs w ta tb n Tt) (ho : Only (fun k => k = T ∨ k = M) w w') (hT : TabB w' T M i ord) (h1 : 0 < n → tb ≠ T ∧ tb ≠ M) (h2 : ∀ j, j < n → Tt j ≠ M ∧ (Tt j = T → (j : Int) = i)) : Tabs w' ta tb n Tt := by
  refine ⟨h.top, fun j hj => ?_, fun j hj => ?_⟩
  · exact ho.cell (h.ptr j hj) (by have := h1 (by omega); show ¬ (tb = T ∨ tb = M); omega)
  · by_cases e : Tt j = T
    · rw [e, hT.cells.1, (h2 j hj).2 e]
    · exact ho.cell (h.at_ j hj) (by have := (h2 j hj).1; show ¬ (Tt j = T ∨ Tt j = M); omega)

theorem PairsAt.only {w w' : World} {pa : Option Addr} {L B O : Nat} {K X : Nat → V} {P : Nat → Prop} (h : PairsAt w pa L B O K X) (ho : Only P w w') (hB : 0 < L → ¬ P B) : PairsAt w' pa L B O K X := by
  refine ⟨h.top, fun c hc => ?_, fun c hc => ?_⟩
  · exact (h.key c hc).same (ho.block B (World.block_lt_of_cell? _ _ (h.key c hc).1) (hB (by omega)))
  · exact (h.val c hc).same (ho.block B (World.block_lt_of_cell? _ _ (h.val c hc).1) (hB (by omega)))

/-- A table as it stands behind c pairs. -/
structure Filled (w : World) (T M base : Nat) (i : Int) (Tt : Nat → Nat) (K X : Nat → V) (c : Nat) : Prop where
  tab : ∃ ord, TabB w T M i ord ∧ w.ownsRow base 24 4 ord (keys K c).length (keyCells (keys K c))
  map : MapIs w M (mp Tt K X c)

theorem Filled.below {w w' : World} {T M base : Nat} {i : Int} {Tt : Nat → Nat} {K X : Nat → V} {c : Nat} (h : Filled w T M base i Tt K X c) (hb : Below w.heap.size w w') : Filled w' T M base i Tt K X c := by
  obtain ⟨ord, h1, h2⟩ := h.tab
  exact ⟨⟨ord, (hb.block T (blk_lt h1)).trans h1, (Only.below (P := fun _ => False) hb).owns h2 (fun _ _ _ h => h)⟩, h.map.same (hb.block M h.map.lt)⟩

set_option maxHeartbeats 2000000 in
set_option maxRecDepth 100000 in
/-- 'fill'. -/
theorem fill_any (T M : Nat) (i : Int) (pa : Option Addr) (L C B O : Nat) (K X : Nat → V) (ta : Option Addr) (tb n cp : Nat) (Tt : Nat → Nat) (w : World) (hL : L ≤ 1048576)
    (HT : Hid (TabB w T M i (.slice none 0 0))) (HM : Hid (MapIs w M [])) (HP : Hid (PairsAt w pa L B O K X)) (HTt : Hid (Tabs w ta tb n Tt)) (hTM : T ≠ M) (hPB : Hid (0 < L → B ≠ T ∧ B ≠ M)) (htb : Hid (0 < n → tb ≠ T ∧ tb ≠ M)) (hTt : Hid (∀ j, j < n → Tt j ≠ M ∧ (Tt j = T → (j : Int) = i))) :
    Calls Try.prog 86 #[.pointer (some ⟨T, 0, none⟩), .slice pa L C, .slice ta n cp] w fun e w' => Tells (OkT n L K X) e ∧ Only (fun k => k = T ∨ k = M) w w' ∧ (OkT n L K X → Filled w' T M w.heap.size i Tt K X L) := by
  have hTlt : T < w.heap.size := blk_lt HT.out
  have hMlt : M < w.heap.size := HM.out.lt
  by_cases h100 : L ≤ 100
  · go_enter Try.func86, Try.ntmps86
    go_wp2
    go_loopw [16] (fun ii wr => ∃ c : Nat, c ≤ L ∧ ii = .int .i64 c ∧ Hid (∀ q, q < c → OkP n K X q) ∧ Hid (Filled wr T M w.heap.size i Tt K X c) ∧ Hid (Only (fun k => k = T ∨ k = M) w wr)) (fun ii _ => L - (intOf ii).toNat)
    case atStart => exact ⟨0, Nat.zero_le _, rfl, fun q hq => absurd hq (Nat.not_lt_zero _), ⟨⟨_, HT.out, World.ownsRow_nil _ _ _ _⟩, HM.out⟩, Only.refl _ _⟩
    case round =>
      obtain ⟨c, hc, rfl, HQ, HF, HO⟩ := hrel
      by_cases hlt : c < L
      · obtain rfl := HP.out.top (by omega)
        have HPr : Hid (PairsAt wr (some ⟨B, O, none⟩) L B O K X) := HP.out.only HO.out (fun h => by have := hPB.out h; show ¬ (B = T ∨ B = M); omega)
        obtain ⟨⟨k0, k1, k2, k3⟩, ⟨x0, x1, x2, x3⟩⟩ := HPr.out.cells hlt
        obtain ⟨wp, hwp⟩ : ∃ wp, wp = wr.alloc (.cells #[.int .i64 (K c).k, .int .i64 (K c).n, .string (K c).s, .int .i64 (K c).a, .int .i64 (X c).k, .int .i64 (X c).n, .string (X c).s, .int .i64 (X c).a] 75) := ⟨_, rfl⟩
        have HBp : Hid (Below wr.heap.size wr wp) := by rw [hwp]; exact (Below.refl _ _).alloc (Nat.le_refl _) _
        have Hp : Hid (wp.heap[wr.heap.size]? = some (.cells #[.int .i64 (K c).k, .int .i64 (K c).n, .string (K c).s, .int .i64 (K c).a, .int .i64 (X c).k, .int .i64 (X c).n, .string (X c).s, .int .i64 (X c).a] 75 (0, 0))) := by rw [hwp]; exact heap_alloc_new _ _
        have HFp : Hid (Filled wp T M w.heap.size i Tt K X c) := HF.out.below HBp.out
        have HOp : Hid (Only (fun k => k = T ∨ k = M) w wp) := HO.out.trans (Only.below HBp.out)
        have HTp : Hid (Tabs wp ta tb n Tt) := by
          obtain ⟨ord, h1, _⟩ := HFp.out.tab
          exact HTt.out.only HOp.out h1 htb.out hTt.out
        have hof := of_any (X c) ta tb n cp Tt wp HTp
        obtain ⟨bx, hbx⟩ : ∃ b, isV n (X c) = b := ⟨_, rfl⟩
        rw [hbx] at hof
        go_wp2_with fail
        rw [← hwp]
        refine hof.mono ?_
        clear hof
        rintro e w2 ⟨rfl, hb2⟩
        have HF2 : Hid (Filled w2 T M w.heap.size i Tt K X c) := HFp.out.below hb2
        have HO2 : Hid (Only (fun k => k = T ∨ k = M) w w2) := HOp.out.trans (Only.below hb2)
        have HP2 : Hid (w2.heap[wr.heap.size]? = some (.cells #[.int .i64 (K c).k, .int .i64 (K c).n, .string (K c).s, .int .i64 (K c).a, .int .i64 (X c).k, .int .i64 (X c).n, .string (X c).s, .int .i64 (X c).a] 75 (0, 0))) := (hb2.block _ (blk_lt Hp.out)).trans Hp.out
        have hbpw : w.heap.size ≤ wr.heap.size := HO.out.size
        obtain ⟨bp, hbp⟩ : ∃ bp, wr.heap.size = bp := ⟨_, rfl⟩
        rw [hbp] at HP2 hbpw ⊢
        clear hb2 hwp HBp Hp HFp HOp HTp hbp k0 k1 k2 k3 x0 x1 x2 x3 HF HO HPr
        cases bx
        · have HN : Hid (¬ OkT n L K X) := show ¬ OkT n L K X from fun h => by have := (h.all c hlt).val; rw [hbx] at this; cases this
          clear hbx
          go_wp2
          go_ret
          exact ⟨tells_no HN.out, HO2.out, fun h => absurd h HN.out⟩
        · have heq0 := eql_nothing Tt n (X c) hbx
          have hgd0 := guard_nothing Tt n (X c) hbx
          have HBX : Hid (isV n (X c) = true) := hbx
          obtain ⟨xv, HXV⟩ : ∃ xv, Hid (ifv Tt (X c) = xv) := ⟨_, rfl⟩
          rw [HXV.out] at heq0 hgd0
          rw [if_pos rfl, HXV.out]
          clear hbx
          by_cases hx0 : (X c).k = 0
          · have HN : Hid (¬ OkT n L K X) := show ¬ OkT n L K X from fun h => (h.all c hlt).some hx0
            have hx0' : ((X c).k == 0) = true := by simpa using hx0
            rw [hx0'] at heq0
            clear hx0 hx0'
            go_wp2
            go_ret
            exact ⟨tells_no HN.out, HO2.out, fun h => absurd h HN.out⟩
          · have hx0' : ((X c).k == 0) = false := by simpa using hx0
            rw [hx0'] at heq0
            have HX0 : Hid ((X c).k ≠ 0) := hx0
            clear hx0 hx0'
            obtain ⟨c0, c1, c2, c3, c4, c5, c6, c7, _⟩ := cells8 HP2.out
            obtain ⟨bk, hbk⟩ : ∃ b, isK (K c) = b := ⟨_, rfl⟩
            have hik := isKey_any (K c) w2
            rw [hbk] at hik
            go_wp2_with fail
            refine hik.mono ?_
            clear hik
            rintro e w3 ⟨rfl, hb3⟩
            have HF3 : Hid (Filled w3 T M w.heap.size i Tt K X c) := HF2.out.below hb3
            have HO3 : Hid (Only (fun k => k = T ∨ k = M) w w3) := HO2.out.trans (Only.below hb3)
            have HP3 : Hid (w3.heap[bp]? = some (.cells #[.int .i64 (K c).k, .int .i64 (K c).n, .string (K c).s, .int .i64 (K c).a, .int .i64 (X c).k, .int .i64 (X c).n, .string (X c).s, .int .i64 (X c).a] 75 (0, 0))) := (hb3.block _ (blk_lt HP2.out)).trans HP2.out
            clear hb3 HP2 HO2 HF2 c0 c1 c2 c3 c4 c5 c6 c7 heq0 hgd0
            cases bk
            · have HN : Hid (¬ OkT n L K X) := show ¬ OkT n L K X from fun h => by have := (h.all c hlt).key; rw [hbk] at this; cases this
              clear hbk
              go_wp2
              go_ret
              exact ⟨tells_no HN.out, HO3.out, fun h => absurd h HN.out⟩
            · have HBK : Hid (isK (K c) = true) := hbk
              clear hbk
              obtain ⟨c0, c1, c2, c3, c4, c5, c6, c7, _⟩ := cells8 HP3.out
              obtain ⟨ord, hT3, hR3⟩ := HF3.out.tab
              have HT3 : Hid (TabB w3 T M i ord) := hT3
              have HR3 : Hid (w3.ownsRow w.heap.size 24 4 ord (keys K c).length (keyCells (keys K c))) := hR3
              have hhk := hasKey_any T M i ord (mp Tt K X c) (K c) w3 HT3 HF3.out.map
              obtain ⟨bh, hbh⟩ : ∃ b, (findV (K c) (mp Tt K X c)).isSome = b := ⟨_, rfl⟩
              rw [hbh] at hhk
              clear hT3 hR3
              go_wp2_with fail
              refine hhk.mono ?_
              clear hhk
              rintro e w4 ⟨rfl, hb4⟩
              have HT4 : Hid (TabB w4 T M i ord) := (hb4.block T (blk_lt HT3.out)).trans HT3.out
              have HM4 : Hid (MapIs w4 M (mp Tt K X c)) := HF3.out.map.same (hb4.block M HF3.out.map.lt)
              have HR4 : Hid (w4.ownsRow w.heap.size 24 4 ord (keys K c).length (keyCells (keys K c))) := (Only.below (P := fun _ => False) hb4).owns HR3.out (fun _ _ _ h => h)
              have HO4 : Hid (Only (fun k => k = T ∨ k = M) w w4) := HO3.out.trans (Only.below hb4)
              have HP4 : Hid (w4.heap[bp]? = some (.cells #[.int .i64 (K c).k, .int .i64 (K c).n, .string (K c).s, .int .i64 (K c).a, .int .i64 (X c).k, .int .i64 (X c).n, .string (X c).s, .int .i64 (X c).a] 75 (0, 0))) := (hb4.block _ (blk_lt HP3.out)).trans HP3.out
              clear hb4 HP3 HO3 HF3 HT3 HR3 c0 c1 c2 c3 c4 c5 c6 c7
              cases bh
              · have hnone : findV (K c) (mp Tt K X c) = none := by simpa using hbh
                have HQ' : Hid (∀ q, q < c + 1 → OkP n K X q) := show ∀ q, q < c + 1 → _ from fun q hq => by
                  by_cases e : q = c
                  · subst e; exact ⟨HBK.out, HBX.out, HX0.out, (mp_none Tt K X (K q) q).1 hnone⟩
                  · exact HQ.out q (by omega)
                obtain ⟨c0, c1, c2, c3, c4, c5, c6, c7, _⟩ := cells8 HP4.out
                have hput := put_any T M w.heap.size i ord xv (keys K c) (mp Tt K X c) (K c) w4 HT4 HM4 hnone HR4 hTM hTlt hMlt HO4.out.size (by rw [keys_len]; omega)
                clear hbh hnone
                go_wp2_with fail
                refine hput.mono ?_
                clear hput
                rintro e w5 ⟨rfl, hpe⟩
                have HF5 : Hid (Filled w5 T M w.heap.size i Tt K X (c + 1)) := by
                  refine ⟨?_, ?_⟩
                  · rw [keys_succ]; exact hpe.tab
                  · rw [mp_succ, HXV.out]; exact hpe.map
                have HO5 : Hid (Only (fun k => k = T ∨ k = M) w w5) := by
                  have h1 := HO4.out
                  have h2 := hpe.only
                  exact ⟨h2.os.trans h1.os, h2.tape.trans h1.tape, h2.output.trans h1.output, Nat.le_trans h1.size h2.size, fun k hk hP => by
                    rw [h2.block k (Nat.lt_of_lt_of_le hk h1.size) (fun hh => by (rcases hh with hh | hh | hh; exact hP (Or.inl hh); exact hP (Or.inr hh); omega)), h1.block k hk hP]⟩
                clear hpe HT4 HM4 HR4 HO4 HP4 c0 c1 c2 c3 c4 c5 c6 c7
                go_wp2
                go_roundw
                case rel => exact ⟨c + 1, by omega, by go_num, HQ', HF5, HO5⟩
                case measure => simp [intOf]; omega
              · have HN : Hid (¬ OkT n L K X) := show ¬ OkT n L K X from fun h => by
                  have := (mp_none Tt K X (K c) c).2 (h.all c hlt).once
                  rw [this] at hbh
                  cases hbh
                clear hbh
                go_wp2
                go_ret
                exact ⟨tells_no HN.out, HO4.out, fun h => absurd h HN.out⟩
      · obtain rfl : c = L := by omega
        go_wp2
        go_ret
        exact ⟨tells_yes ⟨h100, HQ.out⟩, HO.out, fun _ => HF.out⟩
  · have HN : Hid (¬ OkT n L K X) := show ¬ OkT n L K X from fun h => h100 h.len
    have hgt : 100 < L := by omega
    go_enter Try.func86, Try.ntmps86
    go_wp2
    go_ret
    exact ⟨tells_no HN.out, Only.refl _ _, fun h => absurd h HN.out⟩

end Go.Proofs.Ytgflalfiopnmnaa
