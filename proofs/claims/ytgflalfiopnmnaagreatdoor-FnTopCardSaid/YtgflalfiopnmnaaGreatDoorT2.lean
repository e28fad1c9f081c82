import Derived.Test.YtgflalfiopnmnaaGreatDoorT1
import Derived.Test.YtgflalfiopnmnaaGreatDoorOnlyB
namespace Go.Proofs.YtgflalfiopnmnaaGreatDoor
open Go.RowKit Vl

theorem eqV_comm (a b : V) : eqV a b = eqV b a := by
  unfold eqV
  rw [Bool.eq_iff_iff]
  simp only [Bool.and_eq_true, beq_iff_eq]
  constructor <;> (rintro ⟨h1, h2, h3, h4⟩; exact ⟨h1.symm, h2.symm, h3.symm, h4.symm⟩)

theorem find_none {v : V} {K : Nat → V} {f : Nat → Value} : ∀ (js : List Nat), findV v (js.map fun j => (K j, f j)) = none ↔ ∀ j ∈ js, eqV v (K j) = false
  | [] => by simp [findV]
  | j :: js => by
    simp only [List.map_cons, findV, List.mem_cons, forall_eq_or_imp]
    by_cases h : eqV v (K j) = true
    · rw [if_pos h]; simp [h]
    · rw [if_neg h, find_none js]; simp [h]

def mp (Tt : Nat → Nat) (K X : Nat → V) (c : Nat) : List (V × Value) := (List.range c).map fun j => (K j, ifv Tt (X j))
def keys (K : Nat → V) (c : Nat) : List V := (List.range c).map K
theorem mp_succ (Tt : Nat → Nat) (K X : Nat → V) (c : Nat) : mp Tt K X (c + 1) = mp Tt K X c ++ [(K c, ifv Tt (X c))] := by simp [mp, List.range_succ]
theorem keys_succ (K : Nat → V) (c : Nat) : keys K (c + 1) = keys K c ++ [K c] := by simp [keys, List.range_succ]
theorem keys_len (K : Nat → V) (c : Nat) : (keys K c).length = c := by simp [keys]
theorem mp_none (Tt : Nat → Nat) (K X : Nat → V) (v : V) (c : Nat) : findV v (mp Tt K X c) = none ↔ ∀ j, j < c → eqV (K j) v = false := by
  unfold mp
  rw [find_none]
  simp only [List.mem_range]
  exact ⟨fun h j hj => by rw [eqV_comm]; exact h j hj, fun h j hj => by rw [eqV_comm]; exact h j hj⟩

theorem eql_nothing (Tt : Nat → Nat) (n : Nat) (x : V) (h : isV n x = true) (w : World) :
    (binOp .eql 54 (ifv Tt x) (.iface 180 (.agg #[]))).run Tryz.prog w = .ok (.bool (x.k == 0)) w := by
  obtain ⟨k, m, s, a⟩ := x
  by_cases k0 : k = 0
  · subst k0; kernel_rfl
  by_cases k1 : k = 1
  · subst k1; kernel_rfl
  by_cases k2 : k = 2
  · subst k2; kernel_rfl
  by_cases k3 : k = 3
  · subst k3; kernel_rfl
  by_cases k4 : k = 4
  · subst k4; kernel_rfl
  · simp [isV, k0, k1, k2, k3, k4] at h

theorem guard_nothing (Tt : Nat → Nat) (n : Nat) (x : V) (h : isV n x = true) (p q : Operand) (w : World) :
    (eqGuard .eql 54 p q (ifv Tt x) (.iface 180 (.agg #[]))).run Tryz.prog w = .ok () w := by
  obtain ⟨k, m, s, a⟩ := x
  by_cases k0 : k = 0
  · subst k0; cases p <;> cases q <;> kernel_rfl
  by_cases k1 : k = 1
  · subst k1; cases p <;> cases q <;> kernel_rfl
  by_cases k2 : k = 2
  · subst k2; cases p <;> cases q <;> kernel_rfl
  by_cases k3 : k = 3
  · subst k3; cases p <;> cases q <;> kernel_rfl
  by_cases k4 : k = 4
  · subst k4; cases p <;> cases q <;> kernel_rfl
  · simp [isV, k0, k1, k2, k3, k4] at h

theorem Tabs.only {w w' : World} {ta : Option Addr} {tb n : Nat} {Tt : Nat → Nat} {T M : Nat} {i : Int} {ord : Value} (h : Tabs w ta tb n Tt) (ho : Only (fun k => k = T ∨ k = M) w w') (hT : TabB w' T M i ord) (h1 : 0 < n → tb ≠ T ∧ tb ≠ M) (h2 : ∀ j, j < n → Tt j ≠ M ∧ (Tt j = T → (j : Int) = i)) : Tabs w' ta tb n Tt := by
  refine ⟨h.top, fun j hj => ?_, fun j hj => ?_⟩
  · exact ho.cell (h.ptr j hj) (by have := h1 (by omega); show ¬ (tb = T ∨ tb = M); omega)
  · by_cases e : Tt j = T
    · rw [e, hT.cells.1, (h2 j hj).2 e]
    · exact ho.cell (h.at_ j hj) (by have := (h2 j hj).1; show ¬ (Tt j = T ∨ Tt j = M); omega)

theorem PairsAt.only {w w' : World} {pa : Option Addr} {L B O : Nat} {K X : Nat → V} {P : Nat → Prop} (h : PairsAt w pa L B O K X) (ho : Only P w w') (hB : 0 < L → ¬ P B) : PairsAt w' pa L B O K X := by
  refine ⟨h.top, fun c hc => ?_, fun c hc => ?_⟩
  · exact (h.key c hc).same (ho.block B (World.block_lt_of_cell? _ _ (h.key c hc).1) (hB (by omega)))
  · exact (h.val c hc).same (ho.block B (World.block_lt_of_cell? _ _ (h.val c hc).1) (hB (by omega)))

structure Filled (w : World) (T M base : Nat) (i : Int) (Tt : Nat → Nat) (K X : Nat → V) (c : Nat) : Prop where
  tab : ∃ ord, TabB w T M i ord ∧ w.ownsRow base 24 4 ord (keys K c).length (keyCells (keys K c))
  map : MapIs w M (mp Tt K X c)

theorem Filled.below {w w' : World} {T M base : Nat} {i : Int} {Tt : Nat → Nat} {K X : Nat → V} {c : Nat} (h : Filled w T M base i Tt K X c) (hb : Below w.heap.size w w') : Filled w' T M base i Tt K X c := by
  obtain ⟨ord, h1, h2⟩ := h.tab
  exact ⟨⟨ord, (hb.block T (blk_lt h1)).trans h1, (Only.below (P := fun _ => False) hb).owns h2 (fun _ _ _ h => h)⟩, h.map.same (hb.block M h.map.lt)⟩

set_option maxHeartbeats 2000000 in
set_option maxRecDepth 100000 in
theorem fill_any (T M : Nat) (i : Int) (pa : Option Addr) (L C B O : Nat) (K X : Nat → V) (ta : Option Addr) (tb n cp : Nat) (Tt : Nat → Nat) (w : World) (hL : L ≤ 1048576)
    (HT : Hid (TabB w T M i (.slice none 0 0))) (HM : Hid (MapIs w M [])) (HP : Hid (PairsAt w pa L B O K X)) (HTt : Hid (Tabs w ta tb n Tt)) (hTM : T ≠ M) (hPB : Hid (0 < L → B ≠ T ∧ B ≠ M)) (htb : Hid (0 < n → tb ≠ T ∧ tb ≠ M)) (hTt : Hid (∀ j, j < n → Tt j ≠ M ∧ (Tt j = T → (j : Int) = i))) :
    Calls Tryz.prog 50 #[.pointer (some ⟨T, 0, none⟩), .slice pa L C, .slice ta n cp] w fun e w' => Tells (OkT n L K X) e ∧ Only (fun k => k = T ∨ k = M) w w' ∧ (OkT n L K X → Filled w' T M w.heap.size i Tt K X L) := by
  have hTlt : T < w.heap.size := blk_lt HT.out
  have hMlt : M < w.heap.size := HM.out.lt
  by_cases h100 : L ≤ 100
  · go_enter Tryz.func50, Tryz.ntmps50
    go_wp2
    go_loopw [16] (fun ii wr => ∃ c : Nat, c ≤ L ∧ ii = .int .i64 c ∧ Hid (∀ q, q < c → OkP n K X q) ∧ Hid (Filled wr T M w.heap.size i Tt K X c) ∧ Hid (Only (fun k => k = T ∨ k = M) w wr)) (fun ii _ => L - (intOf ii).toNat)
    case atStart => exact ⟨0, Nat.zero_le _, rfl, fun q hq => absurd hq (Nat.not_lt_zero _), ⟨⟨_, HT.out, World.ownsRow_nil _ _ _ _⟩, HM.out⟩, Only.refl _ _⟩
    case round =>
      obtain ⟨c, hc, rfl, HQ, HF, HO⟩ := hrel
      by_cases hlt : c < L
      · obtain rfl := HP.out.top (by omega)
        have HPr : Hid (PairsAt wr (some ⟨B, O, none⟩) L B O K X) := HP.out.only HO.out (fun h => by have := hPB.out h; show ¬ (B = T ∨ B = M); omega)
        obtain ⟨⟨k0, k1, k2, k3⟩, ⟨x0, x1, x2, x3⟩⟩ := HPr.out.cells hlt
        obtain ⟨wp, hwp⟩ : ∃ wp, wp = wr.alloc (.cells #[.int .i64 (K c).k, .int .i64 (K c).n, .string (K c).s, .int .i64 (K c).a, .int .i64 (X c).k, .int .i64 (X c).n, .string (X c).s, .int .i64 (X c).a] 39) := ⟨_, rfl⟩
        have HBp : Hid (Below wr.heap.size wr wp) := by rw [hwp]; exact (Below.refl _ _).alloc (Nat.le_refl _) _
        have Hp : Hid (wp.heap[wr.heap.size]? = some (.cells #[.int .i64 (K c).k, .int .i64 (K c).n, .string (K c).s, .int .i64 (K c).a, .int .i64 (X c).k, .int .i64 (X c).n, .string (X c).s, .int .i64 (X c).a] 39 (0, 0))) := by rw [hwp]; exact heap_alloc_new _ _
        have HFp : Hid (Filled wp T M w.heap.size i Tt K X c) := HF.out.below HBp.out
        have HOp : Hid (Only (fun k => k = T ∨ k = M) w wp) := HO.out.trans (Only.below HBp.out)
        have HTp : Hid (Tabs wp ta tb n Tt) := by
          obtain ⟨ord, h1, _⟩ := HFp.out.tab
          exact HTt.out.only HOp.out h1 htb.out hTt.out
        have hof := of_any (X c) ta tb n cp Tt wp HTp
        obtain ⟨bx, hbx⟩ : ∃ b, isV n (X c) = b := ⟨_, rfl⟩
        rw [hbx] at hof
        go_wp2_with fail
        rw [← hwp]
        refine hof.mono ?_
        clear hof
        rintro e w2 ⟨rfl, hb2⟩
        have HF2 : Hid (Filled w2 T M w.heap.size i Tt K X c) := HFp.out.below hb2
        have HO2 : Hid (Only (fun k => k = T ∨ k = M) w w2) := HOp.out.trans (Only.below hb2)
        have HP2 : Hid (w2.heap[wr.heap.size]? = some (.cells #[.int .i64 (K c).k, .int .i64 (K c).n, .string (K c).s, .int .i64 (K c).a, .int .i64 (X c).k, .int .i64 (X c).n, .string (X c).s, .int .i64 (X c).a] 39 (0, 0))) := (hb2.block _ (blk_lt Hp.out)).trans Hp.out
        have hbpw : w.heap.size ≤ wr.heap.size := HO.out.size
        obtain ⟨bp, hbp⟩ : ∃ bp, wr.heap.size = bp := ⟨_, rfl⟩
        rw [hbp] at HP2 hbpw ⊢
        clear hb2 hwp HBp Hp HFp HOp HTp hbp k0 k1 k2 k3 x0 x1 x2 x3 HF HO HPr
        cases bx
        · have HN : Hid (¬ OkT n L K X) := show ¬ OkT n L K X from fun h => by have := (h.all c hlt).val; rw [hbx] at this; cases this
          clear hbx
          go_wp2
          go_ret
          exact ⟨tells_no HN.out, HO2.out, fun h => absurd h HN.out⟩
        · have heq0 := eql_nothing Tt n (X c) hbx
          have hgd0 := guard_nothing Tt n (X c) hbx
          have HBX : Hid (isV n (X c) = true) := hbx
          obtain ⟨xv, HXV⟩ : ∃ xv, Hid (ifv Tt (X c) = xv) := ⟨_, rfl⟩
          rw [HXV.out] at heq0 hgd0
          rw [if_pos rfl, HXV.out]
          clear hbx
          by_cases hx0 : (X c).k = 0
          · have HN : Hid (¬ OkT n L K X) := show ¬ OkT n L K X from fun h => (h.all c hlt).some hx0
            have hx0' : ((X c).k == 0) = true := by simpa using hx0
            rw [hx0'] at heq0
            clear hx0 hx0'
            go_wp2
            go_ret
            exact ⟨tells_no HN.out, HO2.out, fun h => absurd h HN.out⟩
          · have hx0' : ((X c).k == 0) = false := by simpa using hx0
            rw [hx0'] at heq0
            have HX0 : Hid ((X c).k ≠ 0) := hx0
            clear hx0 hx0'
            obtain ⟨c0, c1, c2, c3, c4, c5, c6, c7, _⟩ := cells8 HP2.out
            obtain ⟨bk, hbk⟩ : ∃ b, isK (K c) = b := ⟨_, rfl⟩
            have hik := isKey_any (K c) w2
            rw [hbk] at hik
            go_wp2_with fail
            refine hik.mono ?_
            clear hik
            rintro e w3 ⟨rfl, hb3⟩
            have HF3 : Hid (Filled w3 T M w.heap.size i Tt K X c) := HF2.out.below hb3
            have HO3 : Hid (Only (fun k => k = T ∨ k = M) w w3) := HO2.out.trans (Only.below hb3)
            have HP3 : Hid (w3.heap[bp]? = some (.cells #[.int .i64 (K c).k, .int .i64 (K c).n, .string (K c).s, .int .i64 (K c).a, .int .i64 (X c).k, .int .i64 (X c).n, .string (X c).s, .int .i64 (X c).a] 39 (0, 0))) := (hb3.block _ (blk_lt HP2.out)).trans HP2.out
            clear hb3 HP2 HO2 HF2 c0 c1 c2 c3 c4 c5 c6 c7 heq0 hgd0
            cases bk
            · have HN : Hid (¬ OkT n L K X) := show ¬ OkT n L K X from fun h => by have := (h.all c hlt).key; rw [hbk] at this; cases this
              clear hbk
              go_wp2
              go_ret
              exact ⟨tells_no HN.out, HO3.out, fun h => absurd h HN.out⟩
            · have HBK : Hid (isK (K c) = true) := hbk
              clear hbk
              obtain ⟨c0, c1, c2, c3, c4, c5, c6, c7, _⟩ := cells8 HP3.out
              obtain ⟨ord, hT3, hR3⟩ := HF3.out.tab
              have HT3 : Hid (TabB w3 T M i ord) := hT3
              have HR3 : Hid (w3.ownsRow w.heap.size 24 4 ord (keys K c).length (keyCells (keys K c))) := hR3
              have hhk := hasKey_any T M i ord (mp Tt K X c) (K c) w3 HT3 HF3.out.map
              obtain ⟨bh, hbh⟩ : ∃ b, (findV (K c) (mp Tt K X c)).isSome = b := ⟨_, rfl⟩
              rw [hbh] at hhk
              clear hT3 hR3
              go_wp2_with fail
              refine hhk.mono ?_
              clear hhk
              rintro e w4 ⟨rfl, hb4⟩
              have HT4 : Hid (TabB w4 T M i ord) := (hb4.block T (blk_lt HT3.out)).trans HT3.out
              have HM4 : Hid (MapIs w4 M (mp Tt K X c)) := HF3.out.map.same (hb4.block M HF3.out.map.lt)
              have HR4 : Hid (w4.ownsRow w.heap.size 24 4 ord (keys K c).length (keyCells (keys K c))) := (Only.below (P := fun _ => False) hb4).owns HR3.out (fun _ _ _ h => h)
              have HO4 : Hid (Only (fun k => k = T ∨ k = M) w w4) := HO3.out.trans (Only.below hb4)
              have HP4 : Hid (w4.heap[bp]? = some (.cells #[.int .i64 (K c).k, .int .i64 (K c).n, .string (K c).s, .int .i64 (K c).a, .int .i64 (X c).k, .int .i64 (X c).n, .string (X c).s, .int .i64 (X c).a] 39 (0, 0))) := (hb4.block _ (blk_lt HP3.out)).trans HP3.out
              clear hb4 HP3 HO3 HF3 HT3 HR3 c0 c1 c2 c3 c4 c5 c6 c7
              cases bh
              · have hnone : findV (K c) (mp Tt K X c) = none := by simpa using hbh
                have HQ' : Hid (∀ q, q < c + 1 → OkP n K X q) := show ∀ q, q < c + 1 → _ from fun q hq => by
                  by_cases e : q = c
                  · subst e; exact ⟨HBK.out, HBX.out, HX0.out, (mp_none Tt K X (K q) q).1 hnone⟩
                  · exact HQ.out q (by omega)
                obtain ⟨c0, c1, c2, c3, c4, c5, c6, c7, _⟩ := cells8 HP4.out
                have hput := put_any T M w.heap.size i ord xv (keys K c) (mp Tt K X c) (K c) w4 HT4 HM4 hnone HR4 hTM hTlt hMlt HO4.out.size (by rw [keys_len]; omega)
                clear hbh hnone
                go_wp2_with fail
                refine hput.mono ?_
                clear hput
                rintro e w5 ⟨rfl, hpe⟩
                have HF5 : Hid (Filled w5 T M w.heap.size i Tt K X (c + 1)) := by
                  refine ⟨?_, ?_⟩
                  · rw [keys_succ]; exact hpe.tab
                  · rw [mp_succ, HXV.out]; exact hpe.map
                have HO5 : Hid (Only (fun k => k = T ∨ k = M) w w5) := by
                  have h1 := HO4.out
                  have h2 := hpe.only
                  exact ⟨h2.os.trans h1.os, h2.tape.trans h1.tape, h2.output.trans h1.output, Nat.le_trans h1.size h2.size, fun k hk hP => by
                    rw [h2.block k (Nat.lt_of_lt_of_le hk h1.size) (fun hh => by (rcases hh with hh | hh | hh; exact hP (Or.inl hh); exact hP (Or.inr hh); omega)), h1.block k hk hP]⟩
                clear hpe HT4 HM4 HR4 HO4 HP4 c0 c1 c2 c3 c4 c5 c6 c7
                go_wp2
                go_roundw
                case rel => exact ⟨c + 1, by omega, by go_num, HQ', HF5, HO5⟩
                case measure => simp [intOf]; omega
              · have HN : Hid (¬ OkT n L K X) := show ¬ OkT n L K X from fun h => by
                  have := (mp_none Tt K X (K c) c).2 (h.all c hlt).once
                  rw [this] at hbh
                  cases hbh
                clear hbh
                go_wp2
                go_ret
                exact ⟨tells_no HN.out, HO4.out, fun h => absurd h HN.out⟩
      · obtain rfl : c = L := by omega
        go_wp2
        go_ret
        exact ⟨tells_yes ⟨h100, HQ.out⟩, HO.out, fun _ => HF.out⟩
  · have HN : Hid (¬ OkT n L K X) := show ¬ OkT n L K X from fun h => h100 h.len
    have hgt : 100 < L := by omega
    go_enter Tryz.func50, Tryz.ntmps50
    go_wp2
    go_ret
    exact ⟨tells_no HN.out, Only.refl _ _, fun h => absurd h HN.out⟩

end Go.Proofs.YtgflalfiopnmnaaGreatDoor

namespace Go.Proofs.YtgflalfiopnmnaaGreatDoor
open Go.RowKit Vl

theorem Filled.only {w w' : World} {T M base : Nat} {i : Int} {Tt : Nat → Nat} {K X : Nat → V} {c : Nat} {P : Nat → Prop} (h : Filled w T M base i Tt K X c) (ho : Only P w w') (h1 : ¬ P T) (h2 : ¬ P M) (h3 : ∀ g, base ≤ g → ¬ P g) : Filled w' T M base i Tt K X c := by
  obtain ⟨ord, a1, a2⟩ := h.tab
  exact ⟨⟨ord, (ho.block T (blk_lt a1) h1).trans a1, ho.owns a2 (fun g hg _ => h3 g hg)⟩, h.map.same (ho.block M h.map.lt h2)⟩

abbrev tT (b j : Nat) : Nat := b + 4 + 2 * j
abbrev tM (b j : Nat) : Nat := b + 3 + 2 * j

structure Laid (w : World) (b n c : Nat) : Prop where
  row : w.rowIs (b + 2) 107 n (fun j => if j < c then .pointer (some ⟨tT b j, 0, none⟩) else .pointer none)
  tab : ∀ j, j < c → TabB w (tT b j) (tM b j) j (.slice none 0 0) ∧ MapIs w (tM b j) []
  size : w.heap.size = b + 3 + 2 * c

theorem Tryz.info107 : (Tryz.prog.info? 107).map (fun i => (i.zero, i.size, i.bytes)) = some (some (.pointer none), 1, 8) := by kernel_rfl

theorem Laid.next {w : World} {b n c : Nat} (h : Laid w b n c) (hc : c < n) :
    Laid (((w.alloc (.map #[] 0)).alloc (.cells #[.int .i64 c, .map (some (tM b c)), .slice none 0 0] 121)).setCell ⟨b + 2, c, none⟩ (.pointer (some ⟨tT b c, 0, none⟩))) b n (c + 1) := by
  have A := alloc2 w (.map #[] 0) (.cells #[.int .i64 c, .map (some (tM b c)), .slice none 0 0] 121)
  have hs := h.size
  refine ⟨?_, fun j hj => ?_, ?_⟩
  · refine (((h.row.alloc _).alloc _).set c _).congr (fun i _ => ?_)
    by_cases e : i = c
    · subst e; rw [if_pos rfl, if_pos (by omega)]
    · rw [if_neg e]
      by_cases hl : i < c
      · rw [if_pos hl, if_pos (by omega)]
      · rw [if_neg hl, if_neg (by omega)]
  · by_cases e : j = c
    · subst e
      constructor
      · unfold TabB
        rw [Below.heap_setCell _ _ _ _ (show tT b j ≠ b + 2 by unfold tT; omega)]
        have := A.2.1
        rw [hs] at this
        rw [show tT b j = b + 3 + 2 * j + 1 by unfold tT; omega]
        exact this
      · refine MapIs.same (w := (w.alloc (.map #[] 0)).alloc (.cells #[.int .i64 j, .map (some (tM b j)), .slice none 0 0] 121)) ⟨#[], 0, ?_, rfl⟩ (Below.heap_setCell _ _ _ _ (show tM b j ≠ b + 2 by unfold tM; omega))
        have := A.1
        rw [hs] at this
        exact this
    · obtain ⟨h1, h2⟩ := h.tab j (by omega)
      have k1 : ∀ k, k < w.heap.size → k ≠ b + 2 → (((w.alloc (.map #[] 0)).alloc (.cells #[.int .i64 c, .map (some (tM b c)), .slice none 0 0] 121)).setCell ⟨b + 2, c, none⟩ (.pointer (some ⟨tT b c, 0, none⟩))).heap[k]? = w.heap[k]? := fun k hk hne => by
        rw [Below.heap_setCell _ _ _ _ (show k ≠ b + 2 from hne), A.2.2.2.block k hk]
      exact ⟨(k1 _ (blk_lt h1) (by unfold tT; omega)).trans h1, h2.same (k1 _ h2.lt (by unfold tM; omega))⟩
  · simp [World.setCell, hs]; omega

end Go.Proofs.YtgflalfiopnmnaaGreatDoor

namespace Go.Proofs.YtgflalfiopnmnaaGreatDoor
open Go.RowKit Vl

structure Ahead (w wr : World) (g : Array Value) : Prop where
  graph : wr.heap[w.heap.size]? = some (.cells g 27 (0, 0))
  res : wr.heap[w.heap.size + 1]? = some (.cells #[.nilIface, .slice none 0 0] 57 (0, 0))
  bel : Below w.heap.size w wr

theorem Ahead.only {w wr wr' : World} {g : Array Value} {P : Nat → Prop} (h : Ahead w wr g) (ho : Only P wr wr') (hP : ∀ k, P k → w.heap.size + 2 ≤ k) : Ahead w wr' g :=
  ⟨(ho.block _ (blk_lt h.graph) (fun x => by have := hP _ x; omega)).trans h.graph, (ho.block _ (blk_lt h.res) (fun x => by have := hP _ x; omega)).trans h.res,
   h.bel.trans (ho.toBelow (fun k x => by have := hP k x; omega) h.bel.size)⟩
theorem Ahead.below {w wr wr' : World} {g : Array Value} (h : Ahead w wr g) (hb : Below wr.heap.size wr wr') : Ahead w wr' g :=
  ⟨(hb.block _ (blk_lt h.graph)).trans h.graph, (hb.block _ (blk_lt h.res)).trans h.res, grw h.bel hb⟩

theorem two_at {w : World} {B : Nat} {a b : Value} {t : TypeId} (H : w.heap[B]? = some (.cells #[a, b] t (0, 0))) : w.cell? ⟨B, 0, none⟩ = some a ∧ w.cell? ⟨B, 1, none⟩ = some b ∧ ∀ i, w.frozen? ⟨B, i, none⟩ = false := by
  refine ⟨?_, ?_, fun i => ?_⟩ <;> simp [World.cell?, World.frozen?, H]
theorem two_put {w : World} {B : Nat} {a b : Value} {t : TypeId} (H : w.heap[B]? = some (.cells #[a, b] t (0, 0))) (a' b' : Value) : ((w.setCell ⟨B, 0, none⟩ a').setCell ⟨B, 1, none⟩ b').heap[B]? = some (.cells #[a', b'] t (0, 0)) := by
  simp [World.setCell, Array.getElem?_modify, H]

structure Half (w : World) (b n r : Nat) (base : Nat → Nat) (L : Nat → Nat) (K X : Nat → Nat → V) : Prop where
  row : w.rowIs (b + 2) 107 n (fun j => .pointer (some ⟨tT b j, 0, none⟩))
  full : ∀ j, j < r → Filled w (tT b j) (tM b j) (base j) j (tT b) (K j) (X j) (L j) ∧ b + 3 + 2 * n ≤ base j
  empty : ∀ j, r ≤ j → j < n → TabB w (tT b j) (tM b j) j (.slice none 0 0) ∧ MapIs w (tM b j) []
  size : b + 3 + 2 * n ≤ w.heap.size

theorem Half.tabs {w : World} {b n r : Nat} {base L : Nat → Nat} {K X : Nat → Nat → V} (h : Half w b n r base L K X) : Tabs w (some ⟨b + 2, 0, none⟩) (b + 2) n (tT b) := by
  refine ⟨fun _ => rfl, fun j hj => h.row.cell hj, fun j hj => ?_⟩
  by_cases e : j < r
  · obtain ⟨ord, h1, _⟩ := (h.full j e).1.tab
    exact h1.cells.1
  · exact (h.empty j (by omega) hj).1.cells.1

theorem Half.below {w w' : World} {b n r : Nat} {base L : Nat → Nat} {K X : Nat → Nat → V} (h : Half w b n r base L K X) (hb : Below w.heap.size w w') : Half w' b n r base L K X :=
  ⟨h.row.of_block (hb.block _ h.row.lt), fun j hj => ⟨(h.full j hj).1.below hb, (h.full j hj).2⟩, fun j h1 h2 => ⟨(hb.block _ (blk_lt (h.empty j h1 h2).1)).trans (h.empty j h1 h2).1, (h.empty j h1 h2).2.same (hb.block _ (h.empty j h1 h2).2.lt)⟩, Nat.le_trans h.size hb.size⟩

theorem Half.fill {w w' : World} {b n r : Nat} {base L : Nat → Nat} {K X : Nat → Nat → V} (h : Half w b n r base L K X) (hr : r < n) (ho : Only (fun k => k = tT b r ∨ k = tM b r) w w') (hf : Filled w' (tT b r) (tM b r) w.heap.size r (tT b) (K r) (X r) (L r)) :
    Half w' b n (r + 1) (fun j => if j = r then w.heap.size else base j) L K X := by
  have hs := h.size
  refine ⟨h.row.of_block (ho.block _ h.row.lt (by unfold tT tM; omega)), fun j hj => ?_, fun j h1 h2 => ?_, Nat.le_trans hs ho.size⟩
  · by_cases e : j = r
    · subst e; simp only [if_true]; exact ⟨hf, hs⟩
    · simp only [if_neg e]
      obtain ⟨f1, f2⟩ := h.full j (by omega)
      exact ⟨f1.only ho (by unfold tT tM; omega) (by unfold tT tM; omega) (fun g hg => by unfold tT tM; omega), f2⟩
  · obtain ⟨e1, e2⟩ := h.empty j (by omega) h2
    exact ⟨(ho.block _ (blk_lt e1) (by unfold tT tM; omega)).trans e1, e2.same (ho.block _ e2.lt (by unfold tT tM; omega))⟩

theorem Laid.half {w : World} {b n : Nat} {L : Nat → Nat} {K X : Nat → Nat → V} (h : Laid w b n n) : Half w b n 0 (fun _ => 0) L K X :=
  ⟨h.row.congr (fun j hj => by rw [if_pos hj]), fun j hj => by omega, fun j _ h2 => h.tab j h2, by rw [h.size]; omega⟩

theorem ifv_form (Tt : Nat → Nat) (u : V) : ∃ t y, ifv Tt u = .iface t y := by
  unfold ifv
  split
  · exact ⟨_, _, rfl⟩
  · split
    · exact ⟨_, _, rfl⟩
    · split
      · exact ⟨_, _, rfl⟩
      · split
        · exact ⟨_, _, rfl⟩
        · exact ⟨_, _, rfl⟩

set_option maxHeartbeats 2000000 in
set_option maxRecDepth 100000 in
theorem link_any (u : V) (ta : Option Addr) (n cp TB TO : Nat) (A : Nat → Option Addr) (L C RB RO : Nat → Nat) (K X : Nat → Nat → V) (w : World) (hn : n ≤ 1048576)
    (HS : Hid (Small 1048576 n L K X)) (HT : Hid (TabsAt w ta n TB TO A L C RB RO K X)) :
    Calls Tryz.prog 23 #[.agg #[.int .i64 u.k, .int .i64 u.n, .string u.s, .int .i64 u.a, .slice ta n cp]] w fun e w' =>
      ((OkG n u L K X ∧ e = .returned (.tuple #[.agg #[ifv (tT w.heap.size) u, .slice (some ⟨w.heap.size + 2, 0, none⟩) n n], .bool true]) ∧ ∃ base, Half w' w.heap.size n n base L K X) ∨ (¬ OkG n u L K X ∧ e = .returned (.tuple #[.agg #[.nilIface, .slice none 0 0], .bool false]))) ∧ Below w.heap.size w w' := by
  obtain ⟨b, hb⟩ : ∃ b, w.heap.size = b := ⟨_, rfl⟩
  have A2 : Hid _ := alloc2 w (.cells #[.int .i64 u.k, .int .i64 u.n, .string u.s, .int .i64 u.a, .slice ta n cp] 27) (.cells #[.nilIface, .slice none 0 0] 57)
  obtain ⟨wa, hwa⟩ : ∃ wa, wa = (w.alloc (.cells #[.int .i64 u.k, .int .i64 u.n, .string u.s, .int .i64 u.a, .slice ta n cp] 27)).alloc (.cells #[.nilIface, .slice none 0 0] 57) := ⟨_, rfl⟩
  have HA : Hid (Ahead w wa #[.int .i64 u.k, .int .i64 u.n, .string u.s, .int .i64 u.a, .slice ta n cp]) := by rw [hwa]; exact ⟨A2.out.1, A2.out.2.1, A2.out.2.2.2⟩
  have hsa : Hid (wa.heap.size = w.heap.size + 2) := by rw [hwa]; exact A2.out.2.2.1
  clear A2
  obtain ⟨g0, g1, g2, g3, g4, _⟩ := cells5 HA.out.graph
  by_cases h200 : n ≤ 200
  · have hmk := run_make_n 55 107 _ 1 8 Tryz.underlying55 Tryz.info107 n (by omega) (by omega)
    simp only [Nat.mul_one] at hmk
    have hmm := @run_makeMap Tryz.prog
    go_enter Tryz.func23, Tryz.ntmps23
    go_wp2
    rw [← hwa]
    have hsa' : wa.heap.size = b + 2 := by have := hsa.out; omega
    have HA1 : Hid (Ahead w (wa.alloc (.cells (madeCells #[.pointer none] n) 107)) #[.int .i64 u.k, .int .i64 u.n, .string u.s, .int .i64 u.a, .slice ta n cp]) := by
      have h := HA.out
      exact ⟨(Below.heap_alloc _ _ _ (blk_lt h.graph)).trans h.graph, (Below.heap_alloc _ _ _ (blk_lt h.res)).trans h.res, h.bel.alloc h.bel.size _⟩
    have HL1 : Hid (Laid (wa.alloc (.cells (madeCells #[.pointer none] n) 107)) b n 0) := by
      refine ⟨?_, fun j hj => by omega, by simp; omega⟩
      rw [← hsa']
      exact (row_made wa #[.pointer none] n 107).congr (fun i _ => by rw [if_neg (by omega)]; simp [Nat.mod_one])
    clear hmk hwa g0 g1 g2 g3 g4 hsa' hsa HA
    go_loopw [21] (fun ii wr => ∃ c : Nat, c ≤ n ∧ ii = .int .i64 c ∧ Hid (Laid wr b n c) ∧ Hid (Ahead w wr #[.int .i64 u.k, .int .i64 u.n, .string u.s, .int .i64 u.a, .slice ta n cp])) (fun ii _ => n - (intOf ii).toNat)
    case atStart => exact ⟨0, Nat.zero_le _, rfl, HL1, HA1⟩
    case round =>
      obtain ⟨c, hc, rfl, HL, HAr⟩ := hrel
      clear HL1 HA1
      by_cases hlt : c < n
      · have hs := HL.out.size
        have c0 : ∀ o1 o2, ((wr.alloc o1).alloc o2).cell? ⟨b + 1 + 1, c, none⟩ = some (.pointer none) := fun o1 o2 => by
          have := ((HL.out.row.alloc o1).alloc o2).cell hlt
          rw [if_neg (by omega)] at this
          exact this
        have z0 : ∀ o1 o2 j, ((wr.alloc o1).alloc o2).frozen? ⟨b + 1 + 1, j, none⟩ = false := fun o1 o2 => ((HL.out.row.alloc o1).alloc o2).frozen
        have HN := HL.out.next hlt
        have HA2 : Hid (Ahead w (((wr.alloc (.map #[] 0)).alloc (.cells #[.int .i64 c, .map (some (tM b c)), .slice none 0 0] 121)).setCell ⟨b + 2, c, none⟩ (.pointer (some ⟨tT b c, 0, none⟩))) #[.int .i64 u.k, .int .i64 u.n, .string u.s, .int .i64 u.a, .slice ta n cp]) := by
          have h := HAr.out
          have A := alloc2 wr (.map #[] 0) (.cells #[.int .i64 c, .map (some (tM b c)), .slice none 0 0] 121)
          refine ⟨?_, ?_, ?_⟩
          · rw [Below.heap_setCell _ _ _ _ (show w.heap.size ≠ b + 2 by omega), A.2.2.2.block _ (blk_lt h.graph)]; exact h.graph
          · rw [Below.heap_setCell _ _ _ _ (show w.heap.size + 1 ≠ b + 2 by omega), A.2.2.2.block _ (blk_lt h.res)]; exact h.res
          · exact (grw h.bel A.2.2.2).setCell (by show w.heap.size ≤ b + 2; omega) _
        have HN2 : Hid (Laid (((wr.alloc (.map #[] 0)).alloc (.cells #[.int .i64 c, .map (some (tM b c)), .slice none 0 0] 121)).setCell ⟨b + 2, c, none⟩ (.pointer (some ⟨tT b c, 0, none⟩))) b n (c + 1)) := HN
        clear HN HL HAr
        go_wp2
        go_roundw
        case rel =>
          have e : b + 3 + 2 * c + 1 = b + 4 + 2 * c := by omega
          rw [e]
          exact ⟨c + 1, by omega, by go_num, HN2, HA2⟩
        case measure => simp [intOf]; omega
      · obtain rfl : c = n := by omega
        have HH : Hid (Half wr b c 0 (fun _ => 0) L K X) := HL.out.half
        obtain ⟨g0, g1, g2, g3, g4, _⟩ := cells5 HAr.out.graph
        rw [hb] at g0 g1 g2 g3 g4
        clear HL hmm
        go_wp2
        clear g0 g1 g2 g3 g4
        obtain ⟨wh, hwh⟩ : ∃ wh, wh = wr := ⟨_, rfl⟩
        rw [← hwh] at HH HAr
        go_loopw [35] (fun ii wr => ∃ (r : Nat) (base : Nat → Nat), r ≤ c ∧ ii = .int .i64 r ∧ Hid (Half wr b c r base L K X) ∧ Hid (∀ q, q < r → OkT c (L q) (K q) (X q)) ∧ Hid (Ahead w wr #[.int .i64 u.k, .int .i64 u.n, .string u.s, .int .i64 u.a, .slice ta c cp])) (fun ii _ => c - (intOf ii).toNat)
        case atStart => rw [← hwh]; exact ⟨0, _, Nat.zero_le _, rfl, HH, fun q hq => absurd hq (Nat.not_lt_zero _), HAr⟩
        case round =>
          obtain ⟨r, base, hr, rfl, HHr, HQ, HAr2⟩ := hrel
          clear HH HAr hwh
          by_cases hlt : r < c
          · obtain rfl := HT.out.top (by omega)
            have HTr : Hid (TabsAt wr (some ⟨TB, TO, none⟩) c TB TO A L C RB RO K X) := HT.out.below HAr2.out.bel
            have t0 := HTr.out.tab r hlt
            obtain ⟨wv, hwv⟩ : ∃ wv, wv = wr.alloc (.cells #[.slice (A r) (L r) (C r)] 37) := ⟨_, rfl⟩
            have HBv : Hid (Below wr.heap.size wr wv) := by rw [hwv]; exact (Below.refl _ _).alloc (Nat.le_refl _) _
            have HHv : Hid (Half wv b c r base L K X) := HHr.out.below HBv.out
            have hbv : b + 3 + 2 * c ≤ wr.heap.size := HHr.out.size
            have HAv : Hid (Ahead w wv #[.int .i64 u.k, .int .i64 u.n, .string u.s, .int .i64 u.a, .slice (some ⟨TB, TO, none⟩) c cp]) := by
              have h := HAr2.out
              exact ⟨(HBv.out.block _ (blk_lt h.graph)).trans h.graph, (HBv.out.block _ (blk_lt h.res)).trans h.res, grw h.bel HBv.out⟩
            have v0 : wv.cell? ⟨wr.heap.size, 0, none⟩ = some (.slice (A r) (L r) (C r)) := by rw [hwv]; exact (one_at (heap_alloc_new wr (.cells #[.slice (A r) (L r) (C r)] 37))).1
            have p0 : wv.cell? ⟨b + 1 + 1, r, none⟩ = some (.pointer (some ⟨b + 4 + 2 * r, 0, none⟩)) := HHv.out.row.cell hlt
            have hfill := fill_any (b + 4 + 2 * r) (b + 3 + 2 * r) r (A r) (L r) (C r) (RB r) (RO r) (K r) (X r) (some ⟨b + 1 + 1, 0, none⟩) (b + 2) c c (tT b) wv.drew (HS.out r hlt).1
              (HHv.out.empty r (Nat.le_refl _) hlt).1 (HHv.out.empty r (Nat.le_refl _) hlt).2 ((HTr.out.below HBv.out.drew).row r hlt) (HHv.out.tabs.below ((Below.refl _ _).drew)) (by omega)
              (show _ → _ from fun h => by have := World.block_lt_of_cell? _ _ ((HT.out.row r hlt).key 0 h).1; simp only at this; omega)
              (show _ → _ from fun _ => by omega) (show ∀ j, _ from fun j hj => by constructor <;> (try unfold tT) <;> (try intro) <;> omega)
            obtain ⟨vb, hvb⟩ : ∃ vb, wr.heap.size = vb := ⟨_, rfl⟩
            rw [hvb] at v0 hbv
            go_wp2
            rw [← hwv]
            clear hwv hvb t0
            have p0d : wv.drew.cell? ⟨b + 1 + 1, r, none⟩ = some (.pointer (some ⟨b + 4 + 2 * r, 0, none⟩)) := p0
            have v0d : wv.drew.cell? ⟨vb, 0, none⟩ = some (.slice (A r) (L r) (C r)) := v0
            have hn1 : ¬ (b + 1 + 1 = b + 4 + 2 * r ∨ b + 1 + 1 = b + 3 + 2 * r) := by omega
            have hn2 : ¬ (vb = b + 4 + 2 * r ∨ vb = b + 3 + 2 * r) := by omega
            go_region_held3 (fun w' => w'.cell? ⟨b + 1 + 1, r, none⟩ = some (.pointer (some ⟨b + 4 + 2 * r, 0, none⟩)) ∧ w'.cell? ⟨vb, 0, none⟩ = some (.slice (A r) (L r) (C r)))
              (first | with_reducible exact S3.out | exact ⟨p0, v0⟩)
              ((go_at_call 50; refine hfill.mono ?_; rintro e w3 ⟨⟨bb, rfl, hbb⟩, hO3, hF3⟩; have S3 : Hid (w3.cell? ⟨b + 1 + 1, r, none⟩ = some (.pointer (some ⟨b + 4 + 2 * r, 0, none⟩)) ∧ w3.cell? ⟨vb, 0, none⟩ = some (.slice (A r) (L r) (C r))) := show _ ∧ _ from ⟨hO3.cell (p := ⟨b + 1 + 1, r, none⟩) p0d hn1, hO3.cell (p := ⟨vb, 0, none⟩) v0d hn2⟩))
            clear hfill p0 v0 p0d v0d S3 hn1 hn2
            have HA3 : Hid (Ahead w w3 #[.int .i64 u.k, .int .i64 u.n, .string u.s, .int .i64 u.a, .slice (some ⟨TB, TO, none⟩) c cp]) := (show Ahead w wv.drew _ from HAv.out.below ((Below.refl _ _).drew)).only hO3 (fun k h => by omega)
            cases bb
            · have HN : Hid (¬ OkG c u L K X) := show ¬ OkG c u L K X from fun h => by have := hbb.2 (h.all r hlt); cases this
              clear hF3 hbb hO3
              have R0 : Hid (w3.heap[b + 1]? = some (.cells #[.nilIface, .slice none 0 0] 57 (0, 0))) := by rw [← hb]; exact HA3.out.res
              obtain ⟨r0, r1, rz⟩ := two_at R0.out
              go_wp2
              have R1 := two_put R0.out .nilIface (.slice none 0 0)
              obtain ⟨q0, q1, _⟩ := two_at R1
              refine bodyPost_ret (v := .tuple #[.agg #[.nilIface, .slice none 0 0], .bool false]) (by simp [results, Tryz.results23, go_sem, q0, q1]) rfl ⟨Or.inr ⟨HN.out, rfl⟩, ?_⟩
              exact (HA3.out.bel.setCell (by show w.heap.size ≤ b + 1; omega) _).setCell (by show w.heap.size ≤ b + 1; omega) _
            · have HF : Hid (Filled w3 (tT b r) (tM b r) wv.heap.size r (tT b) (K r) (X r) (L r)) := hF3 (hbb.1 rfl)
              have HH3 : Hid (Half w3 b c (r + 1) (fun j => if j = r then wv.heap.size else base j) L K X) := HHv.out.fill hlt (show Only _ wv w3 from ⟨hO3.os, hO3.tape, hO3.output, hO3.size, hO3.block⟩) HF.out
              have HQ3 : Hid (∀ q, q < r + 1 → OkT c (L q) (K q) (X q)) := show ∀ q, q < r + 1 → _ from fun q hq => by
                by_cases e : q = r
                · subst e; exact hbb.1 rfl
                · exact HQ.out q (by omega)
              clear hF3 hbb hO3 HF HQ
              go_wp2
              go_roundw
              case rel => exact ⟨r + 1, _, by omega, by go_num, HH3, HQ3, HA3⟩
              case measure => simp [intOf]; omega
          · obtain rfl : r = c := by omega
            obtain ⟨g0, g1, g2, g3, g4, _⟩ := cells5 HAr2.out.graph
            rw [hb] at g0 g1 g2 g3 g4
            have hof := of_any u (some ⟨b + 1 + 1, 0, none⟩) (b + 2) r r (tT b) wr HHr.out.tabs
            obtain ⟨bu, hbu⟩ : ∃ x, isV r u = x := ⟨_, rfl⟩
            rw [hbu] at hof
            go_wp2_with fail
            refine hof.mono ?_
            clear hof
            rintro e w3 ⟨rfl, hb3⟩
            have HA3 : Hid (Ahead w w3 #[.int .i64 u.k, .int .i64 u.n, .string u.s, .int .i64 u.a, .slice ta r cp]) := HAr2.out.below hb3
            have HH3 : Hid (Half w3 b r r base L K X) := HHr.out.below hb3
            clear hb3 HAr2 HHr g0 g1 g2 g3 g4
            have R0 : Hid (w3.heap[b + 1]? = some (.cells #[.nilIface, .slice none 0 0] 57 (0, 0))) := by rw [← hb]; exact HA3.out.res
            obtain ⟨r0, r1, rz⟩ := two_at R0.out
            cases bu
            · have HN : Hid (¬ OkG r u L K X) := show ¬ OkG r u L K X from fun h => by have := h.root; rw [hbu] at this; cases this
              clear hbu
              go_wp2
              have R1 := two_put R0.out .nilIface (.slice none 0 0)
              obtain ⟨q0, q1, _⟩ := two_at R1
              refine bodyPost_ret (v := .tuple #[.agg #[.nilIface, .slice none 0 0], .bool false]) (by simp [results, Tryz.results23, go_sem, q0, q1]) rfl ⟨Or.inr ⟨HN.out, rfl⟩, ?_⟩
              exact (HA3.out.bel.setCell (by show w.heap.size ≤ b + 1; omega) _).setCell (by show w.heap.size ≤ b + 1; omega) _
            · have HG : Hid (OkG r u L K X) := show OkG r u L K X from ⟨h200, hbu, HQ.out⟩
              obtain ⟨xt, xy, hxv⟩ := ifv_form (tT b) u
              have HXV : Hid (ifv (tT b) u = .iface xt xy) := hxv
              rw [if_pos rfl, HXV.out]
              clear hxv
              clear hbu
              go_wp2
              have R1 := two_put R0.out (.iface xt xy) (.slice (some ⟨b + 1 + 1, 0, none⟩) r r)
              obtain ⟨q0, q1, _⟩ := two_at R1
              refine bodyPost_ret (v := .tuple #[.agg #[.iface xt xy, .slice (some ⟨b + 1 + 1, 0, none⟩) r r], .bool true]) (by simp [results, Tryz.results23, go_sem, q0, q1]) rfl ⟨Or.inl ⟨HG.out, ?_, base, ?_⟩, ?_⟩
              · rw [hb, HXV.out]
              · rw [hb]
                have h := HH3.out
                have k1 : ∀ k, k ≠ b + 1 → (((w3.setCell ⟨b + 1, 0, none⟩ (.iface xt xy)).setCell ⟨b + 1, 1, none⟩ (.slice (some ⟨b + 1 + 1, 0, none⟩) r r))).heap[k]? = w3.heap[k]? := fun k hk => by
                  rw [Below.heap_setCell _ _ _ _ (show k ≠ b + 1 from hk), Below.heap_setCell _ _ _ _ (show k ≠ b + 1 from hk)]
                have ho : Only (fun k => k = b + 1) w3 (((w3.setCell ⟨b + 1, 0, none⟩ (.iface xt xy)).setCell ⟨b + 1, 1, none⟩ (.slice (some ⟨b + 1 + 1, 0, none⟩) r r))) := ⟨rfl, rfl, rfl, by simp [World.setCell], fun k _ hk => k1 k hk⟩
                refine ⟨h.row.of_block (k1 _ (by omega)), fun j hj => ⟨(h.full j hj).1.only ho (by unfold tT; omega) (by unfold tM; omega) (fun g hg => by have := (h.full j hj).2; omega), (h.full j hj).2⟩, fun j h1 h2 => by omega, ?_⟩
                have := h.size
                simp [World.setCell]
                omega
              · exact (HA3.out.bel.setCell (by show w.heap.size ≤ b + 1; omega) _).setCell (by show w.heap.size ≤ b + 1; omega) _
  · have HN : Hid (¬ OkG n u L K X) := show ¬ OkG n u L K X from fun h => h200 h.len
    have hgt : 200 < n := by omega
    have R0 : Hid (wa.heap[b + 1]? = some (.cells #[.nilIface, .slice none 0 0] 57 (0, 0))) := by rw [← hb]; exact HA.out.res
    obtain ⟨r0, r1, rz⟩ := two_at R0.out
    rw [hb] at g0 g1 g2 g3 g4
    go_enter Tryz.func23, Tryz.ntmps23
    go_wp2
    rw [← hwa]
    refine bodyPost_ret (v := .tuple #[.agg #[.nilIface, .slice none 0 0], .bool false]) (by simp [results, Tryz.results23, go_sem, r0, r1]) rfl ⟨Or.inr ⟨HN.out, rfl⟩, HA.out.bel⟩

end Go.Proofs.YtgflalfiopnmnaaGreatDoor

namespace Go.Proofs.YtgflalfiopnmnaaGreatDoor
open Go.RowKit Vl

theorem bytes_empty {s : ByteArray} (h : s.toList = []) : s = ⟨#[]⟩ := by
  rw [ByteArray.toList_eq] at h
  obtain ⟨⟨l⟩⟩ := s
  simp at h
  subst h
  rfl

def zeroV : V := ⟨0, 0, ⟨#[]⟩, 0⟩

def atKey (L : Nat) (K X : Nat → V) (k : V) : V :=
  match (List.range L).find? (fun j => eqV (K j) k) with
  | some j => X j
  | none => zeroV

theorem atKey_hit {L : Nat} {K X : Nat → V} {k : V} {j : Nat} (hj : j < L) (h : eqV (K j) k = true) (hb : ∀ i, i < j → eqV (K i) k = false) : atKey L K X k = X j := by
  have : (List.range L).find? (fun j => eqV (K j) k) = some j := by
    rw [List.find?_range_eq_some]
    exact ⟨h, List.mem_range.2 hj, fun i hi => by rw [hb i hi]; rfl⟩
  unfold atKey
  rw [this]
theorem atKey_none {L : Nat} {K X : Nat → V} {k : V} (h : ∀ j, j < L → eqV (K j) k = false) : atKey L K X k = zeroV := by
  have : (List.range L).find? (fun j => eqV (K j) k) = none := by
    rw [List.find?_eq_none]
    intro j hj
    rw [h j (List.mem_range.1 hj)]
    simp
  unfold atKey
  rw [this]

theorem find_js {v : V} {K : Nat → V} {f : Nat → Value} : ∀ (js : List Nat), findV v (js.map fun j => (K j, f j)) = (js.find? (fun j => eqV (K j) v)).map f
  | [] => rfl
  | j :: js => by
    simp only [List.map_cons, findV, List.find?_cons]
    rw [eqV_comm v (K j)]
    cases h : eqV (K j) v
    · simp only [Bool.false_eq_true, if_false]; exact find_js js
    · simp

def step (L : Nat → Nat) (K X : Nat → Nat → V) (v k : V) : V := if v.k = 4 then atKey (L v.a.toNat) (K v.a.toNat) (X v.a.toNat) k else zeroV
def lead (u : V) (L : Nat → Nat) (K X : Nat → Nat → V) (P : Nat → V) : Nat → V
  | 0 => u
  | i + 1 => step L K X (lead u L K X P i) (P i)

theorem isV_zero (n : Nat) : isV n zeroV = true := by
  simp [isV, zeroV, ByteArray.toList_eq]

theorem isV_at {n L : Nat} {K X : Nat → V} (h : OkT n L K X) (k : V) : isV n (atKey L K X k) = true := by
  unfold atKey
  cases hf : (List.range L).find? (fun j => eqV (K j) k) with
  | none => exact isV_zero n
  | some j =>
    have := List.mem_of_find?_eq_some hf
    exact (h.all j (List.mem_range.1 this)).val

theorem isV_tab {n : Nat} {v : V} (h : isV n v = true) (h4 : v.k = 4) : 0 ≤ v.a ∧ v.a < n := by
  obtain ⟨k, m, s, a⟩ := v
  subst h4
  simp [isV] at h
  exact ⟨h.2.2.1, h.2.2.2⟩

end Go.Proofs.YtgflalfiopnmnaaGreatDoor

namespace Go.Proofs.YtgflalfiopnmnaaGreatDoor
open Vl

def met (L : Nat → Nat) (X : Nat → Nat → V) : Nat → List Nat → V → List Nat
  | 0, S, _ => S
  | f + 1, S, v => if v.k = 4 ∧ v.a.toNat ∉ S then (List.range (L v.a.toNat)).foldl (fun T c => met L X f T (X v.a.toNat c)) (S ++ [v.a.toNat]) else S

def mets (L : Nat → Nat) (X : Nat → Nat → V) (f : Nat) (S : List Nat) (x : Nat → V) (c : Nat) : List Nat := (List.range c).foldl (fun T c => met L X f T (x c)) S
theorem mets_zero (L : Nat → Nat) (X : Nat → Nat → V) (f : Nat) (S : List Nat) (x : Nat → V) : mets L X f S x 0 = S := rfl
theorem mets_succ (L : Nat → Nat) (X : Nat → Nat → V) (f : Nat) (S : List Nat) (x : Nat → V) (c : Nat) : mets L X f S x (c + 1) = met L X f (mets L X f S x c) (x c) := by
  simp [mets, List.range_succ]
theorem met_new {L : Nat → Nat} {X : Nat → Nat → V} {f : Nat} {S : List Nat} {v : V} (h : v.k = 4) (hn : v.a.toNat ∉ S) : met L X (f + 1) S v = mets L X f (S ++ [v.a.toNat]) (X v.a.toNat) (L v.a.toNat) := by
  show (if v.k = 4 ∧ v.a.toNat ∉ S then _ else S) = _
  rw [if_pos ⟨h, hn⟩]
  rfl
theorem met_old {L : Nat → Nat} {X : Nat → Nat → V} {f : Nat} {S : List Nat} {v : V} (h : v.k ≠ 4 ∨ v.a.toNat ∈ S) : met L X f S v = S := by
  cases f with
  | zero => rfl
  | succ f =>
    show (if v.k = 4 ∧ v.a.toNat ∉ S then _ else S) = S
    rw [if_neg]
    rintro ⟨h1, h2⟩
    rcases h with h | h
    · exact h h1
    · exact h2 h

structure Grows (n : Nat) (S T : List Nat) : Prop where
  pre : S <+: T
  nd : T.Nodup
  lt : ∀ r ∈ T, r < n
structure Fit (n : Nat) (S : List Nat) : Prop where
  nd : S.Nodup
  lt : ∀ r ∈ S, r < n
theorem Grows.fit {n : Nat} {S T : List Nat} (h : Grows n S T) : Fit n T := ⟨h.nd, h.lt⟩
theorem Fit.refl {n : Nat} {S : List Nat} (h : Fit n S) : Grows n S S := ⟨List.prefix_refl _, h.nd, h.lt⟩
theorem Fit.nil (n : Nat) : Fit n [] := ⟨List.nodup_nil, fun r h => by cases h⟩
theorem Grows.trans {n : Nat} {S T U : List Nat} (h : Grows n S T) (k : Grows n T U) : Grows n S U := ⟨h.pre.trans k.pre, k.nd, k.lt⟩
theorem Fit.add {n : Nat} {S : List Nat} (h : Fit n S) {r : Nat} (hr : r < n) (hn : r ∉ S) : Grows n S (S ++ [r]) :=
  ⟨List.prefix_append _ _, by
    rw [List.nodup_append]
    exact ⟨h.nd, by simp, fun a ha b hb => by simp at hb; subst hb; exact fun e => hn (e ▸ ha)⟩, fun q hq => by
    rcases List.mem_append.1 hq with h' | h'
    · exact h.lt q h'
    · simp at h'; omega⟩
theorem Grows.len {n : Nat} {S T : List Nat} (h : Grows n S T) : S.length ≤ T.length := h.pre.length_le
theorem Grows.mem {n : Nat} {S T : List Nat} (h : Grows n S T) {r : Nat} (hr : r ∈ S) : r ∈ T := h.pre.subset hr
theorem nodup_len : ∀ (S T : List Nat), S.Nodup → (∀ r ∈ S, r ∈ T) → S.length ≤ T.length
  | [], _, _, _ => Nat.zero_le _
  | a :: S, T, h, hs => by
    obtain ⟨h1, h2⟩ := List.nodup_cons.1 h
    have ha : a ∈ T := hs a (by simp)
    have := nodup_len S (T.erase a) h2 (fun r hr => (List.mem_erase_of_ne (show r ≠ a from fun e => h1 (e ▸ hr))).2 (hs r (by simp [hr])))
    rw [List.length_erase_of_mem ha] at this
    have := List.length_pos_of_mem ha
    simp only [List.length_cons]
    omega
theorem Fit.len {n : Nat} {S : List Nat} (h : Fit n S) : S.length ≤ n := by
  have : S.length ≤ (List.range n).length := nodup_len S _ h.nd (fun r hr => List.mem_range.2 (h.lt r hr))
  simpa using this
theorem Fit.less {n : Nat} {S : List Nat} (h : Fit n S) {r : Nat} (hr : r < n) (hn : r ∉ S) : S.length < n := by
  have := (h.add hr hn).fit.len
  simp at this
  omega

def Good (n : Nat) (L : Nat → Nat) (X : Nat → Nat → V) : Prop := ∀ r, r < n → ∀ c, c < L r → isV n (X r c) = true
theorem good_of {n : Nat} {u : V} {L : Nat → Nat} {K X : Nat → Nat → V} (h : OkG n u L K X) : Good n L X := fun r hr c hc => ((h.all r hr).all c hc).val

def Closed (L : Nat → Nat) (X : Nat → Nat → V) (S T : List Nat) : Prop := ∀ r ∈ T, r ∉ S → ∀ c, c < L r → (X r c).k = 4 → (X r c).a.toNat ∈ T

theorem met_all {n : Nat} {L : Nat → Nat} {X : Nat → Nat → V} (hg : Good n L X) : ∀ (f : Nat) (S : List Nat) (v : V), Fit n S → isV n v = true → n - S.length < f →
    Grows n S (met L X f S v) ∧ Closed L X S (met L X f S v) ∧ (v.k = 4 → v.a.toNat ∈ met L X f S v) := by
  intro f
  induction f with
  | zero => intro S v _ _ h; omega
  | succ f ih =>
    intro S v hS hv hf
    by_cases h : v.k = 4 ∧ v.a.toNat ∉ S
    · obtain ⟨h4, hn⟩ := h
      rw [met_new h4 hn]
      obtain ⟨a0, a1⟩ := isV_tab hv h4
      have hr : v.a.toNat < n := by omega
      generalize v.a.toNat = r at *
      have hl := hS.less hr hn
      have h1 := hS.add hr hn
      have loop : ∀ c, c ≤ L r → Grows n (S ++ [r]) (mets L X f (S ++ [r]) (X r) c) ∧ Closed L X (S ++ [r]) (mets L X f (S ++ [r]) (X r) c) ∧ ∀ j, j < c → (X r j).k = 4 → (X r j).a.toNat ∈ mets L X f (S ++ [r]) (X r) c := by
        intro c
        induction c with
        | zero => intro _; exact ⟨h1.fit.refl, fun q hq hq' => absurd hq hq', fun j hj => by omega⟩
        | succ c ihc =>
          intro hc
          obtain ⟨g1, g2, g3⟩ := ihc (by omega)
          rw [mets_succ]
          have hlen := g1.len
          simp only [List.length_append, List.length_cons, List.length_nil] at hlen
          obtain ⟨k1, k2, k3⟩ := ih (mets L X f (S ++ [r]) (X r) c) (X r c) g1.fit (hg r hr c (by omega)) (by omega)
          refine ⟨g1.trans k1, fun q hq hq' i hi h4 => ?_, fun j hj h4 => ?_⟩
          · by_cases hm : q ∈ mets L X f (S ++ [r]) (X r) c
            · exact k1.mem (g2 q hm hq' i hi h4)
            · exact k2 q hq hm i hi h4
          · by_cases e : j = c
            · subst e; exact k3 h4
            · exact k1.mem (g3 j (by omega) h4)
      obtain ⟨g1, g2, g3⟩ := loop (L r) (Nat.le_refl _)
      refine ⟨h1.trans g1, fun q hq hq' i hi h4' => ?_, fun _ => g1.mem (by simp)⟩
      by_cases e : q = r
      · subst e; exact g3 i hi h4'
      · exact g2 q hq (by simp [hq', e]) i hi h4'
    · have : v.k ≠ 4 ∨ v.a.toNat ∈ S := by
        by_cases h4 : v.k = 4
        · exact Or.inr (Classical.byContradiction fun hn => h ⟨h4, hn⟩)
        · exact Or.inl h4
      rw [met_old this]
      refine ⟨hS.refl, fun q hq hq' => absurd hq hq', fun h4 => ?_⟩
      rcases this with h' | h'
      · exact absurd h4 h'
      · exact h'

def renum (S : List Nat) (v : V) : V := if v.k = 4 then ⟨v.k, v.n, v.s, S.idxOf v.a.toNat⟩ else v

def whereIs (S : List Nat) (i : Nat) : Int := if i ∈ S then (S.idxOf i : Nat) else -1
theorem whereIs_in {S : List Nat} {i : Nat} (h : i ∈ S) : whereIs S i = (S.idxOf i : Nat) := by unfold whereIs; rw [if_pos h]
theorem whereIs_out {S : List Nat} {i : Nat} (h : i ∉ S) : whereIs S i = -1 := by unfold whereIs; rw [if_neg h]
theorem whereIs_add {S : List Nat} {r : Nat} (h : r ∉ S) (i : Nat) : whereIs (S ++ [r]) i = if i = r then (S.length : Int) else whereIs S i := by
  unfold whereIs
  by_cases e : i = r
  · subst e
    rw [if_pos (by simp), if_pos rfl, List.idxOf_append, if_neg h]
    simp
  · rw [if_neg e]
    by_cases hi : i ∈ S
    · rw [if_pos (by simp [hi]), if_pos hi, List.idxOf_append, if_pos hi]
    · rw [if_neg (by simp [hi, e]), if_neg hi]

def order (n : Nat) (u : V) (L : Nat → Nat) (X : Nat → Nat → V) : List Nat := met L X (n + 1) [] u
theorem order_all {n : Nat} {u : V} {L : Nat → Nat} {K X : Nat → Nat → V} (h : OkG n u L K X) : Fit n (order n u L X) ∧ (∀ r ∈ order n u L X, ∀ c, c < L r → (X r c).k = 4 → (X r c).a.toNat ∈ order n u L X) ∧ (u.k = 4 → u.a.toNat ∈ order n u L X) := by
  obtain ⟨a, b, c⟩ := met_all (good_of h) (n + 1) [] u (Fit.nil n) h.root (by simp)
  exact ⟨a.fit, fun r hr => b r hr (by simp), c⟩

end Go.Proofs.YtgflalfiopnmnaaGreatDoor

namespace Go.Proofs.YtgflalfiopnmnaaGreatDoor
open Vl

theorem eqV_iff {a b : V} : eqV a b = true ↔ a = b := by
  obtain ⟨k, n, s, t⟩ := a
  obtain ⟨k', n', s', t'⟩ := b
  simp only [eqV, Bool.and_eq_true, beq_iff_eq, V.mk.injEq]
  constructor
  · rintro ⟨h1, h2, h3, h4⟩
    refine ⟨h1, h2, ?_, h4⟩
    rw [ByteArray.toList_eq, ByteArray.toList_eq] at h3
    obtain ⟨⟨l⟩⟩ := s
    obtain ⟨⟨l'⟩⟩ := s'
    simp at h3
    subst h3
    rfl
  · rintro ⟨h1, h2, h3, h4⟩
    exact ⟨h1, h2, by rw [h3], h4⟩

def alike (cl : Nat → Nat) (a b : V) : Bool := a.k == b.k && (if a.k = 4 then cl a.a.toNat == cl b.a.toNat else eqV a b)
theorem alike_iff {cl : Nat → Nat} {a b : V} : alike cl a b = true ↔ a.k = b.k ∧ (a.k = 4 → cl a.a.toNat = cl b.a.toNat) ∧ (a.k ≠ 4 → a = b) := by
  unfold alike
  by_cases h : a.k = 4
  · simp [h]
  · simp [h, eqV_iff]
theorem alike_refl (cl : Nat → Nat) (a : V) : alike cl a a = true := alike_iff.2 ⟨rfl, fun _ => rfl, fun _ => rfl⟩
theorem alike_symm {cl : Nat → Nat} {a b : V} (h : alike cl a b = true) : alike cl b a = true := by
  rw [alike_iff] at h ⊢
  exact ⟨h.1.symm, fun e => (h.2.1 (by omega)).symm, fun e => (h.2.2 (by omega)).symm⟩
theorem alike_trans {cl : Nat → Nat} {a b c : V} (h : alike cl a b = true) (k : alike cl b c = true) : alike cl a c = true := by
  rw [alike_iff] at h k ⊢
  exact ⟨h.1.trans k.1, fun e => (h.2.1 e).trans (k.2.1 (by omega)), fun e => (h.2.2 e).trans (k.2.2 (by omega))⟩

structure Looks (L : Nat → Nat) (K X : Nat → Nat → V) (cl : Nat → Nat) (i j : Nat) : Prop where
  len : L i = L j
  all : ∀ c, c < L i → K i c = K j c ∧ alike cl (X i c) (X j c) = true
theorem Looks.refl (L : Nat → Nat) (K X : Nat → Nat → V) (cl : Nat → Nat) (i : Nat) : Looks L K X cl i i := ⟨rfl, fun _ _ => ⟨rfl, alike_refl _ _⟩⟩
theorem Looks.symm {L : Nat → Nat} {K X : Nat → Nat → V} {cl : Nat → Nat} {i j : Nat} (h : Looks L K X cl i j) : Looks L K X cl j i := ⟨h.len.symm, fun c hc => by
  have := h.all c (by rw [h.len]; exact hc)
  exact ⟨this.1.symm, alike_symm this.2⟩⟩
theorem Looks.trans {L : Nat → Nat} {K X : Nat → Nat → V} {cl : Nat → Nat} {i j k : Nat} (h : Looks L K X cl i j) (g : Looks L K X cl j k) : Looks L K X cl i k := ⟨h.len.trans g.len, fun c hc => by
  have h1 := h.all c hc
  have h2 := g.all c (by rw [← h.len]; exact hc)
  exact ⟨h1.1.trans h2.1, alike_trans h1.2 h2.2⟩⟩
def Bis (n : Nat) (L : Nat → Nat) (K X : Nat → Nat → V) (R : Nat → Nat → Prop) : Prop := ∀ i j, R i j → i < n ∧ j < n ∧ L i = L j ∧ ∀ c, c < L i → K i c = K j c ∧ (X i c).k = (X j c).k ∧ ((X i c).k = 4 → R (X i c).a.toNat (X j c).a.toNat) ∧ ((X i c).k ≠ 4 → X i c = X j c)

structure IsCls (n : Nat) (L : Nat → Nat) (K X : Nat → Nat → V) (f : Nat → Nat) : Prop where
  low : ∀ i, i < n → f i ≤ i
  idem : ∀ i, i < n → f (f i) = f i
  bis : ∀ i j, i < n → j < n → f i = f j → Looks L K X f i j
  wide : ∀ R, Bis n L K X R → ∀ i j, R i j → f i = f j

theorem IsCls.rel {n : Nat} {L : Nat → Nat} {K X : Nat → Nat → V} {f : Nat → Nat} (hg : Good n L X) (h : IsCls n L K X f) : Bis n L K X (fun i j => i < n ∧ j < n ∧ f i = f j) := by
  rintro i j ⟨hi, hj, e⟩
  have hl := h.bis i j hi hj e
  refine ⟨hi, hj, hl.len, fun c hc => ?_⟩
  obtain ⟨h1, h2⟩ := hl.all c hc
  rw [alike_iff] at h2
  refine ⟨h1, h2.1, fun e4 => ?_, h2.2.2⟩
  have a1 := isV_tab (hg i hi c hc) e4
  have a2 := isV_tab (hg j hj c (by rw [← hl.len]; exact hc)) (by omega)
  exact ⟨by omega, by omega, h2.2.1 e4⟩

structure OnWay (n : Nat) (L : Nat → Nat) (K X : Nat → Nat → V) (cl : Nat → Nat) : Prop where
  low : ∀ i, i < n → cl i ≤ i
  idem : ∀ i, i < n → cl (cl i) = cl i
  wide : ∀ R, Bis n L K X R → ∀ i j, R i j → cl i = cl j

structure Round (n : Nat) (L : Nat → Nat) (K X : Nat → Nat → V) (cl nx : Nat → Nat) : Prop where
  low : ∀ i, i < n → nx i ≤ i
  hit : ∀ i, i < n → cl (nx i) = cl i ∧ Looks L K X cl (nx i) i
  least : ∀ i, i < n → ∀ k, k < nx i → ¬ (cl k = cl i ∧ Looks L K X cl k i)

theorem Round.eq {n : Nat} {L : Nat → Nat} {K X : Nat → Nat → V} {cl nx : Nat → Nat} (h : Round n L K X cl nx) {i j : Nat} (hi : i < n) (hj : j < n) : nx i = nx j ↔ cl i = cl j ∧ Looks L K X cl i j := by
  obtain ⟨a1, a2⟩ := h.hit i hi
  obtain ⟨b1, b2⟩ := h.hit j hj
  constructor
  · intro e
    rw [e] at a1 a2
    exact ⟨a1.symm.trans b1, a2.symm.trans b2⟩
  · rintro ⟨e, hl⟩
    rcases Nat.lt_trichotomy (nx i) (nx j) with h' | h' | h'
    · exact absurd ⟨a1.trans e, a2.trans hl⟩ (h.least j hj _ h')
    · exact h'
    · exact absurd ⟨b1.trans e.symm, b2.trans hl.symm⟩ (h.least i hi _ h')
theorem Round.idem {n : Nat} {L : Nat → Nat} {K X : Nat → Nat → V} {cl nx : Nat → Nat} (h : Round n L K X cl nx) {i : Nat} (hi : i < n) : nx (nx i) = nx i := by
  have := h.low i hi
  exact (h.eq (by omega) hi).2 (h.hit i hi)

def reps (n : Nat) (cl : Nat → Nat) : Nat := ((List.range n).filter fun i => cl i == i).length
theorem reps_mono (cl nx : Nat → Nat) : ∀ n, (∀ i, i < n → cl i = i → nx i = i) → reps n cl ≤ reps n nx ∧ ∀ i, i < n → cl i ≠ i → nx i = i → reps n cl < reps n nx
  | 0, _ => ⟨Nat.le_refl _, fun i hi => by omega⟩
  | n + 1, h => by
    obtain ⟨h1, h2⟩ := reps_mono cl nx n (fun i hi => h i (by omega))
    have e : ∀ f : Nat → Nat, reps (n + 1) f = reps n f + if f n = n then 1 else 0 := fun f => by
      unfold reps
      rw [List.range_succ, List.filter_append, List.length_append]
      by_cases hf : f n = n <;> simp [hf]
    rw [e, e]
    have hn := h n (by omega)
    refine ⟨?_, fun i hi k1 k2 => ?_⟩
    · by_cases hc : cl n = n
      · rw [if_pos hc, if_pos (hn hc)]; omega
      · rw [if_neg hc]; omega
    · by_cases ei : i = n
      · subst ei
        rw [if_neg k1, if_pos k2]
        omega
      · have := h2 i (by omega) k1 k2
        by_cases hc : cl n = n
        · rw [if_pos hc, if_pos (hn hc)]; omega
        · rw [if_neg hc]; omega

theorem Round.more {n : Nat} {L : Nat → Nat} {K X : Nat → Nat → V} {cl nx : Nat → Nat} (h : Round n L K X cl nx) (ho : OnWay n L K X cl) {i : Nat} (hi : i < n) (hne : nx i ≠ cl i) : reps n cl < reps n nx := by
  have keep : ∀ i, i < n → cl i = i → nx i = i := fun i hi e => by
    have h1 := h.low i hi
    have h2 := (h.hit i hi).1
    have h3 := ho.low (nx i) (by omega)
    omega
  have h1 := h.low i hi
  refine (reps_mono cl nx n keep).2 (nx i) (by omega) (fun e => hne ?_) (h.idem hi)
  have := (h.hit i hi).1
  omega

end Go.Proofs.YtgflalfiopnmnaaGreatDoor

namespace Go.Proofs.YtgflalfiopnmnaaGreatDoor
open Go.RowKit Vl

structure ValsAt (w : World) (pa : Option Addr) (L B O : Nat) (P : Nat → V) : Prop where
  top : 0 < L → pa = some ⟨B, O, none⟩
  val : ∀ c, c < L → VAt w B (O + c * 4) (P c)
theorem ValsAt.below {w w' : World} {pa : Option Addr} {L B O : Nat} {P : Nat → V} (h : ValsAt w pa L B O P) (hb : Below w.heap.size w w') : ValsAt w' pa L B O P :=
  ⟨h.top, fun c hc => (h.val c hc).below hb⟩
theorem ValsAt.cells {w : World} {pa : Option Addr} {L B O : Nat} {P : Nat → V} (h : ValsAt w pa L B O P) {c : Nat} (hc : c < L) :
    w.cell? ⟨B, O + c * 4, none⟩ = some (.int .i64 (P c).k) ∧ w.cell? ⟨B, O + c * 4 + 1, none⟩ = some (.int .i64 (P c).n) ∧ w.cell? ⟨B, O + c * 4 + 2, none⟩ = some (.string (P c).s) ∧ w.cell? ⟨B, O + c * 4 + 3, none⟩ = some (.int .i64 (P c).a) := h.val c hc

theorem cells4 {w : World} {B : Nat} {a b c d : Value} {t : TypeId} (h : w.heap[B]? = some (.cells #[a, b, c, d] t (0, 0))) :
    w.cell? ⟨B, 0, none⟩ = some a ∧ w.cell? ⟨B, 1, none⟩ = some b ∧ w.cell? ⟨B, 2, none⟩ = some c ∧ w.cell? ⟨B, 3, none⟩ = some d ∧ ∀ i, w.frozen? ⟨B, i, none⟩ = false := by
  refine ⟨?_, ?_, ?_, ?_, fun i => ?_⟩ <;> simp [World.cell?, World.frozen?, h]
theorem put4r {w : World} {B : Nat} {a b c d : Value} {t : TypeId} (h : w.heap[B]? = some (.cells #[a, b, c, d] t (0, 0))) (a' b' c' d' : Value) :
    ((((w.setCell ⟨B, 0, none⟩ a').setCell ⟨B, 1, none⟩ b').setCell ⟨B, 2, none⟩ c').setCell ⟨B, 3, none⟩ d').heap[B]? = some (.cells #[a', b', c', d'] t (0, 0)) := by
  simp [World.setCell, Array.getElem?_modify, h]
theorem blkB {w w' : World} {b : Nat} {o : Obj} (h : w.heap[b]? = some o) (hb : Below w.heap.size w w') : w'.heap[b]? = some o := (hb.block b (blk_lt h)).trans h

def ValB (w : World) (B : Nat) (v : V) : Prop := w.heap[B]? = some (.cells #[.int .i64 v.k, .int .i64 v.n, .string v.s, .int .i64 v.a] 24 (0, 0))
theorem ValB.put {w : World} {B : Nat} {v : V} (h : ValB w B v) (x : V) : ValB ((((w.setCell ⟨B, 0, none⟩ (.int .i64 x.k)).setCell ⟨B, 1, none⟩ (.int .i64 x.n)).setCell ⟨B, 2, none⟩ (.string x.s)).setCell ⟨B, 3, none⟩ (.int .i64 x.a)) B x := put4r h _ _ _ _
theorem ValB.below {w w' : World} {B : Nat} {v : V} (h : ValB w B v) (hb : Below w.heap.size w w') : ValB w' B v := blkB h hb

structure SpB (w0 : World) (WB WH base : Nat) : Prop where
  wb : w0.heap.size ≤ WB
  wh : w0.heap.size ≤ WH
  ne : WB ≠ WH
  wbb : WB < base
  whb : WH < base

theorem owns_form {w : World} {base t s n : Nat} {v : Value} {xs : List Value} (h : w.ownsRow base t s v n xs) : ∃ oa oc, v = .slice oa n oc ∧ (∀ k, v.ownBlock = some k → base ≤ k ∧ k < w.heap.size) := by
  rcases h.2 with ⟨rfl, hn⟩ | ⟨g, cap, cur, rfl, hgb, hh, _⟩
  · obtain ⟨rfl, _⟩ := hn
    exact ⟨none, 0, rfl, fun k hk => by simp [Value.ownBlock] at hk⟩
  · exact ⟨_, _, rfl, fun k hk => by simp [Value.ownBlock] at hk; subst hk; exact ⟨hgb, blk_lt hh⟩⟩

structure FrV (WB WH : Nat) (ord ord' : Value) (w w' : World) : Prop where
  only : Only (fun k => k = WB ∨ k = WH ∨ ord.ownBlock = some k) w w'
  nxt : ∀ k, k < w.heap.size → ord'.ownBlock = some k → ord.ownBlock = some k
theorem FrV.refl (WB WH : Nat) (ord : Value) (w : World) : FrV WB WH ord ord w w := ⟨Only.refl _ _, fun _ _ h => h⟩
theorem FrV.trans {WB WH : Nat} {o1 o2 o3 : Value} {a b c : World} (h : FrV WB WH o1 o2 a b) (k : FrV WB WH o2 o3 b c) : FrV WB WH o1 o3 a c :=
  ⟨⟨k.only.os.trans h.only.os, k.only.tape.trans h.only.tape, k.only.output.trans h.only.output, Nat.le_trans h.only.size k.only.size, fun i hi hp => by
      rw [k.only.block i (Nat.lt_of_lt_of_le hi h.only.size) (fun x => hp (by
        rcases x with x | x | x
        · exact Or.inl x
        · exact Or.inr (Or.inl x)
        · exact Or.inr (Or.inr (h.nxt i hi x)))), h.only.block i hi hp]⟩,
    fun i hi x => h.nxt i hi (k.nxt i (Nat.lt_of_lt_of_le hi h.only.size) x)⟩
theorem FrV.below {WB WH : Nat} {o1 o2 : Value} {a b c : World} (h : FrV WB WH o1 o2 a b) (k : Below b.heap.size b c) : FrV WB WH o1 o2 a c := h.trans ⟨Only.below k, fun _ _ h => h⟩
theorem FrV.first {WB WH : Nat} {o : Value} {a b : World} (k : Below a.heap.size a b) : FrV WB WH o o a b := ⟨Only.below k, fun _ _ h => h⟩
theorem FrV.blk {WB WH : Nat} {o1 o2 : Value} {a b : World} (h : FrV WB WH o1 o2 a b) {k : Nat} {o : Obj} (hk : a.heap[k]? = some o) (h1 : k ≠ WB) (h2 : k ≠ WH) (h3 : o1.ownBlock ≠ some k) : b.heap[k]? = some o := by
  rw [h.only.block k (blk_lt hk) (fun x => by rcases x with x | x | x; exact h1 x; exact h2 x; exact h3 x)]
  exact hk

theorem Only.ownsB {P : Nat → Prop} {a b : World} (h : Only P a b) {base t s n : Nat} {v : Value} {xs : List Value} (ho : a.ownsRow base t s v n xs) (hB : ∀ g, v.ownBlock = some g → ¬ P g) : b.ownsRow base t s v n xs := by
  refine ⟨ho.1, ?_⟩
  rcases ho.2 with h2 | ⟨g, cap, cur, hv, hg, hh, r⟩
  · exact Or.inl h2
  · exact Or.inr ⟨g, cap, cur, hv, hg, by rw [h.block g (lt_of_block hh) (hB g (by rw [hv]; rfl))]; exact hh, r⟩

theorem FrV.new {WB WH : Nat} {o1 o2 : Value} {a b c : World} (h : FrV WB WH o1 o2 a b) (k : Below a.heap.size b c) : FrV WB WH o1 o2 a c := ⟨h.only.thenBelow k (Nat.le_refl _), h.nxt⟩

theorem owns_cell {w : World} {base t s n : Nat} {v : Value} {xs : List Value} (h : w.ownsRow base t s v n xs) {k : Nat} {y : Value} (hk : xs[k]? = some y) : ∃ g cap, v = .slice (some ⟨g, 0, none⟩) n cap ∧ w.cell? ⟨g, k, none⟩ = some y := by
  rcases h.2 with ⟨rfl, rfl⟩ | ⟨g, cap, cur, rfl, _, hh, _, _, _, ht⟩
  · have := h.1
    simp at this
    subst this
    cases hk
  · refine ⟨g, cap, rfl, ?_⟩
    rw [← ht, List.getElem?_take] at hk
    split at hk
    · simp [World.cell?, hh]
      simpa using hk
    · cases hk

def slA : Value → Option Addr
  | .slice a _ _ => a
  | _ => none
def slC : Value → Nat
  | .slice _ _ c => c
  | _ => 0
def slB (v : Value) : Nat := match slA v with
  | some a => a.block
  | none => 0

theorem owns_type {w : World} {base t s n : Nat} {v : Value} {xs : List Value} (h : w.ownsRow base t s v n xs) {g : Nat} (hg : v.ownBlock = some g) : base ≤ g ∧ ∃ cur, w.heap[g]? = some (.cells cur t (0, 0)) := by
  rcases h.2 with ⟨rfl, _⟩ | ⟨g', cap, cur, rfl, hge, hh, _⟩
  · simp [Value.ownBlock] at hg
  · simp [Value.ownBlock] at hg
    subst hg
    exact ⟨hge, cur, hh⟩

theorem owns_mono {w : World} {base base' t s n : Nat} {v : Value} {xs : List Value} (h : w.ownsRow base t s v n xs) (hb : base' ≤ base) : w.ownsRow base' t s v n xs := by
  refine ⟨h.1, ?_⟩
  rcases h.2 with h2 | ⟨g, cap, cur, hv, hge, r⟩
  · exact Or.inl h2
  · exact Or.inr ⟨g, cap, cur, hv, by omega, r⟩

end Go.Proofs.YtgflalfiopnmnaaGreatDoor
