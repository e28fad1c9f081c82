import Derived.Test.YtgflalfiopnmnaaP17
import Derived.Test.YtgflalfiopnmnaaP12
import Derived.Test.YtgflalfiopnmnaaVlKo
import Derived.Lib.AppendZeros
import Derived.Deep.AppendSrc
import Derived.Deep.Upon
namespace Go.Proofs.Ytgflalfiopnmnaa
open Go.RowKit Vl Aw

/-- The table that a value is, or none. -/
def pOf (T : Nat → Nat) (x : V) : Option Addr := if x.k = 4 then some ⟨T x.a.toNat, 0, none⟩ else none
theorem assert_any {n : Nat} {v : V} (hv : isV n v = true) (T : Nat → Nat) (w : World) : (Instr.typeAssert (ifv T v) 68 63 true).run Try.prog w = .ok (.tuple #[.pointer (pOf T v), .bool (v.k == 4)]) w := by
  by_cases h4 : v.k = 4
  · rw [ifv_tab h4, assert_yes]
    unfold pOf
    rw [if_pos h4]
    simp [h4]
  · rw [assert_no hv h4]
    unfold pOf
    rw [if_neg h4]
    simp [h4]

set_option maxHeartbeats 1000000 in
/-- 'coupleOf'. -/
theorem coupleOf_any (T : Nat → Nat) {n : Nat} {x y : V} (hx : isV n x = true) (hy : isV n y = true) (w : World) :
    Calls Try.prog 79 #[ifv T x, ifv T y] w fun e w' => e = .returned (.tuple #[.agg #[.pointer (pOf T x), .pointer (pOf T y)], .bool (x.k == 4 && y.k == 4)]) ∧ Below w.heap.size w w' := by
  have a1 := assert_any hx T
  have a2 := assert_any hy T
  obtain ⟨xt, xv, hxv⟩ := ifv_form T x
  obtain ⟨yt, yv, hyv⟩ := ifv_form T y
  rw [hxv] at a1 ⊢
  rw [hyv] at a2 ⊢
  obtain ⟨px, hpx⟩ : ∃ p, pOf T x = p := ⟨_, rfl⟩
  obtain ⟨py, hpy⟩ : ∃ p, pOf T y = p := ⟨_, rfl⟩
  obtain ⟨bx, hbx⟩ : ∃ b, (x.k == 4) = b := ⟨_, rfl⟩
  obtain ⟨b2, hb2⟩ : ∃ b, (y.k == 4) = b := ⟨_, rfl⟩
  rw [hpx, hbx] at a1
  rw [hpy, hb2] at a2
  rw [hpx, hpy, hbx, hb2]
  clear hpx hpy hbx hb2 hxv hyv hx hy
  have HB : Hid (Below w.heap.size w (w.alloc (.cells #[.pointer px, .pointer py] 87))) := (Below.refl _ _).alloc (Nat.le_refl _) _
  obtain ⟨q0, q1, _⟩ := two_at (heap_alloc_new w (.cells #[.pointer px, .pointer py] 87))
  cases bx <;> cases b2
  all_goals
    go_enter Try.func79, Try.ntmps79
    go_wp2
    refine bodyPost_ret (v := .tuple #[.agg #[.pointer px, .pointer py], .bool _]) (by simp [results, Try.results79, go_sem, q0, q1]) rfl ⟨rfl, HB.out⟩

theorem neq_of_eql {P : Program} {t tx ty : TypeId} {vx vy : Value} {w : World} {b : Bool} (h : (binOp .eql t (.iface tx vx) (.iface ty vy)).run P w = .ok (.bool b) w) : (binOp .neq t (.iface tx vx) (.iface ty vy)).run P w = .ok (.bool (!b)) w := by
  have e1 : binOp .eql t (.iface tx vx) (.iface ty vy) = (do pure (.bool (← Op.equal t (.iface tx vx) (.iface ty vy)))) := rfl
  have e2 : binOp .neq t (.iface tx vx) (.iface ty vy) = (do pure (.bool (!(← Op.equal t (.iface tx vx) (.iface ty vy))))) := rfl
  rw [e1, Sem.run_bind] at h
  rw [e2, Sem.run_bind]
  generalize (Op.equal t (.iface tx vx) (.iface ty vy)).run P w = r at h ⊢
  cases r <;> simp [Result.andThen] at h ⊢
  exact h

theorem neq_ifv (T : Nat → Nat) {n : Nat} {x y : V} (hx : isV n x = true) (hy : isV n y = true) (w : World) (hT : ∀ j, j < n → ∃ cs t, w.heap[T j]? = some (.cells cs t (0, 0))) :
    (binOp .neq 68 (ifv T x) (ifv T y)).run Try.prog w = .ok (.bool (!(alike T x y))) w := by
  have h := eql_ifv T hx hy w hT
  obtain ⟨xt, xv, hxv⟩ := ifv_form T x
  obtain ⟨yt, yv, hyv⟩ := ifv_form T y
  rw [hxv, hyv] at h ⊢
  exact neq_of_eql h

set_option maxHeartbeats 1000000 in
/-- 'part'. -/
theorem part_any (T : Nat → Nat) {n : Nat} {x y : V} (hx : isV n x = true) (hy : isV n y = true) (w : World) (hT : ∀ j, j < n → ∃ cs t, w.heap[T j]? = some (.cells cs t (0, 0))) :
    Calls Try.prog 83 #[ifv T x, ifv T y] w fun e w' => e = .returned (.bool (!(x.k == 4 && y.k == 4) && !(alike T x y))) ∧ Below w.heap.size w w' := by
  have hcp := coupleOf_any T hx hy w
  have HNQ : Hid (∀ w', Below w.heap.size w w' → (binOp .neq 68 (ifv T x) (ifv T y)).run Try.prog w' = .ok (.bool (!(alike T x y))) w') := show ∀ _, _ from fun w' hb => neq_ifv T hx hy w' (fun j hj => by
    obtain ⟨cs, t, h⟩ := hT j hj
    exact ⟨cs, t, (hb.block _ (blk_lt h)).trans h⟩)
  obtain ⟨xt, xv, hxv⟩ := ifv_form T x
  obtain ⟨yt, yv, hyv⟩ := ifv_form T y
  rw [hxv, hyv] at hcp HNQ ⊢
  obtain ⟨bb, hbb⟩ : ∃ b, (x.k == 4 && y.k == 4) = b := ⟨_, rfl⟩
  obtain ⟨ba, hba⟩ : ∃ b, alike T x y = b := ⟨_, rfl⟩
  obtain ⟨px, hpx⟩ : ∃ p, pOf T x = p := ⟨_, rfl⟩
  obtain ⟨py, hpy⟩ : ∃ p, pOf T y = p := ⟨_, rfl⟩
  rw [hpx, hpy, hbb] at hcp
  rw [hba] at HNQ
  rw [hbb, hba]
  clear hpx hpy hbb hba hxv hyv hx hy hT
  go_enter Try.func83, Try.ntmps83
  go_wp2_with fail
  refine hcp.mono ?_
  clear hcp
  rintro e w1 ⟨rfl, hb1⟩
  have HB1 : Hid (Below w.heap.size w (w1.alloc (.cells #[.pointer px, .pointer py] 87))) := hb1.alloc hb1.size _
  have hnq := HNQ.out _ HB1.out
  clear hb1
  cases bb <;> cases ba
  all_goals
    go_wp2
    go_ret
    exact ⟨rfl, HB1.out⟩

set_option maxHeartbeats 1000000 in
set_option maxRecDepth 100000 in
/-- 'valueAt' of a table. -/
theorem valueAt_map (T M : Nat) (i : Int) (ord R : Value) (l : List (V × Value)) (k : V) (w : World) (HT : Hid (TabB w T M i ord)) (HM : Hid (MapIs w M l)) (HR : Hid ((findV k l).getD (.iface 151 (.agg #[])) = R)) :
    Calls Try.prog 53 #[.iface 63 (.pointer (some ⟨T, 0, none⟩)), .agg #[.int .i64 k.k, .int .i64 k.n, .string k.s, .int .i64 k.a]] w fun e w' => e = .returned R ∧ Below w.heap.size w w' := by
  obtain ⟨w0, hw0⟩ : ∃ w0, w0 = w.alloc (.cells #[.int .i64 k.k, .int .i64 k.n, .string k.s, .int .i64 k.a] 24) := ⟨_, rfl⟩
  have HB : Hid (Below w.heap.size w w0) := by rw [hw0]; exact (Below.refl _ _).alloc (Nat.le_refl _) _
  have HK : Hid (ValB w0 w.heap.size k) := by rw [hw0]; exact heap_alloc_new _ _
  have HT0 : Hid (TabB w0 T M i ord) := (HB.out.block T (blk_lt HT.out)).trans HT.out
  have HM0 : Hid (MapIs w0 M l) := HM.out.same (HB.out.block M HM.out.lt)
  have hta : ∀ w, (Instr.typeAssert (.iface 63 (.pointer (some ⟨T, 0, none⟩))) 68 63 true).run Try.prog w = .ok (.tuple #[.pointer (some ⟨T, 0, none⟩), .bool true]) w := fun _ => by kernel_rfl
  have hhk := hasKey_any T M i ord l k w0 HT0 HM0
  obtain ⟨c0, c1, c2, c3, _⟩ := cells4 HK.out
  rw [hw0] at c0 c1 c2 c3
  go_enter Try.func53, Try.ntmps53
  go_wp2_with fail
  rw [← hw0]
  refine hhk.mono ?_
  clear hhk hw0 c0 c1 c2 c3
  rintro e w1 ⟨rfl, hb1⟩
  have HT1 : Hid (TabB w1 T M i ord) := (hb1.block T (blk_lt HT0.out)).trans HT0.out
  have HM1 : Hid (MapIs w1 M l) := HM0.out.same (hb1.block M HM0.out.lt)
  have HK1 : Hid (ValB w1 w.heap.size k) := HK.out.below hb1
  have HB1 : Hid (Below w.heap.size w w1) := grw HB.out hb1
  clear hb1 HT0 HM0 HK HB HT HM
  cases hf : findV k l with
  | none =>
    rw [hf] at HR
    have HR' : Hid (R = .iface 151 (.agg #[])) := HR.out.symm
    clear HR hf
    go_wp2
    go_ret
    exact ⟨by rw [HR'.out]; rfl, HB1.out⟩
  | some x =>
    rw [hf] at HR
    have HR' : Hid (R = x) := HR.out.symm
    have m1 : (Instr.lookup 64 (.map (some M)) (.agg #[.int .i64 k.k, .int .i64 k.n, .string k.s, .int .i64 k.a]) false).run Try.prog w1.drew = .ok x w1.drew := by
      have := ((show MapIs w1.drew M l from HM1.out).lookup k).2
      rw [hf] at this
      exact this
    clear HR hf
    obtain ⟨_, t1, _, _⟩ := HT1.out.cells
    obtain ⟨c0, c1, c2, c3, _⟩ := cells4 HK1.out
    go_wp2
    go_region_held3 (fun w' => w'.cell? ⟨T, 1, none⟩ = some (.map (some M)) ∧ w'.cell? ⟨w.heap.size, 0, none⟩ = some (.int .i64 k.k) ∧ w'.cell? ⟨w.heap.size, 1, none⟩ = some (.int .i64 k.n) ∧ w'.cell? ⟨w.heap.size, 2, none⟩ = some (.string k.s) ∧ w'.cell? ⟨w.heap.size, 3, none⟩ = some (.int .i64 k.a) ∧ (Instr.lookup 64 (.map (some M)) (.agg #[.int .i64 k.k, .int .i64 k.n, .string k.s, .int .i64 k.a]) false).run Try.prog w' = .ok x w')
      (first | exact ⟨t1, c0, c1, c2, c3, m1⟩)
      (fail)
    clear m1 c0 c1 c2 c3 t1
    go_wp2
    go_ret
    exact ⟨by rw [HR'.out]; rfl, HB1.out.drew⟩

/-- 'valueAt' of one of the tables. -/
theorem valueAt_tbs {n : Nat} {T M : Nat → Nat} {at_ : Nat → Int} {L : Nat → Nat} {K X : Nat → Nat → V} {r : Nat} (hr : r < n) (hone : ∀ a b, a < L r → b < L r → a ≠ b → K r a ≠ K r b) (k : V) (w : World) (HT : Tbs w n T M at_ L K X) :
    Calls Try.prog 53 #[.iface 63 (.pointer (some ⟨T r, 0, none⟩)), .agg #[.int .i64 k.k, .int .i64 k.n, .string k.s, .int .i64 k.a]] w fun e w' => e = .returned (ifv T (atKey (L r) (K r) (X r) k)) ∧ Below w.heap.size w w' := by
  obtain ⟨ord, h1, _⟩ := HT.tab r hr
  obtain ⟨l, h2, h3⟩ := HT.map r hr
  refine valueAt_map (T r) (M r) (at_ r) ord _ l k w h1 h2 ?_
  show _ = _
  by_cases hk : ∃ c, c < L r ∧ K r c = k
  · obtain ⟨c, hc, rfl⟩ := hk
    rw [h3 c hc, atKey_hit hc (eqV_iff.2 rfl) (fun i hi => by
      cases e : eqV (K r i) (K r c) with
      | false => rfl
      | true => exact absurd (eqV_iff.1 e) (hone i c (by omega) hc (by omega)))]
    rfl
  · rw [HT.gone r hr l h2 k (fun c hc e => hk ⟨c, hc, e⟩), atKey_none (fun j hj => by
      cases e : eqV (K r j) k with
      | false => rfl
      | true => exact absurd ⟨j, hj, eqV_iff.1 e⟩ hk)]
    rfl

end Go.Proofs.Ytgflalfiopnmnaa

namespace Go.Proofs.Ytgflalfiopnmnaa
open Go.RowKit Vl Aw

theorem ko_less {a b : V} (ha : isK a = true) (hb : isK b = true) : decide (ko a b < 0) = less a b := by
  unfold ko
  rw [ha, hb, if_pos (by rfl : (true && true) = true)]
  cases less a b
  · cases less b a <;> simp
  · simp

set_option maxHeartbeats 2000000 in
set_option maxRecDepth 100000 in
/-- 'slices.MinFunc' at keys. -/
theorem minFunc_any (B L cp : Nat) (K : Nat → V) (w : World) (hL : L ≤ 1000) (h0 : 0 < L) (HK : Hid (∀ c, c < L → isK (K c) = true)) (HP : Hid (ValsAt w (some ⟨B, 0, none⟩) L B 0 K)) :
    Calls Try.prog 84 #[.slice (some ⟨B, 0, none⟩) L cp, .func (.func 25) #[] #[]] w fun e w' => (∃ k, e = .returned (vAgg k) ∧ (∃ j, j < L ∧ K j = k) ∧ ∀ j, j < L → less (K j) k = false) ∧ Below w.heap.size w w' := by
  obtain ⟨k0, HK0⟩ : ∃ k, Hid (K 0 = k) := ⟨_, rfl⟩
  have A2 := alloc2 w (.cells #[.int .i64 0, .int .i64 0, .string ⟨#[]⟩, .int .i64 0] 24) (.cells #[.int .i64 k0.k, .int .i64 k0.n, .string k0.s, .int .i64 k0.a] 24)
  obtain ⟨w1, hw1⟩ : ∃ w1, w1 = (w.alloc (.cells #[.int .i64 0, .int .i64 0, .string ⟨#[]⟩, .int .i64 0] 24)).alloc (.cells #[.int .i64 k0.k, .int .i64 k0.n, .string k0.s, .int .i64 k0.a] 24) := ⟨_, rfl⟩
  rw [← hw1] at A2
  have HR1 : Hid (ValB w1 w.heap.size zeroV) := A2.1
  have HM1 : Hid (ValB w1 (w.heap.size + 1) k0) := A2.2.1
  have HB1 : Hid (Below w.heap.size w w1) := A2.2.2.2
  clear A2
  obtain ⟨c0, c1, c2, c3⟩ := HP.out.cells (c := 0) h0
  rw [HK0.out] at c0 c1 c2 c3
  simp only [Nat.zero_add, Nat.zero_mul] at c0 c1 c2 c3
  have hBl : B < w.heap.size := World.block_lt_of_cell? _ _ c0
  have HA0 : Hid (∀ j, j < 1 → less (K j) k0 = false) := show ∀ j, _ from fun j hj => by
    have e : j = 0 := by omega
    rw [e, HK0.out]
    exact Aw.lt_irrefl _
  have hlt : ¬ ((L : Int) < 1) := by omega
  have hb0 : (0 : Int) ≤ 0 ∧ (0 : Int) < (L : Int) := by omega
  go_enter Try.func84, Try.ntmps84
  go_wp2
  rw [← hw1]
  clear hw1 c0 c1 c2 c3 hlt hb0 hBl
  go_loopw [6] (fun ii wr => ∃ (c : Nat) (k : V), 1 ≤ c ∧ c ≤ L ∧ ii = .int .i64 c ∧ Hid (∃ j, j < c ∧ K j = k) ∧ Hid (∀ j, j < c → less (K j) k = false) ∧ Hid (ValB wr w.heap.size zeroV) ∧ Hid (ValB wr (w.heap.size + 1) k) ∧ Hid (Below w.heap.size w wr)) (fun ii _ => L - (intOf ii).toNat)
  case atStart => exact ⟨1, k0, Nat.le_refl _, h0, rfl, ⟨0, by omega, HK0.out⟩, HA0, HR1, HM1, HB1⟩
  case round =>
    obtain ⟨c, k, hc1, hc, rfl, HE, HA, HR, HM, HB⟩ := hrel
    clear HR1 HM1 HB1
    obtain ⟨m0, m1, m2, m3, mz⟩ := cells4 HM.out
    by_cases hlc : c < L
    · obtain ⟨c0, c1, c2, c3⟩ := (HP.out.below HB.out).cells hlc
      obtain ⟨kc, HKC⟩ : ∃ kc, Hid (K c = kc) := ⟨_, rfl⟩
      rw [HKC.out] at c0 c1 c2 c3
      simp only [Nat.zero_add] at c0 c1 c2 c3
      have hbc : (0 : Int) ≤ (c : Int) ∧ (c : Int) < (L : Int) := by omega
      have hkc : isK kc = true := by rw [← HKC.out]; exact HK.out c hlc
      have hkk : isK k = true := by obtain ⟨j, hj, e⟩ := HE.out; rw [← e]; exact HK.out j (by omega)
      have hcall := implKo_any kc k wr.drew
      obtain ⟨kq, hkq⟩ : ∃ kq, ko kc k = kq := ⟨_, rfl⟩
      have hls := ko_less hkc hkk
      rw [hkq] at hcall hls
      obtain ⟨bl, hbl⟩ : ∃ bl, less kc k = bl := ⟨_, rfl⟩
      rw [hbl] at hls
      have HBL : Hid (less kc k = bl) := hbl
      have C4 : Hid (∀ w', Below wr.heap.size wr w' → w'.cell? ⟨B, c * 4, none⟩ = some (.int .i64 kc.k) ∧ w'.cell? ⟨B, c * 4 + 1, none⟩ = some (.int .i64 kc.n) ∧ w'.cell? ⟨B, c * 4 + 2, none⟩ = some (.string kc.s) ∧ w'.cell? ⟨B, c * 4 + 3, none⟩ = some (.int .i64 kc.a)) := show ∀ _, _ from fun w' hb => ⟨cellB c0 w' hb, cellB c1 w' hb, cellB c2 w' hb, cellB c3 w' hb⟩
      have M4 : Hid (∀ w', Below wr.heap.size wr w' → w'.cell? ⟨w.heap.size + 1, 0, none⟩ = some (.int .i64 k.k) ∧ w'.cell? ⟨w.heap.size + 1, 1, none⟩ = some (.int .i64 k.n) ∧ w'.cell? ⟨w.heap.size + 1, 2, none⟩ = some (.string k.s) ∧ w'.cell? ⟨w.heap.size + 1, 3, none⟩ = some (.int .i64 k.a)) := show ∀ _, _ from fun w' hb => ⟨cellB m0 w' hb, cellB m1 w' hb, cellB m2 w' hb, cellB m3 w' hb⟩
      clear hkq hbl c0 c1 c2 c3 m0 m1 m2 m3 mz hkc hkk
      go_wp2
      refine wp_region_held_drew (S := fun y => Below wr.heap.size wr y) (by kernel_rfl) (Below.refl _ _).drew (fun hHeld => ?_)
      refine wpAnyH_take (i := 0) (v := .func (.func 25) #[] #[]) rfl (by kernel_rfl) (by kernel_rfl) (by kernel_rfl) (fun _ _ _ h => h) (Or.inl ⟨by rfl, fun w hSw => ?_⟩) hHeld ?_
      · first | rfl | go_simp
      simp only [Act.put, List.setIfInBounds_toArray, List.set_cons_zero, List.set_cons_succ, List.getElem_toArray, List.getElem_cons_zero]
      refine wpAnyH_take (i := 1) (v := .slice (some ⟨B, 0, none⟩) L cp) rfl (by kernel_rfl) (by kernel_rfl) (by kernel_rfl) (fun _ _ _ h => h) (Or.inl ⟨by rfl, fun w hSw => ?_⟩) hHeld ?_
      · first | rfl | go_simp
      simp only [Act.put, List.setIfInBounds_toArray, List.set_cons_zero, List.set_cons_succ, List.getElem_toArray, List.getElem_cons_zero, List.getElem_cons_succ]
      refine wpAnyH_take (i := 2) (v := .int .i64 (c : Nat)) rfl (by kernel_rfl) (by kernel_rfl) (by kernel_rfl) (fun _ _ _ h => h) (Or.inl ⟨by rfl, fun w hSw => ?_⟩) hHeld ?_
      · first | rfl | go_simp
      simp only [Act.put, List.setIfInBounds_toArray, List.set_cons_zero, List.set_cons_succ, List.getElem_toArray, List.getElem_cons_zero, List.getElem_cons_succ]
      refine wpAnyH_take (i := 3) (v := .pointer (some ⟨B, c * 4, none⟩)) rfl (by kernel_rfl) (by kernel_rfl) (by kernel_rfl) (fun _ _ _ h => h) (Or.inl ⟨by rfl, fun w hSw => ?_⟩) hHeld ?_
      · first | rfl | go_simp
      simp only [Act.put, List.setIfInBounds_toArray, List.set_cons_zero, List.set_cons_succ, List.getElem_toArray, List.getElem_cons_zero, List.getElem_cons_succ]
      refine wpAnyH_take (i := 4) (v := .agg #[.int .i64 kc.k, .int .i64 kc.n, .string kc.s, .int .i64 kc.a]) rfl (by kernel_rfl) (by kernel_rfl) (by kernel_rfl) (fun _ _ _ h => h) (Or.inl ⟨by rfl, fun w hSw => ?_⟩) hHeld ?_
      · obtain ⟨q0, q1, q2, q3⟩ := C4.out w hSw; first | rfl | go_simp
      simp only [Act.put, List.setIfInBounds_toArray, List.set_cons_zero, List.set_cons_succ, List.getElem_toArray, List.getElem_cons_zero, List.getElem_cons_succ]
      refine wpAnyH_take (i := 5) (v := .agg #[.int .i64 k.k, .int .i64 k.n, .string k.s, .int .i64 k.a]) rfl (by kernel_rfl) (by kernel_rfl) (by kernel_rfl) (fun _ _ _ h => h) (Or.inl ⟨by rfl, fun w hSw => ?_⟩) hHeld ?_
      · obtain ⟨q0, q1, q2, q3⟩ := M4.out w hSw; first | rfl | go_simp
      simp only [Act.put, List.setIfInBounds_toArray, List.set_cons_zero, List.set_cons_succ, List.getElem_toArray, List.getElem_cons_zero, List.getElem_cons_succ]
      refine wpAnyH_ready (rs := [6]) (by kernel_rfl) (by simp) ?_
      refine AllReadyH.cons rfl (fun KK hK' => ?_) AllReadyH.nil
      go_simp
      refine hcall.mono ?_
      clear hcall
      rintro e w5 ⟨rfl, hb5⟩
      have hs5 : Below wr.heap.size wr w5 := grw hHeld hb5
      have HR5 : Hid (ValB w5 w.heap.size zeroV) := HR.out.below hs5
      have HM5 : Hid (ValB w5 (w.heap.size + 1) k) := HM.out.below hs5
      have HB5 : Hid (Below w.heap.size w w5) := grw HB.out hs5
      have HC5 : Hid _ := C4.out w5 hs5
      refine hK'.out _ _ hs5 (fun hHeld => ?_)
      clear hK' hb5
      refine wpAnyH_take (i := 7) (v := .bool bl) rfl (by kernel_rfl) (by kernel_rfl) (by kernel_rfl) (fun _ _ _ h => h) (Or.inl ⟨by rfl, fun w hSw => ?_⟩) hHeld ?_
      · have hq := hls; first | rfl | go_simp
      simp only [Act.put, List.setIfInBounds_toArray, List.set_cons_zero, List.set_cons_succ, List.getElem_toArray, List.getElem_cons_zero, List.getElem_cons_succ]
      refine wpAnyH_done (by kernel_rfl) ?_ _
      clear hHeld hs5 C4 M4 HR HM HB hls
      cases bl
      · have HA5 : Hid (∀ j, j < c + 1 → less (K j) k = false) := show ∀ j, _ from fun j hj => by
          by_cases e : j = c
          · rw [e, HKC.out]; exact HBL.out
          · exact HA.out j (by omega)
        have HE5 : Hid (∃ j, j < c + 1 ∧ K j = k) := by obtain ⟨j, hj, e⟩ := HE.out; exact ⟨j, by omega, e⟩
        go_wp2
        go_roundw
        case rel => exact ⟨c + 1, k, by omega, by omega, by go_num, HE5, HA5, HR5, HM5, HB5⟩
        case measure => simp [intOf]; omega
      · have HA5 : Hid (∀ j, j < c + 1 → less (K j) kc = false) := show ∀ j, _ from fun j hj => by
          by_cases e : j = c
          · rw [e, HKC.out]; exact Aw.lt_irrefl _
          · cases e2 : less (K j) kc with
            | false => rfl
            | true =>
              have h1 := Aw.lt_trans e2 HBL.out
              rw [HA.out j (by omega)] at h1
              cases h1
        have HE5 : Hid (∃ j, j < c + 1 ∧ K j = kc) := ⟨c, by omega, HKC.out⟩
        obtain ⟨q0, q1, q2, q3⟩ := HC5.out
        obtain ⟨m0, m1, m2, m3, mz⟩ := cells4 HM5.out
        go_wp2
        obtain ⟨w6, hw6⟩ : ∃ w6, w6 = (((w5.setCell ⟨w.heap.size + 1, 0, none⟩ (.int .i64 kc.k)).setCell ⟨w.heap.size + 1, 1, none⟩ (.int .i64 kc.n)).setCell ⟨w.heap.size + 1, 2, none⟩ (.string kc.s)).setCell ⟨w.heap.size + 1, 3, none⟩ (.int .i64 kc.a) := ⟨_, rfl⟩
        have HM6 : Hid (ValB w6 (w.heap.size + 1) kc) := by rw [hw6]; exact HM5.out.put kc
        have hs6 : Only (fun k => k = w.heap.size + 1) w5 w6 := by rw [hw6]; exact ((((Only.refl (fun k => k = w.heap.size + 1) w5).set (p := ⟨w.heap.size + 1, 0, none⟩) rfl _).set (p := ⟨w.heap.size + 1, 1, none⟩) rfl _).set (p := ⟨w.heap.size + 1, 2, none⟩) rfl _).set (p := ⟨w.heap.size + 1, 3, none⟩) rfl _
        have HR6 : Hid (ValB w6 w.heap.size zeroV) := (hs6.block _ (blk_lt HR5.out) (by omega)).trans HR5.out
        have HB6 : Hid (Below w.heap.size w w6) := HB5.out.trans (hs6.toBelow (fun k e => by omega) HB5.out.size)
        rw [← hw6]
        clear hw6 q0 q1 q2 q3 m0 m1 m2 m3 mz hs6
        go_roundw
        case rel => exact ⟨c + 1, kc, by omega, by omega, by go_num, HE5, HA5, HR6, HM6, HB6⟩
        case measure => simp [intOf]; omega
    · obtain rfl : L = c := by omega
      obtain ⟨r0, r1, r2, r3, rz⟩ := cells4 HR.out
      go_wp2
      obtain ⟨q0, q1, q2, q3, _⟩ := cells4 (HR.out.put k)
      refine bodyPost_ret (v := vAgg k) (by simp [results, Try.results84, go_sem, q0, q1, q2, q3]) rfl ⟨⟨k, rfl, HE.out, HA.out⟩, ?_⟩
      exact HB.out.trans (set4_below.mono (by omega))

set_option maxHeartbeats 2000000 in
set_option maxRecDepth 100000 in
/-- 'slices.Grow' of nothing. -/
theorem growV_any (n : Nat) (w : World) (hn : n ≤ 1000) :
    Calls Try.prog 105 #[.slice none 0 0, .int .i64 (n : Nat)] w fun e w' => (∃ v, e = .returned v ∧ w'.ownsRow w.heap.size 24 4 v 0 []) ∧ Below w.heap.size w w' := by
  by_cases h0 : n = 0
  · subst h0
    go_enter Try.func105, Try.ntmps105
    go_wp2
    go_ret
    exact ⟨⟨_, rfl, World.ownsRow_nil _ _ _ _⟩, Below.refl _ _⟩
  · obtain ⟨iv, hi, hz0, hz1, hz2⟩ := info_parts infoV
    have hint : Try.prog.underlying 3 = some (.int .i64) := by kernel_rfl
    have hrun := Lib.run_append_nil_zeros (P := Try.prog) w 36 3 36 24 iv _ .i64 .i64 Try.underlying36 hint hi hz0 n (by omega) (by omega) (by omega) (by rw [hz2]; omega)
    have hge := grownCap_ge w n 0 24
    have hle := grownCap_le_maxLen w n 0 24 (by unfold maxLen; omega)
    obtain ⟨gc, hgc⟩ : ∃ gc, grownCap w n 0 24 = gc := ⟨_, rfl⟩
    rw [hgc] at hrun hge hle
    obtain ⟨w1, hw1⟩ : ∃ w1, w1 = w.drew.alloc (.cells (Builtin.zeroCells (Value.agg #[.int .i64 0, .int .i64 0, .string ⟨#[]⟩, .int .i64 0]).cells n ++ Builtin.zeroCells (Value.agg #[.int .i64 0, .int .i64 0, .string ⟨#[]⟩, .int .i64 0]).cells (gc - n)) 24) := ⟨_, rfl⟩
    rw [← hw1] at hrun
    have HO : Hid (w1.ownsRow w.heap.size 24 4 (.slice (some ⟨w.heap.size, 0, none⟩) 0 gc) 0 []) := by
      refine ⟨rfl, Or.inr ⟨w.heap.size, gc, _, rfl, Nat.le_refl _, by rw [hw1]; exact heap_alloc_new w.drew _, Nat.zero_le _, hle, ?_, by simp⟩⟩
      simp only [Array.size_append, size_zeroCells]
      show n * 4 + (gc - n) * 4 = gc * 4
      omega
    have HB : Hid (Below w.heap.size w w1) := by rw [hw1]; exact (Below.refl _ _).drew.alloc (Nat.le_refl _) _
    have hpos : (0 : Int) < (n : Int) := by omega
    have hneg : ¬ ((n : Int) < 0) := by omega
    have hgl : gc ≤ 9223372036854775807 := by unfold maxLen at hle; omega
    clear hw1 hgc h0
    go_enter Try.func105, Try.ntmps105
    go_wp2_with (at_builtin; refine Lib.wpList_append_run _ rfl (.tmp 20) (.tmp 21) _ _ rfl _ _ rfl rfl _ _ hrun ?_)
    go_wp2
    go_ret
    exact ⟨⟨_, rfl, HO.out⟩, HB.out⟩

end Go.Proofs.Ytgflalfiopnmnaa

namespace Go.Proofs.Ytgflalfiopnmnaa
open Go.RowKit Vl Aw

theorem keyCells_one (ks : List V) : ∀ u ∈ keyCells ks, u.oneCell' = true := by
  intro u hu
  unfold keyCells at hu
  obtain ⟨v, _, hv⟩ := List.mem_flatMap.1 hu
  simp at hv
  rcases hv with rfl | rfl | rfl | rfl <;> rfl

/-- A row of keys is put behind another. -/
theorem run_append_row {w : World} {base b0 n L : Nat} {v x : Value} {xs : List Value} {ks : List V} (ty : TypeId) (hown : w.ownsRow base 24 4 v n xs) (hx : w.ownsRow b0 24 4 x L (keyCells ks)) (h1 : n + L ≤ 100000) (hb : base ≤ w.heap.size) :
    ∃ v' w', (Builtin.append_ #[36, 36] ty #[v, x]).run Try.prog w = .ok v' w' ∧ w'.ownsRow base 24 4 v' (n + L) (xs ++ keyCells ks) ∧ w.grownBy w' v.ownBlock := by
  obtain ⟨iv, hi, hz0, hz1, hz2⟩ := info_parts infoV
  have hc : ∀ j u, (keyCells ks)[j]? = some u → ∃ g cap, x = .slice (some ⟨g, 0, none⟩) L cap ∧ w.cell? ⟨g, j, none⟩ = some u := fun j u hu => owns_cell hx hu
  rcases hx.2 with ⟨rfl, rfl⟩ | ⟨g, cap, cur, rfl, _⟩
  · have hk : keyCells ks = [] := List.eq_nil_of_length_eq_zero (by have := hx.1; omega)
    rw [hk, List.append_nil]
    rcases hown.2 with ⟨rfl, rfl⟩ | ⟨g, cap, cur, rfl, _, _, hle, _⟩
    · exact ⟨_, _, run_append_nothing w _ _ ty _ iv Try.underlying36 hi none 0 0 (Nat.le_refl _) _ (Src.ofNil w Try.underlying36 0), hown, ⟨rfl, rfl, rfl, Nat.le_refl _, fun _ _ _ => rfl⟩⟩
    · exact ⟨_, _, run_append_nothing w _ _ ty _ iv Try.underlying36 hi (some ⟨g, 0, none⟩) n cap hle _ (Src.ofNil w Try.underlying36 0), hown, ⟨rfl, rfl, rfl, Nat.le_refl _, fun _ _ _ => rfl⟩⟩
  · obtain ⟨v', w', hr, h2, h3, _⟩ := run_append_own_at (P := Try.prog) w base 36 ty 24 iv (.agg #[.int .i64 0, .int .i64 0, .string ⟨#[]⟩, .int .i64 0]) 4 40 Try.underlying36 hi hz0 hz1 hz2 (by rfl) (by omega) v n xs hown ⟨g, 0, none⟩ L cap (keyCells ks) hx.1 (fun j u hu => by
      obtain ⟨g', cap', e, h⟩ := hc j u hu
      cases e
      have hadd : (⟨g, 0, none⟩ : Addr).add j = ⟨g, j, none⟩ := by unfold Addr.add; split <;> simp_all
      rw [hadd]
      exact h) (keyCells_one ks) (by unfold maxLen; omega) (by omega) hb
    exact ⟨v', w', hr, h2, h3⟩

/-- Rows one behind the other. -/
def cat (SL : Nat → Nat) (SK : Nat → Nat → V) : Nat → List V
  | 0 => []
  | q + 1 => cat SL SK q ++ keys (SK q) (SL q)
theorem keyCells_app (a b : List V) : keyCells (a ++ b) = keyCells a ++ keyCells b := by simp [keyCells]

set_option maxHeartbeats 2000000 in
set_option maxRecDepth 100000 in
/-- 'slices.Concat' at keys. -/
theorem concat_any (m gb : Nat) (SV : Nat → Value) (SL : Nat → Nat) (SK : Nat → Nat → V) (w : World) (hm : m ≤ 2) (HL : Hid (∀ q, q < m → SL q ≤ 100)) (HC : Hid (∀ q, q < m → w.cell? ⟨gb, q, none⟩ = some (SV q))) (HO : Hid (∀ q, q < m → w.ownsRow 0 24 4 (SV q) (SL q) (keyCells (keys (SK q) (SL q))))) :
    Calls Try.prog 82 #[.slice (some ⟨gb, 0, none⟩) m m] w fun e w' => (∃ v, e = .returned v ∧ w'.ownsRow w.heap.size 24 4 v (cat SL SK m).length (keyCells (cat SL SK m))) ∧ Below w.heap.size w w' := by
  have HLen : Hid (∀ q, q ≤ m → (cat SL SK q).length ≤ q * 100) := show ∀ q, _ from fun q => by
    induction q with
    | zero => intro _; simp [cat]
    | succ q ih =>
      intro hq
      have h1 := ih (by omega)
      have h2 := HL.out q (by omega)
      simp only [cat, List.length_append, keys_len]
      omega
  go_enter Try.func82, Try.ntmps82
  go_wp2
  go_loopw [3, 11] (fun sv ii wr => ∃ q : Nat, q ≤ m ∧ ii = .int .i64 q ∧ sv = .int .i64 ((cat SL SK q).length : Nat) ∧ Hid (Below w.heap.size w wr)) (fun _ ii _ => m - (intOf ii).toNat)
  case atStart => exact ⟨0, Nat.zero_le _, rfl, rfl, Below.refl _ _⟩
  case round =>
    obtain ⟨q, hq, rfl, rfl, HB⟩ := hrel
    by_cases hlt : q < m
    · obtain ⟨sa, sc, hsv, _⟩ := owns_form (HO.out q hlt)
      have c0 := HC.out q hlt
      rw [hsv] at c0
      replace c0 := (HB.out.cell (World.block_lt_of_cell? _ _ c0)).trans c0
      have hln := HLen.out q hq
      have hl2 := HL.out q hlt
      obtain ⟨cl, hcl⟩ : ∃ cl, (cat SL SK q).length = cl := ⟨_, rfl⟩
      obtain ⟨sl, hsl⟩ : ∃ sl, SL q = sl := ⟨_, rfl⟩
      have HNX : Hid ((cat SL SK (q + 1)).length = cl + sl) := by show _ = _; simp only [cat, List.length_append, keys_len, hcl, hsl]
      rw [hcl] at hln
      rw [hsl] at hl2 c0
      rw [hcl]
      have hwr : IntKind.i64.wrap ((cl : Int) + (sl : Int)) = ((cl + sl : Nat) : Int) := by rw [IntKind.wrap_i64]; omega
      have hng : ¬ (((cl + sl : Nat) : Int) < 0) := by omega
      have hbq : (0 : Int) ≤ (q : Int) ∧ (q : Int) < (m : Int) := by omega
      clear hsv hcl hsl
      go_wp2
      go_roundw
      case rel => exact ⟨q + 1, by omega, by go_num, by rw [HNX.out]; first | rfl | simp, HB⟩
      case measure => simp [intOf]; omega
    · obtain rfl : m = q := by omega
      have hln := HLen.out m (Nat.le_refl _)
      obtain ⟨cl, hcl⟩ : ∃ cl, (cat SL SK m).length = cl := ⟨_, rfl⟩
      have HCL : Hid ((cat SL SK m).length = cl) := hcl
      rw [hcl] at hln
      rw [hcl]
      have hgr := growV_any cl wr (by omega)
      clear hcl
      go_wp2_with fail
      refine hgr.mono ?_
      clear hgr
      rintro e w1 ⟨⟨gv, rfl, hg1⟩, hb1⟩
      have HB1 : Hid (Below w.heap.size w w1) := grw HB.out hb1
      have HG1 : Hid (w1.ownsRow w.heap.size 24 4 gv (cat SL SK 0).length (keyCells (cat SL SK 0))) := owns_mono hg1 HB.out.size
      clear hb1 hg1 HB
      go_wp2
      go_loopw [6, 27] (fun ov ii wr => ∃ q : Nat, q ≤ m ∧ ii = .int .i64 q ∧ Hid (wr.ownsRow w.heap.size 24 4 ov (cat SL SK q).length (keyCells (cat SL SK q))) ∧ Hid (Below w.heap.size w wr)) (fun _ ii _ => m - (intOf ii).toNat)
      case atStart => exact ⟨0, Nat.zero_le _, rfl, HG1, HB1⟩
      case round =>
        obtain ⟨q, hq2, rfl, HO2, HB⟩ := hrel
        clear HG1 HB1
        by_cases hlt2 : q < m
        · obtain ⟨sa, sc, hsv, hsk⟩ := owns_form (HO.out q hlt2)
          have c0 := HC.out q hlt2
          have hrow := HO.out q hlt2
          replace hrow : wr.ownsRow 0 24 4 (SV q) (SL q) (keyCells (keys (SK q) (SL q))) := ⟨hrow.1, by
            rcases hrow.2 with h | ⟨g, cap, cur, h1, h2, h3, h4⟩
            · exact Or.inl h
            · exact Or.inr ⟨g, cap, cur, h1, h2, (HB.out.block _ (blk_lt h3)).trans h3, h4⟩⟩
          have hln := HLen.out q (by omega)
          have hl2 := HL.out q hlt2
          obtain ⟨v', w', hr, hown', hgr'⟩ := run_append_row 36 HO2.out hrow (by omega) HB.out.size
          rw [hsv] at c0 hr
          replace c0 := (HB.out.cell (World.block_lt_of_cell? _ _ c0)).trans c0
          have hbel : Below w.heap.size wr w' := below_grown HO2.out hgr' HB.out.size
          have HO3 : Hid (w'.ownsRow w.heap.size 24 4 v' (cat SL SK (q + 1)).length (keyCells (cat SL SK (q + 1)))) := by
            show World.ownsRow _ _ _ _ _ _ _
            simp only [cat, List.length_append, keys_len, keyCells_app]
            exact hown'
          have HB3 : Hid (Below w.heap.size w w') := HB.out.trans hbel
          obtain ⟨oa, oc, rfl, _⟩ := owns_form HO2.out
          obtain ⟨va, vc, hv', _⟩ := owns_form hown'
          have hbq : (0 : Int) ≤ (q : Int) ∧ (q : Int) < (m : Int) := by omega
          rw [hv'] at hr HO3
          clear hsv hsk hrow hown' hgr' hbel hv' HO2
          go_wp2_with (at_builtin; refine Lib.wpList_append_run _ rfl (.tmp 31) (.tmp 32) _ _ rfl _ _ rfl rfl _ _ hr ?_)
          clear hr c0
          go_wp2
          go_roundw
          case rel => exact ⟨q + 1, by omega, by go_num, HO3, HB3⟩
          case measure => simp [intOf]; omega
        · obtain rfl : m = q := by omega
          go_wp2
          go_ret
          exact ⟨⟨_, rfl, HO2.out⟩, HB.out⟩

end Go.Proofs.Ytgflalfiopnmnaa

namespace Go.Proofs.Ytgflalfiopnmnaa
open Go.RowKit Vl Aw

theorem Tbs.isB {w : World} {n : Nat} {T M : Nat → Nat} {at_ : Nat → Int} {L : Nat → Nat} {K X : Nat → Nat → V} (h : Tbs w n T M at_ L K X) : ∀ j, j < n → ∃ cs t, w.heap[T j]? = some (.cells cs t (0, 0)) := fun j hj => by
  obtain ⟨ord, a1, _⟩ := h.tab j hj
  unfold TabB at a1
  exact ⟨_, _, a1⟩
theorem filt_succ (all : List V) (P : V → Bool) (c : Nat) (h : c < all.length) : (all.take (c + 1)).filter P = if P (lsF all c) = true then (all.take c).filter P ++ [lsF all c] else (all.take c).filter P := by
  have e : all[c]? = some (lsF all c) := by
    unfold lsF
    rw [List.getD_eq_getElem?_getD, List.getElem?_eq_getElem h]
    rfl
  rw [List.take_add_one, e, List.filter_append]
  by_cases hp : P (lsF all c) = true
  · simp [hp]
  · simp [hp]

set_option maxHeartbeats 4000000 in
set_option maxRecDepth 100000 in
/-- '(couple).parting'. -/
theorem parting_any (n i j : Nat) (T M : Nat → Nat) (at_ : Nat → Int) (L : Nat → Nat) (K X : Nat → Nat → V) (w : World) (hi : i < n) (hj : j < n) (HOT : Hid (∀ r, r < n → OkT n (L r) (K r) (X r))) (HT : Hid (Tbs w n T M at_ L K X)) (P : V → Bool) (HPd : Hid (P = (fun k => !((atKey (L i) (K i) (X i) k).k == 4 && (atKey (L j) (K j) (X j) k).k == 4) && !(alike T (atKey (L i) (K i) (X i) k) (atKey (L j) (K j) (X j) k))))) :
    Calls Try.prog 45 #[.agg #[ptr (T i), ptr (T j)]] w fun e w' => (((keys (K i) (L i) ++ keys (K j) (L j)).filter P = [] ∧ e = .returned (.tuple #[vAgg zeroV, .bool false])) ∨ (∃ k, e = .returned (.tuple #[vAgg k, .bool true]) ∧ k ∈ (keys (K i) (L i) ++ keys (K j) (L j)).filter P ∧ ∀ x ∈ (keys (K i) (L i) ++ keys (K j) (L j)).filter P, less x k = false)) ∧ Below w.heap.size w w' := by
  have A2 := alloc2 w (.cells #[ptr (T i), ptr (T j)] 87) (.cells #[.int .i64 0, .int .i64 0, .string ⟨#[]⟩, .int .i64 0] 24)
  obtain ⟨w1, hw1⟩ : ∃ w1, w1 = (w.alloc (.cells #[ptr (T i), ptr (T j)] 87)).alloc (.cells #[.int .i64 0, .int .i64 0, .string ⟨#[]⟩, .int .i64 0] 24) := ⟨_, rfl⟩
  rw [← hw1] at A2
  have HB1 : Hid (Below w.heap.size w w1) := A2.2.2.2
  have HC1 : Hid (w1.heap[w.heap.size]? = some (.cells #[ptr (T i), ptr (T j)] 87 (0, 0))) := A2.1
  have HR1 : Hid (ValB w1 (w.heap.size + 1) zeroV) := A2.2.1
  have HS1 : Hid (w1.heap.size = w.heap.size + 2) := A2.2.2.1
  clear A2
  have HT1 : Hid (Tbs w1 n T M at_ L K X) := HT.out.below HB1.out
  obtain ⟨oi, ti1, ti2⟩ := HT1.out.tab i hi
  obtain ⟨oj, tj1, tj2⟩ := HT1.out.tab j hj
  obtain ⟨ia, ic, hoi, _⟩ := owns_form ti2
  obtain ⟨ja, jc, hoj, _⟩ := owns_form tj2
  have hli := (HOT.out i hi).len
  have hlj := (HOT.out j hj).len
  have TI2 : Hid (w1.ownsRow 0 24 4 (.slice ia (L i) ic) (L i) (keyCells (keys (K i) (L i)))) := by rw [← hoi]; exact ti2
  have TJ2 : Hid (w1.ownsRow 0 24 4 (.slice ja (L j) jc) (L j) (keyCells (keys (K j) (L j)))) := by rw [← hoj]; exact tj2
  have ci := ti1.cells.2.2.1
  have cj := tj1.cells.2.2.1
  rw [hoi] at ci
  rw [hoj] at cj
  obtain ⟨c0, c1, _⟩ := two_at HC1.out
  have CI : Hid (∀ w', Below w1.heap.size w1 w' → w'.cell? ⟨T i, 2, none⟩ = some (.slice ia (L i) ic)) := cellB ci
  have CJ : Hid (∀ w', Below w1.heap.size w1 w' → w'.cell? ⟨T j, 2, none⟩ = some (.slice ja (L j) jc)) := cellB cj
  have C0 : Hid (∀ w', Below w1.heap.size w1 w' → w'.cell? ⟨w.heap.size, 0, none⟩ = some (ptr (T i))) := cellB c0
  have C1 : Hid (∀ w', Below w1.heap.size w1 w' → w'.cell? ⟨w.heap.size, 1, none⟩ = some (ptr (T j))) := cellB c1
  clear ci cj c0 c1 hoi hoj ti1 ti2 tj1 tj2
  obtain ⟨li, HLI⟩ : ∃ l, Hid (L i = l) := ⟨_, rfl⟩
  obtain ⟨lj, HLJ⟩ : ∃ l, Hid (L j = l) := ⟨_, rfl⟩
  obtain ⟨all, HAL⟩ : ∃ all, Hid (keys (K i) (L i) ++ keys (K j) (L j) = all) := ⟨_, rfl⟩
  have HALK : Hid (∀ k ∈ all, isK k = true) := show ∀ k ∈ all, _ from fun k hk => by
    rw [← HAL.out] at hk
    rcases List.mem_append.1 hk with hk | hk
    · obtain ⟨c, hc, rfl⟩ := Aw.mem_keys.1 hk; exact ((HOT.out i hi).all c hc).key
    · obtain ⟨c, hc, rfl⟩ := Aw.mem_keys.1 hk; exact ((HOT.out j hj).all c hc).key
  have HALL : Hid (all.length ≤ 200) := by
    show _ ≤ _
    rw [← HAL.out, List.length_append, keys_len, keys_len]
    omega
  rw [HAL.out]
  rw [HLI.out] at CI TI2 hli
  rw [HLJ.out] at CJ TJ2 hlj
  obtain ⟨iv, hiv, hz0, hz1, hz2⟩ := info_parts infoV
  go_enter Try.func45, Try.ntmps45
  go_wp2
  rw [← hw1]
  clear hw1
  refine wp_region_held_drew (S := fun y => Below w1.heap.size w1 y) (by kernel_rfl) (Below.refl _ _).drew (fun hHeld => ?_)
  generalize w1.drew = wd at hHeld ⊢
  refine wpAnyH_take (i := 0) (v := .pointer (some ⟨w.heap.size, 0, none⟩)) rfl (by kernel_rfl) (by kernel_rfl) (by kernel_rfl) (fun _ _ _ h => h) (Or.inl ⟨by rfl, fun w hSw => ?_⟩) hHeld ?_
  · first | rfl | go_simp
  simp only [Act.put, List.setIfInBounds_toArray, List.set_cons_zero, List.set_cons_succ, List.getElem_toArray, List.getElem_cons_zero]
  refine wpAnyH_take (i := 1) (v := ptr (T i)) rfl (by kernel_rfl) (by kernel_rfl) (by kernel_rfl) (fun _ _ _ h => h) (Or.inl ⟨by rfl, fun w hSw => ?_⟩) hHeld ?_
  · have q0 := C0.out w hSw; first | rfl | go_simp
  simp only [Act.put, List.setIfInBounds_toArray, List.set_cons_zero, List.set_cons_succ, List.getElem_toArray, List.getElem_cons_zero, List.getElem_cons_succ]
  refine wpAnyH_take (i := 2) (v := ptr (T i)) rfl (by kernel_rfl) (by kernel_rfl) (by kernel_rfl) (fun _ _ _ h => h) (Or.inl ⟨by rfl, fun w hSw => ?_⟩) hHeld ?_
  · first | rfl | go_simp
  simp only [Act.put, List.setIfInBounds_toArray, List.set_cons_zero, List.set_cons_succ, List.getElem_toArray, List.getElem_cons_zero, List.getElem_cons_succ]
  refine wpAnyH_take (i := 3) (v := .pointer (some ⟨T i, 2, none⟩)) rfl (by kernel_rfl) (by kernel_rfl) (by kernel_rfl) (fun _ _ _ h => h) (Or.inl ⟨by rfl, fun w hSw => ?_⟩) hHeld ?_
  · first | rfl | go_simp
  simp only [Act.put, List.setIfInBounds_toArray, List.set_cons_zero, List.set_cons_succ, List.getElem_toArray, List.getElem_cons_zero, List.getElem_cons_succ]
  refine wpAnyH_take (i := 4) (v := .slice ia li ic) rfl (by kernel_rfl) (by kernel_rfl) (by kernel_rfl) (fun _ _ _ h => h) (Or.inl ⟨by rfl, fun w hSw => ?_⟩) hHeld ?_
  · have q0 := CI.out w hSw; first | rfl | go_simp
  simp only [Act.put, List.setIfInBounds_toArray, List.set_cons_zero, List.set_cons_succ, List.getElem_toArray, List.getElem_cons_zero, List.getElem_cons_succ]
  refine wpAnyH_take (i := 5) (v := .pointer (some ⟨w.heap.size, 1, none⟩)) rfl (by kernel_rfl) (by kernel_rfl) (by kernel_rfl) (fun _ _ _ h => h) (Or.inl ⟨by rfl, fun w hSw => ?_⟩) hHeld ?_
  · first | rfl | go_simp
  simp only [Act.put, List.setIfInBounds_toArray, List.set_cons_zero, List.set_cons_succ, List.getElem_toArray, List.getElem_cons_zero, List.getElem_cons_succ]
  refine wpAnyH_take (i := 6) (v := ptr (T j)) rfl (by kernel_rfl) (by kernel_rfl) (by kernel_rfl) (fun _ _ _ h => h) (Or.inl ⟨by rfl, fun w hSw => ?_⟩) hHeld ?_
  · have q0 := C1.out w hSw; first | rfl | go_simp
  simp only [Act.put, List.setIfInBounds_toArray, List.set_cons_zero, List.set_cons_succ, List.getElem_toArray, List.getElem_cons_zero, List.getElem_cons_succ]
  refine wpAnyH_take (i := 7) (v := ptr (T j)) rfl (by kernel_rfl) (by kernel_rfl) (by kernel_rfl) (fun _ _ _ h => h) (Or.inl ⟨by rfl, fun w hSw => ?_⟩) hHeld ?_
  · first | rfl | go_simp
  simp only [Act.put, List.setIfInBounds_toArray, List.set_cons_zero, List.set_cons_succ, List.getElem_toArray, List.getElem_cons_zero, List.getElem_cons_succ]
  refine wpAnyH_take (i := 8) (v := .pointer (some ⟨T j, 2, none⟩)) rfl (by kernel_rfl) (by kernel_rfl) (by kernel_rfl) (fun _ _ _ h => h) (Or.inl ⟨by rfl, fun w hSw => ?_⟩) hHeld ?_
  · first | rfl | go_simp
  simp only [Act.put, List.setIfInBounds_toArray, List.set_cons_zero, List.set_cons_succ, List.getElem_toArray, List.getElem_cons_zero, List.getElem_cons_succ]
  refine wpAnyH_take (i := 9) (v := .slice ja lj jc) rfl (by kernel_rfl) (by kernel_rfl) (by kernel_rfl) (fun _ _ _ h => h) (Or.inl ⟨by rfl, fun w hSw => ?_⟩) hHeld ?_
  · have q0 := CJ.out w hSw; first | rfl | go_simp
  simp only [Act.put, List.setIfInBounds_toArray, List.set_cons_zero, List.set_cons_succ, List.getElem_toArray, List.getElem_cons_zero, List.getElem_cons_succ]
  refine wpAnyH_take (i := 13) (v := .int .i64 0) rfl (by kernel_rfl) (by kernel_rfl) (by kernel_rfl) (fun _ _ _ h => h) (Or.inl ⟨by rfl, fun w hSw => ?_⟩) hHeld ?_
  · first | rfl | go_simp
  simp only [Act.put, List.setIfInBounds_toArray, List.set_cons_zero, List.set_cons_succ, List.getElem_toArray, List.getElem_cons_zero, List.getElem_cons_succ]
  refine wpAnyH_ready (rs := [10]) (by kernel_rfl) (by simp) ?_
  refine AllReadyH.cons rfl (fun KK hK' => ?_) AllReadyH.nil
  go_simp
  obtain ⟨w2, hw2⟩ : ∃ w2, w2 = wd.alloc (.cells #[.slice ia li ic, .slice ja lj jc] 36) := ⟨_, rfl⟩
  have hb2 : Below wd.heap.size wd w2 := by rw [hw2]; exact (Below.refl _ _).alloc (Nat.le_refl _) _
  obtain ⟨gb, hgb⟩ : ∃ gb, wd.heap.size = gb := ⟨_, rfl⟩
  have HG2 : Hid (w2.heap[gb]? = some (.cells #[.slice ia li ic, .slice ja lj jc] 36 (0, 0))) := by rw [hw2, ← hgb]; exact heap_alloc_new _ _
  have hs2 : Below w1.heap.size w1 w2 := grw hHeld hb2
  rw [← hw2]
  try rw [hgb]
  clear hw2 hgb
  refine hK'.out _ _ hs2 (fun hHeld => ?_)
  clear hK'
  refine wpAnyH_ready (rs := [11]) (by kernel_rfl) (by simp) ?_
  refine AllReadyH.cons rfl (fun KK hK' => ?_) AllReadyH.nil
  have hcall := concat_any 2 gb (two (.slice ia li ic) (.slice ja lj jc)) (two li lj) (two (K i) (K j)) w2 (Nat.le_refl _) (show ∀ q, _ from fun q hq => by
      rcases (show q = 0 ∨ q = 1 by omega) with rfl | rfl
      · exact hli
      · exact hlj) (show ∀ q, _ from fun q hq => by
      obtain ⟨q0, q1, _⟩ := two_at HG2.out
      rcases (show q = 0 ∨ q = 1 by omega) with rfl | rfl
      · exact q0
      · exact q1) (show ∀ q, _ from fun q hq => by
      rcases (show q = 0 ∨ q = 1 by omega) with rfl | rfl
      · exact (Only.below (P := fun _ => False) hs2).owns TI2.out (fun _ _ _ h => h)
      · exact (Only.below (P := fun _ => False) hs2).owns TJ2.out (fun _ _ _ h => h))
  have hcat : cat (two li lj) (two (K i) (K j)) 2 = all := by
    rw [← HAL.out, HLI.out, HLJ.out]
    show ([] ++ keys (K i) li) ++ keys (K j) lj = _
    rw [List.nil_append]
  rw [hcat] at hcall
  go_simp
  refine hcall.mono ?_
  clear hcall hcat
  rintro e w3 ⟨⟨av, rfl, hown3⟩, hb3⟩
  have hs3 : Below w1.heap.size w1 w3 := grw hHeld hb3
  obtain ⟨al, HALn⟩ : ∃ al, Hid (all.length = al) := ⟨_, rfl⟩
  rw [HALn.out] at hown3
  obtain ⟨aa, ac, rfl, _⟩ := owns_form hown3
  obtain ⟨aa2, ac2, aB, ea, hva⟩ := owns_rowV HALn.out hown3
  rw [HALn.out] at ea hva
  cases ea
  have HVA : Hid (ValsAt w3 aa al aB 0 (lsF all)) := hva
  have HB3 : Hid (Below w.heap.size w w3) := grw HB1.out hs3
  have HT3 : Hid (Tbs w3 n T M at_ L K X) := HT1.out.below hs3
  have HC3 : Hid (w3.heap[w.heap.size]? = some (.cells #[ptr (T i), ptr (T j)] 87 (0, 0))) := blkB HC1.out hs3
  have HR3 : Hid (ValB w3 (w.heap.size + 1) zeroV) := HR1.out.below hs3
  have HS3 : Hid (w.heap.size + 2 ≤ w3.heap.size) := show _ ≤ _ by have := hs3.size; have := HS1.out; omega
  refine hK'.out _ _ hs3 (fun hHeld => ?_)
  clear hK' hb3 hown3 hva hb2
  refine wpAnyH_take (i := 12) (v := .int .i64 (al : Nat)) rfl (by kernel_rfl) (by kernel_rfl) (by kernel_rfl) (fun _ _ _ h => h) (Or.inl ⟨by rfl, fun w hSw => ?_⟩) hHeld ?_
  · first | rfl | go_simp
  simp only [Act.put, List.setIfInBounds_toArray, List.set_cons_zero, List.set_cons_succ, List.getElem_toArray, List.getElem_cons_zero, List.getElem_cons_succ]
  refine wpAnyH_done (by kernel_rfl) ?_ _
  have hal : al ≤ 200 := by rw [← HALn.out]; exact HALL.out
  clear hHeld hs3 hs2 HG2 CI CJ C0 C1 TI2 TJ2 HT1 HC1 HR1
  go_wp2
  obtain ⟨b3, HB3e⟩ : ∃ b, Hid (w3.heap.size = b) := ⟨_, rfl⟩
  go_loopw [4, 20] (fun kv ii wr => ∃ c : Nat, c ≤ al ∧ ii = .int .i64 c ∧ Hid (wr.ownsRow w3.heap.size 24 4 kv ((all.take c).filter P).length (keyCells ((all.take c).filter P))) ∧ Hid (Below w3.heap.size w3 wr)) (fun _ ii _ => al - (intOf ii).toNat)
  case atStart => exact ⟨0, Nat.zero_le _, rfl, World.ownsRow_nil _ _ _ _, Below.refl _ _⟩
  case round =>
    obtain ⟨c, hc, rfl, HO, HB⟩ := hrel
    obtain ⟨oa, oc, rfl, _⟩ := owns_form HO.out
    obtain ⟨ml, HML⟩ : ∃ ml, Hid (((all.take c).filter P).length = ml) := ⟨_, rfl⟩
    have hml : ml ≤ 200 := by
      rw [← HML.out]
      have h1 := List.length_filter_le P (all.take c)
      rw [List.length_take, HALn.out] at h1
      omega
    rw [HML.out] at HO ⊢
    have hsr := HB.out.size
    by_cases hlt : c < al
    · obtain ⟨k, HK⟩ : ∃ k, Hid (lsF all c = k) := ⟨_, rfl⟩
      obtain rfl := HVA.out.top (by omega)
      obtain ⟨e0', e1', e2', e3'⟩ := (HVA.out.below HB.out).cells hlt
      rw [HK.out] at e0' e1' e2' e3'
      simp only [Nat.zero_add] at e0' e1' e2' e3'
      have hbc : (0 : Int) ≤ (c : Int) ∧ (c : Int) < (al : Int) := by omega
      go_wp2
      obtain ⟨wk, hwk⟩ : ∃ wk, wk = wr.alloc (.cells #[.int .i64 k.k, .int .i64 k.n, .string k.s, .int .i64 k.a] 24) := ⟨_, rfl⟩
      have hbk : Below wr.heap.size wr wk := by rw [hwk]; exact (Below.refl _ _).alloc (Nat.le_refl _) _
      have HKb : Hid (ValB wk wr.heap.size k) := by rw [hwk]; exact heap_alloc_new _ _
      rw [← hwk]
      obtain ⟨qk, hqk⟩ : ∃ qk, wr.heap.size = qk := ⟨_, rfl⟩
      rw [hqk] at HKb ⊢
      have HBk : Hid (Below w3.heap.size w3 wk) := HB.out.trans (hbk.mono hsr)
      have HOk : Hid (wk.ownsRow w3.heap.size 24 4 (.slice oa ml oc) ml (keyCells ((all.take c).filter P))) := (Only.below (P := fun _ => False) hbk).owns HO.out (fun _ _ _ h => h)
      clear hwk hbk e0' e1' e2' e3' hqk HO HB hsr
      have HTk : Hid (Tbs wk n T M at_ L K X) := HT3.out.below HBk.out
      obtain ⟨c0, c1, _⟩ := two_at (blkB HC3.out HBk.out)
      have C0 : Hid (∀ w', Below wk.heap.size wk w' → w'.cell? ⟨w.heap.size, 0, none⟩ = some (ptr (T i))) := cellB c0
      have C1 : Hid (∀ w', Below wk.heap.size wk w' → w'.cell? ⟨w.heap.size, 1, none⟩ = some (ptr (T j))) := cellB c1
      obtain ⟨f0, f1, f2, f3, _⟩ := cells4 HKb.out
      have KC : Hid (∀ w', Below wk.heap.size wk w' → w'.cell? ⟨qk, 0, none⟩ = some (.int .i64 k.k) ∧ w'.cell? ⟨qk, 1, none⟩ = some (.int .i64 k.n) ∧ w'.cell? ⟨qk, 2, none⟩ = some (.string k.s) ∧ w'.cell? ⟨qk, 3, none⟩ = some (.int .i64 k.a)) := show ∀ _, _ from fun w' hb => ⟨cellB f0 w' hb, cellB f1 w' hb, cellB f2 w' hb, cellB f3 w' hb⟩
      clear f0 f1 f2 f3 c0 c1
      obtain ⟨x, HX⟩ : ∃ x, Hid (atKey (L i) (K i) (X i) k = x) := ⟨_, rfl⟩
      obtain ⟨y, HY⟩ : ∃ y, Hid (atKey (L j) (K j) (X j) k = y) := ⟨_, rfl⟩
      have hxv : isV n x = true := by rw [← HX.out]; exact isV_at (HOT.out i hi) k
      have hyv : isV n y = true := by rw [← HY.out]; exact isV_at (HOT.out j hj) k
      obtain ⟨bp, hbp⟩ : ∃ bp, (!(x.k == 4 && y.k == 4) && !(alike T x y)) = bp := ⟨_, rfl⟩
      have HBP : Hid (P k = bp) := by
        show _ = _
        rw [HPd.out]
        show (!((atKey (L i) (K i) (X i) k).k == 4 && (atKey (L j) (K j) (X j) k).k == 4) && !(alike T (atKey (L i) (K i) (X i) k) (atKey (L j) (K j) (X j) k))) = bp
        rw [HX.out, HY.out]
        exact hbp
      obtain ⟨xt, xw, hxi⟩ := ifv_form T x
      obtain ⟨yt, yw, hyi⟩ := ifv_form T y
      have CV1 : Hid (∀ w', Below wk.heap.size wk w' → Calls Try.prog 53 #[.iface 63 (ptr (T i)), .agg #[.int .i64 k.k, .int .i64 k.n, .string k.s, .int .i64 k.a]] w' fun e w'' => e = .returned (.iface xt xw) ∧ Below w'.heap.size w' w'') := show ∀ _, _ from fun w' hb => by
        have h := valueAt_tbs hi (fun a b ha hb hne => Vl.OkT.once (HOT.out i hi) ha hb hne) k w' (HTk.out.below hb)
        rw [HX.out, hxi] at h
        exact h
      have CV2 : Hid (∀ w', Below wk.heap.size wk w' → Calls Try.prog 53 #[.iface 63 (ptr (T j)), .agg #[.int .i64 k.k, .int .i64 k.n, .string k.s, .int .i64 k.a]] w' fun e w'' => e = .returned (.iface yt yw) ∧ Below w'.heap.size w' w'') := show ∀ _, _ from fun w' hb => by
        have h := valueAt_tbs hj (fun a b ha hb hne => Vl.OkT.once (HOT.out j hj) ha hb hne) k w' (HTk.out.below hb)
        rw [HY.out, hyi] at h
        exact h
      have CPT : Hid (∀ w', Below wk.heap.size wk w' → Calls Try.prog 83 #[.iface xt xw, .iface yt yw] w' fun e w'' => e = .returned (.bool bp) ∧ Below w'.heap.size w' w'') := show ∀ _, _ from fun w' hb => by
        have h := part_any T hxv hyv w' (HTk.out.below hb).isB
        rw [hbp, hxi, hyi] at h
        exact h
      clear hbp hxi hyi hxv hyv
      refine wp_region_held_drew (S := fun y => Below wk.heap.size wk y) (by kernel_rfl) (Below.refl _ _).drew (fun hHeld => ?_)
      generalize wk.drew = wd at hHeld ⊢
      refine wpAnyH_take (i := 0) (v := .pointer (some ⟨w.heap.size, 0, none⟩)) rfl (by kernel_rfl) (by kernel_rfl) (by kernel_rfl) (fun _ _ _ h => h) (Or.inl ⟨by rfl, fun w hSw => ?_⟩) hHeld ?_
      · first | rfl | go_simp
      simp only [Act.put, List.setIfInBounds_toArray, List.set_cons_zero, List.set_cons_succ, List.getElem_toArray, List.getElem_cons_zero]
      refine wpAnyH_take (i := 1) (v := ptr (T i)) rfl (by kernel_rfl) (by kernel_rfl) (by kernel_rfl) (fun _ _ _ h => h) (Or.inl ⟨by rfl, fun w hSw => ?_⟩) hHeld ?_
      · have q0 := C0.out w hSw; first | rfl | go_simp
      simp only [Act.put, List.setIfInBounds_toArray, List.set_cons_zero, List.set_cons_succ, List.getElem_toArray, List.getElem_cons_zero, List.getElem_cons_succ]
      refine wpAnyH_take (i := 2) (v := .iface 63 (ptr (T i))) rfl (by kernel_rfl) (by kernel_rfl) (by kernel_rfl) (fun _ _ _ h => h) (Or.inl ⟨by rfl, fun w hSw => ?_⟩) hHeld ?_
      · first | rfl | go_simp
      simp only [Act.put, List.setIfInBounds_toArray, List.set_cons_zero, List.set_cons_succ, List.getElem_toArray, List.getElem_cons_zero, List.getElem_cons_succ]
      refine wpAnyH_take (i := 3) (v := .agg #[.int .i64 k.k, .int .i64 k.n, .string k.s, .int .i64 k.a]) rfl (by kernel_rfl) (by kernel_rfl) (by kernel_rfl) (fun _ _ _ h => h) (Or.inl ⟨by rfl, fun w hSw => ?_⟩) hHeld ?_
      · obtain ⟨q0, q1, q2, q3⟩ := KC.out w hSw; first | rfl | go_simp
      simp only [Act.put, List.setIfInBounds_toArray, List.set_cons_zero, List.set_cons_succ, List.getElem_toArray, List.getElem_cons_zero, List.getElem_cons_succ]
      refine wpAnyH_take (i := 5) (v := .pointer (some ⟨w.heap.size, 1, none⟩)) rfl (by kernel_rfl) (by kernel_rfl) (by kernel_rfl) (fun _ _ _ h => h) (Or.inl ⟨by rfl, fun w hSw => ?_⟩) hHeld ?_
      · first | rfl | go_simp
      simp only [Act.put, List.setIfInBounds_toArray, List.set_cons_zero, List.set_cons_succ, List.getElem_toArray, List.getElem_cons_zero, List.getElem_cons_succ]
      refine wpAnyH_take (i := 6) (v := ptr (T j)) rfl (by kernel_rfl) (by kernel_rfl) (by kernel_rfl) (fun _ _ _ h => h) (Or.inl ⟨by rfl, fun w hSw => ?_⟩) hHeld ?_
      · have q0 := C1.out w hSw; first | rfl | go_simp
      simp only [Act.put, List.setIfInBounds_toArray, List.set_cons_zero, List.set_cons_succ, List.getElem_toArray, List.getElem_cons_zero, List.getElem_cons_succ]
      refine wpAnyH_take (i := 7) (v := .iface 63 (ptr (T j))) rfl (by kernel_rfl) (by kernel_rfl) (by kernel_rfl) (fun _ _ _ h => h) (Or.inl ⟨by rfl, fun w hSw => ?_⟩) hHeld ?_
      · first | rfl | go_simp
      simp only [Act.put, List.setIfInBounds_toArray, List.set_cons_zero, List.set_cons_succ, List.getElem_toArray, List.getElem_cons_zero, List.getElem_cons_succ]
      refine wpAnyH_take (i := 8) (v := .agg #[.int .i64 k.k, .int .i64 k.n, .string k.s, .int .i64 k.a]) rfl (by kernel_rfl) (by kernel_rfl) (by kernel_rfl) (fun _ _ _ h => h) (Or.inl ⟨by rfl, fun w hSw => ?_⟩) hHeld ?_
      · obtain ⟨q0, q1, q2, q3⟩ := KC.out w hSw; first | rfl | go_simp
      simp only [Act.put, List.setIfInBounds_toArray, List.set_cons_zero, List.set_cons_succ, List.getElem_toArray, List.getElem_cons_zero, List.getElem_cons_succ]
      refine wpAnyH_ready (rs := [4]) (by kernel_rfl) (by simp) ?_
      refine AllReadyH.cons rfl (fun KK hK' => ?_) AllReadyH.nil
      have hcall := CV1.out _ hHeld
      go_simp
      refine hcall.mono ?_
      clear hcall
      rintro e w5 ⟨rfl, hbw5⟩
      have hsw5 : Below wk.heap.size wk w5 := grw hHeld hbw5
      refine hK'.out _ _ hsw5 (fun hHeld => ?_)
      clear hK' hbw5
      refine wpAnyH_ready (rs := [9]) (by kernel_rfl) (by simp) ?_
      refine AllReadyH.cons rfl (fun KK hK' => ?_) AllReadyH.nil
      have hcall := CV2.out _ hHeld
      go_simp
      refine hcall.mono ?_
      clear hcall
      rintro e w6 ⟨rfl, hbw6⟩
      have hsw6 : Below wk.heap.size wk w6 := grw hHeld hbw6
      refine hK'.out _ _ hsw6 (fun hHeld => ?_)
      clear hK' hbw6
      refine wpAnyH_ready (rs := [10]) (by kernel_rfl) (by simp) ?_
      refine AllReadyH.cons rfl (fun KK hK' => ?_) AllReadyH.nil
      have hcall := CPT.out _ hHeld
      go_simp
      refine hcall.mono ?_
      clear hcall
      rintro e w7 ⟨rfl, hbw7⟩
      have hsw7 : Below wk.heap.size wk w7 := grw hHeld hbw7
      refine hK'.out _ _ hsw7 (fun hHeld => ?_)
      clear hK' hbw7
      refine wpAnyH_done (by kernel_rfl) ?_ _
      have HB7 : Hid (Below w3.heap.size w3 w7) := grw HBk.out hsw7
      have HO7 : Hid (w7.ownsRow w3.heap.size 24 4 (.slice oa ml oc) ml (keyCells ((all.take c).filter P))) := (Only.below (P := fun _ => False) hsw7).owns HOk.out (fun _ _ _ h => h)
      have HK7 : Hid (ValB w7 qk k) := HKb.out.below hsw7
      have HFS : Hid ((all.take (c + 1)).filter P = if bp = true then (all.take c).filter P ++ [k] else (all.take c).filter P) := by
        show _ = _
        rw [filt_succ all P c (by rw [HALn.out]; exact hlt), HK.out, HBP.out]
      clear hHeld hsw5 hsw6 hsw7 CV1 CV2 CPT C0 C1 KC HTk HBk HOk HKb
      cases bp
      · have HO8 : Hid (w7.ownsRow w3.heap.size 24 4 (.slice oa ml oc) ((all.take (c + 1)).filter P).length (keyCells ((all.take (c + 1)).filter P))) := by
          rw [HFS.out, if_neg (by simp), HML.out]
          exact HO7.out
        go_wp2
        go_roundw
        case rel => exact ⟨c + 1, by omega, by go_num, HO8, HB7⟩
        case measure => simp [intOf]; omega
      · obtain ⟨f0, f1, f2, f3, _⟩ := cells4 HK7.out
        have hs7 := HB7.out.size
        go_wp2_with (at_builtin; refine wpList_append_lies _ (by rfl) (.tmp 35) (.tmp 37) 36 (by rfl) w3.heap.size 24 iv (.agg #[.int .i64 0, .int .i64 0, .string ⟨#[]⟩, .int .i64 0]) 4 40 Try.underlying36 hiv hz0 hz1 hz2 (by rfl) (by omega) (.slice oa ml oc) ml (keyCells ((all.take c).filter P)) (by rfl) (HO7.out.alloc _) ⟨w7.heap.size, 0, none⟩ 1 1 [.int .i64 k.k, .int .i64 k.n, .string k.s, .int .i64 k.a] (by rfl) (by rfl) ?c1 ?c2 (by omega) ?c3 ?c4 ?c5 (w7.heap.size + 1) ?c6 ?_)
        try case c1 => exact World.news_of_block (heap_alloc_new w7 _)
        case c2 => exact ⟨rfl, rfl, rfl, rfl⟩
        case c3 => unfold maxLen; omega
        case c4 => omega
        case c5 => omega
        try case c6 => simp
        intro g2 cap w8 hown8 hgrow8 hat8 hlt8
        have hb8 : Below w3.heap.size (w7.alloc (.cells #[.int .i64 k.k, .int .i64 k.n, .string k.s, .int .i64 k.a] 24)) w8 := below_grown (HO7.out.alloc _) hgrow8 (by simp; omega)
        have HB8 : Hid (Below w3.heap.size w3 w8) := (HB7.out.alloc HB7.out.size _).trans hb8
        have HO8 : Hid (w8.ownsRow w3.heap.size 24 4 (.slice (some ⟨g2, 0, none⟩) (ml + 1) cap) ((all.take (c + 1)).filter P).length (keyCells ((all.take (c + 1)).filter P))) := by
          rw [HFS.out, if_pos (by simp), keyCells_snoc, List.length_append, HML.out]
          exact hown8
        clear hown8 hgrow8 hat8 hlt8 hb8 f0 f1 f2 f3
        go_wp2
        go_roundw
        case rel => exact ⟨c + 1, by omega, by go_num, HO8, HB8⟩
        case measure => simp [intOf]; omega
    · obtain rfl : al = c := by omega
      have HFA : Hid ((all.take al).filter P = all.filter P) := by
        show _ = _
        rw [List.take_of_length_le (by rw [HALn.out]; exact Nat.le_refl _)]
      rw [HFA.out] at HO HML
      have HBr : Hid (Below w.heap.size w wr) := grw HB3.out HB.out
      have HRr : Hid (ValB wr (w.heap.size + 1) zeroV) := HR3.out.below HB.out
      by_cases h0 : ml = 0
      · have he : ((ml : Int) == 0) = true := by simp [h0]
        have HNO : Hid (all.filter P = []) := List.length_eq_zero_iff.1 (HML.out.trans h0)
        clear h0
        obtain ⟨r0, r1, r2, r3, rz⟩ := cells4 HRr.out
        go_wp2
        obtain ⟨q0, q1, q2, q3, _⟩ := cells4 (put4r HRr.out (.int .i64 0) (.int .i64 0) (.string ⟨#[]⟩) (.int .i64 0))
        refine bodyPost_ret (v := .tuple #[vAgg zeroV, .bool false]) (by simp [results, Try.results45, go_sem, q0, q1, q2, q3, zeroV]) rfl ⟨Or.inl ⟨HNO.out, rfl⟩, ?_⟩
        exact HBr.out.trans (set4_below.mono (by omega))
      · have he : ((ml : Int) == 0) = false := by simp [h0]
        obtain ⟨ra, rc, rB, er, hvr⟩ := owns_rowV HML.out HO.out
        rw [HML.out] at er hvr
        cases er
        obtain rfl := hvr.top (by omega)
        have HMK : Hid (∀ c, c < ml → isK (lsF (all.filter P) c) = true) := show ∀ c, _ from fun c hc => by
          have hcl : c < (all.filter P).length := by rw [HML.out]; exact hc
          have hm : lsF (all.filter P) c ∈ all.filter P := by
            unfold lsF
            rw [List.getD_eq_getElem?_getD, List.getElem?_eq_getElem hcl]
            exact List.getElem_mem _
          exact HALK.out _ (List.mem_filter.1 hm).1
        have hmn := minFunc_any rB ml oc (lsF (all.filter P)) wr (by omega) (by omega) HMK hvr
        clear hvr
        go_wp2_with fail
        refine hmn.mono ?_
        clear hmn
        rintro e w9 ⟨⟨k, rfl, hke, hka⟩, hb9⟩
        have HKE : Hid (k ∈ all.filter P ∧ ∀ x ∈ all.filter P, less x k = false) := by
          refine ⟨?_, fun x hx => ?_⟩
          · obtain ⟨q, hq, rfl⟩ := hke
            have hcl : q < (all.filter P).length := by rw [HML.out]; exact hq
            unfold lsF
            rw [List.getD_eq_getElem?_getD, List.getElem?_eq_getElem hcl]
            exact List.getElem_mem _
          · obtain ⟨q, hq, rfl⟩ := List.mem_iff_getElem.1 hx
            have := hka q (by rw [← HML.out]; exact hq)
            unfold lsF at this
            rw [List.getD_eq_getElem?_getD, List.getElem?_eq_getElem hq] at this
            exact this
        have HB9 : Hid (Below w.heap.size w w9) := grw HBr.out hb9
        have HR9 : Hid (ValB w9 (w.heap.size + 1) zeroV) := HRr.out.below hb9
        clear hke hka hb9
        obtain ⟨r0, r1, r2, r3, rz⟩ := cells4 HR9.out
        go_wp2
        obtain ⟨q0, q1, q2, q3, _⟩ := cells4 (HR9.out.put k)
        refine bodyPost_ret (v := .tuple #[vAgg k, .bool true]) (by simp [results, Try.results45, go_sem, q0, q1, q2, q3]) rfl ⟨Or.inr ⟨k, rfl, HKE.out.1, HKE.out.2⟩, ?_⟩
        exact HB9.out.trans (set4_below.mono (by omega))

end Go.Proofs.Ytgflalfiopnmnaa
