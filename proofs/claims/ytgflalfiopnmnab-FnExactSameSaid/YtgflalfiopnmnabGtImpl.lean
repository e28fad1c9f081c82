import Derived.Test.YtgflalfiopnmnabGtSpec2
namespace Go.Proofs.Ytgflalfiopnmnab
open Go.RowKit Vl

/-- What a held value says of itself is what it was made of. -/
theorem as_any {n : Nat} {v : V} (hv : isV n v = true) (Tt : Nat → Nat) (w : World) (hT : ∀ j, j < n → w.cell? ⟨Tt j, 0, none⟩ = some (.int .i64 j)) :
    ∃ (t : TypeId) (y : Value) (F : Nat), ifv Tt v = .iface t y ∧ (∀ w f, (method (f + 3) t y "loop.example/cloth/impl.asVal").run Try.prog w = .ok (F, y) w) ∧ (∀ args w, (callFunc F args).run Try.prog w = .ok (.enter F args) w) ∧
      Calls Try.prog F #[y] w fun e w' => e = .returned (vAgg v) ∧ Below w.heap.size w w' := by
  obtain ⟨k, m, s, a⟩ := v
  by_cases k0 : k = 0
  · subst k0
    simp [isV] at hv
    obtain ⟨rfl, hs, rfl⟩ := hv
    obtain rfl := bytes_empty hs
    exact ⟨_, _, _, rfl, meth_0, Try.call152, asNil_any w⟩
  by_cases k1 : k = 1
  · subst k1
    simp [isV] at hv
    obtain ⟨hm, hs, rfl⟩ := hv
    obtain rfl := bytes_empty hs
    refine ⟨_, _, _, rfl, meth_1 _, Try.call149, (asBool_any _ w).mono ?_⟩
    rintro e w' ⟨rfl, h⟩
    refine ⟨?_, h⟩
    rcases hm with rfl | rfl <;> rfl
  by_cases k2 : k = 2
  · subst k2
    simp [isV] at hv
    obtain ⟨hs, rfl⟩ := hv
    obtain rfl := bytes_empty hs
    exact ⟨_, _, _, rfl, meth_2 _, Try.call150, asInt_any m w⟩
  by_cases k3 : k = 3
  · subst k3
    simp [isV] at hv
    obtain ⟨rfl, rfl, _⟩ := hv
    exact ⟨_, _, _, rfl, meth_3 _, Try.call151, asText_any s w⟩
  by_cases k4 : k = 4
  · subst k4
    simp [isV] at hv
    obtain ⟨rfl, hs, ha0, ha1⟩ := hv
    obtain rfl := bytes_empty hs
    refine ⟨_, _, _, rfl, meth_4 _, Try.call148, asTab_any _ a w ?_⟩
    have := hT a.toNat (by omega)
    rw [this]
    congr 2
    omega
  · simp [isV, k0, k1, k2, k3, k4] at hv

set_option maxHeartbeats 1000000 in
set_option maxRecDepth 100000 in
/-- 'valueAt' of a table. -/
theorem valueAt_tab (T M : Nat) (i : Int) (ord : Value) (Tt : Nat → Nat) (K X : Nat → V) (L : Nat) (k : V) (w : World) (HT : Hid (TabB w T M i ord)) (HM : Hid (MapIs w M (mp Tt K X L))) :
    Calls Try.prog 60 #[.iface 92 (.pointer (some ⟨T, 0, none⟩)), .agg #[.int .i64 k.k, .int .i64 k.n, .string k.s, .int .i64 k.a]] w fun e w' => e = .returned (ifv Tt (atKey L K X k)) ∧ Below w.heap.size w w' := by
  obtain ⟨w0, hw0⟩ : ∃ w0, w0 = w.alloc (.cells #[.int .i64 k.k, .int .i64 k.n, .string k.s, .int .i64 k.a] 29) := ⟨_, rfl⟩
  have HB : Hid (Below w.heap.size w w0) := by rw [hw0]; exact (Below.refl _ _).alloc (Nat.le_refl _) _
  have HK : Hid (ValB w0 w.heap.size k) := by rw [hw0]; exact heap_alloc_new _ _
  have HT0 : Hid (TabB w0 T M i ord) := (HB.out.block T (blk_lt HT.out)).trans HT.out
  have HM0 : Hid (MapIs w0 M (mp Tt K X L)) := HM.out.same (HB.out.block M HM.out.lt)
  have hta : ∀ w, (Instr.typeAssert (.iface 92 (.pointer (some ⟨T, 0, none⟩))) 67 92 true).run Try.prog w = .ok (.tuple #[.pointer (some ⟨T, 0, none⟩), .bool true]) w := fun _ => by kernel_rfl
  have hhk := hasKey_any T M i ord (mp Tt K X L) k w0 HT0 HM0
  have HR : Hid ((findV k (mp Tt K X L)).getD (ifv Tt zeroV) = ifv Tt (atKey L K X k)) := find_mp Tt K X L k
  obtain ⟨c0, c1, c2, c3, _⟩ := cells4 HK.out
  rw [hw0] at c0 c1 c2 c3
  go_enter Try.func60, Try.ntmps60
  go_wp2_with fail
  rw [← hw0]
  refine hhk.mono ?_
  clear hhk hw0 c0 c1 c2 c3
  rintro e w1 ⟨rfl, hb1⟩
  have HT1 : Hid (TabB w1 T M i ord) := (hb1.block T (blk_lt HT0.out)).trans HT0.out
  have HM1 : Hid (MapIs w1 M (mp Tt K X L)) := HM0.out.same (hb1.block M HM0.out.lt)
  have HK1 : Hid (ValB w1 w.heap.size k) := HK.out.below hb1
  have HB1 : Hid (Below w.heap.size w w1) := grw HB.out hb1
  clear hb1 HT0 HM0 HK HB HT HM
  cases hf : findV k (mp Tt K X L) with
  | none =>
    rw [hf] at HR
    have HR' : Hid (ifv Tt (atKey L K X k) = .iface 152 (.agg #[])) := HR.out.symm
    clear HR hf
    go_wp2
    go_ret
    exact ⟨by rw [HR'.out]; rfl, HB1.out⟩
  | some x =>
    rw [hf] at HR
    have HR' : Hid (ifv Tt (atKey L K X k) = x) := HR.out.symm
    have m1 : (Instr.lookup 93 (.map (some M)) (.agg #[.int .i64 k.k, .int .i64 k.n, .string k.s, .int .i64 k.a]) false).run Try.prog w1.drew = .ok x w1.drew := by
      have := ((show MapIs w1.drew M (mp Tt K X L) from HM1.out).lookup k).2
      rw [hf] at this
      exact this
    clear HR hf
    obtain ⟨_, t1, _, _⟩ := HT1.out.cells
    obtain ⟨c0, c1, c2, c3, _⟩ := cells4 HK1.out
    go_wp2
    go_region_held3 (fun w' => w'.cell? ⟨T, 1, none⟩ = some (.map (some M)) ∧ w'.cell? ⟨w.heap.size, 0, none⟩ = some (.int .i64 k.k) ∧ w'.cell? ⟨w.heap.size, 1, none⟩ = some (.int .i64 k.n) ∧ w'.cell? ⟨w.heap.size, 2, none⟩ = some (.string k.s) ∧ w'.cell? ⟨w.heap.size, 3, none⟩ = some (.int .i64 k.a) ∧ (Instr.lookup 93 (.map (some M)) (.agg #[.int .i64 k.k, .int .i64 k.n, .string k.s, .int .i64 k.a]) false).run Try.prog w' = .ok x w')
      (first | exact ⟨t1, c0, c1, c2, c3, m1⟩)
      (fail)
    clear m1 c0 c1 c2 c3 t1
    go_wp2
    go_ret
    exact ⟨by rw [HR'.out]; rfl, HB1.out.drew⟩

set_option maxHeartbeats 1000000 in
theorem valueAt_is (t : TypeId) (y z : Value) (k : V) (w : World) (hta : ∀ w, (Instr.typeAssert (.iface t y) 67 92 true).run Try.prog w = .ok (.tuple #[z, .bool false]) w) :
    Calls Try.prog 60 #[.iface t y, .agg #[.int .i64 k.k, .int .i64 k.n, .string k.s, .int .i64 k.a]] w fun e w' => e = .returned (.iface 152 (.agg #[])) ∧ Below w.heap.size w w' := by
  go_enter Try.func60, Try.ntmps60
  go_wp2
  go_ret
  exact ⟨rfl, (Below.refl _ _).alloc (Nat.le_refl _) _⟩

/-- 'valueAt' of what is no table. -/
theorem valueAt_no {n : Nat} {v : V} (hv : isV n v = true) (h4 : v.k ≠ 4) (Tt : Nat → Nat) (k : V) (w : World) :
    Calls Try.prog 60 #[ifv Tt v, .agg #[.int .i64 k.k, .int .i64 k.n, .string k.s, .int .i64 k.a]] w fun e w' => e = .returned (ifv Tt zeroV) ∧ Below w.heap.size w w' := by
  obtain ⟨q, m, s, a⟩ := v
  by_cases k0 : q = 0
  · subst k0; exact valueAt_is _ _ (.pointer none) k w (fun _ => by kernel_rfl)
  by_cases k1 : q = 1
  · subst k1; exact valueAt_is _ _ (.pointer none) k w (fun _ => by kernel_rfl)
  by_cases k2 : q = 2
  · subst k2; exact valueAt_is _ _ (.pointer none) k w (fun _ => by kernel_rfl)
  by_cases k3 : q = 3
  · subst k3; exact valueAt_is _ _ (.pointer none) k w (fun _ => by kernel_rfl)
  · have k4 : ¬ q = 4 := h4
    simp [isV, k0, k1, k2, k3, k4] at hv

/-- 'valueAt', a step along a path. -/
theorem valueAt_any {b n : Nat} {v : V} {base L : Nat → Nat} {K X : Nat → Nat → V} (hv : isV n v = true) (k : V) (w : World) (H : Half w b n n base L K X) :
    Calls Try.prog 60 #[ifv (tT b) v, .agg #[.int .i64 k.k, .int .i64 k.n, .string k.s, .int .i64 k.a]] w fun e w' => e = .returned (ifv (tT b) (step L K X v k)) ∧ Below w.heap.size w w' := by
  by_cases h4 : v.k = 4
  · obtain ⟨ha0, ha1⟩ := isV_tab hv h4
    have hf := (H.full v.a.toNat (by omega)).1
    obtain ⟨ord, hT, _⟩ := hf.tab
    have e1 : ifv (tT b) v = .iface 92 (.pointer (some ⟨tT b v.a.toNat, 0, none⟩)) := by
      unfold ifv
      rw [if_neg (by omega), if_neg (by omega), if_neg (by omega), if_neg (by omega)]
    have e2 : step L K X v k = atKey (L v.a.toNat) (K v.a.toNat) (X v.a.toNat) k := by unfold step; rw [if_pos h4]
    rw [e1, e2]
    exact valueAt_tab _ _ _ ord (tT b) _ _ _ k w hT hf.map
  · have e2 : step L K X v k = zeroV := by unfold step; rw [if_neg h4]
    rw [e2]
    exact valueAt_no hv h4 (tT b) k w

set_option maxHeartbeats 1000000 in
set_option maxRecDepth 100000 in
/-- 'impl.Get'. -/
theorem implGet_any (u : V) (pa : Option Addr) (m mc PB PO : Nat) (P : Nat → V) (ta : Option Addr) (n cp TB TO : Nat) (A : Nat → Option Addr) (L C RB RO : Nat → Nat) (K X : Nat → Nat → V) (w : World) (hm : m ≤ 1048576) (hn : n ≤ 1048576) (HS : Hid (Small 1048576 n L K X))
    (HP : Hid (ValsAt w pa m PB PO P)) (HT : Hid (TabsAt w ta n TB TO A L C RB RO K X)) :
    Calls Try.prog 27 #[.agg #[.int .i64 u.k, .int .i64 u.n, .string u.s, .int .i64 u.a, .slice ta n cp], .slice pa m mc] w fun e w' => ((OkG n u L K X ∧ e = .returned (vAgg (lead u L K X P m))) ∨ (¬ OkG n u L K X ∧ e = .returned (vAgg zeroV))) ∧ Below w.heap.size w w' := by
  have A2 : Hid _ := alloc2 w (.cells #[.int .i64 u.k, .int .i64 u.n, .string u.s, .int .i64 u.a, .slice ta n cp] 32) (.cells #[.int .i64 0, .int .i64 0, .string ⟨#[]⟩, .int .i64 0] 29)
  obtain ⟨w0, hw0⟩ : ∃ w0, w0 = (w.alloc (.cells #[.int .i64 u.k, .int .i64 u.n, .string u.s, .int .i64 u.a, .slice ta n cp] 32)).alloc (.cells #[.int .i64 0, .int .i64 0, .string ⟨#[]⟩, .int .i64 0] 29) := ⟨_, rfl⟩
  have P1 : Hid (ValB w0 (w.heap.size + 1) zeroV) := by rw [hw0]; exact A2.out.2.1
  have HB0 : Hid (Below w.heap.size w w0) := by rw [hw0]; exact A2.out.2.2.2
  clear A2
  have hlk := link_any u ta n cp TB TO A L C RB RO K X w0 hn HS (HT.out.below HB0.out)
  go_enter Try.func27, Try.ntmps27
  go_wp2_with fail
  rw [← hw0]
  refine hlk.mono ?_
  clear hlk hw0
  rintro e w1 ⟨hcase, hb1⟩
  have R1 : Hid (ValB w1 (w.heap.size + 1) zeroV) := P1.out.below hb1
  have HB1 : Hid (Below w.heap.size w w1) := grw HB0.out hb1
  clear hb1 P1 HB0
  rcases hcase with ⟨hG, rfl, base, hH⟩ | ⟨hN, rfl⟩
  · have HG : Hid (OkG n u L K X) := hG
    have HH : Hid (Half w1 w0.heap.size n n base L K X) := hH
    obtain ⟨b, hb⟩ : ∃ b, w0.heap.size = b := ⟨_, rfl⟩
    rw [hb] at HH ⊢
    clear hG hH hb
    obtain ⟨xt, xy, hxv⟩ := ifv_form (tT b) u
    have HXV : Hid (ifv (tT b) u = .iface xt xy) := hxv
    rw [HXV.out]
    clear hxv
    obtain ⟨w2, hw2⟩ : ∃ w2, w2 = w1.alloc (.cells #[.iface xt xy, .slice (some ⟨b + 2, 0, none⟩) n n] 70) := ⟨_, rfl⟩
    have HB12 : Hid (Below w1.heap.size w1 w2) := by rw [hw2]; exact (Below.refl _ _).alloc (Nat.le_refl _) _
    have H2 : Hid (Half w2 b n n base L K X) := HH.out.below HB12.out
    have R2 : Hid (ValB w2 (w.heap.size + 1) zeroV) := R1.out.below HB12.out
    have HB2 : Hid (Below w.heap.size w w2) := grw HB1.out HB12.out
    go_wp2
    rw [← hw2]
    clear hw2 HB12 HH R1 HB1
    go_loopw [7, 22] (fun ev ii wr => ∃ i : Nat, i ≤ m ∧ ii = .int .i64 i ∧ ev = ifv (tT b) (lead u L K X P i) ∧ Hid (Half wr b n n base L K X) ∧ Hid (ValB wr (w.heap.size + 1) zeroV) ∧ Hid (Below w.heap.size w wr)) (fun _ ii _ => m - (intOf ii).toNat)
    case atStart => exact ⟨0, Nat.zero_le _, rfl, HXV.out.symm, H2, R2, HB2⟩
    case round =>
      obtain ⟨i, hi, rfl, hev, HHr, HRr, HBr⟩ := hrel
      clear H2 R2 HB2
      by_cases hlt : i < m
      · subst hev
        obtain rfl := HP.out.top (by omega)
        obtain ⟨k0, k1, k2, k3⟩ := (HP.out.below HBr.out).cells hlt
        obtain ⟨wk, hwk⟩ : ∃ wk, wk = wr.alloc (.cells #[.int .i64 (P i).k, .int .i64 (P i).n, .string (P i).s, .int .i64 (P i).a] 29) := ⟨_, rfl⟩
        have HBk : Hid (Below wr.heap.size wr wk) := by rw [hwk]; exact (Below.refl _ _).alloc (Nat.le_refl _) _
        have HHk : Hid (Half wk b n n base L K X) := HHr.out.below HBk.out
        have HRk : Hid (ValB wk (w.heap.size + 1) zeroV) := HRr.out.below HBk.out
        have HBk2 : Hid (Below w.heap.size w wk) := grw HBr.out HBk.out
        have hva := valueAt_any (isV_lead (P := P) HG.out i) (P i) wk HHk.out
        obtain ⟨ev, HEV⟩ : ∃ ev, Hid (ifv (tT b) (lead u L K X P i) = ev) := ⟨_, rfl⟩
        rw [HEV.out] at hva ⊢
        go_wp2_with fail
        rw [← hwk]
        refine hva.mono ?_
        clear hva hwk
        rintro e w3 ⟨rfl, hb3⟩
        have HH3 : Hid (Half w3 b n n base L K X) := HHk.out.below hb3
        have HR3 : Hid (ValB w3 (w.heap.size + 1) zeroV) := HRk.out.below hb3
        have HB3 : Hid (Below w.heap.size w w3) := grw HBk2.out hb3
        obtain ⟨ev2, HEV2⟩ : ∃ ev2, Hid (ifv (tT b) (step L K X (lead u L K X P i) (P i)) = ev2) := ⟨_, rfl⟩
        rw [HEV2.out]
        clear hb3 HHk HRk HBk2 HBk HHr HRr HBr k0 k1 k2 k3
        go_wp2
        go_roundw
        case rel => exact ⟨i + 1, by omega, by go_num, HEV2.out.symm, HH3, HR3, HB3⟩
        case measure => simp [intOf]; omega
      · obtain rfl : i = m := by omega
        obtain ⟨v, HV⟩ : ∃ v, Hid (lead u L K X P i = v) := ⟨_, rfl⟩
        have hiv : isV n v = true := by rw [← HV.out]; exact isV_lead HG.out i
        obtain ⟨t, y, F, hty, hmeth, hcf, hcall⟩ := as_any hiv (tT b) wr HHr.out.tabs.at_
        rw [HV.out, hty] at hev
        subst hev
        clear hiv hty
        go_wp2_with fail
        refine hcall.mono ?_
        clear hcall hmeth hcf
        rintro e w3 ⟨rfl, hb3⟩
        have HR3 : Hid (ValB w3 (w.heap.size + 1) zeroV) := HRr.out.below hb3
        have HB3 : Hid (Below w.heap.size w w3) := grw HBr.out hb3
        obtain ⟨r0, r1, r2, r3, r4⟩ := cells4 HR3.out
        clear hb3 HRr HBr HHr
        unfold vAgg
        go_wp2
        obtain ⟨q0, q1, q2, q3, _⟩ := cells4 (HR3.out.put v)
        refine bodyPost_ret (v := vAgg v) (by simp [results, Try.results27, go_sem, q0, q1, q2, q3]) rfl ⟨Or.inl ⟨HG.out, by rw [HV.out]⟩, ?_⟩
        exact HB3.out.trans (set4_below.mono (by omega))
  · have HN : Hid (¬ OkG n u L K X) := hN
    clear hN
    have R2 : Hid (ValB (w1.alloc (.cells #[.nilIface, .slice none 0 0] 70)) (w.heap.size + 1) zeroV) := R1.out.below ((Below.refl _ _).alloc (Nat.le_refl _) _)
    obtain ⟨r0, r1, r2, r3, r4⟩ := cells4 R2.out
    obtain ⟨s0, s1, s2, s3, s4⟩ := cells4 R1.out
    have hlt : w.heap.size + 1 < w1.heap.size := blk_lt R1.out
    go_wp2
    have Q := put4r R1.out (.int .i64 0) (.int .i64 0) (.string ⟨#[]⟩) (.int .i64 0)
    obtain ⟨q0, q1, q2, q3, _⟩ := cells4 (blkB Q ((Below.refl _ _).alloc (Nat.le_refl _) (.cells #[.nilIface, .slice none 0 0] 70)))
    have HF : Hid (Below w.heap.size w ((((w1.setCell ⟨w.heap.size + 1, 0, none⟩ (.int .i64 0)).setCell ⟨w.heap.size + 1, 1, none⟩ (.int .i64 0)).setCell ⟨w.heap.size + 1, 2, none⟩ (.string ⟨#[]⟩)).setCell ⟨w.heap.size + 1, 3, none⟩ (.int .i64 0))) := HB1.out.trans (set4_below.mono (by omega))
    refine bodyPost_ret (v := vAgg zeroV) (by simp [results, Try.results27, go_sem, q0, q1, q2, q3, zeroV]) rfl ⟨Or.inr ⟨HN.out, rfl⟩, ?_⟩
    exact HF.out.alloc HF.out.size _

end Go.Proofs.Ytgflalfiopnmnab
