import Derived.Test.YtgflalfiopnmnaaP24
import Derived.Test.YtgflalfiopnmnaaP14
import Derived.Test.YtgflalfiopnmnaaP15
import Derived.Test.YtgflalfiopnmnaaP13
import Derived.Test.YtgflalfiopnmnaaP17
import Derived.Test.YtgflalfiopnmnaaP19
import Derived.Test.YtgflalfiopnmnaaP1
import Derived.Test.YtgflalfiopnmnaaRows
import Derived.ProofKit
import Derived.OpenShut
import Derived.ShutString
import Derived.ChangeOld
namespace Go.Proofs.Ytgflalfiopnmnaa
open Go.RowKit Vl

/-- What a held value says of itself is what it was made of. -/
theorem as_any {n : Nat} {v : V} (hv : isV n v = true) (Tt : Nat → Nat) (w : World) (hT : ∀ j, j < n → w.cell? ⟨Tt j, 0, none⟩ = some (.int .i64 j)) :
    ∃ (t : TypeId) (y : Value) (F : Nat), ifv Tt v = .iface t y ∧ (∀ w f, (method (f + 3) t y "loop.example/cloth/impl.asVal").run Try.prog w = .ok (F, y) w) ∧ (∀ args w, (callFunc F args).run Try.prog w = .ok (.enter F args) w) ∧
      Calls Try.prog F #[y] w fun e w' => e = .returned (vAgg v) ∧ Below w.heap.size w w' := by
  obtain ⟨k, m, s, a⟩ := v
  by_cases k0 : k = 0
  · subst k0
    simp [isV] at hv
    obtain ⟨rfl, hs, rfl⟩ := hv
    obtain rfl := bytes_empty hs
    exact ⟨_, _, _, rfl, meth_0, Try.call141, asNil_any w⟩
  by_cases k1 : k = 1
  · subst k1
    simp [isV] at hv
    obtain ⟨hm, hs, rfl⟩ := hv
    obtain rfl := bytes_empty hs
    refine ⟨_, _, _, rfl, meth_1 _, Try.call142, (asBool_any _ w).mono ?_⟩
    rintro e w' ⟨rfl, h⟩
    refine ⟨?_, h⟩
    rcases hm with rfl | rfl <;> rfl
  by_cases k2 : k = 2
  · subst k2
    simp [isV] at hv
    obtain ⟨hs, rfl⟩ := hv
    obtain rfl := bytes_empty hs
    exact ⟨_, _, _, rfl, meth_2 _, Try.call143, asInt_any m w⟩
  by_cases k3 : k = 3
  · subst k3
    simp [isV] at hv
    obtain ⟨rfl, rfl, _⟩ := hv
    exact ⟨_, _, _, rfl, meth_3 _, Try.call144, asText_any s w⟩
  by_cases k4 : k = 4
  · subst k4
    simp [isV] at hv
    obtain ⟨rfl, hs, ha0, ha1⟩ := hv
    obtain rfl := bytes_empty hs
    refine ⟨_, _, _, rfl, meth_4 _, Try.call140, asTab_any _ a w ?_⟩
    have := hT a.toNat (by omega)
    rw [this]
    congr 2
    omega
  · simp [isV, k0, k1, k2, k3, k4] at hv

set_option maxHeartbeats 1000000 in
set_option maxRecDepth 100000 in
/-- 'valueAt' of a table. -/
theorem valueAt_tab (T M : Nat) (i : Int) (ord : Value) (Tt : Nat → Nat) (K X : Nat → V) (L : Nat) (k : V) (w : World) (HT : Hid (TabB w T M i ord)) (HM : Hid (MapIs w M (mp Tt K X L))) :
    Calls Try.prog 53 #[.iface 63 (.pointer (some ⟨T, 0, none⟩)), .agg #[.int .i64 k.k, .int .i64 k.n, .string k.s, .int .i64 k.a]] w fun e w' => e = .returned (ifv Tt (atKey L K X k)) ∧ Below w.heap.size w w' := by
  obtain ⟨w0, hw0⟩ : ∃ w0, w0 = w.alloc (.cells #[.int .i64 k.k, .int .i64 k.n, .string k.s, .int .i64 k.a] 24) := ⟨_, rfl⟩
  have HB : Hid (Below w.heap.size w w0) := by rw [hw0]; exact (Below.refl _ _).alloc (Nat.le_refl _) _
  have HK : Hid (ValB w0 w.heap.size k) := by rw [hw0]; exact heap_alloc_new _ _
  have HT0 : Hid (TabB w0 T M i ord) := (HB.out.block T (blk_lt HT.out)).trans HT.out
  have HM0 : Hid (MapIs w0 M (mp Tt K X L)) := HM.out.same (HB.out.block M HM.out.lt)
  have hta : ∀ w, (Instr.typeAssert (.iface 63 (.pointer (some ⟨T, 0, none⟩))) 68 63 true).run Try.prog w = .ok (.tuple #[.pointer (some ⟨T, 0, none⟩), .bool true]) w := fun _ => by kernel_rfl
  have hhk := hasKey_any T M i ord (mp Tt K X L) k w0 HT0 HM0
  have HR : Hid ((findV k (mp Tt K X L)).getD (ifv Tt zeroV) = ifv Tt (atKey L K X k)) := find_mp Tt K X L k
  obtain ⟨c0, c1, c2, c3, _⟩ := cells4 HK.out
  rw [hw0] at c0 c1 c2 c3
  go_enter Try.func53, Try.ntmps53
  go_wp2_with fail
  rw [← hw0]
  refine hhk.mono ?_
  clear hhk hw0 c0 c1 c2 c3
  rintro e w1 ⟨rfl, hb1⟩
  have HT1 : Hid (TabB w1 T M i ord) := (hb1.block T (blk_lt HT0.out)).trans HT0.out
  have HM1 : Hid (MapIs w1 M (mp Tt K X L)) := HM0.out.same (hb1.block M HM0.out.lt)
  have HK1 : Hid (ValB w1 w.heap.size k) := HK.out.below hb1
  have HB1 : Hid (Below w.heap.size w w1) := grw HB.out hb1
  clear hb1 HT0 HM0 HK HB HT HM
  cases hf : findV k (mp Tt K X L) with
  | none =>
    rw [hf] at HR
    have HR' : Hid (ifv Tt (atKey L K X k) = .iface 151 (.agg #[])) := HR.out.symm
    clear HR hf
    go_wp2
    go_ret
    exact ⟨by rw [HR'.out]; rfl, HB1.out⟩
  | some x =>
    rw [hf] at HR
    have HR' : Hid (ifv Tt (atKey L K X k) = x) := HR.out.symm
    have m1 : (Instr.lookup 64 (.map (some M)) (.agg #[.int .i64 k.k, .int .i64 k.n, .string k.s, .int .i64 k.a]) false).run Try.prog w1.drew = .ok x w1.drew := by
      have := ((show MapIs w1.drew M (mp Tt K X L) from HM1.out).lookup k).2
      rw [hf] at this
      exact this
    clear HR hf
    obtain ⟨_, t1, _, _⟩ := HT1.out.cells
    obtain ⟨c0, c1, c2, c3, _⟩ := cells4 HK1.out
    go_wp2
    go_region_held3 (fun w' => w'.cell? ⟨T, 1, none⟩ = some (.map (some M)) ∧ w'.cell? ⟨w.heap.size, 0, none⟩ = some (.int .i64 k.k) ∧ w'.cell? ⟨w.heap.size, 1, none⟩ = some (.int .i64 k.n) ∧ w'.cell? ⟨w.heap.size, 2, none⟩ = some (.string k.s) ∧ w'.cell? ⟨w.heap.size, 3, none⟩ = some (.int .i64 k.a) ∧ (Instr.lookup 64 (.map (some M)) (.agg #[.int .i64 k.k, .int .i64 k.n, .string k.s, .int .i64 k.a]) false).run Try.prog w' = .ok x w')
      (first | exact ⟨t1, c0, c1, c2, c3, m1⟩)
      (fail)
    clear m1 c0 c1 c2 c3 t1
    go_wp2
    go_ret
    exact ⟨by rw [HR'.out]; rfl, HB1.out.drew⟩

set_option maxHeartbeats 1000000 in
theorem valueAt_is (t : TypeId) (y z : Value) (k : V) (w : World) (hta : ∀ w, (Instr.typeAssert (.iface t y) 68 63 true).run Try.prog w = .ok (.tuple #[z, .bool false]) w) :
    Calls Try.prog 53 #[.iface t y, .agg #[.int .i64 k.k, .int .i64 k.n, .string k.s, .int .i64 k.a]] w fun e w' => e = .returned (.iface 151 (.agg #[])) ∧ Below w.heap.size w w' := by
  go_enter Try.func53, Try.ntmps53
  go_wp2
  go_ret
  exact ⟨rfl, (Below.refl _ _).alloc (Nat.le_refl _) _⟩

/-- 'valueAt' of what is no table. -/
theorem valueAt_no {n : Nat} {v : V} (hv : isV n v = true) (h4 : v.k ≠ 4) (Tt : Nat → Nat) (k : V) (w : World) :
    Calls Try.prog 53 #[ifv Tt v, .agg #[.int .i64 k.k, .int .i64 k.n, .string k.s, .int .i64 k.a]] w fun e w' => e = .returned (ifv Tt zeroV) ∧ Below w.heap.size w w' := by
  obtain ⟨q, m, s, a⟩ := v
  by_cases k0 : q = 0
  · subst k0; exact valueAt_is _ _ (.pointer none) k w (fun _ => by kernel_rfl)
  by_cases k1 : q = 1
  · subst k1; exact valueAt_is _ _ (.pointer none) k w (fun _ => by kernel_rfl)
  by_cases k2 : q = 2
  · subst k2; exact valueAt_is _ _ (.pointer none) k w (fun _ => by kernel_rfl)
  by_cases k3 : q = 3
  · subst k3; exact valueAt_is _ _ (.pointer none) k w (fun _ => by kernel_rfl)
  · have k4 : ¬ q = 4 := h4
    simp [isV, k0, k1, k2, k3, k4] at hv

/-- 'valueAt', a step along a path. -/
theorem valueAt_any {b n : Nat} {v : V} {base L : Nat → Nat} {K X : Nat → Nat → V} (hv : isV n v = true) (k : V) (w : World) (H : Half w b n n base L K X) :
    Calls Try.prog 53 #[ifv (tT b) v, .agg #[.int .i64 k.k, .int .i64 k.n, .string k.s, .int .i64 k.a]] w fun e w' => e = .returned (ifv (tT b) (step L K X v k)) ∧ Below w.heap.size w w' := by
  by_cases h4 : v.k = 4
  · obtain ⟨ha0, ha1⟩ := isV_tab hv h4
    have hf := (H.full v.a.toNat (by omega)).1
    obtain ⟨ord, hT, _⟩ := hf.tab
    have e1 : ifv (tT b) v = .iface 63 (.pointer (some ⟨tT b v.a.toNat, 0, none⟩)) := by
      unfold ifv
      rw [if_neg (by omega), if_neg (by omega), if_neg (by omega), if_neg (by omega)]
    have e2 : step L K X v k = atKey (L v.a.toNat) (K v.a.toNat) (X v.a.toNat) k := by unfold step; rw [if_pos h4]
    rw [e1, e2]
    exact valueAt_tab _ _ _ ord (tT b) _ _ _ k w hT hf.map
  · have e2 : step L K X v k = zeroV := by unfold step; rw [if_neg h4]
    rw [e2]
    exact valueAt_no hv h4 (tT b) k w

set_option maxHeartbeats 1000000 in
set_option maxRecDepth 100000 in
/-- 'impl.Get'. -/
theorem implGet_any (u : V) (pa : Option Addr) (m mc PB PO : Nat) (P : Nat → V) (ta : Option Addr) (n cp TB TO : Nat) (A : Nat → Option Addr) (L C RB RO : Nat → Nat) (K X : Nat → Nat → V) (w : World) (hm : m ≤ 1048576) (hn : n ≤ 1048576) (HS : Hid (Small 1048576 n L K X))
    (HP : Hid (ValsAt w pa m PB PO P)) (HT : Hid (TabsAt w ta n TB TO A L C RB RO K X)) :
    Calls Try.prog 22 #[.agg #[.int .i64 u.k, .int .i64 u.n, .string u.s, .int .i64 u.a, .slice ta n cp], .slice pa m mc] w fun e w' => ((OkG n u L K X ∧ e = .returned (vAgg (lead u L K X P m))) ∨ (¬ OkG n u L K X ∧ e = .returned (vAgg zeroV))) ∧ Below w.heap.size w w' := by
  have A2 : Hid _ := alloc2 w (.cells #[.int .i64 u.k, .int .i64 u.n, .string u.s, .int .i64 u.a, .slice ta n cp] 27) (.cells #[.int .i64 0, .int .i64 0, .string ⟨#[]⟩, .int .i64 0] 24)
  obtain ⟨w0, hw0⟩ : ∃ w0, w0 = (w.alloc (.cells #[.int .i64 u.k, .int .i64 u.n, .string u.s, .int .i64 u.a, .slice ta n cp] 27)).alloc (.cells #[.int .i64 0, .int .i64 0, .string ⟨#[]⟩, .int .i64 0] 24) := ⟨_, rfl⟩
  have P1 : Hid (ValB w0 (w.heap.size + 1) zeroV) := by rw [hw0]; exact A2.out.2.1
  have HB0 : Hid (Below w.heap.size w w0) := by rw [hw0]; exact A2.out.2.2.2
  clear A2
  have hlk := link_any u ta n cp TB TO A L C RB RO K X w0 hn HS (HT.out.below HB0.out)
  go_enter Try.func22, Try.ntmps22
  go_wp2_with fail
  rw [← hw0]
  refine hlk.mono ?_
  clear hlk hw0
  rintro e w1 ⟨hcase, hb1⟩
  have R1 : Hid (ValB w1 (w.heap.size + 1) zeroV) := P1.out.below hb1
  have HB1 : Hid (Below w.heap.size w w1) := grw HB0.out hb1
  clear hb1 P1 HB0
  rcases hcase with ⟨hG, rfl, base, hH⟩ | ⟨hN, rfl⟩
  · have HG : Hid (OkG n u L K X) := hG
    have HH : Hid (Half w1 w0.heap.size n n base L K X) := hH
    obtain ⟨b, hb⟩ : ∃ b, w0.heap.size = b := ⟨_, rfl⟩
    rw [hb] at HH ⊢
    clear hG hH hb
    obtain ⟨xt, xy, hxv⟩ := ifv_form (tT b) u
    have HXV : Hid (ifv (tT b) u = .iface xt xy) := hxv
    rw [HXV.out]
    clear hxv
    obtain ⟨w2, hw2⟩ : ∃ w2, w2 = w1.alloc (.cells #[.iface xt xy, .slice (some ⟨b + 2, 0, none⟩) n n] 106) := ⟨_, rfl⟩
    have HB12 : Hid (Below w1.heap.size w1 w2) := by rw [hw2]; exact (Below.refl _ _).alloc (Nat.le_refl _) _
    have H2 : Hid (Half w2 b n n base L K X) := HH.out.below HB12.out
    have R2 : Hid (ValB w2 (w.heap.size + 1) zeroV) := R1.out.below HB12.out
    have HB2 : Hid (Below w.heap.size w w2) := grw HB1.out HB12.out
    go_wp2
    rw [← hw2]
    clear hw2 HB12 HH R1 HB1
    go_loopw [7, 22] (fun ev ii wr => ∃ i : Nat, i ≤ m ∧ ii = .int .i64 i ∧ ev = ifv (tT b) (lead u L K X P i) ∧ Hid (Half wr b n n base L K X) ∧ Hid (ValB wr (w.heap.size + 1) zeroV) ∧ Hid (Below w.heap.size w wr)) (fun _ ii _ => m - (intOf ii).toNat)
    case atStart => exact ⟨0, Nat.zero_le _, rfl, HXV.out.symm, H2, R2, HB2⟩
    case round =>
      obtain ⟨i, hi, rfl, hev, HHr, HRr, HBr⟩ := hrel
      clear H2 R2 HB2
      by_cases hlt : i < m
      · subst hev
        obtain rfl := HP.out.top (by omega)
        obtain ⟨k0, k1, k2, k3⟩ := (HP.out.below HBr.out).cells hlt
        obtain ⟨wk, hwk⟩ : ∃ wk, wk = wr.alloc (.cells #[.int .i64 (P i).k, .int .i64 (P i).n, .string (P i).s, .int .i64 (P i).a] 24) := ⟨_, rfl⟩
        have HBk : Hid (Below wr.heap.size wr wk) := by rw [hwk]; exact (Below.refl _ _).alloc (Nat.le_refl _) _
        have HHk : Hid (Half wk b n n base L K X) := HHr.out.below HBk.out
        have HRk : Hid (ValB wk (w.heap.size + 1) zeroV) := HRr.out.below HBk.out
        have HBk2 : Hid (Below w.heap.size w wk) := grw HBr.out HBk.out
        have hva := valueAt_any (isV_lead (P := P) HG.out i) (P i) wk HHk.out
        obtain ⟨ev, HEV⟩ : ∃ ev, Hid (ifv (tT b) (lead u L K X P i) = ev) := ⟨_, rfl⟩
        rw [HEV.out] at hva ⊢
        go_wp2_with fail
        rw [← hwk]
        refine hva.mono ?_
        clear hva hwk
        rintro e w3 ⟨rfl, hb3⟩
        have HH3 : Hid (Half w3 b n n base L K X) := HHk.out.below hb3
        have HR3 : Hid (ValB w3 (w.heap.size + 1) zeroV) := HRk.out.below hb3
        have HB3 : Hid (Below w.heap.size w w3) := grw HBk2.out hb3
        obtain ⟨ev2, HEV2⟩ : ∃ ev2, Hid (ifv (tT b) (step L K X (lead u L K X P i) (P i)) = ev2) := ⟨_, rfl⟩
        rw [HEV2.out]
        clear hb3 HHk HRk HBk2 HBk HHr HRr HBr k0 k1 k2 k3
        go_wp2
        go_roundw
        case rel => exact ⟨i + 1, by omega, by go_num, HEV2.out.symm, HH3, HR3, HB3⟩
        case measure => simp [intOf]; omega
      · obtain rfl : i = m := by omega
        obtain ⟨v, HV⟩ : ∃ v, Hid (lead u L K X P i = v) := ⟨_, rfl⟩
        have hiv : isV n v = true := by rw [← HV.out]; exact isV_lead HG.out i
        obtain ⟨t, y, F, hty, hmeth, hcf, hcall⟩ := as_any hiv (tT b) wr HHr.out.tabs.at_
        rw [HV.out, hty] at hev
        subst hev
        clear hiv hty
        go_wp2_with fail
        refine hcall.mono ?_
        clear hcall hmeth hcf
        rintro e w3 ⟨rfl, hb3⟩
        have HR3 : Hid (ValB w3 (w.heap.size + 1) zeroV) := HRr.out.below hb3
        have HB3 : Hid (Below w.heap.size w w3) := grw HBr.out hb3
        obtain ⟨r0, r1, r2, r3, r4⟩ := cells4 HR3.out
        clear hb3 HRr HBr HHr
        unfold vAgg
        go_wp2
        obtain ⟨q0, q1, q2, q3, _⟩ := cells4 (HR3.out.put v)
        refine bodyPost_ret (v := vAgg v) (by simp [results, Try.results22, go_sem, q0, q1, q2, q3]) rfl ⟨Or.inl ⟨HG.out, by rw [HV.out]⟩, ?_⟩
        exact HB3.out.trans (set4_below.mono (by omega))
  · have HN : Hid (¬ OkG n u L K X) := hN
    clear hN
    have R2 : Hid (ValB (w1.alloc (.cells #[.nilIface, .slice none 0 0] 106)) (w.heap.size + 1) zeroV) := R1.out.below ((Below.refl _ _).alloc (Nat.le_refl _) _)
    obtain ⟨r0, r1, r2, r3, r4⟩ := cells4 R2.out
    obtain ⟨s0, s1, s2, s3, s4⟩ := cells4 R1.out
    have hlt : w.heap.size + 1 < w1.heap.size := blk_lt R1.out
    go_wp2
    have Q := put4r R1.out (.int .i64 0) (.int .i64 0) (.string ⟨#[]⟩) (.int .i64 0)
    obtain ⟨q0, q1, q2, q3, _⟩ := cells4 (blkB Q ((Below.refl _ _).alloc (Nat.le_refl _) (.cells #[.nilIface, .slice none 0 0] 106)))
    have HF : Hid (Below w.heap.size w ((((w1.setCell ⟨w.heap.size + 1, 0, none⟩ (.int .i64 0)).setCell ⟨w.heap.size + 1, 1, none⟩ (.int .i64 0)).setCell ⟨w.heap.size + 1, 2, none⟩ (.string ⟨#[]⟩)).setCell ⟨w.heap.size + 1, 3, none⟩ (.int .i64 0))) := HB1.out.trans (set4_below.mono (by omega))
    refine bodyPost_ret (v := vAgg zeroV) (by simp [results, Try.results22, go_sem, q0, q1, q2, q3, zeroV]) rfl ⟨Or.inr ⟨HN.out, rfl⟩, ?_⟩
    exact HF.out.alloc HF.out.size _

end Go.Proofs.Ytgflalfiopnmnaa

namespace Go.Proofs.Ytgflalfiopnmnaa
open Go.RowKit Vl

theorem ByteR.later {w w' : World} {ca : Option Addr} {cl cb co : Nat} (h : ByteR w ca cl cb co) (hb : Below w.heap.size w w') : ByteR w' ca cl cb co := fun i hi => by
  obtain ⟨e, x, hx, hc⟩ := h i hi
  exact ⟨e, x, hx, (hb.cell (World.block_lt_of_cell? _ _ hc)).trans hc⟩

theorem neqV_run (u v : V) (w : World) :
    (binOp .neq 24 (.agg #[.int .i64 u.k, .int .i64 u.n, .string u.s, .int .i64 u.a]) (.agg #[.int .i64 v.k, .int .i64 v.n, .string v.s, .int .i64 v.a])).run Try.prog w = .ok (.bool (!(eqV u v))) w := by
  go_simp
  by_cases h1 : u.k = v.k <;> by_cases h2 : u.n = v.n <;> by_cases h3 : u.s.toList = v.s.toList <;> by_cases h4 : u.a = v.a <;> simp [eqV, h1, h2, h3, h4]

/-- What 'Apart' answers, told: the way, and what the specification answers. -/
structure ApFix (n m : Nat) (u u' : V) (L L' : Nat → Nat) (K X K' X' : Nat → Nat → V) (f : Nat → Nat) (ans : List V) : Prop where
  both : OkG m u' L' K' X' → ClsAre (n + m) (jn n L L') (jn n K K') (jn n X (fun j c => sh n (X' j c))) f ∧ Aw.IDone (Aw.sysOf n L K X L' K' X' f) ⟨u, u', []⟩ ans
  none : ¬ OkG m u' L' K' X' → ans = []
  few : ans.length ≤ 50000
  spec : ∀ w w' e, ApS w w' e f n m u u' L L' K X K' X' → ∃ v, e = .returned v ∧ w'.ownsRow w.heap.size 24 4 v ans.length (keyCells ans)

theorem ap_fix {w w' : World} {e : Ending} {n m : Nat} {u u' : V} {L L' : Nat → Nat} {K X K' X' : Nat → Nat → V} (hok : OkG n u L K X) (h : ApI w w' e n m u u' L L' K X K' X') :
    ∃ f ans v, e = .returned v ∧ w'.ownsRow w.heap.size 24 4 v ans.length (keyCells ans) ∧ ApFix n m u u' L L' K X K' X' f ans := by
  rcases h with ⟨⟨_, hok'⟩, f, v, ans, hcls, _, h1, h2, h3⟩ | ⟨hno, h1⟩
  · refine ⟨f, ans, v, h1, h3, ⟨fun _ => ⟨hcls, h2⟩, fun hn => absurd hok' hn, ?_, fun w w' e h => ?_⟩⟩
    · rcases h2 with ⟨j, q, e', pre, k, post, hr, hq, _, _, _, e2⟩ | ⟨_, _, _, _, e2⟩
      · have hw := hr.wide (Aw.sys_next hok hok') (Aw.sys_ix n m L K X L' K' X' f) ⟨hok.root, hok'.root⟩ rfl
        have hp := hw.wide.path e' (List.mem_of_getElem? hq)
        have hl := hw.len (Aw.sys_ix n m L K X L' K' X' f)
        have hj : j < q.length := (List.getElem?_eq_some_iff.1 hq).1
        have h3 : n * m ≤ 200 * 200 := Nat.mul_le_mul hok.len hok'.len
        rw [e2, List.length_append]
        simp
        omega
      · rw [e2]; simp
    · rcases h with ⟨_, v2, ans2, g1, g2, g3⟩ | ⟨hno, _⟩
      · have ea : ans2 = ans := Aw.meet (Aw.sys_fits hok hok' hcls) ⟨hok.root, hok'.root⟩ rfl g2 h2
        subst ea
        exact ⟨v2, g1, g3⟩
      · exact absurd ⟨hok, hok'⟩ hno
  · refine ⟨fun _ => 0, [], _, h1, World.ownsRow_nil _ _ _ _, ⟨fun h => absurd ⟨hok, h⟩ hno, fun _ => rfl, by simp, fun w w' e h => ?_⟩⟩
    rcases h with ⟨h, _⟩ | ⟨_, g1⟩
    · exact absurd h hno
    · exact ⟨_, g1, World.ownsRow_nil _ _ _ _⟩

theorem way_vals {w : World} {base : Nat} {v : Value} {ans : List V} (h : w.ownsRow base 24 4 v ans.length (keyCells ans)) : v = .slice (slA v) ans.length (slC v) ∧ ValsAt w (slA v) ans.length (slB v) 0 (lsF ans) := by
  rw [← keys_lsF ans] at h
  have hl : (keys (lsF ans) ans.length).length = ans.length := by rw [keys_lsF]
  rw [hl] at h
  exact owns_keys h

set_option maxHeartbeats 1000000 in
/-- 'wVals' of two rows with the same values. -/
theorem wVals_same (pa pa' : Option Addr) (m c c' B O B' O' : Nat) (P : Nat → V) (w : World) (hm : m ≤ 1048576) (HP : Hid (ValsAt w pa m B O P)) (HP' : Hid (ValsAt w pa' m B' O' P)) :
    Calls Try.prog 19 #[.slice pa m c, .slice pa' m c'] w fun e w' => e = .returned (.bool true) ∧ Below w.heap.size w w' := by
  go_enter Try.func19, Try.ntmps19
  go_wp2
  go_loopw [13] (fun ii wr => ∃ i k : Nat, i ≤ m ∧ ii = .int .i64 i ∧ wr = w.drewN k) (fun ii _ => m - (intOf ii).toNat)
  case atStart => exact ⟨0, 0, Nat.zero_le _, rfl, rfl⟩
  case round =>
    obtain ⟨i, k, hi, rfl, rfl⟩ := hrel
    by_cases hlt : i < m
    · obtain rfl := HP.out.top (by omega)
      obtain rfl := HP'.out.top (by omega)
      obtain ⟨k0, k1, k2, k3⟩ := HP.out.cells hlt
      obtain ⟨x0, x1, x2, x3⟩ := HP'.out.cells hlt
      have il : (0 : Int) ≤ (i : Int) ∧ (i : Int) < (m : Int) := by omega
      go_wp2_with fail
      go_quiet (fail)
      go_wp2
      go_roundw
      case rel => exact ⟨i + 1, k + nq, by omega, by go_num, rfl⟩
      case measure => simp [intOf]; omega
    · go_wp2
      go_ret
      exact ⟨rfl, below_drewN (Below.refl _ _) _⟩

theorem OTab.lower {w : World} {base b0 : Nat} {tv : Value} {n : Nat} {PV : Nat → Value} {L : Nat → Nat} {K X : Nat → Nat → V} (h : OTab w base tv n PV L K X) (hb : b0 ≤ base) : OTab w b0 tv n PV L K X := ⟨owns_mono h.own hb, fun j hj => owns_mono (h.rows j hj) hb, h.dis⟩

/-- What 'Get' answers of a graph that is well made. -/
theorem get_of {e : Ending} {n : Nat} {u : V} {L : Nat → Nat} {K X : Nat → Nat → V} {ans : List V} (hok : OkG n u L K X) (h : (OkG n u L K X ∧ e = .returned (vAgg (lead u L K X (lsF ans) ans.length))) ∨ (¬ OkG n u L K X ∧ e = .returned (vAgg zeroV))) : e = .returned (vAgg (ans.foldl (step L K X) u)) := by
  rcases h with ⟨_, rfl⟩ | ⟨hno, _⟩
  · have := Aw.lead_way u L K X ans
    show Ending.returned (vAgg (lead u L K X (fun i => ans.getD i zeroV) ans.length)) = _
    rw [this]
  · exact absurd hok hno

set_option maxHeartbeats 8000000 in
set_option maxRecDepth 100000 in
/-- 'laws.FnApart'. -/
theorem apartLaw2 (ca : Option Addr) (cl cc cb co : Nat) (da : Option Addr) (dl dc db do_ : Nat) (w : World) (hB : ByteR w ca cl cb co) (hcl : cl ≤ 9223372036854775807) (hB' : ByteR w da dl db do_) (hdl : dl ≤ 9223372036854775807) :
    Calls Try.prog 4 #[.slice ca cl cc, .slice da dl dc] w fun e w' => e = .returned (.bool true) ∧ Below w.heap.size w w' := by
  by_cases hl : 1048576 < cl
  · clear hB hB'
    go_enter Try.func4, Try.ntmps4
    go_wp2
    go_ret
    exact ⟨rfl, Below.refl _ _⟩
  by_cases hl' : 1048576 < dl
  · clear hB hB'
    go_enter Try.func4, Try.ntmps4
    go_wp2
    go_ret
    exact ⟨rfl, Below.refl _ _⟩
  have hdr := drawn_any ca cl cc cb co w hB (by omega)
  have HB' : Hid (ByteR w da dl db do_) := hB'
  have hdb : 0 < dl → db < w.heap.size := fun h => by obtain ⟨_, x, _, hc⟩ := hB' 0 h; exact World.block_lt_of_cell? _ _ hc
  clear hB hB'
  go_enter Try.func4, Try.ntmps4
  go_wp2_with fail
  refine hdr.mono ?_
  clear hdr
  rintro e w1 ⟨⟨n, u, tv, PV, L, K, X, base, hb, rfl, hok, hfi, hO1⟩, hb1⟩
  obtain ⟨ta, tc, rfl, _⟩ := owns_form hO1.own
  have hn := hok.len
  have HOK : Hid (OkG n u L K X) := hok
  have HFI : Hid (FineG n u L K X) := hfi
  obtain ⟨w2, hw2⟩ : ∃ w2, w2 = w1.alloc (.cells #[.int .i64 u.k, .int .i64 u.n, .string u.s, .int .i64 u.a, .slice ta n tc] 27) := ⟨_, rfl⟩
  have hb2 : Below w1.heap.size w1 w2 := by rw [hw2]; exact (Below.refl _ _).alloc (Nat.le_refl _) _
  obtain ⟨gb, hgb⟩ : ∃ gb, w1.heap.size = gb := ⟨_, rfl⟩
  have HG2 : Hid (OutB w2 gb u (.slice ta n tc)) := by rw [hw2, ← hgb]; exact heap_alloc_new _ _
  have HO2 : Hid (OTab w2 base (.slice ta n tc) n PV L K X) := hO1.below hb2
  have HW2 : Hid (Below w.heap.size w w2) := grw hb1 hb2
  have hsw2 : w.heap.size ≤ w2.heap.size := HW2.out.size
  have htu := turnedW_any u ta n tc _ _ _ L _ _ _ K X da dl dc db do_ w2 HOK HFI HO2.out.tabs.2 (HB'.out.later HW2.out) (by omega)
  clear hok hfi hO1 hb1 hb2 hb
  go_upto_region 4 with fail
  rw [← hw2]
  try rw [hgb]
  clear hw2
  obtain ⟨a0, a1, a2, a3, a4, _⟩ := cells5 HG2.out
  go_wp2_with fail
  refine htu.mono ?_
  clear htu a0 a1 a2 a3 a4
  rintro e w3 ⟨⟨tw, u', tv', PVt, Lt, Kt, Xt, bs', hbs, rfl, hTG, hFT, hO3⟩, hb3⟩
  have hnt := hTG.few
  obtain ⟨N, HN⟩ : ∃ N, Hid (n * tw = N) := ⟨_, rfl⟩
  rw [HN.out] at hFT hO3
  have hnt : N ≤ 200 := by rw [← HN.out]; exact hnt
  obtain ⟨ta3, tc3, rfl, hobs⟩ := owns_form hO3.own
  have HFT : Hid (FineG N u' Lt Kt Xt) := hFT
  have HO3 : Hid (OTab w3 w2.heap.size (.slice ta3 N tc3) N PVt Lt Kt Xt) := hO3.lower hbs
  have HB3 : Hid (Below w2.heap.size w2 w3) := hb3
  have HW3 : Hid (Below w.heap.size w w3) := grw HW2.out hb3
  have hs23 := hb3.size
  have hsp := spoilt_any u' ta3 N tc3 w2.heap.size PVt Lt Kt Xt da dl dc db do_ w3 hnt HFT HO3 hs23 (HB'.out.later HW3.out) (fun h => by have := hdb h; omega) (by omega)
  clear hTG hFT hO3 hb3 hobs hbs HN
  go_wp2_with fail
  refine hsp.mono ?_
  clear hsp
  rintro e w4 ⟨⟨x, PVh, Lh, Kh, Xh, rfl, hO4, hF4⟩, hb4, _⟩
  have HB4 : Hid (Below w2.heap.size w2 w4) := HB3.out.trans hb4
  have HFH : Hid (FineG N x Lh Kh Xh) := hF4
  obtain ⟨w5, hw5⟩ : ∃ w5, w5 = w4.alloc (.cells #[.int .i64 x.k, .int .i64 x.n, .string x.s, .int .i64 x.a, .slice ta3 N tc3] 27) := ⟨_, rfl⟩
  have hb5 : Below w4.heap.size w4 w5 := by rw [hw5]; exact (Below.refl _ _).alloc (Nat.le_refl _) _
  obtain ⟨hb_, hhb⟩ : ∃ hb_, w4.heap.size = hb_ := ⟨_, rfl⟩
  have HH5 : Hid (OutB w5 hb_ x (.slice ta3 N tc3)) := by rw [hw5, ← hhb]; exact heap_alloc_new _ _
  have HOh5 : Hid (OTab w5 w2.heap.size (.slice ta3 N tc3) N PVh Lh Kh Xh) := hO4.below hb5
  have HG5 : Hid (OutB w5 gb u (.slice ta n tc)) := blkB (blkB HG2.out HB4.out) hb5
  have HOg5 : Hid (OTab w5 base (.slice ta n tc) n PV L K X) := (HO2.out.below HB4.out).below hb5
  have HW5 : Hid (Below w.heap.size w w5) := grw (grw HW2.out HB4.out) hb5
  clear hO4 hF4 hb4 hb5 HB3 HB4 HFT HO3 HW3 HW2 HG2 HO2 HB'
  go_upto_region 5 with fail
  rw [← hw5]
  try rw [hhb]
  clear hw5
  obtain ⟨a0, a1, a2, a3, a4, _⟩ := cells5 HG5.out
  obtain ⟨b0, b1, b2, b3, b4, _⟩ := cells5 HH5.out
  have hap := implApart_any u x ta ta3 n tc _ _ N tc3 _ _ _ _ L _ _ _ Lh _ _ _ K X Kh Xh w5 (by omega) (by omega) HFI.out.small HFH.out.small HOg5.out.tabs.2 HOh5.out.tabs.2
  go_wp2_with fail
  refine hap.mono ?_
  clear hap
  rintro e w6 ⟨hs6, hb6⟩
  obtain ⟨f, ans, v, rfl, hown, hfix⟩ := ap_fix HOK.out hs6
  obtain ⟨pa, pc, rfl, _⟩ := owns_form hown
  have hvals := (way_vals hown).2
  obtain ⟨pq, hpq⟩ : ∃ pq, slB (.slice pa ans.length pc) = pq := ⟨_, rfl⟩
  rw [hpq] at hvals
  have hfew := hfix.few
  obtain ⟨m, hm⟩ : ∃ m, ans.length = m := ⟨_, rfl⟩
  have hvals : ValsAt w6 pa ans.length pq 0 (lsF ans) := hvals
  rw [hm] at hvals hfew
  rw [hm]
  have HM : Hid (ans.length = m) := hm
  have HFIX : Hid (ApFix n N u x L Lh K X Kh Xh f ans) := hfix
  have HV6 : Hid (ValsAt w6 pa m pq 0 (lsF ans)) := hvals
  have HG6 : Hid (OutB w6 gb u (.slice ta n tc)) := blkB HG5.out hb6
  have HH6 : Hid (OutB w6 hb_ x (.slice ta3 N tc3)) := blkB HH5.out hb6
  have HOg6 : Hid (OTab w6 base (.slice ta n tc) n PV L K X) := HOg5.out.below hb6
  have HOh6 : Hid (OTab w6 w2.heap.size (.slice ta3 N tc3) N PVh Lh Kh Xh) := HOh5.out.below hb6
  have HW6 : Hid (Below w.heap.size w w6) := grw HW5.out hb6
  clear hs6 hb6 hown hvals hfix hm hpq HG5 HH5 HOg5 HOh5 HW5 a0 a1 a2 a3 a4 b0 b1 b2 b3 b4
  obtain ⟨a0, a1, a2, a3, a4, _⟩ := cells5 HG6.out
  obtain ⟨b0, b1, b2, b3, b4, _⟩ := cells5 HH6.out
  have has := specApart_any f u x ta ta3 n tc _ _ N tc3 _ _ _ _ L _ _ _ Lh _ _ _ K X Kh Xh w6 (by omega) (by omega) HFI.out.small HFH.out.small HOg6.out.tabs.2 HOh6.out.tabs.2
  go_wp2_with fail
  refine has.mono ?_
  clear has
  rintro e w7 ⟨hs7, hb7⟩
  obtain ⟨v7, rfl, hown7⟩ := HFIX.out.spec _ _ _ hs7
  obtain ⟨pa7, pc7, rfl, _⟩ := owns_form hown7
  have hvals7 := (way_vals hown7).2
  rw [HM.out] at hvals7 ⊢
  have hwv := wVals_same pa pa7 m pc pc7 pq 0 _ 0 (lsF ans) w7 (by omega) (HV6.out.below hb7) hvals7
  have HV7 : Hid (ValsAt w7 pa m pq 0 (lsF ans)) := HV6.out.below hb7
  have HG7 : Hid (OutB w7 gb u (.slice ta n tc)) := blkB HG6.out hb7
  have HH7 : Hid (OutB w7 hb_ x (.slice ta3 N tc3)) := blkB HH6.out hb7
  have HOg7 : Hid (OTab w7 base (.slice ta n tc) n PV L K X) := HOg6.out.below hb7
  have HOh7 : Hid (OTab w7 w2.heap.size (.slice ta3 N tc3) N PVh Lh Kh Xh) := HOh6.out.below hb7
  have HW7 : Hid (Below w.heap.size w w7) := grw HW6.out hb7
  clear hs7 hb7 hown7 hvals7 HG6 HH6 HOg6 HOh6 HW6 HV6 a0 a1 a2 a3 a4 b0 b1 b2 b3 b4
  go_wp2_with fail
  refine hwv.mono ?_
  clear hwv
  rintro e w8 ⟨rfl, hb8⟩
  have HV8 : Hid (ValsAt w8 pa m pq 0 (lsF ans)) := HV7.out.below hb8
  have HG8 : Hid (OutB w8 gb u (.slice ta n tc)) := blkB HG7.out hb8
  have HH8 : Hid (OutB w8 hb_ x (.slice ta3 N tc3)) := blkB HH7.out hb8
  have HOg8 : Hid (OTab w8 base (.slice ta n tc) n PV L K X) := HOg7.out.below hb8
  have HOh8 : Hid (OTab w8 w2.heap.size (.slice ta3 N tc3) N PVh Lh Kh Xh) := HOh7.out.below hb8
  have HW8 : Hid (Below w.heap.size w w8) := grw HW7.out hb8
  clear hb8 HG7 HH7 HOg7 HOh7 HW7 HV7
  obtain ⟨b0, b1, b2, b3, b4, _⟩ := cells5 HH8.out
  have hgo := specOk_any x ta3 N tc3 _ _ _ Lh _ _ _ Kh Xh w8 (by omega) HFH.out.small HOh8.out.tabs.2
  go_wp2_with fail
  refine hgo.mono ?_
  clear hgo
  rintro e w9 ⟨⟨b, rfl, hbo⟩, hb9⟩
  have HV9 : Hid (ValsAt w9 pa m pq 0 (lsF ans)) := HV8.out.below hb9
  have HG9 : Hid (OutB w9 gb u (.slice ta n tc)) := blkB HG8.out hb9
  have HH9 : Hid (OutB w9 hb_ x (.slice ta3 N tc3)) := blkB HH8.out hb9
  have HOg9 : Hid (OTab w9 base (.slice ta n tc) n PV L K X) := HOg8.out.below hb9
  have HOh9 : Hid (OTab w9 w2.heap.size (.slice ta3 N tc3) N PVh Lh Kh Xh) := HOh8.out.below hb9
  have HW9 : Hid (Below w.heap.size w w9) := grw HW8.out hb9
  clear hb9 HG8 HH8 HOg8 HOh8 HW8 HV8 b0 b1 b2 b3 b4
  cases b
  · have hans := HFIX.out.none (fun h => by have := hbo.2 h; cases this)
    have hm0 : m = 0 := by rw [← HM.out, hans]; rfl
    subst hm0
    clear hbo hans
    go_wp2
    go_ret
    exact ⟨rfl, HW9.out⟩
  have HOH : Hid (OkG N x Lh Kh Xh) := hbo.1 rfl
  clear hbo
  obtain ⟨hcls, hdone⟩ := HFIX.out.both HOH.out
  have HCL : Hid (ClsAre (n + N) (jn n L Lh) (jn n K Kh) (jn n X (fun j c => sh n (Xh j c))) f) := hcls
  have HDN : Hid (Aw.IDone (Aw.sysOf n L K X Lh Kh Xh f) ⟨u, x, []⟩ ans) := hdone
  clear hcls hdone
  obtain ⟨a0, a1, a2, a3, a4, _⟩ := cells5 HG9.out
  obtain ⟨b0, b1, b2, b3, b4, _⟩ := cells5 HH9.out
  have hsm := implSame_any u x ta ta3 n tc _ _ N tc3 _ _ _ _ L _ _ _ Lh _ _ _ K X Kh Xh w9 (by omega) (by omega) HFI.out.small HFH.out.small HOg9.out.tabs.2 HOh9.out.tabs.2
  go_wp2_with fail
  refine hsm.mono ?_
  clear hsm
  rintro e w10 ⟨hs10, hb10⟩
  have hsame : e = .returned (.bool (alike f u (sh n x))) := by
    rcases hs10 with ⟨_, f2, hf2, rfl⟩ | ⟨hno, _⟩
    · rw [alike_congr (fun i hi => hf2.uniqT (okT_join HOK.out HOH.out) HCL.out hi) (isV_more HOK.out.root) (sh_isV HOH.out.root)]
    · exact absurd ⟨HOK.out, HOH.out⟩ hno
  subst hsame
  have HV10 : Hid (ValsAt w10 pa m pq 0 (lsF ans)) := HV9.out.below hb10
  have HG10 : Hid (OutB w10 gb u (.slice ta n tc)) := blkB HG9.out hb10
  have HH10 : Hid (OutB w10 hb_ x (.slice ta3 N tc3)) := blkB HH9.out hb10
  have HOg10 : Hid (OTab w10 base (.slice ta n tc) n PV L K X) := HOg9.out.below hb10
  have HOh10 : Hid (OTab w10 w2.heap.size (.slice ta3 N tc3) N PVh Lh Kh Xh) := HOh9.out.below hb10
  have HW10 : Hid (Below w.heap.size w w10) := grw HW9.out hb10
  clear hs10 hb10 HG9 HH9 HOg9 HOh9 HW9 HV9 a0 a1 a2 a3 a4 b0 b1 b2 b3 b4
  obtain ⟨bs, hbs⟩ : ∃ bs, alike f u (sh n x) = bs := ⟨_, rfl⟩
  rw [hbs]
  cases bs
  case true =>
    have hans := Aw.IDone.same HOH.out HDN.out hbs
    have hm0 : m = 0 := by rw [← HM.out, hans]; rfl
    subst hm0
    clear hbs hans
    go_wp2
    go_ret
    exact ⟨rfl, HW10.out⟩
  case false =>
    have hparts := Aw.IDone.parts HOK.out HOH.out HCL.out HDN.out hbs
    clear hbs
    obtain ⟨va, hva⟩ : ∃ va, ans.foldl (step L K X) u = va := ⟨_, rfl⟩
    obtain ⟨vb, hvb⟩ : ∃ vb, ans.foldl (step Lh Kh Xh) x = vb := ⟨_, rfl⟩
    rw [hva, hvb] at hparts
    have HVA : Hid (ans.foldl (step L K X) u = va) := hva
    have HVB : Hid (ans.foldl (step Lh Kh Xh) x = vb) := hvb
    have HPT : Hid (¬ (va.k = 4 ∧ vb.k = 4) ∧ va ≠ vb) := hparts
    clear hva hvb hparts
    obtain ⟨a0, a1, a2, a3, a4, _⟩ := cells5 HG10.out
    have hga := implGet_any u pa m pc pq 0 (lsF ans) ta n tc _ _ _ L _ _ _ K X w10 (by omega) (by omega) HFI.out.small HV10 HOg10.out.tabs.2
    go_wp2_with fail
    refine hga.mono ?_
    clear hga
    rintro e w11 ⟨hg11, hb11⟩
    rw [← HM.out] at hg11
    obtain rfl := (get_of HOK.out hg11)
    rw [HVA.out]
    obtain ⟨w12, hw12⟩ : ∃ w12, w12 = w11.alloc (.cells #[.int .i64 va.k, .int .i64 va.n, .string va.s, .int .i64 va.a] 24) := ⟨_, rfl⟩
    have hb12 : Below w11.heap.size w11 w12 := by rw [hw12]; exact (Below.refl _ _).alloc (Nat.le_refl _) _
    obtain ⟨ab, hab⟩ : ∃ ab, w11.heap.size = ab := ⟨_, rfl⟩
    have HA12 : Hid (ValB w12 ab va) := by rw [hw12, ← hab]; exact heap_alloc_new _ _
    have hbb := grw hb11 hb12
    have HV12 : Hid (ValsAt w12 pa m pq 0 (lsF ans)) := HV10.out.below hbb
    have HG12 : Hid (OutB w12 gb u (.slice ta n tc)) := blkB HG10.out hbb
    have HH12 : Hid (OutB w12 hb_ x (.slice ta3 N tc3)) := blkB HH10.out hbb
    have HOg12 : Hid (OTab w12 base (.slice ta n tc) n PV L K X) := HOg10.out.below hbb
    have HOh12 : Hid (OTab w12 w2.heap.size (.slice ta3 N tc3) N PVh Lh Kh Xh) := HOh10.out.below hbb
    have HW12 : Hid (Below w.heap.size w w12) := grw HW10.out hbb
    have hgb2 := implGet_any x pa m pc pq 0 (lsF ans) ta3 N tc3 _ _ _ Lh _ _ _ Kh Xh w12 (by omega) (by omega) HFH.out.small HV12 HOh12.out.tabs.2
    clear hg11 hb11 hb12 hbb HV10 HG10 HH10 HOg10 HOh10 HW10 a0 a1 a2 a3 a4
    go_upto_region 13 with fail
    rw [← hw12]
    try rw [hab]
    clear hw12
    obtain ⟨b0, b1, b2, b3, b4, _⟩ := cells5 HH12.out
    go_wp2_with fail
    refine hgb2.mono ?_
    clear hgb2
    rintro e w13 ⟨hg13, hb13⟩
    rw [← HM.out] at hg13
    obtain rfl := (get_of HOH.out hg13)
    rw [HVB.out]
    obtain ⟨w14, hw14⟩ : ∃ w14, w14 = w13.alloc (.cells #[.int .i64 vb.k, .int .i64 vb.n, .string vb.s, .int .i64 vb.a] 24) := ⟨_, rfl⟩
    have hb14 : Below w13.heap.size w13 w14 := by rw [hw14]; exact (Below.refl _ _).alloc (Nat.le_refl _) _
    obtain ⟨bb, hbb'⟩ : ∃ bb, w13.heap.size = bb := ⟨_, rfl⟩
    have HB14 : Hid (ValB w14 bb vb) := by rw [hw14, ← hbb']; exact heap_alloc_new _ _
    have hbb := grw hb13 hb14
    have HA14 : Hid (ValB w14 ab va) := blkB HA12.out hbb
    have HV14 : Hid (ValsAt w14 pa m pq 0 (lsF ans)) := HV12.out.below hbb
    have HG14 : Hid (OutB w14 gb u (.slice ta n tc)) := blkB HG12.out hbb
    have HH14 : Hid (OutB w14 hb_ x (.slice ta3 N tc3)) := blkB HH12.out hbb
    have HOg14 : Hid (OTab w14 base (.slice ta n tc) n PV L K X) := HOg12.out.below hbb
    have HOh14 : Hid (OTab w14 w2.heap.size (.slice ta3 N tc3) N PVh Lh Kh Xh) := HOh12.out.below hbb
    have HW14 : Hid (Below w.heap.size w w14) := grw HW12.out hbb
    clear hg13 hb13 hb14 hbb HV12 HG12 HH12 HOg12 HOh12 HW12 HA12 b0 b1 b2 b3 b4
    go_upto_region 14 with fail
    rw [← hw14]
    try rw [hbb']
    clear hw14
    have B14 : Below w14.heap.size w14 w14.drew := (Below.refl _ _).drew
    refine wp_region_held_drew (S := fun w' => (OutB w' gb u (.slice ta n tc) ∧ OutB w' hb_ x (.slice ta3 N tc3)) ∧ ValB w' ab va ∧ ValB w' bb vb) (by kernel_rfl) ⟨⟨HG14.out, HH14.out⟩, HA14.out, HB14.out⟩ (fun hHeld => ?_)
    refine wpAnyH_take (i := 0) (v := .agg #[.int .i64 va.k, .int .i64 va.n, .string va.s, .int .i64 va.a]) rfl (by kernel_rfl) (by kernel_rfl) (by kernel_rfl) (fun _ _ _ h => h) (Or.inl ⟨by rfl, fun w hSw => ?_⟩) hHeld ?_
    · obtain ⟨k0, k1, k2, k3, _⟩ := cells4 hSw.2.1
      go_simp
    simp only [Act.put, List.setIfInBounds_toArray, List.set_cons_zero, List.set_cons_succ, List.getElem_toArray, List.getElem_cons_zero]
    refine wpAnyH_take (i := 1) (v := .agg #[.int .i64 u.k, .int .i64 u.n, .string u.s, .int .i64 u.a, .slice ta n tc]) rfl (by kernel_rfl) (by kernel_rfl) (by kernel_rfl) (fun _ _ _ h => h) (Or.inl ⟨by rfl, fun w hSw => ?_⟩) hHeld ?_
    · obtain ⟨k0, k1, k2, k3, k4, _⟩ := cells5 hSw.1.1
      go_simp
    simp only [Act.put, List.setIfInBounds_toArray, List.set_cons_zero, List.set_cons_succ, List.getElem_toArray, List.getElem_cons_zero, List.getElem_cons_succ]
    refine wpAnyH_take (i := 2) (v := .slice pa m pc) rfl (by kernel_rfl) (by kernel_rfl) (by kernel_rfl) (fun _ _ _ h => h) (Or.inl ⟨by rfl, fun w hSw => ?_⟩) hHeld ?_
    · first | rfl | go_simp
    simp only [Act.put, List.setIfInBounds_toArray, List.set_cons_zero, List.set_cons_succ, List.getElem_toArray, List.getElem_cons_zero, List.getElem_cons_succ]
    refine wpAnyH_ready (rs := [3]) (by kernel_rfl) (by simp) ?_
    refine AllReadyH.cons rfl (fun K' hK' => ?_) AllReadyH.nil
    have hcl := specGet_any u pa m pc pq 0 (lsF ans) ta n tc _ _ _ L _ _ _ K X w14.drew (by omega) (by omega) HFI.out.small (HV14.out.below B14) (HOg14.out.below B14).tabs.2
    go_simp
    refine hcl.mono ?_
    clear hcl
    rintro e w15 ⟨hg15, hb15⟩
    rw [← HM.out] at hg15
    obtain rfl := (get_of HOK.out hg15)
    rw [HVA.out]
    have B15 := grw B14 hb15
    clear hg15
    refine hK'.out _ _ ⟨⟨blkB hHeld.1.1 hb15, blkB hHeld.1.2 hb15⟩, blkB hHeld.2.1 hb15, blkB hHeld.2.2 hb15⟩ (fun hHeld => ?_)
    clear hK'
    try simp only [Act.put, List.setIfInBounds_toArray, List.set_cons_zero, List.set_cons_succ, List.getElem_toArray, List.getElem_cons_zero, List.getElem_cons_succ]
    have hna := neqV_run va va
    rw [show eqV va va = true from eqV_iff.2 rfl] at hna
    refine wpAnyH_take (i := 4) (v := .bool false) rfl (by kernel_rfl) (by kernel_rfl) (by kernel_rfl) (fun _ _ _ h => h) (Or.inl ⟨by rfl, fun w hSw => ?_⟩) hHeld ?_
    · go_simp
    simp only [Act.put, List.setIfInBounds_toArray, List.set_cons_zero, List.set_cons_succ, List.getElem_toArray, List.getElem_cons_zero, List.getElem_cons_succ]
    refine wpAnyH_take (i := 5) (v := .bool false) rfl (by kernel_rfl) (by kernel_rfl) (by kernel_rfl) (fun _ _ _ h => h) (Or.inl ⟨by rfl, fun w hSw => ?_⟩) hHeld ?_
    · first | rfl | go_simp
    simp only [Act.put, List.setIfInBounds_toArray, List.set_cons_zero, List.set_cons_succ, List.getElem_toArray, List.getElem_cons_zero, List.getElem_cons_succ]
    refine wpAnyH_take (i := 6) (v := .agg #[.int .i64 vb.k, .int .i64 vb.n, .string vb.s, .int .i64 vb.a]) rfl (by kernel_rfl) (by kernel_rfl) (by kernel_rfl) (fun _ _ _ h => h) (Or.inl ⟨by rfl, fun w hSw => ?_⟩) hHeld ?_
    · obtain ⟨k0, k1, k2, k3, _⟩ := cells4 hSw.2.2
      go_simp
    simp only [Act.put, List.setIfInBounds_toArray, List.set_cons_zero, List.set_cons_succ, List.getElem_toArray, List.getElem_cons_zero, List.getElem_cons_succ]
    refine wpAnyH_take (i := 7) (v := .agg #[.int .i64 x.k, .int .i64 x.n, .string x.s, .int .i64 x.a, .slice ta3 N tc3]) rfl (by kernel_rfl) (by kernel_rfl) (by kernel_rfl) (fun _ _ _ h => h) (Or.inl ⟨by rfl, fun w hSw => ?_⟩) hHeld ?_
    · obtain ⟨k0, k1, k2, k3, k4, _⟩ := cells5 hSw.1.2
      go_simp
    simp only [Act.put, List.setIfInBounds_toArray, List.set_cons_zero, List.set_cons_succ, List.getElem_toArray, List.getElem_cons_zero, List.getElem_cons_succ]
    refine wpAnyH_take (i := 8) (v := .slice pa m pc) rfl (by kernel_rfl) (by kernel_rfl) (by kernel_rfl) (fun _ _ _ h => h) (Or.inl ⟨by rfl, fun w hSw => ?_⟩) hHeld ?_
    · go_simp
    simp only [Act.put, List.setIfInBounds_toArray, List.set_cons_zero, List.set_cons_succ, List.getElem_toArray, List.getElem_cons_zero, List.getElem_cons_succ]
    refine wpAnyH_ready (rs := [9]) (by kernel_rfl) (by simp) ?_
    refine AllReadyH.cons rfl (fun K' hK' => ?_) AllReadyH.nil
    have hcl := specGet_any x pa m pc pq 0 (lsF ans) ta3 N tc3 _ _ _ Lh _ _ _ Kh Xh w15 (by omega) (by omega) HFH.out.small (HV14.out.below B15) (HOh14.out.below B15).tabs.2
    go_simp
    refine hcl.mono ?_
    clear hcl
    rintro e w16 ⟨hg16, hb16⟩
    rw [← HM.out] at hg16
    obtain rfl := (get_of HOH.out hg16)
    rw [HVB.out]
    have B16 := grw B15 hb16
    clear hg16
    refine hK'.out _ _ ⟨⟨blkB hHeld.1.1 hb16, blkB hHeld.1.2 hb16⟩, blkB hHeld.2.1 hb16, blkB hHeld.2.2 hb16⟩ (fun hHeld => ?_)
    clear hK'
    try simp only [Act.put, List.setIfInBounds_toArray, List.set_cons_zero, List.set_cons_succ, List.getElem_toArray, List.getElem_cons_zero, List.getElem_cons_succ]
    have hnb := neqV_run vb vb
    rw [show eqV vb vb = true from eqV_iff.2 rfl] at hnb
    refine wpAnyH_take (i := 10) (v := .bool false) rfl (by kernel_rfl) (by kernel_rfl) (by kernel_rfl) (fun _ _ _ h => h) (Or.inl ⟨by rfl, fun w hSw => ?_⟩) hHeld ?_
    · go_simp
    simp only [Act.put, List.setIfInBounds_toArray, List.set_cons_zero, List.set_cons_succ, List.getElem_toArray, List.getElem_cons_zero, List.getElem_cons_succ]
    refine wpAnyH_take (i := 11) (v := .bool false) rfl (by kernel_rfl) (by kernel_rfl) (by kernel_rfl) (fun _ _ _ h => h) (Or.inl ⟨by rfl, fun w hSw => ?_⟩) hHeld ?_
    · go_simp
    simp only [Act.put, List.setIfInBounds_toArray, List.set_cons_zero, List.set_cons_succ, List.getElem_toArray, List.getElem_cons_zero, List.getElem_cons_succ]
    clear hHeld
    refine wpAnyH_done (by kernel_rfl) ?_ _
    have HA16 : Hid (ValB w16 ab va) := blkB HA14.out B16
    have HB16 : Hid (ValB w16 bb vb) := blkB HB14.out B16
    have HW16 : Hid (Below w.heap.size w w16) := grw HW14.out B16
    clear B14 B15 B16 hb15 hb16 HA14 HB14 HG14 HH14 HOg14 HOh14 HW14 HV14 hna hnb
    obtain ⟨c0, c1, c2, c3, _⟩ := cells4 HA16.out
    obtain ⟨d0, d1, d2, d3, _⟩ := cells4 HB16.out
    have hne := neqV_run va vb
    have hnv : eqV va vb = false := by
      cases h : eqV va vb with
      | false => rfl
      | true => exact absurd (eqV_iff.1 h) HPT.out.2
    rw [hnv] at hne
    by_cases ka : va.k = 4
    · have kab : (va.k == 4) = true := by simp [ka]
      have kbb : (vb.k == 4) = false := by
        have := HPT.out.1
        simp
        exact fun h => this ⟨ka, h⟩
      have kdd : (va.k == vb.k) = false := by
        simp at kbb ⊢
        omega
      have kdn : (va.k != vb.k) = true := by simp [bne, kdd]
      clear ka
      go_wp2
      go_ret
      exact ⟨rfl, HW16.out⟩
    · have kab : (va.k == 4) = false := by simpa using ka
      clear ka
      by_cases kd : va.k = vb.k
      · have kdd : (va.k == vb.k) = true := by simp [kd]
        have kdn : (va.k != vb.k) = false := by simp [kd]
        clear kd
        go_wp2
        go_ret
        exact ⟨rfl, HW16.out⟩
      · have kdd : (va.k == vb.k) = false := by simpa using kd
        have kdn : (va.k != vb.k) = true := by simpa using kd
        clear kd
        go_wp2
        go_ret
        exact ⟨rfl, HW16.out⟩

end Go.Proofs.Ytgflalfiopnmnaa

namespace Go.Proofs.Ytgflalfiopnmnaa
open Go.RowKit Vl
open Go.ChangeShapes Go.WideShapes Go.ChangeAt

set_option maxRecDepth 100000 in
theorem apart2_holds_lifted (os : Os) (started : os.Started) (H : Type) (enc : TypeId × Value → H) :
    ReturnsInHanded {} Try.checked os 4 .any (Rows.fnApartSpec.pre6 enc Try.prog Try.f4 Rows.fnApartRow.domain false) (Rows.fnApartSpec.post enc Try.prog Try.f4 false true false false) := by
  refine returnsInHanded_of_change (C := Try.checked) ownK started (by kernel_rfl) Try.func4
    (ChangeSpec.witness6 (enc := enc) (C := Try.checked) false ⟨#[], #[.slice none 0 0, .slice none 0 0], []⟩ 8 (by kernel_rfl) (by kernel_rfl) (by kernel_rfl) (by kernel_rfl)) ?_
  intro W base args ds gs before hval0 hW hcnd _
  have hval : ∀ (j : Nat) t v, Try.f4.params[j]? = some t → args[j]? = some v → Value.okWide Try.prog W .any base t v := hval0
  have hW' := hW
  obtain ⟨p, q, hA0, hV, rfl, hfz, hnd⟩ := hW
  have hA : DataW.TrodAll enc Try.prog W 0 (fun _ => true) true Try.f4.params.toList args.toList ds p := hA0
  rw [Try.params4] at hA hval
  obtain ⟨v0, vs0, d0, ds0, p0, q0, hargs, rfl, rfl, h0, r0⟩ := trodAll_cons hA
  obtain ⟨v1, vs1, d1, ds1, p1, q1, hargs1, rfl, rfl, h1, r1⟩ := trodAll_cons r0
  obtain ⟨rfl, rfl, rfl⟩ := trodAll_nil r1
  subst hargs1
  obtain rfl : args = #[v0, v1] := by cases args; simp_all
  obtain ⟨rfl, rfl⟩ := trodVars_none hV
  obtain ⟨a0, len0, cap0, rfl⟩ := okWide_slice Try.underlying22 (hval 0 22 v0 rfl rfl)
  obtain ⟨a1, len1, cap1, rfl⟩ := okWide_slice Try.underlying22 (hval 1 22 v1 rfl rfl)
  have k0 := h0
  have k1 := h1
  have lt0 : ∀ x ∈ p0, x.block < W.heap.size := by obtain ⟨m, hm⟩ := k0; exact DataW.trod_lt m _ _ _ hm
  have lt1 : ∀ x ∈ p1, x.block < W.heap.size := by obtain ⟨m, hm⟩ := k1; exact DataW.trod_lt m _ _ _ hm
  obtain ⟨b, off, hB⟩ : ∃ b off, ByteR W a0 len0 b off ∧ len0 ≤ 9223372036854775807 := by
    obtain ⟨fuel, hf⟩ := h0
    rcases open_ints Try.underlying22 Try.underlying5 Try.cellsU8 hf with ⟨hcs, _⟩ | ⟨x, l, c, zs, hcs, _, hl, hm, hz, _, hcell, hwz⟩
    · simp [Value.cells] at hcs
      obtain ⟨rfl, rfl, rfl⟩ := hcs
      exact ⟨0, 0, fun i hi => by omega, by omega⟩
    · simp [Value.cells] at hcs
      obtain ⟨rfl, rfl, rfl⟩ := hcs
      exact byteR_of hl hm (by simpa using hz) hcell hwz
  obtain ⟨b', off', hB'⟩ : ∃ b off, ByteR W a1 len1 b off ∧ len1 ≤ 9223372036854775807 := by
    obtain ⟨fuel, hf⟩ := h1
    rcases open_ints Try.underlying22 Try.underlying5 Try.cellsU8 hf with ⟨hcs, _⟩ | ⟨x, l, c, zs, hcs, _, hl, hm, hz, _, hcell, hwz⟩
    · simp [Value.cells] at hcs
      obtain ⟨rfl, rfl, rfl⟩ := hcs
      exact ⟨0, 0, fun i hi => by omega, by omega⟩
    · simp [Value.cells] at hcs
      obtain ⟨rfl, rfl, rfl⟩ := hcs
      exact byteR_of hl hm (by simpa using hz) hcell hwz
  clear hA0 hval0
  refine (apartLaw2 a0 len0 cap0 b off a1 len1 cap1 b' off' W hB.1 hB.2 hB'.1 hB'.2).mono fun e W' ⟨he, bel⟩ => ?_
  subst he
  exact ⟨_, rfl, _, _, _, [], _, [], hW', trodAll_mk1 (shut_bool Try.underlying4 _), (trodAll_cons_mk (Below.trod laidOutK (by kernel_rfl) (of_decide_eq_true (by kernel_rfl)) k0 bel lt0) (trodAll_cons_mk (Below.trod laidOutK (by kernel_rfl) (of_decide_eq_true (by kernel_rfl)) k1 bel lt1) trodAll_mk0)), rfl, bel.frame _, fun h => by cases h⟩

theorem apart2_holds : Rows.FnApartSaid :=
  OpenClaim.holds_of_wide 4 Try.f4 rfl rfl rfl rfl rfl rfl rfl ⟨rfl, rfl, rfl, rfl, rfl⟩ rfl rfl rfl rfl rfl (by kernel_rfl) Try.func4 (by kernel_rfl)
    (of_decide_eq_true (by kernel_rfl)) (by unfold Func.isWrapper; first | (rw [if_pos (by decide +kernel)]; kernel_rfl) | (rw [if_neg (by decide +kernel)]; exact ⟨rfl, rfl⟩))
    (fun os started H enc _ => apart2_holds_lifted os started H enc)
#print axioms apart2_holds

end Go.Proofs.Ytgflalfiopnmnaa
